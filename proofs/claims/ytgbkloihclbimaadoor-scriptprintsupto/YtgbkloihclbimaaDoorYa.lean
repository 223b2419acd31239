/- Layer 22: the document's Same of commands that are the same. -/
import Derived.Test.YtgbkloihclbimaaDoorWz
namespace Go.Proofs.YtgbkloihclbimaaDoor
set_option maxRecDepth 100000
set_option linter.unusedVariables false
set_option linter.unusedSimpArgs false
open Go.RowKit
attribute [local go_sem ↓] Go.wp_at_zero Go.wp_at_succ
theorem range_cells {w : World} {b o : Nat} {r : Cr} (h : w.rangeAt b o (ccl r)) : ∀ j v, (ccl r)[j]? = some v → w.cell? ⟨b, o + j, none⟩ = some v := fun j v hv => h j v hv
set_option maxHeartbeats 4000000 in
theorem same_eq (L L' : List Cr) (hLL : L.map (·.c) = L'.map (·.c)) (la la' : Option Addr) (lc lc' : Nat) (w : World) (hL : CT w la L) (hL' : CT w la' L') (hn : L.length ≤ 4611686018427387904) (hm : ∀ r ∈ L, r.c.st.mt.length ≤ 4611686018427387904 ∧ r.c.st.kept.length ≤ 4611686018427387904) :
    Calls Tryd.prog 15 #[.slice la L.length lc, .slice la' L'.length lc'] w fun e w' => e = .returned (.bool true) ∧ Below w.heap.size w w' := by
  have hlen : L.length = L'.length := by have := congrArg List.length hLL; simpa using this
  have HL := Hid.mk hL
  have HL' := Hid.mk hL'
  have HN := Hid.mk hn
  have HLL := Hid.mk hLL
  rw [← hlen]
  have HE := Hid.mk hlen
  clear hL hL' hn hLL hlen
  go_enter Tryd.func15, Tryd.ntmps15
  go_wp2_with fail
  go_loopw [5] (fun i wr => ∃ k : Nat, k ≤ L.length ∧ i = .int .i64 (k : Int) ∧ Hid (Below w.heap.size w wr)) (fun i _ => L.length - (intOf i).toNat)
  case atStart => exact ⟨0, Nat.zero_le _, rfl, ⟨Below.refl _ _⟩⟩
  case round =>
    obtain ⟨k, hk, rfl, HB⟩ := hrel
    by_cases h1 : k < L.length
    · have d1 : decide ((k : Int) < (L.length : Int)) = true := decide_eq_true (Int.ofNat_lt.2 h1)
      have k0 : (0 : Int) ≤ (k : Int) := Int.natCast_nonneg k
      have k1 : (k : Int) < (L.length : Int) := Int.ofNat_lt.2 h1
      obtain ⟨r, hr⟩ : ∃ r, L[k]? = some r := ⟨_, List.getElem?_eq_getElem h1⟩
      obtain ⟨r2, hr2⟩ : ∃ r2, L'[k]? = some r2 := ⟨_, List.getElem?_eq_getElem (by rw [← HE.out]; exact h1)⟩
      have hcc : r.c = r2.c := by
        have e1 : (L.map (·.c))[k]? = some r.c := by rw [List.getElem?_map, hr]; rfl
        have e2 : (L'.map (·.c))[k]? = some r2.c := by rw [List.getElem?_map, hr2]; rfl
        rw [HLL.out, e2] at e1
        exact (Option.some.inj e1).symm
      obtain ⟨hm1, hm2⟩ := hm r (List.mem_of_getElem? hr)
      obtain ⟨b, off, ea, hb, hrg, hsl, hsi⟩ := (HL.out.later HB.out) k r hr
      obtain ⟨b2, off2, ea2, hb2, hrg2, hsl2, hsi2⟩ := (HL'.out.later HB.out) k r2 hr2
      obtain ⟨x, ma, mc, ka, kc⟩ := r
      obtain ⟨y, ma2, mc2, ka2, kc2⟩ := r2
      dsimp only at hcc hm1 hm2 hsl hsi hsl2 hsi2
      subst hcc
      have hst := sameStep_eq x wr.drew ma mc ka kc ma2 mc2 ka2 kc2 (hsl.at'.later (Below.refl _ _).drew) (hsi.later (Below.refl _ _).drew) (hsl2.at'.later (Below.refl _ _).drew) (hsi2.later (Below.refl _ _).drew) hm1 hm2
      have XC : Hid (∀ w', Below wr.heap.size wr w' → Below wr.heap.size wr w' ∧ w'.cell? ⟨b, off + k * 12, none⟩ = some (.int .i64 x.kind) ∧ w'.cell? ⟨b, off + k * 12 + 1, none⟩ = some (.int .i64 x.sectors) ∧ w'.cell? ⟨b, off + k * 12 + 2, none⟩ = some (.int .i64 x.size) ∧ w'.cell? ⟨b, off + k * 12 + 3, none⟩ = some (.int .i64 x.st.kind) ∧ w'.cell? ⟨b, off + k * 12 + 4, none⟩ = some (str x.st.bucket) ∧ w'.cell? ⟨b, off + k * 12 + 5, none⟩ = some (str x.st.key) ∧ w'.cell? ⟨b, off + k * 12 + 6, none⟩ = some (str x.st.data) ∧ w'.cell? ⟨b, off + k * 12 + 7, none⟩ = some (.slice ma x.st.mt.length mc) ∧ w'.cell? ⟨b, off + k * 12 + 8, none⟩ = some (.int .i64 x.st.seq) ∧ w'.cell? ⟨b, off + k * 12 + 9, none⟩ = some (.int .i64 x.st.n) ∧ w'.cell? ⟨b, off + k * 12 + 10, none⟩ = some (.slice ka x.st.kept.length kc) ∧ w'.cell? ⟨b, off + k * 12 + 11, none⟩ = some (str x.bucket) ∧ w'.cell? ⟨b2, off2 + k * 12, none⟩ = some (.int .i64 x.kind) ∧ w'.cell? ⟨b2, off2 + k * 12 + 1, none⟩ = some (.int .i64 x.sectors) ∧ w'.cell? ⟨b2, off2 + k * 12 + 2, none⟩ = some (.int .i64 x.size) ∧ w'.cell? ⟨b2, off2 + k * 12 + 3, none⟩ = some (.int .i64 x.st.kind) ∧ w'.cell? ⟨b2, off2 + k * 12 + 4, none⟩ = some (str x.st.bucket) ∧ w'.cell? ⟨b2, off2 + k * 12 + 5, none⟩ = some (str x.st.key) ∧ w'.cell? ⟨b2, off2 + k * 12 + 6, none⟩ = some (str x.st.data) ∧ w'.cell? ⟨b2, off2 + k * 12 + 7, none⟩ = some (.slice ma2 x.st.mt.length mc2) ∧ w'.cell? ⟨b2, off2 + k * 12 + 8, none⟩ = some (.int .i64 x.st.seq) ∧ w'.cell? ⟨b2, off2 + k * 12 + 9, none⟩ = some (.int .i64 x.st.n) ∧ w'.cell? ⟨b2, off2 + k * 12 + 10, none⟩ = some (.slice ka2 x.st.kept.length kc2) ∧ w'.cell? ⟨b2, off2 + k * 12 + 11, none⟩ = some (str x.bucket)) := ⟨fun w' hbw => by
        have C1 : ∀ j v, (ccl ⟨x, ma, mc, ka, kc⟩)[j]? = some v → w'.cell? ⟨b, off + k * 12 + j, none⟩ = some v := fun j v hv => by rw [hbw.cell (p := ⟨b, off + k * 12 + j, none⟩) hb]; exact hrg j v hv
        have C2 : ∀ j v, (ccl ⟨x, ma2, mc2, ka2, kc2⟩)[j]? = some v → w'.cell? ⟨b2, off2 + k * 12 + j, none⟩ = some v := fun j v hv => by rw [hbw.cell (p := ⟨b2, off2 + k * 12 + j, none⟩) hb2]; exact hrg2 j v hv
        exact ⟨hbw, C1 0 _ rfl, C1 1 _ rfl, C1 2 _ rfl, C1 3 _ rfl, C1 4 _ rfl, C1 5 _ rfl, C1 6 _ rfl, C1 7 _ rfl, C1 8 _ rfl, C1 9 _ rfl, C1 10 _ rfl, C1 11 _ rfl, C2 0 _ rfl, C2 1 _ rfl, C2 2 _ rfl, C2 3 _ rfl, C2 4 _ rfl, C2 5 _ rfl, C2 6 _ rfl, C2 7 _ rfl, C2 8 _ rfl, C2 9 _ rfl, C2 10 _ rfl, C2 11 _ rfl⟩⟩
      have hw1 : Hid (wrap64 ((k : Int) + 1) = ((k + 1 : Nat) : Int)) := ⟨wr_succ (Nat.le_trans hk HN.out)⟩
      subst ea ea2
      clear hr hr2 hrg hrg2 hsl hsi hsl2 hsi2 hm1 hm2 hb hb2
      go_wp2_with fail
      go_region_held3 (fun w' => Below wr.heap.size wr w' ∧ w'.cell? ⟨b, off + k * 12, none⟩ = some (.int .i64 x.kind) ∧ w'.cell? ⟨b, off + k * 12 + 1, none⟩ = some (.int .i64 x.sectors) ∧ w'.cell? ⟨b, off + k * 12 + 2, none⟩ = some (.int .i64 x.size) ∧ w'.cell? ⟨b, off + k * 12 + 3, none⟩ = some (.int .i64 x.st.kind) ∧ w'.cell? ⟨b, off + k * 12 + 4, none⟩ = some (str x.st.bucket) ∧ w'.cell? ⟨b, off + k * 12 + 5, none⟩ = some (str x.st.key) ∧ w'.cell? ⟨b, off + k * 12 + 6, none⟩ = some (str x.st.data) ∧ w'.cell? ⟨b, off + k * 12 + 7, none⟩ = some (.slice ma x.st.mt.length mc) ∧ w'.cell? ⟨b, off + k * 12 + 8, none⟩ = some (.int .i64 x.st.seq) ∧ w'.cell? ⟨b, off + k * 12 + 9, none⟩ = some (.int .i64 x.st.n) ∧ w'.cell? ⟨b, off + k * 12 + 10, none⟩ = some (.slice ka x.st.kept.length kc) ∧ w'.cell? ⟨b, off + k * 12 + 11, none⟩ = some (str x.bucket) ∧ w'.cell? ⟨b2, off2 + k * 12, none⟩ = some (.int .i64 x.kind) ∧ w'.cell? ⟨b2, off2 + k * 12 + 1, none⟩ = some (.int .i64 x.sectors) ∧ w'.cell? ⟨b2, off2 + k * 12 + 2, none⟩ = some (.int .i64 x.size) ∧ w'.cell? ⟨b2, off2 + k * 12 + 3, none⟩ = some (.int .i64 x.st.kind) ∧ w'.cell? ⟨b2, off2 + k * 12 + 4, none⟩ = some (str x.st.bucket) ∧ w'.cell? ⟨b2, off2 + k * 12 + 5, none⟩ = some (str x.st.key) ∧ w'.cell? ⟨b2, off2 + k * 12 + 6, none⟩ = some (str x.st.data) ∧ w'.cell? ⟨b2, off2 + k * 12 + 7, none⟩ = some (.slice ma2 x.st.mt.length mc2) ∧ w'.cell? ⟨b2, off2 + k * 12 + 8, none⟩ = some (.int .i64 x.st.seq) ∧ w'.cell? ⟨b2, off2 + k * 12 + 9, none⟩ = some (.int .i64 x.st.n) ∧ w'.cell? ⟨b2, off2 + k * 12 + 10, none⟩ = some (.slice ka2 x.st.kept.length kc2) ∧ w'.cell? ⟨b2, off2 + k * 12 + 11, none⟩ = some (str x.bucket)) (first
        | (with_reducible exact XC.out _ (Below.refl _ _).drew)
        | (with_reducible exact XC.out _ (below_seq (Below.refl _ _).drew b1))) ((go_at_call 28; with_reducible refine Calls.mono hst ?_; rintro e w1 ⟨rfl, b1⟩))
      all_goals go_wp2_with fail
      all_goals rw [hw1.out]
      all_goals exact ⟨⟨k + 1, h1, rfl, ⟨below_seq HB.out (below_seq (Below.refl _ _).drew b1)⟩⟩, meas_succ h1⟩
    · have d1 : decide ((k : Int) < (L.length : Int)) = false := decide_eq_false (fun q => h1 (Int.ofNat_lt.1 q))
      have d2 : decide (k < L.length) = false := decide_eq_false h1
      clear h1
      go_wp2_with fail
      go_ret
      exact ⟨rfl, HB.out⟩
end Go.Proofs.YtgbkloihclbimaaDoor
