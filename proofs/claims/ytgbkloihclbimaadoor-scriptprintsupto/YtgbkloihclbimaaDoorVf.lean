/- Layer 22: the document's Print (written by mkVf.py). -/
import Derived.Test.YtgbkloihclbimaaDoorGf
import Derived.Test.YtgbkloihclbimaaDoorGc
import Derived.Test.YtgbkloihclbimaaDoorGb
namespace Go.Proofs.YtgbkloihclbimaaDoor
set_option maxRecDepth 100000
set_option linter.unusedVariables false
set_option linter.unusedSimpArgs false
open Go.RowKit
attribute [local go_sem ↓] Go.wp_at_zero Go.wp_at_succ ad9 ldQe
def txL (L : List Cr) : By := L.flatMap (fun r => lineL r.c ++ [10])
theorem txL_step {L : List Cr} {k : Nat} {r : Cr} (h : L[k]? = some r) : txL (L.take (k + 1)) = txL (L.take k) ++ (lineL r.c ++ [10]) := by
  unfold txL
  rw [List.take_add_one, h, List.flatMap_append]
  simp
theorem txL_le (L : List Cr) (k : Nat) : (txL (L.take k)).length ≤ (txL L).length := by
  have e : txL L = txL (L.take k) ++ txL (L.drop k) := by unfold txL; rw [← List.flatMap_append, List.take_append_drop]
  rw [e, List.length_append]; omega
theorem txL_F : ∀ {L : List Cr}, (∀ r ∈ L, kok r.c = true) → txL L = txF (L.map (·.c))
  | [], _ => rfl
  | r :: L, h => by
    have ih := txL_F (L := L) (fun x hx => h x (by simp [hx]))
    have e := lineL_eq r.c (h r (by simp))
    unfold txL txF txtF at ih ⊢
    rw [List.flatMap_cons, ih, e, List.map_cons, List.map_cons, List.flatMap_cons]
theorem prE_bad9 {M : List Cm} (h : noSh M = true) : prE M = 110 ∧ prT M = [] := by unfold prE prT; rw [h]; exact ⟨rfl, rfl⟩
theorem no_sh9 {L : List Cr} (h : ∀ r ∈ L, kok r.c = true) : noSh (L.map (·.c)) = false := by
  unfold noSh
  refine List.any_eq_false.2 fun c hc => ?_
  obtain ⟨r, hr, rfl⟩ := List.mem_map.1 hc
  have := h r hr
  rw [kok_sh] at this
  cases hq : shpOf r.c with
  | none => rw [hq] at this; cases this
  | some s => simp
theorem yes_sh9 {L : List Cr} {r : Cr} (hr : r ∈ L) (h : kok r.c = false) : noSh (L.map (·.c)) = true := by
  unfold noSh
  refine List.any_eq_true.2 ⟨r.c, List.mem_map.2 ⟨r, hr, rfl⟩, ?_⟩
  rw [kok_sh] at h
  cases hq : shpOf r.c with
  | none => rfl
  | some s => rw [hq] at h; cases h
theorem pr_long {M : List Cm} (h : noSh M = false) (hl : isLongF (txF M) = true) : prE M = 3 ∧ prT M = [] := by
  have := (txt_same h).1
  rw [hl] at this
  unfold prE prT
  rw [h, this]; exact ⟨rfl, rfl⟩
theorem pr_ok {M : List Cm} (h : noSh M = false) (hl : isLongF (txF M) = false) : prE M = 0 ∧ prT M = txF M := by
  have h2 := txt_same h
  rw [hl] at h2
  unfold prE prT
  rw [h, h2.1]
  exact ⟨rfl, h2.2 rfl⟩
theorem long_of9 {t : By} (h : 65536 < t.length) : isLongF t = true := by unfold isLongF; rw [decide_eq_true h]; rfl
def QP (L : List Cr) (w : World) (e : Ending) (w' : World) : Prop := e = .returned (.tuple #[str (prT (L.map (·.c))), .int .i64 (prE (L.map (·.c)))]) ∧ Below w.heap.size w w'
theorem QP.bad {L : List Cr} {w w' : World} {r : Cr} (hr : r ∈ L) (h : kok r.c = false) (hb : Below w.heap.size w w') : QP L w (.returned (.tuple #[.string ⟨#[]⟩, .int .i64 110])) w' := by
  obtain ⟨a, b⟩ := prE_bad9 (yes_sh9 hr h)
  exact ⟨by rw [a, b], hb⟩
theorem QP.long {L : List Cr} {w w' : World} (h : ∀ r ∈ L, kok r.c = true) (hl : isLongF (txL L) = true) (hb : Below w.heap.size w w') : QP L w (.returned (.tuple #[.string ⟨#[]⟩, .int .i64 3])) w' := by
  rw [txL_F h] at hl
  obtain ⟨a, b⟩ := pr_long (no_sh9 h) hl
  exact ⟨by rw [a, b], hb⟩
theorem QP.good {L : List Cr} {w w' : World} (h : ∀ r ∈ L, kok r.c = true) (hl : isLongF (txL L) = false) (hb : Below w.heap.size w w') : QP L w (.returned (.tuple #[str (txL L), .int .i64 0])) w' := by
  have e := txL_F h
  rw [e] at hl
  obtain ⟨a, b⟩ := pr_ok (no_sh9 h) hl
  exact ⟨by rw [a, b, e], hb⟩
set_option maxHeartbeats 4000000 in
theorem qPrint_any (L : List Cr) (la : Option Addr) (lc : Nat) (w : World) (hL : CT w la L) (hn : L.length ≤ 170000000) (ok : ∀ r ∈ L, OkS r.c) (hT : TB w) : Calls Tryd.prog 7 #[.slice la L.length lc] w (QP L w) := by
  go_enter Tryd.func7, Tryd.ntmps7
  go_wp2_with fail
  go_loopw [4] (fun i wr => ∃ k : Nat, i = .int .i64 k ∧ k ≤ L.length ∧ wr = w ∧ Hid (∀ r ∈ L.take k, kok r.c = true)) (fun i _ => L.length - (intOf i).toNat)
  case atStart => exact ⟨0, rfl, Nat.zero_le _, rfl, ⟨by simp⟩⟩
  case round =>
    obtain ⟨k, rfl, hk, rfl, HK⟩ := hrel
    by_cases hlt : k < L.length
    · have d1 : decide ((k : Int) < (L.length : Int)) = true := decide_eq_true (Int.ofNat_lt.2 hlt)
      have k0 : (0 : Int) ≤ (k : Int) := Int.natCast_nonneg k
      have k1 : (k : Int) < (L.length : Int) := Int.ofNat_lt.2 hlt
      obtain ⟨r, hget⟩ : ∃ r, L[k]? = some r := ⟨_, List.getElem?_eq_getElem hlt⟩
      obtain ⟨b, off, ea, hb, hr, hsl, hsi⟩ := hL k r hget
      subst ea
      have hmem := List.mem_of_getElem? hget
      have HKN : Hid (kok r.c = false → QP L wr (.returned (.tuple #[.string ⟨#[]⟩, .int .i64 110])) wr) := ⟨fun hf => QP.bad hmem hf (Below.refl _ _)⟩
      have HN : Hid (kok r.c = true → ∀ r ∈ L.take (k + 1), kok r.c = true) := ⟨fun h x hx => by
        rw [List.take_add_one, hget] at hx
        rcases List.mem_append.1 hx with q | q
        · exact HK.out x q
        · rw [List.mem_singleton.1 q]; exact h⟩
      have q0 : wr.cell? ⟨b, off + k * 12, none⟩ = some (.int .i64 r.c.kind) := hr 0 _ rfl
      have q3 : wr.cell? ⟨b, off + k * 12 + 3, none⟩ = some (.int .i64 r.c.st.kind) := hr 3 _ rfl
      have HH : Hid (CT wr (some ⟨b, off, none⟩) L ∧ TB wr ∧ ∀ r ∈ L, OkS r.c) := ⟨hL, hT, ok⟩
      clear hL hT ok hget hmem hsl hsi hr HK
      by_cases hkk : 1 ≤ r.c.kind ∧ r.c.kind ≤ 5
      case neg =>
        have hf : Hid (kok r.c = false) := ⟨by simp [kok, hkk]⟩
        by_cases h1 : r.c.kind < 1
        · have t1 : decide (r.c.kind < 1) = true := decide_eq_true h1
          go_wp2_with fail
          refine bodyPost_ret (results_tmp2 rfl _ _ _) rfl ?_
          exact HKN.out hf.out
        · have t1 : decide (r.c.kind < 1) = false := decide_eq_false h1
          have t2 : decide ((5 : Int) < r.c.kind) = true := decide_eq_true (by omega)
          go_wp2_with fail
          refine bodyPost_ret (results_tmp2 rfl _ _ _) rfl ?_
          exact HKN.out hf.out
      case pos =>
        have t1 : decide (r.c.kind < 1) = false := decide_eq_false (by omega)
        have t2 : decide ((5 : Int) < r.c.kind) = false := decide_eq_false (by omega)
        by_cases e2 : r.c.kind = 2
        · have t3 : (r.c.kind == 2) = true := by simp [e2]
          by_cases hs1 : 1 ≤ r.c.st.kind ∧ r.c.st.kind ≤ 18
          · have hok : Hid (kok r.c = true) := ⟨by simp [kok, e2, hs1]⟩
            have t4 : decide (r.c.st.kind < 1) = false := decide_eq_false (by omega)
            have t5 : decide ((18 : Int) < r.c.st.kind) = false := decide_eq_false (by omega)
            clear e2 hkk hs1
            go_wp2_with fail
            refine ⟨⟨k + 1, rfl, hlt, by first | trivial | rfl, ⟨HN.out hok.out⟩⟩, ?_⟩
            show L.length - ((k : Int) + 1).toNat < L.length - ((k : Int)).toNat
            omega
          · have hf : Hid (kok r.c = false) := ⟨by simp [kok, e2, hs1]⟩
            by_cases h1 : r.c.st.kind < 1
            · have t4 : decide (r.c.st.kind < 1) = true := decide_eq_true h1
              clear e2 hkk hs1
              go_wp2_with fail
              refine bodyPost_ret (results_tmp2 rfl _ _ _) rfl ?_
              exact HKN.out hf.out
            · have t4 : decide (r.c.st.kind < 1) = false := decide_eq_false h1
              have t5 : decide ((18 : Int) < r.c.st.kind) = true := decide_eq_true (by omega)
              clear e2 hkk hs1
              go_wp2_with fail
              refine bodyPost_ret (results_tmp2 rfl _ _ _) rfl ?_
              exact HKN.out hf.out
        · have t3 : (r.c.kind == 2) = false := by simp [e2]
          have hok : Hid (kok r.c = true) := ⟨by simp [kok, hkk, e2]⟩
          clear e2 hkk
          go_wp2_with fail
          refine ⟨⟨k + 1, rfl, hlt, by first | trivial | rfl, ⟨HN.out hok.out⟩⟩, ?_⟩
          show L.length - ((k : Int) + 1).toNat < L.length - ((k : Int)).toNat
          omega
    · have d1 : decide ((k : Int) < (L.length : Int)) = false := decide_eq_false (fun q => hlt (Int.ofNat_lt.1 q))
      have d2 : decide (k < L.length) = false := decide_eq_false hlt
      have HOK : Hid (∀ r ∈ L, kok r.c = true) := ⟨by have h := HK.out; rw [show k = L.length by omega, List.take_length] at h; exact h⟩
      clear hlt hk HK
      have HCT := Hid.mk hL
      have HTB := Hid.mk hT
      have HOS := Hid.mk ok
      clear hL hT ok
      obtain ⟨w1, hw1⟩ : ∃ w1, w1 = wr := ⟨_, rfl⟩
      subst hw1
      go_wp2_with fail
      go_loopw [5, 6] (fun t i wr => ∃ k : Nat, i = .int .i64 k ∧ k ≤ L.length ∧ t = str (txL (L.take k)) ∧ Hid ((txL (L.take k)).length ≤ 65536) ∧ Hid (Below w1.heap.size w1 wr)) (fun _ i _ => L.length - (intOf i).toNat)
      case atStart => exact ⟨0, rfl, Nat.zero_le _, by simp [txL], ⟨by simp [txL]⟩, ⟨Below.refl _ _⟩⟩
      case round =>
        obtain ⟨k, rfl, hk, rfl, HTL, HB⟩ := hrel
        by_cases hlt : k < L.length
        · have d1 : decide ((k : Int) < (L.length : Int)) = true := decide_eq_true (Int.ofNat_lt.2 hlt)
          have k0 : (0 : Int) ≤ (k : Int) := Int.natCast_nonneg k
          have k1 : (k : Int) < (L.length : Int) := Int.ofNat_lt.2 hlt
          obtain ⟨r, hget⟩ : ∃ r, L[k]? = some r := ⟨_, List.getElem?_eq_getElem hlt⟩
          obtain ⟨b, off, ea, hb, hr, hsl, hsi⟩ := (HCT.out.later HB.out) k r hget
          subst ea
          have hmem := List.mem_of_getElem? hget
          have hok := HOK.out r hmem
          have hos := HOS.out r hmem
          have HN : Hid (txL (L.take (k + 1)) = txL (L.take k) ++ (lineL r.c ++ [10])) := ⟨txL_step hget⟩
          have HLONG : Hid (65536 < (txL (L.take (k + 1))).length → ∀ w', Below w1.heap.size w1 w' → QP L w1 (.returned (.tuple #[.string ⟨#[]⟩, .int .i64 3])) w') := ⟨fun h w' hb => QP.long HOK.out (long_of9 (Nat.lt_of_lt_of_le h (txL_le L (k + 1)))) hb⟩
          have hTl := HTL.out
          have XC : Hid (∀ w', Below wr.heap.size wr w' → w'.cell? ⟨b, off + k * 12, none⟩ = some (.int .i64 r.c.kind) ∧ w'.cell? ⟨b, off + k * 12 + 1, none⟩ = some (.int .i64 r.c.sectors) ∧ w'.cell? ⟨b, off + k * 12 + 2, none⟩ = some (.int .i64 r.c.size) ∧ w'.cell? ⟨b, off + k * 12 + 11, none⟩ = some (str r.c.bucket) ∧ (ldQ (.pointer (some ⟨b, off + k * 12 + 3, none⟩))).run Tryd.prog w' = .ok (.agg (sclR r)) w') := ⟨fun w' hw => by
            have key : ∀ j v, (ccl r)[j]? = some v → w'.cell? ⟨b, off + k * 12 + j, none⟩ = some v := fun j v hv => by
              rw [hw.cell (p := ⟨b, off + k * 12 + j, none⟩) hb]; exact hr j v hv
            exact ⟨key 0 _ rfl, key 1 _ rfl, key 2 _ rfl, key 11 _ rfl, run_ldQm (range_step (fun j v hv => key j v hv))⟩⟩
          obtain ⟨q0, q1, q2, q11, hld⟩ := XC.out _ (Below.refl _ _)
          have HTr := Hid.mk (HTB.out.below HB.out)
          generalize hT0 : txL (L.take k) = T at *
          clear hget hr hmem HTL hT0
          have hkk : 1 ≤ r.c.kind ∧ r.c.kind ≤ 5 := by simp [kok] at hok; omega
          by_cases e1 : r.c.kind = 1
          · have t1 : (r.c.kind == 1) = true := by simp [e1]
            have HL : Hid (T ++ [119, 111, 114, 108, 100, 32] ++ Lib.itoa r.c.sectors ++ [32] ++ Lib.itoa r.c.size ++ [10] = txL (L.take (k + 1))) := ⟨by rw [HN.out]; unfold lineL; rw [if_pos e1]; simp⟩
            have i1 := itoa_le hos.ok.a
            have i2 := itoa_le hos.ok.b
            have r1 : Hid (∀ w', Below wr.heap.size wr w' → Calls Tryd.prog 19 #[.int .i64 r.c.sectors] w' fun e w'' => e = .returned (str (Lib.itoa r.c.sectors)) ∧ Below w'.heap.size w' w'') := ⟨fun w' h => itoa_any _ hos.ok.a w' (HTr.out.below h)⟩
            have r2 : Hid (∀ w', Below wr.heap.size wr w' → Calls Tryd.prog 19 #[.int .i64 r.c.size] w' fun e w'' => e = .returned (str (Lib.itoa r.c.size)) ∧ Below w'.heap.size w' w'') := ⟨fun w' h => itoa_any _ hos.ok.b w' (HTr.out.below h)⟩
            generalize Lib.itoa r.c.sectors = ya at *
            generalize Lib.itoa r.c.size = yb at *
            have a1 : ∀ w, (adS (str T) (.string ⟨#[119, 111, 114, 108, 100, 32]⟩)).run Tryd.prog w = .ok (str (T ++ [119, 111, 114, 108, 100, 32])) w := fun w => run_ad T [119, 111, 114, 108, 100, 32] (by simp; omega) w
            have a2 := run_ad (T ++ [119, 111, 114, 108, 100, 32]) ya (by simp; omega)
            have a3 := run_ad1 (T ++ [119, 111, 114, 108, 100, 32] ++ ya) (by simp; omega)
            have a4 := run_ad (T ++ [119, 111, 114, 108, 100, 32] ++ ya ++ [32]) yb (by simp; omega)
            have a5 : ∀ w, (adS (str (T ++ [119, 111, 114, 108, 100, 32] ++ ya ++ [32] ++ yb)) (.string ⟨#[10]⟩)).run Tryd.prog w = .ok (str (T ++ [119, 111, 114, 108, 100, 32] ++ ya ++ [32] ++ yb ++ [10])) w := fun w => run_ad _ [10] (by simp; omega) w
            generalize T ++ [119, 111, 114, 108, 100, 32] ++ ya ++ [32] ++ yb ++ [10] = T5 at *
            generalize T ++ [119, 111, 114, 108, 100, 32] ++ ya ++ [32] ++ yb = T4 at *
            generalize T ++ [119, 111, 114, 108, 100, 32] ++ ya ++ [32] = T3 at *
            generalize T ++ [119, 111, 114, 108, 100, 32] ++ ya = T2 at *
            generalize T ++ [119, 111, 114, 108, 100, 32] = T1 at *
            have XW : Hid (∀ w', Below wr.heap.size wr w' → Below wr.heap.size wr w' ∧ w'.cell? ⟨b, off + k * 12 + 1, none⟩ = some (.int .i64 r.c.sectors) ∧ w'.cell? ⟨b, off + k * 12 + 2, none⟩ = some (.int .i64 r.c.size)) := ⟨fun w' h => ⟨h, (XC.out w' h).2.1, (XC.out w' h).2.2.1⟩⟩
            clear hkk e1 hok hos hsl hsi hld q11 i1 i2 HN
            go_wp2_with fail
            clear q0 q1 q2
            go_region_held3 (fun w' => Below wr.heap.size wr w' ∧ w'.cell? ⟨b, off + k * 12 + 1, none⟩ = some (.int .i64 r.c.sectors) ∧ w'.cell? ⟨b, off + k * 12 + 2, none⟩ = some (.int .i64 r.c.size)) (first
              | (with_reducible exact XW.out _ (Below.refl _ _).drew)
              | (with_reducible exact XW.out _ B8)
              | (with_reducible exact XW.out _ B9)) (first
              | (go_at_call 19; first
                | (with_reducible refine Calls.mono (r1.out _ (And.left (by assumption))) ?_; rintro e v8 ⟨rfl, c8⟩; have B8 := below_seq (And.left (by assumption)) c8)
                | (with_reducible refine Calls.mono (r2.out _ (And.left (by assumption))) ?_; rintro e v9 ⟨rfl, c9⟩; have B9 := below_seq (And.left (by assumption)) c9)))
            all_goals
              have HV := Hid.mk (below_seq HB.out B9)
              clear B8 B9 c8 c9 r1 r2 a1 a2 a3 a4 XC XW
              by_cases h65 : 65536 < T5.length
              · have dd : decide ((65536 : Int) < (T5.length : Int)) = true := decide_eq_true (by omega)
                have HX := Hid.mk (HLONG.out (by rw [← HL.out]; exact h65) _ HV.out)
                clear h65
                go_wp2_with fail
                refine bodyPost_ret (results_tmp2 rfl _ _ _) rfl ?_
                exact HX.out
              · have dd : decide ((65536 : Int) < (T5.length : Int)) = false := decide_eq_false (by omega)
                have H5 : Hid (T5.length ≤ 65536) := ⟨Nat.le_of_not_lt h65⟩
                clear h65
                go_wp2_with fail
                refine ⟨⟨k + 1, rfl, hlt, by rw [← HL.out], by rw [← HL.out]; exact H5, HV⟩, ?_⟩
                show L.length - ((k : Int) + 1).toNat < L.length - ((k : Int)).toNat
                omega
          by_cases e2 : r.c.kind = 2
          · have t1 : (r.c.kind == 1) = false := by simp [e2]
            have t2 : (r.c.kind == 2) = true := by simp [e2]
            have hs1 : 1 ≤ r.c.st.kind ∧ r.c.st.kind ≤ 18 := by simp [kok, e2] at hok; omega
            have HL : Hid (T ++ stepL r.c.st ++ [10] = txL (L.take (k + 1))) := ⟨by rw [HN.out]; unfold lineL; rw [if_neg (by omega), if_pos e2]; simp⟩
            have hsle := step_le hos
            have hcall := qstep_any r hs1.1 hs1.2 hos wr hsl hsi HTr.out
            generalize stepL r.c.st = ya at *
            have a1 := run_ad T ya (by omega)
            have a5 : ∀ w, (adS (str (T ++ ya)) (.string ⟨#[10]⟩)).run Tryd.prog w = .ok (str (T ++ ya ++ [10])) w := fun w => run_ad _ [10] (by simp; omega) w
            generalize T ++ ya ++ [10] = T5 at *
            generalize T ++ ya = T4 at *
            clear hkk e1 e2 hs1 hok hos hsl hsi q11 q1 q2 HN XC hsle
            go_wp2_with fail
            with_reducible refine Calls.mono hcall ?_
            rintro e w2 ⟨rfl, b2⟩
            have HV := Hid.mk (below_seq HB.out b2)
            clear hcall b2 hld q0
            dsimp only
            by_cases h65 : 65536 < T5.length
            · have dd : decide ((65536 : Int) < (T5.length : Int)) = true := decide_eq_true (by omega)
              have HX := Hid.mk (HLONG.out (by rw [← HL.out]; exact h65) _ HV.out)
              clear h65
              go_wp2_with fail
              refine bodyPost_ret (results_tmp2 rfl _ _ _) rfl ?_
              exact HX.out
            · have dd : decide ((65536 : Int) < (T5.length : Int)) = false := decide_eq_false (by omega)
              have H5 : Hid (T5.length ≤ 65536) := ⟨Nat.le_of_not_lt h65⟩
              clear h65
              go_wp2_with fail
              refine ⟨⟨k + 1, rfl, hlt, by rw [← HL.out], by rw [← HL.out]; exact H5, HV⟩, ?_⟩
              show L.length - ((k : Int) + 1).toNat < L.length - ((k : Int)).toNat
              omega
          by_cases e3 : r.c.kind = 3
          · have t1 : (r.c.kind == 1) = false := by simp [e3]
            have t2 : (r.c.kind == 2) = false := by simp [e3]
            have t3 : (r.c.kind == 3) = true := by simp [e3]
            have HL : Hid (T ++ [118, 97, 108, 117, 101, 32] ++ quo r.c.bucket ++ [10] = txL (L.take (k + 1))) := ⟨by rw [HN.out]; unfold lineL; rw [if_neg (by omega), if_neg (by omega), if_pos e3]; simp⟩
            have hql := quo_le r.c.bucket
            have hbl := hos.b
            have hcall := qQuote_any r.c.bucket wr (by omega)
            generalize quo r.c.bucket = ya at *
            have a1 : ∀ w, (adS (str T) (.string ⟨#[118, 97, 108, 117, 101, 32]⟩)).run Tryd.prog w = .ok (str (T ++ [118, 97, 108, 117, 101, 32])) w := fun w => run_ad T [118, 97, 108, 117, 101, 32] (by simp; omega) w
            have a2 := run_ad (T ++ [118, 97, 108, 117, 101, 32]) ya (by simp; omega)
            have a5 : ∀ w, (adS (str (T ++ [118, 97, 108, 117, 101, 32] ++ ya)) (.string ⟨#[10]⟩)).run Tryd.prog w = .ok (str (T ++ [118, 97, 108, 117, 101, 32] ++ ya ++ [10])) w := fun w => run_ad _ [10] (by simp; omega) w
            generalize T ++ [118, 97, 108, 117, 101, 32] ++ ya ++ [10] = T5 at *
            generalize T ++ [118, 97, 108, 117, 101, 32] ++ ya = T4 at *
            generalize T ++ [118, 97, 108, 117, 101, 32] = T1 at *
            clear hkk e1 e2 e3 hok hos hsl hsi q1 q2 HN XC hld hql hbl
            go_wp2_with fail
            with_reducible refine Calls.mono hcall ?_
            rintro e w2 ⟨rfl, b2⟩
            have HV := Hid.mk (below_seq HB.out b2)
            clear hcall b2 q0 q11
            dsimp only
            by_cases h65 : 65536 < T5.length
            · have dd : decide ((65536 : Int) < (T5.length : Int)) = true := decide_eq_true (by omega)
              have HX := Hid.mk (HLONG.out (by rw [← HL.out]; exact h65) _ HV.out)
              clear h65
              go_wp2_with fail
              refine bodyPost_ret (results_tmp2 rfl _ _ _) rfl ?_
              exact HX.out
            · have dd : decide ((65536 : Int) < (T5.length : Int)) = false := decide_eq_false (by omega)
              have H5 : Hid (T5.length ≤ 65536) := ⟨Nat.le_of_not_lt h65⟩
              clear h65
              go_wp2_with fail
              refine ⟨⟨k + 1, rfl, hlt, by rw [← HL.out], by rw [← HL.out]; exact H5, HV⟩, ?_⟩
              show L.length - ((k : Int) + 1).toNat < L.length - ((k : Int)).toNat
              omega
          by_cases e4 : r.c.kind = 4
          · have t1 : (r.c.kind == 1) = false := by simp [e4]
            have t2 : (r.c.kind == 2) = false := by simp [e4]
            have t3 : (r.c.kind == 3) = false := by simp [e4]
            have t4 : (r.c.kind == 4) = true := by simp [e4]
            have HL : Hid (T ++ [100, 105, 103, 101, 115, 116] ++ [10] = txL (L.take (k + 1))) := ⟨by rw [HN.out]; unfold lineL; rw [if_neg (by omega), if_neg (by omega), if_neg (by omega), if_pos e4]; simp⟩
            have a1 : ∀ w, (adS (str T) (.string ⟨#[100, 105, 103, 101, 115, 116]⟩)).run Tryd.prog w = .ok (str (T ++ [100, 105, 103, 101, 115, 116])) w := fun w => run_ad T [100, 105, 103, 101, 115, 116] (by simp; omega) w
            have a5 : ∀ w, (adS (str (T ++ [100, 105, 103, 101, 115, 116])) (.string ⟨#[10]⟩)).run Tryd.prog w = .ok (str (T ++ [100, 105, 103, 101, 115, 116] ++ [10])) w := fun w => run_ad _ [10] (by simp; omega) w
            generalize T ++ [100, 105, 103, 101, 115, 116] ++ [10] = T5 at *
            generalize T ++ [100, 105, 103, 101, 115, 116] = T4 at *
            have HV := HB
            clear hkk e1 e2 e3 e4 hok hos hsl hsi q1 q2 q11 HN XC hld
            by_cases h65 : 65536 < T5.length
            · have dd : decide ((65536 : Int) < (T5.length : Int)) = true := decide_eq_true (by omega)
              have HX := Hid.mk (HLONG.out (by rw [← HL.out]; exact h65) _ HV.out)
              clear h65
              go_wp2_with fail
              refine bodyPost_ret (results_tmp2 rfl _ _ _) rfl ?_
              exact HX.out
            · have dd : decide ((65536 : Int) < (T5.length : Int)) = false := decide_eq_false (by omega)
              have H5 : Hid (T5.length ≤ 65536) := ⟨Nat.le_of_not_lt h65⟩
              clear h65
              go_wp2_with fail
              refine ⟨⟨k + 1, rfl, hlt, by rw [← HL.out], by rw [← HL.out]; exact H5, HV⟩, ?_⟩
              show L.length - ((k : Int) + 1).toNat < L.length - ((k : Int)).toNat
              omega
          · have e5 : r.c.kind = 5 := by omega
            have t1 : (r.c.kind == 1) = false := by simp [e5]
            have t2 : (r.c.kind == 2) = false := by simp [e5]
            have t3 : (r.c.kind == 3) = false := by simp [e5]
            have t4 : (r.c.kind == 4) = false := by simp [e5]
            have HL : Hid (T ++ [117, 112] ++ [10] = txL (L.take (k + 1))) := ⟨by rw [HN.out]; unfold lineL; rw [if_neg (by omega), if_neg (by omega), if_neg (by omega), if_neg (by omega)]; simp⟩
            have a1 : ∀ w, (adS (str T) (.string ⟨#[117, 112]⟩)).run Tryd.prog w = .ok (str (T ++ [117, 112])) w := fun w => run_ad T [117, 112] (by simp; omega) w
            have a5 : ∀ w, (adS (str (T ++ [117, 112])) (.string ⟨#[10]⟩)).run Tryd.prog w = .ok (str (T ++ [117, 112] ++ [10])) w := fun w => run_ad _ [10] (by simp; omega) w
            generalize T ++ [117, 112] ++ [10] = T5 at *
            generalize T ++ [117, 112] = T4 at *
            have HV := HB
            clear hkk e1 e2 e3 e4 e5 hok hos hsl hsi q1 q2 q11 HN XC hld
            by_cases h65 : 65536 < T5.length
            · have dd : decide ((65536 : Int) < (T5.length : Int)) = true := decide_eq_true (by omega)
              have HX := Hid.mk (HLONG.out (by rw [← HL.out]; exact h65) _ HV.out)
              clear h65
              go_wp2_with fail
              refine bodyPost_ret (results_tmp2 rfl _ _ _) rfl ?_
              exact HX.out
            · have dd : decide ((65536 : Int) < (T5.length : Int)) = false := decide_eq_false (by omega)
              have H5 : Hid (T5.length ≤ 65536) := ⟨Nat.le_of_not_lt h65⟩
              clear h65
              go_wp2_with fail
              refine ⟨⟨k + 1, rfl, hlt, by rw [← HL.out], by rw [← HL.out]; exact H5, HV⟩, ?_⟩
              show L.length - ((k : Int) + 1).toNat < L.length - ((k : Int)).toNat
              omega
        · have d1 : decide ((k : Int) < (L.length : Int)) = false := decide_eq_false (fun q => hlt (Int.ofNat_lt.1 q))
          have d2 : decide (k < L.length) = false := decide_eq_false hlt
          have HE : Hid (L.take k = L) := ⟨by rw [show k = L.length by omega, List.take_length]⟩
          rw [HE.out]
          have hTl := HTL.out
          rw [HE.out] at hTl
          have hql := qlines_any (txL L) (by omega) wr
          have HLO : Hid (isLongF (txL L) = true → ∀ w', Below w1.heap.size w1 w' → QP L w1 (.returned (.tuple #[.string ⟨#[]⟩, .int .i64 3])) w') := ⟨fun h w' hb => QP.long HOK.out h hb⟩
          have HGO : Hid (isLongF (txL L) = false → ∀ w', Below w1.heap.size w1 w' → QP L w1 (.returned (.tuple #[str (txL L), .int .i64 0])) w') := ⟨fun h w' hb => QP.good HOK.out h hb⟩
          clear HTL hlt hk HE
          generalize isLongF (txL L) = bl at *
          generalize txL L = T at *
          go_wp2_with fail
          with_reducible refine Calls.mono hql ?_
          rintro e w2 ⟨⟨v, rfl⟩, b2⟩
          have HV := Hid.mk (below_seq HB.out b2)
          clear hql b2
          cases bl with
          | true =>
            dsimp only [Bool.not_true]
            go_wp2_with fail
            refine bodyPost_ret (results_tmp2 rfl _ _ _) rfl ?_
            exact HLO.out (by first | rfl | trivial) _ HV.out
          | false =>
            dsimp only [Bool.not_false]
            go_wp2_with fail
            refine bodyPost_ret (results_tmp2 rfl _ _ _) rfl ?_
            exact HGO.out (by first | rfl | trivial) _ HV.out
end Go.Proofs.YtgbkloihclbimaaDoor
