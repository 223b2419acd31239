/- Layer 22: told, the walk. -/
import Derived.Test.YtgbkloihclbimaaDoorYb
namespace Go.Proofs.YtgbkloihclbimaaDoor
set_option maxRecDepth 100000
set_option linter.unusedVariables false
set_option linter.unusedSimpArgs false
open Go.RowKit
attribute [local go_sem ↓] Go.wp_at_zero Go.wp_at_succ
attribute [local go_sem ↓] ldPe stPe ldQe stQe
/-- what stands ahead of the append of a copy, told of two blocks alone -/
theorem TQ.at5 {wr W W' : World} {c : Cm} {g : Nat} {ma : Option Addr} {mc : Nat} {ka : Option Addr} {kc : Nat} (h : TQ wr W c g ma mc ka kc) {r : Cr} {b o : Nat} (hr : wr.rangeAt b o (ccl r)) (hlt : b < wr.heap.size) (h1 : W'.heap[b]? = W.heap[b]?) (h2 : W'.heap[g]? = W.heap[g]?) :
    W'.cell? ⟨b, o, none⟩ = some (.int .i64 r.c.kind) ∧ W'.cell? ⟨b, o + 1, none⟩ = some (.int .i64 r.c.sectors) ∧ W'.cell? ⟨b, o + 2, none⟩ = some (.int .i64 r.c.size) ∧ W'.cell? ⟨b, o + 11, none⟩ = some (str r.c.bucket) ∧ (ldQ (.pointer (some ⟨g, 0, none⟩))).run Tryd.prog W' = .ok (.agg (scl c ma mc ka kc)) W' := by
  have key : ∀ j v, (ccl r)[j]? = some v → W'.cell? ⟨b, o + j, none⟩ = some v := fun j v hv => by
    have e : W'.cell? ⟨b, o + j, none⟩ = W.cell? ⟨b, o + j, none⟩ := by simp only [World.cell?, h1]
    rw [e, h.bel.cell (p := ⟨b, o + j, none⟩) hlt]; exact hr j v hv
  exact ⟨key 0 _ rfl, key 1 _ rfl, key 2 _ rfl, key 11 _ rfl, run_ldQ (by rw [h2]; exact h.box)⟩
theorem TQ.ne {wr W : World} {c : Cm} {g : Nat} {ma : Option Addr} {mc : Nat} {ka : Option Addr} {kc : Nat} (h : TQ wr W c g ma mc ka kc) {base n : Nat} {v : Value} {xs : List Value} (ho : W.ownsRow base 50 12 v n xs) : v.ownBlock ≠ some g := fun q => by
  obtain ⟨c1, e1⟩ := own_type ho q
  rw [h.box] at e1
  injection e1 with e2
  injection e2 with _ e3 _
  exact absurd e3 (by decide)
set_option maxHeartbeats 4000000 in
theorem told_any (L : List Cr) (la : Option Addr) (lc : Nat) (w : World) (hL : CT w la L) (hn : L.length ≤ 879609302210) (hm : ∀ r ∈ L, r.c.st.mt.length ≤ 4400000000000 ∧ r.c.st.kept.length ≤ 17000000000000) :
    Calls Tryd.prog 11 #[.slice la L.length lc] w fun e w' => ∃ va vc R, e = .returned (.slice va R.length vc) ∧ Fq w.heap.size w' (.slice va R.length vc) R ∧ R.map (·.c) = L.map (·.c) ∧ Below w.heap.size w w' := by
  go_enter Tryd.func11, Tryd.ntmps11
  go_wp2_with fail
  go_loopw [3, 4, 5, 6] (fun v i x y wr => ∃ (k : Nat) (va : Option Addr) (vc : Nat) (R : List Cr), i = .int .i64 k ∧ v = .slice va R.length vc ∧ k ≤ L.length ∧ Hid (Fq w.heap.size wr (.slice va R.length vc) R ∧ R.map (·.c) = (L.take k).map (·.c) ∧ Below w.heap.size w wr)) (fun _ i _ _ _ => L.length - (intOf i).toNat)
  case atStart => exact ⟨0, none, 0, [], rfl, rfl, Nat.zero_le _, ⟨Fq.nil _ _ (Nat.le_refl _), rfl, Below.refl _ _⟩⟩
  case round =>
    obtain ⟨k, va, vc, R, rfl, rfl, hk, HK⟩ := hrel
    by_cases hlt : k < L.length
    · have d1 : decide ((k : Int) < (L.length : Int)) = true := decide_eq_true (Int.ofNat_lt.2 hlt)
      have k0 : (0 : Int) ≤ (k : Int) := Int.natCast_nonneg k
      have k1 : (k : Int) < (L.length : Int) := Int.ofNat_lt.2 hlt
      obtain ⟨r, hget⟩ : ∃ r, L[k]? = some r := ⟨_, List.getElem?_eq_getElem hlt⟩
      obtain ⟨b, off, ea, hb, hr, hsl, hsi⟩ := (hL.later HK.out.2.2) k r hget
      have hrs := range_step hr
      have hld := run_ldP hrs
      have hst := run_stP wr r.c r.ma r.mc r.ka r.kc
      subst ea
      obtain ⟨hm1, hm2⟩ := hm r (List.mem_of_getElem? hget)
      obtain ⟨wa, hwa⟩ : ∃ wa, wr.alloc (.cells (scl r.c r.ma r.mc r.ka r.kc) 34) = wa := ⟨_, rfl⟩
      have ba : Below wr.heap.size wr wa := by rw [← hwa]; exact (Below.refl _ _).alloc (Nat.le_refl _) _
      have ya : wa.heap[wr.heap.size]? = some (.cells (scl r.c r.ma r.mc r.ka r.kc) 34 (0, 0)) := by rw [← hwa]; exact heap_alloc_new _ _
      have hlta := lt_of_block ya
      have XC : Hid (∀ w', Below wa.heap.size wa w' → Below wa.heap.size wa w' ∧ w'.cell? ⟨wr.heap.size, 0, none⟩ = some (.int .i64 r.c.st.kind) ∧ w'.cell? ⟨wr.heap.size, 1, none⟩ = some (str r.c.st.bucket) ∧ w'.cell? ⟨wr.heap.size, 2, none⟩ = some (str r.c.st.key) ∧ w'.cell? ⟨wr.heap.size, 3, none⟩ = some (str r.c.st.data) ∧ w'.cell? ⟨wr.heap.size, 4, none⟩ = some (.slice r.ma r.c.st.mt.length r.mc) ∧ w'.cell? ⟨wr.heap.size, 5, none⟩ = some (.int .i64 r.c.st.seq) ∧ w'.cell? ⟨wr.heap.size, 6, none⟩ = some (.int .i64 r.c.st.n) ∧ w'.cell? ⟨wr.heap.size, 7, none⟩ = some (.slice r.ka r.c.st.kept.length r.kc)) := ⟨fun w' hb => by
        have y : w'.heap[wr.heap.size]? = some (.cells (scl r.c r.ma r.mc r.ka r.kc) 34 (0, 0)) := by rw [hb.block _ hlta]; exact ya
        refine ⟨hb, ?_, ?_, ?_, ?_, ?_, ?_, ?_, ?_⟩ <;> (rw [cell_of_row _ _ _ _ _ _ y]; rfl)⟩
      have HSL : Hid (∀ W, Below wa.heap.size wa W → Sl W r.ma r.mc r.c.st.mt ∧ Si W r.ka r.kc r.c.st.kept) := ⟨fun W hb => ⟨hsl.later (below_seq ba hb), hsi.later (below_seq ba hb)⟩⟩
      clear hrs
      go_wp2_with fail
      clear hst hwa hld
      go_region_held3 (fun w' => Below wa.heap.size wa w' ∧ w'.cell? ⟨wr.heap.size, 0, none⟩ = some (.int .i64 r.c.st.kind) ∧ w'.cell? ⟨wr.heap.size, 1, none⟩ = some (str r.c.st.bucket) ∧ w'.cell? ⟨wr.heap.size, 2, none⟩ = some (str r.c.st.key) ∧ w'.cell? ⟨wr.heap.size, 3, none⟩ = some (str r.c.st.data) ∧ w'.cell? ⟨wr.heap.size, 4, none⟩ = some (.slice r.ma r.c.st.mt.length r.mc) ∧ w'.cell? ⟨wr.heap.size, 5, none⟩ = some (.int .i64 r.c.st.seq) ∧ w'.cell? ⟨wr.heap.size, 6, none⟩ = some (.int .i64 r.c.st.n) ∧ w'.cell? ⟨wr.heap.size, 7, none⟩ = some (.slice r.ka r.c.st.kept.length r.kc)) (first
        | (with_reducible exact XC.out _ (Below.refl _ _).drew)
        | (with_reducible exact XC.out _ (by assumption))
        | (with_reducible exact XC.out _ (Below.alloc (And.left (by assumption)) (Below.size (And.left (by assumption))) _))
        | (with_reducible exact XC.out _ (Below.alloc (by assumption) (Below.size (by assumption)) _))
        | (with_reducible exact XC.out _ (sQ_bel (by assumption) (by assumption) ..))
        | fail) (first
        | ((with_reducible (refine at_sta rfl ?_)); (with_reducible refine step_nilM rfl _ _ rfl rfl rfl (HSL.out _ (And.left (by assumption))).1 hm1 ?_); intro m1a m1c wM oM bM; have hBM : Below wa.heap.size wa wM := below_seq (And.left (by assumption)) bM; have oM2 := own_base oM (show wa.heap.size ≤ _ from Below.size (And.left (by assumption))); have hsA := fun ka kc => run_stQ wM r.c m1a m1c ka kc; first | (with_reducible have hZM := Zc.allocE bM; have hsB := fun ka kc => run_stQ2 hZM.z r.c m1a m1c ka kc) | (with_reducible have hZM := Zc.allocD bM; have hsB := fun ka kc => run_stQ2 hZM.z r.c m1a m1c ka kc) | (with_reducible have hZM := Zc.alloc (Below.size hBK) bM; have hsB := fun ka kc => run_stQ2 hZM.z r.c m1a m1c ka kc) | (with_reducible have hZM := Zc.later bM hZK; have hsB := fun ka kc => run_stQ2 hZM.z r.c m1a m1c ka kc) | skip)
        | ((with_reducible (refine at_sta rfl ?_)); (with_reducible refine step_nilK rfl _ _ rfl rfl rfl (HSL.out _ (And.left (by assumption))).2 hm2 ?_); intro k1a k1c wK oK bK; have hBK : Below wa.heap.size wa wK := below_seq (And.left (by assumption)) bK; have oK2 := own_base oK (show wa.heap.size ≤ _ from Below.size (And.left (by assumption))); have hsC := fun ma mc => run_stQ wK r.c ma mc k1a k1c; first | (with_reducible have hZK := Zc.allocE bK; have hsD := fun ma mc => run_stQ2 hZK.z r.c ma mc k1a k1c) | (with_reducible have hZK := Zc.allocD bK; have hsD := fun ma mc => run_stQ2 hZK.z r.c ma mc k1a k1c) | (with_reducible have hZK := Zc.alloc (Below.size hBM) bK; have hsD := fun ma mc => run_stQ2 hZK.z r.c ma mc k1a k1c) | (with_reducible have hZK := Zc.later bK hZM; have hsD := fun ma mc => run_stQ2 hZK.z r.c ma mc k1a k1c) | skip))
      all_goals
        first
        | (have bX : Below wM.heap.size wM wK := (by first | (with_reducible exact bK) | (with_reducible exact below_seq ((Below.refl _ _).alloc (Nat.le_refl _) _) bK)); have oM3 := own_on oM2 bX; first | (have T := TQ.ofStore ba hBK hZK oM3 oK2) | (have T := TQ.ofAlloc ba hBK oM3 oK2))
        | (have bX : Below wK.heap.size wK wM := (by first | (with_reducible exact bM) | (with_reducible exact below_seq ((Below.refl _ _).alloc (Nat.le_refl _) _) bM)); have oK3 := own_on oK2 bX; first | (have T := TQ.ofStore ba hBM hZM oM2 oK3) | (have T := TQ.ofAlloc ba hBM oM2 oK3))
        obtain ⟨hF, hRc, hBr⟩ := HK.out
        have hF1 := hF.later T.bel
        have hq : ∀ b, Blk (.slice va R.length vc) R b → b < wr.heap.size := fun b q => (hF.lt q).2
        have TT := T
        clear XC HSL HK
        first
        | (generalize sQ wK wM.heap.size r.c m1a m1c k1a k1c = W at T hF1 ⊢; have _ck : Below wr.heap.size wr W := T.bel; generalize wM.heap.size = g at T ⊢)
        | (generalize sQ wK wa.heap.size r.c m1a m1c k1a k1c = W at T hF1 ⊢; have _ck : Below wr.heap.size wr W := T.bel; generalize wa.heap.size = g at T ⊢)
        | (generalize wK.alloc (.cells (scl r.c m1a m1c k1a k1c) 48) = W at T hF1 ⊢; have _ck : Below wr.heap.size wr W := T.bel; generalize wK.heap.size = g at T ⊢)
        clear TT
        have bD : Below W.heap.size W W.drew := (Below.refl _ _).drew
        have hbase : w.heap.size ≤ wr.heap.size := hBr.size
        have hRk : R.length = k := by have e := congrArg List.length hRc; simp at e; omega
        have hbw : b < w.heap.size := by
          obtain ⟨b', off', e', hlt', -⟩ := hL k r hget
          injection e' with e'
          injection e' with e1 _ _
          rw [e1]; exact hlt'
        have hgl := lt_of_block T.box
        obtain ⟨v2, c2, w2, hQ, hF2, hB2, hk2, -, -⟩ := run_qs (⟨r.c, m1a, m1c, k1a, k1c⟩ : Cr) (hF1.later bD) (by omega) hbase (⟨own_on T.rows.ow bD, own_on T.rows.oi bD⟩ : RowsOf wr.heap.size W.drew r.c m1a m1c k1a k1c) hq
        have HX : Hid (Fq w.heap.size w2 (.slice v2 (R.length + 1) c2) (R ++ [⟨r.c, m1a, m1c, k1a, k1c⟩]) ∧ Below w.heap.size w w2) := ⟨hF2, hBr.trans (((T.bel.mono hbase).trans (bD.mono (Nat.le_trans hbase T.bel.size))).trans hB2)⟩
        have XK : Hid (∀ w', Below W.heap.size W w' → _) := ⟨fun w' hw => TQ.at5 T hr hb (hw.block b (Nat.lt_of_lt_of_le hb T.bel.size)) (hw.block g hgl)⟩
        have X2 := Hid.mk (TQ.at5 (W' := w2) T hr hb (hk2 b (Nat.lt_of_lt_of_le hb T.bel.size) (fun q => absurd (hF1.lt (.inl q)).1 (by omega))) (hk2 g hgl (T.ne hF1.own)))
        have hRk2 : Hid (R.length = k) := ⟨hRk⟩
        have hRc2 : Hid (R.map (·.c) = (L.take k).map (·.c)) := ⟨hRc⟩
        clear hF hF1 hF2 hB2 bD hRk hRc hq hBr hk2 _ck
        go_wp2_with fail
        go_region_held3 (fun w' => w'.cell? ⟨b, off + k * 12, none⟩ = some (.int .i64 r.c.kind) ∧ w'.cell? ⟨b, off + k * 12 + 1, none⟩ = some (.int .i64 r.c.sectors) ∧ w'.cell? ⟨b, off + k * 12 + 2, none⟩ = some (.int .i64 r.c.size) ∧ w'.cell? ⟨b, off + k * 12 + 11, none⟩ = some (str r.c.bucket) ∧ (ldQ (.pointer (some ⟨g, 0, none⟩))).run Tryd.prog w' = .ok (.agg (scl r.c m1a m1c k1a k1c)) w') (first | (with_reducible exact X2.out) | (with_reducible exact XK.out _ (Below.refl _ _).drew) | (exact XK.out _ (Below.drew (Below.alloc (Below.refl _ _) (Nat.le_refl _) _))) | (exact XK.out _ (Below.alloc (Below.refl _ _).drew (Nat.le_refl _) _))) (first | ((with_reducible (refine at_sta rfl ?_)); refine step_run rfl _ _ rfl rfl rfl (hQ _) ?_))
        go_wp2_with fail
        refine ⟨⟨k + 1, v2, c2, R ++ [⟨r.c, m1a, m1c, k1a, k1c⟩], rfl, ?_, hlt, ⟨?_, ?_, HX.out.2⟩⟩, ?_⟩
        · rw [List.length_append]; rfl
        · rw [List.length_append]; exact HX.out.1
        · rw [List.map_append, hRc2.out, List.take_add_one, hget, List.map_append]; rfl
        · show L.length - ((k : Int) + 1).toNat < L.length - ((k : Int)).toNat
          omega
    · have d1 : decide ((k : Int) < (L.length : Int)) = false := decide_eq_false (fun q => hlt (Int.ofNat_lt.1 q))
      have d2 : decide (k < L.length) = false := decide_eq_false hlt
      have hkk : Hid (k = L.length) := ⟨Nat.le_antisymm hk (Nat.le_of_not_lt hlt)⟩
      clear hlt
      go_wp2_with fail
      go_ret
      obtain ⟨h1, h2, h3⟩ := HK.out
      rw [hkk.out, List.take_length] at h2
      exact ⟨_, _, _, rfl, h1, h2, h3⟩
end Go.Proofs.YtgbkloihclbimaaDoor
