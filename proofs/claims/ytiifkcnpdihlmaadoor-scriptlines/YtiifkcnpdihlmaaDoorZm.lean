/- Layer 22: ScriptLines. -/
import Derived.Test.YtiifkcnpdihlmaaDoorZn
import Derived.Test.YtiifkcnpdihlmaaDoorZp
namespace Go.Proofs.YtiifkcnpdihlmaaDoor
set_option maxRecDepth 100000
set_option linter.unusedVariables false
set_option linter.unusedSimpArgs false
open Go.RowKit
attribute [local go_sem ↓] Go.wp_at_zero Go.wp_at_succ sl9 ix9 ad9
theorem get_at {t : By} {k : Nat} (h : k < t.length) : t.getD k 0 = t[k]'h := by rw [List.getD_eq_getElem?_getD, List.getElem?_eq_getElem h]; rfl
theorem drop_at9 {t : By} {k : Nat} (h : k < t.length) : t.drop k = t.getD k 0 :: t.drop (k + 1) := by rw [get_at h]; exact List.drop_eq_getElem_cons h
theorem take_cnt {t : By} {k : Nat} (h : k < t.length) : (t.take (k + 1)).count 10 = (t.take k).count 10 + (if t.getD k 0 = 10 then 1 else 0) := by
  rw [List.take_add_one, List.getElem?_eq_getElem h, get_at h, List.count_append]
  show _ + List.count 10 [t[k]] = _
  rw [List.count_singleton]
  simp
theorem cnt_le (t : By) (k : Nat) : (t.take k).count 10 ≤ t.length := Nat.le_trans List.count_le_length (by rw [List.length_take]; omega)
theorem few_step10 (b : Nat) (r : By) : fewF b (10 :: r) = fewF 0 r := by rw [fewF, if_pos rfl]
theorem few_step {b : Nat} {c : UInt8} {r : By} (hc : c ≠ 10) (hb : ¬ 8000 < b + 1) : fewF b (c :: r) = fewF (b + 1) r := by rw [fewF, if_neg hc, if_neg hb]
set_option maxHeartbeats 1000000 in
theorem few_any (t : By) (ht : t.length ≤ 140737488351232) (w : World) : Calls Tryd.prog 17 #[str t] w fun e w' => (∃ b, e = .returned (.bool b) ∧ (b = true → Few t)) ∧ Below w.heap.size w w' := by
  go_enter Tryd.func17, Tryd.ntmps17
  go_wp2_with fail
  go_loopw [3, 4, 5] (fun l y i wr => ∃ k b m : Nat, l = .int .i64 m ∧ y = .int .i64 b ∧ i = .int .i64 k ∧ k ≤ t.length ∧ b ≤ 8000 ∧ m ≤ t.length ∧ Hid (m = (t.take k).count 10) ∧ Hid (fewF 0 t = fewF b (t.drop k)) ∧ Hid (Below w.heap.size w wr)) (fun _ _ i _ => t.length - (intOf i).toNat)
  case atStart => exact ⟨0, 0, 0, rfl, rfl, rfl, Nat.zero_le _, Nat.zero_le _, Nat.zero_le _, ⟨by simp⟩, ⟨by simp⟩, ⟨Below.refl _ _⟩⟩
  case round =>
    obtain ⟨k, b, m, rfl, rfl, rfl, hk, hb, hm, HM, HF, HB⟩ := hrel
    by_cases hlt : k < t.length
    · have d1 : decide ((k : Int) < (t.length : Int)) = true := decide_eq_true (by omega)
      have hix := run_ix t k hlt
      have HD := Hid.mk (drop_at9 hlt)
      have HC := Hid.mk (take_cnt hlt)
      have hcl := cnt_le t (k + 1)
      generalize t.getD k 0 = c at *
      by_cases hc : c = 10
      · subst hc
        have e1 : (((10 : UInt8).toNat : Int) == 10) = true := rfl
        have HM2 : Hid (m + 1 = (t.take (k + 1)).count 10) := ⟨by rw [HC.out, ← HM.out]; rfl⟩
        have hm2 : m + 1 ≤ t.length := by rw [HM2.out]; exact hcl
        have HF2 : Hid (fewF 0 t = fewF 0 (t.drop (k + 1))) := ⟨by rw [HF.out, HD.out, few_step10]⟩
        clear hcl HC HD
        go_wp2_with fail
        refine ⟨⟨k + 1, 0, m + 1, rfl, rfl, rfl, hlt, by omega, hm2, HM2, HF2, HB⟩, ?_⟩
        show t.length - ((k : Int) + 1).toNat < t.length - ((k : Int)).toNat
        omega
      · have e1 : ((c.toNat : Int) == 10) = false := u8ne (n := 10) (by decide) hc
        have HM2 : Hid (m = (t.take (k + 1)).count 10) := ⟨by rw [HC.out, ← HM.out, if_neg hc]; rfl⟩
        clear hcl
        by_cases h8 : 8000 < b + 1
        · have d2 : decide ((8000 : Int) < (b : Int) + 1) = true := decide_eq_true (by omega)
          go_wp2_with fail
          go_ret
          exact ⟨⟨false, rfl, fun q => by cases q⟩, HB.out⟩
        · have d2 : decide ((8000 : Int) < (b : Int) + 1) = false := decide_eq_false (by omega)
          have HF2 : Hid (fewF 0 t = fewF (b + 1) (t.drop (k + 1))) := ⟨by rw [HF.out, HD.out, few_step hc h8]⟩
          clear HC HD
          go_wp2_with fail
          refine ⟨⟨k + 1, b + 1, m, rfl, rfl, rfl, hlt, by omega, hm, HM2, HF2, HB⟩, ?_⟩
          show t.length - ((k : Int) + 1).toNat < t.length - ((k : Int)).toNat
          omega
    · have d1 : decide ((k : Int) < (t.length : Int)) = false := decide_eq_false (by omega)
      have d2 : decide (k < t.length) = false := decide_eq_false hlt
      have hke : k = t.length := Nat.le_antisymm hk (Nat.le_of_not_lt hlt)
      have HX : Hid (m < 300 → t.length < 25000 → Few t) := ⟨fun h1 h2 => by
        have hf := HF.out
        rw [hke, List.drop_length] at hf
        have hm2 := HM.out
        rw [hke, List.take_length] at hm2
        have := lnl_count t
        exact ⟨by omega, by omega, few_all (by rw [hf]; rfl)⟩⟩
      clear hke hk hlt HF HM
      by_cases h3 : m < 300
      · have d3 : decide ((m : Int) < 300) = true := decide_eq_true (by omega)
        by_cases h4 : t.length < 25000
        · have d4 : decide ((t.length : Int) < 25000) = true := decide_eq_true (by omega)
          go_wp2_with fail
          go_ret
          exact ⟨⟨true, rfl, fun _ => HX.out h3 h4⟩, HB.out⟩
        · have d4 : decide ((t.length : Int) < 25000) = false := decide_eq_false (by omega)
          go_wp2_with fail
          go_ret
          exact ⟨⟨false, rfl, fun q => by cases q⟩, HB.out⟩
      · have d3 : decide ((m : Int) < 300) = false := decide_eq_false (by omega)
        go_wp2_with fail
        go_ret
        exact ⟨⟨false, rfl, fun q => by cases q⟩, HB.out⟩
theorem ended_any (t : By) (ht : t.length ≤ 140737488351232) (w : World) : Calls Tryd.prog 18 #[str t] w fun e w' => e = .returned (str (enl t)) ∧ Below w.heap.size w w' := by
  cases ht0 : t with
  | nil =>
    go_enter Tryd.func18, Tryd.ntmps18
    go_wp2_with fail
    go_ret
    exact ⟨rfl, Below.refl _ _⟩
  | cons c0 r0 =>
    rw [← ht0]
    have hne : ((t : By) == []) = false := by rw [ht0]; rfl
    have hn0 : t ≠ [] := by rw [ht0]; simp
    have hl : 0 < t.length := by rw [ht0]; simp
    clear ht0 c0 r0
    obtain ⟨n, hn⟩ : ∃ n, t.length = n + 1 := ⟨t.length - 1, by omega⟩
    have hl0 : t.getLast? = some (t.getD n 0) := by rw [getLast_at hn, List.getD_eq_getElem?_getD, List.getElem?_eq_getElem (by omega)]; rfl
    have hw1 : (t.length : Int) - 1 = (n : Int) := by omega
    have in_ : ∀ w, (ixS (str t) (.int .i64 ((t.length : Int) - 1))).run Tryd.prog w = .ok (.int .u8 ((t.getD n 0).toNat : Int)) w := by rw [hw1]; exact run_ix t n (by omega)
    generalize t.getD n 0 = c at *
    have had : ∀ w, (adS (str t) (.string ⟨#[10]⟩)).run Tryd.prog w = .ok (str (t ++ [10])) w := fun w => run_ad t [10] (by simp; omega) w
    clear hw1 hn hl
    by_cases hc : c = 10
    · subst hc
      have HV : Hid (enl t = t) := ⟨by unfold enl; rw [if_pos (.inr hl0)]⟩
      have e1 : (((10 : UInt8).toNat : Int) == 10) = true := rfl
      clear hl0
      go_enter Tryd.func18, Tryd.ntmps18
      go_wp2_with fail
      go_ret
      exact ⟨by rw [HV.out]; rfl, Below.refl _ _⟩
    · have HV : Hid (enl t = t ++ [10]) := ⟨by
        unfold enl
        rw [if_neg (fun q => by
          rcases q with q | q
          · exact hn0 q
          · rw [hl0] at q; exact hc (Option.some.inj q))]⟩
      have e1 : ((c.toNat : Int) == 10) = false := u8ne (n := 10) (by decide) hc
      clear hl0
      go_enter Tryd.func18, Tryd.ntmps18
      go_wp2_with fail
      go_ret
      exact ⟨by rw [HV.out]; rfl, Below.refl _ _⟩
/-- one list behind another -/
theorem run_qss {b1 b2 : Nat} {w : World} {a1 a2 : Option Addr} {c1 c2 : Nat} {R1 R2 : List Cr} (h1 : Fq b1 w (.slice a1 R1.length c1) R1) (h2 : Fq b2 w (.slice a2 R2.length c2) R2) (hn : R1.length + R2.length ≤ 1000000) :
    ∃ va vc w', (∀ ty, (Builtin.append_ #[42, 42] ty #[.slice a1 R1.length c1, .slice a2 R2.length c2]).run Tryd.prog w = .ok (.slice va (R1 ++ R2).length vc) w') ∧ CT w' va (R1 ++ R2) ∧ Below b1 w w' := by
  obtain ⟨i0, z0, hi0, hz0, hzs, hz1, hz2⟩ := infoQx
  have hm : maxLen = 9223372036854775807 := rfl
  have hle := h1.le
  have key : ∀ (v' : Value) (w' : World), w'.ownsRow b1 50 12 v' (R1.length + R2.length) (rcl R1 ++ rcl R2) → w.grownBy w' (Value.slice a1 R1.length c1).ownBlock → ∃ va vc, v' = .slice va (R1 ++ R2).length vc ∧ CT w' va (R1 ++ R2) ∧ Below b1 w w' := by
    intro v' w' hown hgrow
    have hs : ∃ va vc, v' = .slice va (R1 ++ R2).length vc := by
      rw [List.length_append]
      rcases hown.2 with ⟨e, h0⟩ | ⟨g, c, cur, e, _⟩
      · exact ⟨none, 0, by rw [e, h0]⟩
      · exact ⟨_, _, e⟩
    obtain ⟨va, vc, rfl⟩ := hs
    have hsz : w.heap.size ≤ w'.heap.size := hgrow.size
    rw [← rcl_append, ← List.length_append] at hown
    have keepM : ∀ (x : Value) (n s : Nat) (xs : List Value) (t : TypeId) (b0 : Nat), t ≠ 50 → w.ownsRow b0 t s x n xs → w'.ownsRow b0 t s x n xs := fun x n s xs t b0 ht h => own_same h fun k hk2 => hgrow.block k (h.lt k hk2).2 (fun q => by
      obtain ⟨d1, e1⟩ := own_type h hk2
      obtain ⟨d2, e2⟩ := own_type h1.own q.symm
      rw [e1] at e2
      injection e2 with e2
      injection e2 with _ e3 _
      exact ht e3)
    refine ⟨va, vc, rfl, fun k r hk => ?_, grown_below h1.own hle hgrow⟩
    obtain ⟨b, off, e, hlt, hr⟩ := range_own hown hk
    have hmem := List.mem_of_getElem? hk
    refine ⟨b, off, e, hlt, hr, ?_, ?_⟩
    · rcases List.mem_append.1 hmem with q | q
      · exact sl_own (Nat.le_trans h1.le hsz) (keepM _ _ _ _ _ _ (by decide) (h1.ow r q))
      · exact sl_own (Nat.le_trans h2.le hsz) (keepM _ _ _ _ _ _ (by decide) (h2.ow r q))
    · rcases List.mem_append.1 hmem with q | q
      · exact si_own (keepM _ _ _ _ _ _ (by decide) (h1.oi r q))
      · exact si_own (keepM _ _ _ _ _ _ (by decide) (h2.oi r q))
  cases a2 with
  | none =>
    have hl : R2 = [] ∧ c2 = 0 := by
      rcases h2.own.2 with ⟨e, h0⟩ | ⟨g, c, cur, e, _⟩
      · injection e with _ _ e3
        exact ⟨List.eq_nil_of_length_eq_zero h0, e3⟩
      · injection e with e1 _ _; cases e1
    obtain ⟨rfl, rfl⟩ := hl
    refine ⟨a1, c1, w, fun ty => ?_, ?_, Below.refl _ _⟩
    · have := run_append_owned_none (P := Tryd.prog) w b1 42 ty 50 i0 12 Tryd.underlying42 hi0 _ R1.length (rcl R1) h1.own
      rw [List.append_nil]
      exact this
    · rw [List.append_nil]; exact CT.ofFq h1
  | some ad =>
    have hcells : ∀ j u, (rcl R2)[j]? = some u → w.cell? (ad.add j) = some u := by
      rcases h2.own.2 with ⟨e, h0⟩ | ⟨g, c, cur, e, _⟩
      · injection e with e1 _ _; cases e1
      · injection e with e1 _ _
        injection e1 with e1
        subst e1
        intro j u hj
        have hadd : (⟨g, 0, none⟩ : Addr).add j = ⟨g, j, none⟩ := by unfold Addr.add; split <;> simp_all
        have hjl := (List.getElem?_eq_some_iff.1 hj).1
        rw [rcl_len] at hjl
        rw [hadd, h2.own.cellAt j (by omega)]
        exact hj
    obtain ⟨v', w', hr, hown, hgrow, _⟩ := run_append_own_wide (P := Tryd.prog) (w := w) b1 42 42 50 i0 z0 12 160 Tryd.underlying42 hi0 hz0 hz1 hz2 hzs (by omega) (.slice a1 R1.length c1) R1.length (rcl R1) h1.own ad R2.length c2 (rcl R2) (rcl_len R2) hcells (fun u hu => by
      unfold rcl at hu
      obtain ⟨r, _, hq⟩ := List.mem_flatMap.1 hu
      exact ccl_one r u hq) (by rw [hm]; omega) (by omega) hle
    obtain ⟨va, vc, rfl, hct, hb⟩ := key v' w' hown hgrow
    exact ⟨va, vc, w', fun ty => hr, hct, hb⟩
/-- told, of what Parse tells -/
theorem told_fc {base : Nat} {w : World} {va : Option Addr} {vc : Nat} {R : List Cr} {t : By} (hF : Fc base w (.slice va R.length vc) R) (hR : R.map (·.c) = prsL t) : Calls Tryd.prog 15 #[.slice va R.length vc] w fun e w' => ∃ vb vd R', e = .returned (.slice vb R'.length vd) ∧ Fq w.heap.size w' (.slice vb R'.length vd) R' ∧ R'.map (·.c) = prsL t ∧ Below w.heap.size w w' := by
  have hp := prs_rd t
  have hl : R.length ≤ 1024 := by have := congrArg List.length hR; rw [List.length_map] at this; omega
  refine Calls.mono (told_any R va vc w (CT.ofFc hF) (by omega) (fun r hr => ?_)) ?_
  · have hc := hp.2 r.c (by rw [← hR]; exact List.mem_map.2 ⟨r, hr, rfl⟩)
    have := hc.ml
    have := hc.kl
    omega
  · rintro e w' ⟨vb, vd, R', rfl, hQ, hRR, b⟩
    exact ⟨vb, vd, R', rfl, hQ, hRR.trans hR, b⟩
theorem same_l {w : World} {la la' : Option Addr} {lc lc' : Nat} {L L' : List Cr} {M : List Cm} (h : L.map (·.c) = M) (h' : L'.map (·.c) = M) (hm : M.length ≤ 100000) (hs : ∀ c ∈ M, Rd1 c) (hL : CT w la L) (hL' : CT w la' L') : Calls Tryd.prog 16 #[.slice la L.length lc, .slice la' L'.length lc'] w fun e w' => e = .returned (.bool true) ∧ Below w.heap.size w w' := by
  have hl : L.length ≤ 100000 := by have := congrArg List.length h; rw [List.length_map] at this; omega
  refine same_eq L L' (h.trans h'.symm) la la' lc lc' w hL hL' (by omega) (fun r hr => ?_)
  have hc := hs r.c (by rw [← h]; exact List.mem_map.2 ⟨r, hr, rfl⟩)
  have := hc.ml
  have := hc.kl
  omega
end Go.Proofs.YtiifkcnpdihlmaaDoor
