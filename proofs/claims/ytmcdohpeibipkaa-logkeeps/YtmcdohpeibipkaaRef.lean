/- The document's log: New, Read, Takes, Sure, With. -/
import Derived.Test.YtmcdohpeibipkaaCrd
namespace Go.Proofs.Ytmcdohpeibipkaa
set_option linter.unusedVariables false
set_option linter.unusedSimpArgs false
open Go.RowKit
/-- what Takes tells -/
def tk (nb s : Nat) (l : Il) : Int := if rightB nb l then (if s < l.length then 41 else 0) else 1
theorem okd (nb : Nat) (z : Int) : okN nb z = true ↔ 0 ≤ z ∧ z < nb := by simp [okN]
theorem wpt (k n : Nat) (h : k < n) (hn : n ≤ 20000000000000) : wrap64 ((k : Int) + 1) = ((k + 1 : Nat) : Int) := by unfold wrap64; omega
theorem nlt' (z : Int) (h : ¬ (0 ≤ z)) : z < 0 := by omega
theorem gle (z : Int) (n : Nat) (h : ¬ (z < (n : Int))) : (n : Int) ≤ z := by omega
theorem sz_ne (T : ByteArray) (h : ¬ T.size = 512) : ((T.size : Int) == 512) = false := by rw [beq_eq_false_iff_ne]; omega
set_option maxHeartbeats 2000000 in
set_option maxRecDepth 100000 in
theorem takes_any (w : World) (r s : Nat) (nb : Nat) (ba : Option Addr) (bc : Nat) (c0 : w.cell? ⟨r, 0, none⟩ = some (.int .i64 (s : Int))) (c1 : w.cell? ⟨r, 1, none⟩ = some (.slice ba nb bc)) (a : Option Addr) (cap : Nat) (l : Il) (hin : WIn w a l) (hl : l.length ≤ 20000000000000) {n : Nat} (hn : n = l.length) :
    Calls Try.prog 67 #[pt r, .slice a n cap] w fun e w' => e = .returned (.int .i64 (tk nb s l)) ∧ ∃ m, w' = w.drewN m := by
  subst hn
  have HI : Hid (WIn w a l) := ⟨hin⟩
  obtain ⟨R, hR⟩ : ∃ R, tk nb s l = R := ⟨_, rfl⟩
  have HR : Hid (tk nb s l = R) := ⟨hR⟩
  rw [hR]
  clear hin hR
  go_enter Try.func67, Try.ntmps67
  go_wp2_with fail
  go_loopw [5] (fun i wr => ∃ k m : Nat, k ≤ l.length ∧ i = .int .i64 (k : Int) ∧ wr = w.drewN m ∧ Hid (rightB nb (l.take k) = true)) (fun i _ => l.length - (intOf i).toNat)
  case atStart => exact ⟨0, 0, Nat.zero_le _, rfl, rfl, ⟨by simp [rightB]⟩⟩
  case round =>
    obtain ⟨k, m, hk, rfl, rfl, HG⟩ := hrel
    by_cases hlt : k < l.length
    · obtain ⟨⟨z, T⟩, hz⟩ : ∃ z, l[k]? = some z := ⟨_, List.getElem?_eq_getElem hlt⟩
      obtain ⟨b, off, rfl, cN, cT⟩ := HI.out k _ hz
      simp only at cN cT
      have hst := right_step (n := nb) hz
      rw [HG.out, Bool.true_and] at hst
      simp only at hst
      have HST : Hid (rightB nb (l.take (k + 1)) = (okN nb z && decide (T.size = 512) && !decide (z ∈ (l.map Prod.fst).take k))) := ⟨hst⟩
      have HZ : Hid ((l.map Prod.fst)[k]? = some z) := ⟨by rw [List.getElem?_map, hz]; rfl⟩
      have hi := ltk k _ hlt
      have hw1 := wpt k _ hlt hl
      have bad : Hid (rightB nb (l.take (k + 1)) = false → R = 1) := ⟨fun h => by rw [← HR.out]; unfold tk; rw [right_not h]; rfl⟩
      clear hz hst
      by_cases hz0 : 0 ≤ z
      · by_cases hzn : z < (nb : Int)
        · have hok : okN nb z = true := (okd nb z).2 ⟨hz0, hzn⟩
          by_cases h512 : T.size = 512
          · have hTi : (T.size : Int) = 512 := by omega
            have d0 : decide (z < 0) = false := decide_eq_false (by omega)
            have d1 : decide ((nb : Int) ≤ z) = false := decide_eq_false (by omega)
            have HST2 : Hid (rightB nb (l.take (k + 1)) = !decide (z ∈ (l.map Prod.fst).take k)) := ⟨by rw [HST.out, hok, decide_eq_true h512]; rfl⟩
            clear HST hok h512
            go_wp2_with fail
            go_quiet (fail)
            clear d0 d1 hTi hz0 hzn
            go_wp2_with fail
            go_loopw [6] (fun i wr => ∃ j m : Nat, j ≤ k ∧ i = .int .i64 (j : Int) ∧ wr = w.drewN m ∧ Hid (z ∉ (l.map Prod.fst).take j)) (fun i _ => k - (intOf i).toNat)
            case atStart => exact ⟨0, _, Nat.zero_le _, rfl, World.drewN_drewN .., ⟨by simp⟩⟩
            case round =>
              obtain ⟨j, m2, hj, rfl, rfl, HJ⟩ := hrel
              by_cases hjl : j < k
              · obtain ⟨⟨y, T2⟩, hy⟩ : ∃ z, l[j]? = some z := ⟨_, List.getElem?_eq_getElem (Nat.lt_trans hjl hlt)⟩
                obtain ⟨b2, off2, e2, cN2, _⟩ := HI.out j _ hy
                injection e2 with e2
                injection e2 with e3 e4
                subst e3 e4
                simp only at cN2
                have hyk : (l.map Prod.fst)[j]? = some y := by rw [List.getElem?_map, hy]; rfl
                have hms := mem_take_succ _ j z y hyk
                have hji := ltk j _ hjl
                have hjL := ltk j _ (Nat.lt_trans hjl hlt)
                have hw2 := wpt j _ (Nat.lt_trans hjl hlt) hl
                by_cases hyz : y = z
                · have hmem : z ∈ (l.map Prod.fst).take k := by
                    rw [← hyz]
                    have := (List.getElem?_eq_some_iff.1 hyk).1
                    exact List.mem_of_getElem? (i := j) (by rw [List.getElem?_take, if_pos hjl]; exact hyk)
                  have hR1 : R = 1 := bad.out (by rw [HST2.out, decide_eq_true hmem]; rfl)
                  subst hR1
                  have dz : decide (y = z) = true := decide_eq_true hyz
                  subst hyz
                  clear hy hyk hms hmem
                  go_wp2_with fail
                  go_quiet (fail)
                  go_wp2
                  go_ret
                  exact ⟨rfl, _, World.drewN_drewN ..⟩
                · have HJ2 : Hid (z ∉ (l.map Prod.fst).take (j + 1)) := ⟨fun h => by
                    have h2 := decide_eq_true h
                    rw [hms, decide_eq_false HJ.out, Bool.false_or] at h2
                    exact hyz (by simpa using h2)⟩
                  clear hy hyk hms
                  go_wp2_with fail
                  go_quiet (fail)
                  go_wp2
                  exact ⟨⟨j + 1, _, hjl, by go_num, rfl, HJ2⟩, meask j _ hjl⟩
              · have hje : j = k := Nat.le_antisymm hj (Nat.le_of_not_lt hjl)
                subst hje
                have hji := nlt j
                have HG2 : Hid (rightB nb (l.take (j + 1)) = true) := ⟨by rw [HST2.out, decide_eq_false HJ.out]; rfl⟩
                go_wp2
                exact ⟨⟨j + 1, m2, hlt, by go_num, rfl, HG2⟩, meask j _ hlt⟩
          · have hR1 : R = 1 := bad.out (by rw [HST.out, decide_eq_false h512, Bool.and_false, Bool.false_and])
            subst hR1
            have hTi := sz_ne T h512
            have d0 : decide (z < 0) = false := decide_eq_false (by omega)
            have d1 : decide ((nb : Int) ≤ z) = false := decide_eq_false (by omega)
            clear HST hok
            go_wp2_with fail
            go_quiet (fail)
            go_wp2
            go_ret
            exact ⟨rfl, _, World.drewN_drewN ..⟩
        · have hR1 : R = 1 := bad.out (by rw [HST.out]; have : okN nb z = false := by { cases h : okN nb z with | false => rfl | true => exact absurd ((okd nb z).1 h).2 hzn }; rw [this]; rfl)
          subst hR1
          have d0 : decide (z < 0) = false := decide_eq_false (by omega)
          have d1 : decide ((nb : Int) ≤ z) = true := decide_eq_true (gle z nb hzn)
          clear HST
          go_wp2_with fail
          go_quiet (fail)
          go_wp2
          go_ret
          exact ⟨rfl, _, World.drewN_drewN ..⟩
      · have hR1 : R = 1 := bad.out (by rw [HST.out]; have : okN nb z = false := by { cases h : okN nb z with | false => rfl | true => exact absurd ((okd nb z).1 h).1 hz0 }; rw [this]; rfl)
        subst hR1
        have d0 : decide (z < 0) = true := decide_eq_true (nlt' z hz0)
        clear HST
        go_wp2_with fail
        go_quiet (fail)
        go_wp2
        go_ret
        exact ⟨rfl, _, World.drewN_drewN ..⟩
    · have hke : k = l.length := Nat.le_antisymm hk (Nat.le_of_not_lt hlt)
      subst hke
      have hi := nlt l.length
      rw [List.take_length] at HG
      by_cases hsl : s < l.length
      · have hR1 : R = 41 := by rw [← HR.out]; unfold tk; rw [HG.out, if_pos rfl, if_pos hsl]
        subst hR1
        have hsi := ltk s _ hsl
        go_wp2
        go_ret
        exact ⟨rfl, m, rfl⟩
      · have hR1 : R = 0 := by rw [← HR.out]; unfold tk; rw [HG.out, if_pos rfl, if_neg hsl]
        subst hR1
        have hsi : ¬ ((s : Int) < (l.length : Int)) := by omega
        go_wp2
        go_ret
        exact ⟨rfl, m, rfl⟩
end Go.Proofs.Ytmcdohpeibipkaa
