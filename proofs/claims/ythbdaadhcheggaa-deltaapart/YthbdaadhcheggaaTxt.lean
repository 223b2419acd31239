/- Bucket, Key, Data, and the document's; pairs. -/
import Derived.Test.YthbdaadhcheggaaNsm
namespace Go.Proofs.Ythbdaadhcheggaa
set_option linter.unusedVariables false
set_option linter.unusedSimpArgs false
open Go.RowKit
attribute [local go_sem ↓] Go.wp_at_zero Go.wp_at_succ
noncomputable def bkt (s : List UInt8) : Int := if smN s 32 = true then 0 else 60
noncomputable def keyE (s : List UInt8) : Int := if 1 ≤ s.length ∧ s.length ≤ 32 then 0 else 61
noncomputable def datE (s : List UInt8) : Int := if s.length ≤ 1024 then 0 else 63
theorem key_any (s : List UInt8) (w : World) : Calls Try.prog 49 #[str s] w fun e w' => e = .returned (.int .i64 (keyE s)) ∧ w' = w := by
  by_cases h0 : s = []
  · subst h0
    have HV : Hid (keyE [] = 61) := ⟨by unfold keyE; rw [if_neg (by simp)]⟩
    go_enter Try.func49, Try.ntmps49
    go_wp2_with fail
    go_ret
    exact ⟨by rw [HV.out]; rfl, rfl⟩
  · have d0 : (s == []) = false := by rw [beq_eq_false_iff_ne]; exact h0
    have hl1 : 1 ≤ s.length := by cases s with | nil => exact absurd rfl h0 | cons x y => simp
    clear h0
    by_cases h1 : s.length ≤ 32
    · have d1 : decide ((32 : Int) < (s.length : Int)) = false := decide_eq_false (by omega)
      have HV : Hid (keyE s = 0) := ⟨by unfold keyE; rw [if_pos ⟨hl1, h1⟩]⟩
      go_enter Try.func49, Try.ntmps49
      go_wp2_with fail
      go_ret
      exact ⟨by rw [HV.out]; rfl, rfl⟩
    · have d1 : decide ((32 : Int) < (s.length : Int)) = true := decide_eq_true (by omega)
      have HV : Hid (keyE s = 61) := ⟨by unfold keyE; rw [if_neg (by omega)]⟩
      go_enter Try.func49, Try.ntmps49
      go_wp2_with fail
      go_ret
      exact ⟨by rw [HV.out]; rfl, rfl⟩
theorem data_any (s : List UInt8) (w : World) : Calls Try.prog 50 #[str s] w fun e w' => e = .returned (.int .i64 (datE s)) ∧ w' = w := by
  by_cases h1 : s.length ≤ 1024
  · have d1 : decide ((1024 : Int) < (s.length : Int)) = false := decide_eq_false (by omega)
    have HV : Hid (datE s = 0) := ⟨by unfold datE; rw [if_pos h1]⟩
    go_enter Try.func50, Try.ntmps50
    go_wp2_with fail
    go_ret
    exact ⟨by rw [HV.out]; rfl, rfl⟩
  · have d1 : decide ((1024 : Int) < (s.length : Int)) = true := decide_eq_true (by omega)
    have HV : Hid (datE s = 63) := ⟨by unfold datE; rw [if_neg h1]⟩
    go_enter Try.func50, Try.ntmps50
    go_wp2_with fail
    go_ret
    exact ⟨by rw [HV.out]; rfl, rfl⟩
theorem rKey_any (s : List UInt8) (w : World) : Calls Try.prog 32 #[str s] w fun e w' => e = .returned (.int .i64 (keyE s)) ∧ w' = w := by
  by_cases h0 : 1 ≤ s.length
  · have d0 : decide ((s.length : Int) < 1) = false := decide_eq_false (by omega)
    by_cases h1 : s.length ≤ 32
    · have d1 : decide ((32 : Int) < (s.length : Int)) = false := decide_eq_false (by omega)
      have HV : Hid (keyE s = 0) := ⟨by unfold keyE; rw [if_pos ⟨h0, h1⟩]⟩
      go_enter Try.func32, Try.ntmps32
      go_wp2_with fail
      go_ret
      exact ⟨by rw [HV.out]; rfl, rfl⟩
    · have d1 : decide ((32 : Int) < (s.length : Int)) = true := decide_eq_true (by omega)
      have HV : Hid (keyE s = 61) := ⟨by unfold keyE; rw [if_neg (by omega)]⟩
      go_enter Try.func32, Try.ntmps32
      go_wp2_with fail
      go_ret
      exact ⟨by rw [HV.out]; rfl, rfl⟩
  · have d0 : decide ((s.length : Int) < 1) = true := decide_eq_true (by omega)
    have HV : Hid (keyE s = 61) := ⟨by unfold keyE; rw [if_neg (by omega)]⟩
    go_enter Try.func32, Try.ntmps32
    go_wp2_with fail
    go_ret
    exact ⟨by rw [HV.out]; rfl, rfl⟩
theorem rData_any (s : List UInt8) (w : World) : Calls Try.prog 33 #[str s] w fun e w' => e = .returned (.int .i64 (datE s)) ∧ w' = w := by
  by_cases h1 : s.length ≤ 1024
  · have d1 : decide ((1024 : Int) < (s.length : Int)) = false := decide_eq_false (by omega)
    have HV : Hid (datE s = 0) := ⟨by unfold datE; rw [if_pos h1]⟩
    go_enter Try.func33, Try.ntmps33
    go_wp2_with fail
    go_ret
    exact ⟨by rw [HV.out]; rfl, rfl⟩
  · have d1 : decide ((1024 : Int) < (s.length : Int)) = true := decide_eq_true (by omega)
    have HV : Hid (datE s = 63) := ⟨by unfold datE; rw [if_neg h1]⟩
    go_enter Try.func33, Try.ntmps33
    go_wp2_with fail
    go_ret
    exact ⟨by rw [HV.out]; rfl, rfl⟩
attribute [local go_sem ↓] ix9
set_option maxHeartbeats 1000000 in
theorem rsmall_any (s : List UInt8) (most : Nat) (hm : most ≤ 1000) (hz : s.length ≤ 9223372036854775806) (w : World) : Calls Try.prog 46 #[str s, .int .i64 (most : Int)] w fun e w' => e = .returned (.bool (smN s most)) ∧ w' = w := by
  go_enter Try.func46, Try.ntmps46
  go_wp2_with fail
  go_loopw [5] (fun i wr => ∃ k : Nat, k ≤ s.length ∧ i = .int .i64 (k : Int) ∧ ((s.take k).all fun b => smc b.toNat) = true ∧ wr = w) (fun i _ => s.length - (intOf i).toNat)
  case atStart => exact ⟨0, by omega, rfl, rfl, rfl⟩
  case round =>
    obtain ⟨k, hk, rfl, ha, rfl⟩ := hrel
    by_cases hp : k < s.length
    · have d1 : decide ((k : Int) < (s.length : Int)) = true := decide_eq_true (by omega)
      obtain ⟨b, hb⟩ : ∃ b, s[k]? = some b := ⟨s[k], List.getElem?_eq_getElem hp⟩
      have hx := fun w => run_ix s k hp w
      have hgd : s.getD k 0 = b := by rw [List.getD_eq_getElem?_getD, hb]; rfl
      rw [hgd] at hx
      have hb256 := b.toNat_lt
      generalize hc : b.toNat = c at *
      by_cases hs : smc c = true
      · have HA := Hid.mk (all_next hb ha (by rw [hc]; exact hs))
        clear ha
        have hs2 := of_decide_eq_true hs
        clear hs hgd hb
        by_cases e1 : c = 45
        · subst e1
          go_wp2_with fail
          exact ⟨⟨k + 1, by omega, by go_num, HA.out, trivial⟩, by simp [intOf]; omega⟩
        · have d2 : ((c : Int) == 45) = false := by rw [beq_eq_false_iff_ne]; omega
          by_cases e2 : c < 97
          · have d3 : decide ((c : Int) < 97) = true := decide_eq_true (by omega)
            have d4 : decide ((c : Int) < 48) = false := decide_eq_false (by omega)
            have d5 : decide ((57 : Int) < (c : Int)) = false := decide_eq_false (by omega)
            go_wp2_with fail
            exact ⟨⟨k + 1, by omega, by go_num, HA.out, trivial⟩, by simp [intOf]; omega⟩
          · have d3 : decide ((c : Int) < 97) = false := decide_eq_false (by omega)
            have d4 : decide ((122 : Int) < (c : Int)) = false := decide_eq_false (by omega)
            go_wp2_with fail
            exact ⟨⟨k + 1, by omega, by go_num, HA.out, trivial⟩, by simp [intOf]; omega⟩
      · have hs' : smc c = false := by simpa using hs
        have HV := Hid.mk (smN_f2 (most := most) (List.mem_of_getElem? hb) (by rw [hc]; exact hs'))
        have hs2 := of_decide_eq_false hs'
        clear hs hs' hgd hb ha
        have d2 : ((c : Int) == 45) = false := by rw [beq_eq_false_iff_ne]; omega
        by_cases e2 : c < 97
        · have d3 : decide ((c : Int) < 97) = true := decide_eq_true (by omega)
          by_cases e3 : c < 48
          · have d4 : decide ((c : Int) < 48) = true := decide_eq_true (by omega)
            go_wp2_with fail
            go_ret
            exact ⟨by rw [HV.out]; rfl, rfl⟩
          · have d4 : decide ((c : Int) < 48) = false := decide_eq_false (by omega)
            have d5 : decide ((57 : Int) < (c : Int)) = true := decide_eq_true (by omega)
            go_wp2_with fail
            go_ret
            exact ⟨by rw [HV.out]; rfl, rfl⟩
        · have d3 : decide ((c : Int) < 97) = false := decide_eq_false (by omega)
          have d4 : decide ((122 : Int) < (c : Int)) = true := decide_eq_true (by omega)
          have d5 : decide ((c : Int) < 48) = false := decide_eq_false (by omega)
          have d6 : decide ((57 : Int) < (c : Int)) = true := decide_eq_true (by omega)
          go_wp2_with fail
          go_ret
          exact ⟨by rw [HV.out]; rfl, rfl⟩
    · obtain rfl : k = s.length := by omega
      have d1 : decide ((s.length : Int) < (s.length : Int)) = false := decide_eq_false (by omega)
      rw [List.take_length] at ha
      by_cases e1 : 1 ≤ s.length
      · have d2 : decide ((1 : Int) ≤ (s.length : Int)) = true := decide_eq_true (by omega)
        by_cases e2 : s.length ≤ most
        · have d3 : decide ((s.length : Int) ≤ (most : Int)) = true := decide_eq_true (by omega)
          have HV := Hid.mk (smN_t (most := most) ⟨e1, e2⟩ ha)
          clear ha
          go_wp2_with fail
          go_ret
          exact ⟨by rw [HV.out]; rfl, rfl⟩
        · have d3 : decide ((s.length : Int) ≤ (most : Int)) = false := decide_eq_false (by omega)
          have HV := Hid.mk (smN_f1 (s := s) (most := most) (by omega))
          clear ha
          go_wp2_with fail
          go_ret
          exact ⟨by rw [HV.out]; rfl, rfl⟩
      · have d2 : decide ((1 : Int) ≤ (s.length : Int)) = false := decide_eq_false (by omega)
        have HV := Hid.mk (smN_f1 (s := s) (most := most) (by omega))
        clear ha
        go_wp2_with fail
        go_ret
        exact ⟨by rw [HV.out]; rfl, rfl⟩
/-- may metadata have such a pair? -/
noncomputable def prb (p : En) : Bool := smN p.key 16 && decide (p.val.length ≤ 64)
theorem isPair_any (p : En) (w : World) : Calls Try.prog 54 #[pv p] w fun e w' => e = .returned (.bool (prb p)) ∧ Below w.heap.size w w' := by
  have hi := fun w => isSmallName_any p.key 16 (by omega) w
  obtain ⟨k, v⟩ := p
  dsimp only at hi
  have hbx : Below w.heap.size w (w.alloc (.cells #[str k, str v] 51)) := (Below.refl _ _).alloc (Nat.le_refl _) _
  by_cases h : smN k 16 = true
  · rw [h] at hi
    by_cases h2 : v.length ≤ 64
    · have d2 : decide ((v.length : Int) ≤ 64) = true := decide_eq_true (by omega)
      have HV : Hid (prb ⟨k, v⟩ = true) := ⟨by unfold prb; rw [h, decide_eq_true h2]; rfl⟩
      clear h
      go_enter Try.func54, Try.ntmps54
      go_wp2_with (go_at_call 57; refine (hi _).mono ?_; rintro e w1 ⟨rfl, b1⟩; obtain ⟨x0, x1⟩ := new2 b1)
      go_ret
      exact ⟨by rw [HV.out]; rfl, hbx.trans (b1.mono (by simp))⟩
    · have d2 : decide ((v.length : Int) ≤ 64) = false := decide_eq_false (by omega)
      have HV : Hid (prb ⟨k, v⟩ = false) := ⟨by unfold prb; rw [decide_eq_false h2]; simp⟩
      clear h
      go_enter Try.func54, Try.ntmps54
      go_wp2_with (go_at_call 57; refine (hi _).mono ?_; rintro e w1 ⟨rfl, b1⟩; obtain ⟨x0, x1⟩ := new2 b1)
      go_ret
      exact ⟨by rw [HV.out]; rfl, hbx.trans (b1.mono (by simp))⟩
  · have h' : smN k 16 = false := by simpa using h
    rw [h'] at hi
    have HV : Hid (prb ⟨k, v⟩ = false) := ⟨by unfold prb; rw [h']; rfl⟩
    clear h h'
    go_enter Try.func54, Try.ntmps54
    go_wp2_with (go_at_call 57; refine (hi _).mono ?_; rintro e w1 ⟨rfl, b1⟩; obtain ⟨x0, x1⟩ := new2 b1)
    go_ret
    exact ⟨by rw [HV.out]; rfl, hbx.trans (b1.mono (by simp))⟩
end Go.Proofs.Ythbdaadhcheggaa
