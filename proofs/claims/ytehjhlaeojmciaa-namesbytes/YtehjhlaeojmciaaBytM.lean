/- NamesBytes: the walk. -/
import Derived.Test.YtehjhlaeojmciaaFst
namespace Go.Proofs.Ytehjhlaeojmciaa
set_option linter.unusedVariables false
set_option linter.unusedSimpArgs false
open Go.RowKit
attribute [local go_sem ↓] Go.wp_at_zero Go.wp_at_succ
theorem bkt_one (b : UInt8) : bkt [b] = if smc b.toNat = true then 0 else 60 := by
  unfold bkt smN
  cases h : smc b.toNat <;> simp [h]
theorem bkt_or (s : List UInt8) : bkt s = 0 ∨ bkt s = 60 := by unfold bkt; split <;> simp
/-- each so far -/
def eac (s : List UInt8) (k : Nat) : Bool := decide (1 ≤ s.length ∧ s.length ≤ 32) && (s.take k).all fun b => smc b.toNat
theorem eac_next {s : List UInt8} {k : Nat} {b : UInt8} (h : s[k]? = some b) : eac s (k + 1) = (eac s k && smc b.toNat) := by
  unfold eac
  rw [List.take_add_one, h, List.all_append]
  simp [Bool.and_assoc]
theorem eac_end {s : List UInt8} {k : Nat} (h : ¬ (k < s.length ∧ k < 32)) : eac s k = smN s 32 := by
  unfold eac smN
  by_cases h2 : 1 ≤ s.length ∧ s.length ≤ 32
  · rw [List.take_of_length_le (by omega)]
  · rw [decide_eq_false h2]; rfl
theorem smN_16 (s : List UInt8) : smN s 16 = (smN s 32 && decide (s.length ≤ 16)) := by
  unfold smN
  by_cases h2 : s.length ≤ 16
  · by_cases h1 : 1 ≤ s.length
    · rw [decide_eq_true (⟨h1, h2⟩ : 1 ≤ s.length ∧ s.length ≤ 16), decide_eq_true (⟨h1, by omega⟩ : 1 ≤ s.length ∧ s.length ≤ 32), decide_eq_true h2]; simp
    · rw [decide_eq_false (fun h => h1 h.1), decide_eq_false (fun h => h1 h.1)]; rfl
  · rw [decide_eq_false (fun h => h2 h.2), decide_eq_false h2]; simp
theorem mtE_one (s : List UInt8) : mtE [⟨s, []⟩] = if smN s 16 = true then 0 else 62 := by
  unfold mtE
  by_cases h : smN s 16 = true
  · rw [if_pos h, if_pos]
    refine ⟨by simp, ?_, srt_one _⟩
    intro p hp
    simp at hp
    subst hp
    exact prb_t h (by simp)
  · rw [if_neg h, if_neg]
    rintro ⟨_, h2, _⟩
    have := h2 ⟨s, []⟩ (by simp)
    unfold prb at this
    simp at this
    exact h this
attribute [local go_sem ↓] sl9
theorem run_one (l : List UInt8) (i : Nat) (b : UInt8) (h : l[i]? = some b) (hl : l.length ≤ 9223372036854775806) (w : World) : (slS (str l) (some (.int .i64 (i : Int))) (some (.int .i64 ((i : Int) + 1))) none).run Try.prog w = .ok (str [b]) w := by
  have hlt := (List.getElem?_eq_some_iff.1 h).1
  have := run_mid l i (i + 1) (by omega) (by omega) (by omega) w
  rw [show (l.drop i).take (i + 1 - i) = [b] from ?_] at this
  · exact this
  · rw [Nat.add_sub_cancel_left, List.drop_eq_getElem_cons hlt, (List.getElem?_eq_some_iff.1 h).2]; rfl
set_option maxHeartbeats 4000000 in
theorem bytes_a (s : List UInt8) (W : World) (hs : s.length ≤ 140737488351232) (ha : 1 ≤ s.length) (hb : s.length ≤ 32) :
    Calls Try.prog 3 #[str s] W fun e W' => e = .returned (.bool true) ∧ Below W.heap.size W W' := by
  have h1 := fun w => bucket_any s w
  have HREST : Hid (∀ k, ¬ (k < s.length ∧ k < 32) → eac s k = smN s 32) := ⟨fun k h => eac_end h⟩
  have hE : Hid (eac s 0 = true) := ⟨by unfold eac; simp; omega⟩
  have e1 : decide ((1 : Int) ≤ (s.length : Int)) = true := decide_eq_true (by omega)
  have e2 : decide ((s.length : Int) ≤ 32) = true := decide_eq_true (by omega)
  go_enter Try.func3, Try.ntmps3
  go_wp2_with (go_at_call 9; refine (first_any _).mono ?_; rintro e w1 ⟨rfl, b1⟩)
  go_loopw [3, 4] (fun ea i wr => ∃ k : Nat, k ≤ s.length ∧ k ≤ 32 ∧ i = .int .i64 (k : Int) ∧ ea = .bool (eac s k) ∧ Below W.heap.size W wr) (fun _ i _ => 32 - (intOf i).toNat)
  case atStart => exact ⟨0, by omega, by omega, rfl, by rw [hE.out], b1⟩
  case round =>
    obtain ⟨k, hk, hk32, rfl, rfl, hb⟩ := hrel
    by_cases hko : k < s.length ∧ k < 32
    · have d1 : decide ((k : Int) < (s.length : Int)) = true := decide_eq_true (by omega)
      have d2 : decide ((k : Int) < 32) = true := decide_eq_true (by omega)
      obtain ⟨b, hbk⟩ : ∃ b, s[k]? = some b := ⟨s[k]'hko.1, List.getElem?_eq_getElem hko.1⟩
      have hx := fun w => run_one s k b hbk (by omega) w
      have h2 := fun w => bucket_any [b] w
      have HN := Hid.mk (eac_next hbk)
      rw [bkt_one] at h2
      generalize eac s k = E at *
      by_cases hc : smc b.toNat = true
      · rw [hc, Bool.and_true] at HN
        rw [if_pos hc] at h2
        clear hc hbk
        go_wp2_with (go_at_call 10; refine (h2 _).mono ?_; rintro e w2 ⟨rfl, b2⟩)
        exact ⟨⟨k + 1, by omega, by omega, by go_num, by rw [HN.out], hb.trans (b2.mono hb.size)⟩, by simp [intOf]; omega⟩
      · rw [if_neg hc] at h2
        have hc' : smc b.toNat = false := by simpa using hc
        rw [hc', Bool.and_false] at HN
        clear hc hc' hbk
        go_wp2_with (go_at_call 10; refine (h2 _).mono ?_; rintro e w2 ⟨rfl, b2⟩)
        exact ⟨⟨k + 1, by omega, by omega, by go_num, by rw [HN.out], hb.trans (b2.mono hb.size)⟩, by simp [intOf]; omega⟩
    · by_cases hk1 : k < s.length
      · have d1 : decide ((k : Int) < (s.length : Int)) = true := decide_eq_true (by omega)
        have d2 : decide ((k : Int) < 32) = false := decide_eq_false (by omega)
        have HE := HREST.out k hko
        rw [HE]
        clear HE hko HREST
        by_cases hS : smN s 32 = true
        · have hv : bkt s = 0 := by unfold bkt; rw [if_pos hS]
          rw [hv] at h1
          rw [hS]
          by_cases h16 : s.length ≤ 16
          · have d16 : decide ((s.length : Int) ≤ 16) = true := decide_eq_true (by omega)
            have hv2 : mtE [⟨s, []⟩] = 0 := by rw [mtE_one, smN_16, hS]; simp; omega
            have hm := fun w a h => meta_any [⟨s, []⟩] w a 1 1 rfl h (by simp)
            rw [hv2] at hm
            clear hv hv2
            go_wp2_with fail
            with_reducible refine Calls.mono (h1 _) ?_
            rintro e w5 ⟨rfl, b5⟩
            dsimp only
            have B5 := hb.trans (b5.mono hb.size)
            have s5 : Sl (w5.alloc (.cells #[str s, str []] 27)) (some ⟨w5.heap.size, 0, none⟩) 1 [⟨s, []⟩] := sl_new [⟨s, []⟩] (by simp)
            have B6 : Below W.heap.size W (w5.alloc (.cells #[str s, str []] 27)) := B5.alloc B5.size _
            go_wp2_with fail
            with_reducible refine Calls.mono (hm _ _ s5.at') ?_
            rintro e w7 ⟨rfl, b7⟩
            dsimp only
            go_wp2_with fail
            go_ret
            exact ⟨rfl, B6.trans (b7.mono B6.size)⟩
          · have d16 : decide ((s.length : Int) ≤ 16) = false := decide_eq_false (by omega)
            have hv2 : mtE [⟨s, []⟩] = 62 := by rw [mtE_one, smN_16, hS]; simp; omega
            have hm := fun w a h => meta_any [⟨s, []⟩] w a 1 1 rfl h (by simp)
            rw [hv2] at hm
            clear hv hv2
            go_wp2_with fail
            with_reducible refine Calls.mono (h1 _) ?_
            rintro e w5 ⟨rfl, b5⟩
            dsimp only
            have B5 := hb.trans (b5.mono hb.size)
            have s5 : Sl (w5.alloc (.cells #[str s, str []] 27)) (some ⟨w5.heap.size, 0, none⟩) 1 [⟨s, []⟩] := sl_new [⟨s, []⟩] (by simp)
            have B6 : Below W.heap.size W (w5.alloc (.cells #[str s, str []] 27)) := B5.alloc B5.size _
            go_wp2_with fail
            with_reducible refine Calls.mono (hm _ _ s5.at') ?_
            rintro e w7 ⟨rfl, b7⟩
            dsimp only
            go_wp2_with fail
            go_ret
            exact ⟨rfl, B6.trans (b7.mono B6.size)⟩
        · have hS' : smN s 32 = false := by simpa using hS
          have hv : bkt s = 60 := by unfold bkt; rw [if_neg hS]
          rw [hv] at h1
          rw [hS']
          have hv2 : mtE [⟨s, []⟩] = 62 := by rw [mtE_one, smN_16, hS']; simp
          have hm := fun w a h => meta_any [⟨s, []⟩] w a 1 1 rfl h (by simp)
          rw [hv2] at hm
          clear hv hv2
          go_wp2_with fail
          with_reducible refine Calls.mono (h1 _) ?_
          rintro e w5 ⟨rfl, b5⟩
          dsimp only
          have B5 := hb.trans (b5.mono hb.size)
          have s5 : Sl (w5.alloc (.cells #[str s, str []] 27)) (some ⟨w5.heap.size, 0, none⟩) 1 [⟨s, []⟩] := sl_new [⟨s, []⟩] (by simp)
          have B6 : Below W.heap.size W (w5.alloc (.cells #[str s, str []] 27)) := B5.alloc B5.size _
          go_wp2_with fail
          with_reducible refine Calls.mono (hm _ _ s5.at') ?_
          rintro e w7 ⟨rfl, b7⟩
          dsimp only
          go_wp2_with fail
          go_ret
          exact ⟨rfl, B6.trans (b7.mono B6.size)⟩
      · have d1 : decide ((k : Int) < (s.length : Int)) = false := decide_eq_false (by omega)
        have HE := HREST.out k hko
        rw [HE]
        clear HE hko HREST
        by_cases hS : smN s 32 = true
        · have hv : bkt s = 0 := by unfold bkt; rw [if_pos hS]
          rw [hv] at h1
          rw [hS]
          by_cases h16 : s.length ≤ 16
          · have d16 : decide ((s.length : Int) ≤ 16) = true := decide_eq_true (by omega)
            have hv2 : mtE [⟨s, []⟩] = 0 := by rw [mtE_one, smN_16, hS]; simp; omega
            have hm := fun w a h => meta_any [⟨s, []⟩] w a 1 1 rfl h (by simp)
            rw [hv2] at hm
            clear hv hv2
            go_wp2_with fail
            with_reducible refine Calls.mono (h1 _) ?_
            rintro e w5 ⟨rfl, b5⟩
            dsimp only
            have B5 := hb.trans (b5.mono hb.size)
            have s5 : Sl (w5.alloc (.cells #[str s, str []] 27)) (some ⟨w5.heap.size, 0, none⟩) 1 [⟨s, []⟩] := sl_new [⟨s, []⟩] (by simp)
            have B6 : Below W.heap.size W (w5.alloc (.cells #[str s, str []] 27)) := B5.alloc B5.size _
            go_wp2_with fail
            with_reducible refine Calls.mono (hm _ _ s5.at') ?_
            rintro e w7 ⟨rfl, b7⟩
            dsimp only
            go_wp2_with fail
            go_ret
            exact ⟨rfl, B6.trans (b7.mono B6.size)⟩
          · have d16 : decide ((s.length : Int) ≤ 16) = false := decide_eq_false (by omega)
            have hv2 : mtE [⟨s, []⟩] = 62 := by rw [mtE_one, smN_16, hS]; simp; omega
            have hm := fun w a h => meta_any [⟨s, []⟩] w a 1 1 rfl h (by simp)
            rw [hv2] at hm
            clear hv hv2
            go_wp2_with fail
            with_reducible refine Calls.mono (h1 _) ?_
            rintro e w5 ⟨rfl, b5⟩
            dsimp only
            have B5 := hb.trans (b5.mono hb.size)
            have s5 : Sl (w5.alloc (.cells #[str s, str []] 27)) (some ⟨w5.heap.size, 0, none⟩) 1 [⟨s, []⟩] := sl_new [⟨s, []⟩] (by simp)
            have B6 : Below W.heap.size W (w5.alloc (.cells #[str s, str []] 27)) := B5.alloc B5.size _
            go_wp2_with fail
            with_reducible refine Calls.mono (hm _ _ s5.at') ?_
            rintro e w7 ⟨rfl, b7⟩
            dsimp only
            go_wp2_with fail
            go_ret
            exact ⟨rfl, B6.trans (b7.mono B6.size)⟩
        · have hS' : smN s 32 = false := by simpa using hS
          have hv : bkt s = 60 := by unfold bkt; rw [if_neg hS]
          rw [hv] at h1
          rw [hS']
          have hv2 : mtE [⟨s, []⟩] = 62 := by rw [mtE_one, smN_16, hS']; simp
          have hm := fun w a h => meta_any [⟨s, []⟩] w a 1 1 rfl h (by simp)
          rw [hv2] at hm
          clear hv hv2
          go_wp2_with fail
          with_reducible refine Calls.mono (h1 _) ?_
          rintro e w5 ⟨rfl, b5⟩
          dsimp only
          have B5 := hb.trans (b5.mono hb.size)
          have s5 : Sl (w5.alloc (.cells #[str s, str []] 27)) (some ⟨w5.heap.size, 0, none⟩) 1 [⟨s, []⟩] := sl_new [⟨s, []⟩] (by simp)
          have B6 : Below W.heap.size W (w5.alloc (.cells #[str s, str []] 27)) := B5.alloc B5.size _
          go_wp2_with fail
          with_reducible refine Calls.mono (hm _ _ s5.at') ?_
          rintro e w7 ⟨rfl, b7⟩
          dsimp only
          go_wp2_with fail
          go_ret
          exact ⟨rfl, B6.trans (b7.mono B6.size)⟩
set_option maxHeartbeats 4000000 in
theorem bytes_b (s : List UInt8) (W : World) (hs : s.length ≤ 140737488351232) (ha : 1 ≤ s.length) (hb : ¬ s.length ≤ 32) :
    Calls Try.prog 3 #[str s] W fun e W' => e = .returned (.bool true) ∧ Below W.heap.size W W' := by
  have h1 := fun w => bucket_any s w
  have HREST : Hid (∀ k, ¬ (k < s.length ∧ k < 32) → eac s k = smN s 32) := ⟨fun k h => eac_end h⟩
  have hE : Hid (eac s 0 = false) := ⟨by unfold eac; simp; omega⟩
  have e1 : decide ((1 : Int) ≤ (s.length : Int)) = true := decide_eq_true (by omega)
  have e2 : decide ((s.length : Int) ≤ 32) = false := decide_eq_false (by omega)
  go_enter Try.func3, Try.ntmps3
  go_wp2_with (go_at_call 9; refine (first_any _).mono ?_; rintro e w1 ⟨rfl, b1⟩)
  go_loopw [3, 4] (fun ea i wr => ∃ k : Nat, k ≤ s.length ∧ k ≤ 32 ∧ i = .int .i64 (k : Int) ∧ ea = .bool (eac s k) ∧ Below W.heap.size W wr) (fun _ i _ => 32 - (intOf i).toNat)
  case atStart => exact ⟨0, by omega, by omega, rfl, by rw [hE.out], b1⟩
  case round =>
    obtain ⟨k, hk, hk32, rfl, rfl, hb⟩ := hrel
    by_cases hko : k < s.length ∧ k < 32
    · have d1 : decide ((k : Int) < (s.length : Int)) = true := decide_eq_true (by omega)
      have d2 : decide ((k : Int) < 32) = true := decide_eq_true (by omega)
      obtain ⟨b, hbk⟩ : ∃ b, s[k]? = some b := ⟨s[k]'hko.1, List.getElem?_eq_getElem hko.1⟩
      have hx := fun w => run_one s k b hbk (by omega) w
      have h2 := fun w => bucket_any [b] w
      have HN := Hid.mk (eac_next hbk)
      rw [bkt_one] at h2
      generalize eac s k = E at *
      by_cases hc : smc b.toNat = true
      · rw [hc, Bool.and_true] at HN
        rw [if_pos hc] at h2
        clear hc hbk
        go_wp2_with (go_at_call 10; refine (h2 _).mono ?_; rintro e w2 ⟨rfl, b2⟩)
        exact ⟨⟨k + 1, by omega, by omega, by go_num, by rw [HN.out], hb.trans (b2.mono hb.size)⟩, by simp [intOf]; omega⟩
      · rw [if_neg hc] at h2
        have hc' : smc b.toNat = false := by simpa using hc
        rw [hc', Bool.and_false] at HN
        clear hc hc' hbk
        go_wp2_with (go_at_call 10; refine (h2 _).mono ?_; rintro e w2 ⟨rfl, b2⟩)
        exact ⟨⟨k + 1, by omega, by omega, by go_num, by rw [HN.out], hb.trans (b2.mono hb.size)⟩, by simp [intOf]; omega⟩
    · by_cases hk1 : k < s.length
      · have d1 : decide ((k : Int) < (s.length : Int)) = true := decide_eq_true (by omega)
        have d2 : decide ((k : Int) < 32) = false := decide_eq_false (by omega)
        have HE := HREST.out k hko
        rw [HE]
        clear HE hko HREST
        have hS' : smN s 32 = false := smN_f1 (by omega)
        have hS : ¬ smN s 32 = true := by rw [hS']; decide
        have hv : bkt s = 60 := by unfold bkt; rw [if_neg hS]
        rw [hv] at h1
        rw [hS']
        have hv2 : mtE [⟨s, []⟩] = 62 := by rw [mtE_one, smN_16, hS']; simp
        have hm := fun w a h => meta_any [⟨s, []⟩] w a 1 1 rfl h (by simp)
        rw [hv2] at hm
        clear hv hv2
        go_wp2_with fail
        with_reducible refine Calls.mono (h1 _) ?_
        rintro e w5 ⟨rfl, b5⟩
        dsimp only
        have B5 := hb.trans (b5.mono hb.size)
        have s5 : Sl (w5.alloc (.cells #[str s, str []] 27)) (some ⟨w5.heap.size, 0, none⟩) 1 [⟨s, []⟩] := sl_new [⟨s, []⟩] (by simp)
        have B6 : Below W.heap.size W (w5.alloc (.cells #[str s, str []] 27)) := B5.alloc B5.size _
        go_wp2_with fail
        with_reducible refine Calls.mono (hm _ _ s5.at') ?_
        rintro e w7 ⟨rfl, b7⟩
        dsimp only
        go_wp2_with fail
        go_ret
        exact ⟨rfl, B6.trans (b7.mono B6.size)⟩
      · have d1 : decide ((k : Int) < (s.length : Int)) = false := decide_eq_false (by omega)
        omega
set_option maxHeartbeats 4000000 in
theorem bytes_c (s : List UInt8) (W : World) (hs : s.length ≤ 140737488351232) (ha : ¬ 1 ≤ s.length) :
    Calls Try.prog 3 #[str s] W fun e W' => e = .returned (.bool true) ∧ Below W.heap.size W W' := by
  have h1 := fun w => bucket_any s w
  have HREST : Hid (∀ k, ¬ (k < s.length ∧ k < 32) → eac s k = smN s 32) := ⟨fun k h => eac_end h⟩
  have hE : Hid (eac s 0 = false) := ⟨by unfold eac; simp; omega⟩
  have e1 : decide ((1 : Int) ≤ (s.length : Int)) = false := decide_eq_false (by omega)
  go_enter Try.func3, Try.ntmps3
  go_wp2_with (go_at_call 9; refine (first_any _).mono ?_; rintro e w1 ⟨rfl, b1⟩)
  go_loopw [3, 4] (fun ea i wr => ∃ k : Nat, k ≤ s.length ∧ k ≤ 32 ∧ i = .int .i64 (k : Int) ∧ ea = .bool (eac s k) ∧ Below W.heap.size W wr) (fun _ i _ => 32 - (intOf i).toNat)
  case atStart => exact ⟨0, by omega, by omega, rfl, by rw [hE.out], b1⟩
  case round =>
    obtain ⟨k, hk, hk32, rfl, rfl, hb⟩ := hrel
    by_cases hko : k < s.length ∧ k < 32
    · have d1 : decide ((k : Int) < (s.length : Int)) = true := decide_eq_true (by omega)
      have d2 : decide ((k : Int) < 32) = true := decide_eq_true (by omega)
      obtain ⟨b, hbk⟩ : ∃ b, s[k]? = some b := ⟨s[k]'hko.1, List.getElem?_eq_getElem hko.1⟩
      have hx := fun w => run_one s k b hbk (by omega) w
      have h2 := fun w => bucket_any [b] w
      have HN := Hid.mk (eac_next hbk)
      rw [bkt_one] at h2
      generalize eac s k = E at *
      by_cases hc : smc b.toNat = true
      · rw [hc, Bool.and_true] at HN
        rw [if_pos hc] at h2
        clear hc hbk
        go_wp2_with (go_at_call 10; refine (h2 _).mono ?_; rintro e w2 ⟨rfl, b2⟩)
        exact ⟨⟨k + 1, by omega, by omega, by go_num, by rw [HN.out], hb.trans (b2.mono hb.size)⟩, by simp [intOf]; omega⟩
      · rw [if_neg hc] at h2
        have hc' : smc b.toNat = false := by simpa using hc
        rw [hc', Bool.and_false] at HN
        clear hc hc' hbk
        go_wp2_with (go_at_call 10; refine (h2 _).mono ?_; rintro e w2 ⟨rfl, b2⟩)
        exact ⟨⟨k + 1, by omega, by omega, by go_num, by rw [HN.out], hb.trans (b2.mono hb.size)⟩, by simp [intOf]; omega⟩
    · by_cases hk1 : k < s.length
      · have d1 : decide ((k : Int) < (s.length : Int)) = true := decide_eq_true (by omega)
        have d2 : decide ((k : Int) < 32) = false := decide_eq_false (by omega)
        omega
      · have d1 : decide ((k : Int) < (s.length : Int)) = false := decide_eq_false (by omega)
        have HE := HREST.out k hko
        rw [HE]
        clear HE hko HREST
        have hS' : smN s 32 = false := smN_f1 (by omega)
        have hS : ¬ smN s 32 = true := by rw [hS']; decide
        have hv : bkt s = 60 := by unfold bkt; rw [if_neg hS]
        rw [hv] at h1
        rw [hS']
        have hv2 : mtE [⟨s, []⟩] = 62 := by rw [mtE_one, smN_16, hS']; simp
        have hm := fun w a h => meta_any [⟨s, []⟩] w a 1 1 rfl h (by simp)
        rw [hv2] at hm
        clear hv hv2
        go_wp2_with fail
        with_reducible refine Calls.mono (h1 _) ?_
        rintro e w5 ⟨rfl, b5⟩
        dsimp only
        have B5 := hb.trans (b5.mono hb.size)
        have s5 : Sl (w5.alloc (.cells #[str s, str []] 27)) (some ⟨w5.heap.size, 0, none⟩) 1 [⟨s, []⟩] := sl_new [⟨s, []⟩] (by simp)
        have B6 : Below W.heap.size W (w5.alloc (.cells #[str s, str []] 27)) := B5.alloc B5.size _
        go_wp2_with fail
        with_reducible refine Calls.mono (hm _ _ s5.at') ?_
        rintro e w7 ⟨rfl, b7⟩
        dsimp only
        go_wp2_with fail
        go_ret
        exact ⟨rfl, B6.trans (b7.mono B6.size)⟩
theorem namesBytes_walk (s : List UInt8) (W : World) (hs : s.length ≤ 140737488351232) :
    Calls Try.prog 3 #[str s] W fun e W' => e = .returned (.bool true) ∧ Below W.heap.size W W' := by
  by_cases ha : 1 ≤ s.length
  · by_cases hb : s.length ≤ 32
    · exact bytes_a s W hs ha hb
    · exact bytes_b s W hs ha hb
  · exact bytes_c s W hs ha
end Go.Proofs.Ytehjhlaeojmciaa
