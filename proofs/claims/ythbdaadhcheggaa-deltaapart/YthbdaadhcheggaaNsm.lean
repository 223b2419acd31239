/- Small names; keys; data. -/
import Derived.Test.YthbdaadhcheggaaBx
import Derived.Laws.RangeAny
namespace Go.Proofs.Ythbdaadhcheggaa
set_option linter.unusedVariables false
set_option linter.unusedSimpArgs false
open Go.RowKit
attribute [local go_sem ↓] Go.wp_at_zero Go.wp_at_succ
/-- may a byte or character stand in a small name? -/
def smc (c : Nat) : Bool := decide (97 ≤ c ∧ c ≤ 122 ∨ 48 ≤ c ∧ c ≤ 57 ∨ c = 45)
theorem smc_t {c : Nat} (h : 97 ≤ c ∧ c ≤ 122 ∨ 48 ≤ c ∧ c ≤ 57 ∨ c = 45) : smc c = true := decide_eq_true h
theorem smc_f {c : Nat} (h : ¬ (97 ≤ c ∧ c ≤ 122 ∨ 48 ≤ c ∧ c ≤ 57 ∨ c = 45)) : smc c = false := decide_eq_false h
theorem isSmall_any (c : Nat) (hc : c ≤ 2147483647) (w : World) : Calls Try.prog 69 #[.int .i32 (c : Int)] w fun e w' => e = .returned (.bool (smc c)) ∧ w' = w := by
  by_cases h1 : 97 ≤ c
  · have d1 : decide ((97 : Int) ≤ (c : Int)) = true := decide_eq_true (by omega)
    by_cases h2 : c ≤ 122
    · have d2 : decide ((c : Int) ≤ 122) = true := decide_eq_true (by omega)
      have HV := Hid.mk (smc_t (c := c) (by omega))
      go_enter Try.func69, Try.ntmps69
      go_wp2_with fail
      go_ret
      exact ⟨by rw [HV.out]; rfl, rfl⟩
    · have d2 : decide ((c : Int) ≤ 122) = false := decide_eq_false (by omega)
      have d3 : decide ((48 : Int) ≤ (c : Int)) = true := decide_eq_true (by omega)
      have d4 : decide ((c : Int) ≤ 57) = false := decide_eq_false (by omega)
      have d5 : ((c : Int) == 45) = false := by rw [beq_eq_false_iff_ne]; omega
      have HV := Hid.mk (smc_f (c := c) (by omega))
      go_enter Try.func69, Try.ntmps69
      go_wp2_with fail
      go_ret
      exact ⟨by rw [HV.out]; rfl, rfl⟩
  · have d1 : decide ((97 : Int) ≤ (c : Int)) = false := decide_eq_false (by omega)
    by_cases h3 : 48 ≤ c
    · have d3 : decide ((48 : Int) ≤ (c : Int)) = true := decide_eq_true (by omega)
      by_cases h4 : c ≤ 57
      · have d4 : decide ((c : Int) ≤ 57) = true := decide_eq_true (by omega)
        have HV := Hid.mk (smc_t (c := c) (by omega))
        go_enter Try.func69, Try.ntmps69
        go_wp2_with fail
        go_ret
        exact ⟨by rw [HV.out]; rfl, rfl⟩
      · have d4 : decide ((c : Int) ≤ 57) = false := decide_eq_false (by omega)
        have d5 : ((c : Int) == 45) = false := by rw [beq_eq_false_iff_ne]; omega
        have HV := Hid.mk (smc_f (c := c) (by omega))
        go_enter Try.func69, Try.ntmps69
        go_wp2_with fail
        go_ret
        exact ⟨by rw [HV.out]; rfl, rfl⟩
    · have d3 : decide ((48 : Int) ≤ (c : Int)) = false := decide_eq_false (by omega)
      by_cases h5 : c = 45
      · subst h5
        have HV := Hid.mk (smc_t (c := 45) (by omega))
        go_enter Try.func69, Try.ntmps69
        go_wp2_with fail
        go_ret
        exact ⟨by rw [HV.out]; rfl, rfl⟩
      · have d5 : ((c : Int) == 45) = false := by rw [beq_eq_false_iff_ne]; omega
        have HV := Hid.mk (smc_f (c := c) (by omega))
        go_enter Try.func69, Try.ntmps69
        go_wp2_with fail
        go_ret
        exact ⟨by rw [HV.out]; rfl, rfl⟩
/-- a small name of so many bytes at most -/
def smN (s : List UInt8) (most : Nat) : Bool := decide (1 ≤ s.length ∧ s.length ≤ most) && s.all fun b => smc b.toNat
theorem smN_f1 {s : List UInt8} {most : Nat} (h : ¬ (1 ≤ s.length ∧ s.length ≤ most)) : smN s most = false := by unfold smN; rw [decide_eq_false h]; rfl
theorem smN_f2 {s : List UInt8} {most : Nat} {b : UInt8} (h : b ∈ s) (hb : smc b.toNat = false) : smN s most = false := by
  unfold smN
  have : (s.all fun b => smc b.toNat) = false := by rw [List.all_eq_false]; exact ⟨b, h, by rw [hb]; decide⟩
  rw [this, Bool.and_false]
theorem smN_t {s : List UInt8} {most : Nat} (h : 1 ≤ s.length ∧ s.length ≤ most) (ha : (s.all fun b => smc b.toNat) = true) : smN s most = true := by unfold smN; rw [decide_eq_true h, ha]; rfl
theorem all_next {s : List UInt8} {k : Nat} {b : UInt8} (hb : s[k]? = some b) (h : ((s.take k).all fun b => smc b.toNat) = true) (hs : smc b.toNat = true) : ((s.take (k + 1)).all fun b => smc b.toNat) = true := by
  rw [List.take_add_one, hb, List.all_append, h]; simp [hs]
theorem get_str (l : List UInt8) (k : Nat) (b : UInt8) (h : l[k]? = some b) (hk : k < (⟨l.toArray⟩ : ByteArray).size) : (⟨l.toArray⟩ : ByteArray)[k]'hk = b := by
  obtain ⟨h1, h2⟩ := List.getElem?_eq_some_iff.1 h
  rw [← h2]; rfl
theorem iter_below (w : World) (s : ByteArray) (p : Nat) : Below w.heap.size w (w.iter s p) := (Below.refl _ _).alloc (Nat.le_refl _) _
set_option maxHeartbeats 1000000 in
theorem isSmallName_any (s : List UInt8) (most : Nat) (hm : most ≤ 1000) (w : World) : Calls Try.prog 57 #[str s, .int .i64 (most : Int)] w fun e w' => e = .returned (.bool (smN s most)) ∧ Below w.heap.size w w' := by
  by_cases h0 : s = []
  · subst h0
    have HV := Hid.mk (smN_f1 (s := []) (most := most) (by simp))
    go_enter Try.func57, Try.ntmps57
    go_wp2_with fail
    go_ret
    exact ⟨by rw [HV.out]; rfl, Below.refl _ _⟩
  · have d0 : (s == []) = false := by rw [beq_eq_false_iff_ne]; exact h0
    have hl1 : 1 ≤ s.length := by cases s with | nil => exact absurd rfl h0 | cons x y => simp
    clear h0
    by_cases h1 : s.length ≤ most
    · have d1 : decide ((most : Int) < (s.length : Int)) = false := decide_eq_false (by omega)
      go_enter Try.func57, Try.ntmps57
      go_wp2_with fail
      rw [show decide (most < s.length) = false from decide_eq_false (by omega)]
      go_loopw [6] (fun _ wr => ∃ k : Nat, k ≤ s.length ∧ ((s.take k).all fun b => smc b.toNat) = true ∧ wr = w.iter ⟨s.toArray⟩ k) (fun _ wr => s.length - wr.iterPos w.heap.size)
      case atStart => exact ⟨0, by omega, rfl, rfl⟩
      case round =>
        obtain ⟨k, hk, ha, rfl⟩ := hrel
        by_cases hp : k < s.length
        · obtain ⟨b, hb⟩ : ∃ b, s[k]? = some b := ⟨s[k], List.getElem?_eq_getElem hp⟩
          have hz : k < (⟨s.toArray⟩ : ByteArray).size := by rw [str_size]; exact hp
          have hg := get_str s k b hb hz
          by_cases h128 : b.toNat < 128
          · have hnx : ∀ ty, (Instr.next (.pointer (some ⟨w.heap.size, 0, none⟩)) true ty).run Try.prog (w.iter ⟨s.toArray⟩ k) = .ok (.tuple #[.bool true, .int .i64 k, .int .i32 (b.toNat : Int)]) (w.iter ⟨s.toArray⟩ (k + 1)) := fun ty => by
              have := run_next_ascii (P := Try.prog) w ⟨s.toArray⟩ k ty hz (by rw [hg]; exact h128)
              rw [hg] at this
              exact this
            have hi := fun w => isSmall_any b.toNat (by omega) w
            generalize hW : w.iter ⟨s.toArray⟩ (k + 1) = W1 at *
            by_cases hs : smc b.toNat = true
            · rw [hs] at hi
              have HA := Hid.mk (all_next hb ha hs)
              clear ha hs hg hz
              go_wp2_with (go_at_call 69; refine (hi _).mono ?_; rintro e w1 ⟨rfl, rfl⟩)
              subst hW
              go_roundw
              case rel =>
                exact ⟨k + 1, by omega, HA.out, rfl⟩
              case measure => simp; omega
            · have hs' : smc b.toNat = false := by simpa using hs
              rw [hs'] at hi
              have HV := Hid.mk (smN_f2 (most := most) (List.mem_of_getElem? hb) hs')
              clear ha hs hs' hg hz
              go_wp2_with (go_at_call 69; refine (hi _).mono ?_; rintro e w1 ⟨rfl, rfl⟩)
              go_ret
              subst hW
              exact ⟨by rw [HV.out]; rfl, iter_below _ _ _⟩
          · have hd := decode_high ⟨s.toArray⟩ k hz (by rw [hg]; omega)
            have hle := decode_le ⟨s.toArray⟩ k
            have hnx : ∀ ty, (Instr.next (.pointer (some ⟨w.heap.size, 0, none⟩)) true ty).run Try.prog (w.iter ⟨s.toArray⟩ k) = _ := fun ty => run_next_any (P := Try.prog) w ⟨s.toArray⟩ k ty hz
            generalize Utf8.decode ⟨s.toArray⟩ k = D at *
            obtain ⟨r, n⟩ := D
            dsimp only at *
            have hi := fun w => isSmall_any r hle w
            rw [smc_f (c := r) (by omega)] at hi
            generalize hW : w.iter ⟨s.toArray⟩ (k + n) = W1 at *
            have HV := Hid.mk (smN_f2 (most := most) (List.mem_of_getElem? hb) (smc_f (c := b.toNat) (by omega)))
            clear ha hg hz hd
            go_wp2_with (go_at_call 69; refine (hi _).mono ?_; rintro e w1 ⟨rfl, rfl⟩)
            go_ret
            subst hW
            exact ⟨by rw [HV.out]; rfl, iter_below _ _ _⟩
        · obtain rfl : k = s.length := by omega
          have hnx : ∀ ty, (Instr.next (.pointer (some ⟨w.heap.size, 0, none⟩)) true ty).run Try.prog (w.iter ⟨s.toArray⟩ s.length) = _ := fun ty => run_next_end (P := Try.prog) w ⟨s.toArray⟩ s.length ty (by rw [str_size]; omega)
          rw [List.take_length] at ha
          have HV := Hid.mk (smN_t (most := most) ⟨hl1, h1⟩ ha)
          clear ha
          go_wp2_with fail
          go_ret
          exact ⟨by rw [HV.out]; rfl, iter_below _ _ _⟩
    · have d1 : decide ((most : Int) < (s.length : Int)) = true := decide_eq_true (by omega)
      have HV := Hid.mk (smN_f1 (s := s) (most := most) (by omega))
      go_enter Try.func57, Try.ntmps57
      go_wp2_with fail
      go_ret
      exact ⟨by rw [HV.out]; rfl, Below.refl _ _⟩
end Go.Proofs.Ythbdaadhcheggaa
