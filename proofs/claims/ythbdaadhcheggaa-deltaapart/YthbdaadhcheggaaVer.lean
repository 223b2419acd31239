/- Version, Size, and the document's. -/
import Derived.Test.YthbdaadhcheggaaMet
namespace Go.Proofs.Ythbdaadhcheggaa
set_option linter.unusedVariables false
set_option linter.unusedSimpArgs false
open Go.RowKit
attribute [local go_sem ↓] Go.wp_at_zero Go.wp_at_succ
noncomputable def vrE (key : List UInt8) (mk : Bool) (data : List UInt8) (l : List En) : Int := by
  classical exact if ¬ keyE key = 0 then 61 else if (mk = true ∧ ¬ data = []) ∨ ¬ datE data = 0 then 63 else if mk = true ∧ 1 ≤ l.length then 62 else mtE l
theorem keyE_or (s : List UInt8) : keyE s = 0 ∨ keyE s = 61 := by unfold keyE; split <;> simp
theorem datE_or (s : List UInt8) : datE s = 0 ∨ datE s = 63 := by unfold datE; split <;> simp
theorem mtE_or (l : List En) : mtE l = 0 ∨ mtE l = 62 := by unfold mtE; split <;> simp
set_option maxHeartbeats 2000000 in
theorem version_any (key : List UInt8) (seq : Int) (mk : Bool) (data : List UInt8) (l : List En) (w : World) (a : Option Addr) (n cap : Nat) (hn : l.length = n) (hP : PIn w a l) (hz : l.length ≤ 9223372036854775806) :
    Calls Try.prog 41 #[vv key seq mk data a n cap] w fun e w' => e = .returned (.int .i64 (vrE key mk data l)) ∧ Below w.heap.size w w' := by
  have hk := fun w => key_any key w
  have hd := fun w => data_any data w
  have hbx : Below w.heap.size w (w.alloc (.cells #[str key, .int .i64 seq, .bool mk, str data, .slice a n cap] 41)) := (Below.refl _ _).alloc (Nat.le_refl _) _
  have hm := meta_any l _ a n cap hn (hP.later hbx) hz
  rcases keyE_or key with h1 | h1
  · rw [h1] at hk
    rcases datE_or data with h2 | h2
    · rw [h2] at hd
      by_cases h3 : mk = true ∧ ¬ data = []
      · have HV : Hid (vrE key mk data l = 63) := ⟨by unfold vrE; rw [if_neg (by rw [h1]; simp), if_pos (.inl h3)]⟩
        obtain ⟨rfl, h4⟩ := h3
        have d0 : (data == []) = false := by rw [beq_eq_false_iff_ne]; exact h4
        clear h4 h1 h2 hm
        go_enter Try.func41, Try.ntmps41
        go_wp2_with (go_at_call 49; refine (hk _).mono ?_; rintro e w1 ⟨rfl, rfl⟩)
        go_ret
        exact ⟨by rw [HV.out]; rfl, hbx⟩
      · by_cases h5 : mk = true ∧ 1 ≤ l.length
        · have HV : Hid (vrE key mk data l = 62) := ⟨by unfold vrE; rw [if_neg (by rw [h1]; simp), if_neg (by rw [h2]; simpa using h3), if_pos h5]⟩
          obtain ⟨rfl, h6⟩ := h5
          have h7 : data = [] := by
            apply Classical.byContradiction
            intro h; exact h3 ⟨rfl, h⟩
          subst h7
          have d3 : decide ((0 : Int) < (n : Int)) = true := decide_eq_true (by omega)
          have d4 : decide (0 < n) = true := decide_eq_true (by omega)
          clear h3 h1 h2 hm
          go_enter Try.func41, Try.ntmps41
          go_wp2_with (first | (go_at_call 49; refine (hk _).mono ?_; rintro e w1 ⟨rfl, rfl⟩) | (go_at_call 50; refine (hd _).mono ?_; rintro e w1 ⟨rfl, rfl⟩))
          go_ret
          exact ⟨by rw [HV.out]; rfl, hbx⟩
        · have HV : Hid (vrE key mk data l = mtE l) := ⟨by unfold vrE; rw [if_neg (by rw [h1]; simp), if_neg (by rw [h2]; simpa using h3), if_neg h5]⟩
          generalize mtE l = M at *
          cases mk with
          | false =>
            clear h3 h1 h2 h5
            go_enter Try.func41, Try.ntmps41
            go_wp2_with (first | (go_at_call 49; refine (hk _).mono ?_; rintro e w1 ⟨rfl, rfl⟩) | (go_at_call 50; refine (hd _).mono ?_; rintro e w1 ⟨rfl, rfl⟩) | (go_at_call 51; refine hm.mono ?_; rintro e w1 ⟨rfl, b1⟩))
            go_ret
            exact ⟨by rw [HV.out]; rfl, hbx.trans (b1.mono (by simp))⟩
          | true =>
            have h7 : data = [] := by
              apply Classical.byContradiction
              intro h; exact h3 ⟨rfl, h⟩
            subst h7
            have h6 : ¬ 1 ≤ l.length := fun h => h5 ⟨rfl, h⟩
            have d3 : decide ((0 : Int) < (n : Int)) = false := decide_eq_false (by omega)
            have d4 : decide (0 < n) = false := decide_eq_false (by omega)
            clear h3 h1 h2 h5 h6
            go_enter Try.func41, Try.ntmps41
            go_wp2_with (first | (go_at_call 49; refine (hk _).mono ?_; rintro e w1 ⟨rfl, rfl⟩) | (go_at_call 50; refine (hd _).mono ?_; rintro e w1 ⟨rfl, rfl⟩) | (go_at_call 51; refine hm.mono ?_; rintro e w1 ⟨rfl, b1⟩))
            go_ret
            exact ⟨by rw [HV.out]; rfl, hbx.trans (b1.mono (by simp))⟩
    · rw [h2] at hd
      have HV : Hid (vrE key mk data l = 63) := ⟨by unfold vrE; rw [if_neg (by rw [h1]; simp), if_pos (.inr (by rw [h2]; decide))]⟩
      have h4 : ¬ data = [] := by rintro rfl; unfold datE at h2; simp at h2
      have d0 : (data == []) = false := by rw [beq_eq_false_iff_ne]; exact h4
      clear h4 h1 h2 hm
      cases mk with
      | false =>
        go_enter Try.func41, Try.ntmps41
        go_wp2_with (first | (go_at_call 49; refine (hk _).mono ?_; rintro e w1 ⟨rfl, rfl⟩) | (go_at_call 50; refine (hd _).mono ?_; rintro e w1 ⟨rfl, rfl⟩))
        go_ret
        exact ⟨by rw [HV.out]; rfl, hbx⟩
      | true =>
        go_enter Try.func41, Try.ntmps41
        go_wp2_with (first | (go_at_call 49; refine (hk _).mono ?_; rintro e w1 ⟨rfl, rfl⟩) | (go_at_call 50; refine (hd _).mono ?_; rintro e w1 ⟨rfl, rfl⟩))
        go_ret
        exact ⟨by rw [HV.out]; rfl, hbx⟩
  · rw [h1] at hk
    have HV : Hid (vrE key mk data l = 61) := ⟨by unfold vrE; rw [if_pos (by rw [h1]; decide)]⟩
    clear h1 hm
    go_enter Try.func41, Try.ntmps41
    go_wp2_with (go_at_call 49; refine (hk _).mono ?_; rintro e w1 ⟨rfl, rfl⟩)
    go_ret
    exact ⟨by rw [HV.out]; rfl, hbx⟩
def tt (l : List En) : Nat := (l.map fun e => e.key.length + e.val.length).sum
theorem tt_take {l : List En} {k : Nat} {p : En} (h : l[k]? = some p) : tt (l.take (k + 1)) = tt (l.take k) + (p.key.length + p.val.length) := by
  unfold tt
  rw [List.take_add_one, h]
  simp
theorem tt_append (a b : List En) : tt (a ++ b) = tt a + tt b := by unfold tt; simp
/-- a version's size, as the number that it is shown by -/
def vsz (key data : List UInt8) (l : List En) : Int := wrap64 ((32 + key.length + data.length + tt l : Nat) : Int)
theorem vsz_next {key data : List UInt8} {l : List En} {k : Nat} {p : En} (h : l[k]? = some p) : wrap64 (vsz key data (l.take k) + wrap64 ((p.key.length : Int) + (p.val.length : Int))) = vsz key data (l.take (k + 1)) ∧ wrap64 (wrap64 (vsz key data (l.take k) + (p.key.length : Int)) + (p.val.length : Int)) = vsz key data (l.take (k + 1)) := by
  unfold vsz
  rw [tt_take h]
  generalize tt (l.take k) = T
  generalize p.key.length = A
  generalize p.val.length = B
  generalize 32 + key.length + data.length = C
  unfold wrap64
  omega
theorem vsz_zero (key data : List UInt8) (l : List En) : wrap64 (wrap64 (32 + (key.length : Int)) + (data.length : Int)) = vsz key data (l.take 0) := by
  unfold vsz
  rw [List.take_zero]
  show _ = wrap64 ((32 + key.length + data.length + 0 : Nat) : Int)
  generalize key.length = A
  generalize data.length = B
  unfold wrap64
  omega
theorem box5 {w w1 : World} {a b c d e : Value} {t : TypeId} (h : Below (w.alloc (.cells #[a, b, c, d, e] t)).heap.size (w.alloc (.cells #[a, b, c, d, e] t)) w1) :
    w1.cell? ⟨w.heap.size, 0, none⟩ = some a ∧ w1.cell? ⟨w.heap.size, 1, none⟩ = some b ∧ w1.cell? ⟨w.heap.size, 2, none⟩ = some c ∧ w1.cell? ⟨w.heap.size, 3, none⟩ = some d ∧ w1.cell? ⟨w.heap.size, 4, none⟩ = some e := by
  have hr : w1.heap[w.heap.size]? = some (.cells #[a, b, c, d, e] t (0, 0)) := by rw [h.block _ (by simp)]; exact heap_alloc_new _ _
  refine ⟨?_, ?_, ?_, ?_, ?_⟩
  all_goals rw [cell_of_row _ _ _ _ _ _ hr]; rfl
set_option maxHeartbeats 2000000 in
theorem size_any (key : List UInt8) (seq : Int) (mk : Bool) (data : List UInt8) (l : List En) (w : World) (a : Option Addr) (n cap : Nat) (hn : l.length = n) (hP : PIn w a l) (hz : l.length ≤ 9223372036854775806) :
    Calls Try.prog 37 #[vv key seq mk data a n cap] w fun e w' => e = .returned (.int .i64 (vsz key data l)) ∧ Below w.heap.size w w' := by
  subst hn
  have hbx : Below w.heap.size w (w.alloc (.cells #[str key, .int .i64 seq, .bool mk, str data, .slice a l.length cap] 41)) := (Below.refl _ _).alloc (Nat.le_refl _) _
  have hP1 := hP.later hbx
  have HZ := Hid.mk (vsz_zero key data l)
  go_enter Try.func37, Try.ntmps37
  go_wp2_with fail
  go_loopw [3, 17] (fun s i wr => ∃ k : Nat, k ≤ l.length ∧ i = .int .i64 (k : Int) ∧ s = .int .i64 (vsz key data (l.take k)) ∧ Below w.heap.size w wr) (fun _ i _ => l.length - (intOf i).toNat)
  case atStart => exact ⟨0, by omega, rfl, by rw [← HZ.out], hbx⟩
  case round =>
    obtain ⟨k, hk, rfl, rfl, hb⟩ := hrel
    by_cases hlt : k < l.length
    · have d1 : decide ((k : Int) < (l.length : Int)) = true := decide_eq_true (by omega)
      have k2 : (k : Int) < (l.length : Int) := by omega
      obtain ⟨p, hp⟩ : ∃ p, l[k]? = some p := ⟨l[k], List.getElem?_eq_getElem hlt⟩
      obtain ⟨b, off, rfl, hbl, c0, c1⟩ := (hP.later hb).get k p hp
      have HX := Hid.mk (vsz_next (key := key) (data := data) hp).1
      generalize vsz key data (l.take k) = A at *
      go_wp2_with fail
      exact ⟨⟨k + 1, by omega, by go_num, by rw [← HX.out], hb.alloc hb.size _⟩, by simp [intOf]; omega⟩
    · obtain rfl : k = l.length := by omega
      have d1 : decide ((l.length : Int) < (l.length : Int)) = false := decide_eq_false (by omega)
      rw [List.take_length]
      go_wp2_with fail
      go_ret
      exact ⟨rfl, hb⟩
end Go.Proofs.Ythbdaadhcheggaa
