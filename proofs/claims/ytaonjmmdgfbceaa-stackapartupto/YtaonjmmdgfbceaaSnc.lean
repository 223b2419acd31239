/- Since, and the document's. -/
import Derived.Test.YtaonjmmdgfbceaaTop
namespace Go.Proofs.Ytaonjmmdgfbceaa
set_option linter.unusedVariables false
set_option linter.unusedSimpArgs false
open Go.RowKit
attribute [local go_sem ↓] Go.wp_at_zero Go.wp_at_succ
attribute [local go_sem ↓] slPe
theorem meas1 {n k : Nat} (h : k < n) : n - (intOf (.int .i64 ((k : Int) + 1))).toNat < n - (intOf (.int .i64 (k : Int))).toNat := by
  show n - ((k : Int) + 1).toNat < n - ((k : Int)).toNat
  omega
set_option maxHeartbeats 2000000 in
theorem since_any (L : List Vs) (m : Int) (w : World) (a : Option Addr) (n cap : Nat) (hL : Li w L a n cap) :
    Calls Try.prog 13 #[.slice a n cap, .int .i64 m] w fun e w' => ∃ v, e = .returned v ∧ Cp w.heap.size w' v (snc L m) ∧ Below w.heap.size w w' := by
  obtain rfl := hL.n
  have hlen := hL.l
  go_enter Try.func13, Try.ntmps13
  go_wp2_with fail
  have C0 := Cp.nil w w.heap.size (Nat.le_refl _)
  go_loopw [5, 10] (fun o i wr => ∃ k : Nat, k ≤ L.length ∧ i = .int .i64 (k : Int) ∧ Hid (Cp w.heap.size wr o (snc (L.take k) m)) ∧ Below w.heap.size w wr) (fun o i _ => L.length - (intOf i).toNat)
  case atStart => exact ⟨0, by omega, rfl, ⟨by simpa [snc] using C0⟩, Below.refl _ _⟩
  case round =>
    clear C0
    obtain ⟨k, hk, rfl, hO, hb⟩ := hrel
    by_cases hlt : k < L.length
    · have d1 : decide ((k : Int) < (L.length : Int)) = true := decide_eq_true (by omega)
      have k2 : (k : Int) < (L.length : Int) := by omega
      obtain ⟨u, hu⟩ : ∃ u, L[k]? = some u := ⟨L[k], List.getElem?_eq_getElem hlt⟩
      obtain ⟨b, off, ma, mc, rfl, hbl, c0, c1, c2, c3, c4, hsl⟩ := ((hL.later hb).s.at').get k u hu
      have hzu := hL.z u (List.mem_of_getElem? hu)
      have hc := fun w a cap h => copied_any u w a u.l.length cap rfl h hzu
      have hlk : Hid ((snc (L.take k) m).length ≤ 1954687338260) := ⟨by have := snc_len (L.take k) m; rw [List.length_take] at this; omega⟩
      have hw1 : wrap64 ((k : Int) + 1) = ((k + 1 : Nat) : Int) := by unfold wrap64; omega
      have bx := (Below.refl wr.heap.size wr).alloc (Nat.le_refl _) (.cells #[str u.key, .int .i64 u.seq, .bool u.mkr, str u.data, .slice ma u.l.length mc] 33)
      have hO1 := hO.out.later bx
      have hS1 := hsl.later bx
      have hcc := hc _ _ _ hS1
      by_cases hm : m ≤ u.seq
      · have dm : decide (m ≤ u.seq) = true := decide_eq_true hm
        have hT : Hid (snc (L.take (k + 1)) m = snc (L.take k) m ++ [u]) := ⟨by rw [takeV hu, snc_yes hm]⟩
        clear hu hL hm
        go_wp2_with (first
          | (go_at_call 37; refine hcc.mono ?_; rintro e w1 ⟨ad, c, rfl, ow, b1⟩)
          | (refine app_cp rfl _ _ rfl u rfl rfl hO1 b1 ow rfl hlk.out rfl rfl ?_; intro v2 w2 o2 b2))
        exact ⟨⟨k + 1, by omega, by go_num, ⟨by rw [hT.out]; exact o2⟩, (hb.trans (bx.mono hb.size)).trans b2⟩, by first | (rw [hw1]; exact lss_meas hlt) | exact meas1 hlt⟩
      · have dm : decide (m ≤ u.seq) = false := decide_eq_false hm
        have hT : Hid (snc (L.take (k + 1)) m = snc (L.take k) m) := ⟨by rw [takeV hu, snc_no hm]⟩
        clear hu hL hm
        go_wp2_with fail
        exact ⟨⟨k + 1, by omega, by go_num, ⟨by rw [hT.out]; exact hO1⟩, hb.trans (bx.mono hb.size)⟩, by first | (rw [hw1]; exact lss_meas hlt) | exact meas1 hlt⟩
    · obtain rfl : k = L.length := by omega
      have d1 : decide ((L.length : Int) < (L.length : Int)) = false := decide_eq_false (by omega)
      clear hL
      go_wp2_with fail
      go_ret
      exact ⟨_, rfl, by have := hO.out; rwa [List.take_length] at this, hb⟩
set_option maxHeartbeats 2000000 in
theorem rSince_any (L : List Vs) (m : Int) (w : World) (a : Option Addr) (n cap : Nat) (hL : Li w L a n cap) :
    Calls Try.prog 31 #[.slice a n cap, .int .i64 m] w fun e w' => ∃ v, e = .returned v ∧ Cp w.heap.size w' v (snc L m) ∧ Below w.heap.size w w' := by
  obtain rfl := hL.n
  have hlen := hL.l
  go_enter Try.func31, Try.ntmps31
  go_wp2_with fail
  have C0 := Cp.nil w w.heap.size (Nat.le_refl _)
  go_loopw [5, 6] (fun o i wr => ∃ k : Nat, k ≤ L.length ∧ i = .int .i64 (k : Int) ∧ Hid (Cp w.heap.size wr o (snc (L.take k) m)) ∧ Below w.heap.size w wr) (fun o i _ => L.length - (intOf i).toNat)
  case atStart => exact ⟨0, by omega, rfl, ⟨by simpa [snc] using C0⟩, Below.refl _ _⟩
  case round =>
    clear C0
    obtain ⟨k, hk, rfl, hO, hb⟩ := hrel
    by_cases hlt : k < L.length
    · have d1 : decide ((k : Int) < (L.length : Int)) = true := decide_eq_true (by omega)
      have k2 : (k : Int) < (L.length : Int) := by omega
      obtain ⟨u, hu⟩ : ∃ u, L[k]? = some u := ⟨L[k], List.getElem?_eq_getElem hlt⟩
      obtain ⟨b, off, ma, mc, rfl, hbl, c0, c1, c2, c3, c4, hsl⟩ := ((hL.later hb).s.at').get k u hu
      have hzu := hL.z u (List.mem_of_getElem? hu)
      have hc := fun w a cap h => rOwn_any u w a u.l.length cap rfl h hzu
      have hlk : Hid ((snc (L.take k) m).length ≤ 1954687338260) := ⟨by have := snc_len (L.take k) m; rw [List.length_take] at this; omega⟩
      have hw1 : wrap64 ((k : Int) + 1) = ((k + 1 : Nat) : Int) := by unfold wrap64; omega
      have bx := Below.refl wr.heap.size wr
      have hO1 := hO.out
      have hcc := hc _ _ _ hsl
      by_cases hm : m ≤ u.seq
      · have dm : decide (m ≤ u.seq) = true := decide_eq_true hm
        have hT : Hid (snc (L.take (k + 1)) m = snc (L.take k) m ++ [u]) := ⟨by rw [takeV hu, snc_yes hm]⟩
        clear hu hL hm
        go_wp2_with (first
          | (go_at_call 41; refine hcc.mono ?_; rintro e w1 ⟨ad, c, rfl, ow, b1⟩)
          | (refine app_cp rfl _ _ rfl u rfl rfl hO1 b1 ow rfl hlk.out rfl rfl ?_; intro v2 w2 o2 b2))
        exact ⟨⟨k + 1, by omega, by go_num, ⟨by rw [hT.out]; exact o2⟩, hb.trans b2⟩, by first | (rw [hw1]; exact lss_meas hlt) | exact meas1 hlt⟩
      · have dm : decide (m ≤ u.seq) = false := decide_eq_false hm
        have hT : Hid (snc (L.take (k + 1)) m = snc (L.take k) m) := ⟨by rw [takeV hu, snc_no hm]⟩
        clear hu hL hm
        go_wp2_with fail
        exact ⟨⟨k + 1, by omega, by go_num, ⟨by rw [hT.out]; exact hO1⟩, hb⟩, by first | (rw [hw1]; exact lss_meas hlt) | exact meas1 hlt⟩
    · obtain rfl : k = L.length := by omega
      have d1 : decide ((L.length : Int) < (L.length : Int)) = false := decide_eq_false (by omega)
      clear hL
      go_wp2_with fail
      go_ret
      exact ⟨_, rfl, by have := hO.out; rwa [List.take_length] at this, hb⟩
end Go.Proofs.Ytaonjmmdgfbceaa
