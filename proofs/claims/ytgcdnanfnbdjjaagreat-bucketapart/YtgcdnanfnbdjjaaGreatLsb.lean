/- List and Versions. -/
import Derived.Test.YtgcdnanfnbdjjaaGreatEvl
namespace Go.Proofs.YtgcdnanfnbdjjaaGreat
set_option linter.unusedVariables false
set_option linter.unusedSimpArgs false
open Go.RowKit
attribute [local go_sem ↓] Go.wp_at_zero Go.wp_at_succ
/-- the three boxes -/
def W3 (w : World) (x y : Value) (m : Int) : World := ((w.alloc (.cells #[x, y] 24)).alloc (.cells #[.int .i64 m] 3)).alloc (.cells #[.slice none 0 0] 58)
theorem W3e (w : World) (x y : Value) (m : Int) : ((w.alloc (.cells #[x, y] 24)).alloc (.cells #[.int .i64 m] 3)).alloc (.cells #[.slice none 0 0] 58) = W3 w x y m := rfl
theorem W3b (w : World) (x y : Value) (m : Int) : Below w.heap.size w (W3 w x y m) := by
  have b0 := (Below.refl w.heap.size w).alloc (Nat.le_refl _) (.cells #[x, y] 24)
  have b1 := b0.alloc b0.size (.cells #[.int .i64 m] 3)
  exact b1.alloc b1.size _
theorem W3c (w : World) (x y : Value) (m : Int) : Cl (w.heap.size + 3) (W3 w x y m) (w.heap.size + 1 + 1) (w.heap.size + 1) (.slice none 0 0) [] m := by
  have e3 : (W3 w x y m).heap.size = w.heap.size + 3 := by unfold W3; simp
  refine ⟨?_, ?_, Wo.nil _ _ (by omega), by omega, by omega, by omega⟩
  · have := heap_alloc_new ((w.alloc (.cells #[x, y] 24)).alloc (.cells #[.int .i64 m] 3)) (.cells #[.slice none 0 0] 58)
    rw [World.size_alloc, World.size_alloc] at this
    exact this
  · unfold W3
    rw [heap_alloc_old _ _ (by simp)]
    have := heap_alloc_new (w.alloc (.cells #[x, y] 24)) (.cells #[.int .i64 m] 3)
    rw [World.size_alloc] at this
    exact this
set_option maxRecDepth 100000 in
set_option maxHeartbeats 4000000 in
theorem bList_any (L : List Vs) (next : Int) (k : List UInt8) (most : Int) (w : World) (a : Option Addr) (n cap : Nat) (hL : Li w L a n cap) :
    Calls Tryz.prog 24 #[bv next a n cap, str k, .int .i64 most] w fun e w' => ∃ i : Nat, i ≤ L.length ∧ (SrtV L → i = fndV L k) ∧ ∃ v, e = .returned v ∧ Wo w.heap.size w' v (evL (stL (min most 256)) [] (L.drop i)) ∧ Below w.heap.size w w' := by
  obtain rfl := hL.n
  have key := fun (m : Int) (hm : m ≤ 256) => eachKeyL_any L k (W3 w (.int .i64 next) (.slice a L.length cap) m) a _ cap (w.heap.size + 3) (w.heap.size + 1 + 1) (w.heap.size + 1) _ m w hL (W3b w _ _ m) (W3c w _ _ m) (by omega) (by omega) hm
  clear hL
  by_cases hq : most ≤ 256
  · have hk := key most hq
    have HM : Hid (min most 256 = most) := ⟨by omega⟩
    have d0 : ¬ (256 < most) := by omega
    have d1 : decide (most ≤ 256) = true := decide_eq_true hq
    have d2 : decide (256 < most) = false := decide_eq_false d0
    have d3 : min most 256 = most := HM.out
    clear key
    go_enter Tryz.func24, Tryz.ntmps24
    go_wp2_with fail
    simp only [W3e]
    with_reducible refine Calls.mono hk ?_
    rintro e w1 ⟨rfl, i, hi, hs, ⟨v, hC⟩, b1⟩
    obtain ⟨ra, rc, rfl, _⟩ := hC.o.sl
    obtain ⟨p0, p1, _⟩ := hC.cells
    dsimp only
    have HS := Hid.mk hs
    have HO := Hid.mk (hC.o.base (b' := w.heap.size) (by omega))
    clear hk hs hC
    generalize hXl : (evL (stL most) [] (L.drop i)).length = XL at *
    clear hXl
    go_wp2_with fail
    go_ret
    exact ⟨i, hi, HS.out, _, rfl, by rw [HM.out]; exact HO.out, b1⟩
  · have hk := key 256 (by omega)
    have HM : Hid (min most 256 = 256) := ⟨by omega⟩
    have d1 : decide (most ≤ 256) = false := decide_eq_false hq
    have d3 : min most 256 = 256 := HM.out
    clear key
    go_enter Tryz.func24, Tryz.ntmps24
    go_wp2_with fail
    simp only [W3e]
    with_reducible refine Calls.mono hk ?_
    rintro e w1 ⟨rfl, i, hi, hs, ⟨v, hC⟩, b1⟩
    obtain ⟨ra, rc, rfl, _⟩ := hC.o.sl
    obtain ⟨p0, p1, _⟩ := hC.cells
    dsimp only
    have HS := Hid.mk hs
    have HO := Hid.mk (hC.o.base (b' := w.heap.size) (by omega))
    clear hk hs hC
    generalize hXl : (evL (stL 256) [] (L.drop i)).length = XL at *
    clear hXl
    go_wp2_with fail
    go_ret
    exact ⟨i, hi, HS.out, _, rfl, by rw [HM.out]; exact HO.out, b1⟩
set_option maxRecDepth 100000 in
set_option maxHeartbeats 4000000 in
theorem bVersions_any (L : List Vs) (next : Int) (k : List UInt8) (most : Int) (w : World) (a : Option Addr) (n cap : Nat) (hL : Li w L a n cap) :
    Calls Tryz.prog 25 #[bv next a n cap, str k, .int .i64 most] w fun e w' => ∃ i : Nat, i ≤ L.length ∧ (SrtV L → i = fndV L k) ∧ ∃ v, e = .returned v ∧ Wo w.heap.size w' v (evL (stV (min most 256)) [] (L.drop i)) ∧ Below w.heap.size w w' := by
  obtain rfl := hL.n
  have key := fun (m : Int) (hm : m ≤ 256) => eachKeyV_any L k (W3 w (.int .i64 next) (.slice a L.length cap) m) a _ cap (w.heap.size + 3) (w.heap.size + 1 + 1) (w.heap.size + 1) _ m w hL (W3b w _ _ m) (W3c w _ _ m) (by omega) (by omega) hm
  clear hL
  by_cases hq : most ≤ 256
  · have hk := key most hq
    have HM : Hid (min most 256 = most) := ⟨by omega⟩
    have d0 : ¬ (256 < most) := by omega
    have d1 : decide (most ≤ 256) = true := decide_eq_true hq
    have d2 : decide (256 < most) = false := decide_eq_false d0
    have d3 : min most 256 = most := HM.out
    clear key
    go_enter Tryz.func25, Tryz.ntmps25
    go_wp2_with fail
    simp only [W3e]
    with_reducible refine Calls.mono hk ?_
    rintro e w1 ⟨rfl, i, hi, hs, ⟨v, hC⟩, b1⟩
    obtain ⟨ra, rc, rfl, _⟩ := hC.o.sl
    obtain ⟨p0, p1, _⟩ := hC.cells
    dsimp only
    have HS := Hid.mk hs
    have HO := Hid.mk (hC.o.base (b' := w.heap.size) (by omega))
    clear hk hs hC
    generalize hXl : (evL (stV most) [] (L.drop i)).length = XL at *
    clear hXl
    go_wp2_with fail
    go_ret
    exact ⟨i, hi, HS.out, _, rfl, by rw [HM.out]; exact HO.out, b1⟩
  · have hk := key 256 (by omega)
    have HM : Hid (min most 256 = 256) := ⟨by omega⟩
    have d1 : decide (most ≤ 256) = false := decide_eq_false hq
    have d3 : min most 256 = 256 := HM.out
    clear key
    go_enter Tryz.func25, Tryz.ntmps25
    go_wp2_with fail
    simp only [W3e]
    with_reducible refine Calls.mono hk ?_
    rintro e w1 ⟨rfl, i, hi, hs, ⟨v, hC⟩, b1⟩
    obtain ⟨ra, rc, rfl, _⟩ := hC.o.sl
    obtain ⟨p0, p1, _⟩ := hC.cells
    dsimp only
    have HS := Hid.mk hs
    have HO := Hid.mk (hC.o.base (b' := w.heap.size) (by omega))
    clear hk hs hC
    generalize hXl : (evL (stV 256) [] (L.drop i)).length = XL at *
    clear hXl
    go_wp2_with fail
    go_ret
    exact ⟨i, hi, HS.out, _, rfl, by rw [HM.out]; exact HO.out, b1⟩
end Go.Proofs.YtgcdnanfnbdjjaaGreat
