/- Remove, and the document's. -/
import Derived.Test.YtgcdnanfnbdjjaaGreatGz
namespace Go.Proofs.YtgcdnanfnbdjjaaGreat
set_option linter.unusedVariables false
set_option linter.unusedSimpArgs false
open Go.RowKit
attribute [local go_sem ↓] Go.wp_at_zero Go.wp_at_succ
noncomputable def slV (v : Value) (a b c : Option Value) : Sem Value := Instr.slice 22 v a b c
theorem slVe (v : Value) (a b c : Option Value) : Instr.slice 22 v a b c = slV v a b c := rfl
theorem run_slV (a : Option Addr) (len cap n : Nat) (h1 : n ≤ cap) (h3 : cap ≤ 9223372036854775807) (hn : a = none → cap = 0) (w : World) : (slV (.slice a len cap) none (some (.int .i64 (n : Int))) none).run Tryz.prog w = .ok (.slice a n cap) w := by
  unfold slV
  cases a with
  | none =>
    obtain rfl := hn rfl
    obtain rfl : n = 0 := by omega
    simp [Instr.slice, Tryz.underlying22, go_sem]
  | some ad =>
    simp [Instr.slice, Tryz.underlying22, go_sem]
    intro hc
    omega
theorem run_slV_lo (a : Option Addr) (len cap n : Nat) (h1 : n ≤ len) (h2 : len ≤ cap) (h3 : cap ≤ 9223372036854775807) (hn : a = none → cap = 0) (w : World) : (slV (.slice a len cap) (some (.int .i64 (n : Int))) none none).run Tryz.prog w = .ok (.slice (dropV a cap n) (len - n) (cap - n)) w := by
  unfold slV
  cases a with
  | none =>
    obtain rfl := hn rfl
    obtain rfl : len = 0 := by omega
    obtain rfl : n = 0 := by omega
    simp [Instr.slice, Tryz.underlying22, go_sem, dropV]
  | some ad =>
    obtain ⟨i0, hi0, hz0, hz1, hz2⟩ := infoV
    have c : ¬ ((len : Int) < (n : Int)) := by omega
    have c2 : ¬ ((cap : Int) < (len : Int)) := by omega
    by_cases h : cap - n = 0
    · have : cap = n := by omega
      subst this
      have : len = cap := by omega
      subst this
      simp [Instr.slice, Tryz.underlying22, go_sem, dropV, c, c2, hi0, hz1, sizeOf, typeInfo]
    · have h' : cap ≠ n := by omega
      simp [Instr.slice, Tryz.underlying22, go_sem, dropV, h, h', h1, c, c2, hi0, hz1, sizeOf, typeInfo]
theorem Li.take {w : World} {L : List Vs} {a : Option Addr} {n c : Nat} (h : Li w L a n c) {k : Nat} (hk : k ≤ n) : Li w (L.take k) a k c := by
  have hn := h.n
  refine ⟨by rw [List.length_take]; omega, h.s.take k, by have := h.l; rw [List.length_take]; omega, fun v hv => h.z v (List.mem_of_mem_take hv)⟩
theorem Li.drop {w : World} {L : List Vs} {a : Option Addr} {n c : Nat} (h : Li w L a n c) {k : Nat} (hk : k ≤ n) : Li w (L.drop k) (dropV a c k) (n - k) (c - k) := by
  have hn := h.n
  refine ⟨by rw [List.length_drop]; omega, h.s.drop k (by omega), by have := h.l; rw [List.length_drop]; omega, fun v hv => h.z v (List.mem_of_mem_drop hv)⟩
theorem rmL_none {L : List Vs} {s : Int} (h : plc L s = none) : rmL L s = [] := by unfold rmL; rw [h]
theorem rmL_some {L : List Vs} {s : Int} {k : Nat} (h : plc L s = some k) : rmL L s = L.take k ++ L.drop (k + 1) := by unfold rmL; rw [h]
attribute [local go_sem ↓] slVe
set_option maxRecDepth 100000 in
set_option maxHeartbeats 4000000 in
theorem remove_any (L : List Vs) (s : Int) (w : World) (a : Option Addr) (n cap : Nat) (hL : Li w L a n cap) :
    Calls Tryz.prog 51 #[.slice a n cap, .int .i64 s] w fun e w' => ∃ r, e = .returned (.tuple #[r, .int .i64 (geE L s)]) ∧ Cp w.heap.size w' r (rmL L s) ∧ Below w.heap.size w w' := by
  have hpl := place_any L s w a n cap hL.n hL.s.at' (by have := hL.l; omega)
  cases hp : plc L s with
  | none =>
    rw [plcI_none hp] at hpl
    have H1 := Hid.mk (geE_none hp).1
    have H2 := Hid.mk (rmL_none hp)
    clear hL
    go_enter Tryz.func51, Tryz.ntmps51
    go_wp2_with (go_at_call 79; refine hpl.mono ?_; rintro e w1 ⟨rfl, b1⟩)
    go_ret2
    exact ⟨_, by rw [H1.out]; rfl, by rw [H2.out]; exact Cp.nil _ _ b1.size, b1⟩
  | some k =>
    obtain ⟨u, hu1, hus⟩ := (plc_some hp).1
    clear hus
    have hkl : k < L.length := (List.getElem?_eq_some_iff.1 hu1).1
    have hnn := hL.n
    have hlen := hL.l
    have H1 := Hid.mk (geE_some hp hu1).1
    have H2 := Hid.mk (rmL_some hp)
    rw [plcI_some hp] at hpl
    have dk : decide ((k : Int) < 0) = false := decide_eq_false (by omega)
    have hcap := hL.s.le
    have r1 : ∀ w, (slV (.slice a n cap) none (some (.int .i64 (k : Int))) none).run Tryz.prog w = .ok (.slice a k cap) w := fun w => run_slV a n cap k (by omega) hL.s.max hL.s.nil w
    have r2 : ∀ w, (slV (.slice a n cap) (some (.int .i64 ((k : Int) + 1))) none none).run Tryz.prog w = .ok (.slice (dropV a cap (k + 1)) (n - (k + 1)) (cap - (k + 1))) w := fun w => run_slV_lo a n cap (k + 1) (by omega) (by omega) hL.s.max hL.s.nil w
    have hw1 : wrap64 ((k : Int) + 1) = (k : Int) + 1 := by unfold wrap64; omega
    have hw2 : IntKind.i64.wrap ((k : Int) + 1) = (k : Int) + 1 := by rw [IntKind.wrap_i64]; unfold wrap64 at hw1; exact hw1
    have hc1 : ∀ w', Below w.heap.size w w' → Calls Tryz.prog 80 #[.slice a k cap] w' fun e w'' => ∃ r, e = .returned r ∧ Cp w'.heap.size w'' r (L.take k) ∧ Below w'.heap.size w' w'' := fun w' hb => by
      have h := (hL.later hb).take (k := k) (by omega)
      exact copies_any _ w' a k cap h.n h.s h.l h.z
    have hc2 : ∀ w', Below w.heap.size w w' → Calls Tryz.prog 80 #[.slice (dropV a cap (k + 1)) (n - (k + 1)) (cap - (k + 1))] w' fun e w'' => ∃ ad nn c, e = .returned (.slice ad nn c) ∧ Cp w'.heap.size w'' (.slice ad nn c) (L.drop (k + 1)) ∧ Below w'.heap.size w' w'' := fun w' hb => by
      have h := (hL.later hb).drop (k := k + 1) (by omega)
      refine (copies_any _ w' _ _ _ h.n h.s h.l h.z).mono ?_
      rintro e w'' ⟨r, rfl, c, b⟩
      obtain ⟨ad, cc, rfl, _⟩ := c.ls
      exact ⟨ad, _, cc, rfl, c, b⟩
    have hsum : (L.take k).length + (L.drop (k + 1)).length ≤ 1954687338260 := by rw [List.length_take, List.length_drop]; omega
    have HSM := Hid.mk hsum
    clear hsum hL hp hu1 hkl hcap hlen hnn
    generalize L.take k = T1 at *
    generalize L.drop (k + 1) = T2 at *
    generalize dropV a cap (k + 1) = da at *
    generalize n - (k + 1) = dn at *
    generalize cap - (k + 1) = dc at *
    go_enter Tryz.func51, Tryz.ntmps51
    go_wp2_with (go_at_call 79; refine hpl.mono ?_; rintro e w1 ⟨rfl, b1⟩)
    clear hpl
    go_region_held3 (fun w' => Below w1.heap.size w1 w') (first
      | exact (Below.refl _ _).drew
      | exact below_seq (by assumption) b5
      | exact below_seq (by assumption) b6
      | exact Below.trans (by assumption) b7) (first
      | (go_at_call 80; with_reducible refine Calls.mono (hc1 _ (b1.trans (Below.mono (by assumption) b1.size))) ?_; rintro e w5 ⟨r5, rfl, c5, b5⟩)
      | (go_at_call 80; with_reducible refine Calls.mono (hc2 _ (b1.trans (Below.mono (by assumption) b1.size))) ?_; rintro e w6 ⟨a6, n6, c6, rfl, p6, b6⟩)
      | (refine step_cps rfl _ _ rfl c5 (by first | exact b6 | exact ((Below.refl _ _).drew).trans b6 | exact ((Below.refl _ _).drew.drew).trans b6) p6 HSM.out rfl rfl ?_; intro v7 w7 c7 b7))
    have B7 : Below w1.heap.size w1 w7 := by assumption
    go_wp2_with fail
    go_ret2
    exact ⟨v7, by rw [H1.out]; rfl, by rw [H2.out]; exact Cp.base c7 b1.size, b1.trans (B7.mono b1.size)⟩
end Go.Proofs.YtgcdnanfnbdjjaaGreat
