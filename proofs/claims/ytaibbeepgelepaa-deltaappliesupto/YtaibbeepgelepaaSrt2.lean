/- IsSortedFunc. -/
import Derived.Test.YtaibbeepgelepaaCan
import Derived.Deep.RegionWith
namespace Go.Proofs.Ytaibbeepgelepaa
set_option linter.unusedVariables false
set_option linter.unusedSimpArgs false
open Go.RowKit
attribute [local go_sem ↓] Go.wp_at_zero Go.wp_at_succ
/-- no version stands ahead of the one before it -/
def Asc (L : List Vs) : Prop := ∀ (i : Nat) (a b : Vs), L[i]? = some a → L[i + 1]? = some b → ¬ ltv b a
set_option maxRecDepth 100000 in
set_option maxHeartbeats 4000000 in
theorem isSorted_any (L : List Vs) (w : World) (a : Option Addr) (n cap : Nat) (hn : L.length = n) (hS : LIn w a L) (hl : L.length ≤ 1954687338300) :
    Calls Try.prog 45 #[.slice a n cap, .func (.func 46) #[] #[]] w fun e w' => (∃ t : Bool, e = .returned (.bool t) ∧ (t = true ↔ Asc L)) ∧ Below w.heap.size w w' := by
  subst hn
  go_enter Try.func45, Try.ntmps45
  go_wp2_with fail
  go_loopw [5] (fun o wr => ((L.length = 0 ∧ o = .int .i64 (-1)) ∨ ∃ m : Nat, m < L.length ∧ o = .int .i64 (m : Int) ∧ Hid (∀ (j : Nat) (x y : Vs), m ≤ j → L[j]? = some x → L[j + 1]? = some y → ¬ ltv y x)) ∧ Below w.heap.size w wr) (fun o _ => (intOf o).toNat)
  case atStart =>
    refine ⟨?_, Below.refl _ _⟩
    by_cases h0 : L.length = 0
    · left
      refine ⟨h0, ?_⟩
      rw [h0]; first | rfl | (congr 1)
    · right
      refine ⟨L.length - 1, by omega, ?_, ⟨fun j x y hj hx hy => ?_⟩⟩
      · congr 1
        first | omega | (unfold wrap64; omega)
      · have := (List.getElem?_eq_some_iff.1 hy).1
        omega
  case round =>
    obtain ⟨h, hb⟩ := hrel
    rcases h with ⟨h0, rfl⟩ | ⟨m, hm, rfl, HM⟩
    · have HA : Hid (Asc L) := ⟨fun i a b ha => by have := (List.getElem?_eq_some_iff.1 ha).1; omega⟩
      go_wp2_with fail
      go_ret
      exact ⟨⟨true, rfl, fun _ => HA.out, fun _ => rfl⟩, hb⟩
    · by_cases h1 : 0 < m
      · have d1 : decide ((0 : Int) < (m : Int)) = true := decide_eq_true (by omega)
        obtain ⟨u, hu⟩ : ∃ u, L[m]? = some u := ⟨L[m], List.getElem?_eq_getElem hm⟩
        obtain ⟨p, hp⟩ : ∃ p : Nat, p + 1 = m := ⟨m - 1, by omega⟩
        obtain ⟨v, hv⟩ : ∃ v, L[p]? = some v := ⟨L[p]'(by omega), List.getElem?_eq_getElem (by omega)⟩
        obtain ⟨b, off, ma, mc, rfl, hbl, c0, c1, c2, c3, c4, hsl⟩ := (hS.later hb).get m u hu
        obtain ⟨b', off', ma', mc', e', hbl', c0', c1', c2', c3', c4', hsl'⟩ := (hS.later hb).get p v hv
        injection e' with e'
        injection e' with e1 e2 e3
        subst e1 e2
        have hw1 : wrap64 ((m : Int) - 1) = (p : Int) := by unfold wrap64; omega
        have hw2 : IntKind.i64.wrap ((m : Int) - 1) = (p : Int) := by rw [IntKind.wrap_i64]; omega
        have k2 : (m : Int) < (L.length : Int) := by omega
        have k3 : (p : Int) < (L.length : Int) := by omega
        have hc := fun w => canonical_any u v w ma u.l.length mc ma' v.l.length mc'
        by_cases hq : ltv u v
        · have d2 : decide (cpV u v < 0) = true := decide_eq_true (cpV_neg.2 hq)
          have HA : Hid (¬ Asc L) := ⟨fun h => h p v u hv (by rw [hp]; exact hu) hq⟩
          clear hq HM hu hv hsl hsl' hS hp
          generalize cpV u v = C at *
          go_wp2_with fail
          go_region_with (go_at_call 46; refine (hc _).mono ?_; rintro e w1 ⟨rfl, b1⟩)
          all_goals (
            go_wp2_with fail
            go_ret
            exact ⟨⟨false, rfl, by simp [HA.out]⟩, hb.trans (Below.trans (Below.refl _ _).drew (b1.mono hb.size))⟩)
        · have d2 : decide (cpV u v < 0) = false := decide_eq_false (fun h => hq (cpV_neg.1 h))
          have HN : Hid (∀ (j : Nat) (x y : Vs), p ≤ j → L[j]? = some x → L[j + 1]? = some y → ¬ ltv y x) := ⟨fun j x y hj hx hy => by
            by_cases e : j = p
            · subst e
              rw [hv] at hx
              rw [hp, hu] at hy
              cases hx; cases hy
              exact hq
            · exact HM.out j x y (by omega) hx hy⟩
          clear hq HM hu hv hsl hsl' hS
          generalize cpV u v = C at *
          go_wp2_with fail
          go_region_with (go_at_call 46; refine (hc _).mono ?_; rintro e w1 ⟨rfl, b1⟩)
          all_goals (
            clear hc
            have hb3 := hb.trans (Below.trans (Below.refl _ _).drew (b1.mono hb.size))
            clear b1 c0 c1 c2 c3 c4 c0' c1' c2' c3' c4'
            go_wp2_with fail
            exact ⟨⟨Or.inr ⟨p, by omega, by first | rfl | (rw [hw1]; done) | go_num, HN⟩, hb3⟩, by first | (rw [hw1]; simp [intOf]; omega) | (simp [intOf]; omega)⟩)
      · obtain rfl : m = 0 := by omega
        have HA : Hid (Asc L) := ⟨fun i a b ha hb' => HM.out i a b (Nat.zero_le _) ha hb'⟩
        go_wp2_with fail
        go_ret
        exact ⟨⟨true, rfl, fun _ => HA.out, fun _ => rfl⟩, hb⟩
end Go.Proofs.Ytaibbeepgelepaa
