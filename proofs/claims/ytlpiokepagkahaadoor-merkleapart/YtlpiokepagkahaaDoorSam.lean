/- Two lists of hashes. -/
import Derived.Test.YtlpiokepagkahaaDoorHol
namespace Go.Proofs.YtlpiokepagkahaaDoor
set_option linter.unusedVariables false
set_option linter.unusedSimpArgs false
open Go.RowKit
attribute [local go_sem ↓] Go.wp_at_zero Go.wp_at_succ
attribute [local go_sem ↓] ld23
attribute [local go_sem] eqH
theorem PathAt.get {w : World} {a : Option Addr} {l : List Hs} (h : PathAt w a l) (h0 : 0 < l.length) : ∃ b off, a = some ⟨b, off, none⟩ ∧ ∀ k x, l[k]? = some x → w.rangeAt b (off + k * 32) (hv x) := by
  obtain ⟨b, off, rfl, _⟩ := h 0 _ (List.getElem?_eq_getElem h0)
  refine ⟨b, off, rfl, fun k x hk => ?_⟩
  obtain ⟨b', off', e, hr⟩ := h k x hk
  injection e with e
  injection e with e1 e2
  subst e1 e2
  exact hr
set_option maxHeartbeats 400000 in
set_option maxRecDepth 8000 in
theorem same_any {w : World} {a a2 : Option Addr} {l : List Hs} (n cap cap2 : Nat) (hl : n = l.length) (hP : PathAt w a l) (hP2 : PathAt w a2 l) (hn : n ≤ 9223372036854775807) :
    Calls Tryd.prog 14 #[.slice a n cap, .slice a2 n cap2] w fun e w' => e = .returned (.bool true) ∧ Below w.heap.size w w' := by
  have Hl : Hid (n = l.length) := hl
  clear hl
  go_enter Tryd.func14, Tryd.ntmps14
  go_wp2_with fail
  go_loopw [5] (fun i wr => ∃ k : Nat, k ≤ n ∧ i = .int .i64 (k : Int) ∧ Below w.heap.size w wr) (fun i _ => n - (intOf i).toNat)
  case atStart => exact ⟨0, by omega, rfl, Below.refl _ _⟩
  case round =>
    obtain ⟨k, hk, rfl, bel⟩ := hrel
    by_cases hlt : k < n
    · have hd : decide ((k : Int) < (n : Int)) = true := by simp; omega
      have i0 : (0 : Int) ≤ (k : Int) := by omega
      have i1 : (k : Int) < (n : Int) := by omega
      have hkl : k < l.length := by have := Hl.out; omega
      obtain ⟨b, off, rfl, hr⟩ := hP.get (by omega)
      obtain ⟨b2, off2, rfl, hr2⟩ := hP2.get (by omega)
      obtain ⟨x, hx⟩ : ∃ x, l[k]? = some x := ⟨_, List.getElem?_eq_getElem hkl⟩
      have r1 := rangeNext (hr k x hx) bel
      have r2 := rangeNext (hr2 k x hx) bel
      have l1 : ∀ q, (ldS 23 (.pointer (some ⟨b, off + k * 32, none⟩))).run Tryd.prog (wr.drewN q) = .ok (.agg (hv x).toArray) (wr.drewN q) := fun q => load23 (w := wr.drewN q) r1
      have l2 : ∀ q, (ldS 23 (.pointer (some ⟨b2, off2 + k * 32, none⟩))).run Tryd.prog (wr.drewN q) = .ok (.agg (hv x).toArray) (wr.drewN q) := fun q => load23 (w := wr.drewN q) r2
      have ex := eqb_self x
      clear hx hr hr2 r1 r2
      go_wp2_with fail
      go_quiet (fail)
      go_wp2_with fail
      go_round
      case rel => exact ⟨k + 1, by omega, by go_num, ⟨bel.os, bel.tape, bel.output, bel.size, bel.block⟩⟩
      case measure => simp [intOf]; omega
    · obtain rfl : k = n := by omega
      have hd : decide ((k : Int) < (k : Int)) = false := by simp
      go_wp2_with fail
      go_ret
      exact ⟨rfl, bel⟩
end Go.Proofs.YtlpiokepagkahaaDoor
