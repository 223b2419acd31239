/- copies, Copy, copied: a list of one's own. -/
import Derived.Test.YtcbajnajamjcnaaCpy
namespace Go.Proofs.Ytcbajnajamjcnaa
set_option linter.unusedVariables false
set_option linter.unusedSimpArgs false
open Go.RowKit
attribute [local go_sem ↓] Go.wp_at_zero Go.wp_at_succ
attribute [local go_sem ↓] slPe
set_option maxHeartbeats 2000000 in
theorem copies_any (L : List Vs) (w : World) (a : Option Addr) (n cap : Nat) (hn : L.length = n) (hS : Ls w a cap L) (hL : L.length ≤ 1954687338240) (hz : ∀ v ∈ L, v.l.length ≤ 4398046510976) :
    Calls Try.prog 53 #[.slice a n cap] w fun e w' => ∃ v, e = .returned v ∧ Cp w.heap.size w' v L ∧ Below w.heap.size w w' := by
  subst hn
  go_enter Try.func53, Try.ntmps53
  go_wp2_with fail
  have C0 := Cp.nil w w.heap.size (Nat.le_refl _)
  go_loopw [3, 8] (fun o i wr => ∃ k : Nat, k ≤ L.length ∧ i = .int .i64 (k : Int) ∧ Hid (Cp w.heap.size wr o (L.take k)) ∧ Below w.heap.size w wr) (fun o i _ => L.length - (intOf i).toNat)
  case atStart => exact ⟨0, by omega, rfl, ⟨by simpa using C0⟩, Below.refl _ _⟩
  case round =>
    clear C0
    obtain ⟨k, hk, rfl, hO, hb⟩ := hrel
    by_cases hlt : k < L.length
    · have d1 : decide ((k : Int) < (L.length : Int)) = true := decide_eq_true (by omega)
      have k2 : (k : Int) < (L.length : Int) := by omega
      obtain ⟨u, hu⟩ : ∃ u, L[k]? = some u := ⟨L[k], List.getElem?_eq_getElem hlt⟩
      obtain ⟨b, off, ma, mc, rfl, hbl, c0, c1, c2, c3, c4, hsl⟩ := (hS.at'.later hb).get k u hu
      have hzu := hz u (List.mem_of_getElem? hu)
      have hc := fun w a cap h => copied_any u w a u.l.length cap rfl h hzu
      have hT := Hid.mk (takeV hu)
      have hlk : Hid ((L.take k).length ≤ 1954687338260) := ⟨by rw [List.length_take]; omega⟩
      have hw1 : wrap64 ((k : Int) + 1) = ((k + 1 : Nat) : Int) := by unfold wrap64; omega
      clear hu hS hL hz
      have bx := (Below.refl wr.heap.size wr).alloc (Nat.le_refl _) (.cells #[str u.key, .int .i64 u.seq, .bool u.mkr, str u.data, .slice ma u.l.length mc] 32)
      have hO1 := hO.out.later bx
      have hS1 := hsl.later bx
      have hcc := hc _ _ _ hS1
      go_wp2_with (first
        | (go_at_call 49; refine hcc.mono ?_; rintro e w1 ⟨ad, c, rfl, ow, b1⟩)
        | (refine app_cp rfl _ _ rfl u rfl rfl hO1 b1 ow rfl hlk.out rfl rfl ?_; intro v2 w2 o2 b2))
      exact ⟨⟨k + 1, by omega, by go_num, ⟨by rw [hT.out]; exact o2⟩, (hb.trans (bx.mono hb.size)).trans b2⟩, by rw [hw1]; exact Nat.sub_lt_sub_left hlt (Nat.lt_succ_self k)⟩
    · obtain rfl : k = L.length := by omega
      have d1 : decide ((L.length : Int) < (L.length : Int)) = false := decide_eq_false (by omega)
      go_wp2_with fail
      go_ret
      exact ⟨_, rfl, by have := hO.out; rwa [List.take_length] at this, hb⟩
end Go.Proofs.Ytcbajnajamjcnaa
