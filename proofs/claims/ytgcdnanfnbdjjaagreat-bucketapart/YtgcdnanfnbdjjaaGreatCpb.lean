/- copies, and the document's Own and Copy. -/
import Derived.Test.YtgcdnanfnbdjjaaGreatRem
namespace Go.Proofs.YtgcdnanfnbdjjaaGreat
set_option linter.unusedVariables false
set_option linter.unusedSimpArgs false
open Go.RowKit
attribute [local go_sem ↓] Go.wp_at_zero Go.wp_at_succ
attribute [local go_sem ↓] slPe
set_option maxRecDepth 100000 in
set_option maxHeartbeats 2000000 in
theorem bcopies_any (L : List Vs) (w : World) (a : Option Addr) (n cap : Nat) (hn : L.length = n) (hS : Ls w a cap L) (hL : L.length ≤ 1954687338240) (hz : ∀ v ∈ L, v.l.length ≤ 4398046510976) :
    Calls Tryz.prog 82 #[.slice a n cap] w fun e w' => ∃ v, e = .returned v ∧ Cp w.heap.size w' v L ∧ Below w.heap.size w w' := by
  subst hn
  go_enter Tryz.func82, Tryz.ntmps82
  go_wp2_with fail
  have C0 := Cp.nil w w.heap.size (Nat.le_refl _)
  go_loopw [3, 8] (fun o i wr => ∃ k : Nat, k ≤ L.length ∧ i = .int .i64 (k : Int) ∧ Hid (Cp w.heap.size wr o (L.take k)) ∧ Below w.heap.size w wr) (fun o i _ => L.length - (intOf i).toNat)
  case atStart => exact ⟨0, by omega, rfl, ⟨by simpa using C0⟩, Below.refl _ _⟩
  case round =>
    clear C0
    obtain ⟨k, hk, rfl, hO, hb⟩ := hrel
    by_cases hlt : k < L.length
    · have d1 : decide ((k : Int) < (L.length : Int)) = true := decide_eq_true (by omega)
      have k2 : (k : Int) < (L.length : Int) := by omega
      obtain ⟨u, hu⟩ : ∃ u, L[k]? = some u := ⟨L[k], List.getElem?_eq_getElem hlt⟩
      obtain ⟨b, off, ma, mc, rfl, hbl, c0, c1, c2, c3, c4, hsl⟩ := (hS.at'.later hb).get k u hu
      have hzu := hz u (List.mem_of_getElem? hu)
      have hT := Hid.mk (takeV hu)
      have hlk : Hid ((L.take k).length ≤ 1954687338260) := ⟨by rw [List.length_take]; omega⟩
      have hw1 : wrap64 ((k : Int) + 1) = ((k + 1 : Nat) : Int) := by unfold wrap64; omega
      clear hu hS hL hz
      have bx := (Below.refl wr.heap.size wr).alloc (Nat.le_refl _) (.cells #[str u.key, .int .i64 u.seq, .bool u.mkr, str u.data, .slice ma u.l.length mc] 39)
      have z1 := Bv.new wr (str u.key) (.int .i64 u.seq) (.bool u.mkr) (str u.data) (.slice ma u.l.length mc)
      obtain ⟨y0, y1, y2, y3, y4, _⟩ := z1.cells
      have hS1 := hsl.later bx
      have HP : Hid (∀ a5 c5 w3, Ow (wr.heap.size + 1) w3 (.slice a5 u.l.length c5) u.l → Below (wr.heap.size + 1) (wr.alloc (.cells #[str u.key, .int .i64 u.seq, .bool u.mkr, str u.data, .slice ma u.l.length mc] 39)) w3 → Bv w3 wr.heap.size (str u.key) (.int .i64 u.seq) (.bool u.mkr) (str u.data) (.slice ma u.l.length mc) ∧ Below wr.heap.size wr (w3.setCell ⟨wr.heap.size, 4, none⟩ (.slice a5 u.l.length c5)) ∧ Ow wr.heap.size (w3.setCell ⟨wr.heap.size, 4, none⟩ (.slice a5 u.l.length c5)) (.slice a5 u.l.length c5) u.l) := ⟨fun a5 c5 w3 o3 b3 => by
        refine ⟨z1.later (by rw [World.size_alloc]; exact b3), (bx.trans (b3.mono (by omega))).setCell (p := ⟨wr.heap.size, 4, none⟩) (Nat.le_refl _) (.slice a5 u.l.length c5), (o3.base (b' := wr.heap.size) (by omega)).other (g := wr.heap.size) (j := 4) (fun q => ?_) (.slice a5 u.l.length c5)⟩
        have := (o3.own.lt _ q).1
        omega⟩
      go_wp2_with (first
        | (refine app_sliceB rfl _ _ rfl u.l (Ow.nil _ (wr.heap.size + 1) (by simp)) hS1 rfl (by simp; omega) rfl rfl ?_; intro v3 w3 o3 b3; rw [List.nil_append] at o3; obtain ⟨a5, c5, rfl, s3⟩ := o3.sl; obtain ⟨z3, B6, o6⟩ := HP.out a5 c5 w3 o3 b3; obtain ⟨x0, x1, x2, x3, x4, xf⟩ := z3.cells; have f4 := xf 4; have z6 := z3.set4 (.slice a5 u.l.length c5); obtain ⟨p0, p1, p2, p3, p4, _⟩ := z6.cells; clear xf x0 x1 x2 x3)
        | (refine app_cp rfl _ _ rfl u rfl rfl hO.out B6 o6 (by simp) hlk.out rfl rfl ?_; intro v2 w2 o2 b2))
      exact ⟨⟨k + 1, by omega, by go_num, ⟨by rw [hT.out]; exact o2⟩, hb.trans b2⟩, by rw [hw1]; exact Nat.sub_lt_sub_left hlt (Nat.lt_succ_self k)⟩
    · obtain rfl : k = L.length := by omega
      have d1 : decide ((L.length : Int) < (L.length : Int)) = false := decide_eq_false (by omega)
      go_wp2_with fail
      go_ret
      exact ⟨_, rfl, by have := hO.out; rwa [List.take_length] at this, hb⟩
end Go.Proofs.YtgcdnanfnbdjjaaGreat
