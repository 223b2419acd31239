/- lent: the walk. -/
import Derived.Test.YtaonjmmdgfbceaaLnt
import Derived.Deep.RegionLaw
namespace Go.Proofs.Ytaonjmmdgfbceaa
set_option linter.unusedVariables false
set_option linter.unusedSimpArgs false
open Go.RowKit
attribute [local go_sem ↓] Go.wp_at_zero Go.wp_at_succ
attribute [local go_sem ↓] slPe
set_option maxHeartbeats 4000000 in
theorem lent_any (L : List Vs) (w : World) (a : Option Addr) (n cap : Nat) (hL : Li w L a n cap) :
    Calls Try.prog 24 #[.slice a n cap] w fun e w' => ∃ v, e = .returned v ∧ Le w.heap.size w' v L ∧ Below w.heap.size w w' := by
  obtain rfl := hL.n
  have hlen := hL.l
  go_enter Try.func24, Try.ntmps24
  go_wp2_with fail
  have C0 := Lm.nil w w.heap.size (Nat.le_refl _)
  go_loopw [3, 4] (fun o i wr => ∃ k : Nat, k ≤ L.length ∧ i = .int .i64 (k : Int) ∧ Hid (Lm w.heap.size wr o (L.take k)) ∧ Below w.heap.size w wr) (fun o i _ => L.length - (intOf i).toNat)
  case atStart => exact ⟨0, by omega, rfl, ⟨by simpa using C0⟩, Below.refl _ _⟩
  case round =>
    clear C0
    obtain ⟨k, hk, rfl, hO, hb⟩ := hrel
    by_cases hlt : k < L.length
    · have d1 : decide ((k : Int) < (L.length : Int)) = true := decide_eq_true (by omega)
      have k2 : (k : Int) < (L.length : Int) := by omega
      obtain ⟨u, hu⟩ : ∃ u, L[k]? = some u := ⟨L[k], List.getElem?_eq_getElem hlt⟩
      obtain ⟨b, off, ma, mc, rfl, hbl, c0, c1, c2, c3, c4, hsl⟩ := ((hL.later hb).s.at').get k u hu
      have hzu := hL.z u (List.mem_of_getElem? hu)
      have hT := Hid.mk (takeV hu)
      have hlk : Hid ((L.take k).length ≤ 1954687338260) := ⟨by rw [List.length_take]; omega⟩
      have hw1 : wrap64 ((k : Int) + 1) = ((k + 1 : Nat) : Int) := by unfold wrap64; omega
      have bx := (Below.refl wr.heap.size wr).alloc (Nat.le_refl _) (.cells #[str u.key, .int .i64 u.seq, .bool u.mkr, str u.data, .slice ma u.l.length mc] 33)
      have zb := Bv.new wr (str u.key) (.int .i64 u.seq) (.bool u.mkr) (str u.data) (.slice ma u.l.length mc)
      obtain ⟨x0, x1, x2, x3, x4, xf⟩ := zb.cells
      have xf4 := xf 4
      have hc : ∀ j, Calls Try.prog 42 #[.slice ma u.l.length mc] ((wr.alloc (.cells #[str u.key, .int .i64 u.seq, .bool u.mkr, str u.data, .slice ma u.l.length mc] 33)).drewN j) fun e w' => ∃ ad c, e = .returned (.slice ad (u.l.length + 1) c) ∧ Ow (wr.heap.size + 1) w' (.slice ad (u.l.length + 1) c) (u.l ++ [mk]) ∧ Below (wr.heap.size + 1) (wr.alloc (.cells #[str u.key, .int .i64 u.seq, .bool u.mkr, str u.data, .slice ma u.l.length mc] 33)) w' := fun j => by
        refine (lentPairs_any u.l _ ma _ mc rfl ((hsl.later bx).later (below_dN (Below.refl _ _) j)) hzu).mono ?_
        rintro e w' ⟨ad, c, rfl, ow, bw⟩
        have e1 : ((wr.alloc (.cells #[str u.key, .int .i64 u.seq, .bool u.mkr, str u.data, .slice ma u.l.length mc] 33)).drewN j).heap.size = wr.heap.size + 1 := by
          show (wr.alloc _).heap.size = _
          simp
        rw [e1] at ow bw
        exact ⟨ad, c, rfl, ow, (below_dN (Below.refl _ _) j).trans bw⟩
      clear hu hL xf hsl
      go_wp2_with fail
      go_region_with (go_at_call 42; refine (hc _).mono ?_; rintro e w5 ⟨a5, c5, rfl, o5, b5⟩; have z5 := zb.later (by simpa using b5); obtain ⟨y0, y1, y2, y3, y4, yf⟩ := z5.cells; have yf4 := yf 4; have s5 := o5.slPre; have hr5 := fun w => run_slP a5 (u.l.length + 1) c5 u.l.length (by have := o5.slPre.le; omega) s5.max s5.nil w; clear yf)
      all_goals
        have z6 := z5.set4 (.slice a5 u.l.length c5)
        have hno : (Value.slice a5 (u.l.length + 1) c5).ownBlock ≠ some wr.heap.size := fun q => by
          have := (o5.own.lt _ q).1
          omega
        have o6 := (o5.base (b' := wr.heap.size) (by omega)).other (g := wr.heap.size) (j := 4) hno (.slice a5 u.l.length c5)
        have B6 := (bx.trans (b5.mono (by omega))).setCell (p := ⟨wr.heap.size, 4, none⟩) (Nat.le_refl _) (.slice a5 u.l.length c5)
        generalize w5.setCell ⟨wr.heap.size, 4, none⟩ (.slice a5 u.l.length c5) = W6 at *
        clear y0 y1 y2 y3 y4 yf4 x0 x1 x2 x3 x4 xf4 z5 o5 b5 s5 hr5 zb bx hc c0 c1 c2 c3 c4
        obtain ⟨y0, y1, y2, y3, y4, _⟩ := z6.cells
        go_wp2_with (refine app_lm rfl _ _ rfl u rfl rfl hO.out B6 o6 rfl hlk.out rfl rfl ?_; intro v7 w7 l7 b7)
        exact ⟨⟨k + 1, by omega, by go_num, ⟨by rw [hT.out]; exact l7⟩, hb.trans b7⟩, by first | (rw [hw1]; exact lss_meas hlt) | exact meas1 hlt⟩
    · obtain rfl : k = L.length := by omega
      have d1 : decide ((L.length : Int) < (L.length : Int)) = false := decide_eq_false (by omega)
      have hO1 := hO.out
      rw [List.take_length] at hO1
      have HO := Hid.mk hO1
      clear hL hO hO1
      go_wp2_with (refine app_le rfl _ _ rfl rfl HO.out rfl (by omega) rfl rfl ?_; intro v2 w2 o2 b2)
      go_ret
      exact ⟨_, rfl, o2, hb.trans b2⟩
end Go.Proofs.Ytaonjmmdgfbceaa
