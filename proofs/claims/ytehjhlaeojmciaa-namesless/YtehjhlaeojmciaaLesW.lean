/- NamesLess: the walk. -/
import Derived.Test.YtehjhlaeojmciaaStp
namespace Go.Proofs.Ytehjhlaeojmciaa
set_option linter.unusedVariables false
set_option linter.unusedSimpArgs false
open Go.RowKit
attribute [local go_sem ↓] Go.wp_at_zero Go.wp_at_succ
attribute [local go_sem ↓] slPe
def two {α : Type} (x y : α) : Nat → α := fun j => if j = 0 then x else y
theorem two_lt {P : Nat → Prop} (h0 : P 0) (h1 : P 1) (i : Nat) (h : i < 2) : P i := by
  rcases (by omega : i = 0 ∨ i = 1) with rfl | rfl
  · exact h0
  · exact h1
theorem mtE_zero {l : List En} (h : mtE l = 0) : l.length ≤ 8 ∧ (∀ p ∈ l, prb p = true) ∧ Srt l := by
  unfold mtE at h
  by_cases q : l.length ≤ 8 ∧ (∀ p ∈ l, prb p = true) ∧ Srt l
  · exact q
  · rw [if_neg q] at h; cases h
theorem mtE_mk {l : List En} (h : l.length ≤ 8 ∧ (∀ p ∈ l, prb p = true) ∧ Srt l) : mtE l = 0 := by unfold mtE; rw [if_pos h]
theorem mtE_sub {l m : List En} (h : mtE l = 0) (hs : m.Sublist l) : mtE m = 0 := by
  obtain ⟨h1, h2, h3⟩ := mtE_zero h
  exact mtE_mk ⟨Nat.le_trans hs.length_le h1, fun p hp => h2 p (hs.subset hp), List.Pairwise.sublist hs h3⟩
theorem mtE_rev {l : List En} (h : mtE l = 0) : mtE l.reverse = if l.length < 2 then 0 else 62 := by
  obtain ⟨h1, h2, h3⟩ := mtE_zero h
  by_cases hl : l.length < 2
  · rw [if_pos hl]
    refine mtE_mk ⟨by simpa using h1, fun p hp => h2 p (by simpa using hp), ?_⟩
    match l, hl with
    | [], _ => exact Srt.nil
    | [p], _ => exact srt_one _
  · rw [if_neg hl]
    obtain ⟨p, hp⟩ : ∃ p, l[0]? = some p := ⟨l[0]'(by omega), List.getElem?_eq_getElem (by omega)⟩
    obtain ⟨q, hq⟩ : ∃ p, l[1]? = some p := ⟨l[1]'(by omega), List.getElem?_eq_getElem (by omega)⟩
    have hlt := h3.get (by omega) hp hq
    refine mtE_ord (k := l.length - 1) (p := q) (q := p) (by omega) ?_ ?_ (lt_asymm hlt)
    · rw [List.getElem?_reverse (by omega), show l.length - 1 - (l.length - 1 - 1) = 1 by omega]; exact hq
    · rw [List.getElem?_reverse (by omega), show l.length - 1 - (l.length - 1) = 0 by omega]; exact hp
theorem mtE_twice {l : List En} {i : Nat} {p : En} (hp : l[i]? = some p) : mtE (l.take (i + 1) ++ l.drop i) = 62 := by
  have hi := (List.getElem?_eq_some_iff.1 hp).1
  have hl : (l.take (i + 1)).length = i + 1 := by rw [List.length_take]; omega
  refine mtE_ord (k := i + 1) (p := p) (q := p) (by omega) ?_ ?_ lt_irrefl
  · rw [Nat.add_sub_cancel, List.getElem?_append_left (by omega), List.getElem?_take_of_lt (by omega)]; exact hp
  · rw [List.getElem?_append_right (by omega), hl, Nat.sub_self, List.getElem?_drop]; exact hp
theorem rev_next {l : List En} {k : Nat} {p : En} (h : k < l.length) (hp : l[l.length - 1 - k]? = some p) : l.reverse.take (k + 1) = l.reverse.take k ++ [p] := by
  rw [List.take_add_one, List.getElem?_reverse h, hp]; rfl
set_option maxHeartbeats 4000000 in
theorem namesLess_walk (l : List En) (a : Option Addr) (cap : Nat) (out : Int) (W : World) (hP : PIn W a l) (hz : ∀ (k : Nat) (e : En), l[k]? = some e → e.key.length ≤ 140737488351232 ∧ e.val.length ≤ 140737488351232) (hl : l.length ≤ 4398046510976) (hsl : l.length ≤ cap ∧ cap ≤ 9223372036854775807 ∧ (a = none → cap = 0)) (ho1 : -9223372036854775808 ≤ out) (ho2 : out ≤ 9223372036854775807) :
    Calls Try.prog 4 #[.slice a l.length cap, .int .i64 out] W fun e W' => e = .returned (.bool true) ∧ Below W.heap.size W W' := by
  have hm := fun w h => meta_any l w a l.length cap rfl h (by omega)
  rcases mtE_or l with h0 | h0
  · rw [h0] at hm
    obtain ⟨h8, _⟩ := mtE_zero h0
    have Hm0 := Hid.mk h0
    clear h0
    have d8 : decide ((8 : Int) < (l.length : Int)) = false := decide_eq_false (by omega)
    go_enter Try.func4, Try.ntmps4
    go_wp2_with (first
      | (go_at_call 9; refine (first_any _).mono ?_; rintro e w1 ⟨rfl, b1⟩)
      | (go_at_call 11; refine (hm _ (hP.later b1)).mono ?_; rintro e w2 ⟨rfl, b2⟩))
    have B2 := below_seq b1 b2
    clear b1 b2
    go_loopw [5, 6, 7] (fun x y i wr => ∃ (k : Nat) (X : List En), k ≤ l.length ∧ i = .int .i64 (k : Int) ∧ Hid (X.Sublist (l.take k)) ∧ Hid (Rs W.heap.size wr 2 (two x y) (two X (l.reverse.take k))) ∧ Below W.heap.size W wr) (fun _ _ i _ => l.length - (intOf i).toNat)
    case atStart => exact ⟨0, [], by omega, rfl, ⟨List.Sublist.refl _⟩, ⟨⟨fun i hi => by
        rcases (by omega : i = 0 ∨ i = 1) with rfl | rfl
        · exact Ow.nil _ _ B2.size
        · exact Ow.nil _ _ B2.size, fun i j hi hj hn g hg => by
        unfold two at hg; split at hg <;> cases hg⟩⟩, B2⟩
    case round =>
      obtain ⟨k, X, hk, rfl, HX, HR, hb⟩ := hrel
      by_cases hlt : k < l.length
      · have d1 : decide ((k : Int) < (l.length : Int)) = true := decide_eq_true (by omega)
        have k2 : (k : Int) < (l.length : Int) := by omega
        have hmod : (k : Int).tmod 31 = (k : Int) := by rw [Int.tmod_eq_emod_of_nonneg (by omega)]; omega
        obtain ⟨p, hp⟩ : ∃ p, l[k]? = some p := ⟨l[k], List.getElem?_eq_getElem hlt⟩
        obtain ⟨q, hq⟩ : ∃ p, l[l.length - 1 - k]? = some p := ⟨l[l.length - 1 - k]'(by omega), List.getElem?_eq_getElem (by omega)⟩
        obtain ⟨b, off, rfl, hbl, c0, c1⟩ := (hP.later hb).get k p hp
        obtain ⟨j, hj⟩ : ∃ j, l.length - 1 - k = j := ⟨_, rfl⟩
        rw [hj] at hq
        have hji : (l.length : Int) - 1 - (k : Int) = (j : Int) := by omega
        have hjl : (j : Int) < (l.length : Int) := by omega
        have HY : Hid (l.reverse.take (k + 1) = l.reverse.take k ++ [q]) := ⟨rev_next hlt (by rw [hj]; exact hq)⟩
        have HX1 : Hid ((X ++ [p]).Sublist (l.take (k + 1))) := ⟨by rw [take_succ' hp]; exact HX.out.append (List.Sublist.refl _)⟩
        have HX2 : Hid (X.Sublist (l.take (k + 1))) := ⟨HX.out.trans (by rw [take_succ' hp]; exact List.sublist_append_left _ _)⟩
        have hXl : X.length ≤ 8 := by have := HX.out.length_le; rw [List.length_take] at this; omega
        have hYl : (l.reverse.take k).length ≤ 8 := by rw [List.length_take, List.length_reverse]; omega
        have hq2 := fun w (h : Below W.heap.size W w) => (hP.later h).get j q hq
        generalize l.reverse.take k = Y at *
        by_cases hbit : bits BinOp.and IntKind.i64 (out / 2 ^ k) 1 = 0
        · have db : (bits BinOp.and IntKind.i64 (out / 2 ^ k) 1 == 0) = true := by rw [hbit]; rfl
          clear hbit
          go_wp2_with (first
            | (refine rs_app rfl _ _ rfl (i := 0) p rfl HR.out (by omega) rfl (by show X.length ≤ _; omega) rfl rfl ?_; intro g3 cp3 w3 R3 b3 _; have B3 := hb.trans b3; obtain ⟨b', off', e', hbl', f0, f1⟩ := hq2 _ B3; injection e' with e'; injection e' with e1 e2; subst e1 e2)
            | (refine rs_app rfl _ _ rfl (i := 1) q rfl R3 (by omega) rfl (by show Y.length ≤ _; omega) rfl rfl ?_; intro g4 cp4 w4 R4 b4 _))
          exact ⟨⟨k + 1, X ++ [p], by omega, by go_num, HX1, ⟨by rw [HY.out]; exact R4.congr (two_lt rfl rfl) (two_lt rfl rfl)⟩, B3.trans b4⟩, by simp [intOf]; omega⟩
        · have db : (bits BinOp.and IntKind.i64 (out / 2 ^ k) 1 == 0) = false := by rw [beq_eq_false_iff_ne]; exact hbit
          clear hbit
          obtain ⟨b', off', e', hbl', f0, f1⟩ := hq2 _ hb
          injection e' with e'
          injection e' with e1 e2
          subst e1 e2
          go_wp2_with (refine rs_app rfl _ _ rfl (i := 1) q rfl HR.out (by omega) rfl (by show Y.length ≤ _; omega) rfl rfl ?_; intro g4 cp4 w4 R4 b4 _)
          exact ⟨⟨k + 1, X, by omega, by go_num, HX2, ⟨by rw [HY.out]; exact R4.congr (two_lt rfl rfl) (two_lt rfl rfl)⟩, hb.trans b4⟩, by simp [intOf]; omega⟩
      · obtain rfl : k = l.length := by omega
        have d1 : decide ((l.length : Int) < (l.length : Int)) = false := decide_eq_false (by omega)
        have hY : l.reverse.take l.length = l.reverse := List.take_of_length_le (by simp)
        rw [hY] at HR
        have hXm : mtE X = 0 := by
          have := HX.out
          rw [List.take_length] at this
          exact mtE_sub Hm0.out this
        have hYm := mtE_rev Hm0.out
        have hXl : X.length ≤ 8 := (mtE_zero hXm).1
        obtain ⟨ax, cx, ex, sx⟩ : ∃ a cap, u5 = .slice a X.length cap ∧ Sl wr a cap X := (HR.out.ow 0 (by omega)).sl
        obtain ⟨ay, cy, ey, sy⟩ : ∃ a cap, u6 = .slice a l.reverse.length cap ∧ Sl wr a cap l.reverse := (HR.out.ow 1 (by omega)).sl
        have hyl : l.reverse.length ≤ 8 := by rw [List.length_reverse]; omega
        have hmx := meta_any X wr ax X.length cx rfl sx.at' (by omega)
        rw [hXm] at hmx
        have hmy := fun w (h : Below wr.heap.size wr w) => meta_any l.reverse w ay l.reverse.length cy rfl (sy.later h).at' (by omega)
        rw [hYm] at hmy
        have HTW : Hid (∀ i p, l[i]? = some p → mtE (l.take (i + 1) ++ l.drop i) = 62) := ⟨fun i p hp => mtE_twice hp⟩
        generalize l.reverse.length = RL at *
        generalize l.reverse = Rv at *
        subst ex ey
        have HL2 : Hid (Below W.heap.size W wr) := ⟨hb⟩
        clear hY hYm hXm HX HR sx sy hyl
        by_cases hl2 : l.length < 2
        · rw [if_pos hl2] at hmy
          have d2 : decide ((l.length : Int) < 2) = true := decide_eq_true (by omega)
          go_wp2_with fail
          with_reducible refine Calls.mono hmx ?_
          rintro e w3 ⟨rfl, b3⟩
          dsimp only
          clear hmx
          have hmy3 := hmy w3 b3
          clear hmy
          go_wp2_with fail
          with_reducible refine Calls.mono hmy3 ?_
          rintro e w4 ⟨rfl, b4⟩
          dsimp only
          have B4 := HL2.out.trans ((below_seq b3 b4).mono HL2.out.size)
          clear b3 b4 hmy3 hb HL2
          go_wp2_with fail
          go_loopw [8] (fun i wr => ∃ k : Nat, k ≤ l.length ∧ i = .int .i64 (k : Int) ∧ Below W.heap.size W wr) (fun i _ => l.length - (intOf i).toNat)
          case atStart => exact ⟨0, by omega, rfl, B4⟩
          case round =>
            obtain ⟨k, hk, rfl, hb⟩ := hrel
            by_cases hlt : k < l.length
            · have d1 : decide ((k : Int) < (l.length : Int)) = true := decide_eq_true (by omega)
              obtain ⟨p, hp⟩ : ∃ p, l[k]? = some p := ⟨l[k], List.getElem?_eq_getElem hlt⟩
              have hT := HTW.out k p hp
              have hS : Sl wr a cap l := ⟨hP.later hb, hsl.1, hsl.2.1, hsl.2.2⟩
              have r1 : ∀ w, (slP (.slice a l.length cap) none (some (.int .i64 ((k : Int) + 1))) none).run Try.prog w = .ok (.slice a (k + 1) cap) w := fun w => run_slP a l.length cap (k + 1) (by omega) hsl.2.1 hsl.2.2 w
              have hw1 : IntKind.i64.wrap ((k : Int) + 1) = (k : Int) + 1 := by rw [IntKind.wrap_i64]; omega
              have r2 := fun w => run_slP_lo a l.length cap k (by omega) hsl.1 hsl.2.1 hsl.2.2 w
              have s1 := hS.take (k + 1)
              have s2 := hS.drop k (by omega)
              have l1 : (l.take (k + 1)).length = k + 1 := by rw [List.length_take]; omega
              have l2 : (l.drop k).length = l.length - k := List.length_drop
              generalize l.take (k + 1) = X1 at *
              generalize l.drop k = Y1 at *
              generalize dropA a cap k = a2 at *
              clear hS hp
              have L1 := Hid.mk l1
              have L2 := Hid.mk l2
              clear l1 l2
              have hmt := fun w a c h => meta_any (X1 ++ Y1) w a (X1 ++ Y1).length c rfl h (by rw [List.length_append, L1.out, L2.out]; omega)
              rw [hT] at hmt
              go_wp2_with fail
              go_region_held3 (fun w' => Below wr.heap.size wr w') (first
                | exact (Below.refl _ _).drew
                | exact ((Below.refl _ _).alloc (Nat.le_refl _) _).drew
                | exact ((Below.refl _ _).drew).alloc (Nat.le_refl _) _
                | exact Below.trans (by assumption) b5
                | exact Below.trans (by assumption) b6) (first
                | (refine step_app rfl _ _ rfl X1 (Ow.empty (base := wr.heap.size) wr (Nat.le_refl _)).drew (s1.later (by assumption)) L1.out (by rw [L1.out]; simp; omega) rfl rfl ?_; intro v5 w5 o5 b5)
                | (refine step_app rfl _ _ rfl Y1 o5 (s2.later (by assumption)) L2.out (by rw [List.nil_append, L1.out, L2.out]; omega) rfl rfl ?_; intro v6 w6 o6 b6; rw [List.nil_append] at o6))
              have h6 : Below wr.heap.size wr w6 := by assumption
              obtain ⟨a6, c6, rfl, s6⟩ := o6.sl
              have hm6 := hmt w6 a6 c6 s6.at'
              generalize (X1 ++ Y1).length = n6 at *
              clear hmt o5 o6 b5 b6 s1 s2
              go_wp2_with fail
              with_reducible refine Calls.mono hm6 ?_
              rintro e w7 ⟨rfl, b7⟩
              dsimp only
              go_wp2_with fail
              exact ⟨⟨k + 1, by omega, by go_num, hb.trans ((below_seq h6 b7).mono hb.size)⟩, by simp [intOf]; omega⟩
            · obtain rfl : k = l.length := by omega
              have d1 : decide ((l.length : Int) < (l.length : Int)) = false := decide_eq_false (by omega)
              go_wp2_with fail
              go_ret
              exact ⟨rfl, hb⟩
        · rw [if_neg hl2] at hmy
          have d2 : decide ((l.length : Int) < 2) = false := decide_eq_false (by omega)
          go_wp2_with fail
          with_reducible refine Calls.mono hmx ?_
          rintro e w3 ⟨rfl, b3⟩
          dsimp only
          clear hmx
          have hmy3 := hmy w3 b3
          clear hmy
          go_wp2_with fail
          with_reducible refine Calls.mono hmy3 ?_
          rintro e w4 ⟨rfl, b4⟩
          dsimp only
          have B4 := HL2.out.trans ((below_seq b3 b4).mono HL2.out.size)
          clear b3 b4 hmy3 hb HL2
          go_wp2_with fail
          go_loopw [8] (fun i wr => ∃ k : Nat, k ≤ l.length ∧ i = .int .i64 (k : Int) ∧ Below W.heap.size W wr) (fun i _ => l.length - (intOf i).toNat)
          case atStart => exact ⟨0, by omega, rfl, B4⟩
          case round =>
            obtain ⟨k, hk, rfl, hb⟩ := hrel
            by_cases hlt : k < l.length
            · have d1 : decide ((k : Int) < (l.length : Int)) = true := decide_eq_true (by omega)
              obtain ⟨p, hp⟩ : ∃ p, l[k]? = some p := ⟨l[k], List.getElem?_eq_getElem hlt⟩
              have hT := HTW.out k p hp
              have hS : Sl wr a cap l := ⟨hP.later hb, hsl.1, hsl.2.1, hsl.2.2⟩
              have r1 : ∀ w, (slP (.slice a l.length cap) none (some (.int .i64 ((k : Int) + 1))) none).run Try.prog w = .ok (.slice a (k + 1) cap) w := fun w => run_slP a l.length cap (k + 1) (by omega) hsl.2.1 hsl.2.2 w
              have hw1 : IntKind.i64.wrap ((k : Int) + 1) = (k : Int) + 1 := by rw [IntKind.wrap_i64]; omega
              have r2 := fun w => run_slP_lo a l.length cap k (by omega) hsl.1 hsl.2.1 hsl.2.2 w
              have s1 := hS.take (k + 1)
              have s2 := hS.drop k (by omega)
              have l1 : (l.take (k + 1)).length = k + 1 := by rw [List.length_take]; omega
              have l2 : (l.drop k).length = l.length - k := List.length_drop
              generalize l.take (k + 1) = X1 at *
              generalize l.drop k = Y1 at *
              generalize dropA a cap k = a2 at *
              clear hS hp
              have L1 := Hid.mk l1
              have L2 := Hid.mk l2
              clear l1 l2
              have hmt := fun w a c h => meta_any (X1 ++ Y1) w a (X1 ++ Y1).length c rfl h (by rw [List.length_append, L1.out, L2.out]; omega)
              rw [hT] at hmt
              go_wp2_with fail
              go_region_held3 (fun w' => Below wr.heap.size wr w') (first
                | exact (Below.refl _ _).drew
                | exact ((Below.refl _ _).alloc (Nat.le_refl _) _).drew
                | exact ((Below.refl _ _).drew).alloc (Nat.le_refl _) _
                | exact Below.trans (by assumption) b5
                | exact Below.trans (by assumption) b6) (first
                | (refine step_app rfl _ _ rfl X1 (Ow.empty (base := wr.heap.size) wr (Nat.le_refl _)).drew (s1.later (by assumption)) L1.out (by rw [L1.out]; simp; omega) rfl rfl ?_; intro v5 w5 o5 b5)
                | (refine step_app rfl _ _ rfl Y1 o5 (s2.later (by assumption)) L2.out (by rw [List.nil_append, L1.out, L2.out]; omega) rfl rfl ?_; intro v6 w6 o6 b6; rw [List.nil_append] at o6))
              have h6 : Below wr.heap.size wr w6 := by assumption
              obtain ⟨a6, c6, rfl, s6⟩ := o6.sl
              have hm6 := hmt w6 a6 c6 s6.at'
              generalize (X1 ++ Y1).length = n6 at *
              clear hmt o5 o6 b5 b6 s1 s2
              go_wp2_with fail
              with_reducible refine Calls.mono hm6 ?_
              rintro e w7 ⟨rfl, b7⟩
              dsimp only
              go_wp2_with fail
              exact ⟨⟨k + 1, by omega, by go_num, hb.trans ((below_seq h6 b7).mono hb.size)⟩, by simp [intOf]; omega⟩
            · obtain rfl : k = l.length := by omega
              have d1 : decide ((l.length : Int) < (l.length : Int)) = false := decide_eq_false (by omega)
              go_wp2_with fail
              go_ret
              exact ⟨rfl, hb⟩
  · rw [h0] at hm
    clear h0
    go_enter Try.func4, Try.ntmps4
    go_wp2_with (first
      | (go_at_call 9; refine (first_any _).mono ?_; rintro e w1 ⟨rfl, b1⟩)
      | (go_at_call 11; refine (hm _ (hP.later b1)).mono ?_; rintro e w2 ⟨rfl, b2⟩))
    go_ret
    exact ⟨rfl, below_seq b1 b2⟩
end Go.Proofs.Ytehjhlaeojmciaa
