/- TupleWrites: the walk. -/
import Derived.Test.YtijkabnhedmimabLift
import Derived.Test.YtijkabnhedmimabOpn
import Derived.Test.YtijkabnhedmimabWrC
import Derived.Test.YtijkabnhedmimabStyW
import Derived.Test.YtijkabnhedmimabLim
namespace Go.Proofs.Ytijkabnhedmimab
set_option linter.unusedVariables false
set_option linter.unusedSimpArgs false
open Go.RowKit
theorem cmpL_neg : ∀ (a b : List Pt), cmpL b a = - cmpL a b
  | [], [] => rfl
  | [], _ :: _ => rfl
  | _ :: _, [] => rfl
  | p :: a, q :: b => by
    simp only [cmpL]
    rw [cmpP_neg p q, cmpL_neg a b]
    by_cases h : cmpP p q = 0
    · rw [if_neg (by rw [h]; decide), if_neg (by rw [h]; decide)]
    · rw [if_pos (by omega), if_pos h]
theorem cmpL_cases : ∀ (a b : List Pt), cmpL a b = -1 ∨ cmpL a b = 0 ∨ cmpL a b = 1
  | [], [] => by simp [cmpL]
  | [], _ :: _ => by simp [cmpL]
  | _ :: _, [] => by simp [cmpL]
  | p :: a, q :: b => by
    simp only [cmpL]
    split
    · exact cmpP_cases p q
    · exact cmpL_cases a b
theorem wrote_gen (l : List Pt) : ∃ S E, wrote l = .tuple #[str S, .int .i64 E] := ⟨_, _, rfl⟩
theorem limited_gen (l : List Pt) : ∃ X Y H, limited l = .tuple #[str X, str Y, .int .i64 H] := ⟨_, _, _, rfl⟩
attribute [local go_sem ↓] Go.wp_at_zero Go.wp_at_succ
set_option maxHeartbeats 4000000 in
theorem tupleWrites_walk (l : List Pt) (a : Option Addr) (ca : Nat) (k : List Pt) (b : Option Addr) (cb : Nat) (W : World)
    (hPl : PIn W a l) (hNl : N64 l) (hBl : bulk l ≤ 20971520) (hPk : PIn W b k) (hNk : N64 k) (hBk : bulk k ≤ 20971520) :
    Calls Try.prog 3 #[.slice a l.length ca, .slice b k.length cb] W fun e w' => e = .returned (.bool true) ∧ Below W.heap.size W w' := by
  have hll : l.length ≤ 20971520 := Nat.le_trans (bulk_len l) hBl
  have hlk : k.length ≤ 20971520 := Nat.le_trans (bulk_len k) hBk
  have rw1 := fun w (h : Below W.heap.size W w) => refWrite_any l w a ca (hPl.later h) hNl (by omega)
  have rl1 := fun w (h : Below W.heap.size W w) => refLimits_any l w a ca (hPl.later h) hNl (by omega)
  have rc1 := fun w (h : Below W.heap.size W w) => refCompare_any l k w a b ca cb (hPl.later h) (hPk.later h) (by omega) (by omega)
  have pw1 := fun w a ca (h : PIn w a l) => write_any l w a ca h hNl (by omega)
  have pl1 := fun w a ca (h : PIn w a l) => limits_any l w a ca h hNl (by omega)
  have pc1 := fun w a ca b cb (h : PIn w a l) (h2 : PIn w b k) => compare_of cmpC l k w a b ca cb h h2 (by omega) (by omega)
  have pc2 := fun w a ca b cb (h : PIn w a l) (h2 : PIn w b k) => compare_of cmpC k l w b a cb ca h2 h (by omega) (by omega)
  have st1 := fun w ad c (hs : Sl w ad c (l ++ [k77, kmk])) (h : Below W.heap.size W w) => stays_any l w ad a c ca hs (hPl.later h) (by omega)
  have st2 := fun w ad c (hs : Sl w ad c (k ++ [k77, kmk])) (h : Below W.heap.size W w) => stays_any k w ad b c cb hs (hPk.later h) (by omega)
  obtain ⟨S, E, hWr⟩ := wrote_gen l
  obtain ⟨X, Y, H, hLi⟩ := limited_gen l
  simp only [hWr] at rw1 pw1
  simp only [hLi] at rl1 pl1
  rw [cmpL_neg l k] at pc2
  have hc := cmpL_cases l k
  generalize cmpL l k = c at *
  have hwn : IntKind.i64.wrap (-c) = -c := by rcases hc with rfl | rfl | rfl <;> rfl
  clear hWr hLi
  go_enter Try.func3, Try.ntmps3
  go_wp2_with fail
  refine (head_of cmpC _).mono ?_
  rintro e w1 ⟨rfl, hb1⟩
  dsimp only
  go_wp2_with fail
  refine (rw1 _ hb1).mono ?_
  rintro e w2 ⟨rfl, hb2⟩
  dsimp only
  have B2 := below_seq hb1 hb2
  go_wp2_with fail
  refine (rl1 _ B2).mono ?_
  rintro e w3 ⟨rfl, hb3⟩
  dsimp only
  have B3 := below_seq B2 hb3
  go_wp2_with fail
  refine (rc1 _ B3).mono ?_
  rintro e w4 ⟨rfl, hb4⟩
  dsimp only
  have B4 := below_seq B3 hb4
  go_wp2_with fail
  refine (own_any l w4 a ca (hPl.later B4) (by omega)).mono ?_
  rintro e w5 ⟨d1, c1, rfl, hO1, hb5⟩
  dsimp only
  have B5 := below_seq B4 hb5
  obtain ⟨d1', c1', q1, s1, _⟩ := own_sl hO1
  injection q1 with q1 q2 q3
  subst q1 q3
  clear q2 hO1
  go_wp2_with fail
  refine (own_any k w5 b cb (hPk.later B5) (by omega)).mono ?_
  rintro e w6 ⟨d2, c2, rfl, hO2, hb6⟩
  dsimp only
  have B6 := below_seq B5 hb6
  obtain ⟨d2', c2', q1, s2, _⟩ := own_sl hO2
  injection q1 with q1 q2 q3
  subst q1 q3
  clear q2 hO2
  replace s1 := s1.later hb6
  have p1 : PIn w6 d1 l := by have := s1.at'.take l.length; simpa using this
  have p2 : PIn w6 d2 k := by have := s2.at'.take k.length; simpa using this
  go_wp2_with fail
  refine (pw1 w6 d1 c1 p1).mono ?_
  rintro e w7 ⟨rfl, hb7⟩
  dsimp only
  go_wp2_with fail
  refine (pl1 w7 d1 c1 (p1.later hb7)).mono ?_
  rintro e w8 ⟨rfl, hb8⟩
  dsimp only
  have b68 := below_seq hb7 hb8
  have B8 := below_seq B6 b68
  replace s1 := s1.later b68
  replace s2 := s2.later b68
  replace p1 := p1.later b68
  replace p2 := p2.later b68
  clear hb7 hb8 b68 hb6 B6 hb5 B5 hb4 B4 hb3 B3 hb2 B2 hb1 rw1 rl1 rc1 pw1 pl1
  go_wp2_with fail
  refine (pc1 w8 d1 c1 d2 c2 p1 p2).mono ?_
  rintro e w9 ⟨rfl, hb9⟩
  dsimp only
  have B9 := below_seq B8 hb9
  go_wp2_with fail
  refine (pc2 w9 d1 c1 d2 c2 (p1.later hb9) (p2.later hb9)).mono ?_
  rintro e w10 ⟨rfl, hb10⟩
  dsimp only
  have B10 := below_seq B9 hb10
  have b10 := below_seq hb9 hb10
  go_wp2_with fail
  refine (st1 w10 d1 c1 (s1.later b10) B10).mono ?_
  rintro e w11 ⟨rfl, hb11⟩
  dsimp only
  have B11 := below_seq B10 hb11
  go_wp2_with fail
  refine (st2 w11 d2 c2 (s2.later (below_seq b10 hb11)) B11).mono ?_
  rintro e w12 ⟨rfl, hb12⟩
  dsimp only
  go_wp2_with fail
  go_ret
  exact ⟨rfl, below_seq B11 hb12⟩
end Go.Proofs.Ytijkabnhedmimab
