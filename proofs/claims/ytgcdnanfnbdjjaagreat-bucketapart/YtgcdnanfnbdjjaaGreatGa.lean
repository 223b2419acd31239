import Derived.Test.YtgcdnanfnbdjjaaGreatGe
import Derived.Test.YtgcdnanfnbdjjaaGreatQrg
import Derived.Test.YtgcdnanfnbdjjaaGreatLsb
/- The examples: what is answered. -/
namespace Go.Proofs.YtgcdnanfnbdjjaaGreat
set_option linter.unusedVariables false
set_option linter.unusedSimpArgs false
open Go.RowKit
abbrev kk : List UInt8 := [107]
def e1 : Vs := ⟨[107], 1, false, [111, 110, 101], []⟩
def e2 : Vs := ⟨[107], 2, false, [116, 119, 111], [⟨[97], [98]⟩]⟩
def e3 : Vs := ⟨[107], 3, true, [], []⟩
theorem keyE_k : keyE [107] = 0 := by unfold keyE; rw [if_pos (by decide)]
theorem mtE_nil : mtE [] = 0 := by unfold mtE; rw [if_pos ⟨by decide, by simp, Srt.nil⟩]
theorem mtE_ab : mtE [⟨[97], [98]⟩] = 0 := by
  unfold mtE
  rw [if_pos]
  refine ⟨by decide, fun p hp => ?_, List.pairwise_singleton _ _⟩
  simp at hp
  subst hp
  simp [prb, smN, smc]
theorem vr1 : vrV e1 = 0 := vrV_iff.2 ⟨⟨keyE_k, by unfold datE; rw [if_pos (by decide)], mtE_nil⟩, fun h => by cases h⟩
theorem vr2 : vrV e2 = 0 := vrV_iff.2 ⟨⟨keyE_k, by unfold datE; rw [if_pos (by decide)], mtE_ab⟩, fun h => by cases h⟩
theorem vr3 : vrV e3 = 0 := vrV_iff.2 ⟨⟨keyE_k, by unfold datE; rw [if_pos (by decide)], mtE_nil⟩, fun _ => ⟨rfl, rfl⟩⟩
theorem puL_y {L : List Vs} {v : Vs} (h : puE L v = 0) : puL L v = L ++ [v] := by unfold puL; rw [if_pos h]
theorem rf1 : rfE 1 [] e1 = 0 := rfE_5 vr1 (by decide) (by decide) (by decide +kernel)
theorem rf2 : rfE 2 [e1] e2 = 0 := rfE_5 vr2 (by decide) (by decide) (by decide +kernel)
theorem rf3 : rfE 3 [e1, e2] e3 = 0 := rfE_5 vr3 (by decide) (by decide) (by decide +kernel)
theorem pu1 : puE (gpL [] 0 kk) e1 = 0 := by unfold puE; simp [gpL, lastV]; decide
theorem pu2 : puE (gpL [e1] 0 kk) e2 = 0 := puE_ok (u := e1) rfl rfl (by decide)
theorem pu3 : puE (gpL [e1, e2] 0 kk) e3 = 0 := puE_ok (u := e2) rfl rfl (by decide)
theorem srt1 : SrtV [e1] := by decide
theorem srt2 : SrtV [e1, e2] := by decide
theorem srt3 : SrtV [e1, e2, e3] := by decide
theorem adp1 {w w' : World} {e : Ending} {i : Nat} (hi : i ≤ ([] : List Vs).length) (h : AdP w w' e 1 [] i e1) : RC w w' e 2 [e1] 1 0 := by
  obtain rfl : i = 0 := by simpa using hi
  rcases h with ⟨q, _⟩ | ⟨_, q, _⟩ | ⟨_, q, h⟩
  · exact absurd rf1 q
  · exact absurd pu1 q
  · rw [puL_y q, show wrap64 (1 + 1) = 2 by decide +kernel] at h
    exact h
theorem adp2 {w w' : World} {e : Ending} {i : Nat} (hs : SrtV [e1] → i = fndV [e1] kk) (h : AdP w w' e 2 [e1] i e2) : RC w w' e 3 [e1, e2] 2 0 := by
  obtain rfl : i = 0 := by rw [hs srt1]; decide
  rcases h with ⟨q, _⟩ | ⟨_, q, _⟩ | ⟨_, q, h⟩
  · exact absurd rf2 q
  · exact absurd pu2 q
  · rw [puL_y q, show wrap64 (2 + 1) = 3 by decide +kernel] at h
    exact h
theorem adp3 {w w' : World} {e : Ending} {i : Nat} (hs : SrtV [e1, e2] → i = fndV [e1, e2] kk) (h : AdP w w' e 3 [e1, e2] i e3) : RC w w' e 4 [e1, e2, e3] 3 0 := by
  obtain rfl : i = 0 := by rw [hs srt2]; decide
  rcases h with ⟨q, _⟩ | ⟨_, q, _⟩ | ⟨_, q, h⟩
  · exact absurd rf3 q
  · exact absurd pu3 q
  · rw [puL_y q, show wrap64 (3 + 1) = 4 by decide +kernel] at h
    exact h
theorem adp0 {w w' : World} {e : Ending} {i : Nat} (h : AdP w w' e 1 [] i ⟨[], 1, false, [], []⟩) : RC w w' e 0 [] 0 61 := by
  have hk : keyE [] = 61 := by unfold keyE; rw [if_neg (by decide)]
  have hv : vrV ⟨[], 1, false, [], []⟩ = 61 := by unfold vrV vrE; rw [if_pos (by show ¬ keyE [] = 0; rw [hk]; decide)]
  have hr : rfE 1 [] ⟨[], 1, false, [], []⟩ = 61 := rfE_1 hv (by decide)
  rcases h with ⟨_, q⟩ | ⟨q, _⟩ | ⟨q, _⟩
  · rw [hr] at q; exact q
  · rw [hr] at q; exact absurd q (by decide)
  · rw [hr] at q; exact absurd q (by decide)
theorem get2 {w w' : World} {e : Ending} {i : Nat} (hs : SrtV [e1, e2] → i = fndV [e1, e2] kk) (h : (¬ keyE kk = 0 ∧ RV w w' e vs0 (keyE kk)) ∨ (keyE kk = 0 ∧ RV w w' e (toV (gpL [e1, e2] i kk)) (toE (gpL [e1, e2] i kk)))) : RV w w' e e2 0 := by
  obtain rfl : i = 0 := by rw [hs srt2]; decide
  rcases h with ⟨q, _⟩ | ⟨_, q⟩
  · exact absurd keyE_k q
  · rw [toV_ok (u := e2) rfl rfl, toE_ok (u := e2) rfl rfl] at q
    exact q
theorem get3 {w w' : World} {e : Ending} {i : Nat} (hs : SrtV [e1, e2, e3] → i = fndV [e1, e2, e3] kk) (h : (¬ keyE kk = 0 ∧ RV w w' e vs0 (keyE kk)) ∨ (keyE kk = 0 ∧ RV w w' e (toV (gpL [e1, e2, e3] i kk)) (toE (gpL [e1, e2, e3] i kk)))) : RV w w' e vs0 73 := by
  obtain rfl : i = 0 := by rw [hs srt3]; decide
  rcases h with ⟨q, _⟩ | ⟨_, q⟩
  · exact absurd keyE_k q
  · rw [toV_mk (u := e3) rfl rfl, toE_mk (u := e3) rfl rfl] at q
    exact q
theorem getv {w w' : World} {e : Ending} {i : Nat} (hs : SrtV [e1, e2] → i = fndV [e1, e2] kk) (h : (¬ keyE kk = 0 ∧ RV w w' e vs0 (keyE kk)) ∨ (keyE kk = 0 ∧ RV w w' e (geV (gpL [e1, e2] i kk) 1) (geE (gpL [e1, e2] i kk) 1))) : RV w w' e e1 0 := by
  obtain rfl : i = 0 := by rw [hs srt2]; decide
  rcases h with ⟨q, _⟩ | ⟨_, q⟩
  · exact absurd keyE_k q
  · exact q
theorem del3 {w w' : World} {e : Ending} {i : Nat} (hs : SrtV [e1, e2, e3] → i = fndV [e1, e2, e3] kk) (h : (¬ keyE kk = 0 ∧ RB w w' e 0 [] (keyE kk)) ∨ (keyE kk = 0 ∧ geE (gpL [e1, e2, e3] i kk) 3 = 72 ∧ RB w w' e 0 [] 72) ∨ (keyE kk = 0 ∧ geE (gpL [e1, e2, e3] i kk) 3 = 0 ∧ RB w w' e 4 (([e1, e2, e3] : List Vs).take i ++ rmL (gpL [e1, e2, e3] i kk) 3 ++ ([e1, e2, e3] : List Vs).drop (i + ken (([e1, e2, e3] : List Vs).drop i) kk)) 0)) : RB w w' e 4 [e1, e2] 0 := by
  obtain rfl : i = 0 := by rw [hs srt3]; decide
  rcases h with ⟨q, _⟩ | ⟨_, q, _⟩ | ⟨_, _, q⟩
  · exact absurd keyE_k q
  · exact absurd q (by decide)
  · exact q
theorem del9 {w w' : World} {e : Ending} {i : Nat} (hs : SrtV [e1, e2, e3] → i = fndV [e1, e2, e3] kk) (h : (¬ keyE kk = 0 ∧ RB w w' e 0 [] (keyE kk)) ∨ (keyE kk = 0 ∧ geE (gpL [e1, e2, e3] i kk) 9 = 72 ∧ RB w w' e 0 [] 72) ∨ (keyE kk = 0 ∧ geE (gpL [e1, e2, e3] i kk) 9 = 0 ∧ RB w w' e 4 (([e1, e2, e3] : List Vs).take i ++ rmL (gpL [e1, e2, e3] i kk) 9 ++ ([e1, e2, e3] : List Vs).drop (i + ken (([e1, e2, e3] : List Vs).drop i) kk)) 0)) : RB w w' e 0 [] 72 := by
  obtain rfl : i = 0 := by rw [hs srt3]; decide
  rcases h with ⟨q, _⟩ | ⟨_, _, q⟩ | ⟨_, q, _⟩
  · exact absurd keyE_k q
  · exact q
  · exact absurd q (by decide)
theorem right3 : RtB 4 [e1, e2, e3] := by
  refine ⟨by decide, by decide, by decide, fun v hv => ?_, srt3, by decide, by decide +kernel⟩
  simp at hv
  rcases hv with rfl | rfl | rfl
  · exact ⟨by decide, by decide, vr1⟩
  · exact ⟨by decide, by decide, vr2⟩
  · exact ⟨by decide, by decide, vr3⟩
theorem right0 : ¬ RtB 0 [] := fun h => absurd h.n1 (by decide)
theorem lst2 {i : Nat} (hs : SrtV [e1, e2] → i = fndV [e1, e2] []) : (evL (stL (min 9 256)) [] (([e1, e2] : List Vs).drop i)).length = 1 := by
  obtain rfl : i = 0 := by rw [hs srt2]; decide
  rw [evL_at (v := e1) rfl]
  show (if (stL (min 9 256) [] [e1, e2]).2 = true then evL (stL (min 9 256)) (stL (min 9 256) [] [e1, e2]).1 [] else (stL (min 9 256) [] [e1, e2]).1).length = 1
  rw [if_pos (by decide), evL_nil]
  decide
theorem ver3 {i : Nat} (hs : SrtV [e1, e2, e3] → i = fndV [e1, e2, e3] kk) : (evL (stV (min 9 256)) [] (([e1, e2, e3] : List Vs).drop i)).length = 3 := by
  obtain rfl : i = 0 := by rw [hs srt3]; decide
  rw [evL_at (v := e1) rfl]
  show (if (stV (min 9 256) [] [e1, e2, e3]).2 = true then evL (stV (min 9 256)) (stV (min 9 256) [] [e1, e2, e3]).1 [] else (stV (min 9 256) [] [e1, e2, e3]).1).length = 3
  rw [if_pos (by decide), evL_nil]
  decide
theorem bw1 : bw [e1] = 36 := by decide +kernel
end Go.Proofs.YtgcdnanfnbdjjaaGreat

/- fixed: the examples. -/
namespace Go.Proofs.YtgcdnanfnbdjjaaGreat
set_option linter.unusedVariables false
set_option linter.unusedSimpArgs false
open Go.RowKit
attribute [local go_sem ↓] Go.wp_at_zero Go.wp_at_succ
theorem Cp.lis {base : Nat} {w : World} {v : Value} {L : List Vs} (h : Cp base w v L) (hl : L.length ≤ 1954687338240) (hz : ∀ u ∈ L, u.l.length ≤ 4398046510976) : ∃ a c, v = .slice a L.length c ∧ Li w L a L.length c := by
  obtain ⟨a, c, e, s⟩ := h.ls
  exact ⟨a, c, e, rfl, s, hl, hz⟩
theorem li_nil (w : World) : Li w [] none 0 0 := ⟨rfl, Ls.none w, by simp, by simp⟩
theorem sl_nil (w : World) : Sl w none 0 [] := ⟨⟨fun k p hk => by simp at hk⟩, Nat.le_refl _, by omega, fun _ => rfl⟩
theorem z123 {X : List Vs} (h : X = [e1] ∨ X = [e1, e2] ∨ X = [e1, e2, e3]) : ∀ u ∈ X, u.l.length ≤ 4398046510976 := by
  rcases h with rfl | rfl | rfl <;> simp [e1, e2, e3]
/-- New -/
theorem bNew_any (w : World) : Calls Tryz.prog 9 #[] w fun e w' => e = .returned (bv 1 none 0 0) ∧ Below w.heap.size w w' := by
  have b0 := (Below.refl w.heap.size w).alloc (Nat.le_refl _) (.cells #[.int .i64 0, .slice none 0 0] 24)
  have z0 := Bq.new w (.int .i64 0) (.slice none 0 0)
  have z1 := (z0.set0 (.int .i64 1)).set1 (.slice none 0 0)
  have B1 := (b0.setCell (p := ⟨w.heap.size, 0, none⟩) (Nat.le_refl _) (.int .i64 1)).setCell (p := ⟨w.heap.size, 1, none⟩) (Nat.le_refl _) (.slice none 0 0)
  have b1 := (Below.refl w.heap.size w).alloc (Nat.le_refl _) (.cells #[.int .i64 1, .slice none 0 0] 24)
  have z2 := Bq.new w (.int .i64 1) (.slice none 0 0)
  obtain ⟨g0, g1, _⟩ := z2.cells
  go_enter Tryz.func9, Tryz.ntmps9
  go_wp2_with fail
  refine bodyPost_ret (v := bv 1 none 0 0) ?_ rfl ⟨rfl, b1⟩
  rw [results_cell1 rfl]
  go_simp
theorem fPut1 (W : World) : Calls Tryz.prog 19 #[bv 1 none 0 0, str [107], str [111, 110, 101], .slice none 0 0] W fun e w' => ∃ a c, e = .returned (.tuple #[bv 2 a 1 c, .int .i64 1, .int .i64 0]) ∧ Li w' [e1] a 1 c ∧ Below W.heap.size W w' := by
  refine (bPut_any [] 1 [107] [111, 110, 101] [] W none 0 0 none 0 0 (li_nil W) rfl (sl_nil W) (by simp)).mono ?_
  rintro e w' ⟨i, hi, _, h⟩
  obtain ⟨v, rfl, k, b⟩ := adp1 hi h
  obtain ⟨a, c, rfl, hl⟩ := k.lis (by decide) (z123 (.inl rfl))
  exact ⟨a, c, rfl, hl, b⟩
theorem fPut2 (W : World) (a : Option Addr) (c : Nat) (ma : Option Addr) (mc : Nat) (hL : Li W [e1] a 1 c) (hM : Sl W ma mc [⟨[97], [98]⟩]) : Calls Tryz.prog 19 #[bv 2 a 1 c, str [107], str [116, 119, 111], .slice ma 1 mc] W fun e w' => ∃ a c, e = .returned (.tuple #[bv 3 a 2 c, .int .i64 2, .int .i64 0]) ∧ Li w' [e1, e2] a 2 c ∧ Below W.heap.size W w' := by
  refine (bPut_any [e1] 2 [107] [116, 119, 111] [⟨[97], [98]⟩] W a 1 c ma 1 mc hL rfl hM (by simp)).mono ?_
  rintro e w' ⟨i, hi, hs, h⟩
  obtain ⟨v, rfl, k, b⟩ := adp2 hs h
  obtain ⟨a, c, rfl, hl⟩ := k.lis (by decide) (z123 (.inr (.inl rfl)))
  exact ⟨a, c, rfl, hl, b⟩
theorem fDel (W : World) (a : Option Addr) (c : Nat) (hL : Li W [e1, e2] a 2 c) : Calls Tryz.prog 22 #[bv 3 a 2 c, str [107]] W fun e w' => ∃ a c, e = .returned (.tuple #[bv 4 a 3 c, .int .i64 3, .int .i64 0]) ∧ Cp W.heap.size w' (.slice a 3 c) [e1, e2, e3] ∧ Below W.heap.size W w' := by
  refine (bDelete_any [e1, e2] 3 [107] W a 2 c hL).mono ?_
  rintro e w' ⟨i, hi, hs, h⟩
  obtain ⟨v, rfl, k, b⟩ := adp3 hs h
  obtain ⟨a, c, rfl, hl⟩ := k.lis (by decide) (z123 (.inr (.inr rfl)))
  exact ⟨a, c, rfl, k, b⟩
theorem fPut0 (W : World) : Calls Tryz.prog 19 #[bv 1 none 0 0, str [], str [], .slice none 0 0] W fun e w' => ∃ v, e = .returned (.tuple #[.agg #[.int .i64 0, v], .int .i64 0, .int .i64 61]) ∧ (∃ a n c, v = .slice a n c) ∧ Below W.heap.size W w' := by
  refine (bPut_any [] 1 [] [] [] W none 0 0 none 0 0 (li_nil W) rfl (sl_nil W) (by simp)).mono ?_
  rintro e w' ⟨i, hi, _, h⟩
  obtain ⟨v, rfl, k, b⟩ := adp0 h
  obtain ⟨a, c, rfl, _⟩ := k.ls
  exact ⟨_, rfl, ⟨_, _, _, rfl⟩, b⟩
theorem fGet2 (W : World) (n : Int) (a : Option Addr) (c : Nat) (hL : Li W [e1, e2] a 2 c) : Calls Tryz.prog 20 #[bv n a 2 c, str [107]] W fun e w' => (∃ a c, e = .returned (.tuple #[vv [107] 2 false [116, 119, 111] a 1 c, .int .i64 0])) ∧ Below W.heap.size W w' := by
  refine (bGet_any [e1, e2] n [107] W a 2 c hL).mono ?_
  rintro e w' ⟨i, hi, hs, h⟩
  obtain ⟨a, c, rfl, _, b⟩ := get2 hs h
  exact ⟨⟨a, c, rfl⟩, b⟩
theorem fGet3 (W : World) (n : Int) (a : Option Addr) (c : Nat) (hL : Li W [e1, e2, e3] a 3 c) : Calls Tryz.prog 20 #[bv n a 3 c, str [107]] W fun e w' => (∃ a c, e = .returned (.tuple #[vv [] 0 false [] a 0 c, .int .i64 73])) ∧ Below W.heap.size W w' := by
  refine (bGet_any [e1, e2, e3] n [107] W a 3 c hL).mono ?_
  rintro e w' ⟨i, hi, hs, h⟩
  obtain ⟨a, c, rfl, _, b⟩ := get3 hs h
  exact ⟨⟨a, c, rfl⟩, b⟩
theorem fGetV (W : World) (n : Int) (a : Option Addr) (c : Nat) (hL : Li W [e1, e2] a 2 c) : Calls Tryz.prog 21 #[bv n a 2 c, str [107], .int .i64 1] W fun e w' => (∃ a c, e = .returned (.tuple #[vv [107] 1 false [111, 110, 101] a 0 c, .int .i64 0])) ∧ Below W.heap.size W w' := by
  refine (bGetVersion_any [e1, e2] n [107] 1 W a 2 c hL).mono ?_
  rintro e w' ⟨i, hi, hs, h⟩
  obtain ⟨a, c, rfl, _, b⟩ := getv hs h
  exact ⟨⟨a, c, rfl⟩, b⟩
theorem fRem3 (W : World) (a : Option Addr) (c : Nat) (hL : Li W [e1, e2, e3] a 3 c) : Calls Tryz.prog 23 #[bv 4 a 3 c, str [107], .int .i64 3] W fun e w' => ∃ a c, e = .returned (.tuple #[bv 4 a 2 c, .int .i64 0]) ∧ Cp W.heap.size w' (.slice a 2 c) [e1, e2] ∧ Below W.heap.size W w' := by
  refine (bDeleteVersion_any [e1, e2, e3] 4 [107] 3 W a 3 c hL).mono ?_
  rintro e w' ⟨i, hi, hs, h⟩
  obtain ⟨v, rfl, k, b⟩ := del3 hs h
  obtain ⟨a, c, rfl, hl⟩ := k.lis (by decide) (z123 (.inr (.inl rfl)))
  exact ⟨a, c, rfl, k, b⟩
theorem fRem9 (W : World) (a : Option Addr) (c : Nat) (hL : Li W [e1, e2, e3] a 3 c) : Calls Tryz.prog 23 #[bv 4 a 3 c, str [107], .int .i64 9] W fun e w' => (∃ v a n c, e = .returned (.tuple #[.agg #[.int .i64 0, v], .int .i64 72]) ∧ v = .slice a n c) ∧ Below W.heap.size W w' := by
  refine (bDeleteVersion_any [e1, e2, e3] 4 [107] 9 W a 3 c hL).mono ?_
  rintro e w' ⟨i, hi, hs, h⟩
  obtain ⟨v, rfl, k, b⟩ := del9 hs h
  obtain ⟨a, c, rfl, _⟩ := k.ls
  exact ⟨⟨_, _, _, _, rfl, rfl⟩, b⟩
theorem fRt3 (W : World) (a : Option Addr) (c : Nat) (hL : Li W [e1, e2, e3] a 3 c) : Calls Tryz.prog 6 #[bv 4 a 3 c] W fun e w' => e = .returned (.bool true) ∧ Below W.heap.size W w' := by
  refine (bRight_any [e1, e2, e3] 4 W a 3 c hL).mono ?_
  rintro e w' ⟨⟨t, rfl, ht⟩, b⟩
  exact ⟨by rw [ht.2 right3], b⟩
theorem fRt0 (W : World) : Calls Tryz.prog 6 #[bv 0 none 0 0] W fun e w' => e = .returned (.bool false) ∧ Below W.heap.size W w' := by
  refine (bRight_any [] 0 W none 0 0 (li_nil W)).mono ?_
  rintro e w' ⟨⟨t, rfl, ht⟩, b⟩
  refine ⟨?_, b⟩
  cases t with
  | false => rfl
  | true => exact absurd (ht.1 rfl) right0
theorem fLst (W : World) (a : Option Addr) (c : Nat) (hL : Li W [e1, e2] a 2 c) : Calls Tryz.prog 24 #[bv 4 a 2 c, str [], .int .i64 9] W fun e w' => (∃ a c, e = .returned (.slice a 1 c)) ∧ Below W.heap.size W w' := by
  refine (bList_any [e1, e2] 4 [] 9 W a 2 c hL).mono ?_
  rintro e w' ⟨i, hi, hs, v, rfl, o, b⟩
  obtain ⟨a, c, rfl, _⟩ := o.sl
  exact ⟨⟨a, c, by rw [lst2 hs]⟩, b⟩
theorem fVer (W : World) (a : Option Addr) (c : Nat) (hL : Li W [e1, e2, e3] a 3 c) : Calls Tryz.prog 25 #[bv 4 a 3 c, str [107], .int .i64 9] W fun e w' => (∃ a c, e = .returned (.slice a 3 c)) ∧ Below W.heap.size W w' := by
  refine (bVersions_any [e1, e2, e3] 4 [107] 9 W a 3 c hL).mono ?_
  rintro e w' ⟨i, hi, hs, v, rfl, o, b⟩
  obtain ⟨a, c, rfl, _⟩ := o.sl
  exact ⟨⟨a, c, by rw [ver3 hs]⟩, b⟩
theorem fByt (W : World) (a : Option Addr) (c : Nat) (hL : Li W [e1] a 1 c) : Calls Tryz.prog 26 #[bv 2 a 1 c] W fun e w' => e = .returned (.int .i64 36) ∧ Below W.heap.size W w' := by
  refine (bBytes_any [e1] 2 W a 1 c hL).mono ?_
  rintro e w' ⟨rfl, b⟩
  exact ⟨by rw [bw1], b⟩
theorem Cp.li3 {base : Nat} {w : World} {a : Option Addr} {c : Nat} (h : Cp base w (.slice a 3 c) [e1, e2, e3]) : Li w [e1, e2, e3] a 3 c := by
  obtain ⟨a', c', e, hl⟩ := h.lis (by decide) (z123 (.inr (.inr rfl)))
  injection e with q1 q2 q3
  subst q1 q3
  exact hl
theorem Cp.li2 {base : Nat} {w : World} {a : Option Addr} {c : Nat} (h : Cp base w (.slice a 2 c) [e1, e2]) : Li w [e1, e2] a 2 c := by
  obtain ⟨a', c', e, hl⟩ := h.lis (by decide) (z123 (.inr (.inl rfl)))
  injection e with q1 q2 q3
  subst q1 q3
  exact hl
theorem Bq.other {w : World} {g : Nat} {x y : Value} (h : Bq w g x y) {g2 j : Nat} (hg : g ≠ g2) (c : Value) : Bq (w.setCell ⟨g2, j, none⟩ c) g x y := by
  unfold Bq
  rw [heap_setCell_other _ _ _ _ (by first | exact hg | exact hg.symm)]; exact h
theorem Bq.s5 {w : World} {g : Nat} {x y : Value} (h : Bq w g x y) {R : Nat} (hg : g ≠ R) (a b c d e : Value) : Bq (s5 w R a b c d e) g x y := ((((h.other hg a).other hg b).other hg c).other hg d).other hg e
theorem Cp.s5 {base : Nat} {w : World} {v : Value} {L : List Vs} (h : Cp base w v L) {R : Nat} (hg : R < base) (a b c d e : Value) : Cp base (s5 w R a b c d e) v L := ((((h.low hg a).low hg b).low hg c).low hg d).low hg e
end Go.Proofs.YtgcdnanfnbdjjaaGreat

/- fixed: the walk. -/
namespace Go.Proofs.YtgcdnanfnbdjjaaGreat
set_option linter.unusedVariables false
set_option linter.unusedSimpArgs false
open Go.RowKit
attribute [local go_sem ↓] Go.wp_at_zero Go.wp_at_succ
theorem sl_ab (w : World) : Sl (w.alloc (.cells #[str [97], str [98]] 41)) (some ⟨w.heap.size, 0, none⟩) 1 [⟨[97], [98]⟩] := by
  refine ⟨⟨fun k p hk => ?_⟩, by simp, by omega, fun h => by cases h⟩
  match k with
  | 0 =>
    simp at hk
    subst hk
    refine ⟨w.heap.size, 0, rfl, by simp, ?_, ?_⟩
    · rw [cell_of_row _ _ _ _ _ _ (heap_alloc_new w _)]; rfl
    · rw [cell_of_row _ _ _ _ _ _ (heap_alloc_new w _)]; rfl
  | k + 1 => simp at hk
set_option maxRecDepth 100000 in
set_option maxHeartbeats 8000000 in
theorem fixed_any (w : World) : Calls Tryz.prog 5 #[] w fun e w' => e = .returned (.bool true) ∧ Below w.heap.size w w' := by
  go_enter Tryz.func5, Tryz.ntmps5
  have B0 := Below.refl w.heap.size w
  go_wp2_with fail
  have B1 := B0
  with_reducible refine Calls.mono (bNew_any w) ?_
  rintro e w1 ⟨rfl, b⟩
  dsimp only
  have B1' := below_seq B1 b
  have bx := (Below.refl w1.heap.size w1).alloc (Nat.le_refl _) (.cells #[.int .i64 1, .slice none 0 0] 24)
  have zb := Bq.new w1 (.int .i64 1) (.slice none 0 0)
  have B1' := below_seq B1' bx
  obtain ⟨pzb0, pzb1, _⟩ := zb.cells
  clear b bx
  go_wp2_with fail
  have hz1 : Hid ((w1.alloc (.cells #[.int .i64 1, .slice none 0 0] 24)).heap.size = w1.heap.size + 1) := ⟨by simp⟩
  generalize hW1 : (w1.alloc (.cells #[.int .i64 1, .slice none 0 0] 24)) = W1 at *
  clear hW1
  generalize w1.heap.size = gzb at *
  have B1 := B1'
  have B2 := B1
  with_reducible refine Calls.mono (fPut1 W1) ?_
  rintro e w2 ⟨ac, nc, rfl, Lc, b⟩
  dsimp only
  clear pzb0 pzb1
  have zb := zb.later b
  have B2' := below_seq B2 b
  have ne_zb_zc : Hid (gzb < w2.heap.size) := ⟨zb.lt⟩
  have bx := (Below.refl w2.heap.size w2).alloc (Nat.le_refl _) (.cells #[.int .i64 2, .slice ac 1 nc] 24)
  have zc := Bq.new w2 (.int .i64 2) (.slice ac 1 nc)
  have zb := zb.later bx
  have Lc := Lc.later bx
  have B2' := below_seq B2' bx
  obtain ⟨pzb0, pzb1, _⟩ := zb.cells
  obtain ⟨pzc0, pzc1, _⟩ := zc.cells
  clear b bx
  go_wp2_with fail
  have hz2 : Hid ((w2.alloc (.cells #[.int .i64 2, .slice ac 1 nc] 24)).heap.size = w2.heap.size + 1) := ⟨by simp⟩
  generalize hW2 : (w2.alloc (.cells #[.int .i64 2, .slice ac 1 nc] 24)) = W2 at *
  clear hW2
  generalize w2.heap.size = gzc at *
  have B2 := B2'
  have a3_0 := (Below.refl W2.heap.size W2).alloc (Nat.le_refl _) (.cells #[str [97], str [98]] 41)
  have zb := zb.later a3_0
  have Lc := Lc.later a3_0
  have zc := zc.later a3_0
  have B3 := below_seq B2 a3_0
  with_reducible refine Calls.mono (fPut2 (W2.alloc (.cells #[str [97], str [98]] 41)) _ _ _ _ Lc (by have h := sl_ab W2; rw [hz2.out] at h; exact h)) ?_
  rintro e w3 ⟨ad, nd, rfl, Ld, b⟩
  dsimp only
  clear pzb0 pzb1 pzc0 pzc1
  have zb := zb.later b
  have Lc := Lc.later b
  have zc := zc.later b
  have B3' := below_seq B3 b
  have ne_zb_zd : Hid (gzb < w3.heap.size) := ⟨zb.lt⟩
  have ne_zc_zd : Hid (gzc < w3.heap.size) := ⟨zc.lt⟩
  have bx := (Below.refl w3.heap.size w3).alloc (Nat.le_refl _) (.cells #[.int .i64 3, .slice ad 2 nd] 24)
  have zd := Bq.new w3 (.int .i64 3) (.slice ad 2 nd)
  have zb := zb.later bx
  have Lc := Lc.later bx
  have zc := zc.later bx
  have Ld := Ld.later bx
  have B3' := below_seq B3' bx
  obtain ⟨pzb0, pzb1, _⟩ := zb.cells
  obtain ⟨pzc0, pzc1, _⟩ := zc.cells
  obtain ⟨pzd0, pzd1, _⟩ := zd.cells
  clear b bx
  go_wp2_with fail
  have hz3 : Hid ((w3.alloc (.cells #[.int .i64 3, .slice ad 2 nd] 24)).heap.size = w3.heap.size + 1) := ⟨by simp⟩
  generalize hW3 : (w3.alloc (.cells #[.int .i64 3, .slice ad 2 nd] 24)) = W3 at *
  clear hW3
  generalize w3.heap.size = gzd at *
  have B3 := B3'
  have Lc3 := Hid.mk Lc
  have S3 := Below.refl W3.heap.size W3
  have B4 := B3
  with_reducible refine Calls.mono (fGet2 W3 _ _ _ Ld) ?_
  rintro e w4 ⟨⟨av, nv, rfl⟩, b⟩
  dsimp only
  clear pzb0 pzb1 pzc0 pzc1 pzd0 pzd1
  have zb := zb.later b
  have Lc := Lc.later b
  have zc := zc.later b
  have Ld := Ld.later b
  have zd := zd.later b
  have B4' := below_seq B4 b
  have S3 := below_seq S3 b
  have ne_zb_zv : Hid (gzb < w4.heap.size) := ⟨zb.lt⟩
  have ne_zc_zv : Hid (gzc < w4.heap.size) := ⟨zc.lt⟩
  have ne_zd_zv : Hid (gzd < w4.heap.size) := ⟨zd.lt⟩
  have le_zv : Hid (W3.heap.size ≤ w4.heap.size) := ⟨S3.size⟩
  have bx := (Below.refl w4.heap.size w4).alloc (Nat.le_refl _) (.cells #[str [107], .int .i64 2, .bool false, str [116, 119, 111], .slice av 1 nv] 39)
  have zv := Bv.new w4 (str [107]) (.int .i64 2) (.bool false) (str [116, 119, 111]) (.slice av 1 nv)
  have zb := zb.later bx
  have Lc := Lc.later bx
  have zc := zc.later bx
  have Ld := Ld.later bx
  have zd := zd.later bx
  have B4' := below_seq B4' bx
  have S3 := below_seq S3 bx
  obtain ⟨pzb0, pzb1, _⟩ := zb.cells
  obtain ⟨pzc0, pzc1, _⟩ := zc.cells
  obtain ⟨pzd0, pzd1, _⟩ := zd.cells
  obtain ⟨pzv0, pzv1, pzv2, pzv3, pzv4, pfzv⟩ := zv.cells
  clear b bx
  go_wp2_with fail
  have hz4 : Hid ((w4.alloc (.cells #[str [107], .int .i64 2, .bool false, str [116, 119, 111], .slice av 1 nv] 39)).heap.size = w4.heap.size + 1) := ⟨by simp⟩
  generalize hW4 : (w4.alloc (.cells #[str [107], .int .i64 2, .bool false, str [116, 119, 111], .slice av 1 nv] 39)) = W4 at *
  clear hW4
  generalize w4.heap.size = gzv at *
  have B4 := B4'
  have B5 := B4
  with_reducible refine Calls.mono (fGetV W4 _ _ _ Ld) ?_
  rintro e w5 ⟨⟨aw, nw, rfl⟩, b⟩
  dsimp only
  clear pzb0 pzb1 pzc0 pzc1 pzd0 pzd1 pzv0 pzv1 pzv2 pzv3 pzv4 pfzv
  have zb := zb.later b
  have Lc := Lc.later b
  have zc := zc.later b
  have Ld := Ld.later b
  have zd := zd.later b
  have zv := zv.later b
  have B5' := below_seq B5 b
  have S3 := below_seq S3 b
  have ne_zb_zw : Hid (gzb < w5.heap.size) := ⟨zb.lt⟩
  have ne_zc_zw : Hid (gzc < w5.heap.size) := ⟨zc.lt⟩
  have ne_zd_zw : Hid (gzd < w5.heap.size) := ⟨zd.lt⟩
  have ne_zv_zw : Hid (gzv < w5.heap.size) := ⟨zv.lt⟩
  have le_zw : Hid (W3.heap.size ≤ w5.heap.size) := ⟨S3.size⟩
  have bx := (Below.refl w5.heap.size w5).alloc (Nat.le_refl _) (.cells #[str [107], .int .i64 1, .bool false, str [111, 110, 101], .slice aw 0 nw] 39)
  have zw := Bv.new w5 (str [107]) (.int .i64 1) (.bool false) (str [111, 110, 101]) (.slice aw 0 nw)
  have zb := zb.later bx
  have Lc := Lc.later bx
  have zc := zc.later bx
  have Ld := Ld.later bx
  have zd := zd.later bx
  have zv := zv.later bx
  have B5' := below_seq B5' bx
  have S3 := below_seq S3 bx
  obtain ⟨pzb0, pzb1, _⟩ := zb.cells
  obtain ⟨pzc0, pzc1, _⟩ := zc.cells
  obtain ⟨pzd0, pzd1, _⟩ := zd.cells
  obtain ⟨pzv0, pzv1, pzv2, pzv3, pzv4, pfzv⟩ := zv.cells
  obtain ⟨pzw0, pzw1, pzw2, pzw3, pzw4, pfzw⟩ := zw.cells
  clear b bx
  go_wp2_with fail
  have hz5 : Hid ((w5.alloc (.cells #[str [107], .int .i64 1, .bool false, str [111, 110, 101], .slice aw 0 nw] 39)).heap.size = w5.heap.size + 1) := ⟨by simp⟩
  generalize hW5 : (w5.alloc (.cells #[str [107], .int .i64 1, .bool false, str [111, 110, 101], .slice aw 0 nw] 39)) = W5 at *
  clear hW5
  generalize w5.heap.size = gzw at *
  have B5 := B5'
  have hkx : Hid (gzv < W5.heap.size) := ⟨zv.lt⟩
  have B6 := B5
  with_reducible refine Calls.mono (fDel W5 _ _ Ld) ?_
  rintro e w6 ⟨ax, nx, rfl, Kx, b⟩
  dsimp only
  clear pzb0 pzb1 pzc0 pzc1 pzd0 pzd1 pzv0 pzv1 pzv2 pzv3 pzv4 pfzv pzw0 pzw1 pzw2 pzw3 pzw4 pfzw
  have zb := zb.later b
  have Lc := Lc.later b
  have zc := zc.later b
  have Ld := Ld.later b
  have zd := zd.later b
  have zv := zv.later b
  have zw := zw.later b
  have B6' := below_seq B6 b
  have S3 := below_seq S3 b
  have ne_zb_zx : Hid (gzb < w6.heap.size) := ⟨zb.lt⟩
  have ne_zc_zx : Hid (gzc < w6.heap.size) := ⟨zc.lt⟩
  have ne_zd_zx : Hid (gzd < w6.heap.size) := ⟨zd.lt⟩
  have ne_zv_zx : Hid (gzv < w6.heap.size) := ⟨zv.lt⟩
  have ne_zw_zx : Hid (gzw < w6.heap.size) := ⟨zw.lt⟩
  have le_zx : Hid (W3.heap.size ≤ w6.heap.size) := ⟨S3.size⟩
  have bx := (Below.refl w6.heap.size w6).alloc (Nat.le_refl _) (.cells #[.int .i64 4, .slice ax 3 nx] 24)
  have zx := Bq.new w6 (.int .i64 4) (.slice ax 3 nx)
  have zb := zb.later bx
  have Lc := Lc.later bx
  have zc := zc.later bx
  have Ld := Ld.later bx
  have zd := zd.later bx
  have zv := zv.later bx
  have zw := zw.later bx
  have Kx := Kx.later bx
  have B6' := below_seq B6' bx
  have S3 := below_seq S3 bx
  obtain ⟨pzb0, pzb1, _⟩ := zb.cells
  obtain ⟨pzc0, pzc1, _⟩ := zc.cells
  obtain ⟨pzd0, pzd1, _⟩ := zd.cells
  obtain ⟨pzv0, pzv1, pzv2, pzv3, pzv4, pfzv⟩ := zv.cells
  obtain ⟨pzw0, pzw1, pzw2, pzw3, pzw4, pfzw⟩ := zw.cells
  obtain ⟨pzx0, pzx1, _⟩ := zx.cells
  clear b bx
  go_wp2_with fail
  have hz6 : Hid ((w6.alloc (.cells #[.int .i64 4, .slice ax 3 nx] 24)).heap.size = w6.heap.size + 1) := ⟨by simp⟩
  generalize hW6 : (w6.alloc (.cells #[.int .i64 4, .slice ax 3 nx] 24)) = W6 at *
  clear hW6
  generalize w6.heap.size = gzx at *
  have B6 := B6'
  have B7 := B6
  with_reducible refine Calls.mono (fGet3 W6 _ _ _ Kx.li3) ?_
  rintro e w7 ⟨⟨a7, n7, rfl⟩, b⟩
  dsimp only
  clear pzb0 pzb1 pzc0 pzc1 pzd0 pzd1 pzv0 pzv1 pzv2 pzv3 pzv4 pfzv pzw0 pzw1 pzw2 pzw3 pzw4 pfzw pzx0 pzx1
  have zb := zb.later b
  have Lc := Lc.later b
  have zc := zc.later b
  have Ld := Ld.later b
  have zd := zd.later b
  have zv := zv.later b
  have zw := zw.later b
  have Kx := Kx.later b
  have zx := zx.later b
  have B7' := below_seq B7 b
  have S3 := below_seq S3 b
  obtain ⟨pzb0, pzb1, _⟩ := zb.cells
  obtain ⟨pzc0, pzc1, _⟩ := zc.cells
  obtain ⟨pzd0, pzd1, _⟩ := zd.cells
  obtain ⟨pzv0, pzv1, pzv2, pzv3, pzv4, pfzv⟩ := zv.cells
  obtain ⟨pzw0, pzw1, pzw2, pzw3, pzw4, pfzw⟩ := zw.cells
  obtain ⟨pzx0, pzx1, _⟩ := zx.cells
  clear b
  go_wp2_with fail
  have B7 := B7'
  have hky : Hid (gzv < w7.heap.size) := ⟨zv.lt⟩
  have B8 := B7
  with_reducible refine Calls.mono (fRem3 w7 _ _ Kx.li3) ?_
  rintro e w8 ⟨ay, ny, rfl, Ky, b⟩
  dsimp only
  clear pzb0 pzb1 pzc0 pzc1 pzd0 pzd1 pzv0 pzv1 pzv2 pzv3 pzv4 pfzv pzw0 pzw1 pzw2 pzw3 pzw4 pfzw pzx0 pzx1
  have zb := zb.later b
  have Lc := Lc.later b
  have zc := zc.later b
  have Ld := Ld.later b
  have zd := zd.later b
  have zv := zv.later b
  have zw := zw.later b
  have Kx := Kx.later b
  have zx := zx.later b
  have B8' := below_seq B8 b
  have S3 := below_seq S3 b
  have ne_zb_zy : Hid (gzb < w8.heap.size) := ⟨zb.lt⟩
  have ne_zc_zy : Hid (gzc < w8.heap.size) := ⟨zc.lt⟩
  have ne_zd_zy : Hid (gzd < w8.heap.size) := ⟨zd.lt⟩
  have ne_zv_zy : Hid (gzv < w8.heap.size) := ⟨zv.lt⟩
  have ne_zw_zy : Hid (gzw < w8.heap.size) := ⟨zw.lt⟩
  have ne_zx_zy : Hid (gzx < w8.heap.size) := ⟨zx.lt⟩
  have le_zy : Hid (W3.heap.size ≤ w8.heap.size) := ⟨S3.size⟩
  have bx := (Below.refl w8.heap.size w8).alloc (Nat.le_refl _) (.cells #[.int .i64 4, .slice ay 2 ny] 24)
  have zy := Bq.new w8 (.int .i64 4) (.slice ay 2 ny)
  have zb := zb.later bx
  have Lc := Lc.later bx
  have zc := zc.later bx
  have Ld := Ld.later bx
  have zd := zd.later bx
  have zv := zv.later bx
  have zw := zw.later bx
  have Kx := Kx.later bx
  have zx := zx.later bx
  have Ky := Ky.later bx
  have B8' := below_seq B8' bx
  have S3 := below_seq S3 bx
  obtain ⟨pzb0, pzb1, _⟩ := zb.cells
  obtain ⟨pzc0, pzc1, _⟩ := zc.cells
  obtain ⟨pzd0, pzd1, _⟩ := zd.cells
  obtain ⟨pzv0, pzv1, pzv2, pzv3, pzv4, pfzv⟩ := zv.cells
  obtain ⟨pzw0, pzw1, pzw2, pzw3, pzw4, pfzw⟩ := zw.cells
  obtain ⟨pzx0, pzx1, _⟩ := zx.cells
  obtain ⟨pzy0, pzy1, _⟩ := zy.cells
  clear b bx
  go_wp2_with fail
  have hz8 : Hid ((w8.alloc (.cells #[.int .i64 4, .slice ay 2 ny] 24)).heap.size = w8.heap.size + 1) := ⟨by simp⟩
  generalize hW8 : (w8.alloc (.cells #[.int .i64 4, .slice ay 2 ny] 24)) = W8 at *
  clear hW8
  generalize w8.heap.size = gzy at *
  have B8 := B8'
  with_reducible refine Calls.mono (fGet2 W8 _ _ _ Ky.li2) ?_
  rintro e w9 ⟨⟨av', nv', rfl⟩, b⟩
  dsimp only
  clear pzb0 pzb1 pzc0 pzc1 pzd0 pzd1 pzv0 pzv1 pzv2 pzv3 pzv4 pfzv pzw0 pzw1 pzw2 pzw3 pzw4 pfzw pzx0 pzx1 pzy0 pzy1
  have zb := zb.later b
  have Lc := Lc.later b
  have zc := zc.later b
  have Ld := Ld.later b
  have zd := zd.later b
  have zv := zv.later b
  have zw := zw.later b
  have Kx := Kx.later b
  have zx := zx.later b
  have Ky := Ky.later b
  have zy := zy.later b
  have S3 := below_seq S3 b
  have B9 := below_seq B8 b
  obtain ⟨q0, q1, q2, q3, q4, qf⟩ := zv.cells
  have qf0 := qf 0
  have qf1 := qf 1
  have qf2 := qf 2
  have qf3 := qf 3
  have qf4 := qf 4
  have zb' := zb.s5 (R := gzv) (Nat.ne_of_lt ne_zb_zv.out) (str [107]) (.int .i64 2) (.bool false) (str [116, 119, 111]) (.slice av' 1 nv')
  have zc' := zc.s5 (R := gzv) (Nat.ne_of_lt ne_zc_zv.out) (str [107]) (.int .i64 2) (.bool false) (str [116, 119, 111]) (.slice av' 1 nv')
  have zx' := zx.s5 (R := gzv) (Nat.ne_of_gt ne_zv_zx.out) (str [107]) (.int .i64 2) (.bool false) (str [116, 119, 111]) (.slice av' 1 nv')
  have zy' := zy.s5 (R := gzv) (Nat.ne_of_gt ne_zv_zy.out) (str [107]) (.int .i64 2) (.bool false) (str [116, 119, 111]) (.slice av' 1 nv')
  have Kx' := Kx.s5 (R := gzv) hkx.out (str [107]) (.int .i64 2) (.bool false) (str [116, 119, 111]) (.slice av' 1 nv')
  have Ky' := Ky.s5 (R := gzv) hky.out (str [107]) (.int .i64 2) (.bool false) (str [116, 119, 111]) (.slice av' 1 nv')
  have zv' := zv.s5 (str [107]) (.int .i64 2) (.bool false) (str [116, 119, 111]) (.slice av' 1 nv')
  have S3' := Below.s5 S3 (R := gzv) le_zv.out (str [107]) (.int .i64 2) (.bool false) (str [116, 119, 111]) (.slice av' 1 nv')
  have Lc' := Lc3.out.later S3'
  have B9' := Below.s5 B9 (R := gzv) (Nat.le_trans B3.size le_zv.out) (str [107]) (.int .i64 2) (.bool false) (str [116, 119, 111]) (.slice av' 1 nv')
  obtain ⟨pzb0, pzb1, _⟩ := zb.cells
  obtain ⟨pzc0, pzc1, _⟩ := zc.cells
  obtain ⟨pzx0, pzx1, _⟩ := zx.cells
  obtain ⟨pzy0, pzy1, _⟩ := zy.cells
  have nv_zb : ¬ gzb = gzv := Nat.ne_of_lt ne_zb_zv.out
  have nw_zb : ¬ gzv = gzb := Nat.ne_of_gt ne_zb_zv.out
  have nv_zc : ¬ gzc = gzv := Nat.ne_of_lt ne_zc_zv.out
  have nw_zc : ¬ gzv = gzc := Nat.ne_of_gt ne_zc_zv.out
  have nv_zx : ¬ gzx = gzv := Nat.ne_of_gt ne_zv_zx.out
  have nw_zx : ¬ gzv = gzx := Nat.ne_of_lt ne_zv_zx.out
  have nv_zy : ¬ gzy = gzv := Nat.ne_of_gt ne_zv_zy.out
  have nw_zy : ¬ gzv = gzy := Nat.ne_of_lt ne_zv_zy.out
  clear b qf S3 S3' Lc3 zb zc zd zv zw zx zy Lc Ld Kx Ky B9
  go_wp2_with fail
  rw [s5_eq]
  clear q0 q1 q2 q3 q4 qf0 qf1 qf2 qf3 qf4 pzb0 pzb1 pzc0 pzc1 pzx0 pzx1 pzy0 pzy1 nv_zb nw_zb nv_zc nw_zc nv_zx nw_zx nv_zy nw_zy
  change Calls _ _ _ (s5 w9 gzv (str [107]) (.int .i64 2) (.bool false) (str [116, 119, 111]) (.slice av' 1 nv')) _
  generalize s5 w9 gzv (str [107]) (.int .i64 2) (.bool false) (str [116, 119, 111]) (.slice av' 1 nv') = W9 at *
  with_reducible refine Calls.mono (fRem9 W9 _ _ Kx'.li3) ?_
  rintro e w10 ⟨⟨_, a10, n10, c10, rfl, rfl⟩, b⟩
  dsimp only
  have zb := zb'.later b
  have zc := zc'.later b
  have zx := zx'.later b
  have zy := zy'.later b
  have zv := zv'.later b
  have Kx := Kx'.later b
  have Ky := Ky'.later b
  have Lc := Lc'.later b
  have B10 := below_seq B9' b
  clear zb' zc' zx' zy' zv' Kx' Ky' Lc' B9' b
  have bx := (Below.refl w10.heap.size w10).alloc (Nat.le_refl _) (.cells #[.int .i64 0, .slice a10 n10 c10] 24)
  have zb := zb.later bx
  have zc := zc.later bx
  have zx := zx.later bx
  have zy := zy.later bx
  have zv := zv.later bx
  have Kx := Kx.later bx
  have Ky := Ky.later bx
  have Lc := Lc.later bx
  have B10' := below_seq B10 bx
  clear bx B10
  obtain ⟨pzb0, pzb1, _⟩ := zb.cells
  obtain ⟨pzc0, pzc1, _⟩ := zc.cells
  obtain ⟨pzx0, pzx1, _⟩ := zx.cells
  obtain ⟨pzy0, pzy1, _⟩ := zy.cells
  obtain ⟨q0, q1, q2, q3, q4, _⟩ := zv.cells
  go_wp2_with fail
  generalize w10.alloc (.cells #[.int .i64 0, .slice a10 n10 c10] 24) = W10 at *
  with_reducible refine Calls.mono (fPut0 W10) ?_
  rintro e w11 ⟨_, rfl, ⟨a11, n11, c11, rfl⟩, b⟩
  dsimp only
  clear pzb0 pzb1 pzc0 pzc1 pzx0 pzx1 pzy0 pzy1 q0 q1 q2 q3 q4
  have zb := zb.later b
  have zc := zc.later b
  have zx := zx.later b
  have zy := zy.later b
  have zv := zv.later b
  have Kx := Kx.later b
  have Ky := Ky.later b
  have Lc := Lc.later b
  have bx := (Below.refl w11.heap.size w11).alloc (Nat.le_refl _) (.cells #[.int .i64 0, .slice a11 n11 c11] 24)
  have zb := zb.later bx
  have zc := zc.later bx
  have zx := zx.later bx
  have zy := zy.later bx
  have zv := zv.later bx
  have Kx := Kx.later bx
  have Ky := Ky.later bx
  have Lc := Lc.later bx
  have B11 := below_seq (below_seq B10' b) bx
  clear bx b B10'
  obtain ⟨pzb0, pzb1, _⟩ := zb.cells
  obtain ⟨pzc0, pzc1, _⟩ := zc.cells
  obtain ⟨pzx0, pzx1, _⟩ := zx.cells
  obtain ⟨pzy0, pzy1, _⟩ := zy.cells
  obtain ⟨q0, q1, q2, q3, q4, _⟩ := zv.cells
  go_wp2_with fail
  generalize w11.alloc (.cells #[.int .i64 0, .slice a11 n11 c11] 24) = W11 at *
  with_reducible refine Calls.mono (fRt3 W11 _ _ Kx.li3) ?_
  rintro e w12 ⟨rfl, b⟩
  dsimp only
  clear pzb0 pzb1 pzc0 pzc1 pzx0 pzx1 pzy0 pzy1 q0 q1 q2 q3 q4
  have zb := zb.later b
  have zc := zc.later b
  have zx := zx.later b
  have zy := zy.later b
  have zv := zv.later b
  have Kx := Kx.later b
  have Ky := Ky.later b
  have Lc := Lc.later b
  have B12 := below_seq B11 b
  clear b
  obtain ⟨pzb0, pzb1, _⟩ := zb.cells
  obtain ⟨pzc0, pzc1, _⟩ := zc.cells
  obtain ⟨pzx0, pzx1, _⟩ := zx.cells
  obtain ⟨pzy0, pzy1, _⟩ := zy.cells
  obtain ⟨q0, q1, q2, q3, q4, _⟩ := zv.cells
  go_wp2_with fail
  with_reducible refine Calls.mono (fRt0 w12) ?_
  rintro e w13 ⟨rfl, b⟩
  dsimp only
  clear pzb0 pzb1 pzc0 pzc1 pzx0 pzx1 pzy0 pzy1 q0 q1 q2 q3 q4
  have zb := zb.later b
  have zc := zc.later b
  have zx := zx.later b
  have zy := zy.later b
  have zv := zv.later b
  have Kx := Kx.later b
  have Ky := Ky.later b
  have Lc := Lc.later b
  have B13 := below_seq B12 b
  clear b
  obtain ⟨pzb0, pzb1, _⟩ := zb.cells
  obtain ⟨pzc0, pzc1, _⟩ := zc.cells
  obtain ⟨pzx0, pzx1, _⟩ := zx.cells
  obtain ⟨pzy0, pzy1, _⟩ := zy.cells
  obtain ⟨q0, q1, q2, q3, q4, _⟩ := zv.cells
  go_wp2_with fail
  with_reducible refine Calls.mono (fLst w13 _ _ Ky.li2) ?_
  rintro e w14 ⟨⟨al, cl, rfl⟩, b⟩
  dsimp only
  clear pzb0 pzb1 pzc0 pzc1 pzx0 pzx1 pzy0 pzy1 q0 q1 q2 q3 q4
  have zb := zb.later b
  have zc := zc.later b
  have zx := zx.later b
  have zy := zy.later b
  have zv := zv.later b
  have Kx := Kx.later b
  have Ky := Ky.later b
  have Lc := Lc.later b
  have B14 := below_seq B13 b
  clear b
  obtain ⟨pzb0, pzb1, _⟩ := zb.cells
  obtain ⟨pzc0, pzc1, _⟩ := zc.cells
  obtain ⟨pzx0, pzx1, _⟩ := zx.cells
  obtain ⟨pzy0, pzy1, _⟩ := zy.cells
  obtain ⟨q0, q1, q2, q3, q4, _⟩ := zv.cells
  go_wp2_with fail
  with_reducible refine Calls.mono (fVer w14 _ _ Kx.li3) ?_
  rintro e w15 ⟨⟨ar, cr, rfl⟩, b⟩
  dsimp only
  clear pzb0 pzb1 pzc0 pzc1 pzx0 pzx1 pzy0 pzy1 q0 q1 q2 q3 q4
  have zb := zb.later b
  have zc := zc.later b
  have zx := zx.later b
  have zy := zy.later b
  have zv := zv.later b
  have Kx := Kx.later b
  have Ky := Ky.later b
  have Lc := Lc.later b
  have B15 := below_seq B14 b
  clear b
  obtain ⟨pzb0, pzb1, _⟩ := zb.cells
  obtain ⟨pzc0, pzc1, _⟩ := zc.cells
  obtain ⟨pzx0, pzx1, _⟩ := zx.cells
  obtain ⟨pzy0, pzy1, _⟩ := zy.cells
  obtain ⟨q0, q1, q2, q3, q4, _⟩ := zv.cells
  go_wp2_with fail
  with_reducible refine Calls.mono (fByt w15 _ _ Lc) ?_
  rintro e w16 ⟨rfl, b⟩
  dsimp only
  clear pzb0 pzb1 pzc0 pzc1 pzx0 pzx1 pzy0 pzy1 q0 q1 q2 q3 q4
  have zb := zb.later b
  have zc := zc.later b
  have zx := zx.later b
  have zy := zy.later b
  have zv := zv.later b
  have Kx := Kx.later b
  have Ky := Ky.later b
  have Lc := Lc.later b
  have B16 := below_seq B15 b
  clear b
  obtain ⟨pzb0, pzb1, _⟩ := zb.cells
  obtain ⟨pzc0, pzc1, _⟩ := zc.cells
  obtain ⟨pzx0, pzx1, _⟩ := zx.cells
  obtain ⟨pzy0, pzy1, _⟩ := zy.cells
  obtain ⟨q0, q1, q2, q3, q4, _⟩ := zv.cells
  go_wp2_with fail
  go_ret
  exact ⟨rfl, B16⟩
end Go.Proofs.YtgcdnanfnbdjjaaGreat
