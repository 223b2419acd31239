/- The examples: what is answered. -/
import Derived.Test.YtnnhkpnjmfoenaaPub
import Derived.Test.YtnnhkpnjmfoenaaQrg
import Derived.Test.YtnnhkpnjmfoenaaLsb
namespace Go.Proofs.Ytnnhkpnjmfoenaa
set_option linter.unusedVariables false
set_option linter.unusedSimpArgs false
open Go.RowKit
abbrev kk : List UInt8 := [107]
def e1 : Vs := ⟨[107], 1, false, [111, 110, 101], []⟩
def e2 : Vs := ⟨[107], 2, false, [116, 119, 111], [⟨[97], [98]⟩]⟩
def e3 : Vs := ⟨[107], 3, true, [], []⟩
theorem keyE_k : keyE [107] = 0 := by unfold keyE; rw [if_pos (by decide)]
theorem mtE_nil : mtE [] = 0 := by unfold mtE; rw [if_pos ⟨by decide, by simp, Srt.nil⟩]
theorem mtE_ab : mtE [⟨[97], [98]⟩] = 0 := by
  unfold mtE
  rw [if_pos]
  refine ⟨by decide, fun p hp => ?_, List.pairwise_singleton _ _⟩
  simp at hp
  subst hp
  simp [prb, smN, smc]
theorem vr1 : vrV e1 = 0 := vrV_iff.2 ⟨⟨keyE_k, by unfold datE; rw [if_pos (by decide)], mtE_nil⟩, fun h => by cases h⟩
theorem vr2 : vrV e2 = 0 := vrV_iff.2 ⟨⟨keyE_k, by unfold datE; rw [if_pos (by decide)], mtE_ab⟩, fun h => by cases h⟩
theorem vr3 : vrV e3 = 0 := vrV_iff.2 ⟨⟨keyE_k, by unfold datE; rw [if_pos (by decide)], mtE_nil⟩, fun _ => ⟨rfl, rfl⟩⟩
theorem puL_y {L : List Vs} {v : Vs} (h : puE L v = 0) : puL L v = L ++ [v] := by unfold puL; rw [if_pos h]
theorem rf1 : rfE 1 [] e1 = 0 := rfE_5 vr1 (by decide) (by decide) (by decide +kernel)
theorem rf2 : rfE 2 [e1] e2 = 0 := rfE_5 vr2 (by decide) (by decide) (by decide +kernel)
theorem rf3 : rfE 3 [e1, e2] e3 = 0 := rfE_5 vr3 (by decide) (by decide) (by decide +kernel)
theorem pu1 : puE (gpL [] 0 kk) e1 = 0 := by unfold puE; simp [gpL, lastV]; decide
theorem pu2 : puE (gpL [e1] 0 kk) e2 = 0 := puE_ok (u := e1) rfl rfl (by decide)
theorem pu3 : puE (gpL [e1, e2] 0 kk) e3 = 0 := puE_ok (u := e2) rfl rfl (by decide)
theorem srt1 : SrtV [e1] := by decide
theorem srt2 : SrtV [e1, e2] := by decide
theorem srt3 : SrtV [e1, e2, e3] := by decide
theorem adp1 {w w' : World} {e : Ending} {i : Nat} (hi : i ≤ ([] : List Vs).length) (h : AdP w w' e 1 [] i e1) : RC w w' e 2 [e1] 1 0 := by
  obtain rfl : i = 0 := by simpa using hi
  rcases h with ⟨q, _⟩ | ⟨_, q, _⟩ | ⟨_, q, h⟩
  · exact absurd rf1 q
  · exact absurd pu1 q
  · rw [puL_y q, show wrap64 (1 + 1) = 2 by decide +kernel] at h
    exact h
theorem adp2 {w w' : World} {e : Ending} {i : Nat} (hs : SrtV [e1] → i = fndV [e1] kk) (h : AdP w w' e 2 [e1] i e2) : RC w w' e 3 [e1, e2] 2 0 := by
  obtain rfl : i = 0 := by rw [hs srt1]; decide
  rcases h with ⟨q, _⟩ | ⟨_, q, _⟩ | ⟨_, q, h⟩
  · exact absurd rf2 q
  · exact absurd pu2 q
  · rw [puL_y q, show wrap64 (2 + 1) = 3 by decide +kernel] at h
    exact h
theorem adp3 {w w' : World} {e : Ending} {i : Nat} (hs : SrtV [e1, e2] → i = fndV [e1, e2] kk) (h : AdP w w' e 3 [e1, e2] i e3) : RC w w' e 4 [e1, e2, e3] 3 0 := by
  obtain rfl : i = 0 := by rw [hs srt2]; decide
  rcases h with ⟨q, _⟩ | ⟨_, q, _⟩ | ⟨_, q, h⟩
  · exact absurd rf3 q
  · exact absurd pu3 q
  · rw [puL_y q, show wrap64 (3 + 1) = 4 by decide +kernel] at h
    exact h
theorem adp0 {w w' : World} {e : Ending} {i : Nat} (h : AdP w w' e 1 [] i ⟨[], 1, false, [], []⟩) : RC w w' e 0 [] 0 61 := by
  have hk : keyE [] = 61 := by unfold keyE; rw [if_neg (by decide)]
  have hv : vrV ⟨[], 1, false, [], []⟩ = 61 := by unfold vrV vrE; rw [if_pos (by show ¬ keyE [] = 0; rw [hk]; decide)]
  have hr : rfE 1 [] ⟨[], 1, false, [], []⟩ = 61 := rfE_1 hv (by decide)
  rcases h with ⟨_, q⟩ | ⟨q, _⟩ | ⟨q, _⟩
  · rw [hr] at q; exact q
  · rw [hr] at q; exact absurd q (by decide)
  · rw [hr] at q; exact absurd q (by decide)
theorem get2 {w w' : World} {e : Ending} {i : Nat} (hs : SrtV [e1, e2] → i = fndV [e1, e2] kk) (h : (¬ keyE kk = 0 ∧ RV w w' e vs0 (keyE kk)) ∨ (keyE kk = 0 ∧ RV w w' e (toV (gpL [e1, e2] i kk)) (toE (gpL [e1, e2] i kk)))) : RV w w' e e2 0 := by
  obtain rfl : i = 0 := by rw [hs srt2]; decide
  rcases h with ⟨q, _⟩ | ⟨_, q⟩
  · exact absurd keyE_k q
  · rw [toV_ok (u := e2) rfl rfl, toE_ok (u := e2) rfl rfl] at q
    exact q
theorem get3 {w w' : World} {e : Ending} {i : Nat} (hs : SrtV [e1, e2, e3] → i = fndV [e1, e2, e3] kk) (h : (¬ keyE kk = 0 ∧ RV w w' e vs0 (keyE kk)) ∨ (keyE kk = 0 ∧ RV w w' e (toV (gpL [e1, e2, e3] i kk)) (toE (gpL [e1, e2, e3] i kk)))) : RV w w' e vs0 73 := by
  obtain rfl : i = 0 := by rw [hs srt3]; decide
  rcases h with ⟨q, _⟩ | ⟨_, q⟩
  · exact absurd keyE_k q
  · rw [toV_mk (u := e3) rfl rfl, toE_mk (u := e3) rfl rfl] at q
    exact q
theorem getv {w w' : World} {e : Ending} {i : Nat} (hs : SrtV [e1, e2] → i = fndV [e1, e2] kk) (h : (¬ keyE kk = 0 ∧ RV w w' e vs0 (keyE kk)) ∨ (keyE kk = 0 ∧ RV w w' e (geV (gpL [e1, e2] i kk) 1) (geE (gpL [e1, e2] i kk) 1))) : RV w w' e e1 0 := by
  obtain rfl : i = 0 := by rw [hs srt2]; decide
  rcases h with ⟨q, _⟩ | ⟨_, q⟩
  · exact absurd keyE_k q
  · exact q
theorem del3 {w w' : World} {e : Ending} {i : Nat} (hs : SrtV [e1, e2, e3] → i = fndV [e1, e2, e3] kk) (h : (¬ keyE kk = 0 ∧ RB w w' e 0 [] (keyE kk)) ∨ (keyE kk = 0 ∧ geE (gpL [e1, e2, e3] i kk) 3 = 72 ∧ RB w w' e 0 [] 72) ∨ (keyE kk = 0 ∧ geE (gpL [e1, e2, e3] i kk) 3 = 0 ∧ RB w w' e 4 (([e1, e2, e3] : List Vs).take i ++ rmL (gpL [e1, e2, e3] i kk) 3 ++ ([e1, e2, e3] : List Vs).drop (i + ken (([e1, e2, e3] : List Vs).drop i) kk)) 0)) : RB w w' e 4 [e1, e2] 0 := by
  obtain rfl : i = 0 := by rw [hs srt3]; decide
  rcases h with ⟨q, _⟩ | ⟨_, q, _⟩ | ⟨_, _, q⟩
  · exact absurd keyE_k q
  · exact absurd q (by decide)
  · exact q
theorem del9 {w w' : World} {e : Ending} {i : Nat} (hs : SrtV [e1, e2, e3] → i = fndV [e1, e2, e3] kk) (h : (¬ keyE kk = 0 ∧ RB w w' e 0 [] (keyE kk)) ∨ (keyE kk = 0 ∧ geE (gpL [e1, e2, e3] i kk) 9 = 72 ∧ RB w w' e 0 [] 72) ∨ (keyE kk = 0 ∧ geE (gpL [e1, e2, e3] i kk) 9 = 0 ∧ RB w w' e 4 (([e1, e2, e3] : List Vs).take i ++ rmL (gpL [e1, e2, e3] i kk) 9 ++ ([e1, e2, e3] : List Vs).drop (i + ken (([e1, e2, e3] : List Vs).drop i) kk)) 0)) : RB w w' e 0 [] 72 := by
  obtain rfl : i = 0 := by rw [hs srt3]; decide
  rcases h with ⟨q, _⟩ | ⟨_, _, q⟩ | ⟨_, q, _⟩
  · exact absurd keyE_k q
  · exact q
  · exact absurd q (by decide)
theorem right3 : RtB 4 [e1, e2, e3] := by
  refine ⟨by decide, by decide, by decide, fun v hv => ?_, srt3, by decide, by decide +kernel⟩
  simp at hv
  rcases hv with rfl | rfl | rfl
  · exact ⟨by decide, by decide, vr1⟩
  · exact ⟨by decide, by decide, vr2⟩
  · exact ⟨by decide, by decide, vr3⟩
theorem right0 : ¬ RtB 0 [] := fun h => absurd h.n1 (by decide)
theorem lst2 {i : Nat} (hs : SrtV [e1, e2] → i = fndV [e1, e2] []) : (evL (stL (min 9 256)) [] (([e1, e2] : List Vs).drop i)).length = 1 := by
  obtain rfl : i = 0 := by rw [hs srt2]; decide
  rw [evL_at (v := e1) rfl]
  show (if (stL (min 9 256) [] [e1, e2]).2 = true then evL (stL (min 9 256)) (stL (min 9 256) [] [e1, e2]).1 [] else (stL (min 9 256) [] [e1, e2]).1).length = 1
  rw [if_pos (by decide), evL_nil]
  decide
theorem ver3 {i : Nat} (hs : SrtV [e1, e2, e3] → i = fndV [e1, e2, e3] kk) : (evL (stV (min 9 256)) [] (([e1, e2, e3] : List Vs).drop i)).length = 3 := by
  obtain rfl : i = 0 := by rw [hs srt3]; decide
  rw [evL_at (v := e1) rfl]
  show (if (stV (min 9 256) [] [e1, e2, e3]).2 = true then evL (stV (min 9 256)) (stV (min 9 256) [] [e1, e2, e3]).1 [] else (stV (min 9 256) [] [e1, e2, e3]).1).length = 3
  rw [if_pos (by decide), evL_nil]
  decide
theorem bw1 : bw [e1] = 36 := by decide +kernel
end Go.Proofs.Ytnnhkpnjmfoenaa
