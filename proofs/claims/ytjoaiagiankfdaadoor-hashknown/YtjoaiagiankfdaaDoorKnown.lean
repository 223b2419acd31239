import Derived.Test.YtjoaiagiankfdaaDoorMil
import Derived.Test.YtjoaiagiankfdaaDoorLift
import Derived.Test.YtjoaiagiankfdaaDoorCards
import Derived.Test.YtjoaiagiankfdaaDoorTie
import Derived.SevenTiedAt
namespace Go.Proofs.YtjoaiagiankfdaaDoor
open Go.ChangeShapes Go.WideShapes Go.ChangeAt Go.RowKit
open Go.ChangeMaps (open_string shut_string)
set_option linter.unusedVariables false
set_option linter.unusedSimpArgs false
namespace hashKnown
def aB (k : Nat) : ByteArray := ⟨(List.replicate k 97).toArray⟩
theorem aB_size (k : Nat) : (aB k).size = k := by show (List.replicate k (97 : UInt8)).toArray.size = k; rw [List.size_toArray, List.length_replicate]
theorem aB_succ (k : Nat) : aB k ++ ⟨#[97]⟩ = aB (k + 1) := by
  have a1 : (⟨#[97]⟩ : ByteArray) = ⟨([97] : List UInt8).toArray⟩ := rfl
  unfold aB
  rw [a1, ByteArray.mk_append_mk]
  congr 2
  rw [List.replicate_succ']
theorem aB_list (k : Nat) : (aB k).data.toList = List.replicate k 97 := rfl
theorem aB_0 : aB 0 = ⟨#[]⟩ := rfl
theorem hexM_any (m : List UInt8) (hm : m = Sha.mil) (w : World) : Calls Tryd.prog 10 #[.agg (b32 (dg m))] w fun e w' => e = .returned (.string litM) ∧ Below w.heap.size w w' := by
  subst hm
  have := hex_any (dg Sha.mil) w
  rw [hexM] at this
  exact this
theorem hexL_any (w : World) : Calls Tryd.prog 10 #[.agg (b32 (dg msgL.data.toList))] w fun e w' => e = .returned (.string litL) ∧ Below w.heap.size w w' := by
  have := hex_any (dg msgL.data.toList) w
  rw [hexL56] at this
  exact this
theorem sumL_any (w : World) (hK : KIn w) : Calls Tryd.prog 15 #[.string msgL] w fun e w' => e = .returned (.agg (b32 (dg msgL.data.toList))) ∧ Below w.heap.size w w' :=
  sum_any msgL w hK (by decide)
set_option maxHeartbeats 1000000 in
set_option maxRecDepth 8000 in
theorem walk (w : World) (hK : KIn w) :
    Calls Tryd.prog 4 #[] w fun e w' => e = .returned (.bool true) ∧ Below w.heap.size w w' := by
  go_enter Tryd.func4, Tryd.ntmps4
  go_wp2_with fail
  refine (head_any w hK).mono ?_
  rintro e w1 ⟨rfl, b1⟩
  have k1 := hK.seq b1
  go_wp2_with fail
  refine (new_any w1).mono ?_
  rintro e w2 ⟨rfl, W2, b2⟩
  have k2 := k1.seq b2
  have hB0 : 0 < w1.heap.size := k1.lt
  go_wp2_with fail
  generalize hG : w1.heap.size = G at *
  rw [← aB_0]
  go_loop [2, 3] (fun t i => ∃ k : Nat, k ≤ 1000 ∧ i = .int .i64 k ∧ t = .string (aB k)) (fun _ i => 1000 - (intOf i).toNat)
  case atStart => exact ⟨0, by omega, rfl, rfl⟩
  case round =>
    obtain ⟨k, hk, rfl, rfl⟩ := hrel
    have hz := aB_size k
    by_cases hlt : k < 1000
    · have hd : decide ((k : Int) < 1000) = true := decide_eq_true (by omega)
      have s1 : ¬ 9223372036854775807 < k + 1 := by omega
      have HS : Hid (aB k ++ ⟨#[97]⟩ = aB (k + 1)) := aB_succ k
      go_wp2_with fail
      go_round
      case rel => exact ⟨k + 1, by omega, by go_num, by rw [← HS.out]⟩
      case measure => simp [intOf]; omega
    · obtain rfl : k = 1000 := by omega
      have hd : decide ((1000 : Int) < 1000) = false := by decide
      go_wp2_with fail
      go_loopw [4] (fun i wr => ∃ k : Nat, k ≤ 1000 ∧ i = .int .i64 k ∧ WrAt wr G (List.replicate (1000 * k) 97) ∧ KIn wr ∧ Below G w2 wr ∧ G < wr.heap.size) (fun i _ => 1000 - (intOf i).toNat)
      case atStart => exact ⟨0, by omega, rfl, W2, k2, Below.refl _ _, W2.lt⟩
      case round =>
        obtain ⟨k, hk, rfl, WW, kk, bb, gg⟩ := hrel
        by_cases hlt2 : k < 1000
        · have hd2 : decide ((k : Int) < 1000) = true := decide_eq_true (by omega)
          go_wp2_with fail
          refine (write_any G (List.replicate (1000 * k) 97) (aB 1000) wr kk (by omega) WW (by rw [List.length_replicate, hz]; omega)).mono ?_
          rintro e w3 ⟨rfl, W3, t3⟩
          rw [aB_list, List.replicate_append_replicate, show 1000 * k + 1000 = 1000 * (k + 1) by omega] at W3
          go_wp2_with fail
          go_round
          case rel => exact ⟨k + 1, by omega, by go_num, W3, t3.kin kk (by omega), bb.trans (t3.below (by omega) (Nat.le_refl _)), W3.lt⟩
          case measure => simp [intOf]; omega
        · obtain rfl : k = 1000 := by omega
          have W4 : WrAt wr G Sha.mil := WW
          have bw : Below w.heap.size w wr := by
            have b12 := below_seq b1 (by rw [hG]; exact b2)
            exact b12.trans (bb.mono (by rw [← hG]; exact b1.size))
          clear WW
          go_wp2_with fail
          refine (wsum_any G Sha.mil wr kk W4 (by rw [Sha.mil_len]; decide)).mono ?_
          rintro e w5 ⟨rfl, b5⟩
          have k5 := kk.seq b5
          have b05 := below_seq bw b5
          go_wp2_with fail
          refine (hexM_any Sha.mil rfl w5).mono ?_
          rintro e w6 ⟨rfl, b6⟩
          have k6 := k5.seq b6
          have b06 := below_seq b05 b6
          go_wp2_with fail
          refine (sumL_any w6 k6).mono ?_
          rintro e w7 ⟨rfl, b7⟩
          have b07 := below_seq b06 b7
          go_wp2_with fail
          refine (hexL_any w7).mono ?_
          rintro e w8 ⟨rfl, b8⟩
          have b08 := below_seq b07 b8
          go_wp2_with fail
          go_ret
          exact ⟨rfl, b08⟩

set_option maxRecDepth 100000 in
theorem lifted (os : Os) (started : os.Started) (H : Type) (enc : TypeId × Value → H) :
    ReturnsInHanded {} Tryd.checked os 4 .any (fun w args => (Rows.hashKnownSpec.pre enc Tryd.prog Tryd.f4 [] false w args ∧ laidMetH Tryd.prog laid1 w) ∧ sizedMet enc Tryd.prog Tryd.f4 (OpenSpec.ofChange Rows.hashKnownSpec) false w args)
      (Rows.hashKnownSpec.post enc Tryd.prog Tryd.f4 false true false false) := by
  refine returnsInHanded_of_change_and (C := Tryd.checked) (X := fun w _ => laidMetH Tryd.prog laid1 w) (fun _ _ _ hh h => h.of_heap hh) own started (by kernel_rfl) Tryd.func4
    (ChangeSpec.witness_at (enc := enc) (C := Tryd.checked) (os := os) (X := fun w _ => laidMetH Tryd.prog laid1 w) false (laidWorld os) #[] 8 rfl (by kernel_rfl) (by kernel_rfl) (by kernel_rfl) (by kernel_rfl) (by kernel_rfl) (laidWorld_met os _)) ?_
  intro W base args ds gs before hval0 hW _ hsz0 hL _
  have hval : ∀ (j : Nat) t v, Tryd.f4.params[j]? = some t → args[j]? = some v → Value.okWide Tryd.prog W .any base t v := hval0
  have hsz : (DataW.weightsEach Tryd.prog (Tryd.f4.params.toList ++ Rows.hashKnownSpec.plain.varTypes Tryd.prog) (ds ++ gs)).all (· ≤ reachBytes) = true := hsz0
  have hW' := hW
  obtain ⟨p, q, hA0, hV, rfl, hfz, hnd⟩ := hW
  have hA : DataW.TrodAll enc Tryd.prog W 0 (fun _ => true) true Tryd.f4.params.toList args.toList ds p := hA0
  rw [Tryd.params4] at hA hval hsz
  obtain ⟨rfl, rfl, rfl⟩ := trodAll_none hA
  obtain ⟨rfl, rfl⟩ := trodVars_none hV
  refine (walk  W (kin_of_laid hL)).mono fun e W' ⟨he, bel⟩ => ?_
  subst he
  exact ⟨_, rfl, _, _, _, [], _, [], hW', trodAll_mk1 (shut_bool Tryd.underlying4 _), trodAll_mk0, rfl, bel.frame _, fun h => by cases h⟩

theorem over : Rows.hashKnownRow.holds Tryd.pinned (OpenSpec.ofChange Rows.hashKnownSpec) :=
  OpenClaim.holds_of_wide 4 Tryd.f4 rfl rfl rfl rfl rfl rfl rfl ⟨rfl, rfl, rfl, rfl, rfl⟩ rfl rfl rfl rfl rfl (by kernel_rfl) Tryd.func4 (by kernel_rfl)
    (of_decide_eq_true (by kernel_rfl)) (by unfold Func.isWrapper; first | (rw [if_pos (by decide +kernel)]; kernel_rfl) | (rw [if_neg (by decide +kernel)]; exact ⟨rfl, rfl⟩))
    (fun os started H enc _ => lifted os started H enc)
end hashKnown

theorem hashKnown_holds : Rows.HashKnownCardSaid :=
  Claim7.holds_tied_plain_at .later [] [.data] true (true, "0faf704b421a3bfb61ae8aab87bfb717a25f9c206630b02b54ca05421e9be05e") false
    hashKnown.over (fun _ h => by cases h) (by kernel_rfl) (fun _ h => by cases h) hashKnown_row_tie rfl ⟨rfl, rfl⟩ (by kernel_rfl) rfl
    (fun f fn hf hfn => by
      obtain rfl : f = 4 := Option.some.inj ((show Tryd.prog.funcNamed "coffer/cofferlaw02.HashKnown" = some 4 by kernel_rfl).symm.trans hf) |>.symm
      obtain rfl : fn = Tryd.f4 := (Option.some.inj (Tryd.func4.symm.trans hfn)).symm
      exact ⟨by kernel_rfl, fun j t ht => by
        rw [Tryd.params4] at ht
        simp at ht⟩)
    (by kernel_rfl)
#print axioms hashKnown_holds
end Go.Proofs.YtjoaiagiankfdaaDoor
