import Derived.Test.YtoclndanabcjkaaLift
import Derived.SizedLaws
namespace Go.Proofs.Ytoclndanabcjkaa
open Go.ChangeShapes Go.WideShapes Go.ChangeAt Go.RowKit
open Go.ChangeMaps (open_string shut_string)
set_option linter.unusedVariables false
namespace sumParts
theorem cat2 (x : BitVec 64) (b c : ByteArray) : Crc.on x (b ++ c).data.toList = Crc.on (Crc.on x b.data.toList) c.data.toList := by
  rw [ByteArray.data_append, Array.toList_append, Crc.on_append]
theorem cat3 (x : BitVec 64) (a b c : ByteArray) : Crc.on x (a ++ b ++ c).data.toList = Crc.on (Crc.on (Crc.on x a.data.toList) b.data.toList) c.data.toList := by
  rw [cat2, cat2]
theorem of_cat (a b c : ByteArray) (w : World) (hs : (a ++ b ++ c).size ≤ maxLen) :
    Calls Try.prog 9 #[.string (a ++ b ++ c)] w fun e w' => e = .returned (.int .u64 ((Crc.on (Crc.on (Crc.on 0#64 a.data.toList) b.data.toList) c.data.toList).toNat : Int)) ∧ Below w.heap.size w w' := by
  rw [← cat3]; exact of_any _ w hs
theorem zero_cat (a b c : ByteArray) (w : World) (hs : (a ++ b ++ c).size ≤ maxLen) :
    Calls Try.prog 10 #[.int .u64 0, .string (a ++ b ++ c)] w fun e w' => e = .returned (.int .u64 ((Crc.on (Crc.on (Crc.on 0#64 a.data.toList) b.data.toList) c.data.toList).toNat : Int)) ∧ Below w.heap.size w w' := by
  rw [← cat3]; exact on_zero _ w hs
theorem on_cat (x : BitVec 64) (b c : ByteArray) (w : World) (hs : (b ++ c).size ≤ maxLen) :
    Calls Try.prog 10 #[.int .u64 (x.toNat : Int), .string (b ++ c)] w fun e w' => e = .returned (.int .u64 ((Crc.on (Crc.on x b.data.toList) c.data.toList).toNat : Int)) ∧ Below w.heap.size w w' := by
  rw [← cat2]; exact on_any x _ w hs
theorem on_empty (x : BitVec 64) (w : World) :
    Calls Try.prog 10 #[.int .u64 (x.toNat : Int), .string ⟨#[]⟩] w fun e w' => e = .returned (.int .u64 (x.toNat : Int)) ∧ Below w.heap.size w w' := by
  have h := on_any x ⟨#[]⟩ w (by decide +kernel)
  rw [show (⟨#[]⟩ : ByteArray).data.toList = [] from rfl, Crc.on_nil] at h
  exact h

set_option maxHeartbeats 400000 in
theorem walk (a b c : ByteArray) (ha : a.size ≤ 140737488351232) (hb : b.size ≤ 140737488351232) (hc : c.size ≤ 140737488351232) (w : World) :
    Calls Try.prog 3 #[.string a, .string b, .string c] w fun e w' => e = .returned (.bool true) ∧ Below w.heap.size w w' := by
  have ma : a.size ≤ maxLen := by unfold maxLen; omega
  have mb : b.size ≤ maxLen := by unfold maxLen; omega
  have mc : c.size ≤ maxLen := by unfold maxLen; omega
  have m3 : (a ++ b ++ c).size ≤ maxLen := by unfold maxLen; simp; omega
  have m2 : (b ++ c).size ≤ maxLen := by unfold maxLen; simp; omega
  go_enter Try.func3, Try.ntmps3
  go_wp2_with fail
  refine (first_any _).mono ?_
  rintro e w1 ⟨rfl, b1⟩
  go_wp2_with fail
  refine (of_cat a b c _ m3).mono ?_
  rintro e w2 ⟨rfl, b2⟩
  go_wp2_with fail
  refine (of_any a _ ma).mono ?_
  rintro e w3 ⟨rfl, b3⟩
  go_wp2_with fail
  refine (on_any _ b _ mb).mono ?_
  rintro e w4 ⟨rfl, b4⟩
  go_wp2_with fail
  refine (on_any _ c _ mc).mono ?_
  rintro e w5 ⟨rfl, b5⟩
  go_wp2_with fail
  refine (on_cat _ b c _ m2).mono ?_
  rintro e w6 ⟨rfl, b6⟩
  go_wp2_with fail
  refine (zero_cat a b c _ m3).mono ?_
  rintro e w7 ⟨rfl, b7⟩
  go_wp2_with fail
  refine (on_empty _ _).mono ?_
  rintro e w8 ⟨rfl, b8⟩
  go_wp2_with fail
  go_ret
  exact ⟨rfl, below_seq (below_seq (below_seq (below_seq (below_seq (below_seq (below_seq b1 b2) b3) b4) b5) b6) b7) b8⟩

set_option maxRecDepth 100000 in
theorem lifted (os : Os) (started : os.Started) (H : Type) (enc : TypeId × Value → H) :
    ReturnsInHanded {} Try.checked os 3 .any (Rows.sumPartsSpec.pre6 enc Try.prog Try.f3 Rows.sumPartsRow.domain false) (Rows.sumPartsSpec.post enc Try.prog Try.f3 false true false false) := by
  refine returnsInHanded_of_change_sized (C := Try.checked) own started (by kernel_rfl) Try.func3
    (ChangeSpec.witness6 (enc := enc) (C := Try.checked) false ⟨#[], #[.string ByteArray.empty, .string ByteArray.empty, .string ByteArray.empty], []⟩ 8 (by kernel_rfl) (by kernel_rfl) (by kernel_rfl) (by kernel_rfl)) ?_
  intro W base args ds gs before hval0 hW hcnd hsz0 _
  have hval : ∀ (j : Nat) t v, Try.f3.params[j]? = some t → args[j]? = some v → Value.okWide Try.prog W .any base t v := hval0
  have hW' := hW
  obtain ⟨p, q, hA0, hV, rfl, hfz, hnd⟩ := hW
  have hA : DataW.TrodAll enc Try.prog W 0 (fun _ => true) true Try.f3.params.toList args.toList ds p := hA0
  have hsz : (DataW.weightsEach Try.prog (Try.f3.params.toList ++ Rows.sumPartsSpec.plain.varTypes Try.prog) (ds ++ gs)).all (· ≤ reachBytes) = true := hsz0
  rw [Try.params3] at hA hval hsz
  obtain ⟨v0, vs0, d0, ds0, p0, q0, hargs, rfl, rfl, h0, r0⟩ := trodAll_cons hA
  obtain ⟨v1, vs1, d1, ds1, p1, q1, rfl, rfl, rfl, h1, r1⟩ := trodAll_cons r0
  obtain ⟨v2, vs2, d2, ds2, p2, q2, rfl, rfl, rfl, h2, r2⟩ := trodAll_cons r1
  obtain ⟨rfl, rfl, rfl⟩ := trodAll_nil r2
  obtain rfl : args = #[v0, v1, v2] := by cases args; simp_all
  obtain ⟨rfl, rfl⟩ := trodVars_none hV
  obtain ⟨a0, rfl, rfl, rfl, w0⟩ := open_string Try.underlying9 (hval 0 9 v0 rfl rfl) h0
  obtain ⟨a1, rfl, rfl, rfl, w1⟩ := open_string Try.underlying9 (hval 1 9 v1 rfl rfl) h1
  obtain ⟨a2, rfl, rfl, rfl, w2⟩ := open_string Try.underlying9 (hval 2 9 v2 rfl rfl) h2
  have z0 : a0.size ≤ 140737488351232 := by
    have := sized_string hsz (j := 0) (t := 9) rfl rfl
    simpa [reachBytes] using this
  have z1 : a1.size ≤ 140737488351232 := by
    have := sized_string hsz (j := 1) (t := 9) rfl rfl
    simpa [reachBytes] using this
  have z2 : a2.size ≤ 140737488351232 := by
    have := sized_string hsz (j := 2) (t := 9) rfl rfl
    simpa [reachBytes] using this
  clear hA0 hval0
  refine (walk a0 a1 a2 z0 z1 z2 W).mono fun e W' ⟨he, bel⟩ => ?_
  subst he
  exact ⟨_, rfl, _, _, _, [], _, [], hW', trodAll_mk1 (shut_bool Try.underlying4 _), (trodAll_cons_mk (shut_string Try.underlying9 w0) (trodAll_cons_mk (shut_string Try.underlying9 w1) (trodAll_cons_mk (shut_string Try.underlying9 w2) trodAll_mk0))), rfl, bel.frame _, fun h => by cases h⟩

theorem over : Rows.sumPartsRow.holds Try.pinned (OpenSpec.ofChange Rows.sumPartsSpec) :=
  OpenClaim.holds_of_wide 3 Try.f3 rfl rfl rfl rfl rfl rfl rfl ⟨rfl, rfl, rfl, rfl, rfl⟩ rfl rfl rfl rfl rfl (by kernel_rfl) Try.func3 (by kernel_rfl)
    (of_decide_eq_true (by kernel_rfl)) (by unfold Func.isWrapper; first | (rw [if_pos (by decide +kernel)]; kernel_rfl) | (rw [if_neg (by decide +kernel)]; exact ⟨rfl, rfl⟩))
    (fun os started H enc _ => lifted os started H enc)
end sumParts

theorem sumParts_holds : Rows.SumPartsSaid := sumParts.over
#print axioms sumParts_holds
end Go.Proofs.Ytoclndanabcjkaa
