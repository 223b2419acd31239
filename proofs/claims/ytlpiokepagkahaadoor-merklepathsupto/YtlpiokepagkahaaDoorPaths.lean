import Derived.Test.YtlpiokepagkahaaDoorPal
import Derived.Test.YtlpiokepagkahaaDoorBlk
import Derived.Test.YtlpiokepagkahaaDoorCards
import Derived.Test.YtlpiokepagkahaaDoorTie
import Derived.SevenTiedAt
import Derived.JoinedCond
namespace Go.Proofs.YtlpiokepagkahaaDoor
open Go.ChangeShapes Go.WideShapes Go.ChangeAt Go.RowKit
open Go.ChangeMaps (open_string shut_string)
set_option linter.unusedVariables false
set_option linter.unusedSimpArgs false
namespace merklePaths
set_option maxRecDepth 100000 in
theorem lifted (os : Os) (started : os.Started) (H : Type) (enc : TypeId × Value → H) (F : Stop.Interp) :
    ReturnsInHanded {} Tryd.checked os 7 .any (fun w args => ((Rows.OpenSpec.upto Rows.merklePathsSpec).pre enc Tryd.prog Tryd.f7 [] false w args ∧ laidMetH Tryd.prog laid1 w) ∧ sizedMet enc Tryd.prog Tryd.f7 (Rows.OpenSpec.upto Rows.merklePathsSpec) false w args)
      (((Rows.OpenSpec.upto Rows.merklePathsSpec).at F).post enc Tryd.prog Tryd.f7 false true false false) := by
  refine returnsInHanded_of_calls own started (by kernel_rfl) ?_ ?_
  · obtain ⟨w, tape, i, h1, h2, h3, h4, ⟨⟨⟨ds, gs, before, hw, hc⟩, hx⟩, hz⟩, hh⟩ := (ChangeSpec.witness_at (enc := enc) (C := Tryd.checked) (s := Rows.merklePathsSpec) (fn := Tryd.f7) (f := 7) (os := os) (X := fun w args => laidMetH Tryd.prog laid1 w ∧ args = #[.slice none 0 0, .int .i64 0, .agg (Array.replicate 32 (.int .u8 0)), .int .i64 0, .string ByteArray.empty, .slice none 0 0]) false (laidWorld os) #[.slice none 0 0, .int .i64 0, .agg (Array.replicate 32 (.int .u8 0)), .int .i64 0, .string ByteArray.empty, .slice none 0 0] 8 rfl (by kernel_rfl) (by kernel_rfl) (by kernel_rfl) (by kernel_rfl) (by kernel_rfl) ⟨laidWorld_met os _, rfl⟩)
    refine ⟨w, tape, i, h1, h2, h3, h4, ⟨⟨⟨ds, gs, before, hw, hc, ?_⟩, hx.1⟩, hz⟩, hh⟩
    obtain ⟨p, q, hA0, hV, rfl, hfz, hnd⟩ := hw
    have hA : DataW.TrodAll enc Tryd.prog _ 0 (fun _ => true) true Tryd.f7.params.toList i.args.toList ds p := hA0
    rw [hx.2, Tryd.params7] at hA
    obtain ⟨v0, vs0, d0, ds0, p0, q0, k0, rfl, rfl, g0, r0⟩ := trodAll_cons hA
    obtain ⟨v1, vs1, d1, ds1, p1, q1, k1, rfl, rfl, g1, r1⟩ := trodAll_cons r0
    obtain ⟨v2, vs2, d2, ds2, p2, q2, k2, rfl, rfl, g2, r2⟩ := trodAll_cons r1
    obtain ⟨v3, vs3, d3, ds3, p3, q3, k3, rfl, rfl, g3, r3⟩ := trodAll_cons r2
    obtain ⟨v4, vs4, d4, ds4, p4, q4, k4, rfl, rfl, g4, r4⟩ := trodAll_cons r3
    obtain ⟨v5, vs5, d5, ds5, p5, q5, k5, rfl, rfl, g5, r5⟩ := trodAll_cons r4
    obtain ⟨rfl, rfl, rfl⟩ := trodAll_nil r5
    obtain ⟨rfl, rfl⟩ := trodVars_none hV
    injection k0 with e0 s0
    rw [← s0] at k1
    injection k1 with e1 s1
    rw [← s1] at k2
    injection k2 with e2 s2
    rw [← s2] at k3
    injection k3 with e3 s3
    rw [← s3] at k4
    injection k4 with e4 s4
    rw [← s4] at k5
    injection k5 with e5 s5
    subst e0 e1 e2 e3 e4 e5
    have b0 : Rows.uptoBulk d0 ≤ 64 := bulk_texts g0
    have b1 : Rows.uptoBulk d1 ≤ 64 := bulk_i64 g1
    have b2 : Rows.uptoBulk d2 ≤ 64 := bulk_arr32 g2
    have b3 : Rows.uptoBulk d3 ≤ 64 := bulk_i64 g3
    have b4 : Rows.uptoBulk d4 ≤ 64 := bulk_str g4
    have b5 : Rows.uptoBulk d5 ≤ 64 := bulk_hashes g5
    show decide (Rows.uptoBulkAll ([d0, d1, d2, d3, d4, d5] ++ []) ≤ 1048576) = true
    simp [Rows.uptoBulkAll]
    omega
  intro w tape i _ _ _ hok hpre hholds
  obtain ⟨_, _, _, fn', hfn', _, _, _, _, hval0⟩ := hok
  have e : fn' = Tryd.f7 := Option.some.inj (hfn'.symm.trans Tryd.func7)
  subst e
  obtain ⟨⟨⟨ds, gs, before, hw, hc, hkk⟩, hx⟩, hz⟩ := hpre
  have hW := DataW.Whole.of_heap (w' := w.forCall tape i) (by rfl) hw
  have hL : laidMetH Tryd.prog laid1 (w.forCall tape i) := hx.of_heap (by rfl)
  generalize w.forCall tape i = W at *
  generalize i.args = args at *
  have hval : ∀ (j : Nat) t v, Tryd.f7.params[j]? = some t → args[j]? = some v → Value.okWide Tryd.prog W .any w.heap.size t v := hval0
  have hsz : True := trivial
  have hbk : ∀ d ∈ ds ++ gs, Rows.uptoBulk d ≤ 1048576 := fun d hd => by
    have h9 : Rows.uptoBulkAll (ds ++ gs) ≤ 1048576 := of_decide_eq_true hkk
    have := bulk_mem _ _ hd; omega
  have hW' := hW
  obtain ⟨p, q, hA0, hV, rfl, hfz, hnd⟩ := hW
  have hA : DataW.TrodAll enc Tryd.prog W 0 (fun _ => true) true Tryd.f7.params.toList args.toList ds p := hA0
  rw [Tryd.params7] at hA hval
  obtain ⟨v0, vs0, d0, ds0, p0, q0, hargs, rfl, rfl, h0, r0⟩ := trodAll_cons hA
  obtain ⟨v1, vs1, d1, ds1, p1, q1, rfl, rfl, rfl, h1, r1⟩ := trodAll_cons r0
  obtain ⟨v2, vs2, d2, ds2, p2, q2, rfl, rfl, rfl, h2, r2⟩ := trodAll_cons r1
  obtain ⟨v3, vs3, d3, ds3, p3, q3, rfl, rfl, rfl, h3, r3⟩ := trodAll_cons r2
  obtain ⟨v4, vs4, d4, ds4, p4, q4, rfl, rfl, rfl, h4, r4⟩ := trodAll_cons r3
  obtain ⟨v5, vs5, d5, ds5, p5, q5, rfl, rfl, rfl, h5, r5⟩ := trodAll_cons r4
  obtain ⟨rfl, rfl, rfl⟩ := trodAll_nil r5
  obtain rfl : args = #[v0, v1, v2, v3, v4, v5] := by cases args; simp_all
  obtain ⟨rfl, rfl⟩ := trodVars_none hV
  obtain ⟨a0, len0, cap0, rfl⟩ := okWide_slice Tryd.underlying22 (hval 0 22 v0 rfl rfl)
  have kp0 := h0
  have lt0 : ∀ x ∈ p0, x.block < W.heap.size := by obtain ⟨m, hm⟩ := kp0; exact DataW.trod_lt m _ _ _ hm
  obtain ⟨t0, ti0, ts0, tn0, tc0, tm0⟩ := texts_in h0 (hbk _ (List.mem_of_getElem? (i := 0) rfl))
  obtain ⟨a1, rfl, rfl, rfl, w1⟩ := open_int Tryd.underlying3 (hval 1 3 v1 rfl rfl) h1
  obtain ⟨g2, rfl, rfl⟩ := open23 (hval 2 23 v2 rfl rfl) h2
  obtain ⟨a3, rfl, rfl, rfl, w3⟩ := open_int Tryd.underlying3 (hval 3 3 v3 rfl rfl) h3
  obtain ⟨a4, rfl, rfl, rfl, w4⟩ := open_string Tryd.underlying9 (hval 4 9 v4 rfl rfl) h4
  have z4 : a4.size ≤ 1048576 := by
    have := hbk _ (List.mem_of_getElem? (i := 4) rfl)
    simp [Rows.uptoBulk] at this
    omega
  obtain ⟨a5, len5, cap5, rfl⟩ := okWide_slice Tryd.underlying25 (hval 5 25 v5 rfl rfl)
  have kp5 := h5
  have lt5 : ∀ x ∈ p5, x.block < W.heap.size := by obtain ⟨m, hm⟩ := kp5; exact DataW.trod_lt m _ _ _ hm
  obtain ⟨f5, hi5, hl5, hn5, hc5⟩ := hashes_in h5 (hbk _ (List.mem_of_getElem? (i := 5) rfl))
  refine (walk a0 len0 cap0 t0 a1 g2 a3 a4 a5 len5 cap5 f5 W ti0 ts0 tn0 (bounds_i64 w3).2 z4 hl5 hi5 hn5 hc5 (kin_of_laid hL)).mono fun e W' ⟨he, bel⟩ => ?_
  subst he
  exact ChangeSpec.post_blind ⟨_, _, _, [], _, [], hW', trodAll_mk1 (shut_bool Tryd.underlying4 _), (trodAll_cons_mk (Below.trod (P := Tryd.prog) (by kernel_rfl) (by kernel_rfl) (of_decide_eq_true (by kernel_rfl)) kp0 bel lt0) (trodAll_cons_mk (shut_int Tryd.underlying3 w1) (trodAll_cons_mk (read22 h2 bel) (trodAll_cons_mk (shut_int Tryd.underlying3 w3) (trodAll_cons_mk (shut_string Tryd.underlying9 w4) (trodAll_cons_mk (Below.trod (P := Tryd.prog) (by kernel_rfl) (by kernel_rfl) (of_decide_eq_true (by kernel_rfl)) kp5 bel lt5) trodAll_mk0)))))), rfl, bel.frame _, fun h => by cases h⟩
theorem over : Rows.merklePathsUptoRow.holds Tryd.pinned (Rows.OpenSpec.upto Rows.merklePathsSpec) :=
  OpenClaim.holds_of_cond 7 Tryd.f7 rfl rfl rfl rfl rfl rfl rfl ⟨rfl, rfl, rfl, rfl, rfl⟩ rfl rfl rfl rfl rfl (by kernel_rfl) Tryd.func7 (by kernel_rfl)
    (of_decide_eq_true (by kernel_rfl)) (by unfold Func.isWrapper; first | (rw [if_pos (by decide +kernel)]; kernel_rfl) | (rw [if_neg (by decide +kernel)]; exact ⟨rfl, rfl⟩))
    (fun os started H enc _ F => lifted os started H enc F)
end merklePaths
theorem merklePathsUpto_holds : Rows.MerklePathsUptoCardSaid :=
  Claim7.holds_tied_plain_at .later [] [.data] true (true, "d8d753d104afa788b4ccc485b82bd2fa7114df2bc85d4a6d19a92318da9e476b") false
    merklePaths.over (fun _ h => by cases h) (by kernel_rfl) (fun _ h => by cases h) merklePathsUpto_row_tie rfl ⟨rfl, rfl⟩ (by kernel_rfl) rfl
    (fun f fn hf hfn => by
      obtain rfl : f = 7 := Option.some.inj ((show Tryd.prog.funcNamed "coffer/cofferlaw03.MerklePaths" = some 7 by kernel_rfl).symm.trans hf) |>.symm
      obtain rfl : fn = Tryd.f7 := (Option.some.inj (Tryd.func7.symm.trans hfn)).symm
      exact ⟨by kernel_rfl, fun j t ht => by
        rw [Tryd.params7] at ht
        have h3 : t = 22 ∨ t = 3 ∨ t = 23 ∨ t = 9 ∨ t = 25 := by
          match j, ht with
          | 0, ht => have e : 22 = t := by simpa using ht
                     subst e; decide
          | 1, ht => have e : 3 = t := by simpa using ht
                     subst e; decide
          | 2, ht => have e : 23 = t := by simpa using ht
                     subst e; decide
          | 3, ht => have e : 3 = t := by simpa using ht
                     subst e; decide
          | 4, ht => have e : 9 = t := by simpa using ht
                     subst e; decide
          | 5, ht => have e : 25 = t := by simpa using ht
                     subst e; decide
          | j + 6, ht => exact absurd ht (by simp)
        rcases h3 with rfl | rfl | rfl | rfl | rfl
        all_goals (first | exact (show Tryd.prog.wantsStandIn 22 = false by kernel_rfl) | exact (show Tryd.prog.wantsStandIn 3 = false by kernel_rfl) | exact (show Tryd.prog.wantsStandIn 23 = false by kernel_rfl) | exact (show Tryd.prog.wantsStandIn 9 = false by kernel_rfl) | exact (show Tryd.prog.wantsStandIn 25 = false by kernel_rfl))⟩)
    (by kernel_rfl)
#print axioms merklePathsUpto_holds
end Go.Proofs.YtlpiokepagkahaaDoor
