import Derived.Test.YtkoaojhldcacbaaGreatDoorQh
import Derived.Test.YtkoaojhldcacbaaGreatDoorGr
import Derived.Test.YtkoaojhldcacbaaGreatDoorCards
import Derived.Test.YtkoaojhldcacbaaGreatDoorTie
import Derived.SevenTiedAt
import Derived.JoinedCond
namespace Go.Proofs.YtkoaojhldcacbaaGreatDoor
open Go.ChangeShapes Go.WideShapes Go.ChangeAt Go.RowKit
open Go.ChangeMaps (open_string shut_string)
set_option linter.unusedVariables false
set_option linter.unusedSimpArgs false
set_option maxRecDepth 100000
namespace archiveUnpacks
theorem lifted (os : Os) (started : os.Started) (H : Type) (enc : TypeId × Value → H) (F : Stop.Interp) :
    ReturnsInHanded {} Tryz.checked os 4 .any (fun w args => ((Rows.OpenSpec.upto Rows.archiveUnpacksSpec).pre enc Tryz.prog Tryz.f4 [] false w args ∧ laidMetH Tryz.prog laid1 w) ∧ sizedMet enc Tryz.prog Tryz.f4 (Rows.OpenSpec.upto Rows.archiveUnpacksSpec) false w args)
      (((Rows.OpenSpec.upto Rows.archiveUnpacksSpec).at F).post enc Tryz.prog Tryz.f4 false true false false) := by
  refine returnsInHanded_of_calls own started (by kernel_rfl) ?_ ?_
  · obtain ⟨w, tape, i, h1, h2, h3, h4, ⟨⟨⟨ds, gs, before, hw, hc⟩, hx⟩, hz⟩, hh⟩ := (wit_laid (enc := enc) (s := Rows.archiveUnpacksSpec) (fn := Tryz.f4) (f := 4) (os := os) (X := fun w args => laidMetH Tryz.prog laid1 w ∧ args = #[.string ByteArray.empty]) false #[.string ByteArray.empty] 8 (World.shaped_of_ZipB (by kernel_rfl) (by kernel_rfl)) (by kernel_rfl) (by kernel_rfl) (by kernel_rfl) ⟨laidWorld_met os _, rfl⟩)
    refine ⟨w, tape, i, h1, h2, h3, h4, ⟨⟨⟨ds, gs, before, hw, hc, ?_⟩, hx.1⟩, hz⟩, hh⟩
    obtain ⟨p, q, hA0, hV, rfl, hfz, hnd⟩ := hw
    have hA : DataW.TrodAll enc Tryz.prog _ 0 (fun _ => true) true Tryz.f4.params.toList i.args.toList ds p := hA0
    rw [hx.2, Tryz.params4] at hA
    obtain ⟨v0, vs0, d0, ds0, p0, q0, k0, rfl, rfl, g0, r0⟩ := trodAll_cons hA
    obtain ⟨rfl, rfl, rfl⟩ := trodAll_nil r0
    obtain ⟨rfl, rfl⟩ := trodVars_none hV
    injection k0 with e0 s0
    subst e0
    have b0 : Rows.uptoBulk d0 ≤ 64 := bulk_str g0
    show decide (Rows.uptoBulkAll ([d0] ++ []) ≤ 1048576) = true
    simp [Rows.uptoBulkAll]
    omega
  intro w tape i _ _ _ hok hpre hholds
  obtain ⟨_, _, _, fn', hfn', _, _, _, _, hval0⟩ := hok
  have e : fn' = Tryz.f4 := Option.some.inj (hfn'.symm.trans Tryz.func4)
  subst e
  obtain ⟨⟨⟨ds, gs, before, hw, hc, hkk⟩, hx⟩, hz⟩ := hpre
  have hW := DataW.Whole.of_heap (w' := w.forCall tape i) (by rfl) hw
  have hL : laidMetH Tryz.prog laid1 (w.forCall tape i) := hx.of_heap (by rfl)
  generalize w.forCall tape i = W at *
  generalize i.args = args at *
  have hval : ∀ (j : Nat) t v, Tryz.f4.params[j]? = some t → args[j]? = some v → Value.okWide Tryz.prog W .any w.heap.size t v := hval0
  have hsz : True := trivial
  have hbk : ∀ d ∈ ds ++ gs, Rows.uptoBulk d ≤ 1048576 := fun d hd => by
    have h9 : Rows.uptoBulkAll (ds ++ gs) ≤ 1048576 := of_decide_eq_true hkk
    have := bulk_mem _ _ hd; omega
  have hW' := hW
  obtain ⟨p, q, hA0, hV, rfl, hfz, hnd⟩ := hW
  have hA : DataW.TrodAll enc Tryz.prog W 0 (fun _ => true) true Tryz.f4.params.toList args.toList ds p := hA0
  rw [Tryz.params4] at hA hval
  obtain ⟨v0, vs0, d0, ds0, p0, q0, hargs, rfl, rfl, h0, r0⟩ := trodAll_cons hA
  obtain ⟨rfl, rfl, rfl⟩ := trodAll_nil r0
  obtain rfl : args = #[v0] := by cases args; simp_all
  obtain ⟨rfl, rfl⟩ := trodVars_none hV
  obtain ⟨a0, rfl, rfl, rfl, w0⟩ := open_string Tryz.underlying9 (hval 0 9 v0 rfl rfl) h0
  have z0 : a0.size ≤ 1048576 := by
    have := hbk _ (List.mem_of_getElem? (i := 0) rfl)
    simp [Rows.uptoBulk] at this
    have e : a0.data.size = a0.size := rfl
    omega
  have zl0 : a0.data.toList.length ≤ 1048576 := by rw [Array.length_toList]; exact z0
  have hwk := unpacks_walk a0.data.toList W zl0 (tb_of_laid hL) (eg_of_laid hL) (kin_of_laid hL)
  simp only [str_of] at hwk
  refine hwk.mono fun e W' ⟨he, bel⟩ => ?_
  subst he
  exact ChangeSpec.post_blind ⟨_, _, _, [], _, [], hW', trodAll_mk1 (shut_bool Tryz.underlying4 _), (trodAll_cons_mk (shut_string Tryz.underlying9 w0) trodAll_mk0), rfl, bel.frame _, fun h => by cases h⟩
theorem over : Rows.archiveUnpacksUptoRow.holds Tryz.pinned (Rows.OpenSpec.upto Rows.archiveUnpacksSpec) :=
  OpenClaim.holds_of_cond 4 Tryz.f4 rfl rfl rfl rfl rfl rfl rfl ⟨rfl, rfl, rfl, rfl, rfl⟩ rfl rfl rfl rfl rfl (by kernel_rfl) Tryz.func4 (by kernel_rfl)
    (of_decide_eq_true (by kernel_rfl)) (by unfold Func.isWrapper; first | (rw [if_pos (by decide +kernel)]; kernel_rfl) | (rw [if_neg (by decide +kernel)]; exact ⟨rfl, rfl⟩))
    (fun os started H enc _ F => lifted os started H enc F)
end archiveUnpacks
theorem archiveUnpacksUpto_holds : Rows.ArchiveUnpacksUptoCardSaid :=
  Claim7.holds_tied_plain_at .later [] [.data, .data, .data, .sentinel, .sentinel, .data] true (true, "3c5e61d01ce1671c502fb6652680d18ab57ad06a871c0e6d7e69fa26da862df4") true
    archiveUnpacks.over (fun _ h => by cases h) (by kernel_rfl) (fun _ h => by cases h) archiveUnpacksUpto_row_tie rfl ⟨rfl, rfl⟩ (by kernel_rfl) rfl
    (fun f fn hf hfn => by
      obtain rfl : f = 4 := Option.some.inj ((show Tryz.prog.funcNamed "coffer/cofferlaw18.ArchiveUnpacks" = some 4 by kernel_rfl).symm.trans hf) |>.symm
      obtain rfl : fn = Tryz.f4 := (Option.some.inj (Tryz.func4.symm.trans hfn)).symm
      exact ⟨by kernel_rfl, fun j t ht => by
        rw [Tryz.params4] at ht
        have h3 : t = 9 := by
          match j, ht with
          | 0, ht => have e : 9 = t := by simpa using ht
                     subst e; decide
          | j + 1, ht => exact absurd ht (by simp)
        rcases h3 with rfl
        all_goals (first | exact (show Tryz.prog.wantsStandIn 9 = false by kernel_rfl))⟩)
    (by kernel_rfl)
#print axioms archiveUnpacksUpto_holds
end Go.Proofs.YtkoaojhldcacbaaGreatDoor
