import Derived.Test.YtgbkloihclbimaaDoorGg
import Derived.Test.YtgbkloihclbimaaDoorGd
import Derived.Test.YtgbkloihclbimaaDoorZi
import Derived.Test.YtgbkloihclbimaaDoorCards
import Derived.Test.YtgbkloihclbimaaDoorTie
import Derived.SevenTiedAt
import Derived.JoinedCond
namespace Go.Proofs.YtgbkloihclbimaaDoor
open Go.ChangeShapes Go.WideShapes Go.ChangeAt Go.RowKit
open Go.ChangeMaps (open_string shut_string)
set_option linter.unusedVariables false
set_option linter.unusedSimpArgs false
set_option maxRecDepth 100000
namespace scriptPrints
theorem lifted (os : Os) (started : os.Started) (H : Type) (enc : TypeId × Value → H) (F : Stop.Interp) :
    ReturnsInHanded {} Tryd.checked os 3 .any (fun w args => ((Rows.OpenSpec.upto Rows.scriptPrintsSpec).pre enc Tryd.prog Tryd.f3 [] false w args ∧ laidMetH Tryd.prog laid1 w) ∧ sizedMet enc Tryd.prog Tryd.f3 (Rows.OpenSpec.upto Rows.scriptPrintsSpec) false w args)
      (((Rows.OpenSpec.upto Rows.scriptPrintsSpec).at F).post enc Tryd.prog Tryd.f3 false true false false) := by
  refine returnsInHanded_of_calls own started (by kernel_rfl) ?_ ?_
  · obtain ⟨w, tape, i, h1, h2, h3, h4, ⟨⟨⟨ds, gs, before, hw, hc⟩, hx⟩, hz⟩, hh⟩ := (wit_laid (enc := enc) (s := Rows.scriptPrintsSpec) (fn := Tryd.f3) (f := 3) (os := os) (X := fun w args => laidMetH Tryd.prog laid1 w ∧ args = #[.slice none 0 0, .string ByteArray.empty]) false #[.slice none 0 0, .string ByteArray.empty] 8 (World.shaped_of_ZipB (by kernel_rfl) (by kernel_rfl)) (by kernel_rfl) (by kernel_rfl) (by kernel_rfl) ⟨laidWorld_met os _, rfl⟩)
    refine ⟨w, tape, i, h1, h2, h3, h4, ⟨⟨⟨ds, gs, before, hw, hc, ?_⟩, hx.1⟩, hz⟩, hh⟩
    obtain ⟨p, q, hA0, hV, rfl, hfz, hnd⟩ := hw
    have hA : DataW.TrodAll enc Tryd.prog _ 0 (fun _ => true) true Tryd.f3.params.toList i.args.toList ds p := hA0
    rw [hx.2, Tryd.params3] at hA
    obtain ⟨v0, vs0, d0, ds0, p0, q0, k0, rfl, rfl, g0, r0⟩ := trodAll_cons hA
    obtain ⟨v1, vs1, d1, ds1, p1, q1, k1, rfl, rfl, g1, r1⟩ := trodAll_cons r0
    obtain ⟨rfl, rfl, rfl⟩ := trodAll_nil r1
    obtain ⟨rfl, rfl⟩ := trodVars_none hV
    injection k0 with e0 s0
    rw [← s0] at k1
    injection k1 with e1 s1
    subst e0 e1
    have b0 : Rows.uptoBulk d0 ≤ 64 := bulk_qcs g0
    have b1 : Rows.uptoBulk d1 ≤ 64 := bulk_str g1
    show decide (Rows.uptoBulkAll ([d0, d1] ++ []) ≤ 1048576) = true
    simp [Rows.uptoBulkAll]
    omega
  intro w tape i _ _ _ hok hpre hholds
  obtain ⟨_, _, _, fn', hfn', _, _, _, _, hval0⟩ := hok
  have e : fn' = Tryd.f3 := Option.some.inj (hfn'.symm.trans Tryd.func3)
  subst e
  obtain ⟨⟨⟨ds, gs, before, hw, hc, hkk⟩, hx⟩, hz⟩ := hpre
  have hW := DataW.Whole.of_heap (w' := w.forCall tape i) (by rfl) hw
  have hL : laidMetH Tryd.prog laid1 (w.forCall tape i) := hx.of_heap (by rfl)
  generalize w.forCall tape i = W at *
  generalize i.args = args at *
  have hval : ∀ (j : Nat) t v, Tryd.f3.params[j]? = some t → args[j]? = some v → Value.okWide Tryd.prog W .any w.heap.size t v := hval0
  have hsz : True := trivial
  have hbk : ∀ d ∈ ds ++ gs, Rows.uptoBulk d ≤ 1048576 := fun d hd => by
    have h9 : Rows.uptoBulkAll (ds ++ gs) ≤ 1048576 := of_decide_eq_true hkk
    have := bulk_mem hd; omega
  have hW' := hW
  obtain ⟨p, q, hA0, hV, rfl, hfz, hnd⟩ := hW
  have hA : DataW.TrodAll enc Tryd.prog W 0 (fun _ => true) true Tryd.f3.params.toList args.toList ds p := hA0
  rw [Tryd.params3] at hA hval
  obtain ⟨v0, vs0, d0, ds0, p0, q0, hargs, rfl, rfl, h0, r0⟩ := trodAll_cons hA
  obtain ⟨v1, vs1, d1, ds1, p1, q1, rfl, rfl, rfl, h1, r1⟩ := trodAll_cons r0
  obtain ⟨rfl, rfl, rfl⟩ := trodAll_nil r1
  obtain rfl : args = #[v0, v1] := by cases args; simp_all
  obtain ⟨rfl, rfl⟩ := trodVars_none hV
  have kp0 := h0
  have lt0 : ∀ x ∈ p0, x.block < W.heap.size := by obtain ⟨m, hm⟩ := kp0; exact DataW.trod_lt m _ _ _ hm
  obtain ⟨R0, ra0, rc0, rfl, rt0, rn0, rk0⟩ := cmds_inB (hval 0 22 v0 rfl rfl) h0 (hbk _ (List.mem_of_getElem? (i := 0) rfl))
  obtain ⟨a1, rfl, rfl, rfl, w1⟩ := open_string Tryd.underlying9 (hval 1 9 v1 rfl rfl) h1
  have z1 : a1.size ≤ 1048576 := by
    have := hbk _ (List.mem_of_getElem? (i := 1) rfl)
    simp [Rows.uptoBulk] at this
    have e : a1.data.size = a1.size := rfl
    omega
  have zl1 : a1.data.toList.length ≤ 1048576 := by rw [Array.length_toList]; exact z1
  have hwk := prints_walk R0 ra0 rc0 a1.data.toList (Nat.le_trans zl1 (by decide)) W rt0 rn0 rk0 (sg_of_laid hL) (tb_of_laid hL) (eg_of_laid hL)
  simp only [str_of] at hwk
  refine hwk.mono fun e W' ⟨he, bel⟩ => ?_
  subst he
  exact ChangeSpec.post_blind ⟨_, _, _, [], _, [], hW', trodAll_mk1 (shut_bool Tryd.underlying4 _), (trodAll_cons_mk (Below.trod (P := Tryd.prog) (by kernel_rfl) (by kernel_rfl) (of_decide_eq_true (by kernel_rfl)) kp0 bel lt0) (trodAll_cons_mk (shut_string Tryd.underlying9 w1) trodAll_mk0)), rfl, bel.frame _, fun h => by cases h⟩
theorem over : Rows.scriptPrintsUptoRow.holds Tryd.pinned (Rows.OpenSpec.upto Rows.scriptPrintsSpec) :=
  OpenClaim.holds_of_cond 3 Tryd.f3 rfl rfl rfl rfl rfl rfl rfl ⟨rfl, rfl, rfl, rfl, rfl⟩ rfl rfl rfl rfl rfl (by kernel_rfl) Tryd.func3 (by kernel_rfl)
    (of_decide_eq_true (by kernel_rfl)) (by unfold Func.isWrapper; first | (rw [if_pos (by decide +kernel)]; kernel_rfl) | (rw [if_neg (by decide +kernel)]; exact ⟨rfl, rfl⟩))
    (fun os started H enc _ F => lifted os started H enc F)
end scriptPrints
theorem scriptPrintsUpto_holds : Rows.ScriptPrintsUptoCardSaid :=
  Claim7.holds_tied_plain_at .later [] [.data, .data, .data, .sentinel, .sentinel, .data] true (true, "4528f7890199a36e9a885b6750776ac6ed73107a82a80d7e3d1079995da0bc70") true
    scriptPrints.over (fun _ h => by cases h) (by kernel_rfl) (fun _ h => by cases h) scriptPrintsUpto_row_tie rfl ⟨rfl, rfl⟩ (by kernel_rfl) rfl
    (fun f fn hf hfn => by
      obtain rfl : f = 3 := Option.some.inj ((show Tryd.prog.funcNamed "coffer/cofferlaw22.ScriptPrints" = some 3 by kernel_rfl).symm.trans hf) |>.symm
      obtain rfl : fn = Tryd.f3 := (Option.some.inj (Tryd.func3.symm.trans hfn)).symm
      exact ⟨by kernel_rfl, fun j t ht => by
        rw [Tryd.params3] at ht
        have h3 : t = 22 ∨ t = 9 := by
          match j, ht with
          | 0, ht => have e : 22 = t := by simpa using ht
                     subst e; decide
          | 1, ht => have e : 9 = t := by simpa using ht
                     subst e; decide
          | j + 2, ht => exact absurd ht (by simp)
        rcases h3 with rfl | rfl
        all_goals (first | exact (show Tryd.prog.wantsStandIn 22 = false by kernel_rfl) | exact (show Tryd.prog.wantsStandIn 9 = false by kernel_rfl))⟩)
    (by kernel_rfl)
#print axioms scriptPrintsUpto_holds
end Go.Proofs.YtgbkloihclbimaaDoor
