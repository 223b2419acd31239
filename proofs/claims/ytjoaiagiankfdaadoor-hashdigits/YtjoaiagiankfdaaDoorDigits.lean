import Derived.Test.YtjoaiagiankfdaaDoorRParse
import Derived.Test.YtjoaiagiankfdaaDoorHead
import Derived.Test.YtjoaiagiankfdaaDoorLift
import Derived.Test.YtjoaiagiankfdaaDoorCards
import Derived.Test.YtjoaiagiankfdaaDoorTie
import Derived.SevenTiedAt
namespace Go.Proofs.YtjoaiagiankfdaaDoor
open Go.ChangeShapes Go.WideShapes Go.ChangeAt Go.RowKit
open Go.ChangeMaps (open_string shut_string)
set_option linter.unusedVariables false
set_option linter.unusedSimpArgs false
namespace hashDigits
theorem eqSelf (g : Nat → UInt8) (w : World) : (Op.equalIn 10000 22 (.agg (b32 g)) (.agg (b32 g))).run Tryd.prog w = .ok true w := by
  rw [eq22, eqb_self]
theorem refParse2 (s : ByteArray) (w : World) (hs : s.size ≤ 9223372036854775807) :
    Calls Tryd.prog 17 #[.string s] w fun e w' => e = .returned (.tuple #[.agg (b32 (pz s.data.toList)), .bool (okL s.data.toList)]) ∧ Below w.heap.size w w' := by
  have := refParse_any s w hs
  rw [parsed_pz] at this
  exact this
/-- What the last line reads, and keeps. -/
structure DS (w : World) (g X : Nat → UInt8) (B C D : Nat) (w' : World) : Prop where
  bel : Below B w w'
  r : w'.heap[B]? = some (.cells (b32 g) 22 (0, 0))
  x : w'.heap[C]? = some (.cells (b32 X) 22 (0, 0))
  y : w'.heap[D]? = some (.cells (b32 X) 22 (0, 0))
  le : B ≤ w'.heap.size
theorem DS.next {w : World} {g X : Nat → UInt8} {B C D : Nat} {w1 w2 : World} (h : DS w g X B C D w1) (q : Below w1.heap.size w1 w2) : DS w g X B C D w2 :=
  ⟨h.bel.trans (q.mono h.le), carry h.r q, carry h.x q, carry h.y q, Nat.le_trans h.le q.size⟩
attribute [local go_sem ↓] ld22 st22
attribute [local go_sem ↓] Go.wp_at_zero Go.wp_at_succ
set_option maxHeartbeats 6000000 in
set_option maxRecDepth 8000 in
theorem walk (g : Nat → UInt8) (s : ByteArray) (zs : s.size ≤ 140737488351232) (w : World) (hK : KIn w) :
    Calls Tryd.prog 6 #[.agg (b32 g), .string s] w fun e w' => e = .returned (.bool true) ∧ Below w.heap.size w w' := by
  go_enter Tryd.func6, Tryd.ntmps6
  go_wp2_with fail
  obtain ⟨W0, e0, b0, r0⟩ : ∃ W0, W0 = w.alloc (Obj.cells (b32 g) 22) ∧ Below w.heap.size w W0 ∧ W0.heap[w.heap.size]? = some (.cells (b32 g) 22 (0, 0)) :=
    ⟨_, rfl, (Below.refl _ _).alloc (Nat.le_refl _) _, heap_alloc_new _ _⟩
  rw [← e0]
  clear e0
  have k0 := hK.seq b0
  generalize hB : w.heap.size = B at *
  refine (head_any W0 k0).mono ?_
  rintro e w1 ⟨rfl, b1⟩
  have r1 := carry r0 b1
  have b01 : Below B w w1 := b0.trans (b1.mono (by rw [← hB]; exact b0.size))
  clear b0 b1 r0 k0
  go_wp2_with fail
  refine (parse2 s w1 (by omega)).mono ?_
  rintro e w2 ⟨rfl, b2⟩
  have r2 := carry r1 b2
  have b02 : Below B w w2 := b01.trans (b2.mono (by have := b01.size; omega))
  clear b01 b2 r1
  have hRP := fun w => refParse2 s w (by omega)
  generalize pz s.data.toList = X at *
  generalize okL s.data.toList = o at *
  have st2 := store22b X
  have r3 := carry r2 (below_new22 w2 X)
  have x3 := new22 w2 X
  have b03 : Below B w (w2.alloc (.cells (b32 X) 22)) := b02.trans ((below_new22 w2 X).mono (by have := b02.size; omega))
  go_wp2_with fail
  clear st2 r2 b02
  generalize hC : w2.heap.size = C at *
  generalize (w2.alloc (.cells (b32 X) 22)) = w3 at *
  refine (hRP w3).mono ?_
  rintro e w4 ⟨rfl, b4⟩
  clear hRP
  have r4 := carry r3 b4
  have x4 := carry x3 b4
  have b04 : Below B w w4 := b03.trans (b4.mono (by have := b03.size; omega))
  clear r3 x3 b03 b4
  have st4 := store22b X
  have r5 := carry r4 (below_new22 w4 X)
  have x5 := carry x4 (below_new22 w4 X)
  have y5 := new22 w4 X
  have b05 : Below B w (w4.alloc (.cells (b32 X) 22)) := b04.trans ((below_new22 w4 X).mono (by have := b04.size; omega))
  go_wp2_with fail
  have S5 : DS w g X B C w4.heap.size (w4.alloc (.cells (b32 X) 22)) := ⟨b05, r5, x5, y5, by have := b05.size; omega⟩
  clear st4 r5 x5 y5 b05 r4 x4 b04
  have eX := eqSelf X
  obtain ⟨H, hH⟩ : ∃ H : ByteArray, H = ⟨(hexL g).toArray⟩ := ⟨_, rfl⟩
  have h10 := hex_any g
  have h18 := refHex_any g
  rw [← hH] at h10 h18
  clear hH
  generalize w4.heap.size = D at *
  generalize (w4.alloc (.cells (b32 X) 22)) = w5 at *
  have S6 : DS w g X B C D w5.drew := S5.next (Below.refl _ _).drew
  have l6 := load22 S6.r
  clear S5
  rename_i K hKK
  have fin : ∀ (A : Act) (w8 : World), A.tmps.getD 4 undef = .bool true → A.defers = [] → DS w g X B C D w8 → K A w8 := by
    intro A w8 h1 h2 S8
    have H : bodyPost Tryd.prog Tryd.f6 (fun e w' => e = .returned (.bool true) ∧ Below w.heap.size w w') Exit.ret A w8 :=
      bodyPost_ret (v := .bool true) (by rw [results_tmp Tryd.results6, h1]) h2 ⟨rfl, by rw [hB]; exact S8.bel⟩
    refine hKK A w8 ?_
    exact wp_ret H
  clear hKK
  go_region_with (first
    | (go_at_call 10; refine (h10 _).mono ?_; rintro e w7 ⟨rfl, bq⟩; have S7 := S6.next bq; have l7 := load22 S7.r)
    | (go_at_call 18; refine (h18 _).mono ?_; rintro e w8 ⟨rfl, bq2⟩; have S8 := S7.next bq2; have l8 := load22 S8.x; have l9 := load22 S8.y))
  all_goals exact fin _ _ (by kernel_rfl) (by kernel_rfl) S8

set_option maxRecDepth 100000 in
theorem lifted (os : Os) (started : os.Started) (H : Type) (enc : TypeId × Value → H) :
    ReturnsInHanded {} Tryd.checked os 6 .any (fun w args => (Rows.hashDigitsSpec.pre enc Tryd.prog Tryd.f6 [] false w args ∧ laidMetH Tryd.prog laid1 w) ∧ sizedMet enc Tryd.prog Tryd.f6 (OpenSpec.ofChange Rows.hashDigitsSpec) false w args)
      (Rows.hashDigitsSpec.post enc Tryd.prog Tryd.f6 false true false false) := by
  refine returnsInHanded_of_change_and (C := Tryd.checked) (X := fun w _ => laidMetH Tryd.prog laid1 w) (fun _ _ _ hh h => h.of_heap hh) own started (by kernel_rfl) Tryd.func6
    (ChangeSpec.witness_at (enc := enc) (C := Tryd.checked) (os := os) (X := fun w _ => laidMetH Tryd.prog laid1 w) false (laidWorld os) #[.agg (Array.replicate 32 (.int .u8 0)), .string ByteArray.empty] 8 rfl (by kernel_rfl) (by kernel_rfl) (by kernel_rfl) (by kernel_rfl) (by kernel_rfl) (laidWorld_met os _)) ?_
  intro W base args ds gs before hval0 hW _ hsz0 hL _
  have hval : ∀ (j : Nat) t v, Tryd.f6.params[j]? = some t → args[j]? = some v → Value.okWide Tryd.prog W .any base t v := hval0
  have hsz : (DataW.weightsEach Tryd.prog (Tryd.f6.params.toList ++ Rows.hashDigitsSpec.plain.varTypes Tryd.prog) (ds ++ gs)).all (· ≤ reachBytes) = true := hsz0
  have hW' := hW
  obtain ⟨p, q, hA0, hV, rfl, hfz, hnd⟩ := hW
  have hA : DataW.TrodAll enc Tryd.prog W 0 (fun _ => true) true Tryd.f6.params.toList args.toList ds p := hA0
  rw [Tryd.params6] at hA hval hsz
  obtain ⟨v0, vs0, d0, ds0, p0, q0, hargs, rfl, rfl, h0, r0⟩ := trodAll_cons hA
  obtain ⟨v1, vs1, d1, ds1, p1, q1, rfl, rfl, rfl, h1, r1⟩ := trodAll_cons r0
  obtain ⟨rfl, rfl, rfl⟩ := trodAll_nil r1
  obtain rfl : args = #[v0, v1] := by cases args; simp_all
  obtain ⟨rfl, rfl⟩ := trodVars_none hV
  obtain ⟨g0, rfl, rfl⟩ := open32 (hval 0 22 v0 rfl rfl) h0
  obtain ⟨a1, rfl, rfl, rfl, w1⟩ := open_string Tryd.underlying9 (hval 1 9 v1 rfl rfl) h1
  have z1 : a1.size ≤ 140737488351232 := by
    have := sized_string hsz (j := 1) (t := 9) rfl rfl
    simpa [reachBytes] using this
  refine (walk g0 a1 z1 W (kin_of_laid hL)).mono fun e W' ⟨he, bel⟩ => ?_
  subst he
  exact ⟨_, rfl, _, _, _, [], _, [], hW', trodAll_mk1 (shut_bool Tryd.underlying4 _), (trodAll_cons_mk (read22 h0 bel) (trodAll_cons_mk (shut_string Tryd.underlying9 w1) trodAll_mk0)), rfl, bel.frame _, fun h => by cases h⟩

theorem over : Rows.hashDigitsRow.holds Tryd.pinned (OpenSpec.ofChange Rows.hashDigitsSpec) :=
  OpenClaim.holds_of_wide 6 Tryd.f6 rfl rfl rfl rfl rfl rfl rfl ⟨rfl, rfl, rfl, rfl, rfl⟩ rfl rfl rfl rfl rfl (by kernel_rfl) Tryd.func6 (by kernel_rfl)
    (of_decide_eq_true (by kernel_rfl)) (by unfold Func.isWrapper; first | (rw [if_pos (by decide +kernel)]; kernel_rfl) | (rw [if_neg (by decide +kernel)]; exact ⟨rfl, rfl⟩))
    (fun os started H enc _ => lifted os started H enc)
end hashDigits

theorem hashDigits_holds : Rows.HashDigitsCardSaid :=
  Claim7.holds_tied_plain_at .later [] [.data] true (true, "0faf704b421a3bfb61ae8aab87bfb717a25f9c206630b02b54ca05421e9be05e") false
    hashDigits.over (fun _ h => by cases h) (by kernel_rfl) (fun _ h => by cases h) hashDigits_row_tie rfl ⟨rfl, rfl⟩ (by kernel_rfl) rfl
    (fun f fn hf hfn => by
      obtain rfl : f = 6 := Option.some.inj ((show Tryd.prog.funcNamed "coffer/cofferlaw02.HashDigits" = some 6 by kernel_rfl).symm.trans hf) |>.symm
      obtain rfl : fn = Tryd.f6 := (Option.some.inj (Tryd.func6.symm.trans hfn)).symm
      exact ⟨by kernel_rfl, fun j t ht => by
        rw [Tryd.params6] at ht
        have h3 : t = 22 ∨ t = 9 := by
          match j, ht with
          | 0, ht => have e : 22 = t := by simpa using ht
                     subst e; decide
          | 1, ht => have e : 9 = t := by simpa using ht
                     subst e; decide
          | j + 2, ht => exact absurd ht (by simp)
        rcases h3 with rfl | rfl
        all_goals (first | exact (show Tryd.prog.wantsStandIn 22 = false by kernel_rfl) | exact (show Tryd.prog.wantsStandIn 9 = false by kernel_rfl) | exact (show Tryd.prog.wantsStandIn 3 = false by kernel_rfl) | exact (show Tryd.prog.wantsStandIn 5 = false by kernel_rfl) | exact (show Tryd.prog.wantsStandIn 34 = false by kernel_rfl) | exact (show Tryd.prog.wantsStandIn 39 = false by kernel_rfl))⟩)
    (by kernel_rfl)
#print axioms hashDigits_holds
end Go.Proofs.YtjoaiagiankfdaaDoor
