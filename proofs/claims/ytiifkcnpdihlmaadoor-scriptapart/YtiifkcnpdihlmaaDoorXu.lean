/- Layer 22: the shape of a command's line. -/
import Derived.Test.YtiifkcnpdihlmaaDoorXs
namespace Go.Proofs.YtiifkcnpdihlmaaDoor
set_option maxRecDepth 100000
set_option linter.unusedVariables false
set_option linter.unusedSimpArgs false
open Go.RowKit
attribute [local go_sem ↓] Go.wp_at_zero Go.wp_at_succ
/-- a command's cells -/
abbrev ccs (c : Cm) (ma : Option Addr) (mc : Nat) (ka : Option Addr) (kc : Nat) : Array Value := #[.int .i64 c.kind, .int .i64 c.sectors, .int .i64 c.size, .int .i64 c.st.kind, str c.st.bucket, str c.st.key, str c.st.data, .slice ma c.st.mt.length mc, .int .i64 c.st.seq, .int .i64 c.st.n, .slice ka c.st.kept.length kc, str c.bucket]
abbrev cV (c : Cm) (ma : Option Addr) (mc : Nat) (ka : Option Addr) (kc : Nat) : Value := .agg (ccs c ma mc ka kc)
def Bc (w : World) (g : Nat) (c : Cm) (ma : Option Addr) (mc : Nat) (ka : Option Addr) (kc : Nat) : Prop := w.heap[g]? = some (.cells (ccs c ma mc ka kc) 34 (0, 0))
theorem Bc.kinds {w : World} {g : Nat} {c : Cm} {ma : Option Addr} {mc : Nat} {ka : Option Addr} {kc : Nat} (h : Bc w g c ma mc ka kc) : w.cell? ⟨g, 0, none⟩ = some (.int .i64 c.kind) ∧ w.cell? ⟨g, 3, none⟩ = some (.int .i64 c.st.kind) := by
  refine ⟨?_, ?_⟩ <;> (rw [cell_of_row _ _ _ _ _ _ h]; rfl)
attribute [local go_sem ↓] ldAe ixAe
set_option maxHeartbeats 1000000 in
theorem shapeOf_any (c : Cm) (ma : Option Addr) (mc : Nat) (ka : Option Addr) (kc : Nat) (w : World) (hS : SG w) : Calls Tryd.prog 29 #[cV c ma mc ka kc] w fun e w' => e = .returned (.tuple #[shV ((shpOf c).getD sh0), .bool (shpOf c).isSome]) ∧ Below w.heap.size w w' := by
  obtain ⟨wc, hwc⟩ : ∃ wc, wc = w.alloc (.cells (ccs c ma mc ka kc) 34) := ⟨_, rfl⟩
  have bc : Below w.heap.size w wc := by rw [hwc]; exact (Below.refl _ _).alloc (Nat.le_refl _) _
  have yc : Bc wc w.heap.size c ma mc ka kc := by rw [hwc]; exact heap_alloc_new _ _
  have hsz : wc.heap.size = w.heap.size + 1 := by rw [hwc]; simp
  have b1 := (Below.refl wc.heap.size wc).alloc (Nat.le_refl _) (.cells #[.string ⟨#[]⟩, .int .i64 0, .int .i64 0, .string ⟨#[]⟩] 66)
  have z0 : Bs4 (wc.alloc (.cells #[.string ⟨#[]⟩, .int .i64 0, .int .i64 0, .string ⟨#[]⟩] 66)) wc.heap.size sh0 := heap_alloc_new _ _
  have b0 := below_seq bc b1
  have y0 : Bc (wc.alloc (.cells #[.string ⟨#[]⟩, .int .i64 0, .int .i64 0, .string ⟨#[]⟩] 66)) w.heap.size c ma mc ka kc := by
    unfold Bc
    rw [b1.block _ (lt_of_block yc)]; exact yc
  rw [hsz] at z0
  have hl := run_ldA (hS.below b0)
  subst hwc
  clear bc yc hsz b1
  go_enter Tryd.func29, Tryd.ntmps29
  go_wp2_with fail
  go_loopw [7] (fun i wr => ∃ k : Nat, i = .int .i64 k ∧ k ≤ 22 ∧ Hid (Below w.heap.size w wr) ∧ Hid (Bs4 wr (w.heap.size + 1) sh0) ∧ Hid (Bc wr w.heap.size c ma mc ka kc) ∧ Hid (∀ j, j < k → isOf c (shAt j) = false)) (fun i _ => 22 - (intOf i).toNat)
  case atStart => exact ⟨0, rfl, by omega, ⟨b0⟩, ⟨z0⟩, ⟨y0⟩, ⟨fun j hj => by omega⟩⟩
  case round =>
    clear b0 z0 y0 hl
    obtain ⟨k, rfl, hk, HB, HZ, HY, HN⟩ := hrel
    by_cases hlt : k < 22
    · have d1 : decide ((k : Int) < 22) = true := decide_eq_true (by omega)
      have hix := run_ixA k hlt
      have HNX : Hid (isOf c (shAt k) = false → ∀ j, j < k + 1 → isOf c (shAt j) = false) := ⟨fun q j hj => by
        by_cases e : j = k
        · rw [e]; exact q
        · exact HN.out j (by omega)⟩
      have HVX : Hid (isOf c (shAt k) = true → shpOf c = some (shAt k)) := ⟨fun q => find_yes hlt q HN.out⟩
      generalize shAt k = t at *
      obtain ⟨wa, hwa⟩ : ∃ wa, wa = wr.alloc (.cells #[str t.name, .int .i64 t.kind, .int .i64 t.step, str t.parts] 66) := ⟨_, rfl⟩
      have ba : Below wr.heap.size wr wa := by rw [hwa]; exact (Below.refl _ _).alloc (Nat.le_refl _) _
      have ya : Bs4 wa wr.heap.size t := by rw [hwa]; exact heap_alloc_new _ _
      have za : Bs4 wa (w.heap.size + 1) sh0 := by
        unfold Bs4
        rw [ba.block _ (lt_of_block HZ.out)]; exact HZ.out
      have xa : Bc wa w.heap.size c ma mc ka kc := by
        unfold Bc
        rw [ba.block _ (lt_of_block HY.out)]; exact HY.out
      obtain ⟨r0, r3⟩ := xa.kinds
      have Ba := Hid.mk (below_seq HB.out ba)
      obtain ⟨p0, p1, p2, p3, pf⟩ := ya.cells
      obtain ⟨q0, q1, q2, q3, qf⟩ := za.cells
      cases hA : (t.kind == c.kind) with
      | false =>
        have hq : isOf c t = false := by unfold isOf; rw [hA]; rfl
        have HN2 := Hid.mk (HNX.out hq)
        have HZa := Hid.mk za
        have HYa := Hid.mk xa
        clear HNX HVX pf qf ya za ba xa hq q0 q1 q2 q3
        subst hwa
        go_wp2_with fail
        go_roundw
        case rel => exact ⟨k + 1, rfl, by omega, Ba, HZa, HYa, HN2⟩
        case measure => simp [intOf]; omega
      | true =>
        cases hB : (t.kind == 2) with
        | false =>
          have hq : isOf c t = true := by unfold isOf; rw [hA, bne, hB]; rfl
          have hB2 : (t.kind != 2) = true := by rw [bne, hB]; rfl
          have HV := Hid.mk (HVX.out hq)
          have HS := Hid.mk (za.s4 t)
          have HBB := Hid.mk (below_s4 Ba.out (Nat.le_succ _) t)
          have f0 := qf 0
          have f1 := qf 1
          have f2 := qf 2
          have f3 := qf 3
          have hne : ¬ wr.heap.size = w.heap.size + 1 := by have := lt_of_block HZ.out; omega
          clear HNX HVX pf qf ya za ba xa hq
          subst hwa
          go_wp2_with fail
          first | rw [s4_eq _ (w.heap.size + 1) t] | skip
          obtain ⟨g0, g1, g2, g3, _⟩ := HS.out.cells
          clear q0 q1 q2 q3 p0 p1 p2 p3 f0 f1 f2 f3
          generalize s4 (wr.alloc (.cells #[str t.name, .int .i64 t.kind, .int .i64 t.step, str t.parts] 66)) (w.heap.size + 1) t = W9 at *
          refine bodyPost_ret (v := .tuple #[shV t, .bool true]) ?_ rfl ⟨by rw [HV.out]; rfl, HBB.out⟩
          rw [results_ct rfl]
          go_simp

        | true =>
          have hB2 : (t.kind != 2) = false := by rw [bne, hB]; rfl
          cases hC : (t.step == c.st.kind) with
          | false =>
            have hq : isOf c t = false := by unfold isOf; rw [hA, hB2, hC]; rfl
            have HN2 := Hid.mk (HNX.out hq)
            have HZa := Hid.mk za
            have HYa := Hid.mk xa
            clear HNX HVX pf qf ya za ba xa hq q0 q1 q2 q3
            subst hwa
            go_wp2_with fail
            go_roundw
            case rel => exact ⟨k + 1, rfl, by omega, Ba, HZa, HYa, HN2⟩
            case measure => simp [intOf]; omega

          | true =>
            have hq : isOf c t = true := by unfold isOf; rw [hA, hB2, hC]; rfl
            have HV := Hid.mk (HVX.out hq)
            have HS := Hid.mk (za.s4 t)
            have HBB := Hid.mk (below_s4 Ba.out (Nat.le_succ _) t)
            have f0 := qf 0
            have f1 := qf 1
            have f2 := qf 2
            have f3 := qf 3
            have hne : ¬ wr.heap.size = w.heap.size + 1 := by have := lt_of_block HZ.out; omega
            clear HNX HVX pf qf ya za ba xa hq
            subst hwa
            go_wp2_with fail
            first | rw [s4_eq _ (w.heap.size + 1) t] | skip
            obtain ⟨g0, g1, g2, g3, _⟩ := HS.out.cells
            clear q0 q1 q2 q3 p0 p1 p2 p3 f0 f1 f2 f3
            generalize s4 (wr.alloc (.cells #[str t.name, .int .i64 t.kind, .int .i64 t.step, str t.parts] 66)) (w.heap.size + 1) t = W9 at *
            refine bodyPost_ret (v := .tuple #[shV t, .bool true]) ?_ rfl ⟨by rw [HV.out]; rfl, HBB.out⟩
            rw [results_ct rfl]
            go_simp

    · have d1 : decide ((k : Int) < 22) = false := decide_eq_false (by omega)
      have HV : Hid (shpOf c = none) := ⟨find_no fun j hj => HN.out j (by omega)⟩
      obtain ⟨q0, q1, q2, q3, qf⟩ := HZ.out.cells
      have HS := Hid.mk (HZ.out.s4 sh0)
      have HBB := Hid.mk (below_s4 HB.out (Nat.le_succ _) sh0)
      have f0 := qf 0
      have f1 := qf 1
      have f2 := qf 2
      have f3 := qf 3
      go_wp2_with fail
      first | rw [s4_eq wr (w.heap.size + 1) sh0] | skip
      obtain ⟨g0, g1, g2, g3, _⟩ := HS.out.cells
      generalize s4 wr (w.heap.size + 1) sh0 = W9 at *
      refine bodyPost_ret (v := .tuple #[shV sh0, .bool false]) ?_ rfl ⟨by rw [HV.out]; rfl, HBB.out⟩
      rw [results_ct rfl]
      go_simp
end Go.Proofs.YtiifkcnpdihlmaaDoor
