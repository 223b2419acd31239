/- The reference: a block's step. -/
import Derived.Test.YtjoaiagiankfdaaDoorRConst
namespace Go.Proofs.YtjoaiagiankfdaaDoor
set_option linter.unusedVariables false
set_option linter.unusedSimpArgs false
open Go.RowKit
theorem lt_of_row2 {w : World} {g : Nat} {o : Obj} (h : w.heap[g]? = some o) : g < w.heap.size := by
  rcases Nat.lt_or_ge g w.heap.size with h2 | h2
  · exact h2
  · rw [Array.getElem?_eq_none h2] at h; exact absurd h (by simp)
theorem ad_comm (a b : BitVec 32) : Sha.ad a b = Sha.ad b a := BitVec.add_comm a b
theorem plus_comm (s r : Sha.S8) : Sha.plus s r = Sha.plus r s := by
  unfold Sha.plus; rw [ad_comm s.a, ad_comm s.b, ad_comm s.c, ad_comm s.d, ad_comm s.e, ad_comm s.f, ad_comm s.g, ad_comm s.h]
/-- The blocks that the step has made. -/
structure BR (w : World) (s r : Sha.S8) (F : Nat → BitVec 32) (X : Nat) (wr : World) : Prop where
  bel : Below w.heap.size w wr
  was : wr.heap[w.heap.size]? = some (.cells (words8 s) 49 (0, 0))
  kk : wr.heap[w.heap.size + 1]? = some (.cells (words64 Sha.kt) 54 (0, 0))
  res : wr.heap[w.heap.size + 1 + 1]? = some (.cells z8 49 (0, 0))
  v : wr.heap[w.heap.size + 1 + 1 + 1]? = some (.cells (words8 r) 49 (0, 0))
  ws : wr.heap[X]? = some (.cells (words64 F) 54 (0, 0))
theorem BR.drewN {w : World} {s r : Sha.S8} {F : Nat → BitVec 32} {X : Nat} {wr : World} (h : BR w s r F X wr) (n : Nat) : BR w s r F X (wr.drewN n) :=
  ⟨⟨h.bel.os, h.bel.tape, h.bel.output, h.bel.size, h.bel.block⟩, h.was, h.kk, h.res, h.v, h.ws⟩
theorem BR.next {w : World} {s r r' : Sha.S8} {F : Nat → BitVec 32} {X : Nat} {wr : World} (h : BR w s r F X wr) (hX : w.heap.size + 1 + 1 + 1 < X) : BR w s r' F X (wr.setRow (w.heap.size + 1 + 1 + 1) (words8 r')) :=
  ⟨below_setRow h.bel (by omega) _, by rw [setRow_other _ _ _ _ (by omega)]; exact h.was, by rw [setRow_other _ _ _ _ (by omega)]; exact h.kk, by rw [setRow_other _ _ _ _ (by omega)]; exact h.res, setRow_heap _ _ _ _ _ _ h.v, by rw [setRow_other _ _ _ _ (by omega)]; exact h.ws⟩
theorem r0_of {r : Sha.S8} {V : Nat} {wr : World} (h : wr.heap[V]? = some (.cells (words8 r) 49 (0, 0))) : (wr.cell? ⟨V, 0, none⟩ = some (.int .u32 (r.a.toNat : Int)) ∧ wr.cell? ⟨V, 1, none⟩ = some (.int .u32 (r.b.toNat : Int)) ∧ wr.cell? ⟨V, 2, none⟩ = some (.int .u32 (r.c.toNat : Int)) ∧ wr.cell? ⟨V, 3, none⟩ = some (.int .u32 (r.d.toNat : Int))) ∧ wr.cell? ⟨V, 4, none⟩ = some (.int .u32 (r.e.toNat : Int)) ∧ wr.cell? ⟨V, 5, none⟩ = some (.int .u32 (r.f.toNat : Int)) ∧ wr.cell? ⟨V, 6, none⟩ = some (.int .u32 (r.g.toNat : Int)) ∧ wr.cell? ⟨V, 7, none⟩ = some (.int .u32 (r.h.toNat : Int)) := by
  refine ⟨⟨?_, ?_, ?_, ?_⟩, ?_, ?_, ?_, ?_⟩ <;> rw [cell_of_row _ _ _ _ _ _ h] <;> rfl
attribute [local go_sem] xo_bv an_bv no_bv' ad_bv
attribute [local go_sem ↓] ld49 st49 ld54 st54
attribute [local go_sem ↓] Go.wp_at_zero Go.wp_at_succ
set_option maxHeartbeats 1000000 in
set_option maxRecDepth 8000 in
theorem block_any (s : Sha.S8) (f : Nat → UInt8) (b off cap : Nat) (w : World) (hb0 : b < w.heap.size) (hcap : 64 ≤ cap) (hbf : ∀ j, j < 64 → w.cell? ⟨b, off + j, none⟩ = some (.int .u8 ((f j).toNat : Int))) :
    Calls Tryd.prog 27 #[.agg (words8 s), .slice (some ⟨b, off, none⟩) 64 cap, .agg (words64 Sha.kt)] w fun e w' => e = .returned (.agg (words8 (Sha.comp s (Sha.wt f)))) ∧ Below w.heap.size w w' := by
  have hl : ∀ o2 o3, (ldS 49 (.pointer (some ⟨w.heap.size, 0, none⟩))).run Tryd.prog (((w.alloc (.cells (words8 s) 49)).alloc o2).alloc o3) = .ok (.agg (words8 s)) (((w.alloc (.cells (words8 s) 49)).alloc o2).alloc o3) := fun o2 o3 =>
    ldRow (by rw [heap_alloc_old _ _ (by simp; omega), heap_alloc_old _ _ (by simp), heap_alloc_new]) Tryd.underlying49 info49
  have hs : ∀ o1 o2 o3, (stS 49 (.pointer (some ⟨w.heap.size + 1 + 1 + 1, 0, none⟩)) (.agg (words8 s))).run Tryd.prog ((((w.alloc o1).alloc o2).alloc o3).alloc (.cells z8 49)) = .ok () ((((w.alloc o1).alloc o2).alloc o3).alloc (.cells (words8 s) 49)) := fun o1 o2 o3 => by
    have h0 := heap_alloc_new (((w.alloc o1).alloc o2).alloc o3) (.cells z8 49)
    have e : (((w.alloc o1).alloc o2).alloc o3).heap.size = w.heap.size + 1 + 1 + 1 := by simp
    rw [e] at h0
    rw [stRow (A := words8 s) h0 info49 rfl (words8_one s)]
    have := new_row (((w.alloc o1).alloc o2).alloc o3) z8 (words8 s) 49
    rw [e] at this
    rw [this]
  go_enter Tryd.func27, Tryd.ntmps27
  go_wp2_with fail
  clear hl hs
  obtain ⟨W1, e1, b1, r0, r1, r2, r3⟩ : ∃ W1, W1 = (((w.alloc (.cells (words8 s) 49)).alloc (.cells (words64 Sha.kt) 54)).alloc (.cells z8 49)).alloc (.cells (words8 s) 49) ∧ Below w.heap.size w W1 ∧ W1.heap[w.heap.size]? = some (.cells (words8 s) 49 (0, 0)) ∧ W1.heap[w.heap.size + 1]? = some (.cells (words64 Sha.kt) 54 (0, 0)) ∧ W1.heap[w.heap.size + 1 + 1]? = some (.cells z8 49 (0, 0)) ∧ W1.heap[w.heap.size + 1 + 1 + 1]? = some (.cells (words8 s) 49 (0, 0)) := by
    refine ⟨_, rfl, ((((Below.refl _ _).alloc (Nat.le_refl _) _).alloc (by simp) _).alloc (by simp; omega) _).alloc (by simp; omega) _, ?_, ?_, ?_, ?_⟩
    · rw [heap_alloc_old _ _ (by simp; omega), heap_alloc_old _ _ (by simp; omega), heap_alloc_old _ _ (by simp), heap_alloc_new]
    · rw [heap_alloc_old _ _ (by simp), heap_alloc_old _ _ (by simp), heap_alloc2_new]
    · rw [heap_alloc_old _ _ (by simp)]
      have := heap_alloc_new ((w.alloc (.cells (words8 s) 49)).alloc (.cells (words64 Sha.kt) 54)) (.cells z8 49)
      simpa using this
    · have := heap_alloc_new (((w.alloc (.cells (words8 s) 49)).alloc (.cells (words64 Sha.kt) 54)).alloc (.cells z8 49)) (.cells (words8 s) 49)
      simpa using this
  rw [← e1]
  clear e1
  refine (words_any f b off cap W1 (by have := b1.size; omega) hcap (fun j hj => by rw [b1.cell (p := ⟨b, off + j, none⟩) hb0]; exact hbf j hj)).mono ?_
  rintro e w2 ⟨rfl, b2⟩
  obtain ⟨X, hX⟩ : ∃ X, X = w2.heap.size := ⟨_, rfl⟩
  have hst : (stS 54 (.pointer (some ⟨w2.heap.size, 0, none⟩)) (.agg (words64 (Sha.wt f)))).run Tryd.prog (w2.alloc (.cells z64w 54)) = .ok () (w2.alloc (.cells (words64 (Sha.wt f)) 54)) := by
    rw [stRow (heap_alloc_new _ _) (info54w _) (by rw [words64_size]; rfl) (words64_one _), new_row]
  have hX3 : w.heap.size + 1 + 1 + 1 < X := by rw [hX]; have := lt_of_row2 r3; have := b2.size; omega
  have R : BR w s s (Sha.wt f) X (w2.alloc (.cells (words64 (Sha.wt f)) 54)) := by
    have b3 : Below w2.heap.size w2 (w2.alloc (.cells (words64 (Sha.wt f)) 54)) := (Below.refl _ _).alloc (Nat.le_refl _) _
    have b12 : Below w.heap.size w w2 := b1.trans (b2.mono b1.size)
    exact ⟨b12.trans (b3.mono b12.size), carry (carry r0 b2) b3, carry (carry r1 b2) b3, carry (carry r2 b2) b3, carry (carry r3 b2) b3, by rw [hX]; exact heap_alloc_new _ _⟩
  go_wp2_with fail
  clear hst r0 r1 r2 r3 b1
  rw [← hX]
  generalize (w2.alloc (.cells (words64 (Sha.wt f)) 54)) = W3 at *
  clear hX b2
  generalize hF : Sha.wt f = F at *
  have HF : Hid (Sha.wt f = F) := hF
  clear hF
  generalize hB : w.heap.size = B at *
  go_loopw [9] (fun i wr => ∃ k : Nat, k ≤ 64 ∧ i = .int .i64 k ∧ BR w s (Sha.rounds F s k) F X wr) (fun i _ => 64 - (intOf i).toNat)
  case atStart => exact ⟨0, by omega, rfl, R⟩
  case round =>
    clear R
    obtain ⟨k, hk, rfl, R⟩ := hrel
    by_cases hlt : k < 64
    · have hd : decide ((k : Int) < 64) = true := decide_eq_true (by omega)
      have i0 : (0 : Int) ≤ (k : Int) := by omega
      have i1 : (k : Int) < 64 := by omega
      have hv := R.v
      have hkk := R.kk
      have hws := R.ws
      rw [hB] at hv hkk
      generalize hr : Sha.rounds F s k = r at *
      have HR : Hid (Sha.rounds F s (k + 1) = Sha.rnd r (Sha.kt k) (F k)) := by show Sha.rounds F s (k+1) = _; rw [Sha.rounds, hr]
      clear hr
      obtain ⟨⟨c0, c1, c2, c3⟩, c4, c5, c6, c7⟩ := r0_of hv
      have ck : wr.cell? ⟨B + 1, k, none⟩ = some (.int .u32 ((Sha.kt k).toNat : Int)) := by rw [cell_of_row _ _ _ _ _ _ hkk, words64_get _ k hlt]
      have cw : wr.cell? ⟨X, k, none⟩ = some (.int .u32 ((F k).toNat : Int)) := by rw [cell_of_row _ _ _ _ _ _ hws, words64_get _ k hlt]
      have hst : ∀ q0 q1 q2 q3 q4 q5 q6 q7 : Int, ∀ nq, (stS 49 (.pointer (some ⟨B + 1 + 1 + 1, 0, none⟩)) (.agg #[.int .u32 q0, .int .u32 q1, .int .u32 q2, .int .u32 q3, .int .u32 q4, .int .u32 q5, .int .u32 q6, .int .u32 q7])).run Tryd.prog (wr.drewN nq) = .ok () ((wr.drewN nq).setRow (B + 1 + 1 + 1) #[.int .u32 q0, .int .u32 q1, .int .u32 q2, .int .u32 q3, .int .u32 q4, .int .u32 q5, .int .u32 q6, .int .u32 q7]) := fun q0 q1 q2 q3 q4 q5 q6 q7 nq =>
        stRow (w := wr.drewN nq) hv info49 rfl (by simp [Value.oneCell'])
      clear hv hkk hws
      go_wp2_with (go_at_call 32; refine (rightI _ _ (by decide) (by decide) _).mono ?_; rintro e w' ⟨rfl, hw'⟩; rw [hw']; clear hw')
      go_quiet (fail)
      go_wp2_with fail
      go_round
      case rel =>
        refine ⟨k + 1, by omega, by go_num, ?_⟩
        rw [HR.out]
        have := (R.drewN nq).next (r' := Sha.rnd r (Sha.kt k) (F k)) (by omega)
        rw [hB] at this
        exact this
      case measure => simp [intOf]; omega
    · obtain rfl : k = 64 := by omega
      have hd : decide ((64 : Int) < 64) = false := by decide
      have HC : Hid (Sha.comp s F = Sha.plus (Sha.rounds F s 64) s) := by show _ = _; rw [Sha.comp, plus_comm]
      generalize Sha.rounds F s 64 = r at *
      have bel := R.bel
      have hwas := R.was
      have hres := R.res
      have hv : wr.heap[w.heap.size + 1 + 1 + 1]? = some (.cells (mix r s 0) 49 (0, 0)) := R.v
      rw [hB] at bel hwas hres hv
      clear R
      go_wp2_with fail
      go_loopw [18] (fun i wr => ∃ k : Nat, k ≤ 8 ∧ i = .int .i64 k ∧ Below B w wr ∧ wr.heap[B]? = some (.cells (words8 s) 49 (0, 0)) ∧ wr.heap[B + 1 + 1]? = some (.cells z8 49 (0, 0)) ∧ wr.heap[B + 1 + 1 + 1]? = some (.cells (mix r s k) 49 (0, 0))) (fun i _ => 8 - (intOf i).toNat)
      case atStart => exact ⟨0, by omega, rfl, bel, hwas, hres, hv⟩
      case round =>
        clear bel hwas hres hv
        obtain ⟨k, hk, rfl, bel, hwas, hres, hv⟩ := hrel
        by_cases hlt2 : k < 8
        · have c0 : wr.cell? ⟨B + 1 + 1 + 1, k, none⟩ = some (.int .u32 ((Sha.word r k).toNat : Int)) := by rw [cell_of_row _ _ _ _ _ _ hv, mix_get r s k hlt2]
          have c1 : wr.cell? ⟨B, k, none⟩ = some (.int .u32 ((Sha.word s k).toNat : Int)) := by rw [cell_of_row _ _ _ _ _ _ hwas, words8_get s k hlt2]
          have f0 : wr.frozen? ⟨B + 1 + 1 + 1, k, none⟩ = false := frozen_of_row _ _ _ _ _ hv
          have i0 : (0 : Int) ≤ (k : Int) := by omega
          have i1 : (k : Int) < 8 := by omega
          have hd2 : decide ((k : Int) < 8) = true := decide_eq_true (by omega)
          have HM : Hid _ := mix_succ r s k hlt2
          have hbB : B ≠ B + 1 + 1 + 1 := by omega
          go_wp2_with fail
          go_region
          go_wp2_with fail
          go_round
          case rel =>
            refine ⟨k + 1, by omega, by go_num, (bel.setCell (by show B ≤ B + 1 + 1 + 1; omega) _).drew, ?_, ?_, ?_⟩
            · rw [heap_drew, Below.heap_setCell _ _ _ _ (by show B ≠ B + 1 + 1 + 1; omega), hwas]
            · rw [heap_drew, Below.heap_setCell _ _ _ _ (by show B + 1 + 1 ≠ B + 1 + 1 + 1; omega), hres]
            · rw [heap_drew, cell_set _ _ _ _ _ _ hv, HM.out]
          case measure => simp [intOf]; omega
        · obtain rfl : k = 8 := by omega
          have hd2 : decide ((8 : Int) < 8) = false := by decide
          have e8 : Hid (mix r s 8 = words8 (Sha.comp s F)) := by show _ = _; rw [HC.out]; rfl
          generalize mix r s 8 = A at *
          have hs : A.size = 8 := by rw [e8.out]; rfl
          have h1 : A.all (·.oneCell') = true := by rw [e8.out]; exact words8_one _
          have hi : (Tryd.prog.info? 49).map (·.size) = some A.size := by rw [hs]; exact info49
          have hz : z8.size = A.size := hs.symm
          have ll := ldRow hv Tryd.underlying49 hi
          have ss := stRow hres hi hz h1
          go_wp2_with fail
          refine bodyPost_ret (v := .agg A) (results_cell_row Tryd.results27 _ _ (B + 1 + 1) 49 A (0, 0) _ rfl (setRow_heap _ _ _ _ _ _ hres) Tryd.underlying49 rfl hi) rfl ⟨by rw [e8.out, HF.out], ?_⟩
          subst hB
          exact below_setRow bel (by omega) _
end Go.Proofs.YtjoaiagiankfdaaDoor
