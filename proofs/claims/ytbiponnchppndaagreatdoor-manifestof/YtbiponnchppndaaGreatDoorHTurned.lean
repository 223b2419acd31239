import Derived.Test.YtbiponnchppndaaGreatDoorGa
namespace Go.Proofs.YtbiponnchppndaaGreatDoorH
set_option maxRecDepth 100000
set_option linter.unusedVariables false
set_option linter.unusedSimpArgs false
open Go.RowKit
def TW (w : World) (s : Sha.S8) (f : Nat → BitVec 32) (wr : World) : Prop :=
  Below w.heap.size w wr ∧ wr.heap[w.heap.size]? = some (.cells (words8 s) 136 (0, 0)) ∧ wr.heap[w.heap.size + 1]? = some (.cells (words64 f) 140 (0, 0)) ∧ wr.heap[w.heap.size + 1 + 1]? = some (.cells zero8 136 (0, 0))
attribute [local go_sem] xo_bv an_bv no_bv' ad_bv
set_option maxHeartbeats 400000 in
set_option maxRecDepth 8000 in
theorem turned_any (s : Sha.S8) (f : Nat → BitVec 32) (w : World) (hK : KIn w) :
    Calls Tryz.prog 82 #[.agg (words8 s), .agg (words64 f)] w fun e w' => e = .returned (.agg (words8 (Sha.comp s f))) ∧ Below w.heap.size w w' := by
  go_enter Tryz.func82, Tryz.ntmps82
  go_wp2_with fail
  have hT : TW w s f (((w.alloc (Obj.cells (words8 s) 136)).alloc (Obj.cells (words64 f) 140)).alloc (Obj.cells zero8 136)) := by
    refine ⟨(((Below.refl _ _).alloc (Nat.le_refl _) _).alloc (by simp) _).alloc (by simp; omega) _, ?_, ?_, ?_⟩
    · rw [heap_alloc_old _ _ (by simp; omega), heap_alloc_old _ _ (by simp), heap_alloc_new]
    · rw [heap_alloc_old _ _ (by simp), heap_alloc2_new]
    · have := heap_alloc_new ((w.alloc (Obj.cells (words8 s) 136)).alloc (Obj.cells (words64 f) 140)) (Obj.cells zero8 136)
      simpa using this
  unfold zero8 at hT
  generalize hB : w.heap.size = B at *
  generalize (((w.alloc (Obj.cells (words8 s) 136)).alloc (Obj.cells (words64 f) 140)).alloc _) = W at *
  have hc : ∀ (wr : World), TW w s f wr → (wr.cell? ⟨B, 0, none⟩ = some (.int .u32 (s.a.toNat : Int)) ∧ wr.cell? ⟨B, 1, none⟩ = some (.int .u32 (s.b.toNat : Int)) ∧ wr.cell? ⟨B, 2, none⟩ = some (.int .u32 (s.c.toNat : Int)) ∧ wr.cell? ⟨B, 3, none⟩ = some (.int .u32 (s.d.toNat : Int))) ∧ wr.cell? ⟨B, 4, none⟩ = some (.int .u32 (s.e.toNat : Int)) ∧ wr.cell? ⟨B, 5, none⟩ = some (.int .u32 (s.f.toNat : Int)) ∧ wr.cell? ⟨B, 6, none⟩ = some (.int .u32 (s.g.toNat : Int)) ∧ wr.cell? ⟨B, 7, none⟩ = some (.int .u32 (s.h.toNat : Int)) := by
    intro wr h
    have h2 := h.2.1
    rw [hB] at h2
    refine ⟨⟨?_, ?_, ?_, ?_⟩, ?_, ?_, ?_, ?_⟩ <;> rw [cell_of_row _ _ _ _ _ _ h2] <;> rfl
  obtain ⟨⟨c0, c1, c2, c3⟩, c4, c5, c6, c7⟩ := hc W hT
  clear hc
  go_quiet (fail)
  go_wp2_with fail
  clear c0 c1 c2 c3 c4 c5 c6 c7
  have hT' : TW w s f (W.drewN nq) := ⟨⟨hT.1.os, hT.1.tape, hT.1.output, hT.1.size, hT.1.block⟩, hT.2⟩
  clear hT
  generalize W.drewN nq = W at *
  go_loopw [5, 6, 7, 8, 9, 10, 11, 12, 34] (fun a b c d e f' g h i wr => ∃ k : Nat, k ≤ 64 ∧ i = .int .i64 k ∧ TW w s f wr ∧ a = .int .u32 ((Sha.rounds f s k).a.toNat : Int) ∧ b = .int .u32 ((Sha.rounds f s k).b.toNat : Int) ∧ c = .int .u32 ((Sha.rounds f s k).c.toNat : Int) ∧ d = .int .u32 ((Sha.rounds f s k).d.toNat : Int) ∧ e = .int .u32 ((Sha.rounds f s k).e.toNat : Int) ∧ f' = .int .u32 ((Sha.rounds f s k).f.toNat : Int) ∧ g = .int .u32 ((Sha.rounds f s k).g.toNat : Int) ∧ h = .int .u32 ((Sha.rounds f s k).h.toNat : Int)) (fun _ _ _ _ _ _ _ _ i _ => 64 - (intOf i).toNat)
  case atStart => exact ⟨0, by omega, rfl, hT', rfl, rfl, rfl, rfl, rfl, rfl, rfl, rfl⟩
  case round =>
    obtain ⟨k, hk, rfl, hT, rfl, rfl, rfl, rfl, rfl, rfl, rfl, rfl⟩ := hrel
    by_cases hlt : k < 64
    · have hd : decide ((k : Int) < 64) = true := by simp; omega
      have ck : wr.cell? ⟨0, k, none⟩ = some (.int .u32 ((Sha.kt k).toNat : Int)) := (hK.below hT.1 hK.lt) k hlt
      have cw : wr.cell? ⟨B + 1, k, none⟩ = some (.int .u32 ((f k).toNat : Int)) := by
        have h3 := hT.2.2.1
        rw [hB] at h3
        rw [cell_of_row _ _ _ _ _ _ h3, words64_get f k hlt]
      generalize hr : Sha.rounds f s k = r at *
      have HR : Hid (Sha.rounds f s (k + 1) = Sha.rnd r (Sha.kt k) (f k)) := by show Sha.rounds f s (k+1) = _; rw [Sha.rounds, hr]
      have i0 : (0 : Int) ≤ (k : Int) := by omega
      have i1 : (k : Int) < 64 := by omega
      clear hr
      go_wp2_with fail
      go_quiet ((go_at_call 115; exact Calls.quiet_of_same (rotI _ _ (by decide) (by decide) _)))
      go_wp2_with (go_at_call 115; refine (rotI _ _ (by decide) (by decide) _).mono ?_; rintro e w' ⟨rfl, rfl⟩)
      go_round
      case rel =>
        refine ⟨k + 1, by omega, by go_num, ⟨⟨hT.1.os, hT.1.tape, hT.1.output, hT.1.size, hT.1.block⟩, hT.2⟩, ?_⟩
        rw [HR.out]
        exact ⟨rfl, rfl, rfl, rfl, rfl, rfl, rfl, rfl⟩
      case measure => simp [intOf]; omega
    · obtain rfl : k = 64 := by omega
      go_wp2_with fail
      have hb := hT.1
      have h2 : wr.heap[B]? = some (.cells (mix s (Sha.rounds f s 64) 0) 136 (0, 0)) := by rw [← hB]; exact hT.2.1
      have h4 : wr.heap[B + 1 + 1]? = some (.cells zero8 136 (0, 0)) := by rw [← hB]; exact hT.2.2.2
      have HC : Hid (Sha.comp s f = Sha.plus s (Sha.rounds f s 64)) := rfl
      clear hT hT' hK
      generalize Sha.rounds f s 64 = r at *
      go_loopw [106] (fun i wr => ∃ k : Nat, k ≤ 8 ∧ i = .int .i64 k ∧ Below w.heap.size w wr ∧ wr.heap[B]? = some (.cells (mix s r k) 136 (0, 0)) ∧ wr.heap[B + 1 + 1]? = some (.cells zero8 136 (0, 0))) (fun i _ => 8 - (intOf i).toNat)
      case atStart => exact ⟨0, by omega, rfl, hb, h2, h4⟩
      case round =>
        clear hb h2 h4
        obtain ⟨k, hk, rfl, hb, h2, h4⟩ := hrel
        by_cases hlt : k < 8
        · have c0 : wr.cell? ⟨B, k, none⟩ = some (.int .u32 ((Sha.word s k).toNat : Int)) := by rw [cell_of_row _ _ _ _ _ _ h2, mix_get s r k hlt]
          have f0 : wr.frozen? ⟨B, k, none⟩ = false := frozen_of_row _ _ _ _ _ h2
          have i0 : (0 : Int) ≤ (k : Int) := by omega
          have i1 : (k : Int) < 8 := by omega
          have hd : decide ((k : Int) < 8) = true := by simp; omega
          have hx : ∀ w, (Instr.index 136 (.agg #[.int .u32 (r.a.toNat : Int), .int .u32 (r.b.toNat : Int), .int .u32 (r.c.toNat : Int), .int .u32 (r.d.toNat : Int), .int .u32 (r.e.toNat : Int), .int .u32 (r.f.toNat : Int), .int .u32 (r.g.toNat : Int), .int .u32 (r.h.toNat : Int)]) (.int .i64 (k : Int))).run Tryz.prog w = .ok (.int .u32 ((Sha.word r k).toNat : Int)) w := fun w => idx49 _ k hlt _ (words8_get r k hlt) w
          have HM : Hid _ := mix_succ s r k hlt
          go_wp2_with fail
          go_round
          case rel => 
            refine ⟨k + 1, by omega, by go_num, hb.setCell (by show w.heap.size ≤ B; omega) _, ?_, ?_⟩
            · rw [cell_set _ _ _ _ _ _ h2, HM.out]
            · rw [Below.heap_setCell _ _ _ _ (by show B + 1 + 1 ≠ B; omega), h4]
          case measure => simp [intOf]; omega
        · obtain rfl : k = 8 := by omega
          have e8 : Hid (mix s r 8 = words8 (Sha.comp s f)) := by show _ = _; rw [HC.out]; rfl
          have hd : decide ((8 : Int) < 8) = false := by decide
          generalize mix s r 8 = A at *
          have hs : A.size = 8 := by rw [e8.out]; rfl
          have h1 : A.all (·.oneCell') = true := by rw [e8.out]; simp [words8, Value.oneCell']
          have hi : (Tryz.prog.info? 136).map (·.size) = some A.size := by rw [hs]; exact info49
          have hz : zero8.size = A.size := hs.symm
          go_wp2_with (first
            | (refine wpList_load_row rfl 136 _ rfl _ rfl 136 _ (0, 0) _ h2 Tryz.underlying136 rfl hi ?_)
            | (refine wpList_store_row rfl 136 _ _ rfl _ _ rfl rfl 136 _ h4 hi hz h1 ?_))
          refine bodyPost_ret (v := .agg A) (results_cell_row Tryz.results82 _ _ (B + 1 + 1) 136 A (0, 0) _ rfl (setRow_heap _ _ _ _ _ _ h4) Tryz.underlying136 rfl hi) rfl ⟨by rw [e8.out], below_setRow hb (by omega) _⟩
end Go.Proofs.YtbiponnchppndaaGreatDoorH
