/- The reference: the turn to the right, and the 64 numbers of a block. -/
import Derived.Test.YtbiponnchppndaaGreatDoorGb
namespace Go.Proofs.YtbiponnchppndaaGreatDoorH
set_option maxRecDepth 100000
set_option linter.unusedVariables false
set_option linter.unusedSimpArgs false
open Go.RowKit
theorem or_comm_bits (a b : Nat) (ha : a < 4294967296) (hb : b < 4294967296) : bits BinOp.or IntKind.u32 (a : Int) (b : Int) = bits BinOp.or IntKind.u32 (b : Int) (a : Int) := by
  rw [u32_or_nat _ _ ha hb, u32_or_nat _ _ hb ha, Nat.or_comm]
theorem rr_bv2 (x : BitVec 32) (k n : Nat) (hn : n ≤ 32) (hk : k = 32 - n) : bits BinOp.or IntKind.u32 ((x.toNat : Int) / 2 ^ n) ((x.toNat : Int) * 2 ^ k % 4294967296) = ((Sha.rr x n).toNat : Int) := by
  rw [← rr_bv x k n hn hk]
  have e1 : ((x.toNat : Int) * 2 ^ k % 4294967296) = ((x.toNat * 2 ^ k % 4294967296 : Nat) : Int) := by rw [Int.natCast_emod, Int.natCast_mul, Int.natCast_pow]; rfl
  have e2 : ((x.toNat : Int) / 2 ^ n) = ((x.toNat / 2 ^ n : Nat) : Int) := by rw [Int.natCast_ediv, Int.natCast_pow]; rfl
  rw [e1, e2]
  exact or_comm_bits _ _ (Nat.lt_of_le_of_lt (Nat.div_le_self _ _) (bv_lt x)) (Nat.mod_lt _ (by decide))
set_option maxHeartbeats 400000 in
theorem right_any (x : BitVec 32) (n : Nat) (h0 : 0 < n) (h : n < 32) (w : World) :
    Calls Tryz.prog 147 #[.int .u32 (x.toNat : Int), .int .u64 (n : Int)] w fun e w' => e = .returned (.int .u32 ((Sha.rr x n).toNat : Int)) ∧ w' = w := by
  obtain ⟨k, hk, hw⟩ : ∃ k : Nat, k = 32 - n ∧ IntKind.u64.wrap (32 - (n : Int)) = (k : Int) := ⟨32 - n, rfl, by rw [IntKind.wrap_u64]; omega⟩
  have hk2 : (32 : Int) - (n : Int) = (k : Int) := by omega
  have HK : Hid (k = 32 - n) := hk
  have hk3 : k < 32 := by omega
  clear hk
  go_enter Tryz.func147, Tryz.ntmps147
  go_wp2
  go_ret
  refine ⟨?_, rfl⟩
  exact congrArg (fun z => Ending.returned (.int .u32 z)) (rr_bv2 x k n (by omega) HK.out)
theorem rightI (x : BitVec 32) (i : Int) (h0 : 0 < i) (h : i < 32) (w : World) :
    Calls Tryz.prog 147 #[.int .u32 (x.toNat : Int), .int .u64 i] w fun e w' => e = .returned (.int .u32 ((Sha.rr x i.toNat).toNat : Int)) ∧ w' = w := by
  obtain ⟨n, rfl⟩ : ∃ n : Nat, i = (n : Int) := ⟨i.toNat, by omega⟩
  exact right_any x n (by omega) (by omega) w
def RW (w : World) (f : Nat → UInt8) (k : Nat) (wr : World) : Prop :=
  Below w.heap.size w wr ∧ wr.heap[w.heap.size]? = some (.cells (pw f 0) 140 (0, 0)) ∧ wr.heap[w.heap.size + 1]? = some (.cells (pw f k) 140 (0, 0))
theorem RW.set {w : World} {f : Nat → UInt8} {k : Nat} {wr : World} (h : RW w f k wr) (hk : k < 64) {B : Nat} (hB : w.heap.size = B) {q : Int} (hq : q = ((Sha.wt f k).toNat : Int)) : RW w f (k + 1) ((wr.setCell ⟨B + 1, k, none⟩ (.int .u32 q)).drew) := by
  subst hB hq
  obtain ⟨a, c, d⟩ := h
  refine ⟨(a.setCell (by show w.heap.size ≤ w.heap.size + 1; omega) _).drew, ?_, ?_⟩
  · rw [heap_drew, Below.heap_setCell _ _ _ _ (by show w.heap.size ≠ w.heap.size + 1; omega), c]
  · rw [heap_drew, cell_set _ _ _ _ _ _ d, pw_set f k hk]
attribute [local go_sem] xo_bv ad_bv sr3_bv sr10_bv
attribute [local go_sem ↓] Go.wp_at_zero Go.wp_at_succ
set_option maxHeartbeats 400000 in
set_option maxRecDepth 8000 in
theorem words_any (f : Nat → UInt8) (b off cap : Nat) (w : World) (hb0 : b < w.heap.size) (hcap : 64 ≤ cap) (hbf : ∀ j, j < 64 → w.cell? ⟨b, off + j, none⟩ = some (.int .u8 ((f j).toNat : Int))) :
    Calls Tryz.prog 146 #[.slice (some ⟨b, off, none⟩) 64 cap] w fun e w' => e = .returned (.agg (words64 (Sha.wt f))) ∧ Below w.heap.size w w' := by
  have hbB : b ≠ w.heap.size + 1 := by omega
  go_enter Tryz.func146, Tryz.ntmps146
  go_wp2_with fail
  rw [← pw_lit f]
  have hT : RW w f 0 ((w.alloc (Obj.cells (pw f 0) 140)).alloc (Obj.cells (pw f 0) 140)) := by
    refine ⟨((Below.refl _ _).alloc (Nat.le_refl _) _).alloc (by simp) _, ?_, ?_⟩
    · exact heap_alloc2_old _ _ _
    · exact heap_alloc2_new _ _ _
  generalize hB : w.heap.size = B at *
  generalize (w.alloc (Obj.cells (pw f 0) 140)).alloc (Obj.cells (pw f 0) 140) = W at *
  go_loopw [4] (fun i wr => ∃ k : Nat, k ≤ 16 ∧ i = .int .i64 k ∧ RW w f k wr) (fun i _ => 16 - (intOf i).toNat)
  case atStart => exact ⟨0, by omega, rfl, hT⟩
  case round =>
    clear hT
    obtain ⟨k, hk, rfl, hT⟩ := hrel
    by_cases hlt : k < 16
    · have h4 : wr.heap[B + 1]? = some (.cells (pw f k) 140 (0, 0)) := by rw [← hB]; exact hT.2.2
      have hd : decide ((k : Int) < 16) = true := by simp; omega
      have i0 : (0 : Int) ≤ (k : Int) := by omega
      have i1 : (k : Int) < 64 := by omega
      have gc : ∀ j, j < 64 → wr.cell? ⟨b, off + j, none⟩ = some (.int .u8 ((f j).toNat : Int)) := fun j hj => by rw [hT.1.cell (p := ⟨b, off + j, none⟩) (by rw [hB]; exact hb0)]; exact hbf j hj
      obtain ⟨p, hp, hp64, g0, w0⟩ : ∃ p, p = 4 * k ∧ (p : Int) < 64 ∧ wr.cell? ⟨b, off + p, none⟩ = some (.int .u8 ((f p).toNat : Int)) ∧ IntKind.i64.wrap (4 * (k : Int)) = (p : Int) := ⟨4 * k, rfl, by omega, gc _ (by omega), by rw [IntKind.wrap_i64]; omega⟩
      obtain ⟨p1, hp1, hp164, g1, w1⟩ : ∃ p1, p1 = 4 * k + 1 ∧ (p1 : Int) < 64 ∧ wr.cell? ⟨b, off + p1, none⟩ = some (.int .u8 ((f p1).toNat : Int)) ∧ IntKind.i64.wrap ((p : Int) + 1) = (p1 : Int) := ⟨4 * k + 1, rfl, by omega, gc _ (by omega), by rw [IntKind.wrap_i64]; omega⟩
      obtain ⟨p2, hp2, hp264, g2, w2⟩ : ∃ p1, p1 = 4 * k + 2 ∧ (p1 : Int) < 64 ∧ wr.cell? ⟨b, off + p1, none⟩ = some (.int .u8 ((f p1).toNat : Int)) ∧ IntKind.i64.wrap ((p : Int) + 2) = (p1 : Int) := ⟨4 * k + 2, rfl, by omega, gc _ (by omega), by rw [IntKind.wrap_i64]; omega⟩
      obtain ⟨p3, hp3, hp364, g3, w3⟩ : ∃ p1, p1 = 4 * k + 3 ∧ (p1 : Int) < 64 ∧ wr.cell? ⟨b, off + p1, none⟩ = some (.int .u8 ((f p1).toNat : Int)) ∧ IntKind.i64.wrap ((p : Int) + 3) = (p1 : Int) := ⟨4 * k + 3, rfl, by omega, gc _ (by omega), by rw [IntKind.wrap_i64]; omega⟩
      have HW : Hid (Sha.wt f k = Sha.be (f p) (f p1) (f p2) (f p3)) := by show _ = _; rw [Sha.wt_first f k hlt, hp, hp1, hp2, hp3]; rfl
      clear hp hp1 hp2 hp3
      have q0 : (0 : Int) ≤ (p : Int) := by omega
      have q1 : (0 : Int) ≤ (p1 : Int) := by omega
      have q2 : (0 : Int) ≤ (p2 : Int) := by omega
      have q3 : (0 : Int) ≤ (p3 : Int) := by omega
      have gs : ∃ v, wr.cell? ⟨B + 1, k, none⟩ = some v := ⟨_, by rw [cell_of_row _ _ _ _ _ _ h4]; exact Array.getElem?_eq_getElem (by rw [pw_size]; omega)⟩
      obtain ⟨v0, g4⟩ := gs
      have g5 : wr.frozen? ⟨B + 1, k, none⟩ = false := frozen_of_row _ _ _ _ _ h4
      clear gc
      go_wp2_with fail
      go_region_held3 (fun w' => w'.cell? ⟨b, off + p, none⟩ = some (.int .u8 ((f p).toNat : Int)) ∧ w'.cell? ⟨b, off + p1, none⟩ = some (.int .u8 ((f p1).toNat : Int)) ∧ w'.cell? ⟨b, off + p2, none⟩ = some (.int .u8 ((f p2).toNat : Int)) ∧ w'.cell? ⟨b, off + p3, none⟩ = some (.int .u8 ((f p3).toNat : Int))) (first | (go_keep; done) | exact ⟨keep_far hbB g0, keep_far hbB g1, keep_far hbB g2, keep_far hbB g3⟩) (fail)
      go_wp2_with fail
      go_round
      case rel => exact ⟨k + 1, by omega, by go_num, hT.set (by omega) hB (by rw [be_bv', HW.out])⟩
      case measure => simp [intOf]; omega
    · obtain rfl : k = 16 := by omega
      go_wp2_with fail
      go_loopw [5] (fun i wr => ∃ k : Nat, 16 ≤ k ∧ k ≤ 64 ∧ i = .int .i64 k ∧ RW w f k wr) (fun i _ => 64 - (intOf i).toNat)
      case atStart => exact ⟨16, by omega, by omega, rfl, hT⟩
      case round =>
        clear hT
        obtain ⟨k, hk16, hk, rfl, hT⟩ := hrel
        have h4 : wr.heap[B + 1]? = some (.cells (pw f k) 140 (0, 0)) := by rw [← hB]; exact hT.2.2
        by_cases hlt : k < 64
        · have hd : decide ((k : Int) < 64) = true := by simp; omega
          have i0 : (0 : Int) ≤ (k : Int) := by omega
          have i1 : (k : Int) < 64 := by omega
          have gc : ∀ j, j < k → wr.cell? ⟨B + 1, j, none⟩ = some (.int .u32 ((Sha.wt f j).toNat : Int)) := fun j hj => by rw [cell_of_row _ _ _ _ _ _ h4, pw_get f k j hj (by omega)]
          obtain ⟨p, hp, hp64, g0, w0⟩ : ∃ p, p = k - 15 ∧ (p : Int) < 64 ∧ wr.cell? ⟨B + 1, p, none⟩ = some (.int .u32 ((Sha.wt f p).toNat : Int)) ∧ IntKind.i64.wrap ((k : Int) - 15) = (p : Int) := ⟨k - 15, rfl, by omega, gc _ (by omega), by rw [IntKind.wrap_i64]; omega⟩
          obtain ⟨p1, hp1, hp164, g1, w1⟩ : ∃ p, p = k - 2 ∧ (p : Int) < 64 ∧ wr.cell? ⟨B + 1, p, none⟩ = some (.int .u32 ((Sha.wt f p).toNat : Int)) ∧ IntKind.i64.wrap ((k : Int) - 2) = (p : Int) := ⟨k - 2, rfl, by omega, gc _ (by omega), by rw [IntKind.wrap_i64]; omega⟩
          obtain ⟨p2, hp2, hp264, g2, w2⟩ : ∃ p, p = k - 7 ∧ (p : Int) < 64 ∧ wr.cell? ⟨B + 1, p, none⟩ = some (.int .u32 ((Sha.wt f p).toNat : Int)) ∧ IntKind.i64.wrap ((k : Int) - 7) = (p : Int) := ⟨k - 7, rfl, by omega, gc _ (by omega), by rw [IntKind.wrap_i64]; omega⟩
          obtain ⟨p3, hp3, hp364, g3, w3⟩ : ∃ p, p = k - 16 ∧ (p : Int) < 64 ∧ wr.cell? ⟨B + 1, p, none⟩ = some (.int .u32 ((Sha.wt f p).toNat : Int)) ∧ IntKind.i64.wrap ((k : Int) - 16) = (p : Int) := ⟨k - 16, rfl, by omega, gc _ (by omega), by rw [IntKind.wrap_i64]; omega⟩
          have HW : Hid (Sha.wt f k = Sha.ad (Sha.ad (Sha.ad (Sha.sg1 (Sha.wt f p1)) (Sha.wt f p2)) (Sha.sg0 (Sha.wt f p))) (Sha.wt f p3)) := by show _ = _; rw [Sha.wt_next f k hk16, hp, hp1, hp2, hp3]
          have n0 : Hid (p ≠ k ∧ p1 ≠ k ∧ p2 ≠ k ∧ p3 ≠ k) := by refine ⟨?_, ?_, ?_, ?_⟩ <;> omega
          clear hp hp1 hp2 hp3 gc
          have q0 : (0 : Int) ≤ (p : Int) := by omega
          have q1 : (0 : Int) ≤ (p1 : Int) := by omega
          have q2 : (0 : Int) ≤ (p2 : Int) := by omega
          have q3 : (0 : Int) ≤ (p3 : Int) := by omega
          have gs : ∃ v, wr.cell? ⟨B + 1, k, none⟩ = some v := ⟨_, by rw [cell_of_row _ _ _ _ _ _ h4]; exact Array.getElem?_eq_getElem (by rw [pw_size]; omega)⟩
          obtain ⟨v0, g4⟩ := gs
          have g5 : wr.frozen? ⟨B + 1, k, none⟩ = false := frozen_of_row _ _ _ _ _ h4
          go_wp2_with (go_at_call 147; refine (rightI _ _ (by decide) (by decide) _).mono ?_; rintro e w' ⟨rfl, rfl⟩)
          have hT' := hT
          have g2' : w'.cell? ⟨B + 1, p2, none⟩ = some (.int .u32 ((Sha.wt f p2).toNat : Int)) := g2
          have g3' : w'.cell? ⟨B + 1, p3, none⟩ = some (.int .u32 ((Sha.wt f p3).toNat : Int)) := g3
          have g4' : w'.cell? ⟨B + 1, k, none⟩ = some v0 := g4
          have g5' : w'.frozen? ⟨B + 1, k, none⟩ = false := g5
          clear hT g0 g1 g2 g3 g4 g5 h4
          go_region_held3 (fun w' => w'.cell? ⟨B + 1, p2, none⟩ = some (.int .u32 ((Sha.wt f p2).toNat : Int)) ∧ w'.cell? ⟨B + 1, p3, none⟩ = some (.int .u32 ((Sha.wt f p3).toNat : Int))) (first | (go_keep; done) | exact ⟨keep_cell n0.out.2.2.1 g2', keep_cell n0.out.2.2.2 g3'⟩) (fail)
          go_wp2_with fail
          refine ⟨?_, ?measure⟩
          · (repeat apply Exists.intro)
            refine ⟨⟨k + 1, by omega, by omega, by go_num, hT'.set (by omega) hB ?_⟩, rfl⟩
            rw [HW.out]
            rfl
          case measure => simp [intOf]; omega
        · obtain rfl : k = 64 := by omega
          have h3 : wr.heap[B]? = some (.cells (pw f 0) 140 (0, 0)) := by rw [← hB]; exact hT.2.1
          have hb := hT.1
          have e8 : Hid (pw f 64 = words64 (Sha.wt f)) := pw_all f
          have hd : decide ((64 : Int) < 64) = false := by decide
          have hs : (pw f 64).size = 64 := pw_size f 64
          have h1 : (pw f 64).all (·.oneCell') = true := pw_one f 64
          have hz : (pw f 0).size = (pw f 64).size := by rw [pw_size, pw_size]
          clear hT
          generalize pw f 64 = A at *
          have hi : (Tryz.prog.info? 140).map (·.size) = some A.size := by rw [hs]; exact info54
          go_wp2_with (first
            | (refine wpList_load_row rfl 140 _ rfl _ rfl 140 _ (0, 0) _ h4 Tryz.underlying140 rfl hi ?_)
            | (refine wpList_store_row rfl 140 _ _ rfl _ _ rfl rfl 140 _ h3 hi hz h1 ?_))
          refine bodyPost_ret (v := .agg A) (results_cell_row Tryz.results146 _ _ B 140 A (0, 0) _ rfl (setRow_heap _ _ _ _ _ _ h3) Tryz.underlying140 rfl hi) rfl ⟨by rw [e8.out], below_setRow hb (by omega) _⟩
end Go.Proofs.YtbiponnchppndaaGreatDoorH
