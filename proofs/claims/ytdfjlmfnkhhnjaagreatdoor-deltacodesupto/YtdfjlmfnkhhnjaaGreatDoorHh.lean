import Derived.Test.YtdfjlmfnkhhnjaaGreatDoorGa
import Derived.Deep.RegionHeld3
import Derived.Deep.DrawnRows
namespace Go.Proofs.YtdfjlmfnkhhnjaaGreatDoorH
set_option maxRecDepth 100000
set_option linter.unusedVariables false
set_option linter.unusedSimpArgs false
open Go.RowKit
def TW (w : World) (s : Sha.S8) (f : Nat → BitVec 32) (wr : World) : Prop :=
  Below w.heap.size w wr ∧ wr.heap[w.heap.size]? = some (.cells (words8 s) 167 (0, 0)) ∧ wr.heap[w.heap.size + 1]? = some (.cells (words64 f) 172 (0, 0)) ∧ wr.heap[w.heap.size + 1 + 1]? = some (.cells zero8 167 (0, 0))
attribute [local go_sem] xo_bv an_bv no_bv' ad_bv
set_option maxHeartbeats 400000 in
set_option maxRecDepth 8000 in
theorem turned_any (s : Sha.S8) (f : Nat → BitVec 32) (w : World) (hK : KIn w) :
    Calls Tryz.prog 136 #[.agg (words8 s), .agg (words64 f)] w fun e w' => e = .returned (.agg (words8 (Sha.comp s f))) ∧ Below w.heap.size w w' := by
  go_enter Tryz.func136, Tryz.ntmps136
  go_wp2_with fail
  have hT : TW w s f (((w.alloc (Obj.cells (words8 s) 167)).alloc (Obj.cells (words64 f) 172)).alloc (Obj.cells zero8 167)) := by
    refine ⟨(((Below.refl _ _).alloc (Nat.le_refl _) _).alloc (by simp) _).alloc (by simp; omega) _, ?_, ?_, ?_⟩
    · rw [heap_alloc_old _ _ (by simp; omega), heap_alloc_old _ _ (by simp), heap_alloc_new]
    · rw [heap_alloc_old _ _ (by simp), heap_alloc2_new]
    · have := heap_alloc_new ((w.alloc (Obj.cells (words8 s) 167)).alloc (Obj.cells (words64 f) 172)) (Obj.cells zero8 167)
      simpa using this
  unfold zero8 at hT
  generalize hB : w.heap.size = B at *
  generalize (((w.alloc (Obj.cells (words8 s) 167)).alloc (Obj.cells (words64 f) 172)).alloc _) = W at *
  have hc : ∀ (wr : World), TW w s f wr → (wr.cell? ⟨B, 0, none⟩ = some (.int .u32 (s.a.toNat : Int)) ∧ wr.cell? ⟨B, 1, none⟩ = some (.int .u32 (s.b.toNat : Int)) ∧ wr.cell? ⟨B, 2, none⟩ = some (.int .u32 (s.c.toNat : Int)) ∧ wr.cell? ⟨B, 3, none⟩ = some (.int .u32 (s.d.toNat : Int))) ∧ wr.cell? ⟨B, 4, none⟩ = some (.int .u32 (s.e.toNat : Int)) ∧ wr.cell? ⟨B, 5, none⟩ = some (.int .u32 (s.f.toNat : Int)) ∧ wr.cell? ⟨B, 6, none⟩ = some (.int .u32 (s.g.toNat : Int)) ∧ wr.cell? ⟨B, 7, none⟩ = some (.int .u32 (s.h.toNat : Int)) := by
    intro wr h
    have h2 := h.2.1
    rw [hB] at h2
    refine ⟨⟨?_, ?_, ?_, ?_⟩, ?_, ?_, ?_, ?_⟩ <;> rw [cell_of_row _ _ _ _ _ _ h2] <;> rfl
  obtain ⟨⟨c0, c1, c2, c3⟩, c4, c5, c6, c7⟩ := hc W hT
  clear hc
  go_quiet (fail)
  go_wp2_with fail
  clear c0 c1 c2 c3 c4 c5 c6 c7
  have hT' : TW w s f (W.drewN nq) := ⟨⟨hT.1.os, hT.1.tape, hT.1.output, hT.1.size, hT.1.block⟩, hT.2⟩
  clear hT
  generalize W.drewN nq = W at *
  go_loopw [5, 6, 7, 8, 9, 10, 11, 12, 34] (fun a b c d e f' g h i wr => ∃ k : Nat, k ≤ 64 ∧ i = .int .i64 k ∧ TW w s f wr ∧ a = .int .u32 ((Sha.rounds f s k).a.toNat : Int) ∧ b = .int .u32 ((Sha.rounds f s k).b.toNat : Int) ∧ c = .int .u32 ((Sha.rounds f s k).c.toNat : Int) ∧ d = .int .u32 ((Sha.rounds f s k).d.toNat : Int) ∧ e = .int .u32 ((Sha.rounds f s k).e.toNat : Int) ∧ f' = .int .u32 ((Sha.rounds f s k).f.toNat : Int) ∧ g = .int .u32 ((Sha.rounds f s k).g.toNat : Int) ∧ h = .int .u32 ((Sha.rounds f s k).h.toNat : Int)) (fun _ _ _ _ _ _ _ _ i _ => 64 - (intOf i).toNat)
  case atStart => exact ⟨0, by omega, rfl, hT', rfl, rfl, rfl, rfl, rfl, rfl, rfl, rfl⟩
  case round =>
    obtain ⟨k, hk, rfl, hT, rfl, rfl, rfl, rfl, rfl, rfl, rfl, rfl⟩ := hrel
    by_cases hlt : k < 64
    · have hd : decide ((k : Int) < 64) = true := by simp; omega
      have ck : wr.cell? ⟨0, k, none⟩ = some (.int .u32 ((Sha.kt k).toNat : Int)) := (hK.below hT.1 hK.lt) k hlt
      have cw : wr.cell? ⟨B + 1, k, none⟩ = some (.int .u32 ((f k).toNat : Int)) := by
        have h3 := hT.2.2.1
        rw [hB] at h3
        rw [cell_of_row _ _ _ _ _ _ h3, words64_get f k hlt]
      generalize hr : Sha.rounds f s k = r at *
      have HR : Hid (Sha.rounds f s (k + 1) = Sha.rnd r (Sha.kt k) (f k)) := by show Sha.rounds f s (k+1) = _; rw [Sha.rounds, hr]
      have i0 : (0 : Int) ≤ (k : Int) := by omega
      have i1 : (k : Int) < 64 := by omega
      clear hr
      go_wp2_with fail
      go_quiet ((go_at_call 170; exact Calls.quiet_of_same (rotI _ _ (by decide) (by decide) _)))
      go_wp2_with (go_at_call 170; refine (rotI _ _ (by decide) (by decide) _).mono ?_; rintro e w' ⟨rfl, rfl⟩)
      go_round
      case rel =>
        refine ⟨k + 1, by omega, by go_num, ⟨⟨hT.1.os, hT.1.tape, hT.1.output, hT.1.size, hT.1.block⟩, hT.2⟩, ?_⟩
        rw [HR.out]
        exact ⟨rfl, rfl, rfl, rfl, rfl, rfl, rfl, rfl⟩
      case measure => simp [intOf]; omega
    · obtain rfl : k = 64 := by omega
      go_wp2_with fail
      have hb := hT.1
      have h2 : wr.heap[B]? = some (.cells (mix s (Sha.rounds f s 64) 0) 167 (0, 0)) := by rw [← hB]; exact hT.2.1
      have h4 : wr.heap[B + 1 + 1]? = some (.cells zero8 167 (0, 0)) := by rw [← hB]; exact hT.2.2.2
      have HC : Hid (Sha.comp s f = Sha.plus s (Sha.rounds f s 64)) := rfl
      clear hT hT' hK
      generalize Sha.rounds f s 64 = r at *
      go_loopw [106] (fun i wr => ∃ k : Nat, k ≤ 8 ∧ i = .int .i64 k ∧ Below w.heap.size w wr ∧ wr.heap[B]? = some (.cells (mix s r k) 167 (0, 0)) ∧ wr.heap[B + 1 + 1]? = some (.cells zero8 167 (0, 0))) (fun i _ => 8 - (intOf i).toNat)
      case atStart => exact ⟨0, by omega, rfl, hb, h2, h4⟩
      case round =>
        clear hb h2 h4
        obtain ⟨k, hk, rfl, hb, h2, h4⟩ := hrel
        by_cases hlt : k < 8
        · have c0 : wr.cell? ⟨B, k, none⟩ = some (.int .u32 ((Sha.word s k).toNat : Int)) := by rw [cell_of_row _ _ _ _ _ _ h2, mix_get s r k hlt]
          have f0 : wr.frozen? ⟨B, k, none⟩ = false := frozen_of_row _ _ _ _ _ h2
          have i0 : (0 : Int) ≤ (k : Int) := by omega
          have i1 : (k : Int) < 8 := by omega
          have hd : decide ((k : Int) < 8) = true := by simp; omega
          have hx : ∀ w, (Instr.index 167 (.agg #[.int .u32 (r.a.toNat : Int), .int .u32 (r.b.toNat : Int), .int .u32 (r.c.toNat : Int), .int .u32 (r.d.toNat : Int), .int .u32 (r.e.toNat : Int), .int .u32 (r.f.toNat : Int), .int .u32 (r.g.toNat : Int), .int .u32 (r.h.toNat : Int)]) (.int .i64 (k : Int))).run Tryz.prog w = .ok (.int .u32 ((Sha.word r k).toNat : Int)) w := fun w => idx49 _ k hlt _ (words8_get r k hlt) w
          have HM : Hid _ := mix_succ s r k hlt
          go_wp2_with fail
          go_round
          case rel => 
            refine ⟨k + 1, by omega, by go_num, hb.setCell (by show w.heap.size ≤ B; omega) _, ?_, ?_⟩
            · rw [cell_set _ _ _ _ _ _ h2, HM.out]
            · rw [Below.heap_setCell _ _ _ _ (by show B + 1 + 1 ≠ B; omega), h4]
          case measure => simp [intOf]; omega
        · obtain rfl : k = 8 := by omega
          have e8 : Hid (mix s r 8 = words8 (Sha.comp s f)) := by show _ = _; rw [HC.out]; rfl
          have hd : decide ((8 : Int) < 8) = false := by decide
          generalize mix s r 8 = A at *
          have hs : A.size = 8 := by rw [e8.out]; rfl
          have h1 : A.all (·.oneCell') = true := by rw [e8.out]; simp [words8, Value.oneCell']
          have hi : (Tryz.prog.info? 167).map (·.size) = some A.size := by rw [hs]; exact info49
          have hz : zero8.size = A.size := hs.symm
          go_wp2_with (first
            | (refine wpList_load_row rfl 167 _ rfl _ rfl 167 _ (0, 0) _ h2 Tryz.underlying167 rfl hi ?_)
            | (refine wpList_store_row rfl 167 _ _ rfl _ _ rfl rfl 167 _ h4 hi hz h1 ?_))
          refine bodyPost_ret (v := .agg A) (results_cell_row Tryz.results136 _ _ (B + 1 + 1) 167 A (0, 0) _ rfl (setRow_heap _ _ _ _ _ _ h4) Tryz.underlying167 rfl hi) rfl ⟨by rw [e8.out], below_setRow hb (by omega) _⟩
end Go.Proofs.YtdfjlmfnkhhnjaaGreatDoorH
namespace Go.Proofs.YtdfjlmfnkhhnjaaGreatDoorH
set_option maxRecDepth 100000
set_option linter.unusedVariables false
set_option linter.unusedSimpArgs false
open Go.RowKit
def bytes64 (f : Nat → UInt8) : Array Value := (Array.range 64).map fun j => .int .u8 ((f j).toNat : Int)
theorem bytes64_get (f : Nat → UInt8) (k : Nat) (h : k < 64) : (bytes64 f)[k]? = some (.int .u8 ((f k).toNat : Int)) := by
  simp [bytes64, h]
def pw (f : Nat → UInt8) (k : Nat) : Array Value := (Array.range 64).map fun j => .int .u32 (((if j < k then Sha.wt f j else 0#32) : BitVec 32).toNat : Int)
theorem pw_0 (f : Nat → UInt8) : pw f 0 = Array.replicate 64 (.int .u32 0) := by
  unfold pw
  simp only [Nat.not_lt_zero, if_false]
  apply Array.ext
  · simp
  · intro i h1 h2; simp
theorem pw_lit (f : Nat → UInt8) : pw f 0 = #[.int .u32 0, .int .u32 0, .int .u32 0, .int .u32 0, .int .u32 0, .int .u32 0, .int .u32 0, .int .u32 0, .int .u32 0, .int .u32 0, .int .u32 0, .int .u32 0, .int .u32 0, .int .u32 0, .int .u32 0, .int .u32 0, .int .u32 0, .int .u32 0, .int .u32 0, .int .u32 0, .int .u32 0, .int .u32 0, .int .u32 0, .int .u32 0, .int .u32 0, .int .u32 0, .int .u32 0, .int .u32 0, .int .u32 0, .int .u32 0, .int .u32 0, .int .u32 0, .int .u32 0, .int .u32 0, .int .u32 0, .int .u32 0, .int .u32 0, .int .u32 0, .int .u32 0, .int .u32 0, .int .u32 0, .int .u32 0, .int .u32 0, .int .u32 0, .int .u32 0, .int .u32 0, .int .u32 0, .int .u32 0, .int .u32 0, .int .u32 0, .int .u32 0, .int .u32 0, .int .u32 0, .int .u32 0, .int .u32 0, .int .u32 0, .int .u32 0, .int .u32 0, .int .u32 0, .int .u32 0, .int .u32 0, .int .u32 0, .int .u32 0, .int .u32 0] := by
  rw [pw_0]; rfl
theorem pw_size (f : Nat → UInt8) (k : Nat) : (pw f k).size = 64 := by simp [pw]
theorem pw_get (f : Nat → UInt8) (k j : Nat) (h : j < k) (hj : j < 64) : (pw f k)[j]? = some (.int .u32 ((Sha.wt f j).toNat : Int)) := by
  simp [pw, hj, h]
theorem pw_set (f : Nat → UInt8) (k : Nat) (h : k < 64) : (pw f k).setIfInBounds k (.int .u32 ((Sha.wt f k).toNat : Int)) = pw f (k + 1) := by
  apply Array.ext
  · rw [Array.size_setIfInBounds, pw_size, pw_size]
  · intro i h1 h2
    have hi : i < (pw f k).size := by rw [pw_size] at *; exact h2
    rw [Array.getElem_setIfInBounds hi]
    simp only [pw, Array.getElem_map, Array.getElem_range]
    by_cases e : k = i
    · subst e; simp
    · rw [if_neg e]
      by_cases e2 : i < k
      · rw [if_pos e2, if_pos (by omega)]
      · rw [if_neg e2, if_neg (by omega)]
theorem pw_one (f : Nat → UInt8) (k : Nat) : (pw f k).all (·.oneCell') = true := by
  rw [Array.all_eq_true]; intro i h; simp only [pw, Array.getElem_map]; rfl
theorem pw_all (f : Nat → UInt8) : pw f 64 = words64 (Sha.wt f) := by
  apply Array.ext
  · simp [pw, words64]
  · intro i h1 h2
    have : i < 64 := by rw [pw_size] at h1; exact h1
    simp [pw, words64, this]
def SW (w : World) (f : Nat → UInt8) (k : Nat) (wr : World) : Prop :=
  Below w.heap.size w wr ∧ wr.heap[w.heap.size]? = some (.cells (bytes64 f) 168 (0, 0)) ∧ wr.heap[w.heap.size + 1]? = some (.cells (pw f 0) 172 (0, 0)) ∧ wr.heap[w.heap.size + 1 + 1]? = some (.cells (pw f k) 172 (0, 0))
theorem keep_far {w : World} {B C j k : Nat} {u v : Value} (h : B ≠ C) (hc : w.cell? ⟨B, j, none⟩ = some v) : (w.setCell ⟨C, k, none⟩ u).drew.cell? ⟨B, j, none⟩ = some v := by
  show (w.setCell ⟨C, k, none⟩ u).cell? ⟨B, j, none⟩ = some v
  rw [World.cell?_setCell_other _ _ _ _ (by intro q; injection q; omega)]; exact hc
theorem keep_cell {w : World} {C j k : Nat} {u v : Value} (h : j ≠ k) (hc : w.cell? ⟨C, j, none⟩ = some v) : (w.setCell ⟨C, k, none⟩ u).drew.cell? ⟨C, j, none⟩ = some v := by
  show (w.setCell ⟨C, k, none⟩ u).cell? ⟨C, j, none⟩ = some v
  rw [World.cell?_setCell_other _ _ _ _ (by intro q; injection q; omega)]; exact hc
theorem or_disj (a b i : Nat) (hb : b < 2 ^ i) : 2 ^ i * a ||| b = 2 ^ i * a + b := (Nat.two_pow_add_eq_or_of_lt hb a).symm
theorem be_bv (a b c d : UInt8) : bits BinOp.or IntKind.u32 (bits BinOp.or IntKind.u32 (bits BinOp.or IntKind.u32 (IntKind.u32.wrap (IntKind.u32.wrap (a.toNat : Int) * 16777216)) (IntKind.u32.wrap (IntKind.u32.wrap (b.toNat : Int) * 65536))) (IntKind.u32.wrap (IntKind.u32.wrap (c.toNat : Int) * 256))) (IntKind.u32.wrap (d.toNat : Int)) = ((Sha.be a b c d).toNat : Int) := by
  have ha : a.toNat < 256 := a.toNat_lt
  have hb : b.toNat < 256 := b.toNat_lt
  have hc : c.toNat < 256 := c.toNat_lt
  have hd : d.toNat < 256 := d.toNat_lt
  unfold Sha.be
  rw [BitVec.toNat_ofNat]
  generalize a.toNat = a at *
  generalize b.toNat = b at *
  generalize c.toNat = c at *
  generalize d.toNat = d at *
  have e1 : IntKind.u32.wrap (IntKind.u32.wrap (a : Int) * 16777216) = ((a * 16777216 : Nat) : Int) := by rw [IntKind.wrap_u32, IntKind.wrap_u32]; omega
  have e2 : IntKind.u32.wrap (IntKind.u32.wrap (b : Int) * 65536) = ((b * 65536 : Nat) : Int) := by rw [IntKind.wrap_u32, IntKind.wrap_u32]; omega
  have e3 : IntKind.u32.wrap (IntKind.u32.wrap (c : Int) * 256) = ((c * 256 : Nat) : Int) := by rw [IntKind.wrap_u32, IntKind.wrap_u32]; omega
  have e4 : IntKind.u32.wrap (d : Int) = ((d : Nat) : Int) := by rw [IntKind.wrap_u32]; omega
  have o1 : a * 16777216 ||| b * 65536 = a * 16777216 + b * 65536 := by
    have := or_disj a (b * 65536) 24 (by omega)
    rw [show 2 ^ 24 * a = a * 16777216 from Nat.mul_comm _ _] at this; exact this
  have o2 : (a * 16777216 + b * 65536) ||| c * 256 = a * 16777216 + b * 65536 + c * 256 := by
    have := or_disj (a * 256 + b) (c * 256) 16 (by omega)
    rw [show 2 ^ 16 * (a * 256 + b) = a * 16777216 + b * 65536 by omega] at this; exact this
  have o3 : (a * 16777216 + b * 65536 + c * 256) ||| d = a * 16777216 + b * 65536 + c * 256 + d := by
    have := or_disj (a * 65536 + b * 256 + c) d 8 (by omega)
    rw [show 2 ^ 8 * (a * 65536 + b * 256 + c) = a * 16777216 + b * 65536 + c * 256 by omega] at this; exact this
  rw [e1, e2, e3, e4, u32_or_nat _ _ (by omega) (by omega), o1, u32_or_nat _ _ (by omega) (by omega), o2, u32_or_nat _ _ (by omega) (by omega), o3]
  omega
theorem be_bv' (a b c d : UInt8) : bits BinOp.or IntKind.u32 (bits BinOp.or IntKind.u32 (bits BinOp.or IntKind.u32 ((a.toNat : Int) % 4294967296 * 16777216 % 4294967296) ((b.toNat : Int) % 4294967296 * 65536 % 4294967296)) ((c.toNat : Int) % 4294967296 * 256 % 4294967296)) ((d.toNat : Int) % 4294967296) = ((Sha.be a b c d).toNat : Int) := by
  have := be_bv a b c d
  simp only [IntKind.wrap_u32] at this
  exact this
theorem SW.set {w : World} {f : Nat → UInt8} {k : Nat} {wr : World} (h : SW w f k wr) (hk : k < 64) {B : Nat} (hB : w.heap.size = B) {q : Int} (hq : q = ((Sha.wt f k).toNat : Int)) : SW w f (k + 1) ((wr.setCell ⟨B + 1 + 1, k, none⟩ (.int .u32 q)).drew) := by
  subst hB hq
  obtain ⟨a, b, c, d⟩ := h
  refine ⟨(a.setCell (by show w.heap.size ≤ w.heap.size + 1 + 1; omega) _).drew, ?_, ?_, ?_⟩
  · rw [heap_drew, Below.heap_setCell _ _ _ _ (by show w.heap.size ≠ w.heap.size + 1 + 1; omega), b]
  · rw [heap_drew, Below.heap_setCell _ _ _ _ (by show w.heap.size + 1 ≠ w.heap.size + 1 + 1; omega), c]
  · rw [heap_drew, cell_set _ _ _ _ _ _ d, pw_set f k hk]
theorem SW.drawn {w : World} {f : Nat → UInt8} {k : Nat} {wr : World} (h : SW w f k wr) (n : Nat) : SW w f k (wr.drewN n) := ⟨⟨h.1.os, h.1.tape, h.1.output, h.1.size, h.1.block⟩, h.2⟩
theorem info54 : (Tryz.prog.info? 172).map (·.size) = some 64 := by kernel_rfl
attribute [local go_sem] xo_bv ad_bv sr3_bv sr10_bv
attribute [local go_sem ↓] Go.wp_at_zero Go.wp_at_succ
set_option maxHeartbeats 400000 in
set_option maxRecDepth 8000 in
theorem spread_any (f : Nat → UInt8) (w : World) :
    Calls Tryz.prog 137 #[.agg (bytes64 f)] w fun e w' => e = .returned (.agg (words64 (Sha.wt f))) ∧ Below w.heap.size w w' := by
  go_enter Tryz.func137, Tryz.ntmps137
  go_wp2_with fail
  rw [← pw_lit f]
  have hT : SW w f 0 (((w.alloc (Obj.cells (bytes64 f) 168)).alloc (Obj.cells (pw f 0) 172)).alloc (Obj.cells (pw f 0) 172)) := by
    refine ⟨(((Below.refl _ _).alloc (Nat.le_refl _) _).alloc (by simp) _).alloc (by simp; omega) _, ?_, ?_, ?_⟩
    · rw [heap_alloc_old _ _ (by simp; omega), heap_alloc_old _ _ (by simp), heap_alloc_new]
    · rw [heap_alloc_old _ _ (by simp), heap_alloc2_new]
    · have := heap_alloc_new ((w.alloc (Obj.cells (bytes64 f) 168)).alloc (Obj.cells (pw f 0) 172)) (Obj.cells (pw f 0) 172)
      simpa using this
  generalize hB : w.heap.size = B at *
  generalize (((w.alloc (Obj.cells (bytes64 f) 168)).alloc (Obj.cells (pw f 0) 172)).alloc (Obj.cells (pw f 0) 172)) = W at *
  go_loopw [10] (fun i wr => ∃ k : Nat, k ≤ 16 ∧ i = .int .i64 k ∧ SW w f k wr) (fun i _ => 16 - (intOf i).toNat)
  case atStart => exact ⟨0, by omega, rfl, hT⟩
  case round =>
    clear hT
    obtain ⟨k, hk, rfl, hT⟩ := hrel
    by_cases hlt : k < 16
    · have h2 : wr.heap[B]? = some (.cells (bytes64 f) 168 (0, 0)) := by rw [← hB]; exact hT.2.1
      have h4 : wr.heap[B + 1 + 1]? = some (.cells (pw f k) 172 (0, 0)) := by rw [← hB]; exact hT.2.2.2
      have hd : decide ((k : Int) < 16) = true := by simp; omega
      have i0 : (0 : Int) ≤ (k : Int) := by omega
      have i1 : (k : Int) < 64 := by omega
      have gc : ∀ j, j < 64 → wr.cell? ⟨B, j, none⟩ = some (.int .u8 ((f j).toNat : Int)) := fun j hj => by rw [cell_of_row _ _ _ _ _ _ h2, bytes64_get f j hj]
      obtain ⟨p, hp, hp64, g0, w0⟩ : ∃ p, p = 4 * k ∧ (p : Int) < 64 ∧ wr.cell? ⟨B, p, none⟩ = some (.int .u8 ((f p).toNat : Int)) ∧ IntKind.i64.wrap (4 * (k : Int)) = (p : Int) := ⟨4 * k, rfl, by omega, gc _ (by omega), by rw [IntKind.wrap_i64]; omega⟩
      obtain ⟨p1, hp1, hp164, g1, w1⟩ : ∃ p1, p1 = 4 * k + 1 ∧ (p1 : Int) < 64 ∧ wr.cell? ⟨B, p1, none⟩ = some (.int .u8 ((f p1).toNat : Int)) ∧ IntKind.i64.wrap ((p : Int) + 1) = (p1 : Int) := ⟨4 * k + 1, rfl, by omega, gc _ (by omega), by rw [IntKind.wrap_i64]; omega⟩
      obtain ⟨p2, hp2, hp264, g2, w2⟩ : ∃ p1, p1 = 4 * k + 2 ∧ (p1 : Int) < 64 ∧ wr.cell? ⟨B, p1, none⟩ = some (.int .u8 ((f p1).toNat : Int)) ∧ IntKind.i64.wrap ((p : Int) + 2) = (p1 : Int) := ⟨4 * k + 2, rfl, by omega, gc _ (by omega), by rw [IntKind.wrap_i64]; omega⟩
      obtain ⟨p3, hp3, hp364, g3, w3⟩ : ∃ p1, p1 = 4 * k + 3 ∧ (p1 : Int) < 64 ∧ wr.cell? ⟨B, p1, none⟩ = some (.int .u8 ((f p1).toNat : Int)) ∧ IntKind.i64.wrap ((p : Int) + 3) = (p1 : Int) := ⟨4 * k + 3, rfl, by omega, gc _ (by omega), by rw [IntKind.wrap_i64]; omega⟩
      have HW : Hid (Sha.wt f k = Sha.be (f p) (f p1) (f p2) (f p3)) := by show _ = _; rw [Sha.wt_first f k hlt, hp, hp1, hp2, hp3]; rfl
      clear hp hp1 hp2 hp3
      have q0 : (0 : Int) ≤ (p : Int) := by omega
      have q1 : (0 : Int) ≤ (p1 : Int) := by omega
      have q2 : (0 : Int) ≤ (p2 : Int) := by omega
      have q3 : (0 : Int) ≤ (p3 : Int) := by omega
      have gs : ∃ v, wr.cell? ⟨B + 1 + 1, k, none⟩ = some v := ⟨_, by rw [cell_of_row _ _ _ _ _ _ h4]; exact Array.getElem?_eq_getElem (by rw [pw_size]; omega)⟩
      obtain ⟨v0, g4⟩ := gs
      have g5 : wr.frozen? ⟨B + 1 + 1, k, none⟩ = false := frozen_of_row _ _ _ _ _ h4
      clear gc
      go_wp2_with fail
      go_region_held3 (fun w' => w'.cell? ⟨B, p, none⟩ = some (.int .u8 ((f p).toNat : Int)) ∧ w'.cell? ⟨B, p1, none⟩ = some (.int .u8 ((f p1).toNat : Int)) ∧ w'.cell? ⟨B, p2, none⟩ = some (.int .u8 ((f p2).toNat : Int)) ∧ w'.cell? ⟨B, p3, none⟩ = some (.int .u8 ((f p3).toNat : Int))) (first | (go_keep; done) | exact ⟨keep_far (by omega) g0, keep_far (by omega) g1, keep_far (by omega) g2, keep_far (by omega) g3⟩) (fail)
      go_wp2_with fail
      go_round
      case rel => exact ⟨k + 1, by omega, by go_num, hT.set (by omega) hB (by rw [be_bv', HW.out])⟩
      case measure => simp [intOf]; omega
    · obtain rfl : k = 16 := by omega
      go_wp2_with fail
      go_loopw [5] (fun i wr => ∃ k : Nat, 16 ≤ k ∧ k ≤ 64 ∧ i = .int .i64 k ∧ SW w f k wr) (fun i _ => 64 - (intOf i).toNat)
      case atStart => exact ⟨16, by omega, by omega, rfl, hT⟩
      case round =>
        clear hT
        obtain ⟨k, hk16, hk, rfl, hT⟩ := hrel
        have h4 : wr.heap[B + 1 + 1]? = some (.cells (pw f k) 172 (0, 0)) := by rw [← hB]; exact hT.2.2.2
        by_cases hlt : k < 64
        · have hd : decide ((k : Int) < 64) = true := by simp; omega
          have i0 : (0 : Int) ≤ (k : Int) := by omega
          have i1 : (k : Int) < 64 := by omega
          have gc : ∀ j, j < k → wr.cell? ⟨B + 1 + 1, j, none⟩ = some (.int .u32 ((Sha.wt f j).toNat : Int)) := fun j hj => by rw [cell_of_row _ _ _ _ _ _ h4, pw_get f k j hj (by omega)]
          obtain ⟨p, hp, hp64, g0, w0⟩ : ∃ p, p = k - 15 ∧ (p : Int) < 64 ∧ wr.cell? ⟨B + 1 + 1, p, none⟩ = some (.int .u32 ((Sha.wt f p).toNat : Int)) ∧ IntKind.i64.wrap ((k : Int) - 15) = (p : Int) := ⟨k - 15, rfl, by omega, gc _ (by omega), by rw [IntKind.wrap_i64]; omega⟩
          obtain ⟨p1, hp1, hp164, g1, w1⟩ : ∃ p, p = k - 2 ∧ (p : Int) < 64 ∧ wr.cell? ⟨B + 1 + 1, p, none⟩ = some (.int .u32 ((Sha.wt f p).toNat : Int)) ∧ IntKind.i64.wrap ((k : Int) - 2) = (p : Int) := ⟨k - 2, rfl, by omega, gc _ (by omega), by rw [IntKind.wrap_i64]; omega⟩
          obtain ⟨p2, hp2, hp264, g2, w2⟩ : ∃ p, p = k - 7 ∧ (p : Int) < 64 ∧ wr.cell? ⟨B + 1 + 1, p, none⟩ = some (.int .u32 ((Sha.wt f p).toNat : Int)) ∧ IntKind.i64.wrap ((k : Int) - 7) = (p : Int) := ⟨k - 7, rfl, by omega, gc _ (by omega), by rw [IntKind.wrap_i64]; omega⟩
          obtain ⟨p3, hp3, hp364, g3, w3⟩ : ∃ p, p = k - 16 ∧ (p : Int) < 64 ∧ wr.cell? ⟨B + 1 + 1, p, none⟩ = some (.int .u32 ((Sha.wt f p).toNat : Int)) ∧ IntKind.i64.wrap ((k : Int) - 16) = (p : Int) := ⟨k - 16, rfl, by omega, gc _ (by omega), by rw [IntKind.wrap_i64]; omega⟩
          have HW : Hid (Sha.wt f k = Sha.ad (Sha.ad (Sha.ad (Sha.sg1 (Sha.wt f p1)) (Sha.wt f p2)) (Sha.sg0 (Sha.wt f p))) (Sha.wt f p3)) := by show _ = _; rw [Sha.wt_next f k hk16, hp, hp1, hp2, hp3]
          have n0 : Hid (p ≠ k ∧ p1 ≠ k ∧ p2 ≠ k ∧ p3 ≠ k) := by refine ⟨?_, ?_, ?_, ?_⟩ <;> omega
          clear hp hp1 hp2 hp3 gc
          have q0 : (0 : Int) ≤ (p : Int) := by omega
          have q1 : (0 : Int) ≤ (p1 : Int) := by omega
          have q2 : (0 : Int) ≤ (p2 : Int) := by omega
          have q3 : (0 : Int) ≤ (p3 : Int) := by omega
          have gs : ∃ v, wr.cell? ⟨B + 1 + 1, k, none⟩ = some v := ⟨_, by rw [cell_of_row _ _ _ _ _ _ h4]; exact Array.getElem?_eq_getElem (by rw [pw_size]; omega)⟩
          obtain ⟨v0, g4⟩ := gs
          have g5 : wr.frozen? ⟨B + 1 + 1, k, none⟩ = false := frozen_of_row _ _ _ _ _ h4
          go_wp2_with fail
          go_quiet (fail)
          go_wp2_with (go_at_call 170; refine (rotI _ _ (by decide) (by decide) _).mono ?_; rintro e w' ⟨rfl, rfl⟩)
          have hT' := hT.drawn nq
          have g2' : (wr.drewN nq).cell? ⟨B + 1 + 1, p2, none⟩ = some (.int .u32 ((Sha.wt f p2).toNat : Int)) := g2
          have g3' : (wr.drewN nq).cell? ⟨B + 1 + 1, p3, none⟩ = some (.int .u32 ((Sha.wt f p3).toNat : Int)) := g3
          have g4' : (wr.drewN nq).cell? ⟨B + 1 + 1, k, none⟩ = some v0 := g4
          have g5' : (wr.drewN nq).frozen? ⟨B + 1 + 1, k, none⟩ = false := g5
          clear hT g0 g1 g2 g3 g4 g5 h4
          generalize wr.drewN nq = wr at *
          go_region_held3 (fun w' => w'.cell? ⟨B + 1 + 1, p2, none⟩ = some (.int .u32 ((Sha.wt f p2).toNat : Int)) ∧ w'.cell? ⟨B + 1 + 1, p3, none⟩ = some (.int .u32 ((Sha.wt f p3).toNat : Int))) (first | (go_keep; done) | exact ⟨keep_cell n0.out.2.2.1 g2', keep_cell n0.out.2.2.2 g3'⟩) (fail)
          go_wp2_with fail
          refine ⟨?_, ?measure⟩
          · (repeat apply Exists.intro)
            refine ⟨⟨k + 1, by omega, by omega, by go_num, hT'.set (by omega) hB ?_⟩, rfl⟩
            rw [HW.out]
            rfl
          case measure => simp [intOf]; omega
        · obtain rfl : k = 64 := by omega
          have h3 : wr.heap[B + 1]? = some (.cells (pw f 0) 172 (0, 0)) := by rw [← hB]; exact hT.2.2.1
          have hb := hT.1
          have e8 : Hid (pw f 64 = words64 (Sha.wt f)) := pw_all f
          have hd : decide ((64 : Int) < 64) = false := by decide
          have hs : (pw f 64).size = 64 := pw_size f 64
          have h1 : (pw f 64).all (·.oneCell') = true := pw_one f 64
          have hz : (pw f 0).size = (pw f 64).size := by rw [pw_size, pw_size]
          clear hT
          generalize pw f 64 = A at *
          have hi : (Tryz.prog.info? 172).map (·.size) = some A.size := by rw [hs]; exact info54
          go_wp2_with (first
            | (refine wpList_load_row rfl 172 _ rfl _ rfl 172 _ (0, 0) _ h4 Tryz.underlying172 rfl hi ?_)
            | (refine wpList_store_row rfl 172 _ _ rfl _ _ rfl rfl 172 _ h3 hi hz h1 ?_))
          refine bodyPost_ret (v := .agg A) (results_cell_row Tryz.results137 _ _ (B + 1) 172 A (0, 0) _ rfl (setRow_heap _ _ _ _ _ _ h3) Tryz.underlying172 rfl hi) rfl ⟨by rw [e8.out], below_setRow hb (by omega) _⟩
end Go.Proofs.YtdfjlmfnkhhnjaaGreatDoorH
