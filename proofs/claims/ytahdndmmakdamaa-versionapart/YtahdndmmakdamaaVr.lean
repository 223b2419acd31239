/- The reader: take, number, text, pairs. -/
import Derived.Test.YtahdndmmakdamaaVw
import Derived.Test.YtahdndmmakdamaaShelf
import Derived.Lib.ConvBytes
import Derived.RegionCalls
import Derived.Deep.RegionHeld3
namespace Go.Proofs.Ytahdndmmakdamaa
set_option linter.unusedVariables false
set_option linter.unusedSimpArgs false
open Go.RowKit
attribute [local go_sem ↓] Go.wp_at_zero Go.wp_at_succ
attribute [local go_sem ↓] sl9 ix9
/-- a reader's block -/
def RB (w : World) (g : Nat) (r : List UInt8) (b : Bool) : Prop := w.heap[g]? = some (.cells #[str r, .bool b] 47 (0, 0))
theorem RB.lt {w : World} {g : Nat} {r : List UInt8} {b : Bool} (h : RB w g r b) : g < w.heap.size := (Array.getElem?_eq_some_iff.1 h).1
theorem RB.cells {w : World} {g : Nat} {r : List UInt8} {b : Bool} (h : RB w g r b) : w.cell? ⟨g, 0, none⟩ = some (str r) ∧ w.cell? ⟨g, 1, none⟩ = some (.bool b) ∧ ∀ j, w.frozen? ⟨g, j, none⟩ = false :=
  ⟨(box2 h).1, (box2 h).2, fun j => frozen_of_row _ _ _ _ _ h⟩
theorem RB.set0 {w : World} {g : Nat} {r : List UInt8} {b : Bool} (h : RB w g r b) (r' : List UInt8) : RB (w.setCell ⟨g, 0, none⟩ (str r')) g r' b := by
  unfold RB
  rw [heap_setCell_same _ _ _ _ _ _ h]; rfl
theorem RB.set1 {w : World} {g : Nat} {r : List UInt8} {b : Bool} (h : RB w g r b) (b' : Bool) : RB (w.setCell ⟨g, 1, none⟩ (.bool b')) g r b' := by
  unfold RB
  rw [heap_setCell_same _ _ _ _ _ _ h]; rfl
/-- of what was there only the block g has changed -/
structure Cg (g : Nat) (w w' : World) : Prop where
  lo : Below g w w'
  hi : ∀ k, g < k → k < w.heap.size → w'.heap[k]? = w.heap[k]?
theorem Cg.refl (g : Nat) (w : World) : Cg g w w := ⟨Below.refl _ _, fun _ _ _ => rfl⟩
theorem Cg.trans {g : Nat} {w w1 w2 : World} (a : Cg g w w1) (b : Cg g w1 w2) : Cg g w w2 :=
  ⟨a.lo.trans b.lo, fun k h1 h2 => (b.hi k h1 (Nat.lt_of_lt_of_le h2 a.lo.size)).trans (a.hi k h1 h2)⟩
theorem Cg.of {g : Nat} {w w' : World} (h : Below w.heap.size w w') (hg : g < w.heap.size) : Cg g w w' := ⟨h.mono (by omega), fun k _ h2 => h.block k h2⟩
theorem Cg.set (g : Nat) (w : World) (j : Nat) (c : Value) : Cg g w (w.setCell ⟨g, j, none⟩ c) :=
  ⟨(Below.refl _ _).setCell (p := ⟨g, j, none⟩) (Nat.le_refl _) c, fun k h1 h2 => heap_setCell_other _ _ _ _ (by show k ≠ g; omega)⟩
theorem RB.later {w w' : World} {g : Nat} {r : List UInt8} {b : Bool} (h : RB w g r b) (hb : Below w.heap.size w w') : RB w' g r b := by
  unfold RB
  rw [hb.block g h.lt]; exact h
theorem Cg.row {g : Nat} {w w' : World} (h : Cg g w w') {k : Nat} {o : Obj} (hk : g < k) (ho : w.heap[k]? = some o) : w'.heap[k]? = some o := by
  rw [h.hi k hk (Array.getElem?_eq_some_iff.1 ho).1]; exact ho
theorem Ow.cg {base g : Nat} {w w' : World} {v : Value} {l : List En} (h : Ow base w v l) (hg : g < base) (hc : Cg g w w') : Ow base w' v l := by
  refine ⟨⟨h.own.1, ?_⟩, Nat.le_trans h.le hc.lo.size⟩
  rcases h.own.2 with e | ⟨g', cap, cur, e1, e2, e3, e4⟩
  · exact Or.inl e
  · exact Or.inr ⟨g', cap, cur, e1, e2, hc.row (by omega) e3, e4⟩
set_option maxHeartbeats 1000000 in
theorem take_any (n : Nat) (r : List UInt8) (b : Bool) (w : World) (g : Nat) (hR : RB w g r b) (hn : n ≤ 100000) (hr : r.length ≤ 9223372036854775807) :
    Calls Try.prog 36 #[.pointer (some ⟨g, 0, none⟩), .int .i64 (n : Int)] w fun e w' => e = .returned (str (tv n r)) ∧ RB w' g (tr n r) (tb n r b) ∧ Cg g w w' := by
  obtain ⟨c0, c1, cf⟩ := hR.cells
  have f0 := cf 0
  have f1 := cf 1
  by_cases h : n ≤ r.length
  · have d1 : decide ((r.length : Int) < (n : Int)) = false := decide_eq_false (by omega)
    have e1 : tv n r = r.take n := by unfold tv; rw [if_pos h]
    have e2 : tr n r = r.drop n := by unfold tr; rw [if_pos h]
    have t1 := run_hi r n h hr
    have t2 := run_lo r n h hr
    rw [e1, e2, tb_t h]
    generalize r.take n = A at *
    generalize hD : r.drop n = D at *
    have HR := Hid.mk (hR.set0 D)
    have HC := Hid.mk (Cg.set g w 0 (str D))
    clear e1 e2 hD
    go_enter Try.func36, Try.ntmps36
    go_wp2_with fail
    go_ret
    exact ⟨rfl, HR.out, HC.out⟩
  · have d1 : decide ((r.length : Int) < (n : Int)) = true := decide_eq_true (by omega)
    have e1 : tv n r = [] := by unfold tv; rw [if_neg h]
    have e2 : tr n r = r := by unfold tr; rw [if_neg h]
    have e3 : tb n r b = true := by unfold tb; rw [if_neg h]
    rw [e1, e2, e3]
    have HR := Hid.mk (hR.set1 true)
    have HC := Hid.mk (Cg.set g w 1 (.bool true))
    clear e1 e2 e3
    go_enter Try.func36, Try.ntmps36
    go_wp2_with fail
    go_ret
    exact ⟨rfl, HR.out, HC.out⟩
theorem conv_bytes (s : List UInt8) (w : World) : ∃ cap w', (convert 9 35 (str s)).run Try.prog w = .ok (.slice (some ⟨w.heap.size, 0, none⟩) s.length cap) w' ∧ Below w.heap.size w w' ∧ w'.heap.size = w.heap.size + 1 ∧ ∀ j, j < s.length → w'.cell? ⟨w.heap.size, j, none⟩ = some (.int .u8 ((s.getD j 0).toNat : Int)) := by
  refine ⟨grownCap w s.length 0 5, Lib.bytesWorld w 5 ⟨s.toArray⟩, ?_, ?_, Lib.bytesWorld_size w 5 ⟨s.toArray⟩, fun j hj => ?_⟩
  · have := Lib.run_convert_string_bytes (P := Try.prog) w 9 35 5 ⟨s.toArray⟩ Try.underlying9 Try.underlying35 Try.underlying5
    rw [str_size] at this
    exact this
  · refine ⟨?_, ?_, ?_, by rw [Lib.bytesWorld_size]; omega, fun k hk => Lib.bytesWorld_at_old w 5 _ k hk⟩
    all_goals (unfold Lib.bytesWorld World.freeze; split <;> rfl)
  · have := Lib.bytesWorld_cell w 5 ⟨s.toArray⟩ j (by rw [str_size]; exact hj)
    simpa using this
theorem or8u (n : Nat) (c : UInt8) (h : n < 72057594037927936) : bits BinOp.or IntKind.u64 ((n : Int) * 256) (c.toNat : Int) = ((n * 256 + c.toNat : Nat) : Int) := by
  have hc := c.toNat_lt
  have e : (n : Int) * 256 = ((n * 256 : Nat) : Int) := by omega
  have := Nat.two_pow_add_eq_or_of_lt (i := 8) (b := c.toNat) (by omega) n
  have hx : (n * 256) ||| c.toNat = n * 256 + c.toNat := by rw [show n * 256 = 2 ^ 8 * n by omega, ← this]
  rw [e]
  show IntKind.u64.wrap ((BitVec.ofInt 64 ((n * 256 : Nat) : Int) ||| BitVec.ofInt 64 ((c.toNat : Nat) : Int)).toNat : Int) = _
  rw [BitVec.ofInt_natCast, BitVec.ofInt_natCast, BitVec.toNat_or, BitVec.toNat_ofNat, BitVec.toNat_ofNat, Nat.mod_eq_of_lt (by omega), Nat.mod_eq_of_lt (by omega), hx, IntKind.wrap_u64]
  omega
theorem vl_next {s : List UInt8} {k : Nat} (h : k < s.length) : vl (s.take (k + 1)) = vl (s.take k) * 256 + (s.getD k 0).toNat := by
  rw [List.take_add_one, List.getElem?_eq_getElem h]
  show vl (s.take k ++ [s[k]]) = _
  rw [vl_snoc, List.getD_eq_getElem?_getD, List.getElem?_eq_getElem h]; rfl
set_option maxHeartbeats 1000000 in
theorem number_any (n : Nat) (r : List UInt8) (b : Bool) (w : World) (g : Nat) (hR : RB w g r b) (hn : n ≤ 8) (hr : r.length ≤ 9223372036854775807) :
    Calls Try.prog 27 #[.pointer (some ⟨g, 0, none⟩), .int .i64 (n : Int)] w fun e w' => e = .returned (.int .u64 (vl (tv n r) : Int)) ∧ RB w' g (tr n r) (tb n r b) ∧ Cg g w w' := by
  have ht := take_any n r b w g hR (by omega) hr
  have hl : (tv n r).length ≤ 8 := Nat.le_trans (tv_len n r) hn
  generalize tv n r = S at *
  go_enter Try.func27, Try.ntmps27
  go_wp2_with fail
  with_reducible refine Calls.mono ht ?_
  rintro e w1 ⟨rfl, R1, C1⟩
  dsimp only
  obtain ⟨cp, w2, hcv, b2, hs2, hc2⟩ := conv_bytes S w1
  have R2 := R1.later b2
  have C2 := C1.trans (Cg.of b2 R1.lt)
  clear ht R1 C1 b2
  go_wp2_with fail
  go_loopw [5, 13] (fun v i wr => ∃ k : Nat, k ≤ S.length ∧ i = .int .i64 (k : Int) ∧ v = .int .u64 (vl (S.take k) : Int) ∧ wr = w2) (fun _ i _ => S.length - (intOf i).toNat)
  case atStart => exact ⟨0, by omega, rfl, rfl, rfl⟩
  case round =>
    obtain ⟨k, hk, rfl, rfl, rfl⟩ := hrel
    by_cases hlt : k < S.length
    · have hd : decide ((k : Int) < (S.length : Int)) = true := decide_eq_true (by omega)
      have k2 : (k : Int) < (S.length : Int) := by omega
      have c2 := hc2 k hlt
      have HN := Hid.mk (vl_next hlt)
      have hv : vl (S.take k) < 72057594037927936 := by
        have := vl_lt (S.take k)
        rw [List.length_take] at this
        exact Nat.lt_of_lt_of_le this (Nat.le_trans (Nat.pow_le_pow_right (by omega) (show min k S.length ≤ 7 by omega)) (by decide))
      have hor := or8u (vl (S.take k)) (S.getD k 0) hv
      have hc := (S.getD k 0).toNat_lt
      generalize S.getD k 0 = C at *
      generalize vl (S.take k) = V at *
      have hwv : IntKind.u64.wrap ((V : Int) * 256) = (V : Int) * 256 := by rw [IntKind.wrap_u64]; omega
      clear hc2
      go_wp2_with fail
      exact ⟨⟨k + 1, by omega, by go_num, by rw [HN.out]; rfl, trivial⟩, by simp [intOf]; omega⟩
    · obtain rfl : k = S.length := by omega
      have hd : decide ((S.length : Int) < (S.length : Int)) = false := decide_eq_false (by omega)
      rw [List.take_length]
      go_wp2_with fail
      go_ret
      exact ⟨rfl, R2, C2⟩
theorem sclone_any (l : List UInt8) (w : World) (h : l.length ≤ 1000000) : Calls Try.prog 37 #[str l] w fun e w' => e = .returned (str l) ∧ Below w.heap.size w w' := by
  have hc := Try.stringslite_Clone ⟨l.toArray⟩ w (by rw [str_size]; omega)
  go_enter Try.func37, Try.ntmps37
  go_wp2_with (go_at_call 40; refine hc.mono ?_; rintro e w1 ⟨rfl, hb1⟩)
  go_ret
  exact ⟨rfl, hb1⟩
set_option maxHeartbeats 1000000 in
theorem text_any (n : Nat) (r : List UInt8) (b : Bool) (w : World) (g : Nat) (hR : RB w g r b) (hn : n ≤ 2) (hr : r.length ≤ 9223372036854775807) :
    Calls Try.prog 28 #[.pointer (some ⟨g, 0, none⟩), .int .i64 (n : Int)] w fun e w' => e = .returned (str (xv n r)) ∧ RB w' g (xr n r) (xb n r b) ∧ Cg g w w' := by
  have hnum := number_any n r b w g hR (by omega) hr
  have hvl : vl (tv n r) ≤ 65535 := by
    have := vl_small (w := n) r
    have h2 : (256 : Nat) ^ n ≤ 256 ^ 2 := Nat.pow_le_pow_right (by omega) hn
    omega
  have hl1 : (tr n r).length ≤ 9223372036854775807 := Nat.le_trans (tr_len n r) hr
  have hl2 : (xv n r).length ≤ 1000000 := Nat.le_trans (tv_len _ _) (by omega)
  have hti : ∀ w' : World, RB w' g (tr n r) (tb n r b) → Calls Try.prog 36 #[.pointer (some ⟨g, 0, none⟩), .int .i64 (vl (tv n r) : Int)] w' fun e w'' => e = .returned (str (xv n r)) ∧ RB w'' g (xr n r) (xb n r b) ∧ Cg g w' w'' := fun w' h => take_any (vl (tv n r)) (tr n r) (tb n r b) w' g h (by omega) hl1
  generalize xv n r = A at *
  generalize xr n r = B at *
  generalize xb n r b = C at *
  generalize vl (tv n r) = N at *
  go_enter Try.func28, Try.ntmps28
  go_wp2_with fail
  with_reducible refine Calls.mono hnum ?_
  rintro e w1 ⟨rfl, R1, C1⟩
  dsimp only
  go_wp2_with fail
  with_reducible refine Calls.mono (hti w1 R1) ?_
  rintro e w2 ⟨rfl, R2, C2⟩
  dsimp only
  go_wp2_with fail
  with_reducible refine Calls.mono (sclone_any A w2 hl2) ?_
  rintro e w3 ⟨rfl, b3⟩
  dsimp only
  go_wp2_with fail
  go_ret
  exact ⟨rfl, R2.later b3, (C1.trans C2).trans (Cg.of b3 R2.lt)⟩
end Go.Proofs.Ytahdndmmakdamaa
