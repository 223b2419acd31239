/- The document's reader: take, number. -/
import Derived.Test.YtahdndmmakdamaaQw
namespace Go.Proofs.Ytahdndmmakdamaa
set_option linter.unusedVariables false
set_option linter.unusedSimpArgs false
open Go.RowKit
attribute [local go_sem ↓] Go.wp_at_zero Go.wp_at_succ
attribute [local go_sem ↓] sl9 ix9
/-- the document's: bad stays bad -/
def qv (n : Nat) (r : List UInt8) (b : Bool) : List UInt8 := if b = true then [] else tv n r
def qr (n : Nat) (r : List UInt8) (b : Bool) : List UInt8 := if b = true then r else tr n r
theorem qv_f (n : Nat) (r : List UInt8) : qv n r false = tv n r := by unfold qv; rw [if_neg (by decide)]
theorem qr_f (n : Nat) (r : List UInt8) : qr n r false = tr n r := by unfold qr; rw [if_neg (by decide)]
theorem qv_len (n : Nat) (r : List UInt8) (b : Bool) : (qv n r b).length ≤ n := by
  unfold qv
  split
  · simp
  · exact tv_len n r
theorem qr_len (n : Nat) (r : List UInt8) (b : Bool) : (qr n r b).length ≤ r.length := by
  unfold qr
  split
  · exact Nat.le_refl _
  · exact tr_len n r
/-- a reader's block -/
def QB (w : World) (g : Nat) (r : List UInt8) (b : Bool) : Prop := w.heap[g]? = some (.cells #[str r, .bool b] 52 (0, 0))
theorem QB.lt {w : World} {g : Nat} {r : List UInt8} {b : Bool} (h : QB w g r b) : g < w.heap.size := (Array.getElem?_eq_some_iff.1 h).1
theorem QB.cells {w : World} {g : Nat} {r : List UInt8} {b : Bool} (h : QB w g r b) : w.cell? ⟨g, 0, none⟩ = some (str r) ∧ w.cell? ⟨g, 1, none⟩ = some (.bool b) ∧ ∀ j, w.frozen? ⟨g, j, none⟩ = false :=
  ⟨(box2 h).1, (box2 h).2, fun j => frozen_of_row _ _ _ _ _ h⟩
theorem QB.set0 {w : World} {g : Nat} {r : List UInt8} {b : Bool} (h : QB w g r b) (r' : List UInt8) : QB (w.setCell ⟨g, 0, none⟩ (str r')) g r' b := by
  unfold QB
  rw [heap_setCell_same _ _ _ _ _ _ h]; rfl
theorem QB.set1 {w : World} {g : Nat} {r : List UInt8} {b : Bool} (h : QB w g r b) (b' : Bool) : QB (w.setCell ⟨g, 1, none⟩ (.bool b')) g r b' := by
  unfold QB
  rw [heap_setCell_same _ _ _ _ _ _ h]; rfl
theorem QB.later {w w' : World} {g : Nat} {r : List UInt8} {b : Bool} (h : QB w g r b) (hb : Below w.heap.size w w') : QB w' g r b := by
  unfold QB
  rw [hb.block g h.lt]; exact h
theorem QB.up {w w' : World} {g B : Nat} {r : List UInt8} {b : Bool} (h : QB w g r b) (hg : g < B) (hb : Below B w w') : QB w' g r b := by unfold QB; rw [hb.block g hg]; exact h
theorem QB.other {w : World} {g : Nat} {r : List UInt8} {b : Bool} (h : QB w g r b) {g2 j : Nat} (hg : g ≠ g2) (c : Value) : QB (w.setCell ⟨g2, j, none⟩ c) g r b := by
  unfold QB
  rw [heap_setCell_other _ _ _ _ (by first | exact hg | exact hg.symm)]; exact h
set_option maxHeartbeats 1000000 in
theorem qtake_any (n : Nat) (r : List UInt8) (b : Bool) (w : World) (g : Nat) (hR : QB w g r b) (hn : n ≤ 100000) (hr : r.length ≤ 9223372036854775807) :
    Calls Try.prog 25 #[.pointer (some ⟨g, 0, none⟩), .int .i64 (n : Int)] w fun e w' => e = .returned (str (qv n r b)) ∧ QB w' g (qr n r b) (tb n r b) ∧ Cg g w w' := by
  obtain ⟨c0, c1, cf⟩ := hR.cells
  have f0 := cf 0
  have f1 := cf 1
  cases b with
  | true =>
    have e3 : tb n r true = true := by unfold tb; split <;> rfl
    have e1 : qv n r true = [] := by unfold qv; rw [if_pos rfl]
    have e2 : qr n r true = r := by unfold qr; rw [if_pos rfl]
    rw [e1, e2, e3]
    have HR := Hid.mk (hR.set1 true)
    have HC := Hid.mk (Cg.set g w 1 (.bool true))
    clear e1 e2 e3
    go_enter Try.func25, Try.ntmps25
    go_wp2_with fail
    go_ret
    exact ⟨rfl, HR.out, HC.out⟩
  | false =>
    rw [qv_f, qr_f]
    by_cases h : n ≤ r.length
    · have d1 : decide ((r.length : Int) < (n : Int)) = false := decide_eq_false (by omega)
      have e1 : tv n r = r.take n := by unfold tv; rw [if_pos h]
      have e2 : tr n r = r.drop n := by unfold tr; rw [if_pos h]
      have t1 := run_hi r n h hr
      have t2 := run_lo r n h hr
      rw [e1, e2, tb_t h]
      generalize r.take n = A at *
      generalize hD : r.drop n = D at *
      have HR := Hid.mk (hR.set0 D)
      have HC := Hid.mk (Cg.set g w 0 (str D))
      clear e1 e2 hD
      go_enter Try.func25, Try.ntmps25
      go_wp2_with fail
      go_ret
      exact ⟨rfl, HR.out, HC.out⟩
    · have d1 : decide ((r.length : Int) < (n : Int)) = true := decide_eq_true (by omega)
      have e1 : tv n r = [] := by unfold tv; rw [if_neg h]
      have e2 : tr n r = r := by unfold tr; rw [if_neg h]
      have e3 : tb n r false = true := by unfold tb; rw [if_neg h]
      rw [e1, e2, e3]
      have HR := Hid.mk (hR.set1 true)
      have HC := Hid.mk (Cg.set g w 1 (.bool true))
      clear e1 e2 e3
      go_enter Try.func25, Try.ntmps25
      go_wp2_with fail
      go_ret
      exact ⟨rfl, HR.out, HC.out⟩
set_option maxHeartbeats 1000000 in
theorem qnumber_any (n : Nat) (r : List UInt8) (b : Bool) (w : World) (g : Nat) (hR : QB w g r b) (hn : n ≤ 8) (hr : r.length ≤ 9223372036854775807) :
    Calls Try.prog 24 #[.pointer (some ⟨g, 0, none⟩), .int .i64 (n : Int)] w fun e w' => e = .returned (.int .i64 (sgn (vl (qv n r b)))) ∧ QB w' g (qr n r b) (tb n r b) ∧ Cg g w w' := by
  have ht := qtake_any n r b w g hR (by omega) hr
  have hl : (qv n r b).length ≤ 8 := Nat.le_trans (qv_len n r b) hn
  generalize qv n r b = S at *
  have hsg : IntKind.i64.wrap (vl S : Int) = sgn (vl S) := sgn_wrap _ (by
    have := vl_lt S
    exact Nat.lt_of_lt_of_le this (Nat.le_trans (Nat.pow_le_pow_right (by omega) hl) (by decide)))
  generalize sgn (vl S) = Z at *
  go_enter Try.func24, Try.ntmps24
  go_wp2_with fail
  with_reducible refine Calls.mono ht ?_
  rintro e w1 ⟨rfl, R1, C1⟩
  dsimp only
  go_wp2_with fail
  go_loopw [6, 7] (fun v i wr => ∃ k : Nat, k ≤ S.length ∧ i = .int .i64 (k : Int) ∧ v = .int .u64 (vl (S.take k) : Int) ∧ wr = w1) (fun _ i _ => S.length - (intOf i).toNat)
  case atStart => exact ⟨0, by omega, rfl, rfl, rfl⟩
  case round =>
    obtain ⟨k, hk, rfl, rfl, rfl⟩ := hrel
    by_cases hlt : k < S.length
    · have hd : decide ((k : Int) < (S.length : Int)) = true := decide_eq_true (by omega)
      have k2 : (k : Int) < (S.length : Int) := by omega
      have HN := Hid.mk (vl_next hlt)
      have hx := fun w => run_ix S k hlt w
      have hv : vl (S.take k) < 72057594037927936 := by
        have := vl_lt (S.take k)
        rw [List.length_take] at this
        exact Nat.lt_of_lt_of_le this (Nat.le_trans (Nat.pow_le_pow_right (by omega) (show min k S.length ≤ 7 by omega)) (by decide))
      have hor := or8u (vl (S.take k)) (S.getD k 0) hv
      have hc := (S.getD k 0).toNat_lt
      generalize S.getD k 0 = C at *
      generalize vl (S.take k) = V at *
      have hwv : IntKind.u64.wrap ((V : Int) * 256) = (V : Int) * 256 := by rw [IntKind.wrap_u64]; omega
      clear hsg
      go_wp2_with fail
      exact ⟨⟨k + 1, by omega, by go_num, by rw [HN.out]; rfl, trivial⟩, by simp [intOf]; omega⟩
    · obtain rfl : k = S.length := by omega
      have hd : decide ((S.length : Int) < (S.length : Int)) = false := decide_eq_false (by omega)
      rw [List.take_length]
      generalize vl S = Y at *
      go_wp2_with fail
      go_ret
      exact ⟨rfl, R1, C1⟩
end Go.Proofs.Ytahdndmmakdamaa
