import Derived.Test.YtjoaiagiankfdaaDoorRows2
import Derived.Test.YtjoaiagiankfdaaDoorShelf
namespace Go.Proofs.YtjoaiagiankfdaaDoor
set_option linter.unusedVariables false
set_option linter.unusedSimpArgs false
open Go.RowKit
def isdig (b : UInt8) : Bool := Sha.digs.contains b
def dval (b : UInt8) : Nat := Sha.digs.idxOf b
def dvi (b : UInt8) : Int := if isdig b then (dval b : Int) else -1
theorem ib_all : ∀ n, n < 256 → Lib.indexByte Sha.digs (UInt8.ofNat n) = dvi (UInt8.ofNat n) := by decide +kernel
theorem ib_eq (b : UInt8) : Lib.indexByte Sha.digs b = dvi b := by
  have := ib_all b.toNat b.toNat_lt
  rwa [UInt8.ofNat_toNat] at this
theorem dig_any (b : UInt8) (w : World) : Calls Tryd.prog 20 #[.string ⟨#[48, 49, 50, 51, 52, 53, 54, 55, 56, 57, 97, 98, 99, 100, 101, 102]⟩, .int .u8 (b.toNat : Int)] w fun e w' => e = .returned (.int .i64 (dvi b)) ∧ w' = w := by
  refine (Tryd.strings_IndexByte _ _ w).mono ?_
  rintro e w' ⟨rfl, rfl⟩
  refine ⟨?_, rfl⟩
  rw [← ib_eq]
  have : ((b.toNat : Int).toNat.toUInt8) = b := by rw [Int.toNat_natCast]; exact UInt8.ofNat_toNat
  rw [this]
  rfl
theorem dval_lt (b : UInt8) (h : isdig b = true) : dval b < 16 := by
  unfold dval isdig at *
  have := List.idxOf_lt_length_iff.2 (List.contains_iff_mem.1 h)
  exact this
/-- The byte number i that the digits tell. -/
def pv (l : List UInt8) (i : Nat) : UInt8 := UInt8.ofNat (16 * dval (l.getD (2 * i) 0) + dval (l.getD (2 * i + 1) 0))
def digUpTo (l : List UInt8) (k : Nat) : Prop := ∀ j, j < k → isdig (l.getD j 0) = true
def okL (l : List UInt8) : Bool := decide (l.length = 64) && l.all isdig
def parsed (l : List UInt8) : Array Value := if okL l then b32 (pv l) else b32 (fun _ => 0)
theorem idxs (s : ByteArray) (l : List UInt8) (hl : l = s.data.toList) (p : Nat) (h : p < s.size) (w : World) : (Instr.index 9 (.string s) (.int .i64 (p : Int))).run Tryd.prog w = .ok (.int .u8 ((l.getD p 0).toNat : Int)) w := by
  rw [run_index_string _ _ _ _ _ Tryd.underlying9]
  have h2 : (0 : Int) ≤ (p : Int) ∧ (p : Int) < s.size := by omega
  have h3 : p < s.data.size := h
  rw [dif_pos h2]
  subst hl
  have : s.data.toList.getD p 0 = s[p] := by
    rw [List.getD_eq_getElem?_getD, List.getElem?_eq_getElem (by simpa using h3)]
    rfl
  rw [this]
  rfl
theorem res2 {tmps : Array Value} {w : World} {g : Nat} {A : Array Value} {t : TypeId} (b : Bool) (hp : tmps.getD 2 undef = .pointer (some ⟨g, 0, none⟩)) (hb : tmps.getD 3 undef = .bool b) (hg : w.heap[g]? = some (.cells A t (0, 0))) (hi : (Tryd.prog.info? 22).map (·.size) = some A.size) :
    (results Tryd.f11 tmps).run Tryd.prog w = .ok (.tuple #[.agg A, .bool b]) w := by
  have hp' : tmps[2]?.getD undef = .pointer (some ⟨g, 0, none⟩) := by simpa using hp
  have hb' : tmps[3]?.getD undef = .bool b := by simpa using hb
  have hl := run_loadVar_row (P := Tryd.prog) w g t 22 A (0, 0) _ hg Tryd.underlying22 rfl hi
  simp [results, Tryd.results11, hp', hb', asAddr, hl]
theorem zero_one (g : Nat → UInt8) {Z : Array Value} (h : pb 32 g 0 = Z) : Z.all (·.oneCell') = true := by rw [← h]; exact pb_one 32 g 0
theorem zero_size (g : Nat → UInt8) {Z : Array Value} (h : pb 32 g 0 = Z) : Z.size = 32 := by rw [← h]; exact pb_size 32 g 0
theorem parsed_no {l : List UInt8} (h : okL l = false) (g : Nat → UInt8) : parsed l = pb 32 g 0 := by
  unfold parsed; rw [h]
  show b32 (fun _ => 0) = pb 32 g 0
  unfold b32 pb
  apply Array.ext
  · simp
  · intro i h1 h2; simp
theorem okL_false {l : List UInt8} {j : Nat} (hj : j < l.length) (h : isdig (l.getD j 0) = false) : okL l = false := by
  unfold okL
  rw [Bool.and_eq_false_iff]; right
  rw [List.all_eq_false]
  refine ⟨l[j], List.getElem_mem hj, ?_⟩
  have : l.getD j 0 = l[j] := by rw [List.getD_eq_getElem?_getD, List.getElem?_eq_getElem hj]; rfl
  rw [← this, h]; simp
theorem okL_len {l : List UInt8} (h : l.length ≠ 64) : okL l = false := by
  unfold okL; rw [Bool.and_eq_false_iff]; left; exact decide_eq_false h
theorem okL_true {l : List UInt8} (h : l.length = 64) (hd : digUpTo l 64) : okL l = true := by
  unfold okL; rw [Bool.and_eq_true, decide_eq_true_eq, List.all_eq_true]
  refine ⟨h, fun x hx => ?_⟩
  obtain ⟨j, hj, rfl⟩ := List.getElem_of_mem hx
  have := hd j (by omega)
  rwa [List.getD_eq_getElem?_getD, List.getElem?_eq_getElem hj] at this
theorem or_digs : ∀ a : Nat, a < 16 → ∀ b : Nat, b < 16 → bits BinOp.or IntKind.i64 ((a : Int) * 16) (b : Int) % 256 = ((UInt8.ofNat (16 * a + b)).toNat : Int) := by decide +kernel
attribute [local go_sem ↓] Go.wp_at_zero Go.wp_at_succ
set_option maxHeartbeats 400000 in
set_option maxRecDepth 8000 in
theorem parse_any (s : ByteArray) (w : World) (hs : s.size ≤ 9223372036854775807) :
    Calls Tryd.prog 11 #[.string s] w fun e w' => e = .returned (.tuple #[.agg (parsed s.data.toList), .bool (okL s.data.toList)]) ∧ Below w.heap.size w w' := by
  obtain ⟨l, hl⟩ : ∃ l, l = s.data.toList := ⟨_, rfl⟩
  rw [← hl]
  have HL : Hid (l = s.data.toList) := hl
  clear hl
  by_cases h64 : s.size = 64
  · go_enter Tryd.func11, Tryd.ntmps11
    go_wp2_with fail
    rw [← pb32 (pv l)]
    obtain ⟨W, hW, hb, h1, h2⟩ : ∃ W, W = (w.alloc (Obj.cells (pb 32 (pv l) 0) 22)).alloc (Obj.cells (pb 32 (pv l) 0) 22) ∧ Below w.heap.size w W ∧ W.heap[w.heap.size]? = some (.cells (pb 32 (pv l) 0) 22 (0, 0)) ∧ W.heap[w.heap.size + 1]? = some (.cells (pb 32 (pv l) 0) 22 (0, 0)) :=
      ⟨_, rfl, ((Below.refl _ _).alloc (Nat.le_refl _) _).alloc (by simp) _, heap_alloc2_old _ _ _, heap_alloc2_new _ _ _⟩
    rw [← hW]
    clear hW
    generalize hB : w.heap.size = B at *
    go_loopw [12] (fun i wr => ∃ k : Nat, k ≤ 32 ∧ i = .int .i64 k ∧ digUpTo l (2 * k) ∧ Below B w wr ∧ wr.heap[B]? = some (.cells (pb 32 (pv l) 0) 22 (0, 0)) ∧ wr.heap[B + 1]? = some (.cells (pb 32 (pv l) k) 22 (0, 0))) (fun i _ => 32 - (intOf i).toNat)
    case atStart => exact ⟨0, by omega, rfl, fun j hj => absurd hj (by omega), hb, h1, h2⟩
    case round =>
      clear hb h1 h2
      obtain ⟨k, hk, rfl, hdig, hb, h1, h2⟩ := hrel
      have HD : Hid (digUpTo l (2 * k)) := hdig
      clear hdig
      by_cases hlt : k < 32
      · have hd : decide ((k : Int) < 32) = true := by simp; omega
        have i0 : (0 : Int) ≤ (k : Int) := by omega
        have i1 : (k : Int) < 32 := by omega
        obtain ⟨p, hp, hp64, w0⟩ : ∃ p, p = 2 * k ∧ p < s.size ∧ IntKind.i64.wrap (2 * (k : Int)) = (p : Int) := ⟨2 * k, rfl, by omega, by rw [IntKind.wrap_i64]; omega⟩
        obtain ⟨p1, hp1, hp164, w1⟩ : ∃ p1, p1 = p + 1 ∧ p1 < s.size ∧ IntKind.i64.wrap ((p : Int) + 1) = (p1 : Int) := ⟨p + 1, rfl, by omega, by rw [IntKind.wrap_i64]; omega⟩
        have q0 : (0 : Int) ≤ (p : Int) := by omega
        have q1 : (0 : Int) ≤ (p1 : Int) := by omega
        have r0 : (p : Int) < (s.size : Int) := by omega
        have r1 : (p1 : Int) < (s.size : Int) := by omega
        have e0 : (2 : Int) * (k : Int) = (p : Int) := by omega
        have e1 : (p : Int) + 1 = (p1 : Int) := by omega
        have x0 := idxs s l HL.out p hp64
        have x1 := idxs s l HL.out p1 hp164
        obtain ⟨c0, hc0⟩ : ∃ c, c = l.getD p 0 := ⟨_, rfl⟩
        obtain ⟨c1, hc1⟩ : ∃ c, c = l.getD p1 0 := ⟨_, rfl⟩
        rw [← hc0] at x0
        rw [← hc1] at x1
        have HP : Hid (p = 2 * k ∧ p1 = 2 * k + 1 ∧ c0 = l.getD p 0 ∧ c1 = l.getD p1 0) := ⟨hp, by omega, hc0, hc1⟩
        clear hp hp1 hc0 hc1 w0 w1
        go_wp2_with fail
        go_quiet ((go_at_call 20; exact Calls.quiet_of_same (dig_any _ _)))
        have hb' : Below B w (wr.drewN nq) := ⟨hb.os, hb.tape, hb.output, hb.size, hb.block⟩
        have h1' : (wr.drewN nq).heap[B]? = some (.cells (pb 32 (pv l) 0) 22 (0, 0)) := h1
        have h2' : (wr.drewN nq).heap[B + 1]? = some (.cells (pb 32 (pv l) k) 22 (0, 0)) := h2
        clear hb h1 h2
        generalize wr.drewN nq = wr at *
        cases hc0 : isdig c0
        · have ev : dvi c0 = -1 := by unfold dvi; rw [hc0]; rfl
          have hno : okL l = false := okL_false (j := p) (by rw [HL.out]; simpa using hp64) (by rw [← HP.out.2.2.1]; exact hc0)
          clear hc0
          go_wp2_with (refine wpList_store_row rfl 22 _ _ rfl _ _ rfl rfl 22 _ h1' info22 (zero_size _ rfl) (zero_one (pv l) (pb32 _)) ?_)
          refine bodyPost_ret (v := .tuple #[.agg (parsed l), .bool (okL l)]) ?_ rfl ⟨rfl, by subst hB; exact below_setRow hb' (Nat.le_refl _) _⟩
          rw [hno, parsed_no hno (pv l), pb32]
          exact res2 false rfl rfl (setRow_heap _ _ _ _ _ _ h1') info22
        · obtain ⟨d0, hd0, hd016, ev0⟩ : ∃ d0 : Nat, d0 = dval c0 ∧ d0 < 16 ∧ dvi c0 = (d0 : Int) := ⟨dval c0, rfl, dval_lt c0 hc0, by unfold dvi; rw [hc0]; rfl⟩
          cases hc1 : isdig c1
          · have ev : dvi c1 = -1 := by unfold dvi; rw [hc1]; rfl
            have hno : okL l = false := okL_false (j := p1) (by rw [HL.out]; simpa using hp164) (by rw [← HP.out.2.2.2]; exact hc1)
            have t0 : decide ((d0 : Int) < 0) = false := by simp
            clear hc0 hc1 hd0
            go_wp2_with (refine wpList_store_row rfl 22 _ _ rfl _ _ rfl rfl 22 _ h1' info22 (zero_size _ rfl) (zero_one (pv l) (pb32 _)) ?_)
            refine bodyPost_ret (v := .tuple #[.agg (parsed l), .bool (okL l)]) ?_ rfl ⟨rfl, by subst hB; exact below_setRow hb' (Nat.le_refl _) _⟩
            rw [hno, parsed_no hno (pv l), pb32]
            exact res2 false rfl rfl (setRow_heap _ _ _ _ _ _ h1') info22
          · obtain ⟨d1, hd1, hd116, ev1⟩ : ∃ d0 : Nat, d0 = dval c1 ∧ d0 < 16 ∧ dvi c1 = (d0 : Int) := ⟨dval c1, rfl, dval_lt c1 hc1, by unfold dvi; rw [hc1]; rfl⟩
            have HV : Hid (pv l k = UInt8.ofNat (16 * d0 + d1)) := by
              show _ = _
              unfold pv
              rw [hd0, hd1, HP.out.2.2.1, HP.out.2.2.2, HP.out.1, HP.out.2.1]
            have HD2 : Hid (digUpTo l (2 * (k + 1))) := by
              intro j hj
              by_cases e : j < 2 * k
              · exact HD.out j e
              · by_cases e2 : j = 2 * k
                · rw [e2, ← HP.out.1, ← HP.out.2.2.1]; exact hc0
                · have e3 : j = 2 * k + 1 := by omega
                  rw [e3, ← HP.out.2.1, ← HP.out.2.2.2]; exact hc1
            have t0 : decide ((d0 : Int) < 0) = false := by simp
            have t1 : decide ((d1 : Int) < 0) = false := by simp
            have g5 : wr.frozen? ⟨B + 1, k, none⟩ = false := frozen_of_row _ _ _ _ _ h2'
            obtain ⟨v0, g4⟩ : ∃ v, wr.cell? ⟨B + 1, k, none⟩ = some v := ⟨_, by rw [cell_of_row _ _ _ _ _ _ h2']; exact Array.getElem?_eq_getElem (by rw [pb_size]; omega)⟩
            clear hc0 hc1 hd0 hd1
            go_wp2_with fail
            go_round
            case rel =>
              refine ⟨k + 1, by omega, by go_num, HD2.out, hb'.setCell (by show B ≤ B + 1; omega) _, ?_, ?_⟩
              · rw [Below.heap_setCell _ _ _ _ (by show B ≠ B + 1; omega), h1']
              · rw [cell_set _ _ _ _ _ _ h2', or_digs d0 hd016 d1 hd116, ← HV.out, pb_set 32 _ k hlt]
            case measure => simp [intOf]; omega
      · obtain rfl : k = 32 := by omega
        have hd : decide ((32 : Int) < 32) = false := by decide
        have hs32 : (pb 32 (pv l) 32).size = 32 := pb_size 32 _ 32
        have ho : (pb 32 (pv l) 32).all (·.oneCell') = true := pb_one 32 _ 32
        have hz : (pb 32 (pv l) 0).size = (pb 32 (pv l) 32).size := by rw [pb_size, pb_size]
        have hyes : okL l = true := okL_true (by rw [HL.out]; simpa using h64) HD.out
        have e8 : Hid (pb 32 (pv l) 32 = parsed l) := by show _ = _; unfold parsed; rw [hyes]; rfl
        generalize pb 32 (pv l) 32 = A at *
        have hi : (Tryd.prog.info? 22).map (·.size) = some A.size := by rw [hs32]; exact info22
        go_wp2_with (first
          | (refine wpList_load_row rfl 22 _ rfl _ rfl 22 _ (0, 0) _ h2 Tryd.underlying22 rfl hi ?_)
          | (refine wpList_store_row rfl 22 _ _ rfl _ _ rfl rfl 22 _ h1 hi hz ho ?_))
        refine bodyPost_ret (v := .tuple #[.agg (parsed l), .bool (okL l)]) ?_ rfl ⟨rfl, by subst hB; exact below_setRow hb (Nat.le_refl _) _⟩
        rw [hyes, ← e8.out]
        exact res2 true rfl rfl (setRow_heap _ _ _ _ _ _ h1) hi
  · have hno : okL l = false := okL_len (by rw [HL.out]; simpa using h64)
    have hne : ((s.size : Int) != 64) = true := by rw [bne_iff_ne]; omega
    go_enter Tryd.func11, Tryd.ntmps11
    go_wp2_with (first
      | (refine wpList_load_row rfl 22 _ rfl _ rfl 22 _ (0, 0) _ (heap_alloc2_new _ _ _) Tryd.underlying22 rfl info22 ?_)
      | (refine wpList_store_row rfl 22 _ _ rfl _ _ rfl rfl 22 _ (heap_alloc2_old _ _ _) info22 rfl (zero_one (pv l) (pb32 _)) ?_))
    refine bodyPost_ret (v := .tuple #[.agg (parsed l), .bool (okL l)]) ?_ rfl ⟨rfl, below_setRow (((Below.refl _ _).alloc (Nat.le_refl _) _).alloc (by simp) _) (Nat.le_refl _) _⟩
    rw [hno, parsed_no hno (pv l), pb32]
    exact res2 false rfl rfl (setRow_heap _ _ _ _ _ _ (heap_alloc2_old _ _ _)) info22
end Go.Proofs.YtjoaiagiankfdaaDoor
