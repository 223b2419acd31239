/- the head as a write; numberAt; what a first sector says. -/
import Derived.Test.YtghdgddpdamhcaaGreatHdt
import Derived.Laws.BitsAllLaws
namespace Go.Proofs.YtghdgddpdamhcaaGreat
set_option linter.unusedVariables false
set_option linter.unusedSimpArgs false
open Go.RowKit
set_option maxRecDepth 100000 in
theorem hwrites_any (s c : Nat) (hs : s < 65536) (hc : c < 65536) (w : World) : Calls Tryz.prog 102 #[.agg #[.int .i64 (s : Int), .int .i64 (c : Int)]] w fun e w' => ∃ g, e = .returned (rw_ g 1 1) ∧ w'.ownsRow 0 95 2 (rw_ g 1 1) 1 (wcs [(0, NN.hd s c)]) ∧ Below w.heap.size w w' ∧ w.heap.size ≤ g := by
  have HW : Hid (Below w.heap.size w (w.alloc (.cells #[.int .i64 (s : Int), .int .i64 (c : Int)] 117))) := ⟨(Below.refl _ _).alloc (Nat.le_refl _) _⟩
  go_enter Tryz.func102, Tryz.ntmps102
  go_wp2_with fail
  refine (text_any s c hs hc _).mono ?_
  rintro e w1 ⟨rfl, b1⟩
  generalize hW : w.alloc (.cells #[.int .i64 (s : Int), .int .i64 (c : Int)] 117) = W at *
  dsimp only
  go_wp2
  go_ret
  have B1 : Below w.heap.size w w1 := HW.out.trans (b1.mono HW.out.size)
  refine ⟨w1.heap.size, rfl, ⟨rfl, .inr ⟨w1.heap.size, 1, _, rfl, Nat.zero_le _, heap_alloc_new w1 _, Nat.le_refl _, by decide, rfl, rfl⟩⟩, B1.alloc B1.size _, B1.size⟩
noncomputable def ixS (v i : Value) : Sem Value := Instr.index 9 v i
theorem ix9 (v i : Value) : Instr.index 9 v i = ixS v i := rfl
theorem run_ix (t : ByteArray) (p : Nat) (h : p < t.size) (w : World) : (ixS (.string t) (.int .i64 (p : Int))).run Tryz.prog w = .ok (.int .u8 (byteAt t p : Int)) w := by
  unfold ixS
  rw [run_index_string _ _ _ _ _ Tryz.underlying9]
  have h2 : (0 : Int) ≤ (p : Int) ∧ (p : Int) < t.size := by omega
  rw [dif_pos h2]
  congr 3
  unfold byteAt
  rw [List.getD_eq_getElem?_getD, List.getElem?_eq_getElem (show p < t.data.toList.length by rw [Array.length_toList]; exact h)]
  rfl
theorem or16 (x y : Nat) (hx : x < 256) (hy : y < 256) : bits BinOp.or IntKind.i64 ((x : Int) * 256) (y : Int) = ((x * 256 + y : Nat) : Int) := by
  have hn : x * 256 ||| y = x * 256 + y := by
    have := Nat.shiftLeft_add_eq_or_of_lt (i := 8) (b := y) hy x
    rw [Nat.shiftLeft_eq] at this
    exact this.symm
  have e1 : ∀ z : Nat, z < 18446744073709551616 → (BitVec.ofInt 64 (z : Int)).toNat = z := fun z hz => by rw [BitVec.toNat_ofInt]; omega
  have e2 : ((x : Int) * 256) = ((x * 256 : Nat) : Int) := by omega
  rw [e2]
  show IntKind.i64.wrap ((BitVec.ofInt 64 ((x * 256 : Nat) : Int) ||| BitVec.ofInt 64 (y : Int)).toNat : Int) = _
  rw [BitVec.toNat_or, e1 _ (by omega), e1 _ (by omega), hn, IntKind.wrap_i64]
  omega
attribute [local go_sem ↓] ix9
set_option maxRecDepth 100000 in
theorem numberAt_any (t : ByteArray) (k : Nat) {k' : Int} (hk' : k' = (k : Int)) (hk : k + 1 < t.size) (hs : t.size ≤ 140737488355328) (w : World) : Calls Tryz.prog 104 #[.string t, .int .i64 k'] w fun e w' => e = .returned (.int .i64 (numAt t k : Int)) ∧ ∃ m, w' = w.drewN m := by
  subst hk'
  have hw1 : wrap64 ((k : Int) + 1) = ((k + 1 : Nat) : Int) := by unfold wrap64; omega
  have i1 := fun n => run_ix t k (by omega) (w.drewN n)
  have i2 : ∀ n, (ixS (.string t) (.int .i64 ((k : Int) + 1))).run Tryz.prog (w.drewN n) = .ok (.int .u8 (byteAt t (k + 1) : Int)) (w.drewN n) := fun n => by
    have := run_ix t (k + 1) hk (w.drewN n)
    simpa using this
  have HO : Hid (bits BinOp.or IntKind.i64 ((byteAt t k : Int) * 256) (byteAt t (k + 1) : Int) = (numAt t k : Int)) := ⟨or16 _ _ (byteAt_lt t k) (byteAt_lt t (k + 1))⟩
  have l1 := byteAt_lt t k
  have l2 := byteAt_lt t (k + 1)
  generalize byteAt t k = x at *
  generalize byteAt t (k + 1) = y at *
  generalize numAt t k = z at *
  go_enter Tryz.func104, Tryz.ntmps104
  go_wp2
  go_quiet (fail)
  rw [HO.out]
  go_wp2
  go_ret
  exact ⟨rfl, nq, rfl⟩
theorem ba_dec (a b : ByteArray) : (a.toList == b.toList) = decide (a = b) := by
  rw [ByteArray.toList_eq, ByteArray.toList_eq]
  by_cases h : a = b
  · subst h; simp
  · rw [decide_eq_false h]
    refine beq_eq_false_iff_ne.2 fun e => h ?_
    apply ByteArray.ext; exact Array.toList_inj.1 e
theorem load_head {w : World} {G : Nat} {x y : Value} (c0 : w.cell? ⟨G, 0, none⟩ = some x) (c1 : w.cell? ⟨G, 1, none⟩ = some y) : (loadVar 117 ⟨G, 0, none⟩).run Tryz.prog w = .ok (.agg #[x, y]) w := by
  simp [loadVar, go_sem, c0, c1]
theorem results_c2 {fn : Func} {a u : Tmp} {t : TypeId} (h : fn.results = #[.cell a t, .tmp u]) (tmps : Array Value) (P : Program) (w : World) (x : Value) (ad : Addr) (ha : tmps.getD a undef = .pointer (some ad)) (hx : (loadVar t ad).run P w = .ok x w) :
    (results fn tmps).run P w = .ok (.tuple #[x, tmps.getD u undef]) w := by
  rw [Array.getD_eq_getD_getElem?] at ha
  simp [results, h, ha, hx, asAddr]
theorem numberAt_bel (t : ByteArray) (k : Nat) {k' : Int} (hk' : k' = (k : Int)) (hk : k + 1 < t.size) (hs : t.size ≤ 140737488355328) (w : World) : Calls Tryz.prog 104 #[.string t, .int .i64 k'] w fun e w' => e = .returned (.int .i64 (numAt t k : Int)) ∧ Below w.heap.size w w' :=
  (numberAt_any t k hk' hk hs w).mono fun e w' h => ⟨h.1, by obtain ⟨m, rfl⟩ := h.2; exact ⟨rfl, rfl, rfl, Nat.le_refl _, fun _ _ => rfl⟩⟩
set_option maxRecDepth 100000 in
theorem headOf_any (t : ByteArray) (ht : t.size = 512) (w : World) : Calls Tryz.prog 80 #[.string t] w fun e w' => e = .returned (.tuple #[.agg #[.int .i64 (numAt t 11 : Int), .int .i64 (numAt t 13 : Int)], .bool (decide (NN.hd (numAt t 11) (numAt t 13) = t))]) ∧ Below w.heap.size w w' := by
  have HA : Hid (Calls Tryz.prog 104 #[.string t, .int .i64 11] w fun e w' => e = .returned (.int .i64 (numAt t 11 : Int)) ∧ Below w.heap.size w w') := ⟨numberAt_bel t 11 rfl (by omega) (by omega) w⟩
  have h11 := numAt_lt t 11
  have h13 := numAt_lt t 13
  have N11 : Hid (∀ w, Calls Tryz.prog 104 #[.string t, .int .i64 11] w fun e w' => e = .returned (.int .i64 (numAt t 11 : Int)) ∧ Below w.heap.size w w') := ⟨fun w => numberAt_bel t 11 rfl (by omega) (by omega) w⟩
  have N13 : Hid (∀ w, Calls Tryz.prog 104 #[.string t, .int .i64 13] w fun e w' => e = .returned (.int .i64 (numAt t 13 : Int)) ∧ Below w.heap.size w w') := ⟨fun w => numberAt_bel t 13 rfl (by omega) (by omega) w⟩
  have TX := text_any (numAt t 11) (numAt t 13) h11 h13
  have HB : Hid (((NN.hd (numAt t 11) (numAt t 13)).toList == t.toList) = decide (NN.hd (numAt t 11) (numAt t 13) = t)) := ⟨ba_dec _ _⟩
  generalize NN.hd (numAt t 11) (numAt t 13) = X at *
  generalize numAt t 11 = a at *
  generalize numAt t 13 = b at *
  go_enter Tryz.func80, Tryz.ntmps80
  go_wp2_with fail
  refine (N11.out _).mono ?_
  rintro e w1 ⟨rfl, b1⟩
  dsimp only
  go_wp2_with fail
  refine (N13.out _).mono ?_
  rintro e w2 ⟨rfl, b2⟩
  dsimp only
  go_wp2_with fail
  have hp0 : (w.alloc (.cells #[.int .i64 0, .int .i64 0] 117)).heap[w.heap.size]? = some (.cells #[.int .i64 0, .int .i64 0] 117 (0, 0)) := heap_alloc_new w _
  have B0 : Below w.heap.size w (w.alloc (.cells #[.int .i64 0, .int .i64 0] 117)) := (Below.refl _ _).alloc (Nat.le_refl _) _
  have B2 : Below w.heap.size w w2 := (B0.trans (b1.mono B0.size)).trans (b2.mono (Nat.le_trans B0.size b1.size))
  have hlt : w.heap.size < w2.heap.size := by have := b1.size; have := b2.size; simp at *; omega
  have hp2 : w2.heap[w.heap.size]? = some (.cells #[.int .i64 0, .int .i64 0] 117 (0, 0)) := (b2.block _ (by have := b1.size; simp at this; omega)).trans ((b1.block _ (by simp)).trans hp0)
  have hp3 : (w2.alloc (.cells #[.int .i64 (a : Int), .int .i64 (b : Int)] 117)).heap[w.heap.size]? = some (.cells #[.int .i64 0, .int .i64 0] 117 (0, 0)) := (heap_alloc_old w2 _ hlt).trans hp2
  have hg3 : (w2.alloc (.cells #[.int .i64 (a : Int), .int .i64 (b : Int)] 117)).heap[w2.heap.size]? = some (.cells #[.int .i64 (a : Int), .int .i64 (b : Int)] 117 (0, 0)) := heap_alloc_new w2 _
  have B3 : Hid (Below w.heap.size w (w2.alloc (.cells #[.int .i64 (a : Int), .int .i64 (b : Int)] 117))) := ⟨B2.alloc B2.size _⟩
  have hgl : w2.heap.size < (w2.alloc (.cells #[.int .i64 (a : Int), .int .i64 (b : Int)] 117)).heap.size := by simp
  generalize w2.alloc (.cells #[.int .i64 (a : Int), .int .i64 (b : Int)] 117) = W at *
  generalize w2.heap.size = g at *
  generalize hpp : w.heap.size = p at *
  clear hp0 B0 B2 b1 b2 hp2
  have cg0 : W.cell? ⟨g, 0, none⟩ = some (.int .i64 (a : Int)) := cell_of_row W g 0 _ _ (0, 0) hg3
  have cg1 : W.cell? ⟨g, 1, none⟩ = some (.int .i64 (b : Int)) := cell_of_row W g 1 _ _ (0, 0) hg3
  have HT : Hid (∀ (W1 w5 : World), W1.heap = W.heap → Below W1.heap.size W1 w5 → w5.cell? ⟨g, 0, none⟩ = some (.int .i64 (a : Int)) ∧ w5.cell? ⟨g, 1, none⟩ = some (.int .i64 (b : Int)) ∧ w5.heap[p]? = some (.cells #[.int .i64 0, .int .i64 0] 117 (0, 0))) := ⟨fun W1 w5 e b5 => by
    have h1 : w5.heap[g]? = some (.cells #[.int .i64 (a : Int), .int .i64 (b : Int)] 117 (0, 0)) := (b5.block g (by rw [e]; exact hgl)).trans (by rw [e]; exact hg3)
    exact ⟨cell_of_row w5 g 0 _ _ (0, 0) h1, cell_of_row w5 g 1 _ _ (0, 0) h1, (b5.block p (by rw [e]; omega)).trans (by rw [e]; exact hp3)⟩⟩
  go_region_with (go_at_call 105; refine (TX _).mono ?_; rintro e w5 ⟨rfl, b5⟩; have h5 := HT.out _ _ (by rfl) b5; have c50 := h5.1; have c51 := h5.2.1; have hp5 := h5.2.2; have d50 := cell_of_row w5 p 0 _ _ (0, 0) hp5; have d51 := cell_of_row w5 p 1 _ _ (0, 0) hp5; have f50 := frozen_of_row w5 p 0 _ _ hp5; have f51 := frozen_of_row w5 p 1 _ _ hp5; simp only [List.getElem?_toArray, List.getElem?_cons_zero, List.getElem?_cons_succ] at d50 d51)
  all_goals
    go_wp2_with fail
    refine bodyPost_ret (results_c2 (fn := Tryz.f80) (a := 2) (u := 3) (t := 117) (by kernel_rfl) _ _ _ _ _ rfl (load_head (G := p) (x := .int .i64 (a : Int)) (y := .int .i64 (b : Int)) (by simp [go_sem, d50, d51]) (by simp [go_sem, d50, d51]))) rfl ?_
    refine ⟨?_, ?_⟩
    · simp only [HB.out]
      rfl
    · have e1 := B3.out.drew
      subst hpp
      have e2 : Below w.heap.size w w5 := e1.trans (b5.mono e1.size)
      exact (e2.setCell (Nat.le_refl _) _).setCell (Nat.le_refl _) _
end Go.Proofs.YtghdgddpdamhcaaGreat
