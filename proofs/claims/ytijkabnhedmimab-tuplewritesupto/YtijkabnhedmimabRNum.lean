/- readNumber, readPart: what stands ahead of a text. -/
import Derived.Test.YtijkabnhedmimabRGrp
namespace Go.Proofs.Ytijkabnhedmimab
set_option linter.unusedVariables false
set_option linter.unusedSimpArgs false
open Go.RowKit
attribute [local go_sem ↓] Go.wp_at_zero Go.wp_at_succ
attribute [local go_sem ↓] sl9 ix9
theorem or8 (n : Nat) (c : UInt8) (h : n < 72057594037927936) : bits BinOp.or IntKind.u64 ((n * 256 : Nat) : Int) (c.toNat : Int) = ((n * 256 + c.toNat : Nat) : Int) := by
  have hc := c.toNat_lt
  rw [u64_or_nat (n * 256) c.toNat (by omega) (by omega)]
  have := Nat.two_pow_add_eq_or_of_lt (i := 8) (b := c.toNat) (by omega) n
  rw [show n * 256 = 2 ^ 8 * n by omega, ← this]
theorem take_one {l : List UInt8} {k : Nat} (h : k < l.length) : l.take (k + 1) = l.take k ++ [l.getD k 0] := by
  rw [List.take_add_one, List.getD_eq_getElem?_getD, List.getElem?_eq_getElem h]
  rfl
theorem nval_take {l : List UInt8} {k : Nat} (h : k < l.length) : nval (l.take (k + 1)) = nval (l.take k) * 256 + (l.getD k 0).toNat := by rw [take_one h, nval_snoc]
theorem nval_small {l : List UInt8} {k : Nat} (hk : k ≤ 7) : nval (l.take k) < 72057594037927936 := by
  have h := nval_lt (l.take k)
  have h2 : (l.take k).length ≤ 7 := by rw [List.length_take]; omega
  exact Nat.lt_of_lt_of_le h (Nat.le_trans (Nat.pow_le_pow_right (by decide) h2) (by decide))
set_option maxHeartbeats 1000000 in
theorem readNumber_any (b : List UInt8) (w : World) (hl : b.length ≤ 200000000000000) :
    Calls Try.prog 35 #[str b] w fun e w' => e = .returned (if b.length < 8 then .tuple #[.int .u64 0, str [], .bool false] else .tuple #[.int .u64 (nval (b.take 8) : Int), str (b.drop 8), .bool true]) ∧ Below w.heap.size w w' := by
  by_cases h8 : b.length < 8
  · rw [if_pos h8]
    have hd : decide ((b.length : Int) < 8) = true := decide_eq_true (by omega)
    go_enter Try.func35, Try.ntmps35
    go_wp2_with fail
    go_ret3
    exact ⟨rfl, Below.refl _ _⟩
  · rw [if_neg h8]
    have hd : decide ((b.length : Int) < 8) = false := decide_eq_false (by omega)
    have g1 : ∀ w, (slS (str b) (some (.int .i64 8)) none none).run Try.prog w = .ok (str (b.drop 8)) w := run_lo b 8 (by omega) (by omega)
    go_enter Try.func35, Try.ntmps35
    go_wp2_with fail
    go_loopw [2, 9] (fun n i wr => ∃ k : Nat, k ≤ 8 ∧ i = .int .i64 (k : Int) ∧ n = .int .u64 (nval (b.take k) : Int) ∧ Below w.heap.size w wr) (fun _ i _ => 8 - (intOf i).toNat)
    case atStart => exact ⟨0, by omega, rfl, rfl, Below.refl _ _⟩
    case round =>
      obtain ⟨k, hk, rfl, rfl, hb⟩ := hrel
      by_cases hlt : k < 8
      · have hd1 : decide ((k : Int) < 8) = true := decide_eq_true (by omega)
        have g3 := run_ix b k (by omega)
        have HN : Hid (nval (b.take (k + 1)) = nval (b.take k) * 256 + (b.getD k 0).toNat) := ⟨nval_take (by omega)⟩
        have hsm := nval_small (l := b) (k := k) (by omega)
        have hor := or8 _ (b.getD k 0) hsm
        generalize nval (b.take k) = n at *
        generalize b.getD k 0 = c at *
        have hc := c.toNat_lt
        have hw : ((n : Int) * 256) % 18446744073709551616 = ((n * 256 : Nat) : Int) := by omega
        go_wp2_with fail
        refine ⟨⟨k + 1, by omega, by go_num, ?_, hb⟩, by simp [intOf]; omega⟩
        rw [show (n : Int) * 256 = ((n * 256 : Nat) : Int) by omega, hor, HN.out]
      · obtain rfl : k = 8 := by omega
        have hd1 : decide ((8 : Int) < 8) = false := by decide
        go_wp2_with fail
        go_quiet (fail)
        go_wp2_with fail
        go_ret3
        exact ⟨rfl, below_drewN hb nq⟩
theorem load_part {w : World} {G : Nat} {p : Pt} (c0 : w.cell? ⟨G, 0, none⟩ = some (.int .i64 p.kind)) (c1 : w.cell? ⟨G, 1, none⟩ = some (str p.text)) (c2 : w.cell? ⟨G, 2, none⟩ = some (.int .i64 p.n)) : (loadVar 39 ⟨G, 0, none⟩).run Try.prog w = .ok (pv p) w := by
  simp [loadVar, go_sem, c0, c1, c2]
theorem results_c3 {fn : Func} {a u v : Tmp} {t : TypeId} (h : fn.results = #[.cell a t, .tmp u, .tmp v]) (tmps : Array Value) (P : Program) (w : World) (x : Value) (ad : Addr) (ha : tmps.getD a undef = .pointer (some ad)) (hx : (loadVar t ad).run P w = .ok x w) :
    (results fn tmps).run P w = .ok (.tuple #[x, tmps.getD u undef, tmps.getD v undef]) w := by
  rw [Array.getD_eq_getD_getElem?] at ha
  simp [results, h, ha, hx, asAddr]
theorem new3f {w w1 : World} {a b c : Value} {t : TypeId} (h : Below (w.alloc (.cells #[a, b, c] t)).heap.size (w.alloc (.cells #[a, b, c] t)) w1) :
    ∀ j, w1.frozen? ⟨w.heap.size, j, none⟩ = false := by
  have hr : w1.heap[w.heap.size]? = some (.cells #[a, b, c] t (0, 0)) := by rw [h.block _ (by simp)]; exact heap_alloc_new _ _
  exact fun j => frozen_of_row _ _ _ _ _ hr
/-- four stores to a block that is new -/
theorem below4 {w w1 : World} {o : Obj} (h : Below (w.alloc o).heap.size (w.alloc o) w1) {j0 j1 j2 j3 : Nat} {v0 v1 v2 v3 : Value} :
    Below w.heap.size w ((((w1.setCell ⟨w.heap.size, j0, none⟩ v0).setCell ⟨w.heap.size, j1, none⟩ v1).setCell ⟨w.heap.size, j2, none⟩ v2).setCell ⟨w.heap.size, j3, none⟩ v3) := by
  have h1 : Below w.heap.size w w1 := ((Below.refl _ _).alloc (Nat.le_refl _) o).trans (h.mono (by simp))
  exact (((h1.setCell (Nat.le_refl _) _).setCell (Nat.le_refl _) _).setCell (Nat.le_refl _) _).setCell (Nat.le_refl _) _
theorem kind_head {p : Pt} (h : p.ok) {c : UInt8} {b r : List UInt8} (e : c :: b = ptx p ++ r) : p.kind = (c.toNat : Int) ∧ (p.kind = 1 → b = grp p.text ++ r) ∧ (p.kind ≠ 1 → b = bek 8 (tv p.kind p.n) ++ r) := by
  have hk := ofKind h
  unfold ptx at e
  split at e
  · next k1 =>
    rw [List.cons_append] at e
    obtain ⟨e1, e2⟩ := List.cons.inj e
    subst e1
    exact ⟨k1, fun _ => e2, fun h => absurd k1 h⟩
  · next k1 =>
    rw [List.cons_append] at e
    obtain ⟨e1, e2⟩ := List.cons.inj e
    subst e1
    refine ⟨?_, fun h => absurd h k1, fun _ => e2⟩
    rcases hk with h | h | h
    · exact absurd h k1
    · rw [h]; rfl
    · rw [h]; rfl
theorem head_no_text {b : List UInt8} (h : ∀ t r, b ≠ grp t ++ r) : ∀ p r, p.ok → (1 : UInt8) :: b ≠ ptx p ++ r := by
  intro p r hp e
  obtain ⟨h1, h2, _⟩ := kind_head hp e
  exact h _ _ (h2 h1)
theorem tv_back (k : Int) (N : Nat) (h : N < 18446744073709551616) : -9223372036854775808 ≤ wrap64 (trn k N) ∧ wrap64 (trn k N) ≤ 9223372036854775807 ∧ tv k (wrap64 (trn k N)) = N := by
  unfold wrap64 trn tv
  split <;> omega
/-- what readPart answers: the part that stands ahead and what follows; else no. -/
def partTold (b : List UInt8) (v : Value) : Prop := (∃ p r, p.ok ∧ b = ptx p ++ r ∧ v = .tuple #[pv p, str r, .bool true]) ∨ ((∀ p r, p.ok → b ≠ ptx p ++ r) ∧ ∃ p r, v = .tuple #[pv p, str r, .bool false])
set_option maxHeartbeats 1000000 in
theorem readPart_any (c : UInt8) (b : List UInt8) (w : World) (hl : b.length ≤ 199999999999990) :
    Calls Try.prog 23 #[str (c :: b)] w fun e w' => (∃ v, e = .returned v ∧ partTold (c :: b) v) ∧ Below w.heap.size w w' := by
  have g1 : ∀ w, (ixS (str (c :: b)) (.int .i64 0)).run Try.prog w = .ok (.int .u8 (c.toNat : Int)) w := run_ix (c :: b) 0 (by simp)
  have g2 : ∀ w, (slS (str (c :: b)) (some (.int .i64 1)) none none).run Try.prog w = .ok (str b) w := run_lo (c :: b) 1 (by simp) (by simp; omega)
  have n0 : (c.toNat : Int) = 1 ∨ (c.toNat : Int) = 2 ∨ (c.toNat : Int) = 3 ∨ ¬ ((c.toNat : Int) = 1 ∨ (c.toNat : Int) = 2 ∨ (c.toNat : Int) = 3) := by omega
  have hc := c.toNat_lt
  rcases n0 with h1 | h1 | h1 | h1
  · rw [h1] at g1
    have hc1 : c = 1 := UInt8.toNat.inj (by rw [show (1 : UInt8).toNat = 1 from rfl]; omega)
    subst hc1
    have hcg := fun w => readGroups_any b w (by omega)
    have HG : ∀ t r, Hid (b = grp t ++ r) → partTold (1 :: b) (.tuple #[pv ⟨1, t, 0⟩, str r, .bool true]) := fun t r h => Or.inl ⟨⟨1, t, 0⟩, r, ⟨by show (-9223372036854775808 : Int) ≤ 0; decide, by show (0 : Int) ≤ _; decide, Or.inl ⟨rfl, rfl⟩⟩, by rw [h.out]; rfl, rfl⟩
    have HB : (∀ t r, b ≠ grp t ++ r) → partTold (1 :: b) (.tuple #[pv ⟨1, [], 0⟩, str [], .bool false]) := fun h => Or.inr ⟨head_no_text h, _, _, rfl⟩
    go_enter Try.func23, Try.ntmps23
    go_wp2_with (go_at_call 34; refine (hcg _).mono ?_; rintro e w1 ⟨⟨v, rfl, hv⟩, hb1⟩; obtain ⟨d0, d1, d2⟩ := new3 hb1; have f1 := new3f hb1; rcases hv with ⟨t, r, hbt, rfl⟩ | ⟨hno, rfl⟩; replace hbt := Hid.mk hbt)
    · refine bodyPost_ret (results_c3 (fn := Try.f23) (a := 2) (u := 3) (v := 4) (t := 39) (by kernel_rfl) _ _ _ _ _ rfl (load_part (G := w.heap.size) (p := ⟨1, t, 0⟩) (by simp [go_sem, d0, d1, d2]) (by simp [go_sem, d0, d1, d2]) (by simp [go_sem, d0, d1, d2]))) rfl ?_
      exact ⟨⟨_, rfl, HG t r hbt⟩, (below4 hb1)⟩
    · refine bodyPost_ret (results_c3 (fn := Try.f23) (a := 2) (u := 3) (v := 4) (t := 39) (by kernel_rfl) _ _ _ _ _ rfl (load_part (G := w.heap.size) (p := ⟨1, [], 0⟩) (by simp [go_sem, d0, d1, d2]) (by simp [go_sem, d0, d1, d2]) (by simp [go_sem, d0, d1, d2]))) rfl ?_
      exact ⟨⟨_, rfl, HB hno⟩, (below4 hb1)⟩
  · rw [h1] at g1
    have hc1 : c = 2 := UInt8.toNat.inj (by rw [show (2 : UInt8).toNat = 2 from rfl]; omega)
    subst hc1
    have hcg := fun w => readNumber_any b w (by omega)
    by_cases h8 : b.length < 8
    · rw [if_pos h8] at hcg
      have HB : ∀ n, partTold (2 :: b) (.tuple #[pv ⟨2, [], n⟩, str [], .bool false]) := fun n => Or.inr ⟨fun p r hp e => by
        obtain ⟨e1, _, e2⟩ := kind_head hp e
        have e1' : p.kind = 2 := e1
        have := congrArg List.length (e2 (by omega))
        rw [List.length_append, bek_length] at this
        omega, _, _, rfl⟩
      have ct : ∀ w, Calls Try.prog 29 #[.int .i64 2, .int .u64 0] w fun e w' => e = .returned (.int .u64 (trn 2 0 : Int)) ∧ w' = w := turned_any 2 0 (by decide)
      generalize trn 2 0 = N at *
      go_enter Try.func23, Try.ntmps23
      go_wp2_with (first
        | (go_at_call 35; refine (hcg _).mono ?_; rintro e w1 ⟨rfl, hb1⟩; obtain ⟨d0, d1, d2⟩ := new3 hb1; have f1 := new3f hb1)
        | (go_at_call 29; refine (ct _).mono ?_; rintro e w2 ⟨rfl, rfl⟩))
      refine bodyPost_ret (results_c3 (fn := Try.f23) (a := 2) (u := 3) (v := 4) (t := 39) (by kernel_rfl) _ _ _ _ _ rfl (load_part (G := w.heap.size) (p := ⟨2, [], wrap64 N⟩) (by simp [go_sem, d0, d1, d2]) (by simp [go_sem, d0, d1, d2]) (by simp [go_sem, d0, d1, d2]))) rfl ?_
      exact ⟨⟨_, rfl, HB _⟩, below4 hb1⟩
    · rw [if_neg h8] at hcg
      have hlt : nval (b.take 8) < 18446744073709551616 := by
        have := nval_lt (b.take 8)
        rw [List.length_take, show min 8 b.length = 8 by omega] at this
        exact this
      have ct := turned_any 2 (nval (b.take 8)) hlt
      obtain ⟨t1, t2, t3⟩ := tv_back 2 (nval (b.take 8)) hlt
      have HB : partTold (2 :: b) (.tuple #[pv ⟨2, [], wrap64 (trn 2 (nval (b.take 8)))⟩, str (b.drop 8), .bool true]) := by
        refine Or.inl ⟨⟨2, [], wrap64 (trn 2 (nval (b.take 8)))⟩, b.drop 8, ⟨t1, t2, Or.inr ⟨by simp, rfl⟩⟩, ?_, rfl⟩
        have e := bek_nval (b.take 8)
        rw [List.length_take, show min 8 b.length = 8 by omega] at e
        have e2 : ptx ⟨2, [], wrap64 (trn 2 (nval (b.take 8)))⟩ = 2 :: bek 8 (nval (b.take 8)) := by
          show 2 :: bek 8 (tv 2 (wrap64 (trn 2 (nval (b.take 8))))) = _
          rw [t3]
        rw [e2, e, List.cons_append, List.take_append_drop]
      clear t1 t2 t3 hlt
      generalize nval (b.take 8) = M at *
      generalize trn 2 M = N at *
      generalize b.drop 8 = D at *
      go_enter Try.func23, Try.ntmps23
      go_wp2_with (first
        | (go_at_call 35; refine (hcg _).mono ?_; rintro e w1 ⟨rfl, hb1⟩; obtain ⟨d0, d1, d2⟩ := new3 hb1; have f1 := new3f hb1)
        | (go_at_call 29; refine (ct _).mono ?_; rintro e w2 ⟨rfl, rfl⟩))
      refine bodyPost_ret (results_c3 (fn := Try.f23) (a := 2) (u := 3) (v := 4) (t := 39) (by kernel_rfl) _ _ _ _ _ rfl (load_part (G := w.heap.size) (p := ⟨2, [], wrap64 N⟩) (by simp [go_sem, d0, d1, d2]) (by simp [go_sem, d0, d1, d2]) (by simp [go_sem, d0, d1, d2]))) rfl ?_
      exact ⟨⟨_, rfl, HB⟩, below4 hb1⟩
  · rw [h1] at g1
    have hc1 : c = 3 := UInt8.toNat.inj (by rw [show (3 : UInt8).toNat = 3 from rfl]; omega)
    subst hc1
    have hcg := fun w => readNumber_any b w (by omega)
    by_cases h8 : b.length < 8
    · rw [if_pos h8] at hcg
      have HB : ∀ n, partTold (3 :: b) (.tuple #[pv ⟨3, [], n⟩, str [], .bool false]) := fun n => Or.inr ⟨fun p r hp e => by
        obtain ⟨e1, _, e2⟩ := kind_head hp e
        have e1' : p.kind = 3 := e1
        have := congrArg List.length (e2 (by omega))
        rw [List.length_append, bek_length] at this
        omega, _, _, rfl⟩
      have ct : ∀ w, Calls Try.prog 29 #[.int .i64 3, .int .u64 0] w fun e w' => e = .returned (.int .u64 (trn 3 0 : Int)) ∧ w' = w := turned_any 3 0 (by decide)
      generalize trn 3 0 = N at *
      go_enter Try.func23, Try.ntmps23
      go_wp2_with (first
        | (go_at_call 35; refine (hcg _).mono ?_; rintro e w1 ⟨rfl, hb1⟩; obtain ⟨d0, d1, d2⟩ := new3 hb1; have f1 := new3f hb1)
        | (go_at_call 29; refine (ct _).mono ?_; rintro e w2 ⟨rfl, rfl⟩))
      refine bodyPost_ret (results_c3 (fn := Try.f23) (a := 2) (u := 3) (v := 4) (t := 39) (by kernel_rfl) _ _ _ _ _ rfl (load_part (G := w.heap.size) (p := ⟨3, [], wrap64 N⟩) (by simp [go_sem, d0, d1, d2]) (by simp [go_sem, d0, d1, d2]) (by simp [go_sem, d0, d1, d2]))) rfl ?_
      exact ⟨⟨_, rfl, HB _⟩, below4 hb1⟩
    · rw [if_neg h8] at hcg
      have hlt : nval (b.take 8) < 18446744073709551616 := by
        have := nval_lt (b.take 8)
        rw [List.length_take, show min 8 b.length = 8 by omega] at this
        exact this
      have ct := turned_any 3 (nval (b.take 8)) hlt
      obtain ⟨t1, t2, t3⟩ := tv_back 3 (nval (b.take 8)) hlt
      have HB : partTold (3 :: b) (.tuple #[pv ⟨3, [], wrap64 (trn 3 (nval (b.take 8)))⟩, str (b.drop 8), .bool true]) := by
        refine Or.inl ⟨⟨3, [], wrap64 (trn 3 (nval (b.take 8)))⟩, b.drop 8, ⟨t1, t2, Or.inr ⟨by simp, rfl⟩⟩, ?_, rfl⟩
        have e := bek_nval (b.take 8)
        rw [List.length_take, show min 8 b.length = 8 by omega] at e
        have e2 : ptx ⟨3, [], wrap64 (trn 3 (nval (b.take 8)))⟩ = 3 :: bek 8 (nval (b.take 8)) := by
          show 3 :: bek 8 (tv 3 (wrap64 (trn 3 (nval (b.take 8))))) = _
          rw [t3]
        rw [e2, e, List.cons_append, List.take_append_drop]
      clear t1 t2 t3 hlt
      generalize nval (b.take 8) = M at *
      generalize trn 3 M = N at *
      generalize b.drop 8 = D at *
      go_enter Try.func23, Try.ntmps23
      go_wp2_with (first
        | (go_at_call 35; refine (hcg _).mono ?_; rintro e w1 ⟨rfl, hb1⟩; obtain ⟨d0, d1, d2⟩ := new3 hb1; have f1 := new3f hb1)
        | (go_at_call 29; refine (ct _).mono ?_; rintro e w2 ⟨rfl, rfl⟩))
      refine bodyPost_ret (results_c3 (fn := Try.f23) (a := 2) (u := 3) (v := 4) (t := 39) (by kernel_rfl) _ _ _ _ _ rfl (load_part (G := w.heap.size) (p := ⟨3, [], wrap64 N⟩) (by simp [go_sem, d0, d1, d2]) (by simp [go_sem, d0, d1, d2]) (by simp [go_sem, d0, d1, d2]))) rfl ?_
      exact ⟨⟨_, rfl, HB⟩, below4 hb1⟩
  · have HB : ∀ v, v = .tuple #[pv ⟨(c.toNat : Int), [], 0⟩, str [], .bool false] → partTold (c :: b) v := fun v hv => Or.inr ⟨fun p r hp e => by
      obtain ⟨e1, _, _⟩ := kind_head hp e
      have := ofKind hp
      omega, _, _, hv⟩
    have e1 : ((c.toNat : Int) == 1) = false := by rw [beq_eq_false_iff_ne]; omega
    have e2 : ((c.toNat : Int) == 2) = false := by rw [beq_eq_false_iff_ne]; omega
    have e3 : ((c.toNat : Int) == 3) = false := by rw [beq_eq_false_iff_ne]; omega
    generalize c.toNat = C at *
    go_enter Try.func23, Try.ntmps23
    go_wp2_with fail
    refine bodyPost_ret (results_c3 (fn := Try.f23) (a := 2) (u := 3) (v := 4) (t := 39) (by kernel_rfl) _ _ _ _ _ rfl (load_part (G := w.heap.size) (p := ⟨(C : Int), [], 0⟩) (by simp [go_sem]) (by simp [go_sem]) (by simp [go_sem]))) rfl ?_
    exact ⟨⟨_, rfl, HB _ rfl⟩, (Below.refl _ _).alloc (Nat.le_refl _) _⟩
end Go.Proofs.Ytijkabnhedmimab
