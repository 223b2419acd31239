/- Copy. -/
import Derived.Test.YtmcdohpeibipkaaStl
import Derived.Lib.SliceRun
namespace Go.Proofs.Ytmcdohpeibipkaa
set_option linter.unusedVariables false
set_option linter.unusedSimpArgs false
open Go.RowKit
theorem own_mono {w : World} {base base' : Nat} {e : TypeId} {size : Nat} {v : Value} {n : Nat} {xs : List Value} (h : w.ownsRow base e size v n xs) (hb : base' ≤ base) : w.ownsRow base' e size v n xs :=
  ⟨h.1, h.2.imp id fun ⟨g, cap, cur, h1, h2, h3⟩ => ⟨g, cap, cur, h1, Nat.le_trans hb h2, h3⟩⟩
theorem qS (w : World) (a : Option Addr) (n c n' c' : Nat) : (binOp .eql 42 (.slice a n c) (.slice none n' c')).run Try.prog w = .ok (.bool a.isNone) w := Lib.run_eql_slice_nil w _ _ a n c n' c' Try.underlying42
theorem qW (w : World) (a : Option Addr) (n c n' c' : Nat) : (binOp .eql 34 (.slice a n c) (.slice none n' c')).run Try.prog w = .ok (.bool a.isNone) w := Lib.run_eql_slice_nil w _ _ a n c n' c' Try.underlying34
set_option maxRecDepth 100000 in
theorem cloneS_any (g n c : Nat) (l : List ByteArray) (w : World) (ho : w.ownsRow 0 9 1 (rw_ g n c) n (strv l)) (hn : n ≤ 8192) :
    Calls Try.prog 39 #[rw_ g n c] w fun e w' => ∃ y cap, e = .returned (rw_ y n cap) ∧ w.heap.size ≤ y ∧ w'.ownsRow 0 9 1 (rw_ y n cap) n (strv l) ∧ Below w.heap.size w w' := by
  obtain ⟨i0, hi0, hz0, hz1, hz2⟩ := info_parts infoSf
  have hm : maxLen = 9223372036854775807 := rfl
  have HO : Hid (w.ownsRow 0 9 1 (rw_ g n c) n (strv l)) := ⟨ho⟩
  have hcells := (ho.alloc (.cells #[] 9)).cells (g := g) rfl
  have HC : Hid (∀ j u, (strv l)[j]? = some u → (w.alloc (.cells #[] 9)).cell? ((⟨g, 0, none⟩ : Addr).add j) = some u) := ⟨hcells⟩
  have h1 : ∀ u ∈ strv l, u.oneCell' = true := fun u hu => by obtain ⟨_, _, rfl⟩ := List.mem_map.1 hu; rfl
  have HL : Hid ((strv l).length = n * 1) := ⟨ho.1⟩
  clear ho hcells
  have qq := qS
  go_enter Try.func39, Try.ntmps39
  go_wp2_with (at_builtin; refine wp_append_at Try.underlying42 hi0 hz0 hz1 hz2 rfl (by omega) w.heap.size (World.ownsRow_made w #[] 0 (Nat.le_refl _) (Nat.zero_le _) (by simp)) HL.out HC.out h1 (by rw [hm]; omega) (by omega) (by simp) rfl _ _ rfl rfl rfl ?_; intro v' w1 q1 q2 q3 q4)
  go_ret
  rw [Nat.zero_add, List.nil_append] at q1
  have hb : Below w.heap.size w w1 := ((Below.refl _ w).alloc (Nat.le_refl _) _).grown q2 (by simp) (by intro k hk; simp [Value.ownBlock] at hk; omega)
  rcases q1.2 with ⟨e1, e2⟩ | ⟨y, cap, cur, rfl, hy, _⟩
  · exact absurd (q3.1 e1).1 (by simp)
  · exact ⟨y, cap, rfl, hy, own_mono q1 (Nat.zero_le _), hb⟩
set_option maxRecDepth 100000 in
theorem cloneW_nil (w : World) : Calls Try.prog 40 #[.slice none 0 0] w fun e w' => e = .returned (.slice none 0 0) ∧ w' = w := by
  have qq := qW
  go_enter Try.func40, Try.ntmps40
  go_wp2
  go_ret
  exact ⟨rfl, rfl⟩
set_option maxRecDepth 100000 in
theorem cloneW_row (g n c : Nat) (l : List (Nat × ByteArray)) (w : World) (ho : w.ownsRow 0 33 2 (rw_ g n c) n (wcs l)) (hn : n ≤ 9000000000000) :
    Calls Try.prog 40 #[rw_ g n c] w fun e w' => ∃ y cap, e = .returned (rw_ y n cap) ∧ w.heap.size ≤ y ∧ w'.ownsRow 0 33 2 (rw_ y n cap) n (wcs l) ∧ Below w.heap.size w w' := by
  obtain ⟨i0, hi0, hz0, hz1, hz2⟩ := info_parts infoWf
  have hm : maxLen = 9223372036854775807 := rfl
  have HO : Hid (w.ownsRow 0 33 2 (rw_ g n c) n (wcs l)) := ⟨ho⟩
  have hcells := (ho.alloc (.cells #[] 33)).cells (g := g) rfl
  have HC : Hid (∀ j u, (wcs l)[j]? = some u → (w.alloc (.cells #[] 33)).cell? ((⟨g, 0, none⟩ : Addr).add j) = some u) := ⟨hcells⟩
  have HL : Hid ((wcs l).length = n * 2) := ⟨ho.1⟩
  clear ho hcells
  have qq := qW
  go_enter Try.func40, Try.ntmps40
  go_wp2_with (at_builtin; refine wp_append_at Try.underlying34 hi0 hz0 hz1 hz2 rfl (by omega) w.heap.size (World.ownsRow_made w #[] 0 (Nat.le_refl _) (Nat.zero_le _) (by simp)) HL.out HC.out (wcs_one l) (by rw [hm]; omega) (by omega) (by simp) rfl _ _ rfl rfl rfl ?_; intro v' w1 q1 q2 q3 q4)
  go_ret
  rw [Nat.zero_add, List.nil_append] at q1
  have hb : Below w.heap.size w w1 := ((Below.refl _ w).alloc (Nat.le_refl _) _).grown q2 (by simp) (by intro k hk; simp [Value.ownBlock] at hk; omega)
  rcases q1.2 with ⟨e1, e2⟩ | ⟨y, cap, cur, rfl, hy, _⟩
  · exact absurd (q3.1 e1).1 (by simp)
  · exact ⟨y, cap, rfl, hy, own_mono q1 (Nat.zero_le _), hb⟩
theorem cloneW_any (v : Value) (l : List (Nat × ByteArray)) (w : World) (ho : w.ownsRow 0 33 2 v l.length (wcs l)) (hn : l.length ≤ 9000000000000) :
    Calls Try.prog 40 #[v] w fun e w' => ∃ a cap, e = .returned (.slice a l.length cap) ∧ (∀ k, (Value.slice a l.length cap).ownBlock = some k → w.heap.size ≤ k) ∧ w'.ownsRow 0 33 2 (.slice a l.length cap) l.length (wcs l) ∧ Below w.heap.size w w' := by
  rcases ho.2 with ⟨e1, e2⟩ | ⟨g, c, cur, e1, _⟩
  · subst e1
    refine (cloneW_nil w).mono ?_
    rintro e w' ⟨rfl, rfl⟩
    exact ⟨none, 0, by rw [e2], by simp [Value.ownBlock], by rw [e2] at ho ⊢; exact ho, Below.refl _ _⟩
  · subst e1
    refine (cloneW_row g l.length c l w ho hn).mono ?_
    rintro e w' ⟨y, cap, rfl, h1, h2, h3⟩
    exact ⟨_, cap, rfl, fun k hk => by cases hk; exact h1, h2, h3⟩
theorem own_below {w w' : World} {base : Nat} {e : TypeId} {size : Nat} {v : Value} {n : Nat} {xs : List Value} (h : w.ownsRow base e size v n xs) (b : Below w.heap.size w w') : w'.ownsRow base e size v n xs := (Fr.of_below (S := fun _ => False) b).own h (fun _ _ e => e)
/-- while a copy is made -/
structure CI (w : World) (D : Dk) (st : St) (cs : Array Value) (A : World) : Prop where
  raw : Raw A D st.safe.length st.seen st.safe st.pend st.off st.opn st.fall
  blk : A.heap[w.heap.size]? = some (.cells cs 73 (0, 0))
  bel : Below w.heap.size w A
  nf : ¬ D.foot w.heap.size
section
variable {w A A' : World} {D : Dk} {st : St} {cs : Array Value}
theorem CI.below (h : CI w D st cs A) (b : Below A.heap.size A A') : CI w D st cs A' := ⟨h.raw.below b, (b.block _ (heap_lt h.blk)).trans h.blk, h.bel.trans (b.mono h.bel.size), h.nf⟩
theorem CI.set (h : CI w D st cs A) (j : Nat) (v : Value) : CI w D st (cs.setIfInBounds j v) (A.setCell ⟨w.heap.size, j, none⟩ v) := ⟨h.raw.other _ _ _ h.nf, cell_set _ _ _ _ _ _ h.blk, h.bel.setCell (Nat.le_refl _) _, h.nf⟩
theorem CI.lt (h : CI w D st cs A) : w.heap.size < A.heap.size := heap_lt h.blk
theorem CI.row (h : CI w D st cs A) (j : Nat) (v : Value) {e : TypeId} {size : Nat} {u : Value} {n : Nat} {xs : List Value} (o : A.ownsRow 0 e size u n xs) (hk : ∀ k, u.ownBlock = some k → w.heap.size < k) : (A.setCell ⟨w.heap.size, j, none⟩ v).ownsRow 0 e size u n xs :=
  (fr_set (S := fun k => k = w.heap.size) A _ j v rfl).own o (fun k h1 e => by have := hk k h1; omega)
end
set_option maxRecDepth 100000 in
theorem copy_any (D : Dk) (st : St) (w : World) (h : DiskAt w D st) (hpl : st.pend.length ≤ 9000000000000) :
    Calls Try.prog 12 #[pt D.p] w fun e w' => ∃ D', e = .returned (pt D'.p) ∧ DiskAt w' D' st ∧ Below w.heap.size w w' ∧ ∀ k, D'.foot k → w.heap.size ≤ k := by
  have H : Hid (DiskAt w D st) := ⟨h⟩
  obtain ⟨av, cv, ev⟩ := h.v3
  have c0 := h.c0
  have c1 := h.c1
  have c2 := h.c2
  have c3 := h.c3
  have c4 := h.c4
  have c5 := h.c5
  rw [ev] at c2
  have EV : Hid (D.v3 = .slice av st.pend.length cv) := ⟨ev⟩
  clear h ev
  have HA : Hid (CI w D st #[.slice (some ⟨D.g1, 0, none⟩) st.safe.length D.c1, .slice (some ⟨D.g2, 0, none⟩) st.safe.length D.c2, .slice av st.pend.length cv, .bool st.off, .bool st.opn, .int .i64 (st.fall : Int)] (w.alloc (.cells #[.slice (some ⟨D.g1, 0, none⟩) st.safe.length D.c1, .slice (some ⟨D.g2, 0, none⟩) st.safe.length D.c2, .slice av st.pend.length cv, .bool st.off, .bool st.opn, .int .i64 (st.fall : Int)] 73))) :=
    ⟨H.out.raw.alloc _, heap_alloc_new w _, (Below.refl _ _).alloc (Nat.le_refl _) _, fun e => by have := H.out.lt _ e; omega⟩
  have ca0 : (w.alloc (.cells #[.slice (some ⟨D.g1, 0, none⟩) st.safe.length D.c1, .slice (some ⟨D.g2, 0, none⟩) st.safe.length D.c2, .slice av st.pend.length cv, .bool st.off, .bool st.opn, .int .i64 (st.fall : Int)] 73)).cell? ⟨D.p, 0, none⟩ = some (rw_ D.g1 st.safe.length D.c1) := HA.out.raw.cell 0
  have hp0 : D.p < w.heap.size := H.out.lt _ (.inl rfl)
  go_enter Try.func12, Try.ntmps12
  go_wp2_with fail
  generalize (w.alloc (.cells #[.slice (some ⟨D.g1, 0, none⟩) st.safe.length D.c1, .slice (some ⟨D.g2, 0, none⟩) st.safe.length D.c2, .slice av st.pend.length cv, .bool st.off, .bool st.opn, .int .i64 (st.fall : Int)] 73)) = A at *
  refine (cloneS_any _ _ _ _ _ HA.out.raw.seen H.out.wf.hi).mono ?_
  rintro e A1 ⟨y1, k1, rfl, hy1, o1, b1⟩
  have q1 := HA.out.below b1
  have hy1' : w.heap.size < y1 := Nat.lt_of_lt_of_le HA.out.lt hy1
  have n1 : A1.cell? ⟨w.heap.size, 0, none⟩ = some (.slice (some ⟨D.g1, 0, none⟩) st.safe.length D.c1) := cell_of_row A1 _ 0 _ _ (0, 0) q1.blk
  have z1 : A1.frozen? ⟨w.heap.size, 0, none⟩ = false := frozen_of_row A1 _ 0 _ _ q1.blk
  have q2 := q1.set 0 (rw_ y1 st.safe.length k1)
  have o2 := q1.row 0 (rw_ y1 st.safe.length k1) o1 (fun k hk => by cases hk; exact hy1')
  have d1 : (A1.setCell ⟨w.heap.size, 0, none⟩ (rw_ y1 st.safe.length k1)).cell? ⟨D.p, 1, none⟩ = some (rw_ D.g2 st.safe.length D.c2) := q2.raw.cell 1
  have G2 : Hid (_ ∧ _) := ⟨q2, o2⟩
  clear q1 q2 o2 o1 b1 ca0 HA
  dsimp only
  go_wp2_with fail
  generalize (A1.setCell ⟨w.heap.size, 0, none⟩ (rw_ y1 st.safe.length k1)) = A2 at *
  obtain ⟨q2, o2⟩ := G2.out
  refine (cloneS_any _ _ _ _ _ q2.raw.safe H.out.wf.hi).mono ?_
  rintro e A3 ⟨y2, k2, rfl, hy2, o3, b3⟩
  have q3 := q2.below b3
  have hy2' : w.heap.size < y2 := Nat.lt_of_lt_of_le q2.lt hy2
  have hne : y1 < y2 := Nat.lt_of_lt_of_le (o2.lt _ rfl).2 hy2
  have p3 := own_below o2 b3
  have n3 : A3.cell? ⟨w.heap.size, 1, none⟩ = some (.slice (some ⟨D.g2, 0, none⟩) st.safe.length D.c2) := cell_of_row A3 _ 1 _ _ (0, 0) q3.blk
  have z3 : A3.frozen? ⟨w.heap.size, 1, none⟩ = false := frozen_of_row A3 _ 1 _ _ q3.blk
  have q4 := q3.set 1 (rw_ y2 st.safe.length k2)
  have o4 := q3.row 1 (rw_ y2 st.safe.length k2) o3 (fun k hk => by cases hk; exact hy2')
  have p4 := q3.row 1 (rw_ y2 st.safe.length k2) p3 (fun k hk => by cases hk; exact hy1')
  have d3 : (A3.setCell ⟨w.heap.size, 1, none⟩ (rw_ y2 st.safe.length k2)).cell? ⟨D.p, 2, none⟩ = some (.slice av st.pend.length cv) := by rw [← EV.out]; exact q4.raw.cell 2
  have G4 : Hid (_ ∧ _ ∧ _) := ⟨q4, o4, p4⟩
  clear q2 o2 q3 q4 o4 p4 p3 o3 b3 G2 d1
  dsimp only
  go_wp2_with fail
  generalize (A3.setCell ⟨w.heap.size, 1, none⟩ (rw_ y2 st.safe.length k2)) = A4 at *
  obtain ⟨q4, o4, p4⟩ := G4.out
  have hpd := q4.raw.pend
  rw [EV.out] at hpd
  refine (cloneW_any _ _ _ hpd hpl).mono ?_
  rintro e A5 ⟨a5, k5, rfl, hy5, o5, b5⟩
  have q5 := q4.below b5
  have p5 := own_below p4 b5
  have s5 := own_below o4 b5
  have hy5' : ∀ k, (Value.slice a5 st.pend.length k5).ownBlock = some k → y2 < k := fun k hk => Nat.lt_of_lt_of_le (o4.lt _ rfl).2 (hy5 k hk)
  have n5 : A5.cell? ⟨w.heap.size, 2, none⟩ = some (.slice av st.pend.length cv) := cell_of_row A5 _ 2 _ _ (0, 0) q5.blk
  have z5 : A5.frozen? ⟨w.heap.size, 2, none⟩ = false := frozen_of_row A5 _ 2 _ _ q5.blk
  have q6 := q5.set 2 (.slice a5 st.pend.length k5)
  have o6 := q5.row 2 (.slice a5 st.pend.length k5) o5 (fun k hk => Nat.lt_trans hy2' (hy5' k hk))
  have p6 := q5.row 2 (.slice a5 st.pend.length k5) p5 (fun k hk => by cases hk; exact hy1')
  have s6 := q5.row 2 (.slice a5 st.pend.length k5) s5 (fun k hk => by cases hk; exact hy2')
  have G6 : Hid (_ ∧ _ ∧ _ ∧ _) := ⟨q6, o6, p6, s6⟩
  clear q4 o4 p4 hpd q5 p5 s5 q6 o6 p6 s6 o5 b5 G4 d3
  dsimp only
  go_wp2
  go_ret
  obtain ⟨q6, o6, p6, s6⟩ := G6.out
  refine ⟨⟨w.heap.size, y1, k1, y2, k2, .slice a5 st.pend.length k5⟩, rfl, ⟨H.out.wf, ⟨q6.blk, p6, s6, o6, Nat.ne_of_lt hy1', Nat.ne_of_lt hy2', Nat.ne_of_lt hne, fun e => by have := hy5' _ e; simp at this; omega, fun e => by have := hy5' _ e; simp at this; omega, fun e => by have := hy5' _ e; simp at this⟩⟩, q6.bel, ?_⟩
  rintro k (h | h | h | h)
  · exact Nat.le_of_eq h.symm
  · rw [h]; exact Nat.le_of_lt hy1'
  · rw [h]; exact Nat.le_of_lt hy2'
  · exact Nat.le_of_lt (Nat.lt_trans hy2' (hy5' k h))
end Go.Proofs.Ytmcdohpeibipkaa
