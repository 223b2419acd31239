/- The document's disk: Crash and On whole, Copy. -/
import Derived.Test.YtmfjhdjphnogiaaRefD
namespace Go.Proofs.Ytmfjhdjphnogiaa
set_option linter.unusedVariables false
set_option linter.unusedSimpArgs false
open Go.RowKit
theorem rCrash_any (R : Rk) (st : St) (a : Option Addr) (cap : Nat) (zs : List Int) (w : World) (h : RefAt w R st) (hpl : st.pend.length ≤ 9000000000000) (hl : zs.length ≤ 20000000000000) (hz : IIn w a zs) (hf : ∀ b off, a = some ⟨b, off, none⟩ → zs ≠ [] → ¬ R.foot b) :
    Calls Try.prog 41 #[pt R.p, .slice a zs.length cap] w fun e w' => e = .returned (.tuple #[]) ∧ ∃ R', RefAt w' R' (st.crash zs) ∧ RStp w R w' R' := by
  by_cases hc : (st.off && !st.opn) = true
  · have e1 : st.crash zs = st := by unfold St.crash; rw [if_pos hc]
    rw [e1]
    have c2 := h.c2
    have c3 := h.c3
    have H : Hid (RefAt w R st) := ⟨h⟩
    have h2 : st.off = true ∧ st.opn = false := by simpa using hc
    rw [h2.1] at c2
    rw [h2.2] at c3
    clear hc h2 e1 h hz hf
    go_enter Try.func41, Try.ntmps41
    go_wp2
    all_goals (first | go_end0 | refine bodyPost_ret (results_none rfl _ _ _) rfl ?_)
    exact ⟨rfl, R, H.out, RStp.refl _ _⟩
  · have hwf := h.wf.crash zs
    have e1 : st.crash zs = { st.settle zs with off := true } := by unfold St.crash; rw [if_neg hc]
    rw [e1] at hwf ⊢
    refine (rCrash_run R st a cap zs w h (by simpa using hc) hpl hl hz hf).mono ?_
    rintro e w' ⟨rfl, R', r, s⟩
    exact ⟨rfl, R', ⟨hwf, r⟩, s⟩
theorem rOn_any (R : Rk) (st : St) (w : World) (h : RefAt w R st) (hpl : st.pend.length ≤ 9000000000000) :
    Calls Try.prog 42 #[pt R.p] w fun e w' => e = .returned (.tuple #[]) ∧ ∃ R', RefAt w' R' st.on ∧ RStp w R w' R' := by
  have c2 := h.c2
  have c3 := h.c3
  have f2 := h.raw.frozen 2
  have H : Hid (RefAt w R st) := ⟨h⟩
  clear h
  cases ho : st.opn with
  | false =>
    have e1 : st.on = { st with off := false } := by unfold St.on; rw [if_neg (by rw [ho]; simp)]
    have G : Hid (RefAt (w.setCell ⟨R.p, 2, none⟩ (.bool false)) R { st with off := false }) := ⟨H.out.setOff false⟩
    rw [e1]
    rw [ho] at c3
    clear e1 ho
    go_enter Try.func42, Try.ntmps42
    go_wp2
    all_goals (first | go_end0 | refine bodyPost_ret (results_none rfl _ _ _) rfl ?_)
    exact ⟨rfl, R, G.out, (RStp.refl _ _).set 2 _⟩
  | true =>
    have e0 : st.crash [] = { st.settle [] with off := true } := by unfold St.crash; rw [if_neg (by rw [ho]; simp)]
    have e1 : st.on = { st.crash [] with off := false } := by rw [e0]; unfold St.on; rw [if_pos ho]
    rw [e1]
    rw [ho] at c3
    clear e1 ho e0
    go_enter Try.func42, Try.ntmps42
    go_wp2_with fail
    refine (rCrash_any R st none 0 [] _ H.out hpl (by simp) (IIn.nil _ _) (fun b off e _ => by cases e)).mono ?_
    rintro e w1 ⟨rfl, R1, d1, s1⟩
    have c31 := d1.c2
    have f31 := d1.raw.frozen 2
    have G : Hid (∃ R', RefAt (w1.setCell ⟨R1.p, 2, none⟩ (.bool false)) R' { st.crash [] with off := false } ∧ RStp w R (w1.setCell ⟨R1.p, 2, none⟩ (.bool false)) R') := ⟨R1, d1.setOff false, s1.set 2 _⟩
    rw [s1.p] at c31 f31 G
    clear d1 s1
    dsimp only
    go_wp2
    all_goals (first | go_end0 | refine bodyPost_ret (results_none rfl _ _ _) rfl ?_)
    exact ⟨rfl, G.out⟩
/-- while a copy is made -/
structure RI (w : World) (R : Rk) (st : St) (cs : Array Value) (A : World) : Prop where
  raw : RRaw A R st.safe st.pend st.off st.opn st.fall
  blk : A.heap[w.heap.size]? = some (.cells cs 75 (0, 0))
  bel : Below w.heap.size w A
  nf : ¬ R.foot w.heap.size
section
variable {w A A' : World} {R : Rk} {st : St} {cs : Array Value}
theorem RI.below (h : RI w R st cs A) (b : Below A.heap.size A A') : RI w R st cs A' := ⟨h.raw.below b, (b.block _ (heap_lt h.blk)).trans h.blk, h.bel.trans (b.mono h.bel.size), h.nf⟩
theorem RI.set (h : RI w R st cs A) (j : Nat) (v : Value) : RI w R st (cs.setIfInBounds j v) (A.setCell ⟨w.heap.size, j, none⟩ v) := ⟨h.raw.kept (fr_set (S := fun k => k = w.heap.size) A _ j v rfl) (fun k hk e => h.nf (e ▸ hk)), cell_set _ _ _ _ _ _ h.blk, h.bel.setCell (Nat.le_refl _) _, h.nf⟩
theorem RI.lt (h : RI w R st cs A) : w.heap.size < A.heap.size := heap_lt h.blk
theorem RI.drew (h : RI w R st cs A) : RI w R st cs A.drew := ⟨h.raw.drew, h.blk, h.bel.drew, h.nf⟩
theorem RI.row (h : RI w R st cs A) (j : Nat) (v : Value) {e : TypeId} {size : Nat} {u : Value} {n : Nat} {xs : List Value} (o : A.ownsRow 0 e size u n xs) (hk : ∀ k, u.ownBlock = some k → w.heap.size < k) : (A.setCell ⟨w.heap.size, j, none⟩ v).ownsRow 0 e size u n xs :=
  (fr_set (S := fun k => k = w.heap.size) A _ j v rfl).own o (fun k h1 e => by have := hk k h1; omega)
end
theorem dup {t e : TypeId} {size bytes : Nat} {i : TypeInfo} {z : Value} (ht : Try.prog.underlying t = some (.slice e)) (hi : Try.prog.info? e = some i) (hz : i.zero = some z) (hsize : i.size = size) (hby : i.bytes = bytes) (hzs : z.cells.size = size) (hsz : 0 < size)
    (w : World) (v : Value) (n : Nat) (xs : List Value) (hown : w.ownsRow 0 e size v n xs) (h1 : ∀ u ∈ xs, u.oneCell' = true) (hn : (n + n / 4 + 192) * bytes ≤ 281474976710656) (h63 : n ≤ maxLen) :
    ∃ v' w', (∀ ty, (Builtin.append_ #[t, t] ty #[.slice none 0 0, v]).run Try.prog w = .ok v' w') ∧ w'.ownsRow 0 e size v' n xs ∧ Below w.heap.size w w' ∧ (∀ k, v'.ownBlock = some k → w.heap.size ≤ k) := by
  rcases hown.2 with ⟨rfl, rfl⟩ | ⟨g, c, cur, rfl, _⟩
  · refine ⟨_, w, fun ty => run_append_owned_none (P := Try.prog) w 0 t ty e i size ht hi _ 0 xs hown, hown, Below.refl _ _, by simp [Value.ownBlock]⟩
  · obtain ⟨v', w', hr, q1, q2, q3, q4⟩ := run_append_at (P := Try.prog) w 0 t t e i z size bytes ht hi hz hsize hby hzs hsz (.slice none 0 0) 0 [] (World.ownsRow_nil _ _ _ _) ⟨g, 0, none⟩ n c xs hown.1 (hown.cells (g := g) rfl) h1 (by omega) (by rw [Nat.zero_add]; exact hn) (Nat.zero_le _)
    refine ⟨v', w', fun ty => hr, by rw [Nat.zero_add, List.nil_append] at q1; exact q1, (Fr.of_grown (S := fun _ => False) q2 (fun k hk => by simp [Value.ownBlock] at hk)).below (Nat.le_refl _) (fun k hk => hk.elim), fun k hk => (q4 k hk).resolve_left (by simp [Value.ownBlock])⟩
theorem own_slice {w : World} {base : Nat} {e : TypeId} {size : Nat} {v : Value} {n : Nat} {xs : List Value} (h : w.ownsRow base e size v n xs) : ∃ a c, v = .slice a n c := by
  rcases h.2 with ⟨h1, h2⟩ | ⟨g, cap, cur, h1, _⟩
  · exact ⟨none, 0, by rw [h1, h2]⟩
  · exact ⟨_, cap, h1⟩
theorem step_run {ops : Array Oper} {o : Oper} {a : Act} {K : Act → World → Prop} {Q : Exit → Act → World → Prop} {E : Prop} {w w' : World} {t u : TypeId} {v0 v v' : Value} (hr : ∀ ty, (Builtin.append_ #[t, u] ty #[v0, v]).run Try.prog w = .ok v' w')
    (hgd : o.guard = none) (s x : Operand) (ho : o.op = .call { callee := .builtin .append, args := #[s, x], argTypes := #[t, u] })
    (hs : a.eval s = v0) (hx : a.eval x = v) (h : K (a.put o.dst v') w') :
    if Region.wanted o (yielded ops a.tmps) = true then Oper.wp Try.prog o a w K Q else E := by
  rw [if_pos (by simp [Region.wanted, hgd])]
  unfold Oper.wp execOp
  simp only [ho, resolve, invoke, builtin, Sem.run_bind, Sem.run_pure, Result.andThen_ok, List.map_toArray, List.map_cons, List.map_nil, hs, hx, hr]
  exact h
set_option maxRecDepth 100000 in
theorem rCopy_any (R : Rk) (st : St) (w : World) (h : RefAt w R st) (hpl : st.pend.length ≤ 9000000000000) :
    Calls Try.prog 24 #[pt R.p] w fun e w' => ∃ R', e = .returned (pt R'.p) ∧ RefAt w' R' st ∧ Below w.heap.size w w' ∧ ∀ k, R'.foot k → w.heap.size ≤ k := by
  have H : Hid (RefAt w R st) := ⟨h⟩
  have hm : maxLen = 9223372036854775807 := rfl
  have c2 := h.c2
  have c3 := h.c3
  have c4 := h.c4
  have hp0 : R.p < w.heap.size := h.raw.lt _ (.inl rfl)
  obtain ⟨g, c, e1⟩ := h.raw.v1 h.wf.lo
  obtain ⟨av, cv, e2⟩ := h.raw.v2
  have EV : Hid (R.v1 = rw_ g st.safe.length c ∧ R.v2 = .slice av st.pend.length cv) := ⟨e1, e2⟩
  have HA : Hid (RI w R st #[.slice none 0 0, .slice none 0 0, .bool st.off, .bool st.opn, .int .i64 (st.fall : Int)] ((w.alloc (.cells #[.slice none 0 0, .slice none 0 0, .bool st.off, .bool st.opn, .int .i64 (st.fall : Int)] 75)).drew)) :=
    ⟨RI.drew ⟨h.raw.below ((Below.refl _ _).alloc (Nat.le_refl _) _), heap_alloc_new w _, (Below.refl _ _).alloc (Nat.le_refl _) _, fun e => by have := h.raw.lt _ e; omega⟩⟩
  clear h e1 e2
  go_enter Try.func24, Try.ntmps24
  go_wp2
  go_region
  generalize ((w.alloc (.cells #[.slice none 0 0, .slice none 0 0, .bool st.off, .bool st.opn, .int .i64 (st.fall : Int)] 75)).drew) = A at *
  clear c2 c3 c4
  have ca : A.cell? ⟨w.heap.size, 0, none⟩ = some (.slice none 0 0) := cell_of_row A _ 0 _ _ (0, 0) HA.out.blk
  have cb : A.cell? ⟨R.p, 0, none⟩ = some (.slice (some ⟨g, 0, none⟩) st.safe.length c) := (HA.out.raw.cell 0).trans (congrArg some EV.out.1)
  have hs0 := HA.out.drew.raw.safe
  rw [EV.out.1] at hs0
  obtain ⟨i0, hi0, hz0, hz1, hz2⟩ := info_parts infoSf
  obtain ⟨v1, A1, hr1, o1, b1, f1⟩ := dup Try.underlying61 hi0 hz0 hz1 hz2 rfl (by omega) A.drew _ _ _ hs0 (fun u hu => by obtain ⟨_, _, rfl⟩ := List.mem_map.1 hu; rfl) (by have := H.out.wf.hi; omega) (by have := H.out.wf.hi; rw [hm]; omega)
  obtain ⟨a1, k1, rfl⟩ := own_slice o1
  have q1 := HA.out.drew.below b1
  have n1 : A1.cell? ⟨w.heap.size, 0, none⟩ = some (.slice none 0 0) := cell_of_row A1 _ 0 _ _ (0, 0) q1.blk
  have z1 : A1.frozen? ⟨w.heap.size, 0, none⟩ = false := frozen_of_row A1 _ 0 _ _ q1.blk
  have f1' : ∀ k, (Value.slice a1 st.safe.length k1).ownBlock = some k → w.heap.size < k := fun k hk => Nat.lt_of_lt_of_le HA.out.drew.lt (f1 k hk)
  have q2 := q1.set 0 (.slice a1 st.safe.length k1)
  have o2 := q1.row 0 (.slice a1 st.safe.length k1) o1 f1'
  have G2 : Hid (RI w R st #[.slice a1 st.safe.length k1, .slice none 0 0, .bool st.off, .bool st.opn, .int .i64 (st.fall : Int)] (A1.setCell ⟨w.heap.size, 0, none⟩ (.slice a1 st.safe.length k1)) ∧ (A1.setCell ⟨w.heap.size, 0, none⟩ (.slice a1 st.safe.length k1)).ownsRow 0 9 1 (.slice a1 st.safe.length k1) st.safe.length (strv st.safe) ∧ ∀ k, (Value.slice a1 st.safe.length k1).ownBlock = some k → w.heap.size < k) := ⟨q2, o2, f1'⟩
  clear q1 q2 o2 o1 b1 f1 f1' hs0 HA hi0 hz0 hz1 hz2
  go_wp2
  go_region_law (refine step_run hr1 rfl _ _ rfl rfl rfl ?_)
  all_goals
    generalize A1.setCell ⟨w.heap.size, 0, none⟩ (.slice a1 st.safe.length k1) = B at *
    clear ca cb n1 z1 hr1
    have ca : B.cell? ⟨w.heap.size, 1, none⟩ = some (.slice none 0 0) := cell_of_row B _ 1 _ _ (0, 0) G2.out.1.blk
    have cb : B.cell? ⟨R.p, 1, none⟩ = some (.slice av st.pend.length cv) := (G2.out.1.raw.cell 1).trans (congrArg some EV.out.2)
    have hs0 := G2.out.1.drew.raw.pend
    rw [EV.out.2] at hs0
    obtain ⟨i1, hi0, hz0, hz1, hz2⟩ := info_parts infoWf
    obtain ⟨v2, B1, hr2, o1, b1, f1⟩ := dup Try.underlying62 hi0 hz0 hz1 hz2 rfl (by omega) B.drew _ _ _ hs0 (wcs_one _) (by omega) (by rw [hm]; omega)
    obtain ⟨a2, k2, rfl⟩ := own_slice o1
    have q1 := G2.out.1.drew.below b1
    have p1 : B1.ownsRow 0 9 1 (.slice a1 st.safe.length k1) st.safe.length (strv st.safe) := own_below (w := B.drew) G2.out.2.1 b1
    have n1 : B1.cell? ⟨w.heap.size, 1, none⟩ = some (.slice none 0 0) := cell_of_row B1 _ 1 _ _ (0, 0) q1.blk
    have z1 : B1.frozen? ⟨w.heap.size, 1, none⟩ = false := frozen_of_row B1 _ 1 _ _ q1.blk
    have f2' : ∀ k, (Value.slice a2 st.pend.length k2).ownBlock = some k → w.heap.size < k := fun k hk => Nat.lt_of_lt_of_le G2.out.1.drew.lt (f1 k hk)
    have ap : ∀ k, (Value.slice a1 st.safe.length k1).ownBlock = some k → (Value.slice a2 st.pend.length k2).ownBlock ≠ some k := fun k hk e => by
      have h1 := f1 k e
      have h2 := (G2.out.2.1.lt k hk).2
      have h3 : B.drew.heap.size = B.heap.size := rfl
      omega
    have q2 := q1.set 1 (.slice a2 st.pend.length k2)
    have o2 := q1.row 1 (.slice a2 st.pend.length k2) o1 f2'
    have p2 := q1.row 1 (.slice a2 st.pend.length k2) p1 G2.out.2.2
    have G3 : Hid (RefAt (B1.setCell ⟨w.heap.size, 1, none⟩ (.slice a2 st.pend.length k2)) ⟨w.heap.size, .slice a1 st.safe.length k1, .slice a2 st.pend.length k2⟩ st ∧ Below w.heap.size w (B1.setCell ⟨w.heap.size, 1, none⟩ (.slice a2 st.pend.length k2)) ∧ ∀ k, (Rk.mk w.heap.size (.slice a1 st.safe.length k1) (.slice a2 st.pend.length k2)).foot k → w.heap.size ≤ k) := by
      refine ⟨⟨H.out.wf, ⟨q2.blk, p2, o2, fun e => by have := G2.out.2.2 _ e; simp at this, fun e => by have := f2' _ e; simp at this, ap⟩⟩, q2.bel, ?_⟩
      rintro k (h | h | h)
      · exact Nat.le_of_eq h.symm
      · exact Nat.le_of_lt (G2.out.2.2 k h)
      · exact Nat.le_of_lt (f2' k h)
    clear q1 q2 o2 o1 p1 p2 b1 f1 f2' ap hs0 G2 hi0 hz0 hz1 hz2
    go_wp2
    go_region_law (refine step_run hr2 rfl _ _ rfl rfl rfl ?_)
    all_goals
      go_wp2
      go_ret
      exact ⟨_, rfl, G3.out⟩
end Go.Proofs.Ytmfjhdjphnogiaa
