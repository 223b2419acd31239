import Derived.Test.YtghdgddpdamhcaaGreatGf
import Derived.Deep.CutRange
/- The laws' own: least, made, begun. -/
namespace Go.Proofs.YtghdgddpdamhcaaGreat
set_option linter.unusedVariables false
set_option linter.unusedSimpArgs false
open Go.RowKit Go.Maps
variable {w0 w w' : World} {q p n x sb first : Nat} {W : Wl} {o : Bool} {B : List ByteArray} {X Y Ls : List (Th → Prop)} {T : ByteArray}
/-- a number modulo another one, not below 0 -/
def lst (n : Int) (m : Nat) : Nat := (n % (m : Int)).toNat
theorem lst_lt (n : Int) (m : Nat) (h : 0 < m) : lst n m < m := by
  unfold lst
  have h1 := Int.emod_nonneg n (show (m : Int) ≠ 0 by omega)
  have h2 := Int.emod_lt_of_pos n (show 0 < (m : Int) by omega)
  omega
theorem least_any (n : Int) (m : Nat) (w : World) (hm : 0 < m) (hm2 : m ≤ 5000) (h1 : -9223372036854775808 ≤ n) (h2 : n ≤ 9223372036854775807) : Calls Tryz.prog 9 #[.int .i64 n, .int .i64 (m : Int)] w fun e w' => e = .returned (.int .i64 (lst n m : Int)) ∧ w' = w := by
  have hm0 : ((m : Int) == 0) = false := by rw [beq_eq_false_iff_ne]; omega
  have ht : n.tmod m = (lst n m : Int) ∨ (n.tmod m < 0 ∧ n.tmod m + m = (lst n m : Int)) := by
    have h1 := Int.emod_nonneg n (show (m : Int) ≠ 0 by omega)
    have h3 := Int.emod_lt_of_pos n (show 0 < (m : Int) by omega)
    have h4 : (lst n m : Int) = n % m := by unfold lst; omega
    rw [h4, Int.tmod_eq_emod]
    simp only [Int.natAbs_natCast]
    split
    · exact .inl (by omega)
    · exact .inr (by omega)
  have hb1 : -(m : Int) ≤ n.tmod m := by
    rcases ht with h | h <;> omega
  have hb2 : n.tmod m < (m : Int) := by
    have := lst_lt n m hm
    rcases ht with h | h <;> omega
  have hl := lst_lt n m hm
  generalize lst n m = L at *
  go_enter Tryz.func9, Tryz.ntmps9
  go_wp2
  all_goals go_ret
  · have e : n.tmod m + m = L := by omega
    exact ⟨by rw [← e]; rfl, rfl⟩
  · have e : n.tmod m = L := by omega
    exact ⟨by rw [← e]; rfl, rfl⟩
set_option maxRecDepth 100000 in
theorem made_s (h : EnvP w0 w Ls) (N : Nat) (h8 : N ≤ 4000) (hs : 24 < N) : Calls Tryz.prog 26 #[.int .i64 (N : Int)] w fun e w' => ∃ q p st, e = .returned (.tuple #[pt q, pt p]) ∧ EnvP w0 w' (lg q p 24 false :: dk p st :: Ls) ∧ OKst NN st N 24 (List.replicate (N - 24) (fl 0)) ∧ st.fall = 0 := by
  have H : Hid (EnvP w0 w Ls) := ⟨h⟩
  have qN := new_env h N (by omega) (by omega)
  have qO : Hid (∀ w5 p, EnvP w0 w5 (Ls ++ [dk p (Go.Proofs.YtghdgddpdamhcaaGreat.fresh N)]) → Calls Tryz.prog 25 #[pt p, .int .i64 24] w5 fun e w' => ∃ q st', e = .returned (.tuple #[pt q, .int .i64 0]) ∧ EnvP w0 w' (lg q p 24 false :: dk p st' :: Ls) ∧ OKst NN st' N 24 (List.replicate (N - 24) (fl 0)) ∧ st'.fall = 0) := ⟨fun w5 p h5 => by
    refine (open_rec (s := 24) h5.front rfl rfl rfl (by omega) (n := N) (by simp [fresh]) hs (rec_fresh N 24 (by omega))).mono ?_
    rintro e w' (⟨q, st', rfl, h6, ok, hf⟩ | ⟨st', _, _, _, hf⟩)
    · exact ⟨q, st', rfl, h6, ok, hf rfl⟩
    · exact absurd rfl hf⟩
  have qB : Hid (∀ q p st' w5, EnvP w0 w5 (lg q p 24 false :: dk p st' :: Ls) → OKst NN st' N 24 (List.replicate (N - 24) (fl 0)) → Calls Tryz.prog 11 #[pt q] w5 fun e w' => e = .returned (.int .i64 ((N - 24 : Nat) : Int)) ∧ ∃ k, w' = w5.drewN k) := ⟨fun q p st' w5 h5 ok => by
    have := blocks_env h5 (by rw [ok.len]; omega)
    rw [ok.len] at this
    have e : ((N - 24 : Nat) : Int) = (N : Int) - ((24 : Nat) : Int) := by omega
    rw [e]; exact this⟩
  have hns : ¬ (((N - 24 : Nat) : Int) < 1) := by omega
  clear h
  go_enter Tryz.func26, Tryz.ntmps26
  go_wp2_with fail
  refine qN.mono ?_
  rintro e w1 ⟨p, rfl, h1⟩
  have E1 := qO.out w1 p h1
  clear h1
  dsimp only
  go_wp2_with fail
  refine E1.mono ?_
  rintro e w2 ⟨q, st', rfl, h2, ok, hf⟩
  have E2 := qB.out q p st' w2 h2 ok
  have H2 : Hid (EnvP w0 w2 (lg q p 24 false :: dk p st' :: Ls)) := ⟨h2⟩
  have K2 : Hid (OKst NN st' N 24 (List.replicate (N - 24) (fl 0)) ∧ st'.fall = 0) := ⟨ok, hf⟩
  clear h2 ok hf
  generalize hNs : N - 24 = m at *
  dsimp only
  go_wp2_with fail
  refine E2.mono ?_
  rintro e w3 ⟨rfl, k, rfl⟩
  dsimp only
  go_wp2
  go_ret2
  exact ⟨q, p, st', rfl, H2.out.drewN k, by rw [hNs]; exact K2.out.1, K2.out.2⟩
theorem begin_s {st : St} (h : EnvP w0 w (lg q p 24 false :: dk p st :: Ls)) (ok : OKst NN st n 24 B ∧ st.fall = 0) (hn : 24 < n ∧ n ≤ 4000) : Calls Tryz.prog 19 #[pt q] w fun e w' => ∃ x, e = .returned (pt x) ∧ TS w0 w' q p n x [] false B Ls := by
  refine (tbegin_env h q).mono ?_
  rintro e w' ⟨x, rfl, h2⟩
  exact ⟨x, rfl, st, h2.perm (((List.perm_append_singleton _ Ls).cons _).cons _), ok, hn, List.Pairwise.nil, InB.nil _⟩
theorem TS.blocks (h : TS w0 w q p n x W o B X) : Calls Tryz.prog 11 #[pt q] w fun e w' => e = .returned (.int .i64 ((n - 24 : Nat) : Int)) ∧ TS w0 w' q p n x W o B X := by
  obtain ⟨st, E, ok, hn, r⟩ := h
  have := blocks_env E (by rw [ok.1.len]; omega)
  rw [ok.1.len] at this
  refine this.mono ?_
  rintro e w' ⟨rfl, k, rfl⟩
  have e : ((n - 24 : Nat) : Int) = (n : Int) - ((24 : Nat) : Int) := by omega
  rw [e]
  exact ⟨rfl, st, E.drewN k, ok, hn, r⟩
theorem SU.ts (h : SU w0 w q p n x sb first T X) : ∃ W B, TS w0 w q p n x W false B (ob sb #[pt x, .int .i64 (first : Int)] 73 :: X) ∧ cur W B first = T ∧ first + 1 ≤ n - 24 := by
  obtain ⟨W, B, ⟨st, E, r⟩, h2⟩ := h
  exact ⟨W, B, ⟨st, E, r⟩, h2⟩
theorem SU.of {W : Wl} {B : List ByteArray} (h : TS w0 w q p n x W false B (ob sb #[pt x, .int .i64 (first : Int)] 73 :: X)) (h2 : cur W B first = T) (hf : first + 1 ≤ n - 24) : SU w0 w q p n x sb first T X := by
  obtain ⟨st, E, r⟩ := h
  exact ⟨W, B, ⟨st, E, r⟩, h2, hf⟩
theorem SU.blocks (h : SU w0 w q p n x sb first T X) : Calls Tryz.prog 11 #[pt q] w fun e w' => e = .returned (.int .i64 ((n - 24 : Nat) : Int)) ∧ SU w0 w' q p n x sb first T X := by
  obtain ⟨W, B, h1, h2, hf⟩ := h.ts
  refine h1.blocks.mono ?_
  rintro e w' ⟨rfl, h3⟩
  exact ⟨rfl, SU.of h3 h2 hf⟩
/-- a second Make that is refused -/
theorem SU.mkBad (h : SU w0 w q p n x sb first T X) (f2 : Nat) (hf2 : n - 24 < f2 + 1) (hb : f2 ≤ 9000000000000000000) : Calls Tryz.prog 27 #[pt x, .int .i64 (f2 : Int)] w fun e w' => e = .returned (.tuple #[.pointer none, .int .i64 40]) ∧ SU w0 w' q p n x sb first T X := by
  obtain ⟨W, B, h1, h2, hf⟩ := h.ts
  refine (h1.mk f2 hb).mono ?_
  rintro e w' (⟨_, rfl, h3⟩ | ⟨hx, _⟩)
  · exact ⟨rfl, SU.of h3 h2 hf⟩
  · omega
theorem TS.mkU (h : TS w0 w q p n x W false B X) (hR : Rising W) (first : Nat) (hf : first + 1 ≤ n - 24) (hb : first ≤ 9000000000000000000) : Calls Tryz.prog 27 #[pt x, .int .i64 (first : Int)] w fun e w' => ∃ sb, e = .returned (.tuple #[pt sb, .int .i64 0]) ∧ SU w0 w' q p n x sb first (fl 0) X := by
  refine (h.mk first hb).mono ?_
  rintro e w' (⟨hx, _⟩ | ⟨_, sb, rfl, h3⟩)
  · omega
  · exact ⟨sb, rfl, _, B, h3, cur_ins hR, hf⟩
theorem results_tmp4 {fn : Func} {t u v y : Tmp} (h : fn.results = #[.tmp t, .tmp u, .tmp v, .tmp y]) (tmps : Array Value) (P : Program) (w : World) :
    (results fn tmps).run P w = .ok (.tuple #[tmps.getD t undef, tmps.getD u undef, tmps.getD v undef, tmps.getD y undef]) w := by
  simp [results, h]
set_option maxRecDepth 100000 in
theorem begun_s (h : EnvP w0 w Ls) (N first : Nat) (h8 : N ≤ 4000) (hs : 24 < N) (hf : first + 1 ≤ N - 24) : Calls Tryz.prog 10 #[.int .i64 (N : Int), .int .i64 (first : Int)] w fun e w' => ∃ q p x sb, e = .returned (.tuple #[pt sb, pt x, pt q, pt p]) ∧ SU w0 w' q p N x sb first (fl 0) Ls := by
  have qM := made_s h N h8 hs
  have hfb : Hid (first ≤ 9000000000000000000) := ⟨by omega⟩
  have hff : Hid (first + 1 ≤ N - 24) := ⟨hf⟩
  have hnn : Hid (24 < N ∧ N ≤ 4000) := ⟨hs, h8⟩
  clear h hf hs h8
  go_enter Tryz.func10, Tryz.ntmps10
  go_wp2_with fail
  refine qM.mono ?_
  rintro e w1 ⟨q, p, st, rfl, h1, ok⟩
  have qG := begin_s h1 ok hnn.out
  clear h1 ok qM
  dsimp only
  go_wp2_with fail
  refine qG.mono ?_
  rintro e w2 ⟨x, rfl, h2⟩
  have qK := h2.mkU List.Pairwise.nil first hff.out hfb.out
  clear h2 qG
  dsimp only
  go_wp2_with fail
  refine qK.mono ?_
  rintro e w3 ⟨sb, rfl, h3⟩
  have H3 : Hid (SU w0 w3 q p N x sb first (fl 0) Ls) := ⟨h3⟩
  clear h3 qK
  dsimp only
  go_wp2
  refine bodyPost_ret (results_tmp4 rfl _ _ _) rfl ?_
  exact ⟨q, p, x, sb, rfl, H3.out⟩
end Go.Proofs.YtghdgddpdamhcaaGreat

/- Steps of a drawn region in a great frame. -/
namespace Go.Proofs.YtghdgddpdamhcaaGreat
set_option linter.unusedVariables false
set_option linter.unusedSimpArgs false
open Go.RowKit Go.Maps
theorem val_step {P : Program} {o : Oper} {a : Act} {w : World} {next : Act → World → Prop} {Q : Exit → Act → World → Prop} {v : Value} {w2 : World} (d : Nat) (hd : o.dst = some d) (hx : (execOp a.eval o).run P w = .ok (.value v) w2) (hn : next (a.put (some d) v) w2) : Oper.wp P o a w next Q := by
  unfold Oper.wp; rw [hx]; show next (a.put o.dst v) w2; rw [hd]; exact hn
theorem call_step {P : Program} {o : Oper} {a : Act} {w : World} {next : Act → World → Prop} {Q : Exit → Act → World → Prop} {f : Nat} {args : Array Value} {v : Value} {G : World → Prop} (d : Nat) (hd : o.dst = some d) (hx : (execOp a.eval o).run P w = .ok (.enter f args) w)
    (hc : Calls P f args w fun e w' => e = .returned v ∧ G w') (hn : ∀ w', G w' → next (a.put (some d) v) w') : Oper.wp P o a w next Q := by
  unfold Oper.wp; rw [hx, Oper.upon_enter]; refine hc.mono ?_; rintro e w' ⟨rfl, g⟩; show next (a.put o.dst v) w'; rw [hd]; exact hn w' g
theorem take_d {P : Program} {ops : Array Oper} {Q : Exit → Act → World → Prop} {md : Region.Mode} {S : World → Prop} {oi : Oper} {fuel : Nat} {listed : Array Bool} {a : Act} {w : World} (i d : Nat) (v : Value) (hi : ops[i]? = some oi) (hd : oi.dst = some d)
    (hs : Region.noSelect ops = true) (hf : Region.free md ops listed i = true) (hr : (Region.ready md ops listed).contains i = true)
    (hQ : ∀ c a w, Q (.panic c) (a.put (some d) v) w → Q (.panic c) a w) (hw : Region.wanted oi (yielded ops a.tmps) = true) (hy : ∀ w, S w → (execOp a.eval oi).run P w = .ok (.value v) w) (hS : S w)
    (h : wpAnyH P md ops Q S fuel (listed.setIfInBounds i true) (a.put (some d) v) w) : wpAnyH P md ops Q S (fuel + 1) listed a w :=
  wpAnyH_take hi hs hf hr (by rw [hd]; exact hQ) (Or.inl ⟨hw, hy⟩) hS (by rw [hd]; exact h)
theorem run_eql {a : Act} {o : Oper} (i : Tmp) (m n : Int) (ho : o.op = Op.binOp .eql 33 (.tmp i) (.const (.int .i64 n)) 33) (hx : a.eval (.tmp i) = .int .i64 m) (w : World) : (execOp a.eval o).run Tryz.prog w = .ok (.value (.bool (m == n))) w := by
  have hy : a.eval (.const (.int .i64 n)) = .int .i64 n := rfl
  generalize a.eval = ev at *
  simp [execOp, ho, hx, hy, go_sem]
theorem run_pick {a : Act} {o : Oper} (c x y : Operand) (b : Bool) (v : Value) (ho : o.op = Op.pick c x y) (hc : a.eval c = .bool b) (hv : (if b then a.eval x else a.eval y) = v) (w : World) : (execOp a.eval o).run Tryz.prog w = .ok (.value v) w := by
  subst hv
  generalize a.eval = ev at *
  cases b <;> simp [execOp, ho, hc, go_sem]
theorem run_move {a : Act} {o : Oper} (x : Operand) (v : Value) (ho : o.op = Op.move x) (hx : a.eval x = v) (w : World) : (execOp a.eval o).run Tryz.prog w = .ok (.value v) w := by
  generalize a.eval = ev at *
  simp [execOp, ho, hx, go_sem]
theorem run_assign {a : Act} {o : Oper} (x : Operand) (v : Value) (ho : o.op = Op.assign x) (hx : a.eval x = v) (w : World) : (execOp a.eval o).run Tryz.prog w = .ok (.value v) w := by
  generalize a.eval = ev at *
  simp [execOp, ho, hx, go_sem]
theorem run_enter2 {a : Act} {o : Oper} (f : FuncId) (x y : Operand) (ats : Array TypeId) (v1 v2 : Value) (ho : o.op = .call { callee := .value (.func f), args := #[x, y], argTypes := ats }) (h1 : a.eval x = v1) (h2 : a.eval y = v2) (eg : ∀ args w, (callFunc f args).run Tryz.prog w = .ok (.enter f args) w) (w : World) : (execOp a.eval o).run Tryz.prog w = .ok (.enter f #[v1, v2]) w := by
  obtain ⟨dst, op, ty, pos, after, guard⟩ := o
  simp only at ho
  subst ho
  rw [execOp_call_go, eg, ← h1, ← h2]
  generalize a.eval = ev
  simp
theorem run_enter1 {a : Act} {o : Oper} (f : FuncId) (x : Operand) (ats : Array TypeId) (v1 : Value) (ho : o.op = .call { callee := .value (.func f), args := #[x], argTypes := ats }) (h1 : a.eval x = v1) (eg : ∀ args w, (callFunc f args).run Tryz.prog w = .ok (.enter f args) w) (w : World) : (execOp a.eval o).run Tryz.prog w = .ok (.enter f #[v1]) w := by
  obtain ⟨dst, op, ty, pos, after, guard⟩ := o
  simp only at ho
  subst ho
  rw [execOp_call_go, eg, ← h1]
  generalize a.eval = ev
  simp
end Go.Proofs.YtghdgddpdamhcaaGreat

/- head: examples 1 and 2. -/
namespace Go.Proofs.YtghdgddpdamhcaaGreat
set_option linter.unusedVariables false
set_option linter.unusedSimpArgs false
open Go.RowKit Go.Maps
variable {w0 w w' : World} {q p n x sb first : Nat} {W : Wl} {o : Bool} {B : List ByteArray} {X Y Ls : List (Th → Prop)} {T : ByteArray}
theorem SU.alloc' (h : SU w0 w q p n x sb first T X) (cs : Array Value) (ty : TypeId) : SU w0 (w.alloc (.cells cs ty)) q p n x sb first T (X ++ [ob w.heap.size cs ty]) := by
  obtain ⟨W, B, h1, r⟩ := h
  exact ⟨W, B, h1.alloc cs ty, r⟩
theorem SU.front {s : Th → Prop} (h : SU w0 w q p n x sb first T (X ++ [s])) : SU w0 w q p n x sb first T (s :: X) := h.perm (List.perm_append_singleton s X)
theorem SU.cellM (h : SU w0 w q p n x sb first T X) {b : Nat} {cs : Array Value} {ty : TypeId} (hm : ob b cs ty ∈ X) (j : Nat) : w.cell? ⟨b, j, none⟩ = cs[j]? := by
  obtain ⟨W, B, h1, r⟩ := h
  exact h1.cellM hm j
theorem SU.obLt (h : SU w0 w q p n x sb first T X) {b : Nat} {cs : Array Value} {ty : TypeId} (hm : ob b cs ty ∈ X) : b < w.heap.size := by
  obtain ⟨W, B, ⟨st, E, r⟩, r2⟩ := h
  obtain ⟨i, hi⟩ := List.mem_iff_getElem?.1 hm
  exact heap_lt (E.heap (i + 4) (by simpa using hi))
/-- a row of numbers among the things -/
theorem SU.row (h : SU w0 w q p n x sb first T X) {v : Value} {zs : List Int} (hm : rowI v zs ∈ X) : w.ownsRow 0 3 1 v zs.length (iv zs) := by
  obtain ⟨W, B, ⟨st, E, r⟩, r2⟩ := h
  obtain ⟨i, hi⟩ := List.mem_iff_getElem?.1 hm
  exact E.rowAt (i + 4) (by simpa using hi)
theorem SU.rowC (h : SU w0 w q p n x sb first T X) {g m c : Nat} {zs : List Int} (hm : rowI (.slice (some ⟨g, 0, none⟩) m c) zs ∈ X) (hz : zs.length = m) : ∀ j, j < m → ∃ b off, some (⟨g, 0, none⟩ : Addr) = some ⟨b, off, none⟩ ∧ b < w.heap.size ∧ w.cell? ⟨b, off + j, none⟩ = some (.int .i64 (zs.getD j 0)) := fun j hj => by
  have ho := h.row hm
  rw [hz] at ho
  refine ⟨g, 0, rfl, (ho.lt g rfl).2, ?_⟩
  have hc := ho.cellAt j (by omega)
  rw [Nat.zero_add, hc]
  simp [iv, List.getElem?_map, List.getElem?_eq_getElem (show j < zs.length by omega), List.getD_eq_getElem?_getD]
theorem srt_eq {zs S : List Int} (hs : S.Pairwise (· ≤ ·)) (hp : S.Perm zs) : srt zs = S :=
  List.Perm.eq_of_pairwise (le := (· ≤ ·)) (fun a b _ _ h1 h2 => by omega) (srt_sorted zs) hs ((List.mergeSort_perm zs _).trans hp.symm)
theorem frees0 (a m : Nat) : frees (fl 0) a m = (List.range m).filter fun k => decide (a ≤ k) := by
  unfold frees; apply List.filter_congr; intro k _; rw [bt_fl0]; simp
theorem take2 : (frees (fl 0) 4 76).take 2 = [4, 5] := by rw [frees0]; decide
theorem fl0sz : (fl 0).size = 512 := fl_size 0
theorem in45 : ∀ k ∈ [4, 5], k / 8 < (fl 0).size := fun k hk => by rw [fl0sz]; simp at hk; omega
theorem b45 (j : Nat) : bt (flipA (fl 0) [4, 5]) j = decide (j ∈ [4, 5]) := by rw [bt_flipA (by decide) in45, bt_fl0]; simp
theorem left1 : (frees (flipA (fl 0) [4, 5]) 4 76).length = 70 := by
  have h1 := frees_flip (t := fl 0) (a := 4) (m := 76) (l := [4, 5]) (by decide) in45 (fun k hk => by rw [mem_frees, bt_fl0]; simp at hk; exact ⟨by omega, by omega, rfl⟩)
  have h2 : (frees (fl 0) 4 76).length = 72 := frees_zero bt_fl0
  simp at h1; omega
theorem left0 : (frees (fl 0) 4 76).length = 72 := frees_zero bt_fl0
theorem left2 : (frees (flipA (flipA (fl 0) [4, 5]) [4, 5]) 4 76).length = 72 := by
  rw [frees_congr (t' := fl 0) (fun k _ _ => flip_back (by decide) in45 k)]; exact left0
theorem s54 : srt [5, 4] = [4, 5] := srt_eq (by decide) (List.Perm.swap 5 4 [])
theorem s45 : srt [4, 5] = [4, 5] := srt_eq (by decide) (List.Perm.refl _)
theorem s3 : srt [3] = [3] := srt_eq (by decide) (List.Perm.refl _)
theorem g45 : fgood 4 76 [4, 5] := fun i hi => by
  have : i = 0 ∨ i = 1 := by simp at hi; omega
  rcases this with rfl | rfl <;> decide
theorem a45 : allB (flipA (fl 0) [4, 5]) true (nats [4, 5]) = true := by
  show allB _ true [4, 5] = true
  unfold allB; simp [b45]
theorem na45 : ¬ allB (flipA (flipA (fl 0) [4, 5]) [4, 5]) true (nats [4, 5]) = true := by
  show ¬ allB _ true [4, 5] = true
  unfold allB; simp [flip_back (t := fl 0) (l := [4, 5]) (by decide) in45, bt_fl0]
theorem ng3 : ¬ fgood 4 76 [3] := fun h => by have := (h 0 (by simp)).1; simp at this
set_option maxRecDepth 1000000 in
set_option maxHeartbeats 4000000 in
theorem head_any (w : World) : Calls Tryz.prog 8 #[] w fun e w' => e = .returned (.bool true) ∧ Below w.heap.size w w' := by
  have qM := made_s (EnvP.nil w) 100 (by omega) (by omega)
  have u0 : usd 76 3 (fl 0) 0 = true := by unfold usd; rfl
  have u3 : usd 76 3 (fl 0) 3 = true := by unfold usd; rfl
  have u4 : usd 76 3 (fl 0) 4 = false := by unfold usd; rw [bt_fl0]; rfl
  have u76 : usd 76 3 (fl 0) 76 = false := by unfold usd; rfl
  have um : usd 76 3 (fl 0) (-1) = false := by unfold usd; rfl
  have v4 : usd 76 3 (flipA (fl 0) [4, 5]) 4 = true := by unfold usd; rw [b45]; rfl
  have v5 : usd 76 3 (flipA (fl 0) [4, 5]) 5 = true := by unfold usd; rw [b45]; rfl
  go_enter Tryz.func8, Tryz.ntmps8
  go_wp2_with fail
  refine qM.mono ?_
  rintro e w1 ⟨q, p, st, rfl, h1, ok⟩
  have qG := begin_s h1 ok (by omega)
  clear h1 ok qM
  dsimp only
  go_wp2_with fail
  refine qG.mono ?_
  rintro e w2 ⟨x, rfl, h2⟩
  have qB := h2.blocks
  rw [show ((100 - 24 : Nat) : Int) = 76 from rfl] at qB
  clear h2 qG
  dsimp only
  go_wp2_with fail
  refine qB.mono ?_
  rintro e w3 ⟨rfl, h3⟩
  have qK := h3.mkU List.Pairwise.nil 3 (by omega) (by omega)
  clear h3 qB
  dsimp only
  go_wp2_with fail
  refine qK.mono ?_
  rintro e w4 ⟨sb, rfl, h4⟩
  have qK2 := h4.mkBad 76 (by omega) (by omega)
  clear h4 qK
  dsimp only
  go_wp2_with fail
  refine qK2.mono ?_
  rintro e w5 ⟨rfl, h5⟩
  have q6 := h5.left
  rw [show (100 - 24) = 76 from rfl, show 3 + 1 = 4 from rfl, left0] at q6
  clear h5 qK2
  dsimp only
  go_wp2_with fail
  refine q6.mono ?_
  rintro e w6 ⟨rfl, h6⟩
  have q7 := h6.used 0
  rw [show (100 - 24) = 76 from rfl, u0] at q7
  clear h6 q6
  dsimp only
  go_wp2_with fail
  refine q7.mono ?_
  rintro e w7 ⟨rfl, h7⟩
  have q8 := h7.used 3
  rw [show (100 - 24) = 76 from rfl, u3] at q8
  clear h7 q7
  dsimp only
  go_wp2_with fail
  refine q8.mono ?_
  rintro e w8 ⟨rfl, h8⟩
  have q9 := h8.used 4
  rw [show (100 - 24) = 76 from rfl, u4] at q9
  clear h8 q8
  dsimp only
  go_wp2_with fail
  refine q9.mono ?_
  rintro e w9 ⟨rfl, h9⟩
  have q10 := h9.used 76
  rw [show (100 - 24) = 76 from rfl, u76] at q10
  clear h9 q9
  dsimp only
  go_wp2_with fail
  refine q10.mono ?_
  rintro e w10 ⟨rfl, h10⟩
  have q11 := h10.used (-1)
  rw [show (100 - 24) = 76 from rfl, um] at q11
  clear h10 q10
  dsimp only
  go_wp2_with fail
  refine q11.mono ?_
  rintro e w11 ⟨rfl, h11⟩
  have q12 := h11.alloc 2
  have l11 : (frees (fl 0) (3 + 1) (100 - 24)).length = 72 := left0
  clear h11 q11
  dsimp only
  go_wp2_with fail
  refine q12.mono ?_
  rintro e w12 (⟨hx, _⟩ | ⟨hx, _⟩ | ⟨hx, _⟩ | ⟨N, g, c, hN, hA, hB, hc, rfl, h12⟩)
  · omega
  · rw [l11] at hx; omega
  · omega
  obtain rfl : N = 2 := by omega
  have e12 : (frees (fl 0) (3 + 1) (100 - 24)).take 2 = [4, 5] := take2
  rw [e12] at h12
  clear q12 l11 e12 hN hA hB
  have qs : ∀ w1 T1, SU w w1 q p 100 x sb 3 T1 [rowI (.slice (some ⟨g, 0, none⟩) 2 c) (ni [4, 5])] → w1.cell? ⟨g, 0, none⟩ = some (.int .i64 4) ∧ w1.cell? ⟨g, 1, none⟩ = some (.int .i64 5) := fun w1 T1 h => by
    have r := h.rowC (g := g) (m := 2) (c := c) (zs := [4, 5]) (List.mem_cons_self) rfl
    refine ⟨?_, ?_⟩
    · obtain ⟨b, off, e, _, h⟩ := r 0 (by omega); cases e; exact h
    · obtain ⟨b, off, e, _, h⟩ := r 1 (by omega); cases e; exact h
  obtain ⟨Xr, hXr⟩ : ∃ Xr, Xr = [rowI (.slice (some ⟨g, 0, none⟩) 2 c) (ni [4, 5])] := ⟨_, rfl⟩
  obtain ⟨T1, hT1⟩ : ∃ T1, T1 = flipA (fl 0) [4, 5] := ⟨_, rfl⟩
  rw [← hXr] at h12
  rw [← hT1] at h12 v4 v5
  have l1 := left1
  rw [← hT1] at l1
  rw [← hXr] at qs
  have HS : Hid (∀ w1 T1, SU w w1 q p 100 x sb 3 T1 Xr → w1.cell? ⟨g, 0, none⟩ = some (.int .i64 4) ∧ w1.cell? ⟨g, 1, none⟩ = some (.int .i64 5)) := ⟨qs⟩
  have HU4 : Hid (∀ w1, SU w w1 q p 100 x sb 3 T1 Xr → Calls Tryz.prog 14 #[pt sb, .int .i64 4] w1 fun e w' => e = .returned (.bool true) ∧ SU w w' q p 100 x sb 3 T1 Xr) := ⟨fun w1 h => by have := h.used 4; rw [show (100 - 24) = 76 from rfl, v4] at this; exact this⟩
  have HU5 : Hid (∀ w1, SU w w1 q p 100 x sb 3 T1 Xr → Calls Tryz.prog 14 #[pt sb, .int .i64 5] w1 fun e w' => e = .returned (.bool true) ∧ SU w w' q p 100 x sb 3 T1 Xr) := ⟨fun w1 h => by have := h.used 5; rw [show (100 - 24) = 76 from rfl, v5] at this; exact this⟩
  have HLf : Hid (∀ w1, SU w w1 q p 100 x sb 3 T1 Xr → Calls Tryz.prog 12 #[pt sb] w1 fun e w' => e = .returned (.int .i64 70) ∧ SU w w' q p 100 x sb 3 T1 Xr) := ⟨fun w1 h => by have := h.left; rw [show (100 - 24) = 76 from rfl, show 3 + 1 = 4 from rfl, l1] at this; exact this⟩
  have HT1 : Hid (T1 = flipA (fl 0) [4, 5]) := ⟨hT1⟩
  have HXr : Hid (Xr = [rowI (.slice (some ⟨g, 0, none⟩) 2 c) (ni [4, 5])]) := ⟨hXr⟩
  clear qs hT1 hXr l1
  have H12 : Hid (SU w w12 q p 100 x sb 3 T1 Xr) := ⟨h12⟩
  clear h12 u0 u3 u4 u76 um v4 v5
  dsimp only
  go_upto_region 13 with fail
  go_cut [120] from 10 (fun v wx => v = .bool false ∧ Hid (SU w wx q p 100 x sb 3 T1 Xr))
  case first =>
    go_wp2_with fail
    have h20 : SU w w12.drew q p 100 x sb 3 T1 Xr := H12.out.below (Below.refl _ _).drew
    have S2 := HS.out _ _ h20
    have hw70 : IntKind.i64.wrap (76 - 6) = 70 := rfl
    go_region_held3 (fun w' => w'.cell? ⟨g, 0, none⟩ = some (.int .i64 4) ∧ w'.cell? ⟨g, 1, none⟩ = some (.int .i64 5)) (first | with_reducible exact S2 | with_reducible exact HS.out _ _ h23 | with_reducible exact HS.out _ _ h22 | with_reducible exact HS.out _ _ h21 | assumption)
      ((first
        | (go_at_call 14; first | (with_reducible refine (HU4.out _ h20).mono ?_; rintro e w21 ⟨rfl, h21⟩) | (with_reducible refine (HU5.out _ h21).mono ?_; rintro e w22 ⟨rfl, h22⟩))
        | (go_at_call 12; with_reducible refine (HLf.out _ h22).mono ?_; rintro e w23 ⟨rfl, h23⟩)))
    have H23 : Hid (SU w w23 q p 100 x sb 3 T1 Xr) := ⟨h23⟩
    clear S2 h20 h21 h22 h23
    go_wp2_with fail
    go_meet
    case rel => exact ⟨rfl, H23⟩
  obtain ⟨rfl, H23⟩ := hcut
  clear H12 HU4 HU5 HLf
  obtain ⟨T2, hT2⟩ : ∃ T2, T2 = flipA T1 [4, 5] := ⟨_, rfl⟩
  have HT2 : Hid (T2 = flipA T1 [4, 5]) := ⟨hT2⟩
  clear hT2
  have HF1 : Hid (∀ w1, SU w w1 q p 100 x sb 3 T1 Xr → Calls Tryz.prog 15 #[pt sb, .slice (some ⟨w1.heap.size, 0, none⟩) 2 2] (w1.alloc (.cells #[.int .i64 5, .int .i64 4] 3)) fun e w' => e = .returned (.int .i64 0) ∧ SU w w' q p 100 x sb 3 T2 Xr) := ⟨fun w1 h => by
    refine ((h.alloc' #[.int .i64 5, .int .i64 4] 3).free (some ⟨w1.heap.size, 0, none⟩) 2 [5, 4] (by decide) (fun w2 h2 j hj => ?_)).mono ?_
    · refine ⟨w1.heap.size, 0, rfl, h2.obLt (b := w1.heap.size) (cs := #[.int .i64 5, .int .i64 4]) (ty := 3) (List.mem_append_right _ List.mem_cons_self), ?_⟩
      have := h2.cellM (b := w1.heap.size) (cs := #[.int .i64 5, .int .i64 4]) (ty := 3) (List.mem_append_right _ List.mem_cons_self) j
      rw [Nat.zero_add, this]
      have : j = 0 ∨ j = 1 := by simp at hj; omega
      rcases this with rfl | rfl <;> rfl
    · rintro e w' (⟨_, rfl, h3⟩ | ⟨hx, _⟩)
      · rw [s54] at h3
        refine ⟨rfl, ?_⟩
        rw [HT2.out]
        exact h3.init
      · refine absurd ⟨?_, ?_⟩ hx
        · rw [s54]; exact g45
        · rw [s54, HT1.out]; exact a45⟩
  have HL2 : Hid (∀ w1, SU w w1 q p 100 x sb 3 T2 Xr → Calls Tryz.prog 12 #[pt sb] w1 fun e w' => e = .returned (.int .i64 72) ∧ SU w w' q p 100 x sb 3 T2 Xr) := ⟨fun w1 h => by
    have := h.left
    have l2 := left2
    rw [← HT1.out, ← HT2.out] at l2
    rw [show (100 - 24) = 76 from rfl, show 3 + 1 = 4 from rfl, l2] at this
    exact this⟩
  have HF2 : Hid (∀ w1, SU w w1 q p 100 x sb 3 T2 Xr → Calls Tryz.prog 15 #[pt sb, .slice (some ⟨g, 0, none⟩) 2 c] w1 fun e w' => e = .returned (.int .i64 1) ∧ SU w w' q p 100 x sb 3 T2 Xr) := ⟨fun w1 h => by
    refine (h.free (some ⟨g, 0, none⟩) c [4, 5] (by decide) (fun w2 h2 => ?_)).mono ?_
    · exact h2.rowC (g := g) (m := 2) (c := c) (zs := [4, 5]) (by rw [HXr.out]; exact List.mem_cons_self) rfl
    · rintro e w' (⟨hx, _⟩ | ⟨_, rfl, h3⟩)
      · have hy := hx.2
        rw [s45, HT2.out, HT1.out] at hy
        exact absurd hy na45
      · exact ⟨rfl, h3⟩⟩
  have HF3 : Hid (∀ w1, SU w w1 q p 100 x sb 3 T2 Xr → Calls Tryz.prog 15 #[pt sb, .slice (some ⟨w1.heap.size, 0, none⟩) 1 1] (w1.alloc (.cells #[.int .i64 3] 3)) fun e w' => e = .returned (.int .i64 1) ∧ SU w w' q p 100 x sb 3 T2 Xr) := ⟨fun w1 h => by
    refine ((h.alloc' #[.int .i64 3] 3).free (some ⟨w1.heap.size, 0, none⟩) 1 [3] (by decide) (fun w2 h2 j hj => ?_)).mono ?_
    · refine ⟨w1.heap.size, 0, rfl, h2.obLt (b := w1.heap.size) (cs := #[.int .i64 3]) (ty := 3) (List.mem_append_right _ List.mem_cons_self), ?_⟩
      have := h2.cellM (b := w1.heap.size) (cs := #[.int .i64 3]) (ty := 3) (List.mem_append_right _ List.mem_cons_self) j
      rw [Nat.zero_add, this]
      have : j = 0 := by simp at hj; omega
      subst this; rfl
    · rintro e w' (⟨hx, _⟩ | ⟨_, rfl, h3⟩)
      · have hy := hx.1
        rw [s3] at hy
        exact absurd hy ng3
      · exact ⟨rfl, h3.init⟩⟩
  have HSA : Hid (∀ w1 T1 ob, SU w w1 q p 100 x sb 3 T1 Xr → (w1.alloc ob).cell? ⟨g, 0, none⟩ = some (.int .i64 4) ∧ (w1.alloc ob).cell? ⟨g, 1, none⟩ = some (.int .i64 5)) := ⟨fun w1 T1 ob h => HS.out _ _ (h.below ((Below.refl _ _).alloc (Nat.le_refl _) _))⟩
  go_wp2_with fail
  have h30 : SU w wc.drew q p 100 x sb 3 T1 Xr := H23.out.below (Below.refl _ _).drew
  have S2 := HS.out _ _ h30
  have hf1 : Calls Tryz.prog 15 #[pt sb, .slice (some ⟨wc.heap.size, 0, none⟩) 2 2] (wc.alloc (.cells #[.int .i64 5, .int .i64 4] 3)).drew fun e w' => e = .returned (.int .i64 0) ∧ SU w w' q p 100 x sb 3 T2 Xr := HF1.out _ h30
  have s30 : (wc.alloc (.cells #[.int .i64 5, .int .i64 4] 3)).drew.cell? ⟨g, 0, none⟩ = some (.int .i64 4) ∧ (wc.alloc (.cells #[.int .i64 5, .int .i64 4] 3)).drew.cell? ⟨g, 1, none⟩ = some (.int .i64 5) := HSA.out wc.drew T1 (.cells #[.int .i64 5, .int .i64 4] 3) h30
  have hw72 : IntKind.i64.wrap (76 - 4) = 72 := rfl
  refine wp_region_held_drew (S := fun w' => w'.cell? ⟨g, 0, none⟩ = some (.int .i64 4) ∧ w'.cell? ⟨g, 1, none⟩ = some (.int .i64 5)) (by kernel_rfl) S2 (fun hHeld => ?_)
  refine take_d 0 121 (pt sb) rfl rfl (by kernel_rfl) (by kernel_rfl) (by kernel_rfl) (fun _ _ _ h => h) (by kernel_rfl) ?_ (by assumption) ?_
  · intro w hSw
    rfl
  try simp only [Act.put, List.setIfInBounds_toArray, List.set_cons_zero, List.set_cons_succ]
  refine take_d 1 122 (.slice (some ⟨g, 0, none⟩) 2 c) rfl rfl (by kernel_rfl) (by kernel_rfl) (by kernel_rfl) (fun _ _ _ h => h) (by kernel_rfl) ?_ (by assumption) ?_
  · intro w hSw
    rfl
  try simp only [Act.put, List.setIfInBounds_toArray, List.set_cons_zero, List.set_cons_succ]
  refine take_d 2 123 (.pointer (some ⟨g, 1, none⟩)) rfl rfl (by kernel_rfl) (by kernel_rfl) (by kernel_rfl) (fun _ _ _ h => h) (by kernel_rfl) ?_ (by assumption) ?_
  · intro w hSw
    obtain ⟨hS0, hS1⟩ := hSw; go_simp
  try simp only [Act.put, List.setIfInBounds_toArray, List.set_cons_zero, List.set_cons_succ]
  refine take_d 3 124 (.int .i64 5) rfl rfl (by kernel_rfl) (by kernel_rfl) (by kernel_rfl) (fun _ _ _ h => h) (by kernel_rfl) ?_ (by assumption) ?_
  · intro w hSw
    obtain ⟨hS0, hS1⟩ := hSw; go_simp
  try simp only [Act.put, List.setIfInBounds_toArray, List.set_cons_zero, List.set_cons_succ]
  refine take_d 4 125 (.slice (some ⟨g, 0, none⟩) 2 c) rfl rfl (by kernel_rfl) (by kernel_rfl) (by kernel_rfl) (fun _ _ _ h => h) (by kernel_rfl) ?_ (by assumption) ?_
  · intro w hSw
    rfl
  try simp only [Act.put, List.setIfInBounds_toArray, List.set_cons_zero, List.set_cons_succ]
  refine take_d 5 126 (.pointer (some ⟨g, 0, none⟩)) rfl rfl (by kernel_rfl) (by kernel_rfl) (by kernel_rfl) (fun _ _ _ h => h) (by kernel_rfl) ?_ (by assumption) ?_
  · intro w hSw
    obtain ⟨hS0, hS1⟩ := hSw; go_simp
  try simp only [Act.put, List.setIfInBounds_toArray, List.set_cons_zero, List.set_cons_succ]
  refine take_d 6 127 (.int .i64 4) rfl rfl (by kernel_rfl) (by kernel_rfl) (by kernel_rfl) (fun _ _ _ h => h) (by kernel_rfl) ?_ (by assumption) ?_
  · intro w hSw
    obtain ⟨hS0, hS1⟩ := hSw; go_simp
  try simp only [Act.put, List.setIfInBounds_toArray, List.set_cons_zero, List.set_cons_succ]
  clear hHeld
  refine wpAnyH_ready (rs := [7]) (by kernel_rfl) (by simp) ?_
  refine AllReadyH.cons rfl (fun K hK => ?_) AllReadyH.nil
  rw [if_pos (by kernel_rfl)]
  refine val_step (v := (.slice (some ⟨wc.heap.size, 0, none⟩) 2 2)) (w2 := ((wc.alloc (.cells #[.int .i64 5, .int .i64 4] 3)).drew)) 128 rfl ?_ ?_
  · go_simp
  refine hK.out _ _ s30 (fun hHeld => ?_)
  clear hK K
  try simp only [Act.put, List.setIfInBounds_toArray, List.set_cons_zero, List.set_cons_succ]
  clear hHeld
  refine wpAnyH_ready (rs := [8]) (by kernel_rfl) (by simp) ?_
  refine AllReadyH.cons rfl (fun K hK => ?_) AllReadyH.nil
  rw [if_pos (by kernel_rfl)]
  refine call_step 129 rfl ?_ (hf1) ?_
  · exact run_enter2 15 (.tmp 121) (.tmp 128) #[25, 22] _ _ (by kernel_rfl) (by kernel_rfl) (by kernel_rfl) (enters_of Tryz.func15 (by kernel_rfl) rfl) _
  rintro w31 h31
  refine hK.out _ _ (HS.out _ _ h31) (fun hHeld => ?_)
  clear hK K
  try simp only [Act.put, List.setIfInBounds_toArray, List.set_cons_zero, List.set_cons_succ]
  refine take_d 9 130 (.bool true) rfl rfl (by kernel_rfl) (by kernel_rfl) (by kernel_rfl) (fun _ _ _ h => h) (by kernel_rfl) ?_ (by assumption) ?_
  · intro w hSw
    exact run_eql 129 0 0 (by kernel_rfl) (by kernel_rfl) w
  try simp only [Act.put, List.setIfInBounds_toArray, List.set_cons_zero, List.set_cons_succ]
  refine take_d 10 131 (.bool true) rfl rfl (by kernel_rfl) (by kernel_rfl) (by kernel_rfl) (fun _ _ _ h => h) (by kernel_rfl) ?_ (by assumption) ?_
  · intro w hSw
    exact run_move (.tmp 130) _ (by kernel_rfl) (by kernel_rfl) w
  try simp only [Act.put, List.setIfInBounds_toArray, List.set_cons_zero, List.set_cons_succ]
  refine take_d 11 132 (pt sb) rfl rfl (by kernel_rfl) (by kernel_rfl) (by kernel_rfl) (fun _ _ _ h => h) (by kernel_rfl) ?_ (by assumption) ?_
  · intro w hSw
    exact run_move (.tmp 5) _ (by kernel_rfl) (by kernel_rfl) w
  try simp only [Act.put, List.setIfInBounds_toArray, List.set_cons_zero, List.set_cons_succ]
  refine take_d 13 134 (.int .i64 76) rfl rfl (by kernel_rfl) (by kernel_rfl) (by kernel_rfl) (fun _ _ _ h => h) (by kernel_rfl) ?_ (by assumption) ?_
  · intro w hSw
    exact run_move (.tmp 4) _ (by kernel_rfl) (by kernel_rfl) w
  try simp only [Act.put, List.setIfInBounds_toArray, List.set_cons_zero, List.set_cons_succ]
  refine take_d 14 135 (.int .i64 72) rfl rfl (by kernel_rfl) (by kernel_rfl) (by kernel_rfl) (fun _ _ _ h => h) (by kernel_rfl) ?_ (by assumption) ?_
  · intro w hSw
    go_simp
    rfl
  try simp only [Act.put, List.setIfInBounds_toArray, List.set_cons_zero, List.set_cons_succ]
  clear hHeld
  refine wpAnyH_ready (rs := [12]) (by kernel_rfl) (by simp) ?_
  refine AllReadyH.cons rfl (fun K hK => ?_) AllReadyH.nil
  rw [if_pos (by kernel_rfl)]
  refine call_step 133 rfl ?_ (HL2.out _ h31) ?_
  · exact run_enter1 12 (.tmp 132) #[25] _ (by kernel_rfl) (by kernel_rfl) (enters_of Tryz.func12 (by kernel_rfl) rfl) _
  rintro w32 h32
  refine hK.out _ _ (HS.out _ _ h32) (fun hHeld => ?_)
  clear hK K
  try simp only [Act.put, List.setIfInBounds_toArray, List.set_cons_zero, List.set_cons_succ]
  refine take_d 15 136 (.bool true) rfl rfl (by kernel_rfl) (by kernel_rfl) (by kernel_rfl) (fun _ _ _ h => h) (by kernel_rfl) ?_ (by assumption) ?_
  · intro w hSw
    go_simp
  try simp only [Act.put, List.setIfInBounds_toArray, List.set_cons_zero, List.set_cons_succ]
  refine take_d 16 137 (.bool true) rfl rfl (by kernel_rfl) (by kernel_rfl) (by kernel_rfl) (fun _ _ _ h => h) (by kernel_rfl) ?_ (by assumption) ?_
  · intro w hSw
    exact run_pick (.tmp 131) (.tmp 136) (.const (.bool false)) true _ (by kernel_rfl) (by kernel_rfl) (by kernel_rfl) w
  try simp only [Act.put, List.setIfInBounds_toArray, List.set_cons_zero, List.set_cons_succ]
  refine take_d 17 138 (.bool true) rfl rfl (by kernel_rfl) (by kernel_rfl) (by kernel_rfl) (fun _ _ _ h => h) (by kernel_rfl) ?_ (by assumption) ?_
  · intro w hSw
    exact run_move (.tmp 137) _ (by kernel_rfl) (by kernel_rfl) w
  try simp only [Act.put, List.setIfInBounds_toArray, List.set_cons_zero, List.set_cons_succ]
  refine take_d 18 139 (pt sb) rfl rfl (by kernel_rfl) (by kernel_rfl) (by kernel_rfl) (fun _ _ _ h => h) (by kernel_rfl) ?_ (by assumption) ?_
  · intro w hSw
    exact run_move (.tmp 5) _ (by kernel_rfl) (by kernel_rfl) w
  try simp only [Act.put, List.setIfInBounds_toArray, List.set_cons_zero, List.set_cons_succ]
  refine take_d 19 140 (.slice (some ⟨g, 0, none⟩) 2 c) rfl rfl (by kernel_rfl) (by kernel_rfl) (by kernel_rfl) (fun _ _ _ h => h) (by kernel_rfl) ?_ (by assumption) ?_
  · intro w hSw
    exact run_move (.tmp 9) _ (by kernel_rfl) (by kernel_rfl) w
  try simp only [Act.put, List.setIfInBounds_toArray, List.set_cons_zero, List.set_cons_succ]
  clear hHeld
  refine wpAnyH_ready (rs := [20]) (by kernel_rfl) (by simp) ?_
  refine AllReadyH.cons rfl (fun K hK => ?_) AllReadyH.nil
  rw [if_pos (by kernel_rfl)]
  refine call_step 141 rfl ?_ (HF2.out _ h32) ?_
  · exact run_enter2 15 (.tmp 139) (.tmp 140) #[25, 22] _ _ (by kernel_rfl) (by kernel_rfl) (by kernel_rfl) (enters_of Tryz.func15 (by kernel_rfl) rfl) _
  rintro w33 h33
  refine hK.out _ _ (HS.out _ _ h33) (fun hHeld => ?_)
  clear hK K
  try simp only [Act.put, List.setIfInBounds_toArray, List.set_cons_zero, List.set_cons_succ]
  refine take_d 21 142 (.bool true) rfl rfl (by kernel_rfl) (by kernel_rfl) (by kernel_rfl) (fun _ _ _ h => h) (by kernel_rfl) ?_ (by assumption) ?_
  · intro w hSw
    exact run_eql 141 1 1 (by kernel_rfl) (by kernel_rfl) w
  try simp only [Act.put, List.setIfInBounds_toArray, List.set_cons_zero, List.set_cons_succ]
  refine take_d 22 143 (.bool true) rfl rfl (by kernel_rfl) (by kernel_rfl) (by kernel_rfl) (fun _ _ _ h => h) (by kernel_rfl) ?_ (by assumption) ?_
  · intro w hSw
    exact run_pick (.tmp 138) (.tmp 142) (.const (.bool false)) true _ (by kernel_rfl) (by kernel_rfl) (by kernel_rfl) w
  try simp only [Act.put, List.setIfInBounds_toArray, List.set_cons_zero, List.set_cons_succ]
  refine take_d 23 144 (.bool true) rfl rfl (by kernel_rfl) (by kernel_rfl) (by kernel_rfl) (fun _ _ _ h => h) (by kernel_rfl) ?_ (by assumption) ?_
  · intro w hSw
    exact run_move (.tmp 143) _ (by kernel_rfl) (by kernel_rfl) w
  try simp only [Act.put, List.setIfInBounds_toArray, List.set_cons_zero, List.set_cons_succ]
  refine take_d 24 145 (pt sb) rfl rfl (by kernel_rfl) (by kernel_rfl) (by kernel_rfl) (fun _ _ _ h => h) (by kernel_rfl) ?_ (by assumption) ?_
  · intro w hSw
    exact run_move (.tmp 5) _ (by kernel_rfl) (by kernel_rfl) w
  try simp only [Act.put, List.setIfInBounds_toArray, List.set_cons_zero, List.set_cons_succ]
  clear hHeld
  refine wpAnyH_ready (rs := [25]) (by kernel_rfl) (by simp) ?_
  refine AllReadyH.cons rfl (fun K hK => ?_) AllReadyH.nil
  rw [if_pos (by kernel_rfl)]
  refine val_step (v := (.slice (some ⟨w33.heap.size, 0, none⟩) 1 1)) (w2 := (w33.alloc (.cells #[.int .i64 3] 3))) 146 rfl ?_ ?_
  · go_simp
  refine hK.out _ _ (HSA.out _ _ _ h33) (fun hHeld => ?_)
  clear hK K
  try simp only [Act.put, List.setIfInBounds_toArray, List.set_cons_zero, List.set_cons_succ]
  clear hHeld
  refine wpAnyH_ready (rs := [26]) (by kernel_rfl) (by simp) ?_
  refine AllReadyH.cons rfl (fun K hK => ?_) AllReadyH.nil
  rw [if_pos (by kernel_rfl)]
  refine call_step 147 rfl ?_ (HF3.out _ h33) ?_
  · exact run_enter2 15 (.tmp 145) (.tmp 146) #[25, 22] _ _ (by kernel_rfl) (by kernel_rfl) (by kernel_rfl) (enters_of Tryz.func15 (by kernel_rfl) rfl) _
  rintro w34 h34
  refine hK.out _ _ (HS.out _ _ h34) (fun hHeld => ?_)
  clear hK K
  try simp only [Act.put, List.setIfInBounds_toArray, List.set_cons_zero, List.set_cons_succ]
  refine take_d 27 148 (.bool true) rfl rfl (by kernel_rfl) (by kernel_rfl) (by kernel_rfl) (fun _ _ _ h => h) (by kernel_rfl) ?_ (by assumption) ?_
  · intro w hSw
    exact run_eql 147 1 1 (by kernel_rfl) (by kernel_rfl) w
  try simp only [Act.put, List.setIfInBounds_toArray, List.set_cons_zero, List.set_cons_succ]
  refine take_d 28 149 (.bool true) rfl rfl (by kernel_rfl) (by kernel_rfl) (by kernel_rfl) (fun _ _ _ h => h) (by kernel_rfl) ?_ (by assumption) ?_
  · intro w hSw
    exact run_pick (.tmp 144) (.tmp 148) (.const (.bool false)) true _ (by kernel_rfl) (by kernel_rfl) (by kernel_rfl) w
  try simp only [Act.put, List.setIfInBounds_toArray, List.set_cons_zero, List.set_cons_succ]
  refine take_d 29 0 (.bool true) rfl rfl (by kernel_rfl) (by kernel_rfl) (by kernel_rfl) (fun _ _ _ h => h) (by kernel_rfl) ?_ (by assumption) ?_
  · intro w hSw
    exact run_assign (.tmp 149) _ (by kernel_rfl) (by kernel_rfl) w
  try simp only [Act.put, List.setIfInBounds_toArray, List.set_cons_zero, List.set_cons_succ]
  refine wpAnyH_done (by kernel_rfl) ?_ _
  have B34 : Hid (Below w.heap.size w w34) := ⟨h34.bel⟩
  clear h30 h31 h32 h33 h34 S2 s30 hf1 hHeld
  go_wp2
  go_ret
  exact ⟨rfl, B34.out⟩
end Go.Proofs.YtghdgddpdamhcaaGreat
