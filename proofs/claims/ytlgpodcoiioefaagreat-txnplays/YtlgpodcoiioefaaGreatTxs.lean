/- Begin, Blocks, Dirty, Abort. -/
import Derived.Test.YtlgpodcoiioefaaGreatTx
import Derived.Maps.OwnSet
namespace Go.Proofs.YtlgpodcoiioefaaGreat
set_option linter.unusedVariables false
set_option linter.unusedSimpArgs false
open Go.RowKit Go.Maps
variable {w0 w : World} {Ls rest : List (Th → Prop)} {x q p s : Nat} {W : Wl} {d o : Bool} {st : St}
set_option maxRecDepth 100000 in
theorem tbegin_env (h : EnvP w0 w Ls) (q : Nat) : Calls Tryz.prog 13 #[pt q] w fun e w' => ∃ x, e = .returned (pt x) ∧ EnvP w0 w' (Ls ++ [tx x q [] false]) := by
  have hmm := @run_makeMap Tryz.prog
  have H : Hid (EnvP w0 w Ls) := ⟨h⟩
  clear h
  go_enter Tryz.func13, Tryz.ntmps13
  go_wp2
  go_ret
  refine ⟨w.heap.size + 1, rfl, H.out.push (txTh (w.heap.size + 1) w.heap.size q [] false) _ ⟨w.heap.size, by omega, rfl⟩ (((Below.refl _ _).alloc (Nat.le_refl _) _).alloc (by simp) _) ⟨?_, (World.ownsMap_made w Tryz.prog 3 bElem).alloc _⟩ ?_⟩
  · have := heap_alloc_new (w.alloc (.map #[] 0)) (.cells #[pt q, .map (some w.heap.size), .bool false] 64)
    simpa using this
  · intro k hk
    rcases hk with rfl | rfl <;> omega
theorem clear_run {w : World} {b : Nat} {W : Wl} (h : MapAt w b W) (ty : TypeId) : ∃ w', (Builtin.clear_ #[62] ty #[.map (some b)]).run Tryz.prog w = .ok (.tuple #[]) w' ∧ MapAt w' b [] ∧ w.grownBy w' (some b) := by
  obtain ⟨es, clock, hb, F, hs, hD⟩ := h
  refine ⟨ChangeMaps.setBlock w b (.map #[] clock), ?_, ⟨#[], clock, ChangeMaps.heap_setBlock_same hb _, ⟨by simp, MapKept.stamped_empty clock, by simp⟩, Nat.le_refl _, rfl⟩, ⟨rfl, rfl, rfl, by simp [ChangeMaps.setBlock], fun i _ hi => ChangeMaps.heap_setBlock_other hb _ (fun e => hi (by rw [e]))⟩⟩
  simp [Builtin.clear_, run_underlying Tryz.underlying62, MapKept.run_getObj_map hb, MapKept.run_setObj_map _ hb, Result.andThen]
  rfl
theorem wp_clear {ops : Array Oper} {rest : List Oper} {o : Oper} {a : Act} {Q : Exit → Act → World → Prop} {w : World} {b : Nat} {W : Wl} (h : MapAt w b W)
    (hg : o.guard = none) (m : Operand) (hop : o.op = Op.call { callee := Callee.builtin Builtin.clear, args := #[m], argTypes := #[62] }) (hm : a.eval m = .map (some b))
    (hK : ∀ w', MapAt w' b [] → w.grownBy w' (some b) → wpList Tryz.prog ops Q rest (a.put o.dst (.tuple #[])) w') : wpList Tryz.prog ops Q (o :: rest) a w := by
  refine wpList_plain hg fun K' hK' => ?_
  obtain ⟨w', hrun, r1, r2⟩ := clear_run h o.type
  unfold Oper.wp
  simp [execOp, hop, resolve, invoke, builtin, hm, hrun, Result.andThen]
  exact hK' _ _ (hK w' r1 r2)
set_option maxRecDepth 100000 in
theorem dirty_env (h : EnvP w0 w Ls) (i : Nat) (hi : Ls[i]? = some (tx x q W o)) (hl : W.length ≤ 8192) : Calls Tryz.prog 9 #[pt x] w fun e w' => e = .returned (.int .i64 (W.length : Int)) ∧ ∃ k, w' = w.drewN k := by
  obtain ⟨mb, hne, hx, hm, _⟩ := h.tx i hi
  have c1 : w.cell? ⟨x, 1, none⟩ = some (.map (some mb)) := cell_of_row w x 1 _ _ (0, 0) hx
  have HM : Hid (MapAt w mb W) := ⟨hm⟩
  clear h hi hx hm
  go_enter Tryz.func9, Tryz.ntmps9
  go_wp2_with (first | (at_len; refine wpList_len_own _ rfl _ 62 rfl 3 68 Tryz.underlying62 bElem mb W.length _ rfl HM.out ?_; rw [size_txD]) | go_in)
  go_ret
  exact ⟨rfl, 0, rfl⟩
set_option maxRecDepth 100000 in
theorem abort_env (h : EnvP w0 w Ls) (i : Nat) (hi : Ls[i]? = some (tx x q W o)) : Calls Tryz.prog 26 #[pt x] w fun e w' => e = .returned (.tuple #[]) ∧ EnvP w0 w' (Ls.set i (tx x q [] true)) := by
  obtain ⟨mb, hne, hx, hm, _, _, hn⟩ := h.tx i hi
  have c1 : w.cell? ⟨x, 1, none⟩ = some (.map (some mb)) := cell_of_row w x 1 _ _ (0, 0) hx
  have c2 : w.cell? ⟨x, 2, none⟩ = some (.bool o) := cell_of_row w x 2 _ _ (0, 0) hx
  have f2 : w.frozen? ⟨x, 2, none⟩ = false := frozen_of_row w x 2 _ _ hx
  have h1 : (w.setCell ⟨x, 2, none⟩ (.bool true)).heap[x]? = some (.cells #[pt q, .map (some mb), .bool true] 64 (0, 0)) := cell_set w x 2 _ _ _ hx
  have fr1 : Fr (fun k => k = x ∨ k = mb) w (w.setCell ⟨x, 2, none⟩ (.bool true)) := fr_set w x 2 _ (.inl rfl)
  have m1 : MapAt (w.setCell ⟨x, 2, none⟩ (.bool true)) mb W := by
    obtain ⟨es, clock, hb, r⟩ := hm
    exact ⟨es, clock, (fr_set (S := fun k => k = x) w x 2 (.bool true) rfl).heap hb (fun e => hne e.symm), r⟩
  have M1 : Hid (MapAt (w.setCell ⟨x, 2, none⟩ (.bool true)) mb W) := ⟨m1⟩
  have HE : Hid (∀ w2, MapAt w2 mb [] → (w.setCell ⟨x, 2, none⟩ (.bool true)).grownBy w2 (some mb) → EnvP w0 w2 (Ls.set i (tx x q [] true))) := ⟨fun w2 m2 g2 => hn w2 [] true (by rw [g2.block x (heap_lt h1) (fun e => hne (by injection e))]; exact h1) m2 (fr1.trans (Fr.of_grown (S := fun k => k = mb) g2 (fun k hk => (Option.some.inj hk).symm)) (fun k _ hk => .inr hk))⟩
  obtain ⟨w2, hcl, m2, g2⟩ := clear_run m1 0
  have HE2 : Hid (EnvP w0 w2 (Ls.set i (tx x q [] true))) := ⟨HE.out w2 m2 g2⟩
  clear h hi hx hm hn h1 fr1 m1 m2 g2
  go_enter Tryz.func26, Tryz.ntmps26
  go_wp2
  all_goals (first | go_end0 | refine bodyPost_ret (results_none rfl _ _ _) rfl ?_)
  exact ⟨rfl, HE2.out⟩
end Go.Proofs.YtlgpodcoiioefaaGreat
