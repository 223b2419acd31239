/- A hash in a row of its own, ahead of an append; a hash loaded. -/
import Derived.Test.YtlpiokepagkahaaDoorLow
import Derived.Deep.RegionLaw
import Derived.Deep.AppendLies
import Derived.Great.BuildSlice
namespace Go.Proofs.YtlpiokepagkahaaDoor
set_option linter.unusedVariables false
set_option linter.unusedSimpArgs false
open Go.RowKit
theorem fold_lay : ∀ (vs : List Value) (o : Nat) (cs : Array Value), (vs.zipIdx o).foldl (fun (cs : Array Value) (x : Value × Nat) => cs.setIfInBounds (0 + x.2) x.1) cs = lay cs o vs
  | [], _, _ => rfl
  | v :: r, o, cs => by rw [List.zipIdx_cons, List.foldl_cons, fold_lay r (o + 1)]; simp [lay]
theorem lay_all (vs : List Value) (cs : Array Value) (h : cs.size = vs.length) : lay cs 0 vs = vs.toArray := by
  apply Array.ext_getElem?
  intro i
  by_cases hi : i < cs.size
  · rw [lay_get vs 0 cs i hi, if_pos (Nat.zero_le _), dif_pos (by omega), List.getElem?_toArray, List.getElem?_eq_getElem (by omega)]
    rfl
  · rw [Array.getElem?_eq_none (by rw [lay_size]; omega), Array.getElem?_eq_none (xs := vs.toArray) (by rw [List.size_toArray]; omega)]
theorem run_box (w : World) (g : Hs) : (Instr.buildSlice 25 1 #[(0, .agg (hv g).toArray)]).run Tryd.prog w = .ok (.slice (some ⟨w.heap.size, 0, none⟩) 1 1) (w.alloc (.cells (hv g).toArray 23)) := by
  obtain ⟨i, z, e1, e2, e3, e4, e5⟩ := info23x
  refine run_buildSlice w 25 23 1 _ _ i z Tryd.underlying25 e1 e2 (by rw [e3]; decide) (by rw [e3]; decide) ?_
  have hc : (Value.cells (.agg (hv g).toArray)) = (hv g).toArray := rfl
  have hs : (Value.cells (.agg (hv g).toArray)).size = 32 := by rw [hc, List.size_toArray, hv_length]
  show Instr.fill _ _ [(0, .agg (hv g).toArray)] = _
  unfold Instr.fill
  simp only [Nat.zero_mul, hs, e3]
  rw [if_neg (by simp)]
  unfold Instr.fill
  rw [hc]
  congr 1
  rw [← Array.foldl_toList, Array.toList_zipIdx]
  rw [fold_lay, lay_all _ _ (by simp [hv_length])]
noncomputable def bsS (l : Nat) (v : Array (Nat × Value)) : Sem Value := Instr.buildSlice 25 l v
theorem bs25 (l : Nat) (v : Array (Nat × Value)) : Instr.buildSlice 25 l v = bsS l v := rfl
theorem run_bs (g : Hs) (w : World) : (bsS 1 #[(0, .agg (hv g).toArray)]).run Tryd.prog w = .ok (.slice (some ⟨w.heap.size, 0, none⟩) 1 1) (w.alloc (.cells (hv g).toArray 23)) := run_box w g
theorem ld23 (v : Value) : Instr.loadAt 23 v = ldS 23 v := rfl
theorem load23 {w : World} {b o : Nat} {g : Hs} (h : w.rangeAt b o (hv g)) : (ldS 23 (.pointer (some ⟨b, o, none⟩))).run Tryd.prog w = .ok (.agg (hv g).toArray) w :=
  run_loadAt_mid w b o 23 (hv g) _ h Tryd.underlying23 rfl (infoH g)
theorem news_alloc (w : World) (g : Hs) (T : TypeId) : ∀ j u, (hv g)[j]? = some u → (w.alloc (.cells (hv g).toArray T)).cell? ((⟨w.heap.size, 0, none⟩ : Addr).add j) = some u := fun j u hu =>
  World.news_of_block (heap_alloc_new w (.cells (hv g).toArray T)) j u (by simpa using hu)
theorem spare_of {w : World} {B k m : Nat} {g : Hs} (h : w.there B 0 (32 * m)) (hk : k < m) (o : Obj) : ∀ j, j < (hv g).length → ((w.alloc o).cell? ⟨B, 0 + k * 32 + j, none⟩).isSome = true ∧ (w.alloc o).frozen? ⟨B, 0 + k * 32 + j, none⟩ = false := fun j hj => by
  rw [hv_length] at hj
  have := World.there_alloc h o (k * 32 + j) (by omega)
  rw [← Nat.add_assoc] at this
  exact this
theorem HRow.lt {w : World} {b off n : Nat} {f : Nat → Hs} (h : HRow w b off n f) {k : Nat} (hk : k < n) : b < w.heap.size := block_lt_of_cell (h k hk 0 _ (hv_get _ 0 (by omega)))
theorem HRow.at {B : Nat} {w wr : World} {b off n : Nat} {f : Nat → Hs} (h : HRow w b off n f) {k : Nat} (hk : k < n) (bel : Below B w wr) (hB : w.heap.size = B) : wr.rangeAt b (off + k * 32) (hv (f k)) := rangeBelow (h k hk) bel (by rw [← hB]; exact h.lt hk)
/-- append where there is room, in a plain region. -/
theorem wpList_append_here {P : Program} {ops : Array Oper} {rest : List Oper} {o : Oper} {a : Act} {w : World} {Q : Exit → Act → World → Prop}
    (hg : o.guard = none) (s x : Operand) (t : TypeId) (hop : o.op = Op.call { callee := Callee.builtin Builtin.append, args := #[s, x], argTypes := #[t, t] })
    (e : TypeId) (i : TypeInfo) (size : Nat) (h1 : P.underlying t = some (.slice e)) (h2 : P.info? e = some i) (h4 : i.size = size)
    (b off n cap : Nat) (hs : a.eval s = .slice (some ⟨b, off, none⟩) n cap)
    (ad : Addr) (m c : Nat) (news : List Value) (hx : a.eval x = .slice (some ad) m c) (hn : news.length = m * size) (hc : ∀ j u, news[j]? = some u → w.cell? (ad.add j) = some u) (h1c : ∀ u ∈ news, u.oneCell' = true)
    (hroom : n + m ≤ cap) (hspare : ∀ j, j < news.length → (w.cell? ⟨b, off + n * size + j, none⟩).isSome = true ∧ w.frozen? ⟨b, off + n * size + j, none⟩ = false)
    (hK : wpList P ops Q rest (a.put o.dst (.slice (some ⟨b, off, none⟩) (n + m) cap)) (w.setCells b (off + n * size) news)) : wpList P ops Q (o :: rest) a w := by
  refine wpList_plain hg fun K hK' => ?_
  subst h4
  have hrun := run_append_room_cells (P := P) w t o.type e i h1 h2 b off n cap ad m c news hn hc h1c hroom (fun j hj => (hspare j hj).1) (fun j hj => (hspare j hj).2)
  unfold Oper.wp
  simp [execOp, hop, resolve, invoke, builtin, hs, hx, hrun, Result.andThen]
  exact hK' _ _ hK
end Go.Proofs.YtlpiokepagkahaaDoor
