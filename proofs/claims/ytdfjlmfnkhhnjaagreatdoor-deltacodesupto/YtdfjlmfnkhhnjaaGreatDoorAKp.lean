/- Rows of texts that grow: what is no row of texts stays (as in MOa). -/
import Derived.Test.YtdfjlmfnkhhnjaaGreatDoorQk
import Derived.Laws.MakeOwn
import Derived.Laws.OwnMore
namespace Go.Proofs.YtdfjlmfnkhhnjaaGreatDoor
set_option maxRecDepth 100000
set_option linter.unusedVariables false
set_option linter.unusedSimpArgs false
open Go.RowKit
theorem svs_one (ps : List (List UInt8)) : ∀ u ∈ svs ps, u.oneCell' = true := by
  intro u hu
  unfold svs at hu
  obtain ⟨q, _, rfl⟩ := List.mem_map.1 hu
  rfl
structure Kp9 (w w' : World) : Prop where
  keep : ∀ (g : Nat) (cs : Array Value) (t : TypeId), w.heap[g]? = some (.cells cs t (0, 0)) → t ≠ 9 → w'.heap[g]? = some (.cells cs t (0, 0))
theorem kp9_own {base n : Nat} {w w' : World} {v : Value} {xs : List Value} (o : w.ownsRow base 9 1 v n xs) (hk : ∀ x, x < w.heap.size → v.ownBlock ≠ some x → w'.heap[x]? = w.heap[x]?) : Kp9 w w' := ⟨fun g cs t hg ht => by
  rw [hk g (Array.getElem?_eq_some_iff.1 hg).1 (fun q => by
    obtain ⟨c1, e1⟩ := own_type o q
    rw [hg] at e1
    injection e1 with e1
    injection e1 with _ e2
    exact ht e2)]
  exact hg⟩
theorem run_s {base : Nat} {w1 : World} {v : Value} {l : List (List UInt8)} (ps : List (List UInt8)) (hp : 1 ≤ ps.length) (hp2 : ps.length ≤ 16) (hO : So base w1 v l) (hn : l.length ≤ 1000000000) :
    ∃ v' w', (∀ ty, (Builtin.append_ #[127, 127] ty #[v, .slice (some ⟨w1.heap.size, 0, none⟩) ps.length ps.length]).run Tryz.prog (w1.alloc (.cells (svs ps).toArray 9)) = .ok v' w') ∧ So base w' v' (l ++ ps) ∧ Below base w1 w' ∧ Kp9 w1 w' := by
  obtain ⟨i0, hi, hz0, hz1, hz2⟩ := info9
  have hmx : maxLen = 9223372036854775807 := rfl
  have o1 : (w1.alloc (.cells (svs ps).toArray 9)).ownsRow base 9 1 v l.length (svs l) := hO.own.alloc _
  have hle := hO.le
  have hlen : (svs ps).length = ps.length := by simp [svs]
  obtain ⟨g2, cap2, w', hr, hown, hgrow, hat, hlt⟩ := run_append_lies (P := Tryz.prog) (w := w1.alloc (.cells (svs ps).toArray 9)) 127 127 base 9 i0 _ 1 16 Tryz.underlying127 hi hz0 hz1 hz2 rfl (by omega) v l.length (svs l) o1 ⟨w1.heap.size, 0, none⟩ ps.length ps.length (svs ps) (by rw [hlen, Nat.mul_one])
    (World.news_of_block (cs := (svs ps).toArray) (t := 9) (fr := (0, 0)) (heap_alloc_new w1 _)) (svs_one ps) (by omega) (by rw [hmx]; omega) (by omega) (by simp; omega) _ rfl
  have hsz : w1.heap.size ≤ w'.heap.size := by have := hgrow.size; simp at this; omega
  refine ⟨_, w', fun ty => hr, ⟨?_, by omega⟩, ((Below.refl _ _).alloc hle _).trans (grown_below o1 (by simp; omega) hgrow), kp9_own hO.own (fun x hx hne => by rw [hgrow.block x (by simp; omega) (Ne.symm hne)]; first | exact heap_alloc_old _ _ hx | exact heap_alloc_old _ _ _ hx)⟩
  unfold svs
  rw [List.map_append, List.length_append]
  exact hown
theorem app_s2 {ops : Array Oper} {rest : List Oper} {o : Oper} {a : Act} {Q : Exit → Act → World → Prop} {W : World} (hgd : o.guard = none) (s x : Operand) (ho : o.op = .call { callee := .builtin .append, args := #[s, x], argTypes := #[127, 127] })
    {base : Nat} {w : World} {v : Value} {l : List (List UInt8)} {g : Nat} (ps : List (List UInt8)) (hp1 : 1 ≤ ps.length) (hp : ps.length ≤ 16) (hW : W = w.alloc (.cells (svs ps).toArray 9)) (hO : So base w v l) (hg : g = w.heap.size) (hn : l.length ≤ 1000000000)
    (hs : a.eval s = v) (hx : a.eval x = .slice (some ⟨g, 0, none⟩) ps.length ps.length)
    (h : ∀ v' w', So base w' v' (l ++ ps) → Below base w w' → Kp9 w w' → wpList Tryz.prog ops Q rest (a.put o.dst v') w') :
    wpList Tryz.prog ops Q (o :: rest) a W := by
  subst hW hg
  refine wpList_plain hgd fun K hK => ?_
  obtain ⟨v', w', hr, h2, h3, h4⟩ := run_s ps hp1 hp hO hn
  unfold Oper.wp execOp
  simp only [ho, resolve, invoke, builtin, Sem.run_bind, Sem.run_pure, Result.andThen_ok, List.map_toArray, List.map_cons, List.map_nil, hs, hx, hr]
  exact hK _ _ (h v' w' h2 h3 h4)
theorem info5zf : (Tryz.prog.info? 5).map (fun i => (i.zero, i.size, i.bytes)) = some (some (.int .u8 0), 1, 1) := by kernel_rfl
theorem info5z : ∃ i, Tryz.prog.info? 5 = some i ∧ i.zero = some (.int .u8 0) ∧ i.size = 1 ∧ i.bytes = 1 := by
  have h := info5zf
  cases hi : Tryz.prog.info? 5 with
  | none => rw [hi] at h; cases h
  | some i =>
    rw [hi] at h
    injection h with h
    injection h with h1 h
    injection h with h2 h3
    exact ⟨i, rfl, h1, h2, h3⟩
def zO (F : Nat) : Obj := .cells (madeCells #[.int .u8 0] F) 5
theorem mk_zero (F : Nat) (hF : F ≤ 1000) (w : World) : (Instr.makeSlice 47 (.int .i64 (F : Int)) (.int .i64 (F : Int))).run Tryz.prog w = .ok (.slice (some ⟨w.heap.size, 0, none⟩) F F) (w.alloc (zO F)) := by
  obtain ⟨i, hi, hz, h1, h2⟩ := info5z
  have h := run_make (P := Tryz.prog) (w := w) 47 5 i (.int .u8 0) Tryz.underlying47 hi hz .i64 .i64 (F : Int) (F : Int) (by omega) (by omega) (by rw [h2]; omega) (by omega)
  rw [h1, Nat.mul_one, Int.toNat_natCast] at h
  exact h
theorem conv_zero (F : Nat) (w : World) : (convert 47 9 (.slice (some ⟨w.heap.size, 0, none⟩) F F)).run Tryz.prog (w.alloc (zO F)) = .ok (str (List.replicate F 0)) (w.alloc (zO F)) := by
  have h := run_convert_bytes_back (P := Tryz.prog) (w.alloc (zO F)) 47 9 5 ⟨w.heap.size, 0, none⟩ F (List.replicate F (0 : UInt8)) Tryz.underlying47 Tryz.underlying5 Tryz.underlying9 (fun j hj => by
    have hg : (w.alloc (zO F)).heap[w.heap.size]? = some (.cells (madeCells #[.int .u8 0] F) 5 (0, 0)) := heap_alloc_new w _
    have hj2 : j < F := by simpa using hj
    have hadd : (⟨w.heap.size, 0, none⟩ : Addr).add j = ⟨w.heap.size, j, none⟩ := by unfold Addr.add; split <;> simp_all
    rw [hadd, cell_of_row _ _ _ _ _ _ hg, ← Array.getElem?_toList, toList_madeCells_one, List.getElem?_replicate, if_pos hj2, List.getElem_replicate]
    rfl)
  rw [List.length_replicate] at h
  exact h
end Go.Proofs.YtdfjlmfnkhhnjaaGreatDoor
