/- The transaction's Blocks; a block as an array: made, filled, loaded, read as a text. -/
import Derived.Test.YtlgpodcoiioefaaGreatTxs
import Derived.Laws.CopyOwn
import Derived.BigQuiet
import Derived.Deep.QuietTactic
namespace Go.Proofs.YtlgpodcoiioefaaGreat
set_option linter.unusedVariables false
set_option linter.unusedSimpArgs false
open Go.RowKit Go.Maps
variable {w0 w : World} {Ls rest : List (Th → Prop)} {x q p s : Nat} {W : Wl} {d o : Bool} {st : St}
theorem drewN_cell (w : World) (k : Nat) (a : Addr) : (w.drewN k).cell? a = w.cell? a := rfl
set_option maxRecDepth 100000 in
theorem tblocks_env (h : EnvP w0 w (lg q p s d :: dk p st :: rest)) (hs : s ≤ st.safe.length) (i : Nat) (hi : rest[i]? = some (tx x q W o)) :
    Calls Tryz.prog 11 #[pt x] w fun e w' => e = .returned (.int .i64 ((st.safe.length : Int) - (s : Int))) ∧ ∃ k, w' = w.drewN k := by
  obtain ⟨mb, hne, hx, hm, _⟩ := h.tx (i + 2) (by simpa using hi)
  have c0 : w.cell? ⟨x, 0, none⟩ = some (pt q) := cell_of_row w x 0 _ _ (0, 0) hx
  have qB := blocks_env h hs
  clear h hi hx hm
  go_enter Tryz.func11, Tryz.ntmps11
  go_wp2_with fail
  refine qB.mono ?_
  rintro e w1 ⟨rfl, k, rfl⟩
  dsimp only
  go_wp2
  go_ret
  exact ⟨rfl, k, rfl⟩
/-- the cells of a block -/
def bcs (t : ByteArray) : Array Value := (vals t.data.toList).toArray
theorem bcs_size (t : ByteArray) : (bcs t).size = t.size := by simp [bcs, vals_length]
theorem infoA : (Tryz.prog.info? 68).map (·.size) = some 512 := by kernel_rfl
theorem zinfoA : (Tryz.prog.info? 68).map (fun i => (i.zero, i.size)) = some (some (.agg (Array.replicate 512 (.int .u8 0))), 512) := by kernel_rfl
noncomputable def ldS (t : TypeId) (v : Value) : Sem Value := Instr.loadAt t v
noncomputable def stS (t : TypeId) (p v : Value) : Sem Unit := Instr.storeAt t p v
theorem ldA (v : Value) : Instr.loadAt 68 v = ldS 68 v := rfl
theorem stA (p v : Value) : Instr.storeAt 68 p v = stS 68 p v := rfl
theorem load_blk {w : World} {B : Nat} {t : ByteArray} (ht : t.size = 512) (h : w.heap[B]? = some (.cells (bcs t) 68 (0, 0))) : (ldS 68 (.pointer (some ⟨B, 0, none⟩))).run Tryz.prog w = .ok (blk t) w := by
  show (Instr.loadAt 68 (.pointer (some ⟨B, 0, none⟩))).run Tryz.prog w = _
  rw [blk_eq]
  simp only [Instr.loadAt, Instr.sureAddr, Sem.run_bind, Sem.run_pure, Result.andThen_ok, run_loadVar_row _ B 68 68 (bcs t) (0, 0) _ h Tryz.underlying68 rfl (by rw [bcs_size, ht]; exact infoA)]
  rfl
theorem bcs_one (t : ByteArray) : (bcs t).all (·.oneCell') = true := by
  rw [Array.all_eq_true]; intro i h; simp only [bcs, vals, List.getElem_toArray, List.getElem_map]; rfl
theorem store_blk {w : World} {B : Nat} {t old : ByteArray} (ht : t.size = 512) (ho : old.size = 512) (h : w.heap[B]? = some (.cells (bcs old) 68 (0, 0))) : (stS 68 (.pointer (some ⟨B, 0, none⟩)) (blk t)).run Tryz.prog w = .ok () (w.setRow B (bcs t)) := by
  show (Instr.storeAt 68 (.pointer (some ⟨B, 0, none⟩)) (blk t)).run Tryz.prog w = _
  rw [blk_eq]
  have := run_storeVar_row (P := Tryz.prog) w B 68 68 (bcs old) (bcs t) h (by rw [bcs_size, ht]; exact infoA) (by rw [bcs_size, bcs_size, ht, ho]) (bcs_one t)
  simp only [Instr.storeAt, Instr.sureAddr, Sem.run_bind, Sem.run_pure, Result.andThen_ok]
  exact this
theorem conv_blk {w : World} {B : Nat} {t : ByteArray} (h : w.heap[B]? = some (.cells (bcs t) 68 (0, 0))) (cap : Nat) : (convert 69 9 (.slice (some ⟨B, 0, none⟩) t.size cap)).run Tryz.prog w = .ok (.string t) w := by
  have := run_convert_bytes_back w 69 9 5 ⟨B, 0, none⟩ cap t.data.toList Tryz.underlying69 Tryz.underlying5 Tryz.underlying9 (P := Tryz.prog) ?_
  · have e : t.data.toList.length = t.size := by simp
    rw [e] at this
    exact this
  · intro j hj
    have hadd : (⟨B, 0, none⟩ : Addr).add j = ⟨B, j, none⟩ := by unfold Addr.add; split <;> simp_all
    rw [hadd, cell_of_row w B j _ _ (0, 0) h]
    have : t.data[j]? = some t.data[j] := Array.getElem?_eq_getElem (by simpa using hj)
    simp [bcs, vals, this]
end Go.Proofs.YtlgpodcoiioefaaGreat
