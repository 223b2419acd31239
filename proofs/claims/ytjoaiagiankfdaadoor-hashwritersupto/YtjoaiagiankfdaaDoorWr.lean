/- The writer's block: eight numbers, 64 bytes, a length; and what a step may change. -/
import Derived.Test.YtjoaiagiankfdaaDoorTurned
import Derived.Test.YtjoaiagiankfdaaDoorRows2
import Derived.Deep.MidRow
namespace Go.Proofs.YtjoaiagiankfdaaDoor
set_option linter.unusedVariables false
set_option linter.unusedSimpArgs false
open Go.RowKit
def wcells (s : Sha.S8) (f : Nat → UInt8) (n : Nat) : Array Value := words8 s ++ (bytes64 f ++ #[.int .u64 (n : Int)])
theorem wcells_size (s : Sha.S8) (f : Nat → UInt8) (n : Nat) : (wcells s f n).size = 73 := by simp [wcells, words8, bytes64]
theorem words8_size (s : Sha.S8) : (words8 s).size = 8 := rfl
theorem bytes64_size (f : Nat → UInt8) : (bytes64 f).size = 64 := by simp [bytes64]
theorem wcells_num (s : Sha.S8) (f : Nat → UInt8) (n k : Nat) (h : k < 8) : (wcells s f n)[k]? = (words8 s)[k]? := by
  unfold wcells; rw [Array.getElem?_append_left (by rw [words8_size]; exact h)]
theorem wcells_blk (s : Sha.S8) (f : Nat → UInt8) (n k : Nat) (h : k < 64) : (wcells s f n)[8 + k]? = some (.int .u8 ((f k).toNat : Int)) := by
  unfold wcells; rw [Array.getElem?_append_right (by rw [words8_size]; omega), words8_size, show 8 + k - 8 = k by omega, Array.getElem?_append_left (by rw [bytes64_size]; exact h), bytes64_get f k h]
theorem wcells_len (s : Sha.S8) (f : Nat → UInt8) (n : Nat) : (wcells s f n)[72]? = some (.int .u64 (n : Int)) := by
  unfold wcells; rw [Array.getElem?_append_right (by rw [words8_size]; omega), words8_size, Array.getElem?_append_right (by rw [bytes64_size]; omega), bytes64_size]; rfl

/-- Nothing but block g has turned. -/
structure But (g : Nat) (w w' : World) : Prop where
  os : w'.os = w.os
  tape : w'.tape = w.tape
  output : w'.output = w.output
  size : w.heap.size ≤ w'.heap.size
  block : ∀ k, k < w.heap.size → k ≠ g → w'.heap[k]? = w.heap[k]?
theorem But.refl (g : Nat) (w : World) : But g w w := ⟨rfl, rfl, rfl, Nat.le_refl _, fun _ _ _ => rfl⟩
theorem But.trans {g : Nat} {a b c : World} (h : But g a b) (k : But g b c) : But g a c :=
  ⟨k.os.trans h.os, k.tape.trans h.tape, k.output.trans h.output, Nat.le_trans h.size k.size, fun i hi hn => (k.block i (Nat.lt_of_lt_of_le hi h.size) hn).trans (h.block i hi hn)⟩
theorem But.of_below {g : Nat} {a b : World} (h : Below a.heap.size a b) : But g a b := ⟨h.os, h.tape, h.output, h.size, fun k hk _ => h.block k hk⟩
theorem But.drew {g : Nat} {a b : World} (h : But g a b) : But g a b.drew := ⟨h.os, h.tape, h.output, h.size, h.block⟩
theorem But.drewN {g : Nat} {a b : World} (h : But g a b) (n : Nat) : But g a (b.drewN n) := ⟨h.os, h.tape, h.output, h.size, h.block⟩
theorem But.setCell {g : Nat} {a b : World} (h : But g a b) (j : Nat) (v : Value) : But g a (b.setCell ⟨g, j, none⟩ v) :=
  h.trans ⟨rfl, rfl, rfl, by simp [World.setCell], fun k _ hn => Below.heap_setCell _ _ _ _ hn⟩
theorem But.setCells {g : Nat} : ∀ (vs : List Value) (o : Nat) {a b : World}, But g a b → But g a (b.setCells g o vs)
  | [], _, _, _, h => h
  | v :: r, o, a, b, h => But.setCells r (o + 1) (h.setCell o v)
theorem But.below {B g : Nat} {a b : World} (h : But g a b) (hB : B ≤ a.heap.size) (hg : B ≤ g) : Below B a b := ⟨h.os, h.tape, h.output, h.size, fun k hk => h.block k (by omega) (by omega)⟩
theorem But.kin {g : Nat} {a b : World} (h : But g a b) (hK : KIn a) (hg : g ≠ 0) : KIn b := fun t ht => by
  rw [World.cell?_of_block (w := a) (a := ⟨0, t, none⟩) (h.block 0 hK.lt (by omega))]; exact hK t ht

/-! a row with some places set anew -/
def lay (cs : Array Value) : Nat → List Value → Array Value
  | _, [] => cs
  | o, v :: r => lay (cs.setIfInBounds o v) (o + 1) r
theorem heap_setCells {g : Nat} {t : TypeId} : ∀ (vs : List Value) (o : Nat) (cs : Array Value) (w : World), w.heap[g]? = some (.cells cs t (0, 0)) → (w.setCells g o vs).heap[g]? = some (.cells (lay cs o vs) t (0, 0))
  | [], _, _, _, h => h
  | v :: r, o, cs, w, h => heap_setCells r (o + 1) _ _ (cell_set w g o cs t v h)
theorem lay_size : ∀ (vs : List Value) (o : Nat) (cs : Array Value), (lay cs o vs).size = cs.size
  | [], _, _ => rfl
  | v :: r, o, cs => by rw [lay, lay_size r]; simp
theorem lay_get : ∀ (vs : List Value) (o : Nat) (cs : Array Value) (i : Nat), i < cs.size → (lay cs o vs)[i]? = if o ≤ i then (if h : i - o < vs.length then some vs[i - o] else cs[i]?) else cs[i]?
  | [], o, cs, i, hi => by simp [lay]
  | v :: r, o, cs, i, hi => by
    rw [lay, lay_get r (o + 1) _ i (by simpa using hi)]
    by_cases h1 : o + 1 ≤ i
    · rw [if_pos h1, if_pos (by omega)]
      by_cases h2 : i - (o + 1) < r.length
      · have h3 : i - o < (v :: r).length := by simp; omega
        rw [dif_pos h2, dif_pos h3]
        congr 1
        have : i - o = (i - (o + 1)) + 1 := by omega
        simp only [this, List.getElem_cons_succ]
      · have h3 : ¬ i - o < (v :: r).length := by simp; omega
        rw [dif_neg h2, dif_neg h3, Array.getElem?_setIfInBounds_ne (by omega)]
    · rw [if_neg h1]
      by_cases h4 : o = i
      · subst h4
        rw [if_pos (Nat.le_refl _), dif_pos (by simp)]
        rw [Array.getElem?_setIfInBounds_self_of_lt hi]
        simp
      · rw [if_neg (by omega), Array.getElem?_setIfInBounds_ne h4]
/-- The block's bytes with some laid anew. -/
def fl (f : Nat → UInt8) (r : Nat) (l : List UInt8) (j : Nat) : UInt8 := if r ≤ j ∧ j < r + l.length then l.getD (j - r) 0 else f j
def vals (l : List UInt8) : List Value := l.map fun v => .int .u8 (v.toNat : Int)
theorem lay_blk (s : Sha.S8) (f : Nat → UInt8) (n r : Nat) (l : List UInt8) (h : r + l.length ≤ 64) : lay (wcells s f n) (8 + r) (vals l) = wcells s (fl f r l) n := by
  apply Array.ext_getElem?
  intro i
  by_cases hi : i < 73
  · rw [lay_get _ _ _ _ (by rw [wcells_size]; exact hi)]
    by_cases h8 : i < 8
    · rw [if_neg (by omega), wcells_num _ _ _ _ h8, wcells_num _ _ _ _ h8]
    · by_cases h72 : i = 72
      · subst h72
        rw [wcells_len, wcells_len]
        by_cases h9 : 8 + r ≤ 72
        · rw [if_pos h9, dif_neg (by simp [vals]; omega)]
        · rw [if_neg h9]
      · obtain ⟨j, rfl⟩ : ∃ j, i = 8 + j := ⟨i - 8, by omega⟩
        rw [wcells_blk _ _ _ j (by omega), wcells_blk _ _ _ j (by omega)]
        unfold fl
        by_cases h9 : 8 + r ≤ 8 + j
        · rw [if_pos h9]
          by_cases hA : 8 + j - (8 + r) < (vals l).length
          · have hB : j - r < l.length := by simp [vals] at hA; omega
            rw [dif_pos hA, if_pos (by omega)]
            have e : 8 + j - (8 + r) = j - r := by omega
            simp only [vals, List.getElem_map, e]
            rw [List.getD_eq_getElem?_getD, List.getElem?_eq_getElem hB]; rfl
          · have hB : ¬ j - r < l.length := by simp [vals] at hA; omega
            rw [dif_neg hA, if_neg (by omega)]
        · rw [if_neg h9, if_neg (by omega)]
  · rw [Array.getElem?_eq_none (by rw [lay_size, wcells_size]; omega), Array.getElem?_eq_none (by rw [wcells_size]; omega)]
theorem set_len (s : Sha.S8) (f : Nat → UInt8) (n m : Nat) : (wcells s f n).setIfInBounds 72 (.int .u64 (m : Int)) = wcells s f m := by
  apply Array.ext_getElem?
  intro i
  by_cases hi : i < 73
  · by_cases h : i = 72
    · subst h
      rw [Array.getElem?_setIfInBounds_self_of_lt (by rw [wcells_size]; omega), wcells_len]
    · rw [Array.getElem?_setIfInBounds_ne (by omega)]
      by_cases h8 : i < 8
      · rw [wcells_num _ _ _ _ h8, wcells_num _ _ _ _ h8]
      · obtain ⟨j, rfl⟩ : ∃ j, i = 8 + j := ⟨i - 8, by omega⟩
        rw [wcells_blk _ _ _ j (by omega), wcells_blk _ _ _ j (by omega)]
  · rw [Array.getElem?_eq_none (by simp [wcells_size]; omega), Array.getElem?_eq_none (by rw [wcells_size]; omega)]
theorem lay_num (s r : Sha.S8) (f : Nat → UInt8) (n : Nat) : lay (wcells s f n) 0 (words8 r).toList = wcells r f n := by
  apply Array.ext_getElem?
  intro i
  by_cases hi : i < 73
  · rw [lay_get _ _ _ _ (by rw [wcells_size]; exact hi), if_pos (Nat.zero_le _)]
    by_cases h8 : i < 8
    · have hA : i - 0 < (words8 r).toList.length := by rw [Array.length_toList, words8_size]; omega
      rw [dif_pos hA, wcells_num _ _ _ _ h8, Array.getElem?_eq_getElem (by rw [words8_size]; exact h8)]
      simp
    · rw [dif_neg (by rw [Array.length_toList, words8_size]; omega)]
      by_cases h72 : i = 72
      · subst h72; rw [wcells_len, wcells_len]
      · obtain ⟨j, rfl⟩ : ∃ j, i = 8 + j := ⟨i - 8, by omega⟩
        rw [wcells_blk _ _ _ j (by omega), wcells_blk _ _ _ j (by omega)]
  · rw [Array.getElem?_eq_none (by rw [lay_size, wcells_size]; omega), Array.getElem?_eq_none (by rw [wcells_size]; omega)]
/-- copy of a string into a row of bytes. -/
theorem run_copy_string (w : World) (dT sT ty elem : TypeId) (b o dLen dCap : Nat) (s : ByteArray) (l : List UInt8)
    (hu : Tryd.prog.underlying dT = some (.slice elem)) (hs : (Tryd.prog.info? elem).map (·.size) = some 1) (hl : l = s.data.toList.take (Nat.min s.size dLen))
    (hc : ∀ j, j < l.length → (w.cell? ⟨b, o + j, none⟩).isSome = true) (hf : ∀ j, j < l.length → w.frozen? ⟨b, o + j, none⟩ = false) :
    (Builtin.copy_ #[dT, sT] ty #[.slice (some ⟨b, o, none⟩) dLen dCap, .string s]).run Tryd.prog w = .ok (.int .i64 (l.length : Int)) (w.setCells b o (vals l)) := by
  have hlen : l.length = Nat.min s.size dLen := by
    have e : s.data.toList.length = s.size := Array.length_toList
    rw [hl, List.length_take, e]; exact Nat.min_eq_left (Nat.min_le_left _ _)
  have h1 : ∀ v ∈ vals l, v.oneCell' = true := by
    intro v hv; simp only [vals, List.mem_map] at hv; obtain ⟨x, _, rfl⟩ := hv; rfl
  have hst := run_storeCells_cells (P := Tryd.prog) b o (vals l) 0 w (by simpa [vals] using hc) (by simpa [vals] using hf) h1
  have e : List.take l.length (List.map (fun b => Value.int .u8 (b.toNat : Int)) s.data.toList) = vals l := by
    unfold vals; rw [← List.map_take, hlen, ← hl]
  cases hq : Tryd.prog.info? elem with
  | none => simp [hq] at hs
  | some i =>
    have hi : i.size = 1 := by simpa [hq] using hs
    simp only [Nat.add_zero] at hst
    simp only [Builtin.copy_]
    simp [run_underlying hu, Builtin.lenOf, Builtin.firstCells, sizeOf, typeInfo, hq, hi, goInt, ← hlen, e, hst]
end Go.Proofs.YtjoaiagiankfdaaDoor
