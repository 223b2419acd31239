/- The law's own: full. -/
import Derived.Test.YtghdgddpdamhcaaGreatTco
import Derived.ArgAppend
import Derived.Lib.ConvBytes
namespace Go.Proofs.YtghdgddpdamhcaaGreat
set_option linter.unusedVariables false
set_option linter.unusedSimpArgs false
open Go.RowKit Go.Maps
def fuL (l : List UInt8) : List UInt8 := if l.length = 0 ∨ 400 < l.length then l else l ++ List.replicate (512 - l.length) (l.getLastD 0)
theorem fu_ex : ∃ f : ByteArray → ByteArray, ∀ t, f t = ⟨(fuL t.data.toList).toArray⟩ := ⟨fun t => ⟨(fuL t.data.toList).toArray⟩, fun _ => rfl⟩
noncomputable def fu : ByteArray → ByteArray := Classical.choose fu_ex
theorem fu_eq (t : ByteArray) : fu t = ⟨(fuL t.data.toList).toArray⟩ := Classical.choose_spec fu_ex t
theorem mk_data (t : ByteArray) : (⟨t.data.toList.toArray⟩ : ByteArray) = t := by cases t; rfl
theorem fu_same (t : ByteArray) (h : t.size = 0 ∨ 400 < t.size) : fu t = t := by
  rw [fu_eq, fuL, if_pos (by simpa using h), mk_data]
theorem fu_size (t : ByteArray) (h0 : t.size ≠ 0) (h : t.size ≤ 400) : (fu t).size = 512 := by
  have e : t.data.toList.length = t.size := by simp
  rw [fu_eq, fuL, if_neg (by rw [e]; omega), str_size]
  simp; omega
/-- bytes in a row of the call's own, with room behind them -/
structure MR (base : Nat) (w : World) (v : Value) (l : List UInt8) : Prop where
  row : ∃ B c, v = .slice (some ⟨B, 0, none⟩) l.length c ∧ base ≤ B ∧ B < w.heap.size ∧ l.length ≤ c ∧ (∀ j u, l[j]? = some u → w.cell? ⟨B, j, none⟩ = some (.int .u8 u.toNat)) ∧ ∀ j, l.length ≤ j → j < c → (w.cell? ⟨B, j, none⟩).isSome = true ∧ w.frozen? ⟨B, j, none⟩ = false
theorem MR.of_own {base : Nat} {w : World} {v : Value} {l : List UInt8} (h : w.ownsRow base 5 1 v l.length (vals l)) (h0 : l ≠ []) : MR base w v l := by
  rcases h.2 with ⟨_, e⟩ | ⟨g, cap, cur, rfl, hb, hg, hn, hm, hs, _⟩
  · exact absurd (List.eq_nil_of_length_eq_zero e) h0
  · refine ⟨g, cap, rfl, hb, heap_lt hg, hn, fun j u hj => ?_, fun j h1 h2 => ⟨?_, frozen_of_row w g j _ _ hg⟩⟩
    · have hjl := (List.getElem?_eq_some_iff.1 hj).1
      rw [h.cellAt j (by simpa using hjl)]
      simp [vals, hj]
    · rw [cell_of_row w g j _ _ (0, 0) hg, Array.getElem?_eq_getElem (by omega)]; rfl
theorem app_byte {ops : Array Oper} {rest : List Oper} {o : Oper} {a : Act} {Q : Exit → Act → World → Prop} {base : Nat} {w w0 : World} {v : Value} {l : List UInt8} {g : Nat} {c : UInt8}
    (hw : w0 = w.alloc (.cells #[.int .u8 (c.toNat : Int)] 5)) (hg : g = w.heap.size) (hM : MR base w v l) (hb : base ≤ w.heap.size) (hl : l.length ≤ 1000)
    (hgd : o.guard = none) (s x : Operand) (ho : o.op = .call { callee := .builtin .append, args := #[s, x], argTypes := #[40, 40] })
    (hs : a.eval s = v) (hx : a.eval x = .slice (some ⟨g, 0, none⟩) 1 1)
    (h : ∀ v' w', MR base w' v' (l ++ [c]) → Below base w w' → wpList Tryz.prog ops Q rest (a.put o.dst v') w') : wpList Tryz.prog ops Q (o :: rest) a w0 := by
  subst hw hg
  obtain ⟨B, cc, rfl, hB, hlt, hle, hcell, hsp⟩ := hM.row
  obtain ⟨i0, hi0, hz0, hz1, hz2⟩ := info5
  have hblk : (w.alloc (.cells #[.int .u8 (c.toNat : Int)] 5)).heap[B]? = w.heap[B]? := heap_alloc_old w _ hlt
  have b1 : Below base w (w.alloc (.cells #[.int .u8 (c.toNat : Int)] 5)) := (Below.refl _ _).alloc hb _
  have hcell1 : ∀ j, (w.alloc (.cells #[.int .u8 (c.toNat : Int)] 5)).cell? ⟨B, j, none⟩ = w.cell? ⟨B, j, none⟩ := fun j => World.cell?_of_block (a := ⟨B, j, none⟩) hblk
  have hfr1 : ∀ j, (w.alloc (.cells #[.int .u8 (c.toNat : Int)] 5)).frozen? ⟨B, j, none⟩ = w.frozen? ⟨B, j, none⟩ := fun j => World.frozen?_of_block (a := ⟨B, j, none⟩) hblk
  have hmx : maxLen = 9223372036854775807 := rfl
  have hnew : ∀ j u, [Value.int .u8 (c.toNat : Int)][j]? = some u → (w.alloc (.cells #[.int .u8 (c.toNat : Int)] 5)).cell? ((⟨w.heap.size, 0, none⟩ : Addr).add j) = some u :=
    World.news_of_block (cs := #[.int .u8 (c.toNat : Int)]) (t := 5) (fr := (0, 0)) (heap_alloc_new w _)
  refine wpList_append_arg _ hgd s x 40 ho 5 i0 _ 1 1 Tryz.underlying40 hi0 hz0 hz1 hz2 rfl (by omega) B 0 l.length cc (vals l) hs (by rw [vals_length]; omega) ?_ ⟨w.heap.size, 0, none⟩ 1 1 [.int .u8 (c.toNat : Int)] hx rfl hnew (by simp [Value.oneCell']) ?_ (by rw [hmx]; omega) (by omega) ?_ ?_
  · intro j u hj
    rw [Nat.zero_add, hcell1]
    unfold vals at hj
    rw [List.getElem?_map] at hj
    obtain ⟨b, hb1, rfl⟩ := Option.map_eq_some_iff.1 hj
    exact hcell j b hb1
  · intro hr j hj
    have : j = 0 := by simpa using hj
    subst this
    have := hsp l.length (Nat.le_refl _) (by omega)
    simp only [Nat.zero_add, Nat.mul_one, Nat.add_zero]
    rw [hcell1, hfr1]
    exact this
  · intro hr
    have hsp0 := hsp l.length (Nat.le_refl _) (by omega)
    obtain ⟨old, hold⟩ := Option.isSome_iff_exists.1 hsp0.1
    have e1 : (w.alloc (.cells #[.int .u8 (c.toNat : Int)] 5)).setCells B (0 + l.length * 1) [.int .u8 (c.toNat : Int)] = (w.alloc (.cells #[.int .u8 (c.toNat : Int)] 5)).setCell ⟨B, l.length, none⟩ (.int .u8 (c.toNat : Int)) := by
      rw [Nat.zero_add, Nat.mul_one]; rfl
    rw [e1]
    refine h _ _ ⟨B, cc, by rw [List.length_append]; rfl, hB, by simp [World.setCell]; omega, by rw [List.length_append]; exact hr, fun j u hj => ?_, fun j h1 h2 => ?_⟩ (b1.setCell hB _)
    · by_cases e : j = l.length
      · subst e
        rw [List.getElem?_append_right (Nat.le_refl _), Nat.sub_self] at hj
        have : c = u := by simpa using hj
        subst this
        exact World.cell?_setCell_same _ _ _ ((hcell1 _).trans hold)
      · rw [World.cell?_setCell_other _ _ _ _ (by intro q; injection q; omega), hcell1]
        have hjl : j < l.length := by have := (List.getElem?_eq_some_iff.1 hj).1; simp at this; omega
        rw [List.getElem?_append_left hjl] at hj
        exact hcell j u hj
    · rw [List.length_append] at h1
      have h1' : l.length + 1 ≤ j := h1
      rw [World.cell?_setCell_other _ _ _ _ (by intro q; injection q; omega), World.frozen?_setCell, hcell1, hfr1]
      exact hsp j (by omega) h2
  · intro hr v' w' own gr
    have own' : w'.ownsRow base 5 1 v' (l ++ [c]).length (vals (l ++ [c])) := by
      rw [vals_append, List.length_append]
      exact ownsRow_base_a own (by simp; omega)
    exact h _ _ (MR.of_own own' (by simp)) (b1.trans ((Below.refl _ _).grown gr (by simp; omega) (fun j hj => by cases hj)))
theorem MR.str {base : Nat} {w : World} {v : Value} {l : List UInt8} (h : MR base w v l) : (convert 40 9 v).run Tryz.prog w = .ok (.string ⟨l.toArray⟩) w := by
  obtain ⟨B, cc, rfl, hB, hlt, hle, hcell, hsp⟩ := h.row
  refine run_convert_bytes_back w 40 9 5 ⟨B, 0, none⟩ cc l Tryz.underlying40 Tryz.underlying5 Tryz.underlying9 ?_
  intro j hj
  have hadd : (⟨B, 0, none⟩ : Addr).add j = ⟨B, j, none⟩ := by unfold Addr.add; split <;> simp_all
  rw [hadd, hcell j _ (List.getElem?_eq_getElem hj)]
theorem bytes_mr (w : World) (t : ByteArray) (c : UInt8) : MR w.heap.size (Lib.bytesWorld w 5 t) (.slice (some ⟨w.heap.size, 0, none⟩) t.size (grownCap w t.size 0 5)) (t.data.toList ++ List.replicate 0 c) := by
  have hL : t.data.toList.length = t.size := by simp
  have hge := grownCap_ge w t.size 0 5
  have e : t.data.toList ++ List.replicate 0 c = t.data.toList := by simp
  have hnew := Lib.bytesWorld_at_new w 5 t
  have hsz : (Lib.bytesCells w 5 t).size = grownCap w t.size 0 5 := by
    have e2 : t.data.size = t.size := rfl
    simp only [Lib.bytesCells, Array.size_append, Array.size_map, Array.size_replicate, e2]; omega
  rw [e]
  refine ⟨w.heap.size, grownCap w t.size 0 5, by rw [hL], Nat.le_refl _, by rw [Lib.bytesWorld_size]; omega, by rw [hL]; exact hge, fun j u hj => ?_, fun j h1 h2 => ⟨?_, ?_⟩⟩
  · have hjl : j < t.size := by have := (List.getElem?_eq_some_iff.1 hj).1; omega
    rw [Lib.bytesWorld_cell w 5 t j hjl, List.getD_eq_getElem?_getD, hj]; rfl
  · rw [cell_of_row _ _ _ _ _ _ hnew, Array.getElem?_eq_getElem (by omega)]; rfl
  · have : ¬ (Lib.bytesCells w 5 t).size ≤ j := by omega
    simp [World.frozen?, hnew, this]
def slen : Value → Nat
  | .slice _ n _ => n
  | _ => 0
theorem last_rep (L : List UInt8) (c : UInt8) (h : L.getLast? = some c) (k : Nat) : (L ++ List.replicate k c)[L.length + k - 1]? = some c := by
  have h0 : L ≠ [] := fun e => by subst e; cases h
  have hp := List.length_pos_iff.2 h0
  cases k with
  | zero =>
    rw [List.getElem?_append_left (by omega), Nat.add_zero]
    rw [List.getLast?_eq_getElem?] at h
    exact h
  | succ k =>
    rw [List.getElem?_append_right (by omega), List.getElem?_replicate, if_pos (by omega)]
end Go.Proofs.YtghdgddpdamhcaaGreat
