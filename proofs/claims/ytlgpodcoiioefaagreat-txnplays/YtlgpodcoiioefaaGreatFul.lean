/- The law's own: full. -/
import Derived.Test.YtlgpodcoiioefaaGreatTco
import Derived.ArgAppend
import Derived.Lib.ConvBytes
namespace Go.Proofs.YtlgpodcoiioefaaGreat
set_option linter.unusedVariables false
set_option linter.unusedSimpArgs false
open Go.RowKit Go.Maps
def fuL (l : List UInt8) : List UInt8 := if l.length = 0 ∨ 400 < l.length then l else l ++ List.replicate (512 - l.length) (l.getLastD 0)
theorem fu_ex : ∃ f : ByteArray → ByteArray, ∀ t, f t = ⟨(fuL t.data.toList).toArray⟩ := ⟨fun t => ⟨(fuL t.data.toList).toArray⟩, fun _ => rfl⟩
noncomputable def fu : ByteArray → ByteArray := Classical.choose fu_ex
theorem fu_eq (t : ByteArray) : fu t = ⟨(fuL t.data.toList).toArray⟩ := Classical.choose_spec fu_ex t
theorem mk_data (t : ByteArray) : (⟨t.data.toList.toArray⟩ : ByteArray) = t := by cases t; rfl
theorem fu_same (t : ByteArray) (h : t.size = 0 ∨ 400 < t.size) : fu t = t := by
  rw [fu_eq, fuL, if_pos (by simpa using h), mk_data]
theorem fu_size (t : ByteArray) (h0 : t.size ≠ 0) (h : t.size ≤ 400) : (fu t).size = 512 := by
  have e : t.data.toList.length = t.size := by simp
  rw [fu_eq, fuL, if_neg (by rw [e]; omega), str_size]
  simp; omega
/-- bytes in a row of the call's own, with room behind them -/
structure MR (base : Nat) (w : World) (v : Value) (l : List UInt8) : Prop where
  row : ∃ B c, v = .slice (some ⟨B, 0, none⟩) l.length c ∧ base ≤ B ∧ B < w.heap.size ∧ l.length ≤ c ∧ (∀ j u, l[j]? = some u → w.cell? ⟨B, j, none⟩ = some (.int .u8 u.toNat)) ∧ ∀ j, l.length ≤ j → j < c → (w.cell? ⟨B, j, none⟩).isSome = true ∧ w.frozen? ⟨B, j, none⟩ = false
theorem MR.of_own {base : Nat} {w : World} {v : Value} {l : List UInt8} (h : w.ownsRow base 5 1 v l.length (vals l)) (h0 : l ≠ []) : MR base w v l := by
  rcases h.2 with ⟨_, e⟩ | ⟨g, cap, cur, rfl, hb, hg, hn, hm, hs, _⟩
  · exact absurd (List.eq_nil_of_length_eq_zero e) h0
  · refine ⟨g, cap, rfl, hb, heap_lt hg, hn, fun j u hj => ?_, fun j h1 h2 => ⟨?_, frozen_of_row w g j _ _ hg⟩⟩
    · have hjl := (List.getElem?_eq_some_iff.1 hj).1
      rw [h.cellAt j (by simpa using hjl)]
      simp [vals, hj]
    · rw [cell_of_row w g j _ _ (0, 0) hg, Array.getElem?_eq_getElem (by omega)]; rfl
theorem app_byte {ops : Array Oper} {rest : List Oper} {o : Oper} {a : Act} {Q : Exit → Act → World → Prop} {base : Nat} {w w0 : World} {v : Value} {l : List UInt8} {g : Nat} {c : UInt8}
    (hw : w0 = w.alloc (.cells #[.int .u8 (c.toNat : Int)] 5)) (hg : g = w.heap.size) (hM : MR base w v l) (hb : base ≤ w.heap.size) (hl : l.length ≤ 1000)
    (hgd : o.guard = none) (s x : Operand) (ho : o.op = .call { callee := .builtin .append, args := #[s, x], argTypes := #[69, 69] })
    (hs : a.eval s = v) (hx : a.eval x = .slice (some ⟨g, 0, none⟩) 1 1)
    (h : ∀ v' w', MR base w' v' (l ++ [c]) → Below base w w' → wpList Tryz.prog ops Q rest (a.put o.dst v') w') : wpList Tryz.prog ops Q (o :: rest) a w0 := by
  subst hw hg
  obtain ⟨B, cc, rfl, hB, hlt, hle, hcell, hsp⟩ := hM.row
  obtain ⟨i0, hi0, hz0, hz1, hz2⟩ := info5
  have hblk : (w.alloc (.cells #[.int .u8 (c.toNat : Int)] 5)).heap[B]? = w.heap[B]? := heap_alloc_old w _ hlt
  have b1 : Below base w (w.alloc (.cells #[.int .u8 (c.toNat : Int)] 5)) := (Below.refl _ _).alloc hb _
  have hcell1 : ∀ j, (w.alloc (.cells #[.int .u8 (c.toNat : Int)] 5)).cell? ⟨B, j, none⟩ = w.cell? ⟨B, j, none⟩ := fun j => World.cell?_of_block (a := ⟨B, j, none⟩) hblk
  have hfr1 : ∀ j, (w.alloc (.cells #[.int .u8 (c.toNat : Int)] 5)).frozen? ⟨B, j, none⟩ = w.frozen? ⟨B, j, none⟩ := fun j => World.frozen?_of_block (a := ⟨B, j, none⟩) hblk
  have hmx : maxLen = 9223372036854775807 := rfl
  have hnew : ∀ j u, [Value.int .u8 (c.toNat : Int)][j]? = some u → (w.alloc (.cells #[.int .u8 (c.toNat : Int)] 5)).cell? ((⟨w.heap.size, 0, none⟩ : Addr).add j) = some u :=
    World.news_of_block (cs := #[.int .u8 (c.toNat : Int)]) (t := 5) (fr := (0, 0)) (heap_alloc_new w _)
  refine wpList_append_arg _ hgd s x 69 ho 5 i0 _ 1 1 Tryz.underlying69 hi0 hz0 hz1 hz2 rfl (by omega) B 0 l.length cc (vals l) hs (by rw [vals_length]; omega) ?_ ⟨w.heap.size, 0, none⟩ 1 1 [.int .u8 (c.toNat : Int)] hx rfl hnew (by simp [Value.oneCell']) ?_ (by rw [hmx]; omega) (by omega) ?_ ?_
  · intro j u hj
    rw [Nat.zero_add, hcell1]
    unfold vals at hj
    rw [List.getElem?_map] at hj
    obtain ⟨b, hb1, rfl⟩ := Option.map_eq_some_iff.1 hj
    exact hcell j b hb1
  · intro hr j hj
    have : j = 0 := by simpa using hj
    subst this
    have := hsp l.length (Nat.le_refl _) (by omega)
    simp only [Nat.zero_add, Nat.mul_one, Nat.add_zero]
    rw [hcell1, hfr1]
    exact this
  · intro hr
    have hsp0 := hsp l.length (Nat.le_refl _) (by omega)
    obtain ⟨old, hold⟩ := Option.isSome_iff_exists.1 hsp0.1
    have e1 : (w.alloc (.cells #[.int .u8 (c.toNat : Int)] 5)).setCells B (0 + l.length * 1) [.int .u8 (c.toNat : Int)] = (w.alloc (.cells #[.int .u8 (c.toNat : Int)] 5)).setCell ⟨B, l.length, none⟩ (.int .u8 (c.toNat : Int)) := by
      rw [Nat.zero_add, Nat.mul_one]; rfl
    rw [e1]
    refine h _ _ ⟨B, cc, by rw [List.length_append]; rfl, hB, by simp [World.setCell]; omega, by rw [List.length_append]; exact hr, fun j u hj => ?_, fun j h1 h2 => ?_⟩ (b1.setCell hB _)
    · by_cases e : j = l.length
      · subst e
        rw [List.getElem?_append_right (Nat.le_refl _), Nat.sub_self] at hj
        have : c = u := by simpa using hj
        subst this
        exact World.cell?_setCell_same _ _ _ ((hcell1 _).trans hold)
      · rw [World.cell?_setCell_other _ _ _ _ (by intro q; injection q; omega), hcell1]
        have hjl : j < l.length := by have := (List.getElem?_eq_some_iff.1 hj).1; simp at this; omega
        rw [List.getElem?_append_left hjl] at hj
        exact hcell j u hj
    · rw [List.length_append] at h1
      have h1' : l.length + 1 ≤ j := h1
      rw [World.cell?_setCell_other _ _ _ _ (by intro q; injection q; omega), World.frozen?_setCell, hcell1, hfr1]
      exact hsp j (by omega) h2
  · intro hr v' w' own gr
    have own' : w'.ownsRow base 5 1 v' (l ++ [c]).length (vals (l ++ [c])) := by
      rw [vals_append, List.length_append]
      exact ownsRow_base_a own (by simp; omega)
    exact h _ _ (MR.of_own own' (by simp)) (b1.trans ((Below.refl _ _).grown gr (by simp; omega) (fun j hj => by cases hj)))
theorem MR.str {base : Nat} {w : World} {v : Value} {l : List UInt8} (h : MR base w v l) : (convert 69 9 v).run Tryz.prog w = .ok (.string ⟨l.toArray⟩) w := by
  obtain ⟨B, cc, rfl, hB, hlt, hle, hcell, hsp⟩ := h.row
  refine run_convert_bytes_back w 69 9 5 ⟨B, 0, none⟩ cc l Tryz.underlying69 Tryz.underlying5 Tryz.underlying9 ?_
  intro j hj
  have hadd : (⟨B, 0, none⟩ : Addr).add j = ⟨B, j, none⟩ := by unfold Addr.add; split <;> simp_all
  rw [hadd, hcell j _ (List.getElem?_eq_getElem hj)]
theorem bytes_mr (w : World) (t : ByteArray) (c : UInt8) : MR w.heap.size (Lib.bytesWorld w 5 t) (.slice (some ⟨w.heap.size, 0, none⟩) t.size (grownCap w t.size 0 5)) (t.data.toList ++ List.replicate 0 c) := by
  have hL : t.data.toList.length = t.size := by simp
  have hge := grownCap_ge w t.size 0 5
  have e : t.data.toList ++ List.replicate 0 c = t.data.toList := by simp
  have hnew := Lib.bytesWorld_at_new w 5 t
  have hsz : (Lib.bytesCells w 5 t).size = grownCap w t.size 0 5 := by
    have e2 : t.data.size = t.size := rfl
    simp only [Lib.bytesCells, Array.size_append, Array.size_map, Array.size_replicate, e2]; omega
  rw [e]
  refine ⟨w.heap.size, grownCap w t.size 0 5, by rw [hL], Nat.le_refl _, by rw [Lib.bytesWorld_size]; omega, by rw [hL]; exact hge, fun j u hj => ?_, fun j h1 h2 => ⟨?_, ?_⟩⟩
  · have hjl : j < t.size := by have := (List.getElem?_eq_some_iff.1 hj).1; omega
    rw [Lib.bytesWorld_cell w 5 t j hjl, List.getD_eq_getElem?_getD, hj]; rfl
  · rw [cell_of_row _ _ _ _ _ _ hnew, Array.getElem?_eq_getElem (by omega)]; rfl
  · have : ¬ (Lib.bytesCells w 5 t).size ≤ j := by omega
    simp [World.frozen?, hnew, this]
def slen : Value → Nat
  | .slice _ n _ => n
  | _ => 0
theorem last_rep (L : List UInt8) (c : UInt8) (h : L.getLast? = some c) (k : Nat) : (L ++ List.replicate k c)[L.length + k - 1]? = some c := by
  have h0 : L ≠ [] := fun e => by subst e; cases h
  have hp := List.length_pos_iff.2 h0
  cases k with
  | zero =>
    rw [List.getElem?_append_left (by omega), Nat.add_zero]
    rw [List.getLast?_eq_getElem?] at h
    exact h
  | succ k =>
    rw [List.getElem?_append_right (by omega), List.getElem?_replicate, if_pos (by omega)]
set_option maxRecDepth 100000 in
theorem full_any (t : ByteArray) (w : World) : Calls Tryz.prog 15 #[.string t] w fun e w' => e = .returned (.string (fu t)) ∧ Below w.heap.size w w' := by
  by_cases h : t.size = 0 ∨ 400 < t.size
  · rw [fu_same t h]
    by_cases h : t.size = 0
    · obtain rfl : t = ByteArray.empty := ByteArray.size_eq_zero_iff.1 h
      go_enter Tryz.func15, Tryz.ntmps15
      go_wp2
      go_ret
      exact ⟨rfl, Below.refl _ _⟩
    · have hne : ¬ t = ByteArray.empty := fun e => h (by rw [e]; rfl)
      have hi : ¬ ((t.size : Int) = 0) := by omega
      have hi2 : (400 : Int) < t.size := by omega
      go_enter Tryz.func15, Tryz.ntmps15
      go_wp2
      go_ret
      exact ⟨rfl, Below.refl _ _⟩
  · have hne : ¬ t = ByteArray.empty := fun e => h (.inl (by rw [e]; rfl))
    have hi : ¬ ((t.size : Int) = 0) := by omega
    have hi2 : ¬ ((400 : Int) < t.size) := by omega
    have hcv := Lib.run_convert_string_bytes (P := Tryz.prog) w 9 69 5 t Tryz.underlying9 Tryz.underlying69 Tryz.underlying5
    have hL : t.data.toList.length = t.size := by simp
    obtain ⟨c, hc⟩ : ∃ c, t.data.toList.getLast? = some c := by
      cases hq : t.data.toList.getLast? with
      | none => rw [List.getLast?_eq_none_iff] at hq; rw [hq] at hL; simp at hL; omega
      | some c => exact ⟨c, rfl⟩
    have HF : Hid (fu t = ⟨(t.data.toList ++ List.replicate (512 - t.size) c).toArray⟩) := ⟨by
      rw [fu_eq, fuL, if_neg (by rw [hL]; exact h), hL, List.getLastD_eq_getLast?, hc]; rfl⟩
    have HC : Hid (∀ k, (t.data.toList ++ List.replicate k c)[t.size + k - 1]? = some c) := ⟨fun k => by have := last_rep _ c hc k; rwa [hL] at this⟩
    have HB : Hid (Below w.heap.size w (Lib.bytesWorld w 5 t)) := ⟨⟨rfl, rfl, rfl, by rw [Lib.bytesWorld_size]; omega, fun j hj => Lib.bytesWorld_at_old w 5 t j hj⟩⟩
    have HM : Hid (MR w.heap.size (Lib.bytesWorld w 5 t) (.slice (some ⟨w.heap.size, 0, none⟩) t.size (grownCap w t.size 0 5)) (t.data.toList ++ List.replicate 0 c)) := ⟨bytes_mr w t c⟩
    generalize Lib.bytesWorld w 5 t = W1 at *
    generalize grownCap w t.size 0 5 = gc at *
    generalize t.data.toList = L0 at *
    generalize fu t = X at *
    have hlo : 1 ≤ t.size := by omega
    have hhi : t.size ≤ 400 := by omega
    clear h hc
    go_enter Tryz.func15, Tryz.ntmps15
    go_wp2_with fail
    go_loopw [3] (fun v wr => ∃ (k : Nat) (va : Option Addr) (cc : Nat), t.size + k ≤ 512 ∧ v = .slice va (t.size + k) cc ∧ Hid (MR w.heap.size wr (.slice va (t.size + k) cc) (L0 ++ List.replicate k c)) ∧ Hid (Below w.heap.size w wr)) (fun v _ => 512 - slen v)
    case atStart => exact ⟨0, _, _, by omega, rfl, HM, HB⟩
    case round =>
      obtain ⟨k, va, cc, hk, rfl, M, B⟩ := hrel
      clear HM HB hcv
      by_cases hlt : t.size + k < 512
      · have hti : ((t.size + k : Nat) : Int) < 512 := by omega
        obtain ⟨Bk, c2, e2, hB, hBl, hle, hcell, hsp⟩ := M.out.row
        injection e2 with e3 e4 e5
        subst e3 e5
        have ck := hcell _ _ (HC.out k)
        have hcl : t.size + k ≤ cc := by omega
        have hsb : IntKind.i64.wrap (((t.size + k : Nat) : Int) - 1) = ((t.size + k - 1 : Nat) : Int) := by rw [IntKind.wrap_i64]; omega
        have hsb2 : wrap64 (((t.size + k : Nat) : Int) - 1) = ((t.size + k - 1 : Nat) : Int) := by unfold wrap64; omega
        clear hcell hsp hle e4
        go_wp2_with (at_builtin; refine app_byte (v := .slice (some ⟨Bk, 0, none⟩) (t.size + k) cc) (g := wr.heap.size) (c := c) (l := L0 ++ List.replicate k c) rfl rfl M.out B.out.size (by rw [List.length_append, hL, List.length_replicate]; omega) rfl _ _ rfl rfl rfl ?_; intro v8 w8 m8 b8)
        have e9 : (L0 ++ List.replicate k c) ++ [c] = L0 ++ List.replicate (k + 1) c := by rw [List.append_assoc, List.replicate_succ']
        rw [e9] at m8
        obtain ⟨B8, c8, rfl, _⟩ := m8.row
        have e10 : (L0 ++ List.replicate (k + 1) c).length = t.size + (k + 1) := by rw [List.length_append, hL, List.length_replicate]
        rw [e10] at m8 ⊢
        exact ⟨⟨k + 1, _, _, by omega, rfl, ⟨m8⟩, ⟨B.out.trans b8⟩⟩, by simp only [slen]; omega⟩
      · have hke : t.size + k = 512 := by omega
        have hcv := M.out.str
        have ek : k = 512 - t.size := by omega
        subst ek
        rw [← HF.out] at hcv
        rw [hke] at hcv ⊢
        clear hk hlt hke M
        go_wp2
        go_ret
        exact ⟨rfl, B.out⟩
end Go.Proofs.YtlgpodcoiioefaaGreat
