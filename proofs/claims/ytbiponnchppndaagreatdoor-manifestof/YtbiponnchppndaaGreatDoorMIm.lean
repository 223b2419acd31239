/- The reader's item. -/
import Derived.Test.YtbiponnchppndaaGreatDoorMPr
namespace Go.Proofs.YtbiponnchppndaaGreatDoor
set_option maxRecDepth 100000
set_option linter.unusedVariables false
set_option linter.unusedSimpArgs false
open Go.RowKit
open Go.Proofs.YtbiponnchppndaaGreatDoorP (TB recd nn LEN key Rd RdAt)
open Go.Proofs.YtbiponnchppndaaGreatDoorH (hv hv_length hv_one hv_eq hv_b32 b32 pz lay lay_get lay_size heap_setCells there_of_row)
attribute [local go_sem ↓] Go.wp_at_zero Go.wp_at_succ ldIe stIe
noncomputable def stH (p v : Value) : Sem Unit := Instr.storeAt 51 p v
theorem stHe (p v : Value) : Instr.storeAt 51 p v = stH p v := rfl
attribute [local go_sem ↓] stHe
theorem run_stH {w : World} {g : Nat} {x : It} {a : Option Addr} {c : Nat} (h : Bi w g x a c) (f : Nat → UInt8) : (stH (.pointer (some ⟨g, 5, none⟩)) (.agg (hv f).toArray)).run Tryz.prog w = .ok () (w.setCells g 5 (hv f)) := by
  unfold stH
  exact run_storeAt_mid (P := Tryz.prog) w g 5 51 (hv f).toArray (there_of_row h 5 (by rw [List.size_toArray, List.size_toArray, hv_length, ic_length]; decide)) (by rw [List.size_toArray, hv_length]; exact infoH) (all_oneCell_toArray (hv_one f))
theorem run_stI2 {w : World} {g : Nat} {C : Array Value} (h : w.heap[g]? = some (.cells C 53 (0, 0))) (hC : C.size = 37) (x : It) (a : Option Addr) (c : Nat) : (stI (.pointer (some ⟨g, 0, none⟩)) (.agg (ic x a c).toArray)).run Tryz.prog w = .ok () (w.setCells g 0 (ic x a c)) := by
  unfold stI
  exact run_storeAt_mid (P := Tryz.prog) w g 0 53 (ic x a c).toArray (there_of_row h 0 (by rw [List.size_toArray, ic_length, hC]; decide)) (by rw [List.size_toArray, ic_length]; exact infoI) (all_oneCell_toArray (ic_one x a c))
theorem Bi.setI {w : World} {g : Nat} {C : Array Value} (h : w.heap[g]? = some (.cells C 53 (0, 0))) (hC : C.size = 37) (x : It) (a : Option Addr) (c : Nat) : Bi (w.setCells g 0 (ic x a c)) g x a c := by
  unfold Bi
  rw [heap_setCells _ _ _ _ h]
  congr 2
  apply Array.ext_getElem?
  intro i
  by_cases hi : i < 37
  · rw [lay_get _ _ _ _ (by omega), if_pos (Nat.zero_le _), dif_pos (by rw [ic_length]; omega), List.getElem?_toArray]
    rw [List.getElem?_eq_getElem (by rw [ic_length]; exact hi)]
    rfl
  · rw [Array.getElem?_eq_none (by rw [lay_size, hC]; omega), Array.getElem?_eq_none (by rw [List.size_toArray, ic_length]; omega)]
theorem Bi.setH {w : World} {g : Nat} {x : It} {a : Option Addr} {c : Nat} (h : Bi w g x a c) (f : Nat → UInt8) : Bi (w.setCells g 5 (hv f)) g { x with g := f } a c := by
  unfold Bi
  rw [heap_setCells _ _ _ _ h]
  congr 2
  apply Array.ext_getElem?
  intro i
  by_cases hi : i < 37
  · rw [lay_get _ _ _ _ (by rw [List.size_toArray, ic_length]; exact hi), List.getElem?_toArray, List.getElem?_toArray]
    by_cases h5 : 5 ≤ i
    · rw [if_pos h5, dif_pos (by rw [hv_length]; omega)]
      unfold ic
      rw [List.getElem?_append_right (by simpa using h5)]
      simp only [List.length_cons, List.length_nil]
      rw [List.getElem?_eq_getElem (by rw [hv_length]; omega)]
    · rw [if_neg h5]
      unfold ic
      rw [List.getElem?_append_left (by simp; omega), List.getElem?_append_left (by simp; omega)]
  · rw [Array.getElem?_eq_none (by rw [lay_size, List.size_toArray, ic_length]; omega), Array.getElem?_eq_none (by rw [List.size_toArray, ic_length]; omega)]
theorem Bi.setm {w : World} {g : Nat} {x : It} {a : Option Addr} {c : Nat} (h : Bi w g x a c) (t : Bool) : Bi (w.setCell ⟨g, 2, none⟩ (.bool t)) g { x with mkr := t } a c := by
  unfold Bi; rw [heap_setCell_same _ _ _ _ _ _ h]; simp [ic]
theorem Bi.setz {w : World} {g : Nat} {x : It} {a : Option Addr} {c : Nat} (h : Bi w g x a c) (t : Int) : Bi (w.setCell ⟨g, 3, none⟩ (.int .i64 t)) g { x with size := t } a c := by
  unfold Bi; rw [heap_setCell_same _ _ _ _ _ _ h]; simp [ic]
theorem Bi.setl {w : World} {g : Nat} {x : It} {a : Option Addr} {c : Nat} (h : Bi w g x a c) (l : List En) (a' : Option Addr) (c' : Nat) : Bi (w.setCell ⟨g, 4, none⟩ (.slice a' l.length c')) g { x with l := l } a' c' := by
  unfold Bi; rw [heap_setCell_same _ _ _ _ _ _ h]; simp [ic]
theorem Bi.fz {w : World} {g : Nat} {x : It} {a : Option Addr} {c : Nat} (h : Bi w g x a c) (j : Nat) : w.frozen? ⟨g, j, none⟩ = false := frozen_of_row _ _ _ _ _ h
theorem Bi.low {B : Nat} {w w' : World} {g : Nat} {x : It} {a : Option Addr} {c : Nat} (h : Bi w g x a c) (hg : g < B) (hb : Below B w w') : Bi w' g x a c := by
  unfold Bi; rw [hb.block g hg]; exact h
theorem z32 : (hv fun _ => 0).toArray = #[.int .u8 0, .int .u8 0, .int .u8 0, .int .u8 0, .int .u8 0, .int .u8 0, .int .u8 0, .int .u8 0, .int .u8 0, .int .u8 0, .int .u8 0, .int .u8 0, .int .u8 0, .int .u8 0, .int .u8 0, .int .u8 0, .int .u8 0, .int .u8 0, .int .u8 0, .int .u8 0, .int .u8 0, .int .u8 0, .int .u8 0, .int .u8 0, .int .u8 0, .int .u8 0, .int .u8 0, .int .u8 0, .int .u8 0, .int .u8 0, .int .u8 0, .int .u8 0] := by
  rw [hv_eq]; rfl
/-- an item with a key and a number alone -/
abbrev it0 (k : List UInt8) (s : Int) : It := ⟨k, s, false, 0, [], fun _ => 0⟩
theorem it0_cells (k : List UInt8) (s : Int) : (ic (it0 k s) none 0).toArray = #[str k, .int .i64 s, .bool false, .int .i64 0, .slice none 0 0, .int .u8 0, .int .u8 0, .int .u8 0, .int .u8 0, .int .u8 0, .int .u8 0, .int .u8 0, .int .u8 0, .int .u8 0, .int .u8 0, .int .u8 0, .int .u8 0, .int .u8 0, .int .u8 0, .int .u8 0, .int .u8 0, .int .u8 0, .int .u8 0, .int .u8 0, .int .u8 0, .int .u8 0, .int .u8 0, .int .u8 0, .int .u8 0, .int .u8 0, .int .u8 0, .int .u8 0, .int .u8 0, .int .u8 0, .int .u8 0, .int .u8 0, .int .u8 0] := by
  unfold ic
  rw [hv_eq]; rfl
theorem hv_cut (f : Nat → UInt8) : hv (cut32 f) = hv f := by
  rw [hv_eq, hv_eq]
  apply List.map_congr_left
  intro j hj
  have : j < 32 := by simpa using hj
  unfold cut32
  rw [if_pos this]
theorem parse_any2 (l : List UInt8) (hl : l.length ≤ 1048576) (w : World) : Calls Tryz.prog 113 #[str l] w fun e w' => ∃ t, e = .returned (.tuple #[.agg (hv (cut32 (pz l))).toArray, .bool t]) ∧ Below w.heap.size w w' := by
  refine (Go.Proofs.YtbiponnchppndaaGreatDoorH.parse2 ⟨l.toArray⟩ w (by rw [str_size]; omega)).mono ?_
  rintro e w' ⟨rfl, hb⟩
  exact ⟨_, by rw [hv_cut, hv_b32], hb⟩
theorem numFle {b k : List UInt8} {s : Rs} (h : s.1 ≤ b.length) : (numF b k s).2.1 ≤ b.length := valFle h
theorem prsFle {b : List UInt8} : ∀ (f q : Nat), q ≤ b.length → (prsF b f q).2 ≤ b.length
  | 0, q, h => h
  | f + 1, q, h => by
    unfold prsF
    split
    · rename_i x n hx
      split
      · exact prsFle f n (rdFat hx).2.2.2
      · exact h
    · exact h
theorem prs2Fle {b : List UInt8} {s : Rs} (h : s.1 ≤ b.length) : (prs2F b s).2.1 ≤ b.length := by
  unfold prs2F
  split
  · exact h
  · exact prsFle 8 s.1 h
theorem Oth.trans {X : Bs} {w w' w2 : World} (h : Oth X w w') (h2 : Oth X w' w2) : Oth X w w2 := ⟨h2.os.trans h.os, h2.tape.trans h.tape, h2.output.trans h.output, Nat.le_trans h.size h2.size, fun b hb hn => (h2.block b (by have := h.size; omega) hn).trans (h.block b hb hn)⟩
theorem Bi.oth {w w' : World} {g r : Nat} {x : It} {a : Option Addr} {c : Nat} (h : Bi w r x a c) (ho : Oth (fun y => y = g) w w') (hr : r ≠ g) : Bi w' r x a c := by
  unfold Bi; rw [ho.block r h.lt hr]; exact h
/-- what is kept while an item is read: the reader, the answer's box and the item's -/
structure IK (b : List UInt8) (g : Nat) (w : World) (r2 r3 : Nat) (W : World) (s : Rs) (x : It) (a : Option Addr) (c : Nat) : Prop where
  rx : Rx W g b s
  le : s.1 ≤ b.length
  oth : Oth (fun y => y = g) w W
  g2 : ∃ C, W.heap[r2]? = some (.cells C 53 (0, 0)) ∧ C.size = 37
  bi : Bi W r3 x a c
  lt : g < w.heap.size ∧ w.heap.size ≤ r2 ∧ r2 < r3
theorem IK.step {b : List UInt8} {g : Nat} {w : World} {r2 r3 : Nat} {W W' : World} {s s' : Rs} {x : It} {a : Option Addr} {c : Nat} (h : IK b g w r2 r3 W s x a c) (hr : RP g b s' W W') (hs : s'.1 ≤ b.length) : IK b g w r2 r3 W' s' x a c := by
  obtain ⟨C, h1, h2⟩ := h.g2
  have := h.lt
  exact ⟨hr.rx, hs, h.oth.trans hr.oth, ⟨C, by rw [hr.oth.block r2 (lt_of_block h1) (by omega)]; exact h1, h2⟩, h.bi.oth hr.oth (by omega), h.lt⟩
theorem IK.set {b : List UInt8} {g : Nat} {w : World} {r2 r3 : Nat} {W : World} {s : Rs} {x x' : It} {a a' : Option Addr} {c c' : Nat} (h : IK b g w r2 r3 W s x a c) {j : Nat} {v : Value} (hb : Bi (W.setCell ⟨r3, j, none⟩ v) r3 x' a' c') : IK b g w r2 r3 (W.setCell ⟨r3, j, none⟩ v) s x' a' c' := by
  obtain ⟨C, h1, h2⟩ := h.g2
  have := h.lt
  refine ⟨by unfold Rx; rw [hso _ _ (by omega)]; exact h.rx, h.le, ⟨h.oth.os, h.oth.tape, h.oth.output, by simpa using h.oth.size, fun k hk hn => by rw [hso _ _ (by omega)]; exact h.oth.block k hk hn⟩, ⟨C, by rw [hso _ _ (by omega)]; exact h1, h2⟩, hb, h.lt⟩
theorem IK.bel {b : List UInt8} {g : Nat} {w0 w : World} {r2 r3 : Nat} {W : World} {s : Rs} {x : It} {a : Option Addr} {c : Nat} (h : IK b g w r2 r3 W s x a c) (hb : Below w0.heap.size w0 w) (hg : w0.heap.size ≤ g) : Below w0.heap.size w0 W := h.oth.bel hb hg
theorem hsos {W : World} {r k : Nat} (hn : k ≠ r) : ∀ (vs : List Value) (o : Nat), (W.setCells r o vs).heap[k]? = W.heap[k]? := by
  intro vs
  induction vs generalizing W with
  | nil => intro o; rfl
  | cons v vs ih => intro o; show ((W.setCell ⟨r, o, none⟩ v).setCells r (o + 1) vs).heap[k]? = _; rw [ih, hso _ _ hn]
theorem szs {W : World} {r : Nat} : ∀ (vs : List Value) (o : Nat), (W.setCells r o vs).heap.size = W.heap.size := by
  intro vs
  induction vs generalizing W with
  | nil => intro o; rfl
  | cons v vs ih => intro o; show ((W.setCell ⟨r, o, none⟩ v).setCells r (o + 1) vs).heap.size = _; rw [ih]; simp
theorem ots {W : World} {r : Nat} : ∀ (vs : List Value) (o : Nat), (W.setCells r o vs).os = W.os ∧ (W.setCells r o vs).tape = W.tape ∧ (W.setCells r o vs).output = W.output := by
  intro vs
  induction vs generalizing W with
  | nil => intro o; exact ⟨rfl, rfl, rfl⟩
  | cons v vs ih => intro o; exact ih (W := W.setCell ⟨r, o, none⟩ v) (o + 1)
theorem Oth.sets {w W : World} {g r : Nat} (h : Oth (fun y => y = g) w W) (hr : w.heap.size ≤ r) (vs : List Value) (o : Nat) : Oth (fun y => y = g) w (W.setCells r o vs) :=
  ⟨(ots vs o).1.trans h.os, (ots vs o).2.1.trans h.tape, (ots vs o).2.2.trans h.output, by rw [szs]; exact h.size, fun k hk hn => by rw [hsos (by omega)]; exact h.block k hk hn⟩
theorem Ow.keep {base : Nat} {w w' : World} {v : Value} {l : List En} (h : Ow base w v l) (hs : w.heap.size ≤ w'.heap.size) (hk : ∀ k, base ≤ k → k < w.heap.size → w'.heap[k]? = w.heap[k]?) : Ow base w' v l := by
  refine ⟨⟨h.own.1, ?_⟩, Nat.le_trans h.le hs⟩
  rcases h.own.2 with e | ⟨c, cap, cur, e, h2, h3, h4⟩
  · exact .inl e
  · exact .inr ⟨c, cap, cur, e, h2, by rw [hk c h2 (lt_of_block h3)]; exact h3, h4⟩
theorem IK.hash {b : List UInt8} {g : Nat} {w : World} {r2 r3 : Nat} {W : World} {s : Rs} {x : It} {a : Option Addr} {c : Nat} (h : IK b g w r2 r3 W s x a c) (f : Nat → UInt8) : IK b g w r2 r3 (W.setCells r3 5 (hv f)) s { x with g := f } a c := by
  obtain ⟨C, h1, h2⟩ := h.g2
  have := h.lt
  exact ⟨by unfold Rx; rw [hsos (by omega)]; exact h.rx, h.le, h.oth.sets (by omega) _ _, ⟨C, by rw [hsos (by omega)]; exact h1, h2⟩, h.bi.setH f, h.lt⟩
set_option maxRecDepth 100000 in
set_option maxHeartbeats 8000000 in
theorem ritem_any (b : List UInt8) (s : Rs) (g : Nat) (w0 w : World) (hR : Rx w g b s) (hs : s.1 ≤ b.length) (hbl : b.length ≤ 4611686018427387904) (hB : Below w0.heap.size w0 w) (hg : w0.heap.size ≤ g) (hT : TB w0) (hE : EG w0) :
    Calls Tryz.prog 80 #[.pointer (some ⟨g, 0, none⟩)] w fun e w' => ∃ a c, e = .returned (.agg (ic (itF b s).1 a c).toArray) ∧ Ow w.heap.size w' (.slice a (itF b s).1.l.length c) (itF b s).1.l ∧ RP g b (itF b s).2 w w' := by
  have b1 := (Below.refl w.heap.size w).alloc (Nat.le_refl _) (.cells zI 53)
  have hgl := hR.lt
  have e2 := heap_alloc_new w (.cells zI 53)
  have hv1 := value_any b sKey s g w0 _ (hR.later b1) hs hbl (hB.trans (b1.mono hB.size)) hT
  have hn1 := fun W h1 h2 h3 => number_any b sSeq (valF b sKey s).2 g w0 W h1 h2 hbl h3 hg hT hE
  go_enter Tryz.func80, Tryz.ntmps80
  go_wp2_with fail
  refine Calls.mono hv1 ?_
  rintro e W2 ⟨rfl, r2⟩
  dsimp only
  have hB2 := r2.bel (hB.trans (b1.mono hB.size)) hg
  have hn1 := hn1 W2 r2.rx (valFle hs) hB2
  go_wp2_with fail
  refine Calls.mono hn1 ?_
  rintro e W3 ⟨rfl, r3⟩
  dsimp only
  have lt2 : w.heap.size < W3.heap.size := by have := r2.oth.size; have := r3.oth.size; have := lt_of_block e2; omega
  have o3 : Oth (fun y => y = g) w W3 := (Oth.of_below b1).trans (r2.oth.trans r3.oth)
  have e3 : W3.heap[w.heap.size]? = some (.cells zI 53 (0, 0)) := by
    rw [r3.oth.block _ (by have := r2.oth.size; have := lt_of_block e2; omega) (by omega), r2.oth.block _ (lt_of_block e2) (by omega)]; exact e2
  have s1 := run_stI W3 (it0 (valF b sKey s).1 (numF b sSeq (valF b sKey s).2).1) none 0
  have b4 := (Below.refl W3.heap.size W3).alloc (Nat.le_refl _) (.cells (ic (it0 (valF b sKey s).1 (numF b sSeq (valF b sKey s).2).1) none 0).toArray 53)
  have hBi := Bi.new W3 (it0 (valF b sKey s).1 (numF b sSeq (valF b sKey s).2).1) none 0
  have K4 : IK b g w w.heap.size W3.heap.size (W3.alloc (.cells (ic (it0 (valF b sKey s).1 (numF b sSeq (valF b sKey s).2).1) none 0).toArray 53)) (numF b sSeq (valF b sKey s).2).2 (it0 (valF b sKey s).1 (numF b sSeq (valF b sKey s).2).1) none 0 :=
    ⟨r3.rx.later b4, numFle (valFle hs), o3.then b4 o3.size, ⟨_, by rw [b4.block _ lt2]; exact e3, rfl⟩, hBi, hgl, Nat.le_refl _, lt2⟩
  rw [it0_cells] at s1 K4
  have hit : itF b s = (if (valF b sType (numF b sSeq (valF b sKey s).2).2).1 = sMarker then
      (⟨(valF b sKey s).1, (numF b sSeq (valF b sKey s).2).1, true, 0, [], cut32 (pz (valF b sLeaf (valF b sType (numF b sSeq (valF b sKey s).2).2).2).1)⟩, (valF b sLeaf (valF b sType (numF b sSeq (valF b sKey s).2).2).2).2)
    else
      (⟨(valF b sKey s).1, (numF b sSeq (valF b sKey s).2).1, false, (numF b sSize (valF b sType (numF b sSeq (valF b sKey s).2).2).2).1, (prs2F b (numF b sSize (valF b sType (numF b sSeq (valF b sKey s).2).2).2).2).1, cut32 (pz (valF b sLeaf (prs2F b (numF b sSize (valF b sType (numF b sSeq (valF b sKey s).2).2).2).2).2).1)⟩, (valF b sLeaf (prs2F b (numF b sSize (valF b sType (numF b sSeq (valF b sKey s).2).2).2).2).2).2)) := rfl
  have HI := Hid.mk hit
  clear hit hv1 hn1 e2 e3 o3 b4 hBi r2 r3 hB2 b1 hs
  generalize (valF b sKey s).1 = k1 at *
  generalize (numF b sSeq (valF b sKey s).2).1 = q1 at *
  generalize (numF b sSeq (valF b sKey s).2).2 = s2 at *
  have HB := Hid.mk hB
  clear hB hR
  go_wp2_with fail
  generalize W3.alloc (.cells _ 53) = W4 at K4 ⊢
  generalize W3.heap.size = r3 at *
  have hv2 := value_any b sType s2 g w0 W4 K4.rx K4.le hbl (K4.bel HB.out hg) hT
  clear s1
  refine Calls.mono hv2 ?_
  rintro e W5 ⟨rfl, p5⟩
  dsimp only
  have K5 := K4.step p5 (valFle K4.le)
  clear hv2 p5 K4
  have m0 := K5.bi.cells.2.2.1
  have m1 := K5.bi.fz 2
  by_cases ht : (valF b sType s2).1 = sMarker
  · have d1 : ((valF b sType s2).1 == [109, 97, 114, 107, 101, 114]) = true := by rw [ht]; rfl
    rw [if_pos ht] at HI
    have K6 := K5.set (K5.bi.setm true)
    have m2 := K6.bi.cells.2.2.1
    clear ht K5
    generalize (valF b sType s2).1 = tv at *
    generalize (valF b sType s2).2 = s3 at *
    go_wp2_with fail
    have HLT : Hid (g < (W5.setCell ⟨r3, 2, none⟩ (.bool true)).heap.size ∧ w.heap.size < (W5.setCell ⟨r3, 2, none⟩ (.bool true)).heap.size ∧ r3 < (W5.setCell ⟨r3, 2, none⟩ (.bool true)).heap.size) := ⟨by have := K6.rx.lt; have := K6.bi.lt; have := K6.lt; omega⟩
    have HO : Ow (W5.setCell ⟨r3, 2, none⟩ (.bool true)).heap.size (W5.setCell ⟨r3, 2, none⟩ (.bool true)) (.slice none ([] : List En).length 0) [] := Ow.nil _ _ (Nat.le_refl _)
    generalize W5.setCell ⟨r3, 2, none⟩ (.bool true) = W6 at *
    have hv7 := value_any b sLeaf s3 g w0 _ K6.rx K6.le hbl (K6.bel HB.out hg) hT
    refine Calls.mono hv7 ?_
    rintro e W7 ⟨rfl, p7⟩
    dsimp only
    have K7 := K6.step p7 (valFle K6.le)
    have HO7 := Hid.mk (Ow.keep HO p7.oth.size (fun k hk hkl => p7.oth.block k hkl (by have := HLT.out; omega)))
    have hsz7 := Hid.mk p7.oth.size
    have hp7 := parse_any2 (valF b sLeaf s3).1 valFlen W7
    generalize (valF b sLeaf s3).1 = lv at *
    generalize (valF b sLeaf s3).2 = s9 at *
    clear hv7 p7 K6
    go_wp2_with fail
    refine Calls.mono hp7 ?_
    rintro e W8 ⟨t8, rfl, b8⟩
    dsimp only
    have K8 := K7.step ⟨K7.rx.later b8, Oth.of_below b8⟩ K7.le
    have HO8 := Hid.mk (HO7.out.later b8)
    have st8 := run_stH K8.bi (cut32 (pz lv))
    have K9 : IK b g w w.heap.size r3 (W8.setCells r3 5 (hv (cut32 (pz lv)))) s9 ⟨k1, q1, true, 0, [], cut32 (pz lv)⟩ none 0 := K8.hash (cut32 (pz lv))
    have l9 := run_ldI (Bi.range K9.bi)
    obtain ⟨C9, e9, hC9⟩ := K9.g2
    have st9 := run_stI2 e9 hC9 (⟨k1, q1, true, 0, [], cut32 (pz lv)⟩ : It) none 0
    have B10 := Bi.setI e9 hC9 (⟨k1, q1, true, 0, [], cut32 (pz lv)⟩ : It) none 0
    have HF : Hid (Ow w.heap.size ((W8.setCells r3 5 (hv (cut32 (pz lv)))).setCells w.heap.size 0 (ic (⟨k1, q1, true, 0, [], cut32 (pz lv)⟩ : It) none 0)) (.slice none ((⟨k1, q1, true, 0, [], fun _ => 0⟩ : It) : It).l.length 0) ((⟨k1, q1, true, 0, [], fun _ => 0⟩ : It) : It).l ∧ RP g b s9 w ((W8.setCells r3 5 (hv (cut32 (pz lv)))).setCells w.heap.size 0 (ic (⟨k1, q1, true, 0, [], cut32 (pz lv)⟩ : It) none 0))) := ⟨(HO8.out.keep (by rw [szs, szs]; exact Nat.le_refl _) (fun k hk hkl => by rw [hsos (by have := HLT.out; omega), hsos (by have := HLT.out; omega)])).base (by have := HLT.out; omega), by unfold Rx; rw [hsos (by omega)]; exact K9.rx, K9.oth.sets (Nat.le_refl _) _ _⟩
    clear K7 K8 K9 hp7 b8 e9 hC9
    go_wp2_with fail
    refine bodyPost_ret (results_cell_row Tryz.results80 _ _ w.heap.size 53 _ (0, 0) _ rfl B10 Tryz.underlying53 rfl (by rw [List.size_toArray, ic_length]; exact infoI)) rfl ?_
    exact ⟨none, 0, by rw [HI.out], by rw [HI.out]; exact HF.out.1, by rw [HI.out]; exact HF.out.2⟩
  · have d1 : ((valF b sType s2).1 == [109, 97, 114, 107, 101, 114]) = false := beq_eq_false_iff_ne.2 ht
    rw [if_neg ht] at HI
    have K6 := K5.set (K5.bi.setm false)
    have m2 := K6.bi.cells.2.2.1
    clear ht K5
    generalize (valF b sType s2).1 = tv at *
    generalize (valF b sType s2).2 = s3 at *
    go_wp2_with fail
    generalize W5.setCell ⟨r3, 2, none⟩ (.bool false) = W6 at *
    have hn6 := number_any b sSize s3 g w0 W6 K6.rx K6.le hbl (K6.bel HB.out hg) hg hT hE
    refine Calls.mono hn6 ?_
    rintro e V7 ⟨rfl, p7⟩
    dsimp only
    have L7 := K6.step p7 (numFle K6.le)
    generalize (numF b sSize s3).1 = z1 at *
    generalize (numF b sSize s3).2 = s4 at *
    have m3 := L7.bi.cells.2.2.2.1
    have m4 := L7.bi.fz 3
    have L8 := L7.set (L7.bi.setz z1)
    clear hn6 p7 K6 L7 m2
    go_wp2_with fail
    generalize V7.setCell ⟨r3, 3, none⟩ (.int .i64 z1) = V8 at *
    have hp8 := pairs_any b s4 g w0 V8 L8.rx L8.le hbl (L8.bel HB.out hg) hg hT
    refine Calls.mono hp8 ?_
    rintro e V9 ⟨v9, rfl, ow9, p9⟩
    dsimp only
    obtain ⟨va, vc, rfl, _⟩ := ow9.sl
    have L9 := L8.step p9 (prs2Fle L8.le)
    have hr38 : r3 < V8.heap.size := L8.bi.lt
    have hw8 : w.heap.size < V8.heap.size := by have := L8.lt; omega
    have hg8 : g < V8.heap.size := L8.rx.lt
    generalize (prs2F b s4).1 = pl at *
    generalize (prs2F b s4).2 = s5 at *
    have m5 := L9.bi.cells.2.2.2.2
    have m6 := L9.bi.fz 4
    have L10 := L9.set (L9.bi.setl pl va vc)
    have HO := (ow9.keep (w' := V9.setCell ⟨r3, 4, none⟩ (.slice va pl.length vc)) (by simp) (fun k hk hkl => by rw [hso _ _ (by omega)]))
    have HLT : Hid (g < V8.heap.size ∧ w.heap.size < V8.heap.size ∧ r3 < V8.heap.size) := ⟨hg8, hw8, hr38⟩
    clear hp8 p9 L8 L9 ow9 hr38 hw8 hg8
    go_wp2_with fail
    generalize V9.setCell ⟨r3, 4, none⟩ (.slice va pl.length vc) = W6 at *
    have hv7 := value_any b sLeaf s5 g w0 _ L10.rx L10.le hbl (L10.bel HB.out hg) hT
    refine Calls.mono hv7 ?_
    rintro e W7 ⟨rfl, p7⟩
    dsimp only
    have K7 := L10.step p7 (valFle L10.le)
    have HO7 := Hid.mk (Ow.keep HO p7.oth.size (fun k hk hkl => p7.oth.block k hkl (by have := HLT.out; omega)))
    have hsz7 := Hid.mk p7.oth.size
    have hp7 := parse_any2 (valF b sLeaf s5).1 valFlen W7
    generalize (valF b sLeaf s5).1 = lv at *
    generalize (valF b sLeaf s5).2 = s9 at *
    clear hv7 p7 L10
    go_wp2_with fail
    refine Calls.mono hp7 ?_
    rintro e W8 ⟨t8, rfl, b8⟩
    dsimp only
    have K8 := K7.step ⟨K7.rx.later b8, Oth.of_below b8⟩ K7.le
    have HO8 := Hid.mk (HO7.out.later b8)
    have st8 := run_stH K8.bi (cut32 (pz lv))
    have K9 : IK b g w w.heap.size r3 (W8.setCells r3 5 (hv (cut32 (pz lv)))) s9 ⟨k1, q1, false, z1, pl, cut32 (pz lv)⟩ va vc := K8.hash (cut32 (pz lv))
    have l9 := run_ldI (Bi.range K9.bi)
    obtain ⟨C9, e9, hC9⟩ := K9.g2
    have st9 := run_stI2 e9 hC9 (⟨k1, q1, false, z1, pl, cut32 (pz lv)⟩ : It) va vc
    have B10 := Bi.setI e9 hC9 (⟨k1, q1, false, z1, pl, cut32 (pz lv)⟩ : It) va vc
    have HF : Hid (Ow w.heap.size ((W8.setCells r3 5 (hv (cut32 (pz lv)))).setCells w.heap.size 0 (ic (⟨k1, q1, false, z1, pl, cut32 (pz lv)⟩ : It) va vc)) (.slice va ((⟨k1, q1, false, z1, pl, fun _ => 0⟩ : It) : It).l.length vc) ((⟨k1, q1, false, z1, pl, fun _ => 0⟩ : It) : It).l ∧ RP g b s9 w ((W8.setCells r3 5 (hv (cut32 (pz lv)))).setCells w.heap.size 0 (ic (⟨k1, q1, false, z1, pl, cut32 (pz lv)⟩ : It) va vc))) := ⟨(HO8.out.keep (by rw [szs, szs]; exact Nat.le_refl _) (fun k hk hkl => by rw [hsos (by have := HLT.out; omega), hsos (by have := HLT.out; omega)])).base (by have := HLT.out; omega), by unfold Rx; rw [hsos (by omega)]; exact K9.rx, K9.oth.sets (Nat.le_refl _) _ _⟩
    clear K7 K8 K9 hp7 b8 e9 hC9
    go_wp2_with fail
    refine bodyPost_ret (results_cell_row Tryz.results80 _ _ w.heap.size 53 _ (0, 0) _ rfl B10 Tryz.underlying53 rfl (by rw [List.size_toArray, ic_length]; exact infoI)) rfl ?_
    exact ⟨va, vc, by rw [HI.out], by rw [HI.out]; exact HF.out.1, by rw [HI.out]; exact HF.out.2⟩
end Go.Proofs.YtbiponnchppndaaGreatDoor
