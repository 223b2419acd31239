import Derived.Test.YtgbkloihclbimaaDoorXd
import Derived.Deep.MidRow
import Derived.Deep.WholeRow
/- Layer 22: the reader of a line's words. -/
namespace Go.Proofs.YtgbkloihclbimaaDoor
set_option maxRecDepth 100000
set_option linter.unusedVariables false
set_option linter.unusedSimpArgs false
open Go.RowKit
attribute [local go_sem ↓] Go.wp_at_zero Go.wp_at_succ sl9 ix9
abbrev Bs := Nat → Prop
/-- a world that differs from another in these blocks alone, and in new ones -/
structure Oth (X : Bs) (W W' : World) : Prop where
  os : W'.os = W.os
  tape : W'.tape = W.tape
  output : W'.output = W.output
  size : W.heap.size ≤ W'.heap.size
  block : ∀ b, b < W.heap.size → ¬ X b → W'.heap[b]? = W.heap[b]?
theorem Oth.of_below {X : Bs} {W W' : World} (h : Below W.heap.size W W') : Oth X W W' := ⟨h.os, h.tape, h.output, h.size, fun b hb _ => h.block b hb⟩
theorem Oth.refl (X : Bs) (W : World) : Oth X W W := Oth.of_below (Below.refl _ _)
theorem Oth.trans {X : Bs} {w w1 w2 : World} (h : Oth X w w1) (h2 : Oth X w1 w2) : Oth X w w2 :=
  ⟨h2.os.trans h.os, h2.tape.trans h.tape, h2.output.trans h.output, Nat.le_trans h.size h2.size, fun k hk hn => (h2.block k (Nat.lt_of_lt_of_le hk h.size) hn).trans (h.block k hk hn)⟩
theorem Oth.mono {X Y : Bs} {w w1 : World} (h : Oth X w w1) (hx : ∀ b, X b → Y b) : Oth Y w w1 := ⟨h.os, h.tape, h.output, h.size, fun k hk hn => h.block k hk (fun q => hn (hx k q))⟩
theorem Oth.then {X : Bs} {w w' w2 : World} (h : Oth X w w') {B : Nat} (hb : Below B w' w2) (hB : w.heap.size ≤ B) : Oth X w w2 :=
  ⟨hb.os.trans h.os, hb.tape.trans h.tape, hb.output.trans h.output, Nat.le_trans h.size hb.size, fun k hk hn => (hb.block k (by omega)).trans (h.block k hk hn)⟩
theorem hso (w : World) (p : Addr) {v : Value} {k : Nat} (h : k ≠ p.block) : (w.setCell p v).heap[k]? = w.heap[k]? := Below.heap_setCell _ _ _ _ h
theorem Oth.set {X : Bs} {w w' : World} {g j : Nat} {v : Value} (h : Oth X w w') (hg : X g) : Oth X w (w'.setCell ⟨g, j, none⟩ v) :=
  ⟨h.os, h.tape, h.output, by simpa using h.size, fun k hk hn => by rw [hso _ _ (fun (e : k = g) => hn (e ▸ hg))]; exact h.block k hk hn⟩
theorem Oth.bel {X : Bs} {w0 w w' : World} (h : Oth X w w') (hb : Below w0.heap.size w0 w) (hg : ∀ b, X b → w0.heap.size ≤ b) : Below w0.heap.size w0 w' :=
  hb.trans ⟨h.os, h.tape, h.output, h.size, fun k hk => h.block k (by have := hb.size; omega) (fun q => by have := hg k q; omega)⟩
theorem Oth.cell {X : Bs} {w w' : World} (h : Oth X w w') {p : Addr} {v : Value} (hp : ¬ X p.block) (hc : w.cell? p = some v) : w'.cell? p = some v := by
  have hlt := block_lt_of_cell hc
  rw [← hc]
  exact World.cell?_of_block (w := w) (h.block p.block hlt hp)
noncomputable def slT (v : Value) (a b c : Option Value) : Sem Value := Instr.slice 59 v a b c
theorem slTe (v : Value) (a b c : Option Value) : Instr.slice 59 v a b c = slT v a b c := rfl
theorem run_slT (ad : Addr) (len cap : Nat) (h1 : 1 ≤ len) (h2 : len ≤ cap) (h3 : cap ≤ 9223372036854775807) : ∃ a', (∀ w, (slT (.slice (some ad) len cap) (some (.int .i64 1)) none none).run Tryd.prog w = .ok (.slice a' (len - 1) (cap - 1)) w) ∧ (1 < len → a' = some (ad.add 1)) := by
  obtain ⟨i0, hi0, hz0, hz1, hz2⟩ := info9
  have c : ¬ ((len : Int) < (1 : Int)) := by omega
  have c2 : ¬ ((cap : Int) < (len : Int)) := by omega
  by_cases h : cap - 1 = 0
  · refine ⟨some ad, fun w => ?_, fun q => by omega⟩
    obtain rfl : cap = 1 := by omega
    obtain rfl : len = 1 := by omega
    unfold slT
    simp [Instr.slice, Tryd.underlying59, go_sem, hi0, hz1, sizeOf, typeInfo]
  · have h' : cap ≠ 1 := by omega
    refine ⟨some (ad.add 1), fun w => ?_, fun _ => rfl⟩
    unfold slT
    simp [Instr.slice, Tryd.underlying59, go_sem, h, h', h1, c, c2, hi0, hz1, sizeOf, typeInfo]
/-- the words that a slice holds, in blocks below M -/
def TW (w : World) (M : Nat) (a : Option Addr) (ws : List By) : Prop := ∀ k t, ws[k]? = some t → ∃ b off, a = some ⟨b, off, none⟩ ∧ b < M ∧ w.cell? ⟨b, off + k, none⟩ = some (str t)
/-- a reader's box -/
structure Rx (w : World) (M g : Nat) (r : Rr) (a : Option Addr) (c : Nat) : Prop where
  box : w.heap[g]? = some (.cells #[.slice a r.1.length c, .bool r.2] 86 (0, 0))
  tw : TW w M a r.1
  ge : M ≤ g
  le : r.1.length ≤ c
  mx : c ≤ 9223372036854775807
  sm : ∀ t ∈ r.1, t.length ≤ 1000000000
theorem Rx.cells {w : World} {M g : Nat} {r : Rr} {a : Option Addr} {c : Nat} (h : Rx w M g r a c) : w.cell? ⟨g, 0, none⟩ = some (.slice a r.1.length c) ∧ w.cell? ⟨g, 1, none⟩ = some (.bool r.2) ∧ ∀ j, w.frozen? ⟨g, j, none⟩ = false := by
  refine ⟨by rw [cell_of_row _ _ _ _ _ _ h.box]; rfl, by rw [cell_of_row _ _ _ _ _ _ h.box]; rfl, fun j => ?_⟩
  exact frozen_of_row _ _ _ _ _ h.box
theorem Rx.lt {w : World} {M g : Nat} {r : Rr} {a : Option Addr} {c : Nat} (h : Rx w M g r a c) : g < w.heap.size := lt_of_block h.box
theorem Rx.oth {w w' : World} {M g : Nat} {r : Rr} {a : Option Addr} {c : Nat} {X : Bs} (h : Rx w M g r a c) (ho : Oth X w w') (hX : ∀ b, X b → M ≤ b) (hg : ¬ X g) : Rx w' M g r a c := by
  refine ⟨(ho.block g h.lt hg).trans h.box, fun k t hk => ?_, h.ge, h.le, h.mx, h.sm⟩
  obtain ⟨b, off, e, hb, hc⟩ := h.tw k t hk
  exact ⟨b, off, e, hb, ho.cell (p := ⟨b, off + k, none⟩) (fun q => by have := hX b q; omega) hc⟩
theorem Rx.later {w w' : World} {M g : Nat} {r : Rr} {a : Option Addr} {c : Nat} (h : Rx w M g r a c) (hb : Below w.heap.size w w') : Rx w' M g r a c := h.oth (X := fun _ => False) (Oth.of_below hb) (fun _ q => q.elim) (fun q => q)
theorem hasMore_any (M g : Nat) (r : Rr) (a : Option Addr) (c : Nat) (w : World) (hR : Rx w M g r a c) : Calls Tryd.prog 40 #[.pointer (some ⟨g, 0, none⟩)] w fun e w' => e = .returned (.bool (decide (0 < r.1.length))) ∧ w' = w := by
  obtain ⟨c0, c1, cf⟩ := hR.cells
  have d1 : decide ((r.1.length : Int) > 0) = decide (0 < r.1.length) := by simp
  have d2 : decide (0 < (r.1.length : Int)) = decide (0 < r.1.length) := by simp
  go_enter Tryd.func40, Tryd.ntmps40
  go_wp2_with fail
  go_ret
  refine ⟨?_, rfl⟩
  simp
/-- a call of the reader's: its box, and what else lies as it lay -/
structure RP (M g : Nat) (r : Rr) (w w' : World) : Prop where
  rx : ∃ a c, Rx w' M g r a c
  oth : Oth (fun x => x = g) w w'
attribute [local go_sem ↓] slTe
theorem next_any (M g : Nat) (r : Rr) (a : Option Addr) (c : Nat) (w : World) (hR : Rx w M g r a c) : Calls Tryd.prog 65 #[.pointer (some ⟨g, 0, none⟩)] w fun e w' => e = .returned (str (nxtW r.1)) ∧ RP M g (r.1.tail, r.2) w w' := by
  have hm := hasMore_any M g r a c w hR
  obtain ⟨c0, c1, cf⟩ := hR.cells
  obtain ⟨ws, bad⟩ := r
  dsimp only at *
  cases ws with
  | nil =>
    go_enter Tryd.func65, Tryd.ntmps65
    go_wp2_with fail
    with_reducible refine Calls.mono hm ?_
    rintro e w1 ⟨rfl, rfl⟩
    dsimp only
    go_wp2_with fail
    go_ret
    exact ⟨rfl, ⟨a, c, hR⟩, Oth.refl _ _⟩
  | cons t ws =>
    obtain ⟨b, off, rfl, hb, hc⟩ := hR.tw 0 t rfl
    have hc : w.cell? ⟨b, off, none⟩ = some (str t) := hc
    obtain ⟨a', hsl, ha'⟩ := run_slT ⟨b, off, none⟩ (t :: ws).length c (by simp) hR.le hR.mx
    have hf0 := cf 0
    have HR := Hid.mk hR
    clear hR cf
    have hd : decide (0 < (t :: ws).length) = true := rfl
    rw [hd] at hm
    have HF : Hid (RP M g (ws, bad) w (w.setCell ⟨g, 0, none⟩ (.slice a' ws.length (c - 1)))) := ⟨⟨a', c - 1, by
      have h1 := HR.out
      have hg : w.heap[g]? = some (.cells #[.slice (some ⟨b, off, none⟩) (t :: ws).length c, .bool bad] 86 (0, 0)) := h1.box
      refine ⟨by rw [heap_setCell_same _ _ _ _ _ _ hg]; rfl, fun k u hk => ?_, h1.ge, by have := h1.le; simp at this ⊢; omega, by have := h1.mx; omega, fun u hu => h1.sm u (by simp [hu])⟩
      have hk1 : k < ws.length := (List.getElem?_eq_some_iff.1 hk).1
      obtain ⟨b2, off2, e2, hb2, hc2⟩ := h1.tw (k + 1) u (by simpa using hk)
      injection e2 with e2; injection e2 with e3 e4
      subst e3 e4
      refine ⟨b, off + 1, ?_, hb2, ?_⟩
      · rw [ha' (by simp; omega), addr_add]
      · rw [World.cell?_of_block (w := w) (a := ⟨b, off + 1 + k, none⟩) (hso w ⟨g, 0, none⟩ (k := b) (fun (e : b = g) => by have := h1.ge; omega)), show off + 1 + k = off + (k + 1) by omega]
        exact hc2⟩, (Oth.refl _ _).set rfl⟩
    clear ha'
    generalize hL : (t :: ws).length = L at *
    have hL1 : L - 1 = ws.length := by rw [← hL]; simp
    rw [hL1] at hsl
    have hLp : (0 : Int) < (L : Int) := by rw [← hL]; simp
    clear hL hL1
    go_enter Tryd.func65, Tryd.ntmps65
    go_wp2_with fail
    with_reducible refine Calls.mono hm ?_
    rintro e w1 ⟨rfl, rfl⟩
    dsimp only
    go_wp2_with fail
    go_ret
    exact ⟨rfl, HF.out⟩
theorem nxt_sm {ws : List By} (h : ∀ t ∈ ws, t.length ≤ 1000000000) : (nxtW ws).length ≤ 1000000000 := by
  cases ws with
  | nil => simp [nxtW]
  | cons t ws => exact h t (by simp)
theorem Rx.bad {w : World} {M g : Nat} {r : Rr} {a : Option Addr} {c : Nat} (h : Rx w M g r a c) (b : Bool) : Rx (w.setCell ⟨g, 1, none⟩ (.bool b)) M g (r.1, b) a c := by
  refine ⟨by rw [heap_setCell_same _ _ _ _ _ _ h.box]; rfl, fun k t hk => ?_, h.ge, h.le, h.mx, h.sm⟩
  obtain ⟨b2, off2, e2, hb2, hc2⟩ := h.tw k t hk
  exact ⟨b2, off2, e2, hb2, by rw [World.cell?_of_block (w := w) (a := ⟨b2, off2 + k, none⟩) (hso w ⟨g, 1, none⟩ (k := b2) (fun (e : b2 = g) => by have := h.ge; omega))]; exact hc2⟩
theorem rnumber_any (M g : Nat) (r : Rr) (a : Option Addr) (c : Nat) (w0 w : World) (hR : Rx w M g r a c) (hB : Below w0.heap.size w0 w) (hg : w0.heap.size ≤ g) (hT : TB w0) (hE : EG w0) : Calls Tryd.prog 52 #[.pointer (some ⟨g, 0, none⟩)] w fun e w' => e = .returned (.int .i64 (rnum r).1) ∧ RP M g (rnum r).2 w w' := by
  have hn := next_any M g r a c w hR
  have hsm := nxt_sm hR.sm
  unfold rnum
  dsimp only
  have hno := fun w1 t e => numberOf_any (nxtW r.1) hsm w1 t e
  generalize (numO (nxtW r.1)).getD 0 = n at *
  rw [show (numO (nxtW r.1)).isNone = !(numO (nxtW r.1)).isSome by cases numO (nxtW r.1) <;> rfl]
  generalize (numO (nxtW r.1)).isSome = bo at *
  go_enter Tryd.func52, Tryd.ntmps52
  go_wp2_with fail
  with_reducible refine Calls.mono hn ?_
  rintro e w1 ⟨rfl, r1⟩
  dsimp only
  have hB1 := r1.oth.bel hB (fun b e => by rw [e]; exact hg)
  have hno := hno w1 (hT.below hB1) (hE.below hB1)
  obtain ⟨a1, c1, x1⟩ := r1.rx
  go_wp2_with fail
  with_reducible refine Calls.mono hno ?_
  rintro e w2 ⟨rfl, b2⟩
  dsimp only
  have x2 := x1.later b2
  obtain ⟨q0, q1, qf⟩ := x2.cells
  have qf1 := qf 1
  have HF : ∀ b : Bool, Hid (RP M g (r.1.tail, b) w (w2.setCell ⟨g, 1, none⟩ (.bool b))) := fun b => ⟨⟨_, _, x2.bad b⟩, (r1.oth.trans (Oth.of_below b2)).set rfl⟩
  clear hR hn x1 x2 r1 qf
  dsimp only at q1
  cases hb : r.2 with
  | true =>
    rw [hb] at q1
    have H := HF true
    go_wp2_with fail
    go_ret
    exact ⟨rfl, H.out⟩
  | false =>
    rw [hb] at q1
    have H := HF (!bo)
    go_wp2_with fail
    go_ret
    exact ⟨rfl, H.out⟩
theorem rtext_any (M g : Nat) (r : Rr) (a : Option Addr) (c : Nat) (w : World) (hR : Rx w M g r a c) : Calls Tryd.prog 53 #[.pointer (some ⟨g, 0, none⟩)] w fun e w' => e = .returned (str (rtxt r).1) ∧ RP M g (rtxt r).2 w w' := by
  have hn := next_any M g r a c w hR
  have hsm := nxt_sm hR.sm
  unfold rtxt
  dsimp only
  have hno := fun w1 => textOf_any (nxtW r.1) hsm w1
  generalize (txtO (nxtW r.1)).getD [] = n at *
  rw [show (txtO (nxtW r.1)).isNone = !(txtO (nxtW r.1)).isSome by cases txtO (nxtW r.1) <;> rfl]
  generalize (txtO (nxtW r.1)).isSome = bo at *
  go_enter Tryd.func53, Tryd.ntmps53
  go_wp2_with fail
  with_reducible refine Calls.mono hn ?_
  rintro e w1 ⟨rfl, r1⟩
  dsimp only
  have hno := hno w1
  obtain ⟨a1, c1, x1⟩ := r1.rx
  go_wp2_with fail
  with_reducible refine Calls.mono hno ?_
  rintro e w2 ⟨rfl, b2⟩
  dsimp only
  have x2 := x1.later b2
  obtain ⟨q0, q1, qf⟩ := x2.cells
  have qf1 := qf 1
  have HF : ∀ b : Bool, Hid (RP M g (r.1.tail, b) w (w2.setCell ⟨g, 1, none⟩ (.bool b))) := fun b => ⟨⟨_, _, x2.bad b⟩, (r1.oth.trans (Oth.of_below b2)).set rfl⟩
  clear hR hn x1 x2 r1 qf
  dsimp only at q1
  cases hb : r.2 with
  | true =>
    rw [hb] at q1
    have H := HF true
    go_wp2_with fail
    go_ret
    exact ⟨rfl, H.out⟩
  | false =>
    rw [hb] at q1
    have H := HF (!bo)
    go_wp2_with fail
    go_ret
    exact ⟨rfl, H.out⟩
end Go.Proofs.YtgbkloihclbimaaDoor

/- Layer 22: the table of the lines' shapes. -/
namespace Go.Proofs.YtgbkloihclbimaaDoor
set_option maxRecDepth 100000
set_option linter.unusedVariables false
set_option linter.unusedSimpArgs false
open Go.RowKit
attribute [local go_sem ↓] Go.wp_at_zero Go.wp_at_succ
def scs (s : Shp) : List Value := [str s.name, .int .i64 s.kind, .int .i64 s.step, str s.parts]
def shCells : List Value := shps.flatMap scs
theorem shCells_len : shCells.length = 88 := rfl
/-- the table lies where the program's variable lies -/
def SG (w : World) : Prop := w.rangeAt 0 0 shCells
theorem SG.lt {w : World} (h : SG w) : 0 < w.heap.size := block_lt_of_cell (h 0 _ rfl)
theorem SG.below {w w' : World} (h : SG w) (b : Below w.heap.size w w') : SG w' := fun j v hv => by
  rw [b.cell (p := ⟨0, 0 + j, none⟩) h.lt]; exact h j v hv
theorem infoSh : (Tryd.prog.info? 71).map (·.size) = some 88 := by kernel_rfl
noncomputable def ldA (v : Value) : Sem Value := Instr.loadAt 71 v
theorem ldAe (v : Value) : Instr.loadAt 71 v = ldA v := rfl
noncomputable def ixA (v i : Value) : Sem Value := Instr.index 71 v i
theorem ixAe (v i : Value) : Instr.index 71 v i = ixA v i := rfl
def SHv : Value := .agg shCells.toArray
theorem run_ldA {w : World} (h : SG w) : (ldA (.pointer (some ⟨0, 0, none⟩))).run Tryd.prog w = .ok SHv w := by
  unfold ldA
  exact run_loadAt_mid (P := Tryd.prog) w 0 0 71 shCells _ h Tryd.underlying71 rfl (by rw [shCells_len]; exact infoSh)
def shAt (k : Nat) : Shp := shps.getD k ⟨[], 0, 0, []⟩
theorem sh_at : ∀ (l : List Shp) (k : Nat), k < l.length → ((l.flatMap scs).drop (k * 4)).take 4 = scs (l.getD k ⟨[], 0, 0, []⟩)
  | [], k, h => by simp at h
  | s :: l, 0, _ => by simp [scs]
  | s :: l, k + 1, h => by
    have ih := sh_at l k (by simpa using h)
    rw [List.flatMap_cons, show (k + 1) * 4 = (scs s).length + k * 4 by simp [scs]; omega, List.drop_append, List.drop_of_length_le (by simp [scs])]
    simpa using ih
theorem run_ixA (k : Nat) (hk : k < 22) (w : World) : (ixA SHv (.int .i64 (k : Int))).run Tryd.prog w = .ok (.agg #[str (shAt k).name, .int .i64 (shAt k).kind, .int .i64 (shAt k).step, str (shAt k).parts]) w := by
  have h := sh_at shps k hk
  have h2 : (k : Int) < 22 := by omega
  unfold ixA SHv
  simp [Instr.index, Tryd.underlying71, go_sem, h2]
  rw [if_pos hk]
  unfold shCells
  rw [h]
  rfl
theorem shAt_get {k : Nat} (h : k < 22) : shps[k]? = some (shAt k) := by
  unfold shAt
  rw [List.getD_eq_getElem?_getD, List.getElem?_eq_getElem h]; rfl
theorem find_yes {p : Shp → Bool} {k : Nat} (hk : k < 22) (h : p (shAt k) = true) (hn : ∀ j, j < k → p (shAt j) = false) : shps.find? p = some (shAt k) := by
  rw [List.find?_eq_some_iff_getElem]
  refine ⟨h, k, hk, ?_, fun j hj => ?_⟩
  · have := shAt_get hk
    rw [List.getElem?_eq_getElem hk] at this
    exact Option.some.inj this
  · have hj2 : j < 22 := Nat.lt_trans hj hk
    have := shAt_get hj2
    rw [List.getElem?_eq_getElem hj2] at this
    exact (congrArg (fun s => !p s) (Option.some.inj this)).trans (by show (!p (shAt j)) = true; rw [hn j hj]; rfl)
theorem find_no {p : Shp → Bool} (hn : ∀ j, j < 22 → p (shAt j) = false) : shps.find? p = none := by
  rw [List.find?_eq_none]
  intro x hx
  obtain ⟨j, hj, rfl⟩ := List.getElem_of_mem hx
  have := shAt_get hj
  rw [List.getElem?_eq_getElem hj] at this
  intro q
  have e : p (shAt j) = true := (congrArg p (Option.some.inj this)).symm.trans q
  rw [hn j hj] at e
  exact Bool.noConfusion e
abbrev sh0 : Shp := ⟨[], 0, 0, []⟩
abbrev shV (s : Shp) : Value := .agg #[str s.name, .int .i64 s.kind, .int .i64 s.step, str s.parts]
/-- a box with a shape -/
def Bs4 (w : World) (g : Nat) (s : Shp) : Prop := w.heap[g]? = some (.cells #[str s.name, .int .i64 s.kind, .int .i64 s.step, str s.parts] 52 (0, 0))
theorem Bs4.cells {w : World} {g : Nat} {s : Shp} (h : Bs4 w g s) : w.cell? ⟨g, 0, none⟩ = some (str s.name) ∧ w.cell? ⟨g, 1, none⟩ = some (.int .i64 s.kind) ∧ w.cell? ⟨g, 2, none⟩ = some (.int .i64 s.step) ∧ w.cell? ⟨g, 3, none⟩ = some (str s.parts) ∧ ∀ j, w.frozen? ⟨g, j, none⟩ = false := by
  refine ⟨?_, ?_, ?_, ?_, fun j => frozen_of_row _ _ _ _ _ h⟩ <;> (rw [cell_of_row _ _ _ _ _ _ h]; rfl)
def s4 (w : World) (g : Nat) (s : Shp) : World := (((w.setCell ⟨g, 0, none⟩ (str s.name)).setCell ⟨g, 1, none⟩ (.int .i64 s.kind)).setCell ⟨g, 2, none⟩ (.int .i64 s.step)).setCell ⟨g, 3, none⟩ (str s.parts)
theorem s4_eq (w : World) (g : Nat) (s : Shp) : (((w.setCell ⟨g, 0, none⟩ (str s.name)).setCell ⟨g, 1, none⟩ (.int .i64 s.kind)).setCell ⟨g, 2, none⟩ (.int .i64 s.step)).setCell ⟨g, 3, none⟩ (str s.parts) = s4 w g s := rfl
theorem Bs4.s4 {w : World} {g : Nat} {t : Shp} (h : Bs4 w g t) (s : Shp) : Bs4 (s4 w g s) g s := by
  unfold Bs4 Go.Proofs.YtgbkloihclbimaaDoor.s4
  rw [heap_setCell_same _ _ _ _ _ _ (heap_setCell_same _ _ _ _ _ _ (heap_setCell_same _ _ _ _ _ _ (heap_setCell_same _ _ _ _ _ _ h)))]
  rfl
theorem below_s4 {B : Nat} {w0 w : World} {g : Nat} (h : Below B w0 w) (hg : B ≤ g) (s : Shp) : Below B w0 (s4 w g s) := (((h.setCell (p := ⟨g, 0, none⟩) hg _).setCell (p := ⟨g, 1, none⟩) hg _).setCell (p := ⟨g, 2, none⟩) hg _).setCell (p := ⟨g, 3, none⟩) hg _
theorem results_ct {fn : Func} {p t : Tmp} {ty : TypeId} (h : fn.results = #[.cell p ty, .tmp t]) (tmps : Array Value) (P : Program) (w : World) :
    (results fn tmps).run P w = ((asAddr (tmps.getD p undef)).run P w).andThen fun a w₁ => ((loadVar ty a).run P w₁).andThen fun v w₂ => .ok (.tuple #[v, tmps.getD t undef]) w₂ := by
  simp only [results, h]
  simp [Sem.run_bind, Result.andThen]
attribute [local go_sem ↓] ldAe ixAe
set_option maxHeartbeats 1000000 in
theorem shapeNamed_any (nm : By) (w : World) (hS : SG w) : Calls Tryd.prog 38 #[str nm] w fun e w' => e = .returned (.tuple #[shV ((shpNamed nm).getD sh0), .bool (shpNamed nm).isSome]) ∧ Below w.heap.size w w' := by
  have b0 := (Below.refl w.heap.size w).alloc (Nat.le_refl _) (.cells #[.string ⟨#[]⟩, .int .i64 0, .int .i64 0, .string ⟨#[]⟩] 52)
  have z0 : Bs4 (w.alloc (.cells #[.string ⟨#[]⟩, .int .i64 0, .int .i64 0, .string ⟨#[]⟩] 52)) w.heap.size sh0 := heap_alloc_new _ _
  have hl := run_ldA (hS.below b0)
  generalize hw0 : w.alloc (.cells #[.string ⟨#[]⟩, .int .i64 0, .int .i64 0, .string ⟨#[]⟩] 52) = w0 at *
  go_enter Tryd.func38, Tryd.ntmps38
  go_wp2_with fail
  go_loopw [7] (fun i wr => ∃ k : Nat, i = .int .i64 k ∧ k ≤ 22 ∧ Hid (Below w.heap.size w wr) ∧ Hid (Bs4 wr w.heap.size sh0) ∧ Hid (∀ j, j < k → ((shAt j).name == nm) = false)) (fun i _ => 22 - (intOf i).toNat)
  case atStart => exact ⟨0, rfl, by omega, ⟨b0⟩, ⟨z0⟩, ⟨fun j hj => by omega⟩⟩
  case round =>
    clear b0 z0 hl hw0
    obtain ⟨k, rfl, hk, HB, HZ, HN⟩ := hrel
    by_cases hlt : k < 22
    · have d1 : decide ((k : Int) < 22) = true := decide_eq_true (by omega)
      have hix := run_ixA k hlt
      have HNX : Hid (((shAt k).name == nm) = false → ∀ j, j < k + 1 → ((shAt j).name == nm) = false) := ⟨fun q j hj => by
        by_cases e : j = k
        · rw [e]; exact q
        · exact HN.out j (by omega)⟩
      have HVX : Hid (((shAt k).name == nm) = true → shpNamed nm = some (shAt k)) := ⟨fun q => find_yes hlt q HN.out⟩
      generalize shAt k = t at *
      obtain ⟨wa, hwa⟩ : ∃ wa, wa = wr.alloc (.cells #[str t.name, .int .i64 t.kind, .int .i64 t.step, str t.parts] 52) := ⟨_, rfl⟩
      have ba : Below wr.heap.size wr wa := by rw [hwa]; exact (Below.refl _ _).alloc (Nat.le_refl _) _
      have ya : Bs4 wa wr.heap.size t := by rw [hwa]; exact heap_alloc_new _ _
      have za : Bs4 wa w.heap.size sh0 := by
        unfold Bs4
        rw [ba.block _ (lt_of_block HZ.out)]; exact HZ.out
      have Ba := Hid.mk (below_seq HB.out ba)
      obtain ⟨p0, p1, p2, p3, pf⟩ := ya.cells
      obtain ⟨q0, q1, q2, q3, qf⟩ := za.cells
      cases hq : (t.name == nm) with
      | true =>
        have HV := Hid.mk (HVX.out hq)
        have HS := Hid.mk (za.s4 t)
        have HBB := Hid.mk (below_s4 Ba.out (Nat.le_refl _) t)
        have f0 := qf 0
        have f1 := qf 1
        have f2 := qf 2
        have f3 := qf 3
        have hne : ¬ wr.heap.size = w.heap.size := by have := lt_of_block HZ.out; omega
        clear HNX HVX pf qf ya za ba
        subst hwa
        go_wp2_with fail
        first | rw [s4_eq _ w.heap.size t] | skip
        obtain ⟨g0, g1, g2, g3, _⟩ := HS.out.cells
        clear q0 q1 q2 q3 p0 p1 p2 p3 f0 f1 f2 f3
        generalize s4 (wr.alloc (.cells #[str t.name, .int .i64 t.kind, .int .i64 t.step, str t.parts] 52)) w.heap.size t = W9 at *
        refine bodyPost_ret (v := .tuple #[shV t, .bool true]) ?_ rfl ⟨by rw [HV.out]; rfl, HBB.out⟩
        rw [results_ct rfl]
        go_simp
      | false =>
        have HN2 := Hid.mk (HNX.out hq)
        have HZa := Hid.mk za
        clear HNX HVX pf qf ya za ba q0 q1 q2 q3
        subst hwa
        go_wp2_with fail
        go_roundw
        case rel => exact ⟨k + 1, rfl, by omega, Ba, HZa, HN2⟩
        case measure => simp [intOf]; omega
    · have d1 : decide ((k : Int) < 22) = false := decide_eq_false (by omega)
      have HV : Hid (shpNamed nm = none) := ⟨find_no fun j hj => HN.out j (by omega)⟩
      obtain ⟨q0, q1, q2, q3, qf⟩ := HZ.out.cells
      have HS := Hid.mk (HZ.out.s4 sh0)
      have HBB := Hid.mk (below_s4 HB.out (Nat.le_refl _) sh0)
      have f0 := qf 0
      have f1 := qf 1
      have f2 := qf 2
      have f3 := qf 3
      go_wp2_with fail
      first | rw [s4_eq wr w.heap.size sh0] | skip
      obtain ⟨g0, g1, g2, g3, _⟩ := HS.out.cells
      generalize s4 wr w.heap.size sh0 = W9 at *
      refine bodyPost_ret (v := .tuple #[shV sh0, .bool false]) ?_ rfl ⟨by rw [HV.out]; rfl, HBB.out⟩
      rw [results_ct rfl]
      go_simp
end Go.Proofs.YtgbkloihclbimaaDoor

/- Layer 22: the shape of a command's line. -/
namespace Go.Proofs.YtgbkloihclbimaaDoor
set_option maxRecDepth 100000
set_option linter.unusedVariables false
set_option linter.unusedSimpArgs false
open Go.RowKit
attribute [local go_sem ↓] Go.wp_at_zero Go.wp_at_succ
/-- a command's cells -/
abbrev ccs (c : Cm) (ma : Option Addr) (mc : Nat) (ka : Option Addr) (kc : Nat) : Array Value := #[.int .i64 c.kind, .int .i64 c.sectors, .int .i64 c.size, .int .i64 c.st.kind, str c.st.bucket, str c.st.key, str c.st.data, .slice ma c.st.mt.length mc, .int .i64 c.st.seq, .int .i64 c.st.n, .slice ka c.st.kept.length kc, str c.bucket]
abbrev cV (c : Cm) (ma : Option Addr) (mc : Nat) (ka : Option Addr) (kc : Nat) : Value := .agg (ccs c ma mc ka kc)
def Bc (w : World) (g : Nat) (c : Cm) (ma : Option Addr) (mc : Nat) (ka : Option Addr) (kc : Nat) : Prop := w.heap[g]? = some (.cells (ccs c ma mc ka kc) 36 (0, 0))
theorem Bc.kinds {w : World} {g : Nat} {c : Cm} {ma : Option Addr} {mc : Nat} {ka : Option Addr} {kc : Nat} (h : Bc w g c ma mc ka kc) : w.cell? ⟨g, 0, none⟩ = some (.int .i64 c.kind) ∧ w.cell? ⟨g, 3, none⟩ = some (.int .i64 c.st.kind) := by
  refine ⟨?_, ?_⟩ <;> (rw [cell_of_row _ _ _ _ _ _ h]; rfl)
attribute [local go_sem ↓] ldAe ixAe
set_option maxHeartbeats 1000000 in
theorem shapeOf_any (c : Cm) (ma : Option Addr) (mc : Nat) (ka : Option Addr) (kc : Nat) (w : World) (hS : SG w) : Calls Tryd.prog 16 #[cV c ma mc ka kc] w fun e w' => e = .returned (.tuple #[shV ((shpOf c).getD sh0), .bool (shpOf c).isSome]) ∧ Below w.heap.size w w' := by
  obtain ⟨wc, hwc⟩ : ∃ wc, wc = w.alloc (.cells (ccs c ma mc ka kc) 36) := ⟨_, rfl⟩
  have bc : Below w.heap.size w wc := by rw [hwc]; exact (Below.refl _ _).alloc (Nat.le_refl _) _
  have yc : Bc wc w.heap.size c ma mc ka kc := by rw [hwc]; exact heap_alloc_new _ _
  have hsz : wc.heap.size = w.heap.size + 1 := by rw [hwc]; simp
  have b1 := (Below.refl wc.heap.size wc).alloc (Nat.le_refl _) (.cells #[.string ⟨#[]⟩, .int .i64 0, .int .i64 0, .string ⟨#[]⟩] 52)
  have z0 : Bs4 (wc.alloc (.cells #[.string ⟨#[]⟩, .int .i64 0, .int .i64 0, .string ⟨#[]⟩] 52)) wc.heap.size sh0 := heap_alloc_new _ _
  have b0 := below_seq bc b1
  have y0 : Bc (wc.alloc (.cells #[.string ⟨#[]⟩, .int .i64 0, .int .i64 0, .string ⟨#[]⟩] 52)) w.heap.size c ma mc ka kc := by
    unfold Bc
    rw [b1.block _ (lt_of_block yc)]; exact yc
  rw [hsz] at z0
  have hl := run_ldA (hS.below b0)
  subst hwc
  clear bc yc hsz b1
  go_enter Tryd.func16, Tryd.ntmps16
  go_wp2_with fail
  go_loopw [7] (fun i wr => ∃ k : Nat, i = .int .i64 k ∧ k ≤ 22 ∧ Hid (Below w.heap.size w wr) ∧ Hid (Bs4 wr (w.heap.size + 1) sh0) ∧ Hid (Bc wr w.heap.size c ma mc ka kc) ∧ Hid (∀ j, j < k → isOf c (shAt j) = false)) (fun i _ => 22 - (intOf i).toNat)
  case atStart => exact ⟨0, rfl, by omega, ⟨b0⟩, ⟨z0⟩, ⟨y0⟩, ⟨fun j hj => by omega⟩⟩
  case round =>
    clear b0 z0 y0 hl
    obtain ⟨k, rfl, hk, HB, HZ, HY, HN⟩ := hrel
    by_cases hlt : k < 22
    · have d1 : decide ((k : Int) < 22) = true := decide_eq_true (by omega)
      have hix := run_ixA k hlt
      have HNX : Hid (isOf c (shAt k) = false → ∀ j, j < k + 1 → isOf c (shAt j) = false) := ⟨fun q j hj => by
        by_cases e : j = k
        · rw [e]; exact q
        · exact HN.out j (by omega)⟩
      have HVX : Hid (isOf c (shAt k) = true → shpOf c = some (shAt k)) := ⟨fun q => find_yes hlt q HN.out⟩
      generalize shAt k = t at *
      obtain ⟨wa, hwa⟩ : ∃ wa, wa = wr.alloc (.cells #[str t.name, .int .i64 t.kind, .int .i64 t.step, str t.parts] 52) := ⟨_, rfl⟩
      have ba : Below wr.heap.size wr wa := by rw [hwa]; exact (Below.refl _ _).alloc (Nat.le_refl _) _
      have ya : Bs4 wa wr.heap.size t := by rw [hwa]; exact heap_alloc_new _ _
      have za : Bs4 wa (w.heap.size + 1) sh0 := by
        unfold Bs4
        rw [ba.block _ (lt_of_block HZ.out)]; exact HZ.out
      have xa : Bc wa w.heap.size c ma mc ka kc := by
        unfold Bc
        rw [ba.block _ (lt_of_block HY.out)]; exact HY.out
      obtain ⟨r0, r3⟩ := xa.kinds
      have Ba := Hid.mk (below_seq HB.out ba)
      obtain ⟨p0, p1, p2, p3, pf⟩ := ya.cells
      obtain ⟨q0, q1, q2, q3, qf⟩ := za.cells
      cases hA : (t.kind == c.kind) with
      | false =>
        have hq : isOf c t = false := by unfold isOf; rw [hA]; rfl
        have HN2 := Hid.mk (HNX.out hq)
        have HZa := Hid.mk za
        have HYa := Hid.mk xa
        clear HNX HVX pf qf ya za ba xa hq q0 q1 q2 q3
        subst hwa
        go_wp2_with fail
        go_roundw
        case rel => exact ⟨k + 1, rfl, by omega, Ba, HZa, HYa, HN2⟩
        case measure => simp [intOf]; omega
      | true =>
        cases hB : (t.kind == 2) with
        | false =>
          have hq : isOf c t = true := by unfold isOf; rw [hA, bne, hB]; rfl
          have hB2 : (t.kind != 2) = true := by rw [bne, hB]; rfl
          have HV := Hid.mk (HVX.out hq)
          have HS := Hid.mk (za.s4 t)
          have HBB := Hid.mk (below_s4 Ba.out (Nat.le_succ _) t)
          have f0 := qf 0
          have f1 := qf 1
          have f2 := qf 2
          have f3 := qf 3
          have hne : ¬ wr.heap.size = w.heap.size + 1 := by have := lt_of_block HZ.out; omega
          clear HNX HVX pf qf ya za ba xa hq
          subst hwa
          go_wp2_with fail
          first | rw [s4_eq _ (w.heap.size + 1) t] | skip
          obtain ⟨g0, g1, g2, g3, _⟩ := HS.out.cells
          clear q0 q1 q2 q3 p0 p1 p2 p3 f0 f1 f2 f3
          generalize s4 (wr.alloc (.cells #[str t.name, .int .i64 t.kind, .int .i64 t.step, str t.parts] 52)) (w.heap.size + 1) t = W9 at *
          refine bodyPost_ret (v := .tuple #[shV t, .bool true]) ?_ rfl ⟨by rw [HV.out]; rfl, HBB.out⟩
          rw [results_ct rfl]
          go_simp

        | true =>
          have hB2 : (t.kind != 2) = false := by rw [bne, hB]; rfl
          cases hC : (t.step == c.st.kind) with
          | false =>
            have hq : isOf c t = false := by unfold isOf; rw [hA, hB2, hC]; rfl
            have HN2 := Hid.mk (HNX.out hq)
            have HZa := Hid.mk za
            have HYa := Hid.mk xa
            clear HNX HVX pf qf ya za ba xa hq q0 q1 q2 q3
            subst hwa
            go_wp2_with fail
            go_roundw
            case rel => exact ⟨k + 1, rfl, by omega, Ba, HZa, HYa, HN2⟩
            case measure => simp [intOf]; omega

          | true =>
            have hq : isOf c t = true := by unfold isOf; rw [hA, hB2, hC]; rfl
            have HV := Hid.mk (HVX.out hq)
            have HS := Hid.mk (za.s4 t)
            have HBB := Hid.mk (below_s4 Ba.out (Nat.le_succ _) t)
            have f0 := qf 0
            have f1 := qf 1
            have f2 := qf 2
            have f3 := qf 3
            have hne : ¬ wr.heap.size = w.heap.size + 1 := by have := lt_of_block HZ.out; omega
            clear HNX HVX pf qf ya za ba xa hq
            subst hwa
            go_wp2_with fail
            first | rw [s4_eq _ (w.heap.size + 1) t] | skip
            obtain ⟨g0, g1, g2, g3, _⟩ := HS.out.cells
            clear q0 q1 q2 q3 p0 p1 p2 p3 f0 f1 f2 f3
            generalize s4 (wr.alloc (.cells #[str t.name, .int .i64 t.kind, .int .i64 t.step, str t.parts] 52)) (w.heap.size + 1) t = W9 at *
            refine bodyPost_ret (v := .tuple #[shV t, .bool true]) ?_ rfl ⟨by rw [HV.out]; rfl, HBB.out⟩
            rw [results_ct rfl]
            go_simp

    · have d1 : decide ((k : Int) < 22) = false := decide_eq_false (by omega)
      have HV : Hid (shpOf c = none) := ⟨find_no fun j hj => HN.out j (by omega)⟩
      obtain ⟨q0, q1, q2, q3, qf⟩ := HZ.out.cells
      have HS := Hid.mk (HZ.out.s4 sh0)
      have HBB := Hid.mk (below_s4 HB.out (Nat.le_succ _) sh0)
      have f0 := qf 0
      have f1 := qf 1
      have f2 := qf 2
      have f3 := qf 3
      go_wp2_with fail
      first | rw [s4_eq wr (w.heap.size + 1) sh0] | skip
      obtain ⟨g0, g1, g2, g3, _⟩ := HS.out.cells
      generalize s4 wr (w.heap.size + 1) sh0 = W9 at *
      refine bodyPost_ret (v := .tuple #[shV sh0, .bool false]) ?_ rfl ⟨by rw [HV.out]; rfl, HBB.out⟩
      rw [results_ct rfl]
      go_simp
end Go.Proofs.YtgbkloihclbimaaDoor
