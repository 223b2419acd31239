/- Layer 22: the reader of a line's words. -/
import Derived.Test.YtiifkcnpdihlmaaDoorXd
namespace Go.Proofs.YtiifkcnpdihlmaaDoor
set_option maxRecDepth 100000
set_option linter.unusedVariables false
set_option linter.unusedSimpArgs false
open Go.RowKit
attribute [local go_sem ↓] Go.wp_at_zero Go.wp_at_succ sl9 ix9
abbrev Bs := Nat → Prop
/-- a world that differs from another in these blocks alone, and in new ones -/
structure Oth (X : Bs) (W W' : World) : Prop where
  os : W'.os = W.os
  tape : W'.tape = W.tape
  output : W'.output = W.output
  size : W.heap.size ≤ W'.heap.size
  block : ∀ b, b < W.heap.size → ¬ X b → W'.heap[b]? = W.heap[b]?
theorem Oth.of_below {X : Bs} {W W' : World} (h : Below W.heap.size W W') : Oth X W W' := ⟨h.os, h.tape, h.output, h.size, fun b hb _ => h.block b hb⟩
theorem Oth.refl (X : Bs) (W : World) : Oth X W W := Oth.of_below (Below.refl _ _)
theorem Oth.trans {X : Bs} {w w1 w2 : World} (h : Oth X w w1) (h2 : Oth X w1 w2) : Oth X w w2 :=
  ⟨h2.os.trans h.os, h2.tape.trans h.tape, h2.output.trans h.output, Nat.le_trans h.size h2.size, fun k hk hn => (h2.block k (Nat.lt_of_lt_of_le hk h.size) hn).trans (h.block k hk hn)⟩
theorem Oth.mono {X Y : Bs} {w w1 : World} (h : Oth X w w1) (hx : ∀ b, X b → Y b) : Oth Y w w1 := ⟨h.os, h.tape, h.output, h.size, fun k hk hn => h.block k hk (fun q => hn (hx k q))⟩
theorem Oth.then {X : Bs} {w w' w2 : World} (h : Oth X w w') {B : Nat} (hb : Below B w' w2) (hB : w.heap.size ≤ B) : Oth X w w2 :=
  ⟨hb.os.trans h.os, hb.tape.trans h.tape, hb.output.trans h.output, Nat.le_trans h.size hb.size, fun k hk hn => (hb.block k (by omega)).trans (h.block k hk hn)⟩
theorem hso (w : World) (p : Addr) {v : Value} {k : Nat} (h : k ≠ p.block) : (w.setCell p v).heap[k]? = w.heap[k]? := Below.heap_setCell _ _ _ _ h
theorem Oth.set {X : Bs} {w w' : World} {g j : Nat} {v : Value} (h : Oth X w w') (hg : X g) : Oth X w (w'.setCell ⟨g, j, none⟩ v) :=
  ⟨h.os, h.tape, h.output, by simpa using h.size, fun k hk hn => by rw [hso _ _ (fun (e : k = g) => hn (e ▸ hg))]; exact h.block k hk hn⟩
theorem Oth.bel {X : Bs} {w0 w w' : World} (h : Oth X w w') (hb : Below w0.heap.size w0 w) (hg : ∀ b, X b → w0.heap.size ≤ b) : Below w0.heap.size w0 w' :=
  hb.trans ⟨h.os, h.tape, h.output, h.size, fun k hk => h.block k (by have := hb.size; omega) (fun q => by have := hg k q; omega)⟩
theorem Oth.cell {X : Bs} {w w' : World} (h : Oth X w w') {p : Addr} {v : Value} (hp : ¬ X p.block) (hc : w.cell? p = some v) : w'.cell? p = some v := by
  have hlt := block_lt_of_cell hc
  rw [← hc]
  exact World.cell?_of_block (w := w) (h.block p.block hlt hp)
noncomputable def slT (v : Value) (a b c : Option Value) : Sem Value := Instr.slice 73 v a b c
theorem slTe (v : Value) (a b c : Option Value) : Instr.slice 73 v a b c = slT v a b c := rfl
theorem run_slT (ad : Addr) (len cap : Nat) (h1 : 1 ≤ len) (h2 : len ≤ cap) (h3 : cap ≤ 9223372036854775807) : ∃ a', (∀ w, (slT (.slice (some ad) len cap) (some (.int .i64 1)) none none).run Tryd.prog w = .ok (.slice a' (len - 1) (cap - 1)) w) ∧ (1 < len → a' = some (ad.add 1)) := by
  obtain ⟨i0, hi0, hz0, hz1, hz2⟩ := info9
  have c : ¬ ((len : Int) < (1 : Int)) := by omega
  have c2 : ¬ ((cap : Int) < (len : Int)) := by omega
  by_cases h : cap - 1 = 0
  · refine ⟨some ad, fun w => ?_, fun q => by omega⟩
    obtain rfl : cap = 1 := by omega
    obtain rfl : len = 1 := by omega
    unfold slT
    simp [Instr.slice, Tryd.underlying73, go_sem, hi0, hz1, sizeOf, typeInfo]
  · have h' : cap ≠ 1 := by omega
    refine ⟨some (ad.add 1), fun w => ?_, fun _ => rfl⟩
    unfold slT
    simp [Instr.slice, Tryd.underlying73, go_sem, h, h', h1, c, c2, hi0, hz1, sizeOf, typeInfo]
/-- the words that a slice holds, in blocks below M -/
def TW (w : World) (M : Nat) (a : Option Addr) (ws : List By) : Prop := ∀ k t, ws[k]? = some t → ∃ b off, a = some ⟨b, off, none⟩ ∧ b < M ∧ w.cell? ⟨b, off + k, none⟩ = some (str t)
/-- a reader's box -/
structure Rx (w : World) (M g : Nat) (r : Rr) (a : Option Addr) (c : Nat) : Prop where
  box : w.heap[g]? = some (.cells #[.slice a r.1.length c, .bool r.2] 82 (0, 0))
  tw : TW w M a r.1
  ge : M ≤ g
  le : r.1.length ≤ c
  mx : c ≤ 9223372036854775807
  sm : ∀ t ∈ r.1, t.length ≤ 1000000000
theorem Rx.cells {w : World} {M g : Nat} {r : Rr} {a : Option Addr} {c : Nat} (h : Rx w M g r a c) : w.cell? ⟨g, 0, none⟩ = some (.slice a r.1.length c) ∧ w.cell? ⟨g, 1, none⟩ = some (.bool r.2) ∧ ∀ j, w.frozen? ⟨g, j, none⟩ = false := by
  refine ⟨by rw [cell_of_row _ _ _ _ _ _ h.box]; rfl, by rw [cell_of_row _ _ _ _ _ _ h.box]; rfl, fun j => ?_⟩
  exact frozen_of_row _ _ _ _ _ h.box
theorem Rx.lt {w : World} {M g : Nat} {r : Rr} {a : Option Addr} {c : Nat} (h : Rx w M g r a c) : g < w.heap.size := lt_of_block h.box
theorem Rx.oth {w w' : World} {M g : Nat} {r : Rr} {a : Option Addr} {c : Nat} {X : Bs} (h : Rx w M g r a c) (ho : Oth X w w') (hX : ∀ b, X b → M ≤ b) (hg : ¬ X g) : Rx w' M g r a c := by
  refine ⟨(ho.block g h.lt hg).trans h.box, fun k t hk => ?_, h.ge, h.le, h.mx, h.sm⟩
  obtain ⟨b, off, e, hb, hc⟩ := h.tw k t hk
  exact ⟨b, off, e, hb, ho.cell (p := ⟨b, off + k, none⟩) (fun q => by have := hX b q; omega) hc⟩
theorem Rx.later {w w' : World} {M g : Nat} {r : Rr} {a : Option Addr} {c : Nat} (h : Rx w M g r a c) (hb : Below w.heap.size w w') : Rx w' M g r a c := h.oth (X := fun _ => False) (Oth.of_below hb) (fun _ q => q.elim) (fun q => q)
theorem hasMore_any (M g : Nat) (r : Rr) (a : Option Addr) (c : Nat) (w : World) (hR : Rx w M g r a c) : Calls Tryd.prog 43 #[.pointer (some ⟨g, 0, none⟩)] w fun e w' => e = .returned (.bool (decide (0 < r.1.length))) ∧ w' = w := by
  obtain ⟨c0, c1, cf⟩ := hR.cells
  have d1 : decide ((r.1.length : Int) > 0) = decide (0 < r.1.length) := by simp
  have d2 : decide (0 < (r.1.length : Int)) = decide (0 < r.1.length) := by simp
  go_enter Tryd.func43, Tryd.ntmps43
  go_wp2_with fail
  go_ret
  refine ⟨?_, rfl⟩
  simp
/-- a call of the reader's: its box, and what else lies as it lay -/
structure RP (M g : Nat) (r : Rr) (w w' : World) : Prop where
  rx : ∃ a c, Rx w' M g r a c
  oth : Oth (fun x => x = g) w w'
attribute [local go_sem ↓] slTe
theorem next_any (M g : Nat) (r : Rr) (a : Option Addr) (c : Nat) (w : World) (hR : Rx w M g r a c) : Calls Tryd.prog 64 #[.pointer (some ⟨g, 0, none⟩)] w fun e w' => e = .returned (str (nxtW r.1)) ∧ RP M g (r.1.tail, r.2) w w' := by
  have hm := hasMore_any M g r a c w hR
  obtain ⟨c0, c1, cf⟩ := hR.cells
  obtain ⟨ws, bad⟩ := r
  dsimp only at *
  cases ws with
  | nil =>
    go_enter Tryd.func64, Tryd.ntmps64
    go_wp2_with fail
    with_reducible refine Calls.mono hm ?_
    rintro e w1 ⟨rfl, rfl⟩
    dsimp only
    go_wp2_with fail
    go_ret
    exact ⟨rfl, ⟨a, c, hR⟩, Oth.refl _ _⟩
  | cons t ws =>
    obtain ⟨b, off, rfl, hb, hc⟩ := hR.tw 0 t rfl
    have hc : w.cell? ⟨b, off, none⟩ = some (str t) := hc
    obtain ⟨a', hsl, ha'⟩ := run_slT ⟨b, off, none⟩ (t :: ws).length c (by simp) hR.le hR.mx
    have hf0 := cf 0
    have HR := Hid.mk hR
    clear hR cf
    have hd : decide (0 < (t :: ws).length) = true := rfl
    rw [hd] at hm
    have HF : Hid (RP M g (ws, bad) w (w.setCell ⟨g, 0, none⟩ (.slice a' ws.length (c - 1)))) := ⟨⟨a', c - 1, by
      have h1 := HR.out
      have hg : w.heap[g]? = some (.cells #[.slice (some ⟨b, off, none⟩) (t :: ws).length c, .bool bad] 82 (0, 0)) := h1.box
      refine ⟨by rw [heap_setCell_same _ _ _ _ _ _ hg]; rfl, fun k u hk => ?_, h1.ge, by have := h1.le; simp at this ⊢; omega, by have := h1.mx; omega, fun u hu => h1.sm u (by simp [hu])⟩
      have hk1 : k < ws.length := (List.getElem?_eq_some_iff.1 hk).1
      obtain ⟨b2, off2, e2, hb2, hc2⟩ := h1.tw (k + 1) u (by simpa using hk)
      injection e2 with e2; injection e2 with e3 e4
      subst e3 e4
      refine ⟨b, off + 1, ?_, hb2, ?_⟩
      · rw [ha' (by simp; omega), addr_add]
      · rw [World.cell?_of_block (w := w) (a := ⟨b, off + 1 + k, none⟩) (hso w ⟨g, 0, none⟩ (k := b) (fun (e : b = g) => by have := h1.ge; omega)), show off + 1 + k = off + (k + 1) by omega]
        exact hc2⟩, (Oth.refl _ _).set rfl⟩
    clear ha'
    generalize hL : (t :: ws).length = L at *
    have hL1 : L - 1 = ws.length := by rw [← hL]; simp
    rw [hL1] at hsl
    have hLp : (0 : Int) < (L : Int) := by rw [← hL]; simp
    clear hL hL1
    go_enter Tryd.func64, Tryd.ntmps64
    go_wp2_with fail
    with_reducible refine Calls.mono hm ?_
    rintro e w1 ⟨rfl, rfl⟩
    dsimp only
    go_wp2_with fail
    go_ret
    exact ⟨rfl, HF.out⟩
theorem nxt_sm {ws : List By} (h : ∀ t ∈ ws, t.length ≤ 1000000000) : (nxtW ws).length ≤ 1000000000 := by
  cases ws with
  | nil => simp [nxtW]
  | cons t ws => exact h t (by simp)
theorem Rx.bad {w : World} {M g : Nat} {r : Rr} {a : Option Addr} {c : Nat} (h : Rx w M g r a c) (b : Bool) : Rx (w.setCell ⟨g, 1, none⟩ (.bool b)) M g (r.1, b) a c := by
  refine ⟨by rw [heap_setCell_same _ _ _ _ _ _ h.box]; rfl, fun k t hk => ?_, h.ge, h.le, h.mx, h.sm⟩
  obtain ⟨b2, off2, e2, hb2, hc2⟩ := h.tw k t hk
  exact ⟨b2, off2, e2, hb2, by rw [World.cell?_of_block (w := w) (a := ⟨b2, off2 + k, none⟩) (hso w ⟨g, 1, none⟩ (k := b2) (fun (e : b2 = g) => by have := h.ge; omega))]; exact hc2⟩
theorem rnumber_any (M g : Nat) (r : Rr) (a : Option Addr) (c : Nat) (w0 w : World) (hR : Rx w M g r a c) (hB : Below w0.heap.size w0 w) (hg : w0.heap.size ≤ g) (hT : TB w0) (hE : EG w0) : Calls Tryd.prog 52 #[.pointer (some ⟨g, 0, none⟩)] w fun e w' => e = .returned (.int .i64 (rnum r).1) ∧ RP M g (rnum r).2 w w' := by
  have hn := next_any M g r a c w hR
  have hsm := nxt_sm hR.sm
  unfold rnum
  dsimp only
  have hno := fun w1 t e => numberOf_any (nxtW r.1) hsm w1 t e
  generalize (numO (nxtW r.1)).getD 0 = n at *
  rw [show (numO (nxtW r.1)).isNone = !(numO (nxtW r.1)).isSome by cases numO (nxtW r.1) <;> rfl]
  generalize (numO (nxtW r.1)).isSome = bo at *
  go_enter Tryd.func52, Tryd.ntmps52
  go_wp2_with fail
  with_reducible refine Calls.mono hn ?_
  rintro e w1 ⟨rfl, r1⟩
  dsimp only
  have hB1 := r1.oth.bel hB (fun b e => by rw [e]; exact hg)
  have hno := hno w1 (hT.below hB1) (hE.below hB1)
  obtain ⟨a1, c1, x1⟩ := r1.rx
  go_wp2_with fail
  with_reducible refine Calls.mono hno ?_
  rintro e w2 ⟨rfl, b2⟩
  dsimp only
  have x2 := x1.later b2
  obtain ⟨q0, q1, qf⟩ := x2.cells
  have qf1 := qf 1
  have HF : ∀ b : Bool, Hid (RP M g (r.1.tail, b) w (w2.setCell ⟨g, 1, none⟩ (.bool b))) := fun b => ⟨⟨_, _, x2.bad b⟩, (r1.oth.trans (Oth.of_below b2)).set rfl⟩
  clear hR hn x1 x2 r1 qf
  dsimp only at q1
  cases hb : r.2 with
  | true =>
    rw [hb] at q1
    have H := HF true
    go_wp2_with fail
    go_ret
    exact ⟨rfl, H.out⟩
  | false =>
    rw [hb] at q1
    have H := HF (!bo)
    go_wp2_with fail
    go_ret
    exact ⟨rfl, H.out⟩
theorem rtext_any (M g : Nat) (r : Rr) (a : Option Addr) (c : Nat) (w : World) (hR : Rx w M g r a c) : Calls Tryd.prog 53 #[.pointer (some ⟨g, 0, none⟩)] w fun e w' => e = .returned (str (rtxt r).1) ∧ RP M g (rtxt r).2 w w' := by
  have hn := next_any M g r a c w hR
  have hsm := nxt_sm hR.sm
  unfold rtxt
  dsimp only
  have hno := fun w1 => textOf_any (nxtW r.1) hsm w1
  generalize (txtO (nxtW r.1)).getD [] = n at *
  rw [show (txtO (nxtW r.1)).isNone = !(txtO (nxtW r.1)).isSome by cases txtO (nxtW r.1) <;> rfl]
  generalize (txtO (nxtW r.1)).isSome = bo at *
  go_enter Tryd.func53, Tryd.ntmps53
  go_wp2_with fail
  with_reducible refine Calls.mono hn ?_
  rintro e w1 ⟨rfl, r1⟩
  dsimp only
  have hno := hno w1
  obtain ⟨a1, c1, x1⟩ := r1.rx
  go_wp2_with fail
  with_reducible refine Calls.mono hno ?_
  rintro e w2 ⟨rfl, b2⟩
  dsimp only
  have x2 := x1.later b2
  obtain ⟨q0, q1, qf⟩ := x2.cells
  have qf1 := qf 1
  have HF : ∀ b : Bool, Hid (RP M g (r.1.tail, b) w (w2.setCell ⟨g, 1, none⟩ (.bool b))) := fun b => ⟨⟨_, _, x2.bad b⟩, (r1.oth.trans (Oth.of_below b2)).set rfl⟩
  clear hR hn x1 x2 r1 qf
  dsimp only at q1
  cases hb : r.2 with
  | true =>
    rw [hb] at q1
    have H := HF true
    go_wp2_with fail
    go_ret
    exact ⟨rfl, H.out⟩
  | false =>
    rw [hb] at q1
    have H := HF (!bo)
    go_wp2_with fail
    go_ret
    exact ⟨rfl, H.out⟩
end Go.Proofs.YtiifkcnpdihlmaaDoor
