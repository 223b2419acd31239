/- Layer 22: a command under way: its box, its rows of pairs and of numbers, the reader. -/
import Derived.Test.YtgbkloihclbimaaDoorGi
namespace Go.Proofs.YtgbkloihclbimaaDoor
set_option maxRecDepth 100000
set_option linter.unusedVariables false
set_option linter.unusedSimpArgs false
open Go.RowKit
attribute [local go_sem ↓] Go.wp_at_zero Go.wp_at_succ
theorem own_type {base n s : Nat} {w : World} {v : Value} {xs : List Value} {t : TypeId} (h : w.ownsRow base t s v n xs) {g : Nat} (hg : v.ownBlock = some g) : ∃ c, w.heap[g]? = some (.cells c t (0, 0)) := by
  rcases h.2 with ⟨rfl, _⟩ | ⟨g', cap, cur, rfl, _, hh, _⟩
  · simp [Value.ownBlock] at hg
  · simp [Value.ownBlock] at hg
    subst hg
    exact ⟨_, hh⟩
theorem own_same {base n s : Nat} {w w' : World} {v : Value} {xs : List Value} {t : TypeId} (h : w.ownsRow base t s v n xs) (hb : ∀ g, v.ownBlock = some g → w'.heap[g]? = w.heap[g]?) : w'.ownsRow base t s v n xs := by
  refine ⟨h.1, ?_⟩
  rcases h.2 with q | ⟨g', cap, cur, rfl, a1, hh, rest⟩
  · exact .inl q
  · exact .inr ⟨g', cap, cur, rfl, a1, (hb g' (by simp [Value.ownBlock])).trans hh, rest⟩
/-- a row that lies in none of these blocks -/
theorem own_oth {base n s : Nat} {w w' : World} {v : Value} {xs : List Value} {t : TypeId} {X : Bs} (h : w.ownsRow base t s v n xs) (ho : Oth X w w') (hX : ∀ b, X b → ∃ cs t' fz, w.heap[b]? = some (.cells cs t' fz) ∧ t' ≠ t) : w'.ownsRow base t s v n xs :=
  own_same h fun g hg => ho.block g (h.lt g hg).2 (fun q => by
    obtain ⟨c, e⟩ := own_type h hg
    obtain ⟨cs, t', fz, e2, hne⟩ := hX g q
    rw [e] at e2
    injection e2 with e2
    injection e2 with _ e3 _
    exact hne e3.symm)
theorem own_set {base n s : Nat} {w : World} {v : Value} {xs : List Value} {t : TypeId} (h : w.ownsRow base t s v n xs) {g j : Nat} {cs : Array Value} {t' : TypeId} {fz : Nat × Nat} (hg : w.heap[g]? = some (.cells cs t' fz)) (hne : t' ≠ t) (u : Value) : (w.setCell ⟨g, j, none⟩ u).ownsRow base t s v n xs :=
  own_same h fun k hk => hso w ⟨g, j, none⟩ (fun (e : k = g) => by
    obtain ⟨c, e2⟩ := own_type h hk
    rw [e, hg] at e2
    injection e2 with e2
    injection e2 with _ e3 _
    exact hne e3)
def ivs (l : List Int) : List Value := l.map (fun n => Value.int .i64 n)
/-- a command in its box, its two rows, and the reader beside it -/
structure CS (w : World) (M gc gr : Nat) (c : Cm) (r : Rr) (ma : Option Addr) (mc : Nat) (ka : Option Addr) (kc : Nat) (a : Option Addr) (ac : Nat) : Prop where
  bc : Bc w gc c ma mc ka kc
  ow : w.ownsRow M 38 2 (.slice ma c.st.mt.length mc) c.st.mt.length (pcells c.st.mt)
  oi : w.ownsRow M 3 1 (.slice ka c.st.kept.length kc) c.st.kept.length (ivs c.st.kept)
  rx : Rx w M gr r a ac
  ne : gc ≠ gr
  ge : M ≤ gc
def KO (gc gr : Nat) (w w' : World) : Prop := ∀ k o, w.heap[k]? = some o → k ≠ gc → k ≠ gr → (∀ cs fz, o ≠ .cells cs 38 fz) → (∀ cs fz, o ≠ .cells cs 3 fz) → w'.heap[k]? = some o
theorem KO.refl (gc gr : Nat) (w : World) : KO gc gr w w := fun _ _ h _ _ _ _ => h
theorem KO.trans {gc gr : Nat} {w w1 w2 : World} (h : KO gc gr w w1) (h2 : KO gc gr w1 w2) : KO gc gr w w2 := fun k o a b c d e => h2 k o (h k o a b c d e) b c d e
theorem KO.of_oth {gc gr : Nat} {w w' : World} (h : Oth (fun x => x = gr) w w') : KO gc gr w w' := fun k o hk _ hr _ _ => (h.block k (Array.getElem?_eq_some_iff.1 hk).1 hr).trans hk
theorem KO.set {gc gr : Nat} {w w' : World} (h : KO gc gr w w') (j : Nat) (v : Value) : KO gc gr w (w'.setCell ⟨gc, j, none⟩ v) := fun k o a b c d e => by rw [hso w' ⟨gc, j, none⟩ (k := k) b]; exact h k o a b c d e
/-- what a step of reading leaves -/
structure RS (M gc gr : Nat) (x : Cm × Rr) (w w' : World) : Prop where
  cs : ∃ ma mc ka kc a ac, CS w' M gc gr x.1 x.2 ma mc ka kc a ac
  bel : Below M w w'
  ko : KO gc gr w w'
theorem CS.later {w w' : World} {M gc gr : Nat} {c : Cm} {r r' : Rr} {ma : Option Addr} {mc : Nat} {ka : Option Addr} {kc : Nat} {a : Option Addr} {ac : Nat} {a' : Option Addr} {ac' : Nat} (h : CS w M gc gr c r ma mc ka kc a ac) (ho : Oth (fun x => x = gr) w w') (hr : Rx w' M gr r' a' ac') : CS w' M gc gr c r' ma mc ka kc a' ac' :=
  ⟨(ho.block gc (lt_of_block h.bc) h.ne).trans h.bc, own_oth h.ow ho (fun b e => (show b = gr from e) ▸ ⟨_, _, _, h.rx.box, by decide⟩), own_oth h.oi ho (fun b e => (show b = gr from e) ▸ ⟨_, _, _, h.rx.box, by decide⟩), hr, h.ne, h.ge⟩
/-- a field of the command that is no row -/
theorem CS.set {w : World} {M gc gr : Nat} {c : Cm} {r : Rr} {ma : Option Addr} {mc : Nat} {ka : Option Addr} {kc : Nat} {a : Option Addr} {ac : Nat} (h : CS w M gc gr c r ma mc ka kc a ac) (j : Nat) (v : Value) (c' : Cm) (hm : c'.st.mt = c.st.mt) (hk : c'.st.kept = c.st.kept) (hc : (ccs c ma mc ka kc).setIfInBounds j v = ccs c' ma mc ka kc) : CS (w.setCell ⟨gc, j, none⟩ v) M gc gr c' r ma mc ka kc a ac := by
  refine ⟨?_, ?_, ?_, ?_, h.ne, h.ge⟩
  · unfold Bc
    rw [heap_setCell_same _ _ _ _ _ _ h.bc, hc]
  · rw [hm]; exact own_set h.ow h.bc (by decide) v
  · rw [hk]; exact own_set h.oi h.bc (by decide) v
  · exact h.rx.oth (X := fun x => x = gc) ((Oth.refl _ _).set rfl) (fun b e => by rw [e]; exact h.ge) (fun e => h.ne e.symm)
theorem Bc.cell {w : World} {g : Nat} {c : Cm} {ma : Option Addr} {mc : Nat} {ka : Option Addr} {kc : Nat} (h : Bc w g c ma mc ka kc) {j : Nat} {v : Value} (hj : (ccs c ma mc ka kc)[j]? = some v) : w.cell? ⟨g, j, none⟩ = some v ∧ w.frozen? ⟨g, j, none⟩ = false := ⟨by rw [cell_of_row _ _ _ _ _ _ h]; exact hj, frozen_of_row _ _ _ _ _ h⟩
theorem oth_below {M gr : Nat} {w w' : World} (h : Oth (fun x => x = gr) w w') (hM : M ≤ gr) (hs : M ≤ w.heap.size) : Below M w w' := ⟨h.os, h.tape, h.output, h.size, fun k hk => h.block k (by omega) (by omega)⟩
theorem RS.one {w w1 : World} {M gc gr : Nat} {c : Cm} {r r' : Rr} {ma : Option Addr} {mc : Nat} {ka : Option Addr} {kc : Nat} {a : Option Addr} {ac : Nat} (h : CS w M gc gr c r ma mc ka kc a ac) (h1 : RP M gr r' w w1) (j : Nat) (v : Value) (c' : Cm) (hm : c'.st.mt = c.st.mt) (hk : c'.st.kept = c.st.kept) (hc : (ccs c ma mc ka kc).setIfInBounds j v = ccs c' ma mc ka kc) : RS M gc gr (c', r') w (w1.setCell ⟨gc, j, none⟩ v) := by
  obtain ⟨a', ac', x⟩ := h1.rx
  have hb := oth_below h1.oth h.rx.ge (Nat.le_of_lt (Nat.lt_of_le_of_lt h.rx.ge h.rx.lt))
  exact ⟨⟨_, _, _, _, _, _, (h.later h1.oth x).set j v c' hm hk hc⟩, hb.setCell (p := ⟨gc, j, none⟩) h.ge _, (KO.of_oth h1.oth).set j v⟩
set_option maxHeartbeats 1000000 in
theorem read83 (M gc gr : Nat) (c : Cm) (r : Rr) (w0 w : World) (ma : Option Addr) (mc : Nat) (ka : Option Addr) (kc : Nat) (a : Option Addr) (ac : Nat) (h : CS w M gc gr c r ma mc ka kc a ac) (hB : Below w0.heap.size w0 w) (hg : w0.heap.size ≤ gr) (hT : TB w0) (hE : EG w0) :
    Calls Tryd.prog 39 #[.pointer (some ⟨gc, 0, none⟩), .int .u8 83, .pointer (some ⟨gr, 0, none⟩)] w fun e w' => e = .returned (.tuple #[]) ∧ RS M gc gr (rdp (c, r) 83) w w' := by
  have hn := rnumber_any M gr r a ac w0 w h.rx hB hg hT hE
  have HF : ∀ w1, RP M gr (rnum r).2 w w1 → Hid (w1.cell? ⟨gc, 1, none⟩ = some ((ccs c ma mc ka kc).getD 1 undef) ∧ w1.frozen? ⟨gc, 1, none⟩ = false ∧ RS M gc gr (rdp (c, r) 83) w (w1.setCell ⟨gc, 1, none⟩ (.int .i64 (rnum r).1))) := fun w1 h1 => ⟨by
    obtain ⟨a', ac', x⟩ := h1.rx
    have hb := (h.later h1.oth x).bc
    exact ⟨(hb.cell (j := 1) rfl).1, (hb.cell (j := 1) rfl).2, RS.one h h1 1 _ { c with sectors := (rnum r).1 } rfl rfl rfl⟩⟩
  go_enter Tryd.func39, Tryd.ntmps39
  go_wp2_with fail
  with_reducible refine Calls.mono hn ?_
  rintro e w1 ⟨rfl, r1⟩
  dsimp only
  obtain ⟨⟨q0, qf, q1⟩⟩ := HF w1 r1
  have HQ := Hid.mk q1
  clear HF hn r1 q1
  go_wp2_with fail
  go_end0
  exact ⟨rfl, HQ.out⟩
set_option maxHeartbeats 1000000 in
theorem read90 (M gc gr : Nat) (c : Cm) (r : Rr) (w0 w : World) (ma : Option Addr) (mc : Nat) (ka : Option Addr) (kc : Nat) (a : Option Addr) (ac : Nat) (h : CS w M gc gr c r ma mc ka kc a ac) (hB : Below w0.heap.size w0 w) (hg : w0.heap.size ≤ gr) (hT : TB w0) (hE : EG w0) :
    Calls Tryd.prog 39 #[.pointer (some ⟨gc, 0, none⟩), .int .u8 90, .pointer (some ⟨gr, 0, none⟩)] w fun e w' => e = .returned (.tuple #[]) ∧ RS M gc gr (rdp (c, r) 90) w w' := by
  have hn := rnumber_any M gr r a ac w0 w h.rx hB hg hT hE
  have HF : ∀ w1, RP M gr (rnum r).2 w w1 → Hid (w1.cell? ⟨gc, 2, none⟩ = some ((ccs c ma mc ka kc).getD 2 undef) ∧ w1.frozen? ⟨gc, 2, none⟩ = false ∧ RS M gc gr (rdp (c, r) 90) w (w1.setCell ⟨gc, 2, none⟩ (.int .i64 (rnum r).1))) := fun w1 h1 => ⟨by
    obtain ⟨a', ac', x⟩ := h1.rx
    have hb := (h.later h1.oth x).bc
    exact ⟨(hb.cell (j := 2) rfl).1, (hb.cell (j := 2) rfl).2, RS.one h h1 2 _ { c with size := (rnum r).1 } rfl rfl rfl⟩⟩
  go_enter Tryd.func39, Tryd.ntmps39
  go_wp2_with fail
  with_reducible refine Calls.mono hn ?_
  rintro e w1 ⟨rfl, r1⟩
  dsimp only
  obtain ⟨⟨q0, qf, q1⟩⟩ := HF w1 r1
  have HQ := Hid.mk q1
  clear HF hn r1 q1
  go_wp2_with fail
  go_end0
  exact ⟨rfl, HQ.out⟩
set_option maxHeartbeats 1000000 in
theorem read66 (M gc gr : Nat) (c : Cm) (r : Rr) (w0 w : World) (ma : Option Addr) (mc : Nat) (ka : Option Addr) (kc : Nat) (a : Option Addr) (ac : Nat) (h : CS w M gc gr c r ma mc ka kc a ac) (hB : Below w0.heap.size w0 w) (hg : w0.heap.size ≤ gr) (hT : TB w0) (hE : EG w0) :
    Calls Tryd.prog 39 #[.pointer (some ⟨gc, 0, none⟩), .int .u8 66, .pointer (some ⟨gr, 0, none⟩)] w fun e w' => e = .returned (.tuple #[]) ∧ RS M gc gr (rdp (c, r) 66) w w' := by
  have hn := rtext_any M gr r a ac w h.rx
  have HF : ∀ w1, RP M gr (rtxt r).2 w w1 → Hid (w1.cell? ⟨gc, 11, none⟩ = some ((ccs c ma mc ka kc).getD 11 undef) ∧ w1.frozen? ⟨gc, 11, none⟩ = false ∧ RS M gc gr (rdp (c, r) 66) w (w1.setCell ⟨gc, 11, none⟩ (str (rtxt r).1))) := fun w1 h1 => ⟨by
    obtain ⟨a', ac', x⟩ := h1.rx
    have hb := (h.later h1.oth x).bc
    exact ⟨(hb.cell (j := 11) rfl).1, (hb.cell (j := 11) rfl).2, RS.one h h1 11 _ { c with bucket := (rtxt r).1 } rfl rfl rfl⟩⟩
  go_enter Tryd.func39, Tryd.ntmps39
  go_wp2_with fail
  with_reducible refine Calls.mono hn ?_
  rintro e w1 ⟨rfl, r1⟩
  dsimp only
  obtain ⟨⟨q0, qf, q1⟩⟩ := HF w1 r1
  have HQ := Hid.mk q1
  clear HF hn r1 q1
  go_wp2_with fail
  go_end0
  exact ⟨rfl, HQ.out⟩
set_option maxHeartbeats 1000000 in
theorem read98 (M gc gr : Nat) (c : Cm) (r : Rr) (w0 w : World) (ma : Option Addr) (mc : Nat) (ka : Option Addr) (kc : Nat) (a : Option Addr) (ac : Nat) (h : CS w M gc gr c r ma mc ka kc a ac) (hB : Below w0.heap.size w0 w) (hg : w0.heap.size ≤ gr) (hT : TB w0) (hE : EG w0) :
    Calls Tryd.prog 39 #[.pointer (some ⟨gc, 0, none⟩), .int .u8 98, .pointer (some ⟨gr, 0, none⟩)] w fun e w' => e = .returned (.tuple #[]) ∧ RS M gc gr (rdp (c, r) 98) w w' := by
  have hn := rtext_any M gr r a ac w h.rx
  have HF : ∀ w1, RP M gr (rtxt r).2 w w1 → Hid (w1.cell? ⟨gc, 4, none⟩ = some ((ccs c ma mc ka kc).getD 4 undef) ∧ w1.frozen? ⟨gc, 4, none⟩ = false ∧ RS M gc gr (rdp (c, r) 98) w (w1.setCell ⟨gc, 4, none⟩ (str (rtxt r).1))) := fun w1 h1 => ⟨by
    obtain ⟨a', ac', x⟩ := h1.rx
    have hb := (h.later h1.oth x).bc
    exact ⟨(hb.cell (j := 4) rfl).1, (hb.cell (j := 4) rfl).2, RS.one h h1 4 _ { c with st := { c.st with bucket := (rtxt r).1 } } rfl rfl rfl⟩⟩
  go_enter Tryd.func39, Tryd.ntmps39
  go_wp2_with fail
  with_reducible refine Calls.mono hn ?_
  rintro e w1 ⟨rfl, r1⟩
  dsimp only
  obtain ⟨⟨q0, qf, q1⟩⟩ := HF w1 r1
  have HQ := Hid.mk q1
  clear HF hn r1 q1
  go_wp2_with fail
  go_end0
  exact ⟨rfl, HQ.out⟩
set_option maxHeartbeats 1000000 in
theorem read107 (M gc gr : Nat) (c : Cm) (r : Rr) (w0 w : World) (ma : Option Addr) (mc : Nat) (ka : Option Addr) (kc : Nat) (a : Option Addr) (ac : Nat) (h : CS w M gc gr c r ma mc ka kc a ac) (hB : Below w0.heap.size w0 w) (hg : w0.heap.size ≤ gr) (hT : TB w0) (hE : EG w0) :
    Calls Tryd.prog 39 #[.pointer (some ⟨gc, 0, none⟩), .int .u8 107, .pointer (some ⟨gr, 0, none⟩)] w fun e w' => e = .returned (.tuple #[]) ∧ RS M gc gr (rdp (c, r) 107) w w' := by
  have hn := rtext_any M gr r a ac w h.rx
  have HF : ∀ w1, RP M gr (rtxt r).2 w w1 → Hid (w1.cell? ⟨gc, 5, none⟩ = some ((ccs c ma mc ka kc).getD 5 undef) ∧ w1.frozen? ⟨gc, 5, none⟩ = false ∧ RS M gc gr (rdp (c, r) 107) w (w1.setCell ⟨gc, 5, none⟩ (str (rtxt r).1))) := fun w1 h1 => ⟨by
    obtain ⟨a', ac', x⟩ := h1.rx
    have hb := (h.later h1.oth x).bc
    exact ⟨(hb.cell (j := 5) rfl).1, (hb.cell (j := 5) rfl).2, RS.one h h1 5 _ { c with st := { c.st with key := (rtxt r).1 } } rfl rfl rfl⟩⟩
  go_enter Tryd.func39, Tryd.ntmps39
  go_wp2_with fail
  with_reducible refine Calls.mono hn ?_
  rintro e w1 ⟨rfl, r1⟩
  dsimp only
  obtain ⟨⟨q0, qf, q1⟩⟩ := HF w1 r1
  have HQ := Hid.mk q1
  clear HF hn r1 q1
  go_wp2_with fail
  go_end0
  exact ⟨rfl, HQ.out⟩
set_option maxHeartbeats 1000000 in
theorem read100 (M gc gr : Nat) (c : Cm) (r : Rr) (w0 w : World) (ma : Option Addr) (mc : Nat) (ka : Option Addr) (kc : Nat) (a : Option Addr) (ac : Nat) (h : CS w M gc gr c r ma mc ka kc a ac) (hB : Below w0.heap.size w0 w) (hg : w0.heap.size ≤ gr) (hT : TB w0) (hE : EG w0) :
    Calls Tryd.prog 39 #[.pointer (some ⟨gc, 0, none⟩), .int .u8 100, .pointer (some ⟨gr, 0, none⟩)] w fun e w' => e = .returned (.tuple #[]) ∧ RS M gc gr (rdp (c, r) 100) w w' := by
  have hn := rtext_any M gr r a ac w h.rx
  have HF : ∀ w1, RP M gr (rtxt r).2 w w1 → Hid (w1.cell? ⟨gc, 6, none⟩ = some ((ccs c ma mc ka kc).getD 6 undef) ∧ w1.frozen? ⟨gc, 6, none⟩ = false ∧ RS M gc gr (rdp (c, r) 100) w (w1.setCell ⟨gc, 6, none⟩ (str (rtxt r).1))) := fun w1 h1 => ⟨by
    obtain ⟨a', ac', x⟩ := h1.rx
    have hb := (h.later h1.oth x).bc
    exact ⟨(hb.cell (j := 6) rfl).1, (hb.cell (j := 6) rfl).2, RS.one h h1 6 _ { c with st := { c.st with data := (rtxt r).1 } } rfl rfl rfl⟩⟩
  go_enter Tryd.func39, Tryd.ntmps39
  go_wp2_with fail
  with_reducible refine Calls.mono hn ?_
  rintro e w1 ⟨rfl, r1⟩
  dsimp only
  obtain ⟨⟨q0, qf, q1⟩⟩ := HF w1 r1
  have HQ := Hid.mk q1
  clear HF hn r1 q1
  go_wp2_with fail
  go_end0
  exact ⟨rfl, HQ.out⟩
set_option maxHeartbeats 1000000 in
theorem read113 (M gc gr : Nat) (c : Cm) (r : Rr) (w0 w : World) (ma : Option Addr) (mc : Nat) (ka : Option Addr) (kc : Nat) (a : Option Addr) (ac : Nat) (h : CS w M gc gr c r ma mc ka kc a ac) (hB : Below w0.heap.size w0 w) (hg : w0.heap.size ≤ gr) (hT : TB w0) (hE : EG w0) :
    Calls Tryd.prog 39 #[.pointer (some ⟨gc, 0, none⟩), .int .u8 113, .pointer (some ⟨gr, 0, none⟩)] w fun e w' => e = .returned (.tuple #[]) ∧ RS M gc gr (rdp (c, r) 113) w w' := by
  have hn := rnumber_any M gr r a ac w0 w h.rx hB hg hT hE
  have HF : ∀ w1, RP M gr (rnum r).2 w w1 → Hid (w1.cell? ⟨gc, 8, none⟩ = some ((ccs c ma mc ka kc).getD 8 undef) ∧ w1.frozen? ⟨gc, 8, none⟩ = false ∧ RS M gc gr (rdp (c, r) 113) w (w1.setCell ⟨gc, 8, none⟩ (.int .i64 (rnum r).1))) := fun w1 h1 => ⟨by
    obtain ⟨a', ac', x⟩ := h1.rx
    have hb := (h.later h1.oth x).bc
    exact ⟨(hb.cell (j := 8) rfl).1, (hb.cell (j := 8) rfl).2, RS.one h h1 8 _ { c with st := { c.st with seq := (rnum r).1 } } rfl rfl rfl⟩⟩
  go_enter Tryd.func39, Tryd.ntmps39
  go_wp2_with fail
  with_reducible refine Calls.mono hn ?_
  rintro e w1 ⟨rfl, r1⟩
  dsimp only
  obtain ⟨⟨q0, qf, q1⟩⟩ := HF w1 r1
  have HQ := Hid.mk q1
  clear HF hn r1 q1
  go_wp2_with fail
  go_end0
  exact ⟨rfl, HQ.out⟩
set_option maxHeartbeats 1000000 in
theorem read110 (M gc gr : Nat) (c : Cm) (r : Rr) (w0 w : World) (ma : Option Addr) (mc : Nat) (ka : Option Addr) (kc : Nat) (a : Option Addr) (ac : Nat) (h : CS w M gc gr c r ma mc ka kc a ac) (hB : Below w0.heap.size w0 w) (hg : w0.heap.size ≤ gr) (hT : TB w0) (hE : EG w0) :
    Calls Tryd.prog 39 #[.pointer (some ⟨gc, 0, none⟩), .int .u8 110, .pointer (some ⟨gr, 0, none⟩)] w fun e w' => e = .returned (.tuple #[]) ∧ RS M gc gr (rdp (c, r) 110) w w' := by
  have hn := rnumber_any M gr r a ac w0 w h.rx hB hg hT hE
  have HF : ∀ w1, RP M gr (rnum r).2 w w1 → Hid (w1.cell? ⟨gc, 9, none⟩ = some ((ccs c ma mc ka kc).getD 9 undef) ∧ w1.frozen? ⟨gc, 9, none⟩ = false ∧ RS M gc gr (rdp (c, r) 110) w (w1.setCell ⟨gc, 9, none⟩ (.int .i64 (rnum r).1))) := fun w1 h1 => ⟨by
    obtain ⟨a', ac', x⟩ := h1.rx
    have hb := (h.later h1.oth x).bc
    exact ⟨(hb.cell (j := 9) rfl).1, (hb.cell (j := 9) rfl).2, RS.one h h1 9 _ { c with st := { c.st with n := (rnum r).1 } } rfl rfl rfl⟩⟩
  go_enter Tryd.func39, Tryd.ntmps39
  go_wp2_with fail
  with_reducible refine Calls.mono hn ?_
  rintro e w1 ⟨rfl, r1⟩
  dsimp only
  obtain ⟨⟨q0, qf, q1⟩⟩ := HF w1 r1
  have HQ := Hid.mk q1
  clear HF hn r1 q1
  go_wp2_with fail
  go_end0
  exact ⟨rfl, HQ.out⟩
end Go.Proofs.YtgbkloihclbimaaDoor
