/- The document's disk in memory, and its small calls. -/
import Derived.Test.YtmfjhdjphnogiaaEnv
namespace Go.Proofs.Ytmfjhdjphnogiaa
set_option linter.unusedVariables false
set_option linter.unusedSimpArgs false
open Go.RowKit
structure Rk where
  p : Nat
  v1 : Value
  v2 : Value
def Rk.foot (R : Rk) (k : Nat) : Prop := k = R.p ∨ R.v1.ownBlock = some k ∨ R.v2.ownBlock = some k
def rcells (R : Rk) (off opn : Bool) (fall : Nat) : Array Value := #[R.v1, R.v2, .bool off, .bool opn, .int .i64 (fall : Int)]
structure RRaw (w : World) (R : Rk) (safe : List ByteArray) (pend : List (Nat × ByteArray)) (off opn : Bool) (fall : Nat) : Prop where
  blk : w.heap[R.p]? = some (.cells (rcells R off opn fall) 75 (0, 0))
  safe : w.ownsRow 0 9 1 R.v1 safe.length (strv safe)
  pend : w.ownsRow 0 68 2 R.v2 pend.length (wcs pend)
  a1 : R.v1.ownBlock ≠ some R.p
  a2 : R.v2.ownBlock ≠ some R.p
  a3 : ∀ k, R.v1.ownBlock = some k → R.v2.ownBlock ≠ some k
structure RefAt (w : World) (R : Rk) (st : St) : Prop where
  wf : st.WF
  raw : RRaw w R st.safe st.pend st.off st.opn st.fall
structure RStp (w : World) (R : Rk) (w' : World) (R' : Rk) : Prop where
  p : R'.p = R.p
  fr : Fr R.foot w w'
  nw : ∀ k, R'.foot k → R.foot k ∨ w.heap.size ≤ k
theorem RStp.refl (w : World) (R : Rk) : RStp w R w R := ⟨rfl, Fr.refl _ _, fun _ h => .inl h⟩
theorem RStp.trans {a b c : World} {D D' D'' : Rk} (h : RStp a D b D') (k : RStp b D' c D'') : RStp a D c D'' :=
  ⟨k.p.trans h.p, h.fr.trans k.fr (fun i hi e => (h.nw i e).resolve_right (by omega)), fun i hi => by
    rcases k.nw i hi with h1 | h1
    · exact h.nw i h1
    · exact .inr (Nat.le_trans h.fr.size h1)⟩
section
variable {w w' : World} {R : Rk} {safe : List ByteArray} {pend : List (Nat × ByteArray)} {off opn : Bool} {fall : Nat}
theorem RRaw.cell (h : RRaw w R safe pend off opn fall) (j : Nat) : w.cell? ⟨R.p, j, none⟩ = (rcells R off opn fall)[j]? := cell_of_row w R.p j _ _ (0, 0) h.blk
theorem RRaw.frozen (h : RRaw w R safe pend off opn fall) (j : Nat) : w.frozen? ⟨R.p, j, none⟩ = false := frozen_of_row w R.p j _ _ h.blk
theorem RRaw.lt (h : RRaw w R safe pend off opn fall) : ∀ k, R.foot k → k < w.heap.size := by
  rintro k (rfl | hk | hk)
  · exact heap_lt h.blk
  · exact (h.safe.lt _ hk).2
  · exact (h.pend.lt _ hk).2
theorem RRaw.kept {S : Nat → Prop} (h : RRaw w R safe pend off opn fall) (fr : Fr S w w') (hs : ∀ k, R.foot k → ¬ S k) : RRaw w' R safe pend off opn fall :=
  ⟨fr.heap h.blk (hs _ (.inl rfl)), fr.own h.safe (fun k hk => hs k (.inr (.inl hk))), fr.own h.pend (fun k hk => hs k (.inr (.inr hk))), h.a1, h.a2, h.a3⟩
theorem RRaw.below (h : RRaw w R safe pend off opn fall) (b : Below w.heap.size w w') : RRaw w' R safe pend off opn fall := h.kept (Fr.of_below (S := fun _ => False) b) (fun _ _ e => e)
theorem RRaw.drew (h : RRaw w R safe pend off opn fall) : RRaw w.drew R safe pend off opn fall := ⟨h.blk, h.safe, h.pend, h.a1, h.a2, h.a3⟩
theorem RRaw.field {off' opn' : Bool} {fall' : Nat} (h : RRaw w R safe pend off opn fall) (j : Nat) (v : Value) (e : (rcells R off opn fall).setIfInBounds j v = rcells R off' opn' fall') : RRaw (w.setCell ⟨R.p, j, none⟩ v) R safe pend off' opn' fall' := by
  have fr : Fr (fun k => k = R.p) w (w.setCell ⟨R.p, j, none⟩ v) := fr_set w _ j v rfl
  exact ⟨by rw [cell_set _ _ _ _ _ _ h.blk, e], fr.own h.safe (fun k hk e => h.a1 (by rw [← e]; exact hk)), fr.own h.pend (fun k hk e => h.a2 (by rw [← e]; exact hk)), h.a1, h.a2, h.a3⟩
theorem RRaw.setOff (h : RRaw w R safe pend off opn fall) (b : Bool) : RRaw (w.setCell ⟨R.p, 2, none⟩ (.bool b)) R safe pend b opn fall := h.field 2 _ rfl
theorem RRaw.setOpn (h : RRaw w R safe pend off opn fall) (b : Bool) : RRaw (w.setCell ⟨R.p, 3, none⟩ (.bool b)) R safe pend off b fall := h.field 3 _ rfl
theorem RRaw.setFall (h : RRaw w R safe pend off opn fall) (m : Nat) {i : Int} (hi : i = (m : Int)) : RRaw (w.setCell ⟨R.p, 4, none⟩ (.int .i64 i)) R safe pend off opn m := by subst hi; exact h.field 4 _ rfl
theorem RRaw.setPend {pend' : List (Nat × ByteArray)} {v' : Value} (h : RRaw w R safe pend off opn fall) (ho : w.ownsRow 0 68 2 v' pend'.length (wcs pend')) (b1 : v'.ownBlock ≠ some R.p) (b2 : ∀ k, R.v1.ownBlock = some k → v'.ownBlock ≠ some k) :
    RRaw (w.setCell ⟨R.p, 1, none⟩ v') { R with v2 := v' } safe pend' off opn fall := by
  have fr : Fr (fun k => k = R.p) w (w.setCell ⟨R.p, 1, none⟩ v') := fr_set w _ 1 v' rfl
  exact ⟨by rw [cell_set _ _ _ _ _ _ h.blk]; rfl, fr.own h.safe (fun k hk e => h.a1 (by rw [← e]; exact hk)), fr.own ho (fun k hk e => b1 (by rw [← e]; exact hk)), h.a1, b1, b2⟩
theorem RRaw.noPend (h : RRaw w R safe pend off opn fall) : RRaw (w.setCell ⟨R.p, 1, none⟩ (.slice none 0 0)) { R with v2 := .slice none 0 0 } safe [] off opn fall :=
  h.setPend (pend' := []) (World.ownsRow_nil _ _ _ _) (by simp [Value.ownBlock]) (fun k _ => by simp [Value.ownBlock])
/-- the safe row as a value -/
theorem RRaw.v1 (h : RRaw w R safe pend off opn fall) (hl : 1 ≤ safe.length) : ∃ g c, R.v1 = rw_ g safe.length c := by
  rcases h.safe.2 with ⟨_, h2⟩ | ⟨g, cap, cur, h1, _⟩
  · omega
  · exact ⟨g, cap, h1⟩
theorem RRaw.v2 (h : RRaw w R safe pend off opn fall) : ∃ a c, R.v2 = .slice a pend.length c := by
  rcases h.pend.2 with ⟨h1, h2⟩ | ⟨g, cap, cur, h1, _⟩
  · exact ⟨none, 0, by rw [h1, h2]⟩
  · exact ⟨_, cap, h1⟩
theorem RRaw.safeAt (h : RRaw w R safe pend off opn fall) {g n c : Nat} (e : R.v1 = rw_ g n c) (j : Nat) (hj : j < safe.length) : w.cell? ⟨g, j, none⟩ = some (.string (safe.getD j ByteArray.empty)) ∧ w.frozen? ⟨g, j, none⟩ = false := by
  have ho := h.safe
  obtain ⟨g', c', e'⟩ := h.v1 (by omega)
  rw [e'] at e
  injection e with e1 e2 e3
  injection e1 with e1
  injection e1 with e1
  subst e1
  rw [e'] at ho
  refine ⟨?_, ho.frozenAt j⟩
  rw [ho.cellAt j (by omega)]
  simp [strv, List.getD_eq_getElem?_getD, List.getElem?_eq_getElem hj]
theorem RRaw.pendAt (h : RRaw w R safe pend off opn fall) {a : Option Addr} {m c : Nat} (e : R.v2 = .slice a m c) (k : Nat) (p : Nat × ByteArray) (hk : pend[k]? = some p) : ∃ y, a = some ⟨y, 0, none⟩ ∧ R.foot y ∧ w.cell? ⟨y, k * 2, none⟩ = some (.int .i64 (p.1 : Int)) ∧ w.cell? ⟨y, k * 2 + 1, none⟩ = some (.string p.2) := by
  have hkl : k < pend.length := (List.getElem?_eq_some_iff.1 hk).1
  rcases h.pend.2 with ⟨_, h0⟩ | ⟨y, cap, cur, hv, _⟩
  · omega
  · have e2 : some (⟨y, 0, none⟩ : Addr) = a := by rw [hv] at e; injection e
    have ho := h.pend
    rw [hv] at ho
    refine ⟨y, e2.symm, .inr (.inr (by rw [hv]; rfl)), ?_, ?_⟩
    · rw [ho.cellAt (k * 2) (by omega)]; exact (wcs_at _ _ _ hk).1
    · rw [ho.cellAt (k * 2 + 1) (by omega)]; exact (wcs_at _ _ _ hk).2
theorem RRaw.setSafe (h : RRaw w R safe pend off opn fall) {g n c : Nat} (e : R.v1 = rw_ g n c) (hl : 1 ≤ safe.length) (j : Nat) (t : ByteArray) : RRaw (w.setCell ⟨g, j, none⟩ (.string t)) R (safe.set j t) pend off opn fall := by
  have ho := h.safe
  obtain ⟨g', c', e'⟩ := h.v1 hl
  rw [e'] at e
  injection e with e1 e2 e3
  injection e1 with e1
  injection e1 with e1
  subst e1
  rw [e'] at ho
  obtain ⟨o1, _⟩ := ho.stored j (.string t)
  rw [strv_set] at o1
  have fr : Fr (fun k => k = g') w (w.setCell ⟨g', j, none⟩ (.string t)) := fr_set w _ j _ rfl
  refine ⟨fr.heap h.blk (fun e => h.a1 (by rw [e', e]; rfl)), by rw [e', List.length_set]; exact o1, fr.own h.pend (fun k hk e => h.a3 k (by rw [e', e]; rfl) hk), h.a1, h.a2, h.a3⟩
end
section
variable {w w' : World} {R : Rk} {st : St}
theorem RefAt.kept {S : Nat → Prop} (h : RefAt w R st) (fr : Fr S w w') (hs : ∀ k, R.foot k → ¬ S k) : RefAt w' R st := ⟨h.wf, h.raw.kept fr hs⟩
theorem RefAt.c0 (h : RefAt w R st) : w.cell? ⟨R.p, 0, none⟩ = some R.v1 := h.raw.cell 0
theorem RefAt.c1 (h : RefAt w R st) : w.cell? ⟨R.p, 1, none⟩ = some R.v2 := h.raw.cell 1
theorem RefAt.c2 (h : RefAt w R st) : w.cell? ⟨R.p, 2, none⟩ = some (.bool st.off) := h.raw.cell 2
theorem RefAt.c3 (h : RefAt w R st) : w.cell? ⟨R.p, 3, none⟩ = some (.bool st.opn) := h.raw.cell 3
theorem RefAt.c4 (h : RefAt w R st) : w.cell? ⟨R.p, 4, none⟩ = some (.int .i64 (st.fall : Int)) := h.raw.cell 4
theorem rstp_set {R : Rk} (j : Nat) (v : Value) (h : RStp w R w' R) : RStp w R (w'.setCell ⟨R.p, j, none⟩ v) R := ⟨rfl, h.fr.setCell _ _ _ (.inl (.inl rfl)), h.nw⟩
end
theorem none_any (R : Rk) (st : St) (n : Int) (w : World) (h : RefAt w R st) : Calls Try.prog 54 #[pt R.p, .int .i64 n] w fun e w' => e = .returned (.bool (!st.has n)) ∧ w' = w := by
  have c0 := h.c0
  obtain ⟨g, c, e⟩ := h.raw.v1 h.wf.lo
  rw [e] at c0
  have hb : (!st.has n) = !decide (0 ≤ n ∧ n < st.safe.length) := rfl
  generalize st.safe.length = m at *
  generalize (!st.has n) = b at *
  clear h e
  go_enter Try.func54, Try.ntmps54
  go_wp2
  all_goals go_ret
  all_goals refine ⟨?_, rfl⟩
  all_goals subst hb
  all_goals first
    | (simp_all; done)
    | (simp_all; omega)
    | (simp_all; rw [Bool.eq_iff_iff]; simp; omega)
theorem rSectors_any (R : Rk) (st : St) (w : World) (h : RefAt w R st) : Calls Try.prog 45 #[pt R.p] w fun e w' => e = .returned (.int .i64 (st.safe.length : Int)) ∧ w' = w := by
  have c0 := h.c0
  obtain ⟨g, c, e⟩ := h.raw.v1 h.wf.lo
  rw [e] at c0
  clear h e
  go_enter Try.func45, Try.ntmps45
  go_wp2
  go_ret
  exact ⟨rfl, rfl⟩
theorem rOff_any (R : Rk) (st : St) (w : World) (h : RefAt w R st) : Calls Try.prog 43 #[pt R.p] w fun e w' => e = .returned (.bool st.off) ∧ w' = w := by
  have c0 := h.c2
  clear h
  go_enter Try.func43, Try.ntmps43
  go_wp2
  go_ret
  exact ⟨rfl, rfl⟩
theorem rPending_any (R : Rk) (st : St) (w : World) (h : RefAt w R st) : Calls Try.prog 44 #[pt R.p] w fun e w' => e = .returned (.int .i64 (st.pend.length : Int)) ∧ w' = w := by
  have c0 := h.c1
  obtain ⟨a, c, e⟩ := h.raw.v2
  rw [e] at c0
  clear h e
  go_enter Try.func44, Try.ntmps44
  go_wp2
  go_ret
  exact ⟨rfl, rfl⟩
theorem rFall_any (R : Rk) (st : St) (n : Int) (w : World) (hn : n ≤ 9223372036854775807) (h : RefAt w R st) : Calls Try.prog 40 #[pt R.p, .int .i64 n] w fun e w' => e = .returned (.tuple #[]) ∧ RefAt w' R (st.fallTo n) ∧ RStp w R w' R := by
  have c0 := h.c4
  have f0 := h.raw.frozen 4
  have H : Hid (RefAt w R st) := ⟨h⟩
  clear h
  by_cases hn1 : n < 1
  · have e0 : n.toNat = 0 := by omega
    have fin : Hid (RefAt ((w.setCell ⟨R.p, 4, none⟩ (.int .i64 n)).setCell ⟨R.p, 4, none⟩ (.int .i64 0)) R (st.fallTo n) ∧ RStp w R ((w.setCell ⟨R.p, 4, none⟩ (.int .i64 n)).setCell ⟨R.p, 4, none⟩ (.int .i64 0)) R) := by
      refine ⟨⟨H.out.wf.fallTo n hn, ?_⟩, rstp_set _ _ (rstp_set _ _ (RStp.refl _ _))⟩
      have fr : Fr (fun k => k = R.p) w ((w.setCell ⟨R.p, 4, none⟩ (.int .i64 n)).setCell ⟨R.p, 4, none⟩ (.int .i64 0)) := (fr_set (S := fun k => k = R.p) w R.p 4 _ rfl).setCell _ _ _ (.inl rfl)
      have r := H.out.raw
      refine ⟨?_, fr.own r.safe (fun k hk e => r.a1 (by rw [← e]; exact hk)), fr.own r.pend (fun k hk e => r.a2 (by rw [← e]; exact hk)), r.a1, r.a2, r.a3⟩
      rw [cell_set _ _ _ _ _ _ (cell_set _ _ _ _ _ _ r.blk)]
      show _ = some (Obj.cells (rcells R st.off st.opn n.toNat) 75 (0, 0))
      rw [e0]; rfl
    go_enter Try.func40, Try.ntmps40
    go_wp2
    all_goals (first | go_end0 | refine bodyPost_ret (results_none rfl _ _ _) rfl ?_)
    exact ⟨rfl, fin.out⟩
  · have fin : Hid (RefAt (w.setCell ⟨R.p, 4, none⟩ (.int .i64 n)) R (st.fallTo n) ∧ RStp w R (w.setCell ⟨R.p, 4, none⟩ (.int .i64 n)) R) :=
      ⟨⟨H.out.wf.fallTo n hn, H.out.raw.setFall n.toNat (by omega)⟩, rstp_set _ _ (RStp.refl _ _)⟩
    go_enter Try.func40, Try.ntmps40
    go_wp2
    all_goals (first | go_end0 | refine bodyPost_ret (results_none rfl _ _ _) rfl ?_)
    exact ⟨rfl, fin.out⟩
section
variable {R : Rk} {safe : List ByteArray} {pend : List (Nat × ByteArray)} {off opn : Bool}
theorem falls0 (w : World) (c5 : w.cell? ⟨R.p, 4, none⟩ = some (.int .i64 0)) : Calls Try.prog 55 #[pt R.p] w fun e w' => e = .returned (.bool false) ∧ w' = w := by
  go_enter Try.func55, Try.ntmps55
  go_wp2
  go_ret
  exact ⟨rfl, rfl⟩
theorem falls1 (w : World) (h : RRaw w R safe pend off opn 1) : Calls Try.prog 55 #[pt R.p] w fun e w' => e = .returned (.bool true) ∧ RRaw w' R safe pend true true 0 ∧ RStp w R w' R := by
  have c5 : w.cell? ⟨R.p, 4, none⟩ = some (.int .i64 1) := h.cell 4
  have c4 : w.cell? ⟨R.p, 3, none⟩ = some (.bool opn) := h.cell 3
  have c3 : w.cell? ⟨R.p, 2, none⟩ = some (.bool off) := h.cell 2
  have f5 := h.frozen 4
  have f4 := h.frozen 3
  have f3 := h.frozen 2
  have H : Hid (RRaw w R safe pend off opn 1) := ⟨h⟩
  clear h
  go_enter Try.func55, Try.ntmps55
  go_wp2
  go_ret
  exact ⟨rfl, ((H.out.setFall 0 rfl).setOff true).setOpn true, rstp_set _ _ (rstp_set _ _ (rstp_set _ _ (RStp.refl _ _)))⟩
theorem falls2 (m : Nat) (hm : m ≤ 9223372036854775805) (w : World) (h : RRaw w R safe pend off opn (m + 2)) : Calls Try.prog 55 #[pt R.p] w fun e w' => e = .returned (.bool false) ∧ RRaw w' R safe pend off opn (m + 1) ∧ RStp w R w' R := by
  obtain ⟨i, hi⟩ : ∃ i : Int, i = ((m + 2 : Nat) : Int) := ⟨_, rfl⟩
  have c5 : w.cell? ⟨R.p, 4, none⟩ = some (.int .i64 i) := by rw [hi]; exact h.cell 4
  have f5 := h.frozen 4
  have H : Hid (RRaw w R safe pend off opn (m + 2)) := ⟨h⟩
  have e1 : (i == 0) = false := by rw [beq_eq_false_iff_ne]; omega
  have e2 : wrap64 (i - 1) = i - 1 := by unfold wrap64; omega
  have e3 : 0 < i - 1 := by omega
  have HI : Hid (i = ((m + 2 : Nat) : Int)) := ⟨hi⟩
  clear h hi
  go_enter Try.func55, Try.ntmps55
  go_wp2
  all_goals go_ret
  all_goals exact ⟨rfl, H.out.setFall (m + 1) (by have := HI.out; omega), rstp_set _ _ (RStp.refl _ _)⟩
end
theorem falls_any (R : Rk) (st : St) (w : World) (h : RefAt w R st) : Calls Try.prog 55 #[pt R.p] w fun e w' => e = .returned (.bool st.gone) ∧ RefAt w' R st.went ∧ RStp w R w' R := by
  obtain ⟨safe, pend, off, opn, fall⟩ := st
  obtain ⟨wf, raw⟩ := h
  match fall, wf, raw with
  | 0, wf, raw =>
    refine (falls0 (R := R) w (raw.cell 4)).mono ?_
    rintro e w' ⟨rfl, rfl⟩
    exact ⟨rfl, ⟨wf.went, raw⟩, RStp.refl _ _⟩
  | 1, wf, raw =>
    refine (falls1 w raw).mono ?_
    rintro e w' ⟨rfl, r, s⟩
    exact ⟨rfl, ⟨wf.went, r⟩, s⟩
  | m + 2, wf, raw =>
    refine (falls2 m (by have := wf.fl; simp at this; omega) w raw).mono ?_
    rintro e w' ⟨rfl, r, s⟩
    have eg : St.gone ⟨safe, pend, off, opn, m + 2⟩ = false := by simp [St.gone]
    have ew : St.went ⟨safe, pend, off, opn, m + 2⟩ = ⟨safe, pend, off, opn, m + 1⟩ := by simp [St.went]
    refine ⟨by rw [eg], ⟨wf.went, by rw [ew]; exact r⟩, s⟩
end Go.Proofs.Ytmfjhdjphnogiaa
