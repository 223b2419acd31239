/- The small calls: has, goes, Sectors, Off, Pending, Fall. -/
import Derived.Test.YtghdgddpdamhcaaGreatDsk
namespace Go.Proofs.YtghdgddpdamhcaaGreat
set_option linter.unusedVariables false
set_option linter.unusedSimpArgs false
open Go.RowKit
abbrev pt (p : Nat) : Value := .pointer (some ⟨p, 0, none⟩)
section
variable {w : World} {D : Dk} {st : St}
theorem DiskAt.c0 (h : DiskAt w D st) : w.cell? ⟨D.p, 0, none⟩ = some (rw_ D.g1 st.safe.length D.c1) := h.raw.cell 0
theorem DiskAt.c1 (h : DiskAt w D st) : w.cell? ⟨D.p, 1, none⟩ = some (rw_ D.g2 st.safe.length D.c2) := h.raw.cell 1
theorem DiskAt.c2 (h : DiskAt w D st) : w.cell? ⟨D.p, 2, none⟩ = some D.v3 := h.raw.cell 2
theorem DiskAt.c3 (h : DiskAt w D st) : w.cell? ⟨D.p, 3, none⟩ = some (.bool st.off) := h.raw.cell 3
theorem DiskAt.c4 (h : DiskAt w D st) : w.cell? ⟨D.p, 4, none⟩ = some (.bool st.opn) := h.raw.cell 4
theorem DiskAt.c5 (h : DiskAt w D st) : w.cell? ⟨D.p, 5, none⟩ = some (.int .i64 (st.fall : Int)) := h.raw.cell 5
end
theorem has_any (D : Dk) (st : St) (n : Int) (w : World) (h : DiskAt w D st) : Calls Tryz.prog 96 #[pt D.p, .int .i64 n] w fun e w' => e = .returned (.bool (st.has n)) ∧ w' = w := by
  have c0 := h.c0
  have hb : st.has n = decide (0 ≤ n ∧ n < st.safe.length) := rfl
  generalize st.safe.length = m at *
  generalize st.has n = b at *
  clear h
  go_enter Tryz.func96, Tryz.ntmps96
  go_wp2
  all_goals go_ret
  all_goals refine ⟨?_, rfl⟩
  all_goals subst hb
  all_goals simp_all
  all_goals omega
theorem sectors_any (D : Dk) (st : St) (w : World) (h : DiskAt w D st) : Calls Tryz.prog 32 #[pt D.p] w fun e w' => e = .returned (.int .i64 (st.safe.length : Int)) ∧ w' = w := by
  have c0 := h.c0
  clear h
  go_enter Tryz.func32, Tryz.ntmps32
  go_wp2
  go_ret
  exact ⟨rfl, rfl⟩
theorem off_any (D : Dk) (st : St) (w : World) (h : DiskAt w D st) : Calls Tryz.prog 49 #[pt D.p] w fun e w' => e = .returned (.bool st.off) ∧ w' = w := by
  have c0 := h.c3
  clear h
  go_enter Tryz.func49, Tryz.ntmps49
  go_wp2
  go_ret
  exact ⟨rfl, rfl⟩
/-- the pending row as a value -/
theorem DiskAt.v3 {w : World} {D : Dk} {st : St} (h : DiskAt w D st) : ∃ a c, D.v3 = .slice a st.pend.length c := by
  rcases h.raw.pend.2 with ⟨h1, h2⟩ | ⟨g, cap, cur, h1, _⟩
  · exact ⟨none, 0, by rw [h1, h2]⟩
  · exact ⟨_, cap, h1⟩
theorem pending_any (D : Dk) (st : St) (w : World) (h : DiskAt w D st) : Calls Tryz.prog 82 #[pt D.p] w fun e w' => e = .returned (.int .i64 (st.pend.length : Int)) ∧ w' = w := by
  have c0 := h.c2
  obtain ⟨a, c, e⟩ := h.v3
  rw [e] at c0
  clear h e
  go_enter Tryz.func82, Tryz.ntmps82
  go_wp2
  go_ret
  exact ⟨rfl, rfl⟩
theorem stp_set {w w' : World} {D : Dk} (j : Nat) (v : Value) (h : Stp w D w' D) : Stp w D (w'.setCell ⟨D.p, j, none⟩ v) D := ⟨rfl, h.fr.setCell _ _ _ (.inl (.inl rfl)), h.nw⟩
theorem fall_any (D : Dk) (st : St) (n : Int) (w : World) (hn : n ≤ 9223372036854775807) (h : DiskAt w D st) : Calls Tryz.prog 22 #[pt D.p, .int .i64 n] w fun e w' => e = .returned (.tuple #[]) ∧ DiskAt w' D (st.fallTo n) ∧ Stp w D w' D := by
  have c0 := h.c5
  have f0 := h.raw.frozen 5
  have fin : ∀ i : Int, i = (n.toNat : Int) → DiskAt (w.setCell ⟨D.p, 5, none⟩ (.int .i64 i)) D (st.fallTo n) ∧ Stp w D (w.setCell ⟨D.p, 5, none⟩ (.int .i64 i)) D := fun i hi => ⟨⟨h.wf.fallTo n hn, h.raw.setFall n.toNat hi⟩, stp_set 5 _ (Stp.refl _ _)⟩
  have H : Hid (∀ i : Int, i = (n.toNat : Int) → DiskAt (w.setCell ⟨D.p, 5, none⟩ (.int .i64 i)) D (st.fallTo n) ∧ Stp w D (w.setCell ⟨D.p, 5, none⟩ (.int .i64 i)) D) := ⟨fin⟩
  clear h fin
  go_enter Tryz.func22, Tryz.ntmps22
  go_wp2
  all_goals (first | go_end0 | refine bodyPost_ret (results_none rfl _ _ _) rfl ?_)
  all_goals refine ⟨rfl, H.out _ ?_⟩
  all_goals omega
section
variable {D : Dk} {n : Nat} {seen safe : List ByteArray} {pend : List (Nat × ByteArray)} {off opn : Bool}
theorem goes0 (w : World) (c5 : w.cell? ⟨D.p, 5, none⟩ = some (.int .i64 0)) : Calls Tryz.prog 107 #[pt D.p] w fun e w' => e = .returned (.bool false) ∧ w' = w := by
  go_enter Tryz.func107, Tryz.ntmps107
  go_wp2
  go_ret
  exact ⟨rfl, rfl⟩
theorem goes1 (w : World) (h : Raw w D n seen safe pend off opn 1) : Calls Tryz.prog 107 #[pt D.p] w fun e w' => e = .returned (.bool true) ∧ Raw w' D n seen safe pend true true 0 ∧ Stp w D w' D := by
  have c5 : w.cell? ⟨D.p, 5, none⟩ = some (.int .i64 1) := h.cell 5
  have c4 : w.cell? ⟨D.p, 4, none⟩ = some (.bool opn) := h.cell 4
  have c3 : w.cell? ⟨D.p, 3, none⟩ = some (.bool off) := h.cell 3
  have f5 := h.frozen 5
  have f4 := h.frozen 4
  have f3 := h.frozen 3
  have H : Hid (Raw w D n seen safe pend off opn 1) := ⟨h⟩
  clear h
  go_enter Tryz.func107, Tryz.ntmps107
  go_wp2
  go_ret
  exact ⟨rfl, ((H.out.setFall 0 rfl).setOff true).setOpn true, stp_set _ _ (stp_set _ _ (stp_set _ _ (Stp.refl _ _)))⟩
theorem goes2 (m : Nat) (hm : m ≤ 9223372036854775805) (w : World) (h : Raw w D n seen safe pend off opn (m + 2)) : Calls Tryz.prog 107 #[pt D.p] w fun e w' => e = .returned (.bool false) ∧ Raw w' D n seen safe pend off opn (m + 1) ∧ Stp w D w' D := by
  obtain ⟨i, hi⟩ : ∃ i : Int, i = ((m + 2 : Nat) : Int) := ⟨_, rfl⟩
  have c5 : w.cell? ⟨D.p, 5, none⟩ = some (.int .i64 i) := by rw [hi]; exact h.cell 5
  have f5 := h.frozen 5
  have H : Hid (Raw w D n seen safe pend off opn (m + 2)) := ⟨h⟩
  have e1 : (i == 0) = false := by rw [beq_eq_false_iff_ne]; omega
  have e2 : wrap64 (i - 1) = i - 1 := by unfold wrap64; omega
  have e3 : 0 < i - 1 := by omega
  have HI : Hid (i = ((m + 2 : Nat) : Int)) := ⟨hi⟩
  clear h hi
  go_enter Tryz.func107, Tryz.ntmps107
  go_wp2
  all_goals go_ret
  all_goals exact ⟨rfl, H.out.setFall (m + 1) (by have := HI.out; omega), stp_set _ _ (Stp.refl _ _)⟩
end
theorem goes_any (D : Dk) (st : St) (w : World) (h : DiskAt w D st) : Calls Tryz.prog 107 #[pt D.p] w fun e w' => e = .returned (.bool st.gone) ∧ DiskAt w' D st.went ∧ Stp w D w' D := by
  obtain ⟨safe, pend, off, opn, fall⟩ := st
  obtain ⟨wf, raw⟩ := h
  match fall, wf, raw with
  | 0, wf, raw =>
    refine (goes0 (D := D) w (raw.cell 5)).mono ?_
    rintro e w' ⟨rfl, rfl⟩
    exact ⟨rfl, ⟨wf.went, raw⟩, Stp.refl _ _⟩
  | 1, wf, raw =>
    refine (goes1 w raw).mono ?_
    rintro e w' ⟨rfl, r, s⟩
    exact ⟨rfl, ⟨wf.went, r⟩, s⟩
  | m + 2, wf, raw =>
    refine (goes2 m (by have := wf.fl; simp at this; omega) w raw).mono ?_
    rintro e w' ⟨rfl, r, s⟩
    have eg : St.gone ⟨safe, pend, off, opn, m + 2⟩ = false := by simp [St.gone]
    have ew : St.went ⟨safe, pend, off, opn, m + 2⟩ = ⟨safe, pend, off, opn, m + 1⟩ := by simp [St.went]
    refine ⟨by rw [eg], ⟨wf.went, by rw [ew]; exact r⟩, s⟩
end Go.Proofs.YtghdgddpdamhcaaGreat
