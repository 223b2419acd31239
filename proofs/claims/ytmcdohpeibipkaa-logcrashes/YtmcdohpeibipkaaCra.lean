/- Crash, On. -/
import Derived.Test.YtmcdohpeibipkaaStl
namespace Go.Proofs.Ytmcdohpeibipkaa
set_option linter.unusedVariables false
set_option linter.unusedSimpArgs false
open Go.RowKit
theorem DiskAt.setOff {w : World} {D : Dk} {st : St} (h : DiskAt w D st) (b : Bool) : DiskAt (w.setCell ⟨D.p, 3, none⟩ (.bool b)) D { st with off := b } := ⟨⟨h.wf.lo, h.wf.hi, h.wf.sz, h.wf.pd, h.wf.fl⟩, h.raw.setOff b⟩
theorem Stp.set {w w' : World} {D D' : Dk} (h : Stp w D w' D') (j : Nat) (v : Value) : Stp w D (w'.setCell ⟨D'.p, j, none⟩ v) D' := ⟨h.p, h.fr.setCell _ _ _ (.inl (.inl h.p)), h.nw⟩
theorem crash_any (D : Dk) (st : St) (a : Option Addr) (cap : Nat) (zs : List Int) (w : World) (h : DiskAt w D st) (hpl : st.pend.length ≤ 9000000000000) (hl : zs.length ≤ 20000000000000) (hz : IIn w a zs) :
    Calls Try.prog 13 #[pt D.p, .slice a zs.length cap] w fun e w' => e = .returned (.tuple #[]) ∧ ∃ D', DiskAt w' D' (st.crash zs) ∧ Stp w D w' D' := by
  have c3 := h.c3
  have c4 := h.c4
  have H : Hid (DiskAt w D st) := ⟨h⟩
  clear h
  by_cases hc : (st.off && !st.opn) = true
  · have e1 : st.crash zs = st := by unfold St.crash; rw [if_pos hc]
    rw [e1]
    have h2 : st.off = true ∧ st.opn = false := by simpa using hc
    rw [h2.1] at c3
    rw [h2.2] at c4
    clear hc h2 e1
    go_enter Try.func13, Try.ntmps13
    go_wp2
    all_goals (first | go_end0 | refine bodyPost_ret (results_none rfl _ _ _) rfl ?_)
    exact ⟨rfl, D, H.out, Stp.refl _ _⟩
  · have e1 : st.crash zs = { st.settle zs with off := true } := by unfold St.crash; rw [if_neg hc]
    rw [e1]
    have fin : ∀ w1 D1, DiskAt w1 D1 (st.settle zs) → Stp w D w1 D1 → ∃ D', DiskAt (w1.setCell ⟨D1.p, 3, none⟩ (.bool true)) D' { st.settle zs with off := true } ∧ Stp w D (w1.setCell ⟨D1.p, 3, none⟩ (.bool true)) D' := fun w1 D1 h1 s1 => ⟨D1, h1.setOff true, s1.set 3 _⟩
    have HF : Hid (∀ w1 D1, DiskAt w1 D1 (st.settle zs) → Stp w D w1 D1 → ∃ D', DiskAt (w1.setCell ⟨D1.p, 3, none⟩ (.bool true)) D' { st.settle zs with off := true } ∧ Stp w D (w1.setCell ⟨D1.p, 3, none⟩ (.bool true)) D') := ⟨fin⟩
    clear fin e1
    have C : Hid (w.cell? ⟨D.p, 3, none⟩ = some (.bool st.off) ∧ w.cell? ⟨D.p, 4, none⟩ = some (.bool st.opn)) := ⟨c3, c4⟩
    clear c3 c4
    have hrest : ∀ (o q : Bool), (o && !q) = false → w.cell? ⟨D.p, 3, none⟩ = some (.bool o) → w.cell? ⟨D.p, 4, none⟩ = some (.bool q) → Calls Try.prog 13 #[pt D.p, .slice a zs.length cap] w fun e w' => e = .returned (.tuple #[]) ∧ ∃ D', DiskAt w' D' { st.settle zs with off := true } ∧ Stp w D w' D' := by
      intro o q hoq c3 c4
      cases o with
      | false =>
        go_enter Try.func13, Try.ntmps13
        go_wp2_with fail
        refine (settle_any D st a cap zs _ H.out hpl hl hz).mono ?_
        rintro e w1 ⟨rfl, D1, d1, s1⟩
        have c31 := d1.c3
        have f31 := d1.raw.frozen 3
        rw [s1.p] at c31 f31
        have F1 := HF.out w1 D1 d1 s1
        rw [s1.p] at F1
        have G : Hid (∃ D', DiskAt (w1.setCell ⟨D.p, 3, none⟩ (.bool true)) D' { st.settle zs with off := true } ∧ Stp w D (w1.setCell ⟨D.p, 3, none⟩ (.bool true)) D') := ⟨F1⟩
        clear F1 d1 s1
        dsimp only
        go_wp2
        all_goals (first | go_end0 | refine bodyPost_ret (results_none rfl _ _ _) rfl ?_)
        exact ⟨rfl, G.out⟩
      | true =>
        have hq : q = true := by simpa using hoq
        subst hq
        go_enter Try.func13, Try.ntmps13
        go_wp2_with fail
        refine (settle_any D st a cap zs _ H.out hpl hl hz).mono ?_
        rintro e w1 ⟨rfl, D1, d1, s1⟩
        have c31 := d1.c3
        have f31 := d1.raw.frozen 3
        rw [s1.p] at c31 f31
        have F1 := HF.out w1 D1 d1 s1
        rw [s1.p] at F1
        have G : Hid (∃ D', DiskAt (w1.setCell ⟨D.p, 3, none⟩ (.bool true)) D' { st.settle zs with off := true } ∧ Stp w D (w1.setCell ⟨D.p, 3, none⟩ (.bool true)) D') := ⟨F1⟩
        clear F1 d1 s1
        dsimp only
        go_wp2
        all_goals (first | go_end0 | refine bodyPost_ret (results_none rfl _ _ _) rfl ?_)
        exact ⟨rfl, G.out⟩
    exact hrest st.off st.opn (by simpa using hc) C.out.1 C.out.2
theorem on_any (D : Dk) (st : St) (w : World) (h : DiskAt w D st) (hpl : st.pend.length ≤ 9000000000000) :
    Calls Try.prog 14 #[pt D.p] w fun e w' => e = .returned (.tuple #[]) ∧ ∃ D', DiskAt w' D' st.on ∧ Stp w D w' D' := by
  have c3 := h.c3
  have c4 := h.c4
  have f3 := h.raw.frozen 3
  have H : Hid (DiskAt w D st) := ⟨h⟩
  clear h
  cases ho : st.opn with
  | false =>
    have e1 : st.on = { st with off := false } := by unfold St.on; rw [if_neg (by rw [ho]; simp)]
    have G : Hid (DiskAt (w.setCell ⟨D.p, 3, none⟩ (.bool false)) D { st with off := false }) := ⟨H.out.setOff false⟩
    rw [e1]
    rw [ho] at c4
    clear e1 ho
    go_enter Try.func14, Try.ntmps14
    go_wp2
    all_goals (first | go_end0 | refine bodyPost_ret (results_none rfl _ _ _) rfl ?_)
    exact ⟨rfl, D, G.out, (Stp.refl _ _).set 3 _⟩
  | true =>
    have e1 : st.on = { st.settle [] with off := false } := by unfold St.on; rw [if_pos ho]
    rw [e1]
    rw [ho] at c4
    clear e1 ho
    go_enter Try.func14, Try.ntmps14
    go_wp2_with fail
    refine (settle_any D st none 0 [] _ H.out hpl (by simp) (IIn.nil _ _)).mono ?_
    rintro e w1 ⟨rfl, D1, d1, s1⟩
    have c31 := d1.c3
    have f31 := d1.raw.frozen 3
    have G : Hid (∃ D', DiskAt (w1.setCell ⟨D1.p, 3, none⟩ (.bool false)) D' { st.settle [] with off := false } ∧ Stp w D (w1.setCell ⟨D1.p, 3, none⟩ (.bool false)) D') := ⟨D1, d1.setOff false, s1.set 3 _⟩
    rw [s1.p] at c31 f31 G
    clear d1 s1
    dsimp only
    go_wp2
    all_goals (first | go_end0 | refine bodyPost_ret (results_none rfl _ _ _) rfl ?_)
    exact ⟨rfl, G.out⟩
end Go.Proofs.Ytmcdohpeibipkaa
