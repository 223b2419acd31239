/- Layer 22: read, the pairs. -/
import Derived.Test.YtgbkloihclbimaaDoorXg
namespace Go.Proofs.YtgbkloihclbimaaDoor
set_option maxRecDepth 100000
set_option linter.unusedVariables false
set_option linter.unusedSimpArgs false
open Go.RowKit
attribute [local go_sem ↓] Go.wp_at_zero Go.wp_at_succ
/-- behind some of the pairs -/
structure MS (w wr : World) (M gc gr : Nat) (c : Cm) (r : Rr) (l : List En) (q : Rr) (ma : Option Addr) (mc : Nat) (ka : Option Addr) (kc : Nat) (a : Option Addr) (ac : Nat) : Prop where
  cs : CS wr M gc gr (cM c l) q ma mc ka kc a ac
  bel : Below M w wr
  ko : KO gc gr w wr
  e1 : l ++ (mets q.1 q.2).1 = c.st.mt ++ (mets r.1 r.2).1
  e2 : (mets q.1 q.2).2 = (mets r.1 r.2).2
  len : l.length + q.1.length ≤ 1000000000000
theorem txtO_nil : txtO [] = none := rfl
theorem mets_cons (t : By) (ws : List By) (b : Bool) : mets (t :: ws) b = (⟨(rtxt (t :: ws, b)).1, (rtxt (rtxt (t :: ws, b)).2).1⟩ :: (mets (rtxt (rtxt (t :: ws, b)).2).2.1 (rtxt (rtxt (t :: ws, b)).2).2.2).1, (mets (rtxt (rtxt (t :: ws, b)).2).2.1 (rtxt (rtxt (t :: ws, b)).2).2.2).2) := by
  cases ws with
  | nil =>
    have h : rtxt (rtxt ([t], b)).2 = ([], ([], true)) := by
      unfold rtxt nxtW
      simp [txtO_nil]
    rw [h]
    rfl
  | cons u ws => rfl
theorem rtxt_len (q : Rr) : (rtxt q).2.1 = q.1.tail := rfl
set_option maxHeartbeats 4000000 in
theorem read109 (M gc gr : Nat) (c : Cm) (r : Rr) (w0 w : World) (ma : Option Addr) (mc : Nat) (ka : Option Addr) (kc : Nat) (a : Option Addr) (ac : Nat) (h : CS w M gc gr c r ma mc ka kc a ac) (hB : Below w0.heap.size w0 w) (hg : w0.heap.size ≤ M) (hT : TB w0) (hE : EG w0) (hl : c.st.mt.length + r.1.length ≤ 1000000000000) :
    Calls Tryd.prog 39 #[.pointer (some ⟨gc, 0, none⟩), .int .u8 109, .pointer (some ⟨gr, 0, none⟩)] w fun e w' => e = .returned (.tuple #[]) ∧ RS M gc gr (rdp (c, r) 109) w w' := by
  have K0 : Hid (MS w w M gc gr c r c.st.mt r ma mc ka kc a ac) := ⟨⟨h, Below.refl _ _, KO.refl _ _ _, rfl, rfl, hl⟩⟩
  have hMg : M ≤ gr := h.rx.ge
  clear h hl
  go_enter Tryd.func39, Tryd.ntmps39
  go_wp2_with fail
  go_loopw [] (fun wr => ∃ l q ma mc ka kc a ac, Hid (MS w wr M gc gr c r l q ma mc ka kc a ac)) (fun wr => rlen wr gr)
  case atStart => exact ⟨_, _, _, _, _, _, _, _, K0⟩
  case round =>
    clear K0
    obtain ⟨l, ⟨ws, b⟩, ma, mc, ka, kc, a, ac, HK⟩ := hrel
    have hm := hasMore_any M gr (ws, b) a ac wr HK.out.cs.rx
    have HL := rlen_rx HK.out.cs.rx
    cases ws with
    | nil =>
      have HF : Hid (RS M gc gr (rdp (c, r) 109) w wr) := ⟨by
        have h1 : rdp (c, r) 109 = (cM c (c.st.mt ++ (mets r.1 r.2).1), ([], (mets r.1 r.2).2)) := rfl
        have e1 := HK.out.e1
        have e2 := HK.out.e2
        simp only [mets, List.append_nil] at e1 e2
        rw [h1, ← e1, ← e2]
        exact ⟨⟨_, _, _, _, _, _, HK.out.cs⟩, HK.out.bel, HK.out.ko⟩⟩
      clear HL
      go_wp2_with fail
      with_reducible refine Calls.mono hm ?_
      rintro e w1 ⟨rfl, rfl⟩
      dsimp only
      go_wp2_with fail
      go_end0
      exact ⟨rfl, HF.out⟩
    | cons t ws =>
      have HL := Hid.mk HL
      have hBr := hB.trans (HK.out.bel.mono hg)
      have hc := rtext_any M gr (t :: ws, b) a ac wr.drew (HK.out.cs.rx.later (Below.refl _ _).drew)
      have hkc : mets (t :: ws) b = _ := mets_cons t ws b
      rw [show decide (0 < ((t :: ws, b) : Rr).1.length) = true from rfl] at hm
      have hq2 : (rtxt (rtxt (t :: ws, b)).2).2.1 = ws.tail := rfl
      generalize (rtxt (t :: ws, b)).1 = n1 at *
      generalize (rtxt (t :: ws, b)).2 = r1 at *
      have hc2 := fun a ac w2 (hx : Rx w2 M gr r1 a ac) => rtext_any M gr r1 a ac w2 hx
      generalize (rtxt r1).1 = n2 at *
      generalize (rtxt r1).2 = r2 at *
      have c0 : wr.cell? ⟨gc, 7, none⟩ = some (.slice ma l.length mc) := (HK.out.cs.bc.cell (j := 7) rfl).1
      have c1 : wr.drew.cell? ⟨gc, 7, none⟩ = some (.slice ma l.length mc) := c0
      have HE1 : Hid (∀ w2, RP M gr r1 wr.drew w2 → w2.cell? ⟨gc, 7, none⟩ = some (.slice ma l.length mc) ∧ Calls Tryd.prog 53 #[.pointer (some ⟨gr, 0, none⟩)] w2 fun e w' => e = .returned (str n2) ∧ RP M gr r2 w2 w') := ⟨fun w2 r1' => by
        obtain ⟨a', ac', x⟩ := r1'.rx
        have o1 : Oth (fun x => x = gr) wr w2 := ⟨r1'.oth.os, r1'.oth.tape, r1'.oth.output, r1'.oth.size, r1'.oth.block⟩
        have cs2 := HK.out.cs.later o1 x
        exact ⟨(cs2.bc.cell (j := 7) rfl).1, hc2 _ _ _ x⟩⟩
      have HE : Hid (∀ w1 w2, RP M gr r1 wr.drew w1 → RP M gr r2 w1 w2 → w2.cell? ⟨gc, 7, none⟩ = some (.slice ma l.length mc) ∧ (∀ o, (w2.alloc o).cell? ⟨gc, 7, none⟩ = some (.slice ma l.length mc)) ∧ ∃ ma' mc' w3, (∀ ty, (Builtin.append_ #[31, 31] ty #[.slice ma l.length mc, .slice (some ⟨w2.heap.size, 0, none⟩) 1 1]).run Tryd.prog (w2.alloc (.cells #[str n1, str n2] 38)) = .ok (.slice ma' (l.length + 1) mc') w3) ∧ w3.cell? ⟨gc, 7, none⟩ = some (.slice ma l.length mc) ∧ w3.frozen? ⟨gc, 7, none⟩ = false ∧ ∃ a' ac', Hid (MS w (w3.setCell ⟨gc, 7, none⟩ (.slice ma' (l.length + 1) mc')) M gc gr c r (l ++ [⟨n1, n2⟩]) r2 ma' mc' ka kc a' ac')) := ⟨fun w1 w2 r1' r2' => by
        obtain ⟨a', ac', x⟩ := r2'.rx
        have o0 : Oth (fun x => x = gr) wr w1 := ⟨r1'.oth.os, r1'.oth.tape, r1'.oth.output, r1'.oth.size, r1'.oth.block⟩
        have o1 : Oth (fun x => x = gr) wr w2 := o0.trans r2'.oth
        have cs2 := HK.out.cs.later o1 x
        have hsz : M ≤ w2.heap.size := Nat.le_trans (Nat.le_of_lt (Nat.lt_of_le_of_lt hMg HK.out.cs.rx.lt)) o1.size
        have b2 : Below M wr w2 := oth_below o1 hMg (Nat.le_of_lt (Nat.lt_of_le_of_lt hMg HK.out.cs.rx.lt))
        have hlen := HK.out.len
        dsimp only at hlen
        obtain ⟨ma', mc', w3, hr, hq⟩ := run_ps (l := l) ⟨n1, n2⟩ cs2.ow hsz (by omega)
        obtain ⟨f1, f2, f3⟩ := cs2.appM (n := ⟨n1, n2⟩) hq
        have g0 := (cs2.bc.cell (j := 7) rfl).1
        refine ⟨g0, fun o => ((Below.refl _ _).alloc (Nat.le_refl _) o).cell (p := ⟨gc, 7, none⟩) (block_lt_of_cell g0) |>.trans g0, ma', mc', w3, hr, f1, f2, a', ac', ⟨f3, ?_, ?_, ?_, ?_, ?_⟩⟩
        · exact (HK.out.bel.trans (b2.trans hq.bel)).setCell (p := ⟨gc, 7, none⟩) HK.out.cs.ge _
        · exact (HK.out.ko.trans ((KO.of_oth o1).trans (KO.app hq.oth (.inl rfl)))).set 7 _
        · rw [← HK.out.e1, hkc]; simp
        · rw [← HK.out.e2, hkc]
        · rw [hq2, List.length_append]; simp at hlen ⊢; omega⟩
      have hmeas : Hid (∀ w3 ma' mc' a' ac', MS w w3 M gc gr c r (l ++ [⟨n1, n2⟩]) r2 ma' mc' ka kc a' ac' → rlen w3 gr < rlen wr gr) := ⟨fun w3 ma' mc' a' ac' hk => by
        rw [rlen_rx hk.cs.rx, HL.out, hq2]; simp; omega⟩
      clear hkc hq2 HL hc2
      go_wp2_with fail
      with_reducible refine Calls.mono hm ?_
      rintro e wr ⟨rfl, rfl⟩
      dsimp only
      clear hm
      go_wp2_with fail
      go_region_law (first
        | ((first | ((with_reducible (refine at_stp rfl ?_)); go_simp) | skip); go_at_call 53; with_reducible refine Calls.mono hc ?_; rintro e w2 ⟨rfl, q1⟩; obtain ⟨e1, hc3⟩ := HE1.out w2 q1)
        | ((first | ((with_reducible (refine at_stp rfl ?_)); go_simp) | skip); go_at_call 53; with_reducible refine Calls.mono hc3 ?_; rintro e w3 ⟨rfl, q2⟩; obtain ⟨e2, e3, ma', mc', w4, hr, f1, f2, a', ac', HKS⟩ := HE.out w2 w3 q1 q2)
        | ((with_reducible (refine at_sta rfl ?_)); refine step_run rfl _ _ rfl rfl rfl (hr _) ?_))
      all_goals go_wp2_with fail
      all_goals exact ⟨⟨_, _, _, _, _, _, _, _, HKS⟩, hmeas.out _ _ _ _ _ HKS.out⟩
end Go.Proofs.YtgbkloihclbimaaDoor
