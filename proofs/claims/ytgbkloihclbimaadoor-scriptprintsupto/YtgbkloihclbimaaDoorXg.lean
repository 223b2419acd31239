/- Layer 22: read, the kept numbers. -/
import Derived.Test.YtgbkloihclbimaaDoorXe
namespace Go.Proofs.YtgbkloihclbimaaDoor
set_option maxRecDepth 100000
set_option linter.unusedVariables false
set_option linter.unusedSimpArgs false
open Go.RowKit
attribute [local go_sem ↓] Go.wp_at_zero Go.wp_at_succ
def rlen (w : World) (g : Nat) : Nat := match w.cell? ⟨g, 0, none⟩ with
  | some (.slice _ n _) => n
  | _ => 0
theorem rlen_rx {w : World} {M g : Nat} {r : Rr} {a : Option Addr} {c : Nat} (h : Rx w M g r a c) : rlen w g = r.1.length := by
  unfold rlen
  rw [h.cells.1]
/-- behind some of the kept numbers -/
structure KS (w wr : World) (M gc gr : Nat) (c : Cm) (r : Rr) (l : List Int) (q : Rr) (ma : Option Addr) (mc : Nat) (ka : Option Addr) (kc : Nat) (a : Option Addr) (ac : Nat) : Prop where
  cs : CS wr M gc gr (cK c l) q ma mc ka kc a ac
  bel : Below M w wr
  ko : KO gc gr w wr
  e1 : l ++ (kpts q.1 q.2).1 = c.st.kept ++ (kpts r.1 r.2).1
  e2 : (kpts q.1 q.2).2 = (kpts r.1 r.2).2
  len : l.length + q.1.length ≤ 1000000000000
theorem kpts_cons (t : By) (ws : List By) (b : Bool) : kpts (t :: ws) b = ((rnum (t :: ws, b)).1 :: (kpts ws (rnum (t :: ws, b)).2.2).1, (kpts ws (rnum (t :: ws, b)).2.2).2) := rfl
set_option maxHeartbeats 4000000 in
theorem read99 (M gc gr : Nat) (c : Cm) (r : Rr) (w0 w : World) (ma : Option Addr) (mc : Nat) (ka : Option Addr) (kc : Nat) (a : Option Addr) (ac : Nat) (h : CS w M gc gr c r ma mc ka kc a ac) (hB : Below w0.heap.size w0 w) (hg : w0.heap.size ≤ M) (hT : TB w0) (hE : EG w0) (hl : c.st.kept.length + r.1.length ≤ 1000000000000) :
    Calls Tryd.prog 39 #[.pointer (some ⟨gc, 0, none⟩), .int .u8 99, .pointer (some ⟨gr, 0, none⟩)] w fun e w' => e = .returned (.tuple #[]) ∧ RS M gc gr (rdp (c, r) 99) w w' := by
  have K0 : Hid (KS w w M gc gr c r c.st.kept r ma mc ka kc a ac) := ⟨⟨h, Below.refl _ _, KO.refl _ _ _, rfl, rfl, hl⟩⟩
  have hMg : M ≤ gr := h.rx.ge
  clear h hl
  go_enter Tryd.func39, Tryd.ntmps39
  go_wp2_with fail
  go_loopw [] (fun wr => ∃ l q ma mc ka kc a ac, Hid (KS w wr M gc gr c r l q ma mc ka kc a ac)) (fun wr => rlen wr gr)
  case atStart => exact ⟨_, _, _, _, _, _, _, _, K0⟩
  case round =>
    clear K0
    obtain ⟨l, ⟨ws, b⟩, ma, mc, ka, kc, a, ac, HK⟩ := hrel
    have hm := hasMore_any M gr (ws, b) a ac wr HK.out.cs.rx
    have HL := rlen_rx HK.out.cs.rx
    cases ws with
    | nil =>
      have HF : Hid (RS M gc gr (rdp (c, r) 99) w wr) := ⟨by
        have h1 : rdp (c, r) 99 = (cK c (c.st.kept ++ (kpts r.1 r.2).1), ([], (kpts r.1 r.2).2)) := rfl
        have e1 := HK.out.e1
        have e2 := HK.out.e2
        simp only [kpts, List.append_nil] at e1 e2
        rw [h1, ← e1, ← e2]
        exact ⟨⟨_, _, _, _, _, _, HK.out.cs⟩, HK.out.bel, HK.out.ko⟩⟩
      clear HL
      go_wp2_with fail
      with_reducible refine Calls.mono hm ?_
      rintro e w1 ⟨rfl, rfl⟩
      dsimp only
      go_wp2_with fail
      go_end0
      exact ⟨rfl, HF.out⟩
    | cons t ws =>
      have HL := Hid.mk HL
      have hBr := hB.trans (HK.out.bel.mono hg)
      have hc := rnumber_any M gr (t :: ws, b) a ac w0 wr.drew (HK.out.cs.rx.later (Below.refl _ _).drew) hBr.drew (Nat.le_trans hg hMg) hT hE
      have hkc : kpts (t :: ws) b = _ := kpts_cons t ws b
      have hq2 : (rnum (t :: ws, b)).2.1 = ws := rfl
      rw [show decide (0 < ((t :: ws, b) : Rr).1.length) = true from rfl] at hm
      generalize (rnum (t :: ws, b)).1 = n at *
      generalize (rnum (t :: ws, b)).2 = r2 at *
      have c0 : wr.cell? ⟨gc, 10, none⟩ = some (.slice ka l.length kc) := (HK.out.cs.bc.cell (j := 10) rfl).1
      have c1 : wr.drew.cell? ⟨gc, 10, none⟩ = some (.slice ka l.length kc) := c0
      have HE : Hid (∀ w2, RP M gr r2 wr.drew w2 → w2.cell? ⟨gc, 10, none⟩ = some (.slice ka l.length kc) ∧ (∀ o, (w2.alloc o).cell? ⟨gc, 10, none⟩ = some (.slice ka l.length kc)) ∧ ∃ ka' kc' w3, (∀ ty, (Builtin.append_ #[32, 32] ty #[.slice ka l.length kc, .slice (some ⟨w2.heap.size, 0, none⟩) 1 1]).run Tryd.prog (w2.alloc (.cells #[.int .i64 n] 3)) = .ok (.slice ka' (l.length + 1) kc') w3) ∧ w3.cell? ⟨gc, 10, none⟩ = some (.slice ka l.length kc) ∧ w3.frozen? ⟨gc, 10, none⟩ = false ∧ ∃ a' ac', Hid (KS w (w3.setCell ⟨gc, 10, none⟩ (.slice ka' (l.length + 1) kc')) M gc gr c r (l ++ [n]) r2 ma mc ka' kc' a' ac')) := ⟨fun w2 r1 => by
        obtain ⟨a', ac', x⟩ := r1.rx
        have o1 : Oth (fun x => x = gr) wr w2 := ⟨r1.oth.os, r1.oth.tape, r1.oth.output, r1.oth.size, r1.oth.block⟩
        have cs2 := HK.out.cs.later o1 x
        have hsz : M ≤ w2.heap.size := Nat.le_trans (Nat.le_of_lt (Nat.lt_of_le_of_lt hMg HK.out.cs.rx.lt)) o1.size
        have b2 : Below M wr w2 := oth_below o1 hMg (Nat.le_of_lt (Nat.lt_of_le_of_lt hMg HK.out.cs.rx.lt))
        have hlen := HK.out.len
        dsimp only at hlen
        obtain ⟨ka', kc', w3, hr, hq⟩ := run_is (l := l) n cs2.oi hsz (by omega)
        obtain ⟨f1, f2, f3⟩ := cs2.appK (n := n) hq
        have g0 := (cs2.bc.cell (j := 10) rfl).1
        refine ⟨g0, fun o => ((Below.refl _ _).alloc (Nat.le_refl _) o).cell (p := ⟨gc, 10, none⟩) (block_lt_of_cell g0) |>.trans g0, ka', kc', w3, hr, f1, f2, a', ac', ⟨f3, ?_, ?_, ?_, ?_, ?_⟩⟩
        · exact (HK.out.bel.trans (b2.trans hq.bel)).setCell (p := ⟨gc, 10, none⟩) HK.out.cs.ge _
        · exact (HK.out.ko.trans ((KO.of_oth o1).trans (KO.app hq.oth (.inr rfl)))).set 10 _
        · rw [← HK.out.e1, hkc, ← hq2]; simp
        · rw [← HK.out.e2, hkc, ← hq2]
        · rw [hq2, List.length_append]; simp at hlen ⊢; omega⟩
      have HR2 := Hid.mk hq2
      have hmeas : Hid (∀ w3 ka' kc' a' ac', KS w w3 M gc gr c r (l ++ [n]) r2 ma mc ka' kc' a' ac' → rlen w3 gr < rlen wr gr) := ⟨fun w3 ka' kc' a' ac' hk => by
        rw [rlen_rx hk.cs.rx, HL.out, hq2]; simp⟩
      clear hkc hq2 HL
      go_wp2_with fail
      with_reducible refine Calls.mono hm ?_
      rintro e wr ⟨rfl, rfl⟩
      dsimp only
      clear hm
      go_wp2_with fail
      go_region_law (first
        | ((first | ((with_reducible (refine at_stp rfl ?_)); go_simp) | skip); go_at_call 52; with_reducible refine Calls.mono hc ?_; rintro e w2 ⟨rfl, r1⟩; obtain ⟨e2, e3, ka', kc', w3, hr, f1, f2, a', ac', HKS⟩ := HE.out w2 r1)
        | ((with_reducible (refine at_sta rfl ?_)); refine step_run rfl _ _ rfl rfl rfl (hr _) ?_))
      all_goals go_wp2_with fail
      all_goals exact ⟨⟨_, _, _, _, _, _, _, _, HKS⟩, hmeas.out _ _ _ _ _ HKS.out⟩
end Go.Proofs.YtgbkloihclbimaaDoor
