import Derived.Test.YtiifkcnpdihlmaaDoorYe
import Derived.Test.YtiifkcnpdihlmaaDoorGf
import Derived.Test.YtiifkcnpdihlmaaDoorGb
import Derived.Test.YtiifkcnpdihlmaaDoorGd
/- Layer 22: what the document's Cleared tells (no model first). -/
namespace Go.Proofs.YtiifkcnpdihlmaaDoor
set_option maxRecDepth 100000
set_option linter.unusedVariables false
set_option linter.unusedSimpArgs false
open Go.RowKit
attribute [local go_sem ↓] Go.wp_at_zero Go.wp_at_succ ix9
/-- what follows a step's word, in the document's letters -/
def wnt (k : Int) : By :=
  if k = 1 then [98] else if k = 2 then [98] else if k = 3 then [98, 107, 100, 77] else if k = 4 then [98, 107] else if k = 5 then [98, 107, 115]
  else if k = 6 then [98, 107] else if k = 7 then [98, 107, 115] else if k = 8 then [98, 107, 110] else if k = 9 then [98, 107, 110] else if k = 10 then []
  else if k = 11 then [98] else if k = 12 then [98, 115] else if k = 13 then [98, 100] else if k = 14 then [98, 100] else if k = 15 then [98, 110] else if k = 16 then [98, 110]
  else if k = 17 then [110] else [110, 75]
def nmF (k : Int) : By := ((shps.find? (fun s => s.kind == 2 && s.step == k)).getD ⟨[], 0, 0, []⟩).name
theorem later_any (k : Int) (h1 : 12 ≤ k) (h2 : k ≤ 18) (w : World) : Calls Tryd.prog 60 #[.int .i64 k] w fun e w' => e = .returned (.tuple #[str (nmF k), str (wnt k)]) ∧ w' = w := by
  have hk : k = 12 ∨ k = 13 ∨ k = 14 ∨ k = 15 ∨ k = 16 ∨ k = 17 ∨ k = 18 := by omega
  rcases hk with rfl | rfl | rfl | rfl | rfl | rfl | rfl
  all_goals
    go_enter Tryd.func60, Tryd.ntmps60
    go_wp2_with fail
    refine bodyPost_ret (results_tmp2 rfl _ _ _) rfl ?_
    exact ⟨rfl, rfl⟩
theorem form_any (k : Int) (h1 : 1 ≤ k) (h2 : k ≤ 18) (w : World) : Calls Tryd.prog 46 #[.int .i64 k] w fun e w' => e = .returned (.tuple #[str (nmF k), str (wnt k)]) ∧ w' = w := by
  by_cases h : 12 ≤ k
  · have hl := later_any k h h2 w
    have hk : k = 12 ∨ k = 13 ∨ k = 14 ∨ k = 15 ∨ k = 16 ∨ k = 17 ∨ k = 18 := by omega
    rcases hk with rfl | rfl | rfl | rfl | rfl | rfl | rfl
    all_goals
      go_enter Tryd.func46, Tryd.ntmps46
      go_wp2_with fail
      refine Calls.mono hl ?_
      rintro e w1 ⟨rfl, rfl⟩
      dsimp only
      go_wp2_with fail
      refine bodyPost_ret (results_tmp2 rfl _ _ _) rfl ?_
      exact ⟨rfl, rfl⟩
  · have hk : k = 1 ∨ k = 2 ∨ k = 3 ∨ k = 4 ∨ k = 5 ∨ k = 6 ∨ k = 7 ∨ k = 8 ∨ k = 9 ∨ k = 10 ∨ k = 11 := by omega
    rcases hk with rfl | rfl | rfl | rfl | rfl | rfl | rfl | rfl | rfl | rfl | rfl
    all_goals
      go_enter Tryd.func46, Tryd.ntmps46
      go_wp2_with fail
      refine bodyPost_ret (results_tmp2 rfl _ _ _) rfl ?_
      exact ⟨rfl, rfl⟩
/-- a step of which some parts alone are taken -/
def ptl (r : Cr) (p : By) : Cr := ⟨⟨0, 0, 0, ⟨r.c.st.kind, if 98 ∈ p then r.c.st.bucket else [], if 107 ∈ p then r.c.st.key else [], if 100 ∈ p then r.c.st.data else [], if 77 ∈ p then r.c.st.mt else [], if 115 ∈ p then r.c.st.seq else 0, if 110 ∈ p then r.c.st.n else 0, if 75 ∈ p then r.c.st.kept else []⟩, []⟩, if 77 ∈ p then r.ma else none, if 77 ∈ p then r.mc else 0, if 75 ∈ p then r.ka else none, if 75 ∈ p then r.kc else 0⟩
abbrev sclR (r : Cr) : Array Value := scl r.c r.ma r.mc r.ka r.kc
theorem ptl_nil (r : Cr) : sclR (ptl r []) = #[.int .i64 r.c.st.kind, .string ⟨#[]⟩, .string ⟨#[]⟩, .string ⟨#[]⟩, .slice none 0 0, .int .i64 0, .int .i64 0, .slice none 0 0] := by simp [ptl, scl]
theorem ptl98 (r : Cr) (p : By) : sclR (ptl r (p ++ [98])) = (sclR (ptl r p)).set! 1 (str r.c.st.bucket) := by simp [ptl, scl]
theorem ptl107 (r : Cr) (p : By) : sclR (ptl r (p ++ [107])) = (sclR (ptl r p)).set! 2 (str r.c.st.key) := by simp [ptl, scl]
theorem ptl100 (r : Cr) (p : By) : sclR (ptl r (p ++ [100])) = (sclR (ptl r p)).set! 3 (str r.c.st.data) := by simp [ptl, scl]
theorem ptl77 (r : Cr) (p : By) : sclR (ptl r (p ++ [77])) = (sclR (ptl r p)).set! 4 (.slice r.ma r.c.st.mt.length r.mc) := by simp [ptl, scl]
theorem ptl115 (r : Cr) (p : By) : sclR (ptl r (p ++ [115])) = (sclR (ptl r p)).set! 5 (.int .i64 r.c.st.seq) := by simp [ptl, scl]
theorem ptl110 (r : Cr) (p : By) : sclR (ptl r (p ++ [110])) = (sclR (ptl r p)).set! 6 (.int .i64 r.c.st.n) := by simp [ptl, scl]
theorem ptl75 (r : Cr) (p : By) : sclR (ptl r (p ++ [75])) = (sclR (ptl r p)).set! 7 (.slice r.ka r.c.st.kept.length r.kc) := by simp [ptl, scl]
theorem ite_P {α : Type} {P : α → Prop} {c : Prop} [Decidable c] {a b : α} (ha : P a) (hb : P b) : P (if c then a else b) := by
  by_cases h : c
  · rw [if_pos h]; exact ha
  · rw [if_neg h]; exact hb
theorem wnt_len (k : Int) : (wnt k).length ≤ 4 := by
  unfold wnt
  repeat (refine ite_P (P := fun l : By => l.length ≤ 4) (by decide) ?_)
  decide
theorem wnt_letters (k : Int) : ∀ c ∈ wnt k, c = 98 ∨ c = 107 ∨ c = 100 ∨ c = 77 ∨ c = 115 ∨ c = 110 ∨ c = 75 := by
  unfold wnt
  repeat (refine ite_P (P := fun l : By => ∀ c ∈ l, c = 98 ∨ c = 107 ∨ c = 100 ∨ c = 77 ∨ c = 115 ∨ c = 110 ∨ c = 75) (by decide) ?_)
  decide
/-- a command cleared, with its rows -/
def clR (r : Cr) : Cr :=
  if r.c.kind = 1 then ⟨⟨1, r.c.sectors, r.c.size, ⟨0, [], [], [], [], 0, 0, []⟩, []⟩, none, 0, none, 0⟩
  else if r.c.kind = 2 then ⟨⟨2, 0, 0, (ptl r (wnt r.c.st.kind)).c.st, []⟩, (ptl r (wnt r.c.st.kind)).ma, (ptl r (wnt r.c.st.kind)).mc, (ptl r (wnt r.c.st.kind)).ka, (ptl r (wnt r.c.st.kind)).kc⟩
  else if r.c.kind = 3 then ⟨⟨3, 0, 0, ⟨0, [], [], [], [], 0, 0, []⟩, r.c.bucket⟩, none, 0, none, 0⟩
  else ⟨⟨r.c.kind, 0, 0, ⟨0, [], [], [], [], 0, 0, []⟩, []⟩, none, 0, none, 0⟩
/-- is a command's kind one? -/
def kok (c : Cm) : Bool := decide (1 ≤ c.kind ∧ c.kind ≤ 5) && (c.kind != 2 || decide (1 ≤ c.st.kind ∧ c.st.kind ≤ 18))
theorem kok_sh (c : Cm) : kok c = (shpOf c).isSome := by
  obtain ⟨k, a, b, ⟨sk, q1, q2, q3, q4, q5, q6, q7⟩, bk⟩ := c
  by_cases h : 1 ≤ k ∧ k ≤ 5
  · have hk : k = 1 ∨ k = 2 ∨ k = 3 ∨ k = 4 ∨ k = 5 := by omega
    rcases hk with rfl | rfl | rfl | rfl | rfl
    · rfl
    · by_cases h2 : 1 ≤ sk ∧ sk ≤ 18
      · have hs : sk = 1 ∨ sk = 2 ∨ sk = 3 ∨ sk = 4 ∨ sk = 5 ∨ sk = 6 ∨ sk = 7 ∨ sk = 8 ∨ sk = 9 ∨ sk = 10 ∨ sk = 11 ∨ sk = 12 ∨ sk = 13 ∨ sk = 14 ∨ sk = 15 ∨ sk = 16 ∨ sk = 17 ∨ sk = 18 := by omega
        rcases hs with rfl | rfl | rfl | rfl | rfl | rfl | rfl | rfl | rfl | rfl | rfl | rfl | rfl | rfl | rfl | rfl | rfl | rfl <;> rfl
      · have e1 : kok ⟨2, a, b, ⟨sk, q1, q2, q3, q4, q5, q6, q7⟩, bk⟩ = false := by simp [kok, h2]
        have e2 : shpOf ⟨2, a, b, ⟨sk, q1, q2, q3, q4, q5, q6, q7⟩, bk⟩ = none := by
          unfold shpOf
          rw [List.find?_eq_none]
          intro s hs q
          have hz : ∀ s ∈ shps, s.kind = 2 → 1 ≤ s.step ∧ s.step ≤ 18 := by decide +kernel
          simp [isOf] at q
          rcases q with ⟨q1, q2 | q2⟩
          · exact q2 q1
          · have := hz s hs q1; rw [q2] at this; exact h2 this
        rw [e1, e2]; rfl
    · rfl
    · rfl
    · rfl
  · have e1 : kok ⟨k, a, b, ⟨sk, q1, q2, q3, q4, q5, q6, q7⟩, bk⟩ = false := by simp [kok, h]
    have e2 : shpOf ⟨k, a, b, ⟨sk, q1, q2, q3, q4, q5, q6, q7⟩, bk⟩ = none := by
      unfold shpOf
      rw [List.find?_eq_none]
      intro s hs q
      have hz : ∀ s ∈ shps, 1 ≤ s.kind ∧ s.kind ≤ 5 := by decide +kernel
      simp [isOf] at q
      have := hz s hs; rw [q.1] at this; exact h this
    rw [e1, e2]; rfl
theorem clR_clr (r : Cr) (h : kok r.c = true) : (clR r).c = clr (shD r.c) r.c := by
  obtain ⟨⟨k, a, b, ⟨sk, q1, q2, q3, q4, q5, q6, q7⟩, bk⟩, ma, mc, ka, kc⟩ := r
  have hk : k = 1 ∨ k = 2 ∨ k = 3 ∨ k = 4 ∨ k = 5 := by simp [kok] at h; omega
  rcases hk with rfl | rfl | rfl | rfl | rfl
  · rfl
  · have hs : sk = 1 ∨ sk = 2 ∨ sk = 3 ∨ sk = 4 ∨ sk = 5 ∨ sk = 6 ∨ sk = 7 ∨ sk = 8 ∨ sk = 9 ∨ sk = 10 ∨ sk = 11 ∨ sk = 12 ∨ sk = 13 ∨ sk = 14 ∨ sk = 15 ∨ sk = 16 ∨ sk = 17 ∨ sk = 18 := by simp [kok] at h; omega
    rcases hs with rfl | rfl | rfl | rfl | rfl | rfl | rfl | rfl | rfl | rfl | rfl | rfl | rfl | rfl | rfl | rfl | rfl | rfl <;> rfl
  · rfl
  · rfl
  · rfl
/-- a box of the document's step -/
def Sb (w : World) (g : Nat) (r : Cr) : Prop := w.heap[g]? = some (.cells (sclR r) 48 (0, 0))
theorem Sb.cells {w : World} {g : Nat} {r : Cr} (h : Sb w g r) : w.cell? ⟨g, 0, none⟩ = some (.int .i64 r.c.st.kind) ∧ w.cell? ⟨g, 1, none⟩ = some (str r.c.st.bucket) ∧ w.cell? ⟨g, 2, none⟩ = some (str r.c.st.key) ∧ w.cell? ⟨g, 3, none⟩ = some (str r.c.st.data) ∧ w.cell? ⟨g, 4, none⟩ = some (.slice r.ma r.c.st.mt.length r.mc) ∧ w.cell? ⟨g, 5, none⟩ = some (.int .i64 r.c.st.seq) ∧ w.cell? ⟨g, 6, none⟩ = some (.int .i64 r.c.st.n) ∧ w.cell? ⟨g, 7, none⟩ = some (.slice r.ka r.c.st.kept.length r.kc) := by
  refine ⟨?_, ?_, ?_, ?_, ?_, ?_, ?_, ?_⟩ <;> (rw [cell_of_row _ _ _ _ _ _ h]; rfl)
theorem Sb.fz {w : World} {g : Nat} {r : Cr} (h : Sb w g r) (j : Nat) : w.frozen? ⟨g, j, none⟩ = false := frozen_of_row _ _ j _ _ h
theorem Sb.set {w : World} {g j : Nat} {r r' : Cr} {v : Value} (h : Sb w g r) (hj : j < 8) (he : sclR r' = (sclR r).set! j v) : Sb (w.setCell ⟨g, j, none⟩ v) g r' := by
  unfold Sb at *
  have h1 := heap_setCells [v] j (sclR r) w h
  have e1 : w.setCells g j [v] = w.setCell ⟨g, j, none⟩ v := rfl
  rw [e1] at h1
  rw [h1, he]
  rfl
end Go.Proofs.YtiifkcnpdihlmaaDoor

/- Layer 22: the document's cleared. -/
namespace Go.Proofs.YtiifkcnpdihlmaaDoor
set_option maxRecDepth 100000
set_option linter.unusedVariables false
set_option linter.unusedSimpArgs false
open Go.RowKit
attribute [local go_sem ↓] Go.wp_at_zero Go.wp_at_succ ix9 ldQe stQe
theorem Sb.other {w w' : World} {g : Nat} {r : Cr} (h : Sb w g r) (e : w'.heap[g]? = w.heap[g]?) : Sb w' g r := by unfold Sb at *; rw [e]; exact h
theorem run_ldS {w : World} {g : Nat} {r : Cr} (h : Sb w g r) : (ldQ (.pointer (some ⟨g, 0, none⟩))).run Tryd.prog w = .ok (.agg (sclR r)) w := run_ldQ h
theorem res_s {fn : Func} {p : Tmp} (hf : fn.results = #[.cell p 48]) {tmps : Array Value} {w : World} {g : Nat} {r : Cr} (hp : tmps.getD p undef = .pointer (some ⟨g, 0, none⟩)) (h : Sb w g r) : (results fn tmps).run Tryd.prog w = .ok (.agg (sclR r)) w := by
  rw [results_cell1 hf, hp]
  have e := run_ldS h
  unfold ldQ at e
  simp only [asAddr, Sem.run_pure, Result.andThen_ok]
  exact e
set_option maxHeartbeats 1000000 in
theorem cleared_any (r : Cr) (h1 : 1 ≤ r.c.st.kind) (h2 : r.c.st.kind ≤ 18) (w : World) : Calls Tryd.prog 33 #[.agg (sclR r)] w fun e w' => e = .returned (.agg (sclR (ptl r (wnt r.c.st.kind)))) ∧ Below w.heap.size w w' := by
  have hl := wnt_len r.c.st.kind
  have hlet := Hid.mk (wnt_letters r.c.st.kind)
  have hfo := form_any r.c.st.kind h1 h2
  obtain ⟨w1, hw1⟩ : ∃ w1, (w.alloc (.cells (sclR r) 48)).alloc (.cells zS 48) = w1 := ⟨_, rfl⟩
  have hsz : w1.heap.size = w.heap.size + 1 + 1 := by rw [← hw1]; simp
  have y0 : Sb w1 w.heap.size r := by
    rw [← hw1]
    unfold Sb
    rw [heap_alloc_old _ _ _ (by simp)]
    exact heap_alloc_new _ _
  have y1 : Zb w1 (w.heap.size + 1) := by
    rw [← hw1]
    unfold Zb
    have := heap_alloc_new (w.alloc (.cells (sclR r) 48)) (.cells zS 48)
    simpa using this
  have B1 : Below w.heap.size w w1 := by rw [← hw1]; exact ((Below.refl _ _).alloc (Nat.le_refl _) _).alloc (by simp) _
  have hst : (stQ (.pointer (some ⟨w.heap.size + 1 + 1, 0, none⟩)) (.agg #[.int .i64 r.c.st.kind, .string ⟨#[]⟩, .string ⟨#[]⟩, .string ⟨#[]⟩, .slice none 0 0, .int .i64 0, .int .i64 0, .slice none 0 0])).run Tryd.prog (w1.alloc (.cells zS 48)) = .ok () (w1.alloc (.cells (sclR (ptl r [])) 48)) := by
    rw [← hsz, ptl_nil]
    have := run_stQ w1 ⟨0, 0, 0, ⟨r.c.st.kind, [], [], [], [], 0, 0, []⟩, []⟩ none 0 none 0
    exact this
  have c0 := (Sb.cells y0).1
  obtain ⟨w2, hw2⟩ : ∃ w2, w1.alloc (.cells (sclR (ptl r [])) 48) = w2 := ⟨_, rfl⟩
  have z0 : Sb w2 w.heap.size r := y0.other (by rw [← hw2]; exact heap_alloc_old _ _ _ (by omega))
  have z1 : Zb w2 (w.heap.size + 1) := by
    unfold Zb at *
    rw [← hw2, heap_alloc_old _ _ _ (by omega)]; exact y1
  have z2 : Sb w2 (w.heap.size + 1 + 1) (ptl r []) := by
    rw [← hw2, ← hsz]
    exact heap_alloc_new _ _
  have B2 : Below w.heap.size w w2 := by rw [← hw2]; exact B1.alloc (by omega) _
  generalize hwt : wnt r.c.st.kind = wt at *
  go_enter Tryd.func33, Tryd.ntmps33
  go_wp2_with fail
  refine Calls.mono (hfo _) ?_
  rintro e w' ⟨rfl, rfl⟩
  dsimp only
  go_wp2_with fail
  clear hst hw1 hw2 y0 y1 B1 c0 hfo
  go_loopw [6] (fun i wr => ∃ k : Nat, i = .int .i64 k ∧ k ≤ wt.length ∧ Hid (Sb wr (w.heap.size + 1 + 1) (ptl r (wt.take k))) ∧ Hid (Sb wr w.heap.size r) ∧ Hid (Zb wr (w.heap.size + 1)) ∧ Hid (Below w.heap.size w wr)) (fun i _ => wt.length - (intOf i).toNat)
  case atStart => exact ⟨0, rfl, Nat.zero_le _, ⟨z2⟩, ⟨z0⟩, ⟨z1⟩, ⟨B2⟩⟩
  case round =>
    clear z0 z1 z2 B2
    obtain ⟨k, rfl, hk, H2, H0, H1, HB⟩ := hrel
    by_cases hlt : k < wt.length
    · have d1 : decide ((k : Int) < (wt.length : Int)) = true := decide_eq_true (by omega)
      have hix := run_ix wt k hlt
      have hc : wt[k]? = some (wt.getD k 0) := by rw [List.getD_eq_getElem?_getD, List.getElem?_eq_getElem hlt]; rfl
      have HT : Hid (wt.take (k + 1) = wt.take k ++ [wt.getD k 0]) := ⟨take_succ hc⟩
      have hm := hlet.out _ (List.mem_of_getElem? hc)
      clear hc
      generalize wt.getD k 0 = c at *
      obtain ⟨a0, a1, a2, a3, a4, a5, a6, a7⟩ := H0.out.cells
      obtain ⟨e0, e1, e2, e3, e4, e5, e6, e7⟩ := H2.out.cells
      have hfz := H2.out.fz
      have HS : Hid (∀ (j : Nat) (v : Value) (r' : Cr), j < 8 → sclR r' = (sclR (ptl r (wt.take k))).set! j v → Sb (wr.setCell ⟨w.heap.size + 1 + 1, j, none⟩ v) (w.heap.size + 1 + 1) r' ∧ Sb (wr.setCell ⟨w.heap.size + 1 + 1, j, none⟩ v) w.heap.size r ∧ Zb (wr.setCell ⟨w.heap.size + 1 + 1, j, none⟩ v) (w.heap.size + 1) ∧ Below w.heap.size w (wr.setCell ⟨w.heap.size + 1 + 1, j, none⟩ v)) := ⟨fun j v r' hj he => ⟨H2.out.set hj he, H0.out.other (hso wr _ (by show _ ≠ _; simp; omega)), by
          have h := H1.out
          unfold Zb at *
          rw [hso wr _ (by show _ ≠ _; simp)]; exact h, HB.out.setCell (p := ⟨w.heap.size + 1 + 1, j, none⟩) (show w.heap.size ≤ w.heap.size + 1 + 1 by omega) v⟩⟩
      have P98 := Hid.mk (ptl98 r (wt.take k))
      have P107 := Hid.mk (ptl107 r (wt.take k))
      have P100 := Hid.mk (ptl100 r (wt.take k))
      have P115 := Hid.mk (ptl115 r (wt.take k))
      have P110 := Hid.mk (ptl110 r (wt.take k))
      have P77 := Hid.mk (ptl77 r (wt.take k))
      have P75 := Hid.mk (ptl75 r (wt.take k))
      generalize ptl r (wt.take k) = rk at *
      rcases hm with rfl | rfl | rfl | rfl | rfl | rfl | rfl
      · have t98 : (((98 : UInt8).toNat : Int) == 98) = true := rfl
        obtain ⟨n1, n2, n3, n4⟩ := HS.out 1 (str r.c.st.bucket) _ (by decide) P98.out
        clear P98 P107 P100 P115 P110 P77 P75 HS
        replace n1 := Hid.mk n1
        replace n2 := Hid.mk n2
        replace n3 := Hid.mk n3
        replace n4 := Hid.mk n4
        go_wp2_with fail
        refine ⟨⟨k + 1, rfl, hlt, ⟨by rw [HT.out]; exact n1.out⟩, n2, n3, n4⟩, ?_⟩
        show wt.length - ((k : Int) + 1).toNat < wt.length - ((k : Int)).toNat
        omega
      · have t98 : (((107 : UInt8).toNat : Int) == 98) = false := rfl
        have t107 : (((107 : UInt8).toNat : Int) == 107) = true := rfl
        obtain ⟨n1, n2, n3, n4⟩ := HS.out 2 (str r.c.st.key) _ (by decide) P107.out
        clear P98 P107 P100 P115 P110 P77 P75 HS
        replace n1 := Hid.mk n1
        replace n2 := Hid.mk n2
        replace n3 := Hid.mk n3
        replace n4 := Hid.mk n4
        go_wp2_with fail
        refine ⟨⟨k + 1, rfl, hlt, ⟨by rw [HT.out]; exact n1.out⟩, n2, n3, n4⟩, ?_⟩
        show wt.length - ((k : Int) + 1).toNat < wt.length - ((k : Int)).toNat
        omega
      · have t98 : (((100 : UInt8).toNat : Int) == 98) = false := rfl
        have t107 : (((100 : UInt8).toNat : Int) == 107) = false := rfl
        have t100 : (((100 : UInt8).toNat : Int) == 100) = true := rfl
        obtain ⟨n1, n2, n3, n4⟩ := HS.out 3 (str r.c.st.data) _ (by decide) P100.out
        clear P98 P107 P100 P115 P110 P77 P75 HS
        replace n1 := Hid.mk n1
        replace n2 := Hid.mk n2
        replace n3 := Hid.mk n3
        replace n4 := Hid.mk n4
        go_wp2_with fail
        refine ⟨⟨k + 1, rfl, hlt, ⟨by rw [HT.out]; exact n1.out⟩, n2, n3, n4⟩, ?_⟩
        show wt.length - ((k : Int) + 1).toNat < wt.length - ((k : Int)).toNat
        omega
      · have t98 : (((77 : UInt8).toNat : Int) == 98) = false := rfl
        have t107 : (((77 : UInt8).toNat : Int) == 107) = false := rfl
        have t100 : (((77 : UInt8).toNat : Int) == 100) = false := rfl
        have t115 : (((77 : UInt8).toNat : Int) == 115) = false := rfl
        have t110 : (((77 : UInt8).toNat : Int) == 110) = false := rfl
        have t77 : (((77 : UInt8).toNat : Int) == 77) = true := rfl
        obtain ⟨n1, n2, n3, n4⟩ := HS.out 4 (.slice r.ma r.c.st.mt.length r.mc) _ (by decide) P77.out
        clear P98 P107 P100 P115 P110 P77 P75 HS
        replace n1 := Hid.mk n1
        replace n2 := Hid.mk n2
        replace n3 := Hid.mk n3
        replace n4 := Hid.mk n4
        go_wp2_with fail
        refine ⟨⟨k + 1, rfl, hlt, ⟨by rw [HT.out]; exact n1.out⟩, n2, n3, n4⟩, ?_⟩
        show wt.length - ((k : Int) + 1).toNat < wt.length - ((k : Int)).toNat
        omega
      · have t98 : (((115 : UInt8).toNat : Int) == 98) = false := rfl
        have t107 : (((115 : UInt8).toNat : Int) == 107) = false := rfl
        have t100 : (((115 : UInt8).toNat : Int) == 100) = false := rfl
        have t115 : (((115 : UInt8).toNat : Int) == 115) = true := rfl
        obtain ⟨n1, n2, n3, n4⟩ := HS.out 5 (.int .i64 r.c.st.seq) _ (by decide) P115.out
        clear P98 P107 P100 P115 P110 P77 P75 HS
        replace n1 := Hid.mk n1
        replace n2 := Hid.mk n2
        replace n3 := Hid.mk n3
        replace n4 := Hid.mk n4
        go_wp2_with fail
        refine ⟨⟨k + 1, rfl, hlt, ⟨by rw [HT.out]; exact n1.out⟩, n2, n3, n4⟩, ?_⟩
        show wt.length - ((k : Int) + 1).toNat < wt.length - ((k : Int)).toNat
        omega
      · have t98 : (((110 : UInt8).toNat : Int) == 98) = false := rfl
        have t107 : (((110 : UInt8).toNat : Int) == 107) = false := rfl
        have t100 : (((110 : UInt8).toNat : Int) == 100) = false := rfl
        have t115 : (((110 : UInt8).toNat : Int) == 115) = false := rfl
        have t110 : (((110 : UInt8).toNat : Int) == 110) = true := rfl
        obtain ⟨n1, n2, n3, n4⟩ := HS.out 6 (.int .i64 r.c.st.n) _ (by decide) P110.out
        clear P98 P107 P100 P115 P110 P77 P75 HS
        replace n1 := Hid.mk n1
        replace n2 := Hid.mk n2
        replace n3 := Hid.mk n3
        replace n4 := Hid.mk n4
        go_wp2_with fail
        refine ⟨⟨k + 1, rfl, hlt, ⟨by rw [HT.out]; exact n1.out⟩, n2, n3, n4⟩, ?_⟩
        show wt.length - ((k : Int) + 1).toNat < wt.length - ((k : Int)).toNat
        omega
      · have t98 : (((75 : UInt8).toNat : Int) == 98) = false := rfl
        have t107 : (((75 : UInt8).toNat : Int) == 107) = false := rfl
        have t100 : (((75 : UInt8).toNat : Int) == 100) = false := rfl
        have t115 : (((75 : UInt8).toNat : Int) == 115) = false := rfl
        have t110 : (((75 : UInt8).toNat : Int) == 110) = false := rfl
        have t77 : (((75 : UInt8).toNat : Int) == 77) = false := rfl
        have t75 : (((75 : UInt8).toNat : Int) == 75) = true := rfl
        obtain ⟨n1, n2, n3, n4⟩ := HS.out 7 (.slice r.ka r.c.st.kept.length r.kc) _ (by decide) P75.out
        clear P98 P107 P100 P115 P110 P77 P75 HS
        replace n1 := Hid.mk n1
        replace n2 := Hid.mk n2
        replace n3 := Hid.mk n3
        replace n4 := Hid.mk n4
        go_wp2_with fail
        refine ⟨⟨k + 1, rfl, hlt, ⟨by rw [HT.out]; exact n1.out⟩, n2, n3, n4⟩, ?_⟩
        show wt.length - ((k : Int) + 1).toNat < wt.length - ((k : Int)).toNat
        omega
    · have d1 : decide ((k : Int) < (wt.length : Int)) = false := decide_eq_false (by omega)
      have d2 : decide (k < wt.length) = false := decide_eq_false hlt
      have hke : k = wt.length := Nat.le_antisymm hk (Nat.le_of_not_lt hlt)
      have H2' := H2.out
      rw [hke, List.take_length] at H2'
      have hld := run_ldS H2'
      have hst2 := run_stQ2 H1.out (ptl r wt).c (ptl r wt).ma (ptl r wt).mc (ptl r wt).ka (ptl r wt).kc
      have hend : Sb (sQ wr (w.heap.size + 1) (ptl r wt).c (ptl r wt).ma (ptl r wt).mc (ptl r wt).ka (ptl r wt).kc) (w.heap.size + 1) (ptl r wt) := sQ_heap H1.out ..
      have HBE := Hid.mk ((sQ_oth wr (w.heap.size + 1) (ptl r wt).c (ptl r wt).ma (ptl r wt).mc (ptl r wt).ka (ptl r wt).kc).bel HB.out (fun b q => by rw [show b = w.heap.size + 1 from q]; omega))
      replace hend := Hid.mk hend
      generalize hrx : ptl r wt = rx at *
      replace hrx := Hid.mk hrx
      clear hke hk hlt H2 H2' H0 H1 HB hlet
      go_wp2_with fail
      refine bodyPost_ret (res_s rfl rfl hend.out) rfl ?_
      exact ⟨by rw [hrx.out], HBE.out⟩
end Go.Proofs.YtiifkcnpdihlmaaDoor

/- Layer 22: the document's Cleared. -/
namespace Go.Proofs.YtiifkcnpdihlmaaDoor
set_option maxRecDepth 100000
set_option linter.unusedVariables false
set_option linter.unusedSimpArgs false
open Go.RowKit
attribute [local go_sem ↓] Go.wp_at_zero Go.wp_at_succ ldQe stQe
theorem infoQC : (Tryd.prog.info? 50).map (·.size) = some 12 := by kernel_rfl
noncomputable def ldW (v : Value) : Sem Value := Instr.loadAt 50 v
theorem ldWe (v : Value) : Instr.loadAt 50 v = ldW v := rfl
theorem run_ldW {w : World} {g : Nat} {cs : Array Value} (h : w.heap[g]? = some (.cells cs 50 (0, 0))) (hs : cs.size = 12) : (ldW (.pointer (some ⟨g, 0, none⟩))).run Tryd.prog w = .ok (.agg cs) w := by
  unfold ldW
  have := run_loadAt_mid (P := Tryd.prog) w g 0 50 cs.toList _ (fun j v hv => ?_) Tryd.underlying50 rfl (by rw [Array.length_toList, hs]; exact infoQC)
  · simpa using this
  · rw [Nat.zero_add, cell_of_row _ _ _ _ _ _ h, ← Array.getElem?_toList]; exact hv
/-- one command more, whatever its rows -/
theorem run_q1 {base : Nat} {w1 : World} {v : Value} {R : List Cr} (r : Cr) (hO : w1.ownsRow base 50 12 v R.length (rcl R)) (hle : base ≤ w1.heap.size) (hn : R.length ≤ 879609302208) :
    ∃ va vc w', (∀ ty, (Builtin.append_ #[42, 42] ty #[v, .slice (some ⟨w1.heap.size, 0, none⟩) 1 1]).run Tryd.prog (w1.alloc (.cells (ccs r.c r.ma r.mc r.ka r.kc) 50)) = .ok (.slice va (R.length + 1) vc) w') ∧ w'.ownsRow base 50 12 (.slice va (R.length + 1) vc) (R.length + 1) (rcl (R ++ [r])) ∧ Below base w1 w' := by
  obtain ⟨i0, z0, hi0, hz0, hzs, hz1, hz2⟩ := infoQx
  have hm : maxLen = 9223372036854775807 := rfl
  have o1 := hO.alloc (.cells (ccs r.c r.ma r.mc r.ka r.kc) 50)
  obtain ⟨g, cap, w', hr', hown, hgrow, hat, hgl⟩ := run_append_lies (P := Tryd.prog) (w := w1.alloc (.cells (ccs r.c r.ma r.mc r.ka r.kc) 50)) 42 50 base 50 i0 z0 12 160 Tryd.underlying42 hi0 hz0 hz1 hz2 hzs (by omega) v R.length (rcl R) o1 ⟨w1.heap.size, 0, none⟩ 1 1 (ccl r) rfl
      (World.news_of_block (cs := ccs r.c r.ma r.mc r.ka r.kc) (t := 50) (fr := (0, 0)) (heap_alloc_new w1 _)) (ccl_one r) (by omega) (by rw [hm]; omega) (by omega) (by simp; omega) (w1.heap.size + 1) (by simp)
  refine ⟨some ⟨g, 0, none⟩, cap, w', fun ty => hr', ?_, ((Below.refl _ _).alloc hle _).trans (grown_below o1 (by simp; omega) hgrow)⟩
  rw [rcl_append]
  exact hown
/-- what is kept from step to step -/
structure Ck (w : World) (L : List Cr) (k : Nat) (va : Option Addr) (vc : Nat) (wr : World) : Prop where
  own : wr.ownsRow w.heap.size 50 12 (.slice va k vc) k (rcl ((L.take k).map clR))
  ok : ∀ r ∈ L.take k, kok r.c = true
  bel : Below w.heap.size w wr
theorem Ck.step {w : World} {L : List Cr} {k : Nat} {va : Option Addr} {vc : Nat} {wr W : World} {r : Cr} (h : Ck w L k va vc wr) (hk : L[k]? = some r) (hok : kok r.c = true) (hn : L.length ≤ 879609302208) (hb : Below wr.heap.size wr W) :
    ∃ va' vc' w', (∀ ty, (Builtin.append_ #[42, 42] ty #[.slice va k vc, .slice (some ⟨W.heap.size, 0, none⟩) 1 1]).run Tryd.prog (W.alloc (.cells (ccs (clR r).c (clR r).ma (clR r).mc (clR r).ka (clR r).kc) 50)) = .ok (.slice va' (k + 1) vc') w') ∧ Ck w L (k + 1) va' vc' w' := by
  have hl := (List.getElem?_eq_some_iff.1 hk).1
  have hlen : ((L.take k).map clR).length = k := by rw [List.length_map, List.length_take]; omega
  have o := own_on h.own hb
  obtain ⟨va', vc', w', hr, ho, hbb⟩ := run_q1 (R := (L.take k).map clR) (v := .slice va k vc) (clR r) (by rw [hlen]; exact o) (Nat.le_trans h.bel.size hb.size) (by rw [hlen]; omega)
  rw [hlen] at hr ho
  have et : L.take (k + 1) = L.take k ++ [r] := by rw [List.take_add_one, hk]; rfl
  refine ⟨va', vc', w', hr, ⟨?_, ?_, (h.bel.trans (hb.mono h.bel.size)).trans hbb⟩⟩
  · rw [et, List.map_append]; exact ho
  · intro x hx
    rw [et] at hx
    rcases List.mem_append.1 hx with q | q
    · exact h.ok x q
    · rw [List.mem_singleton.1 q]; exact hok
theorem ptl_rows {w : World} {r : Cr} (p : By) (h1 : Sl w r.ma r.mc r.c.st.mt) (h2 : Si w r.ka r.kc r.c.st.kept) : Sl w (ptl r p).ma (ptl r p).mc (ptl r p).c.st.mt ∧ Si w (ptl r p).ka (ptl r p).kc (ptl r p).c.st.kept := by
  constructor
  · by_cases h : (77 : UInt8) ∈ p
    · simp only [ptl, if_pos h]; exact h1
    · simp only [ptl, if_neg h]; exact sl_nil w
  · by_cases h : (75 : UInt8) ∈ p
    · simp only [ptl, if_pos h]; exact h2
    · simp only [ptl, if_neg h]; exact si_nil w
theorem clR_rows {w : World} {r : Cr} (h1 : Sl w r.ma r.mc r.c.st.mt) (h2 : Si w r.ka r.kc r.c.st.kept) : Sl w (clR r).ma (clR r).mc (clR r).c.st.mt ∧ Si w (clR r).ka (clR r).kc (clR r).c.st.kept := by
  unfold clR
  repeat' split
  · exact ⟨sl_nil w, si_nil w⟩
  · exact ptl_rows _ h1 h2
  · exact ⟨sl_nil w, si_nil w⟩
  · exact ⟨sl_nil w, si_nil w⟩
theorem Ck.ct {w : World} {L : List Cr} {va la : Option Addr} {vc : Nat} {wr : World} (h : Ck w L L.length va vc wr) (hL : CT w la L) : CT wr va (L.map clR) := fun k r hk => by
  have ho := h.own
  rw [List.take_length] at ho
  obtain ⟨b, off, e, hlt, hr⟩ := range_own (R := L.map clR) (by rw [List.length_map]; exact ho) hk
  rw [List.getElem?_map] at hk
  cases hq : L[k]? with
  | none => rw [hq] at hk; cases hk
  | some x =>
    rw [hq] at hk
    injection hk with hk
    subst hk
    obtain ⟨_, _, _, _, _, h1, h2⟩ := (hL.later h.bel) k x hq
    exact ⟨b, off, e, hlt, hr, clR_rows h1 h2⟩
end Go.Proofs.YtiifkcnpdihlmaaDoor

/- Layer 22: the document's Cleared, the walk. -/
namespace Go.Proofs.YtiifkcnpdihlmaaDoor
set_option maxRecDepth 100000
set_option linter.unusedVariables false
set_option linter.unusedSimpArgs false
open Go.RowKit
attribute [local go_sem ↓] Go.wp_at_zero Go.wp_at_succ ldQe stQe ldWe
attribute [-go_sem] Go.Builtin.append_
def ClP (L : List Cr) (w : World) (e : Ending) (w' : World) : Prop :=
  Below w.heap.size w w' ∧ (((∀ r ∈ L, kok r.c = true) ∧ ∃ va vc, e = .returned (.tuple #[.slice va L.length vc, .bool true]) ∧ CT w' va (L.map clR)) ∨ ((∃ r ∈ L, kok r.c = false) ∧ e = .returned (.tuple #[.slice none 0 0, .bool false])))
set_option maxHeartbeats 4000000 in
theorem qCleared_any (L : List Cr) (la : Option Addr) (lc : Nat) (w : World) (hL : CT w la L) (hn : L.length ≤ 879609302208) : Calls Tryd.prog 19 #[.slice la L.length lc] w (ClP L w) := by
  go_enter Tryd.func19, Tryd.ntmps19
  go_wp2_with fail
  go_loopw [4, 5, 6] (fun v i _ wr => ∃ (k : Nat) (va : Option Addr) (vc : Nat), i = .int .i64 k ∧ v = .slice va k vc ∧ k ≤ L.length ∧ Hid (Ck w L k va vc wr)) (fun _ i _ _ => L.length - (intOf i).toNat)
  case atStart => exact ⟨0, none, 0, rfl, rfl, Nat.zero_le _, ⟨⟨World.ownsRow_nil _ _ _ _, fun r hr => by simp at hr, Below.refl _ _⟩⟩⟩
  case round =>
    obtain ⟨k, va, vc, rfl, rfl, hk, HK⟩ := hrel
    by_cases hlt : k < L.length
    · have d1 : decide ((k : Int) < (L.length : Int)) = true := decide_eq_true (Int.ofNat_lt.2 hlt)
      have k0 : (0 : Int) ≤ (k : Int) := Int.natCast_nonneg k
      have k1 : (k : Int) < (L.length : Int) := Int.ofNat_lt.2 hlt
      obtain ⟨r, hget⟩ : ∃ r, L[k]? = some r := ⟨_, List.getElem?_eq_getElem hlt⟩
      obtain ⟨b, off, ea, hb, hr, hsl, hsi⟩ := (hL.later HK.out.bel) k r hget
      subst ea
      have hmem := List.mem_of_getElem? hget
      have HKN : Hid (∀ w', Below w.heap.size w w' → kok r.c = false → ClP L w (.returned (.tuple #[.slice none 0 0, .bool false])) w') := ⟨fun w' hb hf => ⟨hb, .inr ⟨⟨r, hmem, hf⟩, rfl⟩⟩⟩
      have q0 : wr.cell? ⟨b, off + k * 12, none⟩ = some (.int .i64 r.c.kind) := hr 0 _ rfl
      have XC : Hid (∀ w', Below wr.heap.size wr w' → w'.cell? ⟨b, off + k * 12 + 1, none⟩ = some (.int .i64 r.c.sectors) ∧ w'.cell? ⟨b, off + k * 12 + 2, none⟩ = some (.int .i64 r.c.size) ∧ w'.cell? ⟨b, off + k * 12 + 3, none⟩ = some (.int .i64 r.c.st.kind) ∧ w'.cell? ⟨b, off + k * 12 + 11, none⟩ = some (str r.c.bucket) ∧ (ldQ (.pointer (some ⟨b, off + k * 12 + 3, none⟩))).run Tryd.prog w' = .ok (.agg (sclR r)) w') := ⟨fun w' hw => by
        have key : ∀ j v, (ccl r)[j]? = some v → w'.cell? ⟨b, off + k * 12 + j, none⟩ = some v := fun j v hv => by
          rw [hw.cell (p := ⟨b, off + k * 12 + j, none⟩) hb]; exact hr j v hv
        exact ⟨key 1 _ rfl, key 2 _ rfl, key 3 _ rfl, key 11 _ rfl, run_ldQm (range_step (fun j v hv => key j v hv))⟩⟩
      have HBr : Hid (Below w.heap.size w wr) := ⟨HK.out.bel⟩
      by_cases hkk : 1 ≤ r.c.kind ∧ r.c.kind ≤ 5
      case neg =>
        have hf : Hid (kok r.c = false) := ⟨by simp [kok, hkk]⟩
        by_cases h1 : r.c.kind < 1
        · have t1 : decide (r.c.kind < 1) = true := decide_eq_true h1
          go_wp2_with fail
          refine bodyPost_ret (results_tmp2 rfl _ _ _) rfl ?_
          exact HKN.out _ (HBr.out.alloc HBr.out.size _) hf.out
        · have t1 : decide (r.c.kind < 1) = false := decide_eq_false h1
          have t2 : decide ((5 : Int) < r.c.kind) = true := decide_eq_true (by omega)
          go_wp2_with fail
          refine bodyPost_ret (results_tmp2 rfl _ _ _) rfl ?_
          exact HKN.out _ (HBr.out.alloc HBr.out.size _) hf.out
      case pos =>
        have t1 : decide (r.c.kind < 1) = false := decide_eq_false (by omega)
        have t2 : decide ((5 : Int) < r.c.kind) = false := decide_eq_false (by omega)
        by_cases e1 : r.c.kind = 1
        · have hcl : clR r = ⟨⟨1, r.c.sectors, r.c.size, ⟨0, [], [], [], [], 0, 0, []⟩, []⟩, none, 0, none, 0⟩ := by unfold clR; rw [if_pos e1]
          have hok : kok r.c = true := by simp [kok, e1]
          obtain ⟨va', vc', w', hap, hck⟩ := HK.out.step hget hok hn ((Below.refl _ _).alloc (Nat.le_refl _) (.cells #[.int .i64 1, .int .i64 r.c.sectors, .int .i64 r.c.size, .int .i64 0, .string ⟨#[]⟩, .string ⟨#[]⟩, .string ⟨#[]⟩, .slice none 0 0, .int .i64 0, .int .i64 0, .slice none 0 0, .string ⟨#[]⟩] 50))
          rw [hcl] at hap
          have hs1 : (wr.alloc (.cells #[.int .i64 1, .int .i64 r.c.sectors, .int .i64 r.c.size, .int .i64 0, .string ⟨#[]⟩, .string ⟨#[]⟩, .string ⟨#[]⟩, .slice none 0 0, .int .i64 0, .int .i64 0, .slice none 0 0, .string ⟨#[]⟩] 50)).heap.size = wr.heap.size + 1 := by simp
          rw [hs1] at hap
          have hap' : ∀ ty, (Builtin.append_ #[42, 42] ty #[.slice va k vc, .slice (some ⟨wr.heap.size + 1, 0, none⟩) 1 1]).run Tryd.prog ((wr.alloc (.cells #[.int .i64 1, .int .i64 r.c.sectors, .int .i64 r.c.size, .int .i64 0, .string ⟨#[]⟩, .string ⟨#[]⟩, .string ⟨#[]⟩, .slice none 0 0, .int .i64 0, .int .i64 0, .slice none 0 0, .string ⟨#[]⟩] 50)).alloc (.cells #[.int .i64 1, .int .i64 r.c.sectors, .int .i64 r.c.size, .int .i64 0, .string ⟨#[]⟩, .string ⟨#[]⟩, .string ⟨#[]⟩, .slice none 0 0, .int .i64 0, .int .i64 0, .slice none 0 0, .string ⟨#[]⟩] 50)) = .ok (.slice va' (k + 1) vc') w' := hap
          have hld := run_ldW (heap_alloc_new wr (.cells #[.int .i64 1, .int .i64 r.c.sectors, .int .i64 r.c.size, .int .i64 0, .string ⟨#[]⟩, .string ⟨#[]⟩, .string ⟨#[]⟩, .slice none 0 0, .int .i64 0, .int .i64 0, .slice none 0 0, .string ⟨#[]⟩] 50)) rfl
          obtain ⟨x1, x2, x3, x4, -⟩ := XC.out _ ((Below.refl _ _).alloc (Nat.le_refl _) (.cells #[.int .i64 1, .int .i64 0, .int .i64 0, .int .i64 0, .string ⟨#[]⟩, .string ⟨#[]⟩, .string ⟨#[]⟩, .slice none 0 0, .int .i64 0, .int .i64 0, .slice none 0 0, .string ⟨#[]⟩] 50))
          obtain ⟨y1, y2, y3, y4, -⟩ := XC.out _ ((Below.refl _ _).alloc (Nat.le_refl _) (.cells #[.int .i64 1, .int .i64 r.c.sectors, .int .i64 0, .int .i64 0, .string ⟨#[]⟩, .string ⟨#[]⟩, .string ⟨#[]⟩, .slice none 0 0, .int .i64 0, .int .i64 0, .slice none 0 0, .string ⟨#[]⟩] 50))
          have HCK := Hid.mk hck
          clear hap hck hcl hok hkk t1 t2 hs1
          go_wp2_with fail
          refine ⟨⟨k + 1, va', vc', rfl, rfl, hlt, HCK⟩, ?_⟩
          show L.length - ((k : Int) + 1).toNat < L.length - ((k : Int)).toNat
          omega
        by_cases e2 : r.c.kind = 2
        · clear e1
          by_cases hs1 : 1 ≤ r.c.st.kind ∧ r.c.st.kind ≤ 18
          case neg =>
            have hf : Hid (kok r.c = false) := ⟨by simp [kok, e2, hs1]⟩
            obtain ⟨x1, x2, x3, x4, x5⟩ := XC.out _ ((Below.refl _ _).alloc (Nat.le_refl _) (.cells #[.int .i64 2, .int .i64 0, .int .i64 0, .int .i64 0, .string ⟨#[]⟩, .string ⟨#[]⟩, .string ⟨#[]⟩, .slice none 0 0, .int .i64 0, .int .i64 0, .slice none 0 0, .string ⟨#[]⟩] 50))
            clear hkk t1 t2
            by_cases h1 : r.c.st.kind < 1
            · have t1 : decide (r.c.st.kind < 1) = true := decide_eq_true h1
              go_wp2_with fail
              refine bodyPost_ret (results_tmp2 rfl _ _ _) rfl ?_
              exact HKN.out _ (HBr.out.alloc HBr.out.size _) hf.out
            · have t1 : decide (r.c.st.kind < 1) = false := decide_eq_false h1
              have t2 : decide ((18 : Int) < r.c.st.kind) = true := decide_eq_true (by omega)
              go_wp2_with fail
              refine bodyPost_ret (results_tmp2 rfl _ _ _) rfl ?_
              exact HKN.out _ (HBr.out.alloc HBr.out.size _) hf.out
          case pos =>
            have hok : kok r.c = true := by simp [kok, e2, hs1]
            have t1 : decide (r.c.st.kind < 1) = false := decide_eq_false (by omega)
            have t2 : decide ((18 : Int) < r.c.st.kind) = false := decide_eq_false (by omega)
            have hcd := cleared_any r hs1.1 hs1.2
            have hcl : clR r = ⟨⟨2, 0, 0, (ptl r (wnt r.c.st.kind)).c.st, []⟩, (ptl r (wnt r.c.st.kind)).ma, (ptl r (wnt r.c.st.kind)).mc, (ptl r (wnt r.c.st.kind)).ka, (ptl r (wnt r.c.st.kind)).kc⟩ := by
              unfold clR
              rw [if_neg (by omega), if_pos e2]
            generalize ptl r (wnt r.c.st.kind) = rx at *
            obtain ⟨x1, x2, x3, x4, x5⟩ := XC.out _ ((Below.refl _ _).alloc (Nat.le_refl _) (.cells #[.int .i64 2, .int .i64 0, .int .i64 0, .int .i64 0, .string ⟨#[]⟩, .string ⟨#[]⟩, .string ⟨#[]⟩, .slice none 0 0, .int .i64 0, .int .i64 0, .slice none 0 0, .string ⟨#[]⟩] 50))
            have hbl := (Below.refl wr.heap.size wr).alloc (Nat.le_refl _) (.cells #[.int .i64 2, .int .i64 0, .int .i64 0, .int .i64 0, .string ⟨#[]⟩, .string ⟨#[]⟩, .string ⟨#[]⟩, .slice none 0 0, .int .i64 0, .int .i64 0, .slice none 0 0, .string ⟨#[]⟩] 50)
            have hbo := heap_alloc_new wr (.cells #[.int .i64 2, .int .i64 0, .int .i64 0, .int .i64 0, .string ⟨#[]⟩, .string ⟨#[]⟩, .string ⟨#[]⟩, .slice none 0 0, .int .i64 0, .int .i64 0, .slice none 0 0, .string ⟨#[]⟩] 50)
            replace hok := Hid.mk hok
            replace hcl := Hid.mk hcl
            clear hkk hs1
            go_wp2_with fail
            refine Calls.mono (hcd _) ?_
            rintro e w3 ⟨rfl, b3⟩
            have hb3 := below_seq hbl b3
            have hbox : w3.heap[wr.heap.size]? = some (.cells #[.int .i64 2, .int .i64 0, .int .i64 0, .int .i64 0, .string ⟨#[]⟩, .string ⟨#[]⟩, .string ⟨#[]⟩, .slice none 0 0, .int .i64 0, .int .i64 0, .slice none 0 0, .string ⟨#[]⟩] 50 (0, 0)) := by
              rw [b3.block _ (by simp)]; exact hbo
            have hst : (stQ (.pointer (some ⟨wr.heap.size, 3, none⟩)) (.agg (sclR rx))).run Tryd.prog w3 = .ok () (w3.setCells wr.heap.size 3 (sclR rx).toList) := by
              unfold stQ
              exact run_storeAt_mid (P := Tryd.prog) w3 wr.heap.size 3 48 (sclR rx) (there_of_row hbox 3 (show 3 + 8 ≤ 12 by decide)) infoQS (scl_one ..)
            have hbox4 := heap_setCells (sclR rx).toList 3 _ w3 hbox
            have hoth : Oth (fun x => x = wr.heap.size) w3 (w3.setCells wr.heap.size 3 (sclR rx).toList) := oth_setCells (X := fun x => x = wr.heap.size) (g := wr.heap.size) rfl _ _ _ (Oth.refl _ _)
            have hb4 : Below wr.heap.size wr (w3.setCells wr.heap.size 3 (sclR rx).toList) := hoth.bel hb3 (fun b q => by rw [show b = wr.heap.size from q]; exact Nat.le_refl _)
            generalize w3.setCells wr.heap.size 3 (sclR rx).toList = w4 at *
            have hbox5 : w4.heap[wr.heap.size]? = some (.cells (ccs ⟨2, 0, 0, rx.c.st, []⟩ rx.ma rx.mc rx.ka rx.kc) 50 (0, 0)) := hbox4
            have hld := run_ldW hbox5 rfl
            obtain ⟨va', vc', w', hap, hck⟩ := HK.out.step hget hok.out hn hb4
            rw [hcl.out] at hap
            have HCK := Hid.mk hck
            clear hck hbox hbox4 hbox5 hoth hb4 hb3 b3 hbl hbo hcd
            dsimp only
            go_wp2_with fail
            refine ⟨⟨k + 1, va', vc', rfl, rfl, hlt, HCK⟩, ?_⟩
            show L.length - ((k : Int) + 1).toNat < L.length - ((k : Int)).toNat
            omega
        by_cases e3 : r.c.kind = 3
        · have hcl : clR r = ⟨⟨3, 0, 0, ⟨0, [], [], [], [], 0, 0, []⟩, r.c.bucket⟩, none, 0, none, 0⟩ := by unfold clR; rw [if_neg e1, if_neg e2, if_pos e3]
          have hok : kok r.c = true := by simp [kok, e3]
          obtain ⟨va', vc', w', hap, hck⟩ := HK.out.step hget hok hn ((Below.refl _ _).alloc (Nat.le_refl _) (.cells #[.int .i64 3, .int .i64 0, .int .i64 0, .int .i64 0, .string ⟨#[]⟩, .string ⟨#[]⟩, .string ⟨#[]⟩, .slice none 0 0, .int .i64 0, .int .i64 0, .slice none 0 0, str r.c.bucket] 50))
          rw [hcl] at hap
          have hs1 : (wr.alloc (.cells #[.int .i64 3, .int .i64 0, .int .i64 0, .int .i64 0, .string ⟨#[]⟩, .string ⟨#[]⟩, .string ⟨#[]⟩, .slice none 0 0, .int .i64 0, .int .i64 0, .slice none 0 0, str r.c.bucket] 50)).heap.size = wr.heap.size + 1 := by simp
          rw [hs1] at hap
          have hap' : ∀ ty, (Builtin.append_ #[42, 42] ty #[.slice va k vc, .slice (some ⟨wr.heap.size + 1, 0, none⟩) 1 1]).run Tryd.prog ((wr.alloc (.cells #[.int .i64 3, .int .i64 0, .int .i64 0, .int .i64 0, .string ⟨#[]⟩, .string ⟨#[]⟩, .string ⟨#[]⟩, .slice none 0 0, .int .i64 0, .int .i64 0, .slice none 0 0, str r.c.bucket] 50)).alloc (.cells #[.int .i64 3, .int .i64 0, .int .i64 0, .int .i64 0, .string ⟨#[]⟩, .string ⟨#[]⟩, .string ⟨#[]⟩, .slice none 0 0, .int .i64 0, .int .i64 0, .slice none 0 0, str r.c.bucket] 50)) = .ok (.slice va' (k + 1) vc') w' := hap
          have hld := run_ldW (heap_alloc_new wr (.cells #[.int .i64 3, .int .i64 0, .int .i64 0, .int .i64 0, .string ⟨#[]⟩, .string ⟨#[]⟩, .string ⟨#[]⟩, .slice none 0 0, .int .i64 0, .int .i64 0, .slice none 0 0, str r.c.bucket] 50)) rfl
          obtain ⟨x1, x2, x3, x4, -⟩ := XC.out _ ((Below.refl _ _).alloc (Nat.le_refl _) (.cells #[.int .i64 3, .int .i64 0, .int .i64 0, .int .i64 0, .string ⟨#[]⟩, .string ⟨#[]⟩, .string ⟨#[]⟩, .slice none 0 0, .int .i64 0, .int .i64 0, .slice none 0 0, .string ⟨#[]⟩] 50))
          obtain ⟨y1, y2, y3, y4, -⟩ := XC.out _ ((Below.refl _ _).alloc (Nat.le_refl _) (.cells #[.int .i64 3, .int .i64 0, .int .i64 0, .int .i64 0, .string ⟨#[]⟩, .string ⟨#[]⟩, .string ⟨#[]⟩, .slice none 0 0, .int .i64 0, .int .i64 0, .slice none 0 0, .string ⟨#[]⟩] 50))
          have HCK := Hid.mk hck
          clear e1 e2 hap hck hcl hok hkk t1 t2 hs1
          go_wp2_with fail
          refine ⟨⟨k + 1, va', vc', rfl, rfl, hlt, HCK⟩, ?_⟩
          show L.length - ((k : Int) + 1).toNat < L.length - ((k : Int)).toNat
          omega
        by_cases e4 : r.c.kind = 4
        · have hcl : clR r = ⟨⟨4, 0, 0, ⟨0, [], [], [], [], 0, 0, []⟩, []⟩, none, 0, none, 0⟩ := by unfold clR; rw [if_neg e1, if_neg e2, if_neg e3, e4]
          have hok : kok r.c = true := by simp [kok, e4]
          obtain ⟨va', vc', w', hap, hck⟩ := HK.out.step hget hok hn ((Below.refl _ _).alloc (Nat.le_refl _) (.cells #[.int .i64 4, .int .i64 0, .int .i64 0, .int .i64 0, .string ⟨#[]⟩, .string ⟨#[]⟩, .string ⟨#[]⟩, .slice none 0 0, .int .i64 0, .int .i64 0, .slice none 0 0, .string ⟨#[]⟩] 50))
          rw [hcl] at hap
          have hs1 : (wr.alloc (.cells #[.int .i64 4, .int .i64 0, .int .i64 0, .int .i64 0, .string ⟨#[]⟩, .string ⟨#[]⟩, .string ⟨#[]⟩, .slice none 0 0, .int .i64 0, .int .i64 0, .slice none 0 0, .string ⟨#[]⟩] 50)).heap.size = wr.heap.size + 1 := by simp
          rw [hs1] at hap
          have hap' : ∀ ty, (Builtin.append_ #[42, 42] ty #[.slice va k vc, .slice (some ⟨wr.heap.size + 1, 0, none⟩) 1 1]).run Tryd.prog ((wr.alloc (.cells #[.int .i64 4, .int .i64 0, .int .i64 0, .int .i64 0, .string ⟨#[]⟩, .string ⟨#[]⟩, .string ⟨#[]⟩, .slice none 0 0, .int .i64 0, .int .i64 0, .slice none 0 0, .string ⟨#[]⟩] 50)).alloc (.cells #[.int .i64 4, .int .i64 0, .int .i64 0, .int .i64 0, .string ⟨#[]⟩, .string ⟨#[]⟩, .string ⟨#[]⟩, .slice none 0 0, .int .i64 0, .int .i64 0, .slice none 0 0, .string ⟨#[]⟩] 50)) = .ok (.slice va' (k + 1) vc') w' := hap
          have hld := run_ldW (heap_alloc_new wr (.cells #[.int .i64 4, .int .i64 0, .int .i64 0, .int .i64 0, .string ⟨#[]⟩, .string ⟨#[]⟩, .string ⟨#[]⟩, .slice none 0 0, .int .i64 0, .int .i64 0, .slice none 0 0, .string ⟨#[]⟩] 50)) rfl
          obtain ⟨x1, x2, x3, x4, -⟩ := XC.out _ ((Below.refl _ _).alloc (Nat.le_refl _) (.cells #[.int .i64 4, .int .i64 0, .int .i64 0, .int .i64 0, .string ⟨#[]⟩, .string ⟨#[]⟩, .string ⟨#[]⟩, .slice none 0 0, .int .i64 0, .int .i64 0, .slice none 0 0, .string ⟨#[]⟩] 50))
          obtain ⟨y1, y2, y3, y4, -⟩ := XC.out _ ((Below.refl _ _).alloc (Nat.le_refl _) (.cells #[.int .i64 4, .int .i64 0, .int .i64 0, .int .i64 0, .string ⟨#[]⟩, .string ⟨#[]⟩, .string ⟨#[]⟩, .slice none 0 0, .int .i64 0, .int .i64 0, .slice none 0 0, .string ⟨#[]⟩] 50))
          have HCK := Hid.mk hck
          clear e1 e2 e3 hap hck hcl hok hkk t1 t2 hs1
          go_wp2_with fail
          refine ⟨⟨k + 1, va', vc', rfl, rfl, hlt, HCK⟩, ?_⟩
          show L.length - ((k : Int) + 1).toNat < L.length - ((k : Int)).toNat
          omega
        have e5 : r.c.kind = 5 := by omega
        have hcl : clR r = ⟨⟨5, 0, 0, ⟨0, [], [], [], [], 0, 0, []⟩, []⟩, none, 0, none, 0⟩ := by unfold clR; rw [if_neg e1, if_neg e2, if_neg e3, e5]
        have hok : kok r.c = true := by simp [kok, e5]
        obtain ⟨va', vc', w', hap, hck⟩ := HK.out.step hget hok hn ((Below.refl _ _).alloc (Nat.le_refl _) (.cells #[.int .i64 5, .int .i64 0, .int .i64 0, .int .i64 0, .string ⟨#[]⟩, .string ⟨#[]⟩, .string ⟨#[]⟩, .slice none 0 0, .int .i64 0, .int .i64 0, .slice none 0 0, .string ⟨#[]⟩] 50))
        rw [hcl] at hap
        have hs1 : (wr.alloc (.cells #[.int .i64 5, .int .i64 0, .int .i64 0, .int .i64 0, .string ⟨#[]⟩, .string ⟨#[]⟩, .string ⟨#[]⟩, .slice none 0 0, .int .i64 0, .int .i64 0, .slice none 0 0, .string ⟨#[]⟩] 50)).heap.size = wr.heap.size + 1 := by simp
        rw [hs1] at hap
        have hap' : ∀ ty, (Builtin.append_ #[42, 42] ty #[.slice va k vc, .slice (some ⟨wr.heap.size + 1, 0, none⟩) 1 1]).run Tryd.prog ((wr.alloc (.cells #[.int .i64 5, .int .i64 0, .int .i64 0, .int .i64 0, .string ⟨#[]⟩, .string ⟨#[]⟩, .string ⟨#[]⟩, .slice none 0 0, .int .i64 0, .int .i64 0, .slice none 0 0, .string ⟨#[]⟩] 50)).alloc (.cells #[.int .i64 5, .int .i64 0, .int .i64 0, .int .i64 0, .string ⟨#[]⟩, .string ⟨#[]⟩, .string ⟨#[]⟩, .slice none 0 0, .int .i64 0, .int .i64 0, .slice none 0 0, .string ⟨#[]⟩] 50)) = .ok (.slice va' (k + 1) vc') w' := hap
        have hld := run_ldW (heap_alloc_new wr (.cells #[.int .i64 5, .int .i64 0, .int .i64 0, .int .i64 0, .string ⟨#[]⟩, .string ⟨#[]⟩, .string ⟨#[]⟩, .slice none 0 0, .int .i64 0, .int .i64 0, .slice none 0 0, .string ⟨#[]⟩] 50)) rfl
        obtain ⟨x1, x2, x3, x4, -⟩ := XC.out _ ((Below.refl _ _).alloc (Nat.le_refl _) (.cells #[.int .i64 5, .int .i64 0, .int .i64 0, .int .i64 0, .string ⟨#[]⟩, .string ⟨#[]⟩, .string ⟨#[]⟩, .slice none 0 0, .int .i64 0, .int .i64 0, .slice none 0 0, .string ⟨#[]⟩] 50))
        obtain ⟨y1, y2, y3, y4, -⟩ := XC.out _ ((Below.refl _ _).alloc (Nat.le_refl _) (.cells #[.int .i64 5, .int .i64 0, .int .i64 0, .int .i64 0, .string ⟨#[]⟩, .string ⟨#[]⟩, .string ⟨#[]⟩, .slice none 0 0, .int .i64 0, .int .i64 0, .slice none 0 0, .string ⟨#[]⟩] 50))
        have HCK := Hid.mk hck
        clear e1 e2 e3 e4 hap hck hcl hok hkk t1 t2 hs1
        go_wp2_with fail
        refine ⟨⟨k + 1, va', vc', rfl, rfl, hlt, HCK⟩, ?_⟩
        show L.length - ((k : Int) + 1).toNat < L.length - ((k : Int)).toNat
        omega
    · have d1 : decide ((k : Int) < (L.length : Int)) = false := decide_eq_false (fun q => hlt (Int.ofNat_lt.1 q))
      have d2 : decide (k < L.length) = false := decide_eq_false hlt
      have hke : k = L.length := Nat.le_antisymm hk (Nat.le_of_not_lt hlt)
      have hck := HK.out
      rw [hke] at hck
      have HE : Hid (ClP L w (.returned (.tuple #[.slice va L.length vc, .bool true])) wr) := ⟨⟨hck.bel, .inl ⟨by have := hck.ok; rw [List.take_length] at this; exact this, va, vc, rfl, hck.ct hL⟩⟩⟩
      subst hke
      clear hck HK
      go_wp2_with fail
      refine bodyPost_ret (results_tmp2 rfl _ _ _) rfl ?_
      exact HE.out
end Go.Proofs.YtiifkcnpdihlmaaDoor

/- Layer 22: ScriptBack. -/
namespace Go.Proofs.YtiifkcnpdihlmaaDoor
set_option maxRecDepth 100000
set_option linter.unusedVariables false
set_option linter.unusedSimpArgs false
open Go.RowKit
attribute [local go_sem ↓] Go.wp_at_zero Go.wp_at_succ
theorem prE_bad {M : List Cm} (h : noSh M = true) : prE M = 110 ∧ prT M = [] := by unfold prE prT; rw [h]; exact ⟨rfl, rfl⟩
theorem prE_two {M : List Cm} (h : noSh M = false) : prE M = 0 ∨ (prE M = 3 ∧ prT M = []) := by
  unfold prE prT
  rw [h]
  cases isLongF (txP M)
  · exact .inl rfl
  · exact .inr ⟨rfl, rfl⟩
theorem prsE_two (t : By) : prsE t = 0 ∨ ((prsE t = 3 ∨ prsE t = 110) ∧ prsL t = []) := by
  unfold prsE prsL
  cases isLongF t
  · cases cmds (lnl t)
    · exact .inr ⟨.inr rfl, rfl⟩
    · exact .inl rfl
  · exact .inr ⟨.inl rfl, rfl⟩
theorem no_sh {L : List Cr} (h : ∀ r ∈ L, kok r.c = true) : noSh (L.map (·.c)) = false := by
  unfold noSh
  refine List.any_eq_false.2 fun c hc => ?_
  obtain ⟨r, hr, rfl⟩ := List.mem_map.1 hc
  have := h r hr
  rw [kok_sh] at this
  cases hq : shpOf r.c with
  | none => rw [hq] at this; cases this
  | some s => simp
theorem yes_sh {L : List Cr} {r : Cr} (hr : r ∈ L) (h : kok r.c = false) : noSh (L.map (·.c)) = true := by
  unfold noSh
  refine List.any_eq_true.2 ⟨r.c, List.mem_map.2 ⟨r, hr, rfl⟩, ?_⟩
  rw [kok_sh] at h
  cases hq : shpOf r.c with
  | none => rfl
  | some s => rw [hq] at h; cases h
theorem rd_sh {M : List Cm} (h : ∀ c ∈ M, Rd1 c) : noSh M = false := by
  unfold noSh
  refine List.any_eq_false.2 fun c hc => ?_
  have := (h c hc).sh
  cases hq : shpOf c with
  | none => exact absurd hq this
  | some s => simp
theorem clR_map {L : List Cr} (h : ∀ r ∈ L, kok r.c = true) : (L.map clR).map (·.c) = (L.map (·.c)).map (fun c => clr (shD c) c) := by
  rw [List.map_map, List.map_map]
  exact List.map_congr_left fun r hr => clR_clr r (h r hr)
theorem Rd1.t {c : Cm} (h : Rd1 c) : OkT c := ⟨h.ok, by have := h.b; omega, by have := h.sb; omega, by have := h.sk; omega, by have := h.sd; omega, by have := h.ml; omega, by have := h.kl; omega, fun e he => by have := h.me e he; omega⟩
theorem CT.cl {w : World} {la : Option Addr} {R : List Cr} (h : CT w la R) (ok : ∀ r ∈ R, OkT r.c) : CL w w.heap.size la (R.map (·.c)) := fun k c hk => by
  rw [List.getElem?_map] at hk
  cases hq : R[k]? with
  | none => rw [hq] at hk; cases hk
  | some r =>
    rw [hq] at hk
    injection hk with hk
    subst hk
    obtain ⟨b, off, e, hlt, hr, s1, s2⟩ := h k r hq
    exact ⟨ok r (List.mem_of_getElem? hq), b, off, r.ma, r.mc, r.ka, r.kc, e, hlt, hr, ⟨fun j p hj => s1.at'.get j p hj, fun j n hj => s2.at' j n hj⟩⟩
theorem print_gv {base : Nat} {w : World} {va : Option Addr} {vc n : Nat} {R : List Cr} {M : List Cm} (hG : Gv base w va vc R) (hR : R.map (·.c) = M) (ok : ∀ c ∈ M, OkT c) (hn : n = M.length) (hl : n ≤ 4611686018427387904) (hS : SG w) (hT : TB w) : Calls Tryd.prog 12 #[.slice va n vc] w fun e w' => e = .returned (.tuple #[str (prT M), .int .i64 (prE M)]) ∧ Below w.heap.size w w' := by
  subst hn hR
  exact print_any _ _ va vc w (hG.cl fun r hr => ok r.c (List.mem_map.2 ⟨r, hr, rfl⟩)) (Nat.le_refl _) hl hS hT
theorem print_fc {base : Nat} {w : World} {va : Option Addr} {vc : Nat} {R : List Cr} {M : List Cm} (hF : Fc base w (.slice va R.length vc) R) (hR : R.map (·.c) = M) (ok : ∀ c ∈ M, OkT c) (hl : R.length ≤ 4611686018427387904) (hS : SG w) (hT : TB w) : Calls Tryd.prog 12 #[.slice va R.length vc] w fun e w' => e = .returned (.tuple #[str (prT M), .int .i64 (prE M)]) ∧ Below w.heap.size w w' := by
  have hlen : R.length = M.length := by rw [← hR, List.length_map]
  have h := print_any M w.heap.size va vc w (by rw [← hR]; exact (CT.ofFc hF).cl fun r hr => ok r.c (by rw [← hR]; exact List.mem_map.2 ⟨r, hr, rfl⟩)) (Nat.le_refl _) (by omega) hS hT
  rw [← hlen] at h
  exact h
set_option maxHeartbeats 4000000 in
theorem back_walk (L : List Cr) (la : Option Addr) (lc : Nat) (t : By) (ht : t.length ≤ 140737488351232) (w : World) (hL : CT w la L) (hn : L.length ≤ 879609302208) (hi : ∀ r ∈ L, OkI r.c) (hS : SG w) (hT : TB w) (hE : EG w) :
    Calls Tryd.prog 7 #[.slice la L.length lc, str t] w fun e w' => e = .returned (.bool true) ∧ Below w.heap.size w w' := by
  have HI : Hid (∀ c ∈ L.map (·.c), OkT c) := ⟨fun c hc => by obtain ⟨r, hr, rfl⟩ := List.mem_map.1 hc; exact (hi r hr).t⟩
  have HC : Hid (∀ c ∈ L.map (·.c), OkC c) := ⟨fun c hc => by obtain ⟨r, hr, rfl⟩ := List.mem_map.1 hc; exact (hi r hr).ok⟩
  have HM : Hid (L.length = (L.map (·.c)).length) := ⟨by rw [List.length_map]⟩
  go_enter Tryd.func7, Tryd.ntmps7
  go_wp2_with fail
  refine Calls.mono (first_any w hS hT hE) ?_
  rintro e w1 ⟨rfl, b1⟩
  dsimp only
  go_wp2_with fail
  refine Calls.mono (qCleared_any L la lc w1 (hL.later b1) hn) ?_
  rintro e w2 ⟨b2, hcl⟩
  have B2 := below_seq b1 b2
  have hgi := given_any L la lc w2 (hL.later B2) hn (fun r hr => ⟨(hi r hr).ml, (hi r hr).kl⟩)
  rcases hcl with ⟨hok, vb, vd, rfl, hCT⟩ | ⟨⟨r0, hr0, hbad⟩, rfl⟩
  case inr =>
    obtain ⟨p1, p2⟩ := prE_bad (yes_sh hr0 hbad)
    dsimp only
    go_wp2_with fail
    with_reducible refine Calls.mono hgi ?_
    rintro e w3 ⟨va, vc, R, rfl, hG, hRR, b3⟩
    have B3 := below_seq B2 b3
    have hpr := print_gv hG hRR HI.out HM.out (by omega) (hS.below B3) (hT.below B3)
    rw [p1, p2] at hpr
    clear hgi
    dsimp only
    go_wp2_with fail
    with_reducible refine Calls.mono hpr ?_
    rintro e w4 ⟨rfl, b4⟩
    clear hpr
    dsimp only
    go_wp2_with fail
    go_ret
    exact ⟨rfl, below_seq B3 b4⟩
  case inl =>
    have hno := no_sh hok
    have HMC := Hid.mk (clR_map hok)
    dsimp only
    go_wp2_with fail
    with_reducible refine Calls.mono hgi ?_
    rintro e w3 ⟨va, vc, R, rfl, hG, hRR, b3⟩
    have B3 := below_seq B2 b3
    have hpr := print_gv hG hRR HI.out HM.out (by omega) (hS.below B3) (hT.below B3)
    clear hgi
    rcases prE_two hno with p1 | ⟨p1, p2⟩
    case inr =>
      rw [p1, p2] at hpr
      dsimp only
      go_wp2_with fail
      with_reducible refine Calls.mono hpr ?_
      rintro e w4 ⟨rfl, b4⟩
      have B4 := below_seq B3 b4
      have hSz := hS.below B4
      have hTz := hT.below B4
      have hEz := hE.below B4
      clear hpr HI HC HM HMC hG hRR hCT hL hi hok hno p1 p2 B2 B3 b1 b2 b3 b4
      have hP := Hid.mk (prs_rd t)
      have hpt := parse_e (x := t) rfl rfl (by omega) _ hSz hTz hEz
      dsimp only
      go_wp2_with fail
      rcases prsE_two t with q1 | ⟨q1, q2⟩
      case inr =>
        have hpt2 : Calls Tryd.prog 11 #[str t] w4 fun e w' => ∃ va vc, e = .returned (.tuple #[.slice va 0 vc, .int .i64 (prsE t)]) ∧ Below w4.heap.size w4 w' := by
          refine Calls.mono hpt ?_
          rintro e w' ⟨va, vc, R, rfl, -, hR, b⟩
          rw [q2] at hR
          have : R = [] := by simpa using hR
          subst this
          exact ⟨va, vc, rfl, b⟩
        clear hpt
        with_reducible refine Calls.mono hpt2 ?_
        rintro e w9 ⟨v9, c9, rfl, b9⟩
        clear hpt2
        rcases q1 with q1 | q1
        · rw [q1]
          dsimp only
          go_wp2_with fail
          go_ret
          exact ⟨rfl, below_seq B4 b9⟩
        · rw [q1]
          dsimp only
          go_wp2_with fail
          go_ret
          exact ⟨rfl, below_seq B4 b9⟩
      case inl =>
        rw [q1] at hpt
        with_reducible refine Calls.mono hpt ?_
        rintro e w9 ⟨v9, c9, R9, rfl, hF9, hR9, b9⟩
        have hS9 := hSz.below b9
        have hT9 := hTz.below b9
        have hE9 := hEz.below b9
        have B9 := below_seq B4 b9
        have hRl : R9.length ≤ 1024 := by have h := congrArg List.length hR9; rw [List.length_map] at h; have := hP.out.1; omega
        have hpm := print_fc hF9 hR9 (fun c hc => (hP.out.2 c hc).t) (by omega) hS9 hT9
        have hnoP := rd_sh hP.out.2
        clear hpt hSz hTz hEz B4 b9
        dsimp only
        go_wp2_with fail
        rcases prE_two hnoP with s1 | ⟨s1, s2⟩
        case inr =>
          rw [s1] at hpm
          with_reducible refine Calls.mono hpm ?_
          rintro e w10 ⟨rfl, b10⟩
          clear hpm
          dsimp only
          go_wp2_with fail
          go_ret
          exact ⟨rfl, below_seq B9 b10⟩
        case inl =>
          rw [s1] at hpm
          obtain ⟨z1, z2, -⟩ := print_back (fun c hc => (hP.out.2 c hc).ok) s1
          rw [rd_back hP.out.2] at z2
          have hTl : (prT (prsL t)).length ≤ 65536 := prTlen _
          generalize hU : prT (prsL t) = U at *
          with_reducible refine Calls.mono hpm ?_
          rintro e w10 ⟨rfl, b10⟩
          have hS10 := hS9.below b10
          have hT10 := hT9.below b10
          have hE10 := hE9.below b10
          have B10 := below_seq B9 b10
          have hF10 := hF9.later b10
          have hpn := parse_e z1 z2 (by omega) w10 hS10 hT10 hE10
          clear hpm hS9 hT9 hE9 B9 b10 hF9
          dsimp only
          go_wp2_with fail
          with_reducible refine Calls.mono hpn ?_
          rintro e w11 ⟨v11, c11, R11, rfl, hF11, hR11, b11⟩
          have hS11 := hS10.below b11
          have hT11 := hT10.below b11
          have B11 := below_seq B10 b11
          have hFm := hF10.later b11
          have hRl2 : R11.length ≤ 1024 := by have h := congrArg List.length hR11; rw [List.length_map] at h; have := hP.out.1; omega
          have hpq := print_fc hF11 hR11 (fun c hc => (hP.out.2 c hc).t) (by omega) hS11 hT11
          rw [hU, s1] at hpq
          clear hpn hS10 hT10 hE10 B10 b11 hF10
          dsimp only
          go_wp2_with fail
          with_reducible refine Calls.mono hpq ?_
          rintro e w12 ⟨rfl, b12⟩
          have B12 := below_seq B11 b12
          have hFa := hFm.later b12
          have hFb := hF11.later b12
          have tl := told_fc (t := t) hFa hR9
          clear hpq hFm hF11
          dsimp only
          go_wp2_with fail
          with_reducible refine Calls.mono tl ?_
          rintro e w13 ⟨ua, uc, Ua, rfl, hQa, hRa, b13⟩
          have tl2 := told_fc (t := t) (hFb.later b13) hR11
          clear tl
          dsimp only
          go_wp2_with fail
          with_reducible refine Calls.mono tl2 ?_
          rintro e w14 ⟨ub, ud, Ub, rfl, hQb, hRb, b14⟩
          have sm := same_l (lc := uc) (lc' := ud) hRa hRb (by have := hP.out.1; omega) hP.out.2 (CT.ofFq (hQa.later b14)) (CT.ofFq hQb)
          clear tl2
          dsimp only
          go_wp2_with fail
          with_reducible refine Calls.mono sm ?_
          rintro e w15 ⟨rfl, b15⟩
          clear sm
          dsimp only
          go_wp2_with fail
          go_ret
          exact ⟨rfl, below_seq (below_seq (below_seq B12 b13) b14) b15⟩
    case inl =>
      obtain ⟨z1, z2, -⟩ := print_back HC.out p1
      have hPM := Hid.mk (prs_rd (prT (L.map (·.c))))
      have hTl : (prT (L.map (·.c))).length ≤ 65536 := prTlen _
      rw [p1] at hpr
      have hz := z2.trans HMC.out.symm
      generalize hV : prT (L.map (·.c)) = V at *
      clear HI HC HM HMC hG hRR z2 hno p1 hV
      dsimp only
      go_wp2_with fail
      with_reducible refine Calls.mono hpr ?_
      rintro e w4 ⟨rfl, b4⟩
      have B4 := below_seq B3 b4
      have hCT4 := hCT.later (below_seq b3 b4)
      have hpv := parse_e z1 rfl (by omega) w4 (hS.below B4) (hT.below B4) (hE.below B4)
      clear hpr hCT
      dsimp only
      go_wp2_with fail
      with_reducible refine Calls.mono hpv ?_
      rintro e w5 ⟨v5, c5, R5, rfl, hF5, hR5, b5⟩
      have tl := told_fc hF5 hR5
      clear hpv
      dsimp only
      go_wp2_with fail
      with_reducible refine Calls.mono tl ?_
      rintro e w6 ⟨ta, tc, Ra, rfl, hQa, hRa, b6⟩
      have sm := same_l (lc := tc) (lc' := vd) hRa hz.symm (by have := hPM.out.1; omega) hPM.out.2 (CT.ofFq hQa) (hCT4.later (below_seq b5 b6))
      rw [List.length_map] at sm
      clear tl
      dsimp only
      go_wp2_with fail
      with_reducible refine Calls.mono sm ?_
      rintro e w7 ⟨rfl, b7⟩
      have B7 := below_seq (below_seq (below_seq B4 b5) b6) b7
      have hSz := hS.below B7
      have hTz := hT.below B7
      have hEz := hE.below B7
      clear sm hQa hRa hF5 hR5 hCT4 hPM hz z1 hTl hL hi hok B2 B3 B4 b1 b2 b3 b4 b5 b6 b7
      have hP := Hid.mk (prs_rd t)
      have hpt := parse_e (x := t) rfl rfl (by omega) _ hSz hTz hEz
      dsimp only
      go_wp2_with fail
      rcases prsE_two t with q1 | ⟨q1, q2⟩
      case inr =>
        have hpt2 : Calls Tryd.prog 11 #[str t] w7 fun e w' => ∃ va vc, e = .returned (.tuple #[.slice va 0 vc, .int .i64 (prsE t)]) ∧ Below w7.heap.size w7 w' := by
          refine Calls.mono hpt ?_
          rintro e w' ⟨va, vc, R, rfl, -, hR, b⟩
          rw [q2] at hR
          have : R = [] := by simpa using hR
          subst this
          exact ⟨va, vc, rfl, b⟩
        clear hpt
        with_reducible refine Calls.mono hpt2 ?_
        rintro e w9 ⟨v9, c9, rfl, b9⟩
        clear hpt2
        rcases q1 with q1 | q1
        · rw [q1]
          dsimp only
          go_wp2_with fail
          go_ret
          exact ⟨rfl, below_seq B7 b9⟩
        · rw [q1]
          dsimp only
          go_wp2_with fail
          go_ret
          exact ⟨rfl, below_seq B7 b9⟩
      case inl =>
        rw [q1] at hpt
        with_reducible refine Calls.mono hpt ?_
        rintro e w9 ⟨v9, c9, R9, rfl, hF9, hR9, b9⟩
        have hS9 := hSz.below b9
        have hT9 := hTz.below b9
        have hE9 := hEz.below b9
        have B9 := below_seq B7 b9
        have hRl : R9.length ≤ 1024 := by have h := congrArg List.length hR9; rw [List.length_map] at h; have := hP.out.1; omega
        have hpm := print_fc hF9 hR9 (fun c hc => (hP.out.2 c hc).t) (by omega) hS9 hT9
        have hnoP := rd_sh hP.out.2
        clear hpt hSz hTz hEz B7 b9
        dsimp only
        go_wp2_with fail
        rcases prE_two hnoP with s1 | ⟨s1, s2⟩
        case inr =>
          rw [s1] at hpm
          with_reducible refine Calls.mono hpm ?_
          rintro e w10 ⟨rfl, b10⟩
          clear hpm
          dsimp only
          go_wp2_with fail
          go_ret
          exact ⟨rfl, below_seq B9 b10⟩
        case inl =>
          rw [s1] at hpm
          obtain ⟨z1, z2, -⟩ := print_back (fun c hc => (hP.out.2 c hc).ok) s1
          rw [rd_back hP.out.2] at z2
          have hTl : (prT (prsL t)).length ≤ 65536 := prTlen _
          generalize hU : prT (prsL t) = U at *
          with_reducible refine Calls.mono hpm ?_
          rintro e w10 ⟨rfl, b10⟩
          have hS10 := hS9.below b10
          have hT10 := hT9.below b10
          have hE10 := hE9.below b10
          have B10 := below_seq B9 b10
          have hF10 := hF9.later b10
          have hpn := parse_e z1 z2 (by omega) w10 hS10 hT10 hE10
          clear hpm hS9 hT9 hE9 B9 b10 hF9
          dsimp only
          go_wp2_with fail
          with_reducible refine Calls.mono hpn ?_
          rintro e w11 ⟨v11, c11, R11, rfl, hF11, hR11, b11⟩
          have hS11 := hS10.below b11
          have hT11 := hT10.below b11
          have B11 := below_seq B10 b11
          have hFm := hF10.later b11
          have hRl2 : R11.length ≤ 1024 := by have h := congrArg List.length hR11; rw [List.length_map] at h; have := hP.out.1; omega
          have hpq := print_fc hF11 hR11 (fun c hc => (hP.out.2 c hc).t) (by omega) hS11 hT11
          rw [hU, s1] at hpq
          clear hpn hS10 hT10 hE10 B10 b11 hF10
          dsimp only
          go_wp2_with fail
          with_reducible refine Calls.mono hpq ?_
          rintro e w12 ⟨rfl, b12⟩
          have B12 := below_seq B11 b12
          have hFa := hFm.later b12
          have hFb := hF11.later b12
          have tl := told_fc (t := t) hFa hR9
          clear hpq hFm hF11
          dsimp only
          go_wp2_with fail
          with_reducible refine Calls.mono tl ?_
          rintro e w13 ⟨ua, uc, Ua, rfl, hQa, hRa, b13⟩
          have tl2 := told_fc (t := t) (hFb.later b13) hR11
          clear tl
          dsimp only
          go_wp2_with fail
          with_reducible refine Calls.mono tl2 ?_
          rintro e w14 ⟨ub, ud, Ub, rfl, hQb, hRb, b14⟩
          have sm := same_l (lc := uc) (lc' := ud) hRa hRb (by have := hP.out.1; omega) hP.out.2 (CT.ofFq (hQa.later b14)) (CT.ofFq hQb)
          clear tl2
          dsimp only
          go_wp2_with fail
          with_reducible refine Calls.mono sm ?_
          rintro e w15 ⟨rfl, b15⟩
          clear sm
          dsimp only
          go_wp2_with fail
          go_ret
          exact ⟨rfl, below_seq (below_seq (below_seq B12 b13) b14) b15⟩
end Go.Proofs.YtiifkcnpdihlmaaDoor
