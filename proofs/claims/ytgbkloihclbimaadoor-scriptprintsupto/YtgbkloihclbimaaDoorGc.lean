import Derived.Test.YtgbkloihclbimaaDoorYf
import Derived.Test.YtgbkloihclbimaaDoorGe
import Derived.Test.YtgbkloihclbimaaDoorGh
import Derived.Test.YtgbkloihclbimaaDoorYe
import Derived.Test.YtgbkloihclbimaaDoorGf
import Derived.Test.YtgbkloihclbimaaDoorWs
import Derived.Deep.RegionHeld3
/- Layer 22: ScriptNumbers. -/
namespace Go.Proofs.YtgbkloihclbimaaDoor
set_option maxRecDepth 100000
set_option linter.unusedVariables false
set_option linter.unusedSimpArgs false
open Go.RowKit
attribute [local go_sem ↓] Go.wp_at_zero Go.wp_at_succ
noncomputable def adS (v x : Value) : Sem Value := binOp BinOp.add 9 v x
theorem ad9 (v x : Value) : binOp BinOp.add 9 v x = adS v x := rfl
theorem run_ad (x y : By) (h : x.length + y.length ≤ 9223372036854775807) (w : World) : (adS (str x) (str y)).run Tryd.prog w = .ok (str (x ++ y)) w := by
  have hr := run_string_add_sum (P := Tryd.prog) w ⟨x.toArray⟩ ⟨y.toArray⟩ (by rw [str_size, str_size]; exact h)
  have e : (⟨x.toArray⟩ : ByteArray) ++ ⟨y.toArray⟩ = ⟨(x ++ y).toArray⟩ := by
    apply ByteArray.ext
    simp
  unfold adS
  rw [e] at hr
  simpa [binOp] using hr
theorem Fc.at {base : Nat} {w : World} {va : Option Addr} {vc : Nat} {R : List Cr} {L : List Cm} (h : Fc base w (.slice va R.length vc) R) (hR : R.map (·.c) = L) (hne : L ≠ []) : ∃ b, va = some ⟨b, 0, none⟩ ∧ b < w.heap.size ∧ R.length ≤ vc ∧ ∀ (k : Nat) (c : Cm), L[k]? = some c → ∃ ma mc ka kc, w.rangeAt b (k * 12) (ccs c ma mc ka kc).toList := by
  have hl : R.length ≠ 0 := fun q => hne (by rw [← hR]; simp [List.eq_nil_of_length_eq_zero q])
  rcases h.own.2 with ⟨e, h0⟩ | ⟨g, cap, cur, e, _, _, h1, _⟩
  · exact absurd h0 hl
  · injection e with e1 e2 e3
    subst e1 e3
    refine ⟨g, rfl, (h.own.lt g rfl).2, h1, fun k c hk => ?_⟩
    rw [← hR, List.getElem?_map] at hk
    cases hq : R[k]? with
    | none => rw [hq] at hk; cases hk
    | some r =>
      rw [hq] at hk
      injection hk with hk
      subst hk
      have hkl := (List.getElem?_eq_some_iff.1 hq).1
      refine ⟨r.ma, r.mc, r.ka, r.kc, fun j v hv => ?_⟩
      have hj := (List.getElem?_eq_some_iff.1 hv).1
      have hj2 : j < 12 := hj
      rw [h.own.cellAt _ (by omega)]
      exact rcl_get R k r hq j v hv
theorem cl_n3 (n q : Int) (hn : In64 n) (hq : In64 q) (w : World) : CL (w.alloc (.cells (rcl [⟨n1 n, none, 0, none, 0⟩, ⟨n2 q, none, 0, none, 0⟩, ⟨n9 n q, none, 0, none, 0⟩]).toArray 36)) (w.alloc (.cells (rcl [⟨n1 n, none, 0, none, 0⟩, ⟨n2 q, none, 0, none, 0⟩, ⟨n9 n q, none, 0, none, 0⟩]).toArray 36)).heap.size (some ⟨w.heap.size, 0, none⟩) (N3 n q) :=
  cl_blk (R := [⟨n1 n, none, 0, none, 0⟩, ⟨n2 q, none, 0, none, 0⟩, ⟨n9 n q, none, 0, none, 0⟩]) (heap_alloc_new w _) rfl (fun r hr => by
    have z : ∀ k : Int, 0 ≤ k → k ≤ 100 → In64 k := fun k h1 h2 => ⟨by omega, by omega⟩
    have h : r = ⟨n1 n, none, 0, none, 0⟩ ∨ r = ⟨n2 q, none, 0, none, 0⟩ ∨ r = ⟨n9 n q, none, 0, none, 0⟩ := by simpa using hr
    rcases h with rfl | rfl | rfl
    · exact ⟨okt_of (z 2 (by decide) (by decide)) (z 0 (by decide) (by decide)) (z 0 (by decide) (by decide)) (z 17 (by decide) (by decide)) (z 0 (by decide) (by decide)) hn (fun k hk => by cases hk) (by simp) (by simp) (by simp) (by simp) rfl (by simp), cb_nil _ _ _ rfl rfl⟩
    · exact ⟨okt_of (z 2 (by decide) (by decide)) (z 0 (by decide) (by decide)) (z 0 (by decide) (by decide)) (z 12 (by decide) (by decide)) hq (z 0 (by decide) (by decide)) (fun k hk => by cases hk) (by simp) (by simp) (by simp) (by simp) rfl (by simp), cb_nil _ _ _ rfl rfl⟩
    · exact ⟨okt_of (z 1 (by decide) (by decide)) hn hq (z 0 (by decide) (by decide)) (z 0 (by decide) (by decide)) (z 0 (by decide) (by decide)) (fun k hk => by cases hk) (by simp) (by simp) (by simp) (by simp) rfl (by simp), cb_nil _ _ _ rfl rfl⟩)
theorem print3 (n q : Int) (hn : In64 n) (hq : In64 q) (w : World) (hS : SG w) (hT : TB w) : Calls Tryd.prog 6 #[.slice (some ⟨w.heap.size, 0, none⟩) 3 3] (w.alloc (.cells (rcl [⟨n1 n, none, 0, none, 0⟩, ⟨n2 q, none, 0, none, 0⟩, ⟨n9 n q, none, 0, none, 0⟩]).toArray 36)) fun e w' => e = .returned (.tuple #[str (prT (N3 n q)), .int .i64 0]) ∧ Below w.heap.size w w' := by
  have b0 : Below w.heap.size w (w.alloc (.cells (rcl [⟨n1 n, none, 0, none, 0⟩, ⟨n2 q, none, 0, none, 0⟩, ⟨n9 n q, none, 0, none, 0⟩]).toArray 36)) := (Below.refl _ _).alloc (Nat.le_refl _) _
  refine Calls.mono (print_any (N3 n q) _ (some ⟨w.heap.size, 0, none⟩) 3 _ (cl_n3 n q hn hq w) (Nat.le_refl _) (by simp) (hS.below b0) (hT.below b0)) ?_
  rintro e w' ⟨rfl, hb⟩
  rw [n3_prE hn hq]
  exact ⟨rfl, below_seq b0 hb⟩
theorem itoa_any (n : Int) (h : In64 n) (w : World) (hT : TB w) : Calls Tryd.prog 19 #[.int .i64 n] w fun e w' => e = .returned (str (Lib.itoa n)) ∧ Below w.heap.size w w' := by
  refine (Tryd.strconv_Itoa n h.1 h.2 w hT.out).mono ?_
  rintro e w1 ⟨rfl, k, os, rfl⟩
  exact ⟨rfl, Lib.below_grow _ _ (Nat.le_refl _) _ _⟩
/-- Parse, of a text whose answer is known -/
theorem parse_e {x : By} {n : Int} {L : List Cm} (h : prsE x = n) (hL : prsL x = L) (hl : x.length ≤ 4611686018427387904) (w : World) (hS : SG w) (hT : TB w) (hE : EG w) : Calls Tryd.prog 13 #[str x] w fun e w' => ∃ va vc R, e = .returned (.tuple #[.slice va R.length vc, .int .i64 n]) ∧ Fc w.heap.size w' (.slice va R.length vc) R ∧ R.map (·.c) = L ∧ Below w.heap.size w w' := by
  refine Calls.mono (parse_any x hl w hS hT hE) ?_
  rintro e w' ⟨b, va, vc, R, rfl, hF, hR⟩
  rw [h]
  exact ⟨va, vc, R, rfl, hF, hR.trans hL, b⟩
attribute [local go_sem ↓] ad9
end Go.Proofs.YtgbkloihclbimaaDoor

/- Layer 22 without the model: the document's lines of commands. -/
namespace Go.Proofs.YtgbkloihclbimaaDoor
set_option maxRecDepth 100000
set_option linter.unusedVariables false
set_option linter.unusedSimpArgs false
/-- what follows a step's word, in the document's letters -/
def wnt (k : Int) : By :=
  if k = 1 then [98] else if k = 2 then [98] else if k = 3 then [98, 107, 100, 77] else if k = 4 then [98, 107] else if k = 5 then [98, 107, 115]
  else if k = 6 then [98, 107] else if k = 7 then [98, 107, 115] else if k = 8 then [98, 107, 110] else if k = 9 then [98, 107, 110] else if k = 10 then []
  else if k = 11 then [98] else if k = 12 then [98, 115] else if k = 13 then [98, 100] else if k = 14 then [98, 100] else if k = 15 then [98, 110] else if k = 16 then [98, 110]
  else if k = 17 then [110] else [110, 75]
def nmF (k : Int) : By := ((shps.find? (fun s => s.kind == 2 && s.step == k)).getD ⟨[], 0, 0, []⟩).name
/-- the document's letter of a part, the program's -/
def cnv (c : UInt8) : UInt8 := if c = 115 then 113 else if c = 77 then 109 else if c = 75 then 99 else c
/-- the text of a part, in the document's letters -/
def ltx (s : Sp) (c : UInt8) : By :=
  if c = 98 then 32 :: quo s.bucket
  else if c = 107 then 32 :: quo s.key
  else if c = 100 then 32 :: quo s.data
  else if c = 115 then 32 :: Lib.itoa s.seq
  else if c = 110 then 32 :: Lib.itoa s.n
  else if c = 77 then s.mt.flatMap (fun e => 32 :: quo e.key ++ 32 :: quo e.val)
  else s.kept.flatMap (fun n => 32 :: Lib.itoa n)
def stepL (s : Sp) : By := nmF s.kind ++ (wnt s.kind).flatMap (ltx s)
def lineL (c : Cm) : By :=
  if c.kind = 1 then [119, 111, 114, 108, 100, 32] ++ Lib.itoa c.sectors ++ [32] ++ Lib.itoa c.size
  else if c.kind = 2 then stepL c.st
  else if c.kind = 3 then [118, 97, 108, 117, 101, 32] ++ quo c.bucket
  else if c.kind = 4 then [100, 105, 103, 101, 115, 116]
  else [117, 112]
theorem jn_app (a b : List By) : jn (a ++ b) = jn a ++ jn b := by simp [jn]
theorem ltx_pw (c : Cm) (l : UInt8) (h : l = 98 ∨ l = 107 ∨ l = 100 ∨ l = 77 ∨ l = 115 ∨ l = 110 ∨ l = 75) : jn ((pw c (cnv l)).map wtx) = ltx c.st l := by
  rcases h with rfl | rfl | rfl | rfl | rfl | rfl | rfl
  · show jn [quo c.st.bucket] = 32 :: quo c.st.bucket
    simp [jn]
  · show jn [quo c.st.key] = 32 :: quo c.st.key
    simp [jn]
  · show jn [quo c.st.data] = 32 :: quo c.st.data
    simp [jn]
  · show jn ((c.st.mt.flatMap (fun e => [Wd.t e.key, Wd.t e.val])).map wtx) = c.st.mt.flatMap (fun e => 32 :: quo e.key ++ 32 :: quo e.val)
    generalize c.st.mt = L
    induction L with
    | nil => rfl
    | cons e L ih =>
      rw [List.flatMap_cons, List.map_append, jn_app, ih, List.flatMap_cons]
      congr 1
      simp [jn, wtx]
  · show jn [Lib.itoa c.st.seq] = 32 :: Lib.itoa c.st.seq
    simp [jn]
  · show jn [Lib.itoa c.st.n] = 32 :: Lib.itoa c.st.n
    simp [jn]
  · show jn ((c.st.kept.map Wd.n).map wtx) = c.st.kept.flatMap (fun n => 32 :: Lib.itoa n)
    generalize c.st.kept = L
    induction L with
    | nil => rfl
    | cons e L ih =>
      rw [List.map_cons, List.map_cons, List.flatMap_cons, ← ih]
      simp [jn, wtx]
theorem ite_P {α : Type} {P : α → Prop} {c : Prop} [Decidable c] {a b : α} (ha : P a) (hb : P b) : P (if c then a else b) := by
  by_cases h : c
  · rw [if_pos h]; exact ha
  · rw [if_neg h]; exact hb
theorem wnt_len (k : Int) : (wnt k).length ≤ 4 := by
  unfold wnt
  repeat (refine ite_P (P := fun l : By => l.length ≤ 4) (by decide) ?_)
  decide
theorem wnt_letters (k : Int) : ∀ c ∈ wnt k, c = 98 ∨ c = 107 ∨ c = 100 ∨ c = 77 ∨ c = 115 ∨ c = 110 ∨ c = 75 := by
  unfold wnt
  repeat (refine ite_P (P := fun l : By => ∀ c ∈ l, c = 98 ∨ c = 107 ∨ c = 100 ∨ c = 77 ∨ c = 115 ∨ c = 110 ∨ c = 75) (by decide) ?_)
  decide
theorem parts_ltx (c : Cm) : ∀ p : By, (∀ l ∈ p, l = 98 ∨ l = 107 ∨ l = 100 ∨ l = 77 ∨ l = 115 ∨ l = 110 ∨ l = 75) → jn (((p.map cnv).flatMap (pw c)).map wtx) = p.flatMap (ltx c.st)
  | [], _ => rfl
  | l :: p, h => by
    rw [List.map_cons, List.flatMap_cons, List.map_append, jn_app, ltx_pw c l (h l (by simp)), parts_ltx c p (fun x hx => h x (by simp [hx])), List.flatMap_cons]
theorem shp_step {k : Int} (h : 1 ≤ k ∧ k ≤ 18) : ∃ s ∈ shps, s.kind = 2 ∧ s.step = k ∧ s.name = nmF k ∧ s.parts = (wnt k).map cnv ∧ ∀ c : Cm, c.kind = 2 → c.st.kind = k → shpOf c = some s := by
  have hs : k = 1 ∨ k = 2 ∨ k = 3 ∨ k = 4 ∨ k = 5 ∨ k = 6 ∨ k = 7 ∨ k = 8 ∨ k = 9 ∨ k = 10 ∨ k = 11 ∨ k = 12 ∨ k = 13 ∨ k = 14 ∨ k = 15 ∨ k = 16 ∨ k = 17 ∨ k = 18 := by omega
  have key : ∀ s ∈ shps, (decide (s.kind = 2) && decide (s.name = nmF s.step) && decide (s.parts = (wnt s.step).map cnv)) = decide (s.kind = 2) := by decide +kernel
  have hx : ∃ s, shps.find? (fun s => s.kind == 2 && s.step == k) = some s ∧ s.kind = 2 ∧ s.step = k := by
    rcases hs with rfl | rfl | rfl | rfl | rfl | rfl | rfl | rfl | rfl | rfl | rfl | rfl | rfl | rfl | rfl | rfl | rfl | rfl <;> exact ⟨_, rfl, rfl, rfl⟩
  obtain ⟨s, h4, h2, h3⟩ := hx
  have hm := List.mem_of_find?_eq_some h4
  have hk := key s hm
  rw [decide_eq_true h2] at hk
  simp at hk
  refine ⟨s, hm, h2, h3, by rw [← h3]; exact hk.1, by rw [← h3]; exact hk.2, fun c hc hck => ?_⟩
  unfold shpOf
  rw [← h4]
  congr 1
  funext t
  simp only [isOf, hc, hck]
  cases q : (t.kind == 2) with
  | false => rfl
  | true =>
    have : t.kind = 2 := by simpa using q
    rw [this]; rfl
/-- is a command's kind one? -/
def kok (c : Cm) : Bool := decide (1 ≤ c.kind ∧ c.kind ≤ 5) && (c.kind != 2 || decide (1 ≤ c.st.kind ∧ c.st.kind ≤ 18))
theorem lineL_eq (c : Cm) (h : kok c = true) : lineL c = lineF (shD c) c := by
  obtain ⟨k, a, b, st, bk⟩ := c
  have hk : k = 1 ∨ k = 2 ∨ k = 3 ∨ k = 4 ∨ k = 5 := by simp [kok] at h; omega
  rcases hk with rfl | rfl | rfl | rfl | rfl
  · show [119, 111, 114, 108, 100, 32] ++ Lib.itoa a ++ [32] ++ Lib.itoa b = [119, 111, 114, 108, 100] ++ jn [Lib.itoa a, Lib.itoa b]
    simp [jn]
  · have hs : 1 ≤ st.kind ∧ st.kind ≤ 18 := by simp [kok] at h; omega
    obtain ⟨s, hm, h2, h3, h4, h5, h6⟩ := shp_step hs
    have e : shD ⟨2, a, b, st, bk⟩ = s := by unfold shD; rw [h6 _ rfl rfl]; rfl
    rw [e]
    show stepL st = s.name ++ jn ((s.parts.flatMap (pw ⟨2, a, b, st, bk⟩)).map wtx)
    rw [h4, h5, parts_ltx _ _ (wnt_letters _)]
    rfl
  · show [118, 97, 108, 117, 101, 32] ++ quo bk = [118, 97, 108, 117, 101] ++ jn [quo bk]
    simp [jn]
  · show [100, 105, 103, 101, 115, 116] = [100, 105, 103, 101, 115, 116] ++ jn []
    simp [jn]
  · show [117, 112] = [117, 112] ++ jn []
    simp [jn]
end Go.Proofs.YtgbkloihclbimaaDoor

/- Layer 22: what the document's Cleared tells (no model first). -/
namespace Go.Proofs.YtgbkloihclbimaaDoor
set_option maxRecDepth 100000
set_option linter.unusedVariables false
set_option linter.unusedSimpArgs false
open Go.RowKit
attribute [local go_sem ↓] Go.wp_at_zero Go.wp_at_succ ix9
theorem later_any (k : Int) (h1 : 12 ≤ k) (h2 : k ≤ 18) (w : World) : Calls Tryd.prog 47 #[.int .i64 k] w fun e w' => e = .returned (.tuple #[str (nmF k), str (wnt k)]) ∧ w' = w := by
  have hk : k = 12 ∨ k = 13 ∨ k = 14 ∨ k = 15 ∨ k = 16 ∨ k = 17 ∨ k = 18 := by omega
  rcases hk with rfl | rfl | rfl | rfl | rfl | rfl | rfl
  all_goals
    go_enter Tryd.func47, Tryd.ntmps47
    go_wp2_with fail
    refine bodyPost_ret (results_tmp2 rfl _ _ _) rfl ?_
    exact ⟨rfl, rfl⟩
theorem form_any (k : Int) (h1 : 1 ≤ k) (h2 : k ≤ 18) (w : World) : Calls Tryd.prog 31 #[.int .i64 k] w fun e w' => e = .returned (.tuple #[str (nmF k), str (wnt k)]) ∧ w' = w := by
  by_cases h : 12 ≤ k
  · have hl := later_any k h h2 w
    have hk : k = 12 ∨ k = 13 ∨ k = 14 ∨ k = 15 ∨ k = 16 ∨ k = 17 ∨ k = 18 := by omega
    rcases hk with rfl | rfl | rfl | rfl | rfl | rfl | rfl
    all_goals
      go_enter Tryd.func31, Tryd.ntmps31
      go_wp2_with fail
      refine Calls.mono hl ?_
      rintro e w1 ⟨rfl, rfl⟩
      dsimp only
      go_wp2_with fail
      refine bodyPost_ret (results_tmp2 rfl _ _ _) rfl ?_
      exact ⟨rfl, rfl⟩
  · have hk : k = 1 ∨ k = 2 ∨ k = 3 ∨ k = 4 ∨ k = 5 ∨ k = 6 ∨ k = 7 ∨ k = 8 ∨ k = 9 ∨ k = 10 ∨ k = 11 := by omega
    rcases hk with rfl | rfl | rfl | rfl | rfl | rfl | rfl | rfl | rfl | rfl | rfl
    all_goals
      go_enter Tryd.func31, Tryd.ntmps31
      go_wp2_with fail
      refine bodyPost_ret (results_tmp2 rfl _ _ _) rfl ?_
      exact ⟨rfl, rfl⟩
/-- a step of which some parts alone are taken -/
def ptl (r : Cr) (p : By) : Cr := ⟨⟨0, 0, 0, ⟨r.c.st.kind, if 98 ∈ p then r.c.st.bucket else [], if 107 ∈ p then r.c.st.key else [], if 100 ∈ p then r.c.st.data else [], if 77 ∈ p then r.c.st.mt else [], if 115 ∈ p then r.c.st.seq else 0, if 110 ∈ p then r.c.st.n else 0, if 75 ∈ p then r.c.st.kept else []⟩, []⟩, if 77 ∈ p then r.ma else none, if 77 ∈ p then r.mc else 0, if 75 ∈ p then r.ka else none, if 75 ∈ p then r.kc else 0⟩
abbrev sclR (r : Cr) : Array Value := scl r.c r.ma r.mc r.ka r.kc
theorem ptl_nil (r : Cr) : sclR (ptl r []) = #[.int .i64 r.c.st.kind, .string ⟨#[]⟩, .string ⟨#[]⟩, .string ⟨#[]⟩, .slice none 0 0, .int .i64 0, .int .i64 0, .slice none 0 0] := by simp [ptl, scl]
theorem ptl98 (r : Cr) (p : By) : sclR (ptl r (p ++ [98])) = (sclR (ptl r p)).set! 1 (str r.c.st.bucket) := by simp [ptl, scl]
theorem ptl107 (r : Cr) (p : By) : sclR (ptl r (p ++ [107])) = (sclR (ptl r p)).set! 2 (str r.c.st.key) := by simp [ptl, scl]
theorem ptl100 (r : Cr) (p : By) : sclR (ptl r (p ++ [100])) = (sclR (ptl r p)).set! 3 (str r.c.st.data) := by simp [ptl, scl]
theorem ptl77 (r : Cr) (p : By) : sclR (ptl r (p ++ [77])) = (sclR (ptl r p)).set! 4 (.slice r.ma r.c.st.mt.length r.mc) := by simp [ptl, scl]
theorem ptl115 (r : Cr) (p : By) : sclR (ptl r (p ++ [115])) = (sclR (ptl r p)).set! 5 (.int .i64 r.c.st.seq) := by simp [ptl, scl]
theorem ptl110 (r : Cr) (p : By) : sclR (ptl r (p ++ [110])) = (sclR (ptl r p)).set! 6 (.int .i64 r.c.st.n) := by simp [ptl, scl]
theorem ptl75 (r : Cr) (p : By) : sclR (ptl r (p ++ [75])) = (sclR (ptl r p)).set! 7 (.slice r.ka r.c.st.kept.length r.kc) := by simp [ptl, scl]
/-- a command cleared, with its rows -/
def clR (r : Cr) : Cr :=
  if r.c.kind = 1 then ⟨⟨1, r.c.sectors, r.c.size, ⟨0, [], [], [], [], 0, 0, []⟩, []⟩, none, 0, none, 0⟩
  else if r.c.kind = 2 then ⟨⟨2, 0, 0, (ptl r (wnt r.c.st.kind)).c.st, []⟩, (ptl r (wnt r.c.st.kind)).ma, (ptl r (wnt r.c.st.kind)).mc, (ptl r (wnt r.c.st.kind)).ka, (ptl r (wnt r.c.st.kind)).kc⟩
  else if r.c.kind = 3 then ⟨⟨3, 0, 0, ⟨0, [], [], [], [], 0, 0, []⟩, r.c.bucket⟩, none, 0, none, 0⟩
  else ⟨⟨r.c.kind, 0, 0, ⟨0, [], [], [], [], 0, 0, []⟩, []⟩, none, 0, none, 0⟩
theorem kok_sh (c : Cm) : kok c = (shpOf c).isSome := by
  obtain ⟨k, a, b, ⟨sk, q1, q2, q3, q4, q5, q6, q7⟩, bk⟩ := c
  by_cases h : 1 ≤ k ∧ k ≤ 5
  · have hk : k = 1 ∨ k = 2 ∨ k = 3 ∨ k = 4 ∨ k = 5 := by omega
    rcases hk with rfl | rfl | rfl | rfl | rfl
    · rfl
    · by_cases h2 : 1 ≤ sk ∧ sk ≤ 18
      · have hs : sk = 1 ∨ sk = 2 ∨ sk = 3 ∨ sk = 4 ∨ sk = 5 ∨ sk = 6 ∨ sk = 7 ∨ sk = 8 ∨ sk = 9 ∨ sk = 10 ∨ sk = 11 ∨ sk = 12 ∨ sk = 13 ∨ sk = 14 ∨ sk = 15 ∨ sk = 16 ∨ sk = 17 ∨ sk = 18 := by omega
        rcases hs with rfl | rfl | rfl | rfl | rfl | rfl | rfl | rfl | rfl | rfl | rfl | rfl | rfl | rfl | rfl | rfl | rfl | rfl <;> rfl
      · have e1 : kok ⟨2, a, b, ⟨sk, q1, q2, q3, q4, q5, q6, q7⟩, bk⟩ = false := by simp [kok, h2]
        have e2 : shpOf ⟨2, a, b, ⟨sk, q1, q2, q3, q4, q5, q6, q7⟩, bk⟩ = none := by
          unfold shpOf
          rw [List.find?_eq_none]
          intro s hs q
          have hz : ∀ s ∈ shps, s.kind = 2 → 1 ≤ s.step ∧ s.step ≤ 18 := by decide +kernel
          simp [isOf] at q
          rcases q with ⟨q1, q2 | q2⟩
          · exact q2 q1
          · have := hz s hs q1; rw [q2] at this; exact h2 this
        rw [e1, e2]; rfl
    · rfl
    · rfl
    · rfl
  · have e1 : kok ⟨k, a, b, ⟨sk, q1, q2, q3, q4, q5, q6, q7⟩, bk⟩ = false := by simp [kok, h]
    have e2 : shpOf ⟨k, a, b, ⟨sk, q1, q2, q3, q4, q5, q6, q7⟩, bk⟩ = none := by
      unfold shpOf
      rw [List.find?_eq_none]
      intro s hs q
      have hz : ∀ s ∈ shps, 1 ≤ s.kind ∧ s.kind ≤ 5 := by decide +kernel
      simp [isOf] at q
      have := hz s hs; rw [q.1] at this; exact h this
    rw [e1, e2]; rfl
theorem clR_clr (r : Cr) (h : kok r.c = true) : (clR r).c = clr (shD r.c) r.c := by
  obtain ⟨⟨k, a, b, ⟨sk, q1, q2, q3, q4, q5, q6, q7⟩, bk⟩, ma, mc, ka, kc⟩ := r
  have hk : k = 1 ∨ k = 2 ∨ k = 3 ∨ k = 4 ∨ k = 5 := by simp [kok] at h; omega
  rcases hk with rfl | rfl | rfl | rfl | rfl
  · rfl
  · have hs : sk = 1 ∨ sk = 2 ∨ sk = 3 ∨ sk = 4 ∨ sk = 5 ∨ sk = 6 ∨ sk = 7 ∨ sk = 8 ∨ sk = 9 ∨ sk = 10 ∨ sk = 11 ∨ sk = 12 ∨ sk = 13 ∨ sk = 14 ∨ sk = 15 ∨ sk = 16 ∨ sk = 17 ∨ sk = 18 := by simp [kok] at h; omega
    rcases hs with rfl | rfl | rfl | rfl | rfl | rfl | rfl | rfl | rfl | rfl | rfl | rfl | rfl | rfl | rfl | rfl | rfl | rfl <;> rfl
  · rfl
  · rfl
  · rfl
/-- a box of the document's step -/
def Sb (w : World) (g : Nat) (r : Cr) : Prop := w.heap[g]? = some (.cells (sclR r) 48 (0, 0))
theorem Sb.cells {w : World} {g : Nat} {r : Cr} (h : Sb w g r) : w.cell? ⟨g, 0, none⟩ = some (.int .i64 r.c.st.kind) ∧ w.cell? ⟨g, 1, none⟩ = some (str r.c.st.bucket) ∧ w.cell? ⟨g, 2, none⟩ = some (str r.c.st.key) ∧ w.cell? ⟨g, 3, none⟩ = some (str r.c.st.data) ∧ w.cell? ⟨g, 4, none⟩ = some (.slice r.ma r.c.st.mt.length r.mc) ∧ w.cell? ⟨g, 5, none⟩ = some (.int .i64 r.c.st.seq) ∧ w.cell? ⟨g, 6, none⟩ = some (.int .i64 r.c.st.n) ∧ w.cell? ⟨g, 7, none⟩ = some (.slice r.ka r.c.st.kept.length r.kc) := by
  refine ⟨?_, ?_, ?_, ?_, ?_, ?_, ?_, ?_⟩ <;> (rw [cell_of_row _ _ _ _ _ _ h]; rfl)
theorem Sb.fz {w : World} {g : Nat} {r : Cr} (h : Sb w g r) (j : Nat) : w.frozen? ⟨g, j, none⟩ = false := frozen_of_row _ _ j _ _ h
theorem Sb.set {w : World} {g j : Nat} {r r' : Cr} {v : Value} (h : Sb w g r) (hj : j < 8) (he : sclR r' = (sclR r).set! j v) : Sb (w.setCell ⟨g, j, none⟩ v) g r' := by
  unfold Sb at *
  have h1 := heap_setCells [v] j (sclR r) w h
  have e1 : w.setCells g j [v] = w.setCell ⟨g, j, none⟩ v := rfl
  rw [e1] at h1
  rw [h1, he]
  rfl
end Go.Proofs.YtgbkloihclbimaaDoor

/- Layer 22: the document's step as a line (written by mkVe.py). -/
namespace Go.Proofs.YtgbkloihclbimaaDoor
set_option maxRecDepth 100000
set_option linter.unusedVariables false
set_option linter.unusedSimpArgs false
open Go.RowKit
attribute [local go_sem ↓] Go.wp_at_zero Go.wp_at_succ ix9 ad9
/-- a command whose parts are no greater than the second form lets them be -/
structure OkS (c : Cm) : Prop where
  ok : OkC c
  b : c.bucket.length ≤ 170000000
  sb : c.st.bucket.length ≤ 170000000
  sk : c.st.key.length ≤ 170000000
  sd : c.st.data.length ≤ 170000000
  mt : ∀ e ∈ c.st.mt, e.key.length ≤ 170000000 ∧ e.val.length ≤ 170000000
  ml : c.st.mt.length ≤ 170000000
  kl : c.st.kept.length ≤ 170000000
def mtxL (l : List En) : By := l.flatMap (fun e => 32 :: quo e.key ++ 32 :: quo e.val)
def ktxL (l : List Int) : By := l.flatMap (fun n => 32 :: Lib.itoa n)
theorem mtx_le : ∀ l : List En, (∀ e ∈ l, e.key.length ≤ 170000000 ∧ e.val.length ≤ 170000000) → (mtxL l).length ≤ l.length * 1400000000
  | [], _ => by simp [mtxL]
  | e :: l, h => by
    have ih := mtx_le l (fun x hx => h x (by simp [hx]))
    have h1 := h e (by simp)
    have a := quo_le e.key
    have b := quo_le e.val
    unfold mtxL at ih ⊢
    rw [List.flatMap_cons, List.length_append, List.length_append, List.length_cons, List.length_cons, List.length_cons]
    omega
theorem ktx_le : ∀ l : List Int, (∀ n ∈ l, In64 n) → (ktxL l).length ≤ l.length * 22
  | [], _ => by simp [ktxL]
  | n :: l, h => by
    have ih := ktx_le l (fun x hx => h x (by simp [hx]))
    have a := itoa_le (h n (by simp))
    unfold ktxL at ih ⊢
    rw [List.flatMap_cons, List.length_append, List.length_cons, List.length_cons]
    omega
theorem mtx_step {l : List En} {k : Nat} {e : En} (h : l[k]? = some e) : mtxL (l.take (k + 1)) = mtxL (l.take k) ++ (32 :: quo e.key ++ 32 :: quo e.val) := by
  unfold mtxL
  rw [List.take_add_one, h, List.flatMap_append]
  simp
theorem ktx_step {l : List Int} {k : Nat} {n : Int} (h : l[k]? = some n) : ktxL (l.take (k + 1)) = ktxL (l.take k) ++ (32 :: Lib.itoa n) := by
  unfold ktxL
  rw [List.take_add_one, h, List.flatMap_append]
  simp
theorem ltx_le {c : Cm} (h : OkS c) (l : UInt8) : (ltx c.st l).length ≤ 240000000000000000 := by
  unfold ltx
  have h1 := quo_le c.st.bucket
  have h2 := quo_le c.st.key
  have h3 := quo_le c.st.data
  have h4 := itoa_le h.ok.q
  have h5 := itoa_le h.ok.n
  have h6 := mtx_le c.st.mt h.mt
  have h7 := ktx_le c.st.kept h.ok.kp
  unfold mtxL at h6
  unfold ktxL at h7
  have := h.sb
  have := h.sk
  have := h.sd
  have := h.ml
  have := h.kl
  refine ite_P (P := fun x : By => x.length ≤ 240000000000000000) (by rw [List.length_cons]; omega) ?_
  refine ite_P (P := fun x : By => x.length ≤ 240000000000000000) (by rw [List.length_cons]; omega) ?_
  refine ite_P (P := fun x : By => x.length ≤ 240000000000000000) (by rw [List.length_cons]; omega) ?_
  refine ite_P (P := fun x : By => x.length ≤ 240000000000000000) (by rw [List.length_cons]; omega) ?_
  refine ite_P (P := fun x : By => x.length ≤ 240000000000000000) (by rw [List.length_cons]; omega) ?_
  refine ite_P (P := fun x : By => x.length ≤ 240000000000000000) (by omega) ?_
  omega
theorem nm_le (k : Int) : (nmF k).length ≤ 8 := by
  unfold nmF
  cases h : shps.find? (fun s => s.kind == 2 && s.step == k) with
  | none => simp
  | some s =>
    have hm := List.mem_of_find?_eq_some h
    have : ∀ s ∈ shps, s.name.length ≤ 8 := by decide +kernel
    exact this s hm
theorem pre_le {c : Cm} (h : OkS c) : ∀ p : By, (p.flatMap (ltx c.st)).length ≤ p.length * 240000000000000000
  | [] => by simp
  | l :: p => by
    have ih := pre_le h p
    have := ltx_le h l
    rw [List.flatMap_cons, List.length_append, List.length_cons]
    omega
theorem pre_at {c : Cm} (h : OkS c) (k : Int) (i : Nat) : (nmF k ++ ((wnt k).take i).flatMap (ltx c.st)).length ≤ 1000000000000000000 := by
  have a := pre_le h ((wnt k).take i)
  have b := nm_le k
  have d := wnt_len k
  have e : ((wnt k).take i).length ≤ 4 := by rw [List.length_take]; omega
  rw [List.length_append]
  omega
theorem step_le {c : Cm} (h : OkS c) : (stepL c.st).length ≤ 1000000000000000000 := by
  have := pre_at h c.st.kind 4
  rw [List.take_of_length_le (wnt_len _)] at this
  exact this
theorem sbO {w w' : World} {g : Nat} {r : Cr} (h : Sb w g r) (e : w'.heap[g]? = w.heap[g]?) : Sb w' g r := by unfold Sb at *; rw [e]; exact h
theorem run_ad1 (P : By) (h : P.length ≤ 2000000000000000000) (w : World) : (adS (str P) (.string ⟨#[32]⟩)).run Tryd.prog w = .ok (str (P ++ [32])) w := run_ad P [32] (by simp; omega) w
set_option maxHeartbeats 2000000 in
theorem qstep_any (r : Cr) (h1 : 1 ≤ r.c.st.kind) (h2 : r.c.st.kind ≤ 18) (ok : OkS r.c) (w : World) (hsl : Sl w r.ma r.mc r.c.st.mt) (hsi : Si w r.ka r.kc r.c.st.kept) (hT : TB w) : Calls Tryd.prog 20 #[.agg (sclR r)] w fun e w' => e = .returned (str (stepL r.c.st)) ∧ Below w.heap.size w w' := by
  have hlet := Hid.mk (wnt_letters r.c.st.kind)
  have hfo := form_any r.c.st.kind h1 h2
  have HPL : Hid (∀ i, (nmF r.c.st.kind ++ ((wnt r.c.st.kind).take i).flatMap (ltx r.c.st)).length ≤ 1000000000000000000) := ⟨fun i => pre_at ok _ i⟩
  have HV : Hid (stepL r.c.st = nmF r.c.st.kind ++ ((wnt r.c.st.kind).take (wnt r.c.st.kind).length).flatMap (ltx r.c.st)) := ⟨by rw [List.take_length]; rfl⟩
  obtain ⟨w1, hw1⟩ : ∃ w1, w.alloc (.cells (sclR r) 48) = w1 := ⟨_, rfl⟩
  have y0 : Sb w1 w.heap.size r := by rw [← hw1]; exact heap_alloc_new _ _
  have B1 : Below w.heap.size w w1 := by rw [← hw1]; exact (Below.refl _ _).alloc (Nat.le_refl _) _
  have c0 := (Sb.cells y0).1
  have hlw := lt_of_block y0
  have hwl := wnt_len r.c.st.kind
  generalize hwt : wnt r.c.st.kind = wt at *
  generalize hnm : nmF r.c.st.kind = nm at *
  have HY := Hid.mk y0
  have HSL := Hid.mk (hsl.later B1)
  have HSI := Hid.mk (hsi.later B1)
  have HTB := Hid.mk (hT.below B1)
  have HB1 := Hid.mk B1
  clear hsl hsi hT y0 B1 h1 h2 hwt hnm
  go_enter Tryd.func20, Tryd.ntmps20
  go_wp2_with fail
  refine Calls.mono (hfo _) ?_
  rintro e w9 ⟨rfl, hw9⟩
  obtain rfl : w1 = w9 := hw9.symm
  dsimp only
  go_wp2_with fail
  clear hw1 c0 hfo
  go_loopw [3, 5, 6, 7] (fun l i _ _ wr => ∃ k : Nat, i = .int .i64 k ∧ k ≤ wt.length ∧ l = str (nm ++ (wt.take k).flatMap (ltx r.c.st)) ∧ Hid (Below w1.heap.size w1 wr)) (fun _ i _ _ _ => wt.length - (intOf i).toNat)
  case atStart => exact ⟨0, rfl, Nat.zero_le _, by simp, ⟨Below.refl _ _⟩⟩
  case round =>
    obtain ⟨k, rfl, hk, rfl, HB⟩ := hrel
    by_cases hlt : k < wt.length
    · have d1 : decide ((k : Int) < (wt.length : Int)) = true := decide_eq_true (by omega)
      have hix := run_ix wt k hlt
      have hc : wt[k]? = some (wt.getD k 0) := by rw [List.getD_eq_getElem?_getD, List.getElem?_eq_getElem hlt]; rfl
      have HT : Hid (nm ++ (wt.take (k + 1)).flatMap (ltx r.c.st) = (nm ++ (wt.take k).flatMap (ltx r.c.st)) ++ ltx r.c.st (wt.getD k 0)) := ⟨by rw [take_succ hc, List.flatMap_append]; simp⟩
      have hm := hlet.out _ (List.mem_of_getElem? hc)
      have hpl := HPL.out k
      clear hc
      generalize wt.getD k 0 = c at *
      generalize nm ++ (wt.take k).flatMap (ltx r.c.st) = P at *
      have Y := sbO HY.out (HB.out.block _ hlw)
      have hTr := HTB.out.below HB.out
      obtain ⟨a0, a1, a2, a3, a4, a5, a6, a7⟩ := Y.cells
      clear Y
      have f1 := run_ad1 P (by omega)
      rcases hm with rfl | rfl | rfl | rfl | rfl | rfl | rfl
      · have t98 : (((98 : UInt8).toNat : Int) == 98) = true := rfl
        have HQ : Hid (P ++ [32] ++ quo r.c.st.bucket = nm ++ (wt.take (k + 1)).flatMap (ltx r.c.st)) := ⟨by rw [HT.out]; show _ = P ++ (32 :: quo r.c.st.bucket); simp⟩
        have hql := quo_le r.c.st.bucket
        have hkk := ok.sb
        have hcall := qQuote_any r.c.st.bucket wr (by have := ok.sb; omega)
        have f2 := run_ad (P ++ [32]) (quo r.c.st.bucket) (by simp; omega)
        generalize quo r.c.st.bucket = q at *
        generalize P ++ [32] ++ q = P2 at *
        generalize P ++ [32] = P1 at *
        clear hql hkk hpl HT
        go_wp2_with fail
        with_reducible refine Calls.mono hcall ?_
        rintro e w2 ⟨rfl, b2⟩
        have HB2 := Hid.mk (below_seq HB.out b2)
        clear hcall b2
        dsimp only
        go_wp2_with fail
        refine ⟨⟨k + 1, rfl, hlt, by rw [HQ.out], HB2⟩, ?_⟩
        show wt.length - ((k : Int) + 1).toNat < wt.length - ((k : Int)).toNat
        omega
      · have t98 : (((107 : UInt8).toNat : Int) == 98) = false := rfl
        have t107 : (((107 : UInt8).toNat : Int) == 107) = true := rfl
        have HQ : Hid (P ++ [32] ++ quo r.c.st.key = nm ++ (wt.take (k + 1)).flatMap (ltx r.c.st)) := ⟨by rw [HT.out]; show _ = P ++ (32 :: quo r.c.st.key); simp⟩
        have hql := quo_le r.c.st.key
        have hkk := ok.sk
        have hcall := qQuote_any r.c.st.key wr (by have := ok.sk; omega)
        have f2 := run_ad (P ++ [32]) (quo r.c.st.key) (by simp; omega)
        generalize quo r.c.st.key = q at *
        generalize P ++ [32] ++ q = P2 at *
        generalize P ++ [32] = P1 at *
        clear hql hkk hpl HT
        go_wp2_with fail
        with_reducible refine Calls.mono hcall ?_
        rintro e w2 ⟨rfl, b2⟩
        have HB2 := Hid.mk (below_seq HB.out b2)
        clear hcall b2
        dsimp only
        go_wp2_with fail
        refine ⟨⟨k + 1, rfl, hlt, by rw [HQ.out], HB2⟩, ?_⟩
        show wt.length - ((k : Int) + 1).toNat < wt.length - ((k : Int)).toNat
        omega
      · have t98 : (((100 : UInt8).toNat : Int) == 98) = false := rfl
        have t107 : (((100 : UInt8).toNat : Int) == 107) = false := rfl
        have t100 : (((100 : UInt8).toNat : Int) == 100) = true := rfl
        have HQ : Hid (P ++ [32] ++ quo r.c.st.data = nm ++ (wt.take (k + 1)).flatMap (ltx r.c.st)) := ⟨by rw [HT.out]; show _ = P ++ (32 :: quo r.c.st.data); simp⟩
        have hql := quo_le r.c.st.data
        have hkk := ok.sd
        have hcall := qQuote_any r.c.st.data wr (by have := ok.sd; omega)
        have f2 := run_ad (P ++ [32]) (quo r.c.st.data) (by simp; omega)
        generalize quo r.c.st.data = q at *
        generalize P ++ [32] ++ q = P2 at *
        generalize P ++ [32] = P1 at *
        clear hql hkk hpl HT
        go_wp2_with fail
        with_reducible refine Calls.mono hcall ?_
        rintro e w2 ⟨rfl, b2⟩
        have HB2 := Hid.mk (below_seq HB.out b2)
        clear hcall b2
        dsimp only
        go_wp2_with fail
        refine ⟨⟨k + 1, rfl, hlt, by rw [HQ.out], HB2⟩, ?_⟩
        show wt.length - ((k : Int) + 1).toNat < wt.length - ((k : Int)).toNat
        omega
      · have t98 : (((77 : UInt8).toNat : Int) == 98) = false := rfl
        have t107 : (((77 : UInt8).toNat : Int) == 107) = false := rfl
        have t100 : (((77 : UInt8).toNat : Int) == 100) = false := rfl
        have t115 : (((77 : UInt8).toNat : Int) == 115) = false := rfl
        have t110 : (((77 : UInt8).toNat : Int) == 110) = false := rfl
        have t77 : (((77 : UInt8).toNat : Int) == 77) = true := rfl
        have HE : Hid (P ++ mtxL r.c.st.mt = nm ++ (wt.take (k + 1)).flatMap (ltx r.c.st)) := ⟨by rw [HT.out]; rfl⟩
        have hmll := ok.ml
        have HML : Hid (∀ j, (mtxL (r.c.st.mt.take j)).length ≤ 240000000000000000) := ⟨fun j => by
          have := mtx_le (r.c.st.mt.take j) (fun e he => ok.mt e (List.mem_of_mem_take he))
          rw [List.length_take] at this
          have h9 := ok.ml
          omega⟩
        have HBo := HB
        clear HT f1 a0 a1 a2 a3 a5 a6 a7 hTr HB
        go_wp2_with fail
        clear a4
        go_loopw [3, 6] (fun l i wr => ∃ j : Nat, i = .int .i64 j ∧ j ≤ r.c.st.mt.length ∧ l = str (P ++ mtxL (r.c.st.mt.take j)) ∧ Hid (Below w1.heap.size w1 wr)) (fun _ i _ => r.c.st.mt.length - (intOf i).toNat)
        case atStart => exact ⟨0, rfl, Nat.zero_le _, by simp [mtxL], HBo⟩
        case round =>
          clear HBo
          obtain ⟨j, rfl, hj, rfl, HB⟩ := hrel
          have Y := sbO HY.out (HB.out.block _ hlw)
          have hsl := HSL.out.later HB.out
          obtain ⟨a0, a1, a2, a3, a4, a5, a6, a7⟩ := Y.cells
          clear Y a0 a1 a2 a3 a5 a6 a7
          by_cases hjl : j < r.c.st.mt.length
          · have d4 : decide ((j : Int) < (r.c.st.mt.length : Int)) = true := decide_eq_true (by omega)
            have j0 : (0 : Int) ≤ (j : Int) := Int.natCast_nonneg j
            have j1 : (j : Int) < (r.c.st.mt.length : Int) := Int.ofNat_lt.2 hjl
            obtain ⟨p, hp⟩ : ∃ p, r.c.st.mt[j]? = some p := ⟨_, List.getElem?_eq_getElem hjl⟩
            obtain ⟨b, off, ea, hb, s0, s1⟩ := hsl.at'.get j p hp
            rw [ea] at a4
            have hpm := ok.mt p (List.mem_of_getElem? hp)
            have hmj := HML.out j
            have HN : Hid (P ++ mtxL (r.c.st.mt.take j) ++ [32] ++ quo p.key ++ [32] ++ quo p.val = P ++ mtxL (r.c.st.mt.take (j + 1))) := ⟨by rw [mtx_step hp]; simp⟩
            generalize hX : P ++ mtxL (r.c.st.mt.take j) = X at *
            have hXl : X.length ≤ 1240000000000000000 := by rw [← hX, List.length_append]; omega
            have q1 := quo_le p.key
            have q2 := quo_le p.val
            have r1 : ∀ w, Calls Tryd.prog 10 #[str p.key] w fun e w' => e = .returned (str (quo p.key)) ∧ Below w.heap.size w w' := fun w => qQuote_any p.key w (by omega)
            have r2 : ∀ w, Calls Tryd.prog 10 #[str p.val] w fun e w' => e = .returned (str (quo p.val)) ∧ Below w.heap.size w w' := fun w => qQuote_any p.val w (by omega)
            have e1 := run_ad1 X (by omega)
            have e2 := run_ad (X ++ [32]) (quo p.key) (by simp; omega)
            have e3 := run_ad1 (X ++ [32] ++ quo p.key) (by simp; omega)
            have e4 := run_ad (X ++ [32] ++ quo p.key ++ [32]) (quo p.val) (by simp; omega)
            generalize quo p.key = ya at *
            generalize quo p.val = yb at *
            generalize X ++ [32] ++ ya ++ [32] ++ yb = X4 at *
            generalize X ++ [32] ++ ya ++ [32] = X3 at *
            generalize X ++ [32] ++ ya = X2 at *
            generalize X ++ [32] = X1 at *
            have XC : Hid (∀ w', Below wr.heap.size wr w' → Below wr.heap.size wr w' ∧ w'.cell? ⟨w.heap.size, 4, none⟩ = some (.slice (some ⟨b, off, none⟩) r.c.st.mt.length r.mc) ∧ w'.cell? ⟨b, off + j * 2, none⟩ = some (str p.key) ∧ w'.cell? ⟨b, off + j * 2 + 1, none⟩ = some (str p.val)) := ⟨fun w' h => by
              have hlr : w.heap.size < wr.heap.size := Nat.lt_of_lt_of_le hlw HB.out.size
              exact ⟨h, by rw [h.cell (p := ⟨w.heap.size, 4, none⟩) hlr]; exact a4, by rw [h.cell (p := ⟨b, _, none⟩) hb]; exact s0, by rw [h.cell (p := ⟨b, _, none⟩) hb]; exact s1⟩⟩
            have HB' := HB
            clear q1 q2 hXl hX hpm hmj hsl ea
            go_wp2_with fail
            clear s0 s1 a4
            go_region_held3 (fun w' => Below wr.heap.size wr w' ∧ w'.cell? ⟨w.heap.size, 4, none⟩ = some (.slice (some ⟨b, off, none⟩) r.c.st.mt.length r.mc) ∧ w'.cell? ⟨b, off + j * 2, none⟩ = some (str p.key) ∧ w'.cell? ⟨b, off + j * 2 + 1, none⟩ = some (str p.val)) (first
              | (with_reducible exact XC.out _ (Below.refl _ _).drew)
              | (with_reducible exact XC.out _ B8)
              | (with_reducible exact XC.out _ B9)) (first
              | (go_at_call 10; first
                | (with_reducible refine Calls.mono (r1 _) ?_; rintro e v8 ⟨rfl, c8⟩; have B8 := below_seq (And.left (by assumption)) c8)
                | (with_reducible refine Calls.mono (r2 _) ?_; rintro e v9 ⟨rfl, c9⟩; have B9 := below_seq (And.left (by assumption)) c9)))
            all_goals
              have HV := Hid.mk (below_seq HB'.out B9)
              clear B8 B9 c8 c9 r1 r2 e1 e2 e3 e4 XC
              go_wp2_with fail
              refine ⟨⟨j + 1, rfl, hjl, by rw [HN.out], HV⟩, ?_⟩
              show r.c.st.mt.length - ((j : Int) + 1).toNat < r.c.st.mt.length - ((j : Int)).toNat
              omega
          · have d4 : decide ((j : Int) < (r.c.st.mt.length : Int)) = false := decide_eq_false (by omega)
            have d4' : decide (j < r.c.st.mt.length) = false := decide_eq_false hjl
            have HX : Hid (P ++ mtxL (r.c.st.mt.take j) = nm ++ (wt.take (k + 1)).flatMap (ltx r.c.st)) := ⟨by rw [← HE.out, List.take_of_length_le (by omega)]⟩
            clear hjl hj hsl
            go_wp2_with fail
            refine ⟨⟨k + 1, rfl, hlt, by rw [HX.out], HB⟩, ?_⟩
            show wt.length - ((k : Int) + 1).toNat < wt.length - ((k : Int)).toNat
            omega
      · have t98 : (((115 : UInt8).toNat : Int) == 98) = false := rfl
        have t107 : (((115 : UInt8).toNat : Int) == 107) = false := rfl
        have t100 : (((115 : UInt8).toNat : Int) == 100) = false := rfl
        have t115 : (((115 : UInt8).toNat : Int) == 115) = true := rfl
        have HQ : Hid (P ++ [32] ++ Lib.itoa r.c.st.seq = nm ++ (wt.take (k + 1)).flatMap (ltx r.c.st)) := ⟨by rw [HT.out]; show _ = P ++ (32 :: Lib.itoa r.c.st.seq); simp⟩
        have hql := itoa_le ok.ok.q
        have hkk := ok.ok.q
        have hcall := fmtInt_any r.c.st.seq ok.ok.q wr hTr
        have f2 := run_ad (P ++ [32]) (Lib.itoa r.c.st.seq) (by simp; omega)
        generalize Lib.itoa r.c.st.seq = q at *
        generalize P ++ [32] ++ q = P2 at *
        generalize P ++ [32] = P1 at *
        clear hql hkk hpl HT
        go_wp2_with fail
        with_reducible refine Calls.mono hcall ?_
        rintro e w2 ⟨rfl, b2⟩
        have HB2 := Hid.mk (below_seq HB.out b2)
        clear hcall b2
        dsimp only
        go_wp2_with fail
        refine ⟨⟨k + 1, rfl, hlt, by rw [HQ.out], HB2⟩, ?_⟩
        show wt.length - ((k : Int) + 1).toNat < wt.length - ((k : Int)).toNat
        omega
      · have t98 : (((110 : UInt8).toNat : Int) == 98) = false := rfl
        have t107 : (((110 : UInt8).toNat : Int) == 107) = false := rfl
        have t100 : (((110 : UInt8).toNat : Int) == 100) = false := rfl
        have t115 : (((110 : UInt8).toNat : Int) == 115) = false := rfl
        have t110 : (((110 : UInt8).toNat : Int) == 110) = true := rfl
        have HQ : Hid (P ++ [32] ++ Lib.itoa r.c.st.n = nm ++ (wt.take (k + 1)).flatMap (ltx r.c.st)) := ⟨by rw [HT.out]; show _ = P ++ (32 :: Lib.itoa r.c.st.n); simp⟩
        have hql := itoa_le ok.ok.n
        have hkk := ok.ok.n
        have hcall := itoa_any r.c.st.n ok.ok.n wr hTr
        have f2 := run_ad (P ++ [32]) (Lib.itoa r.c.st.n) (by simp; omega)
        generalize Lib.itoa r.c.st.n = q at *
        generalize P ++ [32] ++ q = P2 at *
        generalize P ++ [32] = P1 at *
        clear hql hkk hpl HT
        go_wp2_with fail
        with_reducible refine Calls.mono hcall ?_
        rintro e w2 ⟨rfl, b2⟩
        have HB2 := Hid.mk (below_seq HB.out b2)
        clear hcall b2
        dsimp only
        go_wp2_with fail
        refine ⟨⟨k + 1, rfl, hlt, by rw [HQ.out], HB2⟩, ?_⟩
        show wt.length - ((k : Int) + 1).toNat < wt.length - ((k : Int)).toNat
        omega
      · have t98 : (((75 : UInt8).toNat : Int) == 98) = false := rfl
        have t107 : (((75 : UInt8).toNat : Int) == 107) = false := rfl
        have t100 : (((75 : UInt8).toNat : Int) == 100) = false := rfl
        have t115 : (((75 : UInt8).toNat : Int) == 115) = false := rfl
        have t110 : (((75 : UInt8).toNat : Int) == 110) = false := rfl
        have t77 : (((75 : UInt8).toNat : Int) == 77) = false := rfl
        have t75 : (((75 : UInt8).toNat : Int) == 75) = true := rfl
        have HE : Hid (P ++ ktxL r.c.st.kept = nm ++ (wt.take (k + 1)).flatMap (ltx r.c.st)) := ⟨by rw [HT.out]; rfl⟩
        have hkll := ok.kl
        have HML : Hid (∀ j, (ktxL (r.c.st.kept.take j)).length ≤ 240000000000000000) := ⟨fun j => by
          have := ktx_le (r.c.st.kept.take j) (fun e he => ok.ok.kp e (List.mem_of_mem_take he))
          rw [List.length_take] at this
          have h9 := ok.kl
          omega⟩
        have HBo := HB
        clear HT f1 a0 a1 a2 a3 a4 a5 a6 hTr HB
        go_wp2_with fail
        clear a7
        go_loopw [3, 7] (fun l i wr => ∃ j : Nat, i = .int .i64 j ∧ j ≤ r.c.st.kept.length ∧ l = str (P ++ ktxL (r.c.st.kept.take j)) ∧ Hid (Below w1.heap.size w1 wr)) (fun _ i _ => r.c.st.kept.length - (intOf i).toNat)
        case atStart => exact ⟨0, rfl, Nat.zero_le _, by simp [ktxL], HBo⟩
        case round =>
          clear HBo
          obtain ⟨j, rfl, hj, rfl, HB⟩ := hrel
          have Y := sbO HY.out (HB.out.block _ hlw)
          have hsi := HSI.out.later HB.out
          obtain ⟨a0, a1, a2, a3, a4, a5, a6, a7⟩ := Y.cells
          clear Y a0 a1 a2 a3 a4 a5 a6
          by_cases hjl : j < r.c.st.kept.length
          · have d4 : decide ((j : Int) < (r.c.st.kept.length : Int)) = true := decide_eq_true (by omega)
            have j0 : (0 : Int) ≤ (j : Int) := Int.natCast_nonneg j
            have j1 : (j : Int) < (r.c.st.kept.length : Int) := Int.ofNat_lt.2 hjl
            obtain ⟨p, hp⟩ : ∃ p, r.c.st.kept[j]? = some p := ⟨_, List.getElem?_eq_getElem hjl⟩
            obtain ⟨b, off, ea, hb, s0⟩ := hsi.at' j p hp
            rw [ea] at a7
            have hpm := ok.ok.kp p (List.mem_of_getElem? hp)
            have hmj := HML.out j
            have HN : Hid (P ++ ktxL (r.c.st.kept.take j) ++ [32] ++ Lib.itoa p = P ++ ktxL (r.c.st.kept.take (j + 1))) := ⟨by rw [ktx_step hp]; simp⟩
            generalize hX : P ++ ktxL (r.c.st.kept.take j) = X at *
            have hXl : X.length ≤ 1240000000000000000 := by rw [← hX, List.length_append]; omega
            have q1 := itoa_le hpm
            have hcall := itoa_any p hpm wr (HTB.out.below HB.out)
            have e1 := run_ad1 X (by omega)
            have e2 := run_ad (X ++ [32]) (Lib.itoa p) (by simp; omega)
            generalize Lib.itoa p = ya at *
            generalize X ++ [32] ++ ya = X2 at *
            generalize X ++ [32] = X1 at *
            clear q1 hXl hX hpm hmj hsi ea
            go_wp2_with fail
            with_reducible refine Calls.mono hcall ?_
            rintro e w2 ⟨rfl, b2⟩
            have HB2 := Hid.mk (below_seq HB.out b2)
            clear hcall b2
            dsimp only
            go_wp2_with fail
            refine ⟨⟨j + 1, rfl, hjl, by rw [HN.out], HB2⟩, ?_⟩
            show r.c.st.kept.length - ((j : Int) + 1).toNat < r.c.st.kept.length - ((j : Int)).toNat
            omega
          · have d4 : decide ((j : Int) < (r.c.st.kept.length : Int)) = false := decide_eq_false (by omega)
            have d4' : decide (j < r.c.st.kept.length) = false := decide_eq_false hjl
            have HX : Hid (P ++ ktxL (r.c.st.kept.take j) = nm ++ (wt.take (k + 1)).flatMap (ltx r.c.st)) := ⟨by rw [← HE.out, List.take_of_length_le (by omega)]⟩
            clear hjl hj hsi
            go_wp2_with fail
            refine ⟨⟨k + 1, rfl, hlt, by rw [HX.out], HB⟩, ?_⟩
            show wt.length - ((k : Int) + 1).toNat < wt.length - ((k : Int)).toNat
            omega
    · have d1 : decide ((k : Int) < (wt.length : Int)) = false := decide_eq_false (by omega)
      have d2 : decide (k < wt.length) = false := decide_eq_false hlt
      have HX : Hid (nm ++ (wt.take k).flatMap (ltx r.c.st) = stepL r.c.st) := ⟨by rw [HV.out, show k = wt.length by omega]⟩
      clear hlt hk
      go_wp2_with fail
      go_ret
      exact ⟨by rw [HX.out]; rfl, below_seq HB1.out HB.out⟩
end Go.Proofs.YtgbkloihclbimaaDoor
