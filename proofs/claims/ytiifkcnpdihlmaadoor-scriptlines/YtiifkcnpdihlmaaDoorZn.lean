/- Layer 22: ScriptNumbers. -/
import Derived.Test.YtiifkcnpdihlmaaDoorYf
import Derived.Test.YtiifkcnpdihlmaaDoorZa
namespace Go.Proofs.YtiifkcnpdihlmaaDoor
set_option maxRecDepth 100000
set_option linter.unusedVariables false
set_option linter.unusedSimpArgs false
open Go.RowKit
attribute [local go_sem ↓] Go.wp_at_zero Go.wp_at_succ
noncomputable def adS (v x : Value) : Sem Value := binOp BinOp.add 9 v x
theorem ad9 (v x : Value) : binOp BinOp.add 9 v x = adS v x := rfl
theorem run_ad (x y : By) (h : x.length + y.length ≤ 9223372036854775807) (w : World) : (adS (str x) (str y)).run Tryd.prog w = .ok (str (x ++ y)) w := by
  have hr := run_string_add_sum (P := Tryd.prog) w ⟨x.toArray⟩ ⟨y.toArray⟩ (by rw [str_size, str_size]; exact h)
  have e : (⟨x.toArray⟩ : ByteArray) ++ ⟨y.toArray⟩ = ⟨(x ++ y).toArray⟩ := by
    apply ByteArray.ext
    simp
  unfold adS
  rw [e] at hr
  simpa [binOp] using hr
noncomputable def ix10 (v i : Value) : Sem Value := Instr.index 40 v i
theorem ix10e (v i : Value) : Instr.index 40 v i = ix10 v i := rfl
theorem run_ix10 (t0 t1 t2 t3 t4 t5 t6 t7 t8 t9 : By) (k : Nat) (hk : k < 10) (w : World) : (ix10 (.agg #[str t0, str t1, str t2, str t3, str t4, str t5, str t6, str t7, str t8, str t9]) (.int .i64 (k : Int))).run Tryd.prog w = .ok (str ([t0, t1, t2, t3, t4, t5, t6, t7, t8, t9].getD k [])) w := by
  have h2 : (k : Int) < 10 := by omega
  unfold ix10
  match k, hk with
  | 0, _ => rfl
  | 1, _ => rfl
  | 2, _ => rfl
  | 3, _ => rfl
  | 4, _ => rfl
  | 5, _ => rfl
  | 6, _ => rfl
  | 7, _ => rfl
  | 8, _ => rfl
  | 9, _ => rfl
theorem Fc.at {base : Nat} {w : World} {va : Option Addr} {vc : Nat} {R : List Cr} {L : List Cm} (h : Fc base w (.slice va R.length vc) R) (hR : R.map (·.c) = L) (hne : L ≠ []) : ∃ b, va = some ⟨b, 0, none⟩ ∧ b < w.heap.size ∧ R.length ≤ vc ∧ ∀ (k : Nat) (c : Cm), L[k]? = some c → ∃ ma mc ka kc, w.rangeAt b (k * 12) (ccs c ma mc ka kc).toList := by
  have hl : R.length ≠ 0 := fun q => hne (by rw [← hR]; simp [List.eq_nil_of_length_eq_zero q])
  rcases h.own.2 with ⟨e, h0⟩ | ⟨g, cap, cur, e, _, _, h1, _⟩
  · exact absurd h0 hl
  · injection e with e1 e2 e3
    subst e1 e3
    refine ⟨g, rfl, (h.own.lt g rfl).2, h1, fun k c hk => ?_⟩
    rw [← hR, List.getElem?_map] at hk
    cases hq : R[k]? with
    | none => rw [hq] at hk; cases hk
    | some r =>
      rw [hq] at hk
      injection hk with hk
      subst hk
      have hkl := (List.getElem?_eq_some_iff.1 hq).1
      refine ⟨r.ma, r.mc, r.ka, r.kc, fun j v hv => ?_⟩
      have hj := (List.getElem?_eq_some_iff.1 hv).1
      have hj2 : j < 12 := hj
      rw [h.own.cellAt _ (by omega)]
      exact rcl_get R k r hq j v hv
theorem cl_n3 (n q : Int) (hn : In64 n) (hq : In64 q) (w : World) : CL (w.alloc (.cells (rcl [⟨n1 n, none, 0, none, 0⟩, ⟨n2 q, none, 0, none, 0⟩, ⟨n9 n q, none, 0, none, 0⟩]).toArray 34)) (w.alloc (.cells (rcl [⟨n1 n, none, 0, none, 0⟩, ⟨n2 q, none, 0, none, 0⟩, ⟨n9 n q, none, 0, none, 0⟩]).toArray 34)).heap.size (some ⟨w.heap.size, 0, none⟩) (N3 n q) :=
  cl_blk (R := [⟨n1 n, none, 0, none, 0⟩, ⟨n2 q, none, 0, none, 0⟩, ⟨n9 n q, none, 0, none, 0⟩]) (heap_alloc_new w _) rfl (fun r hr => by
    have z : ∀ k : Int, 0 ≤ k → k ≤ 100 → In64 k := fun k h1 h2 => ⟨by omega, by omega⟩
    have h : r = ⟨n1 n, none, 0, none, 0⟩ ∨ r = ⟨n2 q, none, 0, none, 0⟩ ∨ r = ⟨n9 n q, none, 0, none, 0⟩ := by simpa using hr
    rcases h with rfl | rfl | rfl
    · exact ⟨okt_of (z 2 (by decide) (by decide)) (z 0 (by decide) (by decide)) (z 0 (by decide) (by decide)) (z 17 (by decide) (by decide)) (z 0 (by decide) (by decide)) hn (fun k hk => by cases hk) (by simp) (by simp) (by simp) (by simp) rfl (by simp), cb_nil _ _ _ rfl rfl⟩
    · exact ⟨okt_of (z 2 (by decide) (by decide)) (z 0 (by decide) (by decide)) (z 0 (by decide) (by decide)) (z 12 (by decide) (by decide)) hq (z 0 (by decide) (by decide)) (fun k hk => by cases hk) (by simp) (by simp) (by simp) (by simp) rfl (by simp), cb_nil _ _ _ rfl rfl⟩
    · exact ⟨okt_of (z 1 (by decide) (by decide)) hn hq (z 0 (by decide) (by decide)) (z 0 (by decide) (by decide)) (z 0 (by decide) (by decide)) (fun k hk => by cases hk) (by simp) (by simp) (by simp) (by simp) rfl (by simp), cb_nil _ _ _ rfl rfl⟩)
theorem print3 (n q : Int) (hn : In64 n) (hq : In64 q) (w : World) (hS : SG w) (hT : TB w) : Calls Tryd.prog 12 #[.slice (some ⟨w.heap.size, 0, none⟩) 3 3] (w.alloc (.cells (rcl [⟨n1 n, none, 0, none, 0⟩, ⟨n2 q, none, 0, none, 0⟩, ⟨n9 n q, none, 0, none, 0⟩]).toArray 34)) fun e w' => e = .returned (.tuple #[str (prT (N3 n q)), .int .i64 0]) ∧ Below w.heap.size w w' := by
  have b0 : Below w.heap.size w (w.alloc (.cells (rcl [⟨n1 n, none, 0, none, 0⟩, ⟨n2 q, none, 0, none, 0⟩, ⟨n9 n q, none, 0, none, 0⟩]).toArray 34)) := (Below.refl _ _).alloc (Nat.le_refl _) _
  refine Calls.mono (print_any (N3 n q) _ (some ⟨w.heap.size, 0, none⟩) 3 _ (cl_n3 n q hn hq w) (Nat.le_refl _) (by simp) (hS.below b0) (hT.below b0)) ?_
  rintro e w' ⟨rfl, hb⟩
  rw [n3_prE hn hq]
  exact ⟨rfl, below_seq b0 hb⟩
theorem itoa_any (n : Int) (h : In64 n) (w : World) (hT : TB w) : Calls Tryd.prog 13 #[.int .i64 n] w fun e w' => e = .returned (str (Lib.itoa n)) ∧ Below w.heap.size w w' := by
  refine (Tryd.strconv_Itoa n h.1 h.2 w hT.out).mono ?_
  rintro e w1 ⟨rfl, k, os, rfl⟩
  exact ⟨rfl, Lib.below_grow _ _ (Nat.le_refl _) _ _⟩
/-- Parse, of a text whose answer is known -/
theorem parse_e {x : By} {n : Int} {L : List Cm} (h : prsE x = n) (hL : prsL x = L) (hl : x.length ≤ 4611686018427387904) (w : World) (hS : SG w) (hT : TB w) (hE : EG w) : Calls Tryd.prog 11 #[str x] w fun e w' => ∃ va vc R, e = .returned (.tuple #[.slice va R.length vc, .int .i64 n]) ∧ Fc w.heap.size w' (.slice va R.length vc) R ∧ R.map (·.c) = L ∧ Below w.heap.size w w' := by
  refine Calls.mono (parse_any x hl w hS hT hE) ?_
  rintro e w' ⟨b, va, vc, R, rfl, hF, hR⟩
  rw [h]
  exact ⟨va, vc, R, rfl, hF, hR.trans hL, b⟩
attribute [local go_sem ↓] ad9 ix10e
set_option maxHeartbeats 4000000 in
theorem numbers_walk (n q : Int) (hn : In64 n) (hq : In64 q) (w : World) (hS : SG w) (hT : TB w) (hE : EG w) :
    Calls Tryd.prog 4 #[.int .i64 n, .int .i64 q] w fun e w' => e = .returned (.bool true) ∧ Below w.heap.size w w' := by
  have hbad := Hid.mk (badN_all hn)
  have hback := n3_back hn hq
  go_enter Tryd.func4, Tryd.ntmps4
  go_wp2_with fail
  refine Calls.mono (first_any w hS hT hE) ?_
  rintro e w1 ⟨rfl, b1⟩
  have hS1 := hS.below b1
  have hT1 := hT.below b1
  have hE1 := hE.below b1
  dsimp only
  go_wp2_with fail
  refine Calls.mono (print3 n q hn hq w1 hS1 hT1) ?_
  rintro e w2 ⟨rfl, b2⟩
  have hS2 := hS1.below b2
  have hT2 := hT1.below b2
  have hE2 := hE1.below b2
  have hpl : (prT (N3 n q)).length ≤ 4611686018427387904 := by
    have := (n3_len hn hq)
    omega
  dsimp only
  go_wp2_with fail
  refine Calls.mono (parse_any (prT (N3 n q)) hpl w2 hS2 hT2 hE2) ?_
  rintro e w3 ⟨b3, va, vc, R, rfl, hF, hR⟩
  rw [hback.1]
  rw [hback.2] at hR
  have hS3 := hS2.below b3
  have hT3 := hT2.below b3
  have hE3 := hE2.below b3
  have B3 : Below w.heap.size w w3 := below_seq (below_seq b1 b2) b3
  obtain ⟨b, rfl, hb, hcap, hat⟩ := hF.at hR (by simp)
  obtain ⟨_, _, _, _, r0⟩ := hat 0 _ rfl
  obtain ⟨_, _, _, _, r1⟩ := hat 1 _ rfl
  obtain ⟨_, _, _, _, r2⟩ := hat 2 _ rfl
  have c0 : w3.cell? ⟨b, 9, none⟩ = some (.int .i64 n) := r0 9 _ rfl
  have c1 : w3.cell? ⟨b, 20, none⟩ = some (.int .i64 q) := r1 8 _ rfl
  have c2 : w3.cell? ⟨b, 25, none⟩ = some (.int .i64 n) := r2 1 _ rfl
  have c3 : w3.cell? ⟨b, 26, none⟩ = some (.int .i64 q) := r2 2 _ rfl
  have hl : R.length = 3 := by have := congrArg List.length hR; simpa using this
  rw [hl]
  clear r0 r1 r2 hat hF hR hcap hl hback
  dsimp only
  go_wp2_with fail
  refine Calls.mono (itoa_any n hn w3 hT3) ?_
  rintro e w4 ⟨rfl, b4⟩
  have hS4 := hS3.below b4
  have hT4 := hT3.below b4
  have hE4 := hE3.below b4
  have B4 := below_seq B3 b4
  clear c0 c1 c2 c3 hS3 hT3 hE3 hS2 hT2 hE2 hS1 hT1 hE1 hS hT hE B3 hb hpl
  have hdl := itoa_le hn
  have hbad : Hid (∀ k, k < 10 → prsE ([fall ++ [32, 48] ++ Lib.itoa n, fall ++ [32, 43] ++ Lib.itoa n, fall ++ [32, 32] ++ Lib.itoa n, fall ++ [32] ++ Lib.itoa n ++ [32], fall ++ [32, 34] ++ Lib.itoa n ++ [34], fall, fall ++ [32] ++ Lib.itoa n ++ [32] ++ Lib.itoa n,
    [102, 97, 108, 108, 32, 57, 50, 50, 51, 51, 55, 50, 48, 51, 54, 56, 53, 52, 55, 55, 53, 56, 48, 56],
    [102, 97, 108, 108, 32, 45, 57, 50, 50, 51, 51, 55, 50, 48, 51, 54, 56, 53, 52, 55, 55, 53, 56, 48, 57],
    [102, 97, 108, 108, 32, 45, 48]].getD k []) = 110 ∧ ([fall ++ [32, 48] ++ Lib.itoa n, fall ++ [32, 43] ++ Lib.itoa n, fall ++ [32, 32] ++ Lib.itoa n, fall ++ [32] ++ Lib.itoa n ++ [32], fall ++ [32, 34] ++ Lib.itoa n ++ [34], fall, fall ++ [32] ++ Lib.itoa n ++ [32] ++ Lib.itoa n,
    [102, 97, 108, 108, 32, 57, 50, 50, 51, 51, 55, 50, 48, 51, 54, 56, 53, 52, 55, 55, 53, 56, 48, 56],
    [102, 97, 108, 108, 32, 45, 57, 50, 50, 51, 51, 55, 50, 48, 51, 54, 56, 53, 52, 55, 55, 53, 56, 48, 57],
    [102, 97, 108, 108, 32, 45, 48]].getD k []).length ≤ 1000) := ⟨fun k hk => hbad.out _ (by
      have hl : (badN n).length = 10 := rfl
      show (badN n).getD k [] ∈ badN n
      rw [List.getD_eq_getElem?_getD, List.getElem?_eq_getElem (by omega)]
      exact List.getElem_mem _)⟩
  generalize Lib.itoa n = d at *
  have e1 : ∀ w, (adS (.string ⟨#[102, 97, 108, 108, 32, 48]⟩) (str d)).run Tryd.prog w = .ok (str (fall ++ [32, 48] ++ d)) w := fun w => run_ad [102, 97, 108, 108, 32, 48] d (by simp; omega) w
  have e2 : ∀ w, (adS (.string ⟨#[102, 97, 108, 108, 32, 43]⟩) (str d)).run Tryd.prog w = .ok (str (fall ++ [32, 43] ++ d)) w := fun w => run_ad [102, 97, 108, 108, 32, 43] d (by simp; omega) w
  have e3 : ∀ w, (adS (.string ⟨#[102, 97, 108, 108, 32, 32]⟩) (str d)).run Tryd.prog w = .ok (str (fall ++ [32, 32] ++ d)) w := fun w => run_ad [102, 97, 108, 108, 32, 32] d (by simp; omega) w
  have e4 : ∀ w, (adS (.string ⟨#[102, 97, 108, 108, 32]⟩) (str d)).run Tryd.prog w = .ok (str (fall ++ [32] ++ d)) w := fun w => run_ad [102, 97, 108, 108, 32] d (by simp; omega) w
  have e5 : ∀ w, (adS (str (fall ++ [32] ++ d)) (.string ⟨#[32]⟩)).run Tryd.prog w = .ok (str (fall ++ [32] ++ d ++ [32])) w := fun w => run_ad (fall ++ [32] ++ d) [32] (by simp; omega) w
  have e6 : ∀ w, (adS (.string ⟨#[102, 97, 108, 108, 32, 34]⟩) (str d)).run Tryd.prog w = .ok (str (fall ++ [32, 34] ++ d)) w := fun w => run_ad [102, 97, 108, 108, 32, 34] d (by simp; omega) w
  have e7 : ∀ w, (adS (str (fall ++ [32, 34] ++ d)) (.string ⟨#[34]⟩)).run Tryd.prog w = .ok (str (fall ++ [32, 34] ++ d ++ [34])) w := fun w => run_ad (fall ++ [32, 34] ++ d) [34] (by simp; omega) w
  have e8 : ∀ w, (adS (str (fall ++ [32] ++ d ++ [32])) (str d)).run Tryd.prog w = .ok (str (fall ++ [32] ++ d ++ [32] ++ d)) w := fun w => run_ad (fall ++ [32] ++ d ++ [32]) d (by simp; omega) w
  generalize fall ++ [32, 48] ++ d = t0 at *
  generalize fall ++ [32, 43] ++ d = t1 at *
  generalize fall ++ [32, 32] ++ d = t2 at *
  generalize fall ++ [32] ++ d ++ [32] ++ d = t6 at *
  generalize fall ++ [32] ++ d ++ [32] = t3 at *
  generalize fall ++ [32] ++ d = ta at *
  generalize fall ++ [32, 34] ++ d ++ [34] = t4 at *
  generalize fall ++ [32, 34] ++ d = tb at *
  dsimp only
  go_wp2_with fail
  go_loopw [11, 12, 13, 100] (fun _ _ _ i wr => ∃ k : Nat, i = .int .i64 k ∧ k ≤ 10 ∧ Hid (Below w4.heap.size w4 wr)) (fun _ _ _ i _ => 10 - (intOf i).toNat)
  case atStart => exact ⟨0, rfl, by omega, ⟨Below.refl _ _⟩⟩
  case round =>
    obtain ⟨k, rfl, hk, HB⟩ := hrel
    by_cases hlt : k < 10
    · have d1 : decide ((k : Int) < 10) = true := decide_eq_true (by omega)
      have hix := run_ix10 t0 t1 t2 t3 t4 fall t6 [102, 97, 108, 108, 32, 57, 50, 50, 51, 51, 55, 50, 48, 51, 54, 56, 53, 52, 55, 55, 53, 56, 48, 56] [102, 97, 108, 108, 32, 45, 57, 50, 50, 51, 51, 55, 50, 48, 51, 54, 56, 53, 52, 55, 55, 53, 56, 48, 57] [102, 97, 108, 108, 32, 45, 48] k hlt
      obtain ⟨hx1, hx2⟩ := hbad.out k hlt
      generalize List.getD _ k ([] : By) = x at *
      have hpa := parse_e hx1 rfl (by omega) wr (hS4.below HB.out) (hT4.below HB.out) (hE4.below HB.out)
      have hw1 : wrap64 ((k : Int) + 1) = ((k + 1 : Nat) : Int) := by unfold wrap64; omega
      clear hx1 hx2 hbad e1 e2 e3 e4 e5 e6 e7 e8
      go_wp2_with fail
      with_reducible refine Calls.mono hpa ?_
      rintro e w5 ⟨va5, vc5, R5, rfl, -, -, b5⟩
      have B5 := below_seq HB.out b5
      clear hpa hix
      dsimp only
      go_wp2_with fail
      refine ⟨⟨k + 1, rfl, hlt, ⟨B5⟩⟩, ?_⟩
      show 10 - ((k : Int) + 1).toNat < 10 - ((k : Int)).toNat
      omega
    · have d1 : decide ((k : Int) < 10) = false := decide_eq_false (by omega)
      go_wp2_with fail
      go_ret
      exact ⟨rfl, below_seq B4 HB.out⟩
end Go.Proofs.YtiifkcnpdihlmaaDoor
