import Derived.Test.YtiifkcnpdihlmaaDoorYf
import Derived.Test.YtiifkcnpdihlmaaDoorGe
import Derived.Test.YtiifkcnpdihlmaaDoorGa
/- Layer 22: ScriptNumbers. -/
namespace Go.Proofs.YtiifkcnpdihlmaaDoor
set_option maxRecDepth 100000
set_option linter.unusedVariables false
set_option linter.unusedSimpArgs false
open Go.RowKit
attribute [local go_sem ↓] Go.wp_at_zero Go.wp_at_succ
noncomputable def adS (v x : Value) : Sem Value := binOp BinOp.add 9 v x
theorem ad9 (v x : Value) : binOp BinOp.add 9 v x = adS v x := rfl
theorem run_ad (x y : By) (h : x.length + y.length ≤ 9223372036854775807) (w : World) : (adS (str x) (str y)).run Tryd.prog w = .ok (str (x ++ y)) w := by
  have hr := run_string_add_sum (P := Tryd.prog) w ⟨x.toArray⟩ ⟨y.toArray⟩ (by rw [str_size, str_size]; exact h)
  have e : (⟨x.toArray⟩ : ByteArray) ++ ⟨y.toArray⟩ = ⟨(x ++ y).toArray⟩ := by
    apply ByteArray.ext
    simp
  unfold adS
  rw [e] at hr
  simpa [binOp] using hr
noncomputable def ix10 (v i : Value) : Sem Value := Instr.index 40 v i
theorem ix10e (v i : Value) : Instr.index 40 v i = ix10 v i := rfl
theorem run_ix10 (t0 t1 t2 t3 t4 t5 t6 t7 t8 t9 : By) (k : Nat) (hk : k < 10) (w : World) : (ix10 (.agg #[str t0, str t1, str t2, str t3, str t4, str t5, str t6, str t7, str t8, str t9]) (.int .i64 (k : Int))).run Tryd.prog w = .ok (str ([t0, t1, t2, t3, t4, t5, t6, t7, t8, t9].getD k [])) w := by
  have h2 : (k : Int) < 10 := by omega
  unfold ix10
  match k, hk with
  | 0, _ => rfl
  | 1, _ => rfl
  | 2, _ => rfl
  | 3, _ => rfl
  | 4, _ => rfl
  | 5, _ => rfl
  | 6, _ => rfl
  | 7, _ => rfl
  | 8, _ => rfl
  | 9, _ => rfl
theorem Fc.at {base : Nat} {w : World} {va : Option Addr} {vc : Nat} {R : List Cr} {L : List Cm} (h : Fc base w (.slice va R.length vc) R) (hR : R.map (·.c) = L) (hne : L ≠ []) : ∃ b, va = some ⟨b, 0, none⟩ ∧ b < w.heap.size ∧ R.length ≤ vc ∧ ∀ (k : Nat) (c : Cm), L[k]? = some c → ∃ ma mc ka kc, w.rangeAt b (k * 12) (ccs c ma mc ka kc).toList := by
  have hl : R.length ≠ 0 := fun q => hne (by rw [← hR]; simp [List.eq_nil_of_length_eq_zero q])
  rcases h.own.2 with ⟨e, h0⟩ | ⟨g, cap, cur, e, _, _, h1, _⟩
  · exact absurd h0 hl
  · injection e with e1 e2 e3
    subst e1 e3
    refine ⟨g, rfl, (h.own.lt g rfl).2, h1, fun k c hk => ?_⟩
    rw [← hR, List.getElem?_map] at hk
    cases hq : R[k]? with
    | none => rw [hq] at hk; cases hk
    | some r =>
      rw [hq] at hk
      injection hk with hk
      subst hk
      have hkl := (List.getElem?_eq_some_iff.1 hq).1
      refine ⟨r.ma, r.mc, r.ka, r.kc, fun j v hv => ?_⟩
      have hj := (List.getElem?_eq_some_iff.1 hv).1
      have hj2 : j < 12 := hj
      rw [h.own.cellAt _ (by omega)]
      exact rcl_get R k r hq j v hv
theorem cl_n3 (n q : Int) (hn : In64 n) (hq : In64 q) (w : World) : CL (w.alloc (.cells (rcl [⟨n1 n, none, 0, none, 0⟩, ⟨n2 q, none, 0, none, 0⟩, ⟨n9 n q, none, 0, none, 0⟩]).toArray 34)) (w.alloc (.cells (rcl [⟨n1 n, none, 0, none, 0⟩, ⟨n2 q, none, 0, none, 0⟩, ⟨n9 n q, none, 0, none, 0⟩]).toArray 34)).heap.size (some ⟨w.heap.size, 0, none⟩) (N3 n q) :=
  cl_blk (R := [⟨n1 n, none, 0, none, 0⟩, ⟨n2 q, none, 0, none, 0⟩, ⟨n9 n q, none, 0, none, 0⟩]) (heap_alloc_new w _) rfl (fun r hr => by
    have z : ∀ k : Int, 0 ≤ k → k ≤ 100 → In64 k := fun k h1 h2 => ⟨by omega, by omega⟩
    have h : r = ⟨n1 n, none, 0, none, 0⟩ ∨ r = ⟨n2 q, none, 0, none, 0⟩ ∨ r = ⟨n9 n q, none, 0, none, 0⟩ := by simpa using hr
    rcases h with rfl | rfl | rfl
    · exact ⟨okt_of (z 2 (by decide) (by decide)) (z 0 (by decide) (by decide)) (z 0 (by decide) (by decide)) (z 17 (by decide) (by decide)) (z 0 (by decide) (by decide)) hn (fun k hk => by cases hk) (by simp) (by simp) (by simp) (by simp) rfl (by simp), cb_nil _ _ _ rfl rfl⟩
    · exact ⟨okt_of (z 2 (by decide) (by decide)) (z 0 (by decide) (by decide)) (z 0 (by decide) (by decide)) (z 12 (by decide) (by decide)) hq (z 0 (by decide) (by decide)) (fun k hk => by cases hk) (by simp) (by simp) (by simp) (by simp) rfl (by simp), cb_nil _ _ _ rfl rfl⟩
    · exact ⟨okt_of (z 1 (by decide) (by decide)) hn hq (z 0 (by decide) (by decide)) (z 0 (by decide) (by decide)) (z 0 (by decide) (by decide)) (fun k hk => by cases hk) (by simp) (by simp) (by simp) (by simp) rfl (by simp), cb_nil _ _ _ rfl rfl⟩)
theorem print3 (n q : Int) (hn : In64 n) (hq : In64 q) (w : World) (hS : SG w) (hT : TB w) : Calls Tryd.prog 12 #[.slice (some ⟨w.heap.size, 0, none⟩) 3 3] (w.alloc (.cells (rcl [⟨n1 n, none, 0, none, 0⟩, ⟨n2 q, none, 0, none, 0⟩, ⟨n9 n q, none, 0, none, 0⟩]).toArray 34)) fun e w' => e = .returned (.tuple #[str (prT (N3 n q)), .int .i64 0]) ∧ Below w.heap.size w w' := by
  have b0 : Below w.heap.size w (w.alloc (.cells (rcl [⟨n1 n, none, 0, none, 0⟩, ⟨n2 q, none, 0, none, 0⟩, ⟨n9 n q, none, 0, none, 0⟩]).toArray 34)) := (Below.refl _ _).alloc (Nat.le_refl _) _
  refine Calls.mono (print_any (N3 n q) _ (some ⟨w.heap.size, 0, none⟩) 3 _ (cl_n3 n q hn hq w) (Nat.le_refl _) (by simp) (hS.below b0) (hT.below b0)) ?_
  rintro e w' ⟨rfl, hb⟩
  rw [n3_prE hn hq]
  exact ⟨rfl, below_seq b0 hb⟩
theorem itoa_any (n : Int) (h : In64 n) (w : World) (hT : TB w) : Calls Tryd.prog 13 #[.int .i64 n] w fun e w' => e = .returned (str (Lib.itoa n)) ∧ Below w.heap.size w w' := by
  refine (Tryd.strconv_Itoa n h.1 h.2 w hT.out).mono ?_
  rintro e w1 ⟨rfl, k, os, rfl⟩
  exact ⟨rfl, Lib.below_grow _ _ (Nat.le_refl _) _ _⟩
/-- Parse, of a text whose answer is known -/
theorem parse_e {x : By} {n : Int} {L : List Cm} (h : prsE x = n) (hL : prsL x = L) (hl : x.length ≤ 4611686018427387904) (w : World) (hS : SG w) (hT : TB w) (hE : EG w) : Calls Tryd.prog 11 #[str x] w fun e w' => ∃ va vc R, e = .returned (.tuple #[.slice va R.length vc, .int .i64 n]) ∧ Fc w.heap.size w' (.slice va R.length vc) R ∧ R.map (·.c) = L ∧ Below w.heap.size w w' := by
  refine Calls.mono (parse_any x hl w hS hT hE) ?_
  rintro e w' ⟨b, va, vc, R, rfl, hF, hR⟩
  rw [h]
  exact ⟨va, vc, R, rfl, hF, hR.trans hL, b⟩
attribute [local go_sem ↓] ad9 ix10e
set_option maxHeartbeats 4000000 in
theorem numbers_walk (n q : Int) (hn : In64 n) (hq : In64 q) (w : World) (hS : SG w) (hT : TB w) (hE : EG w) :
    Calls Tryd.prog 4 #[.int .i64 n, .int .i64 q] w fun e w' => e = .returned (.bool true) ∧ Below w.heap.size w w' := by
  have hbad := Hid.mk (badN_all hn)
  have hback := n3_back hn hq
  go_enter Tryd.func4, Tryd.ntmps4
  go_wp2_with fail
  refine Calls.mono (first_any w hS hT hE) ?_
  rintro e w1 ⟨rfl, b1⟩
  have hS1 := hS.below b1
  have hT1 := hT.below b1
  have hE1 := hE.below b1
  dsimp only
  go_wp2_with fail
  refine Calls.mono (print3 n q hn hq w1 hS1 hT1) ?_
  rintro e w2 ⟨rfl, b2⟩
  have hS2 := hS1.below b2
  have hT2 := hT1.below b2
  have hE2 := hE1.below b2
  have hpl : (prT (N3 n q)).length ≤ 4611686018427387904 := by
    have := (n3_len hn hq)
    omega
  dsimp only
  go_wp2_with fail
  refine Calls.mono (parse_any (prT (N3 n q)) hpl w2 hS2 hT2 hE2) ?_
  rintro e w3 ⟨b3, va, vc, R, rfl, hF, hR⟩
  rw [hback.1]
  rw [hback.2] at hR
  have hS3 := hS2.below b3
  have hT3 := hT2.below b3
  have hE3 := hE2.below b3
  have B3 : Below w.heap.size w w3 := below_seq (below_seq b1 b2) b3
  obtain ⟨b, rfl, hb, hcap, hat⟩ := hF.at hR (by simp)
  obtain ⟨_, _, _, _, r0⟩ := hat 0 _ rfl
  obtain ⟨_, _, _, _, r1⟩ := hat 1 _ rfl
  obtain ⟨_, _, _, _, r2⟩ := hat 2 _ rfl
  have c0 : w3.cell? ⟨b, 9, none⟩ = some (.int .i64 n) := r0 9 _ rfl
  have c1 : w3.cell? ⟨b, 20, none⟩ = some (.int .i64 q) := r1 8 _ rfl
  have c2 : w3.cell? ⟨b, 25, none⟩ = some (.int .i64 n) := r2 1 _ rfl
  have c3 : w3.cell? ⟨b, 26, none⟩ = some (.int .i64 q) := r2 2 _ rfl
  have hl : R.length = 3 := by have := congrArg List.length hR; simpa using this
  rw [hl]
  clear r0 r1 r2 hat hF hR hcap hl hback
  dsimp only
  go_wp2_with fail
  refine Calls.mono (itoa_any n hn w3 hT3) ?_
  rintro e w4 ⟨rfl, b4⟩
  have hS4 := hS3.below b4
  have hT4 := hT3.below b4
  have hE4 := hE3.below b4
  have B4 := below_seq B3 b4
  clear c0 c1 c2 c3 hS3 hT3 hE3 hS2 hT2 hE2 hS1 hT1 hE1 hS hT hE B3 hb hpl
  have hdl := itoa_le hn
  have hbad : Hid (∀ k, k < 10 → prsE ([fall ++ [32, 48] ++ Lib.itoa n, fall ++ [32, 43] ++ Lib.itoa n, fall ++ [32, 32] ++ Lib.itoa n, fall ++ [32] ++ Lib.itoa n ++ [32], fall ++ [32, 34] ++ Lib.itoa n ++ [34], fall, fall ++ [32] ++ Lib.itoa n ++ [32] ++ Lib.itoa n,
    [102, 97, 108, 108, 32, 57, 50, 50, 51, 51, 55, 50, 48, 51, 54, 56, 53, 52, 55, 55, 53, 56, 48, 56],
    [102, 97, 108, 108, 32, 45, 57, 50, 50, 51, 51, 55, 50, 48, 51, 54, 56, 53, 52, 55, 55, 53, 56, 48, 57],
    [102, 97, 108, 108, 32, 45, 48]].getD k []) = 110 ∧ ([fall ++ [32, 48] ++ Lib.itoa n, fall ++ [32, 43] ++ Lib.itoa n, fall ++ [32, 32] ++ Lib.itoa n, fall ++ [32] ++ Lib.itoa n ++ [32], fall ++ [32, 34] ++ Lib.itoa n ++ [34], fall, fall ++ [32] ++ Lib.itoa n ++ [32] ++ Lib.itoa n,
    [102, 97, 108, 108, 32, 57, 50, 50, 51, 51, 55, 50, 48, 51, 54, 56, 53, 52, 55, 55, 53, 56, 48, 56],
    [102, 97, 108, 108, 32, 45, 57, 50, 50, 51, 51, 55, 50, 48, 51, 54, 56, 53, 52, 55, 55, 53, 56, 48, 57],
    [102, 97, 108, 108, 32, 45, 48]].getD k []).length ≤ 1000) := ⟨fun k hk => hbad.out _ (by
      have hl : (badN n).length = 10 := rfl
      show (badN n).getD k [] ∈ badN n
      rw [List.getD_eq_getElem?_getD, List.getElem?_eq_getElem (by omega)]
      exact List.getElem_mem _)⟩
  generalize Lib.itoa n = d at *
  have e1 : ∀ w, (adS (.string ⟨#[102, 97, 108, 108, 32, 48]⟩) (str d)).run Tryd.prog w = .ok (str (fall ++ [32, 48] ++ d)) w := fun w => run_ad [102, 97, 108, 108, 32, 48] d (by simp; omega) w
  have e2 : ∀ w, (adS (.string ⟨#[102, 97, 108, 108, 32, 43]⟩) (str d)).run Tryd.prog w = .ok (str (fall ++ [32, 43] ++ d)) w := fun w => run_ad [102, 97, 108, 108, 32, 43] d (by simp; omega) w
  have e3 : ∀ w, (adS (.string ⟨#[102, 97, 108, 108, 32, 32]⟩) (str d)).run Tryd.prog w = .ok (str (fall ++ [32, 32] ++ d)) w := fun w => run_ad [102, 97, 108, 108, 32, 32] d (by simp; omega) w
  have e4 : ∀ w, (adS (.string ⟨#[102, 97, 108, 108, 32]⟩) (str d)).run Tryd.prog w = .ok (str (fall ++ [32] ++ d)) w := fun w => run_ad [102, 97, 108, 108, 32] d (by simp; omega) w
  have e5 : ∀ w, (adS (str (fall ++ [32] ++ d)) (.string ⟨#[32]⟩)).run Tryd.prog w = .ok (str (fall ++ [32] ++ d ++ [32])) w := fun w => run_ad (fall ++ [32] ++ d) [32] (by simp; omega) w
  have e6 : ∀ w, (adS (.string ⟨#[102, 97, 108, 108, 32, 34]⟩) (str d)).run Tryd.prog w = .ok (str (fall ++ [32, 34] ++ d)) w := fun w => run_ad [102, 97, 108, 108, 32, 34] d (by simp; omega) w
  have e7 : ∀ w, (adS (str (fall ++ [32, 34] ++ d)) (.string ⟨#[34]⟩)).run Tryd.prog w = .ok (str (fall ++ [32, 34] ++ d ++ [34])) w := fun w => run_ad (fall ++ [32, 34] ++ d) [34] (by simp; omega) w
  have e8 : ∀ w, (adS (str (fall ++ [32] ++ d ++ [32])) (str d)).run Tryd.prog w = .ok (str (fall ++ [32] ++ d ++ [32] ++ d)) w := fun w => run_ad (fall ++ [32] ++ d ++ [32]) d (by simp; omega) w
  generalize fall ++ [32, 48] ++ d = t0 at *
  generalize fall ++ [32, 43] ++ d = t1 at *
  generalize fall ++ [32, 32] ++ d = t2 at *
  generalize fall ++ [32] ++ d ++ [32] ++ d = t6 at *
  generalize fall ++ [32] ++ d ++ [32] = t3 at *
  generalize fall ++ [32] ++ d = ta at *
  generalize fall ++ [32, 34] ++ d ++ [34] = t4 at *
  generalize fall ++ [32, 34] ++ d = tb at *
  dsimp only
  go_wp2_with fail
  go_loopw [11, 12, 13, 100] (fun _ _ _ i wr => ∃ k : Nat, i = .int .i64 k ∧ k ≤ 10 ∧ Hid (Below w4.heap.size w4 wr)) (fun _ _ _ i _ => 10 - (intOf i).toNat)
  case atStart => exact ⟨0, rfl, by omega, ⟨Below.refl _ _⟩⟩
  case round =>
    obtain ⟨k, rfl, hk, HB⟩ := hrel
    by_cases hlt : k < 10
    · have d1 : decide ((k : Int) < 10) = true := decide_eq_true (by omega)
      have hix := run_ix10 t0 t1 t2 t3 t4 fall t6 [102, 97, 108, 108, 32, 57, 50, 50, 51, 51, 55, 50, 48, 51, 54, 56, 53, 52, 55, 55, 53, 56, 48, 56] [102, 97, 108, 108, 32, 45, 57, 50, 50, 51, 51, 55, 50, 48, 51, 54, 56, 53, 52, 55, 55, 53, 56, 48, 57] [102, 97, 108, 108, 32, 45, 48] k hlt
      obtain ⟨hx1, hx2⟩ := hbad.out k hlt
      generalize List.getD _ k ([] : By) = x at *
      have hpa := parse_e hx1 rfl (by omega) wr (hS4.below HB.out) (hT4.below HB.out) (hE4.below HB.out)
      have hw1 : wrap64 ((k : Int) + 1) = ((k + 1 : Nat) : Int) := by unfold wrap64; omega
      clear hx1 hx2 hbad e1 e2 e3 e4 e5 e6 e7 e8
      go_wp2_with fail
      with_reducible refine Calls.mono hpa ?_
      rintro e w5 ⟨va5, vc5, R5, rfl, -, -, b5⟩
      have B5 := below_seq HB.out b5
      clear hpa hix
      dsimp only
      go_wp2_with fail
      refine ⟨⟨k + 1, rfl, hlt, ⟨B5⟩⟩, ?_⟩
      show 10 - ((k : Int) + 1).toNat < 10 - ((k : Int)).toNat
      omega
    · have d1 : decide ((k : Int) < 10) = false := decide_eq_false (by omega)
      go_wp2_with fail
      go_ret
      exact ⟨rfl, below_seq B4 HB.out⟩
end Go.Proofs.YtiifkcnpdihlmaaDoor

/- Layer 22: ScriptLines. -/
namespace Go.Proofs.YtiifkcnpdihlmaaDoor
set_option maxRecDepth 100000
set_option linter.unusedVariables false
set_option linter.unusedSimpArgs false
open Go.RowKit
attribute [local go_sem ↓] Go.wp_at_zero Go.wp_at_succ sl9 ix9 ad9
theorem get_at {t : By} {k : Nat} (h : k < t.length) : t.getD k 0 = t[k]'h := by rw [List.getD_eq_getElem?_getD, List.getElem?_eq_getElem h]; rfl
theorem drop_at9 {t : By} {k : Nat} (h : k < t.length) : t.drop k = t.getD k 0 :: t.drop (k + 1) := by rw [get_at h]; exact List.drop_eq_getElem_cons h
theorem take_cnt {t : By} {k : Nat} (h : k < t.length) : (t.take (k + 1)).count 10 = (t.take k).count 10 + (if t.getD k 0 = 10 then 1 else 0) := by
  rw [List.take_add_one, List.getElem?_eq_getElem h, get_at h, List.count_append]
  show _ + List.count 10 [t[k]] = _
  rw [List.count_singleton]
  simp
theorem cnt_le (t : By) (k : Nat) : (t.take k).count 10 ≤ t.length := Nat.le_trans List.count_le_length (by rw [List.length_take]; omega)
theorem few_step10 (b : Nat) (r : By) : fewF b (10 :: r) = fewF 0 r := by rw [fewF, if_pos rfl]
theorem few_step {b : Nat} {c : UInt8} {r : By} (hc : c ≠ 10) (hb : ¬ 8000 < b + 1) : fewF b (c :: r) = fewF (b + 1) r := by rw [fewF, if_neg hc, if_neg hb]
set_option maxHeartbeats 1000000 in
theorem few_any (t : By) (ht : t.length ≤ 140737488351232) (w : World) : Calls Tryd.prog 17 #[str t] w fun e w' => (∃ b, e = .returned (.bool b) ∧ (b = true → Few t)) ∧ Below w.heap.size w w' := by
  go_enter Tryd.func17, Tryd.ntmps17
  go_wp2_with fail
  go_loopw [3, 4, 5] (fun l y i wr => ∃ k b m : Nat, l = .int .i64 m ∧ y = .int .i64 b ∧ i = .int .i64 k ∧ k ≤ t.length ∧ b ≤ 8000 ∧ m ≤ t.length ∧ Hid (m = (t.take k).count 10) ∧ Hid (fewF 0 t = fewF b (t.drop k)) ∧ Hid (Below w.heap.size w wr)) (fun _ _ i _ => t.length - (intOf i).toNat)
  case atStart => exact ⟨0, 0, 0, rfl, rfl, rfl, Nat.zero_le _, Nat.zero_le _, Nat.zero_le _, ⟨by simp⟩, ⟨by simp⟩, ⟨Below.refl _ _⟩⟩
  case round =>
    obtain ⟨k, b, m, rfl, rfl, rfl, hk, hb, hm, HM, HF, HB⟩ := hrel
    by_cases hlt : k < t.length
    · have d1 : decide ((k : Int) < (t.length : Int)) = true := decide_eq_true (by omega)
      have hix := run_ix t k hlt
      have HD := Hid.mk (drop_at9 hlt)
      have HC := Hid.mk (take_cnt hlt)
      have hcl := cnt_le t (k + 1)
      generalize t.getD k 0 = c at *
      by_cases hc : c = 10
      · subst hc
        have e1 : (((10 : UInt8).toNat : Int) == 10) = true := rfl
        have HM2 : Hid (m + 1 = (t.take (k + 1)).count 10) := ⟨by rw [HC.out, ← HM.out]; rfl⟩
        have hm2 : m + 1 ≤ t.length := by rw [HM2.out]; exact hcl
        have HF2 : Hid (fewF 0 t = fewF 0 (t.drop (k + 1))) := ⟨by rw [HF.out, HD.out, few_step10]⟩
        clear hcl HC HD
        go_wp2_with fail
        refine ⟨⟨k + 1, 0, m + 1, rfl, rfl, rfl, hlt, by omega, hm2, HM2, HF2, HB⟩, ?_⟩
        show t.length - ((k : Int) + 1).toNat < t.length - ((k : Int)).toNat
        omega
      · have e1 : ((c.toNat : Int) == 10) = false := u8ne (n := 10) (by decide) hc
        have HM2 : Hid (m = (t.take (k + 1)).count 10) := ⟨by rw [HC.out, ← HM.out, if_neg hc]; rfl⟩
        clear hcl
        by_cases h8 : 8000 < b + 1
        · have d2 : decide ((8000 : Int) < (b : Int) + 1) = true := decide_eq_true (by omega)
          go_wp2_with fail
          go_ret
          exact ⟨⟨false, rfl, fun q => by cases q⟩, HB.out⟩
        · have d2 : decide ((8000 : Int) < (b : Int) + 1) = false := decide_eq_false (by omega)
          have HF2 : Hid (fewF 0 t = fewF (b + 1) (t.drop (k + 1))) := ⟨by rw [HF.out, HD.out, few_step hc h8]⟩
          clear HC HD
          go_wp2_with fail
          refine ⟨⟨k + 1, b + 1, m, rfl, rfl, rfl, hlt, by omega, hm, HM2, HF2, HB⟩, ?_⟩
          show t.length - ((k : Int) + 1).toNat < t.length - ((k : Int)).toNat
          omega
    · have d1 : decide ((k : Int) < (t.length : Int)) = false := decide_eq_false (by omega)
      have d2 : decide (k < t.length) = false := decide_eq_false hlt
      have hke : k = t.length := Nat.le_antisymm hk (Nat.le_of_not_lt hlt)
      have HX : Hid (m < 300 → t.length < 25000 → Few t) := ⟨fun h1 h2 => by
        have hf := HF.out
        rw [hke, List.drop_length] at hf
        have hm2 := HM.out
        rw [hke, List.take_length] at hm2
        have := lnl_count t
        exact ⟨by omega, by omega, few_all (by rw [hf]; rfl)⟩⟩
      clear hke hk hlt HF HM
      by_cases h3 : m < 300
      · have d3 : decide ((m : Int) < 300) = true := decide_eq_true (by omega)
        by_cases h4 : t.length < 25000
        · have d4 : decide ((t.length : Int) < 25000) = true := decide_eq_true (by omega)
          go_wp2_with fail
          go_ret
          exact ⟨⟨true, rfl, fun _ => HX.out h3 h4⟩, HB.out⟩
        · have d4 : decide ((t.length : Int) < 25000) = false := decide_eq_false (by omega)
          go_wp2_with fail
          go_ret
          exact ⟨⟨false, rfl, fun q => by cases q⟩, HB.out⟩
      · have d3 : decide ((m : Int) < 300) = false := decide_eq_false (by omega)
        go_wp2_with fail
        go_ret
        exact ⟨⟨false, rfl, fun q => by cases q⟩, HB.out⟩
theorem ended_any (t : By) (ht : t.length ≤ 140737488351232) (w : World) : Calls Tryd.prog 18 #[str t] w fun e w' => e = .returned (str (enl t)) ∧ Below w.heap.size w w' := by
  cases ht0 : t with
  | nil =>
    go_enter Tryd.func18, Tryd.ntmps18
    go_wp2_with fail
    go_ret
    exact ⟨rfl, Below.refl _ _⟩
  | cons c0 r0 =>
    rw [← ht0]
    have hne : ((t : By) == []) = false := by rw [ht0]; rfl
    have hn0 : t ≠ [] := by rw [ht0]; simp
    have hl : 0 < t.length := by rw [ht0]; simp
    clear ht0 c0 r0
    obtain ⟨n, hn⟩ : ∃ n, t.length = n + 1 := ⟨t.length - 1, by omega⟩
    have hl0 : t.getLast? = some (t.getD n 0) := by rw [getLast_at hn, List.getD_eq_getElem?_getD, List.getElem?_eq_getElem (by omega)]; rfl
    have hw1 : (t.length : Int) - 1 = (n : Int) := by omega
    have in_ : ∀ w, (ixS (str t) (.int .i64 ((t.length : Int) - 1))).run Tryd.prog w = .ok (.int .u8 ((t.getD n 0).toNat : Int)) w := by rw [hw1]; exact run_ix t n (by omega)
    generalize t.getD n 0 = c at *
    have had : ∀ w, (adS (str t) (.string ⟨#[10]⟩)).run Tryd.prog w = .ok (str (t ++ [10])) w := fun w => run_ad t [10] (by simp; omega) w
    clear hw1 hn hl
    by_cases hc : c = 10
    · subst hc
      have HV : Hid (enl t = t) := ⟨by unfold enl; rw [if_pos (.inr hl0)]⟩
      have e1 : (((10 : UInt8).toNat : Int) == 10) = true := rfl
      clear hl0
      go_enter Tryd.func18, Tryd.ntmps18
      go_wp2_with fail
      go_ret
      exact ⟨by rw [HV.out]; rfl, Below.refl _ _⟩
    · have HV : Hid (enl t = t ++ [10]) := ⟨by
        unfold enl
        rw [if_neg (fun q => by
          rcases q with q | q
          · exact hn0 q
          · rw [hl0] at q; exact hc (Option.some.inj q))]⟩
      have e1 : ((c.toNat : Int) == 10) = false := u8ne (n := 10) (by decide) hc
      clear hl0
      go_enter Tryd.func18, Tryd.ntmps18
      go_wp2_with fail
      go_ret
      exact ⟨by rw [HV.out]; rfl, Below.refl _ _⟩
/-- one list behind another -/
theorem run_qss {b1 b2 : Nat} {w : World} {a1 a2 : Option Addr} {c1 c2 : Nat} {R1 R2 : List Cr} (h1 : Fq b1 w (.slice a1 R1.length c1) R1) (h2 : Fq b2 w (.slice a2 R2.length c2) R2) (hn : R1.length + R2.length ≤ 1000000) :
    ∃ va vc w', (∀ ty, (Builtin.append_ #[42, 42] ty #[.slice a1 R1.length c1, .slice a2 R2.length c2]).run Tryd.prog w = .ok (.slice va (R1 ++ R2).length vc) w') ∧ CT w' va (R1 ++ R2) ∧ Below b1 w w' := by
  obtain ⟨i0, z0, hi0, hz0, hzs, hz1, hz2⟩ := infoQx
  have hm : maxLen = 9223372036854775807 := rfl
  have hle := h1.le
  have key : ∀ (v' : Value) (w' : World), w'.ownsRow b1 50 12 v' (R1.length + R2.length) (rcl R1 ++ rcl R2) → w.grownBy w' (Value.slice a1 R1.length c1).ownBlock → ∃ va vc, v' = .slice va (R1 ++ R2).length vc ∧ CT w' va (R1 ++ R2) ∧ Below b1 w w' := by
    intro v' w' hown hgrow
    have hs : ∃ va vc, v' = .slice va (R1 ++ R2).length vc := by
      rw [List.length_append]
      rcases hown.2 with ⟨e, h0⟩ | ⟨g, c, cur, e, _⟩
      · exact ⟨none, 0, by rw [e, h0]⟩
      · exact ⟨_, _, e⟩
    obtain ⟨va, vc, rfl⟩ := hs
    have hsz : w.heap.size ≤ w'.heap.size := hgrow.size
    rw [← rcl_append, ← List.length_append] at hown
    have keepM : ∀ (x : Value) (n s : Nat) (xs : List Value) (t : TypeId) (b0 : Nat), t ≠ 50 → w.ownsRow b0 t s x n xs → w'.ownsRow b0 t s x n xs := fun x n s xs t b0 ht h => own_same h fun k hk2 => hgrow.block k (h.lt k hk2).2 (fun q => by
      obtain ⟨d1, e1⟩ := own_type h hk2
      obtain ⟨d2, e2⟩ := own_type h1.own q.symm
      rw [e1] at e2
      injection e2 with e2
      injection e2 with _ e3 _
      exact ht e3)
    refine ⟨va, vc, rfl, fun k r hk => ?_, grown_below h1.own hle hgrow⟩
    obtain ⟨b, off, e, hlt, hr⟩ := range_own hown hk
    have hmem := List.mem_of_getElem? hk
    refine ⟨b, off, e, hlt, hr, ?_, ?_⟩
    · rcases List.mem_append.1 hmem with q | q
      · exact sl_own (Nat.le_trans h1.le hsz) (keepM _ _ _ _ _ _ (by decide) (h1.ow r q))
      · exact sl_own (Nat.le_trans h2.le hsz) (keepM _ _ _ _ _ _ (by decide) (h2.ow r q))
    · rcases List.mem_append.1 hmem with q | q
      · exact si_own (keepM _ _ _ _ _ _ (by decide) (h1.oi r q))
      · exact si_own (keepM _ _ _ _ _ _ (by decide) (h2.oi r q))
  cases a2 with
  | none =>
    have hl : R2 = [] ∧ c2 = 0 := by
      rcases h2.own.2 with ⟨e, h0⟩ | ⟨g, c, cur, e, _⟩
      · injection e with _ _ e3
        exact ⟨List.eq_nil_of_length_eq_zero h0, e3⟩
      · injection e with e1 _ _; cases e1
    obtain ⟨rfl, rfl⟩ := hl
    refine ⟨a1, c1, w, fun ty => ?_, ?_, Below.refl _ _⟩
    · have := run_append_owned_none (P := Tryd.prog) w b1 42 ty 50 i0 12 Tryd.underlying42 hi0 _ R1.length (rcl R1) h1.own
      rw [List.append_nil]
      exact this
    · rw [List.append_nil]; exact CT.ofFq h1
  | some ad =>
    have hcells : ∀ j u, (rcl R2)[j]? = some u → w.cell? (ad.add j) = some u := by
      rcases h2.own.2 with ⟨e, h0⟩ | ⟨g, c, cur, e, _⟩
      · injection e with e1 _ _; cases e1
      · injection e with e1 _ _
        injection e1 with e1
        subst e1
        intro j u hj
        have hadd : (⟨g, 0, none⟩ : Addr).add j = ⟨g, j, none⟩ := by unfold Addr.add; split <;> simp_all
        have hjl := (List.getElem?_eq_some_iff.1 hj).1
        rw [rcl_len] at hjl
        rw [hadd, h2.own.cellAt j (by omega)]
        exact hj
    obtain ⟨v', w', hr, hown, hgrow, _⟩ := run_append_own_wide (P := Tryd.prog) (w := w) b1 42 42 50 i0 z0 12 160 Tryd.underlying42 hi0 hz0 hz1 hz2 hzs (by omega) (.slice a1 R1.length c1) R1.length (rcl R1) h1.own ad R2.length c2 (rcl R2) (rcl_len R2) hcells (fun u hu => by
      unfold rcl at hu
      obtain ⟨r, _, hq⟩ := List.mem_flatMap.1 hu
      exact ccl_one r u hq) (by rw [hm]; omega) (by omega) hle
    obtain ⟨va, vc, rfl, hct, hb⟩ := key v' w' hown hgrow
    exact ⟨va, vc, w', fun ty => hr, hct, hb⟩
/-- told, of what Parse tells -/
theorem told_fc {base : Nat} {w : World} {va : Option Addr} {vc : Nat} {R : List Cr} {t : By} (hF : Fc base w (.slice va R.length vc) R) (hR : R.map (·.c) = prsL t) : Calls Tryd.prog 15 #[.slice va R.length vc] w fun e w' => ∃ vb vd R', e = .returned (.slice vb R'.length vd) ∧ Fq w.heap.size w' (.slice vb R'.length vd) R' ∧ R'.map (·.c) = prsL t ∧ Below w.heap.size w w' := by
  have hp := prs_rd t
  have hl : R.length ≤ 1024 := by have := congrArg List.length hR; rw [List.length_map] at this; omega
  refine Calls.mono (told_any R va vc w (CT.ofFc hF) (by omega) (fun r hr => ?_)) ?_
  · have hc := hp.2 r.c (by rw [← hR]; exact List.mem_map.2 ⟨r, hr, rfl⟩)
    have := hc.ml
    have := hc.kl
    omega
  · rintro e w' ⟨vb, vd, R', rfl, hQ, hRR, b⟩
    exact ⟨vb, vd, R', rfl, hQ, hRR.trans hR, b⟩
theorem same_l {w : World} {la la' : Option Addr} {lc lc' : Nat} {L L' : List Cr} {M : List Cm} (h : L.map (·.c) = M) (h' : L'.map (·.c) = M) (hm : M.length ≤ 100000) (hs : ∀ c ∈ M, Rd1 c) (hL : CT w la L) (hL' : CT w la' L') : Calls Tryd.prog 16 #[.slice la L.length lc, .slice la' L'.length lc'] w fun e w' => e = .returned (.bool true) ∧ Below w.heap.size w w' := by
  have hl : L.length ≤ 100000 := by have := congrArg List.length h; rw [List.length_map] at this; omega
  refine same_eq L L' (h.trans h'.symm) la la' lc lc' w hL hL' (by omega) (fun r hr => ?_)
  have hc := hs r.c (by rw [← h]; exact List.mem_map.2 ⟨r, hr, rfl⟩)
  have := hc.ml
  have := hc.kl
  omega
end Go.Proofs.YtiifkcnpdihlmaaDoor
