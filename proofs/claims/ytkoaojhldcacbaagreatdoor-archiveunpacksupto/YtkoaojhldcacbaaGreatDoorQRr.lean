/- The document's Read: the walk. -/
import Derived.Test.YtkoaojhldcacbaaGreatDoorRb
import Derived.Test.YtkoaojhldcacbaaGreatDoorHe
import Derived.Test.YtkoaojhldcacbaaGreatDoorRe
import Derived.Deep.CutBlock
import Derived.Deep.CutRange
import Derived.BigRegion
namespace Go.Proofs.YtkoaojhldcacbaaGreatDoor
set_option maxRecDepth 100000
set_option linter.unusedVariables false
set_option linter.unusedSimpArgs false
open Go.RowKit
open Go.Proofs.YtkoaojhldcacbaaGreatDoorH (hv hv_length hv_one hv_eq pz range_of_row there_of_row refParse_any parsed_pz hv_b32)
attribute [local go_sem ↓] Go.wp_at_zero Go.wp_at_succ bsQe bdQe ldHe stHe Go.Proofs.YtkoaojhldcacbaaGreatDoorP.sl9
attribute [local go_sem] run_bsQ
theorem run_bdZ (k : List UInt8) (w : World) : (bdQ #[(0, str k)]).run Tryz.prog w = .ok (.agg (ic ⟨k, 0, false, 0, [], zg⟩ none 0).toArray) w := by
  have h := it0_cells k 0
  unfold it0 at h
  unfold bdQ
  rw [h]
  exact run_build w 82 _ _ (by kernel_rfl)
theorem qparse_any (l : List UInt8) (hl : l.length ≤ 1048576) (w : World) : Calls Tryz.prog 79 #[str l] w fun e w' => ∃ t, e = .returned (.tuple #[.agg (hv (cut32 (pz l))).toArray, .bool t]) ∧ Below w.heap.size w w' := by
  refine (refParse_any ⟨l.toArray⟩ w (by rw [str_size]; omega)).mono ?_
  rintro e w' ⟨rfl, hb⟩
  exact ⟨_, by rw [hv_cut, hv_b32, parsed_pz], hb⟩
abbrev zr32 : Array Value := #[.int .u8 0, .int .u8 0, .int .u8 0, .int .u8 0, .int .u8 0, .int .u8 0, .int .u8 0, .int .u8 0, .int .u8 0, .int .u8 0, .int .u8 0, .int .u8 0, .int .u8 0, .int .u8 0, .int .u8 0, .int .u8 0, .int .u8 0, .int .u8 0, .int .u8 0, .int .u8 0, .int .u8 0, .int .u8 0, .int .u8 0, .int .u8 0, .int .u8 0, .int .u8 0, .int .u8 0, .int .u8 0, .int .u8 0, .int .u8 0, .int .u8 0, .int .u8 0]
theorem run_drop5 (b : List UInt8) (h : 5 ≤ b.length) (w : World) : (Go.Proofs.YtkoaojhldcacbaaGreatDoorP.slS (str b) (some (.int .i64 5)) none none).run Tryz.prog w = .ok (str (b.drop 5)) w := by
  have := Go.Proofs.YtkoaojhldcacbaaGreatDoorP.run_slL ⟨b.toArray⟩ 5 (by rw [str_size]; exact h) w
  have e : Value.string ((⟨b.toArray⟩ : ByteArray).extract 5 (⟨b.toArray⟩ : ByteArray).size) = str (b.drop 5) := by rw [← str_data, Go.Proofs.YtkoaojhldcacbaaGreatDoorP.ext_drop]
  rw [e] at this
  exact this
theorem run_stHn (w : World) (f : Nat → UInt8) : (stH (.pointer (some ⟨w.heap.size, 0, none⟩)) (.agg (hv f).toArray)).run Tryz.prog (w.alloc (.cells zr32 71)) = .ok () (w.alloc (.cells (hv f).toArray 71)) := by
  unfold stH
  exact run_storeAt_new w 71 zr32 (hv f).toArray (by rw [List.size_toArray, hv_length]; exact infoH) ((show zr32.size = 32 from rfl).trans (by rw [List.size_toArray, hv_length])) (all_oneCell_toArray (hv_one f))
theorem run_ldHn (w : World) (f : Nat → UInt8) : (ldH (.pointer (some ⟨w.heap.size, 0, none⟩))).run Tryz.prog (w.alloc (.cells (hv f).toArray 71)) = .ok (.agg (hv f).toArray) (w.alloc (.cells (hv f).toArray 71)) := by
  unfold ldH
  exact run_loadAt_mid (P := Tryz.prog) _ w.heap.size 0 71 (hv f) _ (range_of_row (heap_alloc_new w (.cells (hv f).toArray 71))) Tryz.underlying71 rfl (by rw [hv_length]; exact infoH)
theorem run_stHm {w : World} {g o : Nat} (h : w.there g o 32) (f : Nat → UInt8) : (stH (.pointer (some ⟨g, o, none⟩)) (.agg (hv f).toArray)).run Tryz.prog w = .ok () (w.setCells g o (hv f)) := by
  unfold stH
  exact run_storeAt_mid (P := Tryz.prog) w g o 71 (hv f).toArray (by rw [List.size_toArray, hv_length]; exact h) (by rw [List.size_toArray, hv_length]; exact infoH) (all_oneCell_toArray (hv_one f))
theorem there_later {w w' : World} {g o n : Nat} (h : w.there g o n) (hg : g < w.heap.size) (hb : Below w.heap.size w w') : w'.there g o n := fun j hj => by
  have := h j hj
  rw [hb.cell (p := ⟨g, o + j, none⟩) hg]
  refine ⟨this.1, ?_⟩
  have h2 := this.2
  unfold World.frozen? at h2 ⊢
  rw [hb.block g hg]; exact h2
/-- what the document's Read answers -/
def QRdP (b : List UInt8) (w : World) (e : Ending) (w' : World) : Prop :=
  ((∃ (m : Ma) (a : Option Addr) (c : Nat), Beg b m ∧ nzM m = m ∧ e = .returned (.tuple #[.agg #[.int .i64 m.since, .int .i64 m.next, .slice a m.items.length c], .int .i64 ((mtx m).length : Int), .int .i64 0]) ∧ IIt w' a m.items) ∨
   ((∀ m, ¬ Beg b m) ∧ e = .returned (.tuple #[.agg #[.int .i64 0, .int .i64 0, .slice none 0 0], .int .i64 0, .int .i64 90]))) ∧ Below w.heap.size w w'
theorem q_it2 {W : World} {B : Nat} {R : List Ri} {ra : Option Addr} {n rc : Nat} (own : W.ownsRow B 82 37 (.slice ra n rc) R.length (rics R)) (met : ∀ (k : Nat) (r : Ri), R[k]? = some r → Ow B W r.mv r.1.l) : IIt W ra (R.map (·.1)) := by
  refine ⟨fun k x hk => ?_⟩
  rw [List.getElem?_map] at hk
  cases hq : R[k]? with
  | none => rw [hq] at hk; cases hk
  | some r =>
    rw [hq] at hk
    simp at hk
    subst hk
    have hkl := (List.getElem?_eq_some_iff.1 hq).1
    have hsl := (met k r hq).asSl2
    rcases own.2 with ⟨e, h0⟩ | ⟨g, cap', cur, e, hbg, hg, _⟩
    · omega
    · injection e with e1 e2 e3
      subst e1 e2
      refine ⟨g, 0, r.2.1, r.2.2, rfl, lt_of_block hg, fun j v hj => ?_, hsl⟩
      have hj2 : j < 37 := by have := (List.getElem?_eq_some_iff.1 hj).1; rw [ic_length] at this; exact this
      have hl := rics_len R
      rw [Nat.zero_add, own.cellAt _ (by omega), rics_get R k r hq j hj2]
      exact hj
theorem QS.iit {W w : World} {m : Ma} {ra : Option Addr} {n rc : Nat} {R : List Ri} (h : QS W w m (.slice ra n rc) R) : IIt w ra m.items := by rw [← h.it]; exact q_it2 h.own h.met
attribute [-go_sem] Go.Builtin.append_
set_option maxRecDepth 100000 in
set_option maxHeartbeats 8000000 in
theorem qRead_any (b : List UInt8) (w : World) (hbl : b.length ≤ 1048576) : Calls Tryz.prog 42 #[str b] w (QRdP b w) := by
  have HQ0 := Hid.mk (QS.start w)
  obtain ⟨res, hres⟩ : ∃ r, Hid (runQ b (b.length + 6000) 0 ⟨0, 0, []⟩ = r) := ⟨_, ⟨rfl⟩⟩
  have HBL := Hid.mk hbl
  go_enter Tryz.func42, Tryz.ntmps42
  go_wp2_with fail
  generalize (w.alloc (.cells #[.int .i64 0, .int .i64 0, .slice none 0 0] 61)).alloc (.cells #[.int .i64 0, .int .i64 0, .slice none 0 0] 61) = W1 at *
  go_loopw [6, 7, 8, 9, 10, 11, 12, 13] (fun at' _ _ _ _ _ _ _ wr => ∃ (p f : Nat) (m : Ma) (R : List Ri) (ra : Option Addr) (rc : Nat), at' = .int .i64 (p : Int) ∧ p ≤ b.length ∧ Hid (QS w wr m (.slice ra R.length rc) R) ∧ Hid (runQ b f p m = res ∧ b.length < f + p ∧ Sm b p m)) (fun at' _ _ _ _ _ _ _ _ => b.length + 1 - (intOf at').toNat)
  case atStart => exact ⟨0, b.length + 6000, ⟨0, 0, []⟩, [], none, 0, rfl, Nat.zero_le _, HQ0, ⟨hres.out, by omega, ⟨by simp, fun x hx => by simp at hx⟩⟩⟩
  case round =>
    clear HQ0
    obtain ⟨p, f, m, R, ra, rc, rfl, hp, HQ, HR⟩ := hrel
    have hrd := qrd_any b p hp HBL.out wr
    go_wp2_with fail
    with_reducible refine Calls.mono hrd ?_
    rintro e w1 ⟨kl, vl, n, er, rfl, hat, b1⟩
    dsimp only
    replace HQ := Hid.mk (HQ.out.later b1)
    obtain ⟨f', hf'⟩ : ∃ f', Hid (f = f' + 1) := ⟨f - 1, ⟨by have := HR.out.2.1; omega⟩⟩
    clear hrd b1
    rcases rd_link hat hp with ⟨rfl, n', rfl, hf⟩ | ⟨h1, rfl, rfl, rfl, hf⟩
    rotate_left
    · have h2 : (er != 0) = true := by rw [bne, h1]; rfl
      have HNo : Hid (∀ m, ¬ Beg b m) := ⟨fun m' => qno (by rw [hres.out, ← HR.out.1, hf'.out, runQ, hf]) m'⟩
      clear hf hat h1
      have n3 := HQ.out.g0.set3 0 0 (.slice none 0 0)
      have B5 := Hid.mk (below3 HQ.out.bel (Nat.le_refl _) (.int .i64 0) (.int .i64 0) (.slice none 0 0))
      obtain ⟨y0, y1, y2⟩ := HQ.out.g0.cells
      have f0 := HQ.out.g0.fz 0
      have f1 := HQ.out.g0.fz 1
      have f2 := HQ.out.g0.fz 2
      go_wp2_with fail
      generalize ((w1.setCell ⟨w.heap.size, 0, none⟩ (.int .i64 0)).setCell ⟨w.heap.size, 1, none⟩ (.int .i64 0)).setCell ⟨w.heap.size, 2, none⟩ (.slice none 0 0) = W9 at *
      obtain ⟨g0, g1, g2⟩ := n3.cells
      refine bodyPost_ret (v := .tuple #[.agg #[.int .i64 0, .int .i64 0, .slice none 0 0], .int .i64 0, .int .i64 90]) ?_ rfl ⟨.inr ⟨HNo.out, rfl⟩, B5.out⟩
      rw [results_ctt rfl]
      go_simp
    obtain ⟨r1, r2, r3, r4⟩ := rd_small hf
    dsimp only at r1 r2
    have HS : Hid (∀ m', stp m (kl, vl) = some m' → Sm b n' m' ∧ (kl = sEnd → res = some (m', n')) ∧ (kl ≠ sEnd → runQ b f' n' m' = res)) := ⟨fun m' hm => by
      refine ⟨HR.out.2.2.step hf hm, fun he => ?_, fun he => ?_⟩
      · rw [← HR.out.1, hf'.out, runQ, hf]; simp only; rw [hm]; simp only; rw [if_pos he]
      · rw [← HR.out.1, hf'.out, runQ, hf]; simp only; rw [hm]; simp only; rw [if_neg he]⟩
    have HSN : Hid (stp m (kl, vl) = none → res = none) := ⟨fun hm => by rw [← HR.out.1, hf'.out, runQ, hf]; simp only; rw [hm]⟩
    have HN : Hid (p < n' ∧ n' ≤ b.length ∧ b.length < f' + n' ∧ R.length ≤ 257) := ⟨r3, r4, by have := HR.out.2.1; have := hf'.out; omega, by have h := congrArg List.length HQ.out.it; rw [List.length_map] at h; rw [h]; exact HR.out.2.2.n⟩
    have hnum := fun (w : World) => qnumber_any vl (by omega) w
    have HV : Hid (vl.length ≤ 1048576 ∧ kl.length ≤ 1048576 ∧ (∀ x ∈ m.items, x.l.length ≤ 1048576)) := ⟨by omega, by omega, fun x hx => by have := (HR.out.2.2.l x hx).1; omega⟩
    clear hf hat r1 r2 r3 r4 HR
    obtain ⟨N, hN⟩ : ∃ N, R.length = N := ⟨_, rfl⟩
    rw [hN] at HQ HN
    have HNR := Hid.mk hN
    clear hN
    obtain ⟨q0, q1, q2⟩ := HQ.out.g1.cells
    have z0 := HQ.out.g1.fz 0
    have z1 := HQ.out.g1.fz 1
    have z2 := HQ.out.g1.fz 2
    go_upto_block 2 with fail
    go_cut [12, 13] from 32 to 157 (fun _ _ wx => ∃ (m' : Ma) (R' : List Ri) (ra' : Option Addr) (rc' : Nat), Hid (stp m (kl, vl) = some m') ∧ Hid (QS w wx m' (.slice ra' R'.length rc') R'))
    case first =>
      by_cases h0 : kl = sNext
      · have d0 : (kl == [110, 101, 120, 116]) = true := by rw [h0]; rfl
        have HST : Hid (stp m (kl, vl) = some { m with next := (nq vl 0 : Nat) }) := ⟨by unfold stp; rw [if_pos h0]⟩
        have HQ2 := Hid.mk (HQ.out.next ((nq vl 0 : Nat) : Int))
        clear h0 HS HSN
        generalize nq vl 0 = nv at *
        go_wp2_with fail
        with_reducible refine Calls.mono (hnum _) ?_
        rintro e w2 ⟨rfl, rfl⟩
        go_wp2_with fail
        go_meet
        case rel => exact ⟨_, R, ra, rc, HST, ⟨by rw [HNR.out]; exact HQ2.out⟩⟩
      have d0 : (kl == [110, 101, 120, 116]) = false := beq_eq_false_iff_ne.2 h0
      by_cases h1 : kl = sSince
      · have d1 : (kl == [115, 105, 110, 99, 101]) = true := by rw [h1]; rfl
        have HST : Hid (stp m (kl, vl) = some { m with since := (nq vl 0 : Nat) }) := ⟨by unfold stp; rw [if_neg h0]; rw [if_pos h1]⟩
        have HQ2 := Hid.mk (HQ.out.since ((nq vl 0 : Nat) : Int))
        clear h1 HS HSN
        generalize nq vl 0 = nv at *
        go_wp2_with fail
        with_reducible refine Calls.mono (hnum _) ?_
        rintro e w2 ⟨rfl, rfl⟩
        go_wp2_with fail
        go_meet
        case rel => exact ⟨_, R, ra, rc, HST, ⟨by rw [HNR.out]; exact HQ2.out⟩⟩
      have d1 : (kl == [115, 105, 110, 99, 101]) = false := beq_eq_false_iff_ne.2 h1
      by_cases h2 : kl = sKey
      · have d2 : (kl == [107, 101, 121]) = true := by rw [h2]; rfl
        by_cases h9 : 256 < N
        · have d9 : decide ((256 : Int) < (N : Int)) = true := decide_eq_true (by omega)
          have d9n : decide (256 < N) = true := decide_eq_true h9
          have HNo : Hid (∀ m, ¬ Beg b m) := ⟨qno (by rw [hres.out]; exact HSN.out (by
            have hl := congrArg List.length HQ.out.it
            rw [List.length_map] at hl
            unfold stp; rw [if_neg h0, if_neg h1, if_pos h2, if_pos (by rw [← hl, HNR.out]; exact h9)]))⟩
          clear h2 h9 HS HSN
          have n3 := HQ.out.g0.set3 0 0 (.slice none 0 0)
          have B5 := Hid.mk (below3 HQ.out.bel (Nat.le_refl _) (.int .i64 0) (.int .i64 0) (.slice none 0 0))
          obtain ⟨y0, y1, y2⟩ := HQ.out.g0.cells
          have f0 := HQ.out.g0.fz 0
          have f1 := HQ.out.g0.fz 1
          have f2 := HQ.out.g0.fz 2
          go_wp2_with fail
          generalize ((w1.setCell ⟨w.heap.size, 0, none⟩ (.int .i64 0)).setCell ⟨w.heap.size, 1, none⟩ (.int .i64 0)).setCell ⟨w.heap.size, 2, none⟩ (.slice none 0 0) = W9 at *
          obtain ⟨g0, g1, g2⟩ := n3.cells
          refine bodyPost_ret (v := .tuple #[.agg #[.int .i64 0, .int .i64 0, .slice none 0 0], .int .i64 0, .int .i64 90]) ?_ rfl ⟨.inr ⟨HNo.out, rfl⟩, B5.out⟩
          rw [results_ctt rfl]
          go_simp
        · have d9 : decide ((256 : Int) < (N : Int)) = false := decide_eq_false (by omega)
          have d9n : decide (256 < N) = false := decide_eq_false h9
          have HST : Hid (stp m (kl, vl) = some { m with items := m.items ++ [⟨vl, 0, false, 0, [], zg⟩] }) := ⟨by
            have hl := congrArg List.length HQ.out.it
            rw [List.length_map] at hl
            unfold stp; rw [if_neg h0, if_neg h1, if_pos h2, if_neg (by rw [← hl, HNR.out]; exact h9)]⟩
          obtain ⟨g', c', w6, hr, hg2, hQ2⟩ := HQ.out.more ⟨vl, 0, false, 0, [], zg⟩ rfl (by rw [HNR.out]; have := HN.out.2.2.2; omega)
          have HQ2 := Hid.mk hQ2
          have hbz := run_bdZ vl
          obtain ⟨y0, y1, y2⟩ := hg2.cells
          have y3 := hg2.fz 2
          clear h2 h9 HS HSN hQ2 hg2 hnum
          go_wp2_with (refine app_run rfl _ _ rfl rfl rfl (hr _) ?_)
          go_meet
          case rel => exact ⟨_, R ++ [(⟨vl, 0, false, 0, [], zg⟩, none, 0)], some ⟨g', 0, none⟩, c', HST, ⟨by rw [List.length_append]; exact HQ2.out⟩⟩
      have d2 : (kl == [107, 101, 121]) = false := beq_eq_false_iff_ne.2 h2
      rcases List.eq_nil_or_concat R with rfl | ⟨R0, ⟨x, a, c⟩, rfl⟩
      · have HST : Hid (stp m (kl, vl) = some m) := ⟨by
          have hl := HQ.out.it
          unfold stp; rw [if_neg h0, if_neg h1, if_neg h2, if_pos (show m.items = [] from hl.symm)]⟩
        have hN0 : N = 0 := HNR.out.symm
        have dn : decide ((0 : Int) < (N : Int)) = false := decide_eq_false (by omega)
        have dnn : decide (0 < N) = false := decide_eq_false (by omega)
        clear HS HSN hnum hN0
        go_wp2_with fail
        go_meet
        case rel => exact ⟨m, [], ra, rc, HST, ⟨by rw [HNR.out]; exact HQ.out⟩⟩
      rw [List.concat_eq_append] at *
      have hit : m.items = R0.map (·.1) ++ [x] := by rw [← HQ.out.it]; simp
      have hine : ¬ m.items = [] := by rw [hit]; simp
      have HST0 : Hid (∀ g : It → It, mL m.items g = R0.map (·.1) ++ [g x]) := ⟨fun g => by rw [hit, mL_snoc]⟩
      obtain ⟨g, rfl, hg, hfz, c1, c2, c3, c4, hth⟩ := HQ.out.place
      have HXL : Hid (x.l.length ≤ 1048576) := ⟨HV.out.2.2 x (by rw [hit]; simp)⟩
      have HNN : Hid (N = R0.length + 1) := ⟨by rw [← HNR.out]; simp⟩
      obtain ⟨l1, hl1⟩ : ∃ l, l = R0.length := ⟨_, rfl⟩
      have HL1 := Hid.mk hl1
      rw [← hl1] at c1 c2 c3 c4 hth
      have ev : (N : Int) - 1 = (l1 : Int) := by have := HNN.out; omega
      have ew : IntKind.i64.wrap (l1 : Int) = (l1 : Int) := by rw [IntKind.wrap_i64]; have := HN.out.2.2.2; have := HNN.out; omega
      have i0 : (0 : Int) ≤ (l1 : Int) := Int.natCast_nonneg _
      have i1 : (l1 : Int) < (N : Int) := by have := HNN.out; omega
      have dn : decide ((0 : Int) < (N : Int)) = true := decide_eq_true (by have := HNN.out; omega)
      have dnn : decide (0 < N) = true := decide_eq_true (by have := HNN.out; omega)
      have HXX : Hid (∀ R' : List Ri, (R0 ++ R').length = R0.length + R'.length) := ⟨fun R' => List.length_append⟩
      clear hit hl1
      by_cases h3 : kl = sSeq
      · have d3 : (kl == [115, 101, 113]) = true := by rw [h3]; rfl
        have HST : Hid (stp m (kl, vl) = some { m with items := R0.map (·.1) ++ [{ x with seq := ((nq vl 0 : Nat) : Int) }] }) := ⟨by unfold stp; rw [if_neg h0, if_neg h1, if_neg h2, if_neg hine]; rw [if_pos h3]; simp only [HST0.out]⟩
        have HQ2 : Hid (QS w (w1.setCell ⟨g, l1 * 37 + 1, none⟩ (.int .i64 ((nq vl 0 : Nat) : Int))) { m with items := R0.map (·.1) ++ [{ x with seq := ((nq vl 0 : Nat) : Int) }] } (.slice (some ⟨g, 0, none⟩) N rc) (R0 ++ [({ x with seq := ((nq vl 0 : Nat) : Int) }, a, c)])) := ⟨by
          rw [HL1.out]
          exact HQ.out.cell (r := (x, a, c)) (r' := ({ x with seq := ((nq vl 0 : Nat) : Int) }, a, c)) 1 _ (by omega) HNN.out (by simp [ri, ic]) rfl rfl⟩
        have HLN : Hid ((R0 ++ [(({ x with seq := ((nq vl 0 : Nat) : Int) } : It), a, c)]).length = N) := ⟨by rw [HXX.out, HNN.out]; rfl⟩
        have fz := hfz (l1 * 37 + 1)
        clear h3 HS HSN hfz HST0 hine
        
        generalize nq vl 0 = nv at *
        go_wp2_with fail
        go_region_with (go_at_call 78; with_reducible refine Calls.mono (hnum _) ?_; rintro e w2 ⟨rfl, rfl⟩)
        all_goals (go_wp2_with fail)
        all_goals go_meet
        all_goals exact ⟨_, _, _, rc, HST, ⟨by rw [HLN.out]; first | exact HQ2.out | exact HQ2.out.later (Below.refl _ _).drew⟩⟩
      have d3 : (kl == [115, 101, 113]) = false := beq_eq_false_iff_ne.2 h3
      by_cases h4 : kl = sType
      · have d4 : (kl == [116, 121, 112, 101]) = true := by rw [h4]; rfl
        have HST : Hid (stp m (kl, vl) = some { m with items := R0.map (·.1) ++ [{ x with mkr := (vl == sMarker) }] }) := ⟨by unfold stp; rw [if_neg h0, if_neg h1, if_neg h2, if_neg hine, if_neg h3]; rw [if_pos h4]; simp only [HST0.out]⟩
        have HQ2 : Hid (QS w (w1.setCell ⟨g, l1 * 37 + 2, none⟩ (.bool (vl == sMarker))) { m with items := R0.map (·.1) ++ [{ x with mkr := (vl == sMarker) }] } (.slice (some ⟨g, 0, none⟩) N rc) (R0 ++ [({ x with mkr := (vl == sMarker) }, a, c)])) := ⟨by
          rw [HL1.out]
          exact HQ.out.cell (r := (x, a, c)) (r' := ({ x with mkr := (vl == sMarker) }, a, c)) 2 _ (by omega) HNN.out (by simp [ri, ic]) rfl rfl⟩
        have HLN : Hid ((R0 ++ [(({ x with mkr := (vl == sMarker) } : It), a, c)]).length = N) := ⟨by rw [HXX.out, HNN.out]; rfl⟩
        have fz := hfz (l1 * 37 + 2)
        clear h4 HS HSN hfz HST0 hine
        
        have dm : (vl == [109, 97, 114, 107, 101, 114]) = (vl == sMarker) := rfl
        generalize (vl == sMarker) = tv at *
        go_wp2_with fail
        go_meet
        case rel => exact ⟨_, _, _, rc, HST, ⟨by rw [HLN.out]; exact HQ2.out⟩⟩
      have d4 : (kl == [116, 121, 112, 101]) = false := beq_eq_false_iff_ne.2 h4
      by_cases h5 : kl = sSize
      · have d5 : (kl == [115, 105, 122, 101]) = true := by rw [h5]; rfl
        have HST : Hid (stp m (kl, vl) = some { m with items := R0.map (·.1) ++ [{ x with size := ((nq vl 0 : Nat) : Int) }] }) := ⟨by unfold stp; rw [if_neg h0, if_neg h1, if_neg h2, if_neg hine, if_neg h3, if_neg h4]; rw [if_pos h5]; simp only [HST0.out]⟩
        have HQ2 : Hid (QS w (w1.setCell ⟨g, l1 * 37 + 3, none⟩ (.int .i64 ((nq vl 0 : Nat) : Int))) { m with items := R0.map (·.1) ++ [{ x with size := ((nq vl 0 : Nat) : Int) }] } (.slice (some ⟨g, 0, none⟩) N rc) (R0 ++ [({ x with size := ((nq vl 0 : Nat) : Int) }, a, c)])) := ⟨by
          rw [HL1.out]
          exact HQ.out.cell (r := (x, a, c)) (r' := ({ x with size := ((nq vl 0 : Nat) : Int) }, a, c)) 3 _ (by omega) HNN.out (by simp [ri, ic]) rfl rfl⟩
        have HLN : Hid ((R0 ++ [(({ x with size := ((nq vl 0 : Nat) : Int) } : It), a, c)]).length = N) := ⟨by rw [HXX.out, HNN.out]; rfl⟩
        have fz := hfz (l1 * 37 + 3)
        clear h5 HS HSN hfz HST0 hine
        
        generalize nq vl 0 = nv at *
        go_wp2_with fail
        go_region_with (go_at_call 78; with_reducible refine Calls.mono (hnum _) ?_; rintro e w2 ⟨rfl, rfl⟩)
        all_goals (go_wp2_with fail)
        all_goals go_meet
        all_goals exact ⟨_, _, _, rc, HST, ⟨by rw [HLN.out]; first | exact HQ2.out | exact HQ2.out.later (Below.refl _ _).drew⟩⟩
      have d5 : (kl == [115, 105, 122, 101]) = false := beq_eq_false_iff_ne.2 h5
      by_cases h6 : kl = sLeaf
      · have d6 : (kl == [108, 101, 97, 102]) = true := by rw [h6]; rfl
        have hps := qparse_any vl HV.out.1 w1
        have HST : Hid (stp m (kl, vl) = some { m with items := R0.map (·.1) ++ [{ x with g := cut32 (pz vl) }] }) := ⟨by unfold stp; rw [if_neg h0, if_neg h1, if_neg h2, if_neg hine, if_neg h3, if_neg h4, if_neg h5]; rw [if_pos h6]; simp only [HST0.out]⟩
        generalize cut32 (pz vl) = fg at *
        clear h6 HS HSN hfz HST0 hine hnum q0 q1 q2 z0 z1 z2
        go_wp2_with fail
        with_reducible refine Calls.mono hps ?_
        rintro e w2 ⟨t, rfl, b2⟩
        have bb := below_seq b2 ((Below.refl w2.heap.size w2).alloc (Nat.le_refl _) (.cells (hv fg).toArray 71))
        have s1 := run_stHn w2 fg
        have s2 := run_ldHn w2 fg
        have s3 := run_stHm (there_later hth hg bb) fg
        have hQ3 := HQ.out.later bb
        obtain ⟨q0, q1, q2⟩ := hQ3.g1.cells
        have HQ2 : Hid (QS w ((w2.alloc (.cells (hv fg).toArray 71)).setCells g (l1 * 37 + 5) (hv fg)) { m with items := R0.map (·.1) ++ [{ x with g := fg }] } (.slice (some ⟨g, 0, none⟩) N rc) (R0 ++ [({ x with g := fg }, a, c)])) := ⟨by
          rw [HL1.out]
          exact hQ3.hash HNN.out fg⟩
        have HLN : Hid ((R0 ++ [(({ x with g := fg } : It), a, c)]).length = N) := ⟨by rw [HXX.out, HNN.out]; rfl⟩
        clear hps b2 bb hth hQ3
        dsimp only
        go_wp2_with fail
        go_meet
        case rel => exact ⟨_, _, _, rc, HST, ⟨by rw [HLN.out]; exact HQ2.out⟩⟩
      have d6 : (kl == [108, 101, 97, 102]) = false := beq_eq_false_iff_ne.2 h6
      have hs5 : ∀ w, 5 ≤ kl.length → (Go.Proofs.YtkoaojhldcacbaaGreatDoorP.slS (str kl) none (some (.int .i64 5)) none).run Tryz.prog w = .ok (str (kl.take 5)) w := fun w h => run_take kl 5 h w
      by_cases h7 : 5 < kl.length
      rotate_left
      · have d7 : decide ((5 : Int) < (kl.length : Int)) = false := decide_eq_false (by omega)
        have d7n : decide (5 < kl.length) = false := decide_eq_false h7
        have HST : Hid (stp m (kl, vl) = some m) := ⟨by unfold stp; rw [if_neg h0, if_neg h1, if_neg h2, if_neg hine, if_neg h3, if_neg h4, if_neg h5, if_neg h6]; rw [if_neg (fun q => h7 q.1)]⟩
        clear HS HSN hnum h7 hs5 hfz
        go_wp2_with fail
        go_meet
        case rel => exact ⟨m, R0 ++ [(x, a, c)], some ⟨g, 0, none⟩, rc, HST, ⟨by rw [HXX.out, show R0.length + [(x, a, c)].length = N from HNN.out.symm]; exact HQ.out⟩⟩
      have d7 : decide ((5 : Int) < (kl.length : Int)) = true := decide_eq_true (by omega)
      have d7n : decide (5 < kl.length) = true := decide_eq_true h7
      replace hs5 := fun w => hs5 w (by omega)
      by_cases h8 : kl.take 5 = sMeta
      rotate_left
      · have d8 : (kl.take 5 == [109, 101, 116, 97, 46]) = false := beq_eq_false_iff_ne.2 h8
        have HST : Hid (stp m (kl, vl) = some m) := ⟨by unfold stp; rw [if_neg h0, if_neg h1, if_neg h2, if_neg hine, if_neg h3, if_neg h4, if_neg h5, if_neg h6]; rw [if_neg (fun q => h8 q.2)]⟩
        clear HS HSN hnum h8 hfz h7
        generalize kl.take 5 = k5 at *
        go_wp2_with fail
        go_meet
        case rel => exact ⟨m, R0 ++ [(x, a, c)], some ⟨g, 0, none⟩, rc, HST, ⟨by rw [HXX.out, show R0.length + [(x, a, c)].length = N from HNN.out.symm]; exact HQ.out⟩⟩
      have d8 : (kl.take 5 == [109, 101, 116, 97, 46]) = true := by rw [h8]; rfl
      have HST : Hid (stp m (kl, vl) = some { m with items := R0.map (·.1) ++ [{ x with l := x.l ++ [⟨kl.drop 5, vl⟩] }] }) := ⟨by unfold stp; rw [if_neg h0, if_neg h1, if_neg h2, if_neg hine, if_neg h3, if_neg h4, if_neg h5, if_neg h6]; rw [if_pos ⟨h7, h8⟩]; simp only [HST0.out]⟩
      have hd5 : ∀ w, (Go.Proofs.YtkoaojhldcacbaaGreatDoorP.slS (str kl) (some (.int .i64 5)) none none).run Tryz.prog w = .ok (str (kl.drop 5)) w := fun w => run_drop5 kl (by omega) w
      obtain ⟨ia, ic1, w6, hr, ⟨fz6, c6, g6⟩, hQ2⟩ := HQ.out.pair HNN.out (by have := HXL.out; omega) ⟨kl.drop 5, vl⟩ (Below.refl _ _).drew
      rw [← HL1.out] at fz6 c6 hQ2
      have HQ2 := Hid.mk hQ2
      have HLN : Hid ((R0 ++ [(({ x with l := x.l ++ [⟨kl.drop 5, vl⟩] } : It), ia, ic1)]).length = N) := ⟨by rw [HXX.out, HNN.out]; rfl⟩
      generalize kl.take 5 = k5 at *
      generalize kl.drop 5 = kd at *
      have bP : Below w1.heap.size w1 ((w1.alloc (.cells #[str kd, str vl] 50)).drew) := ((Below.refl _ _).alloc (Nat.le_refl _) _).drew
      have qP := ((HQ.out.later bP).g1.cells).2.2
      have cP := (bP.cell (p := ⟨g, l1 * 37 + 4, none⟩) hg).trans c4
      have q6 := g6.cells.2.2
      have hr' : ∀ ty, (Builtin.append_ #[31, 31] ty #[.slice a x.l.length c, .slice (some ⟨w1.heap.size, 0, none⟩) 1 1]).run Tryz.prog ((w1.alloc (.cells #[str kd, str vl] 50)).drew) = .ok (.slice ia (x.l.length + 1) ic1) w6 := hr
      clear HS HSN hnum h8 hfz h7 hQ2 hth c1 c2 c3 z0 z1 z2 q0 q1 bP hr g6
      generalize x.l.length = xl at *
      go_wp2_with fail
      go_region
      all_goals (go_wp2_with fail)
      all_goals go_meet
      all_goals exact ⟨_, _, _, rc, HST, ⟨by rw [HLN.out]; exact HQ2.out⟩⟩
    case rest =>
      obtain ⟨m', R', ra', rc', HST, HQ'⟩ := hcut
      clear q0 q1 q2 z0 z1 z2 hnum
      obtain ⟨h1, h2, h3⟩ := HS.out m' HST.out
      have HSm := Hid.mk h1
      by_cases he : kl = sEnd
      · have d1 : (kl == [101, 110, 100]) = true := by rw [he]; rfl
        have HRS : Hid (runQ b (b.length + 6000) 0 ⟨0, 0, []⟩ = some (m', n')) := ⟨hres.out.trans (h2 he)⟩
        clear h1 h2 h3 he
        obtain ⟨q0, q1, q2⟩ := HQ'.out.g1.cells
        have hRl : R'.length = m'.items.length := by rw [← HQ'.out.it, List.length_map]
        have hw := qWriteM_any m' wc ra' rc' HQ'.out.iit (fun x hx => by have := (HSm.out.l x hx).1; have := HN.out.2.1; have := HBL.out; omega) (fun x hx k e he => by
          have := (HSm.out.l x hx).2 e (List.mem_of_getElem? he)
          have := HBL.out
          omega) (by have := HSm.out.n; omega)
        rw [← hRl] at hw
        have HRl := Hid.mk hRl
        clear hRl
        go_wp2_with fail
        with_reducible refine Calls.mono hw ?_
        rintro e w2 ⟨hwp, b2⟩
        replace HQ' := Hid.mk (HQ'.out.later b2)
        clear hw b2 q0 q1 q2
        obtain ⟨q0, q1, q2⟩ := HQ'.out.g1.cells
        have hn9 := HN.out.2.1
        have rt := run_take b n' hn9
        rcases hwp with ⟨hRt, rfl⟩ | ⟨hnR, rfl⟩
        · dsimp only
          by_cases hq : mtx m' = b.take n'
          · obtain ⟨s1, s2, s3⟩ := qbeg HRS.out hRt hq
            have d3 : (mtx m' == b.take n') = true := by rw [hq]; simp
            have d2 : (mtx m' != b.take n') = false := by rw [bne, d3]; rfl
            have HFin := Hid.mk (And.intro s1 (And.intro s2 s3))
            clear s1 s2 s3 hq hRt
            obtain ⟨tx, htx⟩ : ∃ tx, tx = mtx m' := ⟨_, rfl⟩
            rw [← htx] at d3 d2 ⊢
            clear htx
            generalize b.take n' = tb at *
            have n3 := HQ'.out.g0.set3 m'.since m'.next (.slice ra' R'.length rc')
            have B9 := Hid.mk (below3 HQ'.out.bel (Nat.le_refl _) (.int .i64 m'.since) (.int .i64 m'.next) (.slice ra' R'.length rc'))
            have I9 : Hid (IIt (((w2.setCell ⟨w.heap.size, 0, none⟩ (.int .i64 m'.since)).setCell ⟨w.heap.size, 1, none⟩ (.int .i64 m'.next)).setCell ⟨w.heap.size, 2, none⟩ (.slice ra' R'.length rc')) ra' m'.items) := ⟨by
              have hk : ∀ k, w.heap.size + 2 ≤ k → (((w2.setCell ⟨w.heap.size, 0, none⟩ (.int .i64 m'.since)).setCell ⟨w.heap.size, 1, none⟩ (.int .i64 m'.next)).setCell ⟨w.heap.size, 2, none⟩ (.slice ra' R'.length rc')).heap[k]? = w2.heap[k]? := fun k hk => by rw [hso _ _ (by omega), hso _ _ (by omega), hso _ _ (by omega)]
              rw [← HQ'.out.it]
              exact q_it2 (own_keep HQ'.out.own (fun g hg => hk g (HQ'.out.own.lt g hg).1)) (fun k r hr => (HQ'.out.met k r hr).stay (by simp) (fun g hg => hk g ((HQ'.out.met k r hr).own.lt g hg).1))⟩
            obtain ⟨y0, y1, y2⟩ := HQ'.out.g0.cells
            have f0 := HQ'.out.g0.fz 0
            have f1 := HQ'.out.g0.fz 1
            have f2 := HQ'.out.g0.fz 2
            go_wp2_with fail
            generalize ((w2.setCell ⟨w.heap.size, 0, none⟩ (.int .i64 m'.since)).setCell ⟨w.heap.size, 1, none⟩ (.int .i64 m'.next)).setCell ⟨w.heap.size, 2, none⟩ (.slice ra' R'.length rc') = W9 at *
            obtain ⟨g0, g1, g2⟩ := n3.cells
            refine bodyPost_ret (v := .tuple #[.agg #[.int .i64 m'.since, .int .i64 m'.next, .slice ra' R'.length rc'], .int .i64 (n' : Int), .int .i64 0]) ?_ rfl ⟨.inl ⟨m', ra', rc', HFin.out.1, HFin.out.2.1, by rw [← HFin.out.2.2, HRl.out], I9.out⟩, B9.out⟩
            rw [results_ctt rfl]
            go_simp
          · have d3 : (mtx m' == b.take n') = false := beq_eq_false_iff_ne.2 hq
            have d2 : (mtx m' != b.take n') = true := by rw [bne, d3]; rfl
            have HNo : Hid (∀ m, ¬ Beg b m) := ⟨qno2 HRS.out (fun q => hq q.2)⟩
            clear hq hRt
            generalize mtx m' = tx at *
            generalize b.take n' = tb at *
            have n3 := HQ'.out.g0.set3 0 0 (.slice none 0 0)
            have B5 := Hid.mk (below3 HQ'.out.bel (Nat.le_refl _) (.int .i64 0) (.int .i64 0) (.slice none 0 0))
            obtain ⟨y0, y1, y2⟩ := HQ'.out.g0.cells
            have f0 := HQ'.out.g0.fz 0
            have f1 := HQ'.out.g0.fz 1
            have f2 := HQ'.out.g0.fz 2
            go_wp2_with fail
            generalize ((w2.setCell ⟨w.heap.size, 0, none⟩ (.int .i64 0)).setCell ⟨w.heap.size, 1, none⟩ (.int .i64 0)).setCell ⟨w.heap.size, 2, none⟩ (.slice none 0 0) = W9 at *
            obtain ⟨g0, g1, g2⟩ := n3.cells
            refine bodyPost_ret (v := .tuple #[.agg #[.int .i64 0, .int .i64 0, .slice none 0 0], .int .i64 0, .int .i64 90]) ?_ rfl ⟨.inr ⟨HNo.out, rfl⟩, B5.out⟩
            rw [results_ctt rfl]
            go_simp
        · dsimp only
          have HNo : Hid (∀ m, ¬ Beg b m) := ⟨qno2 HRS.out (fun q => hnR q.1)⟩
          clear hnR
          have n3 := HQ'.out.g0.set3 0 0 (.slice none 0 0)
          have B5 := Hid.mk (below3 HQ'.out.bel (Nat.le_refl _) (.int .i64 0) (.int .i64 0) (.slice none 0 0))
          obtain ⟨y0, y1, y2⟩ := HQ'.out.g0.cells
          have f0 := HQ'.out.g0.fz 0
          have f1 := HQ'.out.g0.fz 1
          have f2 := HQ'.out.g0.fz 2
          go_wp2_with fail
          generalize ((w2.setCell ⟨w.heap.size, 0, none⟩ (.int .i64 0)).setCell ⟨w.heap.size, 1, none⟩ (.int .i64 0)).setCell ⟨w.heap.size, 2, none⟩ (.slice none 0 0) = W9 at *
          obtain ⟨g0, g1, g2⟩ := n3.cells
          refine bodyPost_ret (v := .tuple #[.agg #[.int .i64 0, .int .i64 0, .slice none 0 0], .int .i64 0, .int .i64 90]) ?_ rfl ⟨.inr ⟨HNo.out, rfl⟩, B5.out⟩
          rw [results_ctt rfl]
          go_simp
      · have d1 : (kl == [101, 110, 100]) = false := beq_eq_false_iff_ne.2 he
        have HRS : Hid (runQ b f' n' m' = res) := ⟨h3 he⟩
        clear h1 h2 h3 he
        go_wp2_with fail
        exact ⟨⟨n', f', m', R', ra', rc', rfl, HN.out.2.1, HQ', ⟨HRS.out, HN.out.2.2.1, HSm.out⟩⟩, by have h5 := HN.out.1; have h6 := HN.out.2.1; simp only [intOf, Int.toNat_natCast]; omega⟩
end Go.Proofs.YtkoaojhldcacbaaGreatDoor
