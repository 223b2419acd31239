/- Layer 22: ScriptLines' walk. -/
import Derived.Test.YtiifkcnpdihlmaaDoorZm
namespace Go.Proofs.YtiifkcnpdihlmaaDoor
set_option maxRecDepth 100000
set_option linter.unusedVariables false
set_option linter.unusedSimpArgs false
open Go.RowKit
attribute [local go_sem ↓] Go.wp_at_zero Go.wp_at_succ sl9 ix9 ad9
attribute [-go_sem] Go.Builtin.append_
theorem flat_len (ls : List By) : ls.length ≤ (flat ls).length := by
  unfold flat
  induction ls with
  | nil => simp
  | cons l ls ih => rw [List.flatMap_cons, List.length_append, List.length_append, List.length_cons, show ([10] : By).length = 1 from rfl]; omega
theorem Lw.len {t rk : By} {i f : Nat} {x : By} {ls : List By} (h : Lw t rk i f x ls) (ht : t.length ≤ 25001) (hr : rk.length ≤ 20) : x.length ≤ 1000000 := by
  have h1 := rem_len rk ls
  have h2 := flat_len ls
  have h3 := congrArg List.length h.cut
  rw [List.length_take] at h3
  rw [← h.x] at h1
  have h4 : ls.length * (3 + rk.length) ≤ 25001 * 23 := Nat.mul_le_mul (by omega) (by omega)
  omega
theorem cut_next {t : By} {i f : Nat} (hf : f ≤ i) (hi : i < t.length) (hc : t[i]'hi = 10) : (t.drop f).take (i + 1 - f) = (t.drop f).take (i - f) ++ [10] := by
  have e : i + 1 - f = (i - f) + 1 := by omega
  rw [e, List.take_add_one]
  have e2 : (t.drop f)[i - f]? = some (t[i]'hi) := by rw [List.getElem?_drop, show f + (i - f) = i by omega, List.getElem?_eq_getElem hi]
  rw [e2, hc]; rfl
set_option maxHeartbeats 4000000 in
theorem lines_walk (one two rk : By) (h1 : one.length ≤ 140737488351232) (h2 : two.length ≤ 140737488351232) (h3 : rk.length ≤ 140737488351232) (w : World) (hS : SG w) (hT : TB w) (hE : EG w) :
    Calls Tryd.prog 6 #[str one, str two, str rk] w fun e w' => e = .returned (.bool true) ∧ Below w.heap.size w w' := by
  go_enter Tryd.func6, Tryd.ntmps6
  go_wp2_with fail
  refine Calls.mono (first_any w hS hT hE) ?_
  rintro e w1 ⟨rfl, b1⟩
  have hS1 := hS.below b1
  have hT1 := hT.below b1
  have hE1 := hE.below b1
  clear hS hT hE
  dsimp only
  go_wp2_with fail
  refine Calls.mono (few_any one h1 w1) ?_
  rintro e w2 ⟨⟨f1, rfl, hf1⟩, b2⟩
  have hS2 := hS1.below b2
  have hT2 := hT1.below b2
  have hE2 := hE1.below b2
  have B2 := below_seq b1 b2
  clear hS1 hT1 hE1 b1 b2
  dsimp only
  cases f1 with
  | false =>
    go_wp2_with fail
    go_ret
    exact ⟨rfl, B2⟩
  | true =>
  have F1 := Hid.mk (hf1 rfl)
  clear hf1
  go_wp2_with fail
  refine Calls.mono (few_any two h2 w2) ?_
  rintro e w3 ⟨⟨f2, rfl, hf2⟩, b3⟩
  have hS3 := hS2.below b3
  have hT3 := hT2.below b3
  have hE3 := hE2.below b3
  have B3 := below_seq B2 b3
  clear hS2 hT2 hE2 B2 b3
  dsimp only
  cases f2 with
  | false =>
    go_wp2_with fail
    go_ret
    exact ⟨rfl, B3⟩
  | true =>
  have F2 := Hid.mk (hf2 rfl)
  clear hf2
  by_cases hrk : 20 < rk.length
  · have d1 : decide ((20 : Int) < (rk.length : Int)) = true := decide_eq_true (by omega)
    go_wp2_with fail
    go_ret
    exact ⟨rfl, B3⟩
  have d1 : decide ((20 : Int) < (rk.length : Int)) = false := decide_eq_false (by omega)
  go_wp2_with fail
  clear d1
  go_loopw [7] (fun i wr => ∃ k : Nat, i = .int .i64 k ∧ k ≤ rk.length ∧ Hid ((10 : UInt8) ∉ rk.take k) ∧ Hid (Below w3.heap.size w3 wr)) (fun i _ => rk.length - (intOf i).toNat)
  case atStart => exact ⟨0, rfl, Nat.zero_le _, ⟨by simp⟩, ⟨Below.refl _ _⟩⟩
  case round =>
    obtain ⟨k, rfl, hk, HN, HB⟩ := hrel
    by_cases hlt : k < rk.length
    · have d1 : decide ((k : Int) < (rk.length : Int)) = true := decide_eq_true (by omega)
      have hix := run_ix rk k hlt
      have hgk := get_at hlt
      generalize rk.getD k 0 = c at *
      by_cases hc : c = 10
      · subst hc
        have e1 : (((10 : UInt8).toNat : Int) == 10) = true := rfl
        clear hgk
        go_wp2_with fail
        go_ret
        exact ⟨rfl, below_seq B3 HB.out⟩
      · have e1 : ((c.toNat : Int) == 10) = false := u8ne (n := 10) (by decide) hc
        have HN2 : Hid ((10 : UInt8) ∉ rk.take (k + 1)) := ⟨by
          rw [List.take_add_one, List.getElem?_eq_getElem hlt, ← hgk]
          intro q
          rcases List.mem_append.1 q with q | q
          · exact HN.out q
          · simp at q; exact hc q.symm⟩
        clear hgk
        go_wp2_with fail
        refine ⟨⟨k + 1, rfl, hlt, HN2, HB⟩, ?_⟩
        show rk.length - ((k : Int) + 1).toNat < rk.length - ((k : Int)).toNat
        omega
    have d1 : decide ((k : Int) < (rk.length : Int)) = false := decide_eq_false (by omega)
    have d2 : decide (k < rk.length) = false := decide_eq_false hlt
    have hke : k = rk.length := Nat.le_antisymm hk (Nat.le_of_not_lt hlt)
    have HR : Hid ((10 : UInt8) ∉ rk) := ⟨by have := HN.out; rw [hke, List.take_length] at this; exact this⟩
    have hS4 := hS3.below HB.out
    have hT4 := hT3.below HB.out
    have hE4 := hE3.below HB.out
    have B4 := below_seq B3 HB.out
    clear hke HN hS3 hT3 hE3 B3 HB hlt hk
    obtain ⟨q1, q2, q3, q4⟩ := F1.out.ends
    have hl1 := F1.out.len
    have hl2 := F2.out.len
    have hle := enl_len one
    have hpa := parse_e (x := one) rfl rfl (by omega) _ hS4 hT4 hE4
    generalize hEE : prsE one = E at *
    go_wp2_with fail
    with_reducible refine Calls.mono hpa ?_
    rintro e w5 ⟨va, vc, R, rfl, hF, hR, b5⟩
    have hS5 := hS4.below b5
    have hT5 := hT4.below b5
    have hE5 := hE4.below b5
    have B5 := below_seq B4 b5
    clear hpa hS4 hT4 hE4 B4 b5 d1 d2
    dsimp only
    go_wp2_with fail
    refine Calls.mono (ended_any one h1 w5) ?_
    rintro e w6 ⟨rfl, b6⟩
    have hS6 := hS5.below b6
    have hT6 := hT5.below b6
    have hE6 := hE5.below b6
    have B6 := below_seq B5 b6
    have hF6 := hF.later b6
    have hpb := parse_e q1 q2 (by omega) w6 hS6 hT6 hE6
    clear hS5 hT5 hE5 B5 b6 hF
    dsimp only
    go_wp2_with fail
    with_reducible refine Calls.mono hpb ?_
    rintro e w7 ⟨vb, vd, Rb, rfl, hFb, hRb, b7⟩
    have hS7 := hS6.below b7
    have hT7 := hT6.below b7
    have hE7 := hE6.below b7
    have B7 := below_seq B6 b7
    have hF7 := hF6.later b7
    have tl := told_fc hF7 hR
    clear hpb hS6 hT6 hE6 B6 b7 hF6
    have hPR := Hid.mk (prs_rd one)
    dsimp only
    go_wp2_with fail
    with_reducible refine Calls.mono tl ?_
    rintro e w8 ⟨ta, tc, Ra, rfl, hQa, hRa, b8⟩
    have tl2 := told_fc (hFb.later b8) hRb
    clear tl
    dsimp only
    go_wp2_with fail
    with_reducible refine Calls.mono tl2 ?_
    rintro e w9 ⟨tb, td, Rc, rfl, hQb, hRc, b9⟩
    have sm := same_l (lc := tc) (lc' := td) hRa hRc (by have := hPR.out.1; omega) hPR.out.2 (CT.ofFq (hQa.later b9)) (CT.ofFq hQb)
    clear tl2
    dsimp only
    go_wp2_with fail
    with_reducible refine Calls.mono sm ?_
    rintro e w10 ⟨rfl, b10⟩
    have b710 := below_seq (below_seq b8 b9) b10
    have hS10 := hS7.below b710
    have hT10 := hT7.below b710
    have hE10 := hE7.below b710
    have B10 := below_seq B7 b710
    have hF10 := hF7.later b710
    clear sm hQa hQb hRa hRc b8 b9 b10 b710 hS7 hT7 hE7 B7 hF7 hFb hRb
    dsimp only
    go_wp2_with fail
    refine Calls.mono (ended_any one h1 w10) ?_
    rintro e w11 ⟨rfl, b11⟩
    have hS11 := hS10.below b11
    have hT11 := hT10.below b11
    have hE11 := hE10.below b11
    have B11 := below_seq B10 b11
    have hF11 := hF10.later b11
    clear hS10 hT10 hE10 B10 b11 hF10
    obtain ⟨t, ht⟩ : ∃ t, t = enl one := ⟨_, rfl⟩
    rw [← ht] at hle q1 q2 q3
    rw [← ht]
    replace ht := Hid.mk ht
    have hll : t.length ≤ 25001 := by omega
    dsimp only
    go_wp2_with fail
    go_loopw [12, 13, 15] (fun x f i wx => ∃ (k n : Nat) (X : By) (ls : List By), x = str X ∧ f = .int .i64 n ∧ i = .int .i64 k ∧ n ≤ k ∧ k ≤ t.length ∧ X.length ≤ 1000000 ∧ Hid (Lw t rk k n X ls) ∧ Hid (Below w11.heap.size w11 wx)) (fun _ _ i _ => t.length - (intOf i).toNat)
    case atStart => exact ⟨0, 0, [], [], rfl, rfl, rfl, Nat.le_refl _, Nat.zero_le _, Nat.zero_le _, ⟨Lw.start t rk⟩, ⟨Below.refl _ _⟩⟩
    case round =>
      obtain ⟨k, n, X, ls, rfl, rfl, rfl, hnk, hk, hX, HL, HB⟩ := hrel
      by_cases hlt : k < t.length
      · have d1 : decide ((k : Int) < (t.length : Int)) = true := decide_eq_true (by omega)
        have hix := run_ix t k hlt
        have hgk := get_at hlt
        generalize t.getD k 0 = c at *
        by_cases hc : c = 10
        · subst hc
          have e1 : (((10 : UInt8).toNat : Int) == 10) = true := rfl
          have HL2 := HL.out.line hlt hgk.symm
          have hX2 := HL2.len hll (by omega)
          have hcut := cut_next hnk hlt hgk.symm
          have hmid := run_mid t n (k + 1) (Nat.le_succ_of_le hnk) hlt (Nat.le_trans hll (by decide))
          rw [hcut] at hmid
          have hml : ((t.drop n).take (k - n)).length ≤ 25001 := by rw [List.length_take, List.length_drop]; exact Nat.le_trans (Nat.min_le_right _ _) (Nat.le_trans (Nat.sub_le _ _) hll)
          generalize (t.drop n).take (k - n) = m at *
          clear hcut hgk
          replace HL2 := Hid.mk HL2
          obtain ⟨x1, hx1⟩ : ∃ y : By, y = X ++ [10, 35] := ⟨_, rfl⟩
          obtain ⟨x2, hx2⟩ : ∃ y : By, y = x1 ++ rk := ⟨_, rfl⟩
          obtain ⟨x3, hx3⟩ : ∃ y : By, y = x2 ++ [10] := ⟨_, rfl⟩
          obtain ⟨m1, hm1⟩ : ∃ y : By, y = m ++ [10] := ⟨_, rfl⟩
          obtain ⟨x4, hx4⟩ : ∃ y : By, y = x3 ++ m1 := ⟨_, rfl⟩
          rw [← hm1] at hmid
          have HX : Hid (X ++ rem3 rk m = x4) := ⟨by rw [hx4, hx3, hx2, hx1, hm1]; simp⟩
          have l1 : x1.length ≤ 1000002 := by rw [hx1]; simp; omega
          have l2 : x2.length ≤ 1000022 := by rw [hx2]; simp; omega
          have l3 : x3.length ≤ 1000023 := by rw [hx3]; simp; omega
          have l4 : m1.length ≤ 25002 := by rw [hm1]; simp; omega
          have f1 : ∀ w, (adS (str X) (.string ⟨#[10, 35]⟩)).run Tryd.prog w = .ok (str x1) w := fun w => by rw [hx1]; exact run_ad X [10, 35] (by simp; omega) w
          have f2 : ∀ w, (adS (str x1) (str rk)).run Tryd.prog w = .ok (str x2) w := fun w => by rw [hx2]; exact run_ad x1 rk (by omega) w
          have f3 : ∀ w, (adS (str x2) (.string ⟨#[10]⟩)).run Tryd.prog w = .ok (str x3) w := fun w => by rw [hx3]; exact run_ad x2 [10] (by simp; omega) w
          have f4 : ∀ w, (adS (str x3) (str m1)).run Tryd.prog w = .ok (str x4) w := fun w => by rw [hx4]; exact run_ad x3 m1 (by omega) w
          have hmid2 : ∀ w, (slS (str t) (some (.int .i64 (n : Int))) (some (.int .i64 ((k : Int) + 1))) none).run Tryd.prog w = .ok (str m1) w := fun w => hmid w
          clear hx1 hx2 hx3 hx4 hm1 l1 l2 l3 l4 hml hmid
          go_wp2_with fail
          refine ⟨⟨k + 1, k + 1, x4, ls ++ [m], rfl, rfl, rfl, Nat.le_refl _, hlt, by rw [← HX.out]; exact hX2, ⟨by rw [← HX.out]; exact HL2.out⟩, HB⟩, ?_⟩
          show t.length - ((k : Int) + 1).toNat < t.length - ((k : Int)).toNat
          omega
        · have e1 : ((c.toNat : Int) == 10) = false := u8ne (n := 10) (by decide) hc
          have HL2 := Hid.mk (HL.out.other hlt (by rw [← hgk]; exact hc))
          clear hgk
          go_wp2_with fail
          refine ⟨⟨k + 1, n, X, ls, rfl, rfl, rfl, by omega, hlt, hX, HL2, HB⟩, ?_⟩
          show t.length - ((k : Int) + 1).toNat < t.length - ((k : Int)).toNat
          omega
      have d1 : decide ((k : Int) < (t.length : Int)) = false := decide_eq_false (by omega)
      have d2 : decide (k < t.length) = false := decide_eq_false hlt
      have hke : k = t.length := Nat.le_antisymm hk (Nat.le_of_not_lt hlt)
      have hfl : t = flat ls := Lw.last ht.out (by have := HL.out; rw [hke] at this; exact this)
      have hno := HL.out.no
      have hXe := HL.out.x
      have hfl2 : enl one = flat ls := ht.out.symm.trans hfl
      obtain ⟨r1, r2, r3⟩ := F1.out.rem hfl2 hno HR.out (by omega)
      rw [← hXe, hEE] at r1
      rw [← hXe] at r2
      have hS12 := hS11.below HB.out
      have hT12 := hT11.below HB.out
      have hE12 := hE11.below HB.out
      have B12 := below_seq B11 HB.out
      have hF12 := hF11.later HB.out
      have HBO := Hid.mk (fun h0 h0' => F1.out.both F2.out hfl2 hno h0 h0')
      rw [← ht.out, hEE] at HBO
      have hpx := parse_e r1 r2 (by omega) _ hS12 hT12 hE12
      clear hS11 hT11 hE11 B11 HB hF11 hke hk hlt HL hfl hno hXe hfl2 r1 r2 r3 hnk
      go_wp2_with fail
      with_reducible refine Calls.mono hpx ?_
      rintro e w13 ⟨vx, vy, Rx, rfl, hFx, hRx, b13⟩
      have hF13 := hF12.later b13
      have tl := told_fc hF13 hR
      clear hpx hF12
      dsimp only
      go_wp2_with fail
      with_reducible refine Calls.mono tl ?_
      rintro e w14 ⟨ta, tc, Ra, rfl, hQa, hRa, b14⟩
      have tl2 := told_fc (t := one) (hFx.later b14) hRx
      clear tl
      dsimp only
      go_wp2_with fail
      with_reducible refine Calls.mono tl2 ?_
      rintro e w15 ⟨tb, td, Rc, rfl, hQb, hRc, b15⟩
      have sm := same_l (lc := tc) (lc' := td) hRa hRc (by have := hPR.out.1; omega) hPR.out.2 (CT.ofFq (hQa.later b15)) (CT.ofFq hQb)
      clear tl2
      dsimp only
      go_wp2_with fail
      with_reducible refine Calls.mono sm ?_
      rintro e w16 ⟨rfl, b16⟩
      have b1316 := below_seq (below_seq b14 b15) b16
      have b1216 := below_seq b13 b1316
      have hS16 := hS12.below b1216
      have hT16 := hT12.below b1216
      have hE16 := hE12.below b1216
      have B16 := below_seq B12 b1216
      have hF16 := hF13.later b1316
      clear sm hQa hQb hRa hRc b13 b14 b15 b16 b1316 b1216 hS12 hT12 hE12 B12 hF13 hFx hRx
      have hp2 := parse_e (x := two) rfl rfl (by omega) w16 hS16 hT16 hE16
      generalize hGG : prsE two = G at *
      dsimp only
      go_wp2_with fail
      with_reducible refine Calls.mono hp2 ?_
      rintro e w17 ⟨vm, vn, Rm, rfl, hFm, hRm, b17⟩
      have hS17 := hS16.below b17
      have hT17 := hT16.below b17
      have hE17 := hE16.below b17
      have B17 := below_seq B16 b17
      have hF17 := hF16.later b17
      clear hp2 hS16 hT16 hE16 B16 b17 hF16
      dsimp only
      by_cases hE0 : E = 0
      case neg =>
        have d3 : (E == 0) = false := beq_eq_false_iff_ne.2 hE0
        have d4 : (E != 0) = true := by rw [bne, d3]; rfl
        go_wp2_with fail
        go_ret
        exact ⟨rfl, B17⟩
      case pos =>
        by_cases hG0 : G = 0
        case neg =>
          have d3 : (G == 0) = false := beq_eq_false_iff_ne.2 hG0
          have d4 : (G != 0) = true := by rw [bne, d3]; rfl
          subst hE0
          go_wp2_with fail
          go_ret
          exact ⟨rfl, B17⟩
        case pos =>
          subst hE0 hG0
          obtain ⟨y1, y2, y3⟩ := HBO.out rfl rfl
          have hPB := prs_rd (t ++ two)
          have ea : ∀ w, (adS (str t) (str two)).run Tryd.prog w = .ok (str (t ++ two)) w := fun w => run_ad t two (by omega) w
          have hp3 := parse_e (x := t ++ two) y1 rfl (by omega) w17 hS17 hT17 hE17
          generalize hTT : t ++ two = tt at *
          go_wp2_with fail
          with_reducible refine Calls.mono hp3 ?_
          rintro e w18 ⟨vp, vq, Rp, rfl, hFp, hRp, b18⟩
          have tl := told_fc hFp hRp
          clear hp3 ea
          dsimp only
          go_wp2_with fail
          with_reducible refine Calls.mono tl ?_
          rintro e w19 ⟨ua, uc, Ua, rfl, hQa, hRa, b19⟩
          have tl2 := told_fc (t := one) (hF17.later (below_seq b18 b19)) hR
          clear tl
          dsimp only
          go_wp2_with fail
          with_reducible refine Calls.mono tl2 ?_
          rintro e w20 ⟨ub, ud, Ub, rfl, hQb, hRb2, b20⟩
          have tl3 := told_fc (t := two) (hFm.later (below_seq (below_seq b18 b19) b20)) hRm
          clear tl2
          dsimp only
          go_wp2_with fail
          with_reducible refine Calls.mono tl3 ?_
          rintro e w21 ⟨uc2, ue, Uc, rfl, hQc, hRc, b21⟩
          clear tl3
          have hUb : Ub.length ≤ 1024 := by have h := congrArg List.length hRb2; rw [List.length_map] at h; have := hPR.out.1; omega
          have hUc : Uc.length ≤ 1024 := by have h := congrArg List.length hRc; rw [List.length_map] at h; have := (prs_rd two).1; omega
          obtain ⟨va9, vc9, w22, hap, hct, hbb⟩ := run_qss (hQb.later b21) hQc (by omega)
          have b2122 : Below w19.heap.size w19 w22 := ((b20.trans (b21.mono b20.size)).trans hbb)
          have sm := same_l (lc := uc) (lc' := vc9) hRa (by rw [List.map_append, hRb2, hRc]; exact y2.symm) (by have := hPB.1; omega) hPB.2 ((CT.ofFq hQa).later b2122) hct
          have B22 := below_seq (below_seq (below_seq B17 b18) b19) b2122
          clear hct hbb hQa hQb hQc
          generalize Ub ++ Uc = U at *
          dsimp only
          go_wp2_with fail
          with_reducible refine Calls.mono sm ?_
          rintro e w23 ⟨rfl, b23⟩
          clear sm hap
          dsimp only
          go_wp2_with fail
          go_ret
          exact ⟨rfl, below_seq B22 b23⟩
end Go.Proofs.YtiifkcnpdihlmaaDoor
