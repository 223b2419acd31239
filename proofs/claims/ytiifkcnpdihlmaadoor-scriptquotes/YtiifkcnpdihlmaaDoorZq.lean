/- Layer 22: ScriptQuotes. -/
import Derived.Test.YtiifkcnpdihlmaaDoorZn
namespace Go.Proofs.YtiifkcnpdihlmaaDoor
set_option maxRecDepth 100000
set_option linter.unusedVariables false
set_option linter.unusedSimpArgs false
open Go.RowKit
attribute [local go_sem ↓] Go.wp_at_zero Go.wp_at_succ sl9 ix9 ad9
/-- bytes built and turned to a text -/
noncomputable def cvB (v : Value) : Sem Value := convert 24 9 v
theorem cvBe (v : Value) : convert 24 9 v = cvB v := rfl
theorem wru8d (x : UInt8) : IntKind.u8.wrap ((x.toNat : Int) / 16) = ((x.toNat / 16 : Nat) : Int) := by
  have h : ∀ n : Fin 256, IntKind.u8.wrap (((n.val : Nat) : Int) / 16) = ((n.val / 16 : Nat) : Int) := by decide +kernel
  exact h ⟨x.toNat, x.toNat_lt⟩
theorem at_k (n : Int) (m : Nat) (hm : m ≤ 2000) : ∃ k : Nat, k ≤ m ∧ wrap64 (1 + wrap64 (4 * wrap64 ((IntKind.u64.wrap n).tmod ((m : Int) + 1)))) = ((1 + 4 * k : Nat) : Int) := by
  have h0 : 0 ≤ IntKind.u64.wrap n := by
    simp [IntKind.wrap, IntKind.signed, IntKind.bits]
    omega
  rw [Int.tmod_eq_emod_of_nonneg h0]
  have h1 := Int.emod_nonneg (IntKind.u64.wrap n) (show (m : Int) + 1 ≠ 0 by omega)
  have h2 := Int.emod_lt_of_pos (IntKind.u64.wrap n) (show 0 < (m : Int) + 1 by omega)
  generalize IntKind.u64.wrap n % ((m : Int) + 1) = r at *
  refine ⟨r.toNat, by omega, ?_⟩
  unfold wrap64
  omega
theorem conv_blk (l : By) (W : World) (g n : Nat) (hn : l.length = n) (cs : Array Value) (f : Nat × Nat) (hW : W.heap[g]? = some (.cells cs 5 f)) (hc : cs.toList = vals l) : (cvB (.slice (some ⟨g, 0, none⟩) n n)).run Tryd.prog W = .ok (str l) W := by
  subst hn
  unfold cvB
  refine run_convert_bytes_back _ 24 9 5 ⟨g, 0, none⟩ l.length l Tryd.underlying24 Tryd.underlying5 Tryd.underlying9 ?_
  intro j hj
  have hadd : (⟨g, 0, none⟩ : Addr).add j = ⟨g, j, none⟩ := by unfold Addr.add; split <;> simp_all
  rw [hadd, cell_of_row _ _ _ _ _ _ hW, ← Array.getElem?_toList, hc]
  simp [vals, hj]
theorem conv1 (c : UInt8) (w : World) : (cvB (.slice (some ⟨w.heap.size, 0, none⟩) 1 1)).run Tryd.prog (w.alloc (.cells #[.int .u8 (c.toNat : Int)] 5)).drew = .ok (str [c]) (w.alloc (.cells #[.int .u8 (c.toNat : Int)] 5)).drew := conv_blk [c] (w.alloc (.cells #[.int .u8 (c.toNat : Int)] 5)).drew w.heap.size 1 rfl _ _ (heap_alloc_new w _) rfl
theorem conv2 (c d : UInt8) (w : World) : (cvB (.slice (some ⟨w.heap.size, 0, none⟩) 2 2)).run Tryd.prog (w.alloc (.cells #[.int .u8 (c.toNat : Int), .int .u8 (d.toNat : Int)] 5)).drew = .ok (str [c, d]) (w.alloc (.cells #[.int .u8 (c.toNat : Int), .int .u8 (d.toNat : Int)] 5)).drew := conv_blk [c, d] (w.alloc (.cells #[.int .u8 (c.toNat : Int), .int .u8 (d.toNat : Int)] 5)).drew w.heap.size 2 rfl _ _ (heap_alloc_new w _) rfl
attribute [local go_sem ↓] cvBe
set_option maxHeartbeats 4000000 in
theorem quotes_walk (s : By) (hs : s.length ≤ 140737488351232) (n : Int) (hn : In64 n) (bad : UInt8) (w : World) (hS : SG w) (hT : TB w) (hE : EG w) :
    Calls Tryd.prog 3 #[str s, .int .i64 n, .int .u8 (bad.toNat : Int)] w fun e w' => e = .returned (.bool true) ∧ Below w.heap.size w w' := by
  go_enter Tryd.func3, Tryd.ntmps3
  go_wp2_with fail
  refine Calls.mono (first_any w hS hT hE) ?_
  rintro e w1 ⟨rfl, b1⟩
  have hS1 := hS.below b1
  have hT1 := hT.below b1
  have hE1 := hE.below b1
  dsimp only
  obtain ⟨s2, hs2, hcase⟩ : ∃ s2 : By, s2.length ≤ 2000 ∧ ((s.length ≤ 2000 ∧ s2 = s) ∨ (2000 < s.length ∧ s2 = s.take 2000)) := by
    by_cases h : s.length ≤ 2000
    · exact ⟨s, h, .inl ⟨h, rfl⟩⟩
    · exact ⟨s.take 2000, by rw [List.length_take]; omega, .inr ⟨by omega, rfl⟩⟩
  rcases hcase with ⟨h2, rfl⟩ | ⟨h2, h3⟩
  · have d1 : decide ((2000 : Int) < (s2.length : Int)) = false := decide_eq_false (by omega)
    go_wp2_with fail
    refine Calls.mono (quote_any s2 w1 (by omega)) ?_
    rintro e w2 ⟨rfl, b2⟩
    have hS2 := hS1.below b2
    have hT2 := hT1.below b2
    have hE2 := hE1.below b2
    have B2 := below_seq b1 b2
    clear hS hT hE hS1 hT1 hE1 b1 b2
    dsimp only
    go_wp2_with fail
    go_loopw [8, 9] (fun x i wr => ∃ k : Nat, x = str (34 :: hxs (s2.take k)) ∧ i = .int .i64 k ∧ k ≤ s2.length ∧ Hid (Below w2.heap.size w2 wr)) (fun _ i _ => s2.length - (intOf i).toNat)
    case atStart => exact ⟨0, rfl, rfl, Nat.zero_le _, ⟨Below.refl _ _⟩⟩
    case round =>
      obtain ⟨k, rfl, rfl, hk, HB⟩ := hrel
      by_cases hlt : k < s2.length
      · have hc : s2[k]? = some (s2.getD k 0) := by rw [List.getD_eq_getElem?_getD, List.getElem?_eq_getElem hlt]; rfl
        have HT : Hid (s2.take (k + 1) = s2.take k ++ [s2.getD k 0]) := ⟨take_succ hc⟩
        have hix := run_ix s2 k hlt
        have hxl := hxs_len (s2.take k)
        rw [List.length_take] at hxl
        generalize s2.getD k 0 = c at *
        have hc8 : c.toNat < 256 := c.toNat_lt
        obtain ⟨x2, hx2⟩ : ∃ x2 : By, x2 = 34 :: hxs (s2.take k) ++ [92, 120] := ⟨_, rfl⟩
        obtain ⟨x3, hx3⟩ : ∃ x3 : By, x3 = x2 ++ [hxd (c.toNat / 16), hxd (c.toNat % 16)] := ⟨_, rfl⟩
        have HX : Hid (x3 = 34 :: hxs (s2.take (k + 1))) := ⟨by
          rw [HT.out, hxs_append, hx3, hx2]
          simp [hxs, hx4]⟩
        have e1 : ∀ w, (adS (str (34 :: hxs (s2.take k))) (.string ⟨#[92, 120]⟩)).run Tryd.prog w = .ok (str x2) w := fun w => by rw [hx2]; exact run_ad (34 :: hxs (s2.take k)) [92, 120] (by simp; omega) w
        have e2 : ∀ w, (adS (str x2) (str [hxd (c.toNat / 16), hxd (c.toNat % 16)])).run Tryd.prog w = .ok (str x3) w := fun w => by rw [hx3]; exact run_ad x2 [_, _] (by rw [hx2]; simp; omega) w
        have i1 : ∀ w, (ixS (.string ⟨#[48, 49, 50, 51, 52, 53, 54, 55, 56, 57, 97, 98, 99, 100, 101, 102]⟩) (.int .u8 (IntKind.u8.wrap ((c.toNat : Int) / 16)))).run Tryd.prog w = .ok (.int .u8 ((hxd (c.toNat / 16)).toNat : Int)) w := fun w => by
          have h := idxdig (c.toNat / 16) (by omega) w
          rw [show IntKind.u8.wrap ((c.toNat : Int) / 16) = ((c.toNat / 16 : Nat) : Int) from wru8d c]
          exact h
        have i2 : ∀ w, (ixS (.string ⟨#[48, 49, 50, 51, 52, 53, 54, 55, 56, 57, 97, 98, 99, 100, 101, 102]⟩) (.int .u8 ((c.toNat : Int).tmod 16))).run Tryd.prog w = .ok (.int .u8 ((hxd (c.toNat % 16)).toNat : Int)) w := fun w => idxdig (c.toNat % 16) (by omega) w
        have cv := fun w => conv2 (hxd (c.toNat / 16)) (hxd (c.toNat % 16)) w
        generalize hxd (c.toNat / 16) = da at *
        generalize hxd (c.toNat % 16) = db at *
        clear hx2 hx3 hc8
        have d1 : decide ((k : Int) < (s2.length : Int)) = true := decide_eq_true (by omega)
        have hw1 : wrap64 ((k : Int) + 1) = ((k + 1 : Nat) : Int) := by unfold wrap64; omega
        clear hxl hc
        go_wp2_with fail
        go_region
        all_goals
          go_wp2_with fail
          refine ⟨⟨k + 1, by rw [HX.out], rfl, hlt, ⟨(HB.out.alloc HB.out.size _).drew⟩⟩, ?_⟩
          show s2.length - ((k : Int) + 1).toNat < s2.length - ((k : Int)).toNat
          omega
      · have d1 : decide ((k : Int) < (s2.length : Int)) = false := decide_eq_false (by omega)
        have d2 : decide (k < s2.length) = false := decide_eq_false hlt
        have hke : k = s2.length := Nat.le_antisymm hk (Nat.le_of_not_lt hlt)
        subst hke
        have hxl := hxs_len s2
        rw [List.take_length]
        have e1 : ∀ w, (adS (str (34 :: hxs s2)) (.string ⟨#[34]⟩)).run Tryd.prog w = .ok (str (lgq s2)) w := fun w => run_ad (34 :: hxs s2) [34] (by simp; omega) w
        have hS3 := hS2.below HB.out
        have hT3 := hT2.below HB.out
        have hE3 := hE2.below HB.out
        have B3 := below_seq B2 HB.out
        clear hk hlt hS2 hT2 hE2 B2 HB hxl
        have HQ := Hid.mk (quote_prs s2 hs2)
        have HY := Hid.mk (quo_bytes s2)
        have hql : (quo s2).length ≤ 8002 := by
          have h1 := (quote_prs s2 hs2).2.2.2.2
          have h2 := lgq_len s2
          omega
        have hll : (lgq s2).length = 4 * s2.length + 2 := lgq_len s2
        have HBQ := Hid.mk (fun k hk => bad_q s2 k hs2 hk)
        generalize hqq : quo s2 = q at *
        clear hqq
        generalize hLL : lgq s2 = L at *
        clear hLL
        replace hll := Hid.mk hll
        go_wp2_with fail
        go_loopw [10] (fun i wx => ∃ k : Nat, i = .int .i64 k ∧ k ≤ q.length ∧ Hid (Below wr.heap.size wr wx)) (fun i _ => q.length - (intOf i).toNat)
        case atStart => exact ⟨0, rfl, Nat.zero_le _, ⟨Below.refl _ _⟩⟩
        case round =>
          obtain ⟨k, rfl, hk, HB⟩ := hrel
          by_cases hlt : k < q.length
          · have d1 : decide ((k : Int) < (q.length : Int)) = true := decide_eq_true (by omega)
            have hix := run_ix q k hlt
            have hm : q.getD k 0 ∈ q := by
              rw [List.getD_eq_getElem?_getD, List.getElem?_eq_getElem hlt]
              exact List.getElem_mem _
            obtain ⟨t1, t2⟩ := HY.out _ hm
            generalize q.getD k 0 = c at *
            have t1 : decide ((c.toNat : Int) < 32) = false := decide_eq_false (by
              have := mt UInt8.lt_iff_toNat_lt.2 t1
              have e : (32 : UInt8).toNat = 32 := rfl
              omega)
            have t2 : decide ((126 : Int) < (c.toNat : Int)) = false := decide_eq_false (by
              have := mt UInt8.lt_iff_toNat_lt.2 t2
              have e : (126 : UInt8).toNat = 126 := rfl
              omega)
            have hw1 : wrap64 ((k : Int) + 1) = ((k + 1 : Nat) : Int) := by unfold wrap64; omega
            go_wp2_with fail
            refine ⟨⟨k + 1, rfl, hlt, HB⟩, ?_⟩
            show q.length - ((k : Int) + 1).toNat < q.length - ((k : Int)).toNat
            omega
          · have d1 : decide ((k : Int) < (q.length : Int)) = false := decide_eq_false (by omega)
            have d2 : decide (k < q.length) = false := decide_eq_false hlt
            clear hlt hk
            obtain ⟨q1, hq1⟩ : ∃ q1 : By, q1 = mk5 ++ q := ⟨_, rfl⟩
            obtain ⟨L1, hL1⟩ : ∃ L1 : By, L1 = mk5 ++ L := ⟨_, rfl⟩
            have e1 : ∀ w, (adS (.string ⟨#[109, 97, 107, 101, 32]⟩) (str q)).run Tryd.prog w = .ok (str q1) w := fun w => by rw [hq1]; exact run_ad mk5 q (by simp; omega) w
            have e2 : ∀ w, (adS (.string ⟨#[109, 97, 107, 101, 32]⟩) (str L)).run Tryd.prog w = .ok (str L1) w := fun w => by rw [hL1]; exact run_ad mk5 L (by have := hll.out; simp; omega) w
            have hq1l : q1.length ≤ 10000 := by rw [hq1]; simp; omega
            have hL1l : L1.length ≤ 10000 := by have := hll.out; rw [hL1]; simp; omega
            obtain ⟨p1, p2, p3, p4, p5⟩ := HQ.out
            rw [← hq1] at p1 p2
            rw [← hL1] at p3 p4
            clear hq1 hL1 HQ HY
            have hS4 := hS3.below HB.out
            have hT4 := hT3.below HB.out
            have hE4 := hE3.below HB.out
            have B4 := below_seq B3 HB.out
            have hpa := parse_e p1 p2 (by omega) _ hS4 hT4 hE4
            clear hS3 hT3 hE3 B3 HB p1 p2
            replace p5 := Hid.mk p5
            go_wp2_with fail
            with_reducible refine Calls.mono hpa ?_
            rintro e w5 ⟨va, vc, R, rfl, hF, hR, b5⟩
            have hS5 := hS4.below b5
            have hT5 := hT4.below b5
            have hE5 := hE4.below b5
            have B5 := below_seq B4 b5
            have hpb := parse_e p3 p4 (by omega) _ hS5 hT5 hE5
            clear hS4 hT4 hE4 B4 b5 hpa p3 p4
            dsimp only
            go_wp2_with fail
            with_reducible refine Calls.mono hpb ?_
            rintro e w6 ⟨vb, vd, R2, rfl, hF2, hR2, b6⟩
            have hS6 := hS5.below b6
            have hT6 := hT5.below b6
            have hE6 := hE5.below b6
            have B6 := below_seq B5 b6
            obtain ⟨g1, rfl, hg1, hc1, hat1⟩ := (hF.later b6).at hR (by simp)
            obtain ⟨g2, rfl, hg2, hc2, hat2⟩ := hF2.at hR2 (by simp)
            obtain ⟨_, _, _, _, r1⟩ := hat1 0 _ rfl
            obtain ⟨_, _, _, _, r2⟩ := hat2 0 _ rfl
            have c1 : w6.cell? ⟨g1, 4, none⟩ = some (str s2) := r1 4 _ rfl
            have c2 : w6.cell? ⟨g2, 4, none⟩ = some (str s2) := r2 4 _ rfl
            have l1 : R.length = 1 := by have := congrArg List.length hR; simpa using this
            have l2 : R2.length = 1 := by have := congrArg List.length hR2; simpa using this
            rw [l1, l2]
            clear hS5 hT5 hE5 B5 b6 hpb hF hF2 hR hR2 hat1 hat2 r1 r2 l1 l2 hc1 hc2
            have d5 : decide ((L.length : Int) < (q.length : Int)) = false := decide_eq_false (by have := p5.out; omega)
            have d6 : decide (L.length < q.length) = false := decide_eq_false (by have := p5.out; omega)
            obtain ⟨k0, hk0, hkk⟩ := at_k n s2.length hs2
            replace hk0 := Hid.mk hk0
            dsimp only
            go_wp2_with fail
            rw [hkk]
            have HBX := HBQ.out k0 hk0.out
            have hkL : 1 + 4 * k0 ≤ L.length := by have := hll.out; have := hk0.out; omega
            have hLl : L.length ≤ 8002 := by have := hll.out; omega
            clear hkk HBQ d1 d2 hk0
            generalize 1 + 4 * k0 = kk at *
            obtain ⟨A, hA⟩ : ∃ A : By, A = L.take kk := ⟨_, rfl⟩
            obtain ⟨D, hD⟩ : ∃ D : By, D = L.drop kk := ⟨_, rfl⟩
            have s1 : ∀ w, (slS (str L) none (some (.int .i64 (kk : Int))) none).run Tryd.prog w = .ok (str A) w := fun w => by rw [hA]; exact run_hi L kk hkL (by omega) w
            have s2' : ∀ w, (slS (str L) (some (.int .i64 (kk : Int))) none none).run Tryd.prog w = .ok (str D) w := fun w => by rw [hD]; exact run_lo L kk hkL (by omega) w
            have hAl : A.length ≤ 8002 := by rw [hA, List.length_take]; omega
            have hDl : D.length ≤ 8002 := by rw [hD, List.length_drop]; omega
            rw [← hA, ← hD] at HBX
            clear hA hD
            obtain ⟨y1, hy1⟩ : ∃ y : By, y = mk5 ++ A := ⟨_, rfl⟩
            have hy1l : y1.length ≤ 9000 := by rw [hy1]; simp; omega
            have f1 : ∀ w, (adS (.string ⟨#[109, 97, 107, 101, 32]⟩) (str A)).run Tryd.prog w = .ok (str y1) w := fun w => by rw [hy1]; exact run_ad mk5 A (by simp; omega) w
            obtain ⟨y2, hy2⟩ : ∃ y : By, y = y1 ++ [92, 113] := ⟨_, rfl⟩
            obtain ⟨y3, hy3⟩ : ∃ y : By, y = y2 ++ D := ⟨_, rfl⟩
            obtain ⟨z2, hz2⟩ : ∃ y : By, y = y1 ++ [92, 120, 65, 48] := ⟨_, rfl⟩
            obtain ⟨z3, hz3⟩ : ∃ y : By, y = z2 ++ D := ⟨_, rfl⟩
            obtain ⟨x2, hx2⟩ : ∃ y : By, y = y1 ++ [bad] := ⟨_, rfl⟩
            obtain ⟨x3, hx3⟩ : ∃ y : By, y = x2 ++ D := ⟨_, rfl⟩
            obtain ⟨v2, hv2⟩ : ∃ y : By, y = L.take (L.length - 1) := ⟨_, rfl⟩
            obtain ⟨v3, hv3⟩ : ∃ y : By, y = mk5 ++ v2 := ⟨_, rfl⟩
            have f2 : ∀ w, (adS (str y1) (.string ⟨#[92, 113]⟩)).run Tryd.prog w = .ok (str y2) w := fun w => by rw [hy2]; exact run_ad y1 [92, 113] (by simp; omega) w
            have f3 : ∀ w, (adS (str y2) (str D)).run Tryd.prog w = .ok (str y3) w := fun w => by rw [hy3]; exact run_ad y2 D (by rw [hy2]; simp; omega) w
            have f4 : ∀ w, (adS (str y1) (.string ⟨#[92, 120, 65, 48]⟩)).run Tryd.prog w = .ok (str z2) w := fun w => by rw [hz2]; exact run_ad y1 [92, 120, 65, 48] (by simp; omega) w
            have f5 : ∀ w, (adS (str z2) (str D)).run Tryd.prog w = .ok (str z3) w := fun w => by rw [hz3]; exact run_ad z2 D (by rw [hz2]; simp; omega) w
            have f6 : ∀ w, (adS (str y1) (str [bad])).run Tryd.prog w = .ok (str x2) w := fun w => by rw [hx2]; exact run_ad y1 [bad] (by simp; omega) w
            have f7 : ∀ w, (adS (str x2) (str D)).run Tryd.prog w = .ok (str x3) w := fun w => by rw [hx3]; exact run_ad x2 D (by rw [hx2]; simp; omega) w
            have f8 : ∀ w, (slS (str L) none (some (.int .i64 ((L.length : Int) - 1))) none).run Tryd.prog w = .ok (str v2) w := fun w => by
              have e : (L.length : Int) - 1 = ((L.length - 1 : Nat) : Int) := by have := hll.out; omega
              rw [hv2, e]
              exact run_hi L (L.length - 1) (by omega) (by omega) w
            have f8b : ∀ w, (slS (str L) none (some (.int .i64 (wrap64 ((L.length : Int) - 1)))) none).run Tryd.prog w = .ok (str v2) w := fun w => by
              have e : wrap64 ((L.length : Int) - 1) = (L.length : Int) - 1 := by have := hll.out; unfold wrap64; omega
              rw [e]
              exact f8 w
            have f9 : ∀ w, (adS (.string ⟨#[109, 97, 107, 101, 32]⟩) (str v2)).run Tryd.prog w = .ok (str v3) w := fun w => by rw [hv3]; exact run_ad mk5 v2 (by rw [hv2]; simp; omega) w
            have m1 : prsE y3 = 110 := by
              rw [hy3, hy2, hy1]
              simpa [List.append_assoc] using HBX.1
            have m2 : prsE v3 = 110 := by
              rw [hv3, hv2]
              exact HBX.2.1
            have m3 : prsE z3 = 110 := by
              rw [hz3, hz2, hy1]
              simpa [List.append_assoc] using HBX.2.2.1
            have m4 : Hid ((bad < 32 ∨ 126 < bad) → bad ≠ 10 → prsE x3 = 110) := ⟨fun h1 h2 => by
              rw [hx3, hx2, hy1]
              simpa [List.append_assoc] using HBX.2.2.2 bad h1 h2⟩
            have n1 : y3.length ≤ 20000 := by rw [hy3, hy2]; simp; omega
            have n2 : v3.length ≤ 20000 := by rw [hv3, hv2]; simp; omega
            have n3 : z3.length ≤ 20000 := by rw [hz3, hz2]; simp; omega
            have n4 : x3.length ≤ 20000 := by rw [hx3, hx2]; simp; omega
            clear hy1 hy2 hy3 hz2 hz3 hx2 hx3 hv2 hv3 HBX hy1l hAl hDl hkL
            have HP1 : Hid (∀ W, Below w6.heap.size w6 W → _) := ⟨fun W hb => parse_e m1 rfl (by omega) W (hS6.below hb) (hT6.below hb) (hE6.below hb)⟩
            go_region_held3 (fun W => Below w6.heap.size w6 W) (first | (with_reducible exact (Below.refl _ _).drew) | (with_reducible assumption) | fail) (first | (with_reducible refine Calls.mono (HP1.out _ (by assumption)) ?_; rintro e w7 ⟨v7, c7, R7, rfl, -, -, b7⟩; have B7 : Below w6.heap.size w6 w7 := below_seq (by assumption) b7))
            have hp2 := parse_e m2 rfl (by omega) w7 (hS6.below B7) (hT6.below B7) (hE6.below B7)
            clear HP1
            go_wp2_with fail
            with_reducible refine Calls.mono hp2 ?_
            rintro e w8 ⟨v8, c8, R8, rfl, -, -, b8⟩
            have B8 : Below w6.heap.size w6 w8 := below_seq B7 b8
            clear hp2
            have HP3 : Hid (∀ W, Below w6.heap.size w6 W → _) := ⟨fun W hb => parse_e m3 rfl (by omega) W (hS6.below hb) (hT6.below hb) (hE6.below hb)⟩
            dsimp only
            go_wp2_with fail
            go_region_held3 (fun W => Below w6.heap.size w6 W) (first | (with_reducible exact B8.drew) | (with_reducible assumption) | fail) (first | (with_reducible refine Calls.mono (HP3.out _ (by assumption)) ?_; rintro e w9 ⟨v9, c9, R9, rfl, -, -, b9⟩; have B9 : Below w6.heap.size w6 w9 := below_seq (by assumption) b9))
            have HF := Hid.mk (below_seq B6 B9)
            clear HP3
            by_cases hba : 32 ≤ bad.toNat ∧ bad.toNat ≤ 126
            · have dA : decide ((32 : Int) ≤ (bad.toNat : Int)) = true := decide_eq_true (by omega)
              have dB : decide ((bad.toNat : Int) ≤ 126) = true := decide_eq_true (by omega)
              go_wp2_with fail
              go_ret
              exact ⟨rfl, HF.out⟩
            by_cases hbt : bad.toNat = 10
            · have dA : decide ((32 : Int) ≤ (bad.toNat : Int)) = false := decide_eq_false (by omega)
              have dC : ((bad.toNat : Int) == 10) = true := beq_iff_eq.2 (by omega)
              go_wp2_with fail
              go_ret
              exact ⟨rfl, HF.out⟩
            have dC : ((bad.toNat : Int) == 10) = false := beq_eq_false_iff_ne.2 (by omega)
            have m4 : prsE x3 = 110 := m4.out (by
              rw [UInt8.lt_iff_toNat_lt, UInt8.lt_iff_toNat_lt]
              have e1 : (32 : UInt8).toNat = 32 := rfl
              have e2 : (126 : UInt8).toNat = 126 := rfl
              omega) (fun e => hbt (by rw [e]; rfl))
            have HP4 : Hid (∀ W, Below w6.heap.size w6 W → _) := ⟨fun W hb => parse_e m4 rfl (by omega) W (hS6.below hb) (hT6.below hb) (hE6.below hb)⟩
            have cv := fun w => conv1 bad w
            clear m1 m2 m3 m4 hbt
            by_cases hlo : 32 ≤ bad.toNat
            · have dA : decide ((32 : Int) ≤ (bad.toNat : Int)) = true := decide_eq_true (by omega)
              have dB : decide ((bad.toNat : Int) ≤ 126) = false := decide_eq_false (by omega)
              go_wp2_with fail
              go_region_with (go_at_call 11; refine (HP4.out _ ((B9.alloc B9.size _).drew)).mono ?_; rintro e w10 ⟨v10, c10, R10, rfl, -, -, b10⟩; have B10 := below_seq ((B9.alloc B9.size (.cells #[.int .u8 (bad.toNat : Int)] 5)).drew) b10)
              all_goals
                go_wp2_with fail
                go_ret
                exact ⟨rfl, below_seq B6 B10⟩
            · have dA : decide ((32 : Int) ≤ (bad.toNat : Int)) = false := decide_eq_false (by omega)
              go_wp2_with fail
              go_region_with (go_at_call 11; refine (HP4.out _ ((B9.alloc B9.size _).drew)).mono ?_; rintro e w10 ⟨v10, c10, R10, rfl, -, -, b10⟩; have B10 := below_seq ((B9.alloc B9.size (.cells #[.int .u8 (bad.toNat : Int)] 5)).drew) b10)
              all_goals
                go_wp2_with fail
                go_ret
                exact ⟨rfl, below_seq B6 B10⟩
  · have d1 : decide ((2000 : Int) < (s.length : Int)) = true := decide_eq_true (by omega)
    have hsl : ∀ w, (slS (str s) none (some (.int .i64 2000)) none).run Tryd.prog w = .ok (str s2) w := fun w => by rw [h3]; exact run_hi s 2000 (by omega) (by omega) w
    clear h3 h2
    go_wp2_with fail
    refine Calls.mono (quote_any s2 w1 (by omega)) ?_
    rintro e w2 ⟨rfl, b2⟩
    have hS2 := hS1.below b2
    have hT2 := hT1.below b2
    have hE2 := hE1.below b2
    have B2 := below_seq b1 b2
    clear hS hT hE hS1 hT1 hE1 b1 b2
    dsimp only
    go_wp2_with fail
    go_loopw [8, 9] (fun x i wr => ∃ k : Nat, x = str (34 :: hxs (s2.take k)) ∧ i = .int .i64 k ∧ k ≤ s2.length ∧ Hid (Below w2.heap.size w2 wr)) (fun _ i _ => s2.length - (intOf i).toNat)
    case atStart => exact ⟨0, rfl, rfl, Nat.zero_le _, ⟨Below.refl _ _⟩⟩
    case round =>
      obtain ⟨k, rfl, rfl, hk, HB⟩ := hrel
      by_cases hlt : k < s2.length
      · have hc : s2[k]? = some (s2.getD k 0) := by rw [List.getD_eq_getElem?_getD, List.getElem?_eq_getElem hlt]; rfl
        have HT : Hid (s2.take (k + 1) = s2.take k ++ [s2.getD k 0]) := ⟨take_succ hc⟩
        have hix := run_ix s2 k hlt
        have hxl := hxs_len (s2.take k)
        rw [List.length_take] at hxl
        generalize s2.getD k 0 = c at *
        have hc8 : c.toNat < 256 := c.toNat_lt
        obtain ⟨x2, hx2⟩ : ∃ x2 : By, x2 = 34 :: hxs (s2.take k) ++ [92, 120] := ⟨_, rfl⟩
        obtain ⟨x3, hx3⟩ : ∃ x3 : By, x3 = x2 ++ [hxd (c.toNat / 16), hxd (c.toNat % 16)] := ⟨_, rfl⟩
        have HX : Hid (x3 = 34 :: hxs (s2.take (k + 1))) := ⟨by
          rw [HT.out, hxs_append, hx3, hx2]
          simp [hxs, hx4]⟩
        have e1 : ∀ w, (adS (str (34 :: hxs (s2.take k))) (.string ⟨#[92, 120]⟩)).run Tryd.prog w = .ok (str x2) w := fun w => by rw [hx2]; exact run_ad (34 :: hxs (s2.take k)) [92, 120] (by simp; omega) w
        have e2 : ∀ w, (adS (str x2) (str [hxd (c.toNat / 16), hxd (c.toNat % 16)])).run Tryd.prog w = .ok (str x3) w := fun w => by rw [hx3]; exact run_ad x2 [_, _] (by rw [hx2]; simp; omega) w
        have i1 : ∀ w, (ixS (.string ⟨#[48, 49, 50, 51, 52, 53, 54, 55, 56, 57, 97, 98, 99, 100, 101, 102]⟩) (.int .u8 (IntKind.u8.wrap ((c.toNat : Int) / 16)))).run Tryd.prog w = .ok (.int .u8 ((hxd (c.toNat / 16)).toNat : Int)) w := fun w => by
          have h := idxdig (c.toNat / 16) (by omega) w
          rw [show IntKind.u8.wrap ((c.toNat : Int) / 16) = ((c.toNat / 16 : Nat) : Int) from wru8d c]
          exact h
        have i2 : ∀ w, (ixS (.string ⟨#[48, 49, 50, 51, 52, 53, 54, 55, 56, 57, 97, 98, 99, 100, 101, 102]⟩) (.int .u8 ((c.toNat : Int).tmod 16))).run Tryd.prog w = .ok (.int .u8 ((hxd (c.toNat % 16)).toNat : Int)) w := fun w => idxdig (c.toNat % 16) (by omega) w
        have cv := fun w => conv2 (hxd (c.toNat / 16)) (hxd (c.toNat % 16)) w
        generalize hxd (c.toNat / 16) = da at *
        generalize hxd (c.toNat % 16) = db at *
        clear hx2 hx3 hc8
        have d1 : decide ((k : Int) < (s2.length : Int)) = true := decide_eq_true (by omega)
        have hw1 : wrap64 ((k : Int) + 1) = ((k + 1 : Nat) : Int) := by unfold wrap64; omega
        clear hxl hc
        go_wp2_with fail
        go_region
        all_goals
          go_wp2_with fail
          refine ⟨⟨k + 1, by rw [HX.out], rfl, hlt, ⟨(HB.out.alloc HB.out.size _).drew⟩⟩, ?_⟩
          show s2.length - ((k : Int) + 1).toNat < s2.length - ((k : Int)).toNat
          omega
      · have d1 : decide ((k : Int) < (s2.length : Int)) = false := decide_eq_false (by omega)
        have d2 : decide (k < s2.length) = false := decide_eq_false hlt
        have hke : k = s2.length := Nat.le_antisymm hk (Nat.le_of_not_lt hlt)
        subst hke
        have hxl := hxs_len s2
        rw [List.take_length]
        have e1 : ∀ w, (adS (str (34 :: hxs s2)) (.string ⟨#[34]⟩)).run Tryd.prog w = .ok (str (lgq s2)) w := fun w => run_ad (34 :: hxs s2) [34] (by simp; omega) w
        have hS3 := hS2.below HB.out
        have hT3 := hT2.below HB.out
        have hE3 := hE2.below HB.out
        have B3 := below_seq B2 HB.out
        clear hk hlt hS2 hT2 hE2 B2 HB hxl
        have HQ := Hid.mk (quote_prs s2 hs2)
        have HY := Hid.mk (quo_bytes s2)
        have hql : (quo s2).length ≤ 8002 := by
          have h1 := (quote_prs s2 hs2).2.2.2.2
          have h2 := lgq_len s2
          omega
        have hll : (lgq s2).length = 4 * s2.length + 2 := lgq_len s2
        have HBQ := Hid.mk (fun k hk => bad_q s2 k hs2 hk)
        generalize hqq : quo s2 = q at *
        clear hqq
        generalize hLL : lgq s2 = L at *
        clear hLL
        replace hll := Hid.mk hll
        go_wp2_with fail
        go_loopw [10] (fun i wx => ∃ k : Nat, i = .int .i64 k ∧ k ≤ q.length ∧ Hid (Below wr.heap.size wr wx)) (fun i _ => q.length - (intOf i).toNat)
        case atStart => exact ⟨0, rfl, Nat.zero_le _, ⟨Below.refl _ _⟩⟩
        case round =>
          obtain ⟨k, rfl, hk, HB⟩ := hrel
          by_cases hlt : k < q.length
          · have d1 : decide ((k : Int) < (q.length : Int)) = true := decide_eq_true (by omega)
            have hix := run_ix q k hlt
            have hm : q.getD k 0 ∈ q := by
              rw [List.getD_eq_getElem?_getD, List.getElem?_eq_getElem hlt]
              exact List.getElem_mem _
            obtain ⟨t1, t2⟩ := HY.out _ hm
            generalize q.getD k 0 = c at *
            have t1 : decide ((c.toNat : Int) < 32) = false := decide_eq_false (by
              have := mt UInt8.lt_iff_toNat_lt.2 t1
              have e : (32 : UInt8).toNat = 32 := rfl
              omega)
            have t2 : decide ((126 : Int) < (c.toNat : Int)) = false := decide_eq_false (by
              have := mt UInt8.lt_iff_toNat_lt.2 t2
              have e : (126 : UInt8).toNat = 126 := rfl
              omega)
            have hw1 : wrap64 ((k : Int) + 1) = ((k + 1 : Nat) : Int) := by unfold wrap64; omega
            go_wp2_with fail
            refine ⟨⟨k + 1, rfl, hlt, HB⟩, ?_⟩
            show q.length - ((k : Int) + 1).toNat < q.length - ((k : Int)).toNat
            omega
          · have d1 : decide ((k : Int) < (q.length : Int)) = false := decide_eq_false (by omega)
            have d2 : decide (k < q.length) = false := decide_eq_false hlt
            clear hlt hk
            obtain ⟨q1, hq1⟩ : ∃ q1 : By, q1 = mk5 ++ q := ⟨_, rfl⟩
            obtain ⟨L1, hL1⟩ : ∃ L1 : By, L1 = mk5 ++ L := ⟨_, rfl⟩
            have e1 : ∀ w, (adS (.string ⟨#[109, 97, 107, 101, 32]⟩) (str q)).run Tryd.prog w = .ok (str q1) w := fun w => by rw [hq1]; exact run_ad mk5 q (by simp; omega) w
            have e2 : ∀ w, (adS (.string ⟨#[109, 97, 107, 101, 32]⟩) (str L)).run Tryd.prog w = .ok (str L1) w := fun w => by rw [hL1]; exact run_ad mk5 L (by have := hll.out; simp; omega) w
            have hq1l : q1.length ≤ 10000 := by rw [hq1]; simp; omega
            have hL1l : L1.length ≤ 10000 := by have := hll.out; rw [hL1]; simp; omega
            obtain ⟨p1, p2, p3, p4, p5⟩ := HQ.out
            rw [← hq1] at p1 p2
            rw [← hL1] at p3 p4
            clear hq1 hL1 HQ HY
            have hS4 := hS3.below HB.out
            have hT4 := hT3.below HB.out
            have hE4 := hE3.below HB.out
            have B4 := below_seq B3 HB.out
            have hpa := parse_e p1 p2 (by omega) _ hS4 hT4 hE4
            clear hS3 hT3 hE3 B3 HB p1 p2
            replace p5 := Hid.mk p5
            go_wp2_with fail
            with_reducible refine Calls.mono hpa ?_
            rintro e w5 ⟨va, vc, R, rfl, hF, hR, b5⟩
            have hS5 := hS4.below b5
            have hT5 := hT4.below b5
            have hE5 := hE4.below b5
            have B5 := below_seq B4 b5
            have hpb := parse_e p3 p4 (by omega) _ hS5 hT5 hE5
            clear hS4 hT4 hE4 B4 b5 hpa p3 p4
            dsimp only
            go_wp2_with fail
            with_reducible refine Calls.mono hpb ?_
            rintro e w6 ⟨vb, vd, R2, rfl, hF2, hR2, b6⟩
            have hS6 := hS5.below b6
            have hT6 := hT5.below b6
            have hE6 := hE5.below b6
            have B6 := below_seq B5 b6
            obtain ⟨g1, rfl, hg1, hc1, hat1⟩ := (hF.later b6).at hR (by simp)
            obtain ⟨g2, rfl, hg2, hc2, hat2⟩ := hF2.at hR2 (by simp)
            obtain ⟨_, _, _, _, r1⟩ := hat1 0 _ rfl
            obtain ⟨_, _, _, _, r2⟩ := hat2 0 _ rfl
            have c1 : w6.cell? ⟨g1, 4, none⟩ = some (str s2) := r1 4 _ rfl
            have c2 : w6.cell? ⟨g2, 4, none⟩ = some (str s2) := r2 4 _ rfl
            have l1 : R.length = 1 := by have := congrArg List.length hR; simpa using this
            have l2 : R2.length = 1 := by have := congrArg List.length hR2; simpa using this
            rw [l1, l2]
            clear hS5 hT5 hE5 B5 b6 hpb hF hF2 hR hR2 hat1 hat2 r1 r2 l1 l2 hc1 hc2
            have d5 : decide ((L.length : Int) < (q.length : Int)) = false := decide_eq_false (by have := p5.out; omega)
            have d6 : decide (L.length < q.length) = false := decide_eq_false (by have := p5.out; omega)
            obtain ⟨k0, hk0, hkk⟩ := at_k n s2.length hs2
            replace hk0 := Hid.mk hk0
            dsimp only
            go_wp2_with fail
            rw [hkk]
            have HBX := HBQ.out k0 hk0.out
            have hkL : 1 + 4 * k0 ≤ L.length := by have := hll.out; have := hk0.out; omega
            have hLl : L.length ≤ 8002 := by have := hll.out; omega
            clear hkk HBQ d1 d2 hk0
            generalize 1 + 4 * k0 = kk at *
            obtain ⟨A, hA⟩ : ∃ A : By, A = L.take kk := ⟨_, rfl⟩
            obtain ⟨D, hD⟩ : ∃ D : By, D = L.drop kk := ⟨_, rfl⟩
            have s1 : ∀ w, (slS (str L) none (some (.int .i64 (kk : Int))) none).run Tryd.prog w = .ok (str A) w := fun w => by rw [hA]; exact run_hi L kk hkL (by omega) w
            have s2' : ∀ w, (slS (str L) (some (.int .i64 (kk : Int))) none none).run Tryd.prog w = .ok (str D) w := fun w => by rw [hD]; exact run_lo L kk hkL (by omega) w
            have hAl : A.length ≤ 8002 := by rw [hA, List.length_take]; omega
            have hDl : D.length ≤ 8002 := by rw [hD, List.length_drop]; omega
            rw [← hA, ← hD] at HBX
            clear hA hD
            obtain ⟨y1, hy1⟩ : ∃ y : By, y = mk5 ++ A := ⟨_, rfl⟩
            have hy1l : y1.length ≤ 9000 := by rw [hy1]; simp; omega
            have f1 : ∀ w, (adS (.string ⟨#[109, 97, 107, 101, 32]⟩) (str A)).run Tryd.prog w = .ok (str y1) w := fun w => by rw [hy1]; exact run_ad mk5 A (by simp; omega) w
            obtain ⟨y2, hy2⟩ : ∃ y : By, y = y1 ++ [92, 113] := ⟨_, rfl⟩
            obtain ⟨y3, hy3⟩ : ∃ y : By, y = y2 ++ D := ⟨_, rfl⟩
            obtain ⟨z2, hz2⟩ : ∃ y : By, y = y1 ++ [92, 120, 65, 48] := ⟨_, rfl⟩
            obtain ⟨z3, hz3⟩ : ∃ y : By, y = z2 ++ D := ⟨_, rfl⟩
            obtain ⟨x2, hx2⟩ : ∃ y : By, y = y1 ++ [bad] := ⟨_, rfl⟩
            obtain ⟨x3, hx3⟩ : ∃ y : By, y = x2 ++ D := ⟨_, rfl⟩
            obtain ⟨v2, hv2⟩ : ∃ y : By, y = L.take (L.length - 1) := ⟨_, rfl⟩
            obtain ⟨v3, hv3⟩ : ∃ y : By, y = mk5 ++ v2 := ⟨_, rfl⟩
            have f2 : ∀ w, (adS (str y1) (.string ⟨#[92, 113]⟩)).run Tryd.prog w = .ok (str y2) w := fun w => by rw [hy2]; exact run_ad y1 [92, 113] (by simp; omega) w
            have f3 : ∀ w, (adS (str y2) (str D)).run Tryd.prog w = .ok (str y3) w := fun w => by rw [hy3]; exact run_ad y2 D (by rw [hy2]; simp; omega) w
            have f4 : ∀ w, (adS (str y1) (.string ⟨#[92, 120, 65, 48]⟩)).run Tryd.prog w = .ok (str z2) w := fun w => by rw [hz2]; exact run_ad y1 [92, 120, 65, 48] (by simp; omega) w
            have f5 : ∀ w, (adS (str z2) (str D)).run Tryd.prog w = .ok (str z3) w := fun w => by rw [hz3]; exact run_ad z2 D (by rw [hz2]; simp; omega) w
            have f6 : ∀ w, (adS (str y1) (str [bad])).run Tryd.prog w = .ok (str x2) w := fun w => by rw [hx2]; exact run_ad y1 [bad] (by simp; omega) w
            have f7 : ∀ w, (adS (str x2) (str D)).run Tryd.prog w = .ok (str x3) w := fun w => by rw [hx3]; exact run_ad x2 D (by rw [hx2]; simp; omega) w
            have f8 : ∀ w, (slS (str L) none (some (.int .i64 ((L.length : Int) - 1))) none).run Tryd.prog w = .ok (str v2) w := fun w => by
              have e : (L.length : Int) - 1 = ((L.length - 1 : Nat) : Int) := by have := hll.out; omega
              rw [hv2, e]
              exact run_hi L (L.length - 1) (by omega) (by omega) w
            have f8b : ∀ w, (slS (str L) none (some (.int .i64 (wrap64 ((L.length : Int) - 1)))) none).run Tryd.prog w = .ok (str v2) w := fun w => by
              have e : wrap64 ((L.length : Int) - 1) = (L.length : Int) - 1 := by have := hll.out; unfold wrap64; omega
              rw [e]
              exact f8 w
            have f9 : ∀ w, (adS (.string ⟨#[109, 97, 107, 101, 32]⟩) (str v2)).run Tryd.prog w = .ok (str v3) w := fun w => by rw [hv3]; exact run_ad mk5 v2 (by rw [hv2]; simp; omega) w
            have m1 : prsE y3 = 110 := by
              rw [hy3, hy2, hy1]
              simpa [List.append_assoc] using HBX.1
            have m2 : prsE v3 = 110 := by
              rw [hv3, hv2]
              exact HBX.2.1
            have m3 : prsE z3 = 110 := by
              rw [hz3, hz2, hy1]
              simpa [List.append_assoc] using HBX.2.2.1
            have m4 : Hid ((bad < 32 ∨ 126 < bad) → bad ≠ 10 → prsE x3 = 110) := ⟨fun h1 h2 => by
              rw [hx3, hx2, hy1]
              simpa [List.append_assoc] using HBX.2.2.2 bad h1 h2⟩
            have n1 : y3.length ≤ 20000 := by rw [hy3, hy2]; simp; omega
            have n2 : v3.length ≤ 20000 := by rw [hv3, hv2]; simp; omega
            have n3 : z3.length ≤ 20000 := by rw [hz3, hz2]; simp; omega
            have n4 : x3.length ≤ 20000 := by rw [hx3, hx2]; simp; omega
            clear hy1 hy2 hy3 hz2 hz3 hx2 hx3 hv2 hv3 HBX hy1l hAl hDl hkL
            have HP1 : Hid (∀ W, Below w6.heap.size w6 W → _) := ⟨fun W hb => parse_e m1 rfl (by omega) W (hS6.below hb) (hT6.below hb) (hE6.below hb)⟩
            go_region_held3 (fun W => Below w6.heap.size w6 W) (first | (with_reducible exact (Below.refl _ _).drew) | (with_reducible assumption) | fail) (first | (with_reducible refine Calls.mono (HP1.out _ (by assumption)) ?_; rintro e w7 ⟨v7, c7, R7, rfl, -, -, b7⟩; have B7 : Below w6.heap.size w6 w7 := below_seq (by assumption) b7))
            have hp2 := parse_e m2 rfl (by omega) w7 (hS6.below B7) (hT6.below B7) (hE6.below B7)
            clear HP1
            go_wp2_with fail
            with_reducible refine Calls.mono hp2 ?_
            rintro e w8 ⟨v8, c8, R8, rfl, -, -, b8⟩
            have B8 : Below w6.heap.size w6 w8 := below_seq B7 b8
            clear hp2
            have HP3 : Hid (∀ W, Below w6.heap.size w6 W → _) := ⟨fun W hb => parse_e m3 rfl (by omega) W (hS6.below hb) (hT6.below hb) (hE6.below hb)⟩
            dsimp only
            go_wp2_with fail
            go_region_held3 (fun W => Below w6.heap.size w6 W) (first | (with_reducible exact B8.drew) | (with_reducible assumption) | fail) (first | (with_reducible refine Calls.mono (HP3.out _ (by assumption)) ?_; rintro e w9 ⟨v9, c9, R9, rfl, -, -, b9⟩; have B9 : Below w6.heap.size w6 w9 := below_seq (by assumption) b9))
            have HF := Hid.mk (below_seq B6 B9)
            clear HP3
            by_cases hba : 32 ≤ bad.toNat ∧ bad.toNat ≤ 126
            · have dA : decide ((32 : Int) ≤ (bad.toNat : Int)) = true := decide_eq_true (by omega)
              have dB : decide ((bad.toNat : Int) ≤ 126) = true := decide_eq_true (by omega)
              go_wp2_with fail
              go_ret
              exact ⟨rfl, HF.out⟩
            by_cases hbt : bad.toNat = 10
            · have dA : decide ((32 : Int) ≤ (bad.toNat : Int)) = false := decide_eq_false (by omega)
              have dC : ((bad.toNat : Int) == 10) = true := beq_iff_eq.2 (by omega)
              go_wp2_with fail
              go_ret
              exact ⟨rfl, HF.out⟩
            have dC : ((bad.toNat : Int) == 10) = false := beq_eq_false_iff_ne.2 (by omega)
            have m4 : prsE x3 = 110 := m4.out (by
              rw [UInt8.lt_iff_toNat_lt, UInt8.lt_iff_toNat_lt]
              have e1 : (32 : UInt8).toNat = 32 := rfl
              have e2 : (126 : UInt8).toNat = 126 := rfl
              omega) (fun e => hbt (by rw [e]; rfl))
            have HP4 : Hid (∀ W, Below w6.heap.size w6 W → _) := ⟨fun W hb => parse_e m4 rfl (by omega) W (hS6.below hb) (hT6.below hb) (hE6.below hb)⟩
            have cv := fun w => conv1 bad w
            clear m1 m2 m3 m4 hbt
            by_cases hlo : 32 ≤ bad.toNat
            · have dA : decide ((32 : Int) ≤ (bad.toNat : Int)) = true := decide_eq_true (by omega)
              have dB : decide ((bad.toNat : Int) ≤ 126) = false := decide_eq_false (by omega)
              go_wp2_with fail
              go_region_with (go_at_call 11; refine (HP4.out _ ((B9.alloc B9.size _).drew)).mono ?_; rintro e w10 ⟨v10, c10, R10, rfl, -, -, b10⟩; have B10 := below_seq ((B9.alloc B9.size (.cells #[.int .u8 (bad.toNat : Int)] 5)).drew) b10)
              all_goals
                go_wp2_with fail
                go_ret
                exact ⟨rfl, below_seq B6 B10⟩
            · have dA : decide ((32 : Int) ≤ (bad.toNat : Int)) = false := decide_eq_false (by omega)
              go_wp2_with fail
              go_region_with (go_at_call 11; refine (HP4.out _ ((B9.alloc B9.size _).drew)).mono ?_; rintro e w10 ⟨v10, c10, R10, rfl, -, -, b10⟩; have B10 := below_seq ((B9.alloc B9.size (.cells #[.int .u8 (bad.toNat : Int)] 5)).drew) b10)
              all_goals
                go_wp2_with fail
                go_ret
                exact ⟨rfl, below_seq B6 B10⟩
end Go.Proofs.YtiifkcnpdihlmaaDoor
