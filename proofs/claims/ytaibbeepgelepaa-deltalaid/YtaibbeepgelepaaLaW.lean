/- DeltaLaid: the walk. -/
import Derived.Test.YtaibbeepgelepaaDi
import Derived.Deep.CutRange
namespace Go.Proofs.Ytaibbeepgelepaa
set_option linter.unusedVariables false
set_option linter.unusedSimpArgs false
open Go.RowKit
attribute [local go_sem ↓] Go.wp_at_zero Go.wp_at_succ
set_option maxRecDepth 100000 in
set_option maxHeartbeats 8000000 in
theorem deltaLaid_walk (next : Int) (L : List Vs) (a : Option Addr) (cap : Nat) (since mnext : Int) (M : List Vs) (a' : Option Addr) (cap' : Nat) (t : Bool) (W : World) (hL : Li W L a L.length cap) (hP : ∀ u ∈ L, Pz u.l) (hM : Li W M a' M.length cap') (hPM : ∀ u ∈ M, Pz u.l) :
    Calls Try.prog 6 #[bv next a L.length cap, dv since mnext a' M.length cap', .bool t] W fun e W' => e = .returned (.bool true) ∧ Below W.heap.size W W' := by
  have c0 := bl_alloc (W.alloc (.cells #[.int .i64 next, .slice a L.length cap] 24)) (.cells #[.int .i64 since, .int .i64 mnext, .slice a' M.length cap'] 27)
  have B0 := Hid.mk (bal (bl_alloc W (.cells #[.int .i64 next, .slice a L.length cap] 24)) (.cells #[.int .i64 since, .int .i64 mnext, .slice a' M.length cap'] 27))
  have Hb := Hid.mk ((Bk.new (next := next) hL).later c0)
  have Hd0 := Dk.new (since := since) (next := mnext) (hM.later (bl_alloc W (.cells #[.int .i64 next, .slice a L.length cap] 24)))
  rw [World.size_alloc] at Hd0
  have Hd := Hid.mk Hd0
  have HP := Hid.mk hP
  have HPM := Hid.mk hPM
  have HL0 := Hid.mk hL
  have HM0 := Hid.mk hM
  clear hL hP hM hPM c0 Hd0
  go_enter Try.func6, Try.ntmps6
  go_wp2_with fail
  generalize (W.alloc (.cells #[.int .i64 next, .slice a L.length cap] 24)).alloc (.cells #[.int .i64 since, .int .i64 mnext, .slice a' M.length cap'] 27) = W1 at *
  with_reducible refine Calls.mono (first_any _) ?_
  rintro e w1 ⟨rfl, c1⟩
  dsimp only
  have Hb1 := Hid.mk (Hb.out.later c1)
  have Hd1 := Hid.mk (Hd.out.later c1)
  have B1 := Hid.mk (B0.out.trans (c1.mono B0.out.size))
  clear Hb Hd B0 c1
  obtain ⟨p0, p1, _⟩ := Hb1.out.z.cells
  obtain ⟨q0, q1, q2, _⟩ := Hd1.out.z.cells
  go_upto_if 11 with fail
  go_cut [] from 12 (fun wx => ∃ (nb : Int) (LB : List Vs) (ab : Option Addr) (cb : Nat), Hid (Below W.heap.size W wx) ∧ Hid (Bk wx W.heap.size nb LB ab cb) ∧ Hid (Bd wx (W.heap.size + 1) (.int .i64 since) (.int .i64 mnext) (.slice a' M.length cap')) ∧ Hid (∀ u ∈ LB, Pz u.l))
  case first =>
    have hbel := below_any L next since w1 a _ cap Hb1.out.l
    cases t with
    | false =>
      go_wp2_with fail
      go_meet
      case rel => exact ⟨next, L, a, cap, B1, Hb1, ⟨Hd1.out.z⟩, HP⟩
    | true =>
      go_wp2_with fail
      clear p0 p1 q0 q1 q2
      with_reducible refine Calls.mono hbel ?_
      rintro e w2 ⟨vx, rfl, ox, c2⟩
      obtain ⟨xa, xc, rfl, _⟩ := ox.ls
      dsimp only
      have z2 := Hb1.out.z.later c2
      obtain ⟨p0, p1, pf⟩ := z2.cells
      have f0 := pf 0
      have f1 := pf 1
      have HF : Hid (Below W.heap.size W ((w2.setCell ⟨W.heap.size, 0, none⟩ (.int .i64 since)).setCell ⟨W.heap.size, 1, none⟩ (.slice xa (blL since L).length xc)) ∧ Bk ((w2.setCell ⟨W.heap.size, 0, none⟩ (.int .i64 since)).setCell ⟨W.heap.size, 1, none⟩ (.slice xa (blL since L).length xc)) W.heap.size since (blL since L) xa xc ∧ Bd ((w2.setCell ⟨W.heap.size, 0, none⟩ (.int .i64 since)).setCell ⟨W.heap.size, 1, none⟩ (.slice xa (blL since L).length xc)) (W.heap.size + 1) (.int .i64 since) (.int .i64 mnext) (.slice a' M.length cap') ∧ ∀ u ∈ blL since L, Pz u.l) := ⟨bset (B1.out.trans (c2.mono B1.out.size)) (Nat.le_refl _) _ _, bk_sets z2 ox Hb1.out.z.lt ⟨Nat.le_trans (blL_len since L) HL0.out.l, bl_z HL0.out.z⟩, ((Hd1.out.z.later c2).other (by omega) _).other (by omega) _, fun u hu => HP.out u (blL_mem hu).1⟩
      clear z2 pf ox c2 hbel
      generalize (blL since L) = G at *
      go_wp2_with fail
      go_meet
      case rel => exact ⟨since, _, xa, xc, ⟨HF.out.1⟩, ⟨HF.out.2.1⟩, ⟨HF.out.2.2.1⟩, ⟨HF.out.2.2.2⟩⟩
  obtain ⟨nb, LB, ab, cb, HB, Hb, Hdz, HPB⟩ := hcut
  have Hd : Hid (Dk wc (W.heap.size + 1) since mnext M a' cap') := ⟨⟨Hdz.out, HM0.out.later HB.out⟩⟩
  clear B1 Hb1 Hd1 Hdz p0 p1 q0 q1 q2 HP HL0 HM0
  have hc := qRight_any LB nb wc ab _ cb Hb.out.l HPB.out
  obtain ⟨p0, p1, _⟩ := Hb.out.z.cells
  go_wp2_with fail
  clear p0 p1
  with_reducible refine Calls.mono hc ?_
  rintro e w3 ⟨⟨t1, rfl, ht⟩, c3⟩
  dsimp only
  have Hb3 := Hid.mk (Hb.out.later c3)
  have Hd3 := Hid.mk (Hd.out.later c3)
  have B3 := Hid.mk (HB.out.trans (c3.mono HB.out.size))
  clear hc Hb Hd HB c3
  cases t1 with
  | false =>
    clear ht
    go_wp2_with fail
    go_ret
    exact ⟨rfl, B3.out⟩
  | true =>
    have HRb : Hid (RtB nb LB) := ⟨ht.1 rfl⟩
    clear ht
    have hc := eRight_any M since mnext w3 a' _ cap' Hd3.out.l HPM.out
    obtain ⟨q0, q1, q2, _⟩ := Hd3.out.z.cells
    go_wp2_with fail
    clear q0 q1 q2
    with_reducible refine Calls.mono hc ?_
    rintro e w4 ⟨⟨t2, rfl, ht⟩, c4⟩
    dsimp only
    have Hb := Hid.mk (Hb3.out.later c4)
    have Hd := Hid.mk (Hd3.out.later c4)
    have HB := Hid.mk (B3.out.trans (c4.mono B3.out.size))
    clear hc Hb3 Hd3 B3 c4
    cases t2 with
    | false =>
      clear ht
      go_wp2_with fail
      go_ret
      exact ⟨rfl, HB.out⟩
    | true =>
      have HRd : Hid (RtD since mnext M) := ⟨ht.1 rfl⟩
      clear ht
      go_upto_region 7 with fail
      have HXz : Hid ((aX nb since LB M).length ≤ 1954687338240 ∧ ∀ v ∈ aX nb since LB M, v.l.length ≤ 4398046510976) := ⟨Nat.le_trans aX_l (by decide), aX_z Hb.out.l.z Hd.out.l.z⟩
      have hap : ∀ w' xa xc ma mc, Li w' LB xa LB.length xc → Li w' M ma M.length mc → Calls Try.prog 17 #[bv nb xa LB.length xc, dv since mnext ma M.length mc] w' fun e w'' => (∃ za zc, e = .returned (.tuple #[bv (aN nb since mnext LB M) za (aX nb since LB M).length zc, .int .i64 (apE nb since LB M)]) ∧ Cp w'.heap.size w'' (.slice za (aX nb since LB M).length zc) (aX nb since LB M)) ∧ Below w'.heap.size w' w'' := fun w' xa xc ma mc lx lm => (dApply_any LB M nb since mnext w' xa _ xc ma _ mc lx lm).mono (by
        rintro e w'' ⟨hax, hb⟩
        exact ⟨hax.uni hb, hb⟩)
      obtain ⟨X, hX⟩ : ∃ X, X = aX nb since LB M := ⟨_, rfl⟩
      obtain ⟨nX, hnX⟩ : ∃ x, x = aN nb since mnext LB M := ⟨_, rfl⟩
      obtain ⟨cX, hcX⟩ : ∃ x, x = apE nb since LB M := ⟨_, rfl⟩
      rw [← hX, ← hnX, ← hcX] at hap
      rw [← hX] at HXz
      have HX := Hid.mk hX
      have HnX := Hid.mk hnX
      have HcX := Hid.mk hcX
      clear hX hnX hcX
      go_cut [7, 8] from 24 (fun vx ve wx => ∃ (gx : Nat) (za : Option Addr) (zc : Nat), ve = .int .i64 cX ∧ vx = .pointer (some ⟨gx, 0, none⟩) ∧ Hid (Below w4.heap.size w4 wx ∧ Bk wx gx nX X za zc))
      case first =>
        have HS : Hid (∀ w', Below w4.heap.size w4 w' → Below w4.heap.size w4 w' ∧ w'.cell? ⟨W.heap.size, 0, none⟩ = some (.int .i64 nb) ∧ w'.cell? ⟨W.heap.size, 1, none⟩ = some (.slice ab LB.length cb) ∧ w'.cell? ⟨W.heap.size + 1, 0, none⟩ = some (.int .i64 since) ∧ w'.cell? ⟨W.heap.size + 1, 1, none⟩ = some (.int .i64 mnext) ∧ w'.cell? ⟨W.heap.size + 1, 2, none⟩ = some (.slice a' M.length cap')) := ⟨fun w' h => by
          obtain ⟨t0, t1, _⟩ := (Hb.out.z.later h).cells
          obtain ⟨r0, r1, r2, _⟩ := (Hd.out.z.later h).cells
          exact ⟨h, t0, t1, r0, r1, r2⟩⟩
        have hcp1 : ∀ w', Below w4.heap.size w4 w' → Calls Try.prog 10 #[bv nb ab LB.length cb] w' fun e w'' => (∃ ya yc, e = .returned (bv nb ya LB.length yc) ∧ Li w'' LB ya LB.length yc) ∧ Below w'.heap.size w' w'' := fun w' h => (qCopy_any LB nb w' ab _ cb rfl (Hb.out.l.later h).s Hb.out.l.l Hb.out.l.z).mono (by
          rintro e w'' ⟨vx, rfl, ox, hb⟩
          obtain ⟨ya, yc, rfl, ly⟩ := ox.li Hb.out.l.l Hb.out.l.z
          exact ⟨⟨ya, yc, rfl, ly⟩, hb⟩)
        have hcp2 : ∀ w', Below w4.heap.size w4 w' → Calls Try.prog 10 #[bv mnext a' M.length cap'] w' fun e w'' => (∃ ya yc, e = .returned (bv mnext ya M.length yc) ∧ Li w'' M ya M.length yc) ∧ Below w'.heap.size w' w'' := fun w' h => (qCopy_any M mnext w' a' _ cap' rfl (Hd.out.l.later h).s Hd.out.l.l Hd.out.l.z).mono (by
          rintro e w'' ⟨vx, rfl, ox, hb⟩
          obtain ⟨ya, yc, rfl, ly⟩ := ox.li Hd.out.l.l Hd.out.l.z
          exact ⟨⟨ya, yc, rfl, ly⟩, hb⟩)
        clear Hb Hd HB HPM HPB HRb HRd HX HnX HcX
        go_region_held3 (fun w' => Below w4.heap.size w4 w' ∧ w'.cell? ⟨W.heap.size, 0, none⟩ = some (.int .i64 nb) ∧ w'.cell? ⟨W.heap.size, 1, none⟩ = some (.slice ab LB.length cb) ∧ w'.cell? ⟨W.heap.size + 1, 0, none⟩ = some (.int .i64 since) ∧ w'.cell? ⟨W.heap.size + 1, 1, none⟩ = some (.int .i64 mnext) ∧ w'.cell? ⟨W.heap.size + 1, 2, none⟩ = some (.slice a' M.length cap')) ((refine HS.out _ ?_; first
          | with_reducible exact (Below.refl _ _).drew
          | with_reducible exact bD
          | with_reducible exact bC
          | with_reducible exact bB
          | with_reducible exact bal bD _
          | with_reducible exact bal bC _
          | with_reducible exact bal bB _
          | with_reducible exact (bal (Below.refl _ _) _).drew
          | with_reducible exact bset bD hgx _ _)) (first
          | (go_at_call 10; with_reducible refine Calls.mono (hcp1 _ (And.left (by assumption))) ?_; rintro e w5 ⟨⟨ya, yc, rfl, ly⟩, x1⟩; first
            | (with_reducible have bB := below_seq (Below.refl w4.heap.size w4).drew x1; clear x1)
            | (with_reducible have bB := below_seq (bal (Below.refl w4.heap.size w4) _).drew x1; with_reducible have hz5 := zq1 x1; clear x1))
          | (go_at_call 10; with_reducible refine Calls.mono (hcp2 _ (And.left (by assumption))) ?_; rintro e w6 ⟨⟨ma, mc, rfl, lm⟩, x2⟩; first
            | (with_reducible have bC := below_seq bB x2; with_reducible have hz6 := hz5.later x2; have hgx := Nat.le_refl w4.heap.size; have ly6 := ly.later x2; clear x2)
            | (with_reducible have bC := below_seq (bal bB _) x2; with_reducible have hz6 := zq2 x2; have hgx := bB.size; have ly6 := (ly.later (bl_alloc _ _)).later x2; clear x2)
            | (with_reducible have bC := below_seq bB x2; have ly6 := ly.later x2; clear x2))
          | (go_at_call 17; with_reducible refine Calls.mono (hap _ _ _ _ _ (by first | exact ly6 | exact ly6.later (bl_alloc _ _)) (by first | exact lm | exact lm.later (bl_alloc _ _))) ?_; rintro e w7 ⟨⟨za, zc, rfl, oz⟩, x3⟩; first
            | (with_reducible have bD := below_seq bC x3; with_reducible have hz7 := hz6.later x3; have hgo := hz6.lt; have z0 := hz7.cells.1; have z1 := hz7.cells.2.1; have f0 := hz7.cells.2.2 0; have f1 := hz7.cells.2.2 1)
            | (with_reducible have bD := below_seq (bal bC _) x3; with_reducible have hz7 := zq2 x3; have hgx := bC.size; have hgo := True.intro; have z0 := hz7.cells.1; have z1 := hz7.cells.2.1; have f0 := hz7.cells.2.2 0; have f1 := hz7.cells.2.2 1)
            | (with_reducible have bD := below_seq bC x3)))
        all_goals (go_wp2_with fail)
        all_goals go_meet
        all_goals (first
          | exact ⟨_, _, _, rfl, rfl, ⟨bal bD _, bk_news oz HXz.out⟩⟩
          | exact ⟨_, _, _, rfl, rfl, ⟨bset bD hgx _ _, bk_sets hz7 oz (by first | exact hgo | simp) HXz.out⟩⟩)
      obtain ⟨gc, za, zc, rfl, rfl, HW⟩ := hcut
      have Hb8 := Hid.mk (Hb.out.later HW.out.1)
      have Hd8 := Hid.mk (Hd.out.later HW.out.1)
      have HB8 := Hid.mk (HB.out.trans (HW.out.1.mono HB.out.size))
      have Hc8 := Hid.mk HW.out.2
      clear Hb Hd HB HW hap
      generalize wc = w8 at *
      obtain ⟨p0, p1, _⟩ := Hb8.out.z.cells
      obtain ⟨q0, q1, q2, _⟩ := Hd8.out.z.cells
      obtain ⟨r0, r1, _⟩ := Hc8.out.z.cells
      by_cases h1 : since = nb
      · subst h1
        by_cases h2 : 256 < LB.length + M.length
        · have d1 : decide ((256 : Int) < (LB.length : Int) + (M.length : Int)) = true := decide_eq_true (by omega)
          obtain rfl : cX = 75 := by rw [HcX.out]; exact ap_count h2
          have hlb := HRb.out.len
          have hlm := HRd.out.b.len
          clear h2
          go_wp2_with fail
          go_ret
          exact ⟨rfl, HB8.out⟩
        · have d1 : decide ((256 : Int) < (LB.length : Int) + (M.length : Int)) = false := decide_eq_false (by omega)
          have H2 := Hid.mk h2
          have hlb := HRb.out.len
          have hlm := HRd.out.b.len
          clear h2
          go_wp2_with fail
          clear p0 p1 q0 q1 q2 r0 r1
          have HS : Hid (∀ w', Below w8.heap.size w8 w' → Below w8.heap.size w8 w' ∧ w'.cell? ⟨W.heap.size, 0, none⟩ = some (.int .i64 since) ∧ w'.cell? ⟨W.heap.size, 1, none⟩ = some (.slice ab LB.length cb) ∧ w'.cell? ⟨W.heap.size + 1, 1, none⟩ = some (.int .i64 mnext) ∧ w'.cell? ⟨W.heap.size + 1, 2, none⟩ = some (.slice a' M.length cap')) := ⟨fun w' h => by
            obtain ⟨t0, t1, _⟩ := (Hb8.out.z.later h).cells
            obtain ⟨_, t2, t3, _⟩ := (Hd8.out.z.later h).cells
            exact ⟨h, t0, t1, t2, t3⟩⟩
          have hc1 := fun w' (h : Below w8.heap.size w8 w') => qBytes_any LB since w' ab _ cb (Hb8.out.l.later h)
          have hc2 := fun w' (h : Below w8.heap.size w8 w') => qBytes_any M mnext w' a' _ cap' (Hd8.out.l.later h)
          obtain ⟨T, hT⟩ : ∃ T, T = wrap64 (bw LB + bw M) := ⟨_, rfl⟩
          have hwr : IntKind.i64.wrap (bw LB + bw M) = T := by rw [hT, IntKind.wrap_i64]; unfold wrap64; omega
          have HT := Hid.mk hT
          clear hT
          by_cases h3 : 65536 < T
          · have d3 : decide ((65536 : Int) < T) = true := decide_eq_true h3
            obtain rfl : cX = 76 := by rw [HcX.out]; exact ap_bytes H2.out (by rw [← HT.out]; exact h3)
            clear h3 HcX HT
            generalize bw LB = Xb at *
            generalize bw M = Yb at *
            go_region_held3 (fun w' => Below w8.heap.size w8 w' ∧ w'.cell? ⟨W.heap.size, 0, none⟩ = some (.int .i64 since) ∧ w'.cell? ⟨W.heap.size, 1, none⟩ = some (.slice ab LB.length cb) ∧ w'.cell? ⟨W.heap.size + 1, 1, none⟩ = some (.int .i64 mnext) ∧ w'.cell? ⟨W.heap.size + 1, 2, none⟩ = some (.slice a' M.length cap')) ((refine HS.out _ ?_; first
              | with_reducible exact (Below.refl _ _).drew
              | with_reducible exact (below_seq (And.left (by assumption)) x2)
              | with_reducible exact (below_seq (And.left (by assumption)) x1))) (first
              | (go_at_call 21; with_reducible refine Calls.mono (hc1 _ (And.left (by assumption))) ?_; rintro e w5 ⟨rfl, x1⟩)
              | (go_at_call 21; with_reducible refine Calls.mono (hc2 _ (And.left (by assumption))) ?_; rintro e w6 ⟨rfl, x2⟩))
            have c9 : Below w8.heap.size w8 w6 := And.left (by assumption)
            have Hb9 := Hid.mk (Hb8.out.later c9)
            have Hd9 := Hid.mk (Hd8.out.later c9)
            have Hc9 := Hid.mk (Hc8.out.later c9)
            have B9 := Hid.mk (HB8.out.trans (c9.mono HB8.out.size))
            clear x1 x2 c9 HS hc1 hc2 Hb8 Hd8 Hc8 HB8
            go_wp2_with fail
            go_ret
            exact ⟨rfl, B9.out⟩
          · have d3 : decide ((65536 : Int) < T) = false := decide_eq_false h3
            have hap0 : apE since since LB M = 0 := ap_ok H2.out (by rw [← HT.out]; exact h3)
            obtain rfl : cX = 0 := by rw [HcX.out]; exact hap0
            obtain rfl : mnext = nX := by rw [HnX.out]; exact (aN_ok hap0).symm
            have HXm : Hid (X = mg LB M) := ⟨by rw [HX.out]; exact aX_ok hap0⟩
            have HRc : Hid (RtB mnext X) := ⟨by
              rw [HXm.out]
              refine HRb.out.laid HRd.out (Nat.le_of_not_lt H2.out) ?_
              have := wr_sum HRb.out HRd.out.b
              rw [← HT.out] at this
              rw [← this]
              exact Int.not_lt.1 h3⟩
            have dl : ((X.length : Int) == (LB.length : Int) + (M.length : Int)) = true := by rw [HXm.out, mg_len, Int.natCast_add]; exact beq_self_eq_true _
            have HPX : Hid (∀ u ∈ X, Pz u.l) := ⟨fun u hu => by
              rw [HXm.out] at hu
              rcases mg_mem.1 hu with q | q
              · exact HPB.out u q
              · exact HPM.out u q⟩
            clear h3 HcX HT HnX HX hap0
            generalize bw LB = Xb at *
            generalize bw M = Yb at *
            go_region_held3 (fun w' => Below w8.heap.size w8 w' ∧ w'.cell? ⟨W.heap.size, 0, none⟩ = some (.int .i64 since) ∧ w'.cell? ⟨W.heap.size, 1, none⟩ = some (.slice ab LB.length cb) ∧ w'.cell? ⟨W.heap.size + 1, 1, none⟩ = some (.int .i64 mnext) ∧ w'.cell? ⟨W.heap.size + 1, 2, none⟩ = some (.slice a' M.length cap')) ((refine HS.out _ ?_; first
              | with_reducible exact (Below.refl _ _).drew
              | with_reducible exact (below_seq (And.left (by assumption)) x2)
              | with_reducible exact (below_seq (And.left (by assumption)) x1))) (first
              | (go_at_call 21; with_reducible refine Calls.mono (hc1 _ (And.left (by assumption))) ?_; rintro e w5 ⟨rfl, x1⟩)
              | (go_at_call 21; with_reducible refine Calls.mono (hc2 _ (And.left (by assumption))) ?_; rintro e w6 ⟨rfl, x2⟩))
            have c9 : Below w8.heap.size w8 w6 := And.left (by assumption)
            have Hb9 := Hid.mk (Hb8.out.later c9)
            have Hd9 := Hid.mk (Hd8.out.later c9)
            have Hc9 := Hid.mk (Hc8.out.later c9)
            have B9 := Hid.mk (HB8.out.trans (c9.mono HB8.out.size))
            clear x1 x2 c9 HS hc1 hc2 Hb8 Hd8 Hc8 HB8
            have hr := qRight_any X mnext w6 za _ zc Hc9.out.l HPX.out
            obtain ⟨p0, p1, _⟩ := Hb9.out.z.cells
            obtain ⟨q0, q1, q2, _⟩ := Hd9.out.z.cells
            obtain ⟨r0, r1, _⟩ := Hc9.out.z.cells
            go_wp2_with fail
            clear p0 p1 q0 q1 q2 r0 r1
            with_reducible refine Calls.mono hr ?_
            rintro e w10 ⟨⟨t4, rfl, ht⟩, c10⟩
            obtain rfl : t4 = true := ht.2 HRc.out
            dsimp only
            have Hb10 := Hid.mk (Hb9.out.later c10)
            have Hd10 := Hid.mk (Hd9.out.later c10)
            have Hc10 := Hid.mk (Hc9.out.later c10)
            have B10 := Hid.mk (B9.out.trans (c10.mono B9.out.size))
            clear hr ht c10 Hb9 Hd9 Hc9 B9
            obtain ⟨p0, p1, _⟩ := Hb10.out.z.cells
            obtain ⟨q0, q1, q2, _⟩ := Hd10.out.z.cells
            obtain ⟨r0, r1, _⟩ := Hc10.out.z.cells
            go_wp2_with fail
            clear p0 p1 q0 q1 q2 r0 r1 dl
            have HS : Hid (∀ w', Below w10.heap.size w10 w' → Below w10.heap.size w10 w' ∧ w'.cell? ⟨gc, 0, none⟩ = some (.int .i64 mnext) ∧ w'.cell? ⟨gc, 1, none⟩ = some (.slice za X.length zc) ∧ w'.cell? ⟨W.heap.size, 0, none⟩ = some (.int .i64 since) ∧ w'.cell? ⟨W.heap.size, 1, none⟩ = some (.slice ab LB.length cb) ∧ w'.cell? ⟨W.heap.size + 1, 0, none⟩ = some (.int .i64 since) ∧ w'.cell? ⟨W.heap.size + 1, 1, none⟩ = some (.int .i64 mnext) ∧ w'.cell? ⟨W.heap.size + 1, 2, none⟩ = some (.slice a' M.length cap')) := ⟨fun w' h => by
              obtain ⟨t0, t1, _⟩ := (Hb10.out.z.later h).cells
              obtain ⟨t2, t3, t4, _⟩ := (Hd10.out.z.later h).cells
              obtain ⟨t5, t6, _⟩ := (Hc10.out.z.later h).cells
              exact ⟨h, t5, t6, t0, t1, t2, t3, t4⟩⟩
            have hb1 : ∀ w', Below w10.heap.size w10 w' → Calls Try.prog 15 #[bv mnext za X.length zc, .int .i64 since] w' fun e w'' => (∃ ya yc, e = .returned (bv since ya LB.length yc) ∧ Li w'' LB ya LB.length yc) ∧ Below w'.heap.size w' w'' := fun w' h => (below_any X mnext since w' za _ zc (Hc10.out.l.later h)).mono (by
              rintro e w'' ⟨vx, rfl, ox, hb⟩
              rw [HXm.out, bl_mg _ LB M since (Nat.le_refl _) (fun v hv => (HRb.out.ok v hv).2.1) HRd.out.s] at ox
              obtain ⟨ya, yc, rfl, ly⟩ := ox.li Hb10.out.l.l Hb10.out.l.z
              exact ⟨⟨ya, yc, rfl, ly⟩, hb⟩)
            have hb2 := fun w' ya yc (h : Below w10.heap.size w10 w') (ly : Li w' LB ya LB.length yc) => qSame_eq since LB w' ya yc ab cb ly (Hb10.out.l.later h) (Nat.le_trans HRb.out.len (by decide))
            have hb3 := fun w' (h : Below w10.heap.size w10 w') => inside_any M X mnext mnext w' a' cap' za zc (Hd10.out.l.later h) (Hc10.out.l.later h) (fun v hv => by rw [HXm.out]; exact mg_mem.2 (.inr hv)) (Nat.le_trans HRd.out.b.len (by decide)) (Nat.le_trans HRc.out.len (by decide))
            clear Hb10 Hd10 Hc10
            go_region_held3 (fun w' => Below w10.heap.size w10 w' ∧ w'.cell? ⟨gc, 0, none⟩ = some (.int .i64 mnext) ∧ w'.cell? ⟨gc, 1, none⟩ = some (.slice za X.length zc) ∧ w'.cell? ⟨W.heap.size, 0, none⟩ = some (.int .i64 since) ∧ w'.cell? ⟨W.heap.size, 1, none⟩ = some (.slice ab LB.length cb) ∧ w'.cell? ⟨W.heap.size + 1, 0, none⟩ = some (.int .i64 since) ∧ w'.cell? ⟨W.heap.size + 1, 1, none⟩ = some (.int .i64 mnext) ∧ w'.cell? ⟨W.heap.size + 1, 2, none⟩ = some (.slice a' M.length cap')) ((refine HS.out _ ?_; first
              | with_reducible exact (Below.refl _ _).drew
              | with_reducible exact (below_seq (And.left (by assumption)) x3)
              | with_reducible exact (below_seq (And.left (by assumption)) x2)
              | with_reducible exact (below_seq (And.left (by assumption)) x1))) (first
              | (go_at_call 15; with_reducible refine Calls.mono (hb1 _ (And.left (by assumption))) ?_; rintro e w11 ⟨⟨ya, yc, rfl, ly⟩, x1⟩)
              | (go_at_call 18; with_reducible refine Calls.mono (hb2 _ _ _ (And.left (by assumption)) ly) ?_; rintro e w12 ⟨rfl, x2⟩)
              | (go_at_call 22; with_reducible refine Calls.mono (hb3 _ (And.left (by assumption))) ?_; rintro e w13 ⟨rfl, x3⟩))
            have c13 : Below w10.heap.size w10 w13 := And.left (by assumption)
            have B13 := Hid.mk (B10.out.trans (c13.mono B10.out.size))
            clear x1 x2 x3 c13 HS hb1 hb2 hb3
            go_wp2_with fail
            go_ret
            exact ⟨rfl, B13.out⟩
      · have d1 : (since == nb) = false := beq_eq_false_iff_ne.2 h1
        have hne : apE nb since LB M = 91 := ap_ne h1
        obtain rfl : cX = 91 := by rw [HcX.out, hne]
        obtain rfl : nX = 0 := by rw [HnX.out]; exact aN_no (by rw [hne]; decide)
        obtain rfl : X = [] := by rw [HX.out]; exact aX_no (by rw [hne]; decide)
        clear h1 hne HcX HnX HX
        have hq := qSame_eq 0 [] w8 za zc none 0 Hc8.out.l ⟨rfl, Ls.none _, by simp, by simp⟩ (by simp)
        go_wp2_with fail
        with_reducible refine Calls.mono hq ?_
        rintro e w9 ⟨rfl, c9⟩
        dsimp only
        have B9 := Hid.mk (HB8.out.trans (c9.mono HB8.out.size))
        go_wp2_with fail
        go_ret
        exact ⟨rfl, B9.out⟩
end Go.Proofs.Ytaibbeepgelepaa
