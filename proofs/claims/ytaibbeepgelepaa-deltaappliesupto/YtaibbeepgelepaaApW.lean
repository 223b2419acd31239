/- DeltaApplies: the walk. -/
import Derived.Test.YtaibbeepgelepaaDk
import Derived.Deep.CutRange
namespace Go.Proofs.Ytaibbeepgelepaa
set_option linter.unusedVariables false
set_option linter.unusedSimpArgs false
open Go.RowKit
attribute [local go_sem ↓] Go.wp_at_zero Go.wp_at_succ
theorem bset3 {B : Nat} {w w' : World} (h : Below B w w') {g : Nat} (hg : B ≤ g) (x y z : Value) : Below B w (((w'.setCell ⟨g, 0, none⟩ x).setCell ⟨g, 1, none⟩ y).setCell ⟨g, 2, none⟩ z) := ((h.setCell (p := ⟨g, 0, none⟩) hg x).setCell (p := ⟨g, 1, none⟩) hg y).setCell (p := ⟨g, 2, none⟩) hg z
theorem li_of {base : Nat} {w : World} {X : List Vs} {za : Option Addr} {zc : Nat} (hc : Cp base w (.slice za X.length zc) X) (hl : X.length ≤ 1954687338240 ∧ ∀ v ∈ X, v.l.length ≤ 4398046510976) : Li w X za X.length zc := by
  obtain ⟨a, c, e, s⟩ := hc.ls
  injection e with e1 e2 e3
  subst e1 e3
  exact ⟨rfl, s, hl.1, hl.2⟩
theorem dk_news {w6 : World} {base : Nat} {sc nx : Int} {X : List Vs} {za : Option Addr} {zc : Nat} (hc : Cp base w6 (.slice za X.length zc) X) (hl : X.length ≤ 1954687338240 ∧ ∀ v ∈ X, v.l.length ≤ 4398046510976) : Dk (w6.alloc (.cells #[.int .i64 sc, .int .i64 nx, .slice za X.length zc] 27)) w6.heap.size sc nx X za zc := Dk.new (li_of hc hl)
theorem dk_sets {w6 : World} {g base : Nat} {sc nx : Int} {X : List Vs} {za : Option Addr} {zc : Nat} {x y z : Value} (hz : Bd w6 g x y z) (hc : Cp base w6 (.slice za X.length zc) X) (hg : g < base) (hl : X.length ≤ 1954687338240 ∧ ∀ v ∈ X, v.l.length ≤ 4398046510976) : Dk (((w6.setCell ⟨g, 0, none⟩ (.int .i64 sc)).setCell ⟨g, 1, none⟩ (.int .i64 nx)).setCell ⟨g, 2, none⟩ (.slice za X.length zc)) g sc nx X za zc :=
  ⟨((hz.set0 _).set1 _).set2 _, li_of (((hc.low hg (j := 0) (.int .i64 sc)).low hg (j := 1) (.int .i64 nx)).low hg (j := 2) (.slice za X.length zc)) hl⟩
theorem zd1 {w w5 : World} (h : Below (w.alloc (.cells #[.int .i64 0, .int .i64 0, .slice none 0 0] 27)).drew.heap.size (w.alloc (.cells #[.int .i64 0, .int .i64 0, .slice none 0 0] 27)).drew w5) : Bd w5 w.heap.size (.int .i64 0) (.int .i64 0) (.slice none 0 0) := Bd.later (w := (w.alloc (.cells #[.int .i64 0, .int .i64 0, .slice none 0 0] 27)).drew) (Bd.new w _ _ _) h
theorem ea_ap {next mnext : Int} {L M : List Vs} (h1 : RtB next L) (h2 : RtD next mnext M) : eaE L M = apE next next L M := by
  unfold eaE apE
  rw [if_neg (show ¬ ¬ next = next by simp)]
  by_cases h3 : 256 < L.length + M.length
  · rw [if_pos h3, if_pos h3]
  · rw [if_neg h3, if_neg h3, wr_sum h1 h2.b, bw_mg h1 h2.b (by omega)]
theorem eaP.gen {next since mnext : Int} {L M : List Vs} {w w' : World} {e : Ending} (h : eaP next since mnext L M w w' e) (hb : Below w.heap.size w w') (hl : L.length + M.length ≤ 1954687338000) (hz : ∀ v ∈ L, v.l.length ≤ 4398046510976) (hz' : ∀ v ∈ M, v.l.length ≤ 4398046510976) :
    ∃ (nx : Int) (X : List Vs) (za : Option Addr) (zc : Nat) (cd : Int), e = .returned (.tuple #[bv nx za X.length zc, .int .i64 cd]) ∧ Li w' X za X.length zc ∧ (RtB next L → RtD since mnext M → nx = aN next since mnext L M ∧ X = aX next since L M ∧ cd = apE next since L M) := by
  rcases h with ⟨h0, rfl⟩ | ⟨rfl, h0, rfl⟩ | ⟨rfl, h0, v, rfl, o⟩
  · refine ⟨0, [], none, 0, 91, rfl, ⟨rfl, Ls.none _, by simp, by simp⟩, fun _ _ => ?_⟩
    have := ap_ne (L := L) (M := M) h0
    exact ⟨(aN_no (by rw [this]; decide)).symm, (aX_no (by rw [this]; decide)).symm, this.symm⟩
  · refine ⟨0, [], none, 0, eaE L M, rfl, ⟨rfl, Ls.none _, by simp, by simp⟩, fun r1 r2 => ?_⟩
    have := ea_ap r1 r2
    rw [this] at h0 ⊢
    exact ⟨(aN_no h0).symm, (aX_no h0).symm, rfl⟩
  · obtain ⟨za, zc, rfl, lz⟩ := o.li (by rw [mg_len]; omega) (fun v hv => by rcases mg_mem.1 hv with q | q; exact hz v q; exact hz' v q)
    refine ⟨mnext, mg L M, za, zc, 0, rfl, lz, fun r1 r2 => ?_⟩
    have := ea_ap r1 r2
    rw [h0] at this
    exact ⟨(aN_ok this.symm).symm, (aX_ok this.symm).symm, this⟩
set_option maxRecDepth 100000 in
set_option maxHeartbeats 8000000 in
theorem deltaApplies_walk (next : Int) (L : List Vs) (a : Option Addr) (cap : Nat) (since mnext : Int) (M : List Vs) (a' : Option Addr) (cap' : Nat) (W : World) (hL : Li W L a L.length cap) (hP : ∀ u ∈ L, Pz u.l) (hlL : L.length ≤ 1048576) (hM : Li W M a' M.length cap') (hPM : ∀ u ∈ M, Pz u.l) (hlM : M.length ≤ 1048576) :
    Calls Try.prog 5 #[bv next a L.length cap, dv since mnext a' M.length cap'] W fun e W' => e = .returned (.bool true) ∧ Below W.heap.size W W' := by
  have c0 := bl_alloc (W.alloc (.cells #[.int .i64 next, .slice a L.length cap] 24)) (.cells #[.int .i64 since, .int .i64 mnext, .slice a' M.length cap'] 27)
  have B0 := Hid.mk (bal (bl_alloc W (.cells #[.int .i64 next, .slice a L.length cap] 24)) (.cells #[.int .i64 since, .int .i64 mnext, .slice a' M.length cap'] 27))
  have Hb := Hid.mk ((Bk.new (next := next) hL).later c0)
  have Hd0 := Dk.new (since := since) (next := mnext) (hM.later (bl_alloc W (.cells #[.int .i64 next, .slice a L.length cap] 24)))
  rw [World.size_alloc] at Hd0
  have Hd := Hid.mk Hd0
  have HP := Hid.mk hP
  have HPM := Hid.mk hPM
  have Hlm : Hid (L.length + M.length ≤ 1954687338000) := ⟨by omega⟩
  clear hL hP hM hPM c0 Hd0 hlL hlM
  go_enter Try.func5, Try.ntmps5
  go_wp2_with fail
  generalize (W.alloc (.cells #[.int .i64 next, .slice a L.length cap] 24)).alloc (.cells #[.int .i64 since, .int .i64 mnext, .slice a' M.length cap'] 27) = W1 at *
  with_reducible refine Calls.mono (first_any _) ?_
  rintro e w1 ⟨rfl, c1⟩
  dsimp only
  have Hb1 := Hid.mk (Hb.out.later c1)
  have Hd1 := Hid.mk (Hd.out.later c1)
  have B1 := Hid.mk (B0.out.trans (c1.mono B0.out.size))
  clear Hb Hd B0 c1
  obtain ⟨p0, p1, _⟩ := Hb1.out.z.cells
  obtain ⟨q0, q1, q2, _⟩ := Hd1.out.z.cells
  clear p0 p1 q0 q1 q2
  go_upto_region 3 with fail
  have HMz := Hid.mk (⟨Hd1.out.l.l, Hd1.out.l.z⟩ : M.length ≤ 1954687338240 ∧ ∀ v ∈ M, v.l.length ≤ 4398046510976)
  go_cut [5] from 13 (fun vo wx => ∃ (go : Nat) (oa : Option Addr) (oc : Nat), vo = .pointer (some ⟨go, 0, none⟩) ∧ Hid (Below w1.heap.size w1 wx ∧ Dk wx go since mnext M oa oc))
  case first =>
    have HS : Hid (∀ w', Below w1.heap.size w1 w' → Below w1.heap.size w1 w' ∧ w'.cell? ⟨W.heap.size + 1, 0, none⟩ = some (.int .i64 since) ∧ w'.cell? ⟨W.heap.size + 1, 1, none⟩ = some (.int .i64 mnext) ∧ w'.cell? ⟨W.heap.size + 1, 2, none⟩ = some (.slice a' M.length cap')) := ⟨fun w' h => by
      obtain ⟨r0, r1, r2, _⟩ := (Hd1.out.z.later h).cells
      exact ⟨h, r0, r1, r2⟩⟩
    have hcp : ∀ w', Below w1.heap.size w1 w' → Calls Try.prog 10 #[bv mnext a' M.length cap'] w' fun e w'' => (∃ ya yc, e = .returned (bv mnext ya M.length yc) ∧ Cp w'.heap.size w'' (.slice ya M.length yc) M) ∧ Below w'.heap.size w' w'' := fun w' h => (qCopy_any M mnext w' a' _ cap' rfl (Hd1.out.l.later h).s Hd1.out.l.l Hd1.out.l.z).mono (by
      rintro e w'' ⟨vx, rfl, ox, hb⟩
      obtain ⟨ya, yc, rfl, _⟩ := ox.ls
      exact ⟨⟨ya, yc, rfl, ox⟩, hb⟩)
    clear Hb1 Hd1 B1 HP HPM
    go_region_held3 (fun w' => Below w1.heap.size w1 w' ∧ w'.cell? ⟨W.heap.size + 1, 0, none⟩ = some (.int .i64 since) ∧ w'.cell? ⟨W.heap.size + 1, 1, none⟩ = some (.int .i64 mnext) ∧ w'.cell? ⟨W.heap.size + 1, 2, none⟩ = some (.slice a' M.length cap')) ((refine HS.out _ ?_; first
      | with_reducible exact (Below.refl _ _).drew
      | with_reducible exact bB
      | with_reducible exact bal bB _
      | with_reducible exact (bal (Below.refl _ _) _).drew
      | with_reducible exact bset3 bB (Nat.le_refl _) _ _ _)) (
      (go_at_call 10; with_reducible refine Calls.mono (hcp _ (And.left (by assumption))) ?_; rintro e w5 ⟨⟨ya, yc, rfl, oy⟩, x1⟩; first
        | (with_reducible have bB := below_seq (Below.refl w1.heap.size w1).drew x1; clear x1)
        | (with_reducible have bB := below_seq (bal (Below.refl w1.heap.size w1) _).drew x1; with_reducible have hz5 := zd1 x1; have z0 := hz5.cells.1; have z1 := hz5.cells.2.1; have z2 := hz5.cells.2.2.1; have f0 := hz5.cells.2.2.2 0; have f1 := hz5.cells.2.2.2 1; have f2 := hz5.cells.2.2.2 2; clear x1)))
    all_goals (go_wp2_with fail)
    all_goals go_meet
    all_goals (first
      | exact ⟨_, _, _, rfl, ⟨bal bB _, dk_news oy HMz.out⟩⟩
      | exact ⟨_, _, _, rfl, ⟨bset3 bB (Nat.le_refl _) _ _ _, dk_sets hz5 oy (by simp) HMz.out⟩⟩)
  obtain ⟨go, oa, oc, rfl, HW⟩ := hcut
  have Hb2 := Hid.mk (Hb1.out.later HW.out.1)
  have Hd2 := Hid.mk (Hd1.out.later HW.out.1)
  have Ho2 := Hid.mk HW.out.2
  have B2 := Hid.mk (B1.out.trans (HW.out.1.mono B1.out.size))
  clear Hb1 Hd1 B1 HW HMz
  generalize wc = w2 at *
  have hr := eRight_any M since mnext w2 a' _ cap' Hd2.out.l HPM.out
  obtain ⟨q0, q1, q2, _⟩ := Hd2.out.z.cells
  go_wp2_with fail
  clear q0 q1 q2
  with_reducible refine Calls.mono hr ?_
  rintro e w3 ⟨⟨t1, rfl, ht1⟩, c3⟩
  dsimp only
  have Hb3 := Hid.mk (Hb2.out.later c3)
  have Hd3 := Hid.mk (Hd2.out.later c3)
  have Ho3 := Hid.mk (Ho2.out.later c3)
  have B3 := Hid.mk (B2.out.trans (c3.mono B2.out.size))
  clear hr Hb2 Hd2 Ho2 B2 c3
  have hr := dRight_any M since mnext w3 oa _ oc Ho3.out.l
  obtain ⟨q0, q1, q2, _⟩ := Ho3.out.z.cells
  have HT1 := Hid.mk ht1
  clear ht1
  go_wp2_with fail
  clear q0 q1 q2
  with_reducible refine Calls.mono hr ?_
  rintro e w4 ⟨⟨t2, rfl, ht2⟩, c4⟩
  obtain rfl : t1 = t2 := by
    have := HT1.out
    cases t1 <;> cases t2 <;> simp_all
  dsimp only
  have Hb := Hid.mk (Hb3.out.later c4)
  have Hd := Hid.mk (Hd3.out.later c4)
  have Ho := Hid.mk (Ho3.out.later c4)
  have HB := Hid.mk (B3.out.trans (c4.mono B3.out.size))
  clear hr Hb3 Hd3 Ho3 B3 c4 ht2
  have HXz : Hid ((aX next since L M).length ≤ 1954687338240 ∧ ∀ v ∈ aX next since L M, v.l.length ≤ 4398046510976) := ⟨Nat.le_trans aX_l (by decide), aX_z Hb.out.l.z Hd.out.l.z⟩
  have hap : ∀ w' xa xc, Below w4.heap.size w4 w' → Li w' L xa L.length xc → Calls Try.prog 17 #[bv next xa L.length xc, dv since mnext oa M.length oc] w' fun e w'' => (∃ za zc, e = .returned (.tuple #[bv (aN next since mnext L M) za (aX next since L M).length zc, .int .i64 (apE next since L M)]) ∧ Cp w'.heap.size w'' (.slice za (aX next since L M).length zc) (aX next since L M)) ∧ Below w'.heap.size w' w'' := fun w' xa xc h lx => (dApply_any L M next since mnext w' xa _ xc oa _ oc lx (Ho.out.l.later h)).mono (by
    rintro e w'' ⟨hax, hb⟩
    exact ⟨hax.uni hb, hb⟩)
  obtain ⟨X, hX⟩ : ∃ X, X = aX next since L M := ⟨_, rfl⟩
  obtain ⟨nX, hnX⟩ : ∃ x, x = aN next since mnext L M := ⟨_, rfl⟩
  obtain ⟨cX, hcX⟩ : ∃ x, x = apE next since L M := ⟨_, rfl⟩
  rw [← hX, ← hnX, ← hcX] at hap
  rw [← hX] at HXz
  have HX := Hid.mk hX
  have HnX := Hid.mk hnX
  have HcX := Hid.mk hcX
  clear hX hnX hcX
  cases t1 with
  | false =>
    go_upto_region 7 with fail
    go_cut [7, 8] from 25 (fun vx ve wx => ∃ (gx : Nat) (za : Option Addr) (zc : Nat), ve = .int .i64 cX ∧ vx = .pointer (some ⟨gx, 0, none⟩) ∧ Hid (Below w4.heap.size w4 wx ∧ Bk wx gx nX X za zc))
    case first =>
      have HS : Hid (∀ w', Below w4.heap.size w4 w' → Below w4.heap.size w4 w' ∧ w'.cell? ⟨W.heap.size, 0, none⟩ = some (.int .i64 next) ∧ w'.cell? ⟨W.heap.size, 1, none⟩ = some (.slice a L.length cap) ∧ w'.cell? ⟨go, 0, none⟩ = some (.int .i64 since) ∧ w'.cell? ⟨go, 1, none⟩ = some (.int .i64 mnext) ∧ w'.cell? ⟨go, 2, none⟩ = some (.slice oa M.length oc)) := ⟨fun w' h => by
        obtain ⟨t0, t1, _⟩ := (Hb.out.z.later h).cells
        obtain ⟨r0, r1, r2, _⟩ := (Ho.out.z.later h).cells
        exact ⟨h, t0, t1, r0, r1, r2⟩⟩
      have hli := Hid.mk (⟨Hb.out.l.l, Hb.out.l.z⟩ : L.length ≤ 1954687338240 ∧ ∀ v ∈ L, v.l.length ≤ 4398046510976)
      have hcp : ∀ w', Below w4.heap.size w4 w' → Calls Try.prog 10 #[bv next a L.length cap] w' fun e w'' => (∃ ya yc, e = .returned (bv next ya L.length yc) ∧ Cp w'.heap.size w'' (.slice ya L.length yc) L) ∧ Below w'.heap.size w' w'' := fun w' h => (qCopy_any L next w' a _ cap rfl (Hb.out.l.later h).s Hb.out.l.l Hb.out.l.z).mono (by
        rintro e w'' ⟨vx, rfl, ox, hb⟩
        obtain ⟨ya, yc, rfl, _⟩ := ox.ls
        exact ⟨⟨ya, yc, rfl, ox⟩, hb⟩)
      clear Hb Hd Ho HB HP HPM HX HnX HcX HT1
      go_region_held3 (fun w' => Below w4.heap.size w4 w' ∧ w'.cell? ⟨W.heap.size, 0, none⟩ = some (.int .i64 next) ∧ w'.cell? ⟨W.heap.size, 1, none⟩ = some (.slice a L.length cap) ∧ w'.cell? ⟨go, 0, none⟩ = some (.int .i64 since) ∧ w'.cell? ⟨go, 1, none⟩ = some (.int .i64 mnext) ∧ w'.cell? ⟨go, 2, none⟩ = some (.slice oa M.length oc)) ((refine HS.out _ ?_; first
        | with_reducible exact (Below.refl _ _).drew
        | with_reducible exact bC
        | with_reducible exact bB
        | with_reducible exact bal bC _
        | with_reducible exact bal bB _
        | with_reducible exact (bal (Below.refl _ _) _).drew
        | with_reducible exact bset bC hgx _ _)) (first
        | (go_at_call 10; with_reducible refine Calls.mono (hcp _ (And.left (by assumption))) ?_; rintro e w5 ⟨⟨ya, yc, rfl, oy⟩, x1⟩; have ly := li_of oy hli.out; first
          | (with_reducible have bB := below_seq (Below.refl w4.heap.size w4).drew x1; clear x1)
          | (with_reducible have bB := below_seq (bal (Below.refl w4.heap.size w4) _).drew x1; with_reducible have hz5 := zq1 x1; have hlt5 := hz5.lt; clear x1))
        | (go_at_call 17; with_reducible refine Calls.mono (hap _ _ _ (And.left (by assumption)) (by first | exact ly | exact ly.later (bl_alloc _ _))) ?_; rintro e w6 ⟨⟨za, zc, rfl, oz⟩, x2⟩; first
          | (with_reducible have bC := below_seq bB x2; with_reducible have hz6 := hz5.later x2; have z0 := hz6.cells.1; have z1 := hz6.cells.2.1; have f0 := hz6.cells.2.2 0; have f1 := hz6.cells.2.2 1; have hgx := Nat.le_refl w4.heap.size; have hgo := hlt5)
          | (with_reducible have bC := below_seq (bal bB _) x2; with_reducible have hz6 := zq2 x2; have z0 := hz6.cells.1; have z1 := hz6.cells.2.1; have f0 := hz6.cells.2.2 0; have f1 := hz6.cells.2.2 1; have hgx := bB.size; have hgo := True.intro)
          | (with_reducible have bC := below_seq bB x2)))
      all_goals (go_wp2_with fail)
      all_goals go_meet
      all_goals (first
        | exact ⟨_, _, _, rfl, rfl, ⟨bal bC _, bk_news oz HXz.out⟩⟩
        | exact ⟨_, _, _, rfl, rfl, ⟨bset bC hgx _ _, bk_sets hz6 oz (by first | exact hgo | simp) HXz.out⟩⟩)
    obtain ⟨gc, za, zc, rfl, rfl, HW⟩ := hcut
    have Hb8 := Hid.mk (Hb.out.later HW.out.1)
    have Hd8 := Hid.mk (Hd.out.later HW.out.1)
    have Hc8 := Hid.mk HW.out.2
    have HB8 := Hid.mk (HB.out.trans (HW.out.1.mono HB.out.size))
    clear Hb Hd Ho HB HW hap
    generalize wc = w8 at *
    have hea : Calls Try.prog 20 #[bv next a L.length cap, dv since mnext a' M.length cap'] w8 fun e w' => (∃ (nx : Int) (Y : List Vs) (ua : Option Addr) (uc : Nat) (cd : Int), e = .returned (.tuple #[bv nx ua Y.length uc, .int .i64 cd]) ∧ Li w' Y ua Y.length uc ∧ (RtB next L → RtD since mnext M → nx = nX ∧ Y = X ∧ cd = cX)) ∧ Below w8.heap.size w8 w' := (eApply_any L M next since mnext w8 a _ cap a' _ cap' Hb8.out.l Hd8.out.l Hlm.out).mono (by
      rintro e w' ⟨h1, h2⟩
      obtain ⟨nx, Y, ua, uc, cd, h3, h4, h5⟩ := h1.gen h2 Hlm.out Hb8.out.l.z Hd8.out.l.z
      exact ⟨⟨nx, Y, ua, uc, cd, h3, h4, fun r1 r2 => by rw [HnX.out, HX.out, HcX.out]; exact h5 r1 r2⟩, h2⟩)
    obtain ⟨p0, p1, _⟩ := Hb8.out.z.cells
    obtain ⟨q0, q1, q2, _⟩ := Hd8.out.z.cells
    go_wp2_with fail
    clear p0 p1 q0 q1 q2
    with_reducible refine Calls.mono hea ?_
    rintro e w9 ⟨⟨nx, Y, ua, uc, cd, rfl, lu, hrel⟩, c9⟩
    dsimp only
    have c10 := bal c9 (.cells #[.int .i64 nx, .slice ua Y.length uc] 24)
    have HU := Hid.mk (Bk.new (next := nx) lu)
    have Hrel := Hid.mk hrel
    have Hb9 := Hid.mk (Hb8.out.later c10)
    have Hc9 := Hid.mk (Hc8.out.later c10)
    have B9 := Hid.mk (HB8.out.trans (c10.mono HB8.out.size))
    obtain ⟨p0, p1, _⟩ := Hb9.out.z.cells
    clear Hb8 Hd8 Hc8 HB8 c9 c10 hea lu hrel
    go_wp2_with fail
    go_ret
    exact ⟨rfl, B9.out⟩
  | true =>
    go_upto_region 7 with fail
    go_cut [7, 8] from 25 (fun vx ve wx => ∃ (gx : Nat) (za : Option Addr) (zc : Nat), ve = .int .i64 cX ∧ vx = .pointer (some ⟨gx, 0, none⟩) ∧ Hid (Below w4.heap.size w4 wx ∧ Bk wx gx nX X za zc))
    case first =>
      have HS : Hid (∀ w', Below w4.heap.size w4 w' → Below w4.heap.size w4 w' ∧ w'.cell? ⟨W.heap.size, 0, none⟩ = some (.int .i64 next) ∧ w'.cell? ⟨W.heap.size, 1, none⟩ = some (.slice a L.length cap) ∧ w'.cell? ⟨go, 0, none⟩ = some (.int .i64 since) ∧ w'.cell? ⟨go, 1, none⟩ = some (.int .i64 mnext) ∧ w'.cell? ⟨go, 2, none⟩ = some (.slice oa M.length oc)) := ⟨fun w' h => by
        obtain ⟨t0, t1, _⟩ := (Hb.out.z.later h).cells
        obtain ⟨r0, r1, r2, _⟩ := (Ho.out.z.later h).cells
        exact ⟨h, t0, t1, r0, r1, r2⟩⟩
      have hli := Hid.mk (⟨Hb.out.l.l, Hb.out.l.z⟩ : L.length ≤ 1954687338240 ∧ ∀ v ∈ L, v.l.length ≤ 4398046510976)
      have hcp : ∀ w', Below w4.heap.size w4 w' → Calls Try.prog 10 #[bv next a L.length cap] w' fun e w'' => (∃ ya yc, e = .returned (bv next ya L.length yc) ∧ Cp w'.heap.size w'' (.slice ya L.length yc) L) ∧ Below w'.heap.size w' w'' := fun w' h => (qCopy_any L next w' a _ cap rfl (Hb.out.l.later h).s Hb.out.l.l Hb.out.l.z).mono (by
        rintro e w'' ⟨vx, rfl, ox, hb⟩
        obtain ⟨ya, yc, rfl, _⟩ := ox.ls
        exact ⟨⟨ya, yc, rfl, ox⟩, hb⟩)
      clear Hb Hd Ho HB HP HPM HX HnX HcX HT1
      go_region_held3 (fun w' => Below w4.heap.size w4 w' ∧ w'.cell? ⟨W.heap.size, 0, none⟩ = some (.int .i64 next) ∧ w'.cell? ⟨W.heap.size, 1, none⟩ = some (.slice a L.length cap) ∧ w'.cell? ⟨go, 0, none⟩ = some (.int .i64 since) ∧ w'.cell? ⟨go, 1, none⟩ = some (.int .i64 mnext) ∧ w'.cell? ⟨go, 2, none⟩ = some (.slice oa M.length oc)) ((refine HS.out _ ?_; first
        | with_reducible exact (Below.refl _ _).drew
        | with_reducible exact bC
        | with_reducible exact bB
        | with_reducible exact bal bC _
        | with_reducible exact bal bB _
        | with_reducible exact (bal (Below.refl _ _) _).drew
        | with_reducible exact bset bC hgx _ _)) (first
        | (go_at_call 10; with_reducible refine Calls.mono (hcp _ (And.left (by assumption))) ?_; rintro e w5 ⟨⟨ya, yc, rfl, oy⟩, x1⟩; have ly := li_of oy hli.out; first
          | (with_reducible have bB := below_seq (Below.refl w4.heap.size w4).drew x1; clear x1)
          | (with_reducible have bB := below_seq (bal (Below.refl w4.heap.size w4) _).drew x1; with_reducible have hz5 := zq1 x1; have hlt5 := hz5.lt; clear x1))
        | (go_at_call 17; with_reducible refine Calls.mono (hap _ _ _ (And.left (by assumption)) (by first | exact ly | exact ly.later (bl_alloc _ _))) ?_; rintro e w6 ⟨⟨za, zc, rfl, oz⟩, x2⟩; first
          | (with_reducible have bC := below_seq bB x2; with_reducible have hz6 := hz5.later x2; have z0 := hz6.cells.1; have z1 := hz6.cells.2.1; have f0 := hz6.cells.2.2 0; have f1 := hz6.cells.2.2 1; have hgx := Nat.le_refl w4.heap.size; have hgo := hlt5)
          | (with_reducible have bC := below_seq (bal bB _) x2; with_reducible have hz6 := zq2 x2; have z0 := hz6.cells.1; have z1 := hz6.cells.2.1; have f0 := hz6.cells.2.2 0; have f1 := hz6.cells.2.2 1; have hgx := bB.size; have hgo := True.intro)
          | (with_reducible have bC := below_seq bB x2)))
      all_goals (go_wp2_with fail)
      all_goals go_meet
      all_goals (first
        | exact ⟨_, _, _, rfl, rfl, ⟨bal bC _, bk_news oz HXz.out⟩⟩
        | exact ⟨_, _, _, rfl, rfl, ⟨bset bC hgx _ _, bk_sets hz6 oz (by first | exact hgo | simp) HXz.out⟩⟩)
    obtain ⟨gc, za, zc, rfl, rfl, HW⟩ := hcut
    have Hb8 := Hid.mk (Hb.out.later HW.out.1)
    have Hd8 := Hid.mk (Hd.out.later HW.out.1)
    have Hc8 := Hid.mk HW.out.2
    have HB8 := Hid.mk (HB.out.trans (HW.out.1.mono HB.out.size))
    clear Hb Hd Ho HB HW hap
    generalize wc = w8 at *
    have hea : Calls Try.prog 20 #[bv next a L.length cap, dv since mnext a' M.length cap'] w8 fun e w' => (∃ (nx : Int) (Y : List Vs) (ua : Option Addr) (uc : Nat) (cd : Int), e = .returned (.tuple #[bv nx ua Y.length uc, .int .i64 cd]) ∧ Li w' Y ua Y.length uc ∧ (RtB next L → RtD since mnext M → nx = nX ∧ Y = X ∧ cd = cX)) ∧ Below w8.heap.size w8 w' := (eApply_any L M next since mnext w8 a _ cap a' _ cap' Hb8.out.l Hd8.out.l Hlm.out).mono (by
      rintro e w' ⟨h1, h2⟩
      obtain ⟨nx, Y, ua, uc, cd, h3, h4, h5⟩ := h1.gen h2 Hlm.out Hb8.out.l.z Hd8.out.l.z
      exact ⟨⟨nx, Y, ua, uc, cd, h3, h4, fun r1 r2 => by rw [HnX.out, HX.out, HcX.out]; exact h5 r1 r2⟩, h2⟩)
    obtain ⟨p0, p1, _⟩ := Hb8.out.z.cells
    obtain ⟨q0, q1, q2, _⟩ := Hd8.out.z.cells
    go_wp2_with fail
    clear p0 p1 q0 q1 q2
    with_reducible refine Calls.mono hea ?_
    rintro e w9 ⟨⟨nx, Y, ua, uc, cd, rfl, lu, hrel⟩, c9⟩
    dsimp only
    have c10 := bal c9 (.cells #[.int .i64 nx, .slice ua Y.length uc] 24)
    have HU := Hid.mk (Bk.new (next := nx) lu)
    have Hrel := Hid.mk hrel
    have Hb9 := Hid.mk (Hb8.out.later c10)
    have Hc9 := Hid.mk (Hc8.out.later c10)
    have B9 := Hid.mk (HB8.out.trans (c10.mono HB8.out.size))
    obtain ⟨p0, p1, _⟩ := Hb9.out.z.cells
    clear Hb8 Hd8 Hc8 HB8 c9 c10 hea lu hrel
    have HRd : Hid (RtD since mnext M) := ⟨HT1.out.1 (by first | rfl | trivial)⟩
    have hr := qRight_any L next _ a _ cap Hb9.out.l HP.out
    go_wp2_with fail
    clear p0 p1
    generalize w9.alloc (.cells #[.int .i64 nx, .slice ua Y.length uc] 24) = w10 at *
    with_reducible refine Calls.mono hr ?_
    rintro e w11 ⟨⟨t3, rfl, ht3⟩, c11⟩
    dsimp only
    have HU11 := Hid.mk (HU.out.later c11)
    have Hc11 := Hid.mk (Hc9.out.later c11)
    have B11 := Hid.mk (B9.out.trans (c11.mono B9.out.size))
    clear HU Hc9 B9 c11 hr
    cases t3 with
    | false =>
      go_wp2_with fail
      go_ret
      exact ⟨rfl, B11.out⟩
    | true =>
      obtain ⟨rfl, rfl, rfl⟩ := Hrel.out (ht3.1 rfl) HRd.out
      have hYl : Hid (Y.length ≤ 1000000) := ⟨by rw [HX.out]; exact Nat.le_trans aX_l (by decide)⟩
      have hq := qSame_eq nx Y w11 za zc ua uc Hc11.out.l HU11.out.l hYl.out
      obtain ⟨p0, p1, _⟩ := HU11.out.z.cells
      obtain ⟨q0, q1, _⟩ := Hc11.out.z.cells
      clear ht3 HX HnX HcX Hrel
      go_wp2_with fail
      with_reducible refine Calls.mono hq ?_
      rintro e w12 ⟨rfl, c12⟩
      dsimp only
      have B12 := Hid.mk (B11.out.trans (c12.mono B11.out.size))
      go_wp2_with fail
      go_ret
      exact ⟨rfl, B12.out⟩
end Go.Proofs.Ytaibbeepgelepaa
