/- made. -/
import Derived.Test.YtgcdnanfnbdjjaaGreatRtm
import Derived.Test.YtgcdnanfnbdjjaaGreatGa
namespace Go.Proofs.YtgcdnanfnbdjjaaGreat
set_option linter.unusedVariables false
set_option linter.unusedSimpArgs false
open Go.RowKit
attribute [local go_sem ↓] Go.wp_at_zero Go.wp_at_succ
/-- one thing that is done -/
structure Op1 where
  kind : Int
  key : List UInt8
  data : List UInt8
  l : List En
  seq : Int
  most : Int
/-- a list of them, as it came in -/
structure OIn (w : World) (a : Option Addr) (S : List Op1) : Prop where
  get : ∀ k o, S[k]? = some o → ∃ b off ma mc, a = some ⟨b, off, none⟩ ∧ b < w.heap.size ∧ w.cell? ⟨b, off + k * 6, none⟩ = some (.int .i64 o.kind) ∧ w.cell? ⟨b, off + k * 6 + 1, none⟩ = some (str o.key) ∧ w.cell? ⟨b, off + k * 6 + 2, none⟩ = some (str o.data) ∧ w.cell? ⟨b, off + k * 6 + 3, none⟩ = some (.slice ma o.l.length mc) ∧ w.cell? ⟨b, off + k * 6 + 4, none⟩ = some (.int .i64 o.seq) ∧ w.cell? ⟨b, off + k * 6 + 5, none⟩ = some (.int .i64 o.most) ∧ Sl w ma mc o.l ∧ o.l.length ≤ 4398046510976
theorem OIn.later {w w' : World} {a : Option Addr} {S : List Op1} (h : OIn w a S) (hb : Below w.heap.size w w') : OIn w' a S := by
  refine ⟨fun k o hk => ?_⟩
  obtain ⟨b, off, ma, mc, h1, h2, c0, c1, c2, c3, c4, c5, s, z⟩ := h.get k o hk
  exact ⟨b, off, ma, mc, h1, Nat.lt_of_lt_of_le h2 hb.size, (hb.cell (p := ⟨b, _, none⟩) h2).trans c0, (hb.cell (p := ⟨b, _, none⟩) h2).trans c1, (hb.cell (p := ⟨b, _, none⟩) h2).trans c2, (hb.cell (p := ⟨b, _, none⟩) h2).trans c3, (hb.cell (p := ⟨b, _, none⟩) h2).trans c4, (hb.cell (p := ⟨b, _, none⟩) h2).trans c5, s.later hb, z⟩
theorem rtb_new : RtB 1 [] := ⟨by decide, by decide, by decide, by simp, List.Pairwise.nil, by simp, by decide +kernel⟩
theorem adp_rt {w w' : World} {e : Ending} {next : Int} {L : List Vs} {i : Nat} {v : Vs} (h : RtB next L) (hv : v.seq = next) (hs : SrtV L → i = fndV L v.key) (had : AdP w w' e next L i v) : ∃ n1 X s c, RC w w' e n1 X s c ∧ (c = 0 → RtB n1 X) := by
  obtain rfl := hs h.srt
  rcases had with ⟨q1, q2⟩ | ⟨q1, q2, q3⟩ | ⟨q1, q2, q3⟩
  · exact ⟨_, _, _, _, q2, fun q => absurd q q1⟩
  · exact ⟨_, _, _, _, q3, fun q => absurd q q2⟩
  · have h1 := h.n1
    have h2 := (rfE_zero q1).2.1
    have e1 : wrap64 (next + 1) = next + 1 := by unfold wrap64; omega
    rw [e1] at q3
    exact ⟨_, _, _, _, q3, fun _ => (h.put q1 hv).2⟩
theorem rb_rt {w w' : World} {e : Ending} {next : Int} {L : List Vs} {i : Nat} {k : List UInt8} {sq : Int} (h : RtB next L) (had : (¬ keyE k = 0 ∧ RB w w' e 0 [] (keyE k)) ∨ (keyE k = 0 ∧ geE (gpL L i k) sq = 72 ∧ RB w w' e 0 [] 72) ∨ (keyE k = 0 ∧ geE (gpL L i k) sq = 0 ∧ RB w w' e next (L.take i ++ rmL (gpL L i k) sq ++ L.drop (i + ken (L.drop i) k)) 0)) : ∃ n1 X c, RB w w' e n1 X c ∧ (c = 0 → RtB n1 X) := by
  rcases had with ⟨q1, q2⟩ | ⟨_, _, q3⟩ | ⟨_, _, q3⟩
  · exact ⟨_, _, _, q2, fun q => absurd q q1⟩
  · exact ⟨_, _, _, q3, fun q => absurd q (by decide)⟩
  · exact ⟨_, _, _, q3, fun _ => h.rem i k sq⟩
/-- what the loop keeps -/
structure Mk (w1 w : World) (gb : Nat) (next : Int) (v : Value) (L : List Vs) : Prop where
  q : Bq w gb (.int .i64 next) v
  c : Cp (gb + 1) w v L
  r : RtB next L
  b : Below gb w1 w
  g : w1.heap.size = gb
theorem Mk.later {w1 w w' : World} {gb : Nat} {next : Int} {v : Value} {L : List Vs} (h : Mk w1 w gb next v L) (hb : Below w.heap.size w w') : Mk w1 w' gb next v L := ⟨h.q.later hb, h.c.later hb, h.r, h.b.trans (hb.mono (Nat.le_of_lt h.q.lt)), h.g⟩
theorem RtB.li {next : Int} {L : List Vs} {base : Nat} {w : World} {v : Value} (h : RtB next L) (hc : Cp base w v L) : ∃ a c, v = .slice a L.length c ∧ Li w L a L.length c := by
  refine hc.lis (by have := h.len; omega) (fun u hu => ?_)
  have := (h.ok u hu).2.2
  obtain ⟨⟨_, _, h3⟩, _⟩ := vrV_iff.1 this
  unfold mtE at h3
  split at h3
  · rename_i q
    omega
  · omega
set_option maxRecDepth 100000 in
set_option maxHeartbeats 8000000 in
theorem made_any (S : List Op1) (w : World) (a : Option Addr) (n cap : Nat) (hn : S.length = n) (hS : OIn w a S) (hl : S.length ≤ 1954687338240) :
    Calls Tryz.prog 13 #[.slice a n cap] w fun e w' => ∃ next L v, e = .returned (.agg #[.int .i64 next, v]) ∧ RtB next L ∧ Cp w.heap.size w' v L ∧ Below w.heap.size w w' := by
  subst hn
  have b0 := (Below.refl w.heap.size w).alloc (Nat.le_refl _) (.cells #[.int .i64 0, .slice none 0 0] 24)
  have z0 := Bq.new w (.int .i64 0) (.slice none 0 0)
  have HS := Hid.mk hS
  clear hS
  go_enter Tryz.func13, Tryz.ntmps13
  go_wp2_with fail
  with_reducible refine Calls.mono (bNew_any _) ?_
  rintro e w1 ⟨rfl, b1⟩
  dsimp only
  have z1 := z0.later b1
  have B1 := Hid.mk (b0.trans (b1.mono b0.size))
  have HZ := Hid.mk z1
  have M0 : Hid (Mk w1 (w1.alloc (.cells #[.int .i64 1, .slice none 0 0] 24)) w1.heap.size 1 (.slice none 0 0) []) := ⟨⟨Bq.new w1 _ _, Cp.nil _ _ (by simp), rtb_new, (Below.refl _ _).alloc (Nat.le_refl _) _, rfl⟩⟩
  have hgr : Hid (w.heap.size < w1.heap.size) := ⟨z1.lt⟩
  clear b0 z0 b1 z1
  go_wp2_with fail
  generalize w1.alloc (.cells #[.int .i64 1, .slice none 0 0] 24) = W1 at *
  obtain ⟨gb, hgb⟩ : ∃ gb, gb = w1.heap.size := ⟨_, rfl⟩
  rw [← hgb] at M0 hgr ⊢
  clear hgb
  go_loopw [4] (fun i wr => ∃ k : Nat, k ≤ S.length ∧ i = .int .i64 (k : Int) ∧ Hid (∃ next v L, Mk w1 wr gb next v L)) (fun i _ => S.length - (intOf i).toNat)
  case atStart => exact ⟨0, Nat.zero_le _, rfl, ⟨_, _, _, M0.out⟩⟩
  case round =>
    clear M0
    obtain ⟨k, hk, rfl, HM⟩ := hrel
    obtain ⟨next, v, L, M⟩ := HM.out
    obtain ⟨la, lc, rfl, hLi⟩ := M.r.li M.c
    have hbw : Below w.heap.size w wr := B1.out.trans (M.b.mono (Nat.le_of_lt hgr.out))
    by_cases hlt : k < S.length
    · have d1 : decide ((k : Int) < (S.length : Int)) = true := decide_eq_true (Int.ofNat_lt.2 hlt)
      have k2 : (k : Int) < (S.length : Int) := Int.ofNat_lt.2 hlt
      obtain ⟨o, ho⟩ : ∃ o, S[k]? = some o := ⟨S[k], List.getElem?_eq_getElem hlt⟩
      obtain ⟨b, off, ma, mc, rfl, hbl, c0, c1, c2, c3, c4, c5, hsl, hoz⟩ := (HS.out.later hbw).get k o ho
      have hw1 : wrap64 ((k : Int) + 1) = ((k + 1 : Nat) : Int) := by unfold wrap64; omega
      obtain ⟨p0, p1, pf⟩ := M.q.cells
      have hgw : gb < wr.heap.size := M.q.lt
      have bo := (Below.refl wr.heap.size wr).alloc (Nat.le_refl _) (.cells #[.int .i64 o.kind, str o.key, str o.data, .slice ma o.l.length mc, .int .i64 o.seq, .int .i64 o.most] 34)
      have bA := bo.alloc bo.size (.cells #[.int .i64 next, .slice la L.length lc] 24)
      have zc : Bq ((wr.alloc (.cells #[.int .i64 o.kind, str o.key, str o.data, .slice ma o.l.length mc, .int .i64 o.seq, .int .i64 o.most] 34)).alloc (.cells #[.int .i64 next, .slice la L.length lc] 24)) (wr.heap.size + 1) (.int .i64 next) (.slice la L.length lc) := by
        have h := Bq.new (wr.alloc (.cells #[.int .i64 o.kind, str o.key, str o.data, .slice ma o.l.length mc, .int .i64 o.seq, .int .i64 o.most] 34)) (.int .i64 next) (.slice la L.length lc)
        rwa [World.size_alloc] at h
      have hW2 : ((wr.alloc (.cells #[.int .i64 o.kind, str o.key, str o.data, .slice ma o.l.length mc, .int .i64 o.seq, .int .i64 o.most] 34)).alloc (.cells #[.int .i64 next, .slice la L.length lc] 24)).heap.size = wr.heap.size + 2 := by simp
      have M2 := M.later bA
      have hLi2 := hLi.later bA
      have hput := (bPut_any L next o.key o.data o.l _ la _ lc ma _ mc hLi2 rfl (hsl.later bA) hoz).mono (R' := fun e w' => ∃ n1 X s c, RC ((wr.alloc (.cells #[.int .i64 o.kind, str o.key, str o.data, .slice ma o.l.length mc, .int .i64 o.seq, .int .i64 o.most] 34)).alloc (.cells #[.int .i64 next, .slice la L.length lc] 24)) w' e n1 X s c ∧ (c = 0 → RtB n1 X)) (by
        rintro e w' ⟨i, hi, hs, had⟩
        exact adp_rt M.r rfl hs had)
      have hdel := (bDelete_any L next o.key _ la _ lc hLi2).mono (R' := fun e w' => ∃ n1 X s c, RC ((wr.alloc (.cells #[.int .i64 o.kind, str o.key, str o.data, .slice ma o.l.length mc, .int .i64 o.seq, .int .i64 o.most] 34)).alloc (.cells #[.int .i64 next, .slice la L.length lc] 24)) w' e n1 X s c ∧ (c = 0 → RtB n1 X)) (by
        rintro e w' ⟨i, hi, hs, had⟩
        exact adp_rt M.r rfl hs had)
      have hrem := (bDeleteVersion_any L next o.key o.seq _ la _ lc hLi2).mono (R' := fun e w' => ∃ n1 X c, RB ((wr.alloc (.cells #[.int .i64 o.kind, str o.key, str o.data, .slice ma o.l.length mc, .int .i64 o.seq, .int .i64 o.most] 34)).alloc (.cells #[.int .i64 next, .slice la L.length lc] 24)) w' e n1 X c ∧ (c = 0 → RtB n1 X)) (by
        rintro e w' ⟨i, hi, hs, had⟩
        exact rb_rt M.r had)
      clear bo ho
      by_cases g1 : o.kind = 1
      · have f1 : (o.kind == 1) = true := by rw [g1]; rfl
        clear g1
        go_wp2_with fail
        with_reducible refine Calls.mono hput ?_
        rintro e w3 ⟨n1, X, s, c, ⟨rv, rfl, kr, b3⟩, hrt⟩
        obtain ⟨ra, rc, rfl, _⟩ := kr.ls
        dsimp only
        have M3 := M2.later b3
        have zc3 := zc.later b3
        have bW3 := bA.trans (b3.mono bA.size)
        obtain ⟨t0, t1, tf⟩ := zc3.cells
        have tf0 := tf 0
        have tf1 := tf 1
        obtain ⟨y0, y1, yf⟩ := M3.q.cells
        have yf0 := yf 0
        have yf1 := yf 1
        have hng : ¬ gb = wr.heap.size + 1 := by omega
        have hng' : ¬ wr.heap.size + 1 = gb := by omega
        have kr' := (kr.low (g := wr.heap.size + 1) (j := 0) (by rw [hW2]; omega) (.int .i64 n1)).low (g := wr.heap.size + 1) (j := 1) (by rw [hW2]; omega) (.slice ra X.length rc)
        have bW4 := (bW3.setCell (p := ⟨wr.heap.size + 1, 0, none⟩) (Nat.le_succ _) (.int .i64 n1)).setCell (p := ⟨wr.heap.size + 1, 1, none⟩) (Nat.le_succ _) (.slice ra X.length rc)
        by_cases hc0 : c = 0
        · subst hc0
          have HK : Hid (∃ next v L, Mk w1 ((((w3.setCell ⟨wr.heap.size + 1, 0, none⟩ (.int .i64 n1)).setCell ⟨wr.heap.size + 1, 1, none⟩ (.slice ra X.length rc)).setCell ⟨gb, 0, none⟩ (.int .i64 n1)).setCell ⟨gb, 1, none⟩ (.slice ra X.length rc)) gb next v L) := ⟨n1, .slice ra X.length rc, X, ⟨(((M3.q.other hng (.int .i64 n1)).other hng (.slice ra X.length rc)).set0 (.int .i64 n1)).set1 (.slice ra X.length rc), ((kr'.low (g := gb) (j := 0) (by rw [hW2]; omega) (.int .i64 n1)).low (g := gb) (j := 1) (by rw [hW2]; omega) (.slice ra X.length rc)).base (by rw [hW2]; omega), hrt rfl, (((M3.b.setCell (p := ⟨wr.heap.size + 1, 0, none⟩) (by show gb ≤ wr.heap.size + 1; omega) _).setCell (p := ⟨wr.heap.size + 1, 1, none⟩) (by show gb ≤ wr.heap.size + 1; omega) _).setCell (p := ⟨gb, 0, none⟩) (Nat.le_refl _) _).setCell (p := ⟨gb, 1, none⟩) (Nat.le_refl _) _, M.g⟩⟩
          clear tf yf kr kr' bW3 bW4 b3 zc3 M3 M2 M hrt hput hdel hrem HM hLi hLi2 zc bA hsl c0 c1 c2 c3 c4 c5 hbw hl HZ HS
          generalize X.length = XL at *
          go_wp2_with fail
          exact ⟨⟨k + 1, hlt, by first | (rw [hw1]; done) | go_num, HK⟩, by first | (rw [hw1]; exact Nat.sub_lt_sub_left hlt (Nat.lt_succ_self k)) | (simp [intOf]; omega)⟩
        · have dc : (c == 0) = false := beq_eq_false_iff_ne.2 hc0
          have HK : Hid (∃ next v L, Mk w1 ((w3.setCell ⟨wr.heap.size + 1, 0, none⟩ (.int .i64 n1)).setCell ⟨wr.heap.size + 1, 1, none⟩ (.slice ra X.length rc)) gb next v L) := ⟨_, _, _, M.later bW4⟩
          clear tf yf kr kr' bW3 bW4 b3 zc3 M3 M2 M hrt hput hdel hrem HM hLi hLi2 zc bA hsl hc0 c0 c1 c2 c3 c4 c5 hbw hl HZ HS
          generalize X.length = XL at *
          go_wp2_with fail
          exact ⟨⟨k + 1, hlt, by first | (rw [hw1]; done) | go_num, HK⟩, by first | (rw [hw1]; exact Nat.sub_lt_sub_left hlt (Nat.lt_succ_self k)) | (simp [intOf]; omega)⟩
      · have f1 : (o.kind == 1) = false := beq_eq_false_iff_ne.2 g1
        by_cases g2 : o.kind = 2
        · have f2 : (o.kind == 2) = true := by rw [g2]; rfl
          clear g2 g1
          go_wp2_with fail
          with_reducible refine Calls.mono hdel ?_
          rintro e w3 ⟨n1, X, s, c, ⟨rv, rfl, kr, b3⟩, hrt⟩
          obtain ⟨ra, rc, rfl, _⟩ := kr.ls
          dsimp only
          have M3 := M2.later b3
          have zc3 := zc.later b3
          have bW3 := bA.trans (b3.mono bA.size)
          obtain ⟨t0, t1, tf⟩ := zc3.cells
          have tf0 := tf 0
          have tf1 := tf 1
          obtain ⟨y0, y1, yf⟩ := M3.q.cells
          have yf0 := yf 0
          have yf1 := yf 1
          have hng : ¬ gb = wr.heap.size + 1 := by omega
          have hng' : ¬ wr.heap.size + 1 = gb := by omega
          have kr' := (kr.low (g := wr.heap.size + 1) (j := 0) (by rw [hW2]; omega) (.int .i64 n1)).low (g := wr.heap.size + 1) (j := 1) (by rw [hW2]; omega) (.slice ra X.length rc)
          have bW4 := (bW3.setCell (p := ⟨wr.heap.size + 1, 0, none⟩) (Nat.le_succ _) (.int .i64 n1)).setCell (p := ⟨wr.heap.size + 1, 1, none⟩) (Nat.le_succ _) (.slice ra X.length rc)
          by_cases hc0 : c = 0
          · subst hc0
            have HK : Hid (∃ next v L, Mk w1 ((((w3.setCell ⟨wr.heap.size + 1, 0, none⟩ (.int .i64 n1)).setCell ⟨wr.heap.size + 1, 1, none⟩ (.slice ra X.length rc)).setCell ⟨gb, 0, none⟩ (.int .i64 n1)).setCell ⟨gb, 1, none⟩ (.slice ra X.length rc)) gb next v L) := ⟨n1, .slice ra X.length rc, X, ⟨(((M3.q.other hng (.int .i64 n1)).other hng (.slice ra X.length rc)).set0 (.int .i64 n1)).set1 (.slice ra X.length rc), ((kr'.low (g := gb) (j := 0) (by rw [hW2]; omega) (.int .i64 n1)).low (g := gb) (j := 1) (by rw [hW2]; omega) (.slice ra X.length rc)).base (by rw [hW2]; omega), hrt rfl, (((M3.b.setCell (p := ⟨wr.heap.size + 1, 0, none⟩) (by show gb ≤ wr.heap.size + 1; omega) _).setCell (p := ⟨wr.heap.size + 1, 1, none⟩) (by show gb ≤ wr.heap.size + 1; omega) _).setCell (p := ⟨gb, 0, none⟩) (Nat.le_refl _) _).setCell (p := ⟨gb, 1, none⟩) (Nat.le_refl _) _, M.g⟩⟩
            clear tf yf kr kr' bW3 bW4 b3 zc3 M3 M2 M hrt hput hdel hrem HM hLi hLi2 zc bA hsl c0 c1 c2 c3 c4 c5 hbw hl HZ HS
            generalize X.length = XL at *
            go_wp2_with fail
            exact ⟨⟨k + 1, hlt, by first | (rw [hw1]; done) | go_num, HK⟩, by first | (rw [hw1]; exact Nat.sub_lt_sub_left hlt (Nat.lt_succ_self k)) | (simp [intOf]; omega)⟩
          · have dc : (c == 0) = false := beq_eq_false_iff_ne.2 hc0
            have HK : Hid (∃ next v L, Mk w1 ((w3.setCell ⟨wr.heap.size + 1, 0, none⟩ (.int .i64 n1)).setCell ⟨wr.heap.size + 1, 1, none⟩ (.slice ra X.length rc)) gb next v L) := ⟨_, _, _, M.later bW4⟩
            clear tf yf kr kr' bW3 bW4 b3 zc3 M3 M2 M hrt hput hdel hrem HM hLi hLi2 zc bA hsl hc0 c0 c1 c2 c3 c4 c5 hbw hl HZ HS
            generalize X.length = XL at *
            go_wp2_with fail
            exact ⟨⟨k + 1, hlt, by first | (rw [hw1]; done) | go_num, HK⟩, by first | (rw [hw1]; exact Nat.sub_lt_sub_left hlt (Nat.lt_succ_self k)) | (simp [intOf]; omega)⟩
        · have f2 : (o.kind == 2) = false := beq_eq_false_iff_ne.2 g2
          by_cases g3 : o.kind = 3
          · have f3 : (o.kind == 3) = true := by rw [g3]; rfl
            clear g3 g2 g1
            go_wp2_with fail
            with_reducible refine Calls.mono hrem ?_
            rintro e w3 ⟨n1, X, c, ⟨rv, rfl, kr, b3⟩, hrt⟩
            obtain ⟨ra, rc, rfl, _⟩ := kr.ls
            dsimp only
            have M3 := M2.later b3
            have zc3 := zc.later b3
            have bW3 := bA.trans (b3.mono bA.size)
            obtain ⟨t0, t1, tf⟩ := zc3.cells
            have tf0 := tf 0
            have tf1 := tf 1
            obtain ⟨y0, y1, yf⟩ := M3.q.cells
            have yf0 := yf 0
            have yf1 := yf 1
            have hng : ¬ gb = wr.heap.size + 1 := by omega
            have hng' : ¬ wr.heap.size + 1 = gb := by omega
            have kr' := (kr.low (g := wr.heap.size + 1) (j := 0) (by rw [hW2]; omega) (.int .i64 n1)).low (g := wr.heap.size + 1) (j := 1) (by rw [hW2]; omega) (.slice ra X.length rc)
            have bW4 := (bW3.setCell (p := ⟨wr.heap.size + 1, 0, none⟩) (Nat.le_succ _) (.int .i64 n1)).setCell (p := ⟨wr.heap.size + 1, 1, none⟩) (Nat.le_succ _) (.slice ra X.length rc)
            by_cases hc0 : c = 0
            · subst hc0
              have HK : Hid (∃ next v L, Mk w1 ((((w3.setCell ⟨wr.heap.size + 1, 0, none⟩ (.int .i64 n1)).setCell ⟨wr.heap.size + 1, 1, none⟩ (.slice ra X.length rc)).setCell ⟨gb, 0, none⟩ (.int .i64 n1)).setCell ⟨gb, 1, none⟩ (.slice ra X.length rc)) gb next v L) := ⟨n1, .slice ra X.length rc, X, ⟨(((M3.q.other hng (.int .i64 n1)).other hng (.slice ra X.length rc)).set0 (.int .i64 n1)).set1 (.slice ra X.length rc), ((kr'.low (g := gb) (j := 0) (by rw [hW2]; omega) (.int .i64 n1)).low (g := gb) (j := 1) (by rw [hW2]; omega) (.slice ra X.length rc)).base (by rw [hW2]; omega), hrt rfl, (((M3.b.setCell (p := ⟨wr.heap.size + 1, 0, none⟩) (by show gb ≤ wr.heap.size + 1; omega) _).setCell (p := ⟨wr.heap.size + 1, 1, none⟩) (by show gb ≤ wr.heap.size + 1; omega) _).setCell (p := ⟨gb, 0, none⟩) (Nat.le_refl _) _).setCell (p := ⟨gb, 1, none⟩) (Nat.le_refl _) _, M.g⟩⟩
              clear tf yf kr kr' bW3 bW4 b3 zc3 M3 M2 M hrt hput hdel hrem HM hLi hLi2 zc bA hsl c0 c1 c2 c3 c4 c5 hbw hl HZ HS
              generalize X.length = XL at *
              go_wp2_with fail
              exact ⟨⟨k + 1, hlt, by first | (rw [hw1]; done) | go_num, HK⟩, by first | (rw [hw1]; exact Nat.sub_lt_sub_left hlt (Nat.lt_succ_self k)) | (simp [intOf]; omega)⟩
            · have dc : (c == 0) = false := beq_eq_false_iff_ne.2 hc0
              have HK : Hid (∃ next v L, Mk w1 ((w3.setCell ⟨wr.heap.size + 1, 0, none⟩ (.int .i64 n1)).setCell ⟨wr.heap.size + 1, 1, none⟩ (.slice ra X.length rc)) gb next v L) := ⟨_, _, _, M.later bW4⟩
              clear tf yf kr kr' bW3 bW4 b3 zc3 M3 M2 M hrt hput hdel hrem HM hLi hLi2 zc bA hsl hc0 c0 c1 c2 c3 c4 c5 hbw hl HZ HS
              generalize X.length = XL at *
              go_wp2_with fail
              exact ⟨⟨k + 1, hlt, by first | (rw [hw1]; done) | go_num, HK⟩, by first | (rw [hw1]; exact Nat.sub_lt_sub_left hlt (Nat.lt_succ_self k)) | (simp [intOf]; omega)⟩
          · have f3 : (o.kind == 3) = false := beq_eq_false_iff_ne.2 g3
            have HK : Hid (∃ nx v' L', Mk w1 ((wr.alloc (.cells #[.int .i64 o.kind, str o.key, str o.data, .slice ma o.l.length mc, .int .i64 o.seq, .int .i64 o.most] 34)).alloc (.cells #[.int .i64 next, .slice la L.length lc] 24)) gb nx v' L') := ⟨_, _, _, M2⟩
            clear M M2 hput hdel hrem HM hLi hLi2 zc bA hsl hbw hl HZ HS g1 g2 g3
            go_wp2_with fail
            exact ⟨⟨k + 1, hlt, by first | (rw [hw1]; done) | go_num, HK⟩, by first | (rw [hw1]; exact Nat.sub_lt_sub_left hlt (Nat.lt_succ_self k)) | (simp [intOf]; omega)⟩
    · obtain rfl : k = S.length := Nat.le_antisymm hk (Nat.le_of_not_lt hlt)
      have d1 : decide ((S.length : Int) < (S.length : Int)) = false := decide_eq_false (fun q => Int.lt_irrefl _ q)
      obtain ⟨p0, p1, _⟩ := M.q.cells
      have zr : Bq wr w.heap.size (.int .i64 0) (.slice none 0 0) := HZ.out.low hgr.out M.b
      obtain ⟨y0, y1, yf⟩ := zr.cells
      have yf0 := yf 0
      have yf1 := yf 1
      have z9 := (zr.set0 (.int .i64 next)).set1 (.slice la L.length lc)
      have o9 := ((M.c.low (g := w.heap.size) (j := 0) (by have := hgr.out; omega) (.int .i64 next)).low (g := w.heap.size) (j := 1) (by have := hgr.out; omega) (.slice la L.length lc)).base (b' := w.heap.size) (by have := hgr.out; omega)
      have B9 := (hbw.setCell (p := ⟨w.heap.size, 0, none⟩) (Nat.le_refl _) (.int .i64 next)).setCell (p := ⟨w.heap.size, 1, none⟩) (Nat.le_refl _) (.slice la L.length lc)
      have HR := Hid.mk M.r
      clear M HM hLi zr yf hbw hl HZ HS
      have HO : Hid (∀ e, e = Ending.returned (.agg #[.int .i64 next, .slice la L.length lc]) → ∃ nx L' v', e = .returned (.agg #[.int .i64 nx, v']) ∧ RtB nx L' ∧ Cp w.heap.size ((wr.setCell ⟨w.heap.size, 0, none⟩ (.int .i64 next)).setCell ⟨w.heap.size, 1, none⟩ (.slice la L.length lc)) v' L' ∧ Below w.heap.size w ((wr.setCell ⟨w.heap.size, 0, none⟩ (.int .i64 next)).setCell ⟨w.heap.size, 1, none⟩ (.slice la L.length lc))) := ⟨fun e he => ⟨next, L, _, he, HR.out, o9, B9⟩⟩
      clear o9 B9 HR
      generalize L.length = LL at *
      go_wp2_with fail
      obtain ⟨g0, g1, _⟩ := z9.cells
      generalize (wr.setCell ⟨w.heap.size, 0, none⟩ (.int .i64 next)).setCell ⟨w.heap.size, 1, none⟩ (.slice la LL lc) = W9 at *
      refine bodyPost_ret (v := .agg #[.int .i64 next, .slice la LL lc]) ?_ rfl (HO.out _ rfl)
      rw [results_cell1 rfl]
      go_simp
end Go.Proofs.YtgcdnanfnbdjjaaGreat
