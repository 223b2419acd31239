/- StackGrows: the walk. -/
import Derived.Test.YtjhfiidodmndaaaIin
namespace Go.Proofs.Ytjhfiidodmndaaa
set_option linter.unusedVariables false
set_option linter.unusedSimpArgs false
open Go.RowKit
attribute [local go_sem ↓] Go.wp_at_zero Go.wp_at_succ
attribute [local go_sem ↓] slVe
theorem app_li {base : Nat} {w : World} {v : Value} {S : List Vs} {u : Vs} (h : Cp base w v (S ++ [u])) (hl : S.length ≤ 60) (hz : ∀ x ∈ S ++ [u], x.l.length ≤ 4398046510976) : ∃ a c, v = .slice a (S.length + 1) c ∧ Li w (S ++ [u]) a (S.length + 1) c := by
  obtain ⟨a, c, e, l⟩ := h.li (by simp; omega) hz
  rw [List.length_append] at e l
  exact ⟨a, c, e, l⟩
theorem wr_s {n : Nat} (h : n ≤ 1000) : wrap64 ((n : Int) + 1) = ((n + 1 : Nat) : Int) := by unfold wrap64; omega
theorem wr_t {n : Nat} (h : n ≤ 1000) : IntKind.i64.wrap ((n : Int) + 1) = ((n + 1 : Nat) : Int) := by rw [IntKind.wrap_i64]; omega
theorem wr_m {n m : Nat} (h : n ≤ 1000) (hm : m + 1 = n) : wrap64 ((n : Int) - 1) = (m : Int) := by unfold wrap64; omega
theorem wr_n {n m : Nat} (h : n ≤ 1000) (hm : m + 1 = n) : IntKind.i64.wrap ((n : Int) - 1) = (m : Int) := by rw [IntKind.wrap_i64]; omega
theorem meas60 {k : Nat} (h : k < 60) : 60 - (intOf (.int .i64 ((k + 1 : Nat) : Int))).toNat < 60 - (intOf (.int .i64 (k : Int))).toNat := by
  show 60 - (((k + 1 : Nat) : Int)).toNat < 60 - ((k : Int)).toNat
  omega
set_option maxRecDepth 100000 in
set_option maxHeartbeats 8000000 in
theorem stackGrows_walk (L : List Vs) (a : Option Addr) (cap : Nat) (Z : List Int) (za : Option Addr) (zc : Nat) (W : World) (hL : Li W L a L.length cap) (h6 : ∀ u ∈ L, -9223372036854775808 ≤ u.seq ∧ u.seq ≤ 9223372036854775807) (hl1 : L.length ≤ 1954687338211) (hZ : IIn W za Z) (hZl : Z.length ≤ 17592186043904) :
    Calls Try.prog 4 #[.slice a L.length cap, .slice za Z.length zc] W fun e W' => e = .returned (.bool true) ∧ Below W.heap.size W W' := by
  have hLL := Hid.mk hL
  have hZZ := Hid.mk hZ
  have H6 := Hid.mk h6
  have hzz := hL.z
  clear hL hZ h6
  go_enter Try.func4, Try.ntmps4
  go_wp2_with fail
  with_reducible refine Calls.mono (head_any _) ?_
  rintro e w1 ⟨rfl, B1⟩
  dsimp only
  have C0 := Cp.nil w1 W.heap.size B1.size
  go_wp2_with fail
  go_loopw [5, 6] (fun o i wr => ∃ k : Nat, k ≤ L.length ∧ k ≤ 60 ∧ i = .int .i64 (k : Int) ∧ Hid (∃ S, Gs S k ∧ Cp W.heap.size wr o S) ∧ Below W.heap.size W wr) (fun o i _ => 60 - (intOf i).toNat)
  case atStart => exact ⟨0, by omega, by omega, rfl, ⟨[], Gs.nil 0, C0⟩, B1⟩
  case round =>
    clear C0 B1
    obtain ⟨k, hk, hk6, rfl, hO, hb⟩ := hrel
    by_cases hlt : k < L.length ∧ k < 60
    · obtain ⟨hlt, hl6⟩ := hlt
      have d1 : decide ((k : Int) < (L.length : Int)) = true := decide_eq_true (by omega)
      have d2 : decide ((k : Int) < 60) = true := decide_eq_true (by omega)
      have k2 : (k : Int) < (L.length : Int) := by omega
      have hw1 := wr_s (n := k) (by omega)
      obtain ⟨S, gs, cp⟩ := hO.out
      clear hO
      have HG := Hid.mk gs
      have hSl : S.length ≤ 60 := by have := gs.len; omega
      obtain ⟨la, lc, rfl, S1⟩ := cp.li (by omega) gs.z
      clear gs
      obtain ⟨u, hu⟩ : ∃ u, L[k]? = some u := ⟨L[k], List.getElem?_eq_getElem hlt⟩
      obtain ⟨b, off, ma, mc, rfl, hbl, c0, c1, c2, c3, c4, hsl⟩ := hLL.out.s.at'.get k u hu
      have HC : Hid (∀ w', Below W.heap.size W w' → w'.cell? ⟨b, off + k * 5, none⟩ = some (str u.key) ∧ w'.cell? ⟨b, off + k * 5 + 1, none⟩ = some (.int .i64 u.seq) ∧ w'.cell? ⟨b, off + k * 5 + 2, none⟩ = some (.bool u.mkr) ∧ w'.cell? ⟨b, off + k * 5 + 3, none⟩ = some (str u.data) ∧ w'.cell? ⟨b, off + k * 5 + 4, none⟩ = some (.slice ma u.l.length mc) ∧ Sl w' ma mc u.l) := ⟨fun w' hB => ⟨(hB.cell (p := ⟨b, _, none⟩) hbl).trans c0, (hB.cell (p := ⟨b, _, none⟩) hbl).trans c1, (hB.cell (p := ⟨b, _, none⟩) hbl).trans c2, (hB.cell (p := ⟨b, _, none⟩) hbl).trans c3, (hB.cell (p := ⟨b, _, none⟩) hbl).trans c4, hsl.later hB⟩⟩
      have hzu := hzz u (List.mem_of_getElem? hu)
      have hu6 := Hid.mk (H6.out u (List.mem_of_getElem? hu))
      clear hu c0 c1 c2 c3 c4 hsl
      obtain ⟨c0, c1, c2, c3, c4, hsl⟩ := HC.out wr hb
      go_wp2_with fail
      with_reducible refine Calls.mono (lown_any u wr ma _ mc rfl hsl hzu) ?_
      rintro e w2 ⟨oa, oc, rfl, ow2, b2⟩
      dsimp only
      have B2 := hb.trans (b2.mono hb.size)
      have S2 := S1.later b2
      have cp2 := cp.later b2
      clear c0 c1 c2 c3 c4 hsl S1 cp b2
      go_wp2_with fail
      with_reducible refine Calls.mono (push_any S u w2 la _ lc oa _ oc S2 ⟨rfl, ow2.asSl, hzu⟩) ?_
      rintro e w3 ⟨r3, rfl, k3, b3⟩
      dsimp only
      have B3 := B2.trans (b3.mono B2.size)
      have S3 := S2.later b3
      have cp3 := cp2.later b3
      have k3' := k3.base (b' := W.heap.size) B2.size
      clear S2 cp2 b3 k3 ow2
      by_cases hp : puE S u = 0
      · rw [puL_yes hp] at k3'
        rw [hp]
        have GP := HG.out.push hp hu6.out.2 hzu
        have HP := Hid.mk GP
        obtain ⟨pa, pc, rfl, P3⟩ := app_li k3' hSl GP.z
        obtain ⟨g1, g2⟩ := push_back GP.rt
        have hrm := remove_any (S ++ [u]) u.seq w3 pa _ pc P3
        rw [g1, g2] at hrm
        clear g1 g2 hp GP
        obtain ⟨c0, c1, c2, c3, c4, hsl⟩ := HC.out w3 B3
        go_wp2_with fail
        with_reducible refine Calls.mono hrm ?_
        rintro e w4 ⟨r4, rfl, k4, b4⟩
        dsimp only
        have B4 := B3.trans (b4.mono B3.size)
        have S4 := S3.later b4
        have P4 := P3.later b4
        have kp4 := k3'.later b4
        clear c0 c1 c2 c3 c4 hsl S3 cp3 P3 k3' hrm b4
        obtain ⟨ra, rc, rfl, R4⟩ := k4.li (by omega) HG.out.z
        clear k4
        have hal1 : ∀ w', Below w4.heap.size w4 w' → Calls Try.prog 11 #[.slice ra S.length rc, .slice la S.length lc] w' fun e w'' => e = .returned (.bool true) ∧ Below w'.heap.size w' w'' := fun w' hB => by
          have := alike_any _ _ w' _ _ _ _ _ _ (R4.later hB) (S4.later hB)
          rw [svL_true rfl] at this
          exact this
        have T4 := P4.take (k := S.length) (by omega)
        rw [List.take_left] at T4
        have hal2 : ∀ w', Below w4.heap.size w4 w' → Calls Try.prog 11 #[.slice pa S.length pc, .slice la S.length lc] w' fun e w'' => e = .returned (.bool true) ∧ Below w'.heap.size w' w'' := fun w' hB => by
          have := alike_any _ _ w' _ _ _ _ _ _ (T4.later hB) (S4.later hB)
          rw [svL_true rfl] at this
          exact this
        have hr := fun w => run_slV pa (S.length + 1) pc S.length (by have := P4.s.le; simp at this; omega) P4.s.max P4.s.nil w
        obtain ⟨c0, c1, c2, c3, c4, hsl⟩ := HC.out w4 B4
        obtain ⟨pb, poff, pma, pmc, rfl, pbl, e0, e1, e2, e3, e4, psl⟩ := P4.s.at'.get S.length u (by simp)
        have hlk : ∀ w', Below w4.heap.size w4 w' → Calls Try.prog 17 #[vv u.key u.seq u.mkr u.data pma u.l.length pmc, vv u.key u.seq u.mkr u.data ma u.l.length mc] w' fun e w'' => e = .returned (.bool true) ∧ Below w'.heap.size w' w'' := fun w' hB => by
          have := like_any u u w' pma _ pmc rfl (psl.later hB).at' (by omega) ma _ mc rfl (hsl.later hB).at' (by omega)
          rw [sv_true rfl] at this
          exact this
        have hbl4 : b < w4.heap.size := Nat.lt_of_lt_of_le hbl B4.size
        have HS : Hid (∀ w', Below w4.heap.size w4 w' → Below w4.heap.size w4 w' ∧ w'.cell? ⟨pb, poff + S.length * 5, none⟩ = some (str u.key) ∧ w'.cell? ⟨pb, poff + S.length * 5 + 1, none⟩ = some (.int .i64 u.seq) ∧ w'.cell? ⟨pb, poff + S.length * 5 + 2, none⟩ = some (.bool u.mkr) ∧ w'.cell? ⟨pb, poff + S.length * 5 + 3, none⟩ = some (str u.data) ∧ w'.cell? ⟨pb, poff + S.length * 5 + 4, none⟩ = some (.slice pma u.l.length pmc) ∧ w'.cell? ⟨b, off + k * 5, none⟩ = some (str u.key) ∧ w'.cell? ⟨b, off + k * 5 + 1, none⟩ = some (.int .i64 u.seq) ∧ w'.cell? ⟨b, off + k * 5 + 2, none⟩ = some (.bool u.mkr) ∧ w'.cell? ⟨b, off + k * 5 + 3, none⟩ = some (str u.data) ∧ w'.cell? ⟨b, off + k * 5 + 4, none⟩ = some (.slice ma u.l.length mc)) := ⟨fun w' hB => ⟨hB, (hB.cell (p := ⟨pb, _, none⟩) pbl).trans e0, (hB.cell (p := ⟨pb, _, none⟩) pbl).trans e1, (hB.cell (p := ⟨pb, _, none⟩) pbl).trans e2, (hB.cell (p := ⟨pb, _, none⟩) pbl).trans e3, (hB.cell (p := ⟨pb, _, none⟩) pbl).trans e4, (hB.cell (p := ⟨b, _, none⟩) hbl4).trans c0, (hB.cell (p := ⟨b, _, none⟩) hbl4).trans c1, (hB.cell (p := ⟨b, _, none⟩) hbl4).trans c2, (hB.cell (p := ⟨b, _, none⟩) hbl4).trans c3, (hB.cell (p := ⟨b, _, none⟩) hbl4).trans c4⟩⟩
        clear c0 c1 c2 c3 c4 e0 e1 e2 e3 e4 hsl psl
        have k3 : (S.length : Int) < ((S.length + 1 : Nat) : Int) := by omega
        have k4 : (S.length : Int) < (S.length : Int) + 1 := by omega
        have hw2 := wr_s (n := S.length) (Nat.le_trans hSl (by decide))
        have hw3 := wr_t (n := S.length) (Nat.le_trans hSl (by decide))
        go_wp2_with fail
        go_region_held3 (fun w' => Below w4.heap.size w4 w' ∧ w'.cell? ⟨pb, poff + S.length * 5, none⟩ = some (str u.key) ∧ w'.cell? ⟨pb, poff + S.length * 5 + 1, none⟩ = some (.int .i64 u.seq) ∧ w'.cell? ⟨pb, poff + S.length * 5 + 2, none⟩ = some (.bool u.mkr) ∧ w'.cell? ⟨pb, poff + S.length * 5 + 3, none⟩ = some (str u.data) ∧ w'.cell? ⟨pb, poff + S.length * 5 + 4, none⟩ = some (.slice pma u.l.length pmc) ∧ w'.cell? ⟨b, off + k * 5, none⟩ = some (str u.key) ∧ w'.cell? ⟨b, off + k * 5 + 1, none⟩ = some (.int .i64 u.seq) ∧ w'.cell? ⟨b, off + k * 5 + 2, none⟩ = some (.bool u.mkr) ∧ w'.cell? ⟨b, off + k * 5 + 3, none⟩ = some (str u.data) ∧ w'.cell? ⟨b, off + k * 5 + 4, none⟩ = some (.slice ma u.l.length mc)) (first
          | exact HS.out _ (Below.refl _ _).drew
          | exact HS.out _ (below_seq (And.left (by assumption)) b5)
          | exact HS.out _ (below_seq (And.left (by assumption)) b6)
          | exact HS.out _ (below_seq (And.left (by assumption)) b7)) (first
          | (go_at_call 11; with_reducible refine Calls.mono (hal1 _ (And.left (by assumption))) ?_; rintro e w5 ⟨rfl, b5⟩)
          | (go_at_call 11; with_reducible refine Calls.mono (hal2 _ (And.left (by assumption))) ?_; rintro e w6 ⟨rfl, b6⟩)
          | (go_at_call 17; with_reducible refine Calls.mono (hlk _ (And.left (by assumption))) ?_; rintro e w7 ⟨rfl, b7⟩))
        have b7' : Below w4.heap.size w4 w7 := And.left (by assumption)
        clear b7 HS hal1 hal2 hlk hr S4 R4 T4 hw2 hw3 k3 k4
        have B8 := B4.trans (b7'.mono B4.size)
        have T8 := P4.later b7'
        have CP8 := kp4.later b7'
        clear B4 P4 kp4 b7' hbl4 pbl
        generalize hn1 : S.length + 1 = n at *
        have hn2 : n ≤ 61 := by omega
        clear hn1 hSl HG
        generalize S ++ [u] = T at *
        generalize (some (⟨pb, poff, none⟩ : Addr)) = ta at *
        generalize pc = tc at *
        have G8 := HP
        clear HP
        generalize w7 = w8 at *
        by_cases hz : k < Z.length
        · obtain ⟨r, hr⟩ : ∃ r, Z[k]? = some r := ⟨Z[k], List.getElem?_eq_getElem hz⟩
          have dz : decide ((k : Int) < (Z.length : Int)) = true := decide_eq_true (by omega)
          have kz : (k : Int) < (Z.length : Int) := by omega
          obtain ⟨zb, zoff, rfl, zbl, z0, _⟩ := hZZ.out.get k r hr
          have HZ : Hid (∀ w', Below W.heap.size W w' → w'.cell? ⟨zb, zoff + k, none⟩ = some (.int .i64 r)) := ⟨fun w' hB => (hB.cell (p := ⟨zb, _, none⟩) zbl).trans z0⟩
          clear hr z0 zbl
          have y8 := HZ.out w8 B8
          go_wp2_with fail
          with_reducible refine Calls.mono (remove_any T r w8 ta _ tc T8) ?_
          rintro e w9 ⟨r9, rfl, k9, b9⟩
          dsimp only
          have B9 := B8.trans (b9.mono B8.size)
          have T9 := T8.later b9
          have CP9 := CP8.later b9
          have y9 := HZ.out w9 B9
          have kb9 := k9.base (b' := W.heap.size) B8.size
          clear b9 B8 T8 CP8 y8 k9
          go_wp2_with fail
          with_reducible refine Calls.mono (get_any T r w9 ta _ tc T9) ?_
          rintro e w10 ⟨xa, xc, rfl, xo, b10⟩
          dsimp only
          have ba := (Below.refl w10.heap.size w10).alloc (Nat.le_refl _) (.cells #[str (geV T r).key, .int .i64 (geV T r).seq, .bool (geV T r).mkr, str (geV T r).data, .slice xa (geV T r).l.length xc] 33)
          have b11 := below_seq b10 ba
          have B11 := B9.trans (b11.mono B9.size)
          have T11 := T9.later b11
          have CP11 := CP9.later b11
          have kb11 := kb9.later b11
          have y11 := HZ.out _ B11
          clear b10 ba b11 B9 T9 CP9 y9 kb9 xo
          have hTn := T11.n
          have hTl : T.length ≤ 61 := by rw [hTn]; exact hn2
          obtain ⟨qa, qc, rfl, Q11⟩ := kb11.li (Nat.le_trans (rmL_len T r) (Nat.le_trans hTl (by decide))) (fun v hv => G8.out.z v (rmL_mem v hv))
          rcases geE_two T r with hg | hg
          · obtain ⟨gg1, gg2⟩ := rm_gone G8.out.rt hg
            have hGR := Hid.mk (G8.out.rem r)
            have hrm := remove_any (rmL T r) r _ qa _ qc Q11
            rw [gg1] at hrm
            rw [hg]
            rw [hTn] at gg2
            clear hg gg1 hTn hTl G8 T11 CP11
            generalize rmL T r = X at *
            generalize X.length = xn at *
            have hw4 := wr_m (n := n) (Nat.le_trans hn2 (by decide)) gg2
            have hw5 := wr_n (n := n) (Nat.le_trans hn2 (by decide)) gg2
            go_wp2_with fail
            generalize w10.alloc (.cells #[str (geV T r).key, .int .i64 (geV T r).seq, .bool (geV T r).mkr, str (geV T r).data, .slice xa (geV T r).l.length xc] 33) = w11 at *
            with_reducible refine Calls.mono hrm ?_
            rintro e w12 ⟨r12, rfl, k12, b12⟩
            dsimp only
            have BX := B11.trans (b12.mono B11.size)
            have LX := Q11.later b12
            have CX := kb11.later b12
            clear k12 b12 B11 Q11 kb11 hrm y11
            go_wp2_with fail
            with_reducible refine Calls.mono (right_any X w12 qa _ qc LX hGR.out.rt) ?_
            rintro e wR ⟨rfl, bR⟩
            dsimp only
            have LR := LX.later bR
            go_wp2_with fail
            with_reducible refine Calls.mono (told_any X wR qa _ qc LR hGR.out.rt hGR.out.hi) ?_
            rintro e wT ⟨rfl, bT⟩
            dsimp only
            have BT := (BX.trans (bR.mono BX.size)).trans (bT.mono (Nat.le_trans BX.size bR.size))
            have CT := (CX.later bR).later bT
            clear bR bT LR LX CX BX
            go_wp2_with fail
            exact ⟨⟨k + 1, by omega, by omega, by go_num, ⟨⟨X, hGR.out, CT⟩⟩, BT⟩, by first | (rw [hw1]; exact meas60 hl6) | exact meas60 hl6⟩
          · rw [hg]
            clear hg hTn hTl Q11 kb11
            have LX := T11
            have CX := CP11
            have BX := B11
            clear T11 CP11 B11
            go_wp2_with fail
            generalize w10.alloc (.cells #[str (geV T r).key, .int .i64 (geV T r).seq, .bool (geV T r).mkr, str (geV T r).data, .slice xa (geV T r).l.length xc] 33) = w11 at *
            with_reducible refine Calls.mono (right_any T w11 ta _ tc LX G8.out.rt) ?_
            rintro e wR ⟨rfl, bR⟩
            dsimp only
            have LR := LX.later bR
            go_wp2_with fail
            with_reducible refine Calls.mono (told_any T wR ta _ tc LR G8.out.rt G8.out.hi) ?_
            rintro e wT ⟨rfl, bT⟩
            dsimp only
            have BT := (BX.trans (bR.mono BX.size)).trans (bT.mono (Nat.le_trans BX.size bR.size))
            have CT := (CX.later bR).later bT
            clear bR bT LR LX CX BX
            go_wp2_with fail
            exact ⟨⟨k + 1, by omega, by omega, by go_num, ⟨⟨T, G8.out, CT⟩⟩, BT⟩, by first | (rw [hw1]; exact meas60 hl6) | exact meas60 hl6⟩
        · have dz : decide ((k : Int) < (Z.length : Int)) = false := decide_eq_false (by omega)
          have LX := T8
          have CX := CP8
          have BX := B8
          clear T8 CP8 B8
          go_wp2_with fail
          with_reducible refine Calls.mono (right_any T w8 ta _ tc LX G8.out.rt) ?_
          rintro e wR ⟨rfl, bR⟩
          dsimp only
          have LR := LX.later bR
          go_wp2_with fail
          with_reducible refine Calls.mono (told_any T wR ta _ tc LR G8.out.rt G8.out.hi) ?_
          rintro e wT ⟨rfl, bT⟩
          dsimp only
          have BT := (BX.trans (bR.mono BX.size)).trans (bT.mono (Nat.le_trans BX.size bR.size))
          have CT := (CX.later bR).later bT
          clear bR bT LR LX CX BX
          go_wp2_with fail
          exact ⟨⟨k + 1, by omega, by omega, by go_num, ⟨⟨T, G8.out, CT⟩⟩, BT⟩, by first | (rw [hw1]; exact meas60 hl6) | exact meas60 hl6⟩
      · rw [puL_nix hp] at k3'
        have GU := Hid.mk HG.out.up
        obtain ⟨pa, pc, rfl, P3⟩ := k3'.li (by simp) (by simp)
        rw [List.length_nil]
        obtain ⟨E, hE⟩ : ∃ E, E = puE S u := ⟨_, rfl⟩
        rw [← hE] at hp ⊢
        have dE : (E == 0) = false := by rw [beq_eq_false_iff_ne]; exact hp
        have dE' : (E != 0) = true := by rw [bne_iff_ne]; exact hp
        have dE'' : decide (E = 0) = false := decide_eq_false hp
        clear hE hp P3 k3' HG
        generalize hn1 : S.length = n at *
        have hn2 : n ≤ 61 := by omega
        clear hn1 hSl
        have T8 := S3
        have CP8 := cp3
        have B8 := B3
        have G8 := GU
        clear S3 cp3 B3 GU B2
        generalize pc = pc1 at *
        generalize pa = pa1 at *
        generalize S = T at *
        generalize la = ta at *
        generalize lc = tc at *
        generalize w3 = w8 at *
        by_cases hz : k < Z.length
        · obtain ⟨r, hr⟩ : ∃ r, Z[k]? = some r := ⟨Z[k], List.getElem?_eq_getElem hz⟩
          have dz : decide ((k : Int) < (Z.length : Int)) = true := decide_eq_true (by omega)
          have kz : (k : Int) < (Z.length : Int) := by omega
          obtain ⟨zb, zoff, rfl, zbl, z0, _⟩ := hZZ.out.get k r hr
          have HZ : Hid (∀ w', Below W.heap.size W w' → w'.cell? ⟨zb, zoff + k, none⟩ = some (.int .i64 r)) := ⟨fun w' hB => (hB.cell (p := ⟨zb, _, none⟩) zbl).trans z0⟩
          clear hr z0 zbl
          have y8 := HZ.out w8 B8
          go_wp2_with fail
          with_reducible refine Calls.mono (remove_any T r w8 ta _ tc T8) ?_
          rintro e w9 ⟨r9, rfl, k9, b9⟩
          dsimp only
          have B9 := B8.trans (b9.mono B8.size)
          have T9 := T8.later b9
          have CP9 := CP8.later b9
          have y9 := HZ.out w9 B9
          have kb9 := k9.base (b' := W.heap.size) B8.size
          clear b9 B8 T8 CP8 y8 k9
          go_wp2_with fail
          with_reducible refine Calls.mono (get_any T r w9 ta _ tc T9) ?_
          rintro e w10 ⟨xa, xc, rfl, xo, b10⟩
          dsimp only
          have ba := (Below.refl w10.heap.size w10).alloc (Nat.le_refl _) (.cells #[str (geV T r).key, .int .i64 (geV T r).seq, .bool (geV T r).mkr, str (geV T r).data, .slice xa (geV T r).l.length xc] 33)
          have b11 := below_seq b10 ba
          have B11 := B9.trans (b11.mono B9.size)
          have T11 := T9.later b11
          have CP11 := CP9.later b11
          have kb11 := kb9.later b11
          have y11 := HZ.out _ B11
          clear b10 ba b11 B9 T9 CP9 y9 kb9 xo
          have hTn := T11.n
          have hTl : T.length ≤ 61 := by rw [hTn]; exact hn2
          obtain ⟨qa, qc, rfl, Q11⟩ := kb11.li (Nat.le_trans (rmL_len T r) (Nat.le_trans hTl (by decide))) (fun v hv => G8.out.z v (rmL_mem v hv))
          rcases geE_two T r with hg | hg
          · obtain ⟨gg1, gg2⟩ := rm_gone G8.out.rt hg
            have hGR := Hid.mk (G8.out.rem r)
            have hrm := remove_any (rmL T r) r _ qa _ qc Q11
            rw [gg1] at hrm
            rw [hg]
            rw [hTn] at gg2
            clear hg gg1 hTn hTl G8 T11 CP11
            generalize rmL T r = X at *
            generalize X.length = xn at *
            have hw4 := wr_m (n := n) (Nat.le_trans hn2 (by decide)) gg2
            have hw5 := wr_n (n := n) (Nat.le_trans hn2 (by decide)) gg2
            go_wp2_with fail
            generalize w10.alloc (.cells #[str (geV T r).key, .int .i64 (geV T r).seq, .bool (geV T r).mkr, str (geV T r).data, .slice xa (geV T r).l.length xc] 33) = w11 at *
            with_reducible refine Calls.mono hrm ?_
            rintro e w12 ⟨r12, rfl, k12, b12⟩
            dsimp only
            have BX := B11.trans (b12.mono B11.size)
            have LX := Q11.later b12
            have CX := kb11.later b12
            clear k12 b12 B11 Q11 kb11 hrm y11
            go_wp2_with fail
            with_reducible refine Calls.mono (right_any X w12 qa _ qc LX hGR.out.rt) ?_
            rintro e wR ⟨rfl, bR⟩
            dsimp only
            have LR := LX.later bR
            go_wp2_with fail
            with_reducible refine Calls.mono (told_any X wR qa _ qc LR hGR.out.rt hGR.out.hi) ?_
            rintro e wT ⟨rfl, bT⟩
            dsimp only
            have BT := (BX.trans (bR.mono BX.size)).trans (bT.mono (Nat.le_trans BX.size bR.size))
            have CT := (CX.later bR).later bT
            clear bR bT LR LX CX BX
            go_wp2_with fail
            exact ⟨⟨k + 1, by omega, by omega, by go_num, ⟨⟨X, hGR.out, CT⟩⟩, BT⟩, by first | (rw [hw1]; exact meas60 hl6) | exact meas60 hl6⟩
          · rw [hg]
            clear hg hTn hTl Q11 kb11
            have LX := T11
            have CX := CP11
            have BX := B11
            clear T11 CP11 B11
            go_wp2_with fail
            generalize w10.alloc (.cells #[str (geV T r).key, .int .i64 (geV T r).seq, .bool (geV T r).mkr, str (geV T r).data, .slice xa (geV T r).l.length xc] 33) = w11 at *
            with_reducible refine Calls.mono (right_any T w11 ta _ tc LX G8.out.rt) ?_
            rintro e wR ⟨rfl, bR⟩
            dsimp only
            have LR := LX.later bR
            go_wp2_with fail
            with_reducible refine Calls.mono (told_any T wR ta _ tc LR G8.out.rt G8.out.hi) ?_
            rintro e wT ⟨rfl, bT⟩
            dsimp only
            have BT := (BX.trans (bR.mono BX.size)).trans (bT.mono (Nat.le_trans BX.size bR.size))
            have CT := (CX.later bR).later bT
            clear bR bT LR LX CX BX
            go_wp2_with fail
            exact ⟨⟨k + 1, by omega, by omega, by go_num, ⟨⟨T, G8.out, CT⟩⟩, BT⟩, by first | (rw [hw1]; exact meas60 hl6) | exact meas60 hl6⟩
        · have dz : decide ((k : Int) < (Z.length : Int)) = false := decide_eq_false (by omega)
          have LX := T8
          have CX := CP8
          have BX := B8
          clear T8 CP8 B8
          go_wp2_with fail
          with_reducible refine Calls.mono (right_any T w8 ta _ tc LX G8.out.rt) ?_
          rintro e wR ⟨rfl, bR⟩
          dsimp only
          have LR := LX.later bR
          go_wp2_with fail
          with_reducible refine Calls.mono (told_any T wR ta _ tc LR G8.out.rt G8.out.hi) ?_
          rintro e wT ⟨rfl, bT⟩
          dsimp only
          have BT := (BX.trans (bR.mono BX.size)).trans (bT.mono (Nat.le_trans BX.size bR.size))
          have CT := (CX.later bR).later bT
          clear bR bT LR LX CX BX
          go_wp2_with fail
          exact ⟨⟨k + 1, by omega, by omega, by go_num, ⟨⟨T, G8.out, CT⟩⟩, BT⟩, by first | (rw [hw1]; exact meas60 hl6) | exact meas60 hl6⟩
    · have hend : k = L.length ∨ k = 60 := by omega
      by_cases hlt1 : k < L.length
      · have d1 : decide ((k : Int) < (L.length : Int)) = true := decide_eq_true (by omega)
        have d2 : decide ((k : Int) < 60) = false := decide_eq_false (by omega)
        clear hend
        go_wp2_with fail
        go_ret
        exact ⟨rfl, hb⟩
      · have d1 : decide ((k : Int) < (L.length : Int)) = false := decide_eq_false (by omega)
        clear hend
        go_wp2_with fail
        go_ret
        exact ⟨rfl, hb⟩
end Go.Proofs.Ytjhfiidodmndaaa
