/- StackParts: the walk. -/
import Derived.Test.YtjhfiidodmndaaaMad
namespace Go.Proofs.Ytjhfiidodmndaaa
set_option linter.unusedVariables false
set_option linter.unusedSimpArgs false
open Go.RowKit
attribute [local go_sem ↓] Go.wp_at_zero Go.wp_at_succ
attribute [local go_sem ↓] slVe
theorem rwsL_at {S : List Vs} {i : Nat} {u : Vs} (hi : i < S.length) (h : S[S.length - 1 - i]? = some u) : (rwsL S)[i]? = some (rwOf u) := by
  unfold rwsL
  rw [List.getElem?_map, List.getElem?_reverse hi, h]
  rfl
theorem rwsL_dr {S : List Vs} {N i : Nat} {u : Vs} (hi : i < S.length - N) (h : S[S.length - 1 - i]? = some u) : (rwsL (S.drop N))[i]? = some (rwOf u) := by
  refine rwsL_at (by rw [List.length_drop]; exact hi) ?_
  rw [List.getElem?_drop, List.length_drop, show N + (S.length - N - 1 - i) = S.length - 1 - i by omega]
  exact h
theorem drop_li {w : World} {base : Nat} {v : Value} {S : List Vs} {N : Nat} (h : Cp base w v (S.drop N)) (hl : S.length ≤ 1954687338240) (hz : ∀ u ∈ S, u.l.length ≤ 4398046510976) : ∃ a c, v = .slice a (S.length - N) c ∧ Li w (S.drop N) a (S.length - N) c := by
  obtain ⟨a, c, e, l⟩ := h.li (by rw [List.length_drop]; omega) (fun u hu => hz u (List.mem_of_mem_drop hu))
  rw [List.length_drop] at e l
  exact ⟨a, c, e, l⟩
set_option maxRecDepth 100000 in
set_option maxHeartbeats 8000000 in
theorem stackParts_walk (L : List Vs) (a : Option Addr) (cap : Nat) (key : List UInt8) (s t m : Int) (W : World) (hL : Li W L a L.length cap) (hl1 : L.length ≤ 1954687338211) (hkl : key.length ≤ 140737488351232) (hs1 : -9223372036854775808 ≤ s) (hs2 : s ≤ 9223372036854775807) (ht1 : -9223372036854775808 ≤ t) (ht2 : t ≤ 9223372036854775807) (hm1 : -9223372036854775808 ≤ m) (hm2 : m ≤ 9223372036854775807) :
    Calls Try.prog 3 #[.slice a L.length cap, str key, .int .i64 s, .int .i64 t, .int .i64 m] W fun e W' => e = .returned (.bool true) ∧ Below W.heap.size W W' := by
  have hLL := Hid.mk hL
  have hSz : ∀ u ∈ md key 0 L, u.l.length ≤ 4398046510976 := fun u hu => by
    obtain ⟨_, _, _, x, hx, q, _⟩ := md_mem key 0 L u hu
    rw [q]; exact hL.z x hx
  have hSl : (md key 0 L).length ≤ 1954687338240 := by rw [md_len]; omega
  have hRt := Hid.mk (md_rt key L)
  clear hs1 hs2 ht1 ht2 hm1 hm2 hkl hL
  obtain ⟨N, hN, hsn, hlo, hhi⟩ := snc_drop m (md_up key 0 L)
  have Hsn := Hid.mk hsn
  have Hlo := Hid.mk hlo
  have Hhi := Hid.mk hhi
  clear hsn hlo hhi
  have hmd : ∀ w, Li w L a L.length cap → Calls Try.prog 9 #[.slice a L.length cap, str key] w fun e w' => ∃ v, e = .returned v ∧ Cp w.heap.size w' v (md key 0 L) ∧ Below w.heap.size w w' := fun w h => made_any L key w a _ cap h
  generalize md key 0 L = S at *
  go_enter Try.func3, Try.ntmps3
  go_wp2_with fail
  with_reducible refine Calls.mono (head_any _) ?_
  rintro e w1 ⟨rfl, B1⟩
  dsimp only
  go_wp2_with fail
  with_reducible refine Calls.mono (hmd w1 (hLL.out.later B1)) ?_
  rintro e w2 ⟨r2, rfl, k2, b2⟩
  dsimp only
  have B2 := B1.trans (b2.mono B1.size)
  obtain ⟨sa, sc, rfl, S2⟩ := k2.li hSl hSz
  clear b2 B1 hmd k2
  go_wp2_with fail
  with_reducible refine Calls.mono (remove_any S s w2 sa _ sc S2) ?_
  rintro e w3 ⟨r3, rfl, k3, b3⟩
  dsimp only
  have B3 := B2.trans (b3.mono B2.size)
  have S3 := S2.later b3
  clear b3 B2 S2
  go_wp2_with fail
  with_reducible refine Calls.mono (remove_any S t w3 sa _ sc S3) ?_
  rintro e w4 ⟨r4, rfl, k4, b4⟩
  dsimp only
  have B4 := B3.trans (b4.mono B3.size)
  have S4 := S3.later b4
  have k4' := k3.later b4
  clear b4 B3 S3 k3
  have hrs := rmL_len S s
  have hrt := rmL_len S t
  obtain ⟨pa, pc, rfl, P4⟩ := k4'.li (by omega) (fun u hu => hSz u (rmL_mem u hu))
  obtain ⟨qa, qc, rfl, Q4⟩ := k4.li (by omega) (fun u hu => hSz u (rmL_mem u hu))
  clear k4 k4'
  by_cases hif : geE S s = 0 ∧ geE S t = 0 ∧ ¬ s = t
  · obtain ⟨h1, h2, h3⟩ := hif
    obtain ⟨g1, g2, g3⟩ := rm_two hRt.out h1 h2 h3
    rw [h1, h2]
    have d0 : (s == t) = false := by rw [beq_eq_false_iff_ne]; exact h3
    have d0' : (s != t) = true := by rw [bne_iff_ne]; exact h3
    have d0'' : decide (s = t) = false := decide_eq_false h3
    clear h1 h2 h3
    have hra := remove_any (rmL S s) t w4 pa _ pc P4
    rw [g1] at hra
    go_wp2_with fail
    with_reducible refine Calls.mono hra ?_
    rintro e w4a ⟨r4a, rfl, k4a, b4a⟩
    dsimp only
    have B4a := B4.trans (b4a.mono B4.size)
    have S4a := S4.later b4a
    have Q4a := Q4.later b4a
    have hrb := remove_any (rmL S t) s w4a qa _ qc Q4a
    rw [g2, ← g3] at hrb
    clear g1 g2 g3
    clear b4a B4 S4 Q4 P4 hra
    go_wp2_with fail
    with_reducible refine Calls.mono hrb ?_
    rintro e w4b ⟨r4b, rfl, k4b, b4b⟩
    dsimp only
    have B4b := B4a.trans (b4b.mono B4a.size)
    have S4b := S4a.later b4b
    have k4c := k4a.later b4b
    have hrr := rmL_len (rmL S s) t
    obtain ⟨ca, cc, rfl, C4⟩ := k4c.li (by omega) (fun u hu => hSz u (rmL_mem u (rmL_mem u hu)))
    obtain ⟨da, dc, rfl, D4⟩ := k4b.li (by omega) (fun u hu => hSz u (rmL_mem u (rmL_mem u hu)))
    have hal := alike_any _ _ w4b _ _ _ _ _ _ C4 D4
    rw [svL_true rfl] at hal
    clear b4b B4a S4a Q4a hrb k4a k4b k4c
    go_wp2_with fail
    with_reducible refine Calls.mono hal ?_
    rintro e w4c ⟨rfl, b4c⟩
    dsimp only
    have B4c := B4b.trans (b4c.mono B4b.size)
    have S4c := S4b.later b4c
    have C4c := C4.later b4c
    clear b4c B4b S4b C4 D4 hal
    go_wp2_with fail
    with_reducible refine Calls.mono (right_any _ w4c ca _ cc C4c ((hRt.out.sub (rmL_sub S s)).sub (rmL_sub _ t))) ?_
    rintro e w5 ⟨rfl, b5⟩
    dsimp only
    have B5 := B4c.trans (b5.mono B4c.size)
    have S5 := S4c.later b5
    clear b5 B4c S4c C4c

    go_wp2_with fail
    with_reducible refine Calls.mono (since_any S m w5 sa _ sc S5) ?_
    rintro e w6 ⟨r6, rfl, k6, b6⟩
    dsimp only
    have B6 := B5.trans (b6.mono B5.size)
    have S6 := S5.later b6
    rw [Hsn.out] at k6
    obtain ⟨za, zc, rfl, Z6⟩ := drop_li k6 hSl hSz
    clear b6 B5 S5 k6
    have hw1 : wrap64 ((S.length : Int) - ((S.length - N : Nat) : Int)) = (N : Int) := by unfold wrap64; omega
    have hsub : ((S.length : Int) - ((S.length - N : Nat) : Int)) = (N : Int) := by omega
    have d1 : decide ((N : Int) < 0) = false := decide_eq_false (by omega)
    go_wp2_with fail
    try simp only [hsub]
    with_reducible refine Calls.mono (right_any _ w6 za _ zc Z6 (hRt.out.sub (List.drop_sublist N S))) ?_
    rintro e w7 ⟨rfl, b7⟩
    dsimp only
    have B7 := B6.trans (b7.mono B6.size)
    have S7 := S6.later b7
    have Z7 := Z6.later b7
    clear b7 B6 S6 Z6
    have hr := fun w => run_slV_lo sa S.length sc N hN S7.s.le S7.s.max S7.s.nil w
    have hal := alike_any _ _ w7 _ _ _ _ _ _ (S7.drop hN) Z7
    rw [svL_true rfl] at hal
    go_wp2_with fail
    with_reducible refine Calls.mono hal ?_
    rintro e w8 ⟨rfl, b8⟩
    dsimp only
    have B8 := B7.trans (b8.mono B7.size)
    have S8 := S7.later b8
    have Z8 := Z7.later b8
    clear b8 B7 S7 Z7 hal hr hw1 hsub d1
    go_wp2_with fail
    go_loopw [22] (fun i wr => ∃ k : Nat, k ≤ N ∧ i = .int .i64 (k : Int) ∧ Below w8.heap.size w8 wr) (fun i _ => N - (intOf i).toNat)
    case atStart => exact ⟨0, by omega, rfl, Below.refl _ _⟩
    case round =>
      obtain ⟨k, hk, rfl, hb⟩ := hrel
      by_cases hlt : k < N
      · have d2 : decide ((k : Int) < (N : Int)) = true := decide_eq_true (by omega)
        have k2 : (k : Int) < (S.length : Int) := by omega
        obtain ⟨u, hu⟩ : ∃ u, S[k]? = some u := ⟨S[k], List.getElem?_eq_getElem (by omega)⟩
        obtain ⟨b, off, ma, mc, rfl, hbl, c0, c1, c2, c3, c4, hsl⟩ := ((S8.later hb).s.at').get k u hu
        have hw2 : wrap64 ((k : Int) + 1) = ((k + 1 : Nat) : Int) := by unfold wrap64; omega
        have hum := Hlo.out k u hlt hu
        have d3 : decide (m ≤ u.seq) = false := decide_eq_false (by omega)
        clear hu c0 c2 c3 c4 hsl hum
        go_wp2_with fail
        exact ⟨⟨k + 1, by omega, by go_num, hb⟩, by first | (rw [hw2]; exact lss_meas hlt) | exact meas1 hlt⟩
      · obtain rfl : k = N := by omega
        have d2 : decide ((k : Int) < (k : Int)) = false := decide_eq_false (by omega)
        have B9 := B8.trans (hb.mono B8.size)
        have S9 := S8.later hb
        have Z9 := Z8.later hb
        clear hb B8 S8 Z8
        generalize wr = w9 at *
        go_wp2_with fail
        go_loopw [23] (fun i wr => ∃ j : Nat, k ≤ j ∧ j ≤ S.length ∧ i = .int .i64 (j : Int) ∧ Below w9.heap.size w9 wr) (fun i _ => S.length - (intOf i).toNat)
        case atStart => exact ⟨k, by omega, hN, rfl, Below.refl _ _⟩
        case round =>
          obtain ⟨j, hkj, hj, rfl, hb⟩ := hrel
          by_cases hlt : j < S.length
          · have d3 : decide ((j : Int) < (S.length : Int)) = true := decide_eq_true (by omega)
            have k2 : (j : Int) < (S.length : Int) := by omega
            obtain ⟨u, hu⟩ : ∃ u, S[j]? = some u := ⟨S[j], List.getElem?_eq_getElem (by omega)⟩
            obtain ⟨b, off, ma, mc, rfl, hbl, c0, c1, c2, c3, c4, hsl⟩ := ((S9.later hb).s.at').get j u hu
            have hw2 : wrap64 ((j : Int) + 1) = ((j + 1 : Nat) : Int) := by unfold wrap64; omega
            have hum := Hhi.out j u hkj hu
            have d4 : decide (u.seq < m) = false := decide_eq_false (by omega)
            clear hu c0 c2 c3 c4 hsl hum
            go_wp2_with fail
            exact ⟨⟨j + 1, by omega, by omega, by go_num, hb⟩, by first | (rw [hw2]; exact lss_meas hlt) | exact meas1 hlt⟩
          · obtain rfl : j = S.length := by omega
            have d3 : decide ((S.length : Int) < (S.length : Int)) = false := decide_eq_false (by omega)
            have B10 := B9.trans (hb.mono B9.size)
            have S10 := S9.later hb
            have Z10 := Z9.later hb
            clear hb B9 S9 Z9
            generalize wr = w10 at *
            go_wp2_with fail
            with_reducible refine Calls.mono (rows_any S w10 sa _ sc S10) ?_
            rintro e w11 ⟨r11, rfl, d11, b11⟩
            dsimp only
            have B11 := B10.trans (b11.mono B10.size)
            have S11 := S10.later b11
            have Z11 := Z10.later b11
            clear b11 B10 S10 Z10
            go_wp2_with fail
            with_reducible refine Calls.mono (rows_any _ w11 za _ zc Z11) ?_
            rintro e w12 ⟨r12, rfl, e12, b12⟩
            dsimp only
            have B12 := B11.trans (b12.mono B11.size)
            have S12 := S11.later b12
            have d12 := d11.later b12
            clear b12 B11 S11 Z11 d11
            obtain ⟨ra, rc, rfl, R12⟩ := d12.sl
            obtain ⟨ga, gc, rfl, Q12⟩ := e12.sl
            rw [rwsL_len, rwsL_len, List.length_drop]
            have n1 : ((S.length : Int) == (S.length : Int)) = true := by simp
            go_wp2_with fail
            go_loopw [26] (fun i wr => ∃ j : Nat, j ≤ S.length ∧ i = .int .i64 (j : Int) ∧ Below w12.heap.size w12 wr) (fun i _ => S.length - (intOf i).toNat)
            case atStart => exact ⟨0, by omega, rfl, Below.refl _ _⟩
            case round =>
              obtain ⟨j, hj, rfl, hb⟩ := hrel
              by_cases hlt : j < S.length
              · have d4 : decide ((j : Int) < (S.length : Int)) = true := decide_eq_true (by omega)
                have k2 : (j : Int) < (S.length : Int) := by omega
                have hw2 : wrap64 ((j : Int) + 1) = ((j + 1 : Nat) : Int) := by unfold wrap64; omega
                have hw3 : wrap64 ((S.length : Int) - 1) = (S.length : Int) - 1 := by unfold wrap64; omega
                have hw4 : wrap64 ((S.length : Int) - 1 - (j : Int)) = ((S.length - 1 - j : Nat) : Int) := by unfold wrap64; omega
                have hw5 : wrap64 (wrap64 ((S.length : Int) - 1) - (j : Int)) = ((S.length - 1 - j : Nat) : Int) := by rw [hw3, hw4]
                obtain ⟨J, hJ⟩ : ∃ J, J = S.length - 1 - j := ⟨_, rfl⟩
                have hJl : J < S.length := by omega
                rw [← hJ] at hw4 hw5
                have k3 : (J : Int) < (S.length : Int) := by omega
                obtain ⟨u, hu⟩ : ∃ u, S[J]? = some u := ⟨S[J], List.getElem?_eq_getElem hJl⟩
                obtain ⟨b, off, ma, mc, rfl, hbl, c0, c1, c2, c3, c4, hsl⟩ := ((S12.later hb).s.at').get J u hu
                obtain ⟨b1, off1, rfl, hbl1, x0, x1, x2, x3⟩ := (R12.later hb).get j (rwOf u) (rwsL_at hlt (by rw [← hJ]; exact hu))
                have hzd : (⟨u.data.toArray⟩ : ByteArray).size = u.data.length := str_size _
                have ba := (Below.refl wr.heap.size wr).alloc (Nat.le_refl _) (.cells #[str u.key, .int .i64 u.seq, .bool u.mkr, str u.data, .slice ma u.l.length mc] 33)
                have zv := Bv.new wr (str u.key) (.int .i64 u.seq) (.bool u.mkr) (str u.data) (.slice ma u.l.length mc)
                obtain ⟨p0, p1, p2, p3, p4, _⟩ := zv.cells
                have hB := hb.trans (ba.mono hb.size)
                have y0 := (ba.cell (p := ⟨b1, _, none⟩) hbl1).trans x0
                have y1 := (ba.cell (p := ⟨b1, _, none⟩) hbl1).trans x1
                have y2 := (ba.cell (p := ⟨b1, _, none⟩) hbl1).trans x2
                have y3 := (ba.cell (p := ⟨b1, _, none⟩) hbl1).trans x3
                by_cases hq : j < S.length - k
                · have d5 : decide ((j : Int) < ((S.length - k : Nat) : Int)) = true := decide_eq_true (by omega)
                  have d6 : decide (j < S.length - k) = true := decide_eq_true hq
                  have k4 : (j : Int) < ((S.length - k : Nat) : Int) := by omega
                  obtain ⟨b2, off2, rfl, hbl2, g0, g1, g2, g3⟩ := (Q12.later hb).get j (rwOf u) (rwsL_dr hq (by rw [← hJ]; exact hu))
                  have q0 := (ba.cell (p := ⟨b2, _, none⟩) hbl2).trans g0
                  have q1 := (ba.cell (p := ⟨b2, _, none⟩) hbl2).trans g1
                  have q2 := (ba.cell (p := ⟨b2, _, none⟩) hbl2).trans g2
                  have q3 := (ba.cell (p := ⟨b2, _, none⟩) hbl2).trans g3
                  subst hJ
                  clear hu g0 g1 g2 g3 x0 x1 x2 x3 hsl zv hq
                  dsimp only [rwOf] at y0 y1 y2 y3 q0 q1 q2 q3
                  go_wp2_with fail
                  generalize wr.alloc (.cells #[str u.key, .int .i64 u.seq, .bool u.mkr, str u.data, .slice ma u.l.length mc] 33) = wA at *
                  go_quiet (fail)
                  go_wp2_with fail
                  exact ⟨⟨j + 1, by omega, by go_num, below_dN hB nq⟩, by first | (rw [hw2]; exact lss_meas hlt) | exact meas1 hlt⟩
                · have d5 : decide ((j : Int) < ((S.length - k : Nat) : Int)) = false := decide_eq_false (by omega)
                  have d6 : decide (j < S.length - k) = false := decide_eq_false hq
                  subst hJ
                  clear hu x0 x1 x2 x3 hsl zv hq
                  dsimp only [rwOf] at y0 y1 y2 y3
                  go_wp2_with fail
                  generalize wr.alloc (.cells #[str u.key, .int .i64 u.seq, .bool u.mkr, str u.data, .slice ma u.l.length mc] 33) = wA at *
                  go_quiet (fail)
                  go_wp2_with fail
                  exact ⟨⟨j + 1, by omega, by go_num, below_dN hB nq⟩, by first | (rw [hw2]; exact lss_meas hlt) | exact meas1 hlt⟩
              · obtain rfl : j = S.length := by omega
                have d4 : decide ((S.length : Int) < (S.length : Int)) = false := decide_eq_false (by omega)
                go_wp2_with fail
                go_ret
                exact ⟨rfl, B12.trans (hb.mono B12.size)⟩
  · have S5 := S4
    have B5 := B4
    generalize w4 = w5 at *
    clear P4 Q4 S4 B4
    rcases geE_two S s with h1 | h1
    · rcases geE_two S t with h2 | h2
      · have h3 : s = t := Classical.byContradiction fun q => hif ⟨h1, h2, q⟩
        subst h3
        rw [h1]
        clear hif h1 h2

        go_wp2_with fail
        with_reducible refine Calls.mono (since_any S m w5 sa _ sc S5) ?_
        rintro e w6 ⟨r6, rfl, k6, b6⟩
        dsimp only
        have B6 := B5.trans (b6.mono B5.size)
        have S6 := S5.later b6
        rw [Hsn.out] at k6
        obtain ⟨za, zc, rfl, Z6⟩ := drop_li k6 hSl hSz
        clear b6 B5 S5 k6
        have hw1 : wrap64 ((S.length : Int) - ((S.length - N : Nat) : Int)) = (N : Int) := by unfold wrap64; omega
        have hsub : ((S.length : Int) - ((S.length - N : Nat) : Int)) = (N : Int) := by omega
        have d1 : decide ((N : Int) < 0) = false := decide_eq_false (by omega)
        go_wp2_with fail
        try simp only [hsub]
        with_reducible refine Calls.mono (right_any _ w6 za _ zc Z6 (hRt.out.sub (List.drop_sublist N S))) ?_
        rintro e w7 ⟨rfl, b7⟩
        dsimp only
        have B7 := B6.trans (b7.mono B6.size)
        have S7 := S6.later b7
        have Z7 := Z6.later b7
        clear b7 B6 S6 Z6
        have hr := fun w => run_slV_lo sa S.length sc N hN S7.s.le S7.s.max S7.s.nil w
        have hal := alike_any _ _ w7 _ _ _ _ _ _ (S7.drop hN) Z7
        rw [svL_true rfl] at hal
        go_wp2_with fail
        with_reducible refine Calls.mono hal ?_
        rintro e w8 ⟨rfl, b8⟩
        dsimp only
        have B8 := B7.trans (b8.mono B7.size)
        have S8 := S7.later b8
        have Z8 := Z7.later b8
        clear b8 B7 S7 Z7 hal hr hw1 hsub d1
        go_wp2_with fail
        go_loopw [22] (fun i wr => ∃ k : Nat, k ≤ N ∧ i = .int .i64 (k : Int) ∧ Below w8.heap.size w8 wr) (fun i _ => N - (intOf i).toNat)
        case atStart => exact ⟨0, by omega, rfl, Below.refl _ _⟩
        case round =>
          obtain ⟨k, hk, rfl, hb⟩ := hrel
          by_cases hlt : k < N
          · have d2 : decide ((k : Int) < (N : Int)) = true := decide_eq_true (by omega)
            have k2 : (k : Int) < (S.length : Int) := by omega
            obtain ⟨u, hu⟩ : ∃ u, S[k]? = some u := ⟨S[k], List.getElem?_eq_getElem (by omega)⟩
            obtain ⟨b, off, ma, mc, rfl, hbl, c0, c1, c2, c3, c4, hsl⟩ := ((S8.later hb).s.at').get k u hu
            have hw2 : wrap64 ((k : Int) + 1) = ((k + 1 : Nat) : Int) := by unfold wrap64; omega
            have hum := Hlo.out k u hlt hu
            have d3 : decide (m ≤ u.seq) = false := decide_eq_false (by omega)
            clear hu c0 c2 c3 c4 hsl hum
            go_wp2_with fail
            exact ⟨⟨k + 1, by omega, by go_num, hb⟩, by first | (rw [hw2]; exact lss_meas hlt) | exact meas1 hlt⟩
          · obtain rfl : k = N := by omega
            have d2 : decide ((k : Int) < (k : Int)) = false := decide_eq_false (by omega)
            have B9 := B8.trans (hb.mono B8.size)
            have S9 := S8.later hb
            have Z9 := Z8.later hb
            clear hb B8 S8 Z8
            generalize wr = w9 at *
            go_wp2_with fail
            go_loopw [23] (fun i wr => ∃ j : Nat, k ≤ j ∧ j ≤ S.length ∧ i = .int .i64 (j : Int) ∧ Below w9.heap.size w9 wr) (fun i _ => S.length - (intOf i).toNat)
            case atStart => exact ⟨k, by omega, hN, rfl, Below.refl _ _⟩
            case round =>
              obtain ⟨j, hkj, hj, rfl, hb⟩ := hrel
              by_cases hlt : j < S.length
              · have d3 : decide ((j : Int) < (S.length : Int)) = true := decide_eq_true (by omega)
                have k2 : (j : Int) < (S.length : Int) := by omega
                obtain ⟨u, hu⟩ : ∃ u, S[j]? = some u := ⟨S[j], List.getElem?_eq_getElem (by omega)⟩
                obtain ⟨b, off, ma, mc, rfl, hbl, c0, c1, c2, c3, c4, hsl⟩ := ((S9.later hb).s.at').get j u hu
                have hw2 : wrap64 ((j : Int) + 1) = ((j + 1 : Nat) : Int) := by unfold wrap64; omega
                have hum := Hhi.out j u hkj hu
                have d4 : decide (u.seq < m) = false := decide_eq_false (by omega)
                clear hu c0 c2 c3 c4 hsl hum
                go_wp2_with fail
                exact ⟨⟨j + 1, by omega, by omega, by go_num, hb⟩, by first | (rw [hw2]; exact lss_meas hlt) | exact meas1 hlt⟩
              · obtain rfl : j = S.length := by omega
                have d3 : decide ((S.length : Int) < (S.length : Int)) = false := decide_eq_false (by omega)
                have B10 := B9.trans (hb.mono B9.size)
                have S10 := S9.later hb
                have Z10 := Z9.later hb
                clear hb B9 S9 Z9
                generalize wr = w10 at *
                go_wp2_with fail
                with_reducible refine Calls.mono (rows_any S w10 sa _ sc S10) ?_
                rintro e w11 ⟨r11, rfl, d11, b11⟩
                dsimp only
                have B11 := B10.trans (b11.mono B10.size)
                have S11 := S10.later b11
                have Z11 := Z10.later b11
                clear b11 B10 S10 Z10
                go_wp2_with fail
                with_reducible refine Calls.mono (rows_any _ w11 za _ zc Z11) ?_
                rintro e w12 ⟨r12, rfl, e12, b12⟩
                dsimp only
                have B12 := B11.trans (b12.mono B11.size)
                have S12 := S11.later b12
                have d12 := d11.later b12
                clear b12 B11 S11 Z11 d11
                obtain ⟨ra, rc, rfl, R12⟩ := d12.sl
                obtain ⟨ga, gc, rfl, Q12⟩ := e12.sl
                rw [rwsL_len, rwsL_len, List.length_drop]
                have n1 : ((S.length : Int) == (S.length : Int)) = true := by simp
                go_wp2_with fail
                go_loopw [26] (fun i wr => ∃ j : Nat, j ≤ S.length ∧ i = .int .i64 (j : Int) ∧ Below w12.heap.size w12 wr) (fun i _ => S.length - (intOf i).toNat)
                case atStart => exact ⟨0, by omega, rfl, Below.refl _ _⟩
                case round =>
                  obtain ⟨j, hj, rfl, hb⟩ := hrel
                  by_cases hlt : j < S.length
                  · have d4 : decide ((j : Int) < (S.length : Int)) = true := decide_eq_true (by omega)
                    have k2 : (j : Int) < (S.length : Int) := by omega
                    have hw2 : wrap64 ((j : Int) + 1) = ((j + 1 : Nat) : Int) := by unfold wrap64; omega
                    have hw3 : wrap64 ((S.length : Int) - 1) = (S.length : Int) - 1 := by unfold wrap64; omega
                    have hw4 : wrap64 ((S.length : Int) - 1 - (j : Int)) = ((S.length - 1 - j : Nat) : Int) := by unfold wrap64; omega
                    have hw5 : wrap64 (wrap64 ((S.length : Int) - 1) - (j : Int)) = ((S.length - 1 - j : Nat) : Int) := by rw [hw3, hw4]
                    obtain ⟨J, hJ⟩ : ∃ J, J = S.length - 1 - j := ⟨_, rfl⟩
                    have hJl : J < S.length := by omega
                    rw [← hJ] at hw4 hw5
                    have k3 : (J : Int) < (S.length : Int) := by omega
                    obtain ⟨u, hu⟩ : ∃ u, S[J]? = some u := ⟨S[J], List.getElem?_eq_getElem hJl⟩
                    obtain ⟨b, off, ma, mc, rfl, hbl, c0, c1, c2, c3, c4, hsl⟩ := ((S12.later hb).s.at').get J u hu
                    obtain ⟨b1, off1, rfl, hbl1, x0, x1, x2, x3⟩ := (R12.later hb).get j (rwOf u) (rwsL_at hlt (by rw [← hJ]; exact hu))
                    have hzd : (⟨u.data.toArray⟩ : ByteArray).size = u.data.length := str_size _
                    have ba := (Below.refl wr.heap.size wr).alloc (Nat.le_refl _) (.cells #[str u.key, .int .i64 u.seq, .bool u.mkr, str u.data, .slice ma u.l.length mc] 33)
                    have zv := Bv.new wr (str u.key) (.int .i64 u.seq) (.bool u.mkr) (str u.data) (.slice ma u.l.length mc)
                    obtain ⟨p0, p1, p2, p3, p4, _⟩ := zv.cells
                    have hB := hb.trans (ba.mono hb.size)
                    have y0 := (ba.cell (p := ⟨b1, _, none⟩) hbl1).trans x0
                    have y1 := (ba.cell (p := ⟨b1, _, none⟩) hbl1).trans x1
                    have y2 := (ba.cell (p := ⟨b1, _, none⟩) hbl1).trans x2
                    have y3 := (ba.cell (p := ⟨b1, _, none⟩) hbl1).trans x3
                    by_cases hq : j < S.length - k
                    · have d5 : decide ((j : Int) < ((S.length - k : Nat) : Int)) = true := decide_eq_true (by omega)
                      have d6 : decide (j < S.length - k) = true := decide_eq_true hq
                      have k4 : (j : Int) < ((S.length - k : Nat) : Int) := by omega
                      obtain ⟨b2, off2, rfl, hbl2, g0, g1, g2, g3⟩ := (Q12.later hb).get j (rwOf u) (rwsL_dr hq (by rw [← hJ]; exact hu))
                      have q0 := (ba.cell (p := ⟨b2, _, none⟩) hbl2).trans g0
                      have q1 := (ba.cell (p := ⟨b2, _, none⟩) hbl2).trans g1
                      have q2 := (ba.cell (p := ⟨b2, _, none⟩) hbl2).trans g2
                      have q3 := (ba.cell (p := ⟨b2, _, none⟩) hbl2).trans g3
                      subst hJ
                      clear hu g0 g1 g2 g3 x0 x1 x2 x3 hsl zv hq
                      dsimp only [rwOf] at y0 y1 y2 y3 q0 q1 q2 q3
                      go_wp2_with fail
                      generalize wr.alloc (.cells #[str u.key, .int .i64 u.seq, .bool u.mkr, str u.data, .slice ma u.l.length mc] 33) = wA at *
                      go_quiet (fail)
                      go_wp2_with fail
                      exact ⟨⟨j + 1, by omega, by go_num, below_dN hB nq⟩, by first | (rw [hw2]; exact lss_meas hlt) | exact meas1 hlt⟩
                    · have d5 : decide ((j : Int) < ((S.length - k : Nat) : Int)) = false := decide_eq_false (by omega)
                      have d6 : decide (j < S.length - k) = false := decide_eq_false hq
                      subst hJ
                      clear hu x0 x1 x2 x3 hsl zv hq
                      dsimp only [rwOf] at y0 y1 y2 y3
                      go_wp2_with fail
                      generalize wr.alloc (.cells #[str u.key, .int .i64 u.seq, .bool u.mkr, str u.data, .slice ma u.l.length mc] 33) = wA at *
                      go_quiet (fail)
                      go_wp2_with fail
                      exact ⟨⟨j + 1, by omega, by go_num, below_dN hB nq⟩, by first | (rw [hw2]; exact lss_meas hlt) | exact meas1 hlt⟩
                  · obtain rfl : j = S.length := by omega
                    have d4 : decide ((S.length : Int) < (S.length : Int)) = false := decide_eq_false (by omega)
                    go_wp2_with fail
                    go_ret
                    exact ⟨rfl, B12.trans (hb.mono B12.size)⟩

      · rw [h1, h2]
        clear hif h1 h2

        go_wp2_with fail
        with_reducible refine Calls.mono (since_any S m w5 sa _ sc S5) ?_
        rintro e w6 ⟨r6, rfl, k6, b6⟩
        dsimp only
        have B6 := B5.trans (b6.mono B5.size)
        have S6 := S5.later b6
        rw [Hsn.out] at k6
        obtain ⟨za, zc, rfl, Z6⟩ := drop_li k6 hSl hSz
        clear b6 B5 S5 k6
        have hw1 : wrap64 ((S.length : Int) - ((S.length - N : Nat) : Int)) = (N : Int) := by unfold wrap64; omega
        have hsub : ((S.length : Int) - ((S.length - N : Nat) : Int)) = (N : Int) := by omega
        have d1 : decide ((N : Int) < 0) = false := decide_eq_false (by omega)
        go_wp2_with fail
        try simp only [hsub]
        with_reducible refine Calls.mono (right_any _ w6 za _ zc Z6 (hRt.out.sub (List.drop_sublist N S))) ?_
        rintro e w7 ⟨rfl, b7⟩
        dsimp only
        have B7 := B6.trans (b7.mono B6.size)
        have S7 := S6.later b7
        have Z7 := Z6.later b7
        clear b7 B6 S6 Z6
        have hr := fun w => run_slV_lo sa S.length sc N hN S7.s.le S7.s.max S7.s.nil w
        have hal := alike_any _ _ w7 _ _ _ _ _ _ (S7.drop hN) Z7
        rw [svL_true rfl] at hal
        go_wp2_with fail
        with_reducible refine Calls.mono hal ?_
        rintro e w8 ⟨rfl, b8⟩
        dsimp only
        have B8 := B7.trans (b8.mono B7.size)
        have S8 := S7.later b8
        have Z8 := Z7.later b8
        clear b8 B7 S7 Z7 hal hr hw1 hsub d1
        go_wp2_with fail
        go_loopw [22] (fun i wr => ∃ k : Nat, k ≤ N ∧ i = .int .i64 (k : Int) ∧ Below w8.heap.size w8 wr) (fun i _ => N - (intOf i).toNat)
        case atStart => exact ⟨0, by omega, rfl, Below.refl _ _⟩
        case round =>
          obtain ⟨k, hk, rfl, hb⟩ := hrel
          by_cases hlt : k < N
          · have d2 : decide ((k : Int) < (N : Int)) = true := decide_eq_true (by omega)
            have k2 : (k : Int) < (S.length : Int) := by omega
            obtain ⟨u, hu⟩ : ∃ u, S[k]? = some u := ⟨S[k], List.getElem?_eq_getElem (by omega)⟩
            obtain ⟨b, off, ma, mc, rfl, hbl, c0, c1, c2, c3, c4, hsl⟩ := ((S8.later hb).s.at').get k u hu
            have hw2 : wrap64 ((k : Int) + 1) = ((k + 1 : Nat) : Int) := by unfold wrap64; omega
            have hum := Hlo.out k u hlt hu
            have d3 : decide (m ≤ u.seq) = false := decide_eq_false (by omega)
            clear hu c0 c2 c3 c4 hsl hum
            go_wp2_with fail
            exact ⟨⟨k + 1, by omega, by go_num, hb⟩, by first | (rw [hw2]; exact lss_meas hlt) | exact meas1 hlt⟩
          · obtain rfl : k = N := by omega
            have d2 : decide ((k : Int) < (k : Int)) = false := decide_eq_false (by omega)
            have B9 := B8.trans (hb.mono B8.size)
            have S9 := S8.later hb
            have Z9 := Z8.later hb
            clear hb B8 S8 Z8
            generalize wr = w9 at *
            go_wp2_with fail
            go_loopw [23] (fun i wr => ∃ j : Nat, k ≤ j ∧ j ≤ S.length ∧ i = .int .i64 (j : Int) ∧ Below w9.heap.size w9 wr) (fun i _ => S.length - (intOf i).toNat)
            case atStart => exact ⟨k, by omega, hN, rfl, Below.refl _ _⟩
            case round =>
              obtain ⟨j, hkj, hj, rfl, hb⟩ := hrel
              by_cases hlt : j < S.length
              · have d3 : decide ((j : Int) < (S.length : Int)) = true := decide_eq_true (by omega)
                have k2 : (j : Int) < (S.length : Int) := by omega
                obtain ⟨u, hu⟩ : ∃ u, S[j]? = some u := ⟨S[j], List.getElem?_eq_getElem (by omega)⟩
                obtain ⟨b, off, ma, mc, rfl, hbl, c0, c1, c2, c3, c4, hsl⟩ := ((S9.later hb).s.at').get j u hu
                have hw2 : wrap64 ((j : Int) + 1) = ((j + 1 : Nat) : Int) := by unfold wrap64; omega
                have hum := Hhi.out j u hkj hu
                have d4 : decide (u.seq < m) = false := decide_eq_false (by omega)
                clear hu c0 c2 c3 c4 hsl hum
                go_wp2_with fail
                exact ⟨⟨j + 1, by omega, by omega, by go_num, hb⟩, by first | (rw [hw2]; exact lss_meas hlt) | exact meas1 hlt⟩
              · obtain rfl : j = S.length := by omega
                have d3 : decide ((S.length : Int) < (S.length : Int)) = false := decide_eq_false (by omega)
                have B10 := B9.trans (hb.mono B9.size)
                have S10 := S9.later hb
                have Z10 := Z9.later hb
                clear hb B9 S9 Z9
                generalize wr = w10 at *
                go_wp2_with fail
                with_reducible refine Calls.mono (rows_any S w10 sa _ sc S10) ?_
                rintro e w11 ⟨r11, rfl, d11, b11⟩
                dsimp only
                have B11 := B10.trans (b11.mono B10.size)
                have S11 := S10.later b11
                have Z11 := Z10.later b11
                clear b11 B10 S10 Z10
                go_wp2_with fail
                with_reducible refine Calls.mono (rows_any _ w11 za _ zc Z11) ?_
                rintro e w12 ⟨r12, rfl, e12, b12⟩
                dsimp only
                have B12 := B11.trans (b12.mono B11.size)
                have S12 := S11.later b12
                have d12 := d11.later b12
                clear b12 B11 S11 Z11 d11
                obtain ⟨ra, rc, rfl, R12⟩ := d12.sl
                obtain ⟨ga, gc, rfl, Q12⟩ := e12.sl
                rw [rwsL_len, rwsL_len, List.length_drop]
                have n1 : ((S.length : Int) == (S.length : Int)) = true := by simp
                go_wp2_with fail
                go_loopw [26] (fun i wr => ∃ j : Nat, j ≤ S.length ∧ i = .int .i64 (j : Int) ∧ Below w12.heap.size w12 wr) (fun i _ => S.length - (intOf i).toNat)
                case atStart => exact ⟨0, by omega, rfl, Below.refl _ _⟩
                case round =>
                  obtain ⟨j, hj, rfl, hb⟩ := hrel
                  by_cases hlt : j < S.length
                  · have d4 : decide ((j : Int) < (S.length : Int)) = true := decide_eq_true (by omega)
                    have k2 : (j : Int) < (S.length : Int) := by omega
                    have hw2 : wrap64 ((j : Int) + 1) = ((j + 1 : Nat) : Int) := by unfold wrap64; omega
                    have hw3 : wrap64 ((S.length : Int) - 1) = (S.length : Int) - 1 := by unfold wrap64; omega
                    have hw4 : wrap64 ((S.length : Int) - 1 - (j : Int)) = ((S.length - 1 - j : Nat) : Int) := by unfold wrap64; omega
                    have hw5 : wrap64 (wrap64 ((S.length : Int) - 1) - (j : Int)) = ((S.length - 1 - j : Nat) : Int) := by rw [hw3, hw4]
                    obtain ⟨J, hJ⟩ : ∃ J, J = S.length - 1 - j := ⟨_, rfl⟩
                    have hJl : J < S.length := by omega
                    rw [← hJ] at hw4 hw5
                    have k3 : (J : Int) < (S.length : Int) := by omega
                    obtain ⟨u, hu⟩ : ∃ u, S[J]? = some u := ⟨S[J], List.getElem?_eq_getElem hJl⟩
                    obtain ⟨b, off, ma, mc, rfl, hbl, c0, c1, c2, c3, c4, hsl⟩ := ((S12.later hb).s.at').get J u hu
                    obtain ⟨b1, off1, rfl, hbl1, x0, x1, x2, x3⟩ := (R12.later hb).get j (rwOf u) (rwsL_at hlt (by rw [← hJ]; exact hu))
                    have hzd : (⟨u.data.toArray⟩ : ByteArray).size = u.data.length := str_size _
                    have ba := (Below.refl wr.heap.size wr).alloc (Nat.le_refl _) (.cells #[str u.key, .int .i64 u.seq, .bool u.mkr, str u.data, .slice ma u.l.length mc] 33)
                    have zv := Bv.new wr (str u.key) (.int .i64 u.seq) (.bool u.mkr) (str u.data) (.slice ma u.l.length mc)
                    obtain ⟨p0, p1, p2, p3, p4, _⟩ := zv.cells
                    have hB := hb.trans (ba.mono hb.size)
                    have y0 := (ba.cell (p := ⟨b1, _, none⟩) hbl1).trans x0
                    have y1 := (ba.cell (p := ⟨b1, _, none⟩) hbl1).trans x1
                    have y2 := (ba.cell (p := ⟨b1, _, none⟩) hbl1).trans x2
                    have y3 := (ba.cell (p := ⟨b1, _, none⟩) hbl1).trans x3
                    by_cases hq : j < S.length - k
                    · have d5 : decide ((j : Int) < ((S.length - k : Nat) : Int)) = true := decide_eq_true (by omega)
                      have d6 : decide (j < S.length - k) = true := decide_eq_true hq
                      have k4 : (j : Int) < ((S.length - k : Nat) : Int) := by omega
                      obtain ⟨b2, off2, rfl, hbl2, g0, g1, g2, g3⟩ := (Q12.later hb).get j (rwOf u) (rwsL_dr hq (by rw [← hJ]; exact hu))
                      have q0 := (ba.cell (p := ⟨b2, _, none⟩) hbl2).trans g0
                      have q1 := (ba.cell (p := ⟨b2, _, none⟩) hbl2).trans g1
                      have q2 := (ba.cell (p := ⟨b2, _, none⟩) hbl2).trans g2
                      have q3 := (ba.cell (p := ⟨b2, _, none⟩) hbl2).trans g3
                      subst hJ
                      clear hu g0 g1 g2 g3 x0 x1 x2 x3 hsl zv hq
                      dsimp only [rwOf] at y0 y1 y2 y3 q0 q1 q2 q3
                      go_wp2_with fail
                      generalize wr.alloc (.cells #[str u.key, .int .i64 u.seq, .bool u.mkr, str u.data, .slice ma u.l.length mc] 33) = wA at *
                      go_quiet (fail)
                      go_wp2_with fail
                      exact ⟨⟨j + 1, by omega, by go_num, below_dN hB nq⟩, by first | (rw [hw2]; exact lss_meas hlt) | exact meas1 hlt⟩
                    · have d5 : decide ((j : Int) < ((S.length - k : Nat) : Int)) = false := decide_eq_false (by omega)
                      have d6 : decide (j < S.length - k) = false := decide_eq_false hq
                      subst hJ
                      clear hu x0 x1 x2 x3 hsl zv hq
                      dsimp only [rwOf] at y0 y1 y2 y3
                      go_wp2_with fail
                      generalize wr.alloc (.cells #[str u.key, .int .i64 u.seq, .bool u.mkr, str u.data, .slice ma u.l.length mc] 33) = wA at *
                      go_quiet (fail)
                      go_wp2_with fail
                      exact ⟨⟨j + 1, by omega, by go_num, below_dN hB nq⟩, by first | (rw [hw2]; exact lss_meas hlt) | exact meas1 hlt⟩
                  · obtain rfl : j = S.length := by omega
                    have d4 : decide ((S.length : Int) < (S.length : Int)) = false := decide_eq_false (by omega)
                    go_wp2_with fail
                    go_ret
                    exact ⟨rfl, B12.trans (hb.mono B12.size)⟩

    · rw [h1]
      clear hif h1
      generalize geE S t = gt at *

      go_wp2_with fail
      with_reducible refine Calls.mono (since_any S m w5 sa _ sc S5) ?_
      rintro e w6 ⟨r6, rfl, k6, b6⟩
      dsimp only
      have B6 := B5.trans (b6.mono B5.size)
      have S6 := S5.later b6
      rw [Hsn.out] at k6
      obtain ⟨za, zc, rfl, Z6⟩ := drop_li k6 hSl hSz
      clear b6 B5 S5 k6
      have hw1 : wrap64 ((S.length : Int) - ((S.length - N : Nat) : Int)) = (N : Int) := by unfold wrap64; omega
      have hsub : ((S.length : Int) - ((S.length - N : Nat) : Int)) = (N : Int) := by omega
      have d1 : decide ((N : Int) < 0) = false := decide_eq_false (by omega)
      go_wp2_with fail
      try simp only [hsub]
      with_reducible refine Calls.mono (right_any _ w6 za _ zc Z6 (hRt.out.sub (List.drop_sublist N S))) ?_
      rintro e w7 ⟨rfl, b7⟩
      dsimp only
      have B7 := B6.trans (b7.mono B6.size)
      have S7 := S6.later b7
      have Z7 := Z6.later b7
      clear b7 B6 S6 Z6
      have hr := fun w => run_slV_lo sa S.length sc N hN S7.s.le S7.s.max S7.s.nil w
      have hal := alike_any _ _ w7 _ _ _ _ _ _ (S7.drop hN) Z7
      rw [svL_true rfl] at hal
      go_wp2_with fail
      with_reducible refine Calls.mono hal ?_
      rintro e w8 ⟨rfl, b8⟩
      dsimp only
      have B8 := B7.trans (b8.mono B7.size)
      have S8 := S7.later b8
      have Z8 := Z7.later b8
      clear b8 B7 S7 Z7 hal hr hw1 hsub d1
      go_wp2_with fail
      go_loopw [22] (fun i wr => ∃ k : Nat, k ≤ N ∧ i = .int .i64 (k : Int) ∧ Below w8.heap.size w8 wr) (fun i _ => N - (intOf i).toNat)
      case atStart => exact ⟨0, by omega, rfl, Below.refl _ _⟩
      case round =>
        obtain ⟨k, hk, rfl, hb⟩ := hrel
        by_cases hlt : k < N
        · have d2 : decide ((k : Int) < (N : Int)) = true := decide_eq_true (by omega)
          have k2 : (k : Int) < (S.length : Int) := by omega
          obtain ⟨u, hu⟩ : ∃ u, S[k]? = some u := ⟨S[k], List.getElem?_eq_getElem (by omega)⟩
          obtain ⟨b, off, ma, mc, rfl, hbl, c0, c1, c2, c3, c4, hsl⟩ := ((S8.later hb).s.at').get k u hu
          have hw2 : wrap64 ((k : Int) + 1) = ((k + 1 : Nat) : Int) := by unfold wrap64; omega
          have hum := Hlo.out k u hlt hu
          have d3 : decide (m ≤ u.seq) = false := decide_eq_false (by omega)
          clear hu c0 c2 c3 c4 hsl hum
          go_wp2_with fail
          exact ⟨⟨k + 1, by omega, by go_num, hb⟩, by first | (rw [hw2]; exact lss_meas hlt) | exact meas1 hlt⟩
        · obtain rfl : k = N := by omega
          have d2 : decide ((k : Int) < (k : Int)) = false := decide_eq_false (by omega)
          have B9 := B8.trans (hb.mono B8.size)
          have S9 := S8.later hb
          have Z9 := Z8.later hb
          clear hb B8 S8 Z8
          generalize wr = w9 at *
          go_wp2_with fail
          go_loopw [23] (fun i wr => ∃ j : Nat, k ≤ j ∧ j ≤ S.length ∧ i = .int .i64 (j : Int) ∧ Below w9.heap.size w9 wr) (fun i _ => S.length - (intOf i).toNat)
          case atStart => exact ⟨k, by omega, hN, rfl, Below.refl _ _⟩
          case round =>
            obtain ⟨j, hkj, hj, rfl, hb⟩ := hrel
            by_cases hlt : j < S.length
            · have d3 : decide ((j : Int) < (S.length : Int)) = true := decide_eq_true (by omega)
              have k2 : (j : Int) < (S.length : Int) := by omega
              obtain ⟨u, hu⟩ : ∃ u, S[j]? = some u := ⟨S[j], List.getElem?_eq_getElem (by omega)⟩
              obtain ⟨b, off, ma, mc, rfl, hbl, c0, c1, c2, c3, c4, hsl⟩ := ((S9.later hb).s.at').get j u hu
              have hw2 : wrap64 ((j : Int) + 1) = ((j + 1 : Nat) : Int) := by unfold wrap64; omega
              have hum := Hhi.out j u hkj hu
              have d4 : decide (u.seq < m) = false := decide_eq_false (by omega)
              clear hu c0 c2 c3 c4 hsl hum
              go_wp2_with fail
              exact ⟨⟨j + 1, by omega, by omega, by go_num, hb⟩, by first | (rw [hw2]; exact lss_meas hlt) | exact meas1 hlt⟩
            · obtain rfl : j = S.length := by omega
              have d3 : decide ((S.length : Int) < (S.length : Int)) = false := decide_eq_false (by omega)
              have B10 := B9.trans (hb.mono B9.size)
              have S10 := S9.later hb
              have Z10 := Z9.later hb
              clear hb B9 S9 Z9
              generalize wr = w10 at *
              go_wp2_with fail
              with_reducible refine Calls.mono (rows_any S w10 sa _ sc S10) ?_
              rintro e w11 ⟨r11, rfl, d11, b11⟩
              dsimp only
              have B11 := B10.trans (b11.mono B10.size)
              have S11 := S10.later b11
              have Z11 := Z10.later b11
              clear b11 B10 S10 Z10
              go_wp2_with fail
              with_reducible refine Calls.mono (rows_any _ w11 za _ zc Z11) ?_
              rintro e w12 ⟨r12, rfl, e12, b12⟩
              dsimp only
              have B12 := B11.trans (b12.mono B11.size)
              have S12 := S11.later b12
              have d12 := d11.later b12
              clear b12 B11 S11 Z11 d11
              obtain ⟨ra, rc, rfl, R12⟩ := d12.sl
              obtain ⟨ga, gc, rfl, Q12⟩ := e12.sl
              rw [rwsL_len, rwsL_len, List.length_drop]
              have n1 : ((S.length : Int) == (S.length : Int)) = true := by simp
              go_wp2_with fail
              go_loopw [26] (fun i wr => ∃ j : Nat, j ≤ S.length ∧ i = .int .i64 (j : Int) ∧ Below w12.heap.size w12 wr) (fun i _ => S.length - (intOf i).toNat)
              case atStart => exact ⟨0, by omega, rfl, Below.refl _ _⟩
              case round =>
                obtain ⟨j, hj, rfl, hb⟩ := hrel
                by_cases hlt : j < S.length
                · have d4 : decide ((j : Int) < (S.length : Int)) = true := decide_eq_true (by omega)
                  have k2 : (j : Int) < (S.length : Int) := by omega
                  have hw2 : wrap64 ((j : Int) + 1) = ((j + 1 : Nat) : Int) := by unfold wrap64; omega
                  have hw3 : wrap64 ((S.length : Int) - 1) = (S.length : Int) - 1 := by unfold wrap64; omega
                  have hw4 : wrap64 ((S.length : Int) - 1 - (j : Int)) = ((S.length - 1 - j : Nat) : Int) := by unfold wrap64; omega
                  have hw5 : wrap64 (wrap64 ((S.length : Int) - 1) - (j : Int)) = ((S.length - 1 - j : Nat) : Int) := by rw [hw3, hw4]
                  obtain ⟨J, hJ⟩ : ∃ J, J = S.length - 1 - j := ⟨_, rfl⟩
                  have hJl : J < S.length := by omega
                  rw [← hJ] at hw4 hw5
                  have k3 : (J : Int) < (S.length : Int) := by omega
                  obtain ⟨u, hu⟩ : ∃ u, S[J]? = some u := ⟨S[J], List.getElem?_eq_getElem hJl⟩
                  obtain ⟨b, off, ma, mc, rfl, hbl, c0, c1, c2, c3, c4, hsl⟩ := ((S12.later hb).s.at').get J u hu
                  obtain ⟨b1, off1, rfl, hbl1, x0, x1, x2, x3⟩ := (R12.later hb).get j (rwOf u) (rwsL_at hlt (by rw [← hJ]; exact hu))
                  have hzd : (⟨u.data.toArray⟩ : ByteArray).size = u.data.length := str_size _
                  have ba := (Below.refl wr.heap.size wr).alloc (Nat.le_refl _) (.cells #[str u.key, .int .i64 u.seq, .bool u.mkr, str u.data, .slice ma u.l.length mc] 33)
                  have zv := Bv.new wr (str u.key) (.int .i64 u.seq) (.bool u.mkr) (str u.data) (.slice ma u.l.length mc)
                  obtain ⟨p0, p1, p2, p3, p4, _⟩ := zv.cells
                  have hB := hb.trans (ba.mono hb.size)
                  have y0 := (ba.cell (p := ⟨b1, _, none⟩) hbl1).trans x0
                  have y1 := (ba.cell (p := ⟨b1, _, none⟩) hbl1).trans x1
                  have y2 := (ba.cell (p := ⟨b1, _, none⟩) hbl1).trans x2
                  have y3 := (ba.cell (p := ⟨b1, _, none⟩) hbl1).trans x3
                  by_cases hq : j < S.length - k
                  · have d5 : decide ((j : Int) < ((S.length - k : Nat) : Int)) = true := decide_eq_true (by omega)
                    have d6 : decide (j < S.length - k) = true := decide_eq_true hq
                    have k4 : (j : Int) < ((S.length - k : Nat) : Int) := by omega
                    obtain ⟨b2, off2, rfl, hbl2, g0, g1, g2, g3⟩ := (Q12.later hb).get j (rwOf u) (rwsL_dr hq (by rw [← hJ]; exact hu))
                    have q0 := (ba.cell (p := ⟨b2, _, none⟩) hbl2).trans g0
                    have q1 := (ba.cell (p := ⟨b2, _, none⟩) hbl2).trans g1
                    have q2 := (ba.cell (p := ⟨b2, _, none⟩) hbl2).trans g2
                    have q3 := (ba.cell (p := ⟨b2, _, none⟩) hbl2).trans g3
                    subst hJ
                    clear hu g0 g1 g2 g3 x0 x1 x2 x3 hsl zv hq
                    dsimp only [rwOf] at y0 y1 y2 y3 q0 q1 q2 q3
                    go_wp2_with fail
                    generalize wr.alloc (.cells #[str u.key, .int .i64 u.seq, .bool u.mkr, str u.data, .slice ma u.l.length mc] 33) = wA at *
                    go_quiet (fail)
                    go_wp2_with fail
                    exact ⟨⟨j + 1, by omega, by go_num, below_dN hB nq⟩, by first | (rw [hw2]; exact lss_meas hlt) | exact meas1 hlt⟩
                  · have d5 : decide ((j : Int) < ((S.length - k : Nat) : Int)) = false := decide_eq_false (by omega)
                    have d6 : decide (j < S.length - k) = false := decide_eq_false hq
                    subst hJ
                    clear hu x0 x1 x2 x3 hsl zv hq
                    dsimp only [rwOf] at y0 y1 y2 y3
                    go_wp2_with fail
                    generalize wr.alloc (.cells #[str u.key, .int .i64 u.seq, .bool u.mkr, str u.data, .slice ma u.l.length mc] 33) = wA at *
                    go_quiet (fail)
                    go_wp2_with fail
                    exact ⟨⟨j + 1, by omega, by go_num, below_dN hB nq⟩, by first | (rw [hw2]; exact lss_meas hlt) | exact meas1 hlt⟩
                · obtain rfl : j = S.length := by omega
                  have d4 : decide ((S.length : Int) < (S.length : Int)) = false := decide_eq_false (by omega)
                  go_wp2_with fail
                  go_ret
                  exact ⟨rfl, B12.trans (hb.mono B12.size)⟩

end Go.Proofs.Ytjhfiidodmndaaa
