/- told. -/
import Derived.Test.YtaonjmmdgfbceaaMad
namespace Go.Proofs.Ytaonjmmdgfbceaa
set_option linter.unusedVariables false
set_option linter.unusedSimpArgs false
open Go.RowKit
attribute [local go_sem ↓] Go.wp_at_zero Go.wp_at_succ
theorem rt_plc {L : List Vs} (h : Rt L) {k : Nat} {u : Vs} (hu : L[k]? = some u) : plc L u.seq = some k :=
  plc_at hu rfl (fun j v hj hv q => by have := h.lt hj hv hu; omega)
theorem rt_get {L : List Vs} (h : Rt L) {k : Nat} {u : Vs} (hu : L[k]? = some u) : geE L u.seq = 0 ∧ geV L u.seq = u := by
  have := rt_plc h hu
  unfold geE geV
  rw [this]
  refine ⟨rfl, ?_⟩
  show L.getD k vs0 = u
  rw [List.getD_eq_getElem?_getD, hu]; rfl
/-- the number behind one's own is there just if the next one has it -/
theorem rt_next {L : List Vs} (h : Rt L) (h6 : ∀ u ∈ L, u.seq ≤ 9223372036854775807) {k : Nat} {u : Vs} (hu : L[k]? = some u) :
    geE L (wrap64 (u.seq + 1)) = 0 ↔ ∃ v, L[k + 1]? = some v ∧ v.seq = wrap64 (u.seq + 1) := by
  constructor
  · intro hg
    obtain ⟨v, hv, hvs⟩ := geE_mem hg
    obtain ⟨j, hj⟩ := List.getElem?_of_mem hv
    have h1 := h.one v hv
    have h2 := h6 u (List.mem_of_getElem? hu)
    have h3 := h.one u (List.mem_of_getElem? hu)
    have hX : wrap64 (u.seq + 1) = u.seq + 1 := by
      unfold wrap64 at hvs ⊢
      omega
    have hkj : k < j := by
      rcases Nat.lt_trichotomy k j with q | q | q
      · exact q
      · subst q
        rw [hu] at hj
        injection hj with hj
        subst hj
        omega
      · have := h.lt q hj hu
        omega
    by_cases hj1 : j = k + 1
    · subst hj1
      exact ⟨v, hj, hvs⟩
    · have hl := (List.getElem?_eq_some_iff.1 hj).1
      obtain ⟨p, hp⟩ : ∃ p, L[k + 1]? = some p := ⟨L[k + 1], List.getElem?_eq_getElem (by omega)⟩
      have q1 := h.lt (i := k) (j := k + 1) (by omega) hu hp
      have q2 := h.lt (i := k + 1) (j := j) (by omega) hp hj
      omega
  · rintro ⟨v, hv, hvs⟩
    exact mem_geE ⟨v, List.mem_of_getElem? hv, hvs⟩
set_option maxRecDepth 100000 in
set_option maxHeartbeats 4000000 in
theorem told_any (L : List Vs) (w : World) (a : Option Addr) (n cap : Nat) (hL : Li w L a n cap) (hR : Rt L) (h6 : ∀ u ∈ L, u.seq ≤ 9223372036854775807) :
    Calls Try.prog 19 #[.slice a n cap] w fun e w' => e = .returned (.bool true) ∧ Below w.heap.size w w' := by
  obtain rfl := hL.n
  have hlen := hL.l
  have hzz := hL.z
  have HL := Hid.mk hL
  have HR := Hid.mk hR
  have H6 := Hid.mk h6
  clear hL hR h6
  go_enter Try.func19, Try.ntmps19
  go_wp2_with fail
  go_loopw [3] (fun i wr => ∃ k : Nat, k ≤ L.length ∧ i = .int .i64 (k : Int) ∧ Below w.heap.size w wr) (fun i _ => L.length - (intOf i).toNat)
  case atStart => exact ⟨0, by omega, rfl, Below.refl _ _⟩
  case round =>
    obtain ⟨k, hk, rfl, hb⟩ := hrel
    by_cases hlt : k < L.length
    · have d1 : decide ((k : Int) < (L.length : Int)) = true := decide_eq_true (by omega)
      have k2 : (k : Int) < (L.length : Int) := by omega
      have hw1 : wrap64 ((k : Int) + 1) = ((k + 1 : Nat) : Int) := by unfold wrap64; omega
      obtain ⟨u, hu⟩ : ∃ u, L[k]? = some u := ⟨L[k], List.getElem?_eq_getElem hlt⟩
      have HLb := (HL.out.later hb)
      obtain ⟨b, off, ma, mc, rfl, hbl, c0, c1, c2, c3, c4, hsl⟩ := HLb.s.at'.get k u hu
      have hzu := hzz u (List.mem_of_getElem? hu)
      obtain ⟨gE, gV⟩ := rt_get HR.out hu
      have hge := get_any L u.seq wr _ _ cap HLb
      rw [gE, gV] at hge
      have Hnx := Hid.mk (rt_next HR.out H6.out hu)
      have HU := Hid.mk hu
      clear gE gV hu
      go_wp2_with fail
      with_reducible refine Calls.mono hge ?_
      rintro e w1 ⟨va, vc, rfl, vo, b1⟩
      dsimp only
      go_wp2_with fail
      have ba := (Below.refl w1.heap.size w1).alloc (Nat.le_refl _) (.cells #[str u.key, .int .i64 u.seq, .bool u.mkr, str u.data, .slice va u.l.length vc] 33)
      have z2 := Bv.new w1 (str u.key) (.int .i64 u.seq) (.bool u.mkr) (str u.data) (.slice va u.l.length vc)
      have b2 := below_seq b1 ba
      have vo2 := vo.later ba
      have L2 := HLb.later b2
      have B2 := hb.trans (b2.mono hb.size)
      have q0 := (b2.cell (p := ⟨b, _, none⟩) hbl).trans c0
      have q1 := (b2.cell (p := ⟨b, _, none⟩) hbl).trans c1
      have q2 := (b2.cell (p := ⟨b, _, none⟩) hbl).trans c2
      have q3 := (b2.cell (p := ⟨b, _, none⟩) hbl).trans c3
      have q4 := (b2.cell (p := ⟨b, _, none⟩) hbl).trans c4
      have hsl2 := hsl.later b2
      have hbl2 : b < (w1.alloc (.cells #[str u.key, .int .i64 u.seq, .bool u.mkr, str u.data, .slice va u.l.length vc] 33)).heap.size := Nat.lt_of_lt_of_le hbl b2.size
      obtain ⟨p0, p1, p2, p3, p4, _⟩ := z2.cells
      have hbx := z2.lt
      generalize w1.alloc (.cells #[str u.key, .int .i64 u.seq, .bool u.mkr, str u.data, .slice va u.l.length vc] 33) = w2 at *
      clear b1 ba b2 vo HLb hsl c0 c1 c2 c3 c4 hge hbl z2
      have hlk : ∀ w', Below w2.heap.size w2 w' → Calls Try.prog 17 #[vv u.key u.seq u.mkr u.data va u.l.length vc, vv u.key u.seq u.mkr u.data ma u.l.length mc] w' fun e w'' => e = .returned (.bool true) ∧ Below w'.heap.size w' w'' := fun w' hB => by
        have := like_any u u w' va _ vc rfl (vo2.later hB).asSl.at' (by omega) ma _ mc rfl (hsl2.later hB).at' (by omega)
        rw [sv_true rfl] at this
        exact this
      have hg1 : w1.heap.size < w2.heap.size := hbx
      clear hbx
      generalize w1.heap.size = g1 at *
      have HS : Hid (∀ w', Below w2.heap.size w2 w' → Below w2.heap.size w2 w' ∧ w'.cell? ⟨g1, 0, none⟩ = some (str u.key) ∧ w'.cell? ⟨g1, 1, none⟩ = some (.int .i64 u.seq) ∧ w'.cell? ⟨g1, 2, none⟩ = some (.bool u.mkr) ∧ w'.cell? ⟨g1, 3, none⟩ = some (str u.data) ∧ w'.cell? ⟨g1, 4, none⟩ = some (.slice va u.l.length vc) ∧ w'.cell? ⟨b, off + k * 5, none⟩ = some (str u.key) ∧ w'.cell? ⟨b, off + k * 5 + 1, none⟩ = some (.int .i64 u.seq) ∧ w'.cell? ⟨b, off + k * 5 + 2, none⟩ = some (.bool u.mkr) ∧ w'.cell? ⟨b, off + k * 5 + 3, none⟩ = some (str u.data) ∧ w'.cell? ⟨b, off + k * 5 + 4, none⟩ = some (.slice ma u.l.length mc)) := ⟨fun w' hB => ⟨hB, (hB.cell (p := ⟨g1, _, none⟩) hg1).trans p0, (hB.cell (p := ⟨g1, _, none⟩) hg1).trans p1, (hB.cell (p := ⟨g1, _, none⟩) hg1).trans p2, (hB.cell (p := ⟨g1, _, none⟩) hg1).trans p3, (hB.cell (p := ⟨g1, _, none⟩) hg1).trans p4, (hB.cell (p := ⟨b, _, none⟩) hbl2).trans q0, (hB.cell (p := ⟨b, _, none⟩) hbl2).trans q1, (hB.cell (p := ⟨b, _, none⟩) hbl2).trans q2, (hB.cell (p := ⟨b, _, none⟩) hbl2).trans q3, (hB.cell (p := ⟨b, _, none⟩) hbl2).trans q4⟩⟩
      clear p0 p1 p2 p3 p4 q0 q2 q3 q4 vo2
      go_region_held3 (fun w' => Below w2.heap.size w2 w' ∧ w'.cell? ⟨g1, 0, none⟩ = some (str u.key) ∧ w'.cell? ⟨g1, 1, none⟩ = some (.int .i64 u.seq) ∧ w'.cell? ⟨g1, 2, none⟩ = some (.bool u.mkr) ∧ w'.cell? ⟨g1, 3, none⟩ = some (str u.data) ∧ w'.cell? ⟨g1, 4, none⟩ = some (.slice va u.l.length vc) ∧ w'.cell? ⟨b, off + k * 5, none⟩ = some (str u.key) ∧ w'.cell? ⟨b, off + k * 5 + 1, none⟩ = some (.int .i64 u.seq) ∧ w'.cell? ⟨b, off + k * 5 + 2, none⟩ = some (.bool u.mkr) ∧ w'.cell? ⟨b, off + k * 5 + 3, none⟩ = some (str u.data) ∧ w'.cell? ⟨b, off + k * 5 + 4, none⟩ = some (.slice ma u.l.length mc)) (first
        | exact HS.out _ (Below.refl _ _).drew
        | exact HS.out _ (below_seq (And.left (by assumption)) b5)) (
        (go_at_call 17; with_reducible refine Calls.mono (hlk _ (And.left (by assumption))) ?_; rintro e w5 ⟨rfl, b5⟩))
      have b5' : Below w2.heap.size w2 w5 := And.left (by assumption)
      clear b5
      have B5 := B2.trans (b5'.mono B2.size)
      have c1 := (b5'.cell (p := ⟨b, _, none⟩) hbl2).trans q1
      have hbl5 := Nat.lt_of_lt_of_le hbl2 b5'.size
      have L5 := L2.later b5'
      clear b5' HS hlk q1 hbl2 L2 B2 hsl2
      have hge2 := get_any L (wrap64 (u.seq + 1)) w5 _ _ cap L5
      go_wp2_with fail
      with_reducible refine Calls.mono hge2 ?_
      rintro e w6 ⟨xa, xc, rfl, xo, b6⟩
      dsimp only
      go_wp2_with fail
      have ba := (Below.refl w6.heap.size w6).alloc (Nat.le_refl _) (.cells #[str (geV L (wrap64 (u.seq + 1))).key, .int .i64 (geV L (wrap64 (u.seq + 1))).seq, .bool (geV L (wrap64 (u.seq + 1))).mkr, str (geV L (wrap64 (u.seq + 1))).data, .slice xa (geV L (wrap64 (u.seq + 1))).l.length xc] 33)
      have b7 := below_seq b6 ba
      have B7 := B5.trans (b7.mono B5.size)
      have c7 := (b7.cell (p := ⟨b, _, none⟩) hbl5).trans c1
      have L7 := L5.later b7
      generalize w6.alloc (.cells #[str (geV L (wrap64 (u.seq + 1))).key, .int .i64 (geV L (wrap64 (u.seq + 1))).seq, .bool (geV L (wrap64 (u.seq + 1))).mkr, str (geV L (wrap64 (u.seq + 1))).data, .slice xa (geV L (wrap64 (u.seq + 1))).l.length xc] 33) = w7 at *
      generalize w6.heap.size = g6 at *
      clear c1 L5 B5 hge2 xo hbl5 b6 ba b7
      by_cases hn : k + 1 < L.length
      · obtain ⟨v, hv⟩ : ∃ v, L[k + 1]? = some v := ⟨L[k + 1], List.getElem?_eq_getElem hn⟩
        have d3 : decide (((k + 1 : Nat) : Int) < (L.length : Int)) = true := decide_eq_true (by omega)
        have d3' : decide ((k : Int) + 1 < (L.length : Int)) = true := decide_eq_true (by omega)
        have d3'' : decide (k + 1 < L.length) = true := decide_eq_true hn
        have k3 : (k : Int) + 1 < (L.length : Int) := by omega
        have k4 : ((k + 1 : Nat) : Int) < (L.length : Int) := by omega
        obtain ⟨b', off', ma', mc', hbb, _, _, y1, _⟩ := L7.s.at'.get (k + 1) v hv
        injection hbb with hbb
        injection hbb with hb1 hb2
        subst hb1 hb2
        by_cases hvX : v.seq = wrap64 (u.seq + 1)
        · have he : geE L (wrap64 (u.seq + 1)) = 0 := Hnx.out.2 ⟨v, hv, hvX⟩
          have d4 : (v.seq == wrap64 (u.seq + 1)) = true := by rw [beq_iff_eq]; exact hvX
          have d5 : decide (v.seq = wrap64 (u.seq + 1)) = true := decide_eq_true hvX
          rw [he]
          clear he hvX Hnx HU hv L7
          go_quiet (fail)
          go_wp2_with fail
          exact ⟨⟨k + 1, by omega, by go_num, below_dN B7 nq⟩, by first | (rw [hw1]; exact lss_meas hlt) | exact meas1 hlt⟩
        · have he : geE L (wrap64 (u.seq + 1)) = 72 := by
            rcases geE_two L (wrap64 (u.seq + 1)) with q | q
            · exfalso
              obtain ⟨v', hv', hs'⟩ := Hnx.out.1 q
              rw [hv] at hv'
              injection hv' with hv'
              subst hv'
              exact hvX hs'
            · exact q
          have d4 : (v.seq == wrap64 (u.seq + 1)) = false := by rw [beq_eq_false_iff_ne]; exact hvX
          have d5 : decide (v.seq = wrap64 (u.seq + 1)) = false := decide_eq_false hvX
          rw [he]
          clear he hvX Hnx HU hv L7
          go_quiet (fail)
          go_wp2_with fail
          exact ⟨⟨k + 1, by omega, by go_num, below_dN B7 nq⟩, by first | (rw [hw1]; exact lss_meas hlt) | exact meas1 hlt⟩
      · have d3 : decide (((k + 1 : Nat) : Int) < (L.length : Int)) = false := decide_eq_false (by omega)
        have d3' : decide ((k : Int) + 1 < (L.length : Int)) = false := decide_eq_false (by omega)
        have d3'' : decide (k + 1 < L.length) = false := decide_eq_false hn
        have he : geE L (wrap64 (u.seq + 1)) = 72 := by
          rcases geE_two L (wrap64 (u.seq + 1)) with q | q
          · exfalso
            obtain ⟨v', hv', hs'⟩ := Hnx.out.1 q
            rw [List.getElem?_eq_none (by omega)] at hv'
            cases hv'
          · exact q
        rw [he]
        clear he Hnx HU L7
        go_quiet (fail)
        go_wp2_with fail
        exact ⟨⟨k + 1, by omega, by go_num, below_dN B7 nq⟩, by first | (rw [hw1]; exact lss_meas hlt) | exact meas1 hlt⟩
    · obtain rfl : k = L.length := by omega
      have d1 : decide ((L.length : Int) < (L.length : Int)) = false := decide_eq_false (by omega)
      have L1 := HL.out.later hb
      have htz := Hid.mk (toV_z hzz)
      by_cases h0 : L.length = 0
      · have hnil : L = [] := List.eq_nil_of_length_eq_zero h0
        have hE : toE L = 72 := by rw [hnil]; rfl
        have ht := top_any L wr a _ cap L1
        rw [hE] at ht
        have d0 : ((L.length : Int) == 0) = true := by rw [beq_iff_eq]; omega
        have d0' : decide ((L.length : Int) = 0) = true := decide_eq_true (by omega)
        have d0'' : (L.length == 0) = true := by rw [beq_iff_eq]; omega
        clear hE hnil h0
        generalize toV L = T at *
        go_wp2_with fail
        with_reducible refine Calls.mono ht ?_
        rintro e w1 ⟨va, vc, rfl, vo, b1⟩
        dsimp only
        have b2 := below_seq b1 ((Below.refl w1.heap.size w1).alloc (Nat.le_refl _) (.cells #[str T.key, .int .i64 T.seq, .bool T.mkr, str T.data, .slice va T.l.length vc] 33))
        go_wp2_with fail
        go_ret
        exact ⟨rfl, hb.trans (b2.mono hb.size)⟩
      · obtain ⟨u, hu, hlu⟩ := lastV_at (L := L) (by omega)
        have d0 : ((L.length : Int) == 0) = false := by rw [beq_eq_false_iff_ne]; omega
        have d0' : decide ((L.length : Int) = 0) = false := decide_eq_false (by omega)
        have d0'' : (L.length == 0) = false := by rw [beq_eq_false_iff_ne]; omega
        obtain ⟨b, off, ma, mc, rfl, hbl, c0, c1, c2, c3, c4, hsl⟩ := L1.s.at'.get (L.length - 1) u hu
        have hzu := hzz u (List.mem_of_getElem? hu)
        have hw2 : wrap64 ((L.length : Int) - 1) = ((L.length - 1 : Nat) : Int) := by unfold wrap64; omega
        have k3 : ((L.length - 1 : Nat) : Int) < (L.length : Int) := by omega
        have k4 : (L.length : Int) - 1 < (L.length : Int) := by omega
        have k5 : (0 : Int) ≤ (L.length : Int) - 1 := by omega
        have ht := top_any L wr _ _ cap L1
        obtain ⟨uk, us, um, ud, ul⟩ := u
        dsimp only at c0 c1 c2 c3 c4 hsl hzu
        cases um with
        | true =>
          have hE : toE L = 73 := by unfold toE; rw [hlu]; rfl
          have hV : toV L = vs0 := by unfold toV; rw [hlu]; rfl
          rw [hE, hV] at ht
          clear hE hV hlu hu htz
          go_wp2_with fail
          with_reducible refine Calls.mono ht ?_
          rintro e w1 ⟨va, vc, rfl, vo, b1⟩
          dsimp only [vs0]
          have ba := (Below.refl w1.heap.size w1).alloc (Nat.le_refl _) (.cells #[str [], .int .i64 0, .bool false, str [], .slice va 0 vc] 33)
          have z2 := Bv.new w1 (str []) (.int .i64 0) (.bool false) (str []) (.slice va 0 vc)
          have b2 := below_seq b1 ba
          have vo2 := vo.later ba
          have q0 := (b2.cell (p := ⟨b, _, none⟩) hbl).trans c0
          have q1 := (b2.cell (p := ⟨b, _, none⟩) hbl).trans c1
          have q2 := (b2.cell (p := ⟨b, _, none⟩) hbl).trans c2
          have q3 := (b2.cell (p := ⟨b, _, none⟩) hbl).trans c3
          have q4 := (b2.cell (p := ⟨b, _, none⟩) hbl).trans c4
          have b3 := (Below.refl (w1.alloc (.cells #[str [], .int .i64 0, .bool false, str [], .slice va 0 vc] 33)).heap.size (w1.alloc (.cells #[str [], .int .i64 0, .bool false, str [], .slice va 0 vc] 33))).alloc (Nat.le_refl _) (.cells #[str uk, .int .i64 us, .bool true, str ud, .slice ma ul.length mc] 33)
          have vo3 := vo2.later b3
          have B3 := hb.trans ((below_seq b2 b3).mono hb.size)
          have hsl3 := hsl.later (below_seq b2 b3)
          have hlk := like_any vs0 vs0 _ va 0 vc rfl vo3.asSl.at' (by simp [vs0]) none 0 0 rfl ⟨fun k p hk => by simp [vs0] at hk⟩ (by simp [vs0])
          rw [sv_true rfl] at hlk
          go_wp2_with fail
          refine Calls.mono hlk ?_
          rintro e w4 ⟨rfl, b4⟩
          dsimp only
          go_wp2_with fail
          go_ret
          exact ⟨rfl, B3.trans (b4.mono B3.size)⟩
        | false =>
          have hE : toE L = 0 := by unfold toE; rw [hlu]; rfl
          have hV : toV L = ⟨uk, us, false, ud, ul⟩ := by unfold toV; rw [hlu]; rfl
          rw [hE, hV] at ht
          clear hE hV hlu hu htz
          go_wp2_with fail
          with_reducible refine Calls.mono ht ?_
          rintro e w1 ⟨va, vc, rfl, vo, b1⟩
          dsimp only
          have ba := (Below.refl w1.heap.size w1).alloc (Nat.le_refl _) (.cells #[str uk, .int .i64 us, .bool false, str ud, .slice va ul.length vc] 33)
          have z2 := Bv.new w1 (str uk) (.int .i64 us) (.bool false) (str ud) (.slice va ul.length vc)
          have b2 := below_seq b1 ba
          have vo2 := vo.later ba
          have q0 := (b2.cell (p := ⟨b, _, none⟩) hbl).trans c0
          have q1 := (b2.cell (p := ⟨b, _, none⟩) hbl).trans c1
          have q2 := (b2.cell (p := ⟨b, _, none⟩) hbl).trans c2
          have q3 := (b2.cell (p := ⟨b, _, none⟩) hbl).trans c3
          have q4 := (b2.cell (p := ⟨b, _, none⟩) hbl).trans c4
          have b3 := (Below.refl (w1.alloc (.cells #[str uk, .int .i64 us, .bool false, str ud, .slice va ul.length vc] 33)).heap.size (w1.alloc (.cells #[str uk, .int .i64 us, .bool false, str ud, .slice va ul.length vc] 33))).alloc (Nat.le_refl _) (.cells #[str uk, .int .i64 us, .bool false, str ud, .slice ma ul.length mc] 33)
          have vo3 := vo2.later b3
          have B3 := hb.trans ((below_seq b2 b3).mono hb.size)
          have hsl3 := hsl.later (below_seq b2 b3)
          have hlk := like_any ⟨uk, us, false, ud, ul⟩ ⟨uk, us, false, ud, ul⟩ _ va _ vc rfl vo3.asSl.at' (by show ul.length ≤ _; omega) ma _ mc rfl hsl3.at' (by show ul.length ≤ _; omega)
          rw [sv_true rfl] at hlk
          go_wp2_with fail
          refine Calls.mono hlk ?_
          rintro e w4 ⟨rfl, b4⟩
          dsimp only
          go_wp2_with fail
          go_ret
          exact ⟨rfl, B3.trans (b4.mono B3.size)⟩
end Go.Proofs.Ytaonjmmdgfbceaa
