import Derived.Test.YtgcdnanfnbdjjaaGreatGm
import Derived.Deep.QuietTactic
/- The document's newest, Get and GetVersion, of a right value. -/
namespace Go.Proofs.YtgcdnanfnbdjjaaGreat
set_option linter.unusedVariables false
set_option linter.unusedSimpArgs false
open Go.RowKit
attribute [local go_sem ↓] Go.wp_at_zero Go.wp_at_succ
set_option maxRecDepth 100000 in
set_option maxHeartbeats 4000000 in
theorem qnewest_any (L : List Vs) (next : Int) (k : List UInt8) (w : World) (a : Option Addr) (cap : Nat) (hs : SrtV L) (hL : Li w L a L.length cap) :
    Calls Tryz.prog 70 #[bv next a L.length cap, str k] w fun e w' => (∃ x : Int, e = .returned (.int .i64 x) ∧ NwP L k x) ∧ Below w.heap.size w w' := by
  have b0 := (Below.refl w.heap.size w).alloc (Nat.le_refl _) (.cells #[.int .i64 next, .slice a L.length cap] 24)
  have z0 := Bq.new w (.int .i64 next) (.slice a L.length cap)
  have HL := Hid.mk (hL.later b0)
  have hl := hL.l
  have HB := Hid.mk b0
  have HZ := Hid.mk z0
  have HQ := Hid.mk (fun (j i : Nat) (u v : Vs) (hj : L[j]? = some u) (hi : L[i]? = some v) (hlt : j < i) (hk : u.key = v.key) => srt_seq hs hj hi hlt hk)
  clear hL b0
  obtain ⟨p0, p1, _⟩ := z0.cells
  clear z0 hs
  go_enter Tryz.func70, Tryz.ntmps70
  go_wp2_with fail
  clear p0 p1
  generalize w.alloc (.cells #[.int .i64 next, .slice a L.length cap] 24) = W1 at *
  go_loopw [5, 6] (fun x i wr => ∃ (m : Nat) (y : Int), m ≤ L.length ∧ i = .int .i64 (m : Int) ∧ x = .int .i64 y ∧ Hid (NwP (L.take m) k y) ∧ Hid (Below W1.heap.size W1 wr)) (fun x i _ => L.length - (intOf i).toNat)
  case atStart => exact ⟨0, -1, Nat.zero_le _, rfl, rfl, ⟨nwp_zero L k⟩, ⟨Below.refl _ _⟩⟩
  case round =>
    obtain ⟨m, y, hm, rfl, rfl, hN, hb⟩ := hrel
    obtain ⟨p0, p1, _⟩ := (HZ.out.later hb.out).cells
    by_cases hlt : m < L.length
    · have d1 : decide ((m : Int) < (L.length : Int)) = true := decide_eq_true (Int.ofNat_lt.2 hlt)
      have k2 : (m : Int) < (L.length : Int) := Int.ofNat_lt.2 hlt
      have hw1 : wrap64 ((m : Int) + 1) = ((m + 1 : Nat) : Int) := by unfold wrap64; omega
      obtain ⟨u, hu⟩ : ∃ u, L[m]? = some u := ⟨L[m], List.getElem?_eq_getElem hlt⟩
      obtain ⟨b, off, ma, mc, rfl, hbl, c0, c1, c2, c3, c4, hsl⟩ := (HL.out.later hb.out).s.at'.get m u hu
      by_cases hk : u.key = k
      · subst hk
        have HT : Hid (NwP (L.take (m + 1)) u.key (m : Int)) := ⟨nwp_yes hu rfl⟩
        rcases nwp_at hN.out with rfl | ⟨j, v, hjm, rfl, hv, hvk⟩
        · clear hN hu c2 c3 c4 hsl HQ
          go_wp2_with fail
          go_quiet (fail)
          go_wp2_with fail
          exact ⟨⟨m + 1, _, hlt, by first | (rw [hw1]; done) | go_num, rfl, HT, ⟨below_dN hb.out nq⟩⟩, by first | (rw [hw1]; exact Nat.sub_lt_sub_left hlt (Nat.lt_succ_self m)) | (simp [intOf]; omega)⟩
        · have hlt2 := HQ.out j m v u hv hu hjm hvk
          have d2 : decide ((j : Int) < 0) = false := decide_eq_false (by omega)
          have d3 : decide (v.seq < u.seq) = true := decide_eq_true hlt2
          have j2 : (j : Int) < (L.length : Int) := by omega
          obtain ⟨_, _, _, _, hqa, _, f0, f1, _⟩ := (HL.out.later hb.out).s.at'.get j v hv
          cases hqa
          generalize v.seq = vs at *
          clear hN hu c2 c3 c4 hsl HQ hlt2 hv hvk
          go_wp2_with fail
          go_quiet (fail)
          go_wp2_with fail
          exact ⟨⟨m + 1, _, hlt, by first | (rw [hw1]; done) | go_num, rfl, HT, ⟨below_dN hb.out nq⟩⟩, by first | (rw [hw1]; exact Nat.sub_lt_sub_left hlt (Nat.lt_succ_self m)) | (simp [intOf]; omega)⟩
      · have dk : (u.key == k) = false := beq_eq_false_iff_ne.2 hk
        have HT : Hid (NwP (L.take (m + 1)) k y) := ⟨nwp_no hN.out hu hk⟩
        clear hN hu c2 c3 c4 hsl HQ hk
        go_wp2_with fail
        go_quiet (fail)
        go_wp2_with fail
        exact ⟨⟨m + 1, _, hlt, by first | (rw [hw1]; done) | go_num, rfl, HT, ⟨below_dN hb.out nq⟩⟩, by first | (rw [hw1]; exact Nat.sub_lt_sub_left hlt (Nat.lt_succ_self m)) | (simp [intOf]; omega)⟩
    · obtain rfl : m = L.length := by omega
      have d1 : decide ((L.length : Int) < (L.length : Int)) = false := decide_eq_false (by omega)
      have hN1 := hN.out
      rw [List.take_length] at hN1
      have HN1 := Hid.mk hN1
      clear hN hN1 HQ
      go_wp2_with fail
      go_ret
      exact ⟨⟨_, rfl, HN1.out⟩, HB.out.trans (hb.out.mono HB.out.size)⟩
end Go.Proofs.YtgcdnanfnbdjjaaGreat

/- The document's Get and GetVersion, of a right value. -/
namespace Go.Proofs.YtgcdnanfnbdjjaaGreat
set_option linter.unusedVariables false
set_option linter.unusedSimpArgs false
open Go.RowKit
attribute [local go_sem ↓] Go.wp_at_zero Go.wp_at_succ
theorem rt_vl {next : Int} {L : List Vs} (h : RtB next L) {u : Vs} (hu : u ∈ L) : u.l.length ≤ 4398046510976 := by
  have h3 := (vrV_iff.1 (h.ok u hu).2.2).1.2.2
  unfold mtE at h3
  split at h3
  · rename_i z; omega
  · omega
set_option maxRecDepth 100000 in
set_option maxHeartbeats 4000000 in
theorem qGet_r (L : List Vs) (next : Int) (k : List UInt8) (w : World) (a : Option Addr) (cap : Nat) (hR : RtB next L) (hL : Li w L a L.length cap) :
    Calls Tryz.prog 40 #[bv next a L.length cap, str k] w fun e w' => RV w w' e (gtV L k) (gtE L k) := by
  have b0 := (Below.refl w.heap.size w).alloc (Nat.le_refl _) (.cells #[.int .i64 next, .slice a L.length cap] 24)
  have b1 := b0.alloc b0.size (.cells z5c 39)
  have HB := Hid.mk (boxBV w (.int .i64 next) (.slice a L.length cap))
  have hk := fun w => rKey_any k w
  have hL2 := Hid.mk (hL.later b1)
  have HR := Hid.mk hR
  have hsz : ((w.alloc (.cells #[.int .i64 next, .slice a L.length cap] 24)).alloc (.cells z5c 39)).heap.size = w.heap.size + 2 := by simp
  have hl := hL.l
  clear hL b0 hR
  by_cases hk0 : keyE k = 0
  · have HE : Hid (gtE L k = toE (gpL L (fndV L k) k)) := ⟨by unfold gtE; rw [if_pos hk0]⟩
    have HV : Hid (gtV L k = toV (gpL L (fndV L k) k)) := ⟨by unfold gtV; rw [if_pos hk0]⟩
    rw [hk0] at hk
    have hnw := qnewest_any L next k _ a cap HR.out.srt hL2.out
    obtain ⟨p0, p1, _⟩ := (HB.out _ (Below.refl _ _)).1.cells
    clear hk0
    go_enter Tryz.func40, Tryz.ntmps40
    go_wp2_with (go_at_call 65; refine (hk _).mono ?_; rintro e w0 ⟨rfl, rfl⟩)
    with_reducible refine Calls.mono hnw ?_
    rintro e w1 ⟨⟨x, rfl, hN⟩, c1⟩
    dsimp only
    have b3 := b1.trans (c1.mono b1.size)
    have bb : Below (w.heap.size + 2) ((w.alloc (.cells #[.int .i64 next, .slice a L.length cap] 24)).alloc (.cells z5c 39)) w1 := by simpa using c1
    have HL1 := Hid.mk (hL2.out.later c1)
    clear hnw c1 p0 p1 hk
    obtain ⟨p0, p1, _⟩ := (HB.out _ bb).1.cells
    obtain ⟨_, y0⟩ := HB.out _ bb
    obtain ⟨q0, q1, q2, q3, q4, qf⟩ := y0.cells
    have qf0 := qf 0
    have qf1 := qf 1
    have qf2 := qf 2
    have qf3 := qf 3
    have qf4 := qf 4
    clear qf
    rcases nw_get HR.out.srt hN with ⟨rfl, h1, h2⟩ | ⟨j, u, rfl, hu, hkk, h1, h2⟩
    · have HX : Hid (gtE L k = 72 ∧ gtV L k = vs0) := ⟨by rw [HE.out, HV.out, h1, h2]; exact ⟨rfl, rfl⟩⟩
      have z9 := y0.s5 (.string ⟨#[]⟩) (.int .i64 0) (.bool false) (.string ⟨#[]⟩) (.slice none 0 0)
      have B9 := Below.s5 b3 (R := w.heap.size + 1) (Nat.le_succ _) (.string ⟨#[]⟩) (.int .i64 0) (.bool false) (.string ⟨#[]⟩) (.slice none 0 0)
      clear hN h1 h2 HE HV HL1 bb b1 b3 HR HB hL2 y0
      go_wp2_with fail
      first | rw [s5_eq] | skip
      obtain ⟨g0, g1, g2, g3, g4, _⟩ := z9.cells
      generalize s5 w1 (w.heap.size + 1) (.string ⟨#[]⟩) (.int .i64 0) (.bool false) (.string ⟨#[]⟩) (.slice none 0 0) = W9 at *
      refine bodyPost_ret (v := .tuple #[vv [] 0 false [] none 0 0, .int .i64 72]) ?_ rfl (by rw [HX.out.1, HX.out.2]; exact rv_zero B9)
      rw [results_ct rfl]
      go_simp
    · clear hkk
      have d2 : decide ((j : Int) < 0) = false := decide_eq_false (by omega)
      have hjl : j < L.length := (List.getElem?_eq_some_iff.1 hu).1
      have j2 : (j : Int) < (L.length : Int) := Int.ofNat_lt.2 hjl
      obtain ⟨b, off, ma, mc, rfl, hbl, c0, c1, c2, c3, c4, hsl⟩ := HL1.out.s.at'.get j u hu
      by_cases hm : u.mkr = true
      · rw [if_pos hm] at h1 h2
        rw [hm] at c2
        have HX : Hid (gtE L k = 73 ∧ gtV L k = vs0) := ⟨by rw [HE.out, HV.out, h1, h2]; exact ⟨rfl, rfl⟩⟩
        have z9 := y0.s5 (.string ⟨#[]⟩) (.int .i64 0) (.bool false) (.string ⟨#[]⟩) (.slice none 0 0)
        have B9 := Below.s5 b3 (R := w.heap.size + 1) (Nat.le_succ _) (.string ⟨#[]⟩) (.int .i64 0) (.bool false) (.string ⟨#[]⟩) (.slice none 0 0)
        clear hN h1 h2 HE HV HL1 bb b1 b3 HR HB hL2 hu hm hsl y0
        go_wp2_with fail
        first | rw [s5_eq] | skip
        obtain ⟨g0, g1, g2, g3, g4, _⟩ := z9.cells
        generalize s5 w1 (w.heap.size + 1) (.string ⟨#[]⟩) (.int .i64 0) (.bool false) (.string ⟨#[]⟩) (.slice none 0 0) = W9 at *
        refine bodyPost_ret (v := .tuple #[vv [] 0 false [] none 0 0, .int .i64 73]) ?_ rfl (by rw [HX.out.1, HX.out.2]; exact rv_zero B9)
        rw [results_ct rfl]
        go_simp
      · rw [if_neg hm] at h1 h2
        have hm' : u.mkr = false := by simpa using hm
        have HX : Hid (gtE L k = 0 ∧ gtV L k = u) := ⟨by rw [HE.out, HV.out, h1, h2]; exact ⟨rfl, rfl⟩⟩
        have hown := qOwn_any u w1 ma _ mc rfl hsl (rt_vl HR.out (List.mem_of_getElem? hu))
        have c2' := c2
        rw [hm'] at c2'
        clear hN h1 h2 HE HV HL1 HR hL2 hu hm hsl
        obtain ⟨key, seq, mkr, data, l⟩ := u
        simp only at hm'
        subst hm'
        simp only at *
        go_wp2_with fail
        with_reducible refine Calls.mono hown ?_
        rintro e w2 ⟨ra, rc, rfl, ow, c2⟩
        dsimp only
        have bb2 := bb.trans (c2.mono (by have := bb.size; (try simp at this); omega))
        have b4 := b3.trans (c2.mono b3.size)
        clear q0 q1 q2 q3 q4 qf0 qf1 qf2 qf3 qf4 y0
        obtain ⟨_, y0⟩ := HB.out _ bb2
        obtain ⟨q0, q1, q2, q3, q4, qf⟩ := y0.cells
        have qf0 := qf 0
        have qf1 := qf 1
        have qf2 := qf 2
        have qf3 := qf 3
        have qf4 := qf 4
        clear qf
        have hno : (Value.slice ra l.length rc).ownBlock ≠ some (w.heap.size + 1) := fun q => by
          have := (ow.own.lt _ q).1
          have := bb.size
          try simp at this
          omega
        have z9 := y0.s5 (str key) (.int .i64 seq) (.bool false) (str data) (.slice ra l.length rc)
        have o9 := (ow.base (b' := w.heap.size) b3.size).s5 hno (str key) (.int .i64 seq) (.bool false) (str data) (.slice ra l.length rc)
        have B9 := Below.s5 b4 (R := w.heap.size + 1) (Nat.le_succ _) (str key) (.int .i64 seq) (.bool false) (str data) (.slice ra l.length rc)
        clear HB y0 ow b3 b4 bb bb2 hno hown c2
        go_wp2_with fail
        first | rw [s5_eq] | skip
        obtain ⟨g0, g1, g2, g3, g4, _⟩ := z9.cells
        generalize s5 w2 (w.heap.size + 1) (str key) (.int .i64 seq) (.bool false) (str data) (.slice ra l.length rc) = W9 at *
        refine bodyPost_ret (v := .tuple #[vv key seq false data ra l.length rc, .int .i64 0]) ?_ rfl (by rw [HX.out.1, HX.out.2]; exact ⟨ra, rc, rfl, o9, B9⟩)
        rw [results_ct rfl]
        go_simp
  · have HK := Hid.mk hk0
    have hke : keyE k = 61 := (keyE_or k).resolve_left hk0
    rw [hke] at hk
    obtain ⟨_, y0⟩ := HB.out _ (Below.refl _ _)
    obtain ⟨q0, q1, q2, q3, q4, qf⟩ := y0.cells
    have qf0 := qf 0
    have qf1 := qf 1
    have qf2 := qf 2
    have qf3 := qf 3
    have qf4 := qf 4
    have HE := Hid.mk hke
    clear hk0 hke qf y0 HB hL2 HR hl hsz
    go_enter Tryz.func40, Tryz.ntmps40
    go_wp2_with (go_at_call 65; refine (hk _).mono ?_; rintro e w0 ⟨rfl, rfl⟩)
    refine bodyPost_ret (v := .tuple #[vv [] 0 false [] none 0 0, .int .i64 61]) ?_ rfl (by unfold gtV gtE; rw [if_neg HK.out, if_neg HK.out, HE.out]; exact rv_zero b1)
    rw [results_ct rfl]
    go_simp
set_option maxRecDepth 100000 in
set_option maxHeartbeats 4000000 in
theorem qGetVersion_r (L : List Vs) (next : Int) (k : List UInt8) (sq : Int) (w : World) (a : Option Addr) (cap : Nat) (hR : RtB next L) (hL : Li w L a L.length cap) :
    Calls Tryz.prog 41 #[bv next a L.length cap, str k, .int .i64 sq] w fun e w' => RV w w' e (gvV L k sq) (gvE L k sq) := by
  have b0 := (Below.refl w.heap.size w).alloc (Nat.le_refl _) (.cells #[.int .i64 next, .slice a L.length cap] 24)
  have b1 := b0.alloc b0.size (.cells z5c 39)
  have HB := Hid.mk (boxBV w (.int .i64 next) (.slice a L.length cap))
  have hk := fun w => rKey_any k w
  have hL2 := Hid.mk (hL.later b1)
  have HR := Hid.mk hR
  have hsz : ((w.alloc (.cells #[.int .i64 next, .slice a L.length cap] 24)).alloc (.cells z5c 39)).heap.size = w.heap.size + 2 := by simp
  have hl := hL.l
  clear hL b0 hR
  by_cases hk0 : keyE k = 0
  · have HE : Hid (gvE L k sq = geE (gpL L (fndV L k) k) sq) := ⟨by unfold gvE; rw [if_pos hk0]⟩
    have HV : Hid (gvV L k sq = geV (gpL L (fndV L k) k) sq) := ⟨by unfold gvV; rw [if_pos hk0]⟩
    rw [hk0] at hk
    obtain ⟨p0, p1, _⟩ := (HB.out _ (Below.refl _ _)).1.cells
    clear hk0
    go_enter Tryz.func41, Tryz.ntmps41
    go_wp2_with (go_at_call 65; refine (hk _).mono ?_; rintro e w0 ⟨rfl, rfl⟩)
    clear hk p0 p1
    generalize (w.alloc (.cells #[.int .i64 next, .slice a L.length cap] 24)).alloc (.cells z5c 39) = W2 at *
    go_loopw [8] (fun i wr => ∃ m : Nat, m ≤ L.length ∧ i = .int .i64 (m : Int) ∧ Hid (∀ u ∈ L.take m, ¬ (u.key = k ∧ u.seq = sq)) ∧ Hid (Below W2.heap.size W2 wr)) (fun i _ => L.length - (intOf i).toNat)
    case atStart => exact ⟨0, Nat.zero_le _, rfl, ⟨fun u hu => by simp at hu⟩, ⟨Below.refl _ _⟩⟩
    case round =>
      obtain ⟨m, hm, rfl, hN, hb⟩ := hrel
      have b3 := b1.trans (hb.out.mono b1.size)
      have bb : Below (w.heap.size + 2) W2 wr := by rw [← hsz]; exact hb.out
      obtain ⟨p0, p1, _⟩ := (HB.out _ bb).1.cells
      by_cases hlt : m < L.length
      · have d1 : decide ((m : Int) < (L.length : Int)) = true := decide_eq_true (Int.ofNat_lt.2 hlt)
        have k2 : (m : Int) < (L.length : Int) := Int.ofNat_lt.2 hlt
        have hw1 : wrap64 ((m : Int) + 1) = ((m + 1 : Nat) : Int) := by unfold wrap64; omega
        obtain ⟨u, hu⟩ : ∃ u, L[m]? = some u := ⟨L[m], List.getElem?_eq_getElem hlt⟩
        obtain ⟨b, off, ma, mc, rfl, hbl, c0, c1, c2, c3, c4, hsl⟩ := (hL2.out.later hb.out).s.at'.get m u hu
        by_cases hk : u.key = k
        · subst hk
          by_cases hq : u.seq = sq
          · subst hq
            obtain ⟨h1, h2⟩ := ge_told HR.out (List.mem_of_getElem? hu)
            have HX : Hid (gvE L u.key u.seq = 0 ∧ gvV L u.key u.seq = u) := ⟨by rw [HE.out, HV.out, h1, h2]; exact ⟨rfl, rfl⟩⟩
            have hown := qOwn_any u wr ma _ mc rfl hsl (rt_vl HR.out (List.mem_of_getElem? hu))
            obtain ⟨_, y0⟩ := HB.out _ bb
            obtain ⟨q0, q1, q2, q3, q4, qf⟩ := y0.cells
            have qf0 := qf 0
            have qf1 := qf 1
            have qf2 := qf 2
            have qf3 := qf 3
            have qf4 := qf 4
            clear qf
            clear hN h1 h2 HE HV HR hL2 hu hsl b1
            have hsb : W2.heap.size = w.heap.size + 2 := hsz
            go_wp2_with fail
            with_reducible refine Calls.mono hown ?_
            rintro e w2 ⟨ra, rc, rfl, ow, c2⟩
            dsimp only
            have bb2 := bb.trans (c2.mono (by have := bb.size; (try simp at this); omega))
            have b4 := b3.trans (c2.mono b3.size)
            clear q0 q1 q2 q3 q4 qf0 qf1 qf2 qf3 qf4 y0
            obtain ⟨_, y0⟩ := HB.out _ bb2
            obtain ⟨q0, q1, q2, q3, q4, qf⟩ := y0.cells
            have qf0 := qf 0
            have qf1 := qf 1
            have qf2 := qf 2
            have qf3 := qf 3
            have qf4 := qf 4
            clear qf
            have hno : (Value.slice ra u.l.length rc).ownBlock ≠ some (w.heap.size + 1) := fun q => by
              have := (ow.own.lt _ q).1
              have := bb.size
              try simp at this
              omega
            have z9 := y0.s5 (str u.key) (.int .i64 u.seq) (.bool u.mkr) (str u.data) (.slice ra u.l.length rc)
            have o9 := (ow.base (b' := w.heap.size) b3.size).s5 hno (str u.key) (.int .i64 u.seq) (.bool u.mkr) (str u.data) (.slice ra u.l.length rc)
            have B9 := Below.s5 b4 (R := w.heap.size + 1) (Nat.le_succ _) (str u.key) (.int .i64 u.seq) (.bool u.mkr) (str u.data) (.slice ra u.l.length rc)
            clear HB y0 ow b3 b4 bb bb2 hno hown c2
            go_wp2_with fail
            first | rw [s5_eq] | skip
            obtain ⟨g0, g1, g2, g3, g4, _⟩ := z9.cells
            generalize s5 w2 (w.heap.size + 1) (str u.key) (.int .i64 u.seq) (.bool u.mkr) (str u.data) (.slice ra u.l.length rc) = W9 at *
            refine bodyPost_ret (v := .tuple #[vv u.key u.seq u.mkr u.data ra u.l.length rc, .int .i64 0]) ?_ rfl (by rw [HX.out.1, HX.out.2]; exact ⟨ra, rc, rfl, o9, B9⟩)
            rw [results_ct rfl]
            go_simp
          · have d2 : (u.seq == sq) = false := beq_eq_false_iff_ne.2 hq
            have HT : Hid (∀ x ∈ L.take (m + 1), ¬ (x.key = u.key ∧ x.seq = sq)) := ⟨fun x hx => by
              rw [takeV hu] at hx
              rcases List.mem_append.1 hx with z | z
              · exact hN.out x z
              · simp at z; subst z; exact fun q => hq q.2⟩
            clear hN hu c2 c3 c4 hsl hq HE HV HR hL2 b1 b3 bb HB
            go_wp2_with fail
            exact ⟨⟨m + 1, hlt, by first | (rw [hw1]; done) | go_num, HT, hb⟩, by first | (rw [hw1]; exact Nat.sub_lt_sub_left hlt (Nat.lt_succ_self m)) | (simp [intOf]; omega)⟩
        · have d2 : (u.key == k) = false := beq_eq_false_iff_ne.2 hk
          have HT : Hid (∀ x ∈ L.take (m + 1), ¬ (x.key = k ∧ x.seq = sq)) := ⟨fun x hx => by
            rw [takeV hu] at hx
            rcases List.mem_append.1 hx with z | z
            · exact hN.out x z
            · simp at z; subst z; exact fun q => hk q.1⟩
          clear hN hu c2 c3 c4 hsl hk HE HV HR hL2 b1 b3 bb HB
          go_wp2_with fail
          exact ⟨⟨m + 1, hlt, by first | (rw [hw1]; done) | go_num, HT, hb⟩, by first | (rw [hw1]; exact Nat.sub_lt_sub_left hlt (Nat.lt_succ_self m)) | (simp [intOf]; omega)⟩
      · obtain rfl : m = L.length := by omega
        have d1 : decide ((L.length : Int) < (L.length : Int)) = false := decide_eq_false (by omega)
        have hN1 := hN.out
        rw [List.take_length] at hN1
        obtain ⟨h1, h2⟩ := gv_none HR.out.srt hN1
        have HX : Hid (gvE L k sq = 72 ∧ gvV L k sq = vs0) := ⟨by rw [HE.out, HV.out, h1, h2]; exact ⟨rfl, rfl⟩⟩
        obtain ⟨_, y0⟩ := HB.out _ bb
        obtain ⟨q0, q1, q2, q3, q4, qf⟩ := y0.cells
        have qf0 := qf 0
        have qf1 := qf 1
        have qf2 := qf 2
        have qf3 := qf 3
        have qf4 := qf 4
        clear qf
        have z9 := y0.s5 (.string ⟨#[]⟩) (.int .i64 0) (.bool false) (.string ⟨#[]⟩) (.slice none 0 0)
        have B9 := Below.s5 b3 (R := w.heap.size + 1) (Nat.le_succ _) (.string ⟨#[]⟩) (.int .i64 0) (.bool false) (.string ⟨#[]⟩) (.slice none 0 0)
        clear hN hN1 h1 h2 HE HV hL2 bb b1 b3 HR HB y0
        go_wp2_with fail
        first | rw [s5_eq] | skip
        obtain ⟨g0, g1, g2, g3, g4, _⟩ := z9.cells
        generalize s5 wr (w.heap.size + 1) (.string ⟨#[]⟩) (.int .i64 0) (.bool false) (.string ⟨#[]⟩) (.slice none 0 0) = W9 at *
        refine bodyPost_ret (v := .tuple #[vv [] 0 false [] none 0 0, .int .i64 72]) ?_ rfl (by rw [HX.out.1, HX.out.2]; exact rv_zero B9)
        rw [results_ct rfl]
        go_simp
  · have HK := Hid.mk hk0
    have hke : keyE k = 61 := (keyE_or k).resolve_left hk0
    rw [hke] at hk
    obtain ⟨_, y0⟩ := HB.out _ (Below.refl _ _)
    obtain ⟨q0, q1, q2, q3, q4, qf⟩ := y0.cells
    have qf0 := qf 0
    have qf1 := qf 1
    have qf2 := qf 2
    have qf3 := qf 3
    have qf4 := qf 4
    have HE := Hid.mk hke
    clear hk0 hke qf y0 HB hL2 HR hl hsz
    go_enter Tryz.func41, Tryz.ntmps41
    go_wp2_with (go_at_call 65; refine (hk _).mono ?_; rintro e w0 ⟨rfl, rfl⟩)
    refine bodyPost_ret (v := .tuple #[vv [] 0 false [] none 0 0, .int .i64 61]) ?_ rfl (by unfold gvV gvE; rw [if_neg HK.out, if_neg HK.out, HE.out]; exact rv_zero b1)
    rw [results_ct rfl]
    go_simp
end Go.Proofs.YtgcdnanfnbdjjaaGreat

/- The document's more, of a right value. -/
namespace Go.Proofs.YtgcdnanfnbdjjaaGreat
set_option linter.unusedVariables false
set_option linter.unusedSimpArgs false
open Go.RowKit
attribute [local go_sem ↓] Go.wp_at_zero Go.wp_at_succ
/-- the list so far -/
def mrL (L : List Vs) (v : Vs) (p i : Nat) (t : Bool) (X : List Vs) : Prop := (t = false ∧ i ≤ p ∧ X = L.take i) ∨ (t = true ∧ p < i ∧ X = L.take p ++ v :: (L.take i).drop p)
theorem mr_len {L : List Vs} {v : Vs} {p i : Nat} {t : Bool} {X : List Vs} (h : mrL L v p i t X) : X.length ≤ L.length + 1 := by
  rcases h with ⟨_, _, rfl⟩ | ⟨_, h, rfl⟩
  · rw [List.length_take]; omega
  · simp; omega
theorem mr_false {L : List Vs} {v u : Vs} {p i : Nat} {X : List Vs} (h : mrL L v p i false X) (hu : L[i]? = some u) (hp : ¬ p ≤ i) : mrL L v p (i + 1) false (X ++ [u]) := by
  rcases h with ⟨_, _, rfl⟩ | ⟨h, _⟩
  · exact .inl ⟨rfl, by omega, (takeV hu).symm⟩
  · cases h
theorem mr_turn {L : List Vs} {v u : Vs} {p i : Nat} {X : List Vs} (h : mrL L v p i false X) (hu : L[i]? = some u) (hp : p ≤ i) : mrL L v p (i + 1) true (X ++ [v] ++ [u]) := by
  rcases h with ⟨_, h1, rfl⟩ | ⟨h, _⟩
  · obtain rfl : p = i := by omega
    refine .inr ⟨rfl, by omega, ?_⟩
    rw [takeV hu, List.drop_append_of_le_length (by have := (List.getElem?_eq_some_iff.1 hu).1; rw [List.length_take]; omega)]
    have : (L.take p).drop p = [] := List.drop_eq_nil_iff.2 (by rw [List.length_take]; omega)
    rw [this]
    simp
  · cases h
theorem mr_true {L : List Vs} {v u : Vs} {p i : Nat} {X : List Vs} (h : mrL L v p i true X) (hu : L[i]? = some u) : mrL L v p (i + 1) true (X ++ [u]) := by
  rcases h with ⟨h, _⟩ | ⟨_, h1, rfl⟩
  · cases h
  · refine .inr ⟨rfl, by omega, ?_⟩
    rw [takeV hu, List.drop_append_of_le_length (by have := (List.getElem?_eq_some_iff.1 hu).1; rw [List.length_take]; omega)]
    simp
theorem mr_end {L : List Vs} {v : Vs} {t : Bool} {X : List Vs} (hp : puE (gpL L (fndV L v.key) v.key) v = 0) (h : mrL L v (plX L v.key) L.length t X) : (t = true → X = putX L v) ∧ (t = false → X ++ [v] = putX L v) := by
  have hle := plx_le L v.key
  rcases h with ⟨rfl, h1, rfl⟩ | ⟨rfl, h1, rfl⟩
  · refine ⟨fun q => (by cases q), fun _ => ?_⟩
    rw [← plx_put hp, show plX L v.key = L.length by omega]
    simp
  · refine ⟨fun _ => ?_, fun q => (by cases q)⟩
    rw [← plx_put hp, List.take_length]
set_option maxRecDepth 100000 in
set_option maxHeartbeats 8000000 in
theorem qmore_r (L : List Vs) (next : Int) (key data : List UInt8) (mkr : Bool) (l : List En) (s0 : Int) (w : World) (a : Option Addr) (cap : Nat) (va : Option Addr) (vc : Nat) (hR : RtB next L) (hL : Li w L a L.length cap) (hv : vrV ⟨key, next, mkr, data, l⟩ = 0) (hS : Sl w va vc l) :
    Calls Tryz.prog 69 #[bv next a L.length cap, vv key s0 mkr data va l.length vc] w fun e w' => PtP w w' e next L ⟨key, next, mkr, data, l⟩ := by
  have b0 := (Below.refl w.heap.size w).alloc (Nat.le_refl _) (.cells #[.int .i64 next, .slice a L.length cap] 24)
  have b1 := b0.alloc b0.size (.cells #[str key, .int .i64 next, .bool mkr, str data, .slice va l.length vc] 39)
  have b2 := b1.alloc b1.size (.cells #[.int .i64 0, .slice none 0 0] 24)
  have HB := Hid.mk (box3 w (.int .i64 next) (.slice a L.length cap) (str key) (.int .i64 next) (.bool mkr) (str data) (.slice va l.length vc))
  have hsW : (((w.alloc (.cells #[.int .i64 next, .slice a L.length cap] 24)).alloc (.cells #[str key, .int .i64 next, .bool mkr, str data, .slice va l.length vc] 39)).alloc (.cells #[.int .i64 0, .slice none 0 0] 24)).heap.size = w.heap.size + 3 := by simp
  have hll : l.length ≤ 100 := by
    have h3 := (vrV_iff.1 hv).1.2.2
    unfold mtE at h3
    split at h3
    · rename_i z; simp at z; omega
    · omega
  have HL := Hid.mk (hL.later b2)
  have HS := Hid.mk (hS.later b2)
  clear b0 b1 hL hS
  by_cases h2 : 1099511627776 < next
  · have HE := Hid.mk (rfE_2 (L := L) hv h2)
    have d2 : decide (1099511627776 < next) = true := decide_eq_true h2
    clear h2 hv HL HS hR HB hsW
    go_enter Tryz.func69, Tryz.ntmps69
    go_wp2_with fail
    refine bodyPost_ret (v := .tuple #[bv 0 none 0 0, .int .i64 0, .int .i64 74]) ?_ rfl (.inl ⟨by rw [HE.out]; decide, by rw [HE.out]; exact rc_zero b2⟩)
    rw [results_ctt rfl]
    go_simp
  · have d2 : decide (1099511627776 < next) = false := decide_eq_false h2
    by_cases h3 : 256 ≤ L.length
    · have HE := Hid.mk (rfE_3 hv h2 h3)
      have d3 : decide ((256 : Int) ≤ (L.length : Int)) = true := decide_eq_true (by omega)
      clear h2 h3 hv HL HS hR HB hsW
      go_enter Tryz.func69, Tryz.ntmps69
      go_wp2_with fail
      refine bodyPost_ret (v := .tuple #[bv 0 none 0 0, .int .i64 0, .int .i64 75]) ?_ rfl (.inl ⟨by rw [HE.out]; decide, by rw [HE.out]; exact rc_zero b2⟩)
      rw [results_ctt rfl]
      go_simp
    · have d3 : decide ((256 : Int) ≤ (L.length : Int)) = false := decide_eq_false (by omega)
      have HE4 := Hid.mk (fun (h4 : 65536 < wrap64 (bw L + szV ⟨key, next, mkr, data, l⟩)) => rfE_4 hv h2 h3 h4)
      have HE5 := Hid.mk (fun (h4 : ¬ 65536 < wrap64 (bw L + szV ⟨key, next, mkr, data, l⟩)) => rfE_5 hv h2 h3 h4)
      have hll2 : L.length ≤ 256 := by omega
      clear h2 h3 hv
      go_enter Tryz.func69, Tryz.ntmps69
      go_wp2_with fail
      generalize (((w.alloc (.cells #[.int .i64 next, .slice a L.length cap] 24)).alloc (.cells #[str key, .int .i64 next, .bool mkr, str data, .slice va l.length vc] 39)).alloc (.cells #[.int .i64 0, .slice none 0 0] 24)) = W3 at *
      have hby := fun w' (hb : Below W3.heap.size W3 w') => qBytes_any L next w' a _ cap (HL.out.later hb)
      have hsz : ∀ w2, Below W3.heap.size W3 w2 → Calls Tryz.prog 68 #[vv key next mkr data va l.length vc] w2 fun e w' => e = .returned (.int .i64 (szV ⟨key, next, mkr, data, l⟩)) ∧ Below w2.heap.size w2 w' := fun w2 h => rSize_any key next mkr data l w2 va _ vc rfl (HS.out.later h).at' (by omega)
      have HS1 : Hid (∀ w', Below W3.heap.size W3 w' → (fun w' => Below W3.heap.size W3 w' ∧ w'.cell? ⟨w.heap.size, 0, none⟩ = some (.int .i64 next) ∧ w'.cell? ⟨w.heap.size, 1, none⟩ = some (.slice a L.length cap) ∧ w'.cell? ⟨w.heap.size + 1, 0, none⟩ = some (str key) ∧ w'.cell? ⟨w.heap.size + 1, 1, none⟩ = some (.int .i64 next) ∧ w'.cell? ⟨w.heap.size + 1, 2, none⟩ = some (.bool mkr) ∧ w'.cell? ⟨w.heap.size + 1, 3, none⟩ = some (str data) ∧ w'.cell? ⟨w.heap.size + 1, 4, none⟩ = some (.slice va l.length vc)) w') := ⟨fun w' h => by
        obtain ⟨q1, q2, _⟩ := HB.out w' (by rw [← hsW]; exact h)
        obtain ⟨g0, g1, _⟩ := q1.cells
        obtain ⟨t0, t1, t2, t3, t4, _⟩ := q2.cells
        exact ⟨h, g0, g1, t0, t1, t2, t3, t4⟩⟩
      simp only at HS1
      by_cases h4 : 65536 < wrap64 (bw L + szV ⟨key, next, mkr, data, l⟩)
      · have HE := Hid.mk (HE4.out h4)
        have d4 : decide (65536 < wrap64 (bw L + szV ⟨key, next, mkr, data, l⟩)) = true := decide_eq_true h4
        have d5 : decide (65536 < IntKind.i64.wrap (bw L + szV ⟨key, next, mkr, data, l⟩)) = true := by rw [wrap_eq]; exact d4
        clear h4 HL HS hR HE4 HE5
        generalize bw L = BL at *
        generalize szV ⟨key, next, mkr, data, l⟩ = SV at *
        go_region_held3 (fun w' => Below W3.heap.size W3 w' ∧ w'.cell? ⟨w.heap.size, 0, none⟩ = some (.int .i64 next) ∧ w'.cell? ⟨w.heap.size, 1, none⟩ = some (.slice a L.length cap) ∧ w'.cell? ⟨w.heap.size + 1, 0, none⟩ = some (str key) ∧ w'.cell? ⟨w.heap.size + 1, 1, none⟩ = some (.int .i64 next) ∧ w'.cell? ⟨w.heap.size + 1, 2, none⟩ = some (.bool mkr) ∧ w'.cell? ⟨w.heap.size + 1, 3, none⟩ = some (str data) ∧ w'.cell? ⟨w.heap.size + 1, 4, none⟩ = some (.slice va l.length vc)) ((refine HS1.out _ ?_; first
          | with_reducible exact (Below.refl _ _).drew
          | with_reducible exact (below_seq (And.left (by assumption)) e1)
          | with_reducible exact (below_seq (And.left (by assumption)) e2))) (first
          | (go_at_call 34; with_reducible refine Calls.mono (hby _ (And.left (by assumption))) ?_; rintro e w3 ⟨rfl, e1⟩)
          | (go_at_call 68; with_reducible refine Calls.mono (hsz _ (And.left (by assumption))) ?_; rintro e w4 ⟨rfl, e2⟩))
        have hbw : Below W3.heap.size W3 w4 := And.left (by assumption)
        clear hby hsz HS1 e1 e2

        obtain ⟨_, _, r1⟩ := HB.out w4 (by rw [← hsW]; exact hbw)
        obtain ⟨rd0, rd1, rf⟩ := r1.cells
        have rf0 := rf 0
        have rf1 := rf 1
        have z9 := (r1.set0 (.int .i64 0)).set1 (.slice none 0 0)
        have B9 := ((b2.trans (hbw.mono b2.size)).setCell (p := ⟨w.heap.size + 2, 0, none⟩) (by show w.heap.size ≤ w.heap.size + 2; omega) (.int .i64 0)).setCell (p := ⟨w.heap.size + 2, 1, none⟩) (by show w.heap.size ≤ w.heap.size + 2; omega) (.slice none 0 0)
        clear r1 rf hbw HB
        go_wp2_with fail
        obtain ⟨g0, g1, _⟩ := z9.cells
        generalize (w4.setCell ⟨w.heap.size + 2, 0, none⟩ (.int .i64 0)).setCell ⟨w.heap.size + 2, 1, none⟩ (.slice none 0 0) = W9 at *
        refine bodyPost_ret (v := .tuple #[bv 0 none 0 0, .int .i64 0, .int .i64 76]) ?_ rfl (.inl ⟨by rw [HE.out]; decide, by rw [HE.out]; exact rc_zero B9⟩)
        rw [results_ctt rfl]
        go_simp
      · have HE := Hid.mk (HE5.out (by first | exact h4 | omega))
        have d4 : decide (65536 < wrap64 (bw L + szV ⟨key, next, mkr, data, l⟩)) = false := decide_eq_false h4
        have d5 : decide (65536 < IntKind.i64.wrap (bw L + szV ⟨key, next, mkr, data, l⟩)) = false := by rw [wrap_eq]; exact d4
        have HR := Hid.mk hR
        clear h4 hR HE4 HE5
        generalize bw L = BL at *
        generalize szV ⟨key, next, mkr, data, l⟩ = SV at *
        go_region_held3 (fun w' => Below W3.heap.size W3 w' ∧ w'.cell? ⟨w.heap.size, 0, none⟩ = some (.int .i64 next) ∧ w'.cell? ⟨w.heap.size, 1, none⟩ = some (.slice a L.length cap) ∧ w'.cell? ⟨w.heap.size + 1, 0, none⟩ = some (str key) ∧ w'.cell? ⟨w.heap.size + 1, 1, none⟩ = some (.int .i64 next) ∧ w'.cell? ⟨w.heap.size + 1, 2, none⟩ = some (.bool mkr) ∧ w'.cell? ⟨w.heap.size + 1, 3, none⟩ = some (str data) ∧ w'.cell? ⟨w.heap.size + 1, 4, none⟩ = some (.slice va l.length vc)) ((refine HS1.out _ ?_; first
          | with_reducible exact (Below.refl _ _).drew
          | with_reducible exact (below_seq (And.left (by assumption)) e1)
          | with_reducible exact (below_seq (And.left (by assumption)) e2))) (first
          | (go_at_call 34; with_reducible refine Calls.mono (hby _ (And.left (by assumption))) ?_; rintro e w3 ⟨rfl, e1⟩)
          | (go_at_call 68; with_reducible refine Calls.mono (hsz _ (And.left (by assumption))) ?_; rintro e w4 ⟨rfl, e2⟩))
        have hbw : Below W3.heap.size W3 w4 := And.left (by assumption)
        clear hby hsz HS1 e1 e2

        obtain ⟨p, hp⟩ : ∃ p, p = plX L key := ⟨_, rfl⟩
        have HP : Hid (∀ (i : Nat) (u : Vs), L[i]? = some u → (ahB ⟨key, next, mkr, data, l⟩ u = true ↔ p ≤ i)) := ⟨fun i u hu => by
          rw [hp]
          have := plx_iff HR.out (v := ⟨key, next, mkr, data, l⟩) rfl hu
          unfold ahB
          simpa using this⟩
        have HPE : Hid (∀ t X, mrL L ⟨key, next, mkr, data, l⟩ p L.length t X → (t = true → X = putX L ⟨key, next, mkr, data, l⟩) ∧ (t = false → X ++ [⟨key, next, mkr, data, l⟩] = putX L ⟨key, next, mkr, data, l⟩)) := ⟨fun t X h => mr_end (HR.out.put HE.out rfl).1 (by rw [hp] at h; exact h)⟩
        have HVL := Hid.mk (fun (u : Vs) (hu : u ∈ L) => rt_vl HR.out hu)
        have hbw' : Below (w.heap.size + 3) W3 w4 := by rw [← hsW]; exact hbw
        have C0 : Cp (w.heap.size + 3) w4 (.slice none 0 0) [] := Cp.nil _ _ (by have := hbw'.size; omega)
        have M0 : mrL L ⟨key, next, mkr, data, l⟩ p 0 false [] := .inl ⟨rfl, Nat.zero_le _, by simp⟩
        have HWn := Hid.mk (wr_next HR.out)
        clear hbw HR hp d4 d5
        go_wp2_with fail
        generalize IntKind.i64.wrap (BL + SV) = TV at *
        go_loopw [7, 8, 9] (fun o t i wr => ∃ (m : Nat) (f : Bool) (X : List Vs), m ≤ L.length ∧ i = .int .i64 (m : Int) ∧ t = .bool f ∧ Hid (mrL L ⟨key, next, mkr, data, l⟩ p m f X) ∧ Hid (Cp (w.heap.size + 3) wr o X) ∧ Hid (Below (w.heap.size + 3) W3 wr)) (fun o t i _ => L.length - (intOf i).toNat)
        case atStart => exact ⟨0, false, [], Nat.zero_le _, rfl, rfl, ⟨M0⟩, ⟨C0⟩, ⟨hbw'⟩⟩
        case round =>
          clear C0 M0 hbw'
          obtain ⟨m, f, X, hm, rfl, rfl, hM, hO, hb⟩ := hrel
          have hbl : Below W3.heap.size W3 wr := by rw [hsW]; exact hb.out
          obtain ⟨xw, yw, rw'⟩ := HB.out wr hb.out
          obtain ⟨x0, x1, _⟩ := xw.cells
          obtain ⟨y0, y1, y2, y3, y4, _⟩ := yw.cells
          have hXl := mr_len hM.out
          by_cases hlt : m < L.length
          · have d1 : decide ((m : Int) < (L.length : Int)) = true := decide_eq_true (Int.ofNat_lt.2 hlt)
            have k2 : (m : Int) < (L.length : Int) := Int.ofNat_lt.2 hlt
            have hw1 : wrap64 ((m : Int) + 1) = ((m + 1 : Nat) : Int) := by unfold wrap64; omega
            obtain ⟨u, hu⟩ : ∃ u, L[m]? = some u := ⟨L[m], List.getElem?_eq_getElem hlt⟩
            have hul := HVL.out u (List.mem_of_getElem? hu)
            obtain ⟨b, off, ma, mc, rfl, hbl', c0, c1, c2, c3, c4, hsl⟩ := (HL.out.later hbl).s.at'.get m u hu
            have hBr := hb.out
            have HF : Hid (∀ w', Below (w.heap.size + 3) W3 w' → (w'.cell? ⟨w.heap.size, 1, none⟩ = some (.slice (some ⟨b, off, none⟩) L.length cap) ∧ w'.cell? ⟨w.heap.size + 1, 0, none⟩ = some (str key) ∧ w'.cell? ⟨w.heap.size + 1, 1, none⟩ = some (.int .i64 next) ∧ w'.cell? ⟨w.heap.size + 1, 2, none⟩ = some (.bool mkr) ∧ w'.cell? ⟨w.heap.size + 1, 3, none⟩ = some (str data) ∧ w'.cell? ⟨w.heap.size + 1, 4, none⟩ = some (.slice va l.length vc) ∧ w'.cell? ⟨b, off + m * 5, none⟩ = some (str u.key) ∧ w'.cell? ⟨b, off + m * 5 + 1, none⟩ = some (.int .i64 u.seq) ∧ w'.cell? ⟨b, off + m * 5 + 2, none⟩ = some (.bool u.mkr) ∧ w'.cell? ⟨b, off + m * 5 + 3, none⟩ = some (str u.data) ∧ w'.cell? ⟨b, off + m * 5 + 4, none⟩ = some (.slice ma u.l.length mc)) ∧ Sl w' ma mc u.l ∧ Sl w' va vc l) := ⟨fun w' h => by
              have h' : Below W3.heap.size W3 w' := by rw [hsW]; exact h
              obtain ⟨q1, q2, _⟩ := HB.out w' h
              obtain ⟨_, g1, _⟩ := q1.cells
              obtain ⟨t0, t1, t2, t3, t4, _⟩ := q2.cells
              obtain ⟨b1, o1, ma1, mc1, e1, l1, s0, s1, s2, s3, s4, sl1⟩ := HL.out.s.at'.get m u hu
              cases e1
              have e4 := (hbl.cell (p := ⟨b, _, none⟩) l1).trans s4
              rw [c4] at e4
              cases e4
              exact ⟨⟨g1, t0, t1, t2, t3, t4, (h'.cell (p := ⟨b, _, none⟩) l1).trans s0, (h'.cell (p := ⟨b, _, none⟩) l1).trans s1, (h'.cell (p := ⟨b, _, none⟩) l1).trans s2, (h'.cell (p := ⟨b, _, none⟩) l1).trans s3, (h'.cell (p := ⟨b, _, none⟩) l1).trans s4⟩, sl1.later h', HS.out.later h'⟩⟩
            have hO1 := hO.out
            cases f with
            | true =>
              have HT : Hid (mrL L ⟨key, next, mkr, data, l⟩ p (m + 1) true (X ++ [u])) := ⟨mr_true hM.out hu⟩
              clear hM hu HP HPE HVL c0 c1 c2 c3 c4 y0 y1 y2 y3 y4 x0 xw yw rw' hbl hbl' hsl hO
              go_wp2_with fail
              go_quiet (fail)
              have hB5 := below_dN hBr nq
              have hO5 := hO1.later (below_dN (Below.refl _ _) nq)
              clear x1
              generalize wr.drewN nq = w5 at *
              obtain ⟨⟨x1, y0, y1, y2, y3, y4, c0, c1, c2, c3, c4⟩, hsl, hsv⟩ := HF.out w5 hB5
              have hcu := qOwn_any u w5 ma _ mc rfl hsl hul
              clear hsl hsv y0 y1 y2 y3 y4
              go_wp2_with (first
                | (go_at_call 31; refine hcu.mono ?_; rintro e w6 ⟨ad, c, rfl, ow, b6⟩)
                | (refine app_cp rfl _ _ rfl u rfl rfl hO5 b6 ow rfl (by omega) rfl rfl ?_; intro v7 w7 o7 b7))
              refine ⟨?_, by first | (rw [hw1]; exact Nat.sub_lt_sub_left hlt (Nat.lt_succ_self m)) | (simp [intOf]; omega)⟩
              first
                | exact ⟨m + 1, _, _, hlt, by first | (rw [hw1]; done) | go_num, rfl, HT, ⟨o7⟩, ⟨hB5.trans b7⟩⟩
                | ((repeat apply Exists.intro); exact ⟨⟨m + 1, _, _, hlt, by first | (rw [hw1]; done) | go_num, rfl, HT, ⟨o7⟩, ⟨hB5.trans b7⟩⟩, rfl⟩)
            | false =>
              have HS1 : Hid (∀ w', Below wr.heap.size wr w' → Below wr.heap.size wr w' ∧ w'.cell? ⟨w.heap.size, 1, none⟩ = some (.slice (some ⟨b, off, none⟩) L.length cap) ∧ w'.cell? ⟨w.heap.size + 1, 0, none⟩ = some (str key) ∧ w'.cell? ⟨w.heap.size + 1, 1, none⟩ = some (.int .i64 next) ∧ w'.cell? ⟨w.heap.size + 1, 2, none⟩ = some (.bool mkr) ∧ w'.cell? ⟨w.heap.size + 1, 3, none⟩ = some (str data) ∧ w'.cell? ⟨w.heap.size + 1, 4, none⟩ = some (.slice va l.length vc) ∧ w'.cell? ⟨b, off + m * 5, none⟩ = some (str u.key) ∧ w'.cell? ⟨b, off + m * 5 + 1, none⟩ = some (.int .i64 u.seq) ∧ w'.cell? ⟨b, off + m * 5 + 2, none⟩ = some (.bool u.mkr) ∧ w'.cell? ⟨b, off + m * 5 + 3, none⟩ = some (str u.data) ∧ w'.cell? ⟨b, off + m * 5 + 4, none⟩ = some (.slice ma u.l.length mc)) := ⟨fun w' h => ⟨h, (HF.out w' (hBr.trans (h.mono (by have := hBr.size; omega)))).1⟩⟩
              have hah := fun w' => ahead_any ⟨key, next, mkr, data, l⟩ u w' va l.length vc ma u.l.length mc
              simp only at hah
              by_cases hp : p ≤ m
              · rw [(HP.out m u hu).2 hp] at hah
                have HT : Hid (mrL L ⟨key, next, mkr, data, l⟩ p (m + 1) true (X ++ [⟨key, next, mkr, data, l⟩] ++ [u])) := ⟨mr_turn hM.out hu hp⟩
                clear hM hu HP HPE HVL c0 c1 c2 c3 c4 y0 y1 y2 y3 y4 x0 xw yw rw' hbl hbl' hsl hO hp
                go_wp2_with fail
                go_region_held3 (fun w' => Below wr.heap.size wr w' ∧ w'.cell? ⟨w.heap.size, 1, none⟩ = some (.slice (some ⟨b, off, none⟩) L.length cap) ∧ w'.cell? ⟨w.heap.size + 1, 0, none⟩ = some (str key) ∧ w'.cell? ⟨w.heap.size + 1, 1, none⟩ = some (.int .i64 next) ∧ w'.cell? ⟨w.heap.size + 1, 2, none⟩ = some (.bool mkr) ∧ w'.cell? ⟨w.heap.size + 1, 3, none⟩ = some (str data) ∧ w'.cell? ⟨w.heap.size + 1, 4, none⟩ = some (.slice va l.length vc) ∧ w'.cell? ⟨b, off + m * 5, none⟩ = some (str u.key) ∧ w'.cell? ⟨b, off + m * 5 + 1, none⟩ = some (.int .i64 u.seq) ∧ w'.cell? ⟨b, off + m * 5 + 2, none⟩ = some (.bool u.mkr) ∧ w'.cell? ⟨b, off + m * 5 + 3, none⟩ = some (str u.data) ∧ w'.cell? ⟨b, off + m * 5 + 4, none⟩ = some (.slice ma u.l.length mc)) ((refine HS1.out _ ?_; first
                  | with_reducible exact (Below.refl _ _).drew
                  | with_reducible exact (below_seq (And.left (by assumption)) e1))) (
                  (go_at_call 33; with_reducible refine Calls.mono (hah _) ?_; rintro e w5 ⟨rfl, e1⟩))
                have hb5 : Below wr.heap.size wr w5 := And.left (by assumption)
                have hB5 := hBr.trans (hb5.mono (by have := hBr.size; omega))
                have hO5 := hO1.later hb5
                clear e1 HS1 hah hO1 hBr x1
                obtain ⟨⟨x1, y0, y1, y2, y3, y4, c0, c1, c2, c3, c4⟩, hsl, hsv⟩ := HF.out w5 hB5
                have hcv := qOwn_any ⟨key, next, mkr, data, l⟩ w5 va _ vc rfl hsv (by show l.length ≤ _; omega)
                clear hsl hsv c0 c1 c2 c3 c4
                simp only at hcv
                go_wp2_with (first
                  | (go_at_call 31; with_reducible refine Calls.mono hcv ?_; rintro e w6 ⟨ad, c, rfl, ow, b6⟩)
                  | (go_at_call 31; with_reducible refine Calls.mono hcu ?_; rintro e w8 ⟨ad8, c8, rfl, ow8, b8⟩)
                  | (with_reducible refine app_cp rfl _ _ rfl ⟨key, next, mkr, data, l⟩ rfl rfl hO5 b6 ow rfl (by omega) rfl rfl ?_; intro v7 w7 o7 b7; have hB7 := hB5.trans b7; have F7 := HF.out w7 hB7; have x7 := F7.1.1; have c07 := F7.1.2.2.2.2.2.2.1; have c17 := F7.1.2.2.2.2.2.2.2.1; have c27 := F7.1.2.2.2.2.2.2.2.2.1; have c37 := F7.1.2.2.2.2.2.2.2.2.2.1; have c47 := F7.1.2.2.2.2.2.2.2.2.2.2; have hcu := qOwn_any u w7 ma _ mc rfl F7.2.1 hul; clear F7)
                  | (with_reducible refine app_cp rfl _ _ rfl u rfl rfl o7 b8 ow8 rfl (by rw [List.length_append]; simp; omega) rfl rfl ?_; intro v9 w9 o9 b9))
                refine ⟨?_, by first | (rw [hw1]; exact Nat.sub_lt_sub_left hlt (Nat.lt_succ_self m)) | (simp [intOf]; omega)⟩
                first
                  | exact ⟨m + 1, _, _, hlt, by first | (rw [hw1]; done) | go_num, rfl, HT, ⟨o9⟩, ⟨(hB7).trans b9⟩⟩
                  | ((repeat apply Exists.intro); exact ⟨⟨m + 1, _, _, hlt, by first | (rw [hw1]; done) | go_num, rfl, HT, ⟨o9⟩, ⟨(hB7).trans b9⟩⟩, rfl⟩)
              · have hfa : ahB ⟨key, next, mkr, data, l⟩ u = false := by
                  cases hq : ahB ⟨key, next, mkr, data, l⟩ u with
                  | false => rfl
                  | true => exact absurd ((HP.out m u hu).1 hq) hp
                rw [hfa] at hah
                have HT : Hid (mrL L ⟨key, next, mkr, data, l⟩ p (m + 1) false (X ++ [u])) := ⟨mr_false hM.out hu hp⟩
                clear hM hu HP HPE HVL c0 c1 c2 c3 c4 y0 y1 y2 y3 y4 x0 xw yw rw' hbl hbl' hsl hO hp hfa
                go_wp2_with fail
                go_region_held3 (fun w' => Below wr.heap.size wr w' ∧ w'.cell? ⟨w.heap.size, 1, none⟩ = some (.slice (some ⟨b, off, none⟩) L.length cap) ∧ w'.cell? ⟨w.heap.size + 1, 0, none⟩ = some (str key) ∧ w'.cell? ⟨w.heap.size + 1, 1, none⟩ = some (.int .i64 next) ∧ w'.cell? ⟨w.heap.size + 1, 2, none⟩ = some (.bool mkr) ∧ w'.cell? ⟨w.heap.size + 1, 3, none⟩ = some (str data) ∧ w'.cell? ⟨w.heap.size + 1, 4, none⟩ = some (.slice va l.length vc) ∧ w'.cell? ⟨b, off + m * 5, none⟩ = some (str u.key) ∧ w'.cell? ⟨b, off + m * 5 + 1, none⟩ = some (.int .i64 u.seq) ∧ w'.cell? ⟨b, off + m * 5 + 2, none⟩ = some (.bool u.mkr) ∧ w'.cell? ⟨b, off + m * 5 + 3, none⟩ = some (str u.data) ∧ w'.cell? ⟨b, off + m * 5 + 4, none⟩ = some (.slice ma u.l.length mc)) ((refine HS1.out _ ?_; first
                  | with_reducible exact (Below.refl _ _).drew
                  | with_reducible exact (below_seq (And.left (by assumption)) e1))) (
                  (go_at_call 33; with_reducible refine Calls.mono (hah _) ?_; rintro e w5 ⟨rfl, e1⟩))
                have hb5 : Below wr.heap.size wr w5 := And.left (by assumption)
                have hB5 := hBr.trans (hb5.mono (by have := hBr.size; omega))
                have hO5 := hO1.later hb5
                clear e1 HS1 hah hO1 hBr x1
                obtain ⟨⟨x1, y0, y1, y2, y3, y4, c0, c1, c2, c3, c4⟩, hsl, hsv⟩ := HF.out w5 hB5
                have hcu := qOwn_any u w5 ma _ mc rfl hsl hul
                clear hsl hsv y0 y1 y2 y3 y4
                go_wp2_with (first
                  | (go_at_call 31; refine hcu.mono ?_; rintro e w6 ⟨ad, c, rfl, ow, b6⟩)
                  | (refine app_cp rfl _ _ rfl u rfl rfl hO5 b6 ow rfl (by omega) rfl rfl ?_; intro v7 w7 o7 b7))
                refine ⟨?_, by first | (rw [hw1]; exact Nat.sub_lt_sub_left hlt (Nat.lt_succ_self m)) | (simp [intOf]; omega)⟩
                first
                  | exact ⟨m + 1, _, _, hlt, by first | (rw [hw1]; done) | go_num, rfl, HT, ⟨o7⟩, ⟨hB5.trans b7⟩⟩
                  | ((repeat apply Exists.intro); exact ⟨⟨m + 1, _, _, hlt, by first | (rw [hw1]; done) | go_num, rfl, HT, ⟨o7⟩, ⟨hB5.trans b7⟩⟩, rfl⟩)
          · obtain rfl : m = L.length := by omega
            have d1 : decide ((L.length : Int) < (L.length : Int)) = false := decide_eq_false (by omega)
            obtain ⟨ht1, ht2⟩ := HPE.out f X hM.out
            obtain ⟨r0, r1, rf⟩ := rw'.cells
            have hwn := HWn.out
            have hwn2 : IntKind.i64.wrap (next + 1) = next + 1 := by rw [wrap_eq]; exact hwn
            have bW := b2.trans (hb.out.mono (by omega))
            have hO1 := hO.out
            cases f with
            | true =>
              have hX := ht1 rfl
              subst hX
              obtain ⟨oa, oc, rfl, oS⟩ := hO1.ls
              have rf0 := rf 0
              have rf1 := rf 1
              have z9 := (rw'.set0 (.int .i64 (next + 1))).set1 (.slice oa (putX L ⟨key, next, mkr, data, l⟩).length oc)
              have o9 := (hO1.low (g := w.heap.size + 2) (j := 0) (by omega) (.int .i64 (next + 1))).low (g := w.heap.size + 2) (j := 1) (by omega) (.slice oa (putX L ⟨key, next, mkr, data, l⟩).length oc)
              have B9 := (bW.setCell (p := ⟨w.heap.size + 2, 0, none⟩) (by show w.heap.size ≤ w.heap.size + 2; omega) (.int .i64 (next + 1))).setCell (p := ⟨w.heap.size + 2, 1, none⟩) (by show w.heap.size ≤ w.heap.size + 2; omega) (.slice oa (putX L ⟨key, next, mkr, data, l⟩).length oc)
              clear hM hO hO1 oS ht1 ht2 rf HB HL HS HP HPE HVL xw yw rw' hb hbl bW
              generalize hXX : putX L ⟨key, next, mkr, data, l⟩ = X at *
              have HXX := Hid.mk hXX
              clear hXX
              generalize hXL : X.length = XL at *
              clear hXL
              go_wp2_with fail
              go_region
              go_wp2_with fail
              have z9' := Bq.later (x := .int .i64 (next + 1)) (y := .slice oa XL oc) (g := w.heap.size + 2) z9 (Below.refl _ _).drew
              have o9' := o9.later (Below.refl _ _).drew
              have B9' := B9.drew
              clear z9 o9 B9
              obtain ⟨g0, g1, _⟩ := z9'.cells
              rw [show w.heap.size + 1 + 1 = w.heap.size + 2 by omega] at *
              generalize ((wr.setCell ⟨w.heap.size + 2, 0, none⟩ (.int .i64 (next + 1))).setCell ⟨w.heap.size + 2, 1, none⟩ (.slice oa XL oc)).drew = W9 at *
              refine bodyPost_ret (v := .tuple #[.agg #[.int .i64 (next + 1), .slice oa XL oc], .int .i64 next, .int .i64 0]) ?_ rfl (.inr ⟨HE.out, by rw [HXX.out]; exact ⟨_, rfl, o9'.base (by omega), B9'⟩⟩)
              rw [results_ctt rfl]
              go_simp
            | false =>
              have hX := ht2 rfl
              have hsv := HS.out.later hbl
              have hcv := qOwn_any ⟨key, next, mkr, data, l⟩ wr va _ vc rfl hsv (by show l.length ≤ _; omega)
              simp only at hcv
              have HR2 : Hid (∀ w', Below (w.heap.size + 3) W3 w' → Bq w' (w.heap.size + 2) (.int .i64 0) (.slice none 0 0) ∧ w'.cell? ⟨w.heap.size, 0, none⟩ = some (.int .i64 next) ∧ w'.cell? ⟨w.heap.size + 1, 1, none⟩ = some (.int .i64 next)) := ⟨fun w' h => by
                obtain ⟨q1, q2, q3⟩ := HB.out w' h
                exact ⟨q3, q1.cells.1, q2.cells.2.1⟩⟩
              have hBr := hb.out
              clear hM hO ht1 ht2 rf HB HL HS HP HPE HVL xw yw rw' hb hbl bW hsv
              go_wp2_with (first
                | (go_at_call 31; with_reducible refine Calls.mono hcv ?_; rintro e w6 ⟨ad, c, rfl, ow, b6⟩)
                | (with_reducible refine app_cp rfl _ _ rfl ⟨key, next, mkr, data, l⟩ rfl rfl hO1 b6 ow rfl (by omega) rfl rfl ?_; intro v7 w7 o7 b7))
              have hB7 := hBr.trans b7
              have bW := b2.trans (hB7.mono (by omega))
              rw [hX] at o7
              obtain ⟨q3, p0, p1⟩ := HR2.out w7 hB7
              obtain ⟨oa, oc, rfl, oS⟩ := o7.ls
              obtain ⟨r0, r1, rf⟩ := q3.cells
              have rf0 := rf 0
              have rf1 := rf 1
              have z9 := (q3.set0 (.int .i64 (next + 1))).set1 (.slice oa (putX L ⟨key, next, mkr, data, l⟩).length oc)
              have o9 := (o7.low (g := w.heap.size + 2) (j := 0) (by omega) (.int .i64 (next + 1))).low (g := w.heap.size + 2) (j := 1) (by omega) (.slice oa (putX L ⟨key, next, mkr, data, l⟩).length oc)
              have B9 := (bW.setCell (p := ⟨w.heap.size + 2, 0, none⟩) (by show w.heap.size ≤ w.heap.size + 2; omega) (.int .i64 (next + 1))).setCell (p := ⟨w.heap.size + 2, 1, none⟩) (by show w.heap.size ≤ w.heap.size + 2; omega) (.slice oa (putX L ⟨key, next, mkr, data, l⟩).length oc)
              clear oS rf q3 HR2 hB7 bW b7 o7 hO1 hX hcv ow b6
              generalize hXX : putX L ⟨key, next, mkr, data, l⟩ = Y at *
              have HXX := Hid.mk hXX
              clear hXX
              generalize hXL : Y.length = XL at *
              clear hXL
              go_wp2_with fail
              go_region
              go_wp2_with fail
              have z9' := Bq.later (x := .int .i64 (next + 1)) (y := .slice oa XL oc) (g := w.heap.size + 2) z9 (Below.refl _ _).drew
              have o9' := o9.later (Below.refl _ _).drew
              have B9' := B9.drew
              clear z9 o9 B9
              obtain ⟨g0, g1, _⟩ := z9'.cells
              rw [show w.heap.size + 1 + 1 = w.heap.size + 2 by omega] at *
              generalize ((w7.setCell ⟨w.heap.size + 2, 0, none⟩ (.int .i64 (next + 1))).setCell ⟨w.heap.size + 2, 1, none⟩ (.slice oa XL oc)).drew = W9 at *
              refine bodyPost_ret (v := .tuple #[.agg #[.int .i64 (next + 1), .slice oa XL oc], .int .i64 next, .int .i64 0]) ?_ rfl (.inr ⟨HE.out, by rw [HXX.out]; exact ⟨_, rfl, o9'.base (by omega), B9'⟩⟩)
              rw [results_ctt rfl]
              go_simp
end Go.Proofs.YtgcdnanfnbdjjaaGreat

/- The document's New, Put, Delete and DeleteVersion, of a right value. -/
namespace Go.Proofs.YtgcdnanfnbdjjaaGreat
set_option linter.unusedVariables false
set_option linter.unusedSimpArgs false
open Go.RowKit
attribute [local go_sem ↓] Go.wp_at_zero Go.wp_at_succ
theorem PtP.out {w w' : World} {e : Ending} {next : Int} {L : List Vs} {v : Vs} (h : PtP w w' e next L v) : ∃ n1 X s c, RC w w' e n1 X s c ∧ ∀ W W' E, RC W W' E n1 X s c → PtP W W' E next L v := by
  rcases h with ⟨h1, h2⟩ | ⟨h1, h2⟩
  · exact ⟨_, _, _, _, h2, fun _ _ _ q => .inl ⟨h1, q⟩⟩
  · exact ⟨_, _, _, _, h2, fun _ _ _ q => .inr ⟨h1, q⟩⟩
theorem vr_put (k d : List UInt8) (l : List En) (n : Int) : (¬ keyE k = 0 → vrV ⟨k, n, false, d, l⟩ = 61) ∧ (keyE k = 0 → ¬ datE d = 0 → vrV ⟨k, n, false, d, l⟩ = 63) ∧ (keyE k = 0 → datE d = 0 → vrV ⟨k, n, false, d, l⟩ = mtE l) := by
  unfold vrV vrE
  refine ⟨fun h => by simp [h], fun h1 h2 => by simp [h1, h2], fun h1 h2 => by simp [h1, h2]⟩
theorem vr_del (k : List UInt8) (n : Int) : (¬ keyE k = 0 → vrV ⟨k, n, true, [], []⟩ = 61) ∧ (keyE k = 0 → vrV ⟨k, n, true, [], []⟩ = 0) := by
  refine ⟨fun h => by unfold vrV vrE; simp [h], fun h => vrV_iff.2 ⟨⟨h, by show datE [] = 0; unfold datE; simp, by show mtE [] = 0; unfold mtE; simp [Srt]⟩, fun _ => ⟨rfl, rfl⟩⟩⟩
theorem rf_c {next : Int} {L : List Vs} {v : Vs} {E : Int} (h : vrV v = E) (hE : ¬ E = 0) {w w' : World} {e : Ending} (hr : RC w w' e 0 [] 0 E) : PtP w w' e next L v := .inl (by rw [rfE_1 h hE]; exact ⟨hE, hr⟩)
set_option maxRecDepth 100000 in
set_option maxHeartbeats 4000000 in
theorem qPut_r (L : List Vs) (next : Int) (k d : List UInt8) (l : List En) (w : World) (a : Option Addr) (cap : Nat) (va : Option Addr) (vc : Nat) (hR : RtB next L) (hL : Li w L a L.length cap) (hS : Sl w va vc l) (hz : l.length ≤ 4398046510976) (hpz : Pz l) :
    Calls Tryz.prog 35 #[bv next a L.length cap, str k, str d, .slice va l.length vc] w fun e w' => PtP w w' e next L ⟨k, next, false, d, l⟩ := by
  have b0 := (Below.refl w.heap.size w).alloc (Nat.le_refl _) (.cells #[.int .i64 next, .slice a L.length cap] 24)
  have b1 := b0.alloc b0.size (.cells #[.int .i64 0, .slice none 0 0] 24)
  have HB := Hid.mk (two_boxes w (.int .i64 next) (.slice a L.length cap))
  have hsW : ((w.alloc (.cells #[.int .i64 next, .slice a L.length cap] 24)).alloc (.cells #[.int .i64 0, .slice none 0 0] 24)).heap.size = w.heap.size + 2 := by simp
  have HL := Hid.mk (hL.later b1)
  have HR := Hid.mk hR
  have hk := fun w => rKey_any k w
  clear b0 hL hR
  have HS := Hid.mk (hS.later b1)
  have hd := fun w => rData_any d w
  have hm := rMeta_any l _ va _ vc rfl HS.out.at' hpz (by omega)
  obtain ⟨hv1, hv2, hv3⟩ := vr_put k d l next
  clear hS hpz
  by_cases k1 : keyE k = 0
  · rw [k1] at hk
    by_cases k2 : datE d = 0
    · rw [k2] at hd
      have hv4 := hv3 k1 k2
      by_cases k3 : mtE l = 0
      · rw [k3] at hm hv4
        clear hv1 hv2 hv3 k1 k2 k3
        have HV := Hid.mk hv4
        obtain ⟨p0, p1, _⟩ := (HB.out _ (Below.refl _ _)).1.cells
        clear hv4 p0 p1
        go_enter Tryz.func35, Tryz.ntmps35
        go_wp2_with (first
          | (go_at_call 65; refine (hk _).mono ?_; rintro e w0 ⟨rfl, rfl⟩)
          | (go_at_call 66; refine (hd _).mono ?_; rintro e w0 ⟨rfl, rfl⟩)
          | (go_at_call 67; refine hm.mono ?_; rintro e w3 ⟨rfl, b3⟩; have hB3 : Below (w.heap.size + 2) ((w.alloc (.cells #[.int .i64 next, .slice a L.length cap] 24)).alloc (.cells #[.int .i64 0, .slice none 0 0] 24)) w3 := by { rw [← hsW]; exact b3 }; obtain ⟨x0, _⟩ := HB.out w3 hB3; obtain ⟨x1, x2, _⟩ := x0.cells))
        with_reducible refine Calls.mono (qmore_r L next k d false l 0 w3 a cap va vc HR.out (HL.out.later b3) HV.out (HS.out.later b3)) ?_
        clear HL HR HS HV hk hd hm b3 x0 x1 x2
        rintro e w4 hP
        obtain ⟨n1, X, s, c, ⟨rv, rfl, kr, b4⟩, hQ⟩ := hP.out
        obtain ⟨oa, oc, rfl, oS⟩ := kr.ls
        dsimp only
        have HQ := Hid.mk hQ
        have hB4 := hB3.trans (b4.mono (by have := hB3.size; omega))
        obtain ⟨_, r0⟩ := HB.out w4 hB4
        obtain ⟨r1, r2, rf⟩ := r0.cells
        have rf0 := rf 0
        have rf1 := rf 1
        have bW := b1.trans (hB4.mono (by omega))
        have hw3 : w.heap.size + 2 ≤ w3.heap.size := by have := hB3.size; omega
        have z9 := Hid.mk ((r0.set0 (.int .i64 n1)).set1 (.slice oa X.length oc))
        have o9 := (kr.low (g := w.heap.size + 1) (j := 0) (by omega) (.int .i64 n1)).low (g := w.heap.size + 1) (j := 1) (by omega) (.slice oa X.length oc)
        have B9 := (bW.setCell (p := ⟨w.heap.size + 1, 0, none⟩) (Nat.le_succ _) (.int .i64 n1)).setCell (p := ⟨w.heap.size + 1, 1, none⟩) (Nat.le_succ _) (.slice oa X.length oc)
        clear hP hQ kr b4 oS rf r0 HB bW hB4 hB3
        generalize hXL : X.length = XL at *
        clear hXL
        go_wp2_with fail
        obtain ⟨g0, g1, _⟩ := z9.out.cells
        clear z9
        generalize (w4.setCell ⟨w.heap.size + 1, 0, none⟩ (.int .i64 n1)).setCell ⟨w.heap.size + 1, 1, none⟩ (.slice oa XL oc) = W9 at *
        refine bodyPost_ret (v := .tuple #[.agg #[.int .i64 n1, .slice oa XL oc], .int .i64 s, .int .i64 c]) ?_ rfl (HQ.out _ _ _ ⟨_, rfl, o9.base (by omega), B9⟩)
        rw [results_ctt rfl]
        go_simp
      · have k3' := (mtE_or l).resolve_left k3
        rw [k3'] at hm hv4
        have HE := Hid.mk hv4
        clear hv1 hv2 hv3 hv4 k1 k2 k3 k3' HL HR HS
        go_enter Tryz.func35, Tryz.ntmps35
        go_wp2_with (first
          | (go_at_call 65; refine (hk _).mono ?_; rintro e w0 ⟨rfl, rfl⟩)
          | (go_at_call 66; refine (hd _).mono ?_; rintro e w0 ⟨rfl, rfl⟩)
          | (go_at_call 67; refine hm.mono ?_; rintro e w3 ⟨rfl, b3⟩; have hB3 : Below (w.heap.size + 2) ((w.alloc (.cells #[.int .i64 next, .slice a L.length cap] 24)).alloc (.cells #[.int .i64 0, .slice none 0 0] 24)) w3 := by { rw [← hsW]; exact b3 }; obtain ⟨_, r0⟩ := HB.out w3 hB3; obtain ⟨r1, r2, rf⟩ := r0.cells; have rf0 := rf 0; have rf1 := rf 1; clear rf))
        have bW := b1.trans (b3.mono b1.size)
        have z9 := Hid.mk ((r0.set0 (.int .i64 0)).set1 (.slice none 0 0))
        have B9 := (bW.setCell (p := ⟨w.heap.size + 1, 0, none⟩) (Nat.le_succ _) (.int .i64 0)).setCell (p := ⟨w.heap.size + 1, 1, none⟩) (Nat.le_succ _) (.slice none 0 0)
        obtain ⟨g0, g1, _⟩ := z9.out.cells
        generalize (w3.setCell ⟨w.heap.size + 1, 0, none⟩ (.int .i64 0)).setCell ⟨w.heap.size + 1, 1, none⟩ (.slice none 0 0) = W9 at *
        refine bodyPost_ret (v := .tuple #[bv 0 none 0 0, .int .i64 0, .int .i64 62]) ?_ rfl (rf_c HE.out (by decide) (rc_zero B9))
        rw [results_ctt rfl]
        go_simp
    · rw [(datE_or d).resolve_left k2] at hd
      have HE := Hid.mk (hv2 k1 k2)
      clear hv1 hv2 hv3 k1 k2 HL HR HS HB hm
      go_enter Tryz.func35, Tryz.ntmps35
      go_wp2_with (first
        | (go_at_call 65; refine (hk _).mono ?_; rintro e w0 ⟨rfl, rfl⟩)
        | (go_at_call 66; refine (hd _).mono ?_; rintro e w0 ⟨rfl, rfl⟩))
      refine bodyPost_ret (v := .tuple #[bv 0 none 0 0, .int .i64 0, .int .i64 63]) ?_ rfl (rf_c HE.out (by decide) (rc_zero b1))
      rw [results_ctt rfl]
      go_simp
  · rw [(keyE_or k).resolve_left k1] at hk
    have HE := Hid.mk (hv1 k1)
    clear hv1 hv2 hv3 k1 HL HR HS HB hm
    go_enter Tryz.func35, Tryz.ntmps35
    go_wp2_with (go_at_call 65; refine (hk _).mono ?_; rintro e w0 ⟨rfl, rfl⟩)
    refine bodyPost_ret (v := .tuple #[bv 0 none 0 0, .int .i64 0, .int .i64 61]) ?_ rfl (rf_c HE.out (by decide) (rc_zero b1))
    rw [results_ctt rfl]
    go_simp
set_option maxRecDepth 100000 in
set_option maxHeartbeats 4000000 in
theorem qDelete_r (L : List Vs) (next : Int) (k : List UInt8) (w : World) (a : Option Addr) (cap : Nat) (hR : RtB next L) (hL : Li w L a L.length cap) :
    Calls Tryz.prog 36 #[bv next a L.length cap, str k] w fun e w' => PtP w w' e next L ⟨k, next, true, [], []⟩ := by
  have b0 := (Below.refl w.heap.size w).alloc (Nat.le_refl _) (.cells #[.int .i64 next, .slice a L.length cap] 24)
  have b1 := b0.alloc b0.size (.cells #[.int .i64 0, .slice none 0 0] 24)
  have HB := Hid.mk (two_boxes w (.int .i64 next) (.slice a L.length cap))
  have hsW : ((w.alloc (.cells #[.int .i64 next, .slice a L.length cap] 24)).alloc (.cells #[.int .i64 0, .slice none 0 0] 24)).heap.size = w.heap.size + 2 := by simp
  have HL := Hid.mk (hL.later b1)
  have HR := Hid.mk hR
  have hk := fun w => rKey_any k w
  clear b0 hL hR
  obtain ⟨hv1, hv2⟩ := vr_del k next
  by_cases k1 : keyE k = 0
  · rw [k1] at hk
    have HV := Hid.mk (hv2 k1)
    clear hv1 hv2 k1
    have hmo : Calls Tryz.prog 69 #[bv next a L.length cap, .agg #[str k, .int .i64 0, .bool true, .string ⟨#[]⟩, .slice none 0 0]] ((w.alloc (.cells #[.int .i64 next, .slice a L.length cap] 24)).alloc (.cells #[.int .i64 0, .slice none 0 0] 24)) _ := qmore_r L next k [] true [] 0 ((w.alloc (.cells #[.int .i64 next, .slice a L.length cap] 24)).alloc (.cells #[.int .i64 0, .slice none 0 0] 24)) a cap none 0 HR.out HL.out HV.out ⟨⟨fun k p h => by simp at h⟩, Nat.le_refl _, by omega, fun _ => rfl⟩
    have hB3 : Below (w.heap.size + 2) ((w.alloc (.cells #[.int .i64 next, .slice a L.length cap] 24)).alloc (.cells #[.int .i64 0, .slice none 0 0] 24)) ((w.alloc (.cells #[.int .i64 next, .slice a L.length cap] 24)).alloc (.cells #[.int .i64 0, .slice none 0 0] 24)) := Below.refl _ _
    go_enter Tryz.func36, Tryz.ntmps36
    go_wp2_with (go_at_call 65; refine (hk _).mono ?_; rintro e w0 ⟨rfl, rfl⟩)
    generalize hw3 : ((w.alloc (.cells #[.int .i64 next, .slice a L.length cap] 24)).alloc (.cells #[.int .i64 0, .slice none 0 0] 24)) = w3 at *
    with_reducible refine Calls.mono hmo ?_
    clear HL HR HV hk hmo hw3
    rintro e w4 hP
    obtain ⟨n1, X, s, c, ⟨rv, rfl, kr, b4⟩, hQ⟩ := hP.out
    obtain ⟨oa, oc, rfl, oS⟩ := kr.ls
    dsimp only
    have HQ := Hid.mk hQ
    have hB4 := hB3.trans (b4.mono (by have := hB3.size; omega))
    obtain ⟨_, r0⟩ := HB.out w4 hB4
    obtain ⟨r1, r2, rf⟩ := r0.cells
    have rf0 := rf 0
    have rf1 := rf 1
    have bW := b1.trans (hB4.mono (by omega))
    have hw3 : w.heap.size + 2 ≤ w3.heap.size := by have := hB3.size; omega
    have z9 := Hid.mk ((r0.set0 (.int .i64 n1)).set1 (.slice oa X.length oc))
    have o9 := (kr.low (g := w.heap.size + 1) (j := 0) (by omega) (.int .i64 n1)).low (g := w.heap.size + 1) (j := 1) (by omega) (.slice oa X.length oc)
    have B9 := (bW.setCell (p := ⟨w.heap.size + 1, 0, none⟩) (Nat.le_succ _) (.int .i64 n1)).setCell (p := ⟨w.heap.size + 1, 1, none⟩) (Nat.le_succ _) (.slice oa X.length oc)
    clear hP hQ kr b4 oS rf r0 HB bW hB4 hB3
    generalize hXL : X.length = XL at *
    clear hXL
    go_wp2_with fail
    obtain ⟨g0, g1, _⟩ := z9.out.cells
    clear z9
    generalize (w4.setCell ⟨w.heap.size + 1, 0, none⟩ (.int .i64 n1)).setCell ⟨w.heap.size + 1, 1, none⟩ (.slice oa XL oc) = W9 at *
    refine bodyPost_ret (v := .tuple #[.agg #[.int .i64 n1, .slice oa XL oc], .int .i64 s, .int .i64 c]) ?_ rfl (HQ.out _ _ _ ⟨_, rfl, o9.base (by omega), B9⟩)
    rw [results_ctt rfl]
    go_simp
  · rw [(keyE_or k).resolve_left k1] at hk
    have HE := Hid.mk (hv1 k1)
    clear hv1 hv2 k1 HL HR HB
    go_enter Tryz.func36, Tryz.ntmps36
    go_wp2_with (go_at_call 65; refine (hk _).mono ?_; rintro e w0 ⟨rfl, rfl⟩)
    refine bodyPost_ret (v := .tuple #[bv 0 none 0 0, .int .i64 0, .int .i64 61]) ?_ rfl (rf_c HE.out (by decide) (rc_zero b1))
    rw [results_ctt rfl]
    go_simp
theorem fl_no {L : List Vs} {k : List UInt8} {s : Int} {m : Nat} {u : Vs} (hu : L[m]? = some u) (h : ¬ (u.key = k ∧ u.seq = s)) : (L.take (m + 1)).filter (rmB k s) = (L.take m).filter (rmB k s) ++ [u] := by
  rw [takeV hu, List.filter_append]
  have : rmB k s u = true := by
    unfold rmB
    by_cases h1 : u.key = k
    · have h2 : ¬ u.seq = s := fun q => h ⟨h1, q⟩
      simp [h2]
    · simp [h1]
  simp [this]
theorem fl_yes {L : List Vs} {k : List UInt8} {s : Int} {m : Nat} {u : Vs} (hu : L[m]? = some u) (h1 : u.key = k) (h2 : u.seq = s) : (L.take (m + 1)).filter (rmB k s) = (L.take m).filter (rmB k s) := by
  rw [takeV hu, List.filter_append]
  simp [rmB, h1, h2]
/-- is one of the first there? -/
def gnB (L : List Vs) (k : List UInt8) (s : Int) (m : Nat) (f : Bool) : Prop := f = true ↔ ∃ u ∈ L.take m, u.key = k ∧ u.seq = s
theorem gn_no {L : List Vs} {k : List UInt8} {s : Int} {m : Nat} {u : Vs} {f : Bool} (hg : gnB L k s m f) (hu : L[m]? = some u) (h : ¬ (u.key = k ∧ u.seq = s)) : gnB L k s (m + 1) f := by
  unfold gnB at hg ⊢
  rw [hg, takeV hu]
  constructor
  · rintro ⟨x, hx, q⟩
    exact ⟨x, List.mem_append_left _ hx, q⟩
  · rintro ⟨x, hx, q⟩
    rcases List.mem_append.1 hx with z | z
    · exact ⟨x, z, q⟩
    · simp at z; subst z; exact absurd q h
theorem gn_yes {L : List Vs} {k : List UInt8} {s : Int} {m : Nat} {u : Vs} (hu : L[m]? = some u) (h1 : u.key = k) (h2 : u.seq = s) : gnB L k s (m + 1) true := by
  unfold gnB
  rw [takeV hu]
  exact ⟨fun _ => ⟨u, by simp, h1, h2⟩, fun _ => rfl⟩
set_option maxRecDepth 100000 in
set_option maxHeartbeats 4000000 in
theorem qDeleteVersion_r (L : List Vs) (next : Int) (k : List UInt8) (sq : Int) (w : World) (a : Option Addr) (cap : Nat) (hR : RtB next L) (hL : Li w L a L.length cap) :
    Calls Tryz.prog 37 #[bv next a L.length cap, str k, .int .i64 sq] w fun e w' => RmP w w' e next L k sq := by
  have b0 := (Below.refl w.heap.size w).alloc (Nat.le_refl _) (.cells #[.int .i64 next, .slice a L.length cap] 24)
  have b1 := b0.alloc b0.size (.cells #[.int .i64 0, .slice none 0 0] 24)
  have HB := Hid.mk (two_boxes w (.int .i64 next) (.slice a L.length cap))
  have hsW : ((w.alloc (.cells #[.int .i64 next, .slice a L.length cap] 24)).alloc (.cells #[.int .i64 0, .slice none 0 0] 24)).heap.size = w.heap.size + 2 := by simp
  have HL := Hid.mk (hL.later b1)
  have HR := Hid.mk hR
  have hk := fun w => rKey_any k w
  clear b0 hL hR
  have hll := HR.out.len
  by_cases hk0 : keyE k = 0
  · have HE : Hid (gvE L k sq = geE (gpL L (fndV L k) k) sq) := ⟨by unfold gvE; rw [if_pos hk0]⟩
    rw [hk0] at hk
    clear hk0
    go_enter Tryz.func37, Tryz.ntmps37
    go_wp2_with (go_at_call 65; refine (hk _).mono ?_; rintro e w0 ⟨rfl, rfl⟩)
    clear hk
    have C0 := Cp.nil ((w.alloc (.cells #[.int .i64 next, .slice a L.length cap] 24)).alloc (.cells #[.int .i64 0, .slice none 0 0] 24)) (w.heap.size + 2) (by simp)
    generalize ((w.alloc (.cells #[.int .i64 next, .slice a L.length cap] 24)).alloc (.cells #[.int .i64 0, .slice none 0 0] 24)) = W2 at *
    go_loopw [8, 9, 10] (fun o t i wr => ∃ (m : Nat) (f : Bool), m ≤ L.length ∧ i = .int .i64 (m : Int) ∧ t = .bool f ∧ Hid (gnB L k sq m f) ∧ Hid (Cp (w.heap.size + 2) wr o ((L.take m).filter (rmB k sq))) ∧ Hid (Below (w.heap.size + 2) W2 wr)) (fun o t i _ => L.length - (intOf i).toNat)
    case atStart => exact ⟨0, false, Nat.zero_le _, rfl, rfl, ⟨by unfold gnB; simp⟩, ⟨by simpa using C0⟩, ⟨Below.refl _ _⟩⟩
    case round =>
      clear C0
      obtain ⟨m, f, hm, rfl, rfl, hN, hO, hb⟩ := hrel
      have hbl : Below W2.heap.size W2 wr := by rw [hsW]; exact hb.out
      obtain ⟨x0, y0⟩ := HB.out wr hb.out
      obtain ⟨x1, x2, _⟩ := x0.cells
      have hBr := hb.out
      have hXl : ((L.take m).filter (rmB k sq)).length ≤ 256 := by
        have := List.length_filter_le (rmB k sq) (L.take m)
        rw [List.length_take] at this
        omega
      by_cases hlt : m < L.length
      · have d1 : decide ((m : Int) < (L.length : Int)) = true := decide_eq_true (Int.ofNat_lt.2 hlt)
        have k2 : (m : Int) < (L.length : Int) := Int.ofNat_lt.2 hlt
        have hw1 : wrap64 ((m : Int) + 1) = ((m + 1 : Nat) : Int) := by unfold wrap64; omega
        obtain ⟨u, hu⟩ : ∃ u, L[m]? = some u := ⟨L[m], List.getElem?_eq_getElem hlt⟩
        have hul := rt_vl HR.out (List.mem_of_getElem? hu)
        obtain ⟨b, off, ma, mc, rfl, hbl', c0, c1, c2, c3, c4, hsl⟩ := (HL.out.later hbl).s.at'.get m u hu
        have bx := (Below.refl wr.heap.size wr).alloc (Nat.le_refl _) (.cells #[str u.key, .int .i64 u.seq, .bool u.mkr, str u.data, .slice ma u.l.length mc] 39)
        have hB5 := hBr.trans (bx.mono (by have := hBr.size; omega))
        have hO5 := hO.out.later bx
        have hcu := qOwn_any u (wr.alloc (.cells #[str u.key, .int .i64 u.seq, .bool u.mkr, str u.data, .slice ma u.l.length mc] 39)) ma _ mc rfl (hsl.later bx) hul
        by_cases hk : u.key = k
        · by_cases hq : u.seq = sq
          · have HT : Hid (gnB L k sq (m + 1) true) := ⟨gn_yes hu hk hq⟩
            have HFl := Hid.mk (fl_yes hu hk hq)
            rw [← HFl.out] at hO5
            subst hk hq
            clear hN hu HL HR hsl hcu hO hb hbl HFl x0 y0 bx
            go_wp2_with fail
            refine ⟨?_, by first | (rw [hw1]; exact Nat.sub_lt_sub_left hlt (Nat.lt_succ_self m)) | (simp [intOf]; omega)⟩
            first
              | exact ⟨m + 1, _, hlt, by first | (rw [hw1]; done) | go_num, rfl, HT, ⟨hO5⟩, ⟨hB5⟩⟩
              | ((repeat apply Exists.intro); exact ⟨⟨m + 1, _, hlt, by first | (rw [hw1]; done) | go_num, rfl, HT, ⟨hO5⟩, ⟨hB5⟩⟩, rfl⟩)
          · have HT : Hid (gnB L k sq (m + 1) f) := ⟨gn_no hN.out hu fun z => hq z.2⟩
            have HFl := Hid.mk (fl_no (k := k) (s := sq) hu fun z => hq z.2)
            have d2 : (u.seq == sq) = false := beq_eq_false_iff_ne.2 hq
            subst hk
            generalize (L.take m).filter (rmB u.key sq) = FX at *
            clear hN hu HL HR hsl hO hb hbl x0 y0 bx hq
            go_wp2_with (first
              | (go_at_call 31; refine hcu.mono ?_; rintro e w6 ⟨ad, c, rfl, ow, b6⟩)
              | (refine app_cp rfl _ _ rfl u rfl rfl hO5 b6 ow rfl (by omega) rfl rfl ?_; intro v7 w7 o7 b7))
            rw [← HFl.out] at o7
            refine ⟨?_, by first | (rw [hw1]; exact Nat.sub_lt_sub_left hlt (Nat.lt_succ_self m)) | (simp [intOf]; omega)⟩
            first
              | exact ⟨m + 1, _, hlt, by first | (rw [hw1]; done) | go_num, rfl, HT, ⟨o7⟩, ⟨hB5.trans b7⟩⟩
              | ((repeat apply Exists.intro); exact ⟨⟨m + 1, _, hlt, by first | (rw [hw1]; done) | go_num, rfl, HT, ⟨o7⟩, ⟨hB5.trans b7⟩⟩, rfl⟩)
        · have HT : Hid (gnB L k sq (m + 1) f) := ⟨gn_no hN.out hu fun z => hk z.1⟩
          have HFl := Hid.mk (fl_no (k := k) (s := sq) hu fun z => hk z.1)
          have d2 : (u.key == k) = false := beq_eq_false_iff_ne.2 hk
          generalize (L.take m).filter (rmB k sq) = FX at *
          clear hN hu HL HR hsl hO hb hbl x0 y0 bx hk
          go_wp2_with (first
            | (go_at_call 31; refine hcu.mono ?_; rintro e w6 ⟨ad, c, rfl, ow, b6⟩)
            | (refine app_cp rfl _ _ rfl u rfl rfl hO5 b6 ow rfl (by omega) rfl rfl ?_; intro v7 w7 o7 b7))
          rw [← HFl.out] at o7
          refine ⟨?_, by first | (rw [hw1]; exact Nat.sub_lt_sub_left hlt (Nat.lt_succ_self m)) | (simp [intOf]; omega)⟩
          first
            | exact ⟨m + 1, _, hlt, by first | (rw [hw1]; done) | go_num, rfl, HT, ⟨o7⟩, ⟨hB5.trans b7⟩⟩
            | ((repeat apply Exists.intro); exact ⟨⟨m + 1, _, hlt, by first | (rw [hw1]; done) | go_num, rfl, HT, ⟨o7⟩, ⟨hB5.trans b7⟩⟩, rfl⟩)
      · obtain rfl : m = L.length := by omega
        have d1 : decide ((L.length : Int) < (L.length : Int)) = false := decide_eq_false (by omega)
        have hN1 := hN.out
        unfold gnB at hN1
        rw [List.take_length] at hN1
        have hO1 := hO.out
        rw [List.take_length] at hO1
        have hgo := gone_iff HR.out k sq
        obtain ⟨y1, y2, yf⟩ := y0.cells
        have yf0 := yf 0
        have yf1 := yf 1
        have bW := b1.trans (hbl.mono b1.size)
        cases f with
        | true =>
          have hge := hgo.2 (hN1.1 rfl)
          rw [rem_is HR.out hge] at hO1
          have HG : Hid (gvE L k sq = 0) := ⟨by rw [HE.out]; exact hge⟩
          obtain ⟨oa, oc, rfl, oS⟩ := hO1.ls
          have z9 := Hid.mk ((y0.set0 (.int .i64 next)).set1 (.slice oa (remX L k sq).length oc))
          have o9 := (hO1.low (g := w.heap.size + 1) (j := 0) (by omega) (.int .i64 next)).low (g := w.heap.size + 1) (j := 1) (by omega) (.slice oa (remX L k sq).length oc)
          have B9 := (bW.setCell (p := ⟨w.heap.size + 1, 0, none⟩) (Nat.le_succ _) (.int .i64 next)).setCell (p := ⟨w.heap.size + 1, 1, none⟩) (Nat.le_succ _) (.slice oa (remX L k sq).length oc)
          generalize hXX : remX L k sq = X at *
          have HXX := Hid.mk hXX
          clear hXX hN hN1 hO hO1 oS hgo hge yf x0 y0 HL HR HB HE hb hbl bW hXl hBr
          generalize hXL : X.length = XL at *
          clear hXL
          go_wp2_with fail
          obtain ⟨g0, g1, _⟩ := z9.out.cells
          clear z9
          generalize (wr.setCell ⟨w.heap.size + 1, 0, none⟩ (.int .i64 next)).setCell ⟨w.heap.size + 1, 1, none⟩ (.slice oa XL oc) = W9 at *
          refine bodyPost_ret (v := .tuple #[.agg #[.int .i64 next, .slice oa XL oc], .int .i64 0]) ?_ rfl (.inr ⟨HG.out, by rw [HXX.out]; exact ⟨_, rfl, o9.base (by omega), B9⟩⟩)
          rw [results_ct rfl]
          go_simp
        | false =>
          have hne : ¬ geE (gpL L (fndV L k) k) sq = 0 := fun q => by have := hN1.2 (hgo.1 q); cases this
          have HG : Hid (gvE L k sq = 72) := ⟨by rw [HE.out]; exact (geE_or _ _).resolve_left hne⟩
          have z9 := Hid.mk ((y0.set0 (.int .i64 0)).set1 (.slice none 0 0))
          have B9 := (bW.setCell (p := ⟨w.heap.size + 1, 0, none⟩) (Nat.le_succ _) (.int .i64 0)).setCell (p := ⟨w.heap.size + 1, 1, none⟩) (Nat.le_succ _) (.slice none 0 0)
          clear hN hN1 hO hO1 hgo hne yf x0 y0 HL HR HB HE hb hbl bW hXl hBr
          go_wp2_with fail
          obtain ⟨g0, g1, _⟩ := z9.out.cells
          clear z9
          generalize (wr.setCell ⟨w.heap.size + 1, 0, none⟩ (.int .i64 0)).setCell ⟨w.heap.size + 1, 1, none⟩ (.slice none 0 0) = W9 at *
          refine bodyPost_ret (v := .tuple #[bv 0 none 0 0, .int .i64 72]) ?_ rfl (.inl (by rw [HG.out]; exact ⟨by decide, rb_zero B9⟩))
          rw [results_ct rfl]
          go_simp
  · have HE : Hid (gvE L k sq = 61) := ⟨by unfold gvE; rw [if_neg hk0]; exact (keyE_or k).resolve_left hk0⟩
    rw [(keyE_or k).resolve_left hk0] at hk
    clear hk0 HL HR HB
    go_enter Tryz.func37, Tryz.ntmps37
    go_wp2_with (go_at_call 65; refine (hk _).mono ?_; rintro e w0 ⟨rfl, rfl⟩)
    refine bodyPost_ret (v := .tuple #[bv 0 none 0 0, .int .i64 61]) ?_ rfl (.inl (by rw [HE.out]; exact ⟨by decide, rb_zero b1⟩))
    rw [results_ct rfl]
    go_simp
theorem qNew_any (w : World) : Calls Tryz.prog 10 #[] w fun e w' => e = .returned (.agg #[.int .i64 1, .slice none 0 0]) ∧ Below w.heap.size w w' := by
  have b0 := (Below.refl w.heap.size w).alloc (Nat.le_refl _) (.cells #[.int .i64 1, .slice none 0 0] 24)
  go_enter Tryz.func10, Tryz.ntmps10
  go_wp2_with fail
  refine bodyPost_ret (v := .agg #[.int .i64 1, .slice none 0 0]) ?_ rfl ⟨rfl, b0⟩
  rw [results_cell1 rfl]
  go_simp
end Go.Proofs.YtgcdnanfnbdjjaaGreat
