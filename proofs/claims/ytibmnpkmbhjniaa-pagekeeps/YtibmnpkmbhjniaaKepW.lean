/- PageKeeps: the walk. -/
import Derived.Test.YtibmnpkmbhjniaaKepM
namespace Go.Proofs.Ytibmnpkmbhjniaa
set_option linter.unusedVariables false
set_option linter.unusedSimpArgs false
open Go.RowKit
attribute [local go_sem ↓] Go.wp_at_zero Go.wp_at_succ
attribute [local go_sem ↓] slPe sl9 ad9
set_option maxRecDepth 100000 in
set_option maxHeartbeats 8000000 in
theorem pageKeeps_walk (raw : List En) (a : Option Addr) (cap : Nat) (key value : List UInt8) (ot : List (List UInt8)) (oa : Option Addr) (oc : Nat) (W : World) (hP : PIn W a raw) (hz : ∀ (k : Nat) (e : En), raw[k]? = some e → e.key.length ≤ 140737488351232 ∧ e.val.length ≤ 140737488351232) (hl : raw.length ≤ 4398046510976)
    (hk : key.length ≤ 140737488351232) (hv : value.length ≤ 140737488351232) (hT : TIn W oa ot) (htz : True) (hol : ot.length ≤ 8796093021952) :
    Calls Try.prog 4 #[.slice a raw.length cap, str key, str value, .slice oa ot.length oc] W fun e W' => e = .returned (.bool true) ∧ Below W.heap.size W W' := by
  have hLs := srtd_srt raw
  have hLl := srtd_len raw
  have hLz : ∀ e ∈ srtd raw, e.val.length ≤ 140737488351232 := fun e he => by
    obtain ⟨k, hk, rfl⟩ := List.mem_iff_getElem.1 (srtd_mem he)
    exact (hz k raw[k] (List.getElem?_eq_getElem hk)).2
  have hso := fun w h => sorted_any raw w a raw.length cap rfl h (by omega)
  generalize srtd raw = L at *
  have hAs := put_srt hLs key value
  have hAl : (put L key value).length ≤ 201 := by rw [put_len]; split <;> omega
  have hAz : ∀ e ∈ put L key value, e.val.length ≤ 140737488351232 := fun e he => by
    rcases mem_put he with rfl | q
    · exact hv
    · exact hLz e q
  have hpu := fun w a n cap hn h => put_any L key value hLs w a n cap hn h (by omega)
  have hit1 := hit_put hLs key value
  have hget := get_put hLs key value
  have hBl : (put L key value).length = (del (put L key value) key).length + 1 := by
    rw [del_len, hit1]
    have := (List.getElem?_eq_some_iff.1 hget).1
    simp
    omega
  have hwas : hit L key = true → (put L key value).length = L.length := fun h => by rw [put_len, h]; simp
  have hnot : hit L key = false → del (put L key value) key = L := fun h => del_put hLs value h
  have hvA : ∀ j, j ≠ key → v1 L j = v1 (put L key value) j := fun j h => (v1_put hLs key value j h).symm
  have hvM : ∀ e ∈ L, e.key ≠ key → v1 (put L key value) e.key = 43 :: e.val := fun e he h => by rw [v1_put hLs key value _ h, v1_mem hLs he]
  generalize put L key value = A at *
  have hBs := del_srt hAs key
  have hBz : ∀ e ∈ del A key, e.val.length ≤ 140737488351232 := fun e he => hAz e (mem_del he)
  have hde := fun w a n cap hn h => delete_any A key hAs w a n cap hn h (by omega)
  have hit2 := hit_del hAs key
  have hvB : ∀ j, j ≠ key → v1 A j = v1 (del A key) j := fun j h => (v1_del hAs key j h).symm
  unfold DelP at hde
  rw [hit1] at hde
  generalize del A key = B at *
  have hde2 := fun w a n cap hn h => delete_any B key hBs w a n cap hn h (by omega)
  unfold DelP at hde2
  rw [hit2, del_same hit2] at hde2
  have hfA := fun w a cap h => find_any A key hAs w a cap h (by omega)
  have hfL := fun w a cap h => find_any L key hLs w a cap h (by omega)
  unfold found at hfA hfL
  rw [hit1] at hfA
  have hlt : (fnd A key : Int) < (A.length : Int) := by have := (List.getElem?_eq_some_iff.1 hget).1; omega
  have hrA := fun w a n cap hn h => rises_any A w a n cap hn h (by omega)
  have hrB := fun w a n cap hn h => rises_any B w a n cap hn h (by omega)
  rw [srtb_true hAs] at hrA
  rw [srtb_true hBs] at hrB
  have hsB := fun w pa pb ca cb h1 h2 => same_any B B w pa pb B.length B.length ca cb rfl rfl h1 h2 (by omega) (by omega)
  rw [same_true rfl] at hsB
  have HV1 : Hid ((∀ j, j ≠ key → v1 L j = v1 A j) ∧ (∀ j, j ≠ key → v1 A j = v1 B j) ∧ (∀ e ∈ L, e.key ≠ key → v1 A e.key = 43 :: e.val)) := ⟨hvA, hvB, hvM⟩
  have HvL := Hid.mk (fun w k a n cap hn h => value1_any L k hLs w a n cap hn h (by omega) (fun j e he => hLz e (List.mem_of_getElem? he)))
  have HvA := Hid.mk (fun w k a n cap hn h => value1_any A k hAs w a n cap hn h (by omega) (fun j e he => hAz e (List.mem_of_getElem? he)))
  have HvB := Hid.mk (fun w k a n cap hn h => value1_any B k hBs w a n cap hn h (by omega) (fun j e he => hBz e (List.mem_of_getElem? he)))
  clear hvA hvB hvM hit1 hit2 hAs hBs hLs hAz hBz
  generalize fnd A key = fA at *
  generalize fnd L key = fL at *
  have HZ := Hid.mk hLz
  have HW := Hid.mk hwas
  have HN := Hid.mk hnot
  have HBl := Hid.mk hBl
  clear hLz hwas hnot hz hBl
  go_enter Try.func4, Try.ntmps4
  go_wp2_with fail
  refine (first_any _).mono ?_
  rintro e w0 ⟨rfl, b0⟩
  dsimp only
  go_wp2_with fail
  with_reducible refine Calls.mono (hso _ (hP.later b0)) ?_
  rintro e w1 ⟨v1', rfl, o1, b1⟩
  dsimp only
  obtain ⟨a1, c1, rfl, s1⟩ := o1.sl
  have B1 := below_seq b0 b1
  clear o1 hso b0 b1
  go_wp2_with fail
  with_reducible refine Calls.mono (hpu _ _ _ _ rfl s1) ?_
  rintro e w2 ⟨v2, rfl, o2, b2⟩
  dsimp only
  obtain ⟨a2, c2, rfl, s2⟩ := o2.sl
  clear o2 hpu
  go_wp2_with fail
  with_reducible refine Calls.mono (hde _ _ _ _ rfl s2) ?_
  rintro e w3 ⟨v3, rfl, o3, b3⟩
  dsimp only
  obtain ⟨a3, c3, rfl, s3⟩ := o3.sl
  clear o3 hde
  go_wp2_with fail
  with_reducible refine Calls.mono (hde2 _ _ _ _ rfl s3) ?_
  rintro e w4 ⟨v4, rfl, o4, b4⟩
  dsimp only
  obtain ⟨a4, c4, rfl, s4⟩ := o4.sl
  clear o4 hde2
  have S2 := (s2.later b3).later b4
  have S3 := s3.later b4
  have S1 := s1.later (below_seq (below_seq b2 b3) b4)
  have B4 := below_seq B1 (below_seq (below_seq b2 b3) b4)
  clear b2 b3 b4 s1 s2 s3 B1
  go_wp2_with fail
  with_reducible refine Calls.mono (hfA _ _ _ S2.at') ?_
  rintro e w5 ⟨rfl, b5⟩
  dsimp only
  obtain ⟨bb, off, rfl, hbl, g0, g1⟩ := (S2.later b5).at'.get fA ⟨key, value⟩ hget
  go_wp2_with fail
  with_reducible refine Calls.mono (hsB _ _ _ _ _ (S3.later b5).at' (s4.later b5).at') ?_
  rintro e w6 ⟨rfl, b6⟩
  dsimp only
  have q6 := below_seq b5 b6
  clear b5 b6 g0 g1 s4
  go_wp2_with fail
  with_reducible refine Calls.mono (hrA _ _ _ _ rfl (S2.later q6).at') ?_
  rintro e w7 ⟨rfl, b7⟩
  dsimp only
  have q7 := below_seq q6 b7
  clear b7 q6
  go_wp2_with fail
  with_reducible refine Calls.mono (hrB _ _ _ _ rfl (S3.later q7).at') ?_
  rintro e w8 ⟨rfl, b8⟩
  dsimp only
  have q8 := below_seq q7 b8
  clear b8 q7
  go_wp2_with fail
  with_reducible refine Calls.mono (hfL _ _ _ (S1.later q8).at') ?_
  rintro e w9 ⟨rfl, b9⟩
  dsimp only
  have q9 := below_seq q8 b9
  have T1 := S1.later q9
  have T2 := S2.later q9
  have T3 := S3.later q9
  have B9 := below_seq B4 q9
  have hT9 := hT.later B9
  clear b9 q8 q9 S1 S2 S3 B4 hT hP hfA hfL hrA hrB hget hlt
  have HL := HBl.out
  by_cases hw : hit L key = true
  · have e1 := HW.out hw
    rw [hw]
    have hLB : L.length = B.length + 1 := by omega
    clear e1 hw HW HN HBl
    go_wp2_with fail
    clear hLB HL
    go_loopw [19] (fun i wr => ∃ k : Nat, k ≤ ot.length ∧ i = .int .i64 (k : Int) ∧ Below w9.heap.size w9 wr) (fun i _ => ot.length - (intOf i).toNat)
    case atStart => exact ⟨0, by omega, rfl, Below.refl _ _⟩
    case round =>
      obtain ⟨k, hk, rfl, hb⟩ := hrel
      by_cases h1 : k < ot.length
      · have d1 : decide ((k : Int) < (ot.length : Int)) = true := decide_eq_true (by omega)
        have k2 : (k : Int) < (ot.length : Int) := by omega
        obtain ⟨t, ht⟩ : ∃ t, ot[k]? = some t := ⟨ot[k], List.getElem?_eq_getElem h1⟩
        obtain ⟨b1, off1, rfl, hbl1, c0⟩ := (hT9.later hb).get k t ht
        by_cases hq : t = key
        · subst hq
          go_wp2_with fail
          go_quiet (fail)
          go_wp2_with fail
          exact ⟨⟨k + 1, by omega, by go_num, below_dN hb nq⟩, by simp [intOf]; omega⟩
        · have dq : (t == key) = false := by rw [beq_eq_false_iff_ne]; exact hq
          have hv1 := fun w' (h : Below wr.heap.size wr w') => HvL.out w' t a1 _ c1 rfl ((T1.later hb).later h).at'
          have hv2 := fun w' (h : Below wr.heap.size wr w') => HvA.out w' t (some ⟨bb, off, none⟩) _ c2 rfl ((T2.later hb).later h).at'
          have hv3 := fun w' (h : Below wr.heap.size wr w') => HvB.out w' t a3 _ c3 rfl ((T3.later hb).later h).at'
          have eA := HV1.out.1 t hq
          have eB := HV1.out.2.1 t hq
          rw [← eB, ← eA] at hv3
          rw [← eA] at hv2
          clear eA eB hq
          generalize v1 L t = VT at *
          have XC : Hid (∀ w', Below wr.heap.size wr w' → Below wr.heap.size wr w' ∧ w'.cell? ⟨b1, off1 + k, none⟩ = some (str t)) := ⟨fun w' h => ⟨h, (Below.cell (p := ⟨b1, _, none⟩) h hbl1).trans c0⟩⟩
          go_wp2_with fail
          go_region_held3 (fun w' => Below wr.heap.size wr w' ∧ w'.cell? ⟨b1, off1 + k, none⟩ = some (str t)) (first
            | exact XC.out _ (Below.refl _ _).drew
            | exact XC.out _ (below_seq (And.left (by assumption)) bv)) (first
            | (go_at_call 20; with_reducible refine Calls.mono (hv1 _ (And.left (by assumption))) ?_; rintro e wv ⟨rfl, bv⟩)
            | (go_at_call 20; with_reducible refine Calls.mono (hv2 _ (And.left (by assumption))) ?_; rintro e wv ⟨rfl, bv⟩)
            | (go_at_call 20; with_reducible refine Calls.mono (hv3 _ (And.left (by assumption))) ?_; rintro e wv ⟨rfl, bv⟩))
          have HB : Hid (Below wr.heap.size wr wv) := ⟨And.left (by assumption)⟩
          clear hv1 hv2 hv3
          go_wp2_with fail
          exact ⟨⟨k + 1, by omega, by go_num, below_seq hb HB.out⟩, by simp [intOf]; omega⟩
      · obtain rfl : k = ot.length := by omega
        have d1 : decide ((ot.length : Int) < (ot.length : Int)) = false := decide_eq_false (by omega)
        clear hT9 HvL
        go_wp2_with fail
        go_loopw [20] (fun i wr => ∃ k : Nat, k ≤ L.length ∧ i = .int .i64 (k : Int) ∧ Below w9.heap.size w9 wr) (fun i _ => L.length - (intOf i).toNat)
        case atStart => exact ⟨0, by omega, rfl, hb⟩
        case round =>
          obtain ⟨k, hk, rfl, hb⟩ := hrel
          by_cases h1 : k < L.length
          · have d1 : decide ((k : Int) < (L.length : Int)) = true := decide_eq_true (by omega)
            have k2 : (k : Int) < (L.length : Int) := by omega
            obtain ⟨t, ht⟩ : ∃ t, L[k]? = some t := ⟨L[k], List.getElem?_eq_getElem h1⟩
            obtain ⟨b1, off1, rfl, hbl1, c0, c1⟩ := (T1.later hb).at'.get k t ht
            have htm := List.mem_of_getElem? ht
            have hzt := HZ.out t htm
            by_cases hq : t.key = key
            · have dq : (t.key == key) = true := by rw [beq_iff_eq]; exact hq
              clear hq
              go_wp2_with fail
              go_quiet (fail)
              go_wp2_with fail
              exact ⟨⟨k + 1, by omega, by go_num, below_dN hb nq⟩, by simp [intOf]; omega⟩
            · have dq : (t.key == key) = false := by rw [beq_eq_false_iff_ne]; exact hq
              have hv2 := fun w' (h : Below wr.heap.size wr w') => HvA.out w' t.key (some ⟨bb, off, none⟩) _ c2 rfl ((T2.later hb).later h).at'
              have hv3 := fun w' (h : Below wr.heap.size wr w') => HvB.out w' t.key a3 _ c3 rfl ((T3.later hb).later h).at'
              have eB := HV1.out.2.1 t.key hq
              have eM := HV1.out.2.2 t htm hq
              rw [← eB, eM] at hv3
              rw [eM] at hv2
              have ra : ∀ w, (adS (.string ⟨#[43]⟩) (str t.val)).run Try.prog w = .ok (str (43 :: t.val)) w := fun w => run_ad [43] t.val (by simp; omega) w
              clear eB eM hq
              generalize 43 :: t.val = VT at *
              have XC : Hid (∀ w', Below wr.heap.size wr w' → Below wr.heap.size wr w' ∧ w'.cell? ⟨b1, off1 + k * 2, none⟩ = some (str t.key) ∧ w'.cell? ⟨b1, off1 + k * 2 + 1, none⟩ = some (str t.val)) := ⟨fun w' h => ⟨h, (Below.cell (p := ⟨b1, _, none⟩) h hbl1).trans c0, (Below.cell (p := ⟨b1, _, none⟩) h hbl1).trans c1⟩⟩
              go_wp2_with fail
              go_region_held3 (fun w' => Below wr.heap.size wr w' ∧ w'.cell? ⟨b1, off1 + k * 2, none⟩ = some (str t.key) ∧ w'.cell? ⟨b1, off1 + k * 2 + 1, none⟩ = some (str t.val)) (first
                | exact XC.out _ (Below.refl _ _).drew
                | exact XC.out _ (below_seq (And.left (by assumption)) bv)) (first
                | (go_at_call 20; with_reducible refine Calls.mono (hv2 _ (And.left (by assumption))) ?_; rintro e wv ⟨rfl, bv⟩)
                | (go_at_call 20; with_reducible refine Calls.mono (hv3 _ (And.left (by assumption))) ?_; rintro e wv ⟨rfl, bv⟩))
              have HB : Hid (Below wr.heap.size wr wv) := ⟨And.left (by assumption)⟩
              clear hv2 hv3
              go_wp2_with fail
              exact ⟨⟨k + 1, by omega, by go_num, below_seq hb HB.out⟩, by simp [intOf]; omega⟩
          · have d1 : decide ((k : Int) < (L.length : Int)) = false := decide_eq_false (by omega)
            go_wp2_with fail
            go_ret
            exact ⟨rfl, below_seq B9 hb⟩
  · have hw' : hit L key = false := by simpa using hw
    have e1 := HN.out hw'
    rw [hw']
    clear hw hw' HW HN HBl
    have T1b := T1
    rw [← e1] at T1b
    have hLB : L.length = B.length := by rw [e1]
    have hsB2 := hsB _ a3 a1 c3 c1 T3.at' T1b.at'
    clear e1
    go_wp2_with fail
    with_reducible refine Calls.mono hsB2 ?_
    rintro e w10 ⟨rfl, b10⟩
    dsimp only
    go_wp2_with fail
    have T1c := T1.later b10
    have T2c := T2.later b10
    have T3c := T3.later b10
    have hT10 := hT9.later b10
    have B10 := below_seq B9 b10
    clear T1 T2 T3 T1b hT9 B9 b10 hLB HL hsB2
    go_loopw [19] (fun i wr => ∃ k : Nat, k ≤ ot.length ∧ i = .int .i64 (k : Int) ∧ Below w10.heap.size w10 wr) (fun i _ => ot.length - (intOf i).toNat)
    case atStart => exact ⟨0, by omega, rfl, Below.refl _ _⟩
    case round =>
      obtain ⟨k, hk, rfl, hb⟩ := hrel
      by_cases h1 : k < ot.length
      · have d1 : decide ((k : Int) < (ot.length : Int)) = true := decide_eq_true (by omega)
        have k2 : (k : Int) < (ot.length : Int) := by omega
        obtain ⟨t, ht⟩ : ∃ t, ot[k]? = some t := ⟨ot[k], List.getElem?_eq_getElem h1⟩
        obtain ⟨b1, off1, rfl, hbl1, c0⟩ := (hT10.later hb).get k t ht
        by_cases hq : t = key
        · subst hq
          go_wp2_with fail
          go_quiet (fail)
          go_wp2_with fail
          exact ⟨⟨k + 1, by omega, by go_num, below_dN hb nq⟩, by simp [intOf]; omega⟩
        · have dq : (t == key) = false := by rw [beq_eq_false_iff_ne]; exact hq
          have hv1 := fun w' (h : Below wr.heap.size wr w') => HvL.out w' t a1 _ c1 rfl ((T1c.later hb).later h).at'
          have hv2 := fun w' (h : Below wr.heap.size wr w') => HvA.out w' t (some ⟨bb, off, none⟩) _ c2 rfl ((T2c.later hb).later h).at'
          have hv3 := fun w' (h : Below wr.heap.size wr w') => HvB.out w' t a3 _ c3 rfl ((T3c.later hb).later h).at'
          have eA := HV1.out.1 t hq
          have eB := HV1.out.2.1 t hq
          rw [← eB, ← eA] at hv3
          rw [← eA] at hv2
          clear eA eB hq
          generalize v1 L t = VT at *
          have XC : Hid (∀ w', Below wr.heap.size wr w' → Below wr.heap.size wr w' ∧ w'.cell? ⟨b1, off1 + k, none⟩ = some (str t)) := ⟨fun w' h => ⟨h, (Below.cell (p := ⟨b1, _, none⟩) h hbl1).trans c0⟩⟩
          go_wp2_with fail
          go_region_held3 (fun w' => Below wr.heap.size wr w' ∧ w'.cell? ⟨b1, off1 + k, none⟩ = some (str t)) (first
            | exact XC.out _ (Below.refl _ _).drew
            | exact XC.out _ (below_seq (And.left (by assumption)) bv)) (first
            | (go_at_call 20; with_reducible refine Calls.mono (hv1 _ (And.left (by assumption))) ?_; rintro e wv ⟨rfl, bv⟩)
            | (go_at_call 20; with_reducible refine Calls.mono (hv2 _ (And.left (by assumption))) ?_; rintro e wv ⟨rfl, bv⟩)
            | (go_at_call 20; with_reducible refine Calls.mono (hv3 _ (And.left (by assumption))) ?_; rintro e wv ⟨rfl, bv⟩))
          have HB : Hid (Below wr.heap.size wr wv) := ⟨And.left (by assumption)⟩
          clear hv1 hv2 hv3
          go_wp2_with fail
          exact ⟨⟨k + 1, by omega, by go_num, below_seq hb HB.out⟩, by simp [intOf]; omega⟩
      · obtain rfl : k = ot.length := by omega
        have d1 : decide ((ot.length : Int) < (ot.length : Int)) = false := decide_eq_false (by omega)
        clear hT10 HvL
        go_wp2_with fail
        go_loopw [20] (fun i wr => ∃ k : Nat, k ≤ L.length ∧ i = .int .i64 (k : Int) ∧ Below w10.heap.size w10 wr) (fun i _ => L.length - (intOf i).toNat)
        case atStart => exact ⟨0, by omega, rfl, hb⟩
        case round =>
          obtain ⟨k, hk, rfl, hb⟩ := hrel
          by_cases h1 : k < L.length
          · have d1 : decide ((k : Int) < (L.length : Int)) = true := decide_eq_true (by omega)
            have k2 : (k : Int) < (L.length : Int) := by omega
            obtain ⟨t, ht⟩ : ∃ t, L[k]? = some t := ⟨L[k], List.getElem?_eq_getElem h1⟩
            obtain ⟨b1, off1, rfl, hbl1, c0, c1⟩ := (T1c.later hb).at'.get k t ht
            have htm := List.mem_of_getElem? ht
            have hzt := HZ.out t htm
            by_cases hq : t.key = key
            · have dq : (t.key == key) = true := by rw [beq_iff_eq]; exact hq
              clear hq
              go_wp2_with fail
              go_quiet (fail)
              go_wp2_with fail
              exact ⟨⟨k + 1, by omega, by go_num, below_dN hb nq⟩, by simp [intOf]; omega⟩
            · have dq : (t.key == key) = false := by rw [beq_eq_false_iff_ne]; exact hq
              have hv2 := fun w' (h : Below wr.heap.size wr w') => HvA.out w' t.key (some ⟨bb, off, none⟩) _ c2 rfl ((T2c.later hb).later h).at'
              have hv3 := fun w' (h : Below wr.heap.size wr w') => HvB.out w' t.key a3 _ c3 rfl ((T3c.later hb).later h).at'
              have eB := HV1.out.2.1 t.key hq
              have eM := HV1.out.2.2 t htm hq
              rw [← eB, eM] at hv3
              rw [eM] at hv2
              have ra : ∀ w, (adS (.string ⟨#[43]⟩) (str t.val)).run Try.prog w = .ok (str (43 :: t.val)) w := fun w => run_ad [43] t.val (by simp; omega) w
              clear eB eM hq
              generalize 43 :: t.val = VT at *
              have XC : Hid (∀ w', Below wr.heap.size wr w' → Below wr.heap.size wr w' ∧ w'.cell? ⟨b1, off1 + k * 2, none⟩ = some (str t.key) ∧ w'.cell? ⟨b1, off1 + k * 2 + 1, none⟩ = some (str t.val)) := ⟨fun w' h => ⟨h, (Below.cell (p := ⟨b1, _, none⟩) h hbl1).trans c0, (Below.cell (p := ⟨b1, _, none⟩) h hbl1).trans c1⟩⟩
              go_wp2_with fail
              go_region_held3 (fun w' => Below wr.heap.size wr w' ∧ w'.cell? ⟨b1, off1 + k * 2, none⟩ = some (str t.key) ∧ w'.cell? ⟨b1, off1 + k * 2 + 1, none⟩ = some (str t.val)) (first
                | exact XC.out _ (Below.refl _ _).drew
                | exact XC.out _ (below_seq (And.left (by assumption)) bv)) (first
                | (go_at_call 20; with_reducible refine Calls.mono (hv2 _ (And.left (by assumption))) ?_; rintro e wv ⟨rfl, bv⟩)
                | (go_at_call 20; with_reducible refine Calls.mono (hv3 _ (And.left (by assumption))) ?_; rintro e wv ⟨rfl, bv⟩))
              have HB : Hid (Below wr.heap.size wr wv) := ⟨And.left (by assumption)⟩
              clear hv2 hv3
              go_wp2_with fail
              exact ⟨⟨k + 1, by omega, by go_num, below_seq hb HB.out⟩, by simp [intOf]; omega⟩
          · have d1 : decide ((k : Int) < (L.length : Int)) = false := decide_eq_false (by omega)
            go_wp2_with fail
            go_ret
            exact ⟨rfl, below_seq B10 hb⟩
end Go.Proofs.Ytibmnpkmbhjniaa
