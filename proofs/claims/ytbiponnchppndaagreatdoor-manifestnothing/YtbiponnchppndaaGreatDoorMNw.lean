/- ManifestNothing: the walk. -/
import Derived.Test.YtbiponnchppndaaGreatDoorGt
import Derived.Test.YtbiponnchppndaaGreatDoorMBm
namespace Go.Proofs.YtbiponnchppndaaGreatDoor
set_option maxRecDepth 100000
set_option linter.unusedVariables false
set_option linter.unusedSimpArgs false
open Go.RowKit
open Go.Proofs.YtbiponnchppndaaGreatDoorP (TB recd nn LEN key Rd RdAt wrote werr)
open Go.Proofs.YtbiponnchppndaaGreatDoorH (hv hv_length hv_one hv_eq KIn)
attribute [local go_sem ↓] Go.wp_at_zero Go.wp_at_succ ad9 sl9
theorem w64m (j : Nat) (h : j ≤ 6000000000) : wrap64 (-(j : Int)) = -(j : Int) := by unfold wrap64; omega
theorem str_of2 (a : ByteArray) : str a.data.toList = .string a := by simp [str]
theorem So.one (w : World) (t : List UInt8) : So w.heap.size (w.alloc (.cells #[str t] 9)) (.slice (some ⟨w.heap.size, 0, none⟩) 1 1) [t] := by
  refine ⟨⟨by simp [svs], Or.inr ⟨w.heap.size, 1, #[str t], rfl, Nat.le_refl _, heap_alloc_new w _, Nat.le_refl _, by decide, by simp, by simp [svs]⟩⟩, by simp⟩
theorem So.mono {b b' : Nat} {w : World} {v : Value} {ts : List (List UInt8)} (h : So b w v ts) (hb : b' ≤ b) : So b' w v ts := by
  refine ⟨⟨h.own.1, ?_⟩, Nat.le_trans hb h.le⟩
  rcases h.own.2 with q | ⟨g, cap, cur, h1, h2, h3⟩
  · exact Or.inl q
  · exact Or.inr ⟨g, cap, cur, h1, Nat.le_trans hb h2, h3⟩
/-- what the four texts' pieces are, at one place -/
structure Pcs (R : List Kv) (o : List UInt8) (k : Nat) (A B C D : Nat → List UInt8) : Prop where
  a : A = pcsF (lfF R k)
  b : B = pcsF (twF R k)
  c : C = pcsF (tuF R k)
  d : D = pcsF (moF R o k)
theorem Pcs.other {R : List Kv} {o : List UInt8} {k i : Nat} {A B C D : Nat → List UInt8} (h : Pcs R o k A B C D) (h1 : i ≠ k) : A (i + 1) = A i ++ rt R i ∧ B (i + 1) = B i ++ rt R i ∧ D (i + 1) = D i ++ rt R i := by
  obtain ⟨rfl, rfl, rfl, rfl⟩ := h
  refine ⟨?_, ?_, ?_⟩ <;> rw [pcsFsucc]
  · unfold lfF; rw [if_neg h1]
  · unfold twF; rw [if_neg h1]
  · unfold moF; rw [if_neg h1]
theorem Pcs.here {R : List Kv} {o : List UInt8} {k : Nat} {A B C D : Nat → List UInt8} (h : Pcs R o k A B C D) : A (k + 1) = A k ∧ B (k + 1) = B k ++ rt R k ++ rt R k ∧ D (k + 1) = D k ++ o ++ rt R k := by
  obtain ⟨rfl, rfl, rfl, rfl⟩ := h
  refine ⟨?_, ?_, ?_⟩ <;> rw [pcsFsucc]
  · unfold lfF; rw [if_pos rfl, List.append_nil]
  · unfold twF; rw [if_pos rfl, List.append_assoc]
  · unfold moF; rw [if_pos rfl, List.append_assoc]
theorem Pcs.t1 {R : List Kv} {o : List UInt8} {k : Nat} {A B C D : Nat → List UInt8} (h : Pcs R o k A B C D) (hk : k + 1 < R.length) : C (k + 1) = C k ++ rt R (k + 1) := by
  rw [h.c, pcsFsucc]; unfold tuF; rw [if_pos rfl, if_pos hk]
theorem Pcs.t2 {R : List Kv} {o : List UInt8} {k : Nat} {A B C D : Nat → List UInt8} (h : Pcs R o k A B C D) (hk : ¬ k + 1 < R.length) : C (k + 1) = C k ++ rt R k := by
  rw [h.c, pcsFsucc]; unfold tuF; rw [if_pos rfl, if_neg hk]
theorem Pcs.t3 {R : List Kv} {o : List UInt8} {k : Nat} {A B C D : Nat → List UInt8} (h : Pcs R o k A B C D) : C (k + 1 + 1) = C (k + 1) ++ rt R k := by
  rw [h.c, pcsFsucc]; unfold tuF; rw [if_neg (by omega), if_pos rfl]
theorem Pcs.t4 {R : List Kv} {o : List UInt8} {k i : Nat} {A B C D : Nat → List UInt8} (h : Pcs R o k A B C D) (h1 : i ≠ k) (h2 : i ≠ k + 1) : C (i + 1) = C i ++ rt R i := by
  rw [h.c, pcsFsucc]; unfold tuF; rw [if_neg h1, if_neg h2]
theorem Pcs.len {R : List Kv} {o : List UInt8} {k : Nat} {A B C D : Nat → List UInt8} (h : Pcs R o k A B C D) (hr : ∀ j, (rt R j).length ≤ 1048576) (ho : o.length ≤ 1048576) (i : Nat) (hi : i ≤ 100000) : (A i).length ≤ 209715200000 ∧ (B i).length ≤ 209715200000 ∧ (C i).length ≤ 209715200000 ∧ (D i).length ≤ 209715200000 := by
  obtain ⟨rfl, rfl, rfl, rfl⟩ := h
  have hm : i * 2097152 ≤ 100000 * 2097152 := Nat.mul_le_mul_right _ hi
  refine ⟨Nat.le_trans (pcsFlen (B := 2097152) (fun j => ?_) i) hm, Nat.le_trans (pcsFlen (B := 2097152) (fun j => ?_) i) hm, Nat.le_trans (pcsFlen (B := 2097152) (fun j => ?_) i) hm, Nat.le_trans (pcsFlen (B := 2097152) (fun j => ?_) i) hm⟩
  · unfold lfF; have := hr j; split <;> simp <;> omega
  · unfold twF; have := hr j; split <;> simp <;> omega
  · unfold tuF; have := hr j; have := hr (j + 1); have := hr k; split <;> (try split) <;> omega
  · unfold moF; have := hr j; split <;> simp <;> omega
theorem ad_le {x y z : List UInt8} (e : z = x ++ y) (h : z.length ≤ 209715200000) (w : World) : (adS (str x) (str y)).run Tryz.prog w = .ok (str z) w := by
  subst e
  rw [List.length_append] at h
  exact run_ad x y (by omega) w
theorem rt_get {m : Ma} {k : Nat} {w : World} {a : Option Addr} (h : TIn w a ((recs m).map fun p => recd p.1 p.2)) (hk : k < (recs m).length) : ∃ b off, a = some ⟨b, off, none⟩ ∧ b < w.heap.size ∧ w.cell? ⟨b, off + k, none⟩ = some (str (rt (recs m) k)) := by
  have hq : (recs m)[k]? = some (recs m)[k] := List.getElem?_eq_getElem hk
  rw [rt_some hq]
  exact h.get k _ (by rw [List.getElem?_map, hq]; rfl)
/-- bad texts -/
def Bad (t : List UInt8) : Prop := t.length ≤ 209715200000 ∧ ∀ m', ¬ Beg t m'
set_option maxHeartbeats 16000000 in
theorem nothing_walk (m : Ma) (w : World) (a : Option Addr) (cap : Nat) (hL : IIt w a m.items) (hz : ∀ x ∈ m.items, x.l.length ≤ 4398046510976) (hl : m.items.length ≤ 1466015503658) (x : Int) (fo : List UInt8) (hfo : fo.length ≤ 140737488351232) (hT : TB w) (hE : EG w) (hK : KIn w) :
    Calls Tryz.prog 3 #[.agg #[.int .i64 m.since, .int .i64 m.next, .slice a m.items.length cap], .int .i64 x, str fo] w fun e w' => e = .returned (.bool true) ∧ Below w.heap.size w w' := by
  have b1 := (Below.refl w.heap.size w).alloc (Nat.le_refl _) (.cells #[.int .i64 m.since, .int .i64 m.next, .slice a m.items.length cap] 24)
  have z1 := Bn3.new w m.since m.next (.slice a m.items.length cap)
  have hhd := head_any _ (hT.below b1) (hE.below b1) (hK.seq b1)
  go_enter Tryz.func3, Tryz.ntmps3
  go_wp2_with fail
  refine Calls.mono hhd ?_
  rintro e w2 ⟨rfl, b2⟩
  have B2 := below_seq b1 b2
  have z2 := z1.later b2
  clear hhd b1 b2 z1
  dsimp only
  obtain ⟨p0, p1, p2⟩ := z2.cells
  go_wp2_with fail
  refine Calls.mono (own_any m w2 a cap (hL.later B2) hz hl) ?_
  rintro e w3 ⟨R, ra, rc, rfl, hR, hM, b3⟩
  have B3 := below_seq B2 b3
  have hRl : R.length = m.items.length := by rw [← hR, List.length_map]
  have b4 := (Below.refl w3.heap.size w3).alloc (Nat.le_refl _) (.cells #[.int .i64 m.since, .int .i64 m.next, .slice ra m.items.length rc] 28)
  have z4 := Bm3.new w3 m.since m.next (.slice ra m.items.length rc)
  have i4 := hM.it.later b4
  rw [hR] at i4
  have B4 := below_seq B3 b4
  obtain ⟨q0, q1, q2⟩ := z4.cells
  rw [hRl]
  clear z2 p0 p1 p2 hM hR hRl b3 b4 B2 B3
  dsimp only
  go_wp2_with fail
  generalize w3.alloc (.cells #[.int .i64 m.since, .int .i64 m.next, .slice ra m.items.length rc] 28) = W4 at *
  generalize w3.heap.size = g4 at *
  refine Calls.mono (mWrite_any m W4 ra rc i4 hz (by omega) (hT.below B4)) ?_
  rintro e w5 ⟨h5, b5⟩
  have B5 := below_seq B4 b5
  clear z4 q0 q1 q2 i4 b5 B4 hL hz hl
  rcases h5 with ⟨hr, rfl⟩ | ⟨hr, rfl⟩
  case inr =>
    dsimp only
    go_wp2_with fail
    go_ret
    exact ⟨rfl, B5⟩
  have hmle := mtx_le hr
  have hrc := records_any (recs m) (recs_ok hr) (by show (mtx m).length ≤ _; omega) (recs_max hr) w5 (hT.below B5)
  rw [show txt (recs m) = mtx m from rfl] at hrc
  have HR := Hid.mk hr
  dsimp only
  go_wp2_with fail
  refine Calls.mono hrc ?_
  rintro e w6 ⟨v, rfl, hS, b6⟩
  have B6 := below_seq B5 b6
  obtain ⟨la, lc, rfl, hTI⟩ := hS.slice
  rw [List.length_map]
  have HTI := Hid.mk hTI
  have HT6 := Hid.mk (hT.below B6)
  have HE6 := Hid.mk (hE.below B6)
  have HB6 := Hid.mk B6
  have hT0 := Hid.mk hT
  have hE0 := Hid.mk hE
  clear hS hrc hr hmle hTI b6 B5 B6 hT hE hK
  obtain ⟨n, hn⟩ : ∃ n, n = (recs m).length := ⟨_, rfl⟩
  rw [← hn]
  have hn5 : 5 ≤ n := by rw [hn]; exact recs_len m
  have hnm : n ≤ 100000 := by rw [hn]; exact recs_max HR.out
  have Hn := Hid.mk hn
  clear hn
  have d5 : decide ((n : Int) < 5) = false := decide_eq_false (by omega)
  have hn0 : ¬ (n : Int) = 0 := by omega
  have hn0' : ¬ n = 0 := by omega
  obtain ⟨j, hj, hcase⟩ := tm_lt x (n := n) (by omega)
  have Hn5 := Hid.mk hn5
  have Hnm := Hid.mk hnm
  have Hj := Hid.mk hj
  clear hn5 hnm
  dsimp only
  go_upto_if 54 with fail
  go_cut [12] from 30 (fun v wx => v = .int .i64 (j : Int) ∧ Hid (wx = w6))
  case first =>
    rcases hcase with ⟨hx1, hx2⟩ | ⟨hx1, hx2⟩
    · rw [hx1] at hx2 ⊢
      have hd1 : decide ((j : Int) < 0) = false := decide_eq_false hx2
      clear hx1
      first | rw [hd1] | skip
      go_wp2_with fail
      go_meet
      case rel => exact ⟨rfl, ⟨rfl⟩⟩
    · have hny : -(x.tmod (n : Int)) = (j : Int) := by rw [hx1, Int.neg_neg]
      have hwy : wrap64 (x.tmod (n : Int)) = x.tmod (n : Int) := by rw [hx1]; exact w64m j (by have := Hj.out; have := Hnm.out; omega)
      have hwj : wrap64 (j : Int) = (j : Int) := by have := Hj.out; have := Hnm.out; unfold wrap64; omega
      clear hx1
      obtain ⟨y, hy⟩ : ∃ y, x.tmod (n : Int) = y := ⟨_, rfl⟩
      rw [hy] at hny hwy hx2 ⊢
      have hd1 : decide (y < 0) = true := decide_eq_true hx2
      first | rw [hd1] | skip
      go_wp2_with fail
      go_meet
      case rel => exact ⟨by rw [hwj], ⟨rfl⟩⟩
  case rest =>
    obtain ⟨rfl, hwx⟩ := hcut
    have hw6 := hwx.out
    subst hw6
    clear hwx hcase d5 hn0 hn0'
    obtain ⟨q, hq⟩ : ∃ q, (recs m)[j]? = some q := ⟨(recs m)[j]'(by rw [← Hn.out]; exact Hj.out), List.getElem?_eq_getElem _⟩
    have hmem := recs_ok HR.out q (List.mem_of_getElem? hq)
    have hrq := rt_some hq
    obtain ⟨lb, lo, rfl, hlb, hc0⟩ := rt_get HTI.out (k := j) (by rw [← Hn.out]; exact Hj.out)
    clear hc0
    have HC : Hid (∀ i, i < n → wc.cell? ⟨lb, lo + i, none⟩ = some (str (rt (recs m) i))) := ⟨fun i hi => by
      obtain ⟨b', o', e, _, h⟩ := rt_get HTI.out (k := i) (by rw [← Hn.out]; exact hi)
      have e := Option.some.inj e
      injection e with e1 e2
      subst e1 e2
      exact h⟩
    have HLb := Hid.mk hlb
    have HQ := Hid.mk hq
    have HQk := Hid.mk hmem
    have HKm : Hid (cl q = 9 → 5 < q.1.length ∧ q.1.take 5 = sMeta) := ⟨meta_cl HR.out (List.mem_of_getElem? hq)⟩
    have HRl : Hid (∀ j, (rt (recs m) j).length ≤ 1048576) := ⟨rt_len HR.out⟩
    have c13 := HC.out j Hj.out
    rw [hrq] at c13
    obtain ⟨rc, hrc⟩ : ∃ rc, rc = recd q.1 q.2 := ⟨_, rfl⟩
    have HRD : Hid (Rd rc q.1 q.2 ∧ rc.length ≤ 1048576 ∧ 0 < rc.length) := ⟨⟨⟨hmem.1, hmem.2, [], by rw [hrc, List.append_nil]⟩, by rw [hrc, Go.Proofs.YtbiponnchppndaaGreatDoorP.recd_length]; exact hmem.2, by rw [hrc]; exact List.length_pos_iff.2 (recd_ne q.1 q.2)⟩⟩
    have HRC : Hid (rt (recs m) j = rc) := ⟨by rw [hrc]; exact hrq⟩
    rw [← hrc] at c13
    clear hq hmem hrq hrc hlb HTI
    have k2 : (j : Int) < (n : Int) := Int.ofNat_lt.2 Hj.out
    have hrd := Go.Proofs.YtbiponnchppndaaGreatDoorP.read_any ⟨rc.toArray⟩ 0 (by rw [str_size]; have := HRD.out.2.1; omega) (by omega) wc HT6.out
    have HE1 : Hid (∀ (ky vl : ByteArray) (z er : Int), RdAt rc 0 ky.data.toList vl.data.toList z er → Value.string ky = str q.1 ∧ er = 0) := ⟨fun ky vl z er h => by
      rcases h.at' (Int.le_refl _) (by have := HRD.out.2.2; omega) with ⟨h1, h2, h3⟩ | ⟨_, _, _, _, h5⟩
      · obtain ⟨e1, e2⟩ := h2.uniq HRD.out.1
        exact ⟨(str_of2 ky).symm.trans (by rw [e1]), h1⟩
      · exact absurd HRD.out.1 (h5 q.1 q.2)⟩
    go_wp2_with fail
    with_reducible refine Calls.mono hrd ?_
    rintro e w7 ⟨ky, vl, z, er, rfl, hat, b7⟩
    obtain ⟨eky, rfl⟩ := HE1.out _ _ _ _ hat
    rw [eky]
    have HB7 := Hid.mk (below_seq HB6.out b7)
    have HT7 := Hid.mk (HT6.out.below b7)
    have HE7 := Hid.mk (HE6.out.below b7)
    have HC7 : Hid (∀ i, i < n → w7.cell? ⟨lb, lo + i, none⟩ = some (str (rt (recs m) i))) := ⟨fun i hi => by rw [b7.cell (p := ⟨lb, _, none⟩) HLb.out]; exact HC.out i hi⟩
    clear hat eky hrd c13 b7 HC HT6 HE6 HB6 HE1 HLb
    obtain ⟨K, hK⟩ : ∃ K, K = q.1 := ⟨_, rfl⟩
    have HKq := Hid.mk hK
    rw [← hK]
    clear hK
    have HKl : Hid (K.length ≤ 1048576) := ⟨by rw [HKq.out]; exact (kv_len HQk.out.2).1⟩
    obtain ⟨mt, hmt⟩ : ∃ mt : Bool, mt = (decide (5 < K.length) && (K.take 5 == sMeta)) := ⟨_, rfl⟩
    have HMt : Hid (mt = false → cl q ≠ 9) := ⟨fun h hc => by
      obtain ⟨h1, h2⟩ := HKm.out hc
      rw [← HKq.out] at h1 h2
      rw [hmt, h2, decide_eq_true h1] at h
      simp at h⟩
    clear HKm
    dsimp only
    go_upto_region 16 with fail
    go_cut [17] from 30 (fun v wx => v = .bool mt ∧ Hid (wx = w7))
    case first =>
      by_cases h5 : 5 < K.length
      · have d1 : decide (5 < K.length) = true := decide_eq_true h5
        have d1' : decide ((5 : Int) < (K.length : Int)) = true := decide_eq_true (by omega)
        have hhi : ∀ w, (slS (str K) none (some (.int .i64 5)) none).run Tryz.prog w = .ok (str (K.take 5)) w := fun w => run_hi K 5 (by omega) (by have := HKl.out; omega) w
        rw [d1, Bool.true_and] at hmt
        go_wp2_with fail
        go_meet
        case rel => exact ⟨by rw [hmt]; rfl, ⟨rfl⟩⟩
      · have d1 : decide (5 < K.length) = false := decide_eq_false h5
        have d1' : decide ((5 : Int) < (K.length : Int)) = false := decide_eq_false (by omega)
        rw [d1, Bool.false_and] at hmt
        go_wp2_with fail
        go_meet
        case rel => exact ⟨by rw [hmt], ⟨rfl⟩⟩
    case rest =>
      obtain ⟨rfl, hwx⟩ := hcut
      have hw6 := hwx.out
      subst hw6
      clear hwx hmt
      have had : ∀ w, (adS (.string ⟨#[120]⟩) (str K)).run Tryz.prog w = .ok (str (120 :: K)) w := fun w => run_ad [120] K (by have := HKl.out; simp; omega) w
      have hwr : Calls Tryz.prog 14 #[str (120 :: K), str fo] wc fun e w' => e = .returned (.tuple #[str (wrote (120 :: K) fo), .int .i64 (werr (120 :: K) fo)]) ∧ Below wc.heap.size wc w' := Go.Proofs.YtbiponnchppndaaGreatDoorP.write_any ⟨(120 :: K).toArray⟩ ⟨fo.toArray⟩ (by rw [str_size]; have := HKl.out; simp; omega) (by rw [str_size]; omega) wc HT7.out
      have HWr : Hid (werr (120 :: K) fo = 0 → wrote (120 :: K) fo = recd (120 :: K) fo ∧ key (120 :: K) = true ∧ LEN (nn (120 :: K) fo) ≤ 1048576) := ⟨fun h => by
        unfold werr at h
        split at h
        · cases h
        · next h1 =>
          split at h
          · cases h
          · next h2 => exact ⟨by unfold wrote; rw [if_neg h1, if_neg h2], by simpa using h1, by omega⟩⟩
      generalize wrote (120 :: K) fo = O at *
      generalize werr (120 :: K) fo = E at *
      go_wp2_with fail
      refine Calls.mono hwr ?_
      rintro e w8 ⟨rfl, b8⟩
      have HB8 := Hid.mk (below_seq HB7.out b8)
      have HT8 := Hid.mk (HT7.out.below b8)
      have HE8 := Hid.mk (HE7.out.below b8)
      clear hwr had
      dsimp only
      by_cases hEz : E = 0
      case neg =>
        have e1 : (E == 0) = false := beq_eq_false_iff_ne.2 hEz
        have e2 : (E != 0) = true := by rw [bne, e1]; rfl
        clear hEz
        go_wp2_with fail
        go_ret
        exact ⟨rfl, HB8.out⟩
      subst hEz
      obtain ⟨hO, hOk, hOl⟩ := HWr.out rfl
      have HOl : Hid (O.length ≤ 1048576) := ⟨by rw [hO, Go.Proofs.YtbiponnchppndaaGreatDoorP.recd_length]; exact hOl⟩
      obtain ⟨A, B, C, D, hP⟩ : ∃ A B C D, Pcs (recs m) O j A B C D := ⟨_, _, _, _, ⟨rfl, rfl, rfl, rfl⟩⟩
      have HP := Hid.mk hP
      have HZ : Hid (A 0 = [] ∧ B 0 = [] ∧ C 0 = [] ∧ D 0 = []) := ⟨by rw [hP.a, hP.b, hP.c, hP.d]; exact ⟨rfl, rfl, rfl, rfl⟩⟩
      have HLen : Hid (∀ i, i ≤ n → (A i).length ≤ 209715200000 ∧ (B i).length ≤ 209715200000 ∧ (C i).length ≤ 209715200000 ∧ (D i).length ≤ 209715200000) := ⟨fun i hi => hP.len HRl.out HOl.out i (by have := Hnm.out; omega)⟩
      have HBD : Hid (Bad (D n)) := ⟨(HLen.out n (Nat.le_refl _)).2.2.2, fun m' => by
        rw [hP.d, Hn.out, hO]
        exact no_more HR.out HQ.out (q := (120 :: K, fo)) ⟨hOk, hOl⟩ rfl m'⟩
      have HBA : Hid (cl q ≠ 9 → Bad (A n)) := ⟨fun hc => ⟨(HLen.out n (Nat.le_refl _)).1, fun m' => by
        rw [hP.a, Hn.out]
        exact no_left HR.out HQ.out hc m'⟩⟩
      have HBT : Hid (j + 1 < n → Bad (B n) ∧ Bad (C n)) := ⟨fun hj1 => by
        have hb : (recs m)[j + 1]? = some ((recs m)[j + 1]'(by rw [← Hn.out]; exact hj1)) := List.getElem?_eq_getElem _
        refine ⟨⟨(HLen.out n (Nat.le_refl _)).2.1, fun m' => ?_⟩, ⟨(HLen.out n (Nat.le_refl _)).2.2.1, fun m' => ?_⟩⟩
        · rw [hP.b, Hn.out]; exact no_twice HR.out HQ.out hb m'
        · rw [hP.c, Hn.out]; exact no_turned HR.out HQ.out hb m'⟩
      have HC8 : Hid (∀ i, i < n → w8.cell? ⟨lb, lo + i, none⟩ = some (str (rt (recs m) i))) := ⟨fun i hi => by have := HC7.out i hi; rw [b8.cell (p := ⟨lb, _, none⟩) (block_lt_of_cell this)]; exact this⟩
      have hwj : wrap64 ((j : Int) + 1) = ((j + 1 : Nat) : Int) := by have := Hj.out; have := Hnm.out; unfold wrap64; omega
      have Hwj := Hid.mk hwj
      clear hP hO hOk hOl HWr b8 HC7 HT7 HE7 HB7 HRl HRC HRD HQk HKq hwj
      obtain ⟨rr, hrr⟩ : ∃ rr, rr = rt (recs m) := ⟨_, rfl⟩
      have Hrr := Hid.mk hrr
      rw [← hrr] at HC8
      clear hrr
      go_wp2_with fail
      go_loopw [20, 21, 22, 23, 24] (fun s1 s2 s3 s4 v wr => ∃ i : Nat, i ≤ n ∧ s1 = str (A i) ∧ s2 = str (B i) ∧ s3 = str (C i) ∧ s4 = str (D i) ∧ v = .int .i64 (i : Int) ∧ Hid (wr = w8)) (fun _ _ _ _ v _ => n - (intOf v).toNat)
      case atStart => exact ⟨0, Nat.zero_le _, by rw [HZ.out.1], by rw [HZ.out.2.1], by rw [HZ.out.2.2.1], by rw [HZ.out.2.2.2], rfl, ⟨rfl⟩⟩
      case round =>
        obtain ⟨i, hi, rfl, rfl, rfl, rfl, rfl, hwr⟩ := hrel
        have hw := hwr.out
        subst hw
        clear hwr
        by_cases hlt : i < n
        · have d1 : decide ((i : Int) < (n : Int)) = true := decide_eq_true (Int.ofNat_lt.2 hlt)
          have k2 : (i : Int) < (n : Int) := Int.ofNat_lt.2 hlt
          have hw1 : wrap64 ((i : Int) + 1) = ((i + 1 : Nat) : Int) := by have := Hnm.out; unfold wrap64; omega
          have ci := HC8.out i hlt
          obtain ⟨l1, l2, l3, l4⟩ := HLen.out (i + 1) hlt
          have HM : Hid (n - (i + 1) < n - i) := ⟨by omega⟩
          by_cases hik : i = j
          · subst hik
            obtain ⟨e1, e2, e3⟩ := HP.out.here
            rw [← Hrr.out] at e2 e3
            have f0 : ((i : Int) != (i : Int)) = false := by simp
            have f1 : (i != i) = false := by simp
            have f2 : ((i : Int) == (i : Int)) = true := by simp
            have f3 : (i == i) = true := by simp
            obtain ⟨Bx, hBx⟩ : ∃ Bx, Bx = B i ++ rr i := ⟨_, rfl⟩
            obtain ⟨Dx, hDx⟩ : ∃ Dx, Dx = D i ++ O := ⟨_, rfl⟩
            rw [← hBx] at e2
            rw [← hDx] at e3
            have a1 := fun w => ad_le hBx (by have := congrArg List.length e2; rw [List.length_append] at this; omega) w
            have a2 := fun w => ad_le e2 l2 w
            have a3 := fun w => ad_le hDx (by have := congrArg List.length e3; rw [List.length_append] at this; omega) w
            have a4 := fun w => ad_le e3 l4 w
            have HA := Hid.mk e1
            clear hBx hDx e1 e2 e3 l1 l2 l4
            by_cases hj1 : i + 1 < n
            · have d2 : decide ((i : Int) + 1 < (n : Int)) = true := decide_eq_true (by omega)
              have d3 : decide (i + 1 < n) = true := decide_eq_true hj1
              have d4 : decide (((i + 1 : Nat) : Int) < (n : Int)) = true := decide_eq_true (by omega)
              have e4 := HP.out.t1 (by rw [← Hn.out]; exact hj1)
              rw [← Hrr.out] at e4
              have a5 := fun w => ad_le e4 l3 w
              have ci2 := HC8.out (i + 1) hj1
              have k3 : ((i + 1 : Nat) : Int) < (n : Int) := Int.ofNat_lt.2 hj1
              clear e4 l3
              go_wp2_with fail
              exact ⟨⟨i + 1, hlt, by rw [HA.out], rfl, rfl, rfl, by first | rfl | (rw [hw1]), ⟨by first | trivial | rfl⟩⟩, by first | (simpa [intOf] using HM.out) | (rw [hw1]; simpa [intOf] using HM.out)⟩
            · have d2 : decide ((i : Int) + 1 < (n : Int)) = false := decide_eq_false (by omega)
              have d3 : decide (i + 1 < n) = false := decide_eq_false hj1
              have d4 : decide (((i + 1 : Nat) : Int) < (n : Int)) = false := decide_eq_false (by omega)
              have f4 : ((i : Int) == (i : Int) + 1) = false := beq_eq_false_iff_ne.2 (by omega)
              have f5 : ((i : Int) == ((i + 1 : Nat) : Int)) = false := beq_eq_false_iff_ne.2 (by omega)
              have f6 : (i == i + 1) = false := beq_eq_false_iff_ne.2 (by omega)
              have e4 := HP.out.t2 (by rw [← Hn.out]; exact hj1)
              rw [← Hrr.out] at e4
              have a5 := fun w => ad_le e4 l3 w
              clear e4 l3
              go_wp2_with fail
              exact ⟨⟨i + 1, hlt, by rw [HA.out], rfl, rfl, rfl, by first | rfl | (rw [hw1]), ⟨by first | trivial | rfl⟩⟩, by first | (simpa [intOf] using HM.out) | (rw [hw1]; simpa [intOf] using HM.out)⟩
          · obtain ⟨e1, e2, e3⟩ := HP.out.other hik
            rw [← Hrr.out] at e1 e2 e3
            have f0 : ((i : Int) != (j : Int)) = true := by rw [bne, beq_eq_false_iff_ne.2 (by omega)]; rfl
            have f1 : (i != j) = true := by rw [bne, beq_eq_false_iff_ne.2 hik]; rfl
            have f2 : ((i : Int) == (j : Int)) = false := beq_eq_false_iff_ne.2 (by omega)
            have f3 : (i == j) = false := beq_eq_false_iff_ne.2 hik
            have a1 := fun w => ad_le e1 l1 w
            have a2 := fun w => ad_le e2 l2 w
            have a3 := fun w => ad_le e3 l4 w
            have hwj := Hwj.out
            clear e1 e2 e3 l1 l2 l4
            by_cases hj1 : i = j + 1
            · have d2 : decide ((j : Int) + 1 < (n : Int)) = true := decide_eq_true (by omega)
              have d3 : decide (j + 1 < n) = true := decide_eq_true (by omega)
              have d4 : decide (((j + 1 : Nat) : Int) < (n : Int)) = true := decide_eq_true (by omega)
              have e4 : C (i + 1) = C i ++ rr j := by rw [hj1, Hrr.out]; exact HP.out.t3
              have a5 := fun w => ad_le e4 l3 w
              have cj := HC8.out j Hj.out
              have k3 : (j : Int) < (n : Int) := Int.ofNat_lt.2 Hj.out
              have f4 : ((i : Int) == (j : Int) + 1) = true := by rw [hj1]; simp
              have f5 : ((i : Int) == ((j + 1 : Nat) : Int)) = true := by rw [hj1]; simp
              have f6 : (i == j + 1) = true := by rw [hj1]; simp
              clear e4 l3 hj1
              go_wp2_with fail
              exact ⟨⟨i + 1, hlt, rfl, rfl, rfl, rfl, by first | rfl | (rw [hw1]), ⟨by first | trivial | rfl⟩⟩, by first | (simpa [intOf] using HM.out) | (rw [hw1]; simpa [intOf] using HM.out)⟩
            · have e4 := HP.out.t4 hik hj1
              rw [← Hrr.out] at e4
              have a5 := fun w => ad_le e4 l3 w
              have f4 : ((i : Int) == (j : Int) + 1) = false := beq_eq_false_iff_ne.2 (by omega)
              have f5 : ((i : Int) == ((j + 1 : Nat) : Int)) = false := beq_eq_false_iff_ne.2 (by omega)
              have f6 : (i == j + 1) = false := beq_eq_false_iff_ne.2 hj1
              clear e4 l3
              by_cases hj2 : j + 1 < n
              · have d2 : decide ((j : Int) + 1 < (n : Int)) = true := decide_eq_true (by omega)
                have d3 : decide (j + 1 < n) = true := decide_eq_true hj2
                have d4 : decide (((j + 1 : Nat) : Int) < (n : Int)) = true := decide_eq_true (by omega)
                go_wp2_with fail
                exact ⟨⟨i + 1, hlt, rfl, rfl, rfl, rfl, by first | rfl | (rw [hw1]), ⟨by first | trivial | rfl⟩⟩, by first | (simpa [intOf] using HM.out) | (rw [hw1]; simpa [intOf] using HM.out)⟩
              · have d2 : decide ((j : Int) + 1 < (n : Int)) = false := decide_eq_false (by omega)
                have d3 : decide (j + 1 < n) = false := decide_eq_false hj2
                have d4 : decide (((j + 1 : Nat) : Int) < (n : Int)) = false := decide_eq_false (by omega)
                go_wp2_with fail
                exact ⟨⟨i + 1, hlt, rfl, rfl, rfl, rfl, by first | rfl | (rw [hw1]), ⟨by first | trivial | rfl⟩⟩, by first | (simpa [intOf] using HM.out) | (rw [hw1]; simpa [intOf] using HM.out)⟩
        · obtain rfl : i = n := by omega
          have d1 : decide ((i : Int) < (i : Int)) = false := decide_eq_false (by omega)
          obtain ⟨An, hAn⟩ : ∃ An, An = A i := ⟨_, rfl⟩
          obtain ⟨Bn, hBn⟩ : ∃ Bn, Bn = B i := ⟨_, rfl⟩
          obtain ⟨Cn, hCn⟩ : ∃ Cn, Cn = C i := ⟨_, rfl⟩
          obtain ⟨Dn, hDn⟩ : ∃ Dn, Dn = D i := ⟨_, rfl⟩
          rw [← hAn, ← hBn, ← hCn, ← hDn]
          rw [← hDn] at HBD
          rw [← hAn] at HBA
          rw [← hBn, ← hCn] at HBT
          clear hAn hBn hCn hDn HC8 HP HZ HLen Hrr
          have HS9 := Hid.mk (So.one wr Dn)
          have HB9 := Hid.mk ((Below.refl wr.heap.size wr).alloc (Nat.le_refl _) (.cells #[str Dn] 9))
          go_upto_if 160 with fail
          generalize wr.alloc (.cells #[str Dn] 9) = w9 at *
          obtain ⟨g9, hg9'⟩ : ∃ g9, g9 = wr.heap.size := ⟨_, rfl⟩
          rw [← hg9'] at HS9 HB9 ⊢
          have hg9 : Hid (wr.heap.size = g9) := ⟨hg9'.symm⟩
          clear hg9'
          go_cut [25] from 30 (fun v wx => ∃ bs : List (List UInt8), Hid (So g9 wx v bs) ∧ Hid (bs.length ≤ 2 ∧ ∀ t ∈ bs, Bad t) ∧ Hid (Below g9 wr wx))
          case first =>
            cases mt with
            | true =>
              go_wp2_with fail
              go_meet
              case rel => exact ⟨[Dn], HS9, ⟨by simp, fun t ht => by simp at ht; rw [ht]; exact HBD.out⟩, HB9⟩
            | false =>
              have hba := HBA.out (HMt.out rfl)
              go_wp2_with (refine app_s rfl _ _ rfl [An] (by simp) rfl HS9.out rfl (by simp) rfl rfl ?_; intro v' w' hs' hb')
              go_meet
              case rel => exact ⟨_, ⟨hs'⟩, ⟨by simp, fun t ht => by
                simp at ht
                rcases ht with rfl | rfl
                · exact HBD.out
                · exact hba⟩, ⟨HB9.out.trans hb'⟩⟩
          case rest =>
            obtain ⟨bs, hs9, hbad, hb9⟩ := hcut
            clear HS9 HB9
            have hl2 : bs.length ≤ 4500000000000 := by have := hbad.out.1; omega
            have Hl2 := Hid.mk hl2
            clear hl2
            have hwj := Hwj.out
            go_upto_if 169 with fail
            go_cut [25] from 30 (fun v wx => ∃ bs : List (List UInt8), Hid (So g9 wx v bs) ∧ Hid (bs.length ≤ 4 ∧ ∀ t ∈ bs, Bad t) ∧ Hid (Below g9 wr wx))
            case first =>
              by_cases hj2 : j + 1 < i
              · have d2 : decide ((j : Int) + 1 < (i : Int)) = true := decide_eq_true (by omega)
                have d3 : decide (j + 1 < i) = true := decide_eq_true hj2
                have d4 : decide (((j + 1 : Nat) : Int) < (i : Int)) = true := decide_eq_true (by omega)
                obtain ⟨hb1, hb2⟩ := HBT.out hj2
                have Hb1 := Hid.mk hb1
                have Hb2 := Hid.mk hb2
                clear hb1 hb2
                go_wp2_with (refine app_s rfl _ _ rfl [Bn, Cn] (by simp) rfl hs9.out rfl Hl2.out rfl rfl ?_; intro v' w' hs' hb')
                go_meet
                case rel => exact ⟨_, ⟨hs'⟩, ⟨by have := hbad.out.1; simp; omega, fun t ht => by
                  rcases List.mem_append.1 ht with q | q
                  · exact hbad.out.2 t q
                  · simp at q
                    rcases q with rfl | rfl
                    · exact Hb1.out
                    · exact Hb2.out⟩, ⟨hb9.out.trans hb'⟩⟩
              · have d2 : decide ((j : Int) + 1 < (i : Int)) = false := decide_eq_false (by omega)
                have d3 : decide (j + 1 < i) = false := decide_eq_false hj2
                have d4 : decide (((j + 1 : Nat) : Int) < (i : Int)) = false := decide_eq_false (by omega)
                go_wp2_with fail
                go_meet
                case rel => exact ⟨bs, hs9, ⟨by have := hbad.out.1; omega, hbad.out.2⟩, hb9⟩
            case rest =>
              clear hs9 hbad hb9 Hl2
              obtain ⟨bs, hs9, hbad, hb9⟩ := hcut
              obtain ⟨ba, bc, rfl, hti⟩ := hs9.out.slice
              have HTi := Hid.mk hti
              have HBw : Hid (Below w.heap.size w wc) := ⟨HB8.out.trans (hb9.out.mono (by rw [← hg9.out]; exact HB8.out.size))⟩
              have HTw := Hid.mk (hT0.out.below HBw.out)
              have HEw := Hid.mk (hE0.out.below HBw.out)
              clear hti hs9
              go_wp2_with fail
              go_loopw [26] (fun v wx => ∃ u : Nat, u ≤ bs.length ∧ v = .int .i64 (u : Int) ∧ Hid (Below wc.heap.size wc wx)) (fun v _ => bs.length - (intOf v).toNat)
              case atStart => exact ⟨0, Nat.zero_le _, rfl, ⟨Below.refl _ _⟩⟩
              case round =>
                obtain ⟨u, hu, rfl, hbu⟩ := hrel
                by_cases hlt : u < bs.length
                · have d1 : decide ((u : Int) < (bs.length : Int)) = true := decide_eq_true (Int.ofNat_lt.2 hlt)
                  have k2 : (u : Int) < (bs.length : Int) := Int.ofNat_lt.2 hlt
                  have hw1 : wrap64 ((u : Int) + 1) = ((u + 1 : Nat) : Int) := by have := hbad.out.1; unfold wrap64; omega
                  have HM : Hid (bs.length - (u + 1) < bs.length - u) := ⟨by omega⟩
                  obtain ⟨t, ht⟩ : ∃ t, bs[u]? = some t := ⟨bs[u], List.getElem?_eq_getElem hlt⟩
                  obtain ⟨b', o', rfl, _, hcu⟩ := (HTi.out.later hbu.out).get u t ht
                  obtain ⟨hb1, hb2⟩ := hbad.out.2 t (List.mem_of_getElem? ht)
                  have hrd := mRead_any t _ (by omega) (HTw.out.below hbu.out) (HEw.out.below hbu.out)
                  have HNo := Hid.mk hb2
                  clear hb1 hb2 ht
                  go_wp2_with fail
                  refine Calls.mono hrd ?_
                  rintro e w11 ⟨h11, b11⟩
                  rcases h11 with ⟨nn', _, _, _, hbg, _⟩ | ⟨_, rfl⟩
                  case inl => exact absurd hbg (HNo.out nn')
                  have b12 := (Below.refl w11.heap.size w11).alloc (Nat.le_refl _) (.cells #[.int .i64 0, .int .i64 0, .slice none 0 0] 28)
                  have HBn := Hid.mk (below_seq hbu.out (below_seq b11 b12))
                  clear b11 b12 hrd hcu hbu
                  dsimp only
                  go_wp2_with fail
                  exact ⟨⟨u + 1, hlt, by first | rfl | (rw [hw1]), HBn⟩, by first | (simpa [intOf] using HM.out) | (rw [hw1]; simpa [intOf] using HM.out)⟩
                · obtain rfl : u = bs.length := by omega
                  have d1 : decide ((bs.length : Int) < (bs.length : Int)) = false := decide_eq_false (by omega)
                  go_wp2_with fail
                  go_ret
                  exact ⟨rfl, below_seq HBw.out hbu.out⟩
end Go.Proofs.YtbiponnchppndaaGreatDoor
