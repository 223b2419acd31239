import Derived.Test.YtdfjlmfnkhhnjaaGreatDoorQa
import Derived.Test.YtdfjlmfnkhhnjaaGreatDoorQk
import Derived.Test.YtdfjlmfnkhhnjaaGreatDoorGd
/- trailer. -/
namespace Go.Proofs.YtdfjlmfnkhhnjaaGreatDoor
set_option maxRecDepth 100000
set_option linter.unusedVariables false
set_option linter.unusedSimpArgs false
open Go.RowKit
open Go.Proofs.YtdfjlmfnkhhnjaaGreatDoorP (TB recd nn LEN key itoa_any)
open Go.Proofs.YtdfjlmfnkhhnjaaGreatDoorH (hv hv_b32 KIn hexL hex_any root_in rootOf TextsIn)
attribute [local go_sem ↓] Go.wp_at_zero Go.wp_at_succ ad9
theorem pwrite_any (k v : List UInt8) (h1 : key k = true) (h2 : LEN (nn k v) ≤ 1048576) (w : World) (hT : TB w) : Calls Tryz.prog 26 #[str k, str v] w fun e w' => e = .returned (.tuple #[str (recd k v), .int .i64 0]) ∧ Below w.heap.size w w' := by
  obtain ⟨e1, e2⟩ := wr_ok h1 h2
  obtain ⟨z1, z2⟩ := kv_len h2
  have := Go.Proofs.YtdfjlmfnkhhnjaaGreatDoorP.write_any ⟨k.toArray⟩ ⟨v.toArray⟩ (by show k.toArray.size ≤ _; rw [List.size_toArray]; omega) (by show v.toArray.size ≤ _; rw [List.size_toArray]; omega) w hT
  rw [show ((⟨k.toArray⟩ : ByteArray).data.toList) = k from rfl, show ((⟨v.toArray⟩ : ByteArray).data.toList) = v from rfl, e1, e2] at this
  exact this
theorem key_root : key sRoot = true := by decide
theorem key_length : key sLength = true := by decide
theorem nn_root (ts : List (List UInt8)) : LEN (nn sRoot (rtX ts)) ≤ 1048576 := (kv_ok key_root (by decide) (by rw [rtX_len]; decide)).2
theorem nn_length {n : Nat} (h : n ≤ 1099511627777) : LEN (nn sLength (dec (n : Int))) ≤ 1048576 := (kv_ok key_length (by decide) (Nat.le_trans (dec_len (by omega)) (by decide))).2
theorem root_so {base : Nat} {w : World} {v : Value} {ts : List (List UInt8)} (h : So base w v ts) (hK : KIn w) (hz : ∀ t ∈ ts, t.length ≤ 1048576) (hn : ts.length ≤ 1000) :
    Calls Tryz.prog 114 #[v] w fun e w' => e = .returned (.agg (hv (rootOf ts.length (txF ts))).toArray) ∧ Below w.heap.size w w' := by
  obtain ⟨a, cap, rfl, ht⟩ := h.slice
  refine root_in cap hK (fun k hk => ?_) (fun k hk => ?_) (by omega)
  · obtain ⟨b, off, e, _, hc⟩ := ht.get k ts[k] (List.getElem?_eq_getElem hk)
    refine ⟨b, off, e, ?_⟩
    rw [hc]
    unfold txF
    rw [List.getD_eq_getElem?_getD, List.getElem?_eq_getElem hk]
    rfl
  · unfold txF
    rw [List.getD_eq_getElem?_getD, List.getElem?_eq_getElem hk]
    have := hz ts[k] (List.getElem_mem hk)
    show (ts[k]).toArray.size < _
    rw [List.size_toArray]
    omega
structure TJ (w W : World) (v : Value) (ts : List (List UInt8)) : Prop where
  so : So w.heap.size W v ts
  bel : Below w.heap.size w W
theorem TJ.later {w W W' : World} {v : Value} {ts : List (List UInt8)} (h : TJ w W v ts) (hb : Below W.heap.size W W') : TJ w W' v ts := ⟨h.so.later hb, h.bel.trans (hb.mono h.bel.size)⟩
set_option maxHeartbeats 4000000 in
theorem trailer_any (L : List Vs) (n : Nat) (w : World) (a : Option Addr) (cap : Nat) (hL : VIn w a L) (hn : L.length ≤ 256) (hr : ∀ v ∈ L, rtE v = 0) (hm : n ≤ 1099511627777) (hT : TB w) (hK : KIn w) :
    Calls Tryz.prog 71 #[.slice a L.length cap, .int .i64 (n : Int)] w fun e w' => e = .returned (.tuple #[str (trl (L.map enc) n), .int .i64 0]) ∧ Below w.heap.size w w' := by
  have HJ0 : Hid (TJ w w (.slice none 0 0) []) := ⟨So.nil _ _ (Nat.le_refl _), Below.refl _ _⟩
  have HL := Hid.mk hL
  have HR := Hid.mk hr
  have HN := Hid.mk hn
  have HM := Hid.mk hm
  have HT := Hid.mk hT
  have HK := Hid.mk hK
  clear hL hr hT hK hm
  obtain ⟨TX, hTX⟩ : ∃ T, Hid (trl (L.map enc) n = T) := ⟨_, ⟨rfl⟩⟩
  rw [hTX.out]
  go_enter Tryz.func71, Tryz.ntmps71
  go_wp2_with fail
  go_loopw [6, 8, 9, 10, 16] (fun v _ _ _ i wr => ∃ k : Nat, i = .int .i64 (k : Int) ∧ k ≤ L.length ∧ Hid (TJ w wr v ((L.take k).map enc))) (fun _ _ _ _ i _ => L.length - (intOf i).toNat)
  case atStart => exact ⟨0, rfl, Nat.zero_le _, HJ0⟩
  case round =>
    clear HJ0
    obtain ⟨k, rfl, hk, HJ⟩ := hrel
    by_cases hlt : k < L.length
    · have d1 : decide ((k : Int) < (L.length : Int)) = true := decide_eq_true (by omega)
      have k0 : (0 : Int) ≤ (k : Int) := Int.natCast_nonneg k
      have k2 : (k : Int) < (L.length : Int) := by omega
      have hw1 : wrap64 ((k : Int) + 1) = ((k + 1 : Nat) : Int) := by unfold wrap64; omega
      obtain ⟨v, hv⟩ : ∃ v, L[k]? = some v := ⟨L[k], List.getElem?_eq_getElem hlt⟩
      have hrv := HR.out v (List.mem_of_getElem? hv)
      obtain ⟨b, off, ma, mc, hab, hbl, c0, c1, c2, c3, c4, hsl⟩ := (HL.out.later HJ.out.bel).get k v hv
      subst hab
      have HTk : Hid ((L.take (k + 1)).map enc = (L.take k).map enc ++ [enc v]) := ⟨by rw [List.take_add_one, hv]; simp⟩
      have bx := (Below.refl wr.heap.size wr).alloc (Nat.le_refl _) (.cells #[str v.key, .int .i64 v.seq, .bool v.mkr, str v.data, .slice ma v.l.length mc] 62)
      have hbx : (wr.alloc (.cells #[str v.key, .int .i64 v.seq, .bool v.mkr, str v.data, .slice ma v.l.length mc] 62)).heap[wr.heap.size]? = some (.cells #[str v.key, .int .i64 v.seq, .bool v.mkr, str v.data, .slice ma v.l.length mc] 62 (0, 0)) := heap_alloc_new _ _
      have HJ1 := Hid.mk (HJ.out.later bx)
      have hwr := write_some hrv (wr.alloc (.cells #[str v.key, .int .i64 v.seq, .bool v.mkr, str v.data, .slice ma v.l.length mc] 62)) ma v.l.length mc rfl (hsl.later bx).at'
      have HLk : Hid (((L.take k).map enc).length ≤ 1000) := ⟨by rw [List.length_map, List.length_take]; have := HN.out; omega⟩
      obtain ⟨tx, htx⟩ : ∃ t, t = enc v := ⟨_, rfl⟩
      rw [← htx] at hwr HTk
      generalize (L.take k).map enc = ts at *
      clear hv hsl bx hbx hrv htx
      obtain ⟨key, seq, mkr, data, l⟩ := v
      dsimp only at *
      go_wp2_with fail
      generalize wr.alloc (.cells #[str key, .int .i64 seq, .bool mkr, str data, .slice ma l.length mc] 62) = W2 at *
      generalize wr.heap.size = g2 at *
      with_reducible refine Calls.mono hwr ?_
      rintro e W3 ⟨rfl, b3⟩
      have hJ3 := HJ1.out.later b3
      clear hwr b3
      dsimp only
      go_wp2_with (refine app_s rfl _ _ rfl [tx] (by simp) rfl hJ3.so rfl (by have := HLk.out; omega) rfl rfl ?_; intro v' w' hs' hb')
      exact ⟨⟨k + 1, by first | (rw [hw1]; done) | rfl | go_num, hlt, ⟨by rw [HTk.out]; exact ⟨hs', hJ3.bel.trans hb'⟩⟩⟩, by first | (rw [hw1]; exact Nat.sub_lt_sub_left hlt (Nat.lt_succ_self k)) | (simp [intOf]; omega)⟩
    · obtain rfl : k = L.length := Nat.le_antisymm hk (Nat.le_of_not_lt hlt)
      have d1 : decide ((L.length : Int) < (L.length : Int)) = false := decide_eq_false (fun q => Int.lt_irrefl _ q)
      have hJ := HJ.out
      rw [List.take_length] at hJ
      have hro := root_so hJ.so (HK.out.seq hJ.bel) (fun t ht => by
        obtain ⟨v, hv, rfl⟩ := List.mem_map.1 ht
        exact enc_le (HR.out v hv)) (by rw [List.length_map]; have := HN.out; omega)
      have HB := Hid.mk hJ.bel
      obtain ⟨ts, hts⟩ : ∃ ts, ts = L.map enc := ⟨_, rfl⟩
      rw [← hts] at hro hTX
      have h1 : hexL (rootOf ts.length (txF ts)) = rtX ts := rfl
      have hw1 : ∀ w, TB w → Calls Tryz.prog 26 #[.string ⟨#[114, 111, 111, 116]⟩, str (rtX ts)] w fun e w' => e = .returned (.tuple #[str (recd sRoot (rtX ts)), .int .i64 0]) ∧ Below w.heap.size w w' := fun w h => pwrite_any sRoot (rtX ts) key_root (nn_root ts) w h
      have hw2 : ∀ w, TB w → Calls Tryz.prog 26 #[.string ⟨#[108, 101, 110, 103, 116, 104]⟩, str (dec (n : Int))] w fun e w' => e = .returned (.tuple #[str (recd sLength (dec (n : Int))), .int .i64 0]) ∧ Below w.heap.size w w' := fun w h => pwrite_any sLength (dec (n : Int)) key_length (nn_length HM.out) w h
      have hx := fun w => hex_any (rootOf ts.length (txF ts)) w
      rw [← hv_b32] at hx
      have hadd : ∀ w, (Go.Proofs.YtdfjlmfnkhhnjaaGreatDoor.adS (str (recd sRoot (rtX ts))) (str (recd sLength (dec (n : Int))))).run Tryz.prog w = .ok (str (recd sRoot (rtX ts) ++ recd sLength (dec (n : Int)))) w := fun w => run_ad _ _ (by
        rw [Go.Proofs.YtdfjlmfnkhhnjaaGreatDoorP.recd_length, Go.Proofs.YtdfjlmfnkhhnjaaGreatDoorP.recd_length]
        have := nn_root ts
        have := nn_length HM.out
        omega) w
      have HE : Hid (recd sRoot (rtX ts) ++ recd sLength (dec (n : Int)) = TX) := ⟨hTX.out⟩
      rw [h1] at hx
      generalize rootOf ts.length (txF ts) = rt at *
      generalize rtX ts = rx at *
      clear hJ HJ hts hlt hk h1 hTX
      go_wp2_with fail
      with_reducible refine Calls.mono hro ?_
      rintro e w2 ⟨rfl, b2⟩
      dsimp only
      go_wp2_with fail
      with_reducible refine Calls.mono (hx _) ?_
      rintro e w3 ⟨rfl, b3⟩
      have B3 := below_seq (below_seq HB.out b2) b3
      dsimp only
      go_wp2_with fail
      with_reducible refine Calls.mono (hw1 _ (HT.out.below B3)) ?_
      rintro e w4 ⟨rfl, b4⟩
      have B4 := below_seq B3 b4
      dsimp only
      have hit : Calls Tryz.prog 57 #[.int .i64 (n : Int)] w4 fun e w' => e = .returned (str (dec (n : Int))) ∧ Below w4.heap.size w4 w' := (itoa_any n (by have := HM.out; omega) w4 (HT.out.below B4)).mono fun e w' h => ⟨h.1.trans rfl, h.2⟩
      go_wp2_with fail
      with_reducible refine Calls.mono hit ?_
      rintro e w5 ⟨rfl, b5⟩
      have B5 := below_seq B4 b5
      dsimp only
      have hw3 := hw2 _ (HT.out.below B5)
      go_wp2_with fail
      with_reducible refine Calls.mono hw3 ?_
      rintro e w6 ⟨rfl, b6⟩
      have B6 := below_seq B5 b6
      dsimp only
      generalize recd sRoot rx = t1 at *
      generalize recd sLength (dec (n : Int)) = t2 at *
      clear hw1 hw2 hw3 hit hx hro
      go_wp2_with fail
      go_ret2
      exact ⟨by obtain ⟨hE⟩ := HE; rw [← hE]; rfl, B6⟩
end Go.Proofs.YtdfjlmfnkhhnjaaGreatDoor
/- Pack and Encode. -/
namespace Go.Proofs.YtdfjlmfnkhhnjaaGreatDoor
set_option maxRecDepth 100000
set_option linter.unusedVariables false
set_option linter.unusedSimpArgs false
open Go.RowKit
open Go.Proofs.YtdfjlmfnkhhnjaaGreatDoorP (TB)
open Go.Proofs.YtdfjlmfnkhhnjaaGreatDoorH (KIn)
attribute [local go_sem ↓] Go.wp_at_zero Go.wp_at_succ ad9
noncomputable def pkX (L : List Vs) (next since : Int) : List UInt8 := by
  classical exact if OfR L next since then arc L next since else []
noncomputable def pkC (L : List Vs) (next since : Int) : Int := by
  classical exact if OfR L next since then 0 else 1
theorem pk_yes {L : List Vs} {next since : Int} (h : OfR L next since) : pkX L next since = arc L next since ∧ pkC L next since = 0 := by unfold pkX pkC; rw [if_pos h, if_pos h]; exact ⟨rfl, rfl⟩
theorem pk_no {L : List Vs} {next since : Int} (h : ¬ OfR L next since) : pkX L next since = [] ∧ pkC L next since = 1 := by unfold pkX pkC; rw [if_neg h, if_neg h]; exact ⟨rfl, rfl⟩
theorem pk_len (L : List Vs) (next since : Int) : (pkX L next since).length ≤ 6010000000 := by
  by_cases h : OfR L next since
  · rw [(pk_yes h).1]
    unfold arc trl
    rw [List.length_append, List.length_append, Go.Proofs.YtdfjlmfnkhhnjaaGreatDoorP.recd_length, Go.Proofs.YtdfjlmfnkhhnjaaGreatDoorP.recd_length]
    have h1 := bod_le h
    have h2 := nn_root (L.map enc)
    have h3 := nn_length (n := (bod L next since).length) (by omega)
    omega
  · rw [(pk_no h).1]; exact Nat.zero_le _
set_option maxHeartbeats 4000000 in
theorem pack_any (L : List Vs) (next since : Int) (w : World) (a : Option Addr) (cap : Nat) (hL : VIn w a L) (hl : L.length ≤ 4611686018427387904) (hz : ∀ v ∈ L, v.l.length ≤ 9223372036854775806) (hT : TB w) (hK : KIn w) :
    Calls Tryz.prog 36 #[.agg #[.int .i64 next, .slice a L.length cap], .int .i64 since] w fun e w' => e = .returned (.tuple #[str (pkX L next since), .int .i64 (pkC L next since)]) ∧ Below w.heap.size w w' := by
  have b0 := (Below.refl w.heap.size w).alloc (Nat.le_refl _) (.cells #[.int .i64 next, .slice a L.length cap] 24)
  have z0 : (w.alloc (.cells #[.int .i64 next, .slice a L.length cap] 24)).heap[w.heap.size]? = some (.cells #[.int .i64 next, .slice a L.length cap] 24 (0, 0)) := heap_alloc_new _ _
  have hof := of_any L next since (w.alloc (.cells #[.int .i64 next, .slice a L.length cap] 24)) a L.length cap rfl (hL.later b0) (hK.seq b0) hl hz
  have HL := Hid.mk hL
  have HT := Hid.mk hT
  have HK := Hid.mk hK
  have HB := Hid.mk b0
  have HZ := Hid.mk z0
  have HPL := Hid.mk (pk_len L next since)
  have p0 : (w.alloc (.cells #[.int .i64 next, .slice a L.length cap] 24)).cell? ⟨w.heap.size, 0, none⟩ = some (.int .i64 next) := by rw [cell_of_row _ _ _ _ _ _ z0]; rfl
  have p1 : (w.alloc (.cells #[.int .i64 next, .slice a L.length cap] 24)).cell? ⟨w.heap.size, 1, none⟩ = some (.slice a L.length cap) := by rw [cell_of_row _ _ _ _ _ _ z0]; rfl
  clear hL hT hK b0 z0 hl hz
  go_enter Tryz.func36, Tryz.ntmps36
  go_wp2_with fail
  generalize w.alloc (.cells #[.int .i64 next, .slice a L.length cap] 24) = W1 at *
  with_reducible refine Calls.mono hof ?_
  rintro e w2 ⟨h2, b2⟩
  have hB2 := below_seq HB.out b2
  have hZ2 := (b2.block _ (lt_of_block HZ.out)).trans HZ.out
  clear hof p0 p1
  rcases h2 with ⟨R, ra, rc, hOf, rfl, hR, hFi⟩ | ⟨hOf, rfl⟩
  rotate_left
  · obtain ⟨e1, e2⟩ := pk_no hOf
    have HE := Hid.mk (And.intro e1 e2)
    have b3 := (Below.refl w2.heap.size w2).alloc (Nat.le_refl _) (.cells #[.int .i64 0, .int .i64 0, .slice none 0 0] 28)
    have HB3 := Hid.mk (below_seq hB2 b3)
    clear hOf e1 e2 b3 hB2 hZ2 b2
    dsimp only
    go_wp2_with fail
    go_ret2
    exact ⟨by rw [HE.out.1, HE.out.2]; rfl, HB3.out⟩
  obtain ⟨e1, e2⟩ := pk_yes hOf
  have hRl : R.length = (ofI L).length := by rw [← hR, List.length_map]
  have b3 := (Below.refl w2.heap.size w2).alloc (Nat.le_refl _) (.cells #[.int .i64 since, .int .i64 next, .slice ra R.length rc] 28)
  have z3 := Bm3.new w2 since next (.slice ra R.length rc)
  have hi := (hFi.it).later b3
  rw [hR] at hi
  have hB3 := below_seq hB2 b3
  have hw : Calls Tryz.prog 8 #[.agg #[.int .i64 since, .int .i64 next, .slice ra R.length rc]] (w2.alloc (.cells #[.int .i64 since, .int .i64 next, .slice ra R.length rc] 28)) (WrP ⟨since, next, ofI L⟩ (w2.alloc (.cells #[.int .i64 since, .int .i64 next, .slice ra R.length rc] 28))) := by
    rw [hRl]
    refine mWrite_any ⟨since, next, ofI L⟩ _ ra rc (by rw [hRl] at hi; exact hi) (fun x hx => ?_) (by have := hOf.2.2.len; simp only at this ⊢; omega) (HT.out.below (by rw [← hRl]; exact hB3))
    obtain ⟨v, hv, rfl⟩ := List.mem_map.1 hx
    have : v.l.length ≤ 8 := (rt_of (hOf.2.1 v hv)).n
    show v.l.length ≤ _
    omega
  have HE := Hid.mk (And.intro e1 e2)
  have HOf := Hid.mk hOf
  have HZ3 := Hid.mk ((b3.block _ (lt_of_block hZ2)).trans hZ2)
  obtain ⟨q0, q1, q2⟩ := z3.cells
  have HB3 := Hid.mk hB3
  clear e1 e2 hOf hR hFi hRl hi b3 z3 hB3 hZ2 hB2 b2
  dsimp only
  go_wp2_with fail
  generalize w2.alloc (.cells #[.int .i64 since, .int .i64 next, .slice ra R.length rc] 28) = W3 at *
  with_reducible refine Calls.mono hw ?_
  rintro e w4 ⟨h4, b4⟩
  clear hw q0 q1 q2
  rcases h4 with ⟨_, rfl⟩ | ⟨hno, _⟩
  rotate_left
  · exact absurd HOf.out.2.2 hno
  have HB4 := Hid.mk (below_seq HB3.out b4)
  have z4 := (b4.block _ (lt_of_block HZ3.out)).trans HZ3.out
  have p1 : w4.cell? ⟨w.heap.size, 1, none⟩ = some (.slice a L.length cap) := by rw [cell_of_row _ _ _ _ _ _ z4]; rfl
  have HZ4 := Hid.mk z4
  have hco := contents_any L w4 a cap (HL.out.later HB4.out) HOf.out.1 HOf.out.dat
  have hbl := bod_le HOf.out
  have hadd : ∀ w, (Go.Proofs.YtdfjlmfnkhhnjaaGreatDoor.adS (str (mtx ⟨since, next, ofI L⟩)) (str (con L))).run Tryz.prog w = .ok (str (bod L next since)) w := fun w => run_ad _ _ (by
    have : (bod L next since).length = (mtx ⟨since, next, ofI L⟩).length + (con L).length := by unfold bod; rw [List.length_append]
    omega) w
  have hadd2 : ∀ w, (Go.Proofs.YtdfjlmfnkhhnjaaGreatDoor.adS (str (bod L next since)) (str (trl (L.map enc) (bod L next since).length))).run Tryz.prog w = .ok (str (pkX L next since)) w := fun w => by
    rw [HE.out.1]
    have h9 := HPL.out
    rw [HE.out.1] at h9
    exact run_ad _ _ (by
      unfold arc at h9
      rw [List.length_append] at h9
      omega) w
  have htr := fun w h1 h2 h3 => trailer_any L (bod L next since).length w a cap h1 HOf.out.1 HOf.out.2.1 (by omega) h2 h3
  have HBL : Hid ((bod L next since).length ≤ 6000278528) := ⟨hbl⟩
  generalize bod L next since = bd at *
  generalize trl (L.map enc) bd.length = tl at *
  generalize mtx ⟨since, next, ofI L⟩ = mt at *
  generalize con L = cn at *
  clear z4 b4 hbl
  dsimp only
  go_wp2_with fail
  with_reducible refine Calls.mono hco ?_
  rintro e w5 ⟨rfl, b5⟩
  have HB5 := Hid.mk (below_seq HB4.out b5)
  have z5 := (b5.block _ (lt_of_block HZ4.out)).trans HZ4.out
  have p1 : w5.cell? ⟨w.heap.size, 1, none⟩ = some (.slice a L.length cap) := by rw [cell_of_row _ _ _ _ _ _ z5]; rfl
  have hl5 := htr w5 (HL.out.later HB5.out) (HT.out.below HB5.out) (HK.out.seq HB5.out)
  clear hco z5 b5 htr
  dsimp only
  go_wp2_with fail
  with_reducible refine Calls.mono hl5 ?_
  rintro e w6 ⟨rfl, b6⟩
  have HB6 := Hid.mk (below_seq HB5.out b6)
  clear hl5 b6
  dsimp only
  go_wp2_with fail
  go_ret2
  exact ⟨by rw [HE.out.2]; rfl, HB6.out⟩
end Go.Proofs.YtdfjlmfnkhhnjaaGreatDoor
