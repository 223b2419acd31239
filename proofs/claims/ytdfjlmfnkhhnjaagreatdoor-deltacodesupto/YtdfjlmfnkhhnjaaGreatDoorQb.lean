import Derived.Test.YtdfjlmfnkhhnjaaGreatDoorGq
import Derived.Test.YtdfjlmfnkhhnjaaGreatDoorQk
import Derived.Test.YtdfjlmfnkhhnjaaGreatDoorGd
import Derived.Test.YtdfjlmfnkhhnjaaGreatDoorZa
import Derived.Deep.QuietTactic
set_option maxRecDepth 100000
set_option linter.unusedVariables false
set_option linter.unusedSimpArgs false
namespace Go.Proofs.YtdfjlmfnkhhnjaaGreatDoor
section
open Go.RowKit
open Go.Proofs.YtdfjlmfnkhhnjaaGreatDoorP (TB recd nn LEN key itoa_any)
open Go.Proofs.YtdfjlmfnkhhnjaaGreatDoorH (hv hv_b32 KIn hexL hex_any root_in rootOf TextsIn)
attribute [local go_sem ↓] Go.wp_at_zero Go.wp_at_succ ad9
theorem pwrite_any (k v : List UInt8) (h1 : key k = true) (h2 : LEN (nn k v) ≤ 1048576) (w : World) (hT : TB w) : Calls Tryz.prog 26 #[str k,str v] w fun e w' => e = .returned (.tuple #[str (recd k v),.int .i64 0]) ∧ Below w.heap.size w w':=by
 obtain ⟨e1,e2⟩:=wr_ok h1 h2
 obtain ⟨z1,z2⟩:=kv_len h2
 have:=Go.Proofs.YtdfjlmfnkhhnjaaGreatDoorP.write_any ⟨k.toArray⟩ ⟨v.toArray⟩ (by show k.toArray.size ≤ _; rw [List.size_toArray]; omega) (by show v.toArray.size ≤ _; rw [List.size_toArray]; omega) w hT
 rw [show ((⟨k.toArray⟩ : ByteArray).data.toList) = k from rfl,show ((⟨v.toArray⟩ : ByteArray).data.toList) = v from rfl,e1,e2] at this
 exact this
theorem key_root : key sRoot = true:=by decide
theorem key_length : key sLength = true:=by decide
theorem nn_root (ts : List (List UInt8)) : LEN (nn sRoot (rtX ts)) ≤ 1048576:=(kv_ok key_root (by decide) (by rw [rtX_len]; decide)).2
theorem nn_length {n : Nat} (h : n ≤ 1099511627777) : LEN (nn sLength (dec (n : Int))) ≤ 1048576:=(kv_ok key_length (by decide) (Nat.le_trans (dec_len (by omega)) (by decide))).2
theorem root_so {base : Nat} {w : World} {v : Value} {ts : List (List UInt8)} (h : So base w v ts) (hK : KIn w) (hz : ∀ t ∈ ts,t.length ≤ 1048576) (hn : ts.length ≤ 1000) :
  Calls Tryz.prog 114 #[v] w fun e w' => e = .returned (.agg (hv (rootOf ts.length (txF ts))).toArray) ∧ Below w.heap.size w w':=by
 obtain ⟨a,cap,rfl,ht⟩:=h.slice
 refine root_in cap hK (fun k hk => ?_) (fun k hk => ?_) (by omega)
 ·obtain ⟨b,off,e,_,hc⟩:=ht.get k ts[k] (List.getElem?_eq_getElem hk)
  refine ⟨b,off,e,?_⟩
  rw [hc]
  unfold txF
  rw [List.getD_eq_getElem?_getD,List.getElem?_eq_getElem hk]
  rfl
 ·unfold txF
  rw [List.getD_eq_getElem?_getD,List.getElem?_eq_getElem hk]
  have:=hz ts[k] (List.getElem_mem hk)
  show (ts[k]).toArray.size < _
  rw [List.size_toArray]
  omega
structure TJ (w W : World) (v : Value) (ts : List (List UInt8)) : Prop where
 so : So w.heap.size W v ts
 bel : Below w.heap.size w W
theorem TJ.later {w W W' : World} {v : Value} {ts : List (List UInt8)} (h : TJ w W v ts) (hb : Below W.heap.size W W') : TJ w W' v ts:=⟨h.so.later hb,h.bel.trans (hb.mono h.bel.size)⟩
set_option maxHeartbeats 4000000 in
theorem trailer_any (L : List Vs) (n : Nat) (w : World) (a : Option Addr) (cap : Nat) (hL : VIn w a L) (hn : L.length ≤ 256) (hr : ∀ v ∈ L,rtE v = 0) (hm : n ≤ 1099511627777) (hT : TB w) (hK : KIn w) :
  Calls Tryz.prog 71 #[.slice a L.length cap,.int .i64 (n : Int)] w fun e w' => e = .returned (.tuple #[str (trl (L.map enc) n),.int .i64 0]) ∧ Below w.heap.size w w':=by
 have HJ0 : Hid (TJ w w (.slice none 0 0) []):=⟨So.nil _ _ (Nat.le_refl _),Below.refl _ _⟩
 have HL:=Hid.mk hL
 have HR:=Hid.mk hr
 have HN:=Hid.mk hn
 have HM:=Hid.mk hm
 have HT:=Hid.mk hT
 have HK:=Hid.mk hK
 clear hL hr hT hK hm
 obtain ⟨TX,hTX⟩ : ∃ T,Hid (trl (L.map enc) n = T):=⟨_,⟨rfl⟩⟩
 rw [hTX.out]
 go_enter Tryz.func71,Tryz.ntmps71
 go_wp2_with fail
 go_loopw [6,8,9,10,16] (fun v _ _ _ i wr => ∃ k : Nat,i = .int .i64 (k : Int) ∧ k ≤ L.length ∧ Hid (TJ w wr v ((L.take k).map enc))) (fun _ _ _ _ i _ => L.length - (intOf i).toNat)
 case atStart => exact ⟨0,rfl,Nat.zero_le _,HJ0⟩
 case round =>
  clear HJ0
  obtain ⟨k,rfl,hk,HJ⟩:=hrel
  by_cases hlt : k < L.length
  ·have d1 : decide ((k : Int) < (L.length : Int)) = true:=decide_eq_true (by omega)
   have k0 : (0 : Int) ≤ (k : Int):=Int.natCast_nonneg k
   have k2 : (k : Int) < (L.length : Int):=by omega
   have hw1 : wrap64 ((k : Int) + 1) = ((k + 1 : Nat) : Int):=by unfold wrap64; omega
   obtain ⟨v,hv⟩ : ∃ v,L[k]? = some v:=⟨L[k],List.getElem?_eq_getElem hlt⟩
   have hrv:=HR.out v (List.mem_of_getElem? hv)
   obtain ⟨b,off,ma,mc,hab,hbl,c0,c1,c2,c3,c4,hsl⟩:=(HL.out.later HJ.out.bel).get k v hv
   subst hab
   have HTk : Hid ((L.take (k + 1)).map enc = (L.take k).map enc ++ [enc v]):=⟨by rw [List.take_add_one,hv]; simp⟩
   have bx:=(Below.refl wr.heap.size wr).alloc (Nat.le_refl _) (.cells #[str v.key,.int .i64 v.seq,.bool v.mkr,str v.data,.slice ma v.l.length mc] 62)
   have hbx : (wr.alloc (.cells #[str v.key,.int .i64 v.seq,.bool v.mkr,str v.data,.slice ma v.l.length mc] 62)).heap[wr.heap.size]? = some (.cells #[str v.key,.int .i64 v.seq,.bool v.mkr,str v.data,.slice ma v.l.length mc] 62 (0,0)):=heap_alloc_new _ _
   have HJ1:=Hid.mk (HJ.out.later bx)
   have hwr:=write_some hrv (wr.alloc (.cells #[str v.key,.int .i64 v.seq,.bool v.mkr,str v.data,.slice ma v.l.length mc] 62)) ma v.l.length mc rfl (hsl.later bx).at'
   have HLk : Hid (((L.take k).map enc).length ≤ 1000):=⟨by rw [List.length_map,List.length_take]; have:=HN.out; omega⟩
   obtain ⟨tx,htx⟩ : ∃ t,t = enc v:=⟨_,rfl⟩
   rw [← htx] at hwr HTk
   generalize (L.take k).map enc = ts at *
   clear hv hsl bx hbx hrv htx
   obtain ⟨key,seq,mkr,data,l⟩:=v
   dsimp only at *
   go_wp2_with fail
   generalize wr.alloc (.cells #[str key,.int .i64 seq,.bool mkr,str data,.slice ma l.length mc] 62) = W2 at *
   generalize wr.heap.size = g2 at *
   with_reducible refine Calls.mono hwr ?_
   rintro e W3 ⟨rfl,b3⟩
   have hJ3:=HJ1.out.later b3
   clear hwr b3
   dsimp only
   go_wp2_with (refine app_s rfl _ _ rfl [tx] (by simp) rfl hJ3.so rfl (by have:=HLk.out; omega) rfl rfl ?_; intro v' w' hs' hb')
   exact ⟨⟨k + 1,by first | (rw [hw1]; done) | rfl | go_num,hlt,⟨by rw [HTk.out]; exact ⟨hs',hJ3.bel.trans hb'⟩⟩⟩,by first | (rw [hw1]; exact Nat.sub_lt_sub_left hlt (Nat.lt_succ_self k)) | (simp [intOf]; omega)⟩
  ·obtain rfl : k = L.length:=Nat.le_antisymm hk (Nat.le_of_not_lt hlt)
   have d1 : decide ((L.length : Int) < (L.length : Int)) = false:=decide_eq_false (fun q => Int.lt_irrefl _ q)
   have hJ:=HJ.out
   rw [List.take_length] at hJ
   have hro:=root_so hJ.so (HK.out.seq hJ.bel) (fun t ht => by
    obtain ⟨v,hv,rfl⟩:=List.mem_map.1 ht
    exact enc_le (HR.out v hv)) (by rw [List.length_map]; have:=HN.out; omega)
   have HB:=Hid.mk hJ.bel
   obtain ⟨ts,hts⟩ : ∃ ts,ts = L.map enc:=⟨_,rfl⟩
   rw [← hts] at hro hTX
   have h1 : hexL (rootOf ts.length (txF ts)) = rtX ts:=rfl
   have hw1 : ∀ w,TB w → Calls Tryz.prog 26 #[.string ⟨#[114,111,111,116]⟩,str (rtX ts)] w fun e w' => e = .returned (.tuple #[str (recd sRoot (rtX ts)),.int .i64 0]) ∧ Below w.heap.size w w':=fun w h => pwrite_any sRoot (rtX ts) key_root (nn_root ts) w h
   have hw2 : ∀ w,TB w → Calls Tryz.prog 26 #[.string ⟨#[108,101,110,103,116,104]⟩,str (dec (n : Int))] w fun e w' => e = .returned (.tuple #[str (recd sLength (dec (n : Int))),.int .i64 0]) ∧ Below w.heap.size w w':=fun w h => pwrite_any sLength (dec (n : Int)) key_length (nn_length HM.out) w h
   have hx:=fun w => hex_any (rootOf ts.length (txF ts)) w
   rw [← hv_b32] at hx
   have hadd : ∀ w,(Go.Proofs.YtdfjlmfnkhhnjaaGreatDoor.adS (str (recd sRoot (rtX ts))) (str (recd sLength (dec (n : Int))))).run Tryz.prog w = .ok (str (recd sRoot (rtX ts) ++ recd sLength (dec (n : Int)))) w:=fun w => run_ad _ _ (by
    rw [Go.Proofs.YtdfjlmfnkhhnjaaGreatDoorP.recd_length,Go.Proofs.YtdfjlmfnkhhnjaaGreatDoorP.recd_length]
    have:=nn_root ts
    have:=nn_length HM.out
    omega) w
   have HE : Hid (recd sRoot (rtX ts) ++ recd sLength (dec (n : Int)) = TX):=⟨hTX.out⟩
   rw [h1] at hx
   generalize rootOf ts.length (txF ts) = rt at *
   generalize rtX ts = rx at *
   clear hJ HJ hts hlt hk h1 hTX
   go_wp2_with fail
   with_reducible refine Calls.mono hro ?_
   rintro e w2 ⟨rfl,b2⟩
   dsimp only
   go_wp2_with fail
   with_reducible refine Calls.mono (hx _) ?_
   rintro e w3 ⟨rfl,b3⟩
   have B3:=below_seq (below_seq HB.out b2) b3
   dsimp only
   go_wp2_with fail
   with_reducible refine Calls.mono (hw1 _ (HT.out.below B3)) ?_
   rintro e w4 ⟨rfl,b4⟩
   have B4:=below_seq B3 b4
   dsimp only
   have hit : Calls Tryz.prog 57 #[.int .i64 (n : Int)] w4 fun e w' => e = .returned (str (dec (n : Int))) ∧ Below w4.heap.size w4 w':=(itoa_any n (by have:=HM.out; omega) w4 (HT.out.below B4)).mono fun e w' h => ⟨h.1.trans rfl,h.2⟩
   go_wp2_with fail
   with_reducible refine Calls.mono hit ?_
   rintro e w5 ⟨rfl,b5⟩
   have B5:=below_seq B4 b5
   dsimp only
   have hw3:=hw2 _ (HT.out.below B5)
   go_wp2_with fail
   with_reducible refine Calls.mono hw3 ?_
   rintro e w6 ⟨rfl,b6⟩
   have B6:=below_seq B5 b6
   dsimp only
   generalize recd sRoot rx = t1 at *
   generalize recd sLength (dec (n : Int)) = t2 at *
   clear hw1 hw2 hw3 hit hx hro
   go_wp2_with fail
   go_ret2
   exact ⟨by obtain ⟨hE⟩:=HE; rw [← hE]; rfl,B6⟩
end
section
open Go.RowKit
open Go.Proofs.YtdfjlmfnkhhnjaaGreatDoorP (TB)
open Go.Proofs.YtdfjlmfnkhhnjaaGreatDoorH (KIn)
attribute [local go_sem ↓] Go.wp_at_zero Go.wp_at_succ ad9
noncomputable def pkX (L : List Vs) (next since : Int) : List UInt8:=by
 classical exact if OfR L next since then arc L next since else []
noncomputable def pkC (L : List Vs) (next since : Int) : Int:=by
 classical exact if OfR L next since then 0 else 1
theorem pk_yes {L : List Vs} {next since : Int} (h : OfR L next since) : pkX L next since = arc L next since ∧ pkC L next since = 0:=by unfold pkX pkC; rw [if_pos h,if_pos h]; exact ⟨rfl,rfl⟩
theorem pk_no {L : List Vs} {next since : Int} (h : ¬ OfR L next since) : pkX L next since = [] ∧ pkC L next since = 1:=by unfold pkX pkC; rw [if_neg h,if_neg h]; exact ⟨rfl,rfl⟩
theorem pk_len (L : List Vs) (next since : Int) : (pkX L next since).length ≤ 6010000000:=by
 by_cases h : OfR L next since
 ·rw [(pk_yes h).1]
  unfold arc trl
  rw [List.length_append,List.length_append,Go.Proofs.YtdfjlmfnkhhnjaaGreatDoorP.recd_length,Go.Proofs.YtdfjlmfnkhhnjaaGreatDoorP.recd_length]
  have h1:=bod_le h
  have h2:=nn_root (L.map enc)
  have h3:=nn_length (n:=(bod L next since).length) (by omega)
  omega
 ·rw [(pk_no h).1]; exact Nat.zero_le _
set_option maxHeartbeats 4000000 in
theorem pack_any (L : List Vs) (next since : Int) (w : World) (a : Option Addr) (cap : Nat) (hL : VIn w a L) (hl : L.length ≤ 4611686018427387904) (hz : ∀ v ∈ L,v.l.length ≤ 9223372036854775806) (hT : TB w) (hK : KIn w) :
  Calls Tryz.prog 36 #[.agg #[.int .i64 next,.slice a L.length cap],.int .i64 since] w fun e w' => e = .returned (.tuple #[str (pkX L next since),.int .i64 (pkC L next since)]) ∧ Below w.heap.size w w':=by
 have b0:=(Below.refl w.heap.size w).alloc (Nat.le_refl _) (.cells #[.int .i64 next,.slice a L.length cap] 24)
 have z0 : (w.alloc (.cells #[.int .i64 next,.slice a L.length cap] 24)).heap[w.heap.size]? = some (.cells #[.int .i64 next,.slice a L.length cap] 24 (0,0)):=heap_alloc_new _ _
 have hof:=of_any L next since (w.alloc (.cells #[.int .i64 next,.slice a L.length cap] 24)) a L.length cap rfl (hL.later b0) (hK.seq b0) hl hz
 have HL:=Hid.mk hL
 have HT:=Hid.mk hT
 have HK:=Hid.mk hK
 have HB:=Hid.mk b0
 have HZ:=Hid.mk z0
 have HPL:=Hid.mk (pk_len L next since)
 have p0 : (w.alloc (.cells #[.int .i64 next,.slice a L.length cap] 24)).cell? ⟨w.heap.size,0,none⟩ = some (.int .i64 next):=by rw [cell_of_row _ _ _ _ _ _ z0]; rfl
 have p1 : (w.alloc (.cells #[.int .i64 next,.slice a L.length cap] 24)).cell? ⟨w.heap.size,1,none⟩ = some (.slice a L.length cap):=by rw [cell_of_row _ _ _ _ _ _ z0]; rfl
 clear hL hT hK b0 z0 hl hz
 go_enter Tryz.func36,Tryz.ntmps36
 go_wp2_with fail
 generalize w.alloc (.cells #[.int .i64 next,.slice a L.length cap] 24) = W1 at *
 with_reducible refine Calls.mono hof ?_
 rintro e w2 ⟨h2,b2⟩
 have hB2:=below_seq HB.out b2
 have hZ2:=(b2.block _ (lt_of_block HZ.out)).trans HZ.out
 clear hof p0 p1
 rcases h2 with ⟨R,ra,rc,hOf,rfl,hR,hFi⟩ | ⟨hOf,rfl⟩
 rotate_left
 ·obtain ⟨e1,e2⟩:=pk_no hOf
  have HE:=Hid.mk (And.intro e1 e2)
  have b3:=(Below.refl w2.heap.size w2).alloc (Nat.le_refl _) (.cells #[.int .i64 0,.int .i64 0,.slice none 0 0] 28)
  have HB3:=Hid.mk (below_seq hB2 b3)
  clear hOf e1 e2 b3 hB2 hZ2 b2
  dsimp only
  go_wp2_with fail
  go_ret2
  exact ⟨by rw [HE.out.1,HE.out.2]; rfl,HB3.out⟩
 obtain ⟨e1,e2⟩:=pk_yes hOf
 have hRl : R.length = (ofI L).length:=by rw [← hR,List.length_map]
 have b3:=(Below.refl w2.heap.size w2).alloc (Nat.le_refl _) (.cells #[.int .i64 since,.int .i64 next,.slice ra R.length rc] 28)
 have z3:=Bm3.new w2 since next (.slice ra R.length rc)
 have hi:=(hFi.it).later b3
 rw [hR] at hi
 have hB3:=below_seq hB2 b3
 have hw : Calls Tryz.prog 8 #[.agg #[.int .i64 since,.int .i64 next,.slice ra R.length rc]] (w2.alloc (.cells #[.int .i64 since,.int .i64 next,.slice ra R.length rc] 28)) (WrP ⟨since,next,ofI L⟩ (w2.alloc (.cells #[.int .i64 since,.int .i64 next,.slice ra R.length rc] 28))):=by
  rw [hRl]
  refine mWrite_any ⟨since,next,ofI L⟩ _ ra rc (by rw [hRl] at hi; exact hi) (fun x hx => ?_) (by have:=hOf.2.2.len; simp only at this ⊢; omega) (HT.out.below (by rw [← hRl]; exact hB3))
  obtain ⟨v,hv,rfl⟩:=List.mem_map.1 hx
  have : v.l.length ≤ 8:=(rt_of (hOf.2.1 v hv)).n
  show v.l.length ≤ _
  omega
 have HE:=Hid.mk (And.intro e1 e2)
 have HOf:=Hid.mk hOf
 have HZ3:=Hid.mk ((b3.block _ (lt_of_block hZ2)).trans hZ2)
 obtain ⟨q0,q1,q2⟩:=z3.cells
 have HB3:=Hid.mk hB3
 clear e1 e2 hOf hR hFi hRl hi b3 z3 hB3 hZ2 hB2 b2
 dsimp only
 go_wp2_with fail
 generalize w2.alloc (.cells #[.int .i64 since,.int .i64 next,.slice ra R.length rc] 28) = W3 at *
 with_reducible refine Calls.mono hw ?_
 rintro e w4 ⟨h4,b4⟩
 clear hw q0 q1 q2
 rcases h4 with ⟨_,rfl⟩ | ⟨hno,_⟩
 rotate_left
 ·exact absurd HOf.out.2.2 hno
 have HB4:=Hid.mk (below_seq HB3.out b4)
 have z4:=(b4.block _ (lt_of_block HZ3.out)).trans HZ3.out
 have p1 : w4.cell? ⟨w.heap.size,1,none⟩ = some (.slice a L.length cap):=by rw [cell_of_row _ _ _ _ _ _ z4]; rfl
 have HZ4:=Hid.mk z4
 have hco:=contents_any L w4 a cap (HL.out.later HB4.out) HOf.out.1 HOf.out.dat
 have hbl:=bod_le HOf.out
 have hadd : ∀ w,(Go.Proofs.YtdfjlmfnkhhnjaaGreatDoor.adS (str (mtx ⟨since,next,ofI L⟩)) (str (con L))).run Tryz.prog w = .ok (str (bod L next since)) w:=fun w => run_ad _ _ (by
  have : (bod L next since).length = (mtx ⟨since,next,ofI L⟩).length + (con L).length:=by unfold bod; rw [List.length_append]
  omega) w
 have hadd2 : ∀ w,(Go.Proofs.YtdfjlmfnkhhnjaaGreatDoor.adS (str (bod L next since)) (str (trl (L.map enc) (bod L next since).length))).run Tryz.prog w = .ok (str (pkX L next since)) w:=fun w => by
  rw [HE.out.1]
  have h9:=HPL.out
  rw [HE.out.1] at h9
  exact run_ad _ _ (by
   unfold arc at h9
   rw [List.length_append] at h9
   omega) w
 have htr:=fun w h1 h2 h3 => trailer_any L (bod L next since).length w a cap h1 HOf.out.1 HOf.out.2.1 (by omega) h2 h3
 have HBL : Hid ((bod L next since).length ≤ 6000278528):=⟨hbl⟩
 generalize bod L next since = bd at *
 generalize trl (L.map enc) bd.length = tl at *
 generalize mtx ⟨since,next,ofI L⟩ = mt at *
 generalize con L = cn at *
 clear z4 b4 hbl
 dsimp only
 go_wp2_with fail
 with_reducible refine Calls.mono hco ?_
 rintro e w5 ⟨rfl,b5⟩
 have HB5:=Hid.mk (below_seq HB4.out b5)
 have z5:=(b5.block _ (lt_of_block HZ4.out)).trans HZ4.out
 have p1 : w5.cell? ⟨w.heap.size,1,none⟩ = some (.slice a L.length cap):=by rw [cell_of_row _ _ _ _ _ _ z5]; rfl
 have hl5:=htr w5 (HL.out.later HB5.out) (HT.out.below HB5.out) (HK.out.seq HB5.out)
 clear hco z5 b5 htr
 dsimp only
 go_wp2_with fail
 with_reducible refine Calls.mono hl5 ?_
 rintro e w6 ⟨rfl,b6⟩
 have HB6:=Hid.mk (below_seq HB5.out b6)
 clear hl5 b6
 dsimp only
 go_wp2_with fail
 go_ret2
 exact ⟨by rw [HE.out.2]; rfl,HB6.out⟩
end
end Go.Proofs.YtdfjlmfnkhhnjaaGreatDoor
namespace Go.Proofs.YtdfjlmfnkhhnjaaGreatDoor.Stk
section
open Go.RowKit
attribute [local go_sem ↓] Go.wp_at_zero Go.wp_at_succ
noncomputable def smP (a b : List En) : Bool:=by classical exact decide (a = b)
theorem smP_true {a b : List En} (h : a = b) : smP a b = true:=by unfold smP; simp [h]
theorem smP_false {a b : List En} (h : ¬ a = b) : smP a b = false:=by unfold smP; simp [h]
set_option maxHeartbeats 4000000 in
theorem qSameMeta_any (l l' : List En) (w : World) (a : Option Addr) (n cap : Nat) (hn : l.length = n) (hP : PIn w a l) (hz : l.length ≤ 9223372036854775806) (a' : Option Addr) (n' cap' : Nat) (hn' : l'.length = n') (hP' : PIn w a' l') (hz' : l'.length ≤ 9223372036854775806) :
  Calls Tryz.prog 107 #[.slice a n cap,.slice a' n' cap'] w fun e w' => e = .returned (.bool (smP l l')) ∧ Below w.heap.size w w':=by
 subst hn hn'
 by_cases h5 : l.length = l'.length
 ·have d5 : ((l.length : Int) != (l'.length : Int)) = false:=by rw [bne_eq_false_iff_eq]; omega
  have HL:=Hid.mk h5
  clear h5
  have HS1 : Hid (l = l' → smP l l' = true):=⟨smP_true⟩
  have HS2 : Hid (¬ l = l' → smP l l' = false):=⟨smP_false⟩
  generalize smP l l' = SV at *
  go_enter Tryz.func107,Tryz.ntmps107
  go_wp2_with fail
  go_loopw [5] (fun i wr => ∃ k : Nat,k ≤ l.length ∧ i = .int .i64 (k : Int) ∧ l.take k = l'.take k ∧ Hid (Below w.heap.size w wr)) (fun i _ => l.length - (intOf i).toNat)
  case atStart => exact ⟨0,by omega,rfl,by simp,⟨Below.refl _ _⟩⟩
  case round =>
   obtain ⟨k,hk,rfl,hab,HB⟩:=hrel
   have hbe:=HB.out
   by_cases h1 : k < l.length
   ·have d1 : decide ((k : Int) < (l.length : Int)) = true:=decide_eq_true (by omega)
    have k1 : (k : Int) < (l.length : Int):=by omega
    have h2 : k < l'.length:=by rw [← HL.out]; exact h1
    have k2 : (k : Int) < (l'.length : Int):=by omega
    obtain ⟨p,hp⟩ : ∃ p,l[k]? = some p:=⟨l[k],List.getElem?_eq_getElem h1⟩
    obtain ⟨b1,off1,rfl,hbl,c0,c1⟩:=(hP.later hbe).get k p hp
    obtain ⟨q,hq⟩ : ∃ q,l'[k]? = some q:=⟨l'[k],List.getElem?_eq_getElem h2⟩
    obtain ⟨b2,off2,rfl,hbl2,e0,e1⟩:=(hP'.later hbe).get k q hq
    by_cases hpq : p = q
    ·subst hpq
     have HT : Hid (l.take (k + 1) = l'.take (k + 1)):=⟨take_nextV hp hq hab⟩
     clear hab
     go_wp2_with fail
     go_quiet (fail)
     go_wp2_with fail
     exact ⟨⟨k + 1,by omega,by go_num,HT.out,⟨below_dN HB.out nq⟩⟩,by simp [intOf]; omega⟩
    ·have HS : Hid (SV = false):=⟨HS2.out (take_neV hp hq hpq)⟩
     clear hab
     obtain ⟨pk,pt⟩:=p
     obtain ⟨qk,qt⟩:=q
     dsimp only at *
     by_cases h3 : pk = qk
     ·subst h3
      have d5 : (pt == qt) = false:=by rw [beq_eq_false_iff_ne]; rintro rfl; exact hpq rfl
      clear hpq
      go_wp2_with fail
      go_quiet (fail)
      go_wp2_with fail
      go_ret
      exact ⟨by rw [HS.out]; rfl,below_dN hbe nq⟩
     ·have d5 : (pk == qk) = false:=by rw [beq_eq_false_iff_ne]; exact h3
      clear hpq
      go_wp2_with fail
      go_quiet (fail)
      go_wp2_with fail
      go_ret
      exact ⟨by rw [HS.out]; rfl,below_dN hbe nq⟩
   ·obtain rfl : k = l.length:=by omega
    have d1 : decide ((l.length : Int) < (l.length : Int)) = false:=decide_eq_false (by omega)
    have HS : Hid (SV = true):=⟨HS1.out (by
     have e:=hab
     rw [List.take_length] at e
     rw [HL.out,List.take_length] at e
     exact e)⟩
    clear hab
    go_wp2_with fail
    go_ret
    exact ⟨by rw [HS.out]; rfl,hbe⟩
 ·have HS : Hid (smP l l' = false):=⟨smP_false (by rintro rfl; exact h5 rfl)⟩
  generalize smP l l' = SV at *
  have d5 : ((l.length : Int) != (l'.length : Int)) = true:=by rw [bne_iff_ne]; omega
  clear h5
  go_enter Tryz.func107,Tryz.ntmps107
  go_wp2_with fail
  go_ret
  exact ⟨by rw [HS.out]; rfl,Below.refl _ _⟩
set_option maxHeartbeats 4000000 in
theorem qSameVersion_any (v u : Vs) (w : World) (a : Option Addr) (n cap : Nat) (hn : v.l.length = n) (hP : PIn w a v.l) (hz : v.l.length ≤ 9223372036854775806) (a' : Option Addr) (n' cap' : Nat) (hn' : u.l.length = n') (hP' : PIn w a' u.l) (hz' : u.l.length ≤ 9223372036854775806) :
  Calls Tryz.prog 66 #[vv v.key v.seq v.mkr v.data a n cap,vv u.key u.seq u.mkr u.data a' n' cap'] w fun e w' => e = .returned (.bool (sv v u)) ∧ Below w.heap.size w w':=by
 subst hn hn'
 have b1:=(Below.refl w.heap.size w).alloc (Nat.le_refl _) (.cells #[str v.key,.int .i64 v.seq,.bool v.mkr,str v.data,.slice a v.l.length cap] 62)
 have b2:=b1.alloc b1.size (.cells #[str u.key,.int .i64 u.seq,.bool u.mkr,str u.data,.slice a' u.l.length cap'] 62)
 clear b1
 have hc:=qSameMeta_any v.l u.l _ a _ cap rfl (hP.later b2) hz a' _ cap' rfl (hP'.later b2) hz'
 clear hP hP' hz hz'
 obtain ⟨key,seq,mk,data,l⟩:=v
 obtain ⟨key',seq',mk',data',l'⟩:=u
 simp only at *
 by_cases h1 : key = key'
 ·subst h1
  by_cases h2 : seq = seq'
  ·subst h2
   by_cases h3 : mk = mk'
   ·subst h3
    by_cases h4 : data = data'
    ·subst h4
     have HS : Hid (sv ⟨key,seq,mk,data,l⟩ ⟨key,seq,mk,data,l'⟩ = smP l l'):=⟨by
      by_cases h : l = l'
      ·rw [sv_true (by rw [h]),smP_true h]
      ·rw [sv_false (by intro q; injection q with _ _ _ _ q; exact h q),smP_false h]⟩
     generalize smP l l' = SM at *
     go_enter Tryz.func66,Tryz.ntmps66
     go_wp2_with (go_at_call 107; refine hc.mono ?_; rintro e w3 ⟨rfl,b3⟩)
     go_ret
     exact ⟨by rw [HS.out]; rfl,below_seq b2 b3⟩
    ·have HS : Hid (sv ⟨key,seq,mk,data,l⟩ ⟨key,seq,mk,data',l'⟩ = false):=⟨sv_false (by intro q; injection q with _ _ _ q; exact h4 q)⟩
     have d5 : (data == data') = false:=by rw [beq_eq_false_iff_ne]; exact h4
     clear h4 hc
     go_enter Tryz.func66,Tryz.ntmps66
     go_wp2_with fail
     go_ret
     exact ⟨by rw [HS.out]; rfl,b2⟩
   ·have HS : Hid (sv ⟨key,seq,mk,data,l⟩ ⟨key,seq,mk',data',l'⟩ = false):=⟨sv_false (by intro q; injection q with _ _ q; exact h3 q)⟩
    have d5 : (mk == mk') = false:=by rw [beq_eq_false_iff_ne]; exact h3
    clear h3 hc
    go_enter Tryz.func66,Tryz.ntmps66
    go_wp2_with fail
    go_ret
    exact ⟨by rw [HS.out]; rfl,b2⟩
  ·have HS : Hid (sv ⟨key,seq,mk,data,l⟩ ⟨key,seq',mk',data',l'⟩ = false):=⟨sv_false (by intro q; injection q with _ q; exact h2 q)⟩
   have d5 : (seq == seq') = false:=by rw [beq_eq_false_iff_ne]; exact h2
   have d6 : (seq != seq') = true:=by rw [bne_iff_ne]; exact h2
   have d7 : decide (seq = seq') = false:=decide_eq_false h2
   clear h2 hc
   go_enter Tryz.func66,Tryz.ntmps66
   go_wp2_with fail
   go_ret
   exact ⟨by rw [HS.out]; rfl,b2⟩
 ·have HS : Hid (sv ⟨key,seq,mk,data,l⟩ ⟨key',seq',mk',data',l'⟩ = false):=⟨sv_false (by intro q; injection q with q; exact h1 q)⟩
  have d5 : (key == key') = false:=by rw [beq_eq_false_iff_ne]; exact h1
  clear h1 hc
  go_enter Tryz.func66,Tryz.ntmps66
  go_wp2_with fail
  go_ret
  exact ⟨by rw [HS.out]; rfl,b2⟩
end
section
open Go.RowKit
attribute [local go_sem ↓] Go.wp_at_zero Go.wp_at_succ
set_option maxHeartbeats 4000000 in
theorem qSame_eq (next : Int) (L : List Vs) (w : World) (a : Option Addr) (c : Nat) (a' : Option Addr) (c' : Nat) (h1 : Li w L a L.length c) (h2 : Li w L a' L.length c') (hl : L.length ≤ 1000000) :
  Calls Tryz.prog 34 #[bv next a L.length c,bv next a' L.length c'] w fun e w' => e = .returned (.bool true) ∧ Below w.heap.size w w':=by
 have b1:=(Below.refl w.heap.size w).alloc (Nat.le_refl _) (.cells #[.int .i64 next,.slice a L.length c] 24)
 have b2:=b1.alloc b1.size (.cells #[.int .i64 next,.slice a' L.length c'] 24)
 have z1:=(Bq.new w (.int .i64 next) (.slice a L.length c)).later ((Below.refl (w.alloc (.cells #[.int .i64 next,.slice a L.length c] 24)).heap.size _).alloc (Nat.le_refl _) (.cells #[.int .i64 next,.slice a' L.length c'] 24))
 have z2:=Bq.new (w.alloc (.cells #[.int .i64 next,.slice a L.length c] 24)) (.int .i64 next) (.slice a' L.length c')
 rw [World.size_alloc] at z2
 have H1:=Hid.mk (h1.later b2)
 have H2:=Hid.mk (h2.later b2)
 clear h1 h2 b1
 go_enter Tryz.func34,Tryz.ntmps34
 go_wp2_with fail
 have Z1:=Hid.mk z1
 have Z2:=Hid.mk z2
 clear z1 z2
 generalize (w.alloc (.cells #[.int .i64 next,.slice a L.length c] 24)).alloc (.cells #[.int .i64 next,.slice a' L.length c'] 24) = W2 at *
 go_loopw [5] (fun i wr => ∃ k : Nat,k ≤ L.length ∧ i = .int .i64 (k : Int) ∧ Hid (Below W2.heap.size W2 wr)) (fun i _ => L.length - (intOf i).toNat)
 case atStart => exact ⟨0,Nat.zero_le _,rfl,⟨Below.refl _ _⟩⟩
 case round =>
  obtain ⟨k,hk,rfl,HB⟩:=hrel
  obtain ⟨p0,p1,_⟩:=(Z1.out.later HB.out).cells
  obtain ⟨q0,q1,_⟩:=(Z2.out.later HB.out).cells
  by_cases hlt : k < L.length
  ·have d1 : decide ((k : Int) < (L.length : Int)) = true:=decide_eq_true (Int.ofNat_lt.2 hlt)
   have k2 : (k : Int) < (L.length : Int):=Int.ofNat_lt.2 hlt
   have hw1 : wrap64 ((k : Int) + 1) = ((k + 1 : Nat) : Int):=by unfold wrap64; omega
   obtain ⟨u,hu⟩ : ∃ u,L[k]? = some u:=⟨L[k],List.getElem?_eq_getElem hlt⟩
   have hul:=H1.out.z u (List.mem_of_getElem? hu)
   obtain ⟨b,off,ma,mc,rfl,hbl,c0,c1,c2,c3,c4,hsl⟩:=(H1.out.later HB.out).s.at'.get k u hu
   obtain ⟨b',off',ma',mc',rfl,hbl',e0,e1,e2,e3,e4,hsl'⟩:=(H2.out.later HB.out).s.at'.get k u hu
   have hsv : ∀ w',Below wr.heap.size wr w' → Calls Tryz.prog 66 #[vv u.key u.seq u.mkr u.data ma u.l.length mc,vv u.key u.seq u.mkr u.data ma' u.l.length mc'] w' fun e w'' => e = .returned (.bool true) ∧ Below w'.heap.size w' w'':=fun w' h => by
    have:=qSameVersion_any u u w' ma _ mc rfl (hsl.later h).at' (by omega) ma' _ mc' rfl (hsl'.later h).at' (by omega)
    rw [sv_true rfl] at this
    exact this
   have HS1 : Hid (∀ w',Below wr.heap.size wr w' → Below wr.heap.size wr w' ∧ w'.cell? ⟨w.heap.size,1,none⟩ = some (.slice (some ⟨b,off,none⟩) L.length c) ∧ w'.cell? ⟨w.heap.size + 1,1,none⟩ = some (.slice (some ⟨b',off',none⟩) L.length c') ∧ w'.cell? ⟨b,off + k * 5,none⟩ = some (str u.key) ∧ w'.cell? ⟨b,off + k * 5 + 1,none⟩ = some (.int .i64 u.seq) ∧ w'.cell? ⟨b,off + k * 5 + 2,none⟩ = some (.bool u.mkr) ∧ w'.cell? ⟨b,off + k * 5 + 3,none⟩ = some (str u.data) ∧ w'.cell? ⟨b,off + k * 5 + 4,none⟩ = some (.slice ma u.l.length mc) ∧ w'.cell? ⟨b',off' + k * 5,none⟩ = some (str u.key) ∧ w'.cell? ⟨b',off' + k * 5 + 1,none⟩ = some (.int .i64 u.seq) ∧ w'.cell? ⟨b',off' + k * 5 + 2,none⟩ = some (.bool u.mkr) ∧ w'.cell? ⟨b',off' + k * 5 + 3,none⟩ = some (str u.data) ∧ w'.cell? ⟨b',off' + k * 5 + 4,none⟩ = some (.slice ma' u.l.length mc')):=⟨fun w' h => by
    obtain ⟨_,t1,_⟩:=((Z1.out.later HB.out).later h).cells
    obtain ⟨_,t2,_⟩:=((Z2.out.later HB.out).later h).cells
    exact ⟨h,t1,t2,(h.cell (p:=⟨b,_,none⟩) hbl).trans c0,(h.cell (p:=⟨b,_,none⟩) hbl).trans c1,(h.cell (p:=⟨b,_,none⟩) hbl).trans c2,(h.cell (p:=⟨b,_,none⟩) hbl).trans c3,(h.cell (p:=⟨b,_,none⟩) hbl).trans c4,(h.cell (p:=⟨b',_,none⟩) hbl').trans e0,(h.cell (p:=⟨b',_,none⟩) hbl').trans e1,(h.cell (p:=⟨b',_,none⟩) hbl').trans e2,(h.cell (p:=⟨b',_,none⟩) hbl').trans e3,(h.cell (p:=⟨b',_,none⟩) hbl').trans e4⟩⟩
   clear hu hsl hsl' hul c0 c1 c2 c3 c4 e0 e1 e2 e3 e4 q1
   go_wp2_with fail
   go_region_held3 (fun w' => Below wr.heap.size wr w' ∧ w'.cell? ⟨w.heap.size,1,none⟩ = some (.slice (some ⟨b,off,none⟩) L.length c) ∧ w'.cell? ⟨w.heap.size + 1,1,none⟩ = some (.slice (some ⟨b',off',none⟩) L.length c') ∧ w'.cell? ⟨b,off + k * 5,none⟩ = some (str u.key) ∧ w'.cell? ⟨b,off + k * 5 + 1,none⟩ = some (.int .i64 u.seq) ∧ w'.cell? ⟨b,off + k * 5 + 2,none⟩ = some (.bool u.mkr) ∧ w'.cell? ⟨b,off + k * 5 + 3,none⟩ = some (str u.data) ∧ w'.cell? ⟨b,off + k * 5 + 4,none⟩ = some (.slice ma u.l.length mc) ∧ w'.cell? ⟨b',off' + k * 5,none⟩ = some (str u.key) ∧ w'.cell? ⟨b',off' + k * 5 + 1,none⟩ = some (.int .i64 u.seq) ∧ w'.cell? ⟨b',off' + k * 5 + 2,none⟩ = some (.bool u.mkr) ∧ w'.cell? ⟨b',off' + k * 5 + 3,none⟩ = some (str u.data) ∧ w'.cell? ⟨b',off' + k * 5 + 4,none⟩ = some (.slice ma' u.l.length mc')) ((refine HS1.out _ ?_; first
    | with_reducible exact (Below.refl _ _).drew
    | with_reducible exact (below_seq (And.left (by assumption)) x1))) (
    (go_at_call 66; with_reducible refine Calls.mono (hsv _ (And.left (by assumption))) ?_; rintro e w5 ⟨rfl,x1⟩))
   have hb5 : Below wr.heap.size wr w5:=And.left (by assumption)
   have HB5:=Hid.mk (HB.out.trans (hb5.mono HB.out.size))
   clear x1 HS1 hsv hb5 p0 p1 q0
   go_wp2_with fail
   exact ⟨⟨k + 1,hlt,by first | (rw [hw1]; done) | go_num,HB5⟩,by first | (rw [hw1]; exact Nat.sub_lt_sub_left hlt (Nat.lt_succ_self k)) | (simp [intOf]; omega)⟩
  ·obtain rfl : k = L.length:=by omega
   have d1 : decide ((L.length : Int) < (L.length : Int)) = false:=decide_eq_false (by omega)
   have HW:=Hid.mk (b2.trans (HB.out.mono b2.size))
   clear HB
   go_wp2_with fail
   go_ret
   exact ⟨rfl,HW.out⟩
end
section
open Go.RowKit
theorem take_d {P : Program} {ops : Array Oper} {Q : Exit → Act → World → Prop} {md : Region.Mode} {S : World → Prop} {oi : Oper} {fuel : Nat} {listed : Array Bool} {a : Act} {w : World} (i d : Nat) (v : Value) (hi : ops[i]? = some oi) (hd : oi.dst = some d)
  (hs : Region.noSelect ops = true) (hf : Region.free md ops listed i = true) (hr : (Region.ready md ops listed).contains i = true)
  (hQ : ∀ c a w,Q (.panic c) (a.put (some d) v) w → Q (.panic c) a w) (hw : Region.wanted oi (yielded ops a.tmps) = true) (hy : ∀ w,S w → (execOp a.eval oi).run P w = .ok (.value v) w) (hS : S w)
  (h : wpAnyH P md ops Q S fuel (listed.setIfInBounds i true) (a.put (some d) v) w) : wpAnyH P md ops Q S (fuel + 1) listed a w :=
 wpAnyH_take hi hs hf hr (by rw [hd]; exact hQ) (Or.inl ⟨hw,hy⟩) hS (by rw [hd]; exact h)
theorem tkd {P : Program} {ops : Array Oper} {Q : Exit → Act → World → Prop} {md : Region.Mode} {S : World → Prop} {oi : Oper} {fuel : Nat} {listed : Array Bool} {a : Act} {w : World} (i d : Nat) (v : Value) (hy : ∀ w,S w → (execOp a.eval oi).run P w = .ok (.value v) w)
  (h : wpAnyH P md ops Q S fuel (listed.setIfInBounds i true) (a.put (some d) v) w) (hi : ops[i]? = some oi:=by rfl) (hd : oi.dst = some d:=by rfl) (hs : Region.noSelect ops = true:=by kernel_rfl) (hf : Region.free md ops listed i = true:=by kernel_rfl)
  (hr : (Region.ready md ops listed).contains i = true:=by kernel_rfl) (hQ : ∀ c a w,Q (.panic c) (a.put (some d) v) w → Q (.panic c) a w:=by exact fun _ _ _ h => h) (hw : Region.wanted oi (yielded ops a.tmps) = true:=by kernel_rfl) (hS : S w:=by assumption) : wpAnyH P md ops Q S (fuel + 1) listed a w :=
 take_d i d v hi hd hs hf hr hQ hw hy hS h
theorem take_u {P : Program} {ops : Array Oper} {Q : Exit → Act → World → Prop} {md : Region.Mode} {S : World → Prop} {oi : Oper} {fuel : Nat} {listed : Array Bool} {a : Act} {w : World} (i d : Nat) (hi : ops[i]? = some oi) (hd : oi.dst = some d)
  (hs : Region.noSelect ops = true) (hf : Region.free md ops listed i = true) (hr : (Region.ready md ops listed).contains i = true)
  (hQ : ∀ c a w,Q (.panic c) (a.put (some d) undef) w → Q (.panic c) a w) (hw : Region.wanted oi (yielded ops a.tmps) = false) (hS : S w)
  (h : wpAnyH P md ops Q S fuel (listed.setIfInBounds i true) (a.put (some d) undef) w) : wpAnyH P md ops Q S (fuel + 1) listed a w :=
 wpAnyH_take hi hs hf hr (by rw [hd]; exact hQ) (Or.inr ⟨hw,rfl⟩) hS (by rw [hd]; exact h)
theorem call_step {P : Program} {o : Oper} {a : Act} {w : World} {next : Act → World → Prop} {Q : Exit → Act → World → Prop} {f : Nat} {args : Array Value} {v : Value} {G : World → Prop} (d : Nat) (hd : o.dst = some d) (hx : (execOp a.eval o).run P w = .ok (.enter f args) w)
  (hc : Calls P f args w fun e w' => e = .returned v ∧ G w') (hn : ∀ w',G w' → next (a.put (some d) v) w') : Oper.wp P o a w next Q:=by
 unfold Oper.wp; rw [hx,Oper.upon_enter]; refine hc.mono ?_; rintro e w' ⟨rfl,g⟩; show next (a.put o.dst v) w'; rw [hd]; exact hn w' g
end
end Go.Proofs.YtdfjlmfnkhhnjaaGreatDoor.Stk
