import Derived.Test.YtdfjlmfnkhhnjaaGreatDoorQb
import Derived.Test.YtdfjlmfnkhhnjaaGreatDoorQk
import Derived.Test.YtdfjlmfnkhhnjaaGreatDoorQg
import Derived.Test.YtdfjlmfnkhhnjaaGreatDoorQe
import Derived.Test.YtdfjlmfnkhhnjaaGreatDoorGw
import Derived.Test.YtdfjlmfnkhhnjaaGreatDoorHe
import Derived.Test.YtdfjlmfnkhhnjaaGreatDoorHq
import Derived.Test.YtdfjlmfnkhhnjaaGreatDoorGz
import Derived.Deep.RegionHeld3
set_option maxRecDepth 100000
set_option linter.unusedVariables false
set_option linter.unusedSimpArgs false
namespace Go.Proofs.YtdfjlmfnkhhnjaaGreatDoor
open Go.RowKit
open Go.Proofs.YtdfjlmfnkhhnjaaGreatDoorP (TB recd nn LEN key itoa_any)
open Go.Proofs.YtdfjlmfnkhhnjaaGreatDoorH (hv hv_b32 KIn hexL refHex_any refRoot_in rootOf TextsIn)
attribute [local go_sem ↓] Go.wp_at_zero Go.wp_at_succ ad9
set_option maxHeartbeats 1000000 in
theorem qfill_any (n : Nat) (hn : n ≤ 4611686018427387904) (w : World) : Calls Tryz.prog 79 #[.int .i64 (n : Int)] w fun e w' => e = .returned (.int .i64 (fil n : Nat)) ∧ Below w.heap.size w w':=by
 have e1 : Int.tmod (n : Int) 64 = ((n % 64 : Nat) : Int):=by rw [Int.tmod_eq_emod_of_nonneg (by omega)]; omega
 have hlt : n % 64 < 64:=Nat.mod_lt _ (by decide)
 have e2 : Int.tmod (64 - ((n % 64 : Nat) : Int)) 64 = ((fil n : Nat) : Int):=by
  rw [Int.tmod_eq_emod_of_nonneg (by omega)]
  unfold fil
  omega
 have e3 : Int.tmod (64 - (n : Int) % 64) 64 = ((fil n : Nat) : Int):=by rw [← e2]; congr 1
 obtain ⟨F,hF⟩ : ∃ F,F = fil n:=⟨_,rfl⟩
 have HF : Hid (F = fil n):=⟨hF⟩
 rw [← hF] at e2 e3 ⊢
 obtain ⟨r,hr⟩ : ∃ r,r = n % 64:=⟨_,rfl⟩
 rw [← hr] at e1 e2 hlt
 clear hF
 go_enter Tryz.func79,Tryz.ntmps79
 go_wp2_with fail
 go_ret
 exact ⟨by first | rfl | (congr 2),Below.refl _ _⟩
theorem rpwrite_any (k v : List UInt8) (h1 : key k = true) (h2 : LEN (nn k v) ≤ 1048576) (w : World) : Calls Tryz.prog 80 #[str k,str v] w fun e w' => e = .returned (.tuple #[str (recd k v),.int .i64 0]) ∧ Below w.heap.size w w':=by
 obtain ⟨e1,e2⟩:=wr_ok h1 h2
 obtain ⟨z1,z2⟩:=kv_len h2
 have:=Go.Proofs.YtdfjlmfnkhhnjaaGreatDoorP.refWrite_any ⟨k.toArray⟩ ⟨v.toArray⟩ (by show k.toArray.size ≤ _; rw [List.size_toArray]; omega) (by show v.toArray.size ≤ _; rw [List.size_toArray]; omega) w
 rw [show ((⟨k.toArray⟩ : ByteArray).data.toList) = k from rfl,show ((⟨v.toArray⟩ : ByteArray).data.toList) = v from rfl,e1,e2] at this
 exact this
theorem refRoot_so {base : Nat} {w : World} {v : Value} {ts : List (List UInt8)} (h : So base w v ts) (hK : KIn w) (hz : ∀ t ∈ ts,t.length ≤ 1048576) (hn : ts.length ≤ 1000) :
  Calls Tryz.prog 82 #[v] w fun e w' => e = .returned (.agg (hv (rootOf ts.length (txF ts))).toArray) ∧ Below w.heap.size w w':=by
 obtain ⟨a,cap,rfl,ht⟩:=h.slice
 refine refRoot_in cap hK (fun k hk => ?_) (fun k hk => ?_) (by omega)
 ·obtain ⟨b,off,e,_,hc⟩:=ht.get k ts[k] (List.getElem?_eq_getElem hk)
  refine ⟨b,off,e,?_⟩
  rw [hc]
  unfold txF
  rw [List.getD_eq_getElem?_getD,List.getElem?_eq_getElem hk]
  rfl
 ·unfold txF
  rw [List.getD_eq_getElem?_getD,List.getElem?_eq_getElem hk]
  have:=hz ts[k] (List.getElem_mem hk)
  show (ts[k]).toArray.size ≤ _
  rw [List.size_toArray]
  omega
theorem bod_at {L : List Vs} {n c : Int} {k : Nat} (hk : k ≤ L.length) : (mtx ⟨c,n,ofI L⟩ ++ con (L.take k)).length ≤ (bod L n c).length:=by
 have e : con L = con (L.take k) ++ con (L.drop k):=by rw [← con_append,List.take_append_drop]
 unfold bod
 rw [e]
 simp only [List.length_append]
 omega
set_option maxHeartbeats 8000000 in
theorem qpack_any (L : List Vs) (next since : Int) (w : World) (a : Option Addr) (cap : Nat) (hL : VIn w a L) (hl : L.length ≤ 1954687338240) (hz : ∀ v ∈ L,v.l.length ≤ 4398046510976) (hp : ∀ v ∈ L,∀ (k : Nat) (e : En),v.l[k]? = some e → e.key.length ≤ 9223372036854775806 ∧ e.val.length ≤ 9223372036854775806) (hT : TB w) (hK : KIn w) :
  Calls Tryz.prog 40 #[.agg #[.int .i64 next,.slice a L.length cap],.int .i64 since] w fun e w' => e = .returned (.tuple #[str (pkX L next since),.int .i64 (pkC L next since)]) ∧ Below w.heap.size w w':=by
 have b0:=(Below.refl w.heap.size w).alloc (Nat.le_refl _) (.cells #[.int .i64 next,.slice a L.length cap] 24)
 have z0:=Bb2.new w next (.slice a L.length cap)
 have hof:=qOf_any L next since (w.alloc (.cells #[.int .i64 next,.slice a L.length cap] 24)) a L.length cap rfl (hL.later b0) hl hz hp
 have HL:=Hid.mk hL
 have HT:=Hid.mk hT
 have HK:=Hid.mk hK
 have HB:=Hid.mk b0
 have HZ:=Hid.mk z0
 have HPL:=Hid.mk (pk_len L next since)
 have HZl:=Hid.mk hz
 have HPp:=Hid.mk hp
 clear hL hT hK b0 z0 hl hz hp
 go_enter Tryz.func40,Tryz.ntmps40
 go_wp2_with fail
 generalize w.alloc (.cells #[.int .i64 next,.slice a L.length cap] 24) = W1 at *
 generalize hg2 : w.heap.size = g2 at HZ ⊢
 have HG2:=Hid.mk hg2
 clear hg2
 with_reducible refine Calls.mono hof ?_
 rintro e w2 ⟨h2,b2⟩
 have HB2:=Hid.mk (below_seq HB.out b2)
 have HZ2:=Hid.mk (HZ.out.later b2)
 clear hof HB HZ
 rcases h2 with ⟨ra,rc,hOf,rfl,hi⟩ | ⟨hOf,rfl⟩
 rotate_left
 ·obtain ⟨e1,e2⟩:=pk_no hOf
  have HE:=Hid.mk (And.intro e1 e2)
  have b3:=(Below.refl w2.heap.size w2).alloc (Nat.le_refl _) (.cells #[.int .i64 0,.int .i64 0,.slice none 0 0] 38)
  have HB3:=Hid.mk (below_seq HB2.out b3)
  clear hOf e1 e2 b3 b2
  dsimp only
  go_wp2_with fail
  go_ret2
  exact ⟨by rw [HE.out.1,HE.out.2]; rfl,HB3.out⟩
 obtain ⟨e1,e2⟩:=pk_yes hOf
 have hol : (ofI L).length = L.length:=by simp [ofI]
 rw [hol]
 have b3:=(Below.refl w2.heap.size w2).alloc (Nat.le_refl _) (.cells #[.int .i64 since,.int .i64 next,.slice ra L.length rc] 38)
 have z3:=Bn3.new w2 since next (.slice ra L.length rc)
 have hw : Calls Tryz.prog 77 #[.agg #[.int .i64 since,.int .i64 next,.slice ra L.length rc]] (w2.alloc (.cells #[.int .i64 since,.int .i64 next,.slice ra L.length rc] 38)) (WrP ⟨since,next,ofI L⟩ (w2.alloc (.cells #[.int .i64 since,.int .i64 next,.slice ra L.length rc] 38))):=by
  have h9:=qWriteM_any ⟨since,next,ofI L⟩ (w2.alloc (.cells #[.int .i64 since,.int .i64 next,.slice ra L.length rc] 38)) ra rc (hi.later b3) (fun x hx => by
   obtain ⟨v,hv,rfl⟩:=List.mem_map.1 hx
   exact HZl.out v hv) (fun x hx => by
   obtain ⟨v,hv,rfl⟩:=List.mem_map.1 hx
   exact HPp.out v hv) (by have:=hOf.2.2.len; simp only at this ⊢; omega)
  rw [show (⟨since,next,ofI L⟩ : Ma).items.length = L.length from hol] at h9
  exact h9
 have HE:=Hid.mk (And.intro e1 e2)
 have HOf:=Hid.mk hOf
 have HZ3:=Hid.mk (HZ2.out.later b3)
 obtain ⟨q0,q1,q2⟩:=z3.cells
 have HB3:=Hid.mk (below_seq HB2.out b3)
 clear e1 e2 hOf hi b3 z3 b2 HZ2 HB2 hol
 dsimp only
 go_wp2_with fail
 generalize w2.alloc (.cells #[.int .i64 since,.int .i64 next,.slice ra L.length rc] 38) = W3 at *
 generalize w2.heap.size = g6 at *
 with_reducible refine Calls.mono hw ?_
 rintro e w4 ⟨h4,b4⟩
 clear hw q0 q1 q2
 rcases h4 with ⟨_,rfl⟩ | ⟨hno,_⟩
 rotate_left
 ·exact absurd HOf.out.2.2 hno
 have HB4:=Hid.mk (below_seq HB3.out b4)
 have HZ4:=Hid.mk (HZ3.out.later b4)
 have HLw : Hid (L.length ≤ 256 ∧ (bod L next since).length ≤ 6000278528):=⟨HOf.out.1,bod_le HOf.out⟩
 have HTr : Hid ((trl (L.map enc) (bod L next since).length).length ≤ 6010000000 ∧ (bod L next since ++ trl (L.map enc) (bod L next since).length) = pkX L next since):=⟨by
  have h9:=HPL.out
  rw [HE.out.1] at h9
  unfold arc at h9
  rw [List.length_append] at h9
  omega,by rw [HE.out.1]; rfl⟩
 have HSk : Hid (∀ k,k ≤ L.length → (mtx ⟨since,next,ofI L⟩ ++ con (L.take k)).length ≤ 6000278528):=⟨fun k hk => Nat.le_trans (bod_at hk) HLw.out.2⟩
 have HSn : Hid (∀ (k : Nat) (v : Vs),L[k]? = some v → mtx ⟨since,next,ofI L⟩ ++ con (L.take (k + 1)) = mtx ⟨since,next,ofI L⟩ ++ con (L.take k) ++ v.data ++ List.replicate (fil v.data.length) 0):=⟨fun k v hv => by rw [con_take hv]; simp only [List.append_assoc]⟩
 have hS0 : mtx ⟨since,next,ofI L⟩ = mtx ⟨since,next,ofI L⟩ ++ con (L.take 0):=by simp [con]
 have HSe : Hid (mtx ⟨since,next,ofI L⟩ ++ con (L.take L.length) = bod L next since):=⟨by rw [List.take_length]; rfl⟩
 rw [hS0]
 obtain ⟨S,hS⟩ : ∃ S : Nat → List UInt8,∀ k,S k = mtx ⟨since,next,ofI L⟩ ++ con (L.take k):=⟨fun k => mtx ⟨since,next,ofI L⟩ ++ con (L.take k),fun _ => rfl⟩
 simp only [← hS] at HSk HSn HSe
 rw [← hS 0]
 have HJ0 : Hid (TJ w4 w4 (.slice none 0 0) ((L.take 0).map enc)):=⟨⟨So.nil _ _ (Nat.le_refl _),Below.refl _ _⟩⟩
 obtain ⟨x0,x1⟩:=HZ4.out.cells
 clear b4 HB3 HZ3 hS hS0
 dsimp only
 go_wp2_with fail
 clear x0 x1
 go_loopw [8,9,10,11,12,13] (fun v8 v9 v10 _ _ _ wr => ∃ k : Nat,v8 = str (S k) ∧ v10 = .int .i64 (k : Int) ∧ k ≤ L.length ∧ Hid (TJ w4 wr v9 ((L.take k).map enc))) (fun _ _ v10 _ _ _ _ => L.length - (intOf v10).toNat)
 case atStart => exact ⟨0,rfl,rfl,Nat.zero_le _,HJ0⟩
 case round =>
  clear HJ0
  obtain ⟨k,rfl,rfl,hk,HJ⟩:=hrel
  obtain ⟨x0,x1⟩:=(HZ4.out.later HJ.out.bel).cells
  by_cases hlt : k < L.length
  ·have d1 : decide ((k : Int) < (L.length : Int)) = true:=decide_eq_true (Int.ofNat_lt.2 hlt)
   have k0 : (0 : Int) ≤ (k : Int):=Int.natCast_nonneg k
   have k2 : (k : Int) < (L.length : Int):=Int.ofNat_lt.2 hlt
   have hw1 : wrap64 ((k : Int) + 1) = ((k + 1 : Nat) : Int):=by unfold wrap64; have:=HLw.out.1; omega
   obtain ⟨v,hvk⟩ : ∃ v,L[k]? = some v:=⟨L[k],List.getElem?_eq_getElem hlt⟩
   have hrv:=HOf.out.2.1 v (List.mem_of_getElem? hvk)
   have hpp:=HPp.out v (List.mem_of_getElem? hvk)
   have hzz:=HZl.out v (List.mem_of_getElem? hvk)
   obtain ⟨b,off,ma,mc,hab,hbl,c0,c1,c2,c3,c4,hsl⟩:=(HL.out.later (below_seq HB4.out HJ.out.bel)).get k v hvk
   subst hab
   have HTk : Hid ((L.take (k + 1)).map enc = (L.take k).map enc ++ [enc v]):=⟨by rw [List.take_add_one,hvk]; simp⟩
   have HLk : Hid (((L.take k).map enc).length ≤ 1000):=⟨by rw [List.length_map,List.length_take]; have:=HLw.out.1; omega⟩
   have HS1:=Hid.mk (HSn.out k v hvk)
   have HS1l:=Hid.mk (HSk.out (k + 1) hlt)
   have HMk2 : Hid (v.mkr = true → v.data = []):=⟨fun h => ((rt_of hrv).m h).1⟩
   have bx:=(Below.refl wr.heap.size wr).alloc (Nat.le_refl _) (.cells #[str v.key,.int .i64 v.seq,.bool v.mkr,str v.data,.slice ma v.l.length mc] 62)
   have HV1:=Hid.mk (B5v.new wr v.key v.seq v.mkr v.data (.slice ma v.l.length mc))
   have HJ1:=Hid.mk (HJ.out.later bx)
   have hwr:=qWrite_any v (wr.alloc (.cells #[str v.key,.int .i64 v.seq,.bool v.mkr,str v.data,.slice ma v.l.length mc] 62)) ma v.l.length mc rfl (hsl.later bx).at' hpp (by omega)
   rw [wro_ok hrv] at hwr
   generalize (L.take k).map enc = ts at *
   generalize htx : enc v = tx at *
   obtain ⟨key,seq,mkr,data,l⟩:=v
   dsimp only at *
   clear hrv hpp hzz hvk hsl bx htx
   go_wp2_with fail
   generalize wr.alloc (.cells #[str key,.int .i64 seq,.bool mkr,str data,.slice ma l.length mc] 62) = W2 at *
   generalize wr.heap.size = gv at *
   with_reducible refine Calls.mono hwr ?_
   rintro e w5 ⟨rfl,b5⟩
   have HJ5:=Hid.mk (HJ1.out.later b5)
   have HV5:=Hid.mk (HV1.out.later b5)
   clear hwr b5 HJ1 HV1 HJ c0 c1 c2 c3 c4 x0 x1 hbl
   have hJ5:=HJ5.out
   dsimp only
   go_upto_region 16 with (refine app_s2 rfl _ _ rfl [tx] (by simp) (by simp) rfl hJ5.so rfl (by have:=HLk.out; omega) rfl rfl ?_; intro v9 w7 hs7 hb7 hk7)
   have HJ7 : Hid (TJ w4 w7 v9 (ts ++ [tx])):=⟨⟨hs7,hJ5.bel.trans hb7⟩⟩
   have hv7 : B5v w7 gv key seq mkr data (.slice ma l.length mc):=hk7.keep _ _ _ HV5.out (by decide)
   have HS7 : Hid (∀ w',Below w7.heap.size w7 w' → w'.cell? ⟨gv,3,none⟩ = some (str data)):=⟨fun w' h => (hv7.later h).cells.2.2.2.1⟩
   have c2:=hv7.cells.2.2.1
   clear hJ5 hs7 hb7 hk7 hv7 HJ5 HV5
   cases mkr with
   | true =>
    have hdd:=HMk2.out rfl
    have HSS : Hid (S (k + 1) = S k):=⟨by rw [HS1.out,hdd]; simp [fil]⟩
    clear hdd
    go_wp2_with fail
    exact ⟨⟨k + 1,by rw [HSS.out],by first | (rw [hw1]; done) | rfl | go_num,hlt,⟨by rw [HTk.out]; exact HJ7.out⟩⟩,by first | (rw [hw1]; exact Nat.sub_lt_sub_left hlt (Nat.lt_succ_self k)) | (simp [intOf]; omega)⟩
   | false =>
    obtain ⟨F,hF⟩ : ∃ F,F = fil data.length:=⟨_,rfl⟩
    have hS1:=HS1.out
    have hSl:=HS1l.out
    rw [← hF] at hS1
    have hFl : F ≤ 1000:=by rw [hF]; have:=fil_lt data.length; omega
    have hdl : (S k).length + data.length + F ≤ 6000278528:=by rw [hS1] at hSl; simp only [List.length_append,List.length_replicate] at hSl; exact hSl
    have HFl:=Hid.mk hFl
    have HFi : Hid (∀ w',Calls Tryz.prog 79 #[.int .i64 (data.length : Int)] w' fun e w'' => e = .returned (.int .i64 ((F : Nat) : Int)) ∧ Below w'.heap.size w' w''):=⟨fun w' => by rw [hF]; exact qfill_any data.length (by omega) w'⟩
    have HMk : Hid ((∀ w,(Instr.makeSlice 47 (.int .i64 (F : Int)) (.int .i64 (F : Int))).run Tryz.prog w = .ok (.slice (some ⟨w.heap.size,0,none⟩) F F) (w.alloc (zO F))) ∧ ∀ w : World,(convert 47 9 (.slice (some ⟨w.heap.size,0,none⟩) F F)).run Tryz.prog (w.alloc (zO F)) = .ok (str (List.replicate F 0)) (w.alloc (zO F))):=⟨fun w => mk_zero F HFl.out w,fun w => conv_zero F w⟩
    obtain ⟨S1,hS1e⟩ : ∃ S1,S1 = S k ++ data:=⟨_,rfl⟩
    have ad1 : ∀ w,(Go.Proofs.YtdfjlmfnkhhnjaaGreatDoor.adS (str (S k)) (str data)).run Tryz.prog w = .ok (str S1) w:=fun w => by rw [hS1e]; exact run_ad (S k) data (by omega) w
    have ad2 : ∀ w,(Go.Proofs.YtdfjlmfnkhhnjaaGreatDoor.adS (str S1) (str (List.replicate F 0))).run Tryz.prog w = .ok (str (S (k + 1))) w:=fun w => by
     rw [hS1,hS1e]
     exact run_ad (S k ++ data) (List.replicate F 0) (by simp only [List.length_append,List.length_replicate]; omega) w
    generalize List.replicate F (0 : UInt8) = ZZ at *
    clear hS1 hSl hF hFl hdl HFl hS1e HS1 HS1l HSk
    go_upto_region 17 with fail
    clear c2
    refine wp_region_held (S:=fun w' => w'.cell? ⟨gv,3,none⟩ = some (str data)) (by kernel_rfl) ?_
    try (change wpAnyH _ _ _ _ _ _ _ _ (World.drew _))
    have bq0:=(Below.refl w7.heap.size w7).drew
    have hHeld:=HS7.out _ bq0
    generalize w7.drew = wq at *
    refine tk2 0 59 (str (S k)) ?_ ?_
    ·intro w' s0
     go_simp
    try simp only [Act.put,lyA,lyB,lyC]
    refine tk2 1 60 (.pointer (some ⟨gv,3,none⟩)) ?_ ?_
    ·intro w' s0
     go_simp
    try simp only [Act.put,lyA,lyB,lyC]
    refine tk2 2 61 (str data) ?_ ?_
    ·intro w' s0
     go_simp
    try simp only [Act.put,lyA,lyB,lyC]
    refine tk2 3 62 (str S1) ?_ ?_
    ·intro w' s0
     go_simp
    try simp only [Act.put,lyA,lyB,lyC]
    refine tk2 4 63 (.pointer (some ⟨gv,3,none⟩)) ?_ ?_
    ·intro w' s0
     go_simp
    try simp only [Act.put,lyA,lyB,lyC]
    refine tk2 5 64 (str data) ?_ ?_
    ·intro w' s0
     go_simp
    try simp only [Act.put,lyA,lyB,lyC]
    refine tk2 6 65 (.int .i64 ((data.length : Nat) : Int)) ?_ ?_
    ·intro w' s0
     go_simp
    try simp only [Act.put,lyA,lyB,lyC]
    refine wpAnyH_ready (rs := [7]) (by kernel_rfl) (by simp) ?_
    refine AllReadyH.cons rfl (fun K9 hK9 => ?_) AllReadyH.nil
    rw [if_pos (by kernel_rfl)]
    refine call_step2 66 rfl (by go_simp) (HFi.out wq) ?_
    intro w20 y1
    have b20:=bq0.trans (y1.mono bq0.size)
    have hh0:=HS7.out _ b20
    refine hK9.out _ _ (hh0) (fun hHeld => ?_)
    clear hK9 K9
    try simp only [Act.put,lyA,lyB,lyC]
    have b1:=bal2 b20 (zO F)
    have hh1:=HS7.out _ b1
    have hmz:=HMk.out.1 w20
    refine wpAnyH_ready (rs := [8]) (by kernel_rfl) (by simp) ?_
    refine AllReadyH.cons rfl (fun K9 hK9 => ?_) AllReadyH.nil
    rw [if_pos (by kernel_rfl)]
    refine val_step2 (v := .slice (some ⟨w20.heap.size,0,none⟩) F F) (w2:=(w20.alloc (zO F))) 67 rfl ?_ ?_
    ·go_simp
    refine hK9.out _ _ (hh1) (fun hHeld => ?_)
    clear hK9 K9
    try simp only [Act.put,lyA,lyB,lyC]
    have hcv:=HMk.out.2 w20
    try clear hmz
    refine wpAnyH_ready (rs := [9]) (by kernel_rfl) (by simp) ?_
    refine AllReadyH.cons rfl (fun K9 hK9 => ?_) AllReadyH.nil
    rw [if_pos (by kernel_rfl)]
    refine val_step2 (v:=str ZZ) (w2:=(w20.alloc (zO F))) 68 rfl ?_ ?_
    ·go_simp
    refine hK9.out _ _ (hh1) (fun hHeld => ?_)
    clear hK9 K9
    try simp only [Act.put,lyA,lyB,lyC]
    refine tk2 10 69 (str (S (k + 1))) ?_ ?_
    ·intro w' s0
     go_simp
    try simp only [Act.put,lyA,lyB,lyC]
    refine tk2 11 8 (str (S (k + 1))) ?_ ?_
    ·intro w' s0
     go_simp
    try simp only [Act.put,lyA,lyB,lyC]
    have HJ9:=Hid.mk (HJ7.out.later b1)
    refine wpAnyH_done (by kernel_rfl) ?_ _
    clear hcv hh1 hh0 hHeld bq0 b1 b20 y1
    clear ad1 ad2
    go_wp2_with fail
    exact ⟨⟨k + 1,rfl,by first | (rw [hw1]; done) | rfl | go_num,hlt,⟨by rw [HTk.out]; exact HJ9.out⟩⟩,by first | (rw [hw1]; exact Nat.sub_lt_sub_left hlt (Nat.lt_succ_self k)) | (simp [intOf]; omega)⟩
  ·obtain rfl : k = L.length:=Nat.le_antisymm hk (Nat.le_of_not_lt hlt)
   have d1 : decide ((L.length : Int) < (L.length : Int)) = false:=decide_eq_false (fun h => Int.lt_irrefl _ h)
   have hJ:=HJ.out
   rw [List.take_length] at hJ
   have HBe:=Hid.mk (below_seq HB4.out hJ.bel)
   have hro:=refRoot_so hJ.so (HK.out.seq HBe.out) (fun t ht => by
    obtain ⟨v,hvm,rfl⟩:=List.mem_map.1 ht
    exact enc_le (HOf.out.2.1 v hvm)) (by rw [List.length_map]; have:=HLw.out.1; omega)
   obtain ⟨ts,hts⟩ : ∃ ts,ts = L.map enc:=⟨_,rfl⟩
   rw [← hts] at hro HTr
   rw [HSe.out]
   have h1 : hexL (rootOf ts.length (txF ts)) = rtX ts:=rfl
   have hw1 : ∀ w,Calls Tryz.prog 80 #[.string ⟨#[114,111,111,116]⟩,str (rtX ts)] w fun e w' => e = .returned (.tuple #[str (recd sRoot (rtX ts)),.int .i64 0]) ∧ Below w.heap.size w w':=fun w => rpwrite_any sRoot (rtX ts) key_root (nn_root ts) w
   have hw2 : ∀ w,Calls Tryz.prog 80 #[.string ⟨#[108,101,110,103,116,104]⟩,str (dec ((bod L next since).length : Int))] w fun e w' => e = .returned (.tuple #[str (recd sLength (dec ((bod L next since).length : Int))),.int .i64 0]) ∧ Below w.heap.size w w':=fun w => rpwrite_any sLength (dec ((bod L next since).length : Int)) key_length (nn_length (by have:=HLw.out.2; omega)) w
   have hx:=fun w => refHex_any (rootOf ts.length (txF ts)) w
   rw [← hv_b32,h1] at hx
   have hit : ∀ w,TB w → Calls Tryz.prog 57 #[.int .i64 ((bod L next since).length : Int)] w fun e w' => e = .returned (str (dec ((bod L next since).length : Int))) ∧ Below w.heap.size w w':=fun w t => (itoa_any (bod L next since).length (by have:=HLw.out.2; omega) w t).mono fun e w' h => ⟨h.1.trans rfl,h.2⟩
   have htr:=HTr.out
   have etr : trl ts (bod L next since).length = recd sRoot (rtX ts) ++ recd sLength (dec ((bod L next since).length : Int)):=rfl
   rw [etr] at htr
   have HLb:=Hid.mk HLw.out.2
   generalize bod L next since = bd at *
   obtain ⟨t1,ht1⟩ : ∃ t,t = recd sRoot (rtX ts):=⟨_,rfl⟩
   obtain ⟨t2,ht2⟩ : ∃ t,t = recd sLength (dec ((bd.length : Nat) : Int)):=⟨_,rfl⟩
   rw [← ht1,← ht2] at htr
   rw [← ht1] at hw1
   rw [← ht2] at hw2
   have ad1 : ∀ w,(Go.Proofs.YtdfjlmfnkhhnjaaGreatDoor.adS (str bd) (str t1)).run Tryz.prog w = .ok (str (bd ++ t1)) w:=fun w => run_ad bd t1 (by have h5:=htr.1; rw [List.length_append] at h5; have:=HLb.out; omega) w
   have ad2 : ∀ w,(Go.Proofs.YtdfjlmfnkhhnjaaGreatDoor.adS (str (bd ++ t1)) (str t2)).run Tryz.prog w = .ok (str (pkX L next since)) w:=fun w => by
    have h6:=run_ad (bd ++ t1) t2 (by have h5:=htr.1; rw [List.length_append] at h5; have:=HLb.out; rw [List.length_append]; omega) w
    rw [List.append_assoc,htr.2] at h6
    exact h6
   generalize bd ++ t1 = bd1 at *
   generalize hpx : pkX L next since = px at *
   have HPx:=Hid.mk hpx
   clear hpx
   generalize rootOf ts.length (txF ts) = rt at *
   generalize rtX ts = rx at *
   generalize hdx : dec ((bd.length : Nat) : Int) = dx at *
   have HHro:=Hid.mk hro
   clear hJ HJ hlt hk hts h1 etr htr ht1 ht2 hdx HTr HSe HSn HSk
   go_wp2_with fail
   with_reducible refine Calls.mono hro ?_
   rintro e w10 ⟨rfl,b10⟩
   have HB10:=Hid.mk (below_seq HBe.out b10)
   clear b10 hro HHro
   dsimp only
   go_wp2_with fail
   with_reducible refine Calls.mono (hx _) ?_
   rintro e w11 ⟨rfl,b11⟩
   have HB11:=Hid.mk (below_seq HB10.out b11)
   clear b11 hx
   dsimp only
   go_wp2_with fail
   with_reducible refine Calls.mono (hw1 _) ?_
   rintro e w12 ⟨rfl,b12⟩
   have HB12:=Hid.mk (below_seq HB11.out b12)
   have hi2:=hit w12 (HT.out.below HB12.out)
   clear b12 hw1 hit
   dsimp only
   go_wp2_with fail
   with_reducible refine Calls.mono hi2 ?_
   rintro e w13 ⟨rfl,b13⟩
   have HB13:=Hid.mk (below_seq HB12.out b13)
   clear b13 hi2
   dsimp only
   go_wp2_with fail
   with_reducible refine Calls.mono (hw2 _) ?_
   rintro e w14 ⟨rfl,b14⟩
   have HB14:=Hid.mk (below_seq HB13.out b14)
   clear b14 hw2
   dsimp only
   go_wp2_with fail
   go_ret2
   exact ⟨by rw [HE.out.2,HPx.out]; rfl,HB14.out⟩
end Go.Proofs.YtdfjlmfnkhhnjaaGreatDoor
