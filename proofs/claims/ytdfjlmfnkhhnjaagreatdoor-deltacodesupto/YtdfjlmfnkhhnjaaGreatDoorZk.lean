import Derived.Test.YtdfjlmfnkhhnjaaGreatDoorGq
import Derived.Test.YtdfjlmfnkhhnjaaGreatDoorGl
import Derived.Test.YtdfjlmfnkhhnjaaGreatDoorZe
import Derived.Test.YtdfjlmfnkhhnjaaGreatDoorQe
import Derived.Test.YtdfjlmfnkhhnjaaGreatDoorZg
import Derived.Test.YtdfjlmfnkhhnjaaGreatDoorZj
import Derived.Deep.RegionHeld3
set_option maxRecDepth 100000
set_option linter.unusedVariables false
set_option linter.unusedSimpArgs false
namespace Go.Proofs.YtdfjlmfnkhhnjaaGreatDoor
section
open Stk (RtD RtB VOk vrV szN sN)
theorem vrE_parts {key : List UInt8} {mk : Bool} {data : List UInt8} {l : List En} : vrE key mk data l = 0 ↔ keyE key = 0 ∧ (mk = true → data = [] ∧ l = []) ∧ data.length ≤ 1024 ∧ mtE l = 0:=by
 have hm0 : mtE [] = 0:=by unfold mtE; rw [if_pos ⟨by simp,by simp,by unfold Srt; exact List.Pairwise.nil⟩]
 unfold vrE
 by_cases h1 : keyE key = 0
 ·rw [if_neg (by simpa using h1)]
  by_cases h2 : (mk = true ∧ ¬ data = []) ∨ ¬ datE data = 0
  ·rw [if_pos h2]
   refine ⟨fun h => by simp at h,fun ⟨_,a,b,_⟩ => ?_⟩
   exfalso
   rcases h2 with ⟨h2,h3⟩ | h2
   ·exact h3 (a h2).1
   ·apply h2; unfold datE; rw [if_pos b]
  ·rw [if_neg h2]
   have hd : data.length ≤ 1024:=by
    by_cases q : data.length ≤ 1024
    ·exact q
    ·exact absurd (.inr (by unfold datE; rw [if_neg q]; decide)) h2
   have hk : mk = true → data = []:=fun q => by
    by_cases r : data = []
    ·exact r
    ·exact absurd (.inl ⟨q,r⟩) h2
   by_cases h3 : mk = true ∧ 1 ≤ l.length
   ·rw [if_pos h3]
    refine ⟨fun h => by simp at h,fun ⟨_,a,_,_⟩ => ?_⟩
    have:=(a h3.1).2
    rw [this] at h3
    simp at h3
   ·rw [if_neg h3]
    refine ⟨fun h => ⟨h1,fun q => ⟨hk q,?_⟩,hd,h⟩,fun h => h.2.2.2⟩
    cases l with
    | nil => rfl
    | cons x r => exact absurd ⟨q,by simp⟩ h3
 ·rw [if_pos h1]
  exact ⟨fun h => by simp at h,fun h => absurd h.1 h1⟩
theorem isum_sN (L : List Vs) : isum (ofI L) = (sN L : Int):=by
 induction L with
 | nil => rfl
 | cons v r ih =>
  have e1 : isum (ofI (v :: r)) = isz (itOf v (enc v)) + isum (ofI r):=by unfold isum ofI; simp
  have e2 : sN (v :: r) = szN v + sN r:=by unfold sN; simp
  rw [e1,e2,ih]
  unfold isz szN itOf
  simp only
  omega
theorem bef_ltv (a b : Vs) : bef (itOf a (enc a)) (itOf b (enc b)) ↔ Stk.ltv a b:=by
 unfold bef Stk.ltv
 simp only [itOf]
 rw [bcmp_lt]
theorem srt_ltv (L : List Vs) : (ofI L).Pairwise bef ↔ Stk.SrtV L:=by
 unfold ofI Stk.SrtV
 rw [List.pairwise_map]
 exact ⟨fun h => h.imp fun q => (bef_ltv _ _).1 q,fun h => h.imp fun q => (bef_ltv _ _).2 q⟩
theorem map_seq (L : List Vs) : (ofI L).map (·.seq) = L.map (·.seq):=by unfold ofI; rw [List.map_map]; rfl
theorem rtd_of {L : List Vs} {next since : Int} (h : OfR L next since) (h1 : since ≠ 0) : RtD since next L:=by
 obtain ⟨a,b,c⟩:=h
 have c1:=c.c1
 have c2:=c.c2
 have hv : ∀ v ∈ L,vrV v = 0:=fun v hv => by
  have:=b v hv
  unfold rtE at this
  split at this
  ·simp at this
  ·exact this
 have hit : ∀ v ∈ L,RtI ⟨since,next,ofI L⟩ (itOf v (enc v)):=fun v hv => c.it _ (List.mem_map_of_mem hv)
 refine ⟨⟨c.n1,c.n2,a,fun v hq => ⟨(hit v hq).s1,(hit v hq).s2,hv v hq⟩,(srt_ltv L).1 c.srt,by rw [← map_seq]; exact c.nod,?_⟩,by simp only at c1; omega,c2,fun v hq => (hit v hq).s3⟩
 rw [Stk.bw_eq hv (by omega),← isum_sN]
 exact c.byt
theorem of_rtd {L : List Vs} {next since : Int} (h : RtD since next L) : OfR L next since:=by
 have hb:=h.b
 have hv : ∀ v ∈ L,vrE v.key v.mkr v.data v.l = 0:=fun v hq => by
  have : vrE v.key v.mkr v.data v.l = 0:=(hb.ok v hq).2.2
  exact this
 have n2:=hb.n2
 refine ⟨hb.len,fun v hq => ?_,⟨hb.n1,hb.n2,?_,h.s2,by simpa [ofI] using hb.len,fun x hx => ?_,(srt_ltv L).2 hb.srt,by rw [map_seq]; exact hb.nod,?_⟩⟩
 ·have h1:=(hb.ok v hq).1
  have h2:=(hb.ok v hq).2.1
  unfold rtE
  rw [if_neg (by omega)]
  exact hv v hq
 ·have:=h.s1; simp only; omega
 ·obtain ⟨v,hq,rfl⟩:=List.mem_map.1 hx
  obtain ⟨p1,p2,p3,p4⟩:=vrE_parts.1 (hv v hq)
  refine ⟨p1,(hb.ok v hq).1,(hb.ok v hq).2.1,h.s v hq,fun q => ?_,fun q => ⟨by simp [itOf],by simp only [itOf]; omega,p4⟩⟩
  obtain ⟨q1,q2⟩:=p2 q
  refine ⟨?_,q2⟩
  simp [itOf,q1]
 ·rw [isum_sN,← hb.bws]
  exact hb.byt
end
section
open Go.RowKit
open Go.Proofs.YtdfjlmfnkhhnjaaGreatDoorP (TB)
open Go.Proofs.YtdfjlmfnkhhnjaaGreatDoorH (KIn)
open Stk (Rv rcs rcells Fo RtD Bd Cp Li)
attribute [local go_sem ↓] Go.wp_at_zero Go.wp_at_succ
noncomputable def enX (L : List Vs) (next since : Int) : List UInt8:=by
 classical exact if RtD since next L then arc L next since else []
noncomputable def enC (L : List Vs) (next since : Int) : Int:=by
 classical exact if RtD since next L then 0 else 1
theorem en_yes {L : List Vs} {next since : Int} (h : RtD since next L) : enX L next since = arc L next since ∧ enC L next since = 0:=by unfold enX enC; rw [if_pos h,if_pos h]; exact ⟨rfl,rfl⟩
theorem en_no {L : List Vs} {next since : Int} (h : ¬ RtD since next L) : enX L next since = [] ∧ enC L next since = 1:=by unfold enX enC; rw [if_neg h,if_neg h]; exact ⟨rfl,rfl⟩
theorem li_vin {w : World} {L : List Vs} {a : Option Addr} {n c : Nat} (h : Li w L a n c) : VIn w a L:=⟨h.s.at'.get⟩
set_option maxHeartbeats 8000000 in
theorem encode_x (L : List Vs) (next since : Int) (w : World) (a : Option Addr) (n cap : Nat) (hL : Li w L a n cap) (hT : TB w) (hK : KIn w) :
  Calls Tryz.prog 15 #[Stk.dv since next a n cap] w fun e w' => e = .returned (.tuple #[str (enX L next since),.int .i64 (enC L next since)]) ∧ Below w.heap.size w w':=by
 obtain rfl:=hL.n
 have b0:=(Below.refl w.heap.size w).alloc (Nat.le_refl _) (.cells #[.int .i64 since,.int .i64 next,.slice a L.length cap] 53)
 have z0:=Bd.new w (.int .i64 since) (.int .i64 next) (.slice a L.length cap)
 have hr:=Stk.dRight_any L since next _ a _ cap (hL.later b0)
 have HL:=Hid.mk (hL.later b0)
 have HT:=Hid.mk (hT.below b0)
 have HK:=Hid.mk (hK.seq b0)
 obtain ⟨p0,p1,p2,_⟩:=z0.cells
 go_enter Tryz.func15,Tryz.ntmps15
 go_wp2_with fail
 have HZ:=Hid.mk z0
 have HB:=Hid.mk b0
 clear p0 p1 p2 z0 b0 hL hT hK
 generalize w.alloc (.cells #[.int .i64 since,.int .i64 next,.slice a L.length cap] 53) = W1 at *
 with_reducible refine Calls.mono hr ?_
 rintro e w1 ⟨⟨t,rfl,ht⟩,c1⟩
 dsimp only
 clear hr
 have HB1:=Hid.mk (below_seq HB.out c1)
 cases t with
 | false =>
  have HN : Hid (enX L next since = [] ∧ enC L next since = 1):=⟨en_no (fun h => by have:=ht.2 h; cases this)⟩
  clear ht c1
  go_wp2_with fail
  go_ret2
  exact ⟨by rw [HN.out.1,HN.out.2]; rfl,HB1.out⟩
 | true =>
  have hR:=ht.1 rfl
  obtain ⟨x1,x2⟩:=en_yes hR
  obtain ⟨y1,y2⟩:=pk_yes (of_rtd hR)
  have hp:=pack_any L next since w1 a cap (li_vin (HL.out.later c1)) (by have:=HL.out.l; omega) (fun v hv => by have:=HL.out.z v hv; omega) (HT.out.below c1) (HK.out.seq c1)
  rw [y1,y2,← x1,← x2] at hp
  obtain ⟨p0,p1,p2,_⟩:=(HZ.out.later c1).cells
  clear ht c1 HZ HL HT HK hR x1 x2 y1 y2
  go_wp2_with fail
  clear p0 p1 p2
  with_reducible refine Calls.mono hp ?_
  rintro e w2 ⟨rfl,c2⟩
  dsimp only
  have HB2:=Hid.mk (below_seq HB1.out c2)
  clear hp c2
  go_wp2_with fail
  go_ret2
  exact ⟨rfl,HB2.out⟩
def DeP (s : List UInt8) (w : World) (e : Ending) (w' : World) : Prop :=
 ((∃ (L : List Vs) (next since : Int) (va : Option Addr) (vc : Nat),RtD since next L ∧ s = arc L next since ∧ e = .returned (.tuple #[Stk.dv since next va L.length vc,.int .i64 0]) ∧ Cp w.heap.size w' (.slice va L.length vc) L) ∨
  ((∀ L n c,RtD c n L → ¬ s = arc L n c) ∧ e = .returned (.tuple #[Stk.dv 0 0 none 0 0,.int .i64 90]))) ∧ Below w.heap.size w w'
theorem bd3 {B : Nat} {w w' : World} {g : Nat} (h : Below B w w') (hg : B ≤ g) (x y z : Value) : Below B w (((w'.setCell ⟨g,0,none⟩ x).setCell ⟨g,1,none⟩ y).setCell ⟨g,2,none⟩ z):=((h.setCell (p:=⟨g,0,none⟩) hg x).setCell (p:=⟨g,1,none⟩) hg y).setCell (p:=⟨g,2,none⟩) hg z
set_option maxHeartbeats 8000000 in
theorem decode_x (s : List UInt8) (w : World) (hs : s.length ≤ 281474976710656) (hT : TB w) (hE : EG w) (hK : KIn w) : Calls Tryz.prog 18 #[str s] w (DeP s w):=by
 have b1:=(Below.refl w.heap.size w).alloc (Nat.le_refl _) (.cells #[.int .i64 0,.int .i64 0,.slice none 0 0] 53)
 have z1:=Bd.new w (.int .i64 0) (.int .i64 0) (.slice none 0 0)
 have hsz1 : (w.alloc (.cells #[.int .i64 0,.int .i64 0,.slice none 0 0] 53)).heap.size = w.heap.size + 1:=by simp
 have hrd:=unpack_any s (w.alloc (.cells #[.int .i64 0,.int .i64 0,.slice none 0 0] 53)) hs (hT.below b1) (hE.below b1) (hK.seq b1)
 have HB1:=Hid.mk b1
 have HZ1:=Hid.mk z1
 have HSz:=Hid.mk hsz1
 clear b1 z1 hT hE hK hs hsz1
 go_enter Tryz.func18,Tryz.ntmps18
 go_wp2_with fail
 generalize w.alloc (.cells #[.int .i64 0,.int .i64 0,.slice none 0 0] 53) = W1 at *
 with_reducible refine Calls.mono hrd ?_
 rintro e w2 ⟨h2,b2⟩
 clear hrd
 have HB2:=Hid.mk (below_seq HB1.out b2)
 have HZ2:=Hid.mk (HZ1.out.later b2)
 clear HB1 HZ1 b2
 rcases h2 with ⟨L,next,since,R,va,vc,hArc,rfl,hRL,hz,hFo⟩ | ⟨hno,rfl⟩
 rotate_left
 ·have HNo : Hid (∀ L n c,RtD c n L → ¬ s = arc L n c):=⟨fun L n c h q => hno _ _ _ ⟨of_rtd h,q⟩⟩
  have bx:=(Below.refl w2.heap.size w2).alloc (Nat.le_refl _) (.cells #[.int .i64 0,.slice none 0 0] 24)
  have hz:=HZ2.out.later bx
  obtain ⟨y0,y1,y2,fz⟩:=hz.cells
  have f0:=fz 0
  have f1:=fz 1
  have f2:=fz 2
  have n3:=((hz.set0 (.int .i64 0)).set1 (.int .i64 0)).set2 (.slice none 0 0)
  have B5:=Hid.mk (bd3 (g:=w.heap.size) (below_seq HB2.out bx) (Nat.le_refl _) (.int .i64 0) (.int .i64 0) (.slice none 0 0))
  clear hno hz bx fz
  dsimp only
  go_wp2_with fail
  generalize (((w2.alloc (.cells #[.int .i64 0,.slice none 0 0] 24)).setCell ⟨w.heap.size,0,none⟩ (.int .i64 0)).setCell ⟨w.heap.size,1,none⟩ (.int .i64 0)).setCell ⟨w.heap.size,2,none⟩ (.slice none 0 0) = W9 at *
  obtain ⟨q0,q1,q2,_⟩:=n3.cells
  refine bodyPost_ret (v := .tuple #[Stk.dv 0 0 none 0 0,.int .i64 90]) ?_ rfl ⟨.inr ⟨HNo.out,rfl⟩,B5.out⟩
  rw [results_ct2 rfl]
  go_simp
 have hRl : R.length = L.length:=by rw [← hRL,List.length_map]
 rw [hRl] at hFo
 rw [hRl]
 have hCp : Cp W1.heap.size w2 (.slice va L.length vc) L:=⟨R,hFo,hRL,hz⟩
 have bx:=(Below.refl w2.heap.size w2).alloc (Nat.le_refl _) (.cells #[.int .i64 next,.slice va L.length vc] 24)
 have hz3:=HZ2.out.later bx
 have hx3:=Bb2.new w2 next (.slice va L.length vc)
 have HF3:=Hid.mk (hCp.later bx)
 have HB3:=Hid.mk (below_seq HB2.out bx)
 obtain ⟨y0,y1,y2,fz⟩:=hz3.cells
 obtain ⟨x0,x1⟩:=hx3.cells
 have f0:=fz 0
 have f1:=fz 1
 have f2:=fz 2
 by_cases hs0 : since = 0
 ·subst hs0
  have HNo : Hid (∀ L n c,RtD c n L → ¬ s = arc L n c):=⟨fun M n c h q => by
   have h1:=(hArc.two (⟨of_rtd h,q⟩ : Arc s M n c)).2.2
   have h2:=h.s1
   omega⟩
  have n3:=((hz3.set0 (.int .i64 0)).set1 (.int .i64 0)).set2 (.slice none 0 0)
  have B5:=Hid.mk (bd3 (g:=w.heap.size) HB3.out (Nat.le_refl _) (.int .i64 0) (.int .i64 0) (.slice none 0 0))
  clear bx hz3 hx3 hFo hRL hz hArc HF3 HB3 x0 x1 fz hCp hRl
  dsimp only
  go_wp2_with fail
  generalize (((w2.alloc (.cells #[.int .i64 next,.slice va L.length vc] 24)).setCell ⟨w.heap.size,0,none⟩ (.int .i64 0)).setCell ⟨w.heap.size,1,none⟩ (.int .i64 0)).setCell ⟨w.heap.size,2,none⟩ (.slice none 0 0) = W9 at *
  obtain ⟨q0,q1,q2,_⟩:=n3.cells
  refine bodyPost_ret (v := .tuple #[Stk.dv 0 0 none 0 0,.int .i64 90]) ?_ rfl ⟨.inr ⟨HNo.out,rfl⟩,B5.out⟩
  rw [results_ct2 rfl]
  go_simp
 ·have d1 : (since == 0) = false:=beq_eq_false_iff_ne.2 hs0
  have HA : Hid (RtD since next L ∧ s = arc L next since):=⟨rtd_of hArc.1 hs0,hArc.2⟩
  have hg : w.heap.size < W1.heap.size:=by have:=HSz.out; omega
  have n3:=((hz3.set0 (.int .i64 since)).set1 (.int .i64 next)).set2 (.slice va L.length vc)
  have B5:=Hid.mk (bd3 (g:=w.heap.size) HB3.out (Nat.le_refl _) (.int .i64 since) (.int .i64 next) (.slice va L.length vc))
  have HF6:=Hid.mk (((HF3.out.low hg (j:=0) (.int .i64 since)).low hg (j:=1) (.int .i64 next)).low hg (j:=2) (.slice va L.length vc))
  have HG:=Hid.mk (Nat.le_of_lt hg)
  clear bx hz3 hx3 hFo hRL hz hArc HF3 HB3 hs0 fz hCp hRl hg
  dsimp only
  go_wp2_with fail
  generalize (((w2.alloc (.cells #[.int .i64 next,.slice va L.length vc] 24)).setCell ⟨w.heap.size,0,none⟩ (.int .i64 since)).setCell ⟨w.heap.size,1,none⟩ (.int .i64 next)).setCell ⟨w.heap.size,2,none⟩ (.slice va L.length vc) = W9 at *
  obtain ⟨q0,q1,q2,_⟩:=n3.cells
  refine bodyPost_ret (v := .tuple #[Stk.dv since next va L.length vc,.int .i64 0]) ?_ rfl ⟨.inl ⟨L,next,since,va,vc,HA.out.1,HA.out.2,rfl,HF6.out.base HG.out⟩,B5.out⟩
  rw [results_ct2 rfl]
  go_simp
end
section
open Go.RowKit
open Go.Proofs.YtdfjlmfnkhhnjaaGreatDoorP (TB)
open Go.Proofs.YtdfjlmfnkhhnjaaGreatDoorH (KIn)
open Stk (RtD Bd Cp Li Pz)
attribute [local go_sem ↓] Go.wp_at_zero Go.wp_at_succ
theorem rtd_li {base : Nat} {w : World} {L : List Vs} {a : Option Addr} {c : Nat} {since next : Int} (h : Cp base w (.slice a L.length c) L) (hR : RtD since next L) : Li w L a L.length c ∧ ∀ u ∈ L,Pz u.l:=by
 have hm : ∀ v ∈ L,v.l.length ≤ 8 ∧ ∀ p ∈ v.l,prb p = true:=fun v hv => by
  have h1 : vrE v.key v.mkr v.data v.l = 0:=(hR.b.ok v hv).2.2
  have:=mtE_iff (vrE_parts.1 h1).2.2.2
  exact ⟨this.1,this.2.1⟩
 obtain ⟨a',c',e,s⟩:=h.ls
 injection e with e1 e2 e3
 subst e1 e3
 refine ⟨⟨rfl,s,by have:=hR.b.len; omega,fun v hv => by have:=(hm v hv).1; omega⟩,fun u hu k e he => ?_⟩
 have:=prb_len ((hm u hu).2 e (List.mem_of_getElem? he))
 omega
end
end Go.Proofs.YtdfjlmfnkhhnjaaGreatDoor
