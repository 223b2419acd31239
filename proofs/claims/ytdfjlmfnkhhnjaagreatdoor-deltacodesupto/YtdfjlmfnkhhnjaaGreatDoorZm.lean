import Derived.Test.YtdfjlmfnkhhnjaaGreatDoorZk
import Derived.Test.YtdfjlmfnkhhnjaaGreatDoorBl
set_option maxRecDepth 100000
set_option linter.unusedVariables false
set_option linter.unusedSimpArgs false
namespace Go.Proofs.YtdfjlmfnkhhnjaaGreatDoor
section
open Go.RowKit
open Go.Proofs.YtdfjlmfnkhhnjaaGreatDoorP (TB)
open Go.Proofs.YtdfjlmfnkhhnjaaGreatDoorH (KIn)
open Stk (Rv Fo RtD Bd Cp Li Pz)
attribute [local go_sem ↓] Go.wp_at_zero Go.wp_at_succ
set_option maxHeartbeats 8000000 in
theorem qencode_x (L : List Vs) (next since : Int) (w : World) (a : Option Addr) (n cap : Nat) (hL : Li w L a n cap) (hP : ∀ u ∈ L,Pz u.l) (hT : TB w) (hK : KIn w) :
  Calls Tryz.prog 20 #[Stk.dv since next a n cap] w fun e w' => e = .returned (.tuple #[str (enX L next since),.int .i64 (enC L next since)]) ∧ Below w.heap.size w w':=by
 obtain rfl:=hL.n
 have b0:=(Below.refl w.heap.size w).alloc (Nat.le_refl _) (.cells #[.int .i64 since,.int .i64 next,.slice a L.length cap] 53)
 have z0:=Bd.new w (.int .i64 since) (.int .i64 next) (.slice a L.length cap)
 have hr:=Stk.eRight_any L since next _ a _ cap (hL.later b0) hP
 have HL:=Hid.mk (hL.later b0)
 have HT:=Hid.mk (hT.below b0)
 have HK:=Hid.mk (hK.seq b0)
 have HP:=Hid.mk hP
 obtain ⟨p0,p1,p2,_⟩:=z0.cells
 go_enter Tryz.func20,Tryz.ntmps20
 go_wp2_with fail
 have HZ:=Hid.mk z0
 have HB:=Hid.mk b0
 clear p0 p1 p2 z0 b0 hL hT hK hP
 generalize w.alloc (.cells #[.int .i64 since,.int .i64 next,.slice a L.length cap] 53) = W1 at *
 with_reducible refine Calls.mono hr ?_
 rintro e w1 ⟨⟨t,rfl,ht⟩,c1⟩
 dsimp only
 clear hr
 have HB1:=Hid.mk (below_seq HB.out c1)
 cases t with
 | false =>
  have HN : Hid (enX L next since = [] ∧ enC L next since = 1):=⟨en_no (fun h => by have:=ht.2 h; cases this)⟩
  clear ht c1
  go_wp2_with fail
  go_ret2
  exact ⟨by rw [HN.out.1,HN.out.2]; rfl,HB1.out⟩
 | true =>
  have hR:=ht.1 rfl
  obtain ⟨x1,x2⟩:=en_yes hR
  obtain ⟨y1,y2⟩:=pk_yes (of_rtd hR)
  have hp:=qpack_any L next since w1 a cap (li_vin (HL.out.later c1)) HL.out.l (fun v hv => HL.out.z v hv) (fun v hv => HP.out v hv) (HT.out.below c1) (HK.out.seq c1)
  rw [y1,y2,← x1,← x2] at hp
  obtain ⟨p0,p1,p2,_⟩:=(HZ.out.later c1).cells
  clear ht c1 HZ HL HT HK HP hR x1 x2 y1 y2
  go_wp2_with fail
  clear p0 p1 p2
  with_reducible refine Calls.mono hp ?_
  rintro e w2 ⟨rfl,c2⟩
  dsimp only
  have HB2:=Hid.mk (below_seq HB1.out c2)
  clear hp c2
  go_wp2_with fail
  go_ret2
  exact ⟨rfl,HB2.out⟩
def DqP (s : List UInt8) (w : World) (e : Ending) (w' : World) : Prop :=
 ((∃ (L : List Vs) (next since : Int) (va : Option Addr) (vc : Nat),RtD since next L ∧ s = arc L next since ∧ e = .returned (.tuple #[Stk.dv since next va L.length vc,.int .i64 0]) ∧ Li w' L va L.length vc) ∨
  ((∀ L n c,RtD c n L → ¬ s = arc L n c) ∧ e = .returned (.tuple #[Stk.dv 0 0 none 0 0,.int .i64 90]))) ∧ Below w.heap.size w w'
theorem vin_li {w : World} {L : List Vs} {a : Option Addr} {c : Nat} {since next : Int} (h : VIn w a L) (hr : RmS a L.length c) (hR : RtD since next L) : Li w L a L.length c:=by
 refine ⟨rfl,⟨⟨h.get⟩,hr.1,hr.2.1,hr.2.2⟩,by have:=hR.b.len; omega,fun v hv => ?_⟩
 have h1 : vrE v.key v.mkr v.data v.l = 0:=(hR.b.ok v hv).2.2
 have:=(mtE_iff (vrE_parts.1 h1).2.2.2).1
 omega
theorem vin_box3 {w : World} {a : Option Addr} {L : List Vs} (h : VIn w a L) {g : Nat} {p q r : Value} (hb : Bd w g p q r) (hp : ∀ s,p ≠ .string s) (hq : ∀ s,q ≠ .string s) (hr : ∀ s,r ≠ .string s) (x y z : Value) : VIn (((w.setCell ⟨g,0,none⟩ x).setCell ⟨g,1,none⟩ y).setCell ⟨g,2,none⟩ z) a L:=by
 have hk : ∀ k,k ≠ g → (((w.setCell ⟨g,0,none⟩ x).setCell ⟨g,1,none⟩ y).setCell ⟨g,2,none⟩ z).heap[k]? = w.heap[k]?:=fun k hk => by rw [hso _ _ hk,hso _ _ hk,hso _ _ hk]
 have hne : ∀ b j s,w.cell? ⟨b,j,none⟩ = some (.string s) → b ≠ g:=fun b j s hc e => by
  subst e
  rw [cell_of_row _ _ _ _ _ _ hb] at hc
  rcases j with _ | _ | _ | j
  ·injection hc with hc; exact hp _ hc
  ·injection hc with hc; exact hq _ hc
  ·injection hc with hc; exact hr _ hc
  ·cases hc
 refine ⟨fun k v hv => ?_⟩
 obtain ⟨b,off,ma,mc,h1,h2,c0,c1,c2,c3,c4,s⟩:=h.get k v hv
 have hb1:=hk b (hne _ _ _ c0)
 refine ⟨b,off,ma,mc,h1,by simpa using h2,(cell_heapQ hb1 _).trans c0,(cell_heapQ hb1 _).trans c1,(cell_heapQ hb1 _).trans c2,(cell_heapQ hb1 _).trans c3,(cell_heapQ hb1 _).trans c4,⟨⟨fun i p hp => ?_⟩,s.le,s.max,s.nil⟩⟩
 obtain ⟨b',off',e1,e2,k0,k1⟩:=s.at'.get i p hp
 have hb2:=hk b' (hne _ _ _ k0)
 exact ⟨b',off',e1,by simpa using e2,(cell_heapQ hb2 _).trans k0,(cell_heapQ hb2 _).trans k1⟩
set_option maxHeartbeats 8000000 in
theorem qdecode_x (s : List UInt8) (w : World) (hs : s.length ≤ 1048576) (hT : TB w) (hK : KIn w) : Calls Tryz.prog 21 #[str s] w (DqP s w):=by
 have b1:=(Below.refl w.heap.size w).alloc (Nat.le_refl _) (.cells #[.int .i64 0,.int .i64 0,.slice none 0 0] 53)
 have z1:=Bd.new w (.int .i64 0) (.int .i64 0) (.slice none 0 0)
 have hsz1 : (w.alloc (.cells #[.int .i64 0,.int .i64 0,.slice none 0 0] 53)).heap.size = w.heap.size + 1:=by simp
 have hrd:=qunpack_any s (w.alloc (.cells #[.int .i64 0,.int .i64 0,.slice none 0 0] 53)) hs (hT.below b1) (hK.seq b1)
 have HB1:=Hid.mk b1
 have HZ1:=Hid.mk z1
 have HSz:=Hid.mk hsz1
 clear b1 z1 hT hK hs hsz1
 go_enter Tryz.func21,Tryz.ntmps21
 go_wp2_with fail
 generalize w.alloc (.cells #[.int .i64 0,.int .i64 0,.slice none 0 0] 53) = W1 at *
 with_reducible refine Calls.mono hrd ?_
 rintro e w2 ⟨h2,b2⟩
 clear hrd
 have HB2:=Hid.mk (below_seq HB1.out b2)
 have HZ2:=Hid.mk (HZ1.out.later b2)
 clear HB1 HZ1 b2
 rcases h2 with ⟨L,next,since,va,vc,hArc,rfl,hV,hRm⟩ | ⟨hno,rfl⟩
 rotate_left
 ·have HNo : Hid (∀ L n c,RtD c n L → ¬ s = arc L n c):=⟨fun L n c h q => hno _ _ _ ⟨of_rtd h,q⟩⟩
  have bx:=(Below.refl w2.heap.size w2).alloc (Nat.le_refl _) (.cells #[.int .i64 0,.slice none 0 0] 24)
  have hz:=HZ2.out.later bx
  obtain ⟨y0,y1,y2,fz⟩:=hz.cells
  have f0:=fz 0
  have f1:=fz 1
  have f2:=fz 2
  have n3:=((hz.set0 (.int .i64 0)).set1 (.int .i64 0)).set2 (.slice none 0 0)
  have B5:=Hid.mk (bd3 (g:=w.heap.size) (below_seq HB2.out bx) (Nat.le_refl _) (.int .i64 0) (.int .i64 0) (.slice none 0 0))
  clear hno hz bx fz
  dsimp only
  go_wp2_with fail
  generalize (((w2.alloc (.cells #[.int .i64 0,.slice none 0 0] 24)).setCell ⟨w.heap.size,0,none⟩ (.int .i64 0)).setCell ⟨w.heap.size,1,none⟩ (.int .i64 0)).setCell ⟨w.heap.size,2,none⟩ (.slice none 0 0) = W9 at *
  obtain ⟨q0,q1,q2,_⟩:=n3.cells
  refine bodyPost_ret (v := .tuple #[Stk.dv 0 0 none 0 0,.int .i64 90]) ?_ rfl ⟨.inr ⟨HNo.out,rfl⟩,B5.out⟩
  rw [results_ct2 rfl]
  go_simp
 have bx:=(Below.refl w2.heap.size w2).alloc (Nat.le_refl _) (.cells #[.int .i64 next,.slice va L.length vc] 24)
 have hz3:=HZ2.out.later bx
 have hx3:=Bb2.new w2 next (.slice va L.length vc)
 have HF3:=Hid.mk (hV.later bx)
 have HB3:=Hid.mk (below_seq HB2.out bx)
 obtain ⟨y0,y1,y2,fz⟩:=hz3.cells
 obtain ⟨x0,x1⟩:=hx3.cells
 have f0:=fz 0
 have f1:=fz 1
 have f2:=fz 2
 by_cases hs0 : since = 0
 ·subst hs0
  have HNo : Hid (∀ L n c,RtD c n L → ¬ s = arc L n c):=⟨fun M n c h q => by
   have h1:=(hArc.two (⟨of_rtd h,q⟩ : Arc s M n c)).2.2
   have h2:=h.s1
   omega⟩
  have n3:=((hz3.set0 (.int .i64 0)).set1 (.int .i64 0)).set2 (.slice none 0 0)
  have B5:=Hid.mk (bd3 (g:=w.heap.size) HB3.out (Nat.le_refl _) (.int .i64 0) (.int .i64 0) (.slice none 0 0))
  clear bx hz3 hx3 hV hArc HF3 HB3 x0 x1 fz hRm
  dsimp only
  go_wp2_with fail
  generalize (((w2.alloc (.cells #[.int .i64 next,.slice va L.length vc] 24)).setCell ⟨w.heap.size,0,none⟩ (.int .i64 0)).setCell ⟨w.heap.size,1,none⟩ (.int .i64 0)).setCell ⟨w.heap.size,2,none⟩ (.slice none 0 0) = W9 at *
  obtain ⟨q0,q1,q2,_⟩:=n3.cells
  refine bodyPost_ret (v := .tuple #[Stk.dv 0 0 none 0 0,.int .i64 90]) ?_ rfl ⟨.inr ⟨HNo.out,rfl⟩,B5.out⟩
  rw [results_ct2 rfl]
  go_simp
 ·have d1 : (since == 0) = false:=beq_eq_false_iff_ne.2 hs0
  have HA : Hid (RtD since next L ∧ s = arc L next since):=⟨rtd_of hArc.1 hs0,hArc.2⟩
  have n3:=((hz3.set0 (.int .i64 since)).set1 (.int .i64 next)).set2 (.slice va L.length vc)
  have B5:=Hid.mk (bd3 (g:=w.heap.size) HB3.out (Nat.le_refl _) (.int .i64 since) (.int .i64 next) (.slice va L.length vc))
  have HF6:=Hid.mk (vin_li (vin_box3 HF3.out hz3 (fun s q => by cases q) (fun s q => by cases q) (fun s q => by cases q) (.int .i64 since) (.int .i64 next) (.slice va L.length vc)) hRm HA.out.1)
  clear bx hz3 hx3 hV hArc HF3 HB3 hs0 fz hRm
  dsimp only
  go_wp2_with fail
  generalize (((w2.alloc (.cells #[.int .i64 next,.slice va L.length vc] 24)).setCell ⟨w.heap.size,0,none⟩ (.int .i64 since)).setCell ⟨w.heap.size,1,none⟩ (.int .i64 next)).setCell ⟨w.heap.size,2,none⟩ (.slice va L.length vc) = W9 at *
  obtain ⟨q0,q1,q2,_⟩:=n3.cells
  refine bodyPost_ret (v := .tuple #[Stk.dv since next va L.length vc,.int .i64 0]) ?_ rfl ⟨.inl ⟨L,next,since,va,vc,HA.out.1,HA.out.2,rfl,HF6.out⟩,B5.out⟩
  rw [results_ct2 rfl]
  go_simp
end
section
open Go.RowKit
open Go.Proofs.YtdfjlmfnkhhnjaaGreatDoorP (TB)
open Go.Proofs.YtdfjlmfnkhhnjaaGreatDoorH (KIn)
open Stk (RtD Bd Cp Li Pz)
attribute [local go_sem ↓] Go.wp_at_zero Go.wp_at_succ
theorem dec_both {s : List UInt8} : (∃ (L : List Vs) (n c : Int),RtD c n L ∧ s = arc L n c) ∨ ∀ L n c,RtD c n L → ¬ s = arc L n c:=by
 by_cases h : ∃ (L : List Vs) (n c : Int),RtD c n L ∧ s = arc L n c
 ·exact .inl h
 ·exact .inr fun L n c h1 h2 => h ⟨L,n,c,h1,h2⟩
theorem dec_uni (s : List UInt8) : ∃ (D : List Vs) (n c cd : Int),D.length ≤ 1000 ∧ (∀ w w' e,DeP s w e w' → ∃ va vc,e = .returned (.tuple #[Stk.dv c n va D.length vc,.int .i64 cd]) ∧ Li w' D va D.length vc ∧ Below w.heap.size w w') ∧ ∀ w w' e,DqP s w e w' → ∃ va vc,e = .returned (.tuple #[Stk.dv c n va D.length vc,.int .i64 cd]) ∧ Li w' D va D.length vc ∧ Below w.heap.size w w':=by
 rcases dec_both (s:=s) with ⟨L,n,c,hR,hA⟩ | hno
 ·have key : ∀ L2 n2 c2,RtD c2 n2 L2 → s = arc L2 n2 c2 → L2 = L ∧ n2 = n ∧ c2 = c:=fun L2 n2 c2 h1 h2 => Arc.two (s:=s) ⟨of_rtd h1,h2⟩ ⟨of_rtd hR,hA⟩
  refine ⟨L,n,c,0,by have:=hR.b.len; omega,fun w w' e h => ?_,fun w w' e h => ?_⟩
  ·obtain ⟨⟨L2,n2,c2,va,vc,h1,h2,rfl,h3⟩ | ⟨h1,_⟩,hb⟩:=h
   ·obtain ⟨rfl,rfl,rfl⟩:=key _ _ _ h1 h2
    exact ⟨va,vc,rfl,(rtd_li h3 h1).1,hb⟩
   ·exact absurd hA (h1 _ _ _ hR)
  ·obtain ⟨⟨L2,n2,c2,va,vc,h1,h2,rfl,h3⟩ | ⟨h1,_⟩,hb⟩:=h
   ·obtain ⟨rfl,rfl,rfl⟩:=key _ _ _ h1 h2
    exact ⟨va,vc,rfl,h3,hb⟩
   ·exact absurd hA (h1 _ _ _ hR)
 ·refine ⟨[],0,0,90,by simp,fun w w' e h => ?_,fun w w' e h => ?_⟩
  ·obtain ⟨⟨L2,n2,c2,va,vc,h1,h2,_,_⟩ | ⟨_,rfl⟩,hb⟩:=h
   ·exact absurd h2 (hno _ _ _ h1)
   ·exact ⟨none,0,rfl,⟨rfl,Stk.Ls.none _,by simp,by simp⟩,hb⟩
  ·obtain ⟨⟨L2,n2,c2,va,vc,h1,h2,_,_⟩ | ⟨_,rfl⟩,hb⟩:=h
   ·exact absurd h2 (hno _ _ _ h1)
   ·exact ⟨none,0,rfl,⟨rfl,Stk.Ls.none _,by simp,by simp⟩,hb⟩
set_option maxHeartbeats 8000000 in
theorem codes_walk (L : List Vs) (since next : Int) (a : Option Addr) (cap : Nat) (s : List UInt8) (W : World) (hL : Li W L a L.length cap) (hP : ∀ u ∈ L,Pz u.l) (hs : s.length ≤ 1048576) (hT : TB W) (hE : EG W) (hK : KIn W) :
  Calls Tryz.prog 5 #[Stk.dv since next a L.length cap,str s] W fun e W' => e = .returned (.bool true) ∧ Below W.heap.size W W':=by
 have b0:=(Below.refl W.heap.size W).alloc (Nat.le_refl _) (.cells #[.int .i64 since,.int .i64 next,.slice a L.length cap] 53)
 have HZ:=Hid.mk (Bd.new W (.int .i64 since) (.int .i64 next) (.slice a L.length cap))
 have HL:=Hid.mk (hL.later b0)
 have HB:=Hid.mk b0
 have HT:=Hid.mk hT
 have HE:=Hid.mk hE
 have HK:=Hid.mk hK
 have HP:=Hid.mk hP
 have HS:=Hid.mk hs
 clear hL hT hE hK hP b0 hs
 go_enter Tryz.func5,Tryz.ntmps5
 go_wp2_with fail
 generalize W.alloc (.cells #[.int .i64 since,.int .i64 next,.slice a L.length cap] 53) = W1 at *
 obtain ⟨g0,hg0⟩ : ∃ g,g = W.heap.size:=⟨_,rfl⟩
 rw [← hg0] at HZ ⊢
 clear hg0
 with_reducible refine Calls.mono (Stk.first_any _) ?_
 rintro e w1 ⟨rfl,cx⟩
 replace HZ:=Hid.mk (HZ.out.later cx)
 replace HL:=Hid.mk (HL.out.later cx)
 replace HB:=Hid.mk (below_seq HB.out cx)
 clear cx
 dsimp only
 have hcp : ∀ w',Below w1.heap.size w1 w' → Calls Tryz.prog 16 #[.agg #[.int .i64 next,.slice a L.length cap]] w' fun e w'' => (∃ ya yc,e = .returned (.agg #[.int .i64 next,.slice ya L.length yc]) ∧ Cp w'.heap.size w'' (.slice ya L.length yc) L) ∧ Below w'.heap.size w' w'':=fun w' h => (Stk.qCopy_any L next w' a _ cap rfl (HL.out.later h).s HL.out.l HL.out.z).mono (by
  rintro e w'' ⟨vx,rfl,ox,hb⟩
  obtain ⟨ya,yc,rfl,_⟩:=ox.ls
  exact ⟨⟨ya,yc,rfl,ox⟩,hb⟩)
 obtain ⟨X,C,HX⟩ : ∃ (X : List UInt8) (C : Int),Hid (enX L next since = X ∧ enC L next since = C):=⟨_,_,⟨rfl,rfl⟩⟩
 have hen : ∀ (w' : World) (ya : Option Addr) (yc base : Nat),Below w1.heap.size w1 w' → Cp base w' (.slice ya L.length yc) L → Calls Tryz.prog 15 #[.agg #[.int .i64 since,.int .i64 next,.slice ya L.length yc]] w' fun e w'' => e = .returned (.tuple #[str X,.int .i64 C]) ∧ Below w'.heap.size w' w'':=fun w' ya yc base h hc => by
  have hli : Li w' L ya L.length yc:=by
   obtain ⟨a',c',e,s⟩:=hc.ls
   injection e with e1 e2 e3
   subst e1 e3
   exact ⟨rfl,s,HL.out.l,HL.out.z⟩
  have hb:=below_seq HB.out h
  have:=encode_x L next since w' ya _ yc hli (HT.out.below hb) (HK.out.seq hb)
  rw [HX.out.1,HX.out.2] at this
  exact this
 have HSS : Hid (∀ w',Below w1.heap.size w1 w' → Below w1.heap.size w1 w' ∧ w'.cell? ⟨g0,0,none⟩ = some (.int .i64 since) ∧ w'.cell? ⟨g0,1,none⟩ = some (.int .i64 next) ∧ w'.cell? ⟨g0,2,none⟩ = some (.slice a L.length cap)):=⟨fun w' h => by
  obtain ⟨r0,r1,r2,_⟩:=(HZ.out.later h).cells
  exact ⟨h,r0,r1,r2⟩⟩
 have hcc : Below w1.heap.size w1 w1.drew:=(Below.refl _ _).drew
 go_wp2_with fail
 go_region_held3 (fun w' => Below w1.heap.size w1 w' ∧ w'.cell? ⟨g0,0,none⟩ = some (.int .i64 since) ∧ w'.cell? ⟨g0,1,none⟩ = some (.int .i64 next) ∧ w'.cell? ⟨g0,2,none⟩ = some (.slice a L.length cap)) (first | with_reducible exact HSS.out _ hcc) (first
  | (go_at_call 16; with_reducible refine Calls.mono (hcp _ hcc) ?_; rintro e wA ⟨⟨ya,yc,rfl,oy⟩,x1⟩; replace hcc:=below_seq hcc x1; clear x1)
  | (go_at_call 15; with_reducible refine Calls.mono (hen _ ya yc _ hcc oy) ?_; rintro e wB ⟨rfl,x1⟩; replace hcc:=below_seq hcc x1; clear x1 oy))
 rename_i hHeld
 clear hHeld HSS hcp hen
 replace HZ:=Hid.mk (HZ.out.later hcc)
 replace HL:=Hid.mk (HL.out.later hcc)
 replace HB:=Hid.mk (below_seq HB.out hcc)
 clear hcc
 generalize wB = w2 at *
 have hq:=qencode_x L next since w2 a _ cap HL.out HP.out (HT.out.below HB.out) (HK.out.seq HB.out)
 rw [HX.out.1,HX.out.2] at hq
 obtain ⟨p0,p1,p2,_⟩:=HZ.out.cells
 go_wp2_with fail
 clear p0 p1 p2
 with_reducible refine Calls.mono hq ?_
 rintro e w3 ⟨rfl,cx⟩
 clear hq
 replace HB:=Hid.mk (below_seq HB.out cx)
 clear cx HZ HL HP HX
 dsimp only
 obtain ⟨D,n,c,cd,hDl,hD1,hD2⟩:=dec_uni s
 have HD2:=Hid.mk hD2
 have HDl:=Hid.mk hDl
 have hd:=(decode_x s w3 (Nat.le_trans HS.out (by decide)) (HT.out.below HB.out) (HE.out.below HB.out) (HK.out.seq HB.out)).mono fun e w' h => hD1 _ _ _ h
 clear hD1 hD2 hDl
 go_wp2_with fail
 with_reducible refine Calls.mono hd ?_
 rintro e w4 ⟨xa,xc,rfl,hl4,cx⟩
 clear hd
 have c2:=(Below.refl w4.heap.size w4).alloc (Nat.le_refl _) (.cells #[.int .i64 c,.int .i64 n,.slice xa D.length xc] 53)
 have HZ3:=Hid.mk (Bd.new w4 (.int .i64 c) (.int .i64 n) (.slice xa D.length xc))
 have HL3:=Hid.mk (hl4.later c2)
 replace HB:=Hid.mk (below_seq (below_seq HB.out cx) c2)
 clear cx c2 hl4
 dsimp only
 have hd:=(qdecode_x s (w4.alloc (.cells #[.int .i64 c,.int .i64 n,.slice xa D.length xc] 53)) HS.out (HT.out.below HB.out) (HK.out.seq HB.out)).mono fun e w' h => HD2.out _ _ _ h
 clear HD2
 go_wp2_with fail
 generalize w4.alloc (.cells #[.int .i64 c,.int .i64 n,.slice xa D.length xc] 53) = w5 at *
 obtain ⟨g4,hg4⟩ : ∃ g,g = w4.heap.size:=⟨_,rfl⟩
 rw [← hg4] at HZ3 ⊢
 clear hg4
 with_reducible refine Calls.mono hd ?_
 rintro e w6 ⟨ya,yc,rfl,hl6,cx⟩
 clear hd
 have c2:=(Below.refl w6.heap.size w6).alloc (Nat.le_refl _) (.cells #[.int .i64 c,.int .i64 n,.slice ya D.length yc] 53)
 have HZ4:=Hid.mk (Bd.new w6 (.int .i64 c) (.int .i64 n) (.slice ya D.length yc))
 have HL4:=Hid.mk (hl6.later c2)
 replace HL3:=Hid.mk ((HL3.out.later cx).later c2)
 replace HZ3:=Hid.mk ((HZ3.out.later cx).later c2)
 replace HB:=Hid.mk (below_seq (below_seq HB.out cx) c2)
 clear cx c2 hl6
 dsimp only
 have hsm:=Stk.eSame_eq c n D (w6.alloc (.cells #[.int .i64 c,.int .i64 n,.slice ya D.length yc] 53)) xa xc ya yc HL3.out HL4.out (by have:=HDl.out; omega)
 obtain ⟨p0,p1,p2,_⟩:=HZ3.out.cells
 obtain ⟨q0,q1,q2,_⟩:=HZ4.out.cells
 have hXX : (X == X) = true:=beq_self_eq_true X
 have hCC : (C == C) = true:=beq_self_eq_true C
 have hcd : (cd == cd) = true:=beq_self_eq_true cd
 go_wp2_with fail
 clear p0 p1 p2 q0 q1 q2
 with_reducible refine Calls.mono hsm ?_
 rintro e w7 ⟨rfl,cx⟩
 clear hsm
 replace HB:=Hid.mk (below_seq HB.out cx)
 clear cx
 dsimp only
 go_wp2_with fail
 go_ret
 exact ⟨rfl,HB.out⟩
end
end Go.Proofs.YtdfjlmfnkhhnjaaGreatDoor
