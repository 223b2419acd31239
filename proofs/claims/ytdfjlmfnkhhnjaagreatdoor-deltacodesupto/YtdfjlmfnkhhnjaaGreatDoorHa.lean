import Derived.Test.YtdfjlmfnkhhnjaaGreatDoorGn
import Derived.Test.YtdfjlmfnkhhnjaaGreatDoorGj
set_option maxRecDepth 100000
set_option linter.unusedVariables false
set_option linter.unusedSimpArgs false
namespace Go.Proofs.YtdfjlmfnkhhnjaaGreatDoor
section
open Go.RowKit Go.Shelf
open Go.Proofs.YtdfjlmfnkhhnjaaGreatDoorP (TB recd nn LEN key)
open Go.Proofs.YtdfjlmfnkhhnjaaGreatDoorH (hv hexL hv_length)
attribute [local go_sem] Oper.semAt_some
attribute [local go_sem ↓] ldIe stIe
theorem mrecords_any (s n : Int) (v : Value) (hv : v.oneCell' = true) (w : World) :
  Calls Tryz.prog 25 #[.agg #[.int .i64 s,.int .i64 n,v]] w fun e w' => e = .returned (.func (.func 52) #[] #[.pointer (some ⟨w.heap.size,0,none⟩)]) ∧ w' = w.alloc (.cells #[.int .i64 s,.int .i64 n,v] 28):=by
 go_enter Tryz.func25,Tryz.ntmps25
 go_wp2_with fail
 go_ret
 exact ⟨rfl,rfl⟩
structure IIe (w : World) (a : Option Addr) (L : List It) (E : Nat → Option Addr × Nat) : Prop where
 get : ∀ k x,L[k]? = some x → ∃ b off,a = some ⟨b,off,none⟩ ∧ b < w.heap.size ∧ w.rangeAt b (off + k * 37) (ic x (E k).1 (E k).2) ∧ Sl w (E k).1 (E k).2 x.l
theorem IIe.later {w w' : World} {a : Option Addr} {L : List It} {E : Nat → Option Addr × Nat} (h : IIe w a L E) {B : Nat} (hb : Below B w w') (hB : w.heap.size ≤ B) : IIe w' a L E:=⟨fun k x hx => by
 obtain ⟨b,off,h1,h2,h3,h4⟩:=h.get k x hx
 exact ⟨b,off,h1,Nat.lt_of_lt_of_le h2 hb.size,range_later h3 h2 (hb.mono hB),h4.later (hb.mono hB)⟩⟩
theorem IIt.ex {w : World} {a : Option Addr} {L : List It} (h : IIt w a L) : ∃ E,IIe w a L E:=by
 classical
 have h2 : ∀ k,∃ q : Option Addr × Nat,∀ x,L[k]? = some x → ∃ b off,a = some ⟨b,off,none⟩ ∧ b < w.heap.size ∧ w.rangeAt b (off + k * 37) (ic x q.1 q.2) ∧ Sl w q.1 q.2 x.l:=fun k => by
  cases hk : L[k]? with
  | none => exact ⟨(none,0),fun x hx => by cases hx⟩
  | some x =>
   obtain ⟨b,off,ma,mc,e1,e2,e3,e4⟩:=h.get k x hk
   exact ⟨(ma,mc),fun y hy => by injection hy with hy; subst hy; exact ⟨b,off,e1,e2,e3,e4⟩⟩
 exact ⟨fun k => Classical.choose (h2 k),⟨fun k x hx => Classical.choose_spec (h2 k) x hx⟩⟩
def pre (m : Ma) (k : Nat) : List Kv:=headR m ++ ((m.items.take k).map itemR).flatten
theorem pre_succ {m : Ma} {k : Nat} {x : It} (h : m.items[k]? = some x) : (pre m (k + 1)).length = (pre m k).length + (itemR x).length:=by
 unfold pre
 rw [List.take_add_one,h]
 simp
 omega
theorem pre_rec {m : Ma} {k : Nat} {x : It} (h : m.items[k]? = some x) {j : Nat} {p : Kv} (hp : (itemR x)[j]? = some p) : (recs m)[(pre m k).length + j]? = some p:=by
 have hj:=(List.getElem?_eq_some_iff.1 hp).1
 obtain ⟨hk,he⟩:=List.getElem?_eq_some_iff.1 h
 have e : m.items = m.items.take k ++ x :: m.items.drop (k + 1):=by rw [← he,List.getElem_cons_drop]; simp
 have e2 : recs m = pre m k ++ (itemR x ++ (((m.items.drop (k + 1)).map itemR).flatten ++ [(sEnd,sMani)])):=by
  unfold recs pre
  conv => lhs; rw [e]
  simp
 rw [e2,List.getElem?_append_right (by omega),Nat.add_sub_cancel_left,List.getElem?_append_left hj]
 exact hp
theorem pre_all (m : Ma) : recs m = pre m m.items.length ++ [(sEnd,sMani)]:=by unfold recs pre; rw [List.take_length]
abbrev mkd (D : Nat) : Deferred := { target := .collected D,args:=#[] }
abbrev defd : Obj := .deferred (some [])
set_option maxHeartbeats 8000000 in
theorem recs_tells (m : Ma) (hm : RtM m) (g : Nat) (a : Option Addr) (cap : Nat) (E : Nat → Option Addr × Nat) :
  Tells Tryz.prog 52 #[.pointer (some ⟨g,0,none⟩)] (recs m) (fun W => Bm3 W g m.since m.next (.slice a m.items.length cap) ∧ IIe W a m.items E ∧ TB W):=by
 intro mm l J W hJ hJb hY hJ0
 have HY:=Hid.mk hY
 have HJ:=Hid.mk hJ
 have HK:=Hid.mk hJb
 clear hY hJ hJb
 obtain ⟨yl,hyl⟩ : ∃ o : Obj,o = .cells #[.func (.yield l) #[] #[]] 103:=⟨_,rfl⟩
 obtain ⟨bm,hbm⟩ : ∃ o : Obj,o = .cells #[.int .i64 m.since,.int .i64 m.next,.slice a m.items.length cap] 28:=⟨_,rfl⟩
 have P0 : Pv J [] 0 0 W nob:=Pv.start HJ.out hJ0
 have P1:=P0.add HJ.out yl
 have P2:=P1.add HJ.out bm
 have c1 : (W.alloc yl).cell? ⟨g,0,none⟩ = some (.int .i64 m.since) ∧ (W.alloc yl).cell? ⟨g,1,none⟩ = some (.int .i64 m.next) ∧ (W.alloc yl).cell? ⟨g,2,none⟩ = some (.slice a m.items.length cap):=(HK.out _ _ _ P1.j).1.cells
 obtain ⟨p0,p1,p2⟩:=c1
 rw [hyl] at p0 p1 p2 P1 P2
 refine callsIn_of_wp_marks Tryz.func52 rfl trivial ?_ rfl
 simp only [Tryz.ntmps52,List.size_toArray,List.length_cons,List.length_nil,Nat.reduceAdd,Nat.reduceSub,Array.replicate_succ,Array.replicate_zero,List.push_toArray,List.append_toArray,List.nil_append,List.cons_append]
 gi_wp2
 refine ⟨trivial,(fun h => (by cases h)),(callsIn_wide.2 (headRecords_any m.since m.next (.slice a m.items.length cap) rfl _)).mono ?_⟩
 rintro e W2 ⟨rfl,rfl⟩
 gi_wp2
 rw [hbm] at P2
 have HL : Hid (∀ x ∈ m.items,RtI m x):=⟨hm.it⟩
 have hsz1 : (W.alloc (.cells #[.func (.yield l) #[] #[]] 103)).heap.size = W.heap.size + 1:=by simp
 rw [hsz1] at P2
 have hrc : Hid (recs m = headR m ++ (m.items.map itemR).flatten ++ [(sEnd,sMani)]):=⟨rfl⟩
 refine wp_tells rfl (enters_of Tryz.func96 (by kernel_rfl) rfl) (head_tells m (W.heap.size + 1) a cap hm.c1 (Int.le_trans hm.c2 hm.n2) (by have:=hm.n1; omega) hm.n2 hm.len) rfl
  (Pv J [(W.heap.size + 1,.cells #[.int .i64 m.since,.int .i64 m.next,.slice a m.items.length cap] 28),(W.heap.size,.cells #[.func (.yield l) #[] #[]] 103)] 0) (Pv.abid HJ.out _ _) (fun k W1 X1 h => ⟨h.at' _ _ (by simp),(HK.out _ _ _ h.j).2.2⟩) P2
  (fun p => { tmps:=#[.func (.yield l) #[] #[],.pointer (some ⟨g,0,none⟩),.pointer (some ⟨W.heap.size,0,none⟩),str p.1,str p.2,undef,undef,undef,undef,.agg #[.int .i64 m.since,.int .i64 m.next,.slice a m.items.length cap],.func (.func 96) #[] #[.pointer (some ⟨W.heap.size + 1,0,none⟩)],str p.1,str p.2,undef,undef,undef,undef,undef,undef,undef,undef,undef,undef,undef,undef,undef,undef,undef,undef,undef,undef,undef,undef,undef,undef,undef,undef],defers := [] }) ?assign ?body ?done
 case assign =>
  intro l1 p W3 K3 hK3
  gi_wp2
  exact hK3
 case body =>
  rintro l1 k p W3 X hp hP
  have h0:=hP.at' W.heap.size (.cells #[.func (.yield l) #[] #[]] 103) (by simp)
  have hc : W3.cell? ⟨W.heap.size,0,none⟩ = some (.func (.yield l) #[] #[]):=by rw [cell_of_row _ _ 0 _ _ _ h0]; rfl
  have hR2 : (recs m)[0 + k]? = some p:=by rw [hrc.out,List.append_assoc,List.getElem?_append_left (by have:=(List.getElem?_eq_some_iff.1 hp).1; omega),Nat.zero_add]; exact hp
  obtain ⟨fn,t,as1,bo,hy,hR⟩:=HY.out (0 + k) p W3 _ hR2 hP.j (mm - 1)
  gi_wp2
  refine ⟨(fun h => (by cases h)),RoundIn.mono (F:=Fence.wide.inRound l1) hR ?_⟩
  rintro e W4 ⟨rfl,hj4,hs4⟩
  gi_wp2
  exact hP.round hj4 hs4
 case done =>
  intro W5 hP5 hD5
  have hP6:=hP5.done HJ.out hD5
  clear hP5 P0 P1 P2 p0 p1 p2
  obtain ⟨p0,p1,p2⟩:=(HK.out _ _ _ hP6.j).1.cells
  gi_wp2
  have HS : Hid (∃ (L : List (Nat × Obj)) (Ds : List Nat),Pv J L (pre m 0).length 0 W5 nob ∧ (W.heap.size,.cells #[.func (.yield l) #[] #[]] 103) ∈ L ∧ (∀ D ∈ Ds,(D,defd) ∈ L) ∧ Ds.Nodup ∧ Ds.map mkd = [mkd ((W.alloc (.cells #[.func (.yield l) #[] #[]] 103)).alloc (.cells #[.int .i64 m.since,.int .i64 m.next,.slice a m.items.length cap] 28)).heap.size]):=⟨_,[_],by
   have e0 : (pre m 0).length = 0 + (headR m).length:=by simp [pre]
   rw [e0]; exact hP6,by simp,by simp,by simp,rfl⟩
  clear hP6 hD5 p0 p1 p2
  obtain ⟨L0,Ds0,q1,q2,q3,q4,q5⟩:=HS.out
  rw [show [({ target:=Target.collected ((W.alloc (.cells #[.func (.yield l) #[] #[]] 103)).alloc (.cells #[.int .i64 m.since,.int .i64 m.next,.slice a m.items.length cap] 28)).heap.size,args:=#[] } : Deferred)] = Ds0.map mkd from q5.symm]
  clear q5 HS
  refine wpIn_loop (fun a' W' => ∃ (k : Nat) (L : List (Nat × Obj)) (Ds : List Nat) (y6 y22 y23 y24 y25 y26 y34 : Value),k ≤ m.items.length ∧ a' = { tmps:=#[.func (.yield l) #[] #[],.pointer (some ⟨g,0,none⟩),.pointer (some ⟨W.heap.size,0,none⟩),undef,undef,undef,y6,undef,undef,.agg #[.int .i64 m.since,.int .i64 m.next,.slice a m.items.length cap],.func (.func 96) #[] #[.pointer (some ⟨W.heap.size + 1,0,none⟩)],undef,undef,undef,undef,undef,undef,undef,.pointer (some ⟨g,2,none⟩),.slice a m.items.length cap,.int .i64 (m.items.length : Int),.int .i64 (k : Int),y22,y23,y24,y25,y26,undef,undef,undef,undef,undef,undef,undef,y34,undef,undef],defers:=Ds.map mkd } ∧ Hid (Pv J L (pre m k).length 0 W' nob ∧ (W.heap.size,.cells #[.func (.yield l) #[] #[]] 103) ∈ L ∧ (∀ D ∈ Ds,(D,defd) ∈ L) ∧ Ds.Nodup)) (fun a' _ => m.items.length - (intOf (a'.tmps.getD 21 undef)).toNat) ⟨0,L0,Ds0,_,_,_,_,_,_,_,Nat.zero_le _,rfl,⟨q1,q2,q3,q4⟩⟩ ?_
  rintro a' W6 ⟨k,L,Ds,y6,y22,y23,y24,y25,y26,y34,hk,rfl,HS⟩
  clear q1 q2 q3 q4 L0 Ds0
  obtain ⟨hP,hy0,hD0,hnd⟩:=HS.out
  have hlen:=hm.len
  by_cases hlt : k < m.items.length
  ·have d1 : decide ((k : Int) < (m.items.length : Int)) = true:=decide_eq_true (by omega)
   have k2 : (k : Int) < (m.items.length : Int):=by omega
   have hw1 : wrap64 ((k : Int) + 1) = ((k + 1 : Nat) : Int):=by unfold wrap64; omega
   obtain ⟨x,hx⟩ : ∃ x,m.items[k]? = some x:=⟨m.items[k],List.getElem?_eq_getElem hlt⟩
   obtain ⟨b,off,hab,hbl,hr,hs⟩:=(HK.out _ _ _ hP.j).2.1.get k x hx
   subst hab
   have l1:=run_ldI hr
   have s1:=run_stI W6 x (E k).1 (E k).2
   have hPa:=hP.add HJ.out (.cells (ic x (E k).1 (E k).2).toArray 46)
   have l2:=run_ldI (Bi.range (Bi.new W6 x (E k).1 (E k).2))
   have hPb:=hPa.add HJ.out (.cells (ic x (E k).1 (E k).2).toArray 46)
   rw [World.size_alloc] at hPb
   have HX:=Hid.mk hx
   have Hlen:=Hid.mk hlen
   clear hx hr hs hP hPa hlen
   gi_wp2
   refine ⟨trivial,(fun h => (by cases h)),(callsIn_wide.2 (itemRecords_any x (E k).1 (E k).2 _)).mono ?_⟩
   rintro e W7 ⟨rfl,rfl⟩
   clear l1 l2 s1
   gi_wp2
   refine wp_tells rfl (enters_of Tryz.func98 (by kernel_rfl) rfl) (item_tells m x hm.n2 (HL.out x (List.mem_of_getElem? HX.out)) (W6.heap.size + 1) (E k).1 (E k).2) rfl
    (Pv J ((W6.heap.size + 1,.cells (ic x (E k).1 (E k).2).toArray 46) :: (W6.heap.size,.cells (ic x (E k).1 (E k).2).toArray 46) :: L) (pre m k).length) (Pv.abid HJ.out _ _) (fun k' W1 X1 h => by
     obtain ⟨h1,h2,h3⟩:=HK.out _ _ _ h.j
     obtain ⟨_,_,_,_,_,h4⟩:=h2.get k x HX.out
     exact ⟨h.at' _ _ (by simp),h4,h3⟩) hPb (fun p => { tmps:=#[.func (.yield l) #[] #[],.pointer (some ⟨g,0,none⟩),.pointer (some ⟨W.heap.size,0,none⟩),undef,undef,undef,.pointer (some ⟨W6.heap.size,0,none⟩),str p.1,str p.2,.agg #[.int .i64 m.since,.int .i64 m.next,.slice (some ⟨b,off,none⟩) m.items.length cap],.func (.func 96) #[] #[.pointer (some ⟨W.heap.size + 1,0,none⟩)],undef,undef,undef,undef,undef,undef,undef,.pointer (some ⟨g,2,none⟩),.slice (some ⟨b,off,none⟩) m.items.length cap,.int .i64 (m.items.length : Int),.int .i64 (k : Int),.bool true,.pointer (some ⟨b,off + k * 37,none⟩),.agg (ic x (E k).1 (E k).2).toArray,.agg (ic x (E k).1 (E k).2).toArray,.func (.func 98) #[] #[.pointer (some ⟨W6.heap.size + 1,0,none⟩)],str p.1,str p.2,undef,undef,undef,undef,undef,y34,undef,undef],defers := [] }) ?assign ?body ?done
   case assign =>
    intro l1 p W3 K3 hK3
    gi_wp2
    exact hK3
   case body =>
    rintro l1 j p W3 X hp hP
    have h0:=hP.at' W.heap.size (.cells #[.func (.yield l) #[] #[]] 103) (List.mem_cons_of_mem _ (List.mem_cons_of_mem _ hy0))
    have hc : W3.cell? ⟨W.heap.size,0,none⟩ = some (.func (.yield l) #[] #[]):=by rw [cell_of_row _ _ 0 _ _ _ h0]; rfl
    obtain ⟨fn,t,as1,bo,hy,hR⟩:=HY.out _ p W3 _ (pre_rec HX.out hp) hP.j (mm - 1)
    gi_wp2
    refine ⟨(fun h => (by cases h)),RoundIn.mono (F:=Fence.wide.inRound l1) hR ?_⟩
    rintro e W4 ⟨rfl,hj4,hs4⟩
    gi_wp2
    exact hP.round hj4 hs4
   case done =>
    intro W8 hP8 hD8
    have hP9:=hP8.done HJ.out hD8
    obtain ⟨D,hDe⟩ : ∃ D,D = ((W6.alloc (.cells (ic x (E k).1 (E k).2).toArray 46)).alloc (.cells (ic x (E k).1 (E k).2).toArray 46)).heap.size:=⟨_,rfl⟩
    rw [← hDe] at hP9 ⊢
    have hD2 : D = W6.heap.size + 2:=by rw [hDe]; simp
    have HS9 : Hid (Pv J ((D,defd) :: (W6.heap.size + 1,.cells (ic x (E k).1 (E k).2).toArray 46) :: (W6.heap.size,.cells (ic x (E k).1 (E k).2).toArray 46) :: L) (pre m (k + 1)).length 0 W8 nob ∧ (W.heap.size,.cells #[.func (.yield l) #[] #[]] 103) ∈ ((D,defd) :: (W6.heap.size + 1,.cells (ic x (E k).1 (E k).2).toArray 46) :: (W6.heap.size,.cells (ic x (E k).1 (E k).2).toArray 46) :: L) ∧ (∀ C ∈ D :: Ds,(C,defd) ∈ ((D,defd) :: (W6.heap.size + 1,.cells (ic x (E k).1 (E k).2).toArray 46) :: (W6.heap.size,.cells (ic x (E k).1 (E k).2).toArray 46) :: L)) ∧ (D :: Ds).Nodup):=⟨by rw [pre_succ HX.out]; exact hP9,List.mem_cons_of_mem _ (List.mem_cons_of_mem _ (List.mem_cons_of_mem _ hy0)),fun C hC => by
     rcases List.mem_cons.1 hC with q | q
     ·rw [q]; exact List.mem_cons_self
     ·exact List.mem_cons_of_mem _ (List.mem_cons_of_mem _ (List.mem_cons_of_mem _ (hD0 C q))),List.nodup_cons.2 ⟨fun q => by
     have h1:=(Array.getElem?_eq_some_iff.1 (HS.out.1.at' _ _ (hD0 D q))).1
     omega,hnd⟩⟩
    clear hP8 hPb hP9 hDe hD8
    gi_wp2
    refine ⟨⟨k + 1,_,D :: Ds,_,_,_,_,_,_,_,hlt,by rw [hw1]; rfl,HS9⟩,?_⟩
    show m.items.length - (intOf (.int .i64 (wrap64 ((k : Int) + 1)))).toNat < m.items.length - (intOf (.int .i64 (k : Int))).toNat
    rw [hw1]
    simp only [intOf,Int.toNat_natCast]
    omega
  ·obtain rfl : k = m.items.length:=by omega
   have d1 : decide ((m.items.length : Int) < (m.items.length : Int)) = false:=decide_eq_false (by omega)
   have h0:=hP.at' W.heap.size (.cells #[.func (.yield l) #[] #[]] 103) hy0
   have hc : W6.cell? ⟨W.heap.size,0,none⟩ = some (.func (.yield l) #[] #[]):=by rw [cell_of_row _ _ 0 _ _ _ h0]; rfl
   have hR2 : (recs m)[(pre m m.items.length).length + 0]? = some (sEnd,sMani):=by rw [pre_all]; simp
   have Y : YieldAt Fence.wide (mm - 1) Tryz.prog l #[.string ⟨#[101,110,100]⟩,.string ⟨#[109,97,110,105,102,101,115,116]⟩] W6 _:=HY.out _ (sEnd,sMani) W6 _ hR2 hP.j (mm - 1)
   obtain ⟨fn,t,as1,bo,hy,hR⟩:=Y
   gi_wp2
   refine ⟨(fun h => (by cases h)),hR.mono ?_⟩
   rintro e W7 ⟨rfl,hj7,hs7⟩
   gi_wp2
   have hA : ∀ D ∈ Ds,W7.heap[D]? = some defd:=fun D hD => by
    have h1:=hP.at' D _ (hD0 D hD)
    rw [hs7 D (.inr ⟨_,hD0 D hD⟩) (Array.getElem?_eq_some_iff.1 h1).1]
    exact h1
   have hj8 : J (recs m).length W7 (fun b => False ∨ ∃ o,(b,o) ∈ L):=by
    have e : (recs m).length = (pre m m.items.length).length + 0 + 1:=by rw [pre_all]; simp
    rw [e]; exact hj7
   exact leaves_marks (A:=fun b => ∃ o,(b,o) ∈ L) (H:=fun W => J (recs m).length W (fun b => False ∨ ∃ o,(b,o) ∈ L)) (fun W D hA hj => HJ.out _ _ _ _ _ hj (Oth.put W _ (.inr hA)) (fun b hb => .inl hb)) (fun W hj => ⟨_,results_none rfl _ _ _,⟨_,rfl⟩,HJ.out.less hj (fun b hb => hb.elim)⟩) Ds W7 hnd (fun D hD => ⟨_,hD0 D hD⟩) hj8 hA
end
section
open Go.RowKit Go.Shelf
theorem copy_used (g : Nat) (w : World) (h0 : w.cell? ⟨g,0,none⟩ = some (.pointer (some ⟨g,0,none⟩))) : Calls Tryz.prog 58 #[.pointer (some ⟨g,0,none⟩)] w fun e w' => e = .returned (.tuple #[]) ∧ w' = w :=
 Any.Builder_copyCheck_used (P:=Tryz.prog) (ρ:=Tryz.lays105_ren) { Tryz.lays105 with } Tryz.Builder_Extra_105.toX72 g w h0
theorem copy_fresh (g : Nat) (w : World) (h0 : w.cell? ⟨g,0,none⟩ = some (.pointer none)) (hs : w.shape? g = some (68,2)) (hf : w.frozen? ⟨g,0,none⟩ = false) : Calls Tryz.prog 58 #[.pointer (some ⟨g,0,none⟩)] w fun e w' => e = .returned (.tuple #[]) ∧ w' = w.setCell ⟨g,0,none⟩ (.pointer (some ⟨g,0,none⟩)) :=
 Any.Builder_copyCheck_fresh (P:=Tryz.prog) (ρ:=Tryz.lays105_ren) { Tryz.lays105 with } Tryz.Builder_Extra_105.toX72 g w h0 hs hf
structure Bld (w : World) (g : Nat) (v : Value) (l : List UInt8) : Prop where
 box : ∃ p,(p = .pointer none ∨ p = .pointer (some ⟨g,0,none⟩)) ∧ w.heap[g]? = some (.cells #[p,v] 68 (0,0))
 own : w.ownsRow 0 5 1 v l.length (Lib.byteCells l)
 ne : v.ownBlock ≠ some g
theorem infoBy : (Tryz.prog.info? 5).map (fun i => (i.zero,i.size,i.bytes)) = some (some (.int .u8 0),1,1):=Tryz.Builder_Extra_105.infoByte
theorem str_app {w : World} (ty : TypeId) {v : Value} {l : List UInt8} (hown : w.ownsRow 0 5 1 v l.length (Lib.byteCells l)) (s : ByteArray) (hlen : l.length + s.size ≤ 140737488355328) :
  ∃ a n c w',(Builtin.append_ #[47,9] ty #[v,.string s]).run Tryz.prog w = .ok (.slice a n c) w' ∧ w'.ownsRow 0 5 1 (.slice a n c) (l ++ s.data.toList).length (Lib.byteCells (l ++ s.data.toList)) ∧ w.grownBy w' v.ownBlock ∧ (∀ b,(Value.slice a n c).ownBlock = some b → v.ownBlock = some b ∨ b = w.heap.size):=by
 obtain ⟨i0,hi,hz0,hz1,hz2⟩:=info_parts infoBy
 have hm : maxLen = 9223372036854775807:=rfl
 have hss : s.data.toList.length = s.size:=Array.length_toList
 obtain ⟨v',w',hr,hown',hgrow,hnil⟩:=Lib.run_append_own_string (P:=Tryz.prog) w 0 47 9 ty 5 i0 Tryz.underlying47 Tryz.underlying9 hi hz0 hz1 hz2 v l.length _ hown s (by rw [hm]; omega) (by omega) (Nat.zero_le _)
 have hv : ∃ a n c,v' = .slice a n c:=by
  rcases hown'.2 with ⟨e,_⟩ | ⟨g,cap,cur,e,_⟩
  ·exact ⟨_,_,_,e⟩
  ·exact ⟨_,_,_,e⟩
 obtain ⟨a,n,c,rfl⟩:=hv
 refine ⟨a,n,c,w',hr,by rw [List.length_append,hss,Lib.byteCells_append]; exact hown',hgrow,fun b hb => ?_⟩
 rcases hown.2 with ⟨e,h0⟩ | ⟨g,cap,cur,e,hbg,hg,hnc,hcm,hcs,htake⟩
 ·subst e
  by_cases hz : s.size = 0
  ·have:=(hnil.2 ⟨rfl,hz⟩)
   rw [this] at hb
   cases hb
  ·have hr2:=run_append_nil_string (P:=Tryz.prog) w 47 9 ty 5 i0 (.int .u8 0) Tryz.underlying47 Tryz.underlying9 hi hz0 s (by omega) (by omega) (by rw [hz2]; omega)
   rw [hr] at hr2
   injection hr2 with e1 e2
   rw [e1] at hb
   right
   simpa [Value.ownBlock] using hb.symm
 ·subst e
  by_cases hroom : l.length + s.size ≤ cap
  ·have hcs' : cur.size = cap:=by simpa using hcs
   have hr2:=Lib.run_append_room_string (P:=Tryz.prog) w 47 9 ty 5 i0 Tryz.underlying47 Tryz.underlying9 hi hz1 g l.length cap cur hg s hroom (by omega)
   rw [hr] at hr2
   injection hr2 with e1 e2
   rw [e1] at hb
   exact .inl hb
  ·have holds : ∀ j u,(Lib.byteCells l)[j]? = some u → w.cell? ((⟨g,0,none⟩ : Addr).add j) = some u:=hown.cells (g:=g) rfl
   have hr2:=Lib.run_append_grow_string (P:=Tryz.prog) w 47 9 ty 5 i0 (.int .u8 0) Tryz.underlying47 Tryz.underlying9 hi hz0 ⟨g,0,none⟩ l.length cap (Lib.byteCells l) (by rw [hz1,Lib.byteCells_length]; omega) holds s (by omega) (by omega) (by rw [hz2]; exact growslice_fits (by omega) (by omega))
   rw [hr] at hr2
   injection hr2 with e1 e2
   rw [e1] at hb
   right
   simpa [Value.ownBlock] using hb.symm
def WsP (w : World) (g : Nat) (v : Value) (l : List UInt8) (s : ByteArray) (w' : World) : Prop := ∃ v',Bld w' g v' (l ++ s.data.toList) ∧ Oth (fun b => b = g ∨ v.ownBlock = some b) w w' ∧ ∀ b,v'.ownBlock = some b → v.ownBlock = some b ∨ w.heap.size ≤ b
set_option maxHeartbeats 1000000 in
theorem wstr_any (g : Nat) (v : Value) (l : List UInt8) (s : ByteArray) (w : World) (h : Bld w g v l) (hlen : l.length + s.size ≤ 140737488355328) :
  Calls Tryz.prog 27 #[.pointer (some ⟨g,0,none⟩),.string s] w fun e w' => e = .returned (.tuple #[.int .i64 s.size,.nilIface]) ∧ WsP w g v l s w':=by
 obtain ⟨p,hp,hb⟩:=h.box
 have hlt:=lt_of_block hb
 have hcc : Calls Tryz.prog 58 #[.pointer (some ⟨g,0,none⟩)] w fun e w' => e = .returned (.tuple #[]) ∧ w'.heap[g]? = some (.cells #[.pointer (some ⟨g,0,none⟩),v] 68 (0,0)) ∧ w'.heap.size = w.heap.size ∧ Oth (fun b => b = g) w w':=by
  rcases hp with e | e
  ·subst e
   refine (copy_fresh g w (by rw [cell_of_row _ _ 0 _ _ _ hb]; rfl) ?_ (frozen_of_row _ _ _ _ _ hb)).mono ?_
   ·unfold World.shape?; rw [hb]; rfl
   ·rintro e w' ⟨rfl,rfl⟩
    refine ⟨rfl,by rw [heap_setCell_same _ _ _ _ _ _ hb]; rfl,by simp,?_⟩
    have g1:=grownBy_setCell' w g (.pointer (some ⟨g,0,none⟩))
    exact ⟨g1.os,g1.tape,g1.output,g1.size,fun b hb hx => g1.block b hb (fun q => hx (by injection q))⟩
  ·subst e
   refine (copy_used g w (by rw [cell_of_row _ _ 0 _ _ _ hb]; rfl)).mono ?_
   rintro e w' ⟨rfl,rfl⟩
   exact ⟨rfl,hb,rfl,Oth.of_below (Below.refl _ _)⟩
 go_enter Tryz.func27,Tryz.ntmps27
 go_wp2_with fail
 with_reducible refine Calls.mono hcc ?_
 rintro e w1 ⟨rfl,hb1,hs1,ho1⟩
 dsimp only
 have hown1 : w1.ownsRow 0 5 1 v l.length (Lib.byteCells l):=by
  refine ⟨h.own.1,?_⟩
  rcases h.own.2 with e | ⟨c,cap,cur,e,h2,h3,h4⟩
  ·exact .inl e
  ·refine .inr ⟨c,cap,cur,e,h2,?_,h4⟩
   rw [ho1.block c (lt_of_block h3) (fun q => h.ne (by rw [e,← q]; rfl))]
   exact h3
 obtain ⟨a2,n2,c2,w2,hr,hown2,hgrow,hwh⟩:=str_app 47 hown1 s hlen
 have hb2 : w2.heap[g]? = some (.cells #[.pointer (some ⟨g,0,none⟩),v] 68 (0,0)):=by
  rw [hgrow.block g (by omega) (fun q => h.ne q.symm)]
  exact hb1
 have p0 : w1.cell? ⟨g,1,none⟩ = some v:=by rw [cell_of_row _ _ _ _ _ _ hb1]; rfl
 have p1 : w2.cell? ⟨g,1,none⟩ = some v:=by rw [cell_of_row _ _ _ _ _ _ hb2]; rfl
 have f1 : w2.frozen? ⟨g,1,none⟩ = false:=frozen_of_row _ _ _ _ _ hb2
 have hv : ∃ a n c,v = .slice a n c:=by
  rcases hown1.2 with ⟨e,_⟩ | ⟨g,cap,cur,e,_⟩
  ·exact ⟨_,_,_,e⟩
  ·exact ⟨_,_,_,e⟩
 obtain ⟨va,vn,vc,rfl⟩:=hv
 have hne2 : (Value.slice a2 n2 c2).ownBlock ≠ some g:=fun q => by
  rcases hwh g q with z | z
  ·exact h.ne z
  ·omega
 have hfin : WsP w g (.slice va vn vc) l s (w2.setCell ⟨g,1,none⟩ (.slice a2 n2 c2)):=by
  refine ⟨.slice a2 n2 c2,⟨⟨_,.inr rfl,by rw [heap_setCell_same _ _ _ _ _ _ hb2]; rfl⟩,ownsRow_setCell_other hown2 (a:=⟨g,1,none⟩) hne2 _,hne2⟩,?_,fun b hb => ?_⟩
  ·refine ⟨hgrow.os.trans ho1.os,hgrow.tape.trans ho1.tape,hgrow.output.trans ho1.output,by have:=hgrow.size; simp; omega,fun b hb hx => ?_⟩
   have n1 : b ≠ g:=fun q => hx (.inl q)
   rw [heap_setCell_other _ _ _ _ (by first | exact n1 | exact n1.symm),hgrow.block b (by omega) (fun q => hx (.inr q.symm)),ho1.block b hb n1]
  ·rcases hwh b hb with z | z
   ·exact .inl z
   ·right; omega
 clear hwh hgrow hown2 hown1 ho1 hs1 hne2 hb1 hb2 hlt hb
 go_wp2_with (refine app_run rfl _ _ rfl rfl rfl hr ?_)
 refine bodyPost_ret (results_tmp2 rfl _ _ _) rfl ?_
 exact ⟨rfl,hfin⟩
theorem freeze_oth {w : World} {g : Nat} (n : Nat) {X : Bs} (hx : X g) : Oth X w (w.freeze ⟨g,0,none⟩ n):=by
 unfold World.freeze
 split
 ·exact Oth.of_below (Below.refl _ _)
 ·exact ⟨rfl,rfl,rfl,by simp,fun b hb hn => by
   have : b ≠ g:=fun q => hn (q ▸ hx)
   simp only [Array.getElem?_modify]
   rw [if_neg (fun q => this q.symm)]⟩
set_option maxHeartbeats 2000000 in
theorem bstr_any (g : Nat) (v : Value) (l : List UInt8) (w : World) (h : Bld w g v l) (h0 : l ≠ []) :
  Calls Tryz.prog 28 #[.pointer (some ⟨g,0,none⟩)] w fun e w' => e = .returned (str l) ∧ Oth (fun b => v.ownBlock = some b) w w':=by
 obtain ⟨p,hp,hb⟩:=h.box
 have hl0 : l.length ≠ 0:=by simpa using h0
 have hown:=h.own
 obtain ⟨c,cap,cur,rfl,hbg,hg,hnc,hcm,hcs,htake⟩ : ∃ c cap cur,v = .slice (some ⟨c,0,none⟩) l.length cap ∧ 0 ≤ c ∧ w.heap[c]? = some (.cells cur 5 (0,0)) ∧ l.length ≤ cap ∧ cap ≤ maxLen ∧ cur.size = cap * 1 ∧ cur.toList.take (l.length * 1) = Lib.byteCells l:=by
  rcases hown.2 with ⟨_,hz⟩ | ⟨c,cap,cur,hv,r⟩
  ·exact absurd hz hl0
  ·exact ⟨c,cap,cur,hv,r⟩
 have c1 : w.drew.cell? ⟨g,1,none⟩ = some (.slice (some ⟨c,0,none⟩) l.length cap):=by
  have : w.drew.heap[g]? = some (.cells #[p,.slice (some ⟨c,0,none⟩) l.length cap] 68 (0,0)):=hb
  rw [cell_of_row _ _ _ _ _ _ this]; rfl
 have hSD : (Builtin.unsafeSliceData_ #[47] 108 #[.slice (some ⟨c,0,none⟩) l.length cap]).run Tryz.prog w.drew = .ok (.pointer (some ⟨c,0,none⟩)) w.drew:=Lib.run_unsafeSliceData_row _ _ _ _ _ _ (by omega)
 have hUS : (Builtin.unsafeString_ #[108,3] 9 #[.pointer (some ⟨c,0,none⟩),.int .i64 l.length]).run Tryz.prog w.drew = .ok (.string ⟨l.toArray⟩) (w.drew.freeze ⟨c,0,none⟩ l.length):=by
  refine Lib.run_unsafeString_row w.drew 108 3 9 5 Tryz.underlying108 Tryz.Builder_Extra_105.cellsByte c cur.size (by have hg' : w.drew.heap[c]? = some (.cells cur 5 (0,0)):=hg; simp [World.shape?,hg']) l h0 (by omega) (by unfold maxLen at hcm; omega) ?_
  intro j x hx
  exact hown.cells (g:=c) rfl j (.int .u8 x.toNat) (by simp [Lib.byteCells,hx])
 have hO : Oth (fun b => (Value.slice (some ⟨c,0,none⟩) l.length cap).ownBlock = some b) w (w.drew.freeze ⟨c,0,none⟩ l.length):=by
  have:=freeze_oth (w:=w.drew) (g:=c) l.length (X:=fun b => (Value.slice (some ⟨c,0,none⟩) l.length cap).ownBlock = some b) rfl
  exact ⟨this.os,this.tape,this.output,this.size,this.block⟩
 have HO:=Hid.mk hO
 clear hO hcs htake hcm hnc hg hbg hown hb hp h
 go_enter Tryz.func28,Tryz.ntmps28
 go_wp2
 go_region
 all_goals (go_wp2; go_ret; exact ⟨rfl,HO.out⟩)
end
section
open Go.RowKit Go.Shelf
open Go.Proofs.YtdfjlmfnkhhnjaaGreatDoorP (TB recd nn LEN key)
attribute [local go_sem] Oper.semAt_some
def WrP (m : Ma) (w : World) (e : Ending) (w' : World) : Prop:=((RtM m ∧ e = .returned (.tuple #[str (mtx m),.int .i64 0])) ∨ (¬ RtM m ∧ e = .returned (.tuple #[.string ⟨#[]⟩,.int .i64 1]))) ∧ Below w.heap.size w w'
structure WJ (m : Ma) (w0 : World) (g gb : Nat) (a : Option Addr) (cap : Nat) (k : Nat) (W : World) (X : Bs) : Prop where
 bel : Below gb w0 W
 bld : ∃ v,Bld W gb v (txt ((recs m).take k)) ∧ (∀ b,v.ownBlock = some b → ¬ X b ∧ g < b)
 box : Bm3 W g m.since m.next (.slice a m.items.length cap)
 x : ∀ b,X b → g < b ∧ b < W.heap.size
theorem WJ.abid {m : Ma} {w0 : World} {g gb : Nat} {a : Option Addr} {cap : Nat} (hg : gb < g) : Abid (WJ m w0 g gb a cap):=by
 intro k W X W' X' h ho hx
 obtain ⟨v,hv,hn⟩:=h.bld
 obtain ⟨p,hp,hb⟩:=hv.box
 have l1:=lt_of_block hb
 have l2:=h.box.lt
 have n1 : ¬ X gb:=fun q => by have:=h.x _ q; omega
 have n2 : ¬ X g:=fun q => by have:=h.x _ q; omega
 refine ⟨⟨ho.os.trans h.bel.os,ho.tape.trans h.bel.tape,ho.output.trans h.bel.output,Nat.le_trans h.bel.size ho.size,fun b hb' => ?_⟩,⟨v,⟨⟨p,hp,by rw [ho.block _ l1 n1]; exact hb⟩,?_,hv.ne⟩,fun b hb' => ⟨fun q => ?_,(hn b hb').2⟩⟩,?_,fun b hb' => ?_⟩
 ·rw [ho.block b (by omega) (fun q => by have:=h.x _ q; omega)]
  exact h.bel.block b hb'
 ·refine ⟨hv.own.1,?_⟩
  rcases hv.own.2 with e | ⟨c,cap,cur,e,h2,h3,h4⟩
  ·exact .inl e
  ·refine .inr ⟨c,cap,cur,e,h2,?_,h4⟩
   rw [ho.block c (lt_of_block h3) (hn c (by rw [e]; rfl)).1]
   exact h3
 ·have hbl:=(hv.own.lt b hb').2
  rcases hx b q with z | z
  ·exact (hn b hb').1 z
  ·omega
 ·show W'.heap[g]? = _
  rw [ho.block g l2 n2]
  exact h.box
 ·have:=ho.size
  rcases hx b hb' with z | z
  ·have:=h.x b z; omega
  ·omega
theorem txt_take {R : List Kv} {k : Nat} {p : Kv} (h : R[k]? = some p) : txt (R.take (k + 1)) = txt (R.take k) ++ recd p.1 p.2:=by
 rw [List.take_add_one,h]
 simp [txt]
theorem WJ.round {m : Ma} {w0 : World} {g gb : Nat} {a : Option Addr} {cap : Nat} (hg : gb < g) {k : Nat} {W W1 W2 : World} {X : Bs} {p : Kv} (hp : (recs m)[k]? = some p) (h : WJ m w0 g gb a cap k W X) (b1 : Below W.heap.size W W1) {v : Value} (hv : Bld W1 gb v (txt ((recs m).take k))) (hn : ∀ b,v.ownBlock = some b → ¬ X b ∧ g < b) (hs : WsP W1 gb v (txt ((recs m).take k)) ⟨(recd p.1 p.2).toArray⟩ W2) : WJ m w0 g gb a cap (k + 1) W2 X ∧ Stay X W W2:=by
 have h1:=(WJ.abid hg).bel h b1
 obtain ⟨v',hb',ho,hw⟩:=hs
 have l2:=h1.box.lt
 refine ⟨⟨⟨ho.os.trans h1.bel.os,ho.tape.trans h1.bel.tape,ho.output.trans h1.bel.output,Nat.le_trans h1.bel.size ho.size,fun b hb => ?_⟩,⟨v',by rw [txt_take hp]; exact hb',fun b hb => ?_⟩,?_,fun b hb => ?_⟩,fun b hb hbl => ?_⟩
 ·rw [ho.block b (by omega) (fun q => by
   rcases q with z | z
   ·omega
   ·have:=(hn b z).2; omega)]
  exact h1.bel.block b hb
 ·rcases hw b hb with z | z
  ·exact hn b z
  ·refine ⟨fun q => by have:=h1.x b q; omega,by omega⟩
 ·show W2.heap[g]? = _
  rw [ho.block g l2 (fun q => by
   rcases q with z | z
   ·omega
   ·have:=(hn g z).2; omega)]
  exact h1.box
 ·have:=h1.x b hb
  have:=ho.size
  omega
 ·have hx:=h.x b hb
  rw [ho.block b (by have:=b1.size; omega) (fun q => by
   rcases q with z | z
   ·omega
   ·exact (hn b z).1 hb),b1.block b hbl]
theorem wr_ok {k v : List UInt8} (h1 : key k = true) (h2 : LEN (nn k v) ≤ 1048576) : Go.Proofs.YtdfjlmfnkhhnjaaGreatDoorP.wrote k v = recd k v ∧ Go.Proofs.YtdfjlmfnkhhnjaaGreatDoorP.werr k v = 0:=Go.Proofs.YtdfjlmfnkhhnjaaGreatDoorP.Rd.wr (l:=recd k v) ⟨h1,h2,[],by simp⟩
theorem kv_len {k v : List UInt8} (h2 : LEN (nn k v) ≤ 1048576) : k.length ≤ 1048576 ∧ v.length ≤ 1048576:=by
 have:=Go.Proofs.YtdfjlmfnkhhnjaaGreatDoorP.LEN_pos (nn k v)
 unfold nn at *
 omega
theorem txt_len : ∀ (R : List Kv),Kvs R → (txt R).length ≤ R.length * 1048576
 | [],_ => by simp [txt]
 | p :: R,h => by
  have h1:=txt_len R h.tail
  have h2:=(h p (by simp)).2
  rw [txt_cons,List.length_append,Go.Proofs.YtdfjlmfnkhhnjaaGreatDoorP.recd_length,List.length_cons]
  omega
theorem recs_max {m : Ma} (h : RtM m) : (recs m).length ≤ 100000:=by
 have hl:=h.len
 have hi : ∀ L : List It,(∀ x ∈ L,RtI m x) → ((L.map itemR).flatten).length ≤ L.length * 20:=by
  intro L
  induction L with
  | nil => intro _; simp
  | cons x L ih =>
   intro hx
   have h1:=ih (fun y hy => hx y (by simp [hy]))
   have h2 : (itemR x).length ≤ 20:=by
    have hr:=hx x (by simp)
    cases hmk : x.mkr with
    | true => rw [item_mark hmk (hr.mk1 hmk).2]; simp
    | false =>
     have:=(mtE_iff (hr.mk0 hmk).2.2).1
     rw [item_len hmk]; omega
   rw [List.map_cons,List.flatten_cons,List.length_append,List.length_cons]
   omega
 have:=hi m.items h.it
 unfold recs headR
 split <;> simp at * <;> omega
theorem Bld.later {w w' : World} {g : Nat} {v : Value} {l : List UInt8} (h : Bld w g v l) (b : Below w.heap.size w w') : Bld w' g v l:=by
 obtain ⟨p,hp,hb⟩:=h.box
 refine ⟨⟨p,hp,by rw [b.block g (lt_of_block hb)]; exact hb⟩,⟨h.own.1,?_⟩,h.ne⟩
 rcases h.own.2 with e | ⟨c,cap,cur,e,h2,h3,h4⟩
 ·exact .inl e
 ·exact .inr ⟨c,cap,cur,e,h2,by rw [b.block c (lt_of_block h3)]; exact h3,h4⟩
theorem hso {W : World} {g k : Nat} (j : Nat) (v : Value) (h : k ≠ g) : (W.setCell ⟨g,j,none⟩ v).heap[k]? = W.heap[k]?:=heap_setCell_other _ _ _ _ (by first | exact h | exact h.symm)
theorem two_set {W : World} {g : Nat} {x y : Value} (h1 : W.heap[g]? = some (.cells #[x] 9 (0,0))) (h2 : W.heap[g + 1]? = some (.cells #[y] 29 (0,0))) (u v : Value) :
  ((W.setCell ⟨g,0,none⟩ u).setCell ⟨g + 1,0,none⟩ v).heap[g]? = some (.cells #[u] 9 (0,0)) ∧ ((W.setCell ⟨g,0,none⟩ u).setCell ⟨g + 1,0,none⟩ v).heap[g + 1]? = some (.cells #[v] 29 (0,0)):=by
 have e1 : (W.setCell ⟨g,0,none⟩ u).heap[g]? = some (.cells #[u] 9 (0,0)):=by rw [heap_setCell_same _ _ _ _ _ _ h1]; rfl
 have e2 : (W.setCell ⟨g,0,none⟩ u).heap[g + 1]? = some (.cells #[y] 29 (0,0)):=by rw [hso _ _ (by omega)]; exact h2
 exact ⟨by rw [hso _ _ (by omega)]; exact e1,by rw [heap_setCell_same _ _ _ _ _ _ e2]; rfl⟩
theorem mtx_ne {m : Ma} : mtx m ≠ []:=fun h => by
 have e : mtx m = txt (headR m ++ (m.items.map itemR).flatten) ++ txt [(sEnd,sMani)]:=txt_append _ _
 rw [e] at h
 have h2:=(List.append_eq_nil_iff.1 h).2
 rw [txt_cons] at h2
 exact recd_ne _ _ (List.append_eq_nil_iff.1 h2).1
theorem results_cc {fn : Func} {p q : Tmp} {ty tq : TypeId} (h : fn.results = #[.cell p ty,.cell q tq]) (tmps : Array Value) (P : Program) (w : World) :
  (results fn tmps).run P w = ((asAddr (tmps.getD p undef)).run P w).andThen fun a w₁ => ((loadVar ty a).run P w₁).andThen fun v w₂ => ((asAddr (tmps.getD q undef)).run P w₂).andThen fun b w₃ => ((loadVar tq b).run P w₃).andThen fun u w₄ => .ok (.tuple #[v,u]) w₄:=by
 simp only [results,h]
 simp [Sem.run_bind,Result.andThen]
set_option maxHeartbeats 8000000 in
theorem mWrite_in (m : Ma) (w : World) (a : Option Addr) (cap : Nat) (hL : IIt w a m.items) (hz : ∀ x ∈ m.items,x.l.length ≤ 4398046510976) (hl : m.items.length ≤ 1466015503700) (hT : TB w) :
  CallsIn Fence.wide 5 Tryz.prog 8 #[.agg #[.int .i64 m.since,.int .i64 m.next,.slice a m.items.length cap]] w (WrP m w):=by
 have b1:=(Below.refl w.heap.size w).alloc (Nat.le_refl _) (.cells #[.int .i64 m.since,.int .i64 m.next,.slice a m.items.length cap] 28)
 have b3 : Below w.heap.size w (((w.alloc (.cells #[.int .i64 m.since,.int .i64 m.next,.slice a m.items.length cap] 28)).alloc (.cells #[.string ⟨#[]⟩] 9)).alloc (.cells #[.int .i64 0] 29)):=(b1.alloc (by simp) _).alloc (by simp; omega) _
 obtain ⟨p0,p1,p2⟩ : (((w.alloc (.cells #[.int .i64 m.since,.int .i64 m.next,.slice a m.items.length cap] 28)).alloc (.cells #[.string ⟨#[]⟩] 9)).alloc (.cells #[.int .i64 0] 29)).cell? ⟨w.heap.size,0,none⟩ = some (.int .i64 m.since) ∧ (((w.alloc (.cells #[.int .i64 m.since,.int .i64 m.next,.slice a m.items.length cap] 28)).alloc (.cells #[.string ⟨#[]⟩] 9)).alloc (.cells #[.int .i64 0] 29)).cell? ⟨w.heap.size,1,none⟩ = some (.int .i64 m.next) ∧ (((w.alloc (.cells #[.int .i64 m.since,.int .i64 m.next,.slice a m.items.length cap] 28)).alloc (.cells #[.string ⟨#[]⟩] 9)).alloc (.cells #[.int .i64 0] 29)).cell? ⟨w.heap.size,2,none⟩ = some (.slice a m.items.length cap):=by
  have h : Bm3 (((w.alloc (.cells #[.int .i64 m.since,.int .i64 m.next,.slice a m.items.length cap] 28)).alloc (.cells #[.string ⟨#[]⟩] 9)).alloc (.cells #[.int .i64 0] 29)) w.heap.size m.since m.next (.slice a m.items.length cap):=by
   unfold Bm3
   rw [hao4 _ _ _ (by simp; omega),hao4 _ _ _ (by simp)]; exact heap_alloc_new _ _
  exact h.cells
 have x0 : (((w.alloc (.cells #[.int .i64 m.since,.int .i64 m.next,.slice a m.items.length cap] 28)).alloc (.cells #[.string ⟨#[]⟩] 9)).alloc (.cells #[.int .i64 0] 29)).heap[w.heap.size]? = some (.cells #[.int .i64 m.since,.int .i64 m.next,.slice a m.items.length cap] 28 (0,0)):=by
  rw [hao4 _ _ _ (by simp; omega),hao4 _ _ _ (by simp)]; exact heap_alloc_new _ _
 have x1 : (((w.alloc (.cells #[.int .i64 m.since,.int .i64 m.next,.slice a m.items.length cap] 28)).alloc (.cells #[.string ⟨#[]⟩] 9)).alloc (.cells #[.int .i64 0] 29)).heap[w.heap.size + 1]? = some (.cells #[.string ⟨#[]⟩] 9 (0,0)):=by
  rw [hao4 _ _ _ (by simp)]
  have:=heap_alloc_new (w.alloc (.cells #[.int .i64 m.since,.int .i64 m.next,.slice a m.items.length cap] 28)) (.cells #[.string ⟨#[]⟩] 9)
  rw [World.size_alloc] at this; exact this
 have x2 : (((w.alloc (.cells #[.int .i64 m.since,.int .i64 m.next,.slice a m.items.length cap] 28)).alloc (.cells #[.string ⟨#[]⟩] 9)).alloc (.cells #[.int .i64 0] 29)).heap[w.heap.size + 1 + 1]? = some (.cells #[.int .i64 0] 29 (0,0)):=by
  have:=heap_alloc_new ((w.alloc (.cells #[.int .i64 m.since,.int .i64 m.next,.slice a m.items.length cap] 28)).alloc (.cells #[.string ⟨#[]⟩] 9)) (.cells #[.int .i64 0] 29)
  rw [World.size_alloc,World.size_alloc] at this; exact this
 refine callsIn_of_wp_marks Tryz.func8 rfl trivial ?_ rfl
 simp only [Tryz.ntmps8,List.size_toArray,List.length_cons,List.length_nil,Nat.reduceAdd,Nat.reduceSub,Array.replicate_succ,Array.replicate_zero,List.push_toArray,List.append_toArray,List.nil_append,List.cons_append]
 gi_wp2
 generalize hw3 : ((w.alloc (.cells #[.int .i64 m.since,.int .i64 m.next,.slice a m.items.length cap] 28)).alloc (.cells #[.string ⟨#[]⟩] 9)).alloc (.cells #[.int .i64 0] 29) = w3 at *
 clear b1 hw3
 refine ⟨trivial,(callsIn_wide.2 (isRight_any m w3 a cap (hL.later b3) hz hl)).mono ?_⟩
 rintro e w4 ⟨t,rfl,ht,b4⟩
 have b34:=below_seq b3 b4
 have y0 : w4.heap[w.heap.size]? = some (.cells #[.int .i64 m.since,.int .i64 m.next,.slice a m.items.length cap] 28 (0,0)):=by rw [b4.block _ (lt_of_block x0)]; exact x0
 have y1 : w4.heap[w.heap.size + 1]? = some (.cells #[.string ⟨#[]⟩] 9 (0,0)):=by rw [b4.block _ (lt_of_block x1)]; exact x1
 have y2 : w4.heap[w.heap.size + 1 + 1]? = some (.cells #[.int .i64 0] 29 (0,0)):=by rw [b4.block _ (lt_of_block x2)]; exact x2
 have HB:=Hid.mk b34
 have HL:=Hid.mk (hL.later b34)
 have HT:=Hid.mk (hT.below b34)
 clear p0 p1 p2 x0 x1 x2 b3 b4 b34 hL hT hz hl
 cases t with
 | false =>
  have hno : ¬ RtM m:=fun q => by have:=ht.2 q; cases this
  have f1:=free_of_one y1
  have k1:=cell_of_one y1
  have f2:=free_of_one y2
  have k2:=cell_of_one y2
  gi_wp2
  obtain ⟨n1,n2⟩:=two_set y1 y2 (.string ⟨#[]⟩) (.int .i64 1)
  have g1:=cell_of_one n1
  have g2:=cell_of_one n2
  refine ⟨.tuple #[.string ⟨#[]⟩,.int .i64 1],?_,.inr ⟨hno,rfl⟩,(HB.out.setCell (p:=⟨w.heap.size + 1,0,none⟩) (by show _ ≤ w.heap.size + 1; omega) _).setCell (p:=⟨w.heap.size + 1 + 1,0,none⟩) (by show _ ≤ w.heap.size + 1 + 1; omega) _⟩
  rw [results_cc rfl]
  go_simp
 | true =>
  have hR:=ht.1 rfl
  have HR:=Hid.mk hR
  clear ht hR
  obtain ⟨p0,p1,p2⟩:=Bm3.cells (show Bm3 w4 w.heap.size m.since m.next (.slice a m.items.length cap) from y0)
  have b5:=(Below.refl w4.heap.size w4).alloc (Nat.le_refl _) (.cells #[.pointer none,.slice none 0 0] 68)
  obtain ⟨q0,q1,q2⟩:=((show Bm3 w4 w.heap.size m.since m.next (.slice a m.items.length cap) from y0).later b5).cells
  gi_wp2
  refine ⟨trivial,(callsIn_wide.2 (mrecords_any m.since m.next (.slice a m.items.length cap) rfl _)).mono ?_⟩
  rintro e w6 ⟨rfl,rfl⟩
  clear p0 p1 p2 q0 q1 q2
  gi_wp2
  obtain ⟨E,hE⟩:=HL.out.ex
  have h0 : WJ m w4 (w4.heap.size + 1) w4.heap.size a cap 0 ((w4.alloc (.cells #[.pointer none,.slice none 0 0] 68)).alloc (.cells #[.int .i64 m.since,.int .i64 m.next,.slice a m.items.length cap] 28)) (fun _ => False):=by
   have e1 : ((w4.alloc (.cells #[.pointer none,.slice none 0 0] 68)).alloc (.cells #[.int .i64 m.since,.int .i64 m.next,.slice a m.items.length cap] 28)).heap[w4.heap.size]? = some (.cells #[.pointer none,.slice none 0 0] 68 (0,0)):=by
    rw [hao4 _ _ _ (by simp)]; exact heap_alloc_new _ _
   have e2:=heap_alloc_new (w4.alloc (.cells #[.pointer none,.slice none 0 0] 68)) (.cells #[.int .i64 m.since,.int .i64 m.next,.slice a m.items.length cap] 28)
   rw [World.size_alloc] at e2
   exact ⟨b5.alloc (by simp) _,⟨.slice none 0 0,⟨⟨_,.inl rfl,e1⟩,World.ownsRow_nil _ _ _ _,fun q => by cases q⟩,fun b hb => by cases hb⟩,e2,fun b hb => hb.elim⟩
  have hlt : w.heap.size + 1 + 1 < w4.heap.size:=lt_of_block y2
  refine wp_tells rfl (enters_of Tryz.func52 (by kernel_rfl) rfl) (recs_tells m HR.out (w4.heap.size + 1) a cap E) rfl (WJ m w4 (w4.heap.size + 1) w4.heap.size a cap) (WJ.abid (by omega)) (fun k W X h => ⟨h.box,hE.later h.bel (Nat.le_refl _),HT.out.below h.bel⟩) h0 (fun p => { tmps:=#[.agg #[.int .i64 m.since,.int .i64 m.next,.slice a m.items.length cap],.pointer (some ⟨w.heap.size,0,none⟩),.pointer (some ⟨w.heap.size + 1,0,none⟩),.pointer (some ⟨w.heap.size + 1 + 1,0,none⟩),.pointer (some ⟨w4.heap.size,0,none⟩),str p.1,str p.2,undef,undef,.agg #[.int .i64 m.since,.int .i64 m.next,.slice a m.items.length cap],.bool true,.bool false,.agg #[.int .i64 m.since,.int .i64 m.next,.slice a m.items.length cap],.func (.func 52) #[] #[.pointer (some ⟨w4.heap.size + 1,0,none⟩)],str p.1,str p.2,undef,undef,undef,undef,undef,undef,undef,undef,undef,undef,undef],defers := [] }) ?assign ?body ?done
  case assign =>
   intro l1 p W3 K3 hK3
   gi_wp2
   exact hK3
  case body =>
   rintro l1 k p W X hp hJ
   obtain ⟨v,hv,hn⟩:=hJ.bld
   obtain ⟨kv1,kv2⟩:=recs_ok HR.out p (List.mem_of_getElem? hp)
   obtain ⟨e1,e2⟩:=wr_ok kv1 kv2
   obtain ⟨z1,z2⟩:=kv_len kv2
   have hw : Calls Tryz.prog 26 #[str p.1,str p.2] W fun e w' => e = .returned (.tuple #[str (recd p.1 p.2),.int .i64 0]) ∧ Below W.heap.size W w':=by
    have:=Go.Proofs.YtdfjlmfnkhhnjaaGreatDoorP.write_any ⟨p.1.toArray⟩ ⟨p.2.toArray⟩ (by show p.1.toArray.size ≤ _; rw [List.size_toArray]; omega) (by show p.2.toArray.size ≤ _; rw [List.size_toArray]; omega) W (HT.out.below hJ.bel)
    rw [show ((⟨p.1.toArray⟩ : ByteArray).data.toList) = p.1 from rfl,show ((⟨p.2.toArray⟩ : ByteArray).data.toList) = p.2 from rfl,e1,e2] at this
    exact this
   have hkt : Kvs ((recs m).take k):=fun q hq => recs_ok HR.out q (List.mem_of_mem_take hq)
   have hln : (txt ((recs m).take k)).length + (recd p.1 p.2).length ≤ 140737488355328:=by
    have h1:=txt_len _ hkt
    have h2:=recs_max HR.out
    rw [List.length_take] at h1
    rw [Go.Proofs.YtdfjlmfnkhhnjaaGreatDoorP.recd_length]
    have h3 : min k (recs m).length * 1048576 ≤ 100000 * 1048576:=Nat.mul_le_mul_right _ (by omega)
    omega
   have HJ:=Hid.mk hJ
   have Hn:=Hid.mk hn
   clear hJ hn kv1 kv2 e1 e2 z1 z2 hkt y0 y1 y2 h0
   gi_wp2
   refine ⟨trivial,(CallsIn.inRound l1 (callsIn_wide.2 hw)).mono ?_⟩
   rintro e W1 ⟨rfl,b1⟩
   have hs:=wstr_any w4.heap.size v _ ⟨(recd p.1 p.2).toArray⟩ W1 (hv.later b1) (by show _ + (recd p.1 p.2).toArray.size ≤ _; rw [List.size_toArray]; exact hln)
   have HV:=Hid.mk (hv.later b1)
   clear hw hln hv
   gi_wp2
   refine ⟨trivial,(CallsIn.inRound l1 (callsIn_wide.2 hs)).mono ?_⟩
   rintro e W2 ⟨rfl,hws⟩
   clear hs
   gi_wp2
   exact HJ.out.round (by omega) hp b1 HV.out Hn.out hws
  case done =>
   intro W8 hJ8 hD8
   obtain ⟨v,hv,hn⟩:=hJ8.bld
   rw [List.take_length] at hv
   have hs:=bstr_any w4.heap.size v (mtx m) W8 hv mtx_ne
   generalize hDe : ((w4.alloc (.cells #[.pointer none,.slice none 0 0] 68)).alloc (.cells #[.int .i64 m.since,.int .i64 m.next,.slice a m.items.length cap] 28)).heap.size = D at *
   have hD9 : w4.heap.size + 1 < D:=(hJ8.x D rfl).1
   have hbl:=hJ8.bel
   have z1 : W8.heap[w.heap.size + 1]? = some (.cells #[.string ⟨#[]⟩] 9 (0,0)):=by rw [hbl.block _ (by omega)]; exact y1
   have z2 : W8.heap[w.heap.size + 1 + 1]? = some (.cells #[.int .i64 0] 29 (0,0)):=by rw [hbl.block _ (by omega)]; exact y2
   clear h0 y0 y1 y2 hDe
   gi_wp2
   refine ⟨trivial,(callsIn_wide.2 hs).mono ?_⟩
   rintro e W9 ⟨rfl,ho9⟩
   have nv : ∀ b,b ≤ w4.heap.size → ¬ v.ownBlock = some b:=fun b hb q => by have:=(hn b q).2; omega
   have z3 : W9.heap[w.heap.size + 1]? = some (.cells #[.string ⟨#[]⟩] 9 (0,0)):=by rw [ho9.block _ (lt_of_block z1) (nv _ (by omega))]; exact z1
   have z4 : W9.heap[w.heap.size + 1 + 1]? = some (.cells #[.int .i64 0] 29 (0,0)):=by rw [ho9.block _ (lt_of_block z2) (nv _ (by omega))]; exact z2
   have z5 : W9.heap[D]? = some (.deferred (some [])):=by rw [ho9.block _ (Array.getElem?_eq_some_iff.1 hD8).1 (fun q => (hn D q).1 rfl)]; exact hD8
   have hB9 : Below w.heap.size w W9:=by
    refine HB.out.trans (Below.mono (B:=w4.heap.size) ?_ HB.out.size)
    exact hbl.trans ⟨ho9.os,ho9.tape,ho9.output,ho9.size,fun b hb => ho9.block b (by have:=hbl.size; omega) (nv b (by omega))⟩
   have f1:=free_of_one z3
   have k1:=cell_of_one z3
   have f2:=free_of_one z4
   have k2:=cell_of_one z4
   obtain ⟨n1,n2⟩:=two_set z3 z4 (str (mtx m)) (.int .i64 0)
   have hK : ((W9.setCell ⟨w.heap.size + 1,0,none⟩ (str (mtx m))).setCell ⟨w.heap.size + 1 + 1,0,none⟩ (.int .i64 0)).heap[D]? = some (.deferred (some [])):=by
    rw [hso _ _ (by omega),hso _ _ (by omega)]; exact z5
   have hBf:=(hB9.setCell (p:=⟨w.heap.size + 1,0,none⟩) (by show _ ≤ w.heap.size + 1; omega) (str (mtx m))).setCell (p:=⟨w.heap.size + 1 + 1,0,none⟩) (by show _ ≤ w.heap.size + 1 + 1; omega) (.int .i64 0)
   clear hs hv hn hJ8 hD8 z1 z2 z3 z4 z5 ho9 hbl nv hB9
   gi_wp2
   generalize (W9.setCell ⟨w.heap.size + 1,0,none⟩ (str (mtx m))).setCell ⟨w.heap.size + 1 + 1,0,none⟩ (.int .i64 0) = W10 at *
   refine ⟨by simp,.inl ⟨_,_,rfl,run_takeDeferred hK,?_⟩⟩
   have g1 : (W10.putObj D (.deferred none)).cell? ⟨w.heap.size + 1,0,none⟩ = some (str (mtx m)):=cell_of_one (by rw [World.putObj_heap_other (by omega)]; exact n1)
   have g2 : (W10.putObj D (.deferred none)).cell? ⟨w.heap.size + 1 + 1,0,none⟩ = some (.int .i64 0):=cell_of_one (by rw [World.putObj_heap_other (by omega)]; exact n2)
   refine ⟨.tuple #[str (mtx m),.int .i64 0],?_,.inl ⟨HR.out,rfl⟩,hBf.trans (belowK_b (w:=w) (Nat.le_refl _) _ D _ _ (by omega) hK rfl rfl)⟩
   rw [results_cc rfl]
   go_simp
theorem mWrite_any (m : Ma) (w : World) (a : Option Addr) (cap : Nat) (hL : IIt w a m.items) (hz : ∀ x ∈ m.items,x.l.length ≤ 4398046510976) (hl : m.items.length ≤ 1466015503700) (hT : TB w) :
  Calls Tryz.prog 8 #[.agg #[.int .i64 m.since,.int .i64 m.next,.slice a m.items.length cap]] w (WrP m w):=(callsIn_wide (n:=5)).1 (mWrite_in m w a cap hL hz hl hT)
end
end Go.Proofs.YtdfjlmfnkhhnjaaGreatDoor
