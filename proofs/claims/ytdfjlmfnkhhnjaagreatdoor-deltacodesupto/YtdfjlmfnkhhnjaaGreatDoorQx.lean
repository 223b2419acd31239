import Derived.Test.YtdfjlmfnkhhnjaaGreatDoorGx
import Derived.Test.YtdfjlmfnkhhnjaaGreatDoorGw
import Derived.Test.YtdfjlmfnkhhnjaaGreatDoorHe
import Derived.Test.YtdfjlmfnkhhnjaaGreatDoorHr
import Derived.Deep.CutBlock
import Derived.Deep.CutRange
import Derived.BigRegion
set_option maxRecDepth 100000
set_option linter.unusedVariables false
set_option linter.unusedSimpArgs false
namespace Go.Proofs.YtdfjlmfnkhhnjaaGreatDoor
section
open Go.Lib (decDigits)
open Go.Proofs.YtdfjlmfnkhhnjaaGreatDoorP (recd Rd key nn LEN)
open Go.Proofs.YtdfjlmfnkhhnjaaGreatDoorH (hexL pv okL pz)
def nq : List UInt8 → Nat → Nat
 | [],n => n
 | c :: r,n => if c.toNat < 48 ∨ 57 < c.toNat ∨ 1099511627776 < n then 0 else nq r (n * 10 + (c.toNat - 48))
theorem nq_fold : ∀ (l : List UInt8) (a : Nat),(∀ c ∈ l,Go.Proofs.YtdfjlmfnkhhnjaaGreatDoorP.isDig c) → l.foldl (fun n c => n * 10 + (c.toNat - 48)) a ≤ 1099511627777 → nq l a = l.foldl (fun n c => n * 10 + (c.toNat - 48)) a
 | [],a,_,_ => rfl
 | c :: r,a,hd,hl => by
  have hc:=hd c (by simp)
  have hd2 : 48 ≤ c.toNat ∧ c.toNat ≤ 57:=hc
  rw [List.foldl_cons] at hl ⊢
  have hge:=Go.Proofs.YtdfjlmfnkhhnjaaGreatDoorP.foldl_ge r (a * 10 + (c.toNat - 48))
  unfold nq
  rw [if_neg (by omega)]
  exact nq_fold r _ (fun x hx => hd x (by simp [hx])) hl
theorem nq_dec {n : Int} (h0 : 0 ≤ n) (h1 : n ≤ 1099511627777) : ((nq (dec n) 0 : Nat) : Int) = n:=by
 have hv : (decDigits n.toNat).foldl (fun n c => n * 10 + (c.toNat - 48)) 0 = n.toNat:=Go.Proofs.YtdfjlmfnkhhnjaaGreatDoorP.val_D n.toNat
 have hdg:=Go.Proofs.YtdfjlmfnkhhnjaaGreatDoorP.D_dig n.toNat
 unfold dec
 rw [nq_fold _ _ hdg (by rw [hv]; omega),hv]
 omega
abbrev zg : Nat → UInt8:=fun _ => 0
def mL (l : List It) (f : It → It) : List It:=l.dropLast ++ (l.getLast?.map f).toList
theorem mL_snoc (L : List It) (x : It) (f : It → It) : mL (L ++ [x]) f = L ++ [f x]:=by simp [mL]
noncomputable def stp (m : Ma) (q : Kv) : Option Ma :=
 if q.1 = sNext then some { m with next:=(nq q.2 0 : Nat) }
 else if q.1 = sSince then some { m with since:=(nq q.2 0 : Nat) }
 else if q.1 = sKey then (if 256 < m.items.length then none else some { m with items:=m.items ++ [⟨q.2,0,false,0,[],zg⟩] })
 else if m.items = [] then some m
 else if q.1 = sSeq then some { m with items:=mL m.items fun x => { x with seq:=(nq q.2 0 : Nat) } }
 else if q.1 = sType then some { m with items:=mL m.items fun x => { x with mkr:=q.2 == sMarker } }
 else if q.1 = sSize then some { m with items:=mL m.items fun x => { x with size:=(nq q.2 0 : Nat) } }
 else if q.1 = sLeaf then some { m with items:=mL m.items fun x => { x with g:=cut32 (pz q.2) } }
 else if 5 < q.1.length ∧ q.1.take 5 = sMeta then some { m with items:=mL m.items fun x => { x with l:=x.l ++ [⟨q.1.drop 5,q.2⟩] } }
 else some m
noncomputable def runQ (b : List UInt8) : Nat → Nat → Ma → Option (Ma × Nat)
 | 0,_,_ => none
 | f + 1,p,m => match rdF b p with
  | none => none
  | some (q,n) => match stp m q with
   | none => none
   | some m' => if q.1 = sEnd then some (m',n) else runQ b f n m'
theorem runQ_step {b : List UInt8} {f p : Nat} {m m' : Ma} {q : Kv} {R : List Kv} {r : List UInt8} (h : Pos b p (q :: R) r) (hs : stp m q = some m') (he : ¬ q.1 = sEnd) : runQ b (f + 1) p m = runQ b f (p + (recd q.1 q.2).length) m':=by
 rw [runQ,h.rd]
 simp only
 rw [hs]
 simp only
 rw [if_neg he]
theorem runQ_last {b : List UInt8} {f p : Nat} {m m' : Ma} {q : Kv} {R : List Kv} {r : List UInt8} (h : Pos b p (q :: R) r) (hs : stp m q = some m') (he : q.1 = sEnd) : runQ b (f + 1) p m = some (m',p + (recd q.1 q.2).length):=by
 rw [runQ,h.rd]
 simp only
 rw [hs]
 simp only
 rw [if_pos he]
theorem runQ_metas {b : List UInt8} {R : List Kv} {r : List UInt8} : ∀ (l : List En) (f p : Nat) (s n : Int) (L : List It) (x : It),l.length ≤ f → (∀ e ∈ l,e.key ≠ []) → Pos b p (metaR l ++ R) r → ∃ p',runQ b f p ⟨s,n,L ++ [x]⟩ = runQ b (f - l.length) p' ⟨s,n,L ++ [{ x with l:=x.l ++ l }]⟩ ∧ Pos b p' R r
 | [],f,p,s,n,L,x,_,_,h => ⟨p,by simp,h⟩
 | e :: l,f,p,s,n,L,x,hf,hk,h => by
  have h1 : Pos b p ((sMeta ++ e.key,e.val) :: (metaR l ++ R)) r:=h
  obtain ⟨g,rfl⟩ : ∃ g,f = g + 1:=⟨f - 1,by simp at hf; omega⟩
  have hke:=hk e (by simp)
  have t5 : (sMeta ++ e.key).take 5 = sMeta:=by show ([109,101,116,97,46] ++ e.key).take 5 = _; rfl
  have d5 : (sMeta ++ e.key).drop 5 = e.key:=by show ([109,101,116,97,46] ++ e.key).drop 5 = _; rfl
  have ne : ∀ z : List UInt8,z.take 5 ≠ sMeta → ¬ sMeta ++ e.key = z:=fun z hz q => hz (by rw [← q]; exact t5)
  have hl5 : 5 < (sMeta ++ e.key).length:=by
   rw [List.length_append]
   have : sMeta.length = 5:=rfl
   have:=List.length_pos_iff.2 hke
   omega
  have hs : stp ⟨s,n,L ++ [x]⟩ (sMeta ++ e.key,e.val) = some ⟨s,n,L ++ [{ x with l:=x.l ++ [e] }]⟩:=by
   unfold stp
   rw [if_neg (ne _ (by decide)),if_neg (ne _ (by decide)),if_neg (ne _ (by decide)),if_neg (by simp),if_neg (ne _ (by decide)),if_neg (ne _ (by decide)),if_neg (ne _ (by decide)),if_neg (ne _ (by decide)),if_pos ⟨hl5,t5⟩]
   simp only [mL_snoc,d5]
  obtain ⟨p',e1,h2⟩:=runQ_metas l g (p + (recd (sMeta ++ e.key) e.val).length) s n L { x with l:=x.l ++ [e] } (by simpa using hf) (fun y hy => hk y (by simp [hy])) h1.next
  refine ⟨p',?_,h2⟩
  rw [runQ_step h1 hs (ne _ (by decide)),e1]
  simp
theorem runQ_item {b : List UInt8} {m : Ma} {x : It} {R : List Kv} {r : List UInt8} (hm : m.next ≤ 1099511627777) (hx : RtI m x) (f p : Nat) (s n : Int) (L : List It) (hL : L.length ≤ 255) (hf : 20 ≤ f) (h : Pos b p (itemR x ++ R) r) : ∃ p' f',runQ b f p ⟨s,n,L⟩ = runQ b f' p' ⟨s,n,L ++ [nz x]⟩ ∧ f ≤ f' + 20 ∧ Pos b p' R r:=by
 have hs1:=hx.s1
 have hs2:=hx.s2
 have hq : ((nq (dec x.seq) 0 : Nat) : Int) = x.seq:=nq_dec (by omega) (by omega)
 obtain ⟨g,rfl⟩ : ∃ g,f = g + 20:=⟨f - 20,by omega⟩
 have s1 : ∀ k,stp ⟨s,n,L⟩ (sKey,k) = some ⟨s,n,L ++ [⟨k,0,false,0,[],zg⟩]⟩:=fun k => by
  unfold stp
  rw [if_neg (by simp only; decide),if_neg (by simp only; decide),if_pos rfl,if_neg (by simp only; omega)]
 have ne1 : ∀ y : It,¬ (L ++ [y] = []):=fun y => by simp
 have s2 : ∀ (y : It) (k : List UInt8),stp ⟨s,n,L ++ [y]⟩ (sSeq,k) = some ⟨s,n,L ++ [{ y with seq:=(nq k 0 : Nat) }]⟩:=fun y k => by
  unfold stp
  rw [if_neg (by simp only; decide),if_neg (by simp only; decide),if_neg (by simp only; decide),if_neg (ne1 y),if_pos rfl]
  simp only [mL_snoc]
 have s3 : ∀ (y : It) (k : List UInt8),stp ⟨s,n,L ++ [y]⟩ (sType,k) = some ⟨s,n,L ++ [{ y with mkr:=k == sMarker }]⟩:=fun y k => by
  unfold stp
  rw [if_neg (by simp only; decide),if_neg (by simp only; decide),if_neg (by simp only; decide),if_neg (ne1 y),if_neg (by simp only; decide),if_pos rfl]
  simp only [mL_snoc]
 have s4 : ∀ (y : It) (k : List UInt8),stp ⟨s,n,L ++ [y]⟩ (sSize,k) = some ⟨s,n,L ++ [{ y with size:=(nq k 0 : Nat) }]⟩:=fun y k => by
  unfold stp
  rw [if_neg (by simp only; decide),if_neg (by simp only; decide),if_neg (by simp only; decide),if_neg (ne1 y),if_neg (by simp only; decide),if_neg (by simp only; decide),if_pos rfl]
  simp only [mL_snoc]
 have s5 : ∀ (y : It) (k : List UInt8),stp ⟨s,n,L ++ [y]⟩ (sLeaf,k) = some ⟨s,n,L ++ [{ y with g:=cut32 (pz k) }]⟩:=fun y k => by
  unfold stp
  rw [if_neg (by simp only; decide),if_neg (by simp only; decide),if_neg (by simp only; decide),if_neg (ne1 y),if_neg (by simp only; decide),if_neg (by simp only; decide),if_neg (by simp only; decide),if_pos rfl]
  simp only [mL_snoc]
 cases hmk : x.mkr with
 | true =>
  obtain ⟨z1,z2⟩:=hx.mk1 hmk
  have h1 : Pos b p ((sKey,x.key) :: (sSeq,dec x.seq) :: (sType,sMarker) :: (sLeaf,hexL x.g) :: R) r:=by
   have:=h
   unfold itemR at this
   rw [if_pos hmk,z2] at this
   exact this
  refine ⟨_,g + 16,?_,by omega,h1.next.next.next.next⟩
  rw [runQ_step h1 (s1 _) (by simp only; decide),runQ_step h1.next (s2 _ _) (by simp only; decide),runQ_step h1.next.next (s3 _ _) (by simp only; decide),runQ_step h1.next.next.next (s5 _ _) (by simp only; decide),hq,pz_hex]
  unfold nz
  rw [hmk,z1,z2]
  rfl
 | false =>
  obtain ⟨z1,z2,z3⟩:=hx.mk0 hmk
  obtain ⟨g4,g5,g6⟩:=mtE_iff z3
  have hz : ((nq (dec x.size) 0 : Nat) : Int) = x.size:=nq_dec (by omega) (by omega)
  have h1 : Pos b p ((sKey,x.key) :: (sSeq,dec x.seq) :: (sType,sData) :: (sSize,dec x.size) :: (metaR x.l ++ (sLeaf,hexL x.g) :: R)) r:=by
   have:=h
   unfold itemR at this
   rw [if_neg (by rw [hmk]; decide)] at this
   simpa using this
  have hne : ∀ e ∈ x.l,e.key ≠ []:=fun e he => (small_key (prb_iff (g5 e he)).1).2.2.1
  obtain ⟨p5,e5,h5⟩:=runQ_metas x.l (g + 16) _ s n L ⟨x.key,x.seq,false,x.size,[],zg⟩ (by omega) hne h1.next.next.next.next
  obtain ⟨f5,hf5⟩ : ∃ f5,g + 16 - x.l.length = f5 + 1:=⟨g + 15 - x.l.length,by omega⟩
  refine ⟨_,f5,?_,by omega,h5.next⟩
  have hd : (sData == sMarker) = false:=by decide
  rw [runQ_step h1 (s1 _) (by simp only; decide),runQ_step h1.next (s2 _ _) (by simp only; decide),runQ_step h1.next.next (s3 _ _) (by simp only; decide),runQ_step h1.next.next.next (s4 _ _) (by simp only; decide),hq,hz,hd,e5,hf5,runQ_step h5 (s5 _ _) (by simp only; decide),pz_hex]
  unfold nz
  rw [hmk]
  rfl
theorem runQ_items {b : List UInt8} {m : Ma} {R : List Kv} {r : List UInt8} (hm : m.next ≤ 1099511627777) : ∀ (M L : List It) (f p : Nat) (s n : Int),(∀ x ∈ M,RtI m x) → L.length + M.length ≤ 256 → M.length * 20 ≤ f → Pos b p ((M.map itemR).flatten ++ R) r → ∃ p' f',runQ b f p ⟨s,n,L⟩ = runQ b f' p' ⟨s,n,L ++ M.map nz⟩ ∧ f ≤ f' + M.length * 20 ∧ Pos b p' R r
 | [],L,f,p,s,n,_,_,_,h => ⟨p,f,by simp,by simp,h⟩
 | x :: M,L,f,p,s,n,hx,hl,hf,h => by
  have h1 : Pos b p (itemR x ++ ((M.map itemR).flatten ++ R)) r:=by simpa using h
  simp only [List.length_cons] at hl hf
  obtain ⟨p1,f1,e1,hf1,h2⟩:=runQ_item hm (hx x (by simp)) f p s n L (by omega) (by omega) h1
  obtain ⟨p2,f2,e2,hf2,h3⟩:=runQ_items hm M (L ++ [nz x]) f1 p1 s n (fun y hy => hx y (by simp [hy])) (by rw [List.length_append,List.length_singleton]; omega) (by omega) h2
  refine ⟨p2,f2,?_,by rw [List.length_cons]; omega,h3⟩
  rw [e1,e2]
  simp
theorem stp_plain {s n : Int} {k v : List UInt8} (h1 : k ≠ sNext) (h2 : k ≠ sSince) (h3 : k ≠ sKey) : stp ⟨s,n,[]⟩ (k,v) = some ⟨s,n,[]⟩:=by
 unfold stp
 rw [if_neg h1,if_neg h2,if_neg h3,if_pos rfl]
theorem stp_next {m : Ma} {v : List UInt8} : stp m (sNext,v) = some { m with next:=(nq v 0 : Nat) }:=by unfold stp; rw [if_pos rfl]
theorem stp_since {m : Ma} {v : List UInt8} : stp m (sSince,v) = some { m with since:=(nq v 0 : Nat) }:=by unfold stp; rw [if_neg (by simp only; decide),if_pos rfl]
theorem stp_end {m : Ma} {v : List UInt8} : stp m (sEnd,v) = some m:=by
 unfold stp
 rw [if_neg (by simp only; decide),if_neg (by simp only; decide),if_neg (by simp only; decide)]
 split
 ·rfl
 ·rw [if_neg (by simp only; decide),if_neg (by simp only; decide),if_neg (by simp only; decide),if_neg (by simp only; decide),if_neg (fun q => absurd q.1 (by simp only; decide))]
theorem runQ_at {b : List UInt8} {m : Ma} (hB : Beg b m) : runQ b (b.length + 6000) 0 ⟨0,0,[]⟩ = some (nzM m,(mtx m).length):=by
 obtain ⟨h,r,hb⟩:=hB
 have hn:=h.n2
 have hl:=h.len
 have hc1:=h.c1
 have hc2:=h.c2
 have hn1:=h.n1
 have hP : Pos b 0 (recs m) r:=⟨Nat.zero_le _,by rw [List.drop_zero,hb]; rfl,recs_ok h⟩
 have hfin : ∀ p,Pos b p [] r → p = (mtx m).length:=fun p hp => by
  obtain ⟨e1,e2⟩:=hp.last
  rw [hb,List.length_append] at e1
  omega
 have hqn : ((nq (dec m.next) 0 : Nat) : Int) = m.next:=nq_dec (by omega) hn
 obtain ⟨F,hF⟩ : ∃ F,b.length + 6000 = F + 5995:=⟨b.length + 5,by omega⟩
 rw [hF]
 by_cases hs : m.since = 0
 ·have h1 : Pos b 0 ((sKind,sFull) :: (sFormat,sCoffer) :: (sNext,dec m.next) :: (sCount,dec m.items.length) :: ((m.items.map itemR).flatten ++ [(sEnd,sMani)])) r:=by
   have:=hP
   unfold recs headR at this
   rw [if_pos hs,if_pos hs] at this
   simpa using this
  obtain ⟨p5,f5,e5,g5,h5⟩:=runQ_items hn m.items [] (F + 5991) _ 0 m.next h.it (by simpa using hl) (by omega) h1.next.next.next.next
  obtain ⟨f6,rfl⟩ : ∃ f6,f5 = f6 + 1:=⟨f5 - 1,by omega⟩
  rw [runQ_step h1 (stp_plain (by decide) (by decide) (by decide)) (by simp only; decide),runQ_step h1.next (stp_plain (by decide) (by decide) (by decide)) (by simp only; decide),runQ_step h1.next.next stp_next (by simp only; decide),runQ_step h1.next.next.next (stp_plain (by decide) (by decide) (by decide)) (by simp only; decide),hqn,e5,runQ_last h5 stp_end rfl,hfin _ h5.next]
  unfold nzM
  rw [hs]
  rfl
 ·have h1 : Pos b 0 ((sKind,sDelta) :: (sFormat,sCoffer) :: (sNext,dec m.next) :: (sSince,dec m.since) :: (sCount,dec m.items.length) :: ((m.items.map itemR).flatten ++ [(sEnd,sMani)])) r:=by
   have:=hP
   unfold recs headR at this
   rw [if_neg hs,if_neg hs] at this
   simpa using this
  have hqs : ((nq (dec m.since) 0 : Nat) : Int) = m.since:=nq_dec hc1 (by omega)
  obtain ⟨p5,f5,e5,g5,h5⟩:=runQ_items hn m.items [] (F + 5990) _ m.since m.next h.it (by simpa using hl) (by omega) h1.next.next.next.next.next
  obtain ⟨f6,rfl⟩ : ∃ f6,f5 = f6 + 1:=⟨f5 - 1,by omega⟩
  rw [runQ_step h1 (stp_plain (by decide) (by decide) (by decide)) (by simp only; decide),runQ_step h1.next (stp_plain (by decide) (by decide) (by decide)) (by simp only; decide),runQ_step h1.next.next stp_next (by simp only; decide),runQ_step h1.next.next.next stp_since (by simp only; decide),runQ_step h1.next.next.next.next (stp_plain (by decide) (by decide) (by decide)) (by simp only; decide),hqn,hqs,e5,runQ_last h5 stp_end rfl,hfin _ h5.next]
  rfl
theorem qbeg {b : List UInt8} {m : Ma} {n : Nat} (h : runQ b (b.length + 6000) 0 ⟨0,0,[]⟩ = some (m,n)) (h1 : RtM m) (h2 : mtx m = b.take n) : Beg b m ∧ nzM m = m ∧ n = (mtx m).length:=by
 have hB : Beg b m:=⟨h1,b.drop n,by rw [h2,List.take_append_drop]⟩
 have e:=runQ_at hB
 rw [h] at e
 injection e with e
 injection e with e1 e2
 exact ⟨hB,e1.symm,e2⟩
theorem qno {b : List UInt8} (h : runQ b (b.length + 6000) 0 ⟨0,0,[]⟩ = none) (m : Ma) : ¬ Beg b m:=fun hB => by rw [runQ_at hB] at h; cases h
theorem qno2 {b : List UInt8} {m : Ma} {n : Nat} (h : runQ b (b.length + 6000) 0 ⟨0,0,[]⟩ = some (m,n)) (h1 : ¬ (RtM m ∧ mtx m = b.take n)) (m' : Ma) : ¬ Beg b m':=fun hB => by
 rw [runQ_at hB] at h
 injection h with h
 injection h with e1 e2
 subst e1 e2
 exact h1 ⟨rtm_nz hB.1,by rw [mtx_nz,hB.take]⟩
end
section
open Go.RowKit
open Go.Proofs.YtdfjlmfnkhhnjaaGreatDoorH (hv hv_length hv_one hv_eq lay lay_get lay_size heap_setCells there_of_row)
theorem own_cellT {w : World} {base g cap n s : Nat} {t : TypeId} {xs : List Value} (h : w.ownsRow base t s (.slice (some ⟨g,0,none⟩) n cap) n xs) (j : Nat) (u : Value) : (w.setCell ⟨g,j,none⟩ u).ownsRow base t s (.slice (some ⟨g,0,none⟩) n cap) n (xs.set j u):=by
 refine ⟨by rw [List.length_set]; exact h.1,?_⟩
 rcases h.2 with ⟨e,_⟩ | ⟨g',cap',cur,e,h2,h3,h4,h5,h6,h7⟩
 ·cases e
 ·injection e with e1 e2 e3
  injection e1 with e1
  injection e1 with e1
  subst e1 e3
  refine Or.inr ⟨g,cap,_,rfl,h2,heap_setCell_same _ _ _ _ _ _ h3,h4,h5,by rw [Array.size_setIfInBounds]; exact h6,?_⟩
  rw [Array.toList_setIfInBounds,← h7,List.take_set]
def layL : List Value → Nat → List Value → List Value
 | xs,_,[] => xs
 | xs,o,v :: r => layL (xs.set o v) (o + 1) r
theorem own_cellsT {base g cap n s : Nat} {t : TypeId} : ∀ (vs : List Value) (o : Nat) {w : World} {xs : List Value},w.ownsRow base t s (.slice (some ⟨g,0,none⟩) n cap) n xs → (w.setCells g o vs).ownsRow base t s (.slice (some ⟨g,0,none⟩) n cap) n (layL xs o vs)
 | [],_,_,_,h => h
 | v :: r,o,_,_,h => own_cellsT r (o + 1) (own_cellT h o v)
theorem layL_mid : ∀ (vs B A C : List Value),B.length = vs.length → layL (A ++ B ++ C) A.length vs = A ++ vs ++ C
 | [],[],A,C,_ => rfl
 | v :: vs,b :: B,A,C,h => by
  have h2 : (A ++ b :: B ++ C).set A.length v = (A ++ [v]) ++ B ++ C:=by simp
  have:=layL_mid vs B (A ++ [v]) C (by simpa using h)
  rw [List.length_append,List.length_singleton] at this
  show layL ((A ++ b :: B ++ C).set A.length v) (A.length + 1) vs = _
  rw [h2,this]
  simp
theorem rics_last (R : List Ri) (r r' : Ri) (j : Nat) (x : Value) (hj : j < 37) (h : ri r' = (ri r).set j x) : rics (R ++ [r']) = (rics (R ++ [r])).set (R.length * 37 + j) x:=by
 rw [rics_append,rics_append,rics_one',rics_one',h,← rics_len R,List.set_append_right _ _ (by omega)]
 congr 2
 omega
theorem rics_hash (R : List Ri) (x : It) (a : Option Addr) (c : Nat) (f : Nat → UInt8) : rics (R ++ [({ x with g:=f },a,c)]) = layL (rics (R ++ [(x,a,c)])) (R.length * 37 + 5) (hv f):=by
 have e : ∀ g : Nat → UInt8,rics (R ++ [({ x with g:=g },a,c)]) = (rics R ++ [str x.key,.int .i64 x.seq,.bool x.mkr,.int .i64 x.size,.slice a x.l.length c]) ++ hv g ++ []:=fun g => by
  rw [rics_append,rics_one']
  unfold ri ic
  simp
 have e2 : R.length * 37 + 5 = (rics R ++ [str x.key,.int .i64 x.seq,.bool x.mkr,.int .i64 x.size,.slice a x.l.length c]).length:=by rw [List.length_append,rics_len]; rfl
 have h0 : rics (R ++ [(x,a,c)]) = _:=e x.g
 rw [e f,h0,e2,layL_mid _ _ _ _ (by rw [hv_length,hv_length])]
structure QS (W w : World) (m : Ma) (v : Value) (R : List Ri) : Prop where
 g0 : Bn3 w W.heap.size 0 0 (.slice none 0 0)
 g1 : Bn3 w (W.heap.size + 1) m.since m.next v
 own : w.ownsRow (W.heap.size + 2) 81 37 v R.length (rics R)
 le : W.heap.size + 2 ≤ w.heap.size
 met : ∀ (k : Nat) (r : Ri),R[k]? = some r → Ow (W.heap.size + 2) w r.mv r.1.l
 par : ∀ (j k : Nat) (r r' : Ri),¬ j = k → R[j]? = some r → R[k]? = some r' → ∀ b,r.mv.ownBlock = some b → r'.mv.ownBlock ≠ some b
 bel : Below W.heap.size W w
 it : R.map (·.1) = m.items
theorem QS.start (W : World) : QS W ((W.alloc (.cells #[.int .i64 0,.int .i64 0,.slice none 0 0] 38)).alloc (.cells #[.int .i64 0,.int .i64 0,.slice none 0 0] 38)) ⟨0,0,[]⟩ (.slice none 0 0) []:=by
 have b0:=(Below.refl W.heap.size W).alloc (Nat.le_refl _) (.cells #[.int .i64 0,.int .i64 0,.slice none 0 0] 38)
 have b1:=b0.alloc b0.size (.cells #[.int .i64 0,.int .i64 0,.slice none 0 0] 38)
 refine ⟨(Bn3.new W 0 0 (.slice none 0 0)).later ((Below.refl _ _).alloc (Nat.le_refl _) _),?_,World.ownsRow_nil _ _ _ _,by simp,fun k r h => by simp at h,fun j k r r' _ h => by simp at h,b1,rfl⟩
 have:=Bn3.new (W.alloc (.cells #[.int .i64 0,.int .i64 0,.slice none 0 0] 38)) 0 0 (.slice none 0 0)
 rw [World.size_alloc] at this
 exact this
section
variable {W w w' : World} {m : Ma} {v v' : Value} {R : List Ri}
theorem QS.later (h : QS W w m v R) (hb : Below w.heap.size w w') : QS W w' m v R :=
 ⟨h.g0.later hb,h.g1.later hb,own_later h.own hb,Nat.le_trans h.le hb.size,fun k r hr => (h.met k r hr).later hb,h.par,h.bel.trans (hb.mono h.bel.size),h.it⟩
theorem QS.setM (h : QS W w m v R) (j : Nat) (x : Value) {s n : Int} (hm : Bn3 (w.setCell ⟨W.heap.size + 1,j,none⟩ x) (W.heap.size + 1) s n v) : QS W (w.setCell ⟨W.heap.size + 1,j,none⟩ x) ⟨s,n,m.items⟩ v R:=by
 have hk : ∀ k,W.heap.size + 2 ≤ k → (w.setCell ⟨W.heap.size + 1,j,none⟩ x).heap[k]? = w.heap[k]?:=fun k hk => hso _ _ (by omega)
 exact ⟨h.g0.oth (hso _ _ (by omega)),hm,own_keep h.own (fun g hg => hk g (h.own.lt g hg).1),by simpa using h.le,fun k r hr => (h.met k r hr).stay (by simp) (fun g hg => hk g ((h.met k r hr).own.lt g hg).1),h.par,h.bel.setCell (p:=⟨W.heap.size + 1,j,none⟩) (Nat.le_succ _) _,h.it⟩
theorem QS.next (h : QS W w m v R) (n : Int) : QS W (w.setCell ⟨W.heap.size + 1,1,none⟩ (.int .i64 n)) { m with next:=n } v R:=h.setM 1 _ (by unfold Bn3; rw [heap_setCell_same _ _ _ _ _ _ h.g1]; rfl)
theorem QS.since (h : QS W w m v R) (n : Int) : QS W (w.setCell ⟨W.heap.size + 1,0,none⟩ (.int .i64 n)) { m with since:=n } v R:=h.setM 0 _ (by unfold Bn3; rw [heap_setCell_same _ _ _ _ _ _ h.g1]; rfl)
theorem QS.more (h : QS W w m v R) (x : It) (hx : x.l = []) (hn : R.length ≤ 1954687338240) :
  ∃ g' c' w',(∀ ty,(Builtin.append_ #[36,36] ty #[v,.slice (some ⟨w.heap.size,0,none⟩) 1 1]).run Tryz.prog (w.alloc (.cells (ic x none 0).toArray 81)) = .ok (.slice (some ⟨g',0,none⟩) (R.length + 1) c') w') ∧ Bn3 w' (W.heap.size + 1) m.since m.next v ∧ QS W (w'.setCell ⟨W.heap.size + 1,2,none⟩ (.slice (some ⟨g',0,none⟩) (R.length + 1) c')) { m with items:=m.items ++ [x] } (.slice (some ⟨g',0,none⟩) (R.length + 1) c') (R ++ [(x,none,0)]):=by
 obtain ⟨g',c',w',hr,hown,h2,hk⟩:=run_rqK (x,none,0) h.own (Nat.le_trans (Nat.le_refl _) h.le) hn
 have hsz:=h2.size
 have hle:=h.le
 have e2 : Bn3 w' (W.heap.size + 1) m.since m.next v:=h.g1.oth (h2.block _ (by omega))
 have hms : ∀ (k : Nat) (r : Ri),R[k]? = some r → Ow (W.heap.size + 2) (w'.setCell ⟨W.heap.size + 1,2,none⟩ (.slice (some ⟨g',0,none⟩) (R.length + 1) c')) r.mv r.1.l:=fun k r hr => by
  have hq:=h.met k r hr
  refine hq.stay (by simpa using hsz) (fun g hg => ?_)
  have h3:=hq.own.lt g hg
  rw [hso _ _ (by omega)]
  exact hk g h3.2 (own_apart hq.own h.own (by decide) hg)
 refine ⟨g',c',w',hr,e2,⟨h.g0.oth ((hso _ _ (by omega)).trans (h2.block _ (by omega))),by unfold Bn3; rw [heap_setCell_same _ _ _ _ _ _ e2]; rfl,?_,by simpa using Nat.le_trans h.le hsz,?_,?_,(h.bel.trans (h2.mono (by omega))).setCell (p:=⟨W.heap.size + 1,2,none⟩) (Nat.le_succ _) _,?_⟩⟩
 ·have:=own_keep (w':=w'.setCell ⟨W.heap.size + 1,2,none⟩ (.slice (some ⟨g',0,none⟩) (R.length + 1) c')) hown (fun g hg => hso _ _ (by have:=(hown.lt g hg).1; omega))
  simpa using this
 ·intro k r hr
  by_cases hkl : k < R.length
  ·rw [List.getElem?_append_left hkl] at hr
   exact hms k r hr
  ·have hkl' : k = R.length:=by
    have:=(List.getElem?_eq_some_iff.1 hr).1
    simp at this; omega
   subst hkl'
   simp at hr
   subst hr
   show Ow _ _ (.slice none x.l.length 0) x.l
   rw [hx]
   exact Ow.nil _ _ (by simpa using Nat.le_trans h.le hsz)
 ·intro j k r r' hjk hj hk' b hb hb'
  by_cases hjl : j < R.length
  ·rw [List.getElem?_append_left hjl] at hj
   by_cases hkl : k < R.length
   ·rw [List.getElem?_append_left hkl] at hk'
    exact h.par j k r r' hjk hj hk' b hb hb'
   ·have hkl' : k = R.length:=by
     have:=(List.getElem?_eq_some_iff.1 hk').1
     simp at this; omega
    subst hkl'
    simp at hk'
    subst hk'
    cases hb'
  ·have hjl' : j = R.length:=by
    have:=(List.getElem?_eq_some_iff.1 hj).1
    simp at this; omega
   subst hjl'
   simp at hj
   subst hj
   cases hb
 ·rw [List.map_append,h.it]; rfl
end
theorem QS.upd {W w w' : World} {m : Ma} {g n cap : Nat} {R : List Ri} {r r' : Ri} (h : QS W w m (.slice (some ⟨g,0,none⟩) n cap) (R ++ [r])) (hs : w.heap.size ≤ w'.heap.size) (hk : ∀ k,k < w.heap.size → k ≠ g → r.mv.ownBlock ≠ some k → w'.heap[k]? = w.heap[k]?)
  (ho : w'.ownsRow (W.heap.size + 2) 81 37 (.slice (some ⟨g,0,none⟩) n cap) (R.length + 1) (rics (R ++ [r']))) (hm : Ow (W.heap.size + 2) w' r'.mv r'.1.l) (hf : ∀ b,r'.mv.ownBlock = some b → r.mv.ownBlock = some b ∨ w.heap.size ≤ b) (hb : Below (W.heap.size + 2) w w') :
  QS W w' { m with items:=R.map (·.1) ++ [r'.1] } (.slice (some ⟨g,0,none⟩) n cap) (R ++ [r']):=by
 have hle:=h.le
 have hlast : (R ++ [r])[R.length]? = some r:=by simp
 have hme : ∀ (k : Nat) (q : Ri),R[k]? = some q → (R ++ [r])[k]? = some q:=fun k q hq => by rw [List.getElem?_append_left (List.getElem?_eq_some_iff.1 hq).1]; exact hq
 have hls : ∀ (k : Nat) (q : Ri),(R ++ [r'])[k]? = some q → (k < R.length ∧ R[k]? = some q) ∨ (k = R.length ∧ q = r'):=fun k q hq => by
  by_cases hkl : k < R.length
  ·rw [List.getElem?_append_left hkl] at hq
   exact .inl ⟨hkl,hq⟩
  ·have hkl' : k = R.length:=by
    have:=(List.getElem?_eq_some_iff.1 hq).1
    simp at this; omega
   subst hkl'
   simp at hq
   exact .inr ⟨rfl,hq.symm⟩
 refine ⟨h.g0.oth (hb.block _ (by omega)),h.g1.oth (hb.block _ (by omega)),by rw [List.length_append]; exact ho,Nat.le_trans h.le hs,?_,?_,h.bel.trans (hb.mono (by omega)),by simp⟩
 ·intro k q hq
  rcases hls k q hq with ⟨hkl,hq⟩ | ⟨rfl,rfl⟩
  ·have hq0:=h.met k q (hme k q hq)
   refine hq0.stay hs (fun b hbb => hk b (hq0.own.lt b hbb).2 (fun e => ?_) (fun e => ?_))
   ·subst e
    exact own_apart h.own hq0.own (by decide) (g:=b) rfl hbb
   ·exact h.par k R.length q r (by omega) (hme k q hq) hlast b hbb e
  ·exact hm
 ·intro j k q q' hjk hj hk' b hbj hbk
  rcases hls j q hj with ⟨hjl,hj1⟩ | ⟨ej,eq⟩
  ·rcases hls k q' hk' with ⟨hkl,hk1⟩ | ⟨ek,eq'⟩
   ·exact h.par j k q q' hjk (hme j q hj1) (hme k q' hk1) b hbj hbk
   ·rw [eq'] at hbk
    rcases hf b hbk with e | e
    ·exact h.par j R.length q r (by omega) (hme j q hj1) hlast b hbj e
    ·have:=((h.met j q (hme j q hj1)).own.lt b hbj).2
     omega
  ·rw [eq] at hbj
   rcases hls k q' hk' with ⟨hkl,hk1⟩ | ⟨ek,_⟩
   ·rcases hf b hbj with e | e
    ·exact h.par R.length k r q' (by omega) hlast (hme k q' hk1) b e hbk
    ·have:=((h.met k q' (hme k q' hk1)).own.lt b hbk).2
     omega
   ·exact hjk (ej.trans ek.symm)
theorem QS.cell {W w : World} {m : Ma} {g n cap : Nat} {R : List Ri} {r r' : Ri} (h : QS W w m (.slice (some ⟨g,0,none⟩) n cap) (R ++ [r])) (j : Nat) (x : Value) (hj : j < 37) (hn : n = R.length + 1) (hc : ri r' = (ri r).set j x) (hmv : r'.mv = r.mv) (hl : r'.1.l = r.1.l) :
  QS W (w.setCell ⟨g,R.length * 37 + j,none⟩ x) { m with items:=R.map (·.1) ++ [r'.1] } (.slice (some ⟨g,0,none⟩) n cap) (R ++ [r']):=by
 subst hn
 have hg:=h.own.lt g rfl
 have hlast : (R ++ [r])[R.length]? = some r:=by simp
 have hw:=h.met R.length r hlast
 have ho:=h.own
 rw [List.length_append] at ho
 refine h.upd (by simp) (fun k _ hk _ => hso _ _ hk) ?_ ?_ (fun b hb => .inl (by rw [← hmv]; exact hb)) ((Below.refl _ _).setCell (p:=⟨g,_,none⟩) hg.1 _)
 ·rw [rics_last R r r' j x hj hc]
  exact own_cellT ho _ _
 ·rw [hmv,hl]
  exact hw.stay (by simp) (fun b hb => hso _ _ (fun e => by subst e; exact own_apart h.own hw.own (by decide) (g:=b) rfl hb))
theorem below_scs {B : Nat} {w0 : World} {b : Nat} (hb : B ≤ b) : ∀ (vs : List Value) (o : Nat) {w : World},Below B w0 w → Below B w0 (w.setCells b o vs)
 | [],_,_,h => h
 | v :: r,o,_,h => below_scs hb r (o + 1) (h.setCell (p:=⟨b,o,none⟩) hb v)
theorem QS.hash {W w : World} {m : Ma} {g n cap : Nat} {R : List Ri} {x : It} {a : Option Addr} {c : Nat} (h : QS W w m (.slice (some ⟨g,0,none⟩) n cap) (R ++ [(x,a,c)])) (hn : n = R.length + 1) (f : Nat → UInt8) :
  QS W (w.setCells g (R.length * 37 + 5) (hv f)) { m with items:=R.map (·.1) ++ [{ x with g:=f }] } (.slice (some ⟨g,0,none⟩) n cap) (R ++ [({ x with g:=f },a,c)]):=by
 subst hn
 have hg:=h.own.lt g rfl
 have hlast : (R ++ [(x,a,c)])[R.length]? = some (x,a,c):=by simp
 have hw:=h.met R.length (x,a,c) hlast
 have ho:=h.own
 rw [List.length_append] at ho
 refine h.upd (r':=({ x with g:=f },a,c)) (by rw [szs]; exact Nat.le_refl _) (fun k _ hk _ => hsos hk _ _) ?_ ?_ (fun b hb => .inl hb) (below_scs hg.1 _ _ (Below.refl _ _))
 ·rw [rics_hash]
  exact own_cellsT _ _ ho
 ·exact hw.stay (by rw [szs]; exact Nat.le_refl _) (fun b hb => hsos (fun e => by subst e; exact own_apart h.own hw.own (by decide) (g:=b) rfl hb) _ _)
theorem QS.pair {W w w1 : World} {m : Ma} {g n cap : Nat} {R : List Ri} {x : It} {a : Option Addr} {c : Nat} (h : QS W w m (.slice (some ⟨g,0,none⟩) n cap) (R ++ [(x,a,c)])) (hn : n = R.length + 1) (hl : x.l.length ≤ 4398046510976) (e : En) (hb1 : Below w.heap.size w w1) :
  ∃ ia ic1 w',(∀ ty,(Builtin.append_ #[43,43] ty #[.slice a x.l.length c,.slice (some ⟨w1.heap.size,0,none⟩) 1 1]).run Tryz.prog (w1.alloc (.cells #[str e.key,str e.val] 49)) = .ok (.slice ia (x.l.length + 1) ic1) w') ∧ (w'.frozen? ⟨g,R.length * 37 + 4,none⟩ = false ∧ w'.cell? ⟨g,R.length * 37 + 4,none⟩ = some (.slice a x.l.length c) ∧ Bn3 w' (W.heap.size + 1) m.since m.next (.slice (some ⟨g,0,none⟩) n cap)) ∧
   QS W (w'.setCell ⟨g,R.length * 37 + 4,none⟩ (.slice ia (x.l.length + 1) ic1)) { m with items:=R.map (·.1) ++ [{ x with l:=x.l ++ [e] }] } (.slice (some ⟨g,0,none⟩) n cap) (R ++ [({ x with l:=x.l ++ [e] },ia,ic1)]):=by
 subst hn
 have h1:=h.later hb1
 have hg:=h1.own.lt g rfl
 have hlast : (R ++ [(x,a,c)])[R.length]? = some (x,a,c):=by simp
 have hw:=h1.met R.length (x,a,c) hlast
 have ho:=h1.own
 rw [List.length_append] at ho
 obtain ⟨i0,hi0,hz0,hz1,hz2⟩:=infoP
 have hm : maxLen = 9223372036854775807:=rfl
 have o1 : (w1.alloc (.cells #[str e.key,str e.val] 49)).ownsRow (W.heap.size + 2) 49 2 (.slice a x.l.length c) x.l.length (pcells x.l):=hw.own.alloc _
 obtain ⟨ig,ic1,w',hr,hown,hgrow,hat,_⟩:=run_append_lies (P:=Tryz.prog) (w:=w1.alloc (.cells #[str e.key,str e.val] 49)) 43 43 (W.heap.size + 2) 49 i0 _ 2 32 Tryz.underlying43 hi0 hz0 hz1 hz2 rfl (by omega) _ x.l.length (pcells x.l) o1 ⟨w1.heap.size,0,none⟩ 1 1 [str e.key,str e.val] rfl
  (World.news_of_block (cs:=#[str e.key,str e.val]) (t:=49) (fr:=(0,0)) (heap_alloc_new w1 _)) (by simp [Value.oneCell']) (by omega) (by rw [hm]; omega) (by omega) (by have:=h1.le; simp; omega) _ rfl
 have hown2 : w'.ownsRow (W.heap.size + 2) 49 2 (.slice (some ⟨ig,0,none⟩) (x.l.length + 1) ic1) (x.l.length + 1) (pcells (x.l ++ [e])):=by
  rw [pcells_append]
  have : pcells [e] = [str e.key,str e.val]:=by simp [pcells,pcs]
  rw [this]; exact hown
 obtain ⟨cq,q3⟩:=own_type hown2 (g:=ig) rfl
 have hsz : w1.heap.size ≤ w'.heap.size:=by have:=hgrow.size; simp at this; omega
 have hk : ∀ k,k < w1.heap.size → (Value.slice a x.l.length c).ownBlock ≠ some k → w'.heap[k]? = w1.heap[k]?:=fun k hkl hne => by rw [hgrow.block k (by simp; omega) (Ne.symm hne)]; exact hao4 _ _ _ hkl
 have hag : (Value.slice a x.l.length c).ownBlock ≠ some g:=own_apart h1.own hw.own (by decide) rfl
 obtain ⟨cs,ecs⟩:=own_type h1.own (g:=g) rfl
 have hg':=hk g hg.2 hag
 have hsame : ri ({ x with l:=x.l ++ [e] },some ⟨ig,0,none⟩,ic1) = (ri (x,a,c)).set 4 (.slice (some ⟨ig,0,none⟩) (x.l.length + 1) ic1):=by simp [ri,ic]
 have hbw : Below (W.heap.size + 2) w1 w':=((Below.refl _ _).alloc h1.le _).trans (grown_below o1 (by simp; have:=h1.le; omega) hgrow)
 have hb0 : Below (W.heap.size + 2) w w1:=hb1.mono h.le
 refine ⟨some ⟨ig,0,none⟩,ic1,w',fun ty => hr,⟨frozen_of_row _ _ _ _ _ (hg'.trans ecs),?_,h1.g1.oth (hbw.block _ (by omega))⟩,?_⟩
 ·have hc4 : w1.cell? ⟨g,R.length * 37 + 4,none⟩ = (rics (R ++ [(x,a,c)]))[R.length * 37 + 4]?:=ho.cellAt _ (by show R.length * 37 + 4 < (R.length + 1) * 37; omega)
  have hc5 : (rics (R ++ [(x,a,c)]))[R.length * 37 + 4]? = some (.slice a x.l.length c):=by rw [rics_get _ _ _ hlast 4 (by omega)]; rfl
  rw [hc5] at hc4
  rw [cell_of_row _ _ _ _ _ _ (hg'.trans ecs),← cell_of_row _ _ _ _ _ _ ecs]
  exact hc4
 ·have hig:=hown2.lt ig rfl
  have hne : ig ≠ g:=fun q => by
   subst q
   rw [hg',ecs] at q3
   injection q3 with q3
   injection q3 with _ q3
   exact absurd q3 (by decide)
  refine h1.upd (r':=({ x with l:=x.l ++ [e] },some ⟨ig,0,none⟩,ic1)) (by simpa using hsz) (fun k hkl hkg hko => by rw [hso _ _ hkg]; exact hk k hkl hko) ?_ ?_ (fun b hb => ?_) (hbw.setCell (p:=⟨g,_,none⟩) hg.1 _)
  ·rw [rics_last R (x,a,c) _ 4 _ (by omega) hsame]
   refine own_cellT ?_ _ _
   exact own_keep ho (fun b hb => by have : b = g:=(by simpa [Value.ownBlock] using hb.symm); rw [this]; exact hg')
  ·have hO : Ow (W.heap.size + 2) w' (.slice (some ⟨ig,0,none⟩) (x.l.length + 1) ic1) (x.l ++ [e]):=⟨by rw [List.length_append]; exact hown2,by have:=h1.le; omega⟩
   have:=hO.stay (w':=w'.setCell ⟨g,R.length * 37 + 4,none⟩ (.slice (some ⟨ig,0,none⟩) (x.l.length + 1) ic1)) (by simp) (fun b hb => hso _ _ (fun q => hne ((show ig = b by simpa [Value.ownBlock] using hb).trans q)))
   show Ow _ _ (.slice (some ⟨ig,0,none⟩) (x.l ++ [e]).length ic1) _
   rw [List.length_append]
   exact this
  ·have hbi : b = ig:=by simpa [Ri.mv,Value.ownBlock] using hb.symm
   subst hbi
   rcases hat with q | q
   ·exact .inl q
   ·exact .inr (by simp at q; omega)
end
section
open Go.RowKit
open Go.Proofs.YtdfjlmfnkhhnjaaGreatDoorP (ix9 ixS idxs getD_of Rd LEN nn recd)
open Go.Proofs.YtdfjlmfnkhhnjaaGreatDoorH (pz)
attribute [local go_sem ↓] Go.wp_at_zero Go.wp_at_succ ix9
theorem nq_drop {l : List UInt8} {k a : Nat} (h : k < l.length) : nq (l.drop k) a = if (l.getD k 0).toNat < 48 ∨ 57 < (l.getD k 0).toNat ∨ 1099511627776 < a then 0 else nq (l.drop (k + 1)) (a * 10 + ((l.getD k 0).toNat - 48)):=by
 have e : l.drop k = l.getD k 0 :: l.drop (k + 1):=by
  rw [List.getD_eq_getElem?_getD,List.getElem?_eq_getElem h]
  exact List.drop_eq_getElem_cons h
 rw [e]
 rfl
set_option maxHeartbeats 4000000 in
theorem qnumber_any (l : List UInt8) (hl : l.length ≤ 4611686018427387904) (w : World) :
  Calls Tryz.prog 133 #[str l] w fun e w' => e = .returned (.int .i64 ((nq l 0 : Nat) : Int)) ∧ w' = w:=by
 have hix : ∀ (p : Nat) (h : p < l.length) (w : World),(ixS (str l) (.int .i64 (p : Int))).run Tryz.prog w = .ok (.int .u8 ((l.getD p 0).toNat : Int)) w:=fun p h w => idxs ⟨l.toArray⟩ l rfl p (by rw [str_size]; exact h) w
 obtain ⟨N,hN⟩ : ∃ N,Hid (nq l 0 = N):=⟨_,⟨rfl⟩⟩
 rw [hN.out]
 go_enter Tryz.func133,Tryz.ntmps133
 go_wp2_with fail
 go_loop [3,4] (fun v i => ∃ k a : Nat,v = .int .i64 (a : Int) ∧ i = .int .i64 (k : Int) ∧ k ≤ l.length ∧ a ≤ 10995116277769 ∧ Hid (nq (l.drop k) a = N)) (fun _ i => l.length - (intOf i).toNat)
 case atStart => exact ⟨0,0,rfl,rfl,Nat.zero_le _,Nat.zero_le _,hN⟩
 case round =>
  obtain ⟨k,a,rfl,rfl,hk,ha,HQ⟩:=hrel
  by_cases h1 : k < l.length
  ·have d1 : decide ((k : Int) < (l.length : Int)) = true:=decide_eq_true (by omega)
   have hx:=hix k h1
   have hst:=nq_drop (l:=l) (k:=k) (a:=a) h1
   obtain ⟨c,hc⟩ : ∃ c,c = l.getD k 0:=⟨_,rfl⟩
   rw [← hc] at hx hst
   clear hc hix
   by_cases h5 : c.toNat < 48
   ·have d5 : decide ((c.toNat : Int) < (48 : Int)) = true:=decide_eq_true (by omega)
    rw [if_pos (.inl h5)] at hst
    have HF : Hid (N = 0):=⟨by rw [← HQ.out,hst]⟩
    clear hst h5
    go_wp2_with fail
    go_ret
    exact ⟨by rw [HF.out]; rfl,rfl⟩
   have d5 : decide ((c.toNat : Int) < (48 : Int)) = false:=decide_eq_false (by omega)
   by_cases h6 : 57 < c.toNat
   ·have d6 : decide ((57 : Int) < (c.toNat : Int)) = true:=decide_eq_true (by omega)
    rw [if_pos (.inr (.inl h6))] at hst
    have HF : Hid (N = 0):=⟨by rw [← HQ.out,hst]⟩
    clear hst h6 h5
    go_wp2_with fail
    go_ret
    exact ⟨by rw [HF.out]; rfl,rfl⟩
   have d6 : decide ((57 : Int) < (c.toNat : Int)) = false:=decide_eq_false (by omega)
   by_cases h7 : 1099511627776 < a
   ·have d7 : decide ((1099511627776 : Int) < (a : Int)) = true:=decide_eq_true (by omega)
    rw [if_pos (.inr (.inr h7))] at hst
    have HF : Hid (N = 0):=⟨by rw [← HQ.out,hst]⟩
    clear hst h7 h6 h5
    go_wp2_with fail
    go_ret
    exact ⟨by rw [HF.out]; rfl,rfl⟩
   have d7 : decide ((1099511627776 : Int) < (a : Int)) = false:=decide_eq_false (by omega)
   rw [if_neg (by omega)] at hst
   have ha2 : a ≤ 1099511627776:=by omega
   have hc1 : 48 ≤ c.toNat:=by omega
   have hc2 : c.toNat ≤ 57:=by omega
   have HF : Hid (nq (l.drop (k + 1)) (a * 10 + (c.toNat - 48)) = N):=⟨by rw [← hst]; exact HQ.out⟩
   have HA : Hid (((a * 10 + (c.toNat - 48) : Nat) : Int) = 10 * (a : Int) + ((c.toNat : Int) - 48) ∧ a * 10 + (c.toNat - 48) ≤ 10995116277769):=⟨by omega,by omega⟩
   clear hst h7 h6 h5 ha
   go_wp2_with fail
   go_round
   case rel => exact ⟨k + 1,a * 10 + (c.toNat - 48),by first | (rw [HA.out.1]; done) | (rw [HA.out.1]; congr 1; omega),by go_num,h1,HA.out.2,HF⟩
   case measure => simp [intOf]; omega
  ·have d1 : decide ((k : Int) < (l.length : Int)) = false:=decide_eq_false (by omega)
   have HF : Hid (N = a):=⟨by rw [← HQ.out,List.drop_eq_nil_of_le (by omega)]; rfl⟩
   clear hix
   go_wp2_with fail
   go_ret
   exact ⟨congrArg (fun z : Nat => Ending.returned (Value.int IntKind.i64 (z : Int))) HF.out.symm,rfl⟩
theorem qrd_any (b : List UInt8) (p : Nat) (hp : p ≤ b.length) (hbl : b.length ≤ 1048576) (w : World) :
  Calls Tryz.prog 132 #[str b,.int .i64 (p : Int)] w fun e w' => ∃ (k v : List UInt8) (n er : Int),e = .returned (.tuple #[str k,str v,.int .i64 n,.int .i64 er]) ∧ Go.Proofs.YtdfjlmfnkhhnjaaGreatDoorP.RdAt b (p : Int) k v n er ∧ Below w.heap.size w w':=by
 refine (Go.Proofs.YtdfjlmfnkhhnjaaGreatDoorP.refRead_any ⟨b.toArray⟩ (p : Int) (by rw [str_size]; omega) (by omega) w).mono ?_
 intro e w' h
 obtain ⟨kk,vv,n,er,e1,e2,e3⟩:=h
 exact ⟨kk.data.toList,vv.data.toList,n,er,by rw [e1,str_data,str_data],e2,e3⟩
structure Sm (b : List UInt8) (p : Nat) (m : Ma) : Prop where
 n : m.items.length ≤ 257
 l : ∀ x ∈ m.items,x.l.length ≤ p ∧ ∀ e ∈ x.l,e.key.length ≤ b.length ∧ e.val.length ≤ b.length
theorem rd_small {b : List UInt8} {p n : Nat} {q : Kv} (h : rdF b p = some (q,n)) : q.1.length ≤ b.length ∧ q.2.length ≤ b.length ∧ p < n ∧ n ≤ b.length:=by
 obtain ⟨h1,h2,h3,h4⟩:=rdFat h
 have : nn q.1 q.2 < LEN (nn q.1 q.2):=Go.Proofs.YtdfjlmfnkhhnjaaGreatDoorP.LEN_pos _
 unfold nn at this
 unfold nn at h2
 omega
theorem mL_mem {l : List It} {f : It → It} {y : It} (h : y ∈ mL l f) : y ∈ l ∨ ∃ x ∈ l,y = f x:=by
 rcases List.eq_nil_or_concat l with rfl | ⟨L,x,rfl⟩
 ·simp [mL] at h
 ·rw [List.concat_eq_append] at h ⊢
  rw [mL_snoc] at h
  rcases List.mem_append.1 h with q | q
  ·exact .inl (by simp [q])
  ·exact .inr ⟨x,by simp,by simpa using q⟩
theorem mL_len (l : List It) (f : It → It) : (mL l f).length = l.length:=by
 rcases List.eq_nil_or_concat l with rfl | ⟨L,x,rfl⟩
 ·rfl
 ·rw [List.concat_eq_append,mL_snoc]; simp
theorem Sm.upd {b : List UInt8} {p n : Nat} {m : Ma} (h : Sm b p m) (hn : p ≤ n) (f : It → It) (hf : ∀ x,(f x).l = x.l) (s t : Int) : Sm b n ⟨s,t,mL m.items f⟩:=by
 refine ⟨by show (mL m.items f).length ≤ 257; rw [mL_len]; exact h.n,fun y hy => ?_⟩
 rcases mL_mem hy with q | ⟨x,hx,rfl⟩
 ·exact ⟨Nat.le_trans (h.l y q).1 hn,(h.l y q).2⟩
 ·rw [hf]; exact ⟨Nat.le_trans (h.l x hx).1 hn,(h.l x hx).2⟩
theorem Sm.same {b : List UInt8} {p n : Nat} {m : Ma} (h : Sm b p m) (hn : p ≤ n) (s t : Int) : Sm b n ⟨s,t,m.items⟩:=⟨h.n,fun x hx => ⟨Nat.le_trans (h.l x hx).1 hn,(h.l x hx).2⟩⟩
theorem Sm.step {b : List UInt8} {p n : Nat} {m m' : Ma} {q : Kv} (h : Sm b p m) (hr : rdF b p = some (q,n)) (hs : stp m q = some m') : Sm b n m':=by
 obtain ⟨r1,r2,r3,r4⟩:=rd_small hr
 have hpn : p ≤ n:=by omega
 unfold stp at hs
 split at hs
 ·injection hs with hs; subst hs; exact h.same hpn _ _
 split at hs
 ·injection hs with hs; subst hs; exact h.same hpn _ _
 split at hs
 ·split at hs
  ·cases hs
  ·injection hs with hs; subst hs
   refine ⟨by simp; omega,fun y hy => ?_⟩
   rcases List.mem_append.1 hy with z | z
   ·exact ⟨Nat.le_trans (h.l y z).1 hpn,(h.l y z).2⟩
   ·rw [List.mem_singleton.1 z]; exact ⟨Nat.zero_le _,fun e he => by simp at he⟩
 split at hs
 ·injection hs with hs; subst hs; exact h.same hpn _ _
 split at hs
 ·injection hs with hs; subst hs; exact h.upd hpn (fun x => { x with seq:=(nq q.2 0 : Nat) }) (fun _ => rfl) _ _
 split at hs
 ·injection hs with hs; subst hs; exact h.upd hpn (fun x => { x with mkr:=q.2 == sMarker }) (fun _ => rfl) _ _
 split at hs
 ·injection hs with hs; subst hs; exact h.upd hpn (fun x => { x with size:=(nq q.2 0 : Nat) }) (fun _ => rfl) _ _
 split at hs
 ·injection hs with hs; subst hs; exact h.upd hpn (fun x => { x with g:=cut32 (pz q.2) }) (fun _ => rfl) _ _
 split at hs
 ·injection hs with hs; subst hs
  refine ⟨by show (mL m.items _).length ≤ 257; rw [mL_len]; exact h.n,fun y hy => ?_⟩
  rcases mL_mem hy with z | ⟨x,hx,rfl⟩
  ·exact ⟨Nat.le_trans (h.l y z).1 hpn,(h.l y z).2⟩
  ·refine ⟨?_,fun e he => ?_⟩
   ·have:=(h.l x hx).1
    simp only [List.length_append,List.length_singleton]
    omega
   ·rcases List.mem_append.1 he with z | z
    ·exact (h.l x hx).2 e z
    ·rw [List.mem_singleton.1 z]
     exact ⟨by simp only [List.length_drop]; omega,r2⟩
 ·injection hs with hs; subst hs; exact h.same hpn _ _
theorem QS.place {W w : World} {m : Ma} {ra : Option Addr} {n cap : Nat} {R : List Ri} {x : It} {a : Option Addr} {c : Nat} (h : QS W w m (.slice ra n cap) (R ++ [(x,a,c)])) : ∃ g,ra = some ⟨g,0,none⟩ ∧ g < w.heap.size ∧ (∀ j,w.frozen? ⟨g,j,none⟩ = false) ∧ w.cell? ⟨g,R.length * 37 + 1,none⟩ = some (.int .i64 x.seq) ∧ w.cell? ⟨g,R.length * 37 + 2,none⟩ = some (.bool x.mkr) ∧ w.cell? ⟨g,R.length * 37 + 3,none⟩ = some (.int .i64 x.size) ∧ w.cell? ⟨g,R.length * 37 + 4,none⟩ = some (.slice a x.l.length c) ∧ w.there g (R.length * 37 + 5) 32:=by
 have hlast : (R ++ [(x,a,c)])[R.length]? = some (x,a,c):=by simp
 rcases h.own.2 with ⟨e,h0⟩ | ⟨g,cap',cur,e,h2,h3,h4,h5,h6,h7⟩
 ·simp at h0
 ·injection e with e1 e2 e3
  subst e1
  have hl:=rics_len (R ++ [(x,a,c)])
  rw [List.length_append,List.length_singleton] at hl h4 h7
  have ho:=h.own
  rw [List.length_append,List.length_singleton] at ho
  obtain rfl : n = R.length + 1:=by simpa using e2
  have hc : ∀ j,j < 37 → w.cell? ⟨g,R.length * 37 + j,none⟩ = (ri (x,a,c))[j]?:=fun j hj => (ho.cellAt _ (by show R.length * 37 + j < (R.length + 1) * 37; omega)).trans (rics_get _ _ _ hlast j hj)
  refine ⟨g,rfl,lt_of_block h3,fun j => frozen_of_row _ _ _ _ _ h3,?_,?_,?_,?_,?_⟩
  ·rw [hc 1 (by omega)]; rfl
  ·rw [hc 2 (by omega)]; rfl
  ·rw [hc 3 (by omega)]; rfl
  ·rw [hc 4 (by omega)]; rfl
  ·exact Go.Proofs.YtdfjlmfnkhhnjaaGreatDoorH.there_of_row h3 _ (by omega)
end
section
open Go.RowKit
open Go.Proofs.YtdfjlmfnkhhnjaaGreatDoorH (hv hv_length hv_one hv_eq pz range_of_row there_of_row refParse_any parsed_pz hv_b32)
attribute [local go_sem ↓] Go.wp_at_zero Go.wp_at_succ bsQe bdQe ldHe stHe Go.Proofs.YtdfjlmfnkhhnjaaGreatDoorP.sl9
attribute [local go_sem] run_bsQ
theorem run_bdZ (k : List UInt8) (w : World) : (bdQ #[(0,str k)]).run Tryz.prog w = .ok (.agg (ic ⟨k,0,false,0,[],zg⟩ none 0).toArray) w:=by
 have h:=it0_cells k 0
 unfold it0 at h
 unfold bdQ
 rw [h]
 exact run_build w 81 _ _ (by kernel_rfl)
theorem qparse_any (l : List UInt8) (hl : l.length ≤ 1048576) (w : World) : Calls Tryz.prog 134 #[str l] w fun e w' => ∃ t,e = .returned (.tuple #[.agg (hv (cut32 (pz l))).toArray,.bool t]) ∧ Below w.heap.size w w':=by
 refine (refParse_any ⟨l.toArray⟩ w (by rw [str_size]; omega)).mono ?_
 rintro e w' ⟨rfl,hb⟩
 exact ⟨_,by rw [hv_cut,hv_b32,parsed_pz],hb⟩
abbrev zr32 : Array Value:=#[.int .u8 0,.int .u8 0,.int .u8 0,.int .u8 0,.int .u8 0,.int .u8 0,.int .u8 0,.int .u8 0,.int .u8 0,.int .u8 0,.int .u8 0,.int .u8 0,.int .u8 0,.int .u8 0,.int .u8 0,.int .u8 0,.int .u8 0,.int .u8 0,.int .u8 0,.int .u8 0,.int .u8 0,.int .u8 0,.int .u8 0,.int .u8 0,.int .u8 0,.int .u8 0,.int .u8 0,.int .u8 0,.int .u8 0,.int .u8 0,.int .u8 0,.int .u8 0]
theorem run_drop5 (b : List UInt8) (h : 5 ≤ b.length) (w : World) : (Go.Proofs.YtdfjlmfnkhhnjaaGreatDoorP.slS (str b) (some (.int .i64 5)) none none).run Tryz.prog w = .ok (str (b.drop 5)) w:=by
 have:=Go.Proofs.YtdfjlmfnkhhnjaaGreatDoorP.run_slL ⟨b.toArray⟩ 5 (by rw [str_size]; exact h) w
 have e : Value.string ((⟨b.toArray⟩ : ByteArray).extract 5 (⟨b.toArray⟩ : ByteArray).size) = str (b.drop 5):=by rw [← str_data,Go.Proofs.YtdfjlmfnkhhnjaaGreatDoorP.ext_drop]
 rw [e] at this
 exact this
theorem run_stHn (w : World) (f : Nat → UInt8) : (stH (.pointer (some ⟨w.heap.size,0,none⟩)) (.agg (hv f).toArray)).run Tryz.prog (w.alloc (.cells zr32 44)) = .ok () (w.alloc (.cells (hv f).toArray 44)):=by
 unfold stH
 exact run_storeAt_new w 44 zr32 (hv f).toArray (by rw [List.size_toArray,hv_length]; exact infoH) ((show zr32.size = 32 from rfl).trans (by rw [List.size_toArray,hv_length])) (all_oneCell_toArray (hv_one f))
theorem run_ldHn (w : World) (f : Nat → UInt8) : (ldH (.pointer (some ⟨w.heap.size,0,none⟩))).run Tryz.prog (w.alloc (.cells (hv f).toArray 44)) = .ok (.agg (hv f).toArray) (w.alloc (.cells (hv f).toArray 44)):=by
 unfold ldH
 exact run_loadAt_mid (P:=Tryz.prog) _ w.heap.size 0 44 (hv f) _ (range_of_row (heap_alloc_new w (.cells (hv f).toArray 44))) Tryz.underlying44 rfl (by rw [hv_length]; exact infoH)
theorem run_stHm {w : World} {g o : Nat} (h : w.there g o 32) (f : Nat → UInt8) : (stH (.pointer (some ⟨g,o,none⟩)) (.agg (hv f).toArray)).run Tryz.prog w = .ok () (w.setCells g o (hv f)):=by
 unfold stH
 exact run_storeAt_mid (P:=Tryz.prog) w g o 44 (hv f).toArray (by rw [List.size_toArray,hv_length]; exact h) (by rw [List.size_toArray,hv_length]; exact infoH) (all_oneCell_toArray (hv_one f))
theorem there_later {w w' : World} {g o n : Nat} (h : w.there g o n) (hg : g < w.heap.size) (hb : Below w.heap.size w w') : w'.there g o n:=fun j hj => by
 have:=h j hj
 rw [hb.cell (p:=⟨g,o + j,none⟩) hg]
 refine ⟨this.1,?_⟩
 have h2:=this.2
 unfold World.frozen? at h2 ⊢
 rw [hb.block g hg]; exact h2
def QRdP (b : List UInt8) (w : World) (e : Ending) (w' : World) : Prop :=
 ((∃ (m : Ma) (a : Option Addr) (c : Nat),Beg b m ∧ nzM m = m ∧ e = .returned (.tuple #[.agg #[.int .i64 m.since,.int .i64 m.next,.slice a m.items.length c],.int .i64 ((mtx m).length : Int),.int .i64 0]) ∧ IIt w' a m.items) ∨
  ((∀ m,¬ Beg b m) ∧ e = .returned (.tuple #[.agg #[.int .i64 0,.int .i64 0,.slice none 0 0],.int .i64 0,.int .i64 90]))) ∧ Below w.heap.size w w'
theorem q_it2 {W : World} {B : Nat} {R : List Ri} {ra : Option Addr} {n rc : Nat} (own : W.ownsRow B 81 37 (.slice ra n rc) R.length (rics R)) (met : ∀ (k : Nat) (r : Ri),R[k]? = some r → Ow B W r.mv r.1.l) : IIt W ra (R.map (·.1)):=by
 refine ⟨fun k x hk => ?_⟩
 rw [List.getElem?_map] at hk
 cases hq : R[k]? with
 | none => rw [hq] at hk; cases hk
 | some r =>
  rw [hq] at hk
  simp at hk
  subst hk
  have hkl:=(List.getElem?_eq_some_iff.1 hq).1
  have hsl:=(met k r hq).asSl2
  rcases own.2 with ⟨e,h0⟩ | ⟨g,cap',cur,e,hbg,hg,_⟩
  ·omega
  ·injection e with e1 e2 e3
   subst e1 e2
   refine ⟨g,0,r.2.1,r.2.2,rfl,lt_of_block hg,fun j v hj => ?_,hsl⟩
   have hj2 : j < 37:=by have:=(List.getElem?_eq_some_iff.1 hj).1; rw [ic_length] at this; exact this
   have hl:=rics_len R
   rw [Nat.zero_add,own.cellAt _ (by omega),rics_get R k r hq j hj2]
   exact hj
theorem QS.iit {W w : World} {m : Ma} {ra : Option Addr} {n rc : Nat} {R : List Ri} (h : QS W w m (.slice ra n rc) R) : IIt w ra m.items:=by rw [← h.it]; exact q_it2 h.own h.met
attribute [-go_sem] Go.Builtin.append_
set_option maxHeartbeats 8000000 in
theorem qRead_any (b : List UInt8) (w : World) (hbl : b.length ≤ 1048576) : Calls Tryz.prog 83 #[str b] w (QRdP b w):=by
 have HQ0:=Hid.mk (QS.start w)
 obtain ⟨res,hres⟩ : ∃ r,Hid (runQ b (b.length + 6000) 0 ⟨0,0,[]⟩ = r):=⟨_,⟨rfl⟩⟩
 have HBL:=Hid.mk hbl
 go_enter Tryz.func83,Tryz.ntmps83
 go_wp2_with fail
 generalize (w.alloc (.cells #[.int .i64 0,.int .i64 0,.slice none 0 0] 38)).alloc (.cells #[.int .i64 0,.int .i64 0,.slice none 0 0] 38) = W1 at *
 go_loopw [6,7,8,9,10,11,12,13] (fun at' _ _ _ _ _ _ _ wr => ∃ (p f : Nat) (m : Ma) (R : List Ri) (ra : Option Addr) (rc : Nat),at' = .int .i64 (p : Int) ∧ p ≤ b.length ∧ Hid (QS w wr m (.slice ra R.length rc) R) ∧ Hid (runQ b f p m = res ∧ b.length < f + p ∧ Sm b p m)) (fun at' _ _ _ _ _ _ _ _ => b.length + 1 - (intOf at').toNat)
 case atStart => exact ⟨0,b.length + 6000,⟨0,0,[]⟩,[],none,0,rfl,Nat.zero_le _,HQ0,⟨hres.out,by omega,⟨by simp,fun x hx => by simp at hx⟩⟩⟩
 case round =>
  clear HQ0
  obtain ⟨p,f,m,R,ra,rc,rfl,hp,HQ,HR⟩:=hrel
  have hrd:=qrd_any b p hp HBL.out wr
  go_wp2_with fail
  with_reducible refine Calls.mono hrd ?_
  rintro e w1 ⟨kl,vl,n,er,rfl,hat,b1⟩
  dsimp only
  replace HQ:=Hid.mk (HQ.out.later b1)
  obtain ⟨f',hf'⟩ : ∃ f',Hid (f = f' + 1):=⟨f - 1,⟨by have:=HR.out.2.1; omega⟩⟩
  clear hrd b1
  rcases rd_link hat hp with ⟨rfl,n',rfl,hf⟩ | ⟨h1,rfl,rfl,rfl,hf⟩
  rotate_left
  ·have h2 : (er != 0) = true:=by rw [bne,h1]; rfl
   have HNo : Hid (∀ m,¬ Beg b m):=⟨fun m' => qno (by rw [hres.out,← HR.out.1,hf'.out,runQ,hf]) m'⟩
   clear hf hat h1
   have n3:=HQ.out.g0.set3 0 0 (.slice none 0 0)
   have B5:=Hid.mk (below3 HQ.out.bel (Nat.le_refl _) (.int .i64 0) (.int .i64 0) (.slice none 0 0))
   obtain ⟨y0,y1,y2⟩:=HQ.out.g0.cells
   have f0:=HQ.out.g0.fz 0
   have f1:=HQ.out.g0.fz 1
   have f2:=HQ.out.g0.fz 2
   go_wp2_with fail
   generalize ((w1.setCell ⟨w.heap.size,0,none⟩ (.int .i64 0)).setCell ⟨w.heap.size,1,none⟩ (.int .i64 0)).setCell ⟨w.heap.size,2,none⟩ (.slice none 0 0) = W9 at *
   obtain ⟨g0,g1,g2⟩:=n3.cells
   refine bodyPost_ret (v := .tuple #[.agg #[.int .i64 0,.int .i64 0,.slice none 0 0],.int .i64 0,.int .i64 90]) ?_ rfl ⟨.inr ⟨HNo.out,rfl⟩,B5.out⟩
   rw [results_ctt rfl]
   go_simp
  obtain ⟨r1,r2,r3,r4⟩:=rd_small hf
  dsimp only at r1 r2
  have HS : Hid (∀ m',stp m (kl,vl) = some m' → Sm b n' m' ∧ (kl = sEnd → res = some (m',n')) ∧ (kl ≠ sEnd → runQ b f' n' m' = res)):=⟨fun m' hm => by
   refine ⟨HR.out.2.2.step hf hm,fun he => ?_,fun he => ?_⟩
   ·rw [← HR.out.1,hf'.out,runQ,hf]; simp only; rw [hm]; simp only; rw [if_pos he]
   ·rw [← HR.out.1,hf'.out,runQ,hf]; simp only; rw [hm]; simp only; rw [if_neg he]⟩
  have HSN : Hid (stp m (kl,vl) = none → res = none):=⟨fun hm => by rw [← HR.out.1,hf'.out,runQ,hf]; simp only; rw [hm]⟩
  have HN : Hid (p < n' ∧ n' ≤ b.length ∧ b.length < f' + n' ∧ R.length ≤ 257):=⟨r3,r4,by have:=HR.out.2.1; have:=hf'.out; omega,by have h:=congrArg List.length HQ.out.it; rw [List.length_map] at h; rw [h]; exact HR.out.2.2.n⟩
  have hnum:=fun (w : World) => qnumber_any vl (by omega) w
  have HV : Hid (vl.length ≤ 1048576 ∧ kl.length ≤ 1048576 ∧ (∀ x ∈ m.items,x.l.length ≤ 1048576)):=⟨by omega,by omega,fun x hx => by have:=(HR.out.2.2.l x hx).1; omega⟩
  clear hf hat r1 r2 r3 r4 HR
  obtain ⟨N,hN⟩ : ∃ N,R.length = N:=⟨_,rfl⟩
  rw [hN] at HQ HN
  have HNR:=Hid.mk hN
  clear hN
  obtain ⟨q0,q1,q2⟩:=HQ.out.g1.cells
  have z0:=HQ.out.g1.fz 0
  have z1:=HQ.out.g1.fz 1
  have z2:=HQ.out.g1.fz 2
  go_upto_block 2 with fail
  go_cut [12,13] from 32 to 157 (fun _ _ wx => ∃ (m' : Ma) (R' : List Ri) (ra' : Option Addr) (rc' : Nat),Hid (stp m (kl,vl) = some m') ∧ Hid (QS w wx m' (.slice ra' R'.length rc') R'))
  case first =>
   by_cases h0 : kl = sNext
   ·have d0 : (kl == [110,101,120,116]) = true:=by rw [h0]; rfl
    have HST : Hid (stp m (kl,vl) = some { m with next:=(nq vl 0 : Nat) }):=⟨by unfold stp; rw [if_pos h0]⟩
    have HQ2:=Hid.mk (HQ.out.next ((nq vl 0 : Nat) : Int))
    clear h0 HS HSN
    generalize nq vl 0 = nv at *
    go_wp2_with fail
    with_reducible refine Calls.mono (hnum _) ?_
    rintro e w2 ⟨rfl,rfl⟩
    go_wp2_with fail
    go_meet
    case rel => exact ⟨_,R,ra,rc,HST,⟨by rw [HNR.out]; exact HQ2.out⟩⟩
   have d0 : (kl == [110,101,120,116]) = false:=beq_eq_false_iff_ne.2 h0
   by_cases h1 : kl = sSince
   ·have d1 : (kl == [115,105,110,99,101]) = true:=by rw [h1]; rfl
    have HST : Hid (stp m (kl,vl) = some { m with since:=(nq vl 0 : Nat) }):=⟨by unfold stp; rw [if_neg h0]; rw [if_pos h1]⟩
    have HQ2:=Hid.mk (HQ.out.since ((nq vl 0 : Nat) : Int))
    clear h1 HS HSN
    generalize nq vl 0 = nv at *
    go_wp2_with fail
    with_reducible refine Calls.mono (hnum _) ?_
    rintro e w2 ⟨rfl,rfl⟩
    go_wp2_with fail
    go_meet
    case rel => exact ⟨_,R,ra,rc,HST,⟨by rw [HNR.out]; exact HQ2.out⟩⟩
   have d1 : (kl == [115,105,110,99,101]) = false:=beq_eq_false_iff_ne.2 h1
   by_cases h2 : kl = sKey
   ·have d2 : (kl == [107,101,121]) = true:=by rw [h2]; rfl
    by_cases h9 : 256 < N
    ·have d9 : decide ((256 : Int) < (N : Int)) = true:=decide_eq_true (by omega)
     have d9n : decide (256 < N) = true:=decide_eq_true h9
     have HNo : Hid (∀ m,¬ Beg b m):=⟨qno (by rw [hres.out]; exact HSN.out (by
      have hl:=congrArg List.length HQ.out.it
      rw [List.length_map] at hl
      unfold stp; rw [if_neg h0,if_neg h1,if_pos h2,if_pos (by rw [← hl,HNR.out]; exact h9)]))⟩
     clear h2 h9 HS HSN
     have n3:=HQ.out.g0.set3 0 0 (.slice none 0 0)
     have B5:=Hid.mk (below3 HQ.out.bel (Nat.le_refl _) (.int .i64 0) (.int .i64 0) (.slice none 0 0))
     obtain ⟨y0,y1,y2⟩:=HQ.out.g0.cells
     have f0:=HQ.out.g0.fz 0
     have f1:=HQ.out.g0.fz 1
     have f2:=HQ.out.g0.fz 2
     go_wp2_with fail
     generalize ((w1.setCell ⟨w.heap.size,0,none⟩ (.int .i64 0)).setCell ⟨w.heap.size,1,none⟩ (.int .i64 0)).setCell ⟨w.heap.size,2,none⟩ (.slice none 0 0) = W9 at *
     obtain ⟨g0,g1,g2⟩:=n3.cells
     refine bodyPost_ret (v := .tuple #[.agg #[.int .i64 0,.int .i64 0,.slice none 0 0],.int .i64 0,.int .i64 90]) ?_ rfl ⟨.inr ⟨HNo.out,rfl⟩,B5.out⟩
     rw [results_ctt rfl]
     go_simp
    ·have d9 : decide ((256 : Int) < (N : Int)) = false:=decide_eq_false (by omega)
     have d9n : decide (256 < N) = false:=decide_eq_false h9
     have HST : Hid (stp m (kl,vl) = some { m with items:=m.items ++ [⟨vl,0,false,0,[],zg⟩] }):=⟨by
      have hl:=congrArg List.length HQ.out.it
      rw [List.length_map] at hl
      unfold stp; rw [if_neg h0,if_neg h1,if_pos h2,if_neg (by rw [← hl,HNR.out]; exact h9)]⟩
     obtain ⟨g',c',w6,hr,hg2,hQ2⟩:=HQ.out.more ⟨vl,0,false,0,[],zg⟩ rfl (by rw [HNR.out]; have:=HN.out.2.2.2; omega)
     have HQ2:=Hid.mk hQ2
     have hbz:=run_bdZ vl
     obtain ⟨y0,y1,y2⟩:=hg2.cells
     have y3:=hg2.fz 2
     clear h2 h9 HS HSN hQ2 hg2 hnum
     go_wp2_with (refine app_run rfl _ _ rfl rfl rfl (hr _) ?_)
     go_meet
     case rel => exact ⟨_,R ++ [(⟨vl,0,false,0,[],zg⟩,none,0)],some ⟨g',0,none⟩,c',HST,⟨by rw [List.length_append]; exact HQ2.out⟩⟩
   have d2 : (kl == [107,101,121]) = false:=beq_eq_false_iff_ne.2 h2
   rcases List.eq_nil_or_concat R with rfl | ⟨R0,⟨x,a,c⟩,rfl⟩
   ·have HST : Hid (stp m (kl,vl) = some m):=⟨by
     have hl:=HQ.out.it
     unfold stp; rw [if_neg h0,if_neg h1,if_neg h2,if_pos (show m.items = [] from hl.symm)]⟩
    have hN0 : N = 0:=HNR.out.symm
    have dn : decide ((0 : Int) < (N : Int)) = false:=decide_eq_false (by omega)
    have dnn : decide (0 < N) = false:=decide_eq_false (by omega)
    clear HS HSN hnum hN0
    go_wp2_with fail
    go_meet
    case rel => exact ⟨m,[],ra,rc,HST,⟨by rw [HNR.out]; exact HQ.out⟩⟩
   rw [List.concat_eq_append] at *
   have hit : m.items = R0.map (·.1) ++ [x]:=by rw [← HQ.out.it]; simp
   have hine : ¬ m.items = []:=by rw [hit]; simp
   have HST0 : Hid (∀ g : It → It,mL m.items g = R0.map (·.1) ++ [g x]):=⟨fun g => by rw [hit,mL_snoc]⟩
   obtain ⟨g,rfl,hg,hfz,c1,c2,c3,c4,hth⟩:=HQ.out.place
   have HXL : Hid (x.l.length ≤ 1048576):=⟨HV.out.2.2 x (by rw [hit]; simp)⟩
   have HNN : Hid (N = R0.length + 1):=⟨by rw [← HNR.out]; simp⟩
   obtain ⟨l1,hl1⟩ : ∃ l,l = R0.length:=⟨_,rfl⟩
   have HL1:=Hid.mk hl1
   rw [← hl1] at c1 c2 c3 c4 hth
   have ev : (N : Int) - 1 = (l1 : Int):=by have:=HNN.out; omega
   have ew : IntKind.i64.wrap (l1 : Int) = (l1 : Int):=by rw [IntKind.wrap_i64]; have:=HN.out.2.2.2; have:=HNN.out; omega
   have i0 : (0 : Int) ≤ (l1 : Int):=Int.natCast_nonneg _
   have i1 : (l1 : Int) < (N : Int):=by have:=HNN.out; omega
   have dn : decide ((0 : Int) < (N : Int)) = true:=decide_eq_true (by have:=HNN.out; omega)
   have dnn : decide (0 < N) = true:=decide_eq_true (by have:=HNN.out; omega)
   have HXX : Hid (∀ R' : List Ri,(R0 ++ R').length = R0.length + R'.length):=⟨fun R' => List.length_append⟩
   clear hit hl1
   by_cases h3 : kl = sSeq
   ·have d3 : (kl == [115,101,113]) = true:=by rw [h3]; rfl
    have HST : Hid (stp m (kl,vl) = some { m with items:=R0.map (·.1) ++ [{ x with seq:=((nq vl 0 : Nat) : Int) }] }):=⟨by unfold stp; rw [if_neg h0,if_neg h1,if_neg h2,if_neg hine]; rw [if_pos h3]; simp only [HST0.out]⟩
    have HQ2 : Hid (QS w (w1.setCell ⟨g,l1 * 37 + 1,none⟩ (.int .i64 ((nq vl 0 : Nat) : Int))) { m with items:=R0.map (·.1) ++ [{ x with seq:=((nq vl 0 : Nat) : Int) }] } (.slice (some ⟨g,0,none⟩) N rc) (R0 ++ [({ x with seq:=((nq vl 0 : Nat) : Int) },a,c)])):=⟨by
     rw [HL1.out]
     exact HQ.out.cell (r:=(x,a,c)) (r':=({ x with seq:=((nq vl 0 : Nat) : Int) },a,c)) 1 _ (by omega) HNN.out (by simp [ri,ic]) rfl rfl⟩
    have HLN : Hid ((R0 ++ [(({ x with seq:=((nq vl 0 : Nat) : Int) } : It),a,c)]).length = N):=⟨by rw [HXX.out,HNN.out]; rfl⟩
    have fz:=hfz (l1 * 37 + 1)
    clear h3 HS HSN hfz HST0 hine
    
    generalize nq vl 0 = nv at *
    go_wp2_with fail
    go_region_with (go_at_call 133; with_reducible refine Calls.mono (hnum _) ?_; rintro e w2 ⟨rfl,rfl⟩)
    all_goals (go_wp2_with fail)
    all_goals go_meet
    all_goals exact ⟨_,_,_,rc,HST,⟨by rw [HLN.out]; first | exact HQ2.out | exact HQ2.out.later (Below.refl _ _).drew⟩⟩
   have d3 : (kl == [115,101,113]) = false:=beq_eq_false_iff_ne.2 h3
   by_cases h4 : kl = sType
   ·have d4 : (kl == [116,121,112,101]) = true:=by rw [h4]; rfl
    have HST : Hid (stp m (kl,vl) = some { m with items:=R0.map (·.1) ++ [{ x with mkr:=(vl == sMarker) }] }):=⟨by unfold stp; rw [if_neg h0,if_neg h1,if_neg h2,if_neg hine,if_neg h3]; rw [if_pos h4]; simp only [HST0.out]⟩
    have HQ2 : Hid (QS w (w1.setCell ⟨g,l1 * 37 + 2,none⟩ (.bool (vl == sMarker))) { m with items:=R0.map (·.1) ++ [{ x with mkr:=(vl == sMarker) }] } (.slice (some ⟨g,0,none⟩) N rc) (R0 ++ [({ x with mkr:=(vl == sMarker) },a,c)])):=⟨by
     rw [HL1.out]
     exact HQ.out.cell (r:=(x,a,c)) (r':=({ x with mkr:=(vl == sMarker) },a,c)) 2 _ (by omega) HNN.out (by simp [ri,ic]) rfl rfl⟩
    have HLN : Hid ((R0 ++ [(({ x with mkr:=(vl == sMarker) } : It),a,c)]).length = N):=⟨by rw [HXX.out,HNN.out]; rfl⟩
    have fz:=hfz (l1 * 37 + 2)
    clear h4 HS HSN hfz HST0 hine
    
    have dm : (vl == [109,97,114,107,101,114]) = (vl == sMarker):=rfl
    generalize (vl == sMarker) = tv at *
    go_wp2_with fail
    go_meet
    case rel => exact ⟨_,_,_,rc,HST,⟨by rw [HLN.out]; exact HQ2.out⟩⟩
   have d4 : (kl == [116,121,112,101]) = false:=beq_eq_false_iff_ne.2 h4
   by_cases h5 : kl = sSize
   ·have d5 : (kl == [115,105,122,101]) = true:=by rw [h5]; rfl
    have HST : Hid (stp m (kl,vl) = some { m with items:=R0.map (·.1) ++ [{ x with size:=((nq vl 0 : Nat) : Int) }] }):=⟨by unfold stp; rw [if_neg h0,if_neg h1,if_neg h2,if_neg hine,if_neg h3,if_neg h4]; rw [if_pos h5]; simp only [HST0.out]⟩
    have HQ2 : Hid (QS w (w1.setCell ⟨g,l1 * 37 + 3,none⟩ (.int .i64 ((nq vl 0 : Nat) : Int))) { m with items:=R0.map (·.1) ++ [{ x with size:=((nq vl 0 : Nat) : Int) }] } (.slice (some ⟨g,0,none⟩) N rc) (R0 ++ [({ x with size:=((nq vl 0 : Nat) : Int) },a,c)])):=⟨by
     rw [HL1.out]
     exact HQ.out.cell (r:=(x,a,c)) (r':=({ x with size:=((nq vl 0 : Nat) : Int) },a,c)) 3 _ (by omega) HNN.out (by simp [ri,ic]) rfl rfl⟩
    have HLN : Hid ((R0 ++ [(({ x with size:=((nq vl 0 : Nat) : Int) } : It),a,c)]).length = N):=⟨by rw [HXX.out,HNN.out]; rfl⟩
    have fz:=hfz (l1 * 37 + 3)
    clear h5 HS HSN hfz HST0 hine
    
    generalize nq vl 0 = nv at *
    go_wp2_with fail
    go_region_with (go_at_call 133; with_reducible refine Calls.mono (hnum _) ?_; rintro e w2 ⟨rfl,rfl⟩)
    all_goals (go_wp2_with fail)
    all_goals go_meet
    all_goals exact ⟨_,_,_,rc,HST,⟨by rw [HLN.out]; first | exact HQ2.out | exact HQ2.out.later (Below.refl _ _).drew⟩⟩
   have d5 : (kl == [115,105,122,101]) = false:=beq_eq_false_iff_ne.2 h5
   by_cases h6 : kl = sLeaf
   ·have d6 : (kl == [108,101,97,102]) = true:=by rw [h6]; rfl
    have hps:=qparse_any vl HV.out.1 w1
    have HST : Hid (stp m (kl,vl) = some { m with items:=R0.map (·.1) ++ [{ x with g:=cut32 (pz vl) }] }):=⟨by unfold stp; rw [if_neg h0,if_neg h1,if_neg h2,if_neg hine,if_neg h3,if_neg h4,if_neg h5]; rw [if_pos h6]; simp only [HST0.out]⟩
    generalize cut32 (pz vl) = fg at *
    clear h6 HS HSN hfz HST0 hine hnum q0 q1 q2 z0 z1 z2
    go_wp2_with fail
    with_reducible refine Calls.mono hps ?_
    rintro e w2 ⟨t,rfl,b2⟩
    have bb:=below_seq b2 ((Below.refl w2.heap.size w2).alloc (Nat.le_refl _) (.cells (hv fg).toArray 44))
    have s1:=run_stHn w2 fg
    have s2:=run_ldHn w2 fg
    have s3:=run_stHm (there_later hth hg bb) fg
    have hQ3:=HQ.out.later bb
    obtain ⟨q0,q1,q2⟩:=hQ3.g1.cells
    have HQ2 : Hid (QS w ((w2.alloc (.cells (hv fg).toArray 44)).setCells g (l1 * 37 + 5) (hv fg)) { m with items:=R0.map (·.1) ++ [{ x with g:=fg }] } (.slice (some ⟨g,0,none⟩) N rc) (R0 ++ [({ x with g:=fg },a,c)])):=⟨by
     rw [HL1.out]
     exact hQ3.hash HNN.out fg⟩
    have HLN : Hid ((R0 ++ [(({ x with g:=fg } : It),a,c)]).length = N):=⟨by rw [HXX.out,HNN.out]; rfl⟩
    clear hps b2 bb hth hQ3
    dsimp only
    go_wp2_with fail
    go_meet
    case rel => exact ⟨_,_,_,rc,HST,⟨by rw [HLN.out]; exact HQ2.out⟩⟩
   have d6 : (kl == [108,101,97,102]) = false:=beq_eq_false_iff_ne.2 h6
   have hs5 : ∀ w,5 ≤ kl.length → (Go.Proofs.YtdfjlmfnkhhnjaaGreatDoorP.slS (str kl) none (some (.int .i64 5)) none).run Tryz.prog w = .ok (str (kl.take 5)) w:=fun w h => run_take kl 5 h w
   by_cases h7 : 5 < kl.length
   rotate_left
   ·have d7 : decide ((5 : Int) < (kl.length : Int)) = false:=decide_eq_false (by omega)
    have d7n : decide (5 < kl.length) = false:=decide_eq_false h7
    have HST : Hid (stp m (kl,vl) = some m):=⟨by unfold stp; rw [if_neg h0,if_neg h1,if_neg h2,if_neg hine,if_neg h3,if_neg h4,if_neg h5,if_neg h6]; rw [if_neg (fun q => h7 q.1)]⟩
    clear HS HSN hnum h7 hs5 hfz
    go_wp2_with fail
    go_meet
    case rel => exact ⟨m,R0 ++ [(x,a,c)],some ⟨g,0,none⟩,rc,HST,⟨by rw [HXX.out,show R0.length + [(x,a,c)].length = N from HNN.out.symm]; exact HQ.out⟩⟩
   have d7 : decide ((5 : Int) < (kl.length : Int)) = true:=decide_eq_true (by omega)
   have d7n : decide (5 < kl.length) = true:=decide_eq_true h7
   replace hs5:=fun w => hs5 w (by omega)
   by_cases h8 : kl.take 5 = sMeta
   rotate_left
   ·have d8 : (kl.take 5 == [109,101,116,97,46]) = false:=beq_eq_false_iff_ne.2 h8
    have HST : Hid (stp m (kl,vl) = some m):=⟨by unfold stp; rw [if_neg h0,if_neg h1,if_neg h2,if_neg hine,if_neg h3,if_neg h4,if_neg h5,if_neg h6]; rw [if_neg (fun q => h8 q.2)]⟩
    clear HS HSN hnum h8 hfz h7
    generalize kl.take 5 = k5 at *
    go_wp2_with fail
    go_meet
    case rel => exact ⟨m,R0 ++ [(x,a,c)],some ⟨g,0,none⟩,rc,HST,⟨by rw [HXX.out,show R0.length + [(x,a,c)].length = N from HNN.out.symm]; exact HQ.out⟩⟩
   have d8 : (kl.take 5 == [109,101,116,97,46]) = true:=by rw [h8]; rfl
   have HST : Hid (stp m (kl,vl) = some { m with items:=R0.map (·.1) ++ [{ x with l:=x.l ++ [⟨kl.drop 5,vl⟩] }] }):=⟨by unfold stp; rw [if_neg h0,if_neg h1,if_neg h2,if_neg hine,if_neg h3,if_neg h4,if_neg h5,if_neg h6]; rw [if_pos ⟨h7,h8⟩]; simp only [HST0.out]⟩
   have hd5 : ∀ w,(Go.Proofs.YtdfjlmfnkhhnjaaGreatDoorP.slS (str kl) (some (.int .i64 5)) none none).run Tryz.prog w = .ok (str (kl.drop 5)) w:=fun w => run_drop5 kl (by omega) w
   obtain ⟨ia,ic1,w6,hr,⟨fz6,c6,g6⟩,hQ2⟩:=HQ.out.pair HNN.out (by have:=HXL.out; omega) ⟨kl.drop 5,vl⟩ (Below.refl _ _).drew
   rw [← HL1.out] at fz6 c6 hQ2
   have HQ2:=Hid.mk hQ2
   have HLN : Hid ((R0 ++ [(({ x with l:=x.l ++ [⟨kl.drop 5,vl⟩] } : It),ia,ic1)]).length = N):=⟨by rw [HXX.out,HNN.out]; rfl⟩
   generalize kl.take 5 = k5 at *
   generalize kl.drop 5 = kd at *
   have bP : Below w1.heap.size w1 ((w1.alloc (.cells #[str kd,str vl] 49)).drew):=((Below.refl _ _).alloc (Nat.le_refl _) _).drew
   have qP:=((HQ.out.later bP).g1.cells).2.2
   have cP:=(bP.cell (p:=⟨g,l1 * 37 + 4,none⟩) hg).trans c4
   have q6:=g6.cells.2.2
   have hr' : ∀ ty,(Builtin.append_ #[43,43] ty #[.slice a x.l.length c,.slice (some ⟨w1.heap.size,0,none⟩) 1 1]).run Tryz.prog ((w1.alloc (.cells #[str kd,str vl] 49)).drew) = .ok (.slice ia (x.l.length + 1) ic1) w6:=hr
   clear HS HSN hnum h8 hfz h7 hQ2 hth c1 c2 c3 z0 z1 z2 q0 q1 bP hr g6
   generalize x.l.length = xl at *
   go_wp2_with fail
   go_region
   all_goals (go_wp2_with fail)
   all_goals go_meet
   all_goals exact ⟨_,_,_,rc,HST,⟨by rw [HLN.out]; exact HQ2.out⟩⟩
  case rest =>
   obtain ⟨m',R',ra',rc',HST,HQ'⟩:=hcut
   clear q0 q1 q2 z0 z1 z2 hnum
   obtain ⟨h1,h2,h3⟩:=HS.out m' HST.out
   have HSm:=Hid.mk h1
   by_cases he : kl = sEnd
   ·have d1 : (kl == [101,110,100]) = true:=by rw [he]; rfl
    have HRS : Hid (runQ b (b.length + 6000) 0 ⟨0,0,[]⟩ = some (m',n')):=⟨hres.out.trans (h2 he)⟩
    clear h1 h2 h3 he
    obtain ⟨q0,q1,q2⟩:=HQ'.out.g1.cells
    have hRl : R'.length = m'.items.length:=by rw [← HQ'.out.it,List.length_map]
    have hw:=qWriteM_any m' wc ra' rc' HQ'.out.iit (fun x hx => by have:=(HSm.out.l x hx).1; have:=HN.out.2.1; have:=HBL.out; omega) (fun x hx k e he => by
     have:=(HSm.out.l x hx).2 e (List.mem_of_getElem? he)
     have:=HBL.out
     omega) (by have:=HSm.out.n; omega)
    rw [← hRl] at hw
    have HRl:=Hid.mk hRl
    clear hRl
    go_wp2_with fail
    with_reducible refine Calls.mono hw ?_
    rintro e w2 ⟨hwp,b2⟩
    replace HQ':=Hid.mk (HQ'.out.later b2)
    clear hw b2 q0 q1 q2
    obtain ⟨q0,q1,q2⟩:=HQ'.out.g1.cells
    have hn9:=HN.out.2.1
    have rt:=run_take b n' hn9
    rcases hwp with ⟨hRt,rfl⟩ | ⟨hnR,rfl⟩
    ·dsimp only
     by_cases hq : mtx m' = b.take n'
     ·obtain ⟨s1,s2,s3⟩:=qbeg HRS.out hRt hq
      have d3 : (mtx m' == b.take n') = true:=by rw [hq]; simp
      have d2 : (mtx m' != b.take n') = false:=by rw [bne,d3]; rfl
      have HFin:=Hid.mk (And.intro s1 (And.intro s2 s3))
      clear s1 s2 s3 hq hRt
      obtain ⟨tx,htx⟩ : ∃ tx,tx = mtx m':=⟨_,rfl⟩
      rw [← htx] at d3 d2 ⊢
      clear htx
      generalize b.take n' = tb at *
      have n3:=HQ'.out.g0.set3 m'.since m'.next (.slice ra' R'.length rc')
      have B9:=Hid.mk (below3 HQ'.out.bel (Nat.le_refl _) (.int .i64 m'.since) (.int .i64 m'.next) (.slice ra' R'.length rc'))
      have I9 : Hid (IIt (((w2.setCell ⟨w.heap.size,0,none⟩ (.int .i64 m'.since)).setCell ⟨w.heap.size,1,none⟩ (.int .i64 m'.next)).setCell ⟨w.heap.size,2,none⟩ (.slice ra' R'.length rc')) ra' m'.items):=⟨by
       have hk : ∀ k,w.heap.size + 2 ≤ k → (((w2.setCell ⟨w.heap.size,0,none⟩ (.int .i64 m'.since)).setCell ⟨w.heap.size,1,none⟩ (.int .i64 m'.next)).setCell ⟨w.heap.size,2,none⟩ (.slice ra' R'.length rc')).heap[k]? = w2.heap[k]?:=fun k hk => by rw [hso _ _ (by omega),hso _ _ (by omega),hso _ _ (by omega)]
       rw [← HQ'.out.it]
       exact q_it2 (own_keep HQ'.out.own (fun g hg => hk g (HQ'.out.own.lt g hg).1)) (fun k r hr => (HQ'.out.met k r hr).stay (by simp) (fun g hg => hk g ((HQ'.out.met k r hr).own.lt g hg).1))⟩
      obtain ⟨y0,y1,y2⟩:=HQ'.out.g0.cells
      have f0:=HQ'.out.g0.fz 0
      have f1:=HQ'.out.g0.fz 1
      have f2:=HQ'.out.g0.fz 2
      go_wp2_with fail
      generalize ((w2.setCell ⟨w.heap.size,0,none⟩ (.int .i64 m'.since)).setCell ⟨w.heap.size,1,none⟩ (.int .i64 m'.next)).setCell ⟨w.heap.size,2,none⟩ (.slice ra' R'.length rc') = W9 at *
      obtain ⟨g0,g1,g2⟩:=n3.cells
      refine bodyPost_ret (v := .tuple #[.agg #[.int .i64 m'.since,.int .i64 m'.next,.slice ra' R'.length rc'],.int .i64 (n' : Int),.int .i64 0]) ?_ rfl ⟨.inl ⟨m',ra',rc',HFin.out.1,HFin.out.2.1,by rw [← HFin.out.2.2,HRl.out],I9.out⟩,B9.out⟩
      rw [results_ctt rfl]
      go_simp
     ·have d3 : (mtx m' == b.take n') = false:=beq_eq_false_iff_ne.2 hq
      have d2 : (mtx m' != b.take n') = true:=by rw [bne,d3]; rfl
      have HNo : Hid (∀ m,¬ Beg b m):=⟨qno2 HRS.out (fun q => hq q.2)⟩
      clear hq hRt
      generalize mtx m' = tx at *
      generalize b.take n' = tb at *
      have n3:=HQ'.out.g0.set3 0 0 (.slice none 0 0)
      have B5:=Hid.mk (below3 HQ'.out.bel (Nat.le_refl _) (.int .i64 0) (.int .i64 0) (.slice none 0 0))
      obtain ⟨y0,y1,y2⟩:=HQ'.out.g0.cells
      have f0:=HQ'.out.g0.fz 0
      have f1:=HQ'.out.g0.fz 1
      have f2:=HQ'.out.g0.fz 2
      go_wp2_with fail
      generalize ((w2.setCell ⟨w.heap.size,0,none⟩ (.int .i64 0)).setCell ⟨w.heap.size,1,none⟩ (.int .i64 0)).setCell ⟨w.heap.size,2,none⟩ (.slice none 0 0) = W9 at *
      obtain ⟨g0,g1,g2⟩:=n3.cells
      refine bodyPost_ret (v := .tuple #[.agg #[.int .i64 0,.int .i64 0,.slice none 0 0],.int .i64 0,.int .i64 90]) ?_ rfl ⟨.inr ⟨HNo.out,rfl⟩,B5.out⟩
      rw [results_ctt rfl]
      go_simp
    ·dsimp only
     have HNo : Hid (∀ m,¬ Beg b m):=⟨qno2 HRS.out (fun q => hnR q.1)⟩
     clear hnR
     have n3:=HQ'.out.g0.set3 0 0 (.slice none 0 0)
     have B5:=Hid.mk (below3 HQ'.out.bel (Nat.le_refl _) (.int .i64 0) (.int .i64 0) (.slice none 0 0))
     obtain ⟨y0,y1,y2⟩:=HQ'.out.g0.cells
     have f0:=HQ'.out.g0.fz 0
     have f1:=HQ'.out.g0.fz 1
     have f2:=HQ'.out.g0.fz 2
     go_wp2_with fail
     generalize ((w2.setCell ⟨w.heap.size,0,none⟩ (.int .i64 0)).setCell ⟨w.heap.size,1,none⟩ (.int .i64 0)).setCell ⟨w.heap.size,2,none⟩ (.slice none 0 0) = W9 at *
     obtain ⟨g0,g1,g2⟩:=n3.cells
     refine bodyPost_ret (v := .tuple #[.agg #[.int .i64 0,.int .i64 0,.slice none 0 0],.int .i64 0,.int .i64 90]) ?_ rfl ⟨.inr ⟨HNo.out,rfl⟩,B5.out⟩
     rw [results_ctt rfl]
     go_simp
   ·have d1 : (kl == [101,110,100]) = false:=beq_eq_false_iff_ne.2 he
    have HRS : Hid (runQ b f' n' m' = res):=⟨h3 he⟩
    clear h1 h2 h3 he
    go_wp2_with fail
    exact ⟨⟨n',f',m',R',ra',rc',rfl,HN.out.2.1,HQ',⟨HRS.out,HN.out.2.2.1,HSm.out⟩⟩,by have h5:=HN.out.1; have h6:=HN.out.2.1; simp only [intOf,Int.toNat_natCast]; omega⟩
end
end Go.Proofs.YtdfjlmfnkhhnjaaGreatDoor
