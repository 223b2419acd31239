import Derived.Test.YtdfjlmfnkhhnjaaGreatDoorMx
import Derived.Lib.ParseIntB
import Derived.Test.YtdfjlmfnkhhnjaaGreatDoorHa
import Derived.Shelf.Strconv.ParseInt10All
import Derived.Lib.AtoiErrMem
set_option maxRecDepth 100000
set_option linter.unusedVariables false
set_option linter.unusedSimpArgs false
namespace Go.Proofs.YtdfjlmfnkhhnjaaGreatDoor
section
open Go.Lib (decDigits parseUintM parseUintB parseIntB intSat)
open Go.Proofs.YtdfjlmfnkhhnjaaGreatDoorP (recd Rd key nn LEN)
open Go.Proofs.YtdfjlmfnkhhnjaaGreatDoorH (hexL pv okL pz)
noncomputable def rdF (b : List UInt8) (p : Nat) : Option (Kv × Nat):=by
 classical
 exact if h : ∃ q : Kv,Rd (b.drop p) q.1 q.2 then some (Classical.choose h,p + LEN (nn (Classical.choose h).1 (Classical.choose h).2)) else none
theorem rdFsome {b : List UInt8} {p : Nat} {k v : List UInt8} (h : Rd (b.drop p) k v) : rdF b p = some ((k,v),p + LEN (nn k v)):=by
 have hx : ∃ q : Kv,Rd (b.drop p) q.1 q.2:=⟨(k,v),h⟩
 have hc:=Classical.choose_spec hx
 obtain ⟨e1,e2⟩:=hc.uniq h
 unfold rdF
 rw [dif_pos hx,e1,e2,show Classical.choose hx = (k,v) from Prod.ext e1 e2]
theorem rdFnone {b : List UInt8} {p : Nat} (h : ∀ k v,¬ Rd (b.drop p) k v) : rdF b p = none:=by
 unfold rdF
 rw [dif_neg]
 rintro ⟨q,hq⟩
 exact h _ _ hq
theorem rdFat {b : List UInt8} {p n : Nat} {q : Kv} (h : rdF b p = some (q,n)) : Rd (b.drop p) q.1 q.2 ∧ n = p + LEN (nn q.1 q.2) ∧ p < n ∧ n ≤ b.length:=by
 unfold rdF at h
 split at h
 ·rename_i hx
  have hc:=Classical.choose_spec hx
  injection h with h
  injection h with h1 h2
  subst h1
  refine ⟨hc,h2.symm,?_,?_⟩
  ·have:=Go.Proofs.YtdfjlmfnkhhnjaaGreatDoorP.LEN_pos (nn (Classical.choose hx).1 (Classical.choose hx).2); omega
  ·obtain ⟨r,hr⟩:=hc.pre
   have h3:=congrArg List.length hr
   rw [List.length_append,Go.Proofs.YtdfjlmfnkhhnjaaGreatDoorP.recd_length,List.length_drop] at h3
   have:=Go.Proofs.YtdfjlmfnkhhnjaaGreatDoorP.LEN_pos (nn (Classical.choose hx).1 (Classical.choose hx).2)
   omega
 ·cases h
structure Pos (b : List UInt8) (p : Nat) (R : List Kv) (r : List UInt8) : Prop where
 le : p ≤ b.length
 at' : b.drop p = txt R ++ r
 ok : Kvs R
theorem Pos.rd {b : List UInt8} {p : Nat} {q : Kv} {R : List Kv} {r : List UInt8} (h : Pos b p (q :: R) r) : rdF b p = some (q,p + (recd q.1 q.2).length):=by
 have:=txt_rd h.ok r
 rw [← h.at'] at this
 rw [rdFsome this,Go.Proofs.YtdfjlmfnkhhnjaaGreatDoorP.recd_length]
theorem Pos.next {b : List UInt8} {p : Nat} {q : Kv} {R : List Kv} {r : List UInt8} (h : Pos b p (q :: R) r) : Pos b (p + (recd q.1 q.2).length) R r:=by
 have h1:=h.at'
 rw [txt_cons,List.append_assoc] at h1
 have h2:=congrArg List.length h1
 rw [List.length_drop,List.length_append] at h2
 refine ⟨?_,?_,h.ok.tail⟩
 ·have:=h.le
  rcases Nat.lt_or_ge b.length (p + (recd q.1 q.2).length) with z | z
  ·omega
  ·exact z
 ·rw [← List.drop_drop,h1,List.drop_left]
theorem Pos.last {b : List UInt8} {p : Nat} {r : List UInt8} (h : Pos b p [] r) : p = b.length - r.length ∧ r.length ≤ b.length:=by
 have h1:=congrArg List.length h.at'
 have h2:=h.le
 rw [List.length_drop] at h1
 simp [txt] at h1
 omega
abbrev Rs:=Nat × Bool
noncomputable def valF (b k : List UInt8) (s : Rs) : List UInt8 × Rs :=
 if s.2 = true then ([],s) else match rdF b s.1 with
 | some (q,n) => if q.1 = k then (q.2,(n,false)) else ([],(s.1,true))
 | none => ([],(s.1,true))
def numV (l : List UInt8) : Int:=match parseIntB 64 l with
 | .ok v => v
 | .syntax => 0
 | .range => intSat 64 l
noncomputable def numF (b k : List UInt8) (s : Rs) : Int × Rs:=(numV (valF b k s).1,(valF b k s).2)
noncomputable def prsF (b : List UInt8) : Nat → Nat → List En × Nat
 | 0,p => ([],p)
 | f + 1,p => match rdF b p with
  | some (q,n) => if sMeta <+: q.1 then (⟨q.1.drop 5,q.2⟩ :: (prsF b f n).1,(prsF b f n).2) else ([],p)
  | none => ([],p)
noncomputable def prs2F (b : List UInt8) (s : Rs) : List En × Rs:=if s.2 = true then ([],s) else ((prsF b 8 s.1).1,((prsF b 8 s.1).2,false))
noncomputable def itF (b : List UInt8) (s : Rs) : It × Rs :=
 let k:=valF b sKey s
 let q:=numF b sSeq k.2
 let t:=valF b sType q.2
 if t.1 = sMarker then
  let h:=valF b sLeaf t.2
  (⟨k.1,q.1,true,0,[],cut32 (pz h.1)⟩,h.2)
 else
  let z:=numF b sSize t.2
  let l:=prs2F b z.2
  let h:=valF b sLeaf l.2
  (⟨k.1,q.1,false,z.1,l.1,cut32 (pz h.1)⟩,h.2)
noncomputable def itsF (b : List UInt8) : Nat → Rs → List It × Rs
 | 0,s => ([],s)
 | f + 1,s => if s.2 = true then ([],s) else ((itF b s).1 :: (itsF b f (itF b s).2).1,(itsF b f (itF b s).2).2)
noncomputable def sincF (b kind : List UInt8) (s : Rs) : Int × Rs:=if kind = sFull then (0,s) else numF b sSince s
noncomputable def maF (b : List UInt8) : Ma × Rs :=
 let k:=valF b sKind (0,false)
 let o:=valF b sFormat k.2
 let n:=numF b sNext o.2
 let c:=sincF b k.1 n.2
 let u:=numF b sCount c.2
 let l:=itsF b (min u.1 256).toNat u.2
 let e:=valF b sEnd l.2
 (⟨c.1,n.1,l.1⟩,e.2)
theorem parseM (M : Nat) (hM : M ≤ 18446744073709551615) : ∀ (l : List UInt8) (a : Nat),(∀ c ∈ l,Go.Proofs.YtdfjlmfnkhhnjaaGreatDoorP.isDig c) → l.foldl (fun n c => n * 10 + (c.toNat - 48)) a ≤ M → parseUintM M a l = .ok (l.foldl (fun n c => n * 10 + (c.toNat - 48)) a)
 | [],a,_,_ => rfl
 | c :: l,a,hd,hl => by
  have hc:=hd c (by simp)
  have hge:=Go.Proofs.YtdfjlmfnkhhnjaaGreatDoorP.foldl_ge l (a * 10 + (c.toNat - 48))
  rw [List.foldl_cons] at hl
  have hd2 : 48 ≤ c.toNat ∧ c.toNat ≤ 57:=hc
  unfold parseUintM
  rw [if_pos hd2,if_neg (by omega),if_neg (by omega)]
  exact parseM M hM l _ (fun x hx => hd x (by simp [hx])) hl
theorem numV_dec {n : Int} (h0 : 0 ≤ n) (h1 : n ≤ 9223372036854775807) : numV (dec n) = n:=by
 have hv : (decDigits n.toNat).foldl (fun n c => n * 10 + (c.toNat - 48)) 0 = n.toNat:=Go.Proofs.YtdfjlmfnkhhnjaaGreatDoorP.val_D n.toNat
 have hdg:=Go.Proofs.YtdfjlmfnkhhnjaaGreatDoorP.D_dig n.toNat
 have hne:=Go.Proofs.YtdfjlmfnkhhnjaaGreatDoorP.D_ne n.toNat
 unfold numV dec
 generalize decDigits n.toNat = l at *
 cases l with
 | nil => exact absurd rfl hne
 | cons c r =>
  have hc : 48 ≤ c.toNat ∧ c.toNat ≤ 57:=hdg c (by simp)
  have hp : parseUintB 64 (c :: r) = .ok n.toNat:=by
   unfold parseUintB
   rw [if_neg (by simp),parseM _ (by decide) _ _ hdg (by rw [hv]; omega),hv]
  unfold parseIntB
  simp only
  rw [if_neg (by omega),hp]
  simp only
  rw [if_neg (by rintro ⟨_,q⟩; have : (2 : Nat) ^ (64 - 1) = 9223372036854775808:=(by decide); omega),if_neg (by rintro ⟨q,_⟩; omega),if_neg (by omega)]
  simp only
  omega
theorem valFat {b : List UInt8} {p : Nat} {k v : List UInt8} {R : List Kv} {r : List UInt8} (h : Pos b p ((k,v) :: R) r) : valF b k (p,false) = (v,(p + (recd k v).length,false)):=by
 unfold valF
 rw [if_neg (show ¬ (false = true) from Bool.false_ne_true),h.rd]
 simp
theorem numFat {b : List UInt8} {p : Nat} {k : List UInt8} {n : Int} {R : List Kv} {r : List UInt8} (h : Pos b p ((k,dec n) :: R) r) (h0 : 0 ≤ n) (h1 : n ≤ 9223372036854775807) : numF b k (p,false) = (n,(p + (recd k (dec n)).length,false)):=by
 unfold numF
 rw [valFat h]
 simp only
 rw [numV_dec h0 h1]
def nz (x : It) : It := { x with g:=cut32 x.g }
def nzM (m : Ma) : Ma := { m with items:=m.items.map nz }
theorem cut_of {g f : Nat → UInt8} (h : ∀ i,i < 32 → g i = f i) : cut32 g = cut32 f:=by
 funext i
 unfold cut32
 split
 ·rename_i q; exact h i q
 ·rfl
theorem pz_hex (g : Nat → UInt8) : cut32 (pz (hexL g)) = cut32 g:=cut_of fun i hi => by unfold pz; rw [Go.Proofs.YtdfjlmfnkhhnjaaGreatDoorH.okL_hex,if_pos rfl]; exact Go.Proofs.YtdfjlmfnkhhnjaaGreatDoorH.pv_hex g i hi
theorem prsFat {b : List UInt8} {q : Kv} {R : List Kv} {r : List UInt8} (hq : ¬ sMeta <+: q.1) : ∀ (l : List En) (f p : Nat),l.length ≤ f → Pos b p (metaR l ++ q :: R) r → (prsF b f p).1 = l ∧ Pos b (prsF b f p).2 (q :: R) r
 | [],0,p,_,h => ⟨rfl,h⟩
 | [],f + 1,p,_,h => by
  have h1 : Pos b p (q :: R) r:=h
  unfold prsF
  rw [h1.rd]
  simp only
  rw [if_neg hq]
  exact ⟨rfl,h1⟩
 | e :: l,0,p,hf,h => by simp at hf
 | e :: l,f + 1,p,hf,h => by
  have h1 : Pos b p ((sMeta ++ e.key,e.val) :: (metaR l ++ q :: R)) r:=h
  obtain ⟨i1,i2⟩:=prsFat hq l f _ (by simpa using hf) h1.next
  unfold prsF
  rw [h1.rd]
  simp only
  rw [if_pos (List.prefix_append _ _)]
  refine ⟨?_,i2⟩
  rw [i1]
  have : (sMeta ++ e.key).drop 5 = e.key:=by show ([109,101,116,97,46] ++ e.key).drop 5 = e.key; rfl
  rw [this]
theorem itFat {b : List UInt8} {m : Ma} {x : It} {p : Nat} {R : List Kv} {r : List UInt8} (hm : m.next ≤ 1099511627777) (hx : RtI m x) (h : Pos b p (itemR x ++ R) r) : ∃ p',itF b (p,false) = (nz x,(p',false)) ∧ Pos b p' R r:=by
 have hs : x.seq ≤ 1099511627777:=by have:=hx.s2; omega
 have hs0:=hx.s1
 cases hmk : x.mkr with
 | true =>
  obtain ⟨z1,z2⟩:=hx.mk1 hmk
  have h1 : Pos b p ((sKey,x.key) :: (sSeq,dec x.seq) :: (sType,sMarker) :: (sLeaf,hexL x.g) :: R) r:=by
   have:=h
   unfold itemR at this
   rw [if_pos hmk,z2] at this
   exact this
  have h2:=h1.next
  have h3:=h2.next
  have h4:=h3.next
  refine ⟨_,?_,h4.next⟩
  unfold itF
  rw [valFat h1]
  simp only
  rw [numFat h2 (by omega) (by omega)]
  simp only
  rw [valFat h3]
  simp only
  rw [if_pos trivial,valFat h4]
  simp only
  rw [pz_hex]
  unfold nz
  rw [← hmk,← z1,← z2]
 | false =>
  obtain ⟨z1,z2,z3⟩:=hx.mk0 hmk
  obtain ⟨g4,g5,g6⟩:=mtE_iff z3
  have h1 : Pos b p ((sKey,x.key) :: (sSeq,dec x.seq) :: (sType,sData) :: (sSize,dec x.size) :: (metaR x.l ++ (sLeaf,hexL x.g) :: R)) r:=by
   have:=h
   unfold itemR at this
   rw [if_neg (by rw [hmk]; decide)] at this
   simpa using this
  have h2:=h1.next
  have h3:=h2.next
  have h4:=h3.next
  have h5:=h4.next
  obtain ⟨i1,i2⟩:=prsFat (by simp only; decide) x.l 8 _ g4 h5
  refine ⟨_,?_,i2.next⟩
  unfold itF
  rw [valFat h1]
  simp only
  rw [numFat h2 (by omega) (by omega)]
  simp only
  rw [valFat h3]
  simp only
  rw [if_neg (by decide),numFat h4 (by omega) (by omega)]
  simp only
  unfold prs2F
  rw [if_neg (show ¬ (false = true) from Bool.false_ne_true)]
  simp only
  rw [valFat i2]
  simp only
  rw [pz_hex,i1]
  unfold nz
  rw [← hmk]
theorem itsFat {b : List UInt8} {m : Ma} {R : List Kv} {r : List UInt8} (hm : m.next ≤ 1099511627777) : ∀ (L : List It) (p : Nat),(∀ x ∈ L,RtI m x) → Pos b p ((L.map itemR).flatten ++ R) r → ∃ p',itsF b L.length (p,false) = (L.map nz,(p',false)) ∧ Pos b p' R r
 | [],p,_,h => ⟨p,rfl,h⟩
 | x :: L,p,hx,h => by
  have h1 : Pos b p (itemR x ++ ((L.map itemR).flatten ++ R)) r:=by simpa using h
  obtain ⟨p1,e1,h2⟩:=itFat hm (hx x (by simp)) h1
  obtain ⟨p2,e2,h3⟩:=itsFat hm L p1 (fun y hy => hx y (by simp [hy])) h2
  refine ⟨p2,?_,h3⟩
  show itsF b (L.length + 1) (p,false) = _
  unfold itsF
  rw [if_neg (by simp only; decide),e1]
  simp only
  rw [e2]
  rfl
theorem maFat {m : Ma} (h : RtM m) (r : List UInt8) : maF (mtx m ++ r) = (nzM m,((mtx m).length,false)):=by
 have hn:=h.n2
 have hl:=h.len
 have hc1:=h.c1
 have hc2:=h.c2
 have hn1:=h.n1
 obtain ⟨b,hb⟩ : ∃ b,b = mtx m ++ r:=⟨_,rfl⟩
 rw [← hb]
 have hP : Pos b 0 (recs m) r:=⟨Nat.zero_le _,by rw [List.drop_zero,hb]; rfl,recs_ok h⟩
 have hfin : ∀ p,Pos b p [] r → p = (mtx m).length:=fun p hp => by
  obtain ⟨e1,e2⟩:=hp.last
  rw [hb,List.length_append] at e1
  omega
 have hcnt : (min (m.items.length : Int) 256).toNat = m.items.length:=by omega
 by_cases hs : m.since = 0
 ·have h1 : Pos b 0 ((sKind,sFull) :: (sFormat,sCoffer) :: (sNext,dec m.next) :: (sCount,dec m.items.length) :: ((m.items.map itemR).flatten ++ [(sEnd,sMani)])) r:=by
   have:=hP
   unfold recs headR at this
   rw [if_pos hs,if_pos hs] at this
   simpa using this
  have h2:=h1.next
  have h3:=h2.next
  have h4:=h3.next
  obtain ⟨p5,e5,h5⟩:=itsFat hn m.items _ h.it h4.next
  unfold maF
  rw [valFat h1]
  simp only
  rw [valFat h2]
  simp only
  rw [numFat h3 (by omega) (by omega)]
  simp only
  unfold sincF
  rw [if_pos rfl]
  simp only
  rw [numFat h4 (by omega) (by omega)]
  simp only
  rw [hcnt,e5]
  simp only
  rw [valFat h5]
  simp only
  rw [hfin _ h5.next]
  unfold nzM
  rw [← hs]
 ·have h1 : Pos b 0 ((sKind,sDelta) :: (sFormat,sCoffer) :: (sNext,dec m.next) :: (sSince,dec m.since) :: (sCount,dec m.items.length) :: ((m.items.map itemR).flatten ++ [(sEnd,sMani)])) r:=by
   have:=hP
   unfold recs headR at this
   rw [if_neg hs,if_neg hs] at this
   simpa using this
  have h2:=h1.next
  have h3:=h2.next
  have h3':=h3.next
  have h4:=h3'.next
  obtain ⟨p5,e5,h5⟩:=itsFat hn m.items _ h.it h4.next
  unfold maF
  rw [valFat h1]
  simp only
  rw [valFat h2]
  simp only
  rw [numFat h3 (by omega) (by omega)]
  simp only
  unfold sincF
  rw [if_neg (by decide)]
  rw [numFat h3' (by omega) (by omega)]
  simp only
  rw [numFat h4 (by omega) (by omega)]
  simp only
  rw [hcnt,e5]
  simp only
  rw [valFat h5]
  simp only
  rw [hfin _ h5.next]
  rfl
end
section
open Go.RowKit
open Go.Proofs.YtdfjlmfnkhhnjaaGreatDoorP (TB recd nn LEN key Rd RdAt)
attribute [local go_sem ↓] Go.wp_at_zero Go.wp_at_succ
theorem str_data (a : ByteArray) : str a.data.toList = .string a:=by simp [str]
theorem rd_link {l : List UInt8} {p : Nat} {k v : List UInt8} {n er : Int} (h : RdAt l (p : Int) k v n er) (hp : p ≤ l.length) : (er = 0 ∧ ∃ m : Nat,n = m ∧ rdF l p = some ((k,v),m)) ∨ ((er == 0) = false ∧ k = [] ∧ v = [] ∧ n = 0 ∧ rdF l p = none):=by
 rcases Nat.lt_or_ge p l.length with q | q
 ·rcases h.at' (by omega) (by omega) with ⟨e,hr,hn⟩ | ⟨e,h1,h2,h3,hno⟩
  ·rw [Int.toNat_natCast] at hr
   exact .inl ⟨e,p + LEN (nn k v),by rw [hn]; omega,rdFsome hr⟩
  ·rw [Int.toNat_natCast] at hno
   exact .inr ⟨by rw [e]; rfl,h1,h2,h3,rdFnone hno⟩
 ·obtain ⟨h1,h2,h3,h4⟩:=h.none (by omega)
  refine .inr ⟨by rw [h4]; rfl,h1,h2,h3,rdFnone fun x y hr => ?_⟩
  rw [List.drop_of_length_le q] at hr
  obtain ⟨r,e⟩:=hr.pre
  exact recd_ne x y (List.append_eq_nil_iff.1 e.symm).1
def Rx (w : World) (g : Nat) (b : List UInt8) (s : Rs) : Prop:=w.heap[g]? = some (.cells #[str b,.int .i64 (s.1 : Int),.bool s.2] 79 (0,0))
theorem Rx.cells {w : World} {g : Nat} {b : List UInt8} {s : Rs} (h : Rx w g b s) : w.cell? ⟨g,0,none⟩ = some (str b) ∧ w.cell? ⟨g,1,none⟩ = some (.int .i64 (s.1 : Int)) ∧ w.cell? ⟨g,2,none⟩ = some (.bool s.2) ∧ ∀ j,w.frozen? ⟨g,j,none⟩ = false:=by
 refine ⟨by rw [cell_of_row _ _ _ _ _ _ h]; rfl,by rw [cell_of_row _ _ _ _ _ _ h]; rfl,by rw [cell_of_row _ _ _ _ _ _ h]; rfl,fun j => ?_⟩
 exact frozen_of_row _ _ _ _ _ h
theorem Rx.lt {w : World} {g : Nat} {b : List UInt8} {s : Rs} (h : Rx w g b s) : g < w.heap.size:=lt_of_block h
theorem Rx.later {w w' : World} {g : Nat} {b : List UInt8} {s : Rs} (h : Rx w g b s) (hb : Below w.heap.size w w') : Rx w' g b s:=by
 unfold Rx
 rw [hb.block g h.lt]; exact h
structure RP (g : Nat) (b : List UInt8) (s : Rs) (w w' : World) : Prop where
 rx : Rx w' g b s
 oth : Oth (fun x => x = g) w w'
theorem RP.bel {g : Nat} {b : List UInt8} {s : Rs} {w0 w w' : World} (h : RP g b s w w') (hb : Below w0.heap.size w0 w) (hg : w0.heap.size ≤ g) : Below w0.heap.size w0 w' :=
 hb.trans ⟨h.oth.os,h.oth.tape,h.oth.output,h.oth.size,fun k hk => h.oth.block k (by have:=hb.size; omega) (fun q => by omega)⟩
theorem RP.trans {g : Nat} {b : List UInt8} {s s' : Rs} {w w' w2 : World} (h : RP g b s w w') (h2 : RP g b s' w' w2) : RP g b s' w w2 :=
 ⟨h2.rx,⟨h2.oth.os.trans h.oth.os,h2.oth.tape.trans h.oth.tape,h2.oth.output.trans h.oth.output,Nat.le_trans h.oth.size h2.oth.size,fun k hk hn => (h2.oth.block k (by have:=h.oth.size; omega) hn).trans (h.oth.block k hk hn)⟩⟩
theorem RP.later {g : Nat} {b : List UInt8} {s : Rs} {w w' w2 : World} (h : RP g b s w w') (hb : Below w'.heap.size w' w2) : RP g b s w w2:=h.trans ⟨h.rx.later hb,Oth.of_below hb⟩
theorem RP.refl {g : Nat} {b : List UInt8} {s : Rs} {w : World} (h : Rx w g b s) : RP g b s w w:=⟨h,Oth.of_below (Below.refl _ _)⟩
theorem oth_set {g j : Nat} {w w' : World} {v : Value} (hb : Below w.heap.size w w') : Oth (fun x => x = g) w (w'.setCell ⟨g,j,none⟩ v):=by
 refine ⟨hb.os,hb.tape,hb.output,by simpa using hb.size,fun k hk hn => ?_⟩
 rw [hso _ _ (by omega),hb.block k hk]
theorem valFle {b k : List UInt8} {s : Rs} (h : s.1 ≤ b.length) : (valF b k s).2.1 ≤ b.length:=by
 unfold valF
 split
 ·exact h
 ·split
  ·rename_i q n hq
   have:=(rdFat hq).2.2.2
   split
   ·exact this
   ·exact h
  ·exact h
theorem rd_any (b : List UInt8) (p : Nat) (hp : p ≤ b.length) (hbl : b.length ≤ 4611686018427387904) (w : World) (hT : TB w) :
  Calls Tryz.prog 103 #[str b,.int .i64 (p : Int)] w fun e w' => ∃ (kl vl : List UInt8) (n er : Int),e = .returned (.tuple #[str kl,str vl,.int .i64 n,.int .i64 er]) ∧ RdAt b (p : Int) kl vl n er ∧ Below w.heap.size w w':=by
 refine (Go.Proofs.YtdfjlmfnkhhnjaaGreatDoorP.read_any ⟨b.toArray⟩ (p : Int) (by rw [str_size]; exact hbl) (by omega) w hT).mono ?_
 intro e w' h
 obtain ⟨kk,vv,n,er,e1,e2,e3⟩:=h
 exact ⟨kk.data.toList,vv.data.toList,n,er,by rw [e1,str_data,str_data],e2,e3⟩
set_option maxHeartbeats 4000000 in
theorem value_any (b k : List UInt8) (s : Rs) (g : Nat) (w0 w : World) (hR : Rx w g b s) (hs : s.1 ≤ b.length) (hbl : b.length ≤ 4611686018427387904) (hB : Below w0.heap.size w0 w) (hT : TB w0) :
  Calls Tryz.prog 59 #[.pointer (some ⟨g,0,none⟩),str k] w fun e w' => e = .returned (str (valF b k s).1) ∧ RP g b (valF b k s).2 w w':=by
 obtain ⟨p,bad⟩:=s
 obtain ⟨c0,c1,c2,cf⟩:=hR.cells
 dsimp only at c1 c2 hs
 cases bad with
 | true =>
  have hv : valF b k (p,true) = ([],(p,true)):=by unfold valF; rw [if_pos rfl]
  rw [hv]
  go_enter Tryz.func59,Tryz.ntmps59
  go_wp2_with fail
  go_ret
  exact ⟨rfl,RP.refl hR⟩
 | false =>
  have hrd:=rd_any b p hs hbl w.drew (hT.below hB.drew)
  have HRx:=Hid.mk hR
  have XC : Hid (∀ w',Below w.heap.size w w' → Below w.heap.size w w' ∧ w'.cell? ⟨g,0,none⟩ = some (str b) ∧ w'.cell? ⟨g,1,none⟩ = some (.int .i64 (p : Int))):=⟨fun w' h => by
   obtain ⟨t0,t1,t2,_⟩:=(HRx.out.later h).cells
   exact ⟨h,t0,t1⟩⟩
  clear hR cf
  go_enter Tryz.func59,Tryz.ntmps59
  go_upto_region 3 with fail
  clear c0 c1 c2
  go_region_held3 (fun w' => Below w.heap.size w w' ∧ w'.cell? ⟨g,0,none⟩ = some (str b) ∧ w'.cell? ⟨g,1,none⟩ = some (.int .i64 (p : Int))) (first
   | exact XC.out _ (Below.refl _ _).drew
   | exact XC.out _ (below_seq (Below.refl _ _).drew b1)) ((go_at_call 103; with_reducible refine Calls.mono hrd ?_; rintro e w1 ⟨kl,vl,n,er,rfl,hat',b1⟩))
  have HB1 : Hid (Below w.heap.size w w1):=⟨And.left (by assumption)⟩
  clear b1 XC hrd
  obtain ⟨t0,t1,t2,tf⟩:=(HRx.out.later HB1.out).cells
  have tf1:=tf 1
  have tf2:=tf 2
  rcases rd_link hat' hs with ⟨rfl,m,rfl,hf⟩ | ⟨h1,rfl,rfl,rfl,hf⟩
  ·by_cases hk : kl = k
   ·have d1 : (kl == k) = true:=by rw [hk]; simp
    have d2 : (kl != k) = false:=by rw [hk]; simp
    have hv : valF b k (p,false) = (vl,(m,false)):=by
     unfold valF
     rw [if_neg (show ¬ (false = true) from Bool.false_ne_true),hf]
     simp only
     rw [if_pos hk]
    have HV:=Hid.mk hv
    have hfin : Hid (RP g b (m,false) w (w1.setCell ⟨g,1,none⟩ (.int .i64 (m : Int)))):=⟨⟨by unfold Rx; rw [heap_setCell_same _ _ _ _ _ _ (HRx.out.later HB1.out)]; rfl,oth_set HB1.out⟩⟩
    clear hk hf hv hat'
    go_wp2_with fail
    go_ret
    exact ⟨by rw [HV.out]; rfl,by rw [HV.out]; exact hfin.out⟩
   ·have d1 : (kl == k) = false:=beq_eq_false_iff_ne.2 hk
    have d2 : (kl != k) = true:=by rw [bne,d1]; rfl
    have hv : valF b k (p,false) = ([],(p,true)):=by
     unfold valF
     rw [if_neg (show ¬ (false = true) from Bool.false_ne_true),hf]
     simp only
     rw [if_neg hk]
    have HV:=Hid.mk hv
    have hfin : Hid (RP g b (p,true) w (w1.setCell ⟨g,2,none⟩ (.bool true))):=⟨⟨by unfold Rx; rw [heap_setCell_same _ _ _ _ _ _ (HRx.out.later HB1.out)]; rfl,oth_set HB1.out⟩⟩
    clear hk hf hv hat'
    go_wp2_with fail
    go_ret
    exact ⟨by rw [HV.out]; rfl,by rw [HV.out]; exact hfin.out⟩
  ·have hv : valF b k (p,false) = ([],(p,true)):=by
    unfold valF
    rw [if_neg (show ¬ (false = true) from Bool.false_ne_true),hf]
   have HV:=Hid.mk hv
   have hfin : Hid (RP g b (p,true) w (w1.setCell ⟨g,2,none⟩ (.bool true))):=⟨⟨by unfold Rx; rw [heap_setCell_same _ _ _ _ _ _ (HRx.out.later HB1.out)]; rfl,oth_set HB1.out⟩⟩
   have h2 : (er != 0) = true:=by rw [bne,h1]; rfl
   clear hf hv hat'
   go_wp2_with fail
   go_ret
   exact ⟨by rw [HV.out]; rfl,by rw [HV.out]; exact hfin.out⟩
end
section
open Go.RowKit
open Go.Proofs.YtdfjlmfnkhhnjaaGreatDoorP (TB recd nn LEN key Rd RdAt)
attribute [local go_sem ↓] Go.wp_at_zero Go.wp_at_succ
structure EG (w : World) : Prop where
 s : ∃ t p,w.cell? ⟨3,0,none⟩ = some (.iface t p)
 r : ∃ t p,w.cell? ⟨4,0,none⟩ = some (.iface t p)
theorem EG.below {w w' : World} (h : EG w) (b : Below w.heap.size w w') : EG w':=by
 obtain ⟨t,p,h1⟩:=h.s
 obtain ⟨t',p',h2⟩:=h.r
 exact ⟨⟨t,p,(b.cell (p:=⟨3,0,none⟩) (block_lt_of_cell h1)).trans h1⟩,⟨t',p',(b.cell (p:=⟨4,0,none⟩) (block_lt_of_cell h2)).trans h2⟩⟩
theorem clone_str (s : List UInt8) (w : World) (h : s.length ≤ 281474976710656) : Calls Tryz.prog 161 #[str s] w fun e w' => e = .returned (str s) ∧ Below w.heap.size w w':=Tryz.stringslite_Clone ⟨s.toArray⟩ w (by rw [str_size]; exact h)
set_option maxHeartbeats 2000000 in
theorem synErr_any (f s : List UInt8) (w : World) (h : s.length ≤ 281474976710656) (hE : EG w) :
  Calls Tryz.prog 193 #[str f,str s] w fun e w' => ∃ N,e = .returned (.pointer (some ⟨N,0,none⟩)) ∧ Below w.heap.size w w':=by
 obtain ⟨t,p,hc⟩:=hE.s
 have hcl:=clone_str s w.drew h
 have hlt:=block_lt_of_cell hc
 have XC : Hid (∀ w',Below w.heap.size w w' → Below w.heap.size w w' ∧ w'.cell? ⟨3,0,none⟩ = some (.iface t p)):=⟨fun w' b => ⟨b,(b.cell (p:=⟨3,0,none⟩) hlt).trans hc⟩⟩
 go_enter Tryz.func193,Tryz.ntmps193
 go_upto_region 1 with fail
 go_region_held3 (fun w' => Below w.heap.size w w' ∧ w'.cell? ⟨3,0,none⟩ = some (.iface t p)) (first
  | exact XC.out _ (Below.refl _ _).drew
  | exact XC.out _ (below_seq (Below.refl _ _).drew b1)
  | exact XC.out _ ((below_seq (Below.refl _ _).drew b1).alloc (below_seq (Below.refl _ _).drew b1).size _)) ((go_at_call 161; with_reducible refine Calls.mono hcl ?_; rintro e w1 ⟨rfl,b1⟩))
 all_goals (go_wp2_with fail)
 all_goals go_ret
 all_goals exact ⟨_,rfl,And.left (by assumption)⟩
set_option maxHeartbeats 2000000 in
theorem rngErr_any (f s : List UInt8) (w : World) (h : s.length ≤ 281474976710656) (hE : EG w) :
  Calls Tryz.prog 194 #[str f,str s] w fun e w' => ∃ N,e = .returned (.pointer (some ⟨N,0,none⟩)) ∧ Below w.heap.size w w':=by
 obtain ⟨t,p,hc⟩:=hE.r
 have hcl:=clone_str s w.drew h
 have hlt:=block_lt_of_cell hc
 have XC : Hid (∀ w',Below w.heap.size w w' → Below w.heap.size w w' ∧ w'.cell? ⟨4,0,none⟩ = some (.iface t p)):=⟨fun w' b => ⟨b,(b.cell (p:=⟨4,0,none⟩) hlt).trans hc⟩⟩
 go_enter Tryz.func194,Tryz.ntmps194
 go_upto_region 1 with fail
 go_region_held3 (fun w' => Below w.heap.size w w' ∧ w'.cell? ⟨4,0,none⟩ = some (.iface t p)) (first
  | exact XC.out _ (Below.refl _ _).drew
  | exact XC.out _ (below_seq (Below.refl _ _).drew b1)
  | exact XC.out _ ((below_seq (Below.refl _ _).drew b1).alloc (below_seq (Below.refl _ _).drew b1).size _)) ((go_at_call 161; with_reducible refine Calls.mono hcl ?_; rintro e w1 ⟨rfl,b1⟩))
 all_goals (go_wp2_with fail)
 all_goals go_ret
 all_goals exact ⟨_,rfl,And.left (by assumption)⟩
theorem toErr_syn (f s : List UInt8) (b z : Int) (w : World) (h : s.length ≤ 281474976710656) (hE : EG w) :
  Calls Tryz.prog 150 #[str f,str s,.int .i64 b,.int .i64 z,.iface 222 (.int .i64 2)] w fun e w' => ∃ t v,e = .returned (.iface t v) ∧ Below w.heap.size w w':=by
 have hs:=synErr_any f s w h hE
 have hq22 : ∀ W,(binOp .eql 74 (.iface 222 (.int .i64 2)) (.iface 222 (.int .i64 2))).run Tryz.prog W = .ok (.bool true) W:=fun W => Lib.run_eql_iface_int W 2 2 Tryz.underlying74 (by kernel_rfl) Tryz.underlying222
 go_enter Tryz.func150,Tryz.ntmps150
 go_wp2_with fail
 with_reducible refine Calls.mono hs ?_
 rintro e w1 ⟨N,rfl,b1⟩
 dsimp only
 go_wp2_with fail
 go_ret
 exact ⟨_,_,rfl,b1⟩
theorem toErr_rng (f s : List UInt8) (b z : Int) (w : World) (h : s.length ≤ 281474976710656) (hE : EG w) :
  Calls Tryz.prog 150 #[str f,str s,.int .i64 b,.int .i64 z,.iface 222 (.int .i64 1)] w fun e w' => ∃ t v,e = .returned (.iface t v) ∧ Below w.heap.size w w':=by
 have hs:=rngErr_any f s w h hE
 have hq12 : ∀ W,(binOp .eql 74 (.iface 222 (.int .i64 1)) (.iface 222 (.int .i64 2))).run Tryz.prog W = .ok (.bool false) W:=fun W => Lib.run_eql_iface_int W 1 2 Tryz.underlying74 (by kernel_rfl) Tryz.underlying222
 have hq11 : ∀ W,(binOp .eql 74 (.iface 222 (.int .i64 1)) (.iface 222 (.int .i64 1))).run Tryz.prog W = .ok (.bool true) W:=fun W => Lib.run_eql_iface_int W 1 1 Tryz.underlying74 (by kernel_rfl) Tryz.underlying222
 go_enter Tryz.func150,Tryz.ntmps150
 go_wp2_with fail
 with_reducible refine Calls.mono hs ?_
 rintro e w1 ⟨N,rfl,b1⟩
 dsimp only
 go_wp2_with fail
 go_ret
 exact ⟨_,_,rfl,b1⟩
theorem parseInt_any (s : List UInt8) (w : World) (h : s.length ≤ 281474976710656) (hE : EG w) :
  Calls Tryz.prog 104 #[str s,.int .i64 10,.int .i64 64] w fun e w' => ∃ v,e = .returned (.tuple #[.int .i64 (numV s),v]) ∧ Below w.heap.size w w':=by
 have hp:=Tryz.internal_strconv_ParseInt_10_all64 ⟨s.toArray⟩ (by rw [str_size]; omega) w
 have hp : Calls Tryz.prog 149 #[str s,.int .i64 10,.int .i64 64] w fun e w' => e = .returned (Lib.intTuple 222 (Lib.intSat 64 s) (Lib.parseIntB 64 s)) ∧ Below w.heap.size w w':=by
  refine hp.mono ?_
  rintro e w' ⟨rfl,q⟩
  refine ⟨rfl,?_⟩
  rcases q with rfl | ⟨t,rfl⟩
  ·exact Below.refl _ _
  ·exact Lib.bytesWorld_below _ _ _
 unfold numV
 cases hq : Lib.parseIntB 64 s with
 | ok v =>
  rw [hq] at hp
  clear hq
  go_enter Tryz.func104,Tryz.ntmps104
  go_wp2_with fail
  with_reducible refine Calls.mono hp ?_
  rintro e w1 ⟨rfl,b1⟩
  dsimp only [Lib.intTuple]
  go_wp2_with fail
  refine bodyPost_ret (results_tmp2 rfl _ _ _) rfl ?_
  exact ⟨_,rfl,b1⟩
 | «syntax» =>
  rw [hq] at hp
  clear hq
  go_enter Tryz.func104,Tryz.ntmps104
  go_wp2_with fail
  with_reducible refine Calls.mono hp ?_
  rintro e w1 ⟨rfl,b1⟩
  dsimp only [Lib.intTuple]
  have ht:=toErr_syn [80,97,114,115,101,73,110,116] s 10 64 w1 h (hE.below b1)
  go_wp2_with fail
  refine Calls.mono ht ?_
  rintro e w2 ⟨t,v,rfl,b2⟩
  dsimp only
  go_wp2_with fail
  refine bodyPost_ret (results_tmp2 rfl _ _ _) rfl ?_
  exact ⟨_,rfl,below_seq b1 b2⟩
 | range =>
  rw [hq] at hp
  clear hq
  generalize Lib.intSat 64 s = sat at *
  go_enter Tryz.func104,Tryz.ntmps104
  go_wp2_with fail
  with_reducible refine Calls.mono hp ?_
  rintro e w1 ⟨rfl,b1⟩
  dsimp only [Lib.intTuple]
  have ht:=toErr_rng [80,97,114,115,101,73,110,116] s 10 64 w1 h (hE.below b1)
  go_wp2_with fail
  refine Calls.mono ht ?_
  rintro e w2 ⟨t,v,rfl,b2⟩
  dsimp only
  go_wp2_with fail
  refine bodyPost_ret (results_tmp2 rfl _ _ _) rfl ?_
  exact ⟨_,rfl,below_seq b1 b2⟩
theorem valFlen {b k : List UInt8} {s : Rs} : (valF b k s).1.length ≤ 1048576:=by
 unfold valF
 split
 ·simp
 ·split
  ·rename_i q n hq
   split
   ·exact (kv_len (rdFat hq).1.small).2
   ·simp
  ·simp
theorem number_any (b k : List UInt8) (s : Rs) (g : Nat) (w0 w : World) (hR : Rx w g b s) (hs : s.1 ≤ b.length) (hbl : b.length ≤ 4611686018427387904) (hB : Below w0.heap.size w0 w) (hg : w0.heap.size ≤ g) (hT : TB w0) (hE : EG w0) :
  Calls Tryz.prog 60 #[.pointer (some ⟨g,0,none⟩),str k] w fun e w' => e = .returned (.int .i64 (numF b k s).1) ∧ RP g b (numF b k s).2 w w':=by
 have hv:=value_any b k s g w0 w hR hs hbl hB hT
 go_enter Tryz.func60,Tryz.ntmps60
 go_wp2_with fail
 with_reducible refine Calls.mono hv ?_
 rintro e w1 ⟨rfl,r1⟩
 dsimp only
 have hp:=parseInt_any (valF b k s).1 w1 (Nat.le_trans valFlen (by decide)) (hE.below (r1.bel hB hg))
 go_wp2_with fail
 with_reducible refine Calls.mono hp ?_
 rintro e w2 ⟨v,rfl,b2⟩
 dsimp only
 go_wp2_with fail
 go_ret
 exact ⟨rfl,r1.later b2⟩
end
end Go.Proofs.YtdfjlmfnkhhnjaaGreatDoor
