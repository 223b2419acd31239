import Derived.Test.YtdfjlmfnkhhnjaaGreatDoorPMath
import Derived.Test.YtdfjlmfnkhhnjaaGreatDoorGd
import Derived.Test.YtdfjlmfnkhhnjaaGreatDoorGf
import Derived.RangeFuncNested
import Derived.RangeFuncBound
import Derived.RangeFuncCalls
import Derived.RangeFuncLeaves
import Derived.RangeFuncBox
import Derived.Shelf.Abstract
import Derived.Shelf.RegionOpen
import Derived.OwnWalkIn
import Derived.TacticsInMore
import Derived.LoopNIn
import Derived.LoopIn
set_option maxRecDepth 100000
set_option linter.unusedVariables false
set_option linter.unusedSimpArgs false
namespace Go.Proofs.YtdfjlmfnkhhnjaaGreatDoor
section
open Go.Lib (decDigits)
open Go.Proofs.YtdfjlmfnkhhnjaaGreatDoorP (recd Rd key nn LEN)
open Go.Proofs.YtdfjlmfnkhhnjaaGreatDoorH (hexL pv okL)
structure It where
 key : List UInt8
 seq : Int
 mkr : Bool
 size : Int
 l : List En
 g : Nat → UInt8
def cut32 (g : Nat → UInt8) : Nat → UInt8:=fun j => if j < 32 then g j else 0
structure Ma where
 since : Int
 next : Int
 items : List It
abbrev Kv:=List UInt8 × List UInt8
def sKind : List UInt8 := [107,105,110,100]
def sFull : List UInt8 := [102,117,108,108]
def sDelta : List UInt8 := [100,101,108,116,97]
def sFormat : List UInt8 := [102,111,114,109,97,116]
def sCoffer : List UInt8 := [99,111,102,102,101,114,45,49]
def sNext : List UInt8 := [110,101,120,116]
def sSince : List UInt8 := [115,105,110,99,101]
def sCount : List UInt8 := [99,111,117,110,116]
def sKey : List UInt8 := [107,101,121]
def sSeq : List UInt8 := [115,101,113]
def sType : List UInt8 := [116,121,112,101]
def sMarker : List UInt8 := [109,97,114,107,101,114]
def sData : List UInt8 := [100,97,116,97]
def sSize : List UInt8 := [115,105,122,101]
def sMeta : List UInt8 := [109,101,116,97,46]
def sLeaf : List UInt8 := [108,101,97,102]
def sEnd : List UInt8 := [101,110,100]
def sMani : List UInt8 := [109,97,110,105,102,101,115,116]
def dec (n : Int) : List UInt8:=decDigits n.toNat
def headR (m : Ma) : List Kv := [(sKind,if m.since = 0 then sFull else sDelta),(sFormat,sCoffer),(sNext,dec m.next)] ++ (if m.since = 0 then [] else [(sSince,dec m.since)]) ++ [(sCount,dec m.items.length)]
def metaR (l : List En) : List Kv:=l.map fun p => (sMeta ++ p.key,p.val)
def itemR (x : It) : List Kv := [(sKey,x.key),(sSeq,dec x.seq)] ++ (if x.mkr = true then [(sType,sMarker)] else [(sType,sData),(sSize,dec x.size)]) ++ metaR x.l ++ [(sLeaf,hexL x.g)]
def recs (m : Ma) : List Kv:=headR m ++ (m.items.map itemR).flatten ++ [(sEnd,sMani)]
def txt (R : List Kv) : List UInt8:=(R.map fun p => recd p.1 p.2).flatten
noncomputable def mtx (m : Ma) : List UInt8:=txt (recs m)
def Kvs (R : List Kv) : Prop := ∀ p ∈ R,key p.1 = true ∧ LEN (nn p.1 p.2) ≤ 1048576
theorem txt_cons (p : Kv) (R : List Kv) : txt (p :: R) = recd p.1 p.2 ++ txt R:=by simp [txt]
theorem txt_append (R S : List Kv) : txt (R ++ S) = txt R ++ txt S:=by simp [txt]
theorem txt_rd {p : Kv} {R : List Kv} (h : Kvs (p :: R)) (r : List UInt8) : Rd (txt (p :: R) ++ r) p.1 p.2:=⟨(h p (by simp)).1,(h p (by simp)).2,txt R ++ r,by rw [txt_cons,List.append_assoc]⟩
theorem Kvs.tail {p : Kv} {R : List Kv} (h : Kvs (p :: R)) : Kvs R:=fun q hq => h q (by simp [hq])
theorem recd_ne (k v : List UInt8) : recd k v ≠ []:=by
 intro h
 have:=Go.Proofs.YtdfjlmfnkhhnjaaGreatDoorP.recd_length k v
 rw [h] at this
 have:=Go.Proofs.YtdfjlmfnkhhnjaaGreatDoorP.LEN_pos (nn k v)
 simp at *
 omega
structure RtI (m : Ma) (x : It) : Prop where
 key : keyE x.key = 0
 s1 : 1 ≤ x.seq
 s2 : x.seq < m.next
 s3 : m.since ≤ x.seq
 mk1 : x.mkr = true → x.size = 0 ∧ x.l = []
 mk0 : x.mkr = false → 0 ≤ x.size ∧ x.size ≤ 1024 ∧ mtE x.l = 0
def bef (y x : It) : Prop:=bcmp y.key x.key < 0 ∨ (y.key = x.key ∧ y.seq < x.seq)
def isz (x : It) : Int:=((32 + x.key.length + tt x.l : Nat) : Int) + x.size
def isum (l : List It) : Int:=(l.map isz).sum
structure RtM (m : Ma) : Prop where
 n1 : 1 ≤ m.next
 n2 : m.next ≤ 1099511627777
 c1 : 0 ≤ m.since
 c2 : m.since ≤ m.next
 len : m.items.length ≤ 256
 it : ∀ x ∈ m.items,RtI m x
 srt : m.items.Pairwise bef
 nod : (m.items.map (·.seq)).Nodup
 byt : isum m.items ≤ 65536
theorem small_key {s : List UInt8} {n : Nat} (h : smN s n = true) : (61 : UInt8) ∉ s ∧ (10 : UInt8) ∉ s ∧ s ≠ [] ∧ s.length ≤ n:=by
 unfold smN at h
 rw [Bool.and_eq_true,decide_eq_true_iff,List.all_eq_true] at h
 refine ⟨fun q => ?_,fun q => ?_,fun q => ?_,h.1.2⟩
 ·exact absurd (h.2 _ q) (by decide)
 ·exact absurd (h.2 _ q) (by decide)
 ·rw [q] at h; simp at h
theorem len_le {n k : Nat} (h : n + 7 ≤ k) (hk : k ≤ 1048576) : LEN n ≤ k:=by
 have : Go.Proofs.YtdfjlmfnkhhnjaaGreatDoorP.dig n ≤ 7:=Go.Proofs.YtdfjlmfnkhhnjaaGreatDoorP.dig_le (by omega) (by omega)
 unfold LEN
 omega
theorem kv_ok {k v : List UInt8} (h1 : key k = true) (h2 : k.length ≤ 100) (h3 : v.length ≤ 2000) : key k = true ∧ LEN (nn k v) ≤ 1048576:=by
 refine ⟨h1,len_le (k:=1048576) ?_ (Nat.le_refl _)⟩
 unfold nn
 omega
theorem dec_len {n : Int} (h : n ≤ 1099511627777) : (dec n).length ≤ 20:=by
 unfold dec
 rw [Go.Lib.decDigits_length]
 have:=Go.Proofs.YtdfjlmfnkhhnjaaGreatDoorP.nDigits_le (u:=n.toNat) (k:=20) (by omega) (by omega)
 exact this
theorem keyE_len {s : List UInt8} (h : keyE s = 0) : s.length ≤ 32:=by
 unfold keyE at h
 split at h
 ·rename_i q; exact q.2
 ·omega
theorem mtE_iff {l : List En} (h : mtE l = 0) : l.length ≤ 8 ∧ (∀ p ∈ l,prb p = true) ∧ Srt l:=by
 unfold mtE at h
 split at h
 ·rename_i q; exact q
 ·omega
theorem prb_iff {p : En} (h : prb p = true) : smN p.key 16 = true ∧ p.val.length ≤ 64:=by
 unfold prb at h
 rw [Bool.and_eq_true,decide_eq_true_iff] at h
 exact h
theorem hexL_len (g : Nat → UInt8) : (hexL g).length = 64:=by simp [hexL]
theorem headR_ok {m : Ma} (h : RtM m) : Kvs (headR m):=by
 have hn:=h.n2
 have hc : m.since ≤ 1099511627777:=Int.le_trans h.c2 h.n2
 have hl : (m.items.length : Int) ≤ 1099511627777:=by have:=h.len; omega
 intro p hp
 unfold headR at hp
 split at hp
 ·simp only [List.append_nil,List.mem_append,List.mem_cons,List.not_mem_nil,or_false] at hp
  rcases hp with (rfl | rfl | rfl) | rfl
  ·exact kv_ok (k:=sKind) (by decide) (by decide) (by decide)
  ·exact kv_ok (k:=sFormat) (by decide) (by decide) (by decide)
  ·exact kv_ok (k:=sNext) (by decide) (by decide) (Nat.le_trans (dec_len hn) (by decide))
  ·exact kv_ok (k:=sCount) (by decide) (by decide) (Nat.le_trans (dec_len hl) (by decide))
 ·simp only [List.mem_append,List.mem_cons,List.not_mem_nil,or_false] at hp
  rcases hp with ((rfl | rfl | rfl) | rfl) | rfl
  ·exact kv_ok (k:=sKind) (by decide) (by decide) (by decide)
  ·exact kv_ok (k:=sFormat) (by decide) (by decide) (by decide)
  ·exact kv_ok (k:=sNext) (by decide) (by decide) (Nat.le_trans (dec_len hn) (by decide))
  ·exact kv_ok (k:=sSince) (by decide) (by decide) (Nat.le_trans (dec_len hc) (by decide))
  ·exact kv_ok (k:=sCount) (by decide) (by decide) (Nat.le_trans (dec_len hl) (by decide))
theorem metaR_ok {l : List En} (h : mtE l = 0) : Kvs (metaR l):=by
 intro p hp
 obtain ⟨q,hq,rfl⟩:=List.mem_map.1 hp
 obtain ⟨h1,h2,h3⟩:=mtE_iff h
 obtain ⟨g1,g2⟩:=prb_iff (h2 q hq)
 obtain ⟨k1,k2,k3,k4⟩:=small_key g1
 refine kv_ok ?_ ?_ ?_
 ·rw [Go.Proofs.YtdfjlmfnkhhnjaaGreatDoorP.key_iff]
  refine ⟨by simp [sMeta],?_,?_⟩
  ·rw [List.mem_append]; exact fun q => q.elim (by decide) k1
  ·rw [List.mem_append]; exact fun q => q.elim (by decide) k2
 ·simp only [List.length_append]
  have : sMeta.length = 5:=rfl
  omega
 ·simp only; omega
theorem itemR_ok {m : Ma} {x : It} (hm : m.next ≤ 1099511627777) (h : RtI m x) : Kvs (itemR x):=by
 have hs : x.seq ≤ 1099511627777:=by have:=h.s2; omega
 have hk:=keyE_len h.key
 have hx:=hexL_len x.g
 intro p hp
 unfold itemR at hp
 cases hmk : x.mkr with
 | true =>
  obtain ⟨_,hl⟩:=h.mk1 hmk
  rw [hmk,if_pos rfl,hl] at hp
  simp only [metaR,List.map_nil,List.append_nil,List.mem_append,List.mem_cons,List.not_mem_nil,or_false] at hp
  rcases hp with ((rfl | rfl) | rfl) | rfl
  ·exact kv_ok (k:=sKey) (by decide) (by decide) (Nat.le_trans hk (by decide))
  ·exact kv_ok (k:=sSeq) (by decide) (by decide) (Nat.le_trans (dec_len hs) (by decide))
  ·exact kv_ok (k:=sType) (by decide) (by decide) (by decide)
  ·exact kv_ok (k:=sLeaf) (by decide) (by decide) (Nat.le_trans (Nat.le_of_eq hx) (by decide))
 | false =>
  obtain ⟨z1,z2,z3⟩:=h.mk0 hmk
  rw [hmk,if_neg (by decide)] at hp
  simp only [List.mem_append,List.mem_cons,List.not_mem_nil,or_false] at hp
  rcases hp with (((rfl | rfl) | (rfl | rfl)) | hp) | rfl
  ·exact kv_ok (k:=sKey) (by decide) (by decide) (Nat.le_trans hk (by decide))
  ·exact kv_ok (k:=sSeq) (by decide) (by decide) (Nat.le_trans (dec_len hs) (by decide))
  ·exact kv_ok (k:=sType) (by decide) (by decide) (by decide)
  ·exact kv_ok (k:=sSize) (by decide) (by decide) (Nat.le_trans (dec_len (n:=x.size) (by omega)) (by decide))
  ·exact metaR_ok z3 p hp
  ·exact kv_ok (k:=sLeaf) (by decide) (by decide) (Nat.le_trans (Nat.le_of_eq hx) (by decide))
theorem recs_ok {m : Ma} (h : RtM m) : Kvs (recs m):=by
 intro p hp
 unfold recs at hp
 simp only [List.mem_append,List.mem_cons,List.not_mem_nil,or_false] at hp
 rcases hp with (hp | hp) | rfl
 ·exact headR_ok h p hp
 ·obtain ⟨l,hl,hpl⟩:=List.mem_flatten.1 hp
  obtain ⟨x,hx,rfl⟩:=List.mem_map.1 hl
  exact itemR_ok h.n2 (h.it x hx) p hpl
 ·exact kv_ok (k:=sEnd) (by decide) (by decide) (by decide)
end
section
open Go.RowKit Go.Shelf
theorem wide_room (k : Nat) : Fence.wide.room k:=fun d h => by cases h
abbrev kvv (p : Kv) : Array Value:=#[str p.1,str p.2]
abbrev Bs:=Nat → Prop
structure Oth (X : Bs) (W W' : World) : Prop where
 os : W'.os = W.os
 tape : W'.tape = W.tape
 output : W'.output = W.output
 size : W.heap.size ≤ W'.heap.size
 block : ∀ b,b < W.heap.size → ¬ X b → W'.heap[b]? = W.heap[b]?
theorem Oth.of_below {X : Bs} {W W' : World} (h : Below W.heap.size W W') : Oth X W W':=⟨h.os,h.tape,h.output,h.size,fun b hb _ => h.block b hb⟩
theorem Oth.put {X : Bs} (W : World) {r : Nat} (o : Obj) (h : X r) : Oth X W (W.putObj r o):=by
 have g:=grownBy_putObj' W r o
 exact ⟨g.os,g.tape,g.output,g.size,fun b hb hx => g.block b hb (fun e => hx (by injection e with e; rw [e]; exact h))⟩
def Abid (J : Nat → World → Bs → Prop) : Prop := ∀ k W X W' X',J k W X → Oth X W W' → (∀ b,X' b → X b ∨ (W.heap.size ≤ b ∧ b < W'.heap.size)) → J k W' X'
theorem Abid.bel {J : Nat → World → Bs → Prop} (h : Abid J) {k : Nat} {W W' : World} {X : Bs} (hj : J k W X) (b : Below W.heap.size W W') : J k W' X:=h k W X W' X hj (Oth.of_below b) (fun b hb => .inl hb)
theorem Abid.less {J : Nat → World → Bs → Prop} (h : Abid J) {k : Nat} {W : World} {X X' : Bs} (hj : J k W X) (hx : ∀ b,X' b → X b) : J k W X':=h k W X W X' hj (Oth.of_below (Below.refl _ _)) (fun b hb => .inl (hx b hb))
def Stay (X : Bs) (W W' : World) : Prop := ∀ b,X b → b < W.heap.size → W'.heap[b]? = W.heap[b]?
def Tells (P : Program) (g : Nat) (lb : Array Value) (R : List Kv) (K : World → Prop) : Prop :=
 ∀ (m l : Nat) (J : Nat → World → Bs → Prop) (W : World),Abid J → (∀ k W1 X1,J k W1 X1 → K W1) →
  (∀ k p W1 X1,R[k]? = some p → J k W1 X1 → ∀ m,YieldAt Fence.wide m P l (kvv p) W1 fun e W' => e = .returned (.bool true) ∧ J (k + 1) W' X1 ∧ Stay X1 W1 W') →
  J 0 W (fun _ => False) → CallsIn Fence.wide m P g (#[.func (.yield l) #[] #[]] ++ lb) W fun e W' => (∃ v,e = .returned v) ∧ J R.length W' (fun _ => False)
def goesOn (I : Nat → World → Bs → Prop) (k : Nat) (W : World) (X : Bs) : Exit → Act → World → Prop
 | .normal,_,W' => I (k + 1) W' X ∧ Stay X W W'
 | _,_,_ => False
theorem wp_tells {P : Program} {n : Nat} {g : Operand} {ps : Array Tmp} {assign body : Code} {Q : Exit → Act → World → Prop} {a : Act} {w : World} {K : World → Prop}
  {gf : Nat} {lb : Array Value} (hg : a.eval g = .func (.func gf) #[] lb) (eg : ∀ args w,(callFunc gf args).run P w = .ok (.enter gf args) w)
  {R : List Kv} (hseq : Tells P gf lb R K) (hps : ps.size = 2)
  (I : Nat → World → Bs → Prop) (hI : Abid I) (hIK : ∀ k W X,I k W X → K W) (h0 : I 0 w (fun _ => False)) (a₁ : Kv → Act)
  (hassign : ∀ (l : Nat) (p : Kv) (W : World) (K : Act → World → Prop),K (a₁ p) W →
   assign.wpIn (Fence.wide.inRound l) n P (Exit.then K (fun _ _ _ => False)) { tmps:=(ps.zip (kvv p)).foldl (fun t (p,v) => t.setIfInBounds p v) a.tmps,defers := [] } W)
  (hbody : ∀ (l k : Nat) (p : Kv) (W : World) (X : Bs),R[k]? = some p → I k W X → body.wpIn (Fence.wide.inRound l) n P (goesOn I k W X) (a₁ p) W)
  (hdone : ∀ (W : World),I R.length W (fun b => b = w.heap.size) → W.heap[w.heap.size]? = some (.deferred (some [])) → Q .normal { a with defers := { target := .collected w.heap.size,args:=#[] } :: a.defers } W) :
  (Code.rangeFunc g ps assign body).wpIn Fence.wide n P Q a w:=by
 refine wpIn_rangeFunc fun fn hfn => ?_
 obtain ⟨rc,hrc⟩ : ∃ rc : LoopState → Loop,rc = fun st => { state:=st,pending:=none,fn,tmps:=a.tmps,params:=ps,assign,body,defers:=w.heap.size }:=⟨_,rfl⟩
 obtain ⟨V,hV⟩ : ∃ V,(w.alloc (.deferred (some []))).alloc (.loop (rc .ready)) = V:=⟨_,rfl⟩
 have hVs : V.heap.size = w.heap.size + 2:=by rw [← hV]; simp
 have hL : V.heap[w.heap.size + 1]? = some (.loop (rc .ready)):=by
  have:=World.alloc_heap_new (w.alloc (.deferred (some []))) (.loop (rc .ready))
  rw [World.size_alloc] at this
  rw [← hV]; exact this
 have hD : V.heap[w.heap.size]? = some (.deferred (some [])):=by
  rw [← hV]; exact (Below.heap_alloc _ _ _ (by simp)).trans (World.alloc_heap_new w _)
 have hbV : Below w.heap.size w V:=by
  rw [← hV]; exact ((Below.refl _ w).alloc (Nat.le_refl _) _).alloc (by simp) _
 have hIV : I 0 V (fun b => False ∨ b = w.heap.size ∨ b = w.heap.size + 1):=hI 0 w _ V _ h0 (Oth.of_below hbV) (fun b hb => hb.imp id (fun q => by omega))
 clear hbV
 have run1 : (Instr.enterLoop fn a.tmps ps assign body none).run P w = .ok (w.heap.size + 1,[{ target := .collected w.heap.size,args:=#[] }]) V:=by
  rw [← hV,hrc]; exact run_enterLoop_outer _ _ _ _ _
 clear hV
 have hBx : ∃ B,B = w.heap.size:=⟨_,rfl⟩
 obtain ⟨B,hB⟩:=hBx
 rw [← hB] at hVs hL hD hIV run1 hdone
 have hrs : ∀ st,({ rc .ready with state:=st } : Loop) = rc st:=fun st => by rw [hrc]
 refine ⟨B + 1,[{ target := .collected B,args:=#[] }],V,{ target := .fn (.func gf) lb,args:=#[.func (.yield (B + 1)) #[] #[]] },V,gf,#[.func (.yield (B + 1)) #[] #[]] ++ lb,V,run1,?_,?_,?_,(fun h => (by cases h)),?_⟩
 ·simp only [resolve,hg]
  simp [go_sem]
 ·intro f' _; trivial
 ·simp [invoke,go_sem,eg]
 ·refine (hseq (n - 1) (B + 1) (fun k W X => I k W (fun b => X b ∨ b = B ∨ b = B + 1) ∧ W.heap[B + 1]? = some (.loop (rc .ready)) ∧ W.heap[B]? = some (.deferred (some [])) ∧ ¬ X B ∧ ¬ X (B + 1)) V ?_ (fun k W X h => hIK k W _ h.1) ?_ ⟨hIV,hL,hD,fun q => q,fun q => q⟩).mono ?_
  ·rintro k W X W' X' ⟨hi,hl,hk,x1,x2⟩ ho hx
   have hlt:=(Array.getElem?_eq_some_iff.1 hl).1
   refine ⟨hI k W _ W' _ hi ⟨ho.os,ho.tape,ho.output,ho.size,fun b hb hn => ho.block b hb (fun q => hn (.inl q))⟩ (fun b hb => ?_),(ho.block _ hlt x2).trans hl,(ho.block _ (by omega) x1).trans hk,fun q => ?_,fun q => ?_⟩
   ·rcases hb with q | q
    ·rcases hx b q with z | z
     ·exact .inl (.inl z)
     ·exact .inr z
    ·exact .inl (.inr q)
   ·rcases hx _ q with z | z
    ·exact x1 z
    ·omega
   ·rcases hx _ q with z | z
    ·exact x2 z
    ·omega
  ·rintro k p W X hp ⟨hi,hl,hk,x1,x2⟩ m
   have hlt:=(Array.getElem?_eq_some_iff.1 hl).1
   have hy:=run_yield (P:=P) (args:=kvv p) hl (by rw [hrc]; exact hps.symm)
   rw [hrc] at hy
   refine ⟨fn,_,assign,body,hy,?_⟩
   have hl2 : (W.putObj (B + 1) (.loop (rc .busy))).heap[B + 1]? = some (.loop (rc .busy)):=World.putObj_heap_same hlt
   have hk2 : (W.putObj (B + 1) (.loop (rc .busy))).heap[B]? = some (.deferred (some [])):=(World.putObj_heap_other (by omega)).trans hk
   have hs2 : (W.putObj (B + 1) (.loop (rc .busy))).heap.size = W.heap.size:=by simp
   have hb1 : (Instr.beginRound (B + 1)).run P W = .ok () (W.putObj (B + 1) (.loop (rc .busy))):=by rw [← hrs]; exact run_beginRound hl (by rw [hrc])
   have hi2 : I k (W.putObj (B + 1) (.loop (rc .busy))) (fun b => X b ∨ b = B ∨ b = B + 1):=hI k W _ _ _ hi (Oth.put W _ (.inr (.inr rfl))) (fun b hb => .inl hb)
   have hR : RoundIn Fence.wide n P (B + 1) fn ((ps.zip (kvv p)).foldl (fun t (p,v) => t.setIfInBounds p v) a.tmps) assign body W fun e W' => e = .returned (.bool true) ∧ (I (k + 1) W' (fun b => X b ∨ b = B ∨ b = B + 1) ∧ W'.heap[B + 1]? = some (.loop (rc .ready)) ∧ W'.heap[B]? = some (.deferred (some [])) ∧ ¬ X B ∧ ¬ X (B + 1)) ∧ Stay X W W':=by
    refine roundIn_of_wpIn hfn (hassign _ p W _ ⟨_,hb1,?_⟩)
    refine wpIn_mono (hbody _ k p _ _ hp hi2) ?_
    rintro e a3 W3 hq
    cases e with
    | normal =>
     obtain ⟨hi3,hst⟩:=hq
     have hl3:=(hst (B + 1) (.inr (.inr rfl)) (by omega)).trans hl2
     have hd3:=(hst B (.inr (.inl rfl)) (by omega)).trans hk2
     have he:=run_endRound (P:=P) none hl3
     refine ⟨_,_,he,rfl,⟨hI _ _ _ _ _ hi3 (Oth.put W3 _ (.inr (.inr rfl))) (fun b hb => .inl hb),?_,(World.putObj_heap_other (by omega)).trans hd3,x1,x2⟩,fun b hb hbl => ?_⟩
     ·rw [World.putObj_heap_same (Array.getElem?_eq_some_iff.1 hl3).1,hrc]; rfl
     ·have hne : b ≠ B + 1:=fun q => x2 (q ▸ hb)
      rw [World.putObj_heap_other hne,hst b (.inl hb) (by omega),World.putObj_heap_other hne]
    | ret => exact hq.elim
    | exit id => exact hq.elim
    | goto t => exact hq.elim
    | panic ch => exact hq.elim
    | outgrown => exact hq.elim
   rw [hrc] at hR ⊢
   exact ⟨hR.1,fun c cs _ => hR.2 c cs (wide_room _)⟩
  ·rintro e W2 ⟨⟨v,rfl⟩,hi,hl,hk,x1,x2⟩
   refine ⟨none,_,by have:=run_endLoop (P:=P) hl (by rw [hrc]; simp); rw [hrc] at this; exact this,?_⟩
   refine hdone _ ?_ ((World.putObj_heap_other (by omega)).trans hk)
   exact hI _ _ _ _ _ hi (Oth.put W2 _ (.inr (.inr rfl))) (fun b hb => .inl (.inr (.inl hb)))
theorem leaves_marks {P : Program} {n : Nat} {fn : Func} {tmps : Array Value} {Q : Ending → World → Prop} {H : World → Prop} {A : Bs} (hH : ∀ W D,A D → H W → H (W.putObj D (.deferred none)))
  (hfin : ∀ W,H W → LeavesIn Fence.wide n P fn tmps Q [] .returning W) :
  ∀ (Ds : List Nat) (W : World),Ds.Nodup → (∀ D ∈ Ds,A D) → H W → (∀ D ∈ Ds,W.heap[D]? = some (.deferred (some []))) → LeavesInM Fence.wide n P fn tmps Q (Ds.map fun D => { target := .collected D,args:=#[] }) .returning W
 | [],W,_,_,h,_ => hfin W h
 | D :: Ds,W,hn,hA,h,hd => by
  have h1:=hd D (by simp)
  refine ⟨by simp,.inl ⟨D,_,rfl,run_takeDeferred h1,?_⟩⟩
  have hn2:=List.nodup_cons.1 hn
  exact leaves_marks hH hfin Ds _ hn2.2 (fun E hE => hA E (by simp [hE])) (hH W D (hA D (by simp)) h) (fun E hE => (World.putObj_heap_other (fun (q : E = D) => hn2.1 (q ▸ hE))).trans (hd E (by simp [hE])))
structure Pv (J : Nat → World → Bs → Prop) (L : List (Nat × Obj)) (c k : Nat) (W : World) (X : Bs) : Prop where
 j : J (c + k) W (fun b => X b ∨ ∃ o,(b,o) ∈ L)
 at' : ∀ b o,(b,o) ∈ L → W.heap[b]? = some o
 nx : ∀ b o,(b,o) ∈ L → ¬ X b
theorem Pv.abid {J : Nat → World → Bs → Prop} (hJ : Abid J) (L : List (Nat × Obj)) (c : Nat) : Abid (Pv J L c):=by
 intro k W X W' X' h ho hx
 refine ⟨hJ _ _ _ _ _ h.j ⟨ho.os,ho.tape,ho.output,ho.size,fun b hb hn => ho.block b hb (fun q => hn (.inl q))⟩ (fun b hb => ?_),fun b o hm => ?_,fun b o hm q => ?_⟩
 ·rcases hb with q | q
  ·rcases hx b q with z | z
   ·exact .inl (.inl z)
   ·exact .inr z
  ·exact .inl (.inr q)
 ·have:=h.at' b o hm
  rw [ho.block b (Array.getElem?_eq_some_iff.1 this).1 (h.nx b o hm)]
  exact this
 ·have:=(Array.getElem?_eq_some_iff.1 (h.at' b o hm)).1
  rcases hx b q with z | z
  ·exact h.nx b o hm z
  ·omega
theorem Pv.add {J : Nat → World → Bs → Prop} (hJ : Abid J) {L : List (Nat × Obj)} {c k : Nat} {W : World} (h : Pv J L c k W (fun _ => False)) (o : Obj) : Pv J ((W.heap.size,o) :: L) c k (W.alloc o) (fun _ => False):=by
 refine ⟨hJ _ _ _ _ _ h.j (Oth.of_below ((Below.refl _ _).alloc (Nat.le_refl _) o)) (fun b hb => ?_),fun b p hm => ?_,fun _ _ _ q => q⟩
 ·rcases hb with q | ⟨p,q⟩
  ·exact q.elim
  ·rcases List.mem_cons.1 q with z | z
   ·injection z with z1 z2
    right
    rw [World.size_alloc]
    omega
   ·exact .inl (.inr ⟨p,z⟩)
 ·rcases List.mem_cons.1 hm with z | z
  ·injection z with z1 z2
   subst z1 z2
   exact World.alloc_heap_new W p
  ·have:=h.at' b p z
   exact (Below.heap_alloc W o b (Array.getElem?_eq_some_iff.1 this).1).trans this
theorem Pv.start {J : Nat → World → Bs → Prop} (hJ : Abid J) {c : Nat} {W : World} (h : J c W (fun _ => False)) : Pv J [] c 0 W (fun _ => False):=⟨hJ.less h (fun b hb => hb.elim id (fun ⟨o,q⟩ => by simp at q)),fun b o q => by simp at q,fun b o q => by simp at q⟩
theorem Pv.done {J : Nat → World → Bs → Prop} (hJ : Abid J) {L : List (Nat × Obj)} {c k D : Nat} {W : World} (h : Pv J L c k W (fun b => b = D)) {o : Obj} (hD : W.heap[D]? = some o) : Pv J ((D,o) :: L) (c + k) 0 W (fun _ => False):=by
 refine ⟨hJ.less h.j (fun b hb => ?_),fun b p hm => ?_,fun _ _ _ q => q⟩
 ·rcases hb with q | ⟨p,q⟩
  ·exact q.elim
  ·rcases List.mem_cons.1 q with z | z
   ·injection z with z1 z2
    exact .inl z1
   ·exact .inr ⟨p,z⟩
 ·rcases List.mem_cons.1 hm with z | z
  ·injection z with z1 z2
   subst z1 z2
   exact hD
  ·exact h.at' b p z
theorem Pv.round {J : Nat → World → Bs → Prop} {L : List (Nat × Obj)} {c k : Nat} {W W' : World} {X : Bs} (h : Pv J L c k W X) (hj : J (c + k + 1) W' (fun b => X b ∨ ∃ o,(b,o) ∈ L)) (hs : Stay (fun b => X b ∨ ∃ o,(b,o) ∈ L) W W') : Pv J L c (k + 1) W' X ∧ Stay X W W' :=
 ⟨⟨hj,fun b o hm => by
  have:=h.at' b o hm
  rw [hs b (.inr ⟨o,hm⟩) (Array.getElem?_eq_some_iff.1 this).1]
  exact this,h.nx⟩,fun b hb hl => hs b (.inl hb) hl⟩
end
end Go.Proofs.YtdfjlmfnkhhnjaaGreatDoor
