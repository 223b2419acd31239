import Derived.Test.YtdfjlmfnkhhnjaaGreatDoorGz
import Derived.Test.YtdfjlmfnkhhnjaaGreatDoorQi
import Derived.Test.YtdfjlmfnkhhnjaaGreatDoorHr
set_option maxRecDepth 100000
set_option linter.unusedVariables false
set_option linter.unusedSimpArgs false
namespace Go.Proofs.YtdfjlmfnkhhnjaaGreatDoorH
section
open Go.RowKit
attribute [local go_sem ↓] Go.wp_at_zero Go.wp_at_succ
theorem refSum3 (a b : Hs) (w : World) : Calls Tryz.prog 130 #[.string ((⟨#[1]⟩ : ByteArray) ++ ⟨(hl a).toArray⟩ ++ ⟨(hl b).toArray⟩)] w fun e w' => e = .returned (.agg (hv (node a b)).toArray) ∧ Below w.heap.size w w':=by
 have e1 : ((⟨#[1]⟩ : ByteArray) ++ ⟨(hl a).toArray⟩ ++ ⟨(hl b).toArray⟩) = ⟨(1 :: (hl a ++ hl b)).toArray⟩:=by
  have a1 : (⟨#[1]⟩ : ByteArray) = ⟨([1] : List UInt8).toArray⟩:=rfl
  rw [a1,ByteArray.mk_append_mk,ByteArray.mk_append_mk]
  rfl
 rw [e1]
 have h0:=refSum_hv ⟨(1 :: (hl a ++ hl b)).toArray⟩ w (by show (1 :: (hl a ++ hl b)).toArray.size ≤ _; rw [List.size_toArray]; simp [hl_length])
 rw [node_eq]
 exact h0
theorem refSum2 (w : World) : Calls Tryz.prog 130 #[.string ⟨#[2]⟩] w fun e w' => e = .returned (.agg (hv none0).toArray) ∧ Below w.heap.size w w':=by
 rw [none0_eq]; exact refSum_hv ⟨#[2]⟩ w (by decide)
theorem st23 (p v : Value) : Instr.storeAt 44 p v = stS 44 p v:=rfl
attribute [local go_sem ↓] ld23 st23
set_option maxHeartbeats 400000 in
theorem refNode_hv (a b : Hs) (w : World) (hK : KIn w) :
  Calls Tryz.prog 206 #[.agg (hv a).toArray,.agg (hv b).toArray] w fun e w' => e = .returned (.agg (hv (node a b)).toArray) ∧ Below w.heap.size w w':=by
 go_enter Tryz.func206,Tryz.ntmps206
 go_wp2_with fail
 obtain ⟨W,hW,S0⟩ : ∃ W,W = ((w.alloc (.cells (hv a).toArray 44)).alloc (.cells (hv b).toArray 44)).alloc (.cells zero32 44) ∧ NS w w.heap.size a b W:=⟨_,rfl,NS.start w a b hK (by simp)⟩
 rw [← hW]
 clear hW
 have hB0:=hK.lt
 generalize hB : w.heap.size = B at *
 have hLa : (hl a).length = 32:=hl_length a
 have hLb : (hl b).length = 32:=hl_length b
 have s1 : ¬ 9223372036854775807 < (⟨#[1]⟩ : ByteArray).size + (⟨(hl a).toArray⟩ : ByteArray).size:=by show ¬ _ < 1 + (hl a).toArray.size; rw [List.size_toArray,hLa]; omega
 have s2 : ¬ 9223372036854775807 < ((⟨#[1]⟩ : ByteArray) ++ ⟨(hl a).toArray⟩).size + (⟨(hl b).toArray⟩ : ByteArray).size:=by rw [ByteArray.size_append]; show ¬ _ < 1 + (hl a).toArray.size + (hl b).toArray.size; rw [List.size_toArray,List.size_toArray,hLa,hLb]; omega
 have s3 : ¬ 9223372036854775807 < 1 + 32:=by omega
 have s4 : ¬ 9223372036854775807 < 1 + 32 + 32:=by omega
 have o1:=hv_one (node a b)
 have o2:=infoH (node a b)
 go_region_held3 (fun w' => NS w B a b w' ∧ (convert 47 9 (.slice (some ⟨B,0,none⟩) 32 32)).run Tryz.prog w' = .ok (.string ⟨(hl a).toArray⟩) w' ∧ (convert 47 9 (.slice (some ⟨B + 1,0,none⟩) 32 32)).run Tryz.prog w' = .ok (.string ⟨(hl b).toArray⟩) w' ∧ w'.there (B + 1 + 1) 0 (hv (node a b)).length)
  (first | exact S0.drew.facts | exact S0.facts | exact (NS.next (And.left (by assumption)) bq).facts | exact (NS.set _ (And.left (by assumption)) hB0).facts) ((go_at_call 130; refine (refSum3 a b _).mono ?_; rintro e w' ⟨rfl,bq⟩))
 have N1:=S0.drew.next bq
 have R0 : (w'.setCells (B + 1 + 1) 0 (hv (node a b))).rangeAt (B + 1 + 1) 0 (hv (node a b)):=World.rangeAt_setCells_same _ _ _ _ (by rw [hv_length]; exact N1.hc)
 have L0:=(NS.set (hv (node a b)) N1 hB0).bel
 go_wp2
 exact bodyPost_ret (v := .agg (hv (node a b)).toArray) (results_mid Tryz.results206 _ _ (B + 1 + 1) (node a b) rfl R0) rfl ⟨rfl,by subst hB; exact L0⟩
end
section
open Go.RowKit
attribute [local go_sem ↓] Go.wp_at_zero Go.wp_at_succ
def rowL (m : Nat) (F : Nat → Hs) : List Hs:=(List.range m).map F
theorem rowL_length (m : Nat) (F : Nat → Hs) : (rowL m F).length = m:=by simp [rowL]
theorem rowL_succ (m : Nat) (F : Nat → Hs) : rowL (m + 1) F = rowL m F ++ [F m]:=by simp [rowL,List.range_succ]
theorem rowL_get (m : Nat) (F : Nat → Hs) (k : Nat) (h : k < m) : (rowL m F)[k]? = some (F k):=by simp [rowL,h]
theorem own_hrow {w : World} {base m : Nat} {v : Value} {F : Nat → Hs} (h : w.ownsRow base 44 32 v m (flatL (rowL m F))) (h0 : 0 < m) : ∃ g c,v = .slice (some ⟨g,0,none⟩) m c ∧ base ≤ g ∧ g < w.heap.size ∧ HRow w g 0 m F:=by
 rcases h.2 with ⟨_,h2⟩ | ⟨g,cap,cur,h1,h2,h3,h4,h5,h6,h7⟩
 ·omega
 ·refine ⟨g,cap,h1,h2,lt_of_row h3,fun k hk => ?_⟩
  have h' : w.ownsRow base 44 32 v (rowL m F).length (flatL (rowL m F)):=by rw [rowL_length]; exact h
  obtain ⟨g',c',e,_,hr⟩:=own_range h' (rowL_get m F k hk)
  rw [h1] at e
  injection e with e1
  injection e1 with e1
  injection e1 with e1
  subst e1
  rw [Nat.zero_add]; exact hr
attribute [local go_sem ↓] ld23 st23 bs25
attribute [local go_sem] run_bs
set_option maxHeartbeats 400000 in
theorem refAbove_any (b off n cap : Nat) (f : Nat → Hs) (w : World) (hK : KIn w) (hr : HRow w b off n f) (hn : n ≤ 2097152) :
  Calls Tryz.prog 167 #[.slice (some ⟨b,off,none⟩) n cap] w fun e w' => ∃ v,e = .returned v ∧ w'.ownsRow w.heap.size 44 32 v (Tree.upLen n) (flatL (rowL (Tree.upLen n) (Tree.up node n f))) ∧ Below w.heap.size w w':=by
 obtain ⟨ti,z,e1,e2,e3,e4,e5⟩:=info23x
 have hB0:=hK.lt
 obtain ⟨F,hF⟩ : ∃ F,F = Tree.up node n f:=⟨_,rfl⟩
 have HF : Hid (F = Tree.up node n f):=hF
 rw [← hF]
 clear hF
 go_enter Tryz.func167,Tryz.ntmps167
 go_wp2_with fail
 generalize hB : w.heap.size = B at *
 go_loopw [3,4] (fun v i wr => ∃ k : Nat,k ≤ Tree.upLen n ∧ i = .int .i64 ((2 * k : Nat) : Int) ∧ Below B w wr ∧ wr.ownsRow B 44 32 v k (flatL (rowL k F))) (fun _ i _ => n + 1 - (intOf i).toNat)
 case atStart => exact ⟨0,by omega,rfl,Below.refl _ _,World.ownsRow_nil _ _ _ _⟩
 case round =>
  obtain ⟨k,hk,rfl,bel,own⟩:=hrel
  obtain ⟨p,hp⟩ : ∃ p,p = 2 * k:=⟨_,rfl⟩
  rw [← hp]
  obtain ⟨q,hq⟩ : ∃ q,q = p + 1:=⟨_,rfl⟩
  obtain ⟨p2,hp2⟩ : ∃ q,q = p + 2:=⟨_,rfl⟩
  have hku : p < n ↔ k < Tree.upLen n:=by unfold Tree.upLen; omega
  have hkl : k ≤ 1048576:=by unfold Tree.upLen at hk; omega
  have eq : (p : Int) + 1 = (q : Int):=by omega
  have ep2 : (p : Int) + 2 = (p2 : Int):=by omega
  have i0 : (0 : Int) ≤ (p : Int):=by omega
  have i2 : (0 : Int) ≤ (q : Int):=by omega
  have Hp : Hid ((p = 2 * k ∧ q = 2 * k + 1) ∧ p2 = 2 * (k + 1)):=⟨⟨hp,by omega⟩,by omega⟩
  have hple : p ≤ 2097154:=by omega
  have hbs:=bel.size
  clear hp hq hp2
  have ewq : IntKind.i64.wrap (q : Int) = (q : Int):=by rw [IntKind.wrap_i64]; have:=Hp.out; omega
  have ewp : IntKind.i64.wrap (p2 : Int) = (p2 : Int):=by rw [IntKind.wrap_i64]; have:=Hp.out; omega
  by_cases hlt : p < n
  ·have hd : decide ((p : Int) < (n : Int)) = true:=by simp; omega
   have i1 : (p : Int) < (n : Int):=by omega
   have kr : KIn wr:=hK.below bel hB0
   have r1:=hr.at hlt bel hB
   by_cases hs : q < n
   ·have hd2 : decide ((q : Int) < (n : Int)) = true:=by simp; omega
    have i3 : (q : Int) < (n : Int):=by omega
    have r2:=hr.at hs bel hB
    have hl1:=load23 (w:=wr.drew) (World.rangeAt_drew _ _ _ _ |>.2 r1)
    have hl2:=load23 (w:=wr.drew) (World.rangeAt_drew _ _ _ _ |>.2 r2)
    have hFk : F k = node (f p) (f q):=by rw [HF.out]; exact up_in n f k p q Hp.out.1 hs
    have HFk : Hid (F k = node (f p) (f q)):=hFk
    clear hFk
    go_wp2_with fail
    go_region_law (first
     | (go_simp; go_at_call 206; refine (refNode_hv (f p) (f q) _ (kr.seq ((Below.refl _ _).drew))).mono ?_; rintro e w2 ⟨rfl,bq⟩; have own2:=own_next own.drew bq; have hbs2:=bq.size)
     | (refine step_append_lies _ (by rfl) _ _ 165 (by rfl) B 44 ti z 32 32 Tryz.underlying165 e1 e2 e3 e4 e5 (by omega) u3 k (flatL (rowL k F)) (by rfl) (own2.alloc _) _ 1 1 (hv (node (f p) (f q))) (by rfl) (hv_length _) (news_alloc w2 _ _) (hv_one _) (by omega) (by unfold maxLen; omega) (by omega) (by simp at hbs2 ⊢; omega) _ rfl ?_; intro g3 c3 w3 own3 grow3 at3 lt3))
    all_goals (go_wp2_with fail; go_round)
    all_goals first
     | (show n + 1 - ((p2 : Int)).toNat < n + 1 - ((p : Int)).toNat; have:=Hp.out; omega)
     | (have bw : Below B w w3:=(((bel.drew).trans (bq.mono (by simp; omega))).alloc (by simp at hbs2; omega) _).grown grow3 (by simp at hbs2 ⊢; omega) (fun k hk => (own.lt k hk).1); refine ⟨k + 1,by have:=hku.1 hlt; omega,by rw [Hp.out.2],bw,?_⟩; rw [rowL_succ,flatL_snoc,HFk.out]; exact own3)
   ·have hd2 : decide ((q : Int) < (n : Int)) = false:=by simp; omega
    have hl1:=load23 r1
    have hFk : F k = f p:=by rw [HF.out]; exact up_last n f k p Hp.out.1.1 (by have:=Hp.out; omega)
    have HFk : Hid (F k = f p):=hFk
    clear hFk
    go_wp2_with (refine wpList_append_lies _ rfl _ _ 165 rfl B 44 ti z 32 32 Tryz.underlying165 e1 e2 e3 e4 e5 (by omega) u3 k (flatL (rowL k F)) rfl (own.alloc _) _ 1 1 (hv (f p)) rfl (hv_length _) (news_alloc _ _ _) (hv_one _) (by omega) (by unfold maxLen; omega) (by omega) (by simp; omega) _ rfl ?_; intro g3 c3 w3 own3 grow3 at3 lt3)
    go_round
    case rel =>
     have bw : Below B w w3:=(bel.alloc (by omega) _).grown grow3 (by simp; omega) (fun k hk => (own.lt k hk).1)
     refine ⟨k + 1,by have:=hku.1 hlt; omega,by rw [Hp.out.2],bw,?_⟩
     rw [rowL_succ,flatL_snoc,HFk.out]
     exact own3
    case measure => show n + 1 - ((p2 : Int)).toNat < n + 1 - ((p : Int)).toNat; have:=Hp.out; omega
  ·have hd : decide ((p : Int) < (n : Int)) = false:=by simp; omega
   have ek : k = Tree.upLen n:=by have : ¬ k < Tree.upLen n:=fun h => hlt (hku.2 h); omega
   go_wp2_with fail
   go_ret
   subst hB
   exact ⟨_,rfl,by rw [← ek]; exact own,bel⟩
end
section
open Go.RowKit
attribute [local go_sem ↓] Go.wp_at_zero Go.wp_at_succ
noncomputable def lvl (n : Nat) (f : Nat → Hs) : Nat → Nat × (Nat → Hs)
 | 0 => (n,f)
 | k + 1 => (Tree.upLen (lvl n f k).1,Tree.up node (lvl n f k).1 (lvl n f k).2)
def RowsIn (w : World) (row : Option Nat) (vs : List Value) (n : Nat) (f : Nat → Hs) : Prop := ∀ k v,vs[k]? = some v → ∃ g c,v = .slice (some ⟨g,0,none⟩) (lvl n f k).1 c ∧ HRow w g 0 (lvl n f k).1 (lvl n f k).2 ∧ row ≠ some g ∧ 0 < (lvl n f k).1
theorem info25x : ∃ (i : TypeInfo) (z : Value),Tryz.prog.info? 165 = some i ∧ i.zero = some z ∧ i.size = 1 ∧ i.bytes = 24 ∧ z.cells.size = 1:=by
 have h : ((Tryz.prog.info? 165).map fun i => (i.size,i.bytes,i.zero.map fun z => z.cells.size)) = some (1,24,some 1):=by kernel_rfl
 cases hi : Tryz.prog.info? 165 with
 | none => rw [hi] at h; cases h
 | some i =>
  rw [hi] at h
  simp only [Option.map_some,Option.some.injEq,Prod.mk.injEq] at h
  cases hz : i.zero with
  | none => rw [hz] at h; exact absurd h.2.2 (by simp)
  | some z =>
   rw [hz] at h
   exact ⟨i,z,rfl,hz,h.1,h.2.1,by simpa using h.2.2⟩
attribute [local go_sem ↓] ld23 st23 bs25
attribute [local go_sem] run_bs
set_option maxHeartbeats 400000 in
theorem refRows_any (b off n cap : Nat) (t : Nat → ByteArray) (w : World) (hK : KIn w) (hT : TextsAt w b off n t) (hz : ∀ k,k < n → (t k).size ≤ 2097152) (hn : n ≤ 2097152) (h0 : 0 < n) :
  Calls Tryz.prog 131 #[.slice (some ⟨b,off,none⟩) n cap] w fun e w' => ∃ v vs,e = .returned v ∧ w'.ownsRow w.heap.size 165 1 v vs.length vs ∧ RowsIn w' v.ownBlock vs n (leaves t) ∧ 0 < vs.length ∧ (lvl n (leaves t) (vs.length - 1)).1 ≤ 1 ∧ (∀ k,k + 1 < vs.length → 1 < (lvl n (leaves t) k).1) ∧ Below w.heap.size w w':=by
 obtain ⟨ti,z,e1,e2,e3,e4,e5⟩:=info23x
 obtain ⟨ri,rz,r1,r2,r3,r4,r5⟩:=info25x
 have hB0:=hK.lt
 obtain ⟨F,hF⟩ : ∃ F,F = leaves t:=⟨_,rfl⟩
 have HF : Hid (F = leaves t):=hF
 rw [← hF]
 clear hF
 go_enter Tryz.func131,Tryz.ntmps131
 go_wp2_with fail
 generalize hB : w.heap.size = B at *
 go_loopw [3,4] (fun v i wr => ∃ k : Nat,k ≤ n ∧ i = .int .i64 (k : Int) ∧ Below B w wr ∧ wr.ownsRow B 44 32 v k (flatL (rowL k F))) (fun _ i _ => n - (intOf i).toNat)
 case atStart => exact ⟨0,by omega,rfl,Below.refl _ _,World.ownsRow_nil _ _ _ _⟩
 case round =>
  obtain ⟨k,hk,rfl,bel,own⟩:=hrel
  have hbs:=bel.size
  by_cases hlt : k < n
  ·have hd : decide ((k : Int) < (n : Int)) = true:=by simp; omega
   have i0 : (0 : Int) ≤ (k : Int):=by omega
   have i1 : (k : Int) < (n : Int):=by omega
   have c1 : wr.cell? ⟨b,off + k,none⟩ = some (.string (t k)):=by
    have hc:=hT k hlt
    rw [bel.cell (p:=⟨b,off + k,none⟩) (by rw [← hB]; exact block_lt_of_cell hc)]; exact hc
   obtain ⟨x,hx⟩ : ∃ x,x = leaf (t k).data.toList:=⟨_,rfl⟩
   have Hx : Hid (x = leaf (t k).data.toList):=hx
   have cL:=refLeaf_hv (t k) wr (hz k hlt)
   rw [← hx] at cL
   clear hx
   go_wp2_with fail
   refine cL.mono ?_
   rintro e w2 ⟨rfl,bq⟩
   have own2:=own_next own bq
   have hbs2:=bq.size
   go_wp2_with (refine wpList_append_lies _ rfl _ _ 165 rfl B 44 ti z 32 32 Tryz.underlying165 e1 e2 e3 e4 e5 (by omega) u3 k (flatL (rowL k F)) rfl (own2.alloc _) _ 1 1 (hv x) rfl (hv_length _) (news_alloc _ _ _) (hv_one _) (by omega) (by unfold maxLen; omega) (by omega) (by simp; omega) _ rfl ?_; intro g3 c3 w3 own3 grow3 at3 lt3)
   go_round
   case rel =>
    have bw : Below B w w3:=((bel.trans (bq.mono (by omega))).alloc (by omega) _).grown grow3 (by simp; omega) (fun k hk => (own.lt k hk).1)
    refine ⟨k + 1,by omega,by go_num,bw,?_⟩
    have e : F k = x:=by rw [HF.out,Hx.out]; rfl
    rw [rowL_succ,flatL_snoc,e]
    exact own3
   case measure => simp [intOf]; omega
  ·obtain rfl : k = n:=by omega
   have hd : decide ((k : Int) < (k : Int)) = false:=by simp
   obtain ⟨g,c,rfl,hg1,hg2,hrow⟩:=own_hrow own h0
   have bA : Below wr.heap.size wr (wr.alloc (.cells #[.slice (some ⟨g,0,none⟩) k c] 165)):=(Below.refl _ _).alloc (Nat.le_refl _) _
   have ownR : (wr.alloc (.cells #[.slice (some ⟨g,0,none⟩) k c] 165)).ownsRow B 165 1 (.slice (some ⟨wr.heap.size,0,none⟩) 1 1) 1 [.slice (some ⟨g,0,none⟩) k c] :=
    ⟨rfl,.inr ⟨wr.heap.size,1,_,rfl,by omega,heap_alloc_new _ _,by omega,by unfold maxLen; omega,rfl,rfl⟩⟩
   have hrow2:=hrow.next bA
   have bel2 : Below B w (wr.alloc (.cells #[.slice (some ⟨g,0,none⟩) k c] 165)):=bel.trans (bA.mono (by omega))
   go_wp2_with fail
   generalize hWW : wr.alloc (.cells #[.slice (some ⟨g,0,none⟩) k c] 165) = WW at *
   generalize wr.heap.size = D at *
   go_loopw [3,5] (fun row rv wr => ∃ (m G c : Nat) (f' : Nat → Hs) (vs : List Value),lvl k F (vs.length - 1) = (m,f') ∧ 0 < m ∧ vs.length + m ≤ k + 1 ∧ row = .slice (some ⟨G,0,none⟩) m c ∧ rv.ownBlock ≠ some G ∧ Below B w wr ∧ HRow wr G 0 m f' ∧ wr.ownsRow B 165 1 rv vs.length vs ∧ RowsIn wr rv.ownBlock vs k F ∧ 0 < vs.length ∧ ∀ j,j + 1 < vs.length → 1 < (lvl k F j).1) (fun row _ _ => sLen row)
   case atStart =>
    refine ⟨k,g,c,F,[.slice (some ⟨g,0,none⟩) k c],rfl,h0,by simp; omega,rfl,by simp [Value.ownBlock]; omega,bel2,hrow2,ownR,fun j v hj => ?_,by simp,fun j hj => by simp at hj⟩
    match j,hj with
    | 0,hj =>
     have : v = .slice (some ⟨g,0,none⟩) k c:=by simpa using hj.symm
     exact ⟨g,c,this,hrow2,by simp [Value.ownBlock]; omega,h0⟩
    | j + 1,hj => simp at hj
   case round =>
    clear ownR hrow2 bel2 bA own bel hrow
    obtain ⟨m,G,c',f',vs,elv,hm0,hml,rfl,hG,bel,hr,own,hR,hv0,hbig⟩:=hrel
    have kr : KIn wr:=hK.below bel hB0
    have hbs1:=bel.size
    by_cases h1 : 1 < m
    ·have hd : decide ((1 : Int) < (m : Int)) = true:=by simp; omega
     have hup : 0 < Tree.upLen m:=by unfold Tree.upLen; omega
     have hul : Tree.upLen m < m:=Tree.upLen_lt (by omega)
     have ellv : lvl k F vs.length = (Tree.upLen m,Tree.up node m f'):=by
      have : vs.length = (vs.length - 1) + 1:=by omega
      rw [this]; show (Tree.upLen (lvl k F (vs.length - 1)).1,Tree.up node (lvl k F (vs.length - 1)).1 (lvl k F (vs.length - 1)).2) = _
      rw [elv]
     have cA:=refAbove_any G 0 m c' f' wr kr hr (by omega)
     generalize hu : Tree.upLen m = u at *
     generalize hf2 : Tree.up node m f' = f2 at *
     go_wp2_with fail
     refine cA.mono ?_
     rintro e w2 ⟨v2,rfl,own2,bq⟩
     obtain ⟨G2,c2,rfl,hG2a,hG2b,hr2⟩:=own_hrow own2 hup
     have ownR:=own_next own bq
     have hbs2:=bq.size
     have hlt:=own.lt
     have nws : ∀ j x,([.slice (some ⟨G2,0,none⟩) u c2] : List Value)[j]? = some x → (w2.alloc (.cells #[.slice (some ⟨G2,0,none⟩) u c2] 165)).cell? ((⟨w2.heap.size,0,none⟩ : Addr).add j) = some x:=fun j x hx =>
      World.news_of_block (cs:=#[.slice (some ⟨G2,0,none⟩) u c2]) (heap_alloc_new w2 _) j x hx
     go_wp2_with (refine wpList_append_lies _ rfl _ _ 163 rfl B 165 ri rz 1 24 Tryz.underlying163 r1 r2 r3 r4 r5 (by omega) u5 vs.length vs rfl (ownR.alloc _) _ 1 1 [.slice (some ⟨G2,0,none⟩) u c2] rfl rfl nws (by simp [Value.oneCell']) (by omega) (by unfold maxLen; omega) (by omega) (by simp; omega) _ rfl ?_; intro g3 c3 w3 own3 grow3 at3 lt3)
     go_round
     case rel =>
      have bA2 : Below w2.heap.size w2 (w2.alloc (.cells #[.slice (some ⟨G2,0,none⟩) u c2] 165)):=(Below.refl _ _).alloc (Nat.le_refl _) _
      have bw : Below B w w3:=((bel.trans (bq.mono (by omega))).trans (bA2.mono (by omega))).grown grow3 (by simp; omega) (fun j hj => (hlt j hj).1)
      have keep : ∀ {g n' : Nat} {h : Nat → Hs},HRow w2 g 0 n' h → u5.ownBlock ≠ some g → HRow w3 g 0 n' h:=fun hh hne j hj => grow_range grow3 (rangeNext (hh j hj) bA2) (fun e => hne e.symm)
      have hG2n : u5.ownBlock ≠ some G2:=fun e => by have:=hlt _ e; omega
      have hr3:=keep hr2 hG2n
      have hne3 : ∀ {g : Nat},g < w2.heap.size → u5.ownBlock ≠ some g → (Value.slice (some ⟨g3,0,none⟩) (vs.length + 1) c3).ownBlock ≠ some g := @fun g hg1 hg2 e => by
       have e' : g3 = g:=by injection e
       rcases at3 with h | h
       ·exact hg2 (by rw [h,e'])
       ·rw [h] at e'; simp at e'; omega
      refine ⟨u,G2,c2,f2,vs ++ [.slice (some ⟨G2,0,none⟩) u c2],by rw [List.length_append]; exact ellv,hup,by rw [List.length_append]; simp; omega,rfl,hne3 hG2b hG2n,bw,hr3,by rw [List.length_append]; exact own3,fun j x hj => ?_,by simp,fun j hj => ?_⟩
      ·rcases Nat.lt_or_ge j vs.length with hjl | hjl
       ·rw [List.getElem?_append_left hjl] at hj
        obtain ⟨gg,cc,q1,q2,q3,q4⟩:=hR j x hj
        have q5:=q2.next bq
        exact ⟨gg,cc,q1,keep q5 q3,hne3 (q5.lt q4) q3,q4⟩
       ·rw [List.getElem?_append_right hjl] at hj
        have hj0 : j = vs.length:=by
         have:=(List.getElem?_eq_some_iff.1 hj).1; simp at this; omega
        subst hj0
        have : x = .slice (some ⟨G2,0,none⟩) u c2:=by simpa using hj.symm
        rw [ellv]
        exact ⟨G2,c2,this,hr3,hne3 hG2b hG2n,hup⟩
      ·rw [List.length_append] at hj
       rcases Nat.lt_or_ge (j + 1) vs.length with hjl | hjl
       ·exact hbig j hjl
       ·have : j = vs.length - 1:=by simp at hj; omega
        rw [this,elv]; exact h1
     case measure => simp [sLen]; omega
    ·have hd : decide ((1 : Int) < (m : Int)) = false:=by simp; omega
     go_wp2_with fail
     go_ret
     subst hB
     exact ⟨_,vs,rfl,own,hR,hv0,by rw [elv]; show m ≤ 1; omega,hbig,bel⟩
end
section
open Go.RowKit
attribute [local go_sem ↓] Go.wp_at_zero Go.wp_at_succ
theorem lvl_root (n : Nat) (f : Nat → Hs) : ∀ j,(∀ k,k < j → 1 < (lvl n f k).1) → Tree.root node n f = Tree.root node (lvl n f j).1 (lvl n f j).2
 | 0,_ => rfl
 | j + 1,h => by
  rw [lvl_root n f j (fun k hk => h k (by omega)),Tree.root_more node _ (by have:=h j (by omega); omega)]
  rfl
attribute [local go_sem ↓] ld23 st23 bs25
attribute [local go_sem] run_bs
set_option maxHeartbeats 400000 in
theorem refRoot_in {w : World} {a : Option Addr} {n : Nat} (cap : Nat) {t : Nat → ByteArray} (hK : KIn w) (hT : TextsIn w a n t) (hz : ∀ k,k < n → (t k).size ≤ 2097152) (hn : n ≤ 2097152) :
  Calls Tryz.prog 82 #[.slice a n cap] w fun e w' => e = .returned (.agg (hv (rootOf n t)).toArray) ∧ Below w.heap.size w w':=by
 have b0 : Below w.heap.size w (w.alloc (.cells zero32 44)):=(Below.refl _ _).alloc (Nat.le_refl _) _
 have t0:=there_new w 44
 rcases Nat.eq_zero_or_pos n with rfl | h0
 ·have eR : rootOf 0 t = none0:=by unfold rootOf; rw [if_pos rfl]
  rw [eR]
  clear eR
  go_enter Tryz.func82,Tryz.ntmps82
  go_wp2_with fail
  refine (refSum2 _).mono ?_
  rintro e w2 ⟨rfl,bq⟩
  have t2:=thereNext t0 bq
  have b2:=below_seq b0 bq
  go_wp2_with (refine wpList_store_mid rfl 44 _ _ rfl w.heap.size 0 _ rfl rfl (there_hv t2 _) (size_hv _) (all_oneCell_toArray (hv_one _)) ?_)
  exact bodyPost_ret (v := .agg (hv none0).toArray) (results_mid Tryz.results82 _ _ w.heap.size none0 rfl (range_new t2 _)) rfl ⟨rfl,below_setCells (Nat.le_refl _) _ _ b2⟩
 ·obtain ⟨b,off,rfl,hTA,_⟩:=hT.at h0
  have hd0 : ((n : Int) == 0) = false:=by simp; omega
  obtain ⟨R,hR⟩ : ∃ R,R = rootOf n t:=⟨_,rfl⟩
  rw [← hR]
  have HR : Hid (R = rootOf n t):=hR
  clear hR
  go_enter Tryz.func82,Tryz.ntmps82
  go_wp2_with fail
  refine (refRows_any b off n cap t _ (hK.seq b0) (hTA.next b0) hz hn h0).mono ?_
  rintro e w2 ⟨v,vs,rfl,own,hRI,hv0,hlast,hbig,bq⟩
  have t2:=thereNext t0 bq
  have b2:=below_seq b0 bq
  clear t0 b0
  obtain ⟨l1,hl1⟩ : ∃ l1,l1 = vs.length - 1:=⟨_,rfl⟩
  rw [← hl1] at hlast
  have hg : vs[l1]? = some vs[l1]:=List.getElem?_eq_getElem (by omega)
  obtain ⟨g,c,hvg,hrow,_,hpos⟩:=hRI l1 _ hg
  have elv : (lvl n (leaves t) l1).1 = 1:=by omega
  have eR : R = (lvl n (leaves t) l1).2 0:=by
   rw [HR.out]; unfold rootOf; rw [if_neg (by omega),lvl_root n (leaves t) l1 (fun k hk => hbig k (by omega)),Tree.root_one node _ hlast]
  rw [elv] at hvg hrow
  have r1 : w2.rangeAt g 0 (hv R):=by rw [eR]; have:=hrow 0 (by omega); simpa using this
  have hl23:=load23 r1
  rcases own.2 with ⟨_,h2⟩ | ⟨G,cp,cur,rfl,hG1,hG2,hG3,hG4,hG5,hG6⟩
  ·omega
  have hvl : vs.length ≤ 9223372036854775807:=by unfold maxLen at hG4; omega
  obtain ⟨vl,hvl2⟩ : ∃ vl,vl = vs.length:=⟨_,rfl⟩
  have cR : w2.cell? ⟨G,l1,none⟩ = some (.slice (some ⟨g,0,none⟩) 1 c):=by
   rw [own.cellAt l1 (by omega),hg,hvg]
  rw [← hvl2] at hv0 hvl ⊢
  have ev : (vl : Int) - 1 = (l1 : Int):=by omega
  have ew : IntKind.i64.wrap (l1 : Int) = (l1 : Int):=by rw [IntKind.wrap_i64]; omega
  have i0 : (0 : Int) ≤ (l1 : Int):=by omega
  have i1 : (l1 : Int) < (vl : Int):=by omega
  clear own hRI hlast hbig hvg hrow elv eR hl1 hvl2 hG1 hG2 hG3 hG4 hG5 hG6 hg
  go_wp2_with (refine wpList_store_mid rfl 44 _ _ rfl w.heap.size 0 _ rfl rfl (there_hv t2 _) (size_hv _) (all_oneCell_toArray (hv_one _)) ?_)
  exact bodyPost_ret (v := .agg (hv R).toArray) (results_mid Tryz.results82 _ _ w.heap.size R rfl (range_new t2 _)) rfl ⟨rfl,below_setCells (Nat.le_refl _) _ _ b2⟩
end
end Go.Proofs.YtdfjlmfnkhhnjaaGreatDoorH
