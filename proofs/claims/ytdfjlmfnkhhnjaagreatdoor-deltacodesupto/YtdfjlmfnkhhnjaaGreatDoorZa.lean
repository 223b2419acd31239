import Derived.Test.YtdfjlmfnkhhnjaaGreatDoorGv
import Derived.RangeFuncNested
import Derived.RangeFuncBound
import Derived.RangeFuncCalls
import Derived.RangeFuncLeaves
import Derived.RangeFuncBox
import Derived.Shelf.Abstract
import Derived.Shelf.RegionOpen
import Derived.OwnWalkIn
import Derived.TacticsInMore
import Derived.LoopNIn
import Derived.LoopIn
import Derived.RegionCalls
import Derived.Laws.Cover3
set_option maxRecDepth 100000
set_option linter.unusedVariables false
set_option linter.unusedSimpArgs false
namespace Go.Proofs.YtdfjlmfnkhhnjaaGreatDoor.Stk
section
open Go.RowKit
attribute [local go_sem ↓] Go.wp_at_zero Go.wp_at_succ
attribute [local go_sem ↓] slPe
theorem lss_meas {n k : Nat} (h : k < n) : n - (k + 1) < n - k:=Nat.sub_lt_sub_left h (Nat.lt_succ_self k)
end
section
open Go.RowKit Go.Shelf
attribute [local go_sem] Oper.semAt_some
structure Xv where
 v : Vs
 a : Option Addr
 c : Nat
def At5 (w : World) (b off k : Nat) (x : Xv) : Prop:=w.cell? ⟨b,off + k * 5,none⟩ = some (str x.v.key) ∧ w.cell? ⟨b,off + k * 5 + 1,none⟩ = some (.int .i64 x.v.seq) ∧ w.cell? ⟨b,off + k * 5 + 2,none⟩ = some (.bool x.v.mkr) ∧ w.cell? ⟨b,off + k * 5 + 3,none⟩ = some (str x.v.data) ∧ w.cell? ⟨b,off + k * 5 + 4,none⟩ = some (.slice x.a x.v.l.length x.c)
def KB (n₀ Bs : Nat) (W W' : World) : Prop:=Below n₀ W W' ∧ W'.heap[Bs]? = W.heap[Bs]?
end
section
open Go.RowKit Go.Shelf
attribute [local go_sem] Oper.semAt_some
abbrev c5 (x : Xv) : Array Value:=#[str x.v.key,.int .i64 x.v.seq,.bool x.v.mkr,str x.v.data,.slice x.a x.v.l.length x.c]
end
section
open Go.RowKit
theorem step_run {ops : Array Oper} {o : Oper} {a : Act} {K : Act → World → Prop} {Q : Exit → Act → World → Prop} {E : Prop} {w w' : World} {v x' r : Value} {t1 t2 : TypeId} (hgd : o.guard = none) (s x : Operand) (ho : o.op = .call { callee := .builtin .append,args:=#[s,x],argTypes:=#[t1,t2] })
  (hs : a.eval s = v) (hx : a.eval x = x') (hr : (Builtin.append_ #[t1,t2] o.type #[v,x']).run Tryz.prog w = .ok r w')
  (h : K (a.put o.dst r) w') : if Region.wanted o (yielded ops a.tmps) = true then Oper.wp Tryz.prog o a w K Q else E:=by
 have hw : Region.wanted o (yielded ops a.tmps) = true:=by simp [Region.wanted,hgd]
 rw [if_pos hw]
 unfold Oper.wp execOp
 simp only [ho,resolve,invoke,builtin,Sem.run_bind,Sem.run_pure,Result.andThen_ok,List.map_toArray,List.map_cons,List.map_nil,hs,hx,hr]
 exact h
end
section
open Go.RowKit
attribute [local go_sem ↓] Go.wp_at_zero Go.wp_at_succ
attribute [local go_sem ↓] slPe
end
section
open Go.RowKit
attribute [local go_sem ↓] Go.wp_at_zero Go.wp_at_succ
attribute [local go_sem ↓] slPe
theorem results_ct {fn : Func} {p t : Tmp} {ty : TypeId} (h : fn.results = #[.cell p ty,.tmp t]) (tmps : Array Value) (P : Program) (w : World) :
  (results fn tmps).run P w = ((asAddr (tmps.getD p undef)).run P w).andThen fun a w₁ => ((loadVar ty a).run P w₁).andThen fun v w₂ => .ok (.tuple #[v,tmps.getD t undef]) w₂:=by
 simp only [results,h]
 simp [Sem.run_bind,Result.andThen]
end
section
open Go.RowKit
attribute [local go_sem ↓] Go.wp_at_zero Go.wp_at_succ
noncomputable def slV (v : Value) (a b c : Option Value) : Sem Value:=Instr.slice 22 v a b c
theorem slVe (v : Value) (a b c : Option Value) : Instr.slice 22 v a b c = slV v a b c:=rfl
theorem run_slV (a : Option Addr) (len cap n : Nat) (h1 : n ≤ cap) (h3 : cap ≤ 9223372036854775807) (hn : a = none → cap = 0) (w : World) : (slV (.slice a len cap) none (some (.int .i64 (n : Int))) none).run Tryz.prog w = .ok (.slice a n cap) w:=by
 unfold slV
 cases a with
 | none =>
  obtain rfl:=hn rfl
  obtain rfl : n = 0:=by omega
  simp [Instr.slice,Tryz.underlying22,go_sem]
 | some ad =>
  simp [Instr.slice,Tryz.underlying22,go_sem]
  intro hc
  omega
theorem run_slV_lo (a : Option Addr) (len cap n : Nat) (h1 : n ≤ len) (h2 : len ≤ cap) (h3 : cap ≤ 9223372036854775807) (hn : a = none → cap = 0) (w : World) : (slV (.slice a len cap) (some (.int .i64 (n : Int))) none none).run Tryz.prog w = .ok (.slice (dropV a cap n) (len - n) (cap - n)) w:=by
 unfold slV
 cases a with
 | none =>
  obtain rfl:=hn rfl
  obtain rfl : len = 0:=by omega
  obtain rfl : n = 0:=by omega
  simp [Instr.slice,Tryz.underlying22,go_sem,dropV]
 | some ad =>
  obtain ⟨i0,hi0,hz0,hz1,hz2⟩:=infoV
  have c : ¬ ((len : Int) < (n : Int)):=by omega
  have c2 : ¬ ((cap : Int) < (len : Int)):=by omega
  by_cases h : cap - n = 0
  ·have : cap = n:=by omega
   subst this
   have : len = cap:=by omega
   subst this
   simp [Instr.slice,Tryz.underlying22,go_sem,dropV,c,c2,hi0,hz1,sizeOf,typeInfo]
  ·have h' : cap ≠ n:=by omega
   simp [Instr.slice,Tryz.underlying22,go_sem,dropV,h,h',h1,c,c2,hi0,hz1,sizeOf,typeInfo]
attribute [local go_sem ↓] slVe
end
section
open Go.RowKit
attribute [local go_sem ↓] Go.wp_at_zero Go.wp_at_succ
attribute [local go_sem ↓] slPe
end
section
open Go.RowKit
attribute [local go_sem ↓] Go.wp_at_zero Go.wp_at_succ
attribute [local go_sem ↓] slPe
abbrev bv (next : Int) (a : Option Addr) (n cap : Nat) : Value := .agg #[.int .i64 next,.slice a n cap]
def Bq (w : World) (g : Nat) (x y : Value) : Prop:=w.heap[g]? = some (.cells #[x,y] 24 (0,0))
theorem Bq.lt {w : World} {g : Nat} {x y : Value} (h : Bq w g x y) : g < w.heap.size:=(Array.getElem?_eq_some_iff.1 h).1
theorem Bq.cells {w : World} {g : Nat} {x y : Value} (h : Bq w g x y) : w.cell? ⟨g,0,none⟩ = some x ∧ w.cell? ⟨g,1,none⟩ = some y ∧ ∀ j,w.frozen? ⟨g,j,none⟩ = false:=by
 refine ⟨by rw [cell_of_row _ _ _ _ _ _ h]; rfl,by rw [cell_of_row _ _ _ _ _ _ h]; rfl,fun j => ?_⟩
 exact frozen_of_row _ _ _ _ _ h
theorem Bq.later {w w' : World} {g : Nat} {x y : Value} (h : Bq w g x y) (hb : Below w.heap.size w w') : Bq w' g x y:=by
 have:=hb.block g h.lt
 unfold Bq at h ⊢
 rw [this]; exact h
theorem Bq.new (w : World) (x y : Value) : Bq (w.alloc (.cells #[x,y] 24)) w.heap.size x y:=heap_alloc_new _ _
set_option maxHeartbeats 2000000 in
theorem qOwn_any (v : Vs) (w : World) (a : Option Addr) (n cap : Nat) (hn : v.l.length = n) (hS : Sl w a cap v.l) (hl : v.l.length ≤ 4398046510976) :
  Calls Tryz.prog 37 #[vv v.key v.seq v.mkr v.data a n cap] w fun e w' => ∃ ad c,e = .returned (vv v.key v.seq v.mkr v.data ad v.l.length c) ∧ Ow w.heap.size w' (.slice ad v.l.length c) v.l ∧ Below w.heap.size w w':=by
 obtain ⟨key,seq,mkr,data,l⟩:=v
 simp only at hn hS hl ⊢
 subst hn
 have b1:=(Below.refl w.heap.size w).alloc (Nat.le_refl _) (.cells #[str key,.int .i64 seq,.bool mkr,str data,.slice a l.length cap] 62)
 have b2:=b1.alloc b1.size (.cells #[.string ⟨#[]⟩,.int .i64 0,.bool false,.string ⟨#[]⟩,.slice none 0 0] 62)
 have b2e:=b2.alloc b2.size (.cells #[] 49)
 have HX : Hid (∀ w1,Below (w.heap.size + 2) ((w.alloc (.cells #[str key,.int .i64 seq,.bool mkr,str data,.slice a l.length cap] 62)).alloc (.cells #[.string ⟨#[]⟩,.int .i64 0,.bool false,.string ⟨#[]⟩,.slice none 0 0] 62)) w1 → Bv w1 w.heap.size (str key) (.int .i64 seq) (.bool mkr) (str data) (.slice a l.length cap) ∧ Bv w1 (w.heap.size + 1) (.string ⟨#[]⟩) (.int .i64 0) (.bool false) (.string ⟨#[]⟩) (.slice none 0 0)):=⟨fun w1 h => by
  refine ⟨?_,?_⟩
  ·unfold Bv; rw [h.block _ (by omega),heap_alloc_old _ _ (by simp)]; exact heap_alloc_new _ _
  ·unfold Bv; rw [h.block _ (by omega)]
   have:=heap_alloc_new (w.alloc (.cells #[str key,.int .i64 seq,.bool mkr,str data,.slice a l.length cap] 62)) (.cells #[.string ⟨#[]⟩,.int .i64 0,.bool false,.string ⟨#[]⟩,.slice none 0 0] 62)
   rw [World.size_alloc] at this
   exact this⟩
 have s2:=hS.later b2
 obtain ⟨u0,u1,u2,u3,u4,_⟩:=(HX.out _ ((Below.refl (w.heap.size + 2) _).alloc (by simp) (.cells #[] 49))).1.cells
 go_enter Tryz.func37,Tryz.ntmps37
 go_wp2_with (refine app_sliceB rfl _ _ rfl l (Ow.nil _ (w.heap.size + 2) (by simp)) s2 rfl (by simp; omega) rfl rfl ?_; intro v3 w3 o3 b3; rw [List.nil_append] at o3; obtain ⟨a5,c5,rfl,s3⟩:=o3.sl; obtain ⟨z3,r3⟩:=HX.out w3 (b3); obtain ⟨x0,x1,x2,x3,x4,xf⟩:=z3.cells; have f4:=xf 4; have z6:=z3.set4 (.slice a5 l.length c5); have r6:=r3.other (g2:=w.heap.size) (j:=4) (by omega) (.slice a5 l.length c5); obtain ⟨p0,p1,p2,p3,p4,_⟩:=z6.cells; obtain ⟨q0,q1,q2,q3,q4,qf⟩:=r6.cells; have qf0:=qf 0; have qf1:=qf 1; have qf2:=qf 2; have qf3:=qf 3; have qf4:=qf 4; clear xf qf)
 rw [s5_eq]
 have hno : (Value.slice a5 l.length c5).ownBlock ≠ some w.heap.size:=fun q => by
  have:=(o3.own.lt _ q).1
  omega
 have hno2 : (Value.slice a5 l.length c5).ownBlock ≠ some (w.heap.size + 1):=fun q => by
  have:=(o3.own.lt _ q).1
  omega
 have o6:=(o3.base (b':=w.heap.size) (by omega)).other (g:=w.heap.size) (j:=4) hno (.slice a5 l.length c5)
 have B6:=(b2.trans (b3.mono (by omega))).setCell (p:=⟨w.heap.size,4,none⟩) (Nat.le_refl _) (.slice a5 l.length c5)
 have z7:=r6.s5 (str key) (.int .i64 seq) (.bool mkr) (str data) (.slice a5 l.length c5)
 have o7:=o6.s5 hno2 (str key) (.int .i64 seq) (.bool mkr) (str data) (.slice a5 l.length c5)
 have B7:=Below.s5 B6 (R:=w.heap.size + 1) (by omega) (str key) (.int .i64 seq) (.bool mkr) (str data) (.slice a5 l.length c5)
 generalize s5 (w3.setCell ⟨w.heap.size,4,none⟩ (.slice a5 l.length c5)) (w.heap.size + 1) (str key) (.int .i64 seq) (.bool mkr) (str data) (.slice a5 l.length c5) = W7 at *
 obtain ⟨g0,g1,g2,g3,g4,_⟩:=z7.cells
 refine bodyPost_ret (v:=vv key seq mkr data a5 l.length c5) ?_ rfl ⟨a5,c5,rfl,o7,B7⟩
 rw [results_cell1 rfl]
 go_simp
theorem Cp.low {base : Nat} {w : World} {v : Value} {L : List Vs} (h : Cp base w v L) {g j : Nat} (hg : g < base) (c : Value) : Cp base (w.setCell ⟨g,j,none⟩ c) v L:=by
 obtain ⟨R,h1,h2,h3⟩:=h
 exact ⟨R,h1.other (fun q => by have:=(h1.own.lt _ q).1; omega) (fun k r hr q => by have:=((h1.met k r hr).own.lt _ q).1; omega) c,h2,h3⟩
theorem Bq.set0 {w : World} {g : Nat} {x y : Value} (h : Bq w g x y) (c : Value) : Bq (w.setCell ⟨g,0,none⟩ c) g c y:=by
 unfold Bq
 rw [heap_setCell_same _ _ _ _ _ _ h]; rfl
theorem Bq.set1 {w : World} {g : Nat} {x y : Value} (h : Bq w g x y) (c : Value) : Bq (w.setCell ⟨g,1,none⟩ c) g x c:=by
 unfold Bq
 rw [heap_setCell_same _ _ _ _ _ _ h]; rfl
theorem Bq.low {B : Nat} {w w' : World} {g : Nat} {x y : Value} (h : Bq w g x y) (hg : g < B) (hb : Below B w w') : Bq w' g x y:=by
 have:=hb.block g hg
 unfold Bq at h ⊢
 rw [this]; exact h
theorem two_boxes (w : World) (x y : Value) : ∀ w',Below (w.heap.size + 2) ((w.alloc (.cells #[x,y] 24)).alloc (.cells #[.int .i64 0,.slice none 0 0] 24)) w' → Bq w' w.heap.size x y ∧ Bq w' (w.heap.size + 1) (.int .i64 0) (.slice none 0 0):=fun w' h => by
 refine ⟨?_,?_⟩
 ·refine Bq.low (w:=(w.alloc (.cells #[x,y] 24)).alloc (.cells #[.int .i64 0,.slice none 0 0] 24)) ?_ (by omega) h
  unfold Bq; rw [heap_alloc_old _ _ (by simp)]; exact heap_alloc_new _ _
 ·refine Bq.low (w:=(w.alloc (.cells #[x,y] 24)).alloc (.cells #[.int .i64 0,.slice none 0 0] 24)) ?_ (by omega) h
  have:=heap_alloc_new (w.alloc (.cells #[x,y] 24)) (.cells #[.int .i64 0,.slice none 0 0] 24)
  rw [World.size_alloc] at this
  exact this
set_option maxHeartbeats 2000000 in
theorem qCopy_any (L : List Vs) (next : Int) (w : World) (a : Option Addr) (n cap : Nat) (hn : L.length = n) (hS : Ls w a cap L) (hL : L.length ≤ 1954687338240) (hz : ∀ v ∈ L,v.l.length ≤ 4398046510976) :
  Calls Tryz.prog 16 #[bv next a n cap] w fun e w' => ∃ v,e = .returned (.agg #[.int .i64 next,v]) ∧ Cp w.heap.size w' v L ∧ Below w.heap.size w w':=by
 subst hn
 have b0:=(Below.refl w.heap.size w).alloc (Nat.le_refl _) (.cells #[.int .i64 next,.slice a L.length cap] 24)
 have b1:=b0.alloc b0.size (.cells #[.int .i64 0,.slice none 0 0] 24)
 have HB:=Hid.mk (two_boxes w (.int .i64 next) (.slice a L.length cap))
 go_enter Tryz.func16,Tryz.ntmps16
 go_wp2_with fail
 have hs2 : ((w.alloc (.cells #[.int .i64 next,.slice a L.length cap] 24)).alloc (.cells #[.int .i64 0,.slice none 0 0] 24)).heap.size = w.heap.size + 2:=by simp
 generalize (w.alloc (.cells #[.int .i64 next,.slice a L.length cap] 24)).alloc (.cells #[.int .i64 0,.slice none 0 0] 24) = W2 at *
 have C0:=Cp.nil W2 (w.heap.size + 2) (by omega)
 go_loopw [3,4] (fun o i wr => ∃ k : Nat,k ≤ L.length ∧ i = .int .i64 (k : Int) ∧ Hid (Cp (w.heap.size + 2) wr o (L.take k)) ∧ Hid (Below (w.heap.size + 2) W2 wr)) (fun o i _ => L.length - (intOf i).toNat)
 case atStart => exact ⟨0,by omega,rfl,⟨by simpa using C0⟩,⟨Below.refl _ _⟩⟩
 case round =>
  clear C0
  obtain ⟨k,hk,rfl,hO,hb⟩:=hrel
  have hbw : Below w.heap.size w wr:=b1.trans (hb.out.mono (by omega))
  obtain ⟨x0,y0⟩:=HB.out wr hb.out
  obtain ⟨x1,x2,_⟩:=x0.cells
  by_cases hlt : k < L.length
  ·have d1 : decide ((k : Int) < (L.length : Int)) = true:=decide_eq_true (by omega)
   have k2 : (k : Int) < (L.length : Int):=by omega
   obtain ⟨u,hu⟩ : ∃ u,L[k]? = some u:=⟨L[k],List.getElem?_eq_getElem hlt⟩
   obtain ⟨b,off,ma,mc,rfl,hbl,c0,c1,c2,c3,c4,hsl⟩:=(hS.at'.later hbw).get k u hu
   have hzu:=hz u (List.mem_of_getElem? hu)
   have hc:=fun w a cap h => qOwn_any u w a u.l.length cap rfl h hzu
   have hT:=Hid.mk (takeV hu)
   have hlk : Hid ((L.take k).length ≤ 1954687338260):=⟨by rw [List.length_take]; omega⟩
   have hw1 : wrap64 ((k : Int) + 1) = ((k + 1 : Nat) : Int):=by unfold wrap64; omega
   have hO1:=hO.out
   have hcc:=hc _ _ _ hsl
   clear hu hS hL hz x0 y0 HB b0 b1 hbw hs2 hc
   go_wp2_with (first
    | (go_at_call 37; refine hcc.mono ?_; rintro e w1 ⟨ad,c,rfl,ow,b1⟩)
    | (refine app_cp rfl _ _ rfl u rfl rfl hO1 b1 ow rfl hlk.out rfl rfl ?_; intro v2 w2 o2 b2))
   exact ⟨⟨k + 1,by omega,by go_num,⟨by rw [hT.out]; exact o2⟩,⟨hb.out.trans b2⟩⟩,by rw [hw1]; exact Nat.sub_lt_sub_left hlt (Nat.lt_succ_self k)⟩
  ·obtain rfl : k = L.length:=by omega
   have d1 : decide ((L.length : Int) < (L.length : Int)) = false:=decide_eq_false (by omega)
   have hO1:=hO.out
   rw [List.take_length] at hO1
   obtain ⟨oa,oc,rfl,oS⟩:=hO1.ls
   obtain ⟨y1,y2,yf⟩:=y0.cells
   have f0:=yf 0
   have f1:=yf 1
   have z1:=(y0.set0 (.int .i64 next)).set1 (.slice oa L.length oc)
   have o1:=(hO1.low (g:=w.heap.size + 1) (j:=0) (by omega) (.int .i64 next)).low (g:=w.heap.size + 1) (j:=1) (by omega) (.slice oa L.length oc)
   have B1:=(hbw.setCell (p:=⟨w.heap.size + 1,0,none⟩) (Nat.le_succ _) (.int .i64 next)).setCell (p:=⟨w.heap.size + 1,1,none⟩) (Nat.le_succ _) (.slice oa L.length oc)
   clear hS hL hz x0 y0 HB b0 b1 hbw hs2 hO hO1 yf oS hb
   go_wp2_with fail
   generalize (wr.setCell ⟨w.heap.size + 1,0,none⟩ (.int .i64 next)).setCell ⟨w.heap.size + 1,1,none⟩ (.slice oa L.length oc) = W3 at *
   obtain ⟨g0,g1,_⟩:=z1.cells
   refine bodyPost_ret (v := .agg #[.int .i64 next,.slice oa L.length oc]) ?_ rfl ⟨_,rfl,o1.base (by omega),B1⟩
   rw [results_cell1 rfl]
   go_simp
end
end Go.Proofs.YtdfjlmfnkhhnjaaGreatDoor.Stk
