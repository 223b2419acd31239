import Derived.Test.YtdfjlmfnkhhnjaaGreatDoorGf
import Derived.Test.YtdfjlmfnkhhnjaaGreatDoorGv
import Derived.Test.YtdfjlmfnkhhnjaaGreatDoorZa
import Derived.Test.YtdfjlmfnkhhnjaaGreatDoorGe
set_option maxRecDepth 100000
set_option linter.unusedVariables false
set_option linter.unusedSimpArgs false
namespace Go.Proofs.YtdfjlmfnkhhnjaaGreatDoor.Stk
section
open Go.RowKit
attribute [local go_sem ↓] Go.wp_at_zero Go.wp_at_succ
attribute [local go_sem ↓] slPe
set_option maxHeartbeats 2000000 in
theorem rSize_any (key : List UInt8) (seq : Int) (mk : Bool) (data : List UInt8) (l : List En) (w : World) (a : Option Addr) (n cap : Nat) (hn : l.length = n) (hP : PIn w a l) (hz : l.length ≤ 9223372036854775806) :
  Calls Tryz.prog 118 #[vv key seq mk data a n cap] w fun e w' => e = .returned (.int .i64 (vsz key data l)) ∧ Below w.heap.size w w':=by
 subst hn
 have hbx : Below w.heap.size w (w.alloc (.cells #[str key,.int .i64 seq,.bool mk,str data,.slice a l.length cap] 62)):=(Below.refl _ _).alloc (Nat.le_refl _) _
 have HZ:=Hid.mk (vsz_zero key data l)
 go_enter Tryz.func118,Tryz.ntmps118
 go_wp2_with fail
 go_loopw [3,4] (fun s i wr => ∃ k : Nat,k ≤ l.length ∧ i = .int .i64 (k : Int) ∧ s = .int .i64 (vsz key data (l.take k)) ∧ Below (w.alloc (.cells #[str key,.int .i64 seq,.bool mk,str data,.slice a l.length cap] 62)).heap.size (w.alloc (.cells #[str key,.int .i64 seq,.bool mk,str data,.slice a l.length cap] 62)) wr) (fun _ i _ => l.length - (intOf i).toNat)
 case atStart => exact ⟨0,by omega,rfl,by rw [← HZ.out],Below.refl _ _⟩
 case round =>
  obtain ⟨k,hk,rfl,rfl,hb⟩:=hrel
  obtain ⟨x0,x1,x2,x3,x4⟩:=box5 hb
  have hB : Below w.heap.size w wr:=hbx.trans (hb.mono (by simp))
  by_cases hlt : k < l.length
  ·have d1 : decide ((k : Int) < (l.length : Int)) = true:=decide_eq_true (by omega)
   have k2 : (k : Int) < (l.length : Int):=by omega
   obtain ⟨p,hp⟩ : ∃ p,l[k]? = some p:=⟨l[k],List.getElem?_eq_getElem hlt⟩
   obtain ⟨b,off,rfl,hbl,c0,c1⟩:=(hP.later hB).get k p hp
   have HX:=Hid.mk (vsz_next (key:=key) (data:=data) hp).2
   generalize vsz key data (l.take k) = A at *
   have Hb:=Hid.mk hb
   clear hb
   go_wp2_with fail
   go_quiet (fail)
   go_wp2_with fail
   exact ⟨⟨k + 1,by omega,by go_num,by rw [← HX.out],below_dN Hb.out nq⟩,by simp [intOf]; omega⟩
  ·obtain rfl : k = l.length:=by omega
   have d1 : decide ((l.length : Int) < (l.length : Int)) = false:=decide_eq_false (by omega)
   rw [List.take_length]
   have Hb:=Hid.mk hb
   clear hb
   go_wp2_with fail
   go_ret
   exact ⟨rfl,hB⟩
end
section
def ltv (a b : Vs) : Prop:=lt a.key b.key ∨ a.key = b.key ∧ a.seq < b.seq
instance (a b : Vs) : Decidable (ltv a b):=by unfold ltv; infer_instance
def SrtV (L : List Vs) : Prop:=L.Pairwise ltv
instance (L : List Vs) : Decidable (SrtV L):=by unfold SrtV; infer_instance
theorem ltv_trans {a b c : Vs} (h1 : ltv a b) (h2 : ltv b c) : ltv a c:=by
 rcases h1 with h1 | ⟨e1,h1⟩ <;> rcases h2 with h2 | ⟨e2,h2⟩
 ·exact .inl (bcmp_trans h1 h2)
 ·exact .inl (by rw [← e2]; exact h1)
 ·exact .inl (by rw [e1]; exact h2)
 ·exact .inr ⟨e1.trans e2,by omega⟩
theorem ltv_irrefl {a : Vs} : ¬ ltv a a:=by
 rintro (h | ⟨_,h⟩)
 ·exact lt_irrefl h
 ·omega
theorem SrtV.get {L : List Vs} (h : SrtV L) {i j : Nat} {a b : Vs} (hij : i < j) (ha : L[i]? = some a) (hb : L[j]? = some b) : ltv a b:=by
 obtain ⟨hi,rfl⟩:=List.getElem?_eq_some_iff.1 ha
 obtain ⟨hj,rfl⟩:=List.getElem?_eq_some_iff.1 hb
 exact List.pairwise_iff_getElem.1 h i j hi hj hij
theorem srtv_of {L : List Vs} (h : ∀ i a b,L[i]? = some a → L[i + 1]? = some b → ltv a b) : SrtV L:=by
 induction L with
 | nil => exact List.Pairwise.nil
 | cons v t ih =>
  have it : SrtV t:=ih fun i a b ha hb => h (i + 1) a b (by simpa using ha) (by simpa using hb)
  refine List.Pairwise.cons (fun u hu => ?_) it
  obtain ⟨k,hk,rfl⟩:=List.getElem_of_mem hu
  cases t with
  | nil => simp at hk
  | cons x s =>
   have h0 : ltv v x:=h 0 v x rfl rfl
   by_cases e : k = 0
   ·subst e; exact h0
   ·exact ltv_trans h0 (it.get (i:=0) (j:=k) (by omega) rfl (List.getElem?_eq_getElem hk))
def ken (L : List Vs) (k : List UInt8) : Nat:=(L.takeWhile fun v => v.key == k).length
end
section
open Go.RowKit
attribute [local go_sem ↓] Go.wp_at_zero Go.wp_at_succ
def szV (v : Vs) : Int:=vsz v.key v.data v.l
def bw (L : List Vs) : Int:=L.foldl (fun s v => wrap64 (s + szV v)) 0
theorem bw_step {L : List Vs} {k : Nat} {u : Vs} (h : L[k]? = some u) : bw (L.take (k + 1)) = wrap64 (bw (L.take k) + szV u):=by
 unfold bw
 rw [takeV h,List.foldl_append]
 rfl
set_option maxHeartbeats 4000000 in
theorem bBytes_any (L : List Vs) (next : Int) (w : World) (a : Option Addr) (n cap : Nat) (hL : Li w L a n cap) :
  Calls Tryz.prog 63 #[bv next a n cap] w fun e w' => e = .returned (.int .i64 (bw L)) ∧ Below w.heap.size w w':=by
 obtain rfl:=hL.n
 have b0:=(Below.refl w.heap.size w).alloc (Nat.le_refl _) (.cells #[.int .i64 next,.slice a L.length cap] 24)
 have z0:=Bq.new w (.int .i64 next) (.slice a L.length cap)
 have hl:=hL.l
 have HL:=Hid.mk hL
 clear hL
 go_enter Tryz.func63,Tryz.ntmps63
 obtain ⟨p0,p1,_⟩:=z0.cells
 go_wp2_with fail
 have HB:=Hid.mk b0
 have HZ:=Hid.mk z0
 clear p0 p1 b0 z0
 generalize w.alloc (.cells #[.int .i64 next,.slice a L.length cap] 24) = W1 at *
 go_loopw [3,9] (fun o i wr => ∃ k : Nat,k ≤ L.length ∧ i = .int .i64 (k : Int) ∧ o = .int .i64 (bw (L.take k)) ∧ Hid (Below W1.heap.size W1 wr)) (fun o i _ => L.length - (intOf i).toNat)
 case atStart => exact ⟨0,by omega,rfl,rfl,⟨Below.refl _ _⟩⟩
 case round =>
  obtain ⟨k,hk,rfl,rfl,hb⟩:=hrel
  have bwr:=HB.out.trans (hb.out.mono HB.out.size)
  obtain ⟨p0,p1,_⟩:=(HZ.out.later hb.out).cells
  by_cases hlt : k < L.length
  ·have d1 : decide ((k : Int) < (L.length : Int)) = true:=decide_eq_true (by omega)
   have k2 : (k : Int) < (L.length : Int):=by omega
   obtain ⟨u,hu⟩ : ∃ u,L[k]? = some u:=⟨L[k],List.getElem?_eq_getElem hlt⟩
   obtain ⟨b,off,ma,mc,rfl,hbl,c0,c1,c2,c3,c4,hsl⟩:=(HL.out.s.at'.later bwr).get k u hu
   have hzu:=HL.out.z u (List.mem_of_getElem? hu)
   have bx:=(Below.refl wr.heap.size wr).alloc (Nat.le_refl _) (.cells #[str u.key,.int .i64 u.seq,.bool u.mkr,str u.data,.slice ma u.l.length mc] 62)
   have hc:=size_any u.key u.seq u.mkr u.data u.l _ ma u.l.length mc rfl (hsl.later bx).at' (by omega)
   have hT:=Hid.mk (bw_step hu)
   have hw1 : wrap64 ((k : Int) + 1) = ((k + 1 : Nat) : Int):=by unfold wrap64; omega
   clear hu hsl bwr
   change Calls Tryz.prog 95 _ _ (fun e w' => e = .returned (.int .i64 (szV u)) ∧ _) at hc
   generalize bw (L.take k) = BK at *
   generalize szV u = SU at *
   go_wp2_with (go_at_call 95; refine hc.mono ?_; rintro e w1 ⟨rfl,b1⟩)
   exact ⟨⟨k + 1,by omega,by first | (rw [hw1]; done) | go_num,by rw [hT.out],⟨below_seq hb.out (below_seq bx b1)⟩⟩,by first | (rw [hw1]; exact Nat.sub_lt_sub_left hlt (Nat.lt_succ_self k)) | (simp [intOf]; omega)⟩
  ·obtain rfl : k = L.length:=by omega
   have d1 : decide ((L.length : Int) < (L.length : Int)) = false:=decide_eq_false (by omega)
   rw [List.take_length]
   go_wp2_with fail
   go_ret
   exact ⟨rfl,bwr⟩
set_option maxHeartbeats 4000000 in
theorem qBytes_any (L : List Vs) (next : Int) (w : World) (a : Option Addr) (n cap : Nat) (hL : Li w L a n cap) :
  Calls Tryz.prog 74 #[bv next a n cap] w fun e w' => e = .returned (.int .i64 (bw L)) ∧ Below w.heap.size w w':=by
 obtain rfl:=hL.n
 have b0:=(Below.refl w.heap.size w).alloc (Nat.le_refl _) (.cells #[.int .i64 next,.slice a L.length cap] 24)
 have z0:=Bq.new w (.int .i64 next) (.slice a L.length cap)
 have hl:=hL.l
 have HL:=Hid.mk hL
 clear hL
 go_enter Tryz.func74,Tryz.ntmps74
 obtain ⟨p0,p1,_⟩:=z0.cells
 go_wp2_with fail
 have HB:=Hid.mk b0
 have HZ:=Hid.mk z0
 clear p0 p1 b0 z0
 generalize w.alloc (.cells #[.int .i64 next,.slice a L.length cap] 24) = W1 at *
 go_loopw [3,4] (fun o i wr => ∃ k : Nat,k ≤ L.length ∧ i = .int .i64 (k : Int) ∧ o = .int .i64 (bw (L.take k)) ∧ Hid (Below W1.heap.size W1 wr)) (fun o i _ => L.length - (intOf i).toNat)
 case atStart => exact ⟨0,by omega,rfl,rfl,⟨Below.refl _ _⟩⟩
 case round =>
  obtain ⟨k,hk,rfl,rfl,hb⟩:=hrel
  have bwr:=HB.out.trans (hb.out.mono HB.out.size)
  obtain ⟨p0,p1,_⟩:=(HZ.out.later hb.out).cells
  by_cases hlt : k < L.length
  ·have d1 : decide ((k : Int) < (L.length : Int)) = true:=decide_eq_true (by omega)
   have k2 : (k : Int) < (L.length : Int):=by omega
   obtain ⟨u,hu⟩ : ∃ u,L[k]? = some u:=⟨L[k],List.getElem?_eq_getElem hlt⟩
   obtain ⟨b,off,ma,mc,rfl,hbl,c0,c1,c2,c3,c4,hsl⟩:=(HL.out.s.at'.later bwr).get k u hu
   have hzu:=HL.out.z u (List.mem_of_getElem? hu)
   have hc:=rSize_any u.key u.seq u.mkr u.data u.l wr ma u.l.length mc rfl hsl.at' (by omega)
   have hT:=Hid.mk (bw_step hu)
   have hw1 : wrap64 ((k : Int) + 1) = ((k + 1 : Nat) : Int):=by unfold wrap64; omega
   clear hu hsl bwr
   change Calls Tryz.prog 118 _ _ (fun e w' => e = .returned (.int .i64 (szV u)) ∧ _) at hc
   generalize bw (L.take k) = BK at *
   generalize szV u = SU at *
   go_wp2_with (go_at_call 118; refine hc.mono ?_; rintro e w1 ⟨rfl,b1⟩)
   exact ⟨⟨k + 1,by omega,by first | (rw [hw1]; done) | go_num,by rw [hT.out],⟨below_seq hb.out b1⟩⟩,by first | (rw [hw1]; exact Nat.sub_lt_sub_left hlt (Nat.lt_succ_self k)) | (simp [intOf]; omega)⟩
  ·obtain rfl : k = L.length:=by omega
   have d1 : decide ((L.length : Int) < (L.length : Int)) = false:=decide_eq_false (by omega)
   rw [List.take_length]
   go_wp2_with fail
   go_ret
   exact ⟨rfl,bwr⟩
end
section
open Go.RowKit
attribute [local go_sem ↓] Go.wp_at_zero Go.wp_at_succ
theorem bL_lt {a b : List UInt8} (h : lt a b) : Go.Op.bytesLess a b = true:=by rw [bytesLess_eq]; exact decide_eq_true h
theorem bL_not {a b : List UInt8} (h : ¬ lt a b) : Go.Op.bytesLess a b = false:=by rw [bytesLess_eq]; exact decide_eq_false h
theorem cmpS_any (a b : List UInt8) (w : World) : Calls Tryz.prog 91 #[str a,str b] w fun e w' => e = .returned (.int .i64 (bcmp a b)) ∧ w' = w:=by
 rcases tri a b with h | h | h
 ·have h1:=bL_lt h
  have e : bcmp a b = -1:=h
  rw [e]
  clear h e
  go_enter Tryz.func91,Tryz.ntmps91
  go_wp2
  go_ret
  exact ⟨rfl,rfl⟩
 ·subst h
  have h1:=bL_not (lt_irrefl (a:=a))
  rw [bcmp_self]
  go_enter Tryz.func91,Tryz.ntmps91
  go_wp2
  go_ret
  exact ⟨rfl,rfl⟩
 ·have h1:=bL_lt h
  have h2:=bL_not (lt_asymm h)
  have h3 : (a == b) = false:=by rw [beq_eq_false_iff_ne]; rintro rfl; exact lt_irrefl h
  have e : bcmp a b = 1:=by rw [bcmp_neg b a,h]; rfl
  rw [e]
  clear h e
  go_enter Tryz.func91,Tryz.ntmps91
  go_wp2
  go_ret
  exact ⟨rfl,rfl⟩
end
section
open Go.RowKit
attribute [local go_sem ↓] Go.wp_at_zero Go.wp_at_succ
attribute [local go_sem ↓] slVe
end
section
open Go.RowKit
attribute [local go_sem ↓] Go.wp_at_zero Go.wp_at_succ
attribute [local go_sem ↓] slVe
def gpL (L : List Vs) (i : Nat) (k : List UInt8) : List Vs:=(L.drop i).take (ken (L.drop i) k)
end
section
open Go.RowKit
attribute [local go_sem ↓] Go.wp_at_zero Go.wp_at_succ
noncomputable def vrV (v : Vs) : Int:=vrE v.key v.mkr v.data v.l
theorem wrap_eq (x : Int) : IntKind.i64.wrap x = wrap64 x:=by rw [IntKind.wrap_i64]; unfold wrap64; omega
end
section
open Go.RowKit
theorem app_run {ops : Array Oper} {rest : List Oper} {o : Oper} {a : Act} {Q : Exit → Act → World → Prop} {w w' : World} {v x' r : Value} {t1 t2 : TypeId} (hgd : o.guard = none) (s x : Operand) (ho : o.op = .call { callee := .builtin .append,args:=#[s,x],argTypes:=#[t1,t2] })
  (hs : a.eval s = v) (hx : a.eval x = x') (hr : (Builtin.append_ #[t1,t2] o.type #[v,x']).run Tryz.prog w = .ok r w')
  (h : wpList Tryz.prog ops Q rest (a.put o.dst r) w') : wpList Tryz.prog ops Q (o :: rest) a w:=by
 refine wpList_plain hgd fun K hK => ?_
 unfold Oper.wp execOp
 simp only [ho,resolve,invoke,builtin,Sem.run_bind,Sem.run_pure,Result.andThen_ok,List.map_toArray,List.map_cons,List.map_nil,hs,hx,hr]
 exact hK _ _ h
end
section
open Go.RowKit
attribute [local go_sem ↓] Go.wp_at_zero Go.wp_at_succ
attribute [local go_sem ↓] slVe
structure Ro (base : Nat) (w : World) (v : Value) (R : List Rv) : Prop where
 own : w.ownsRow base 62 5 v R.length (rcells R)
 le : base ≤ w.heap.size
theorem Ro.later {base : Nat} {w w' : World} {v : Value} {R : List Rv} (h : Ro base w v R) (hb : Below w.heap.size w w') : Ro base w' v R:=⟨own_same h.own (fun g hg => hb.block g (h.own.lt g hg).2),Nat.le_trans h.le hb.size⟩
theorem Ro.nil (w : World) (base : Nat) (h : base ≤ w.heap.size) : Ro base w (.slice none 0 0) []:=⟨World.ownsRow_nil _ _ _ _,h⟩
theorem Ro.sl {base : Nat} {w : World} {v : Value} {R : List Rv} (h : Ro base w v R) : ∃ a c,v = .slice a R.length c:=by
 rcases h.own.2 with ⟨rfl,h0⟩ | ⟨g,cap,cur,rfl,_⟩
 ·exact ⟨none,0,by rw [h0]⟩
 ·exact ⟨_,cap,rfl⟩
end
section
open Go.RowKit
attribute [local go_sem ↓] Go.wp_at_zero Go.wp_at_succ
attribute [local go_sem ↓] slVe
end
section
open Go.RowKit
attribute [local go_sem ↓] Go.wp_at_zero Go.wp_at_succ
attribute [local go_sem ↓] slVe
def RB (w w' : World) (e : Ending) (next : Int) (X : List Vs) (c : Int) : Prop := ∃ v,e = .returned (.tuple #[.agg #[.int .i64 next,v],.int .i64 c]) ∧ Cp w.heap.size w' v X ∧ Below w.heap.size w w'
end
section
open Go.RowKit
attribute [local go_sem ↓] Go.wp_at_zero Go.wp_at_succ
attribute [local go_sem ↓] slVe
theorem results_ctt {fn : Func} {p t u : Tmp} {ty : TypeId} (h : fn.results = #[.cell p ty,.tmp t,.tmp u]) (tmps : Array Value) (P : Program) (w : World) :
  (results fn tmps).run P w = ((asAddr (tmps.getD p undef)).run P w).andThen fun a w₁ => ((loadVar ty a).run P w₁).andThen fun v w₂ => .ok (.tuple #[v,tmps.getD t undef,tmps.getD u undef]) w₂:=by
 simp only [results,h]
 simp [Sem.run_bind,Result.andThen]
end
section
open Go.RowKit
attribute [local go_sem ↓] Go.wp_at_zero Go.wp_at_succ
end
end Go.Proofs.YtdfjlmfnkhhnjaaGreatDoor.Stk
