import Derived.Test.YtdfjlmfnkhhnjaaGreatDoorZg
import Derived.Test.YtdfjlmfnkhhnjaaGreatDoorZe
import Derived.Deep.RegionWith
import Derived.Test.YtdfjlmfnkhhnjaaGreatDoorZb
set_option maxRecDepth 100000
set_option linter.unusedVariables false
set_option linter.unusedSimpArgs false
namespace Go.Proofs.YtdfjlmfnkhhnjaaGreatDoor.Stk
section
open Go.RowKit
attribute [local go_sem ↓] Go.wp_at_zero Go.wp_at_succ
attribute [local go_sem ↓] slPe
attribute [-go_sem] Go.Builtin.append_
theorem at_stp {ops : Array Oper} {o : Oper} {a : Act} {K : Act → World → Prop} {Q : Exit → Act → World → Prop} {E' : Prop} {W : World} {f : Nat} {args : Array Operand} {ts : Array TypeId} (ho : o.op = .call { callee := .value (.func f),args:=args,argTypes:=ts }) (h : if Region.wanted o (yielded ops a.tmps) = true then Oper.wp Tryz.prog o a W K Q else E') : if Region.wanted o (yielded ops a.tmps) = true then Oper.wp Tryz.prog o a W K Q else E':=h
theorem at_sta {ops : Array Oper} {o : Oper} {a : Act} {K : Act → World → Prop} {Q : Exit → Act → World → Prop} {E' : Prop} {W : World} {args : Array Operand} {ts : Array TypeId} (ho : o.op = .call { callee := .builtin .append,args:=args,argTypes:=ts }) (h : if Region.wanted o (yielded ops a.tmps) = true then Oper.wp Tryz.prog o a W K Q else E') : if Region.wanted o (yielded ops a.tmps) = true then Oper.wp Tryz.prog o a W K Q else E':=h
end
section
open Go.RowKit
attribute [local go_sem ↓] Go.wp_at_zero Go.wp_at_succ
set_option maxHeartbeats 4000000 in
theorem dcanonical_any (u v : Vs) (w : World) (a : Option Addr) (n c : Nat) (a' : Option Addr) (n' c' : Nat) :
  Calls Tryz.prog 65 #[vv u.key u.seq u.mkr u.data a n c,vv v.key v.seq v.mkr v.data a' n' c'] w fun e w' => e = .returned (.int .i64 (cpV u v)) ∧ Below w.heap.size w w':=by
 have h1:=fun w => cmpS_any u.key v.key w
 have h2:=fun w => cmpI_any u.seq v.seq w
 have h3 : ∀ w : World,Calls Tryz.prog 90 #[.slice (some ⟨w.heap.size,0,none⟩) 2 2] (w.alloc (.cells #[.int .i64 (bcmp u.key v.key),.int .i64 (icmp u.seq v.seq)] 3)).drew fun e w' => e = .returned (.int .i64 (cpV u v)) ∧ w' = (w.alloc (.cells #[.int .i64 (bcmp u.key v.key),.int .i64 (icmp u.seq v.seq)] 3)).drew:=fun w => cmpOr_any _ _ _ _ (by show (w.alloc _).cell? _ = _; rw [cell_of_row _ _ _ _ _ _ (heap_alloc_new w _)]; rfl) (by show (w.alloc _).cell? _ = _; rw [cell_of_row _ _ _ _ _ _ (heap_alloc_new w _)]; rfl)
 generalize cpV u v = CP at *
 generalize bcmp u.key v.key = X at *
 generalize icmp u.seq v.seq = Y at *
 have b1:=(Below.refl w.heap.size w).alloc (Nat.le_refl _) (.cells #[str u.key,.int .i64 u.seq,.bool u.mkr,str u.data,.slice a n c] 62)
 have b2:=b1.alloc b1.size (.cells #[str v.key,.int .i64 v.seq,.bool v.mkr,str v.data,.slice a' n' c'] 62)
 have hsz : ((w.alloc (.cells #[str u.key,.int .i64 u.seq,.bool u.mkr,str u.data,.slice a n c] 62)).alloc (.cells #[str v.key,.int .i64 v.seq,.bool v.mkr,str v.data,.slice a' n' c'] 62)).heap.size = w.heap.size + 2:=by simp
 have x0 : Bv ((w.alloc (.cells #[str u.key,.int .i64 u.seq,.bool u.mkr,str u.data,.slice a n c] 62)).alloc (.cells #[str v.key,.int .i64 v.seq,.bool v.mkr,str v.data,.slice a' n' c'] 62)) w.heap.size (str u.key) (.int .i64 u.seq) (.bool u.mkr) (str u.data) (.slice a n c):=(Bv.new w _ _ _ _ _).later ((Below.refl _ _).alloc (Nat.le_refl _) _)
 have y0 : Bv ((w.alloc (.cells #[str u.key,.int .i64 u.seq,.bool u.mkr,str u.data,.slice a n c] 62)).alloc (.cells #[str v.key,.int .i64 v.seq,.bool v.mkr,str v.data,.slice a' n' c'] 62)) (w.heap.size + 1) (str v.key) (.int .i64 v.seq) (.bool v.mkr) (str v.data) (.slice a' n' c'):=by
  have:=Bv.new (w.alloc (.cells #[str u.key,.int .i64 u.seq,.bool u.mkr,str u.data,.slice a n c] 62)) (str v.key) (.int .i64 v.seq) (.bool v.mkr) (str v.data) (.slice a' n' c')
  rwa [World.size_alloc] at this
 go_enter Tryz.func65,Tryz.ntmps65
 go_wp2_with fail
 generalize (w.alloc (.cells #[str u.key,.int .i64 u.seq,.bool u.mkr,str u.data,.slice a n c] 62)).alloc (.cells #[str v.key,.int .i64 v.seq,.bool v.mkr,str v.data,.slice a' n' c'] 62) = W2 at *
 have HS : Hid (∀ w',Below (w.heap.size + 2) W2 w' → Below (w.heap.size + 2) W2 w' ∧ w'.cell? ⟨w.heap.size,0,none⟩ = some (str u.key) ∧ w'.cell? ⟨w.heap.size,1,none⟩ = some (.int .i64 u.seq) ∧ w'.cell? ⟨w.heap.size + 1,0,none⟩ = some (str v.key) ∧ w'.cell? ⟨w.heap.size + 1,1,none⟩ = some (.int .i64 v.seq)):=⟨fun w' h => by
  rw [← hsz] at h
  obtain ⟨g0,g1,_⟩:=(x0.later h).cells
  obtain ⟨t0,t1,_⟩:=(y0.later h).cells
  rw [hsz] at h
  exact ⟨h,g0,g1,t0,t1⟩⟩
 have HZ : Hid (∀ w',Below (w.heap.size + 2) W2 w' → w.heap.size + 2 ≤ w'.heap.size):=⟨fun w' h => by rw [← hsz]; exact h.size⟩
 clear x0 y0 hsz b1
 go_region_held3 (fun w' => Below (w.heap.size + 2) W2 w' ∧ w'.cell? ⟨w.heap.size,0,none⟩ = some (str u.key) ∧ w'.cell? ⟨w.heap.size,1,none⟩ = some (.int .i64 u.seq) ∧ w'.cell? ⟨w.heap.size + 1,0,none⟩ = some (str v.key) ∧ w'.cell? ⟨w.heap.size + 1,1,none⟩ = some (.int .i64 v.seq)) (first
  | exact HS.out _ (Below.refl _ _).drew
  | assumption
  | exact HS.out _ (Below.alloc (And.left (by assumption)) (HZ.out _ (And.left (by assumption))) _)) (first
  | (go_at_call 91; with_reducible refine Calls.mono (h1 _) ?_; rintro e w3 ⟨rfl,rfl⟩)
  | (go_at_call 92; with_reducible refine Calls.mono (h2 _) ?_; rintro e w4 ⟨rfl,rfl⟩)
  | (go_at_call 90; with_reducible refine Calls.mono (h3 _) ?_; rintro e w5 ⟨rfl,rfl⟩))
 all_goals (
  have hbw : Below (w.heap.size + 2) W2 (W2.alloc (.cells #[.int .i64 X,.int .i64 Y] 3)).drew:=And.left (by assumption)
  go_wp2_with fail
  go_ret
  exact ⟨rfl,b2.trans (hbw.mono (by omega))⟩)
end
section
open Go.RowKit
attribute [local go_sem ↓] Go.wp_at_zero Go.wp_at_succ
attribute [local go_sem ↓] slVe
attribute [-go_sem] Go.Builtin.append_
theorem cpV_le {a b : Vs} : cpV a b ≤ 0 ↔ ¬ ltv b a:=by
 unfold cpV orI icmp ltv
 rcases tri a.key b.key with h | h | h
 ·have e : bcmp a.key b.key = -1:=h
  rw [e]
  have hn : ¬ b.key = a.key:=fun q => by rw [q] at h; exact lt_irrefl h
  have h2:=lt_asymm h
  simp [hn,h2]
 ·have e : bcmp a.key b.key = 0:=by rw [h,bcmp_self]
  rw [e]
  simp only [↓reduceIte,h,true_and]
  by_cases q : a.seq < b.seq
  ·have q2 : ¬ b.seq < a.seq:=by omega
   simp [q,q2,lt_irrefl]
  ·by_cases q2 : b.seq < a.seq <;> simp [q,q2,lt_irrefl]
 ·have e : bcmp a.key b.key = 1:=by rw [bcmp_neg b.key a.key,h]; rfl
  rw [e]
  simp [h]
theorem Ro.heap {base : Nat} {w w' : World} {v : Value} {R : List Rv} (h : Ro base w v R) (he : w'.heap = w.heap) : Ro base w' v R:=⟨own_same h.own (fun g _ => by rw [he]),by rw [he]; exact h.le⟩
theorem step_ro1 {ops : Array Oper} {o : Oper} {a : Act} {K : Act → World → Prop} {Q : Exit → Act → World → Prop} {E : Prop} {W : World} (hgd : o.guard = none) (s x : Operand) (ho : o.op = .call { callee := .builtin .append,args:=#[s,x],argTypes:=#[22,22] })
  {base : Nat} {w : World} {v : Value} {R : List Rv} {g : Nat} (r : Rv) (f1 : Ro base w v R) (hW : W.heap = (w.alloc (.cells #[str r.v.key,.int .i64 r.v.seq,.bool r.v.mkr,str r.v.data,.slice r.a r.v.l.length r.c] 62)).heap) (hg : g = w.heap.size) (hn : R.length + 1 ≤ 1954687338260)
  (hs : a.eval s = v) (hx : a.eval x = .slice (some ⟨g,0,none⟩) 1 1)
  (h : ∀ v' w',Ro base w' v' (R ++ [r]) → Below base W w' → K (a.put o.dst v') w') : if Region.wanted o (yielded ops a.tmps) = true then Oper.wp Tryz.prog o a W K Q else E:=by
 subst hg
 have f2 : Ro base (w.alloc (.cells (rcs r).toArray 62)) v R:=f1.later ((Below.refl w.heap.size w).alloc (Nat.le_refl _) _)
 have f3 : Ro base W v R:=f2.heap hW
 have hl : W.heap[w.heap.size]? = some (.cells (rcs r).toArray 62 (0,0)):=by rw [hW]; exact heap_alloc_new w (.cells (rcs r).toArray 62)
 obtain ⟨v',w',hr,h1,h2⟩:=run_rol o.type f3 (rin_one r hl) (n:=1) (c:=1) rfl (fun q => by cases q) (by simpa using hn)
 exact step_run hgd s x ho hs hx hr (h v' w' h1 h2)
theorem RIn.tail {w : World} {a : Option Addr} {c : Nat} {r : Rv} {A : List Rv} (h : RIn w a (r :: A)) (hc : A.length + 1 ≤ c) : RIn w (dropV a c 1) A:=⟨fun k q hk => by
 obtain ⟨b,off,rfl,h1,c0,c1,c2,c3,c4⟩:=h.get (k + 1) q (by simpa using hk)
 have hlt:=(List.getElem?_eq_some_iff.1 hk).1
 have e : off + 1 * 5 + k * 5 = off + (k + 1) * 5:=by omega
 refine ⟨b,off + 1 * 5,?_,h1,by rw [e]; exact c0,by rw [e]; exact c1,by rw [e]; exact c2,by rw [e]; exact c3,by rw [e]; exact c4⟩
 show (if c - 1 = 0 then _ else _) = _
 rw [if_neg (by omega),addr_add]⟩
def lnV : Value → Nat
 | .slice _ n _ => n
 | _ => 0
structure Rs (w : World) (a : Option Addr) (c : Nat) (A : List Rv) : Prop where
 r : RIn w a A
 nil : a = none → c = 0
 le : A.length ≤ c
 max : c ≤ 9223372036854775807
theorem Rs.tail {w : World} {a : Option Addr} {c : Nat} {r : Rv} {A : List Rv} (h : Rs w a c (r :: A)) : Rs w (dropV a c 1) (c - 1) A:=by
 have hl:=h.le
 rw [List.length_cons] at hl
 refine ⟨h.r.tail hl,fun q => ?_,by omega,by have:=h.max; omega⟩
 cases a with
 | none => have:=h.nil rfl; omega
 | some ad =>
  unfold dropV at q
  simp only at q
  split at q <;> cases q
structure QI (w wr : World) (A B A' B' X : List Rv) (pa : Option Addr) (pc : Nat) (qa : Option Addr) (qc : Nat) (sl : Value) : Prop where
 a : Rs w pa pc A'
 b : Rs w qa qc B'
 o : Ro w.heap.size wr sl X
 m : X.map (·.v) ++ mg (A'.map (·.v)) (B'.map (·.v)) = mg (A.map (·.v)) (B.map (·.v))
 x : ∀ r ∈ X,r ∈ A ∨ r ∈ B
 sa : ∀ r ∈ A',r ∈ A
 sb : ∀ r ∈ B',r ∈ B
 n : X.length + A'.length + B'.length = A.length + B.length
 l : Below w.heap.size w wr
theorem QI.left {w wr : World} {A B A' B' X : List Rv} {pa : Option Addr} {pc : Nat} {qa : Option Addr} {qc : Nat} {sl : Value} {r q : Rv} (h : QI w wr A B (r :: A') (q :: B') X pa pc qa qc sl) (hq : ¬ ltv q.v r.v) {w' : World} {v' : Value} (ho : Ro w.heap.size w' v' (X ++ [r])) (hb : Below w.heap.size w w') : QI w w' A B A' (q :: B') (X ++ [r]) (dropV pa pc 1) (pc - 1) qa qc v':=by
 refine ⟨h.a.tail,h.b,ho,?_,fun z hz => ?_,fun z hz => h.sa z (List.mem_cons_of_mem _ hz),h.sb,?_,hb⟩
 ·have:=h.m
  rw [List.map_cons,List.map_cons,mg_left hq] at this
  rw [← this,List.map_append,List.append_assoc,List.map_cons]
  rfl
 ·rcases List.mem_append.1 hz with z1 | z1
  ·exact h.x z z1
  ·simp at z1; subst z1; exact .inl (h.sa z List.mem_cons_self)
 ·have:=h.n
  simp only [List.length_cons,List.length_append,List.length_nil] at this ⊢
  omega
theorem QI.right {w wr : World} {A B A' B' X : List Rv} {pa : Option Addr} {pc : Nat} {qa : Option Addr} {qc : Nat} {sl : Value} {r q : Rv} (h : QI w wr A B (r :: A') (q :: B') X pa pc qa qc sl) (hq : ltv q.v r.v) {w' : World} {v' : Value} (ho : Ro w.heap.size w' v' (X ++ [q])) (hb : Below w.heap.size w w') : QI w w' A B (r :: A') B' (X ++ [q]) pa pc (dropV qa qc 1) (qc - 1) v':=by
 refine ⟨h.a,h.b.tail,ho,?_,fun z hz => ?_,h.sa,fun z hz => h.sb z (List.mem_cons_of_mem _ hz),?_,hb⟩
 ·have:=h.m
  rw [List.map_cons,List.map_cons,mg_right hq] at this
  rw [← this,List.map_append,List.append_assoc,List.map_cons]
  rfl
 ·rcases List.mem_append.1 hz with z1 | z1
  ·exact h.x z z1
  ·simp at z1; subst z1; exact .inr (h.sb z List.mem_cons_self)
 ·have:=h.n
  simp only [List.length_cons,List.length_append,List.length_nil] at this ⊢
  omega
theorem make_ro (w : World) (n : Nat) (hn : n ≤ 300) : ∃ w',(Instr.makeSlice 22 (.int .i64 0) (.int .i64 (n : Int))).run Tryz.prog w = .ok (.slice (some ⟨w.heap.size,0,none⟩) 0 n) w' ∧ Ro w.heap.size w' (.slice (some ⟨w.heap.size,0,none⟩) 0 n) [] ∧ Below w.heap.size w w':=by
 obtain ⟨i0,hi0,hz0,hz1,hz2⟩:=infoV
 obtain ⟨w',a1,a2,a3⟩:=run_make_own (P:=Tryz.prog) w w.heap.size 22 62 i0 _ 5 Tryz.underlying22 hi0 hz0 hz1 .i64 .i64 n (by rw [hz2]; omega) (by unfold maxLen; omega) (Nat.le_refl _)
 exact ⟨w',a1,⟨a2,a3.size⟩,(Below.refl _ _).grown a3 (Nat.le_refl _) (fun k0 hk0 => by cases hk0)⟩
theorem QI.rest {w wr : World} {A B A' B' X : List Rv} {pa : Option Addr} {pc : Nat} {qa : Option Addr} {qc : Nat} {sl : Value} (h : QI w wr A B A' B' X pa pc qa qc sl) (hl : A.length + B.length ≤ 300) (he : A' = [] ∨ B' = []) :
  ∃ v1 w1 v2 w2,(Builtin.append_ #[22,22] 22 #[sl,.slice pa A'.length pc]).run Tryz.prog wr = .ok v1 w1 ∧ (Builtin.append_ #[22,22] 22 #[v1,.slice qa B'.length qc]).run Tryz.prog w1 = .ok v2 w2 ∧ ∃ R,Ro w.heap.size w2 v2 R ∧ R.map (·.v) = mg (A.map (·.v)) (B.map (·.v)) ∧ (∀ r ∈ R,r ∈ A ∨ r ∈ B) ∧ Below w.heap.size w w2:=by
 have hn:=h.n
 obtain ⟨v1,w1,r1,o1,b1⟩:=run_rol 22 h.o (h.a.r.later h.l) rfl h.a.nil (by omega)
 have B1:=h.l.trans b1
 obtain ⟨v2,w2,r2,o2,b2⟩:=run_rol 22 o1 (h.b.r.later B1) rfl h.b.nil (by rw [List.length_append]; omega)
 refine ⟨v1,w1,v2,w2,r1,r2,_,o2,?_,fun r hr => ?_,B1.trans b2⟩
 ·rw [← h.m,List.map_append,List.map_append,List.append_assoc]
  rcases he with rfl | rfl
  ·simp [mg_nil]
  ·simp [mg_nil2]
 ·rcases List.mem_append.1 hr with q | q
  ·rcases List.mem_append.1 q with q | q
   ·exact h.x r q
   ·exact .inl (h.sa r q)
  ·exact .inr (h.sb r q)
set_option maxHeartbeats 4000000 in
theorem laid_any (A B : List Rv) (w : World) (a : Option Addr) (ca : Nat) (b : Option Addr) (cb : Nat) (hA : Rs w a ca A) (hB : Rs w b cb B) (hl : A.length + B.length ≤ 300) :
  Calls Tryz.prog 64 #[.slice a A.length ca,.slice b B.length cb,.func (.func 65) #[] #[]] w fun e w' => ∃ v,e = .returned v ∧ ∃ R,Ro w.heap.size w' v R ∧ R.map (·.v) = mg (A.map (·.v)) (B.map (·.v)) ∧ (∀ r ∈ R,r ∈ A ∨ r ∈ B) ∧ Below w.heap.size w w':=by
 obtain ⟨w1,hmk,o1,b1⟩:=make_ro w (A.length + B.length) hl
 rw [Int.natCast_add] at hmk
 have HQ : Hid (QI w w1 A B A B [] a ca b cb (.slice (some ⟨w.heap.size,0,none⟩) 0 (A.length + B.length))):=⟨hA,hB,o1,rfl,by simp,fun r h => h,fun r h => h,by simp,b1⟩
 have Hl:=Hid.mk hl
 clear o1 b1 hA hB
 go_enter Tryz.func64,Tryz.ntmps64
 go_wp2_with fail
 clear hmk hl
 go_loopw [0,1,7] (fun sa sb sl wr => ∃ (A' B' X : List Rv) (pa : Option Addr) (pc : Nat) (qa : Option Addr) (qc : Nat),sa = .slice pa A'.length pc ∧ sb = .slice qa B'.length qc ∧ Hid (QI w wr A B A' B' X pa pc qa qc sl)) (fun sa sb _ _ => lnV sa + lnV sb)
 case atStart => exact ⟨A,B,[],a,ca,b,cb,rfl,rfl,HQ⟩
 case round =>
  clear HQ
  obtain ⟨A',B',X,pa,pc,qa,qc,rfl,rfl,HQ⟩:=hrel
  cases A' with
  | nil =>
   obtain ⟨v1,w2,v2,w3,r1,r2,R,hR⟩:=HQ.out.rest Hl.out (.inl rfl)
   have HR:=Hid.mk hR
   clear hR HQ
   simp only [List.length_nil] at r1 ⊢
   generalize B'.length = NB at *
   go_wp2_with (first
    | (refine app_run rfl _ _ rfl rfl rfl r1 ?_)
    | (refine app_run rfl _ _ rfl rfl rfl r2 ?_))
   go_ret
   exact ⟨_,rfl,R,HR.out⟩
  | cons r A' =>
   cases B' with
   | nil =>
    obtain ⟨v1,w2,v2,w3,r1,r2,R,hR⟩:=HQ.out.rest Hl.out (.inr rfl)
    have HR:=Hid.mk hR
    clear hR HQ
    simp only [List.length_nil,List.length_cons] at r1 r2 ⊢
    generalize A'.length = NA at *
    have d1 : decide ((0 : Int) < (NA : Int) + 1) = true:=decide_eq_true (by omega)
    have d2 : decide ((0 : Int) < ((NA + 1 : Nat) : Int)) = true:=decide_eq_true (by omega)
    go_wp2_with (first
     | (refine app_run rfl _ _ rfl rfl rfl r1 ?_)
     | (refine app_run rfl _ _ rfl rfl rfl r2 ?_))
    go_ret
    exact ⟨_,rfl,R,HR.out⟩
   | cons q B' =>
    obtain ⟨b1,off1,rfl,hbl1,c0,c1,c2,c3,c4⟩:=(HQ.out.a.r.later HQ.out.l).get 0 r rfl
    obtain ⟨b2,off2,rfl,hbl2,e0,e1,e2,e3,e4⟩:=(HQ.out.b.r.later HQ.out.l).get 0 q rfl
    simp only [Nat.zero_mul,Nat.add_zero] at c0 c1 c2 c3 c4 e0 e1 e2 e3 e4
    have hle1:=HQ.out.a.le
    have hle2:=HQ.out.b.le
    have hm1:=HQ.out.a.max
    have hm2:=HQ.out.b.max
    rw [List.length_cons] at hle1 hle2
    have rs1 : ∀ w,(slV (.slice (some ⟨b1,off1,none⟩) (A'.length + 1) pc) (some (.int .i64 1)) none none).run Tryz.prog w = .ok (.slice (dropV (some ⟨b1,off1,none⟩) pc 1) (A'.length + 1 - 1) (pc - 1)) w:=fun w => run_slV_lo (some ⟨b1,off1,none⟩) (A'.length + 1) pc 1 (by omega) hle1 hm1 (fun q => by cases q) w
    have rs2 : ∀ w,(slV (.slice (some ⟨b2,off2,none⟩) (B'.length + 1) qc) (some (.int .i64 1)) none none).run Tryz.prog w = .ok (.slice (dropV (some ⟨b2,off2,none⟩) qc 1) (B'.length + 1 - 1) (qc - 1)) w:=fun w => run_slV_lo (some ⟨b2,off2,none⟩) (B'.length + 1) qc 1 (by omega) hle2 hm2 (fun q => by cases q) w
    rw [Nat.add_sub_cancel] at rs1 rs2
    have hXl : Hid (X.length + 1 ≤ 1954687338260):=⟨by have:=HQ.out.n; have:=Hl.out; simp only [List.length_cons] at *; omega⟩
    have hc:=fun w => dcanonical_any r.v q.v w r.a r.v.l.length r.c q.a q.v.l.length q.c
    simp only [List.length_cons]
    have d1 : decide ((0 : Int) < (A'.length : Int) + 1) = true:=decide_eq_true (by omega)
    have d2 : decide ((0 : Int) < ((A'.length + 1 : Nat) : Int)) = true:=decide_eq_true (by omega)
    have d3 : decide ((0 : Int) < (B'.length : Int) + 1) = true:=decide_eq_true (by omega)
    have d4 : decide ((0 : Int) < ((B'.length + 1 : Nat) : Int)) = true:=decide_eq_true (by omega)
    have k1 : (0 : Int) < (A'.length : Int) + 1:=by omega
    have k3 : (0 : Int) < (B'.length : Int) + 1:=by omega
    clear hle1 hle2 hm1 hm2
    by_cases hq : ltv q.v r.v
    ·have dq : decide (cpV r.v q.v ≤ 0) = false:=decide_eq_false (fun z => cpV_le.1 z hq)
     have HK : Hid (∀ w2 w3 v2,Below wr.heap.size wr w2 → Ro w.heap.size w3 v2 (X ++ [q]) → Below w.heap.size w2 w3 → QI w w3 A B (r :: A') B' (X ++ [q]) (some ⟨b1,off1,none⟩) pc (dropV (some ⟨b2,off2,none⟩) qc 1) (qc - 1) v2):=⟨fun w2 w3 v2 z1 z2 z3 => HQ.out.right hq z2 ((HQ.out.l.trans (z1.mono HQ.out.l.size)).trans z3)⟩
     have HO : Hid (∀ w2,Below wr.heap.size wr w2 → Ro w.heap.size w2 u7 X):=⟨fun w2 z => HQ.out.o.later z⟩
     have HC : Hid (∀ w2,Below wr.heap.size wr w2 → (w2.cell? ⟨b2,off2,none⟩ = some (str q.v.key) ∧ w2.cell? ⟨b2,off2 + 1,none⟩ = some (.int .i64 q.v.seq) ∧ w2.cell? ⟨b2,off2 + 2,none⟩ = some (.bool q.v.mkr) ∧ w2.cell? ⟨b2,off2 + 3,none⟩ = some (str q.v.data) ∧ w2.cell? ⟨b2,off2 + 4,none⟩ = some (.slice q.a q.v.l.length q.c))):=⟨fun w2 z => ⟨(z.cell (p:=⟨b2,_,none⟩) hbl2).trans e0,(z.cell (p:=⟨b2,_,none⟩) hbl2).trans e1,(z.cell (p:=⟨b2,_,none⟩) hbl2).trans e2,(z.cell (p:=⟨b2,_,none⟩) hbl2).trans e3,(z.cell (p:=⟨b2,_,none⟩) hbl2).trans e4⟩⟩
     generalize cpV r.v q.v = C at *
     clear HQ
     go_wp2_with fail
     go_region_with (go_at_call 65; refine (hc _).mono ?_; rintro e w2 ⟨rfl,x2⟩)
     all_goals (
      have hb2 : Hid (Below wr.heap.size wr w2):=⟨below_seq (Below.refl _ _).drew x2⟩
      obtain ⟨g0,g1,g2,g3,g4⟩:=HC.out w2 hb2.out
      have hO2:=HO.out w2 hb2.out
      clear x2 c0 c1 c2 c3 c4 e0 e1 e2 e3 e4 hc
      go_wp2_with fail)
     all_goals (go_region_law (((with_reducible (refine at_sta rfl ?_)); refine step_ro1 (base:=w.heap.size) rfl _ _ rfl q hO2 rfl rfl hXl.out rfl rfl ?_; intro v3 w3 o3 b3; have HF:=Hid.mk (HK.out w2 w3 v3 hb2.out o3 (((Below.refl _ _).alloc hO2.le _).drew.trans b3)); clear o3 b3)))
     all_goals (
      clear g0 g1 g2 g3 g4
      go_wp2_with fail
      refine ⟨?_,?_⟩
      ·(repeat apply Exists.intro); refine ⟨?_,rfl⟩; exact ⟨r :: A',B',X ++ [q],some ⟨b1,off1,none⟩,pc,dropV (some ⟨b2,off2,none⟩) qc 1,qc - 1,rfl,rfl,HF⟩
      ·show A'.length + 1 + B'.length < A'.length + 1 + (B'.length + 1)
       exact Nat.add_lt_add_left (Nat.lt_succ_self _) _)
    ·have dq : decide (cpV r.v q.v ≤ 0) = true:=decide_eq_true (cpV_le.2 hq)
     have HK : Hid (∀ w2 w3 v2,Below wr.heap.size wr w2 → Ro w.heap.size w3 v2 (X ++ [r]) → Below w.heap.size w2 w3 → QI w w3 A B A' (q :: B') (X ++ [r]) (dropV (some ⟨b1,off1,none⟩) pc 1) (pc - 1) (some ⟨b2,off2,none⟩) qc v2):=⟨fun w2 w3 v2 z1 z2 z3 => HQ.out.left hq z2 ((HQ.out.l.trans (z1.mono HQ.out.l.size)).trans z3)⟩
     have HO : Hid (∀ w2,Below wr.heap.size wr w2 → Ro w.heap.size w2 u7 X):=⟨fun w2 z => HQ.out.o.later z⟩
     have HC : Hid (∀ w2,Below wr.heap.size wr w2 → (w2.cell? ⟨b1,off1,none⟩ = some (str r.v.key) ∧ w2.cell? ⟨b1,off1 + 1,none⟩ = some (.int .i64 r.v.seq) ∧ w2.cell? ⟨b1,off1 + 2,none⟩ = some (.bool r.v.mkr) ∧ w2.cell? ⟨b1,off1 + 3,none⟩ = some (str r.v.data) ∧ w2.cell? ⟨b1,off1 + 4,none⟩ = some (.slice r.a r.v.l.length r.c))):=⟨fun w2 z => ⟨(z.cell (p:=⟨b1,_,none⟩) hbl1).trans c0,(z.cell (p:=⟨b1,_,none⟩) hbl1).trans c1,(z.cell (p:=⟨b1,_,none⟩) hbl1).trans c2,(z.cell (p:=⟨b1,_,none⟩) hbl1).trans c3,(z.cell (p:=⟨b1,_,none⟩) hbl1).trans c4⟩⟩
     generalize cpV r.v q.v = C at *
     clear HQ
     go_wp2_with fail
     go_region_with (go_at_call 65; refine (hc _).mono ?_; rintro e w2 ⟨rfl,x2⟩)
     all_goals (
      have hb2 : Hid (Below wr.heap.size wr w2):=⟨below_seq (Below.refl _ _).drew x2⟩
      obtain ⟨g0,g1,g2,g3,g4⟩:=HC.out w2 hb2.out
      have hO2:=HO.out w2 hb2.out
      clear x2 c0 c1 c2 c3 c4 e0 e1 e2 e3 e4 hc
      go_wp2_with fail)
     all_goals (go_region_law (((with_reducible (refine at_sta rfl ?_)); refine step_ro1 (base:=w.heap.size) rfl _ _ rfl r hO2 rfl rfl hXl.out rfl rfl ?_; intro v3 w3 o3 b3; have HF:=Hid.mk (HK.out w2 w3 v3 hb2.out o3 (((Below.refl _ _).alloc hO2.le _).drew.trans b3)); clear o3 b3)))
     all_goals (
      clear g0 g1 g2 g3 g4
      go_wp2_with fail
      refine ⟨?_,?_⟩
      ·(repeat apply Exists.intro); refine ⟨?_,rfl⟩; exact ⟨A',q :: B',X ++ [r],dropV (some ⟨b1,off1,none⟩) pc 1,pc - 1,some ⟨b2,off2,none⟩,qc,rfl,rfl,HF⟩
      ·show A'.length + (B'.length + 1) < A'.length + 1 + (B'.length + 1)
       exact Nat.add_lt_add_right (Nat.lt_succ_self _) _)
end
section
open Go.RowKit
attribute [local go_sem ↓] Go.wp_at_zero Go.wp_at_succ
attribute [local go_sem ↓] slVe
def apE (next since : Int) (L M : List Vs) : Int:=if ¬ since = next then 91 else if 256 < L.length + M.length then 75 else if 65536 < wrap64 (bw L + bw M) then 76 else 0
def ApP (next since mnext : Int) (L M : List Vs) (w w' : World) (e : Ending) : Prop :=
 (apE next since L M = 0 ∧ ∃ v,e = .returned (.tuple #[.agg #[.int .i64 mnext,v],.int .i64 0]) ∧ Cp w.heap.size w' v (mg L M)) ∨ (¬ apE next since L M = 0 ∧ e = .returned (.tuple #[bv 0 none 0 0,.int .i64 (apE next since L M)]))
theorem bdb (w : World) (x y p q r : Value) : ∀ w',Below (w.heap.size + 3) (((w.alloc (.cells #[x,y] 24)).alloc (.cells #[p,q,r] 53)).alloc (.cells #[.int .i64 0,.slice none 0 0] 24)) w' → Bq w' w.heap.size x y ∧ Bd w' (w.heap.size + 1) p q r ∧ Bq w' (w.heap.size + 2) (.int .i64 0) (.slice none 0 0):=fun w' h => by
 refine ⟨?_,?_,?_⟩
 ·refine Bq.low (w:=((w.alloc (.cells #[x,y] 24)).alloc (.cells #[p,q,r] 53)).alloc (.cells #[.int .i64 0,.slice none 0 0] 24)) ?_ (by omega) h
  unfold Bq; rw [heap_alloc_old _ _ (by simp; omega),heap_alloc_old _ _ (by simp)]; exact heap_alloc_new _ _
 ·refine Bd.low (w:=((w.alloc (.cells #[x,y] 24)).alloc (.cells #[p,q,r] 53)).alloc (.cells #[.int .i64 0,.slice none 0 0] 24)) ?_ (by omega) h
  unfold Bd; rw [heap_alloc_old _ _ (by simp)]
  have:=heap_alloc_new (w.alloc (.cells #[x,y] 24)) (.cells #[p,q,r] 53)
  rw [World.size_alloc] at this
  exact this
 ·refine Bq.low (w:=((w.alloc (.cells #[x,y] 24)).alloc (.cells #[p,q,r] 53)).alloc (.cells #[.int .i64 0,.slice none 0 0] 24)) ?_ (by omega) h
  have:=heap_alloc_new ((w.alloc (.cells #[x,y] 24)).alloc (.cells #[p,q,r] 53)) (.cells #[.int .i64 0,.slice none 0 0] 24)
  rw [World.size_alloc,World.size_alloc] at this
  exact this
set_option maxHeartbeats 4000000 in
theorem dApply_any (L M : List Vs) (next since mnext : Int) (w : World) (a : Option Addr) (n cap : Nat) (a' : Option Addr) (n' cap' : Nat) (hL : Li w L a n cap) (hM : Li w M a' n' cap') :
  Calls Tryz.prog 33 #[bv next a n cap,dv since mnext a' n' cap'] w fun e w' => ApP next since mnext L M w w' e ∧ Below w.heap.size w w':=by
 obtain rfl:=hL.n
 obtain rfl:=hM.n
 have b0:=(Below.refl w.heap.size w).alloc (Nat.le_refl _) (.cells #[.int .i64 next,.slice a L.length cap] 24)
 have b1:=b0.alloc b0.size (.cells #[.int .i64 since,.int .i64 mnext,.slice a' M.length cap'] 53)
 have b2:=b1.alloc b1.size (.cells #[.int .i64 0,.slice none 0 0] 24)
 have HB:=Hid.mk (bdb w (.int .i64 next) (.slice a L.length cap) (.int .i64 since) (.int .i64 mnext) (.slice a' M.length cap'))
 have hs3 : (((w.alloc (.cells #[.int .i64 next,.slice a L.length cap] 24)).alloc (.cells #[.int .i64 since,.int .i64 mnext,.slice a' M.length cap'] 53)).alloc (.cells #[.int .i64 0,.slice none 0 0] 24)).heap.size = w.heap.size + 3:=by simp
 have HL:=Hid.mk (hL.later b2)
 have HM:=Hid.mk (hM.later b2)
 have hll:=hL.l
 have hml:=hM.l
 clear hL hM b0 b1
 obtain ⟨x0,y0,z0⟩:=HB.out _ (Below.refl _ _)
 obtain ⟨p0,p1,_⟩:=x0.cells
 obtain ⟨q0,q1,q2,_⟩:=y0.cells
 obtain ⟨r0,r1,_⟩:=z0.cells
 by_cases h1 : since = next
 ·subst h1
  by_cases h2 : 256 < L.length + M.length
  ·have d1 : decide ((256 : Int) < (L.length : Int) + (M.length : Int)) = true:=decide_eq_true (by omega)
   have HA : Hid (apE since since L M = 75):=⟨by unfold apE; rw [if_neg (by simp),if_pos h2]⟩
   clear h2
   go_enter Tryz.func33,Tryz.ntmps33
   go_wp2_with fail
   refine bodyPost_ret (v := .tuple #[bv 0 none 0 0,.int .i64 75]) ?_ rfl ⟨.inr ⟨by rw [HA.out]; decide,by rw [HA.out]⟩,b2⟩
   rw [results_ct rfl]
   go_simp
  ·have d1 : decide ((256 : Int) < (L.length : Int) + (M.length : Int)) = false:=decide_eq_false (by omega)
   have HA : Hid (apE since since L M = if 65536 < wrap64 (bw L + bw M) then 76 else 0):=⟨by unfold apE; rw [if_neg (by simp),if_neg h2]⟩
   have H2 : Hid (L.length + M.length ≤ 300):=⟨by omega⟩
   clear h2 x0 y0 z0
   go_enter Tryz.func33,Tryz.ntmps33
   go_wp2_with fail
   clear p0 p1 q0 q1 q2 r0 r1 d1
   generalize ((w.alloc (.cells #[.int .i64 since,.slice a L.length cap] 24)).alloc (.cells #[.int .i64 since,.int .i64 mnext,.slice a' M.length cap'] 53)).alloc (.cells #[.int .i64 0,.slice none 0 0] 24) = W3 at *
   have HS : Hid (∀ w',Below W3.heap.size W3 w' → Below W3.heap.size W3 w' ∧ w'.cell? ⟨w.heap.size,0,none⟩ = some (.int .i64 since) ∧ w'.cell? ⟨w.heap.size,1,none⟩ = some (.slice a L.length cap) ∧ w'.cell? ⟨w.heap.size + 1,1,none⟩ = some (.int .i64 mnext) ∧ w'.cell? ⟨w.heap.size + 1,2,none⟩ = some (.slice a' M.length cap')):=⟨fun w' h => by
    have h':=h
    rw [hs3] at h'
    obtain ⟨x0,y0,_⟩:=HB.out w' h'
    obtain ⟨t0,t1,_⟩:=x0.cells
    obtain ⟨_,t2,t3,_⟩:=y0.cells
    exact ⟨h,t0,t1,t2,t3⟩⟩
   have hc1:=fun w' (h : Below W3.heap.size W3 w') => bBytes_any L since w' a _ cap (HL.out.later h)
   have hc2:=fun w' (h : Below W3.heap.size W3 w') => bBytes_any M mnext w' a' _ cap' (HM.out.later h)
   obtain ⟨T,hT⟩ : ∃ T,T = wrap64 (bw L + bw M):=⟨_,rfl⟩
   have hwr : IntKind.i64.wrap (bw L + bw M) = T:=by rw [hT,IntKind.wrap_i64]; unfold wrap64; omega
   rw [← hT] at HA
   clear hT
   by_cases h3 : 65536 < T
   ·have d3 : decide ((65536 : Int) < T) = true:=decide_eq_true h3
    have HA2 : Hid (apE since since L M = 76):=⟨by rw [HA.out,if_pos h3]⟩
    clear HA h3
    generalize bw L = X at *
    generalize bw M = Y at *
    go_region_held3 (fun w' => Below W3.heap.size W3 w' ∧ w'.cell? ⟨w.heap.size,0,none⟩ = some (.int .i64 since) ∧ w'.cell? ⟨w.heap.size,1,none⟩ = some (.slice a L.length cap) ∧ w'.cell? ⟨w.heap.size + 1,1,none⟩ = some (.int .i64 mnext) ∧ w'.cell? ⟨w.heap.size + 1,2,none⟩ = some (.slice a' M.length cap')) ((refine HS.out _ ?_; first
     | with_reducible exact (Below.refl _ _).drew
     | with_reducible exact (below_seq (And.left (by assumption)) x2)
     | with_reducible exact (below_seq (And.left (by assumption)) x1))) (first
     | (go_at_call 63; with_reducible refine Calls.mono (hc1 _ (And.left (by assumption))) ?_; rintro e w5 ⟨rfl,x1⟩)
     | (go_at_call 63; with_reducible refine Calls.mono (hc2 _ (And.left (by assumption))) ?_; rintro e w6 ⟨rfl,x2⟩))
    all_goals (
     have hb6 : Hid (Below W3.heap.size W3 w6):=⟨And.left (by assumption)⟩
     have hb6':=hb6.out
     rw [hs3] at hb6'
     obtain ⟨_,_,z0⟩:=HB.out w6 hb6'
     obtain ⟨r0,r1,rf⟩:=z0.cells
     have f0:=rf 0
     have f1:=rf 1
     have z1:=(z0.set0 (.int .i64 0)).set1 (.slice none 0 0)
     have B1:=((b2.trans (hb6.out.mono b2.size)).setCell (p:=⟨w.heap.size + 2,0,none⟩) (by simp) (.int .i64 0)).setCell (p:=⟨w.heap.size + 2,1,none⟩) (by simp) (.slice none 0 0)
     clear z0 rf
     go_wp2_with fail
     generalize (w6.setCell ⟨w.heap.size + 2,0,none⟩ (.int .i64 0)).setCell ⟨w.heap.size + 2,1,none⟩ (.slice none 0 0) = W4 at *
     obtain ⟨g0,g1,_⟩:=z1.cells
     refine bodyPost_ret (v := .tuple #[bv 0 none 0 0,.int .i64 76]) ?_ rfl ⟨.inr ⟨by rw [HA2.out]; decide,by rw [HA2.out]⟩,B1⟩
     rw [results_ct rfl]
     go_simp)
   ·have d3 : decide ((65536 : Int) < T) = false:=decide_eq_false h3
    have HA2 : Hid (apE since since L M = 0):=⟨by rw [HA.out,if_neg h3]⟩
    clear HA h3
    generalize bw L = X at *
    generalize bw M = Y at *
    go_region_held3 (fun w' => Below W3.heap.size W3 w' ∧ w'.cell? ⟨w.heap.size,0,none⟩ = some (.int .i64 since) ∧ w'.cell? ⟨w.heap.size,1,none⟩ = some (.slice a L.length cap) ∧ w'.cell? ⟨w.heap.size + 1,1,none⟩ = some (.int .i64 mnext) ∧ w'.cell? ⟨w.heap.size + 1,2,none⟩ = some (.slice a' M.length cap')) ((refine HS.out _ ?_; first
     | with_reducible exact (Below.refl _ _).drew
     | with_reducible exact (below_seq (And.left (by assumption)) x2)
     | with_reducible exact (below_seq (And.left (by assumption)) x1))) (first
     | (go_at_call 63; with_reducible refine Calls.mono (hc1 _ (And.left (by assumption))) ?_; rintro e w5 ⟨rfl,x1⟩)
     | (go_at_call 63; with_reducible refine Calls.mono (hc2 _ (And.left (by assumption))) ?_; rintro e w6 ⟨rfl,x2⟩))
    all_goals (
     have hb6 : Hid (Below W3.heap.size W3 w6):=⟨And.left (by assumption)⟩
     obtain ⟨_,p0,p1,q1,q2⟩:=HS.out w6 hb6.out
     obtain ⟨RA,hA1,hA2,hA3⟩:=li_rows HL.out
     obtain ⟨RB,hB1,hB2,hB3⟩:=li_rows HM.out
     have lA : RA.length = L.length:=by rw [← hA1,List.length_map]
     have lB : RB.length = M.length:=by rw [← hB1,List.length_map]
     have hA : Rs w6 a cap RA:=⟨hA2.later hb6.out,HL.out.s.nil,by rw [lA]; exact HL.out.s.le,HL.out.s.max⟩
     have hB : Rs w6 a' cap' RB:=⟨hB2.later hb6.out,HM.out.s.nil,by rw [lB]; exact HM.out.s.le,HM.out.s.max⟩
     have hla:=laid_any RA RB w6 a cap a' cap' hA hB (by rw [lA,lB]; exact H2.out)
     rw [lA,lB,hA1,hB1] at hla
     have HSh : Hid (∀ r,r ∈ RA ∨ r ∈ RB → Sl w6 r.a r.c r.v.l ∧ r.v.l.length ≤ 4398046510976):=⟨fun r hr => by
      rcases hr with q | q
      ·exact ⟨(hA3 r q).1.later hb6.out,(hA3 r q).2⟩
      ·exact ⟨(hB3 r q).1.later hb6.out,(hB3 r q).2⟩⟩
     have HmL : Hid ((mg L M).length ≤ 300):=⟨by rw [mg_len]; exact H2.out⟩
     clear hA1 hB1 hA2 hB2 hA3 hB3 hA hB lA lB hc1 hc2
     go_wp2_with fail
     with_reducible refine Calls.mono hla ?_
     rintro e w7 ⟨v7,rfl,R,oR,mR,sR,b7⟩
     dsimp only
     have hRl : R.length ≤ 1954687338260:=by
      have:=congrArg List.length mR
      rw [List.length_map] at this
      have:=HmL.out
      omega
     have hto:=takeOwn_any w6 R w7 v7 oR b7 (fun r hr => HSh.out r (sR r hr)) hRl
     rw [mR] at hto
     clear hla oR mR sR hRl p0 p1 q1 q2 HmL
     go_wp2_with fail
     with_reducible refine Calls.mono hto ?_
     rintro e w8 ⟨rfl,o8,b8⟩
     dsimp only
     have b83:=hb6.out.trans (b8.mono hb6.out.size)
     obtain ⟨_,p0,p1,q1,q2⟩:=HS.out w8 b83
     have hb8':=b83
     rw [hs3] at hb8'
     obtain ⟨_,_,z0⟩:=HB.out w8 hb8'
     obtain ⟨r0,r1,rf⟩:=z0.cells
     have f0:=rf 0
     have f1:=rf 1
     obtain ⟨oa,oc,rfl,oS⟩:=o8.ls
     have hsz:=hb6.out.size
     rw [hs3] at hsz
     have z1:=(z0.set0 (.int .i64 mnext)).set1 (.slice oa (mg L M).length oc)
     have o1:=(o8.low (g:=w.heap.size + 2) (j:=0) (by omega) (.int .i64 mnext)).low (g:=w.heap.size + 2) (j:=1) (by omega) (.slice oa (mg L M).length oc)
     have B1:=((b2.trans (b83.mono b2.size)).setCell (p:=⟨w.heap.size + 2,0,none⟩) (by simp) (.int .i64 mnext)).setCell (p:=⟨w.heap.size + 2,1,none⟩) (by simp) (.slice oa (mg L M).length oc)
     have HO1:=Hid.mk (o1.base (b':=w.heap.size) (by omega))
     clear z0 rf o8 o1 oS b8 hto b83 hb8' hsz b7
     generalize (mg L M).length = N at *
     go_wp2_with fail
     generalize (w8.setCell ⟨w.heap.size + 2,0,none⟩ (.int .i64 mnext)).setCell ⟨w.heap.size + 2,1,none⟩ (.slice oa N oc) = W4 at *
     obtain ⟨g0,g1,_⟩:=z1.cells
     refine bodyPost_ret (v := .tuple #[.agg #[.int .i64 mnext,.slice oa N oc],.int .i64 0]) ?_ rfl ⟨.inl ⟨HA2.out,_,rfl,HO1.out⟩,B1⟩
     rw [results_ct rfl]
     go_simp)
 ·have d1 : (since == next) = false:=beq_eq_false_iff_ne.2 h1
  have HA : Hid (apE next since L M = 91):=⟨by unfold apE; rw [if_pos h1]⟩
  clear h1
  go_enter Tryz.func33,Tryz.ntmps33
  go_wp2_with fail
  refine bodyPost_ret (v := .tuple #[bv 0 none 0 0,.int .i64 91]) ?_ rfl ⟨.inr ⟨by rw [HA.out]; decide,by rw [HA.out]⟩,b2⟩
  rw [results_ct rfl]
  go_simp
end
end Go.Proofs.YtdfjlmfnkhhnjaaGreatDoor.Stk
