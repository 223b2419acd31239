import Derived.Test.YtdfjlmfnkhhnjaaGreatDoorGe
import Derived.Test.YtdfjlmfnkhhnjaaGreatDoorGh
import Derived.Deep.RegionHeld3
set_option maxRecDepth 100000
set_option linter.unusedVariables false
set_option linter.unusedSimpArgs false
namespace Go.Proofs.YtdfjlmfnkhhnjaaGreatDoor.Stk
section
noncomputable def sv (v u : Vs) : Bool:=by classical exact decide (v = u)
theorem sv_true {v u : Vs} (h : v = u) : sv v u = true:=by unfold sv; simp [h]
theorem sv_false {v u : Vs} (h : ¬ v = u) : sv v u = false:=by unfold sv; simp [h]
theorem takeV {α : Type} {l : List α} {k : Nat} {p : α} (h : l[k]? = some p) : l.take (k + 1) = l.take k ++ [p]:=by rw [List.take_add_one,h]; rfl
theorem take_nextV {α : Type} {a b : List α} {k : Nat} {p : α} (hp : a[k]? = some p) (hq : b[k]? = some p) (h : a.take k = b.take k) : a.take (k + 1) = b.take (k + 1):=by
 rw [takeV hp,takeV hq,h]
theorem take_neV {α : Type} {a b : List α} {k : Nat} {p q : α} (hp : a[k]? = some p) (hq : b[k]? = some q) (h : ¬ p = q) : ¬ a = b:=by
 rintro rfl
 rw [hp] at hq
 injection hq with hq
 exact h hq
def vs0 : Vs:=⟨[],0,false,[],[]⟩
end
section
open Go.RowKit
abbrev vv (key : List UInt8) (seq : Int) (mk : Bool) (data : List UInt8) (a : Option Addr) (n cap : Nat) : Value := .agg #[str key,.int .i64 seq,.bool mk,str data,.slice a n cap]
structure Rv where
 v : Vs
 z : List En
 a : Option Addr
 c : Nat
def Rv.mv (r : Rv) : Value := .slice r.a (r.v.l.length + r.z.length) r.c
def rcs (r : Rv) : List Value := [str r.v.key,.int .i64 r.v.seq,.bool r.v.mkr,str r.v.data,.slice r.a r.v.l.length r.c]
def rcells (l : List Rv) : List Value:=(l.map rcs).flatten
theorem rcells_append (a b : List Rv) : rcells (a ++ b) = rcells a ++ rcells b:=by simp [rcells]
theorem rcells_length (l : List Rv) : (rcells l).length = l.length * 5:=by
 induction l with
 | nil => rfl
 | cons p l ih => simp [rcells,rcs] at ih ⊢; omega
theorem rcells_get {l : List Rv} {k : Nat} {p : Rv} (h : l[k]? = some p) (j : Nat) (hj : j < 5) : (rcells l)[k * 5 + j]? = (rcs p)[j]?:=by
 obtain ⟨hk,he⟩:=List.getElem?_eq_some_iff.1 h
 have e : l = l.take k ++ (p :: l.drop (k + 1)):=by
  rw [← he,List.getElem_cons_drop]
  simp
 have e2 : rcells l = rcells (l.take k) ++ (rcs p ++ rcells (l.drop (k + 1))):=by
  conv => lhs; rw [e]
  rw [rcells_append]
  rfl
 have hl : (rcells (l.take k)).length = k * 5:=by rw [rcells_length,List.length_take]; omega
 rw [e2,List.getElem?_append_right (by omega),hl,show k * 5 + j - k * 5 = j by omega,List.getElem?_append_left (by simp [rcs]; omega)]
theorem rcells_one (l : List Rv) : ∀ u ∈ rcells l,u.oneCell' = true:=by
 intro u hu
 unfold rcells at hu
 rw [List.mem_flatten] at hu
 obtain ⟨x,hx,hu⟩:=hu
 obtain ⟨p,_,rfl⟩:=List.mem_map.1 hx
 simp [rcs] at hu
 rcases hu with rfl | rfl | rfl | rfl | rfl <;> rfl
theorem infoVf : (Tryz.prog.info? 62).map (fun i => (i.zero,i.size,i.bytes)) = some (some (.agg #[.string ⟨#[]⟩,.int .i64 0,.bool false,.string ⟨#[]⟩,.slice none 0 0]),5,72):=by kernel_rfl
theorem infoV : ∃ i,Tryz.prog.info? 62 = some i ∧ i.zero = some (.agg #[.string ⟨#[]⟩,.int .i64 0,.bool false,.string ⟨#[]⟩,.slice none 0 0]) ∧ i.size = 5 ∧ i.bytes = 72:=by
 have:=infoVf
 cases hq : Tryz.prog.info? 62 with
 | none => rw [hq] at this; cases this
 | some i => rw [hq] at this; simp at this; exact ⟨i,rfl,this.1,this.2.1,this.2.2⟩
structure LIn (w : World) (a : Option Addr) (L : List Vs) : Prop where
 get : ∀ k v,L[k]? = some v → ∃ b off ma mc,a = some ⟨b,off,none⟩ ∧ b < w.heap.size ∧ w.cell? ⟨b,off + k * 5,none⟩ = some (str v.key) ∧ w.cell? ⟨b,off + k * 5 + 1,none⟩ = some (.int .i64 v.seq) ∧ w.cell? ⟨b,off + k * 5 + 2,none⟩ = some (.bool v.mkr) ∧ w.cell? ⟨b,off + k * 5 + 3,none⟩ = some (str v.data) ∧ w.cell? ⟨b,off + k * 5 + 4,none⟩ = some (.slice ma v.l.length mc) ∧ Sl w ma mc v.l
theorem LIn.later {w w' : World} {a : Option Addr} {L : List Vs} (h : LIn w a L) (hb : Below w.heap.size w w') : LIn w' a L:=by
 refine ⟨fun k v hk => ?_⟩
 obtain ⟨b,off,ma,mc,h1,h2,c0,c1,c2,c3,c4,s⟩:=h.get k v hk
 exact ⟨b,off,ma,mc,h1,Nat.lt_of_lt_of_le h2 hb.size,(hb.cell (p:=⟨b,_,none⟩) h2).trans c0,(hb.cell (p:=⟨b,_,none⟩) h2).trans c1,(hb.cell (p:=⟨b,_,none⟩) h2).trans c2,(hb.cell (p:=⟨b,_,none⟩) h2).trans c3,(hb.cell (p:=⟨b,_,none⟩) h2).trans c4,s.later hb⟩
structure Ls (w : World) (a : Option Addr) (cap : Nat) (L : List Vs) : Prop where
 at' : LIn w a L
 le : L.length ≤ cap
 max : cap ≤ 9223372036854775807
 nil : a = none → cap = 0
theorem Ls.later {w w' : World} {a : Option Addr} {cap : Nat} {L : List Vs} (h : Ls w a cap L) (hb : Below w.heap.size w w') : Ls w' a cap L:=⟨h.at'.later hb,h.le,h.max,h.nil⟩
theorem Ls.none (w : World) : Ls w none 0 []:=⟨⟨fun k v hk => by simp at hk⟩,Nat.le_refl _,by omega,fun _ => rfl⟩
def dropV (a : Option Addr) (cap n : Nat) : Option Addr:=match a with
 | none => none
 | some ad => if cap - n = 0 then some ad else some (ad.add (n * 5))
structure Fo (base : Nat) (w : World) (v : Value) (R : List Rv) : Prop where
 own : w.ownsRow base 62 5 v R.length (rcells R)
 le : base ≤ w.heap.size
 met : ∀ (k : Nat) (r : Rv),R[k]? = some r → Ow base w r.mv (r.v.l ++ r.z)
 par : ∀ (j k : Nat) (r r' : Rv),¬ j = k → R[j]? = some r → R[k]? = some r' → ∀ b,r.mv.ownBlock = some b → r'.mv.ownBlock ≠ some b
theorem own_type {base n : Nat} {w : World} {v : Value} {xs : List Value} {t : TypeId} {s : Nat} (h : w.ownsRow base t s v n xs) {g : Nat} (hg : v.ownBlock = some g) : ∃ cs,w.heap[g]? = some (.cells cs t (0,0)):=by
 rcases h.2 with ⟨e,h0⟩ | ⟨g',cap,cur,e,h2,h3,_⟩
 ·subst e; cases hg
 ·subst e
  have : g' = g:=by simpa [Value.ownBlock] using hg
  subst this
  exact ⟨_,h3⟩
theorem own_apart {base base' n m s s' : Nat} {w : World} {v v' : Value} {xs ys : List Value} {t t' : TypeId} (h : w.ownsRow base t s v n xs) (h' : w.ownsRow base' t' s' v' m ys) (ht : t ≠ t') {g : Nat} (hg : v.ownBlock = some g) : v'.ownBlock ≠ some g:=fun q => by
 obtain ⟨c1,e1⟩:=own_type h hg
 obtain ⟨c2,e2⟩:=own_type h' q
 rw [e1] at e2
 injection e2 with e2
 injection e2 with _ e2
 exact ht e2
theorem own_same {base n s : Nat} {w w' : World} {v : Value} {xs : List Value} {t : TypeId} (h : w.ownsRow base t s v n xs) (hb : ∀ g,v.ownBlock = some g → w'.heap[g]? = w.heap[g]?) : w'.ownsRow base t s v n xs:=by
 refine ⟨h.1,?_⟩
 rcases h.2 with e | ⟨g,cap,cur,e,h2,h3,h4⟩
 ·exact .inl e
 ·exact .inr ⟨g,cap,cur,e,h2,by rw [hb g (by rw [e]; rfl)]; exact h3,h4⟩
theorem _root_.Go.Proofs.YtdfjlmfnkhhnjaaGreatDoor.Ow.same {base : Nat} {w w' : World} {v : Value} {l : List En} (h : Ow base w v l) (hs : w.heap.size ≤ w'.heap.size) (hb : ∀ g,v.ownBlock = some g → w'.heap[g]? = w.heap[g]?) : Ow base w' v l:=⟨own_same h.own hb,Nat.le_trans h.le hs⟩
theorem Fo.nil (w : World) (base : Nat) (h : base ≤ w.heap.size) : Fo base w (.slice none 0 0) []:=⟨World.ownsRow_nil _ _ _ _,h,fun k r h => by simp at h,fun j k r r' _ h => by simp at h⟩
theorem Fo.later {base : Nat} {w w' : World} {v : Value} {R : List Rv} (h : Fo base w v R) (hb : Below w.heap.size w w') : Fo base w' v R:=⟨own_later h.own hb,Nat.le_trans h.le hb.size,fun k r hk => (h.met k r hk).later hb,h.par⟩
theorem Fo.base {b b' : Nat} {w : World} {v : Value} {R : List Rv} (h : Fo b w v R) (hb : b' ≤ b) : Fo b' w v R:=by
 refine ⟨⟨h.own.1,?_⟩,Nat.le_trans hb h.le,fun k r hk => (h.met k r hk).base hb,h.par⟩
 rcases h.own.2 with e | ⟨g,cap,cur,e1,e2,e3⟩
 ·exact Or.inl e
 ·exact Or.inr ⟨g,cap,cur,e1,Nat.le_trans hb e2,e3⟩
theorem _root_.Go.Proofs.YtdfjlmfnkhhnjaaGreatDoor.Ow.slPre {base : Nat} {w : World} {a : Option Addr} {n c : Nat} {l z : List En} (h : Ow base w (.slice a n c) (l ++ z)) : Sl w a c l:=by
 obtain ⟨a',c',e,s⟩:=h.sl
 injection e with e1 e2 e3
 subst e1 e3
 have:=s.take l.length
 rw [List.take_left] at this
 exact this
theorem Fo.ls {base : Nat} {w : World} {v : Value} {R : List Rv} (h : Fo base w v R) : ∃ a cap,v = .slice a R.length cap ∧ Ls w a cap (R.map (·.v)):=by
 rcases h.own.2 with ⟨rfl,h0⟩ | ⟨g,cap,cur,rfl,hg,hc,h1,h2,h3,h4⟩
 ·have : R = []:=List.eq_nil_of_length_eq_zero h0
  subst this
  exact ⟨none,0,rfl,Ls.none _⟩
 ·refine ⟨_,_,rfl,⟨fun k v hk => ?_⟩,by simpa using h1,h2,fun q => by cases q⟩
  rw [List.getElem?_map] at hk
  cases hq : R[k]? with
  | none => rw [hq] at hk; cases hk
  | some r =>
   rw [hq] at hk
   simp at hk
   subst hk
   have hkl : k < R.length:=(List.getElem?_eq_some_iff.1 hq).1
   have hlt:=(h.own.lt g rfl).2
   have hp : (rcells R).length = R.length * 5:=rcells_length R
   have hx : ∀ j,j < 5 → w.cell? ⟨g,k * 5 + j,none⟩ = (rcs r)[j]?:=fun j hj => by rw [h.own.cellAt _ (by omega),rcells_get hq j hj]
   refine ⟨g,0,r.a,r.c,rfl,hlt,?_,?_,?_,?_,?_,(h.met k r hq).slPre⟩
   ·rw [Nat.zero_add]; exact hx 0 (by omega)
   ·rw [Nat.zero_add]; exact hx 1 (by omega)
   ·rw [Nat.zero_add]; exact hx 2 (by omega)
   ·rw [Nat.zero_add]; exact hx 3 (by omega)
   ·rw [Nat.zero_add]; exact hx 4 (by omega)
structure Ad (base : Nat) (w : World) (v : Value) (R : List Rv) (r : Rv) : Prop where
 fo : Fo base w v R
 ow : Ow base w r.mv (r.v.l ++ r.z)
 ap : ∀ (k : Nat) (r' : Rv),R[k]? = some r' → ∀ b,r.mv.ownBlock = some b → r'.mv.ownBlock ≠ some b
theorem Fo.ad {base : Nat} {w w1 : World} {v : Value} {R : List Rv} {r : Rv} (h : Fo base w v R) (hb : Below w.heap.size w w1) (ho : Ow w.heap.size w1 r.mv (r.v.l ++ r.z)) : Ad base w1 v R r:=by
 refine ⟨h.later hb,ho.base h.le,fun k r' hk b hr hr' => ?_⟩
 have h1:=(ho.own.lt b hr).1
 have h2:=((h.met k r' hk).own.lt b hr').2
 omega
theorem app_v {ops : Array Oper} {rest : List Oper} {o : Oper} {a : Act} {Q : Exit → Act → World → Prop} {W : World} (hgd : o.guard = none) (s x : Operand) (ho : o.op = .call { callee := .builtin .append,args:=#[s,x],argTypes:=#[22,22] })
  {base : Nat} {w : World} {v : Value} {R : List Rv} {g : Nat} (r : Rv) (hW : W = w.alloc (.cells (rcs r).toArray 62)) (hA : Ad base w v R r) (hg : g = w.heap.size) (hn : R.length ≤ 1954687338260)
  (hs : a.eval s = v) (hx : a.eval x = .slice (some ⟨g,0,none⟩) 1 1)
  (h : ∀ g' cap w',Fo base w' (.slice (some ⟨g',0,none⟩) (R.length + 1) cap) (R ++ [r]) → Below base w w' → (∀ k,k < w.heap.size → v.ownBlock ≠ some k → w'.heap[k]? = w.heap[k]?) → (v.ownBlock = some g' ∨ w.heap.size ≤ g') → wpList Tryz.prog ops Q rest (a.put o.dst (.slice (some ⟨g',0,none⟩) (R.length + 1) cap)) w') :
  wpList Tryz.prog ops Q (o :: rest) a W:=by
 obtain ⟨i0,hi0,hz0,hz1,hz2⟩:=infoV
 subst hW hg
 have hm : maxLen = 9223372036854775807:=rfl
 have hO:=hA.fo
 refine wpList_append_lies _ hgd s x 22 ho base 62 i0 _ 5 72 Tryz.underlying22 hi0 hz0 hz1 hz2 rfl (by omega) v R.length (rcells R) hs (hO.own.alloc _) _ 1 1 (rcs r) hx rfl
  (World.news_of_block (cs:=(rcs r).toArray) (t:=62) (fr:=(0,0)) (heap_alloc_new w _)) (by simp [rcs,Value.oneCell']) (by omega) (by rw [hm]; omega) (by omega) (by have:=hO.le; simp; omega) _ rfl ?_
 intro g2 cap2 w' hown hgrow hat hlt
 have hk : ∀ k,k < w.heap.size → v.ownBlock ≠ some k → w'.heap[k]? = w.heap[k]?:=fun k hk hne => by rw [hgrow.block k (by simp; omega) (Ne.symm hne),heap_alloc_old _ _ hk]
 have hsz : w.heap.size ≤ w'.heap.size:=by have:=hgrow.size; simp at this; omega
 have hmk : ∀ x l,Ow base w x l → Ow base w' x l:=fun x l hx => hx.same hsz (fun g hg => hk g (hx.own.lt g hg).2 (fun q => own_apart hx.own hO.own (by decide) hg q))
 refine h g2 cap2 w' ⟨?_,?_,?_,?_⟩ ?_ hk ?_
 ·rw [rcells_append,List.length_append]
  have : rcells [r] = rcs r:=by simp [rcells]
  rw [this]; exact hown
 ·have:=hO.le; omega
 ·intro k q hq
  by_cases hkl : k < R.length
  ·rw [List.getElem?_append_left hkl] at hq
   exact hmk _ _ (hO.met k q hq)
  ·have hkl' : k = R.length:=by
    have:=(List.getElem?_eq_some_iff.1 hq).1
    simp at this; omega
   subst hkl'
   simp at hq
   subst hq
   exact hmk _ _ hA.ow
 ·intro j k q q' hjk hj hk' b hb
  by_cases hjl : j < R.length
  ·rw [List.getElem?_append_left hjl] at hj
   by_cases hkl : k < R.length
   ·rw [List.getElem?_append_left hkl] at hk'
    exact hO.par j k q q' hjk hj hk' b hb
   ·have hkl' : k = R.length:=by
     have:=(List.getElem?_eq_some_iff.1 hk').1
     simp at this; omega
    subst hkl'
    simp at hk'
    subst hk'
    exact fun q2 => hA.ap j q hj b q2 hb
  ·have hjl' : j = R.length:=by
    have:=(List.getElem?_eq_some_iff.1 hj).1
    simp at this; omega
   subst hjl'
   simp at hj
   subst hj
   have hkl : k < R.length:=by
    have:=(List.getElem?_eq_some_iff.1 hk').1
    simp at this; omega
   rw [List.getElem?_append_left hkl] at hk'
   exact hA.ap k q' hk' b hb
 ·exact ((Below.refl _ _).alloc hO.le _).trans (grown_below (hO.own.alloc _) (by have:=hO.le; simp; omega) hgrow)
 ·rcases hat with q | q
  ·exact .inl q
  ·right; simp at q; omega
def Cp (base : Nat) (w : World) (v : Value) (L : List Vs) : Prop := ∃ R,Fo base w v R ∧ R.map (·.v) = L ∧ ∀ r ∈ R,r.z = []
theorem Cp.nil (w : World) (base : Nat) (h : base ≤ w.heap.size) : Cp base w (.slice none 0 0) []:=⟨[],Fo.nil w base h,rfl,by simp⟩
theorem Cp.later {base : Nat} {w w' : World} {v : Value} {L : List Vs} (h : Cp base w v L) (hb : Below w.heap.size w w') : Cp base w' v L:=by
 obtain ⟨R,h1,h2,h3⟩:=h
 exact ⟨R,h1.later hb,h2,h3⟩
theorem Cp.base {b b' : Nat} {w : World} {v : Value} {L : List Vs} (h : Cp b w v L) (hb : b' ≤ b) : Cp b' w v L:=by
 obtain ⟨R,h1,h2,h3⟩:=h
 exact ⟨R,h1.base hb,h2,h3⟩
theorem Cp.ls {base : Nat} {w : World} {v : Value} {L : List Vs} (h : Cp base w v L) : ∃ a cap,v = .slice a L.length cap ∧ Ls w a cap L:=by
 obtain ⟨R,h1,h2,h3⟩:=h
 obtain ⟨a,cap,e,s⟩:=h1.ls
 rw [h2] at s
 have : R.length = L.length:=by rw [← h2,List.length_map]
 exact ⟨a,cap,by rw [e,this],s⟩
theorem app_cp {ops : Array Oper} {rest : List Oper} {o : Oper} {a : Act} {Q : Exit → Act → World → Prop} {W : World} (hgd : o.guard = none) (s x : Operand) (ho : o.op = .call { callee := .builtin .append,args:=#[s,x],argTypes:=#[22,22] })
  {base : Nat} {w w1 : World} {v : Value} {L : List Vs} {g : Nat} (u : Vs) {ma : Option Addr} {mn mc : Nat} (hu : mn = u.l.length) (hW : W = w1.alloc (.cells #[str u.key,.int .i64 u.seq,.bool u.mkr,str u.data,.slice ma mn mc] 62)) (hC : Cp base w v L) (hb : Below w.heap.size w w1) (hm : Ow w.heap.size w1 (.slice ma mn mc) u.l) (hg : g = w1.heap.size) (hn : L.length ≤ 1954687338260)
  (hs : a.eval s = v) (hx : a.eval x = .slice (some ⟨g,0,none⟩) 1 1)
  (h : ∀ v' w',Cp base w' v' (L ++ [u]) → Below base w w' → wpList Tryz.prog ops Q rest (a.put o.dst v') w') :
  wpList Tryz.prog ops Q (o :: rest) a W:=by
 obtain ⟨R,h1,h2,h3⟩:=hC
 subst hu
 have hl : R.length = L.length:=by rw [← h2,List.length_map]
 have hA : Ad base w1 v R ⟨u,[],ma,mc⟩:=h1.ad hb (by simpa [Rv.mv] using hm)
 refine app_v hgd s x ho ⟨u,[],ma,mc⟩ hW hA hg (by omega) hs hx ?_
 intro g' cap w' f b _ _
 refine h _ w' ⟨_,f,by rw [List.map_append,h2]; rfl,?_⟩ ((hb.mono h1.le).trans b)
 intro r hr
 rcases List.mem_append.1 hr with q | q
 ·exact h3 r q
 ·simp at q; subst q; rfl
end
section
open Go.RowKit
attribute [local go_sem ↓] Go.wp_at_zero Go.wp_at_succ
attribute [local go_sem ↓] slPe
theorem app_oneB {ops : Array Oper} {rest : List Oper} {o : Oper} {a : Act} {Q : Exit → Act → World → Prop} {W : World} (hgd : o.guard = none) (s x : Operand) (ho : o.op = .call { callee := .builtin .append,args:=#[s,x],argTypes:=#[43,43] })
  {base : Nat} {w : World} {v : Value} {l : List En} {g : Nat} (p : En) (hW : W = w.alloc (.cells #[str p.key,str p.val] 49)) (hO : Ow base w v l) (hg : g = w.heap.size) (hn : l.length ≤ 4500000000000)
  (hs : a.eval s = v) (hx : a.eval x = .slice (some ⟨g,0,none⟩) 1 1)
  (h : ∀ v' w',Ow base w' v' (l ++ [p]) → Below base w w' → wpList Tryz.prog ops Q rest (a.put o.dst v') w') :
  wpList Tryz.prog ops Q (o :: rest) a W:=by
 obtain ⟨i0,hi0,hz0,hz1,hz2⟩:=infoP
 subst hW hg
 have hm : maxLen = 9223372036854775807:=rfl
 refine wpList_append_own_wide _ hgd s x 43 ho base 49 i0 _ 2 32 Tryz.underlying43 hi0 hz0 hz1 hz2 rfl (by omega) v l.length (pcells l) hs (hO.own.alloc _) _ 1 1 (pcs p) hx rfl
  (World.news_of_block (cs:=#[str p.key,str p.val]) (t:=49) (fr:=(0,0)) (heap_alloc_new w _)) (by simp [pcs,Value.oneCell']) (by rw [hm]; omega) (by omega) (by have:=hO.le; simp; omega) ?_
 intro v' w' hown hgrow _
 refine h v' w' ⟨?_,?_⟩ ?_
 ·rw [pcells_append,List.length_append]
  have : pcells [p] = pcs p:=by simp [pcells]
  rw [this]; exact hown
 ·have:=hgrow.size; have h2:=hO.le; simp at this; omega
 ·exact ((Below.refl _ _).alloc hO.le _).trans (grown_below (hO.own.alloc _) (by have:=hO.le; simp; omega) hgrow)
theorem app_sliceB {ops : Array Oper} {rest : List Oper} {o : Oper} {a : Act} {Q : Exit → Act → World → Prop} {w : World} (hgd : o.guard = none) (s x : Operand) (ho : o.op = .call { callee := .builtin .append,args:=#[s,x],argTypes:=#[43,43] })
  {base : Nat} {v : Value} {l : List En} {ad : Option Addr} {k c : Nat} (q : List En) (hO : Ow base w v l) (hS : Sl w ad c q) (hk : q.length = k) (hn : l.length + q.length ≤ 4500000000000)
  (hs : a.eval s = v) (hx : a.eval x = .slice ad k c)
  (h : ∀ v' w',Ow base w' v' (l ++ q) → Below base w w' → wpList Tryz.prog ops Q rest (a.put o.dst v') w') :
  wpList Tryz.prog ops Q (o :: rest) a w:=by
 obtain ⟨i0,hi0,hz0,hz1,hz2⟩:=infoP
 have hm : maxLen = 9223372036854775807:=rfl
 subst hk
 cases ad with
 | none =>
  have hc:=hS.nil rfl
  have h0 : q.length = 0:=by have:=hS.le; omega
  have hq : q = []:=List.eq_nil_of_length_eq_zero h0
  subst hq hc
  refine wpList_plain hgd fun K hK' => ?_
  have hrun:=run_append_owned_none (P:=Tryz.prog) w base 43 o.type 49 i0 2 Tryz.underlying43 hi0 _ l.length (pcells l) hO.own
  unfold Oper.wp
  simp [execOp,ho,resolve,invoke,builtin,hs,hx,hrun,Result.andThen]
  exact hK' _ _ (h v w (by simpa using hO) (Below.refl _ _))
 | some ad =>
  have hspot : q.length = 0 ∨ ad.spot = none:=by
   rcases Nat.eq_zero_or_pos q.length with h0 | h0
   ·exact Or.inl h0
   ·obtain ⟨b,off,e,_⟩:=hS.at'.get 0 q[0] (List.getElem?_eq_getElem h0)
    injection e with e
    exact Or.inr (by rw [e])
  have hcells : ∀ j u,(pcells q)[j]? = some u → w.cell? (ad.add j) = some u:=by
   rcases hspot with h0 | h0
   ·intro j u hj
    have hq : q = []:=List.eq_nil_of_length_eq_zero h0
    subst hq
    simp [pcells] at hj
   ·obtain ⟨b,off,sp⟩:=ad
    simp at h0
    subst h0
    exact hS.at'.cells
  refine wpList_append_own_wide _ hgd s x 43 ho base 49 i0 _ 2 32 Tryz.underlying43 hi0 hz0 hz1 hz2 rfl (by omega) v l.length (pcells l) hs hO.own ad q.length c (pcells q) hx (pcells_length q) hcells (pcells_one q) (by rw [hm]; omega) (by omega) hO.le ?_
  intro v' w' hown hgrow _
  refine h v' w' ⟨?_,?_⟩ (grown_below hO.own hO.le hgrow)
  ·rw [pcells_append,List.length_append]; exact hown
  ·have:=hgrow.size; have h2:=hO.le; omega
def mk : En:=⟨[109,97,114,107],[]⟩
def Bv (w : World) (g : Nat) (x y z u v : Value) : Prop:=w.heap[g]? = some (.cells #[x,y,z,u,v] 62 (0,0))
theorem Bv.lt {w : World} {g : Nat} {x y z u v : Value} (h : Bv w g x y z u v) : g < w.heap.size:=(Array.getElem?_eq_some_iff.1 h).1
theorem Bv.cells {w : World} {g : Nat} {x y z u v : Value} (h : Bv w g x y z u v) : w.cell? ⟨g,0,none⟩ = some x ∧ w.cell? ⟨g,1,none⟩ = some y ∧ w.cell? ⟨g,2,none⟩ = some z ∧ w.cell? ⟨g,3,none⟩ = some u ∧ w.cell? ⟨g,4,none⟩ = some v ∧ ∀ j,w.frozen? ⟨g,j,none⟩ = false:=by
 refine ⟨?_,?_,?_,?_,?_,fun j => frozen_of_row _ _ _ _ _ h⟩
 all_goals rw [cell_of_row _ _ _ _ _ _ h]; rfl
theorem Bv.later {w w' : World} {g : Nat} {x y z u v : Value} (h : Bv w g x y z u v) (hb : Below w.heap.size w w') : Bv w' g x y z u v:=by
 unfold Bv
 rw [hb.block g h.lt]; exact h
theorem Bv.new (w : World) (x y z u v : Value) : Bv (w.alloc (.cells #[x,y,z,u,v] 62)) w.heap.size x y z u v:=heap_alloc_new _ _
theorem Bv.other {w : World} {g : Nat} {x y z u v : Value} (h : Bv w g x y z u v) {g2 j : Nat} (hg : g ≠ g2) (c : Value) : Bv (w.setCell ⟨g2,j,none⟩ c) g x y z u v:=by
 unfold Bv
 rw [heap_setCell_other _ _ _ _ (by first | exact hg | exact hg.symm)]; exact h
theorem Bv.set0 {w : World} {g : Nat} {x y z u v : Value} (h : Bv w g x y z u v) (c : Value) : Bv (w.setCell ⟨g,0,none⟩ c) g c y z u v:=by
 unfold Bv
 rw [heap_setCell_same _ _ _ _ _ _ h]; rfl
theorem Bv.set1 {w : World} {g : Nat} {x y z u v : Value} (h : Bv w g x y z u v) (c : Value) : Bv (w.setCell ⟨g,1,none⟩ c) g x c z u v:=by
 unfold Bv
 rw [heap_setCell_same _ _ _ _ _ _ h]; rfl
theorem Bv.set2 {w : World} {g : Nat} {x y z u v : Value} (h : Bv w g x y z u v) (c : Value) : Bv (w.setCell ⟨g,2,none⟩ c) g x y c u v:=by
 unfold Bv
 rw [heap_setCell_same _ _ _ _ _ _ h]; rfl
theorem Bv.set3 {w : World} {g : Nat} {x y z u v : Value} (h : Bv w g x y z u v) (c : Value) : Bv (w.setCell ⟨g,3,none⟩ c) g x y z c v:=by
 unfold Bv
 rw [heap_setCell_same _ _ _ _ _ _ h]; rfl
theorem Bv.set4 {w : World} {g : Nat} {x y z u v : Value} (h : Bv w g x y z u v) (c : Value) : Bv (w.setCell ⟨g,4,none⟩ c) g x y z u c:=by
 unfold Bv
 rw [heap_setCell_same _ _ _ _ _ _ h]; rfl
theorem _root_.Go.Proofs.YtdfjlmfnkhhnjaaGreatDoor.Ow.other {base : Nat} {w : World} {v : Value} {l : List En} (h : Ow base w v l) {g j : Nat} (hg : v.ownBlock ≠ some g) (c : Value) : Ow base (w.setCell ⟨g,j,none⟩ c) v l :=
 ⟨ownsRow_setCell_other h.own (a:=⟨g,_,none⟩) hg _,by simpa using h.le⟩
def s5 (w : World) (R : Nat) (a b c d e : Value) : World:=((((w.setCell ⟨R,0,none⟩ a).setCell ⟨R,1,none⟩ b).setCell ⟨R,2,none⟩ c).setCell ⟨R,3,none⟩ d).setCell ⟨R,4,none⟩ e
theorem s5_eq (w : World) (R : Nat) (a b c d e : Value) : ((((w.setCell ⟨R,0,none⟩ a).setCell ⟨R,1,none⟩ b).setCell ⟨R,2,none⟩ c).setCell ⟨R,3,none⟩ d).setCell ⟨R,4,none⟩ e = s5 w R a b c d e:=rfl
theorem Bv.s5 {w : World} {R : Nat} {x y z u v : Value} (h : Bv w R x y z u v) (a b c d e : Value) : Bv (s5 w R a b c d e) R a b c d e:=((((h.set0 a).set1 b).set2 c).set3 d).set4 e
theorem _root_.Go.Proofs.YtdfjlmfnkhhnjaaGreatDoor.Ow.s5 {base : Nat} {w : World} {v : Value} {l : List En} (h : Ow base w v l) {R : Nat} (hg : v.ownBlock ≠ some R) (a b c d e : Value) : Ow base (s5 w R a b c d e) v l:=((((h.other hg a).other hg b).other hg c).other hg d).other hg e
theorem Below.s5 {B : Nat} {w w' : World} (h : Below B w w') {R : Nat} (hR : B ≤ R) (a b c d e : Value) : Below B w (s5 w' R a b c d e) :=
 ((((h.setCell (p:=⟨R,0,none⟩) hR a).setCell (p:=⟨R,1,none⟩) hR b).setCell (p:=⟨R,2,none⟩) hR c).setCell (p:=⟨R,3,none⟩) hR d).setCell (p:=⟨R,4,none⟩) hR e
theorem results_cell1 {fn : Func} {p : Tmp} {ty : TypeId} (h : fn.results = #[.cell p ty]) (tmps : Array Value) (P : Program) (w : World) :
  (results fn tmps).run P w = ((asAddr (tmps.getD p undef)).run P w).andThen fun a w₁ => (loadVar ty a).run P w₁:=by
 simp only [results,h]
 simp [Sem.run_bind,Result.andThen]
theorem Fo.other {base : Nat} {w : World} {v : Value} {R : List Rv} (h : Fo base w v R) {g j : Nat} (hg : v.ownBlock ≠ some g) (hm : ∀ (k : Nat) (r : Rv),R[k]? = some r → r.mv.ownBlock ≠ some g) (c : Value) : Fo base (w.setCell ⟨g,j,none⟩ c) v R :=
 ⟨ownsRow_setCell_other h.own (a:=⟨g,_,none⟩) hg _,by simpa using h.le,fun k r hk => (h.met k r hk).other (hm k r hk) c,h.par⟩
end
section
open Go.RowKit
attribute [local go_sem ↓] Go.wp_at_zero Go.wp_at_succ
attribute [local go_sem ↓] slPe
end
section
open Go.RowKit
attribute [local go_sem ↓] Go.wp_at_zero Go.wp_at_succ
attribute [local go_sem ↓] slPe
end
section
open Go.RowKit
structure Vi (w : World) (v : Vs) (a : Option Addr) (n c : Nat) : Prop where
 n : v.l.length = n
 s : Sl w a c v.l
 z : v.l.length ≤ 4398046510976
theorem Vi.later {w w' : World} {v : Vs} {a : Option Addr} {n c : Nat} (h : Vi w v a n c) (hb : Below w.heap.size w w') : Vi w' v a n c:=⟨h.n,h.s.later hb,h.z⟩
structure Li (w : World) (L : List Vs) (a : Option Addr) (n c : Nat) : Prop where
 n : L.length = n
 s : Ls w a c L
 l : L.length ≤ 1954687338240
 z : ∀ v ∈ L,v.l.length ≤ 4398046510976
theorem Li.later {w w' : World} {L : List Vs} {a : Option Addr} {n c : Nat} (h : Li w L a n c) (hb : Below w.heap.size w w') : Li w' L a n c:=⟨h.n,h.s.later hb,h.l,h.z⟩
end
end Go.Proofs.YtdfjlmfnkhhnjaaGreatDoor.Stk
