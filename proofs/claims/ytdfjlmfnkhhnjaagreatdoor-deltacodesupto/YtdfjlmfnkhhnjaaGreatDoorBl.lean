import Derived.Test.YtdfjlmfnkhhnjaaGreatDoorBPk
import Derived.Test.YtdfjlmfnkhhnjaaGreatDoorQe
import Derived.Test.YtdfjlmfnkhhnjaaGreatDoorQg
import Derived.Test.YtdfjlmfnkhhnjaaGreatDoorQx
import Derived.Deep.RegionHeld3
import Derived.Deep.CutRange
set_option maxRecDepth 100000
set_option linter.unusedVariables false
set_option linter.unusedSimpArgs false
namespace Go.Proofs.YtdfjlmfnkhhnjaaGreatDoor
section
open Go.RowKit
open Stk (Rv rcs rcells rcells_append rcells_length rcells_get infoV)
def rvL (s : List UInt8) : List It → Nat → Option (List Vs)
 | [],_ => some []
 | x :: l,p => if x.size.toNat ≤ s.length - p then (rvL s l (min s.length (p + x.size.toNat + fil x.size.toNat))).map (fun M => ⟨x.key,x.seq,x.mkr,(s.drop p).take x.size.toNat,x.l⟩ :: M) else none
theorem rv_of_vo (s : List UInt8) : ∀ (l : List It) (p : Nat) (L : List Vs),p ≤ s.length → voL l (s.drop p) = some L → rvL s l p = some L
 | [],p,L,_,h => by simpa [voL,rvL] using h
 | x :: l,p,L,hp,h => by
  unfold voL at h
  split at h
  ·next hc =>
   rw [List.length_drop] at hc
   unfold rvL
   rw [if_pos (by omega),Nat.min_eq_right (by omega)]
   rw [List.drop_drop] at h
   cases hv : voL l (s.drop (p + (x.size.toNat + fil x.size.toNat))) with
   | none => rw [hv] at h; cases h
   | some M =>
    rw [hv] at h
    have:=rv_of_vo s l (p + x.size.toNat + fil x.size.toNat) M (by omega) (by rw [Nat.add_assoc]; exact hv)
    rw [this]
    exact h
  ·cases h
theorem rvL_step {s : List UInt8} {x : It} {l : List It} {p sz : Nat} (hs : x.size = (sz : Int)) (h : sz ≤ s.length - p) : rvL s (x :: l) p = (rvL s l (min s.length (p + sz + fil sz))).map (fun M => ⟨x.key,x.seq,x.mkr,(s.drop p).take sz,x.l⟩ :: M):=by
 have e : x.size.toNat = sz:=by rw [hs]; rfl
 conv => lhs; unfold rvL
 rw [e,if_pos h]
theorem rvL_stop {s : List UInt8} {x : It} {l : List It} {p sz : Nat} (hs : x.size = (sz : Int)) (h : ¬ sz ≤ s.length - p) : rvL s (x :: l) p = none:=by
 have e : x.size.toNat = sz:=by rw [hs]; rfl
 unfold rvL
 rw [e,if_neg h]
theorem rvL_mem (s : List UInt8) : ∀ (l : List It) (p : Nat) (L : List Vs),rvL s l p = some L → L.length = l.length ∧ ∀ v ∈ L,∃ x ∈ l,v.l = x.l
 | [],p,L,h => by
  have h : some [] = some L:=h
  injection h with h
  subst h
  exact ⟨rfl,fun v hv => by simp at hv⟩
 | x :: l,p,L,h => by
  unfold rvL at h
  split at h
  ·cases hv : rvL s l (min s.length (p + x.size.toNat + fil x.size.toNat)) with
   | none => rw [hv] at h; cases h
   | some M =>
    rw [hv] at h
    injection h with h
    subst h
    obtain ⟨h1,h2⟩:=rvL_mem s l _ M hv
    refine ⟨by simp [h1],fun v hv => ?_⟩
    rcases List.mem_cons.1 hv with rfl | hv
    ·exact ⟨x,List.mem_cons_self ..,rfl⟩
    ·obtain ⟨y,hy,e⟩:=h2 v hv
     exact ⟨y,List.mem_cons_of_mem _ hy,e⟩
  ·cases h
theorem run_sliceQ {w : World} {base : Nat} {v : Value} {l : List En} (ty : TypeId) {ad : Option Addr} {k c : Nat} (q : List En) (hO : Ow base w v l) (hS : Sl w ad c q) (hk : q.length = k) (hn : l.length + q.length ≤ 4500000000000) :
  ∃ v' w',(Builtin.append_ #[43,43] ty #[v,.slice ad k c]).run Tryz.prog w = .ok v' w' ∧ Ow base w' v' (l ++ q) ∧ Below base w w':=by
 obtain ⟨i0,hi0,hz0,hz1,hz2⟩:=infoP
 have hm : maxLen = 9223372036854775807:=rfl
 subst hk
 cases ad with
 | none =>
  have hc:=hS.nil rfl
  have h0 : q.length = 0:=by have:=hS.le; omega
  have hq : q = []:=List.eq_nil_of_length_eq_zero h0
  subst hq hc
  exact ⟨v,w,run_append_owned_none (P:=Tryz.prog) w base 43 ty 49 i0 2 Tryz.underlying43 hi0 _ l.length (pcells l) hO.own,by simpa using hO,Below.refl _ _⟩
 | some ad =>
  have hcells : ∀ j u,(pcells q)[j]? = some u → w.cell? (ad.add j) = some u:=by
   rcases Nat.eq_zero_or_pos q.length with h0 | h0
   ·intro j u hj
    have hq : q = []:=List.eq_nil_of_length_eq_zero h0
    subst hq
    simp [pcells] at hj
   ·obtain ⟨b,off,e,_⟩:=hS.at'.get 0 q[0] (List.getElem?_eq_getElem h0)
    injection e with e
    subst e
    exact hS.at'.cells
  obtain ⟨v',w',hr,hown,hgrow,_⟩:=run_append_own_wide (P:=Tryz.prog) w base 43 ty 49 i0 _ 2 32 Tryz.underlying43 hi0 hz0 hz1 hz2 rfl (by omega) v l.length (pcells l) hO.own ad q.length c (pcells q) (pcells_length q) hcells (pcells_one q) (by rw [hm]; omega) (by omega) hO.le
  refine ⟨v',w',hr,⟨?_,?_⟩,grown_below hO.own hO.le hgrow⟩
  ·rw [pcells_append,List.length_append]; exact hown
  ·have:=hgrow.size; have h2:=hO.le; omega
theorem ow_form {base : Nat} {w : World} {v : Value} {l : List En} (h : Ow base w v l) : ∃ a c,v = .slice a l.length c:=by
 rcases h.own.2 with ⟨e,h0⟩ | ⟨g,cap,cur,e,_⟩
 ·exact ⟨none,0,by rw [e,h0]⟩
 ·exact ⟨_,cap,e⟩
structure Uk (W0 w : World) (g8 : Nat) (nx : Int) (v : Value) (R : List Rv) : Prop where
 box : Bb2 w g8 nx v
 own : w.ownsRow (g8 + 1) 62 5 v R.length (rcells R)
 le : g8 + 1 ≤ w.heap.size
 met : ∀ r ∈ R,r.z = [] ∧ Ow (g8 + 1) w r.mv r.v.l
 bel : Below g8 W0 w
theorem Uk.later {W0 w w' : World} {g8 : Nat} {nx : Int} {v : Value} {R : List Rv} (h : Uk W0 w g8 nx v R) (hb : Below w.heap.size w w') : Uk W0 w' g8 nx v R :=
 ⟨h.box.later hb,own_later h.own hb,Nat.le_trans h.le hb.size,fun r hr => ⟨(h.met r hr).1,(h.met r hr).2.later hb⟩,h.bel.trans (hb.mono (by have:=h.le; omega))⟩
theorem ow_keep {base : Nat} {w w' : World} {v : Value} {l : List En} (h : Ow base w v l) (hs : w.heap.size ≤ w'.heap.size) (hb : ∀ g,v.ownBlock = some g → w'.heap[g]? = w.heap[g]?) : Ow base w' v l:=⟨own_keep h.own hb,Nat.le_trans h.le hs⟩
theorem bb2_ne {w : World} {g : Nat} {n : Int} {q v : Value} {B s m : Nat} {t : TypeId} {xs : List Value} (h : Bb2 w g n q) (ho : w.ownsRow B t s v m xs) (ht : t ≠ 24) : v.ownBlock ≠ some g:=fun e => by
 obtain ⟨cs,e2⟩:=own_type ho e
 unfold Bb2 at h
 rw [h] at e2
 injection e2 with e2
 injection e2 with _ e2 _
 exact ht e2.symm
theorem Uk.more {W0 w : World} {g8 : Nat} {nx : Int} {v : Value} {R : List Rv} (h : Uk W0 w g8 nx v R) (r : Rv) (hz : r.z = []) (hm : Ow (g8 + 1) w r.mv r.v.l) (hn : R.length ≤ 1000000000) :
  ∃ g' c' w',(∀ ty,(Builtin.append_ #[22,22] ty #[v,.slice (some ⟨w.heap.size,0,none⟩) 1 1]).run Tryz.prog (w.alloc (.cells (rcs r).toArray 62)) = .ok (.slice (some ⟨g',0,none⟩) (R.length + 1) c') w') ∧ Bb2 w' g8 nx v ∧ Uk W0 (w'.setCell ⟨g8,1,none⟩ (.slice (some ⟨g',0,none⟩) (R.length + 1) c')) g8 nx (.slice (some ⟨g',0,none⟩) (R.length + 1) c') (R ++ [r]):=by
 obtain ⟨g',c',w',hr,hown,hb,hk⟩:=run_av r h.own h.le hn
 have hle:=h.le
 have hsz : w.heap.size ≤ w'.heap.size:=hb.size
 have hbx : Bb2 w' g8 nx v:=h.box.oth (hk g8 (lt_of_block h.box) (bb2_ne h.box h.own (by decide)))
 have hvp : ∀ (x : Rv),Ow (g8 + 1) w x.mv x.v.l → ∀ g,x.mv.ownBlock = some g → w'.heap[g]? = w.heap[g]?:=fun x hx g hg => by
  refine hk g (hx.own.lt g hg).2 (fun q => ?_)
  obtain ⟨c1,e1⟩:=own_type hx.own hg
  obtain ⟨c2,e2⟩:=own_type h.own q
  rw [e1] at e2
  injection e2 with e2
  injection e2 with _ e2 _
  exact absurd e2 (by decide)
 have hset : ∀ (x : Rv),Ow (g8 + 1) w' x.mv x.v.l → Ow (g8 + 1) (w'.setCell ⟨g8,1,none⟩ (.slice (some ⟨g',0,none⟩) (R.length + 1) c')) x.mv x.v.l:=fun x hx => ow_keep hx (by simp) (fun g hg => hso _ _ (by have:=(hx.own.lt g hg).1; omega))
 refine ⟨g',c',w',hr,hbx,⟨hbx.set1 _,?_,by simpa using Nat.le_trans h.le hsz,fun x hx => ?_,(h.bel.trans (hb.mono (by omega))).setCell (p:=⟨g8,1,none⟩) (Nat.le_refl _) _⟩⟩
 ·have:=own_keep (w':=w'.setCell ⟨g8,1,none⟩ (.slice (some ⟨g',0,none⟩) (R.length + 1) c')) hown (fun g hg => hso _ _ (by have:=(hown.lt g hg).1; omega))
  simpa using this
 ·rcases List.mem_append.1 hx with hx | hx
  ·exact ⟨(h.met x hx).1,hset x (ow_keep (h.met x hx).2 hsz (hvp x (h.met x hx).2))⟩
  ·have e : x = r:=by simpa using hx
   subst e
   exact ⟨hz,hset x (ow_keep hm hsz (hvp x hm))⟩
theorem Uk.vin {W0 w : World} {g8 : Nat} {nx : Int} {a : Option Addr} {n c : Nat} {R : List Rv} (h : Uk W0 w g8 nx (.slice a n c) R) : VIn w a (R.map (·.v)):=by
 refine ⟨fun k v hk => ?_⟩
 rw [List.getElem?_map] at hk
 cases hr : R[k]? with
 | none => rw [hr] at hk; cases hk
 | some r =>
  rw [hr] at hk
  simp at hk
  subst hk
  have hkl:=(List.getElem?_eq_some_iff.1 hr).1
  rcases h.own.2 with ⟨e,h0⟩ | ⟨g,cap,cur,e,h2,h3,_⟩
  ·omega
  ·injection e with e1 e2 e3
   subst e1 e2
   have hc : ∀ j u,j < 5 → (rcs r)[j]? = some u → w.cell? ⟨g,0 + k * 5 + j,none⟩ = some u:=fun j u hj hu => by
    have hl:=rcells_length R
    have hce : w.cell? ⟨g,k * 5 + j,none⟩ = (rcells R)[k * 5 + j]?:=h.own.cellAt (k * 5 + j) (by omega)
    rw [Nat.zero_add,hce,rcells_get hr j hj]
    exact hu
   obtain ⟨hz,ho⟩:=h.met r (List.mem_of_getElem? hr)
   have hmv : r.mv = .slice r.a r.v.l.length r.c:=by unfold Rv.mv; rw [hz]; rfl
   rw [hmv] at ho
   exact ⟨g,0,r.a,r.c,rfl,lt_of_block h3,hc 0 _ (by omega) rfl,hc 1 _ (by omega) rfl,hc 2 _ (by omega) rfl,hc 3 _ (by omega) rfl,hc 4 _ (by omega) rfl,ho.asSl2⟩
def RmS (a : Option Addr) (n c : Nat) : Prop:=n ≤ c ∧ c ≤ 9223372036854775807 ∧ (a = none → c = 0)
theorem Uk.room {W0 w : World} {g8 : Nat} {nx : Int} {a : Option Addr} {n c : Nat} {R : List Rv} (h : Uk W0 w g8 nx (.slice a n c) R) : RmS a R.length c:=by
 rcases h.own.2 with ⟨e,h0⟩ | ⟨g,cap,cur,e,hg,hc,h1,h2,h3,h4⟩
 ·injection e with e1 e2 e3
  subst e1 e3
  exact ⟨by omega,by decide,fun _ => rfl⟩
 ·injection e with e1 e2 e3
  subst e1 e3
  exact ⟨h1,h2,fun q => by cases q⟩
def UnV (s : List UInt8) (w : World) (e : Ending) (w' : World) : Prop :=
 ((∃ (L : List Vs) (next since : Int) (va : Option Addr) (vc : Nat),Arc s L next since ∧ e = .returned (.tuple #[.agg #[.int .i64 next,.slice va L.length vc],.int .i64 since,.int .i64 0]) ∧ VIn w' va L ∧ RmS va L.length vc) ∨
  ((∀ L n c,¬ Arc s L n c) ∧ e = .returned (.tuple #[.agg #[.int .i64 0,.slice none 0 0],.int .i64 0,.int .i64 90]))) ∧ Below w.heap.size w w'
end
section
open Go.RowKit
open Go.Proofs.YtdfjlmfnkhhnjaaGreatDoorP (TB)
open Go.Proofs.YtdfjlmfnkhhnjaaGreatDoorH (KIn)
open Stk (Rv rcs rcells rcells_append rcells_length rcells_get infoV)
attribute [local go_sem ↓] Go.wp_at_zero Go.wp_at_succ ad9 Go.Proofs.YtdfjlmfnkhhnjaaGreatDoorP.sl9 ldQe stQe
attribute [-go_sem] Go.Builtin.append_
theorem cell_heapQ {w w' : World} {b : Nat} (h : w'.heap[b]? = w.heap[b]?) (j : Nat) : w'.cell? ⟨b,j,none⟩ = w.cell? ⟨b,j,none⟩:=by
 unfold World.cell?
 simp only [h]
theorem run_cutQ (s : List UInt8) (i j : Nat) (h1 : i ≤ j) (h2 : j ≤ s.length) (w : World) : (Go.Proofs.YtdfjlmfnkhhnjaaGreatDoorP.slS (str s) (some (.int .i64 (i : Int))) (some (.int .i64 (j : Int))) none).run Tryz.prog w = .ok (str ((s.drop i).take (j - i))) w:=by
 have h:=Go.Proofs.YtdfjlmfnkhhnjaaGreatDoorP.run_slS ⟨s.toArray⟩ i j h1 (by rw [str_size]; exact h2) w
 have e : Value.string ((⟨s.toArray⟩ : ByteArray).extract i j) = str ((s.drop i).take (j - i)):=by
  rw [← str_data,Go.Proofs.YtdfjlmfnkhhnjaaGreatDoorP.ext_mid]
 rw [e] at h
 exact h
theorem vin_boxQ {w : World} {a : Option Addr} {L : List Vs} (h : VIn w a L) {g : Nat} {n : Int} {q : Value} (hb : Bb2 w g n q) (hq : ∀ s,q ≠ .string s) (x y : Value) : VIn ((w.setCell ⟨g,0,none⟩ x).setCell ⟨g,1,none⟩ y) a L:=by
 have hk : ∀ k,k ≠ g → ((w.setCell ⟨g,0,none⟩ x).setCell ⟨g,1,none⟩ y).heap[k]? = w.heap[k]?:=fun k hk => by rw [hso _ _ hk,hso _ _ hk]
 have hne : ∀ b j s,w.cell? ⟨b,j,none⟩ = some (.string s) → b ≠ g:=fun b j s hc e => by
  subst e
  rw [cell_of_row _ _ _ _ _ _ hb] at hc
  rcases j with _ | _ | j
  ·injection hc with hc; cases hc
  ·injection hc with hc; exact hq _ hc
  ·cases hc
 refine ⟨fun k v hv => ?_⟩
 obtain ⟨b,off,ma,mc,h1,h2,c0,c1,c2,c3,c4,s⟩:=h.get k v hv
 have hb1:=hk b (hne _ _ _ c0)
 refine ⟨b,off,ma,mc,h1,by simpa using h2,(cell_heapQ hb1 _).trans c0,(cell_heapQ hb1 _).trans c1,(cell_heapQ hb1 _).trans c2,(cell_heapQ hb1 _).trans c3,(cell_heapQ hb1 _).trans c4,⟨⟨fun i p hp => ?_⟩,s.le,s.max,s.nil⟩⟩
 obtain ⟨b',off',e1,e2,k0,k1⟩:=s.at'.get i p hp
 have hb2:=hk b' (hne _ _ _ k0)
 exact ⟨b',off',e1,by simpa using e2,(cell_heapQ hb2 _).trans k0,(cell_heapQ hb2 _).trans k1⟩
theorem Uk.start (w : World) (nx : Int) : Uk (w.alloc (.cells #[.int .i64 nx,.slice none 0 0] 24)) (w.alloc (.cells #[.int .i64 nx,.slice none 0 0] 24)) w.heap.size nx (.slice none 0 0) [] :=
 ⟨Bb2.new _ _ _,World.ownsRow_nil _ _ _ _,by simp,fun r h => by simp at h,Below.refl _ _⟩
theorem ow_mon {b b' : Nat} {w : World} {v : Value} {l : List En} (h : Ow b w v l) (hb : b' ≤ b) : Ow b' w v l:=by
 refine ⟨⟨h.own.1,?_⟩,Nat.le_trans hb h.le⟩
 rcases h.own.2 with q | ⟨g,cap,cur,h1,h2,h3⟩
 ·exact Or.inl q
 ·exact Or.inr ⟨g,cap,cur,h1,Nat.le_trans hb h2,h3⟩
theorem copy_pairs {w : World} {ma : Option Addr} {mc : Nat} {l : List En} (hS : Sl w ma mc l) (hl : l.length ≤ 4400000000000) :
  ∃ ma2 mc2 w',(∀ ty,(Builtin.append_ #[43,43] ty #[.slice none 0 0,.slice ma l.length mc]).run Tryz.prog w = .ok (.slice ma2 l.length mc2) w') ∧ Ow w.heap.size w' (.slice ma2 l.length mc2) l ∧ Below w.heap.size w w':=by
 have h:=fun ty => run_sliceQ ty l (Ow.nil w w.heap.size (Nat.le_refl _)) hS rfl (by simp; omega)
 obtain ⟨v1,w1,hr,ho,hb⟩:=h 43
 rw [List.nil_append] at ho
 obtain ⟨a,c,e⟩:=ow_form ho
 subst e
 refine ⟨a,c,w1,fun ty => ?_,ho,hb⟩
 have e : ∀ ty,(Builtin.append_ #[43,43] ty #[.slice none 0 0,.slice ma l.length mc]) = (Builtin.append_ #[43,43] 43 #[.slice none 0 0,.slice ma l.length mc]):=fun ty => rfl
 rw [e]
 exact hr
theorem B5v.put {w : World} {g : Nat} {k d : List UInt8} {s : Int} {m : Bool} {v : Value} (h : B5v w g k s m d v) (k' d' : List UInt8) (s' : Int) (m' : Bool) (v' : Value) :
  B5v (((((w.setCell ⟨g,0,none⟩ (str k')).setCell ⟨g,1,none⟩ (.int .i64 s')).setCell ⟨g,2,none⟩ (.bool m')).setCell ⟨g,3,none⟩ (str d')).setCell ⟨g,4,none⟩ v') g k' s' m' d' v':=by
 have e0 : B5v (w.setCell ⟨g,0,none⟩ (str k')) g k' s m d v:=by unfold B5v; rw [heap_setCell_same _ _ _ _ _ _ h]; rfl
 have e1 : B5v ((w.setCell ⟨g,0,none⟩ (str k')).setCell ⟨g,1,none⟩ (.int .i64 s')) g k' s' m d v:=by unfold B5v; rw [heap_setCell_same _ _ _ _ _ _ e0]; rfl
 have e2 : B5v (((w.setCell ⟨g,0,none⟩ (str k')).setCell ⟨g,1,none⟩ (.int .i64 s')).setCell ⟨g,2,none⟩ (.bool m')) g k' s' m' d v:=by unfold B5v; rw [heap_setCell_same _ _ _ _ _ _ e1]; rfl
 exact (e2.set3 d').set4 v'
theorem ow_b5 {b : Nat} {w : World} {v : Value} {l : List En} (h : Ow b w v l) {g : Nat} {k d : List UInt8} {s : Int} {m : Bool} {q : Value} (h5 : B5v w g k s m d q) (j : Nat) (x : Value) : Ow b (w.setCell ⟨g,j,none⟩ x) v l :=
 ow_keep h (by simp) (fun g' hg => hso _ _ (fun e => by
  subst e
  obtain ⟨cs,e2⟩:=own_type h.own hg
  unfold B5v at h5
  rw [h5] at e2
  injection e2 with e2
  injection e2 with _ e2 _
  exact absurd e2 (by decide)))
theorem b5_fill {B : Nat} {w0 w : World} {g : Nat} (h : B5v w g [] 0 false [] (.slice none 0 0)) (hB : B ≤ g) (hb : Below B w0 w) {b : Nat} {v : Value} {l : List En} (ho : Ow b w v l) (k' : List UInt8) (s' : Int) (m' : Bool) :
  Below B w0 (((((w.setCell ⟨g,0,none⟩ (str k')).setCell ⟨g,1,none⟩ (.int .i64 s')).setCell ⟨g,2,none⟩ (.bool m')).setCell ⟨g,3,none⟩ (str [])).setCell ⟨g,4,none⟩ v) ∧
  B5v (((((w.setCell ⟨g,0,none⟩ (str k')).setCell ⟨g,1,none⟩ (.int .i64 s')).setCell ⟨g,2,none⟩ (.bool m')).setCell ⟨g,3,none⟩ (str [])).setCell ⟨g,4,none⟩ v) g k' s' m' [] v ∧
  Ow b (((((w.setCell ⟨g,0,none⟩ (str k')).setCell ⟨g,1,none⟩ (.int .i64 s')).setCell ⟨g,2,none⟩ (.bool m')).setCell ⟨g,3,none⟩ (str [])).setCell ⟨g,4,none⟩ v) v l:=by
 refine ⟨((((hb.setCell (p:=⟨g,0,none⟩) hB _).setCell (p:=⟨g,1,none⟩) hB _).setCell (p:=⟨g,2,none⟩) hB _).setCell (p:=⟨g,3,none⟩) hB _).setCell (p:=⟨g,4,none⟩) hB _,h.put k' [] s' m' v,?_⟩
 have hne : ∀ g',v.ownBlock = some g' → g' ≠ g:=fun g' hg e => by
  subst e
  obtain ⟨cs,e2⟩:=own_type ho.own hg
  unfold B5v at h
  rw [h] at e2
  injection e2 with e2
  injection e2 with _ e2 _
  exact absurd e2 (by decide)
 exact ow_keep ho (by simp) (fun g' hg => by rw [hso _ _ (hne g' hg),hso _ _ (hne g' hg),hso _ _ (hne g' hg),hso _ _ (hne g' hg),hso _ _ (hne g' hg)])
theorem un_nums {N p sz F : Nat} (hp : p ≤ N) (hN : N ≤ 1048576) (hs : sz ≤ 1024) (hF : F ≤ 1000) :
  Hid (IntKind.i64.wrap ((p : Int) + (sz : Int)) = (p : Int) + (sz : Int) ∧ IntKind.i64.wrap ((p : Int) + (sz : Int) + (F : Int)) = (p : Int) + (sz : Int) + (F : Int) ∧ min (N : Int) ((p : Int) + (sz : Int) + (F : Int)) = ((min N (p + sz + F) : Nat) : Int)) ∧
  Hid (wrap64 ((N : Int) - (p : Int)) = ((N - p : Nat) : Int) ∧ wrap64 ((p : Int) + (sz : Int)) = (p : Int) + (sz : Int)):=by
 refine ⟨⟨?_,?_,?_⟩,⟨?_,?_⟩⟩
 ·rw [IntKind.wrap_i64]; omega
 ·rw [IntKind.wrap_i64]; omega
 ·omega
 ·unfold wrap64; omega
 ·unfold wrap64; omega
set_option maxHeartbeats 8000000 in
theorem qunpack_any (s : List UInt8) (w : World) (hs : s.length ≤ 1048576) (hT : TB w) (hK : KIn w) : Calls Tryz.prog 41 #[str s] w (UnV s w):=by
 have b1:=(Below.refl w.heap.size w).alloc (Nat.le_refl _) (.cells #[.int .i64 0,.slice none 0 0] 24)
 have z1:=Bb2.new w 0 (.slice none 0 0)
 have hrd:=qRead_any s (w.alloc (.cells #[.int .i64 0,.slice none 0 0] 24)) hs
 have HB1:=Hid.mk b1
 have HZ1:=Hid.mk z1
 have HT:=Hid.mk hT
 have HK:=Hid.mk hK
 have HS:=Hid.mk hs
 clear b1 z1 hT hK hs
 go_enter Tryz.func41,Tryz.ntmps41
 go_wp2_with fail
 generalize w.alloc (.cells #[.int .i64 0,.slice none 0 0] 24) = W1 at *
 with_reducible refine Calls.mono hrd ?_
 rintro e w2 ⟨h2,b2⟩
 clear hrd
 have HB2:=Hid.mk (below_seq HB1.out b2)
 have HZ2:=Hid.mk (HZ1.out.later b2)
 clear HB1 HZ1
 rcases h2 with ⟨M,a,c,hBeg,hnz,rfl,hIt⟩ | ⟨hno,rfl⟩
 rotate_left
 ·have HNo : Hid (∀ L n c,¬ Arc s L n c):=⟨fun L n c h => hno _ h.beg⟩
  have bx:=(Below.refl w2.heap.size w2).alloc (Nat.le_refl _) (.cells #[.int .i64 0,.int .i64 0,.slice none 0 0] 38)
  have hz:=HZ2.out.later bx
  obtain ⟨y0,y1⟩:=hz.cells
  have f0:=hz.fz 0
  have f1:=hz.fz 1
  have n3:=hz.set2 0 (.slice none 0 0)
  have B5:=Hid.mk (below2 (r:=w.heap.size) (below_seq HB2.out bx) (Nat.le_refl _) (.int .i64 0) (.slice none 0 0))
  clear hno hz bx b2
  dsimp only
  go_wp2_with fail
  generalize ((w2.alloc (.cells #[.int .i64 0,.int .i64 0,.slice none 0 0] 38)).setCell ⟨w.heap.size,0,none⟩ (.int .i64 0)).setCell ⟨w.heap.size,1,none⟩ (.slice none 0 0) = W9 at *
  obtain ⟨q0,q1⟩:=n3.cells
  refine bodyPost_ret (v := .tuple #[.agg #[.int .i64 0,.slice none 0 0],.int .i64 0,.int .i64 90]) ?_ rfl ⟨.inr ⟨HNo.out,rfl⟩,B5.out⟩
  rw [results_ctt rfl]
  go_simp
 have hml:=m_lens hBeg.1
 have hsi:=m_size hBeg.1
 have hle : (mtx M).length ≤ s.length:=by
  obtain ⟨_,r,e⟩:=hBeg
  rw [e,List.length_append]; omega
 obtain ⟨p0,hp0⟩ : ∃ p,p = (mtx M).length:=⟨_,rfl⟩
 rw [← hp0] at hle ⊢
 obtain ⟨res,hres⟩ : ∃ r,rvL s M.items p0 = r:=⟨_,rfl⟩
 have HA : Hid (∀ L n c,Arc s L n c → res = some L ∧ n = M.next ∧ c = M.since):=⟨fun L n c h => by
  obtain ⟨e1,e2,e3,_⟩:=Arc.tell hBeg h
  rw [← hp0] at e3
  exact ⟨by rw [← hres]; exact rv_of_vo s M.items p0 L hle e3,e2.symm,e1.symm⟩⟩
 have HMl : Hid (M.items.length ≤ 256 ∧ ∀ x ∈ M.items,0 ≤ x.size ∧ x.size ≤ 1024 ∧ x.l.length ≤ 8 ∧ ∀ (k : Nat) (e : En),x.l[k]? = some e → e.key.length ≤ 16 ∧ e.val.length ≤ 64):=⟨hBeg.1.len,fun x hx => by
  refine ⟨(hsi x hx).1,(hsi x hx).2,hml x hx,fun k e he => ?_⟩
  have hi:=hBeg.1.it x hx
  cases hm : x.mkr with
  | true => rw [(hi.mk1 hm).2] at he; simp at he
  | false => exact prb_len ((mtE_iff (hi.mk0 hm).2.2).2.1 e (List.mem_of_getElem? he))⟩
 have HLm : Hid (∀ L,res = some L → L.length ≤ 256 ∧ ∀ v ∈ L,v.l.length ≤ 8 ∧ ∀ (k : Nat) (e : En),v.l[k]? = some e → e.key.length ≤ 16 ∧ e.val.length ≤ 64):=⟨fun L hL => by
  obtain ⟨h1,h2⟩:=rvL_mem s M.items p0 L (hres.trans hL)
  refine ⟨by rw [h1]; exact HMl.out.1,fun v hv => ?_⟩
  obtain ⟨x,hx,e⟩:=h2 v hv
  rw [e]
  exact (HMl.out.2 x hx).2.2⟩
 have HR0 : Hid ((rvL s (M.items.drop 0) p0).map (fun K => ([] : List Rv).map (·.v) ++ K) = res ∧ p0 ≤ s.length):=⟨by rw [List.drop_zero,hres]; cases res <;> simp,hle⟩
 have bx:=(Below.refl w2.heap.size w2).alloc (Nat.le_refl _) (.cells #[.int .i64 M.since,.int .i64 M.next,.slice a M.items.length c] 38)
 have by':=(Below.refl (w2.alloc (.cells #[.int .i64 M.since,.int .i64 M.next,.slice a M.items.length c] 38)).heap.size _).alloc (Nat.le_refl _) (.cells #[.int .i64 M.next,.slice none 0 0] 24)
 have HM3:=Hid.mk ((Bn3.new w2 M.since M.next (.slice a M.items.length c)).later by')
 have HI3:=Hid.mk ((hIt.later bx).later by')
 have HZ3:=Hid.mk ((HZ2.out.later bx).later by')
 have HU0:=Hid.mk (Uk.start (w2.alloc (.cells #[.int .i64 M.since,.int .i64 M.next,.slice a M.items.length c] 38)) M.next)
 have HB3:=Hid.mk (below_seq (below_seq HB2.out bx) by')
 have HG8 : Hid (w.heap.size < w2.heap.size ∧ (w2.alloc (.cells #[.int .i64 M.since,.int .i64 M.next,.slice a M.items.length c] 38)).heap.size = w2.heap.size + 1 ∧ ((w2.alloc (.cells #[.int .i64 M.since,.int .i64 M.next,.slice a M.items.length c] 38)).alloc (.cells #[.int .i64 M.next,.slice none 0 0] 24)).heap.size = w2.heap.size + 1 + 1):=⟨lt_of_block HZ2.out,by simp,by simp⟩
 have hia : Hid (∀ (k : Nat) (x : It),M.items[k]? = some x → ∃ b off ma mc,a = some ⟨b,off,none⟩ ∧ b < w2.heap.size ∧ ((w2.alloc (.cells #[.int .i64 M.since,.int .i64 M.next,.slice a M.items.length c] 38)).alloc (.cells #[.int .i64 M.next,.slice none 0 0] 24)).rangeAt b (off + k * 37) (ic x ma mc) ∧ Sl w2 ma mc x.l):=⟨fun k x hx => by
  obtain ⟨b,off,ma,mc,e,hl,hr,hsl⟩:=hIt.get k x hx
  exact ⟨b,off,ma,mc,e,hl,range_later (range_later hr hl bx) (by simp; omega) by',hsl⟩⟩
 have HW2 : Hid (Below w2.heap.size w2 ((w2.alloc (.cells #[.int .i64 M.since,.int .i64 M.next,.slice a M.items.length c] 38)).alloc (.cells #[.int .i64 M.next,.slice none 0 0] 24))):=⟨bx.trans (by'.mono (by simp))⟩
 clear hml hsi hle hp0 hres b2 hIt bx by' hBeg hnz HZ2 HB2 HI3
 dsimp only
 go_wp2_with fail
 generalize hW3 : (w2.alloc (.cells #[.int .i64 M.since,.int .i64 M.next,.slice a M.items.length c] 38)).alloc (.cells #[.int .i64 M.next,.slice none 0 0] 24) = W3 at *
 generalize (w2.alloc (.cells #[.int .i64 M.since,.int .i64 M.next,.slice a M.items.length c] 38)).heap.size = g8 at *
 clear hW3
 have HG5 : Hid (w2.heap.size + 1 = g8):=⟨HG8.out.2.1.symm⟩
 rw [HG5.out]
 go_loopw [6,9,10,11] (fun v6 v9 _ _ wr => ∃ (k p : Nat) (R : List Rv) (ra : Option Addr) (rc : Nat),v6 = .int .i64 (p : Int) ∧ v9 = .int .i64 (k : Int) ∧ k ≤ M.items.length ∧ Hid (R.length = k) ∧ Hid (Uk W3 wr g8 M.next (.slice ra R.length rc) R) ∧ Hid ((rvL s (M.items.drop k) p).map (fun K => R.map (·.v) ++ K) = res ∧ p ≤ s.length)) (fun _ v9 _ _ _ => M.items.length - (intOf v9).toNat)
 case atStart => exact ⟨0,p0,[],none,0,rfl,rfl,Nat.zero_le _,⟨rfl⟩,HU0,HR0⟩
 case round =>
  clear HU0 HR0
  obtain ⟨k,p,R,ra,rc,rfl,rfl,hk,HRk,HU,HR⟩:=hrel
  have hb3r : Below w2.heap.size w2 wr:=HW2.out.trans (HU.out.bel.mono (by have:=HG8.out; omega))
  have hlo : ∀ g,g < g8 → wr.heap[g]? = W3.heap[g]?:=fun g hg => HU.out.bel.block g hg
  have HMr : Hid (Bn3 wr w2.heap.size M.since M.next (.slice a M.items.length c)):=⟨(hlo _ (by have:=HG8.out; omega)).trans HM3.out⟩
  have HZr : Hid (Bb2 wr w.heap.size 0 (.slice none 0 0)):=⟨(hlo _ (by have:=HG8.out; omega)).trans HZ3.out⟩
  have HBr : Hid (Below w.heap.size w wr):=⟨HB3.out.trans (HU.out.bel.mono (by have:=HG8.out; omega))⟩
  obtain ⟨y0,y1,y2⟩:=HMr.out.cells
  by_cases hlt : k < M.items.length
  ·have d1 : decide ((k : Int) < (M.items.length : Int)) = true:=decide_eq_true (Int.ofNat_lt.2 hlt)
   have k0 : (0 : Int) ≤ (k : Int):=Int.natCast_nonneg k
   have k2 : (k : Int) < (M.items.length : Int):=Int.ofNat_lt.2 hlt
   have hw1 : wrap64 ((k : Int) + 1) = ((k + 1 : Nat) : Int):=by unfold wrap64; have:=HMl.out.1; omega
   obtain ⟨x,hx⟩ : ∃ x,M.items[k]? = some x:=⟨M.items[k],List.getElem?_eq_getElem hlt⟩
   have hdr : M.items.drop k = x :: M.items.drop (k + 1):=by
    rw [List.drop_eq_getElem_cons hlt]
    congr 1
    exact (List.getElem?_eq_some_iff.1 hx).2
   have hxm:=HMl.out.2 x (List.mem_of_getElem? hx)
   obtain ⟨sz,hsz⟩ : ∃ sz : Nat,x.size = (sz : Int):=⟨x.size.toNat,by have:=hxm.1; omega⟩
   have hsz2 : sz ≤ 1024:=by have:=hxm.2.1; omega
   obtain ⟨b,off,ma,mc,hab,hbl,hr0,hsl⟩:=hia.out k x hx
   subst hab
   have hr : wr.rangeAt b (off + k * 37) (ic x ma mc):=fun j v hj => by
    rw [cell_heapQ (hlo b (by have:=HG8.out; omega)) _]
    exact hr0 j v hj
   have l1:=run_ldQ hr
   have s1:=run_stQ wr x ma mc
   have bx:=(Below.refl wr.heap.size wr).alloc (Nat.le_refl _) (.cells (ic x ma mc).toArray 81)
   have HX8:=Hid.mk (Bj.new wr x ma mc)
   have HU8:=Hid.mk (HU.out.later bx)
   have HSl8:=Hid.mk ((hsl.later hb3r).later bx)
   have HB8:=Hid.mk (below_seq HBr.out bx)
   have HZ8:=Hid.mk (HZr.out.later bx)
   have HDr:=Hid.mk hdr
   have HSz:=Hid.mk (And.intro hsz hsz2)
   have HXl:=Hid.mk hxm.2.2.1
   clear hx hdr hxm hbl hr0 hsl hr bx hb3r hlo HU HMr HZr HBr hsz hsz2
   obtain ⟨key,seq,mkr,xsz,l,xg⟩:=x
   dsimp only at HSz HXl
   go_wp2_with fail
   generalize wr.alloc (.cells (ic ⟨key,seq,mkr,xsz,l,xg⟩ ma mc).toArray 81) = W8 at *
   generalize wr.heap.size = gx at *
   clear l1 s1 y0 y1 y2
   obtain ⟨hsz,hsz2⟩:=HSz.out
   subst hsz
   have HC8 : Hid (∀ w',Below W8.heap.size W8 w' → w'.cell? ⟨gx,0,none⟩ = some (str key) ∧ w'.cell? ⟨gx,1,none⟩ = some (.int .i64 seq) ∧ w'.cell? ⟨gx,2,none⟩ = some (.bool mkr) ∧ w'.cell? ⟨gx,3,none⟩ = some (.int .i64 (sz : Int)) ∧ w'.cell? ⟨gx,4,none⟩ = some (.slice ma l.length mc)):=⟨fun w' h => (HX8.out.later h).cells⟩
   have HCp : Hid (∀ w',Below W8.heap.size W8 w' → ∃ ma2 mc2 w'',(∀ ty,(Builtin.append_ #[43,43] ty #[.slice none 0 0,.slice ma l.length mc]).run Tryz.prog w' = .ok (.slice ma2 l.length mc2) w'') ∧ Ow w'.heap.size w'' (.slice ma2 l.length mc2) l ∧ Below w'.heap.size w' w''):=⟨fun w' h => copy_pairs (HSl8.out.later h) (by have:=HXl.out; omega)⟩
   clear hsz2
   go_upto_region 9 with fail
   go_cut [11] from 25 to 84 (fun v11 wx => ∃ (g11 : Nat) (ma2 : Option Addr) (mc2 : Nat),v11 = .pointer (some ⟨g11,0,none⟩) ∧ Hid (Below W8.heap.size W8 wx ∧ W8.heap.size ≤ g11 ∧ B5v wx g11 key seq mkr [] (.slice ma2 l.length mc2) ∧ Ow W8.heap.size wx (.slice ma2 l.length mc2) l))
   case first =>
    refine wp_region_held (S:=(fun w' => w'.cell? ⟨gx,0,none⟩ = some (str key) ∧ w'.cell? ⟨gx,1,none⟩ = some (.int .i64 seq) ∧ w'.cell? ⟨gx,2,none⟩ = some (.bool mkr) ∧ w'.cell? ⟨gx,3,none⟩ = some (.int .i64 (sz : Int)) ∧ w'.cell? ⟨gx,4,none⟩ = some (.slice ma l.length mc))) (by kernel_rfl) ?_
    try (change wpAnyH _ _ _ _ _ _ _ _ (World.drew _))
    have bq0:=(Below.refl W8.heap.size W8).drew
    have hHeld:=HC8.out _ bq0
    generalize W8.drew = wq at *
    refine tk2 0 37 (.pointer (some ⟨gx,0,none⟩)) ?_ ?_
    ·intro w' hSw
     obtain ⟨s0,s1,s2,s3,s4⟩:=hSw
     go_simp
    try simp only [Act.put,lyA,lyB,lyC]
    refine tk2 1 38 (str key) ?_ ?_
    ·intro w' hSw
     obtain ⟨s0,s1,s2,s3,s4⟩:=hSw
     go_simp
    try simp only [Act.put,lyA,lyB,lyC]
    refine tk2 2 39 (.pointer (some ⟨gx,1,none⟩)) ?_ ?_
    ·intro w' hSw
     obtain ⟨s0,s1,s2,s3,s4⟩:=hSw
     go_simp
    try simp only [Act.put,lyA,lyB,lyC]
    refine tk2 3 40 (.int .i64 seq) ?_ ?_
    ·intro w' hSw
     obtain ⟨s0,s1,s2,s3,s4⟩:=hSw
     go_simp
    try simp only [Act.put,lyA,lyB,lyC]
    refine tk2 4 41 (.pointer (some ⟨gx,2,none⟩)) ?_ ?_
    ·intro w' hSw
     obtain ⟨s0,s1,s2,s3,s4⟩:=hSw
     go_simp
    try simp only [Act.put,lyA,lyB,lyC]
    refine tk2 5 42 (.bool mkr) ?_ ?_
    ·intro w' hSw
     obtain ⟨s0,s1,s2,s3,s4⟩:=hSw
     go_simp
    try simp only [Act.put,lyA,lyB,lyC]
    refine tk2 6 43 (.pointer (some ⟨gx,4,none⟩)) ?_ ?_
    ·intro w' hSw
     obtain ⟨s0,s1,s2,s3,s4⟩:=hSw
     go_simp
    try simp only [Act.put,lyA,lyB,lyC]
    refine tk2 7 44 (.slice ma l.length mc) ?_ ?_
    ·intro w' hSw
     obtain ⟨s0,s1,s2,s3,s4⟩:=hSw
     go_simp
    try simp only [Act.put,lyA,lyB,lyC]
    refine wpAnyH_ready (rs := [8,10]) (by kernel_rfl) (by simp) ?_
    refine AllReadyH.cons rfl (fun K hK => ?_) (AllReadyH.cons rfl (fun K hK => ?_) AllReadyH.nil)
    ·skip
     rw [if_pos (by kernel_rfl)]
     obtain ⟨ma1,mc2,w3,hr4,ho5,y6⟩:=HCp.out _ bq0
     have b7:=below_seq bq0 y6
     have o8:=ow_mon ho5 bq0.size
     refine val_step2 (v := .slice ma1 l.length mc2) (w2:=w3) 45 rfl ?_ ?_
     ·go_simp
     refine hK.out _ _ (HC8.out _ b7) (fun hHeld => ?_)
     clear hK K
     try simp only [Act.put,lyA,lyB,lyC]
     refine tk2 9 46 (.agg #[str key,.int .i64 seq,.bool mkr,.string ⟨#[]⟩,.slice ma1 l.length mc2]) ?_ ?_
     ·intro w' hSw
      obtain ⟨s0,s1,s2,s3,s4⟩:=hSw
      go_simp
     try simp only [Act.put,lyA,lyB,lyC]
     refine wpAnyH_ready (rs := [10]) (by kernel_rfl) (by simp) ?_
     refine AllReadyH.cons rfl (fun K hK => ?_) AllReadyH.nil
     rw [if_pos (by kernel_rfl)]
     have b9:=bal2 b7 (.cells #[.string ⟨#[]⟩,.int .i64 0,.bool false,.string ⟨#[]⟩,.slice none 0 0] 62)
     have y10:=(Below.refl w3.heap.size w3).alloc (Nat.le_refl _) (.cells #[.string ⟨#[]⟩,.int .i64 0,.bool false,.string ⟨#[]⟩,.slice none 0 0] 62)
     have h11 : B5v (w3.alloc (.cells #[.string ⟨#[]⟩,.int .i64 0,.bool false,.string ⟨#[]⟩,.slice none 0 0] 62)) w3.heap.size [] 0 false [] (.slice none 0 0):=B5v.new w3 [] 0 false [] (.slice none 0 0)
     have r12:=Below.size b7
     have o13:=Ow.later o8 y10
     refine val_step2 (v := .pointer (some ⟨w3.heap.size,0,none⟩)) (w2:=(w3.alloc (.cells #[.string ⟨#[]⟩,.int .i64 0,.bool false,.string ⟨#[]⟩,.slice none 0 0] 62))) 11 rfl ?_ ?_
     ·go_simp
     refine hK.out _ _ (HC8.out _ b9) (fun hHeld => ?_)
     clear hK K
     try simp only [Act.put,lyA,lyB,lyC]
     generalize (w3.alloc (.cells #[.string ⟨#[]⟩,.int .i64 0,.bool false,.string ⟨#[]⟩,.slice none 0 0] 62)) = V14 at *
     generalize w3.heap.size = k15 at *
     obtain ⟨e0,e1,e2,e3,e4⟩:=B5v.cells h11
     have f0:=B5v.fz h11 0
     have f1:=B5v.fz h11 1
     have f2:=B5v.fz h11 2
     have f3:=B5v.fz h11 3
     have f4:=B5v.fz h11 4
     obtain ⟨kb,k5,ko⟩:=b5_fill h11 r12 b9 o13 key seq mkr
     refine wpAnyH_ready (rs := [11]) (by kernel_rfl) (by simp) ?_
     refine AllReadyH.cons rfl (fun K hK => ?_) AllReadyH.nil
     rw [if_pos (by kernel_rfl)]
     go_simp
     refine hK.out _ _ (HC8.out _ kb) (fun hHeld => ?_)
     clear hK K
     try simp only [Act.put,lyA,lyB,lyC]
     refine wpAnyH_done (by kernel_rfl) ?_ _
     clear e0 e1 e2 e3 e4 f0 f1 f2 f3 f4 hHeld
     go_wp2_with fail
     go_meet
     exact ⟨_,_,_,rfl,⟨kb,r12,k5,ko⟩⟩
    ·skip
     rw [if_pos (by kernel_rfl)]
     have b16:=bal2 bq0 (.cells #[.string ⟨#[]⟩,.int .i64 0,.bool false,.string ⟨#[]⟩,.slice none 0 0] 62)
     have y17:=(Below.refl wq.heap.size wq).alloc (Nat.le_refl _) (.cells #[.string ⟨#[]⟩,.int .i64 0,.bool false,.string ⟨#[]⟩,.slice none 0 0] 62)
     have h18 : B5v (wq.alloc (.cells #[.string ⟨#[]⟩,.int .i64 0,.bool false,.string ⟨#[]⟩,.slice none 0 0] 62)) wq.heap.size [] 0 false [] (.slice none 0 0):=B5v.new wq [] 0 false [] (.slice none 0 0)
     have r19:=Below.size bq0
     refine val_step2 (v := .pointer (some ⟨wq.heap.size,0,none⟩)) (w2:=(wq.alloc (.cells #[.string ⟨#[]⟩,.int .i64 0,.bool false,.string ⟨#[]⟩,.slice none 0 0] 62))) 11 rfl ?_ ?_
     ·go_simp
     refine hK.out _ _ (HC8.out _ b16) (fun hHeld => ?_)
     clear hK K
     try simp only [Act.put,lyA,lyB,lyC]
     generalize (wq.alloc (.cells #[.string ⟨#[]⟩,.int .i64 0,.bool false,.string ⟨#[]⟩,.slice none 0 0] 62)) = V20 at *
     generalize wq.heap.size = k21 at *
     refine wpAnyH_ready (rs := [8]) (by kernel_rfl) (by simp) ?_
     refine AllReadyH.cons rfl (fun K hK => ?_) AllReadyH.nil
     rw [if_pos (by kernel_rfl)]
     obtain ⟨ma22,mc23,w24,hr25,ho26,y27⟩:=HCp.out _ b16
     have b28:=below_seq b16 y27
     have o29:=ow_mon ho26 b16.size
     have h30:=B5v.later h18 y27
     refine val_step2 (v := .slice ma22 l.length mc23) (w2:=w24) 45 rfl ?_ ?_
     ·go_simp
     refine hK.out _ _ (HC8.out _ b28) (fun hHeld => ?_)
     clear hK K
     try simp only [Act.put,lyA,lyB,lyC]
     refine tk2 9 46 (.agg #[str key,.int .i64 seq,.bool mkr,.string ⟨#[]⟩,.slice ma22 l.length mc23]) ?_ ?_
     ·intro w' hSw
      obtain ⟨s0,s1,s2,s3,s4⟩:=hSw
      go_simp
     try simp only [Act.put,lyA,lyB,lyC]
     obtain ⟨e0,e1,e2,e3,e4⟩:=B5v.cells h30
     have f0:=B5v.fz h30 0
     have f1:=B5v.fz h30 1
     have f2:=B5v.fz h30 2
     have f3:=B5v.fz h30 3
     have f4:=B5v.fz h30 4
     obtain ⟨kb,k5,ko⟩:=b5_fill h30 r19 b28 o29 key seq mkr
     refine wpAnyH_ready (rs := [11]) (by kernel_rfl) (by simp) ?_
     refine AllReadyH.cons rfl (fun K hK => ?_) AllReadyH.nil
     rw [if_pos (by kernel_rfl)]
     go_simp
     refine hK.out _ _ (HC8.out _ kb) (fun hHeld => ?_)
     clear hK K
     try simp only [Act.put,lyA,lyB,lyC]
     refine wpAnyH_done (by kernel_rfl) ?_ _
     clear e0 e1 e2 e3 e4 f0 f1 f2 f3 f4 hHeld
     go_wp2_with fail
     go_meet
     exact ⟨_,_,_,rfl,⟨kb,r19,k5,ko⟩⟩
   case rest =>
   obtain ⟨g11,ma2,mc2,rfl,HC⟩:=hcut
   have hcell:=HC8.out _ HC.out.1
   obtain ⟨F,hF⟩ : ∃ F,F = fil sz:=⟨_,rfl⟩
   have hFl : F ≤ 1000:=by rw [hF]; have:=fil_lt sz; omega
   have hszl : sz ≤ 1024:=HSz.out.2
   obtain ⟨HNa,HNb⟩:=un_nums HR.out.2 HS.out hszl hFl
   have HFi : Hid (∀ w',Calls Tryz.prog 79 #[.int .i64 (sz : Int)] w' fun e w'' => e = .returned (.int .i64 ((F : Nat) : Int)) ∧ Below w'.heap.size w' w''):=⟨fun w' => by rw [hF]; exact qfill_any sz (by omega) w'⟩
   have HFf:=Hid.mk hF
   have HZc:=Hid.mk (HZ8.out.later HC.out.1)
   have HBc0:=Hid.mk (below_seq HB8.out HC.out.1)
   obtain ⟨c0,c1,c2,c3,c4⟩:=hcell
   have dneg : decide ((sz : Int) < 0) = false:=decide_eq_false (by omega)
   obtain ⟨n4,n5⟩:=HNb.out
   clear hF hFl hszl HCp HSl8
   by_cases hle : sz ≤ s.length - p
   ·have d3 : decide (((s.length - p : Nat) : Int) < (sz : Int)) = false:=decide_eq_false (by omega)
    have d3' : decide (s.length - p < sz) = false:=decide_eq_false (by omega)
    have hpl:=HR.out.2
    obtain ⟨d,hd⟩ : ∃ d,d = (s.drop p).take sz:=⟨_,rfl⟩
    have hs12 : ∀ w,(Go.Proofs.YtdfjlmfnkhhnjaaGreatDoorP.slS (str s) (some (.int .i64 (p : Int))) (some (.int .i64 ((p : Int) + (sz : Int)))) none).run Tryz.prog w = .ok (str d) w:=fun w => by
     rw [hd,show ((p : Int) + (sz : Int)) = ((p + sz : Nat) : Int) from rfl,run_cutQ s p (p + sz) (Nat.le_add_right _ _) (by omega) w,Nat.add_sub_cancel_left]
    have HLe:=Hid.mk hle
    have HD:=Hid.mk hd
    obtain ⟨e0,e1,e2,e3,e4⟩:=HC.out.2.2.1.cells
    have f3:=HC.out.2.2.1.fz 3
    have HBc : Hid (Below W8.heap.size W8 (wc.setCell ⟨g11,3,none⟩ (str d))):=⟨HC.out.1.setCell (p:=⟨g11,3,none⟩) HC.out.2.1 _⟩
    have HV13:=Hid.mk (HC.out.2.2.1.set3 d)
    have HO13:=Hid.mk (ow_b5 HC.out.2.2.2 HC.out.2.2.1 3 (str d))
    clear hle hd hpl c0 c1 c2 c4
    go_upto_region 13 with fail
    generalize wc.setCell ⟨g11,3,none⟩ (str d) = W13 at *
    clear c3 e0 e1 e2 e3 e4 f3 n4 n5 d3 d3' hs12 dneg HZc HBc0
    have HU13:=Hid.mk (HU8.out.later HBc.out)
    obtain ⟨n1,n2,n3⟩:=HNa.out
    refine wp_region_held (S:=(fun w' => w'.cell? ⟨gx,0,none⟩ = some (str key) ∧ w'.cell? ⟨gx,1,none⟩ = some (.int .i64 seq) ∧ w'.cell? ⟨gx,2,none⟩ = some (.bool mkr) ∧ w'.cell? ⟨gx,3,none⟩ = some (.int .i64 (sz : Int)) ∧ w'.cell? ⟨gx,4,none⟩ = some (.slice ma l.length mc))) (by kernel_rfl) ?_
    try (change wpAnyH _ _ _ _ _ _ _ _ (World.drew _))
    have bq0:=(Below.refl W8.heap.size W8).trans (HBc.out.drew)
    have hHeld:=HC8.out _ bq0
    generalize hWq : W13.drew = wq at *
    refine tk2 0 68 (str s) ?_ ?_
    ·intro w' hSw
     obtain ⟨s0,s1,s2,s3,s4⟩:=hSw
     go_simp
    try simp only [Act.put,lyA,lyB,lyC]
    refine tk2 1 69 (.int .i64 (s.length : Int)) ?_ ?_
    ·intro w' hSw
     obtain ⟨s0,s1,s2,s3,s4⟩:=hSw
     go_simp
    try simp only [Act.put,lyA,lyB,lyC]
    refine tk2 2 70 (.int .i64 (p : Int)) ?_ ?_
    ·intro w' hSw
     obtain ⟨s0,s1,s2,s3,s4⟩:=hSw
     go_simp
    try simp only [Act.put,lyA,lyB,lyC]
    refine tk2 3 71 (.pointer (some ⟨gx,3,none⟩)) ?_ ?_
    ·intro w' hSw
     obtain ⟨s0,s1,s2,s3,s4⟩:=hSw
     go_simp
    try simp only [Act.put,lyA,lyB,lyC]
    refine tk2 4 72 (.int .i64 (sz : Int)) ?_ ?_
    ·intro w' hSw
     obtain ⟨s0,s1,s2,s3,s4⟩:=hSw
     go_simp
    try simp only [Act.put,lyA,lyB,lyC]
    refine tk2 5 73 (.int .i64 ((p : Int) + (sz : Int))) ?_ ?_
    ·intro w' hSw
     obtain ⟨s0,s1,s2,s3,s4⟩:=hSw
     go_simp
    try simp only [Act.put,lyA,lyB,lyC]
    refine tk2 6 74 (.pointer (some ⟨gx,3,none⟩)) ?_ ?_
    ·intro w' hSw
     obtain ⟨s0,s1,s2,s3,s4⟩:=hSw
     go_simp
    try simp only [Act.put,lyA,lyB,lyC]
    refine tk2 7 75 (.int .i64 (sz : Int)) ?_ ?_
    ·intro w' hSw
     obtain ⟨s0,s1,s2,s3,s4⟩:=hSw
     go_simp
    try simp only [Act.put,lyA,lyB,lyC]
    refine wpAnyH_ready (rs := [8]) (by kernel_rfl) (by simp) ?_
    refine AllReadyH.cons rfl (fun K hK => ?_) AllReadyH.nil
    rw [if_pos (by kernel_rfl)]
    refine call_step2 76 rfl (by go_simp) (HFi.out wq) ?_
    intro w20 y1
    have b20:=bq0.trans (y1.mono bq0.size)
    refine hK.out _ _ (HC8.out _ b20) (fun hHeld => ?_)
    clear hK K
    try simp only [Act.put,lyA,lyB,lyC]
    refine tk2 9 77 (.int .i64 ((p : Int) + (sz : Int) + (F : Int))) ?_ ?_
    ·intro w' hSw
     obtain ⟨s0,s1,s2,s3,s4⟩:=hSw
     go_simp
    try simp only [Act.put,lyA,lyB,lyC]
    refine tk2 10 78 (.int .i64 ((min s.length (p + sz + F) : Nat) : Int)) ?_ ?_
    ·intro w' hSw
     obtain ⟨s0,s1,s2,s3,s4⟩:=hSw
     go_simp
    try simp only [Act.put,lyA,lyB,lyC]
    refine tk2 11 6 (.int .i64 ((min s.length (p + sz + F) : Nat) : Int)) ?_ ?_
    ·intro w' hSw
     obtain ⟨s0,s1,s2,s3,s4⟩:=hSw
     go_simp
    try simp only [Act.put,lyA,lyB,lyC]
    refine wpAnyH_done (by kernel_rfl) ?_ _
    clear hHeld
    have bw : Below W13.heap.size W13 w20:=by
     have h0:=(Below.refl W13.heap.size W13).drew
     rw [hWq] at h0
     exact below_seq h0 y1
    have HU20:=Hid.mk (HU13.out.later bw)
    have hv20:=HV13.out.later bw
    obtain ⟨e0,e1,e2,e3,e4⟩:=hv20.cells
    have ho20 : Ow (g8 + 1) w20 (.slice ma2 l.length mc2) l:=ow_mon (HO13.out.later bw) HU8.out.le
    obtain ⟨g',c',w',hrun,hbx,huk⟩:=HU20.out.more ⟨⟨key,seq,mkr,d,l⟩,[],ma2,mc2⟩ rfl ho20 (by rw [HRk.out]; have:=HMl.out.1; omega)
    have hrun' : (Builtin.append_ #[22,22] 22 #[.slice ra R.length rc,.slice (some ⟨w20.heap.size,0,none⟩) 1 1]).run Tryz.prog (w20.alloc (.cells #[str key,.int .i64 seq,.bool mkr,str d,.slice ma2 l.length mc2] 62)) = .ok (.slice (some ⟨g',0,none⟩) (R.length + 1) c') w':=hrun 22
    have p8:=HU20.out.box.cells.2
    have p6:=hbx.cells.2
    have f6:=hbx.fz 1
    have hlen : (R ++ [(⟨⟨key,seq,mkr,d,l⟩,[],ma2,mc2⟩ : Rv)]).length = R.length + 1:=by simp
    have HN : Hid (Uk W3 (w'.setCell ⟨g8,1,none⟩ (.slice (some ⟨g',0,none⟩) (R.length + 1) c')) g8 M.next (.slice (some ⟨g',0,none⟩) (R ++ [(⟨⟨key,seq,mkr,d,l⟩,[],ma2,mc2⟩ : Rv)]).length c') (R ++ [⟨⟨key,seq,mkr,d,l⟩,[],ma2,mc2⟩])):=⟨by rw [hlen]; exact huk⟩
    have HRn : Hid ((rvL s (M.items.drop (k + 1)) (min s.length (p + sz + F))).map (fun K => (R ++ [(⟨⟨key,seq,mkr,d,l⟩,[],ma2,mc2⟩ : Rv)]).map (·.v) ++ K) = res ∧ min s.length (p + sz + F) ≤ s.length):=⟨by
     have h1:=HR.out.1
     rw [HDr.out,rvL_step rfl HLe.out,Option.map_map] at h1
     rw [← h1,HFf.out]
     congr 1
     funext K
     simp [HD.out],Nat.min_le_left _ _⟩
    have HLn : Hid ((R ++ [(⟨⟨key,seq,mkr,d,l⟩,[],ma2,mc2⟩ : Rv)]).length = k + 1):=⟨by rw [hlen,HRk.out]⟩
    clear n1 n2 n3 hrun hbx huk bw b20 y1 hWq bq0 hv20 ho20 HU20 hlen
    go_wp2_with fail
    exact ⟨⟨k + 1,min s.length (p + sz + F),_,_,_,rfl,by first | (rw [hw1]; done) | rfl | go_num,hlt,HLn,HN,HRn⟩,by first | (rw [hw1]; exact Nat.sub_lt_sub_left hlt (Nat.lt_succ_self k)) | (simp [intOf]; omega)⟩
   ·have d3 : decide (((s.length - p : Nat) : Int) < (sz : Int)) = true:=decide_eq_true (by omega)
    have d3' : decide (s.length - p < sz) = true:=decide_eq_true (by omega)
    have HNo : Hid (∀ L n c,¬ Arc s L n c):=⟨fun L n c h => by
     have h1:=HR.out.1
     rw [HDr.out,rvL_stop rfl hle] at h1
     have h2:=(HA.out L n c h).1
     rw [← h1] at h2
     cases h2⟩
    obtain ⟨y0,y1⟩:=HZc.out.cells
    have f0:=HZc.out.fz 0
    have f1:=HZc.out.fz 1
    have n3:=HZc.out.set2 0 (.slice none 0 0)
    have B5:=Hid.mk (below2 (r:=w.heap.size) HBc0.out (Nat.le_refl _) (.int .i64 0) (.slice none 0 0))
    clear hle c0 c1 c2 c4
    go_wp2_with fail
    generalize (wc.setCell ⟨w.heap.size,0,none⟩ (.int .i64 0)).setCell ⟨w.heap.size,1,none⟩ (.slice none 0 0) = W9 at *
    obtain ⟨q0,q1⟩:=n3.cells
    refine bodyPost_ret (v := .tuple #[.agg #[.int .i64 0,.slice none 0 0],.int .i64 0,.int .i64 90]) ?_ rfl ⟨.inr ⟨HNo.out,rfl⟩,B5.out⟩
    rw [results_ctt rfl]
    go_simp
  ·obtain rfl : k = M.items.length:=Nat.le_antisymm hk (Nat.le_of_not_lt hlt)
   have d1 : decide ((M.items.length : Int) < (M.items.length : Int)) = false:=decide_eq_false (fun h => Int.lt_irrefl _ h)
   have hres : res = some (R.map (·.v)):=by
    have h1:=HR.out.1
    rw [List.drop_length] at h1
    rw [← h1]
    simp [rvL]
   obtain ⟨L,hL⟩ : ∃ L,L = R.map (·.v):=⟨_,rfl⟩
   have hRl : R.length = L.length:=by rw [hL,List.length_map]
   rw [← hL] at hres
   have hlm:=HLm.out L hres
   have hvin:=HU.out.vin
   rw [← hL] at hvin
   have HVn:=Hid.mk hvin
   have HRm : Hid (RmS ra L.length rc):=⟨by rw [← hRl]; exact HU.out.room⟩
   have hp:=qpack_any L M.next M.since wr ra rc hvin (by have:=hlm.1; omega) (fun v hv => by have:=(hlm.2 v hv).1; omega) (fun v hv k e he => by have:=(hlm.2 v hv).2 k e he; omega) (HT.out.below HBr.out) (HK.out.seq HBr.out)
   have HRs:=Hid.mk hres
   obtain ⟨x0,x1⟩:=HU.out.box.cells
   rw [hRl] at x1
   have HBx : Hid (Bb2 wr g8 M.next (.slice ra L.length rc)):=⟨by rw [← hRl]; exact HU.out.box⟩
   clear hlt hk hL hres hlm hvin HU HR HRk hlo hb3r
   go_wp2_with fail
   with_reducible refine Calls.mono hp ?_
   rintro e w5 ⟨rfl,b5⟩
   have HZ5:=Hid.mk (HZr.out.later b5)
   have HB5:=Hid.mk (below_seq HBr.out b5)
   have HV5:=Hid.mk (HVn.out.later b5)
   have HM5:=Hid.mk (HMr.out.later b5)
   obtain ⟨x0,x1⟩:=(HBx.out.later b5).cells
   obtain ⟨m0,m1,m2⟩:=(HMr.out.later b5).cells
   clear hp b5 y0 y1 y2
   by_cases hA : Arc s L M.next M.since
   ·obtain ⟨e1,e2⟩:=pk_yes hA.1
    rw [e1,e2,← hA.2]
    have HAr:=Hid.mk hA
    clear e1 e2 hA
    dsimp only
    obtain ⟨y0,y1⟩:=HZ5.out.cells
    have f0:=HZ5.out.fz 0
    have f1:=HZ5.out.fz 1
    have n3:=HZ5.out.set2 M.next (.slice ra L.length rc)
    have B6:=Hid.mk (below2 (r:=w.heap.size) HB5.out (Nat.le_refl _) (.int .i64 M.next) (.slice ra L.length rc))
    have hM6 : Bn3 (w5.setCell ⟨w.heap.size,0,none⟩ (.int .i64 M.next)) w2.heap.size M.since M.next (.slice a M.items.length c):=(hso _ _ (by have:=HG8.out; omega)).trans HM5.out
    have hM7 : Bn3 ((w5.setCell ⟨w.heap.size,0,none⟩ (.int .i64 M.next)).setCell ⟨w.heap.size,1,none⟩ (.slice ra L.length rc)) w2.heap.size M.since M.next (.slice a M.items.length c):=(hso _ _ (by have:=HG8.out; omega)).trans hM6
    have mm6:=hM6.cells.1
    have mm7:=hM7.cells.1
    have HV6:=Hid.mk (vin_boxQ HV5.out HZ5.out (fun s q => by cases q) (.int .i64 M.next) (.slice ra L.length rc))
    clear hM6 hM7
    go_wp2_with fail
    go_region
    all_goals (go_wp2_with fail)
    generalize (w5.setCell ⟨w.heap.size,0,none⟩ (.int .i64 M.next)).setCell ⟨w.heap.size,1,none⟩ (.slice ra L.length rc) = W9 at *
    obtain ⟨q0,q1⟩:=n3.cells
    refine bodyPost_ret (v := .tuple #[.agg #[.int .i64 M.next,.slice ra L.length rc],.int .i64 M.since,.int .i64 0]) ?_ rfl ⟨.inl ⟨L,M.next,M.since,ra,rc,HAr.out,rfl,HV6.out.later (Below.refl _ _).drew,HRm.out⟩,B6.out.drew⟩
    rw [results_ctt rfl]
    go_simp
   ·have HNo : Hid (∀ L n c,¬ Arc s L n c):=⟨fun L' n c h => by
     obtain ⟨e1,e2,e3⟩:=HA.out L' n c h
     rw [HRs.out] at e1
     injection e1 with e1
     subst e1 e2 e3
     exact hA h⟩
    by_cases hO : OfR L M.next M.since
    ·obtain ⟨e1,e2⟩:=pk_yes hO
     have hne : ¬ arc L M.next M.since = s:=fun q => hA ⟨hO,q.symm⟩
     have d1 : (arc L M.next M.since == s) = false:=beq_eq_false_iff_ne.2 hne
     have d2 : (arc L M.next M.since != s) = true:=by rw [bne,d1]; rfl
     rw [e1,e2]
     clear e1 e2 hne hO hA
     generalize arc L M.next M.since = ar at *
     dsimp only
     obtain ⟨y0,y1⟩:=HZ5.out.cells
     have f0:=HZ5.out.fz 0
     have f1:=HZ5.out.fz 1
     have n3:=HZ5.out.set2 0 (.slice none 0 0)
     have B5:=Hid.mk (below2 (r:=w.heap.size) HB5.out (Nat.le_refl _) (.int .i64 0) (.slice none 0 0))
     go_wp2_with fail
     generalize (w5.setCell ⟨w.heap.size,0,none⟩ (.int .i64 0)).setCell ⟨w.heap.size,1,none⟩ (.slice none 0 0) = W9 at *
     obtain ⟨q0,q1⟩:=n3.cells
     refine bodyPost_ret (v := .tuple #[.agg #[.int .i64 0,.slice none 0 0],.int .i64 0,.int .i64 90]) ?_ rfl ⟨.inr ⟨HNo.out,rfl⟩,B5.out⟩
     rw [results_ctt rfl]
     go_simp
    ·obtain ⟨e1,e2⟩:=pk_no hO
     rw [e1,e2]
     clear e1 e2 hO hA
     dsimp only
     obtain ⟨y0,y1⟩:=HZ5.out.cells
     have f0:=HZ5.out.fz 0
     have f1:=HZ5.out.fz 1
     have n3:=HZ5.out.set2 0 (.slice none 0 0)
     have B5:=Hid.mk (below2 (r:=w.heap.size) HB5.out (Nat.le_refl _) (.int .i64 0) (.slice none 0 0))
     go_wp2_with fail
     generalize (w5.setCell ⟨w.heap.size,0,none⟩ (.int .i64 0)).setCell ⟨w.heap.size,1,none⟩ (.slice none 0 0) = W9 at *
     obtain ⟨q0,q1⟩:=n3.cells
     refine bodyPost_ret (v := .tuple #[.agg #[.int .i64 0,.slice none 0 0],.int .i64 0,.int .i64 90]) ?_ rfl ⟨.inr ⟨HNo.out,rfl⟩,B5.out⟩
     rw [results_ctt rfl]
     go_simp
end
end Go.Proofs.YtdfjlmfnkhhnjaaGreatDoor
