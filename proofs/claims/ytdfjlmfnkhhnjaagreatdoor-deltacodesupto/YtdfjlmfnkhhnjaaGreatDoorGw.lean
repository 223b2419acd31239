import Derived.Test.YtdfjlmfnkhhnjaaGreatDoorGp
import Derived.Test.YtdfjlmfnkhhnjaaGreatDoorGm
import Derived.Test.YtdfjlmfnkhhnjaaGreatDoorGz
import Derived.Test.YtdfjlmfnkhhnjaaGreatDoorGo
import Derived.Deep.DeepAppendWide
set_option maxRecDepth 100000
set_option linter.unusedVariables false
set_option linter.unusedSimpArgs false
namespace Go.Proofs.YtdfjlmfnkhhnjaaGreatDoor
section
open Go.RowKit
open Go.Proofs.YtdfjlmfnkhhnjaaGreatDoorH (hv hv_length hv_one hv_eq leaf)
theorem run_rqK {base : Nat} {w1 : World} {v : Value} {R : List Ri} (r : Ri) (hO : w1.ownsRow base 81 37 v R.length (rics R)) (hle : base ≤ w1.heap.size) (hn : R.length ≤ 1954687338240) :
  ∃ g' c' w',(∀ ty,(Builtin.append_ #[36,36] ty #[v,.slice (some ⟨w1.heap.size,0,none⟩) 1 1]).run Tryz.prog (w1.alloc (.cells (ri r).toArray 81)) = .ok (.slice (some ⟨g',0,none⟩) (R.length + 1) c') w') ∧ w'.ownsRow base 81 37 (.slice (some ⟨g',0,none⟩) (R.length + 1) c') (R.length + 1) (rics (R ++ [r])) ∧ Below base w1 w' ∧ ∀ k,k < w1.heap.size → v.ownBlock ≠ some k → w'.heap[k]? = w1.heap[k]?:=by
 obtain ⟨i0,hi,hz0,hz1,hz2⟩:=info_parts infoQf
 have hmx : maxLen = 9223372036854775807:=rfl
 have o1 : (w1.alloc (.cells (ri r).toArray 81)).ownsRow base 81 37 v R.length (rics R):=hO.alloc _
 obtain ⟨v',w',hr,hown,hgrow,_⟩:=run_append_own_wide (P:=Tryz.prog) (w:=w1.alloc (.cells (ri r).toArray 81)) base 36 36 81 i0 _ 37 96 Tryz.underlying36 hi hz0 hz1 hz2 rfl (by omega) v R.length (rics R) o1 ⟨w1.heap.size,0,none⟩ 1 1 (ri r) (by rw [ri_len])
  (World.news_of_block (cs:=(ri r).toArray) (t:=81) (fr:=(0,0)) (heap_alloc_new w1 _)) (ic_one _ _ _) (by rw [hmx]; omega) (by omega) (by simp; omega)
 rcases hown.2 with ⟨e,h0⟩ | ⟨g2,cap2,cur,e,h2⟩
 ·omega
 ·subst e
  refine ⟨g2,cap2,w',fun ty => hr,?_,((Below.refl _ _).alloc hle _).trans (grown_below o1 (by simp; omega) hgrow),fun k hk hne => by rw [hgrow.block k (by simp; omega) (Ne.symm hne),hao4 _ _ _ hk]⟩
  rw [rics_append,rics_one']
  exact hown
structure QK (w W : World) (sn nx : Int) (bv v : Value) (R : List Ri) : Prop where
 g0 : W.heap[w.heap.size]? = some (.cells #[.int .i64 nx,bv] 24 (0,0))
 g1 : Bn3 W (w.heap.size + 1) 0 0 (.slice none 0 0)
 g2 : Bn3 W (w.heap.size + 1 + 1) sn nx v
 own : W.ownsRow (w.heap.size + 3) 81 37 v R.length (rics R)
 le : w.heap.size + 3 ≤ W.heap.size
 met : ∀ (k : Nat) (r : Ri),R[k]? = some r → Ow (w.heap.size + 3) W r.mv r.1.l
 bel : Below w.heap.size w W
theorem QK.later {w W W' : World} {sn nx : Int} {bv v : Value} {R : List Ri} (h : QK w W sn nx bv v R) (hb : Below W.heap.size W W') : QK w W' sn nx bv v R :=
 ⟨by rw [hb.block _ (lt_of_block h.g0)]; exact h.g0,h.g1.later hb,h.g2.later hb,own_later h.own hb,Nat.le_trans h.le hb.size,fun k r hr => (h.met k r hr).later hb,h.bel.trans (hb.mono h.bel.size)⟩
theorem QK.more {w W w2 : World} {sn nx : Int} {bv v v' : Value} {R : List Ri} (r : Ri) (h : QK w W sn nx bv v R) (hs : Ow (w.heap.size + 3) W r.mv r.1.l) (hown : w2.ownsRow (w.heap.size + 3) 81 37 v' (R.length + 1) (rics (R ++ [r]))) (h2 : Below (w.heap.size + 3) W w2) (hk : ∀ k,k < W.heap.size → v.ownBlock ≠ some k → w2.heap[k]? = W.heap[k]?) :
  Bn3 w2 (w.heap.size + 1 + 1) sn nx v ∧ QK w (w2.setCell ⟨w.heap.size + 1 + 1,2,none⟩ v') sn nx bv v' (R ++ [r]):=by
 have hsz:=h2.size
 have hle:=h.le
 have e2 : Bn3 w2 (w.heap.size + 1 + 1) sn nx v:=h.g2.oth (h2.block _ (by omega))
 have hmk : ∀ q : Ri,Ow (w.heap.size + 3) W q.mv q.1.l → Ow (w.heap.size + 3) (w2.setCell ⟨w.heap.size + 1 + 1,2,none⟩ v') q.mv q.1.l:=fun q hq => by
  refine ⟨own_keep hq.own (fun g hg => ?_),by simpa using Nat.le_trans hq.le hsz⟩
  have h3:=hq.own.lt g hg
  rw [hso _ _ (by omega)]
  exact hk g h3.2 (own_apart hq.own h.own (by decide) hg)
 refine ⟨e2,⟨?_,h.g1.oth ((hso _ _ (by omega)).trans (h2.block _ (by omega))),by unfold Bn3; rw [heap_setCell_same _ _ _ _ _ _ e2]; rfl,?_,by simpa using Nat.le_trans h.le hsz,?_,(h.bel.trans (h2.mono (by omega))).setCell (p:=⟨w.heap.size + 1 + 1,2,none⟩) (by show w.heap.size ≤ w.heap.size + 1 + 1; omega) _⟩⟩
 ·rw [hso _ _ (by omega),h2.block _ (by omega)]; exact h.g0
 ·have:=own_keep (w':=w2.setCell ⟨w.heap.size + 1 + 1,2,none⟩ v') hown (fun g hg => hso _ _ (by have:=(hown.lt g hg).1; omega))
  simpa using this
 ·intro k q hq
  by_cases hkl : k < R.length
  ·rw [List.getElem?_append_left hkl] at hq
   exact hmk q (h.met k q hq)
  ·have hkl' : k = R.length:=by
    have:=(List.getElem?_eq_some_iff.1 hq).1
    simp at this; omega
   subst hkl'
   simp at hq
   subst hq
   exact hmk _ hs
theorem QK.it {w W : World} {sn nx : Int} {bv : Value} {R : List Ri} {ra : Option Addr} {n rc : Nat} (h : QK w W sn nx bv (.slice ra n rc) R) : IIt W ra (R.map (·.1)):=by
 refine ⟨fun k x hk => ?_⟩
 rw [List.getElem?_map] at hk
 cases hq : R[k]? with
 | none => rw [hq] at hk; cases hk
 | some r =>
  rw [hq] at hk
  simp at hk
  subst hk
  have hkl:=(List.getElem?_eq_some_iff.1 hq).1
  have hsl:=(h.met k r hq).asSl2
  rcases h.own.2 with ⟨e,h0⟩ | ⟨g,cap',cur,e,hbg,hg,_⟩
  ·omega
  ·injection e with e1 e2 e3
   subst e1 e2
   refine ⟨g,0,r.2.1,r.2.2,rfl,lt_of_block hg,fun j v hj => ?_,hsl⟩
   have hj2 : j < 37:=by have:=(List.getElem?_eq_some_iff.1 hj).1; rw [ic_length] at this; exact this
   have hl:=rics_len R
   rw [Nat.zero_add,h.own.cellAt _ (by omega),rics_get R k r hq j hj2]
   exact hj
attribute [local go_sem ↓] Go.wp_at_zero Go.wp_at_succ
set_option maxHeartbeats 4000000 in
theorem qmRight_long (since next : Int) (w : World) (a : Option Addr) (n cap : Nat) (h : 256 < n) :
  Calls Tryz.prog 121 #[.agg #[.int .i64 since,.int .i64 next,.slice a n cap]] w fun e w' => e = .returned (.bool false) ∧ Below w.heap.size w w':=by
 have b0:=(Below.refl w.heap.size w).alloc (Nat.le_refl _) (.cells #[.int .i64 since,.int .i64 next,.slice a n cap] 38)
 have z0:=Bn3.new w since next (.slice a n cap)
 obtain ⟨p0,p1,p2⟩:=z0.cells
 have d5 : decide ((256 : Int) < (n : Int)) = true:=decide_eq_true (by omega)
 have d5n : decide (256 < n) = true:=decide_eq_true h
 clear z0 h
 by_cases h1 : next < 1
 ·have d1 : decide (next < 1) = true:=decide_eq_true h1
  clear h1
  go_enter Tryz.func121,Tryz.ntmps121
  go_wp2_with fail
  go_ret
  exact ⟨rfl,b0⟩
 have d1 : decide (next < 1) = false:=decide_eq_false h1
 by_cases h2 : 1099511627777 < next
 ·have d2 : decide (1099511627777 < next) = true:=decide_eq_true h2
  clear h1 h2
  go_enter Tryz.func121,Tryz.ntmps121
  go_wp2_with fail
  go_ret
  exact ⟨rfl,b0⟩
 have d2 : decide (1099511627777 < next) = false:=decide_eq_false h2
 by_cases h3 : since < 0
 ·have d3 : decide (since < 0) = true:=decide_eq_true h3
  clear h1 h2 h3
  go_enter Tryz.func121,Tryz.ntmps121
  go_wp2_with fail
  go_ret
  exact ⟨rfl,b0⟩
 have d3 : decide (since < 0) = false:=decide_eq_false h3
 by_cases h4 : next < since
 ·have d4 : decide (next < since) = true:=decide_eq_true h4
  clear h1 h2 h3 h4
  go_enter Tryz.func121,Tryz.ntmps121
  go_wp2_with fail
  go_ret
  exact ⟨rfl,b0⟩
 have d4 : decide (next < since) = false:=decide_eq_false h4
 clear h1 h2 h3 h4
 go_enter Tryz.func121,Tryz.ntmps121
 go_wp2_with fail
 go_ret
 exact ⟨rfl,b0⟩
def QOfP (L : List Vs) (next since : Int) (w : World) (e : Ending) (w' : World) : Prop :=
 ((∃ (a : Option Addr) (c : Nat),OfR L next since ∧ e = .returned (.tuple #[.agg #[.int .i64 since,.int .i64 next,.slice a (ofI L).length c],.int .i64 0]) ∧ IIt w' a (ofI L)) ∨
  (¬ OfR L next since ∧ e = .returned (.tuple #[.agg #[.int .i64 0,.int .i64 0,.slice none 0 0],.int .i64 1]))) ∧ Below w.heap.size w w'
theorem QK.start (w : World) (sn nx : Int) (bv : Value) : QK w (((w.alloc (.cells #[.int .i64 nx,bv] 24)).alloc (.cells #[.int .i64 0,.int .i64 0,.slice none 0 0] 38)).alloc (.cells #[.int .i64 sn,.int .i64 nx,.slice none 0 0] 38)) sn nx bv (.slice none 0 0) []:=by
 have b0:=(Below.refl w.heap.size w).alloc (Nat.le_refl _) (.cells #[.int .i64 nx,bv] 24)
 have b1:=b0.alloc b0.size (.cells #[.int .i64 0,.int .i64 0,.slice none 0 0] 38)
 have b2:=b1.alloc b1.size (.cells #[.int .i64 sn,.int .i64 nx,.slice none 0 0] 38)
 refine ⟨?_,?_,?_,World.ownsRow_nil _ _ _ _,by simp,fun k r h => by simp at h,b2⟩
 ·rw [hao4 _ _ _ (by simp; omega),hao4 _ _ _ (by simp)]; exact heap_alloc_new _ _
 ·have:=Bn3.new (w.alloc (.cells #[.int .i64 nx,bv] 24)) 0 0 (.slice none 0 0)
  rw [World.size_alloc] at this
  exact this.oth (hao4 _ _ _ (by simp))
 ·have:=Bn3.new ((w.alloc (.cells #[.int .i64 nx,bv] 24)).alloc (.cells #[.int .i64 0,.int .i64 0,.slice none 0 0] 38)) sn nx (.slice none 0 0)
  rw [World.size_alloc,World.size_alloc] at this
  exact this
end
section
open Go.RowKit
open Go.Proofs.YtdfjlmfnkhhnjaaGreatDoorH (hv hv_length hv_one hv_eq leaf refLeaf_hv)
theorem qval_step {P : Program} {o : Oper} {a : Act} {w : World} {next : Act → World → Prop} {Q : Exit → Act → World → Prop} {v : Value} {w2 : World} (d : Nat) (hd : o.dst = some d) (hx : (execOp a.eval o).run P w = .ok (.value v) w2) (hn : next (a.put (some d) v) w2) : Oper.wp P o a w next Q:=by
 unfold Oper.wp; rw [hx]; show next (a.put o.dst v) w2; rw [hd]; exact hn
theorem qcall_step {P : Program} {o : Oper} {a : Act} {w : World} {next : Act → World → Prop} {Q : Exit → Act → World → Prop} {f : Nat} {args : Array Value} {v : Value} {G : World → Prop} (d : Nat) (hd : o.dst = some d) (hx : (execOp a.eval o).run P w = .ok (.enter f args) w)
  (hc : Calls P f args w fun e w' => e = .returned v ∧ G w') (hn : ∀ w',G w' → next (a.put (some d) v) w') : Oper.wp P o a w next Q:=by
 unfold Oper.wp; rw [hx,Oper.upon_enter]; refine hc.mono ?_; rintro e w' ⟨rfl,g⟩; show next (a.put o.dst v) w'; rw [hd]; exact hn w' g
theorem bal1 {w w' : World} (h : Below w.heap.size w w') (o : Obj) : Below w.heap.size w (w'.alloc o):=h.alloc h.size o
theorem qtake {P : Program} {ops : Array Oper} {Q : Exit → Act → World → Prop} {md : Region.Mode} {S : World → Prop} {oi : Oper} {fuel : Nat} {listed : Array Bool} {a : Act} {w : World} (i d : Nat) (v : Value) (hi : ops[i]? = some oi) (hd : oi.dst = some d)
  (hs : Region.noSelect ops = true) (hf : Region.free md ops listed i = true) (hr : (Region.ready md ops listed).contains i = true)
  (hQ : ∀ c a w,Q (.panic c) (a.put (some d) v) w → Q (.panic c) a w) (hw : Region.wanted oi (yielded ops a.tmps) = true) (hy : ∀ w,S w → (execOp a.eval oi).run P w = .ok (.value v) w) (hS : S w)
  (h : wpAnyH P md ops Q S fuel (listed.setIfInBounds i true) (a.put (some d) v) w) : wpAnyH P md ops Q S (fuel + 1) listed a w :=
 wpAnyH_take hi hs hf hr (by rw [hd]; exact hQ) (Or.inl ⟨hw,hy⟩) hS (by rw [hd]; exact h)
theorem q_it {W : World} {B : Nat} {R : List Ri} {ra : Option Addr} {n rc : Nat} (own : W.ownsRow B 81 37 (.slice ra n rc) R.length (rics R)) (met : ∀ (k : Nat) (r : Ri),R[k]? = some r → Ow B W r.mv r.1.l) : IIt W ra (R.map (·.1)):=by
 refine ⟨fun k x hk => ?_⟩
 rw [List.getElem?_map] at hk
 cases hq : R[k]? with
 | none => rw [hq] at hk; cases hk
 | some r =>
  rw [hq] at hk
  simp at hk
  subst hk
  have hkl:=(List.getElem?_eq_some_iff.1 hq).1
  have hsl:=(met k r hq).asSl2
  rcases own.2 with ⟨e,h0⟩ | ⟨g,cap',cur,e,hbg,hg,_⟩
  ·omega
  ·injection e with e1 e2 e3
   subst e1 e2
   refine ⟨g,0,r.2.1,r.2.2,rfl,lt_of_block hg,fun j v hj => ?_,hsl⟩
   have hj2 : j < 37:=by have:=(List.getElem?_eq_some_iff.1 hj).1; rw [ic_length] at this; exact this
   have hl:=rics_len R
   rw [Nat.zero_add,own.cellAt _ (by omega),rics_get R k r hq j hj2]
   exact hj
attribute [local go_sem ↓] Go.wp_at_zero Go.wp_at_succ bsQe bdQe
attribute [local go_sem] run_bsQ
attribute [-go_sem] Go.Builtin.append_
set_option maxHeartbeats 8000000 in
theorem qOf_any (L : List Vs) (next since : Int) (w : World) (a : Option Addr) (n cap : Nat) (hn : L.length = n) (hL : VIn w a L) (hl : L.length ≤ 1954687338240) (hz : ∀ v ∈ L,v.l.length ≤ 4398046510976) (hp : ∀ v ∈ L,∀ (k : Nat) (e : En),v.l[k]? = some e → e.key.length ≤ 9223372036854775806 ∧ e.val.length ≤ 9223372036854775806) :
  Calls Tryz.prog 76 #[.agg #[.int .i64 next,.slice a n cap],.int .i64 since] w (QOfP L next since w):=by
 subst hn
 have HK0:=Hid.mk (QK.start w since next (.slice a L.length cap))
 have HL:=Hid.mk hL
 have HZ:=Hid.mk hz
 have HP:=Hid.mk hp
 clear hL hz hp
 go_enter Tryz.func76,Tryz.ntmps76
 go_wp2_with fail
 generalize ((w.alloc (.cells #[.int .i64 next,.slice a L.length cap] 24)).alloc (.cells #[.int .i64 0,.int .i64 0,.slice none 0 0] 38)).alloc (.cells #[.int .i64 since,.int .i64 next,.slice none 0 0] 38) = W1 at *
 go_loopw [7,8,9,10,11] (fun i _ _ _ _ wr => ∃ (k : Nat) (R : List Ri) (ra : Option Addr) (rc : Nat),k ≤ L.length ∧ i = .int .i64 (k : Int) ∧ Hid (R.length = k) ∧ Hid (QK w wr since next (.slice a L.length cap) (.slice ra R.length rc) R) ∧ Hid (R.map (·.1) = ofI (L.take k) ∧ ∀ v ∈ L.take k,rtE v = 0)) (fun i _ _ _ _ _ => L.length - (intOf i).toNat)
 case atStart => exact ⟨0,[],none,0,Nat.zero_le _,rfl,⟨rfl⟩,HK0,⟨rfl,fun v h => by simp at h⟩⟩
 case round =>
  clear HK0
  obtain ⟨k,R,ra,rc,hk,rfl,hRk,HO,HR⟩:=hrel
  have p0 : wr.cell? ⟨w.heap.size,0,none⟩ = some (.int .i64 next):=by rw [cell_of_row _ _ _ _ _ _ HO.out.g0]; rfl
  have p1 : wr.cell? ⟨w.heap.size,1,none⟩ = some (.slice a L.length cap):=by rw [cell_of_row _ _ _ _ _ _ HO.out.g0]; rfl
  by_cases hlt : k < L.length
  ·have d3 : decide ((k : Int) < (L.length : Int)) = true:=decide_eq_true (by omega)
   have k0 : (0 : Int) ≤ (k : Int):=Int.natCast_nonneg k
   have k2 : (k : Int) < (L.length : Int):=by omega
   have hw1 : wrap64 ((k : Int) + 1) = ((k + 1 : Nat) : Int):=by unfold wrap64; omega
   obtain ⟨v,hv⟩ : ∃ v,L[k]? = some v:=⟨L[k],List.getElem?_eq_getElem hlt⟩
   have hmem:=List.mem_of_getElem? hv
   obtain ⟨b,off,ma,mc,hab,hbl,c0,c1,c2,c3,c4,hsl⟩:=(HL.out.later HO.out.bel).get k v hv
   subst hab
   have bx:=(Below.refl wr.heap.size wr).alloc (Nat.le_refl _) (.cells #[str v.key,.int .i64 v.seq,.bool v.mkr,str v.data,.slice ma v.l.length mc] 62)
   have HTk : Hid (ofI (L.take (k + 1)) = ofI (L.take k) ++ [itOf v (enc v)]):=⟨by rw [List.take_add_one,hv]; simp [ofI]⟩
   have HTm : Hid (L.take (k + 1) = L.take k ++ [v]):=⟨by rw [List.take_add_one,hv]; rfl⟩
   have hwr:=qWrite_any v (wr.alloc (.cells #[str v.key,.int .i64 v.seq,.bool v.mkr,str v.data,.slice ma v.l.length mc] 62)) ma v.l.length mc rfl (hsl.later bx).at' (HP.out v hmem) (by have:=HZ.out v hmem; omega)
   have hVw : (wr.alloc (.cells #[str v.key,.int .i64 v.seq,.bool v.mkr,str v.data,.slice ma v.l.length mc] 62)).heap[wr.heap.size]? = some (.cells #[str v.key,.int .i64 v.seq,.bool v.mkr,str v.data,.slice ma v.l.length mc] 62 (0,0)):=heap_alloc_new _ _
   have HV:=Hid.mk hVw
   have HS:=Hid.mk (hsl.later bx)
   have HO':=Hid.mk (HO.out.later bx)
   have HM:=Hid.mk hmem
   clear hVw hsl bx hmem hv
   by_cases hrt : rtE v = 0
   ·rw [wro_ok hrt] at hwr
    have HEl : Hid ((enc v).length ≤ 1048576):=⟨enc_le hrt⟩
    have HR2:=Hid.mk hrt
    clear hrt
    go_wp2_with fail
    with_reducible refine Calls.mono hwr ?_
    rintro e w1 ⟨rfl,b1⟩
    dsimp only
    have HO1:=Hid.mk (HO'.out.later b1)
    have HV1 : Hid (w1.heap[wr.heap.size]? = some (.cells #[str v.key,.int .i64 v.seq,.bool v.mkr,str v.data,.slice ma v.l.length mc] 62 (0,0))):=⟨(b1.block _ (by simp)).trans HV.out⟩
    have HS1:=Hid.mk (HS.out.later b1)
    clear hwr b1 HS HV HO' HO c0 c1 c2 c3 c4 hbl p0 p1
    generalize wr.heap.size = g8 at *
    obtain ⟨tx,htx⟩ : ∃ t,Hid (enc v = t):=⟨_,⟨rfl⟩⟩
    rw [htx.out] at HTk HEl ⊢
    have HT:=Hid.mk (HZ.out v HM.out)
    obtain ⟨key,seq,mkr,data,l⟩:=v
    dsimp only at HV1 HS1 HT ⊢
    have HVC : Hid (∀ w',Below w1.heap.size w1 w' → w'.cell? ⟨g8,0,none⟩ = some (str key) ∧ w'.cell? ⟨g8,1,none⟩ = some (.int .i64 seq) ∧ w'.cell? ⟨g8,2,none⟩ = some (.bool mkr) ∧ w'.cell? ⟨g8,3,none⟩ = some (str data) ∧ w'.cell? ⟨g8,4,none⟩ = some (.slice ma l.length mc)):=⟨fun w' h => by
     have e:=(h.block g8 (lt_of_block HV1.out)).trans HV1.out
     refine ⟨?_,?_,?_,?_,?_⟩ <;> (rw [cell_of_row _ _ _ _ _ _ e]; rfl)⟩
    have HVC2 : Hid (∀ w',Below w1.heap.size w1 w' → w'.cell? ⟨w.heap.size + 1 + 1,2,none⟩ = some (.slice ra R.length rc) ∧ True):=⟨fun w' h => ⟨((HO1.out.later h).g2.cells).2.2,trivial⟩⟩
    have HA : Hid (∀ w',Below w1.heap.size w1 w' → ∃ ia ic w2,(∀ ty,(Builtin.append_ #[43,43] ty #[.slice none 0 0,.slice ma l.length mc]).run Tryz.prog w' = .ok (.slice ia l.length ic) w2) ∧ Below w1.heap.size w1 w2 ∧ Ow w1.heap.size w2 (.slice ia l.length ic) l):=⟨fun w' h => by
     obtain ⟨v2,w2,hr,o2,b2⟩:=run_ow (base:=w1.heap.size) (w:=w') 43 l (Ow.nil w' _ h.size) (HS1.out.later h) rfl (by have:=HT.out; simp; omega)
     rw [List.nil_append] at o2
     obtain ⟨va,vc,rfl,_⟩:=o2.sl
     exact ⟨va,vc,w2,fun ty => hr,h.trans b2,o2⟩⟩
    have HC : Hid (∀ w',Below w1.heap.size w1 w' → Calls Tryz.prog 120 #[str tx] w' fun e w'' => e = .returned (.agg (hv (leaf tx)).toArray) ∧ Below w'.heap.size w' w''):=⟨fun w' _ => refLeaf_hv ⟨tx.toArray⟩ w' (by rw [str_size]; have:=HEl.out; omega)⟩
    have HE : Hid (∀ (w2 : World) (ia : Option Addr) (ic1 : Nat),Below w1.heap.size w1 w2 → Ow w1.heap.size w2 (.slice ia l.length ic1) l → ∃ g' c' w3,(∀ ty,(Builtin.append_ #[36,36] ty #[.slice ra R.length rc,.slice (some ⟨w2.heap.size,0,none⟩) 1 1]).run Tryz.prog (w2.alloc (.cells (ic (itOf ⟨key,seq,mkr,data,l⟩ tx) ia ic1).toArray 81)) = .ok (.slice (some ⟨g',0,none⟩) (R.length + 1) c') w3) ∧ w3.cell? ⟨w.heap.size + 1 + 1,2,none⟩ = some (.slice ra R.length rc) ∧ w3.frozen? ⟨w.heap.size + 1 + 1,2,none⟩ = false ∧ Hid ((w3.cell? ⟨g8,0,none⟩ = some (str key) ∧ w3.cell? ⟨g8,1,none⟩ = some (.int .i64 seq) ∧ w3.cell? ⟨g8,2,none⟩ = some (.bool mkr) ∧ w3.cell? ⟨g8,3,none⟩ = some (str data) ∧ w3.cell? ⟨g8,4,none⟩ = some (.slice ma l.length mc)) ∧ ((w3.setCell ⟨w.heap.size + 1 + 1,2,none⟩ (.slice (some ⟨g',0,none⟩) (R.length + 1) c')).cell? ⟨g8,0,none⟩ = some (str key) ∧ (w3.setCell ⟨w.heap.size + 1 + 1,2,none⟩ (.slice (some ⟨g',0,none⟩) (R.length + 1) c')).cell? ⟨g8,1,none⟩ = some (.int .i64 seq) ∧ (w3.setCell ⟨w.heap.size + 1 + 1,2,none⟩ (.slice (some ⟨g',0,none⟩) (R.length + 1) c')).cell? ⟨g8,2,none⟩ = some (.bool mkr) ∧ (w3.setCell ⟨w.heap.size + 1 + 1,2,none⟩ (.slice (some ⟨g',0,none⟩) (R.length + 1) c')).cell? ⟨g8,3,none⟩ = some (str data) ∧ (w3.setCell ⟨w.heap.size + 1 + 1,2,none⟩ (.slice (some ⟨g',0,none⟩) (R.length + 1) c')).cell? ⟨g8,4,none⟩ = some (.slice ma l.length mc)) ∧ QK w (w3.setCell ⟨w.heap.size + 1 + 1,2,none⟩ (.slice (some ⟨g',0,none⟩) (R.length + 1) c')) since next (.slice (some ⟨b,off,none⟩) L.length cap) (.slice (some ⟨g',0,none⟩) (R.length + 1) c') (R ++ [(itOf ⟨key,seq,mkr,data,l⟩ tx,ia,ic1)]))):=⟨fun w2 ia ic1 hb how => by
     have K8:=HO1.out.later hb
     have how8 : Ow (w.heap.size + 3) w2 (Ri.mv (itOf ⟨key,seq,mkr,data,l⟩ tx,ia,ic1)) l:=how.base HO1.out.le
     obtain ⟨g',c',w3,hr,hown,hb3,hk3⟩:=run_rqK (itOf ⟨key,seq,mkr,data,l⟩ tx,ia,ic1) K8.own K8.le (by have:=hRk.out; omega)
     obtain ⟨hbm,hq⟩:=K8.more (itOf ⟨key,seq,mkr,data,l⟩ tx,ia,ic1) how8 hown hb3 hk3
     have e8 : w3.heap[g8]? = some (.cells #[str key,.int .i64 seq,.bool mkr,str data,.slice ma l.length mc] 62 (0,0)):=by
      have h1:=(hb.block g8 (lt_of_block HV1.out)).trans HV1.out
      rw [hk3 g8 (lt_of_block h1) (fun q => ?_)]
      ·exact h1
      ·obtain ⟨cs,e⟩:=own_type K8.own q
       rw [h1] at e
       injection e with e
       injection e with _ e _
       exact absurd e (by decide)
     have e9 : (w3.setCell ⟨w.heap.size + 1 + 1,2,none⟩ (.slice (some ⟨g',0,none⟩) (R.length + 1) c')).heap[g8]? = some (.cells #[str key,.int .i64 seq,.bool mkr,str data,.slice ma l.length mc] 62 (0,0)):=by
      rw [hso _ _ (fun q => ?_)]
      ·exact e8
      ·have h2:=hbm
       unfold Bn3 at h2
       rw [← q,e8] at h2
       injection h2 with h2
       injection h2 with _ h2 _
       exact absurd h2 (by decide)
     refine ⟨g',c',w3,hr,hbm.cells.2.2,hbm.fz 2,⟨⟨?_,?_,?_,?_,?_⟩,⟨?_,?_,?_,?_,?_⟩,hq⟩⟩
     all_goals first | (rw [cell_of_row _ _ _ _ _ _ e8]; rfl) | (rw [cell_of_row _ _ _ _ _ _ e9]; rfl)⟩
    have HNx : Hid (∀ (ia : Option Addr) (ic1 : Nat),Hid ((R ++ [(itOf ⟨key,seq,mkr,data,l⟩ tx,ia,ic1)]).map (·.1) = ofI (L.take (k + 1)) ∧ ∀ v ∈ L.take (k + 1),rtE v = 0)):=⟨fun ia ic1 => ⟨by rw [List.map_append,HR.out.1,HTk.out]; rfl,fun v hv => by
     rw [HTm.out] at hv
     rcases List.mem_append.1 hv with q | q
     ·exact HR.out.2 v q
     ·rw [List.mem_singleton.1 q]; exact HR2.out⟩⟩
    have hfz:=HO1.out.g2.fz 2
    clear HR HTk HTm HR2 HM HS1 HT HEl
    go_wp2_with fail
    refine wp_region_held (S:=fun w' => w'.cell? ⟨g8,0,none⟩ = some (str key) ∧ w'.cell? ⟨g8,1,none⟩ = some (.int .i64 seq) ∧ w'.cell? ⟨g8,2,none⟩ = some (.bool mkr) ∧ w'.cell? ⟨g8,3,none⟩ = some (str data) ∧ w'.cell? ⟨g8,4,none⟩ = some (.slice ma l.length mc)) (by kernel_rfl) ?_
    try (change wpAnyH _ _ _ _ _ _ _ _ (World.drew _))
    have hHeld:=HVC.out _ (Below.refl w1.heap.size w1).drew
    refine qtake 0 36 (.pointer (some ⟨w.heap.size + 1 + 1,2,none⟩)) rfl rfl (by kernel_rfl) (by kernel_rfl) (by kernel_rfl) (fun _ _ _ h => h) (by kernel_rfl) ?_ (by assumption) ?_
    ·intro w' hSw
     obtain ⟨s0,s1,s2,s3,s4⟩:=hSw
     go_simp
    try simp only [Act.put,lyA,lyB,lyC]
    refine qtake 2 38 (.pointer (some ⟨g8,0,none⟩)) rfl rfl (by kernel_rfl) (by kernel_rfl) (by kernel_rfl) (fun _ _ _ h => h) (by kernel_rfl) ?_ (by assumption) ?_
    ·intro w' hSw
     obtain ⟨s0,s1,s2,s3,s4⟩:=hSw
     go_simp
    try simp only [Act.put,lyA,lyB,lyC]
    refine qtake 3 39 (str key) rfl rfl (by kernel_rfl) (by kernel_rfl) (by kernel_rfl) (fun _ _ _ h => h) (by kernel_rfl) ?_ (by assumption) ?_
    ·intro w' hSw
     obtain ⟨s0,s1,s2,s3,s4⟩:=hSw
     go_simp
    try simp only [Act.put,lyA,lyB,lyC]
    refine qtake 4 40 (.pointer (some ⟨g8,1,none⟩)) rfl rfl (by kernel_rfl) (by kernel_rfl) (by kernel_rfl) (fun _ _ _ h => h) (by kernel_rfl) ?_ (by assumption) ?_
    ·intro w' hSw
     obtain ⟨s0,s1,s2,s3,s4⟩:=hSw
     go_simp
    try simp only [Act.put,lyA,lyB,lyC]
    refine qtake 5 41 (.int .i64 seq) rfl rfl (by kernel_rfl) (by kernel_rfl) (by kernel_rfl) (fun _ _ _ h => h) (by kernel_rfl) ?_ (by assumption) ?_
    ·intro w' hSw
     obtain ⟨s0,s1,s2,s3,s4⟩:=hSw
     go_simp
    try simp only [Act.put,lyA,lyB,lyC]
    refine qtake 6 42 (.pointer (some ⟨g8,2,none⟩)) rfl rfl (by kernel_rfl) (by kernel_rfl) (by kernel_rfl) (fun _ _ _ h => h) (by kernel_rfl) ?_ (by assumption) ?_
    ·intro w' hSw
     obtain ⟨s0,s1,s2,s3,s4⟩:=hSw
     go_simp
    try simp only [Act.put,lyA,lyB,lyC]
    refine qtake 7 43 (.bool mkr) rfl rfl (by kernel_rfl) (by kernel_rfl) (by kernel_rfl) (fun _ _ _ h => h) (by kernel_rfl) ?_ (by assumption) ?_
    ·intro w' hSw
     obtain ⟨s0,s1,s2,s3,s4⟩:=hSw
     go_simp
    try simp only [Act.put,lyA,lyB,lyC]
    refine qtake 8 44 (.pointer (some ⟨g8,3,none⟩)) rfl rfl (by kernel_rfl) (by kernel_rfl) (by kernel_rfl) (fun _ _ _ h => h) (by kernel_rfl) ?_ (by assumption) ?_
    ·intro w' hSw
     obtain ⟨s0,s1,s2,s3,s4⟩:=hSw
     go_simp
    try simp only [Act.put,lyA,lyB,lyC]
    refine qtake 9 45 (str data) rfl rfl (by kernel_rfl) (by kernel_rfl) (by kernel_rfl) (fun _ _ _ h => h) (by kernel_rfl) ?_ (by assumption) ?_
    ·intro w' hSw
     obtain ⟨s0,s1,s2,s3,s4⟩:=hSw
     go_simp
    try simp only [Act.put,lyA,lyB,lyC]
    refine qtake 10 46 (.int .i64 (data.length : Int)) rfl rfl (by kernel_rfl) (by kernel_rfl) (by kernel_rfl) (fun _ _ _ h => h) (by kernel_rfl) ?_ (by assumption) ?_
    ·intro w' hSw
     obtain ⟨s0,s1,s2,s3,s4⟩:=hSw
     go_simp
    try simp only [Act.put,lyA,lyB,lyC]
    refine qtake 11 47 (.slice none 0 0) rfl rfl (by kernel_rfl) (by kernel_rfl) (by kernel_rfl) (fun _ _ _ h => h) (by kernel_rfl) ?_ (by assumption) ?_
    ·intro w' hSw
     obtain ⟨s0,s1,s2,s3,s4⟩:=hSw
     go_simp
    try simp only [Act.put,lyA,lyB,lyC]
    refine qtake 12 48 (.pointer (some ⟨g8,4,none⟩)) rfl rfl (by kernel_rfl) (by kernel_rfl) (by kernel_rfl) (fun _ _ _ h => h) (by kernel_rfl) ?_ (by assumption) ?_
    ·intro w' hSw
     obtain ⟨s0,s1,s2,s3,s4⟩:=hSw
     go_simp
    try simp only [Act.put,lyA,lyB,lyC]
    refine qtake 13 49 (.slice ma l.length mc) rfl rfl (by kernel_rfl) (by kernel_rfl) (by kernel_rfl) (fun _ _ _ h => h) (by kernel_rfl) ?_ (by assumption) ?_
    ·intro w' hSw
     obtain ⟨s0,s1,s2,s3,s4⟩:=hSw
     go_simp
    try simp only [Act.put,lyA,lyB,lyC]
    refine qtake 15 51 (str tx) rfl rfl (by kernel_rfl) (by kernel_rfl) (by kernel_rfl) (fun _ _ _ h => h) (by kernel_rfl) ?_ (by assumption) ?_
    ·intro w' hSw
     obtain ⟨s0,s1,s2,s3,s4⟩:=hSw
     go_simp
    try simp only [Act.put,lyA,lyB,lyC]
    refine wpAnyH_ready (rs := [1,14]) (by kernel_rfl) (by simp) ?_
    refine AllReadyH.cons rfl (fun K hK => ?_) (AllReadyH.cons rfl (fun K hK => ?_) AllReadyH.nil)
    ·skip
     rw [if_pos (by kernel_rfl)]
     have mc0:=(HVC2.out _ (Below.refl w1.heap.size w1).drew).1
     refine qval_step (v := .slice ra R.length rc) (w2:=w1.drew) 37 rfl ?_ ?_
     ·go_simp
     clear mc0
     refine hK.out _ _ (HVC.out _ (Below.refl w1.heap.size w1).drew) (fun hHeld => ?_)
     clear hK K
     try simp only [Act.put,lyA,lyB,lyC]
     refine wpAnyH_ready (rs := [14]) (by kernel_rfl) (by simp) ?_
     refine AllReadyH.cons rfl (fun K hK => ?_) AllReadyH.nil
     rw [if_pos (by kernel_rfl)]
     obtain ⟨ia1,ic2,w3,hr,b4,ho5⟩:=HA.out _ (Below.refl w1.heap.size w1).drew
     refine qval_step (v := .slice ia1 l.length ic2) (w2:=w3) 50 rfl ?_ ?_
     ·go_simp
     clear hr
     refine hK.out _ _ (HVC.out _ b4) (fun hHeld => ?_)
     clear hK K
     try simp only [Act.put,lyA,lyB,lyC]
     refine wpAnyH_ready (rs := [16]) (by kernel_rfl) (by simp) ?_
     refine AllReadyH.cons rfl (fun K hK => ?_) AllReadyH.nil
     rw [if_pos (by kernel_rfl)]
     refine qcall_step 52 rfl (by go_simp) (HC.out _ b4) ?_
     intro w6 gg8
     have b7:=below_seq b4 gg8
     have ho9:=ho5.later gg8
     refine hK.out _ _ (HVC.out _ b7) (fun hHeld => ?_)
     clear hK K
     try simp only [Act.put,lyA,lyB,lyC]
     have hbd : ∀ w,(bdQ #[(0,str key),(1,.int .i64 seq),(2,.bool mkr),(3,.int .i64 (data.length : Int)),(4,.slice ia1 l.length ic2),(5,.agg (hv (leaf tx)).toArray)]).run Tryz.prog w = .ok (.agg (ic (itOf ⟨key,seq,mkr,data,l⟩ tx) ia1 ic2).toArray) w:=fun w => run_bdQ (itOf ⟨key,seq,mkr,data,l⟩ tx) ia1 ic2 w
     refine qtake 17 53 (.agg (ic (itOf ⟨key,seq,mkr,data,l⟩ tx) ia1 ic2).toArray) rfl rfl (by kernel_rfl) (by kernel_rfl) (by kernel_rfl) (fun _ _ _ h => h) (by kernel_rfl) ?_ (by assumption) ?_
     ·intro w' hSw
      obtain ⟨s0,s1,s2,s3,s4⟩:=hSw
      go_simp
     try simp only [Act.put,lyA,lyB,lyC]
     clear hbd
     refine wpAnyH_ready (rs := [18]) (by kernel_rfl) (by simp) ?_
     refine AllReadyH.cons rfl (fun K hK => ?_) AllReadyH.nil
     rw [if_pos (by kernel_rfl)]
     have b10:=bal1 b7 (.cells (ic (itOf ⟨key,seq,mkr,data,l⟩ tx) ia1 ic2).toArray 81)
     refine qval_step (v := .slice (some ⟨w6.heap.size,0,none⟩) 1 1) (w2:=(w6.alloc (.cells (ic (itOf ⟨key,seq,mkr,data,l⟩ tx) ia1 ic2).toArray 81))) 54 rfl ?_ ?_
     ·go_simp
     refine hK.out _ _ (HVC.out _ b10) (fun hHeld => ?_)
     clear hK K
     try simp only [Act.put,lyA,lyB,lyC]
     obtain ⟨g11,c12,w13,hr,m0,m1,HF⟩:=HE.out w6 ia1 ic2 b7 ho9
     refine wpAnyH_ready (rs := [19]) (by kernel_rfl) (by simp) ?_
     refine AllReadyH.cons rfl (fun K hK => ?_) AllReadyH.nil
     rw [if_pos (by kernel_rfl)]
     refine qval_step (v := .slice (some ⟨g11,0,none⟩) (R.length + 1) c12) (w2:=w13) 55 rfl ?_ ?_
     ·go_simp
     refine hK.out _ _ HF.out.1 (fun hHeld => ?_)
     clear hK K
     try simp only [Act.put,lyA,lyB,lyC]
     refine qtake 20 56 (.pointer (some ⟨w.heap.size + 1 + 1,2,none⟩)) rfl rfl (by kernel_rfl) (by kernel_rfl) (by kernel_rfl) (fun _ _ _ h => h) (by kernel_rfl) ?_ (by assumption) ?_
     ·intro w' hSw
      obtain ⟨s0,s1,s2,s3,s4⟩:=hSw
      go_simp
     try simp only [Act.put,lyA,lyB,lyC]
     refine wpAnyH_ready (rs := [21]) (by kernel_rfl) (by simp) ?_
     refine AllReadyH.cons rfl (fun K hK => ?_) AllReadyH.nil
     rw [if_pos (by kernel_rfl)]
     go_simp
     refine hK.out _ _ HF.out.2.1 (fun hHeld => ?_)
     clear hK K
     try simp only [Act.put,lyA,lyB,lyC]
     refine wpAnyH_done (by kernel_rfl) ?_ _
     have HQ:=Hid.mk HF.out.2.2
     clear hHeld hr m0 m1 HF
     go_wp2_with fail
     refine ⟨⟨k + 1,R ++ [(itOf ⟨key,seq,mkr,data,l⟩ tx,ia1,ic2)],_,_,hlt,by first | (rw [hw1]; done) | rfl | go_num,⟨by simp [hRk.out]⟩,⟨by rw [List.length_append]; exact HQ.out⟩,HNx.out _ _⟩,by first | (rw [hw1]; exact Nat.sub_lt_sub_left hlt (Nat.lt_succ_self k)) | (simp [intOf]; omega)⟩
    ·skip
     rw [if_pos (by kernel_rfl)]
     obtain ⟨ia14,ic15,w16,hr,b17,ho18⟩:=HA.out _ (Below.refl w1.heap.size w1).drew
     refine qval_step (v := .slice ia14 l.length ic15) (w2:=w16) 50 rfl ?_ ?_
     ·go_simp
     clear hr
     refine hK.out _ _ (HVC.out _ b17) (fun hHeld => ?_)
     clear hK K
     try simp only [Act.put,lyA,lyB,lyC]
     refine wpAnyH_ready (rs := [1,16]) (by kernel_rfl) (by simp) ?_
     refine AllReadyH.cons rfl (fun K hK => ?_) (AllReadyH.cons rfl (fun K hK => ?_) AllReadyH.nil)
     ·skip
      rw [if_pos (by kernel_rfl)]
      have mc0:=(HVC2.out _ b17).1
      refine qval_step (v := .slice ra R.length rc) (w2:=w16) 37 rfl ?_ ?_
      ·go_simp
      clear mc0
      refine hK.out _ _ (HVC.out _ b17) (fun hHeld => ?_)
      clear hK K
      try simp only [Act.put,lyA,lyB,lyC]
      refine wpAnyH_ready (rs := [16]) (by kernel_rfl) (by simp) ?_
      refine AllReadyH.cons rfl (fun K hK => ?_) AllReadyH.nil
      rw [if_pos (by kernel_rfl)]
      refine qcall_step 52 rfl (by go_simp) (HC.out _ b17) ?_
      intro w19 gg21
      have b20:=below_seq b17 gg21
      have ho22:=ho18.later gg21
      refine hK.out _ _ (HVC.out _ b20) (fun hHeld => ?_)
      clear hK K
      try simp only [Act.put,lyA,lyB,lyC]
      have hbd : ∀ w,(bdQ #[(0,str key),(1,.int .i64 seq),(2,.bool mkr),(3,.int .i64 (data.length : Int)),(4,.slice ia14 l.length ic15),(5,.agg (hv (leaf tx)).toArray)]).run Tryz.prog w = .ok (.agg (ic (itOf ⟨key,seq,mkr,data,l⟩ tx) ia14 ic15).toArray) w:=fun w => run_bdQ (itOf ⟨key,seq,mkr,data,l⟩ tx) ia14 ic15 w
      refine qtake 17 53 (.agg (ic (itOf ⟨key,seq,mkr,data,l⟩ tx) ia14 ic15).toArray) rfl rfl (by kernel_rfl) (by kernel_rfl) (by kernel_rfl) (fun _ _ _ h => h) (by kernel_rfl) ?_ (by assumption) ?_
      ·intro w' hSw
       obtain ⟨s0,s1,s2,s3,s4⟩:=hSw
       go_simp
      try simp only [Act.put,lyA,lyB,lyC]
      clear hbd
      refine wpAnyH_ready (rs := [18]) (by kernel_rfl) (by simp) ?_
      refine AllReadyH.cons rfl (fun K hK => ?_) AllReadyH.nil
      rw [if_pos (by kernel_rfl)]
      have b23:=bal1 b20 (.cells (ic (itOf ⟨key,seq,mkr,data,l⟩ tx) ia14 ic15).toArray 81)
      refine qval_step (v := .slice (some ⟨w19.heap.size,0,none⟩) 1 1) (w2:=(w19.alloc (.cells (ic (itOf ⟨key,seq,mkr,data,l⟩ tx) ia14 ic15).toArray 81))) 54 rfl ?_ ?_
      ·go_simp
      refine hK.out _ _ (HVC.out _ b23) (fun hHeld => ?_)
      clear hK K
      try simp only [Act.put,lyA,lyB,lyC]
      obtain ⟨g24,c25,w26,hr,m0,m1,HF⟩:=HE.out w19 ia14 ic15 b20 ho22
      refine wpAnyH_ready (rs := [19]) (by kernel_rfl) (by simp) ?_
      refine AllReadyH.cons rfl (fun K hK => ?_) AllReadyH.nil
      rw [if_pos (by kernel_rfl)]
      refine qval_step (v := .slice (some ⟨g24,0,none⟩) (R.length + 1) c25) (w2:=w26) 55 rfl ?_ ?_
      ·go_simp
      refine hK.out _ _ HF.out.1 (fun hHeld => ?_)
      clear hK K
      try simp only [Act.put,lyA,lyB,lyC]
      refine qtake 20 56 (.pointer (some ⟨w.heap.size + 1 + 1,2,none⟩)) rfl rfl (by kernel_rfl) (by kernel_rfl) (by kernel_rfl) (fun _ _ _ h => h) (by kernel_rfl) ?_ (by assumption) ?_
      ·intro w' hSw
       obtain ⟨s0,s1,s2,s3,s4⟩:=hSw
       go_simp
      try simp only [Act.put,lyA,lyB,lyC]
      refine wpAnyH_ready (rs := [21]) (by kernel_rfl) (by simp) ?_
      refine AllReadyH.cons rfl (fun K hK => ?_) AllReadyH.nil
      rw [if_pos (by kernel_rfl)]
      go_simp
      refine hK.out _ _ HF.out.2.1 (fun hHeld => ?_)
      clear hK K
      try simp only [Act.put,lyA,lyB,lyC]
      refine wpAnyH_done (by kernel_rfl) ?_ _
      have HQ:=Hid.mk HF.out.2.2
      clear hHeld hr m0 m1 HF
      go_wp2_with fail
      refine ⟨⟨k + 1,R ++ [(itOf ⟨key,seq,mkr,data,l⟩ tx,ia14,ic15)],_,_,hlt,by first | (rw [hw1]; done) | rfl | go_num,⟨by simp [hRk.out]⟩,⟨by rw [List.length_append]; exact HQ.out⟩,HNx.out _ _⟩,by first | (rw [hw1]; exact Nat.sub_lt_sub_left hlt (Nat.lt_succ_self k)) | (simp [intOf]; omega)⟩
     ·skip
      rw [if_pos (by kernel_rfl)]
      refine qcall_step 52 rfl (by go_simp) (HC.out _ b17) ?_
      intro w27 gg29
      have b28:=below_seq b17 gg29
      have ho30:=ho18.later gg29
      refine hK.out _ _ (HVC.out _ b28) (fun hHeld => ?_)
      clear hK K
      try simp only [Act.put,lyA,lyB,lyC]
      have hbd : ∀ w,(bdQ #[(0,str key),(1,.int .i64 seq),(2,.bool mkr),(3,.int .i64 (data.length : Int)),(4,.slice ia14 l.length ic15),(5,.agg (hv (leaf tx)).toArray)]).run Tryz.prog w = .ok (.agg (ic (itOf ⟨key,seq,mkr,data,l⟩ tx) ia14 ic15).toArray) w:=fun w => run_bdQ (itOf ⟨key,seq,mkr,data,l⟩ tx) ia14 ic15 w
      refine qtake 17 53 (.agg (ic (itOf ⟨key,seq,mkr,data,l⟩ tx) ia14 ic15).toArray) rfl rfl (by kernel_rfl) (by kernel_rfl) (by kernel_rfl) (fun _ _ _ h => h) (by kernel_rfl) ?_ (by assumption) ?_
      ·intro w' hSw
       obtain ⟨s0,s1,s2,s3,s4⟩:=hSw
       go_simp
      try simp only [Act.put,lyA,lyB,lyC]
      clear hbd
      refine wpAnyH_ready (rs := [1,18]) (by kernel_rfl) (by simp) ?_
      refine AllReadyH.cons rfl (fun K hK => ?_) (AllReadyH.cons rfl (fun K hK => ?_) AllReadyH.nil)
      ·skip
       rw [if_pos (by kernel_rfl)]
       have mc0:=(HVC2.out _ b28).1
       refine qval_step (v := .slice ra R.length rc) (w2:=w27) 37 rfl ?_ ?_
       ·go_simp
       clear mc0
       refine hK.out _ _ (HVC.out _ b28) (fun hHeld => ?_)
       clear hK K
       try simp only [Act.put,lyA,lyB,lyC]
       refine wpAnyH_ready (rs := [18]) (by kernel_rfl) (by simp) ?_
       refine AllReadyH.cons rfl (fun K hK => ?_) AllReadyH.nil
       rw [if_pos (by kernel_rfl)]
       have b31:=bal1 b28 (.cells (ic (itOf ⟨key,seq,mkr,data,l⟩ tx) ia14 ic15).toArray 81)
       refine qval_step (v := .slice (some ⟨w27.heap.size,0,none⟩) 1 1) (w2:=(w27.alloc (.cells (ic (itOf ⟨key,seq,mkr,data,l⟩ tx) ia14 ic15).toArray 81))) 54 rfl ?_ ?_
       ·go_simp
       refine hK.out _ _ (HVC.out _ b31) (fun hHeld => ?_)
       clear hK K
       try simp only [Act.put,lyA,lyB,lyC]
       obtain ⟨g32,c33,w34,hr,m0,m1,HF⟩:=HE.out w27 ia14 ic15 b28 ho30
       refine wpAnyH_ready (rs := [19]) (by kernel_rfl) (by simp) ?_
       refine AllReadyH.cons rfl (fun K hK => ?_) AllReadyH.nil
       rw [if_pos (by kernel_rfl)]
       refine qval_step (v := .slice (some ⟨g32,0,none⟩) (R.length + 1) c33) (w2:=w34) 55 rfl ?_ ?_
       ·go_simp
       refine hK.out _ _ HF.out.1 (fun hHeld => ?_)
       clear hK K
       try simp only [Act.put,lyA,lyB,lyC]
       refine qtake 20 56 (.pointer (some ⟨w.heap.size + 1 + 1,2,none⟩)) rfl rfl (by kernel_rfl) (by kernel_rfl) (by kernel_rfl) (fun _ _ _ h => h) (by kernel_rfl) ?_ (by assumption) ?_
       ·intro w' hSw
        obtain ⟨s0,s1,s2,s3,s4⟩:=hSw
        go_simp
       try simp only [Act.put,lyA,lyB,lyC]
       refine wpAnyH_ready (rs := [21]) (by kernel_rfl) (by simp) ?_
       refine AllReadyH.cons rfl (fun K hK => ?_) AllReadyH.nil
       rw [if_pos (by kernel_rfl)]
       go_simp
       refine hK.out _ _ HF.out.2.1 (fun hHeld => ?_)
       clear hK K
       try simp only [Act.put,lyA,lyB,lyC]
       refine wpAnyH_done (by kernel_rfl) ?_ _
       have HQ:=Hid.mk HF.out.2.2
       clear hHeld hr m0 m1 HF
       go_wp2_with fail
       refine ⟨⟨k + 1,R ++ [(itOf ⟨key,seq,mkr,data,l⟩ tx,ia14,ic15)],_,_,hlt,by first | (rw [hw1]; done) | rfl | go_num,⟨by simp [hRk.out]⟩,⟨by rw [List.length_append]; exact HQ.out⟩,HNx.out _ _⟩,by first | (rw [hw1]; exact Nat.sub_lt_sub_left hlt (Nat.lt_succ_self k)) | (simp [intOf]; omega)⟩
      ·skip
       rw [if_pos (by kernel_rfl)]
       have b35:=bal1 b28 (.cells (ic (itOf ⟨key,seq,mkr,data,l⟩ tx) ia14 ic15).toArray 81)
       refine qval_step (v := .slice (some ⟨w27.heap.size,0,none⟩) 1 1) (w2:=(w27.alloc (.cells (ic (itOf ⟨key,seq,mkr,data,l⟩ tx) ia14 ic15).toArray 81))) 54 rfl ?_ ?_
       ·go_simp
       refine hK.out _ _ (HVC.out _ b35) (fun hHeld => ?_)
       clear hK K
       try simp only [Act.put,lyA,lyB,lyC]
       refine wpAnyH_ready (rs := [1]) (by kernel_rfl) (by simp) ?_
       refine AllReadyH.cons rfl (fun K hK => ?_) AllReadyH.nil
       rw [if_pos (by kernel_rfl)]
       have mc0:=(HVC2.out _ b35).1
       refine qval_step (v := .slice ra R.length rc) (w2:=(w27.alloc (.cells (ic (itOf ⟨key,seq,mkr,data,l⟩ tx) ia14 ic15).toArray 81))) 37 rfl ?_ ?_
       ·go_simp
       clear mc0
       refine hK.out _ _ (HVC.out _ b35) (fun hHeld => ?_)
       clear hK K
       try simp only [Act.put,lyA,lyB,lyC]
       obtain ⟨g36,c37,w38,hr,m0,m1,HF⟩:=HE.out w27 ia14 ic15 b28 ho30
       refine wpAnyH_ready (rs := [19]) (by kernel_rfl) (by simp) ?_
       refine AllReadyH.cons rfl (fun K hK => ?_) AllReadyH.nil
       rw [if_pos (by kernel_rfl)]
       refine qval_step (v := .slice (some ⟨g36,0,none⟩) (R.length + 1) c37) (w2:=w38) 55 rfl ?_ ?_
       ·go_simp
       refine hK.out _ _ HF.out.1 (fun hHeld => ?_)
       clear hK K
       try simp only [Act.put,lyA,lyB,lyC]
       refine qtake 20 56 (.pointer (some ⟨w.heap.size + 1 + 1,2,none⟩)) rfl rfl (by kernel_rfl) (by kernel_rfl) (by kernel_rfl) (fun _ _ _ h => h) (by kernel_rfl) ?_ (by assumption) ?_
       ·intro w' hSw
        obtain ⟨s0,s1,s2,s3,s4⟩:=hSw
        go_simp
       try simp only [Act.put,lyA,lyB,lyC]
       refine wpAnyH_ready (rs := [21]) (by kernel_rfl) (by simp) ?_
       refine AllReadyH.cons rfl (fun K hK => ?_) AllReadyH.nil
       rw [if_pos (by kernel_rfl)]
       go_simp
       refine hK.out _ _ HF.out.2.1 (fun hHeld => ?_)
       clear hK K
       try simp only [Act.put,lyA,lyB,lyC]
       refine wpAnyH_done (by kernel_rfl) ?_ _
       have HQ:=Hid.mk HF.out.2.2
       clear hHeld hr m0 m1 HF
       go_wp2_with fail
       refine ⟨⟨k + 1,R ++ [(itOf ⟨key,seq,mkr,data,l⟩ tx,ia14,ic15)],_,_,hlt,by first | (rw [hw1]; done) | rfl | go_num,⟨by simp [hRk.out]⟩,⟨by rw [List.length_append]; exact HQ.out⟩,HNx.out _ _⟩,by first | (rw [hw1]; exact Nat.sub_lt_sub_left hlt (Nat.lt_succ_self k)) | (simp [intOf]; omega)⟩
   ·rw [wro_no hrt] at hwr
    have HNo : Hid (¬ OfR L next since):=⟨fun h => hrt (h.2.1 v HM.out)⟩
    generalize rtE v = cd at hwr hrt
    have e1 : (cd == 0) = false:=beq_eq_false_iff_ne.2 hrt
    have e2 : decide (cd = 0) = false:=decide_eq_false hrt
    clear hrt HV HS HTk HTm HR HM
    go_wp2_with fail
    with_reducible refine Calls.mono hwr ?_
    rintro e w1 ⟨rfl,b1⟩
    dsimp only
    have HO1:=Hid.mk (HO'.out.later b1)
    clear hwr b1 HO' HO c0 c1 c2 c3 c4 hbl p0 p1
    obtain ⟨y0,y1,y2⟩:=HO1.out.g1.cells
    have f0:=HO1.out.g1.fz 0
    have f1:=HO1.out.g1.fz 1
    have f2:=HO1.out.g1.fz 2
    have hB:=below3 (r:=w.heap.size + 1) HO1.out.bel (Nat.le_succ _) (.int .i64 0) (.int .i64 0) (.slice none 0 0)
    have hG:=HO1.out.g1.set3 0 0 (.slice none 0 0)
    go_wp2_with fail
    generalize ((w1.setCell ⟨w.heap.size + 1,0,none⟩ (.int .i64 0)).setCell ⟨w.heap.size + 1,1,none⟩ (.int .i64 0)).setCell ⟨w.heap.size + 1,2,none⟩ (.slice none 0 0) = W8 at *
    obtain ⟨q0,q1,q2⟩:=hG.cells
    refine bodyPost_ret (v := .tuple #[.agg #[.int .i64 0,.int .i64 0,.slice none 0 0],.int .i64 1]) ?_ rfl ⟨.inr ⟨HNo.out,rfl⟩,hB⟩
    rw [results_ct2 rfl]
    go_simp
  ·obtain rfl : k = L.length:=Nat.le_antisymm hk (Nat.le_of_not_lt hlt)
   have d3 : decide ((L.length : Int) < (L.length : Int)) = false:=decide_eq_false (fun q => Int.lt_irrefl _ q)
   have HR1 : Hid (R.map (·.1) = ofI L ∧ ∀ v ∈ L,rtE v = 0):=⟨by have:=HR.out; rwa [List.take_length] at this⟩
   have hmm : ∀ x ∈ R.map (·.1),∃ v ∈ L,x.l = v.l:=fun x hx => by
    rw [HR1.out.1] at hx
    obtain ⟨v,hv,rfl⟩:=List.mem_map.1 hx
    exact ⟨v,hv,rfl⟩
   have hc : Calls Tryz.prog 121 #[.agg #[.int .i64 since,.int .i64 next,.slice ra (R.map (·.1)).length rc]] wr (RiP ⟨since,next,R.map (·.1)⟩ wr):=by
    by_cases h256 : 256 < (R.map (·.1)).length
    ·refine (qmRight_long since next wr ra _ rc h256).mono fun e w' ⟨he,hb⟩ => ⟨false,he,⟨fun q => (by cases q),fun q => ?_⟩,hb⟩
     have:=q.len
     dsimp only at this
     omega
    ·exact qmRight_any ⟨since,next,R.map (·.1)⟩ wr ra rc HO.out.it (fun x hx => by obtain ⟨v,hv,e⟩:=hmm x hx; have:=HZ.out v hv; rw [e]; omega) (fun x hx j e he => by obtain ⟨v,hv,e'⟩:=hmm x hx; rw [e'] at he; exact HP.out v hv j e he) (by show (R.map (·.1)).length ≤ 1466015503700; omega)
   simp only [List.length_map] at hc
   obtain ⟨t0,t1,t2⟩:=HO.out.g2.cells
   clear HR hmm hlt hk
   go_wp2_with fail
   with_reducible refine Calls.mono hc ?_
   rintro e w1 ⟨t,rfl,ht,b1⟩
   dsimp only
   have HO1:=Hid.mk (HO.out.later b1)
   clear hc b1 HO p0 p1 t0 t1 t2
   obtain ⟨y0,y1,y2⟩:=HO1.out.g1.cells
   have f0:=HO1.out.g1.fz 0
   have f1:=HO1.out.g1.fz 1
   have f2:=HO1.out.g1.fz 2
   cases t with
   | false =>
    have HNo : Hid (¬ OfR L next since):=⟨fun h => by
     have h2:=h.2.2
     rw [← HR1.out.1] at h2
     exact absurd (ht.2 h2) (by decide)⟩
    have hB:=below3 (r:=w.heap.size + 1) HO1.out.bel (Nat.le_succ _) (.int .i64 0) (.int .i64 0) (.slice none 0 0)
    have hG:=HO1.out.g1.set3 0 0 (.slice none 0 0)
    clear ht
    go_wp2_with fail
    generalize ((w1.setCell ⟨w.heap.size + 1,0,none⟩ (.int .i64 0)).setCell ⟨w.heap.size + 1,1,none⟩ (.int .i64 0)).setCell ⟨w.heap.size + 1,2,none⟩ (.slice none 0 0) = W8 at *
    obtain ⟨q0,q1,q2⟩:=hG.cells
    refine bodyPost_ret (v := .tuple #[.agg #[.int .i64 0,.int .i64 0,.slice none 0 0],.int .i64 1]) ?_ rfl ⟨.inr ⟨HNo.out,rfl⟩,hB⟩
    rw [results_ct2 rfl]
    go_simp
   | true =>
    have hrt:=ht.1 rfl
    have HYe : Hid (OfR L next since):=⟨by
     have h2:=hrt
     rw [HR1.out.1] at h2
     refine ⟨?_,HR1.out.2,h2⟩
     have:=h2.len
     simpa using this⟩
    obtain ⟨t0,t1,t2⟩:=HO1.out.g2.cells
    have hB:=below3 (r:=w.heap.size + 1) HO1.out.bel (Nat.le_succ _) (.int .i64 since) (.int .i64 next) (.slice ra R.length rc)
    have hG:=HO1.out.g1.set3 since next (.slice ra R.length rc)
    have hI : IIt (((w1.setCell ⟨w.heap.size + 1,0,none⟩ (.int .i64 since)).setCell ⟨w.heap.size + 1,1,none⟩ (.int .i64 next)).setCell ⟨w.heap.size + 1,2,none⟩ (.slice ra R.length rc)) ra (ofI L):=by
     rw [← HR1.out.1]
     refine q_it (B:=w.heap.size + 3) (n:=R.length) (rc:=rc) ?_ ?_
     ·exact own_keep HO1.out.own (fun g hg => by have:=(HO1.out.own.lt g hg).1; rw [hso _ _ (by omega),hso _ _ (by omega),hso _ _ (by omega)])
     ·intro j q hq
      have ho:=HO1.out.met j q hq
      exact ⟨own_keep ho.own (fun g hg => by have:=(ho.own.lt g hg).1; rw [hso _ _ (by omega),hso _ _ (by omega),hso _ _ (by omega)]),by simpa using ho.le⟩
    have HLn : Hid (R.length = (ofI L).length):=⟨by rw [← HR1.out.1,List.length_map]⟩
    clear ht hrt
    go_wp2_with fail
    generalize ((w1.setCell ⟨w.heap.size + 1,0,none⟩ (.int .i64 since)).setCell ⟨w.heap.size + 1,1,none⟩ (.int .i64 next)).setCell ⟨w.heap.size + 1,2,none⟩ (.slice ra R.length rc) = W8 at *
    obtain ⟨q0,q1,q2⟩:=hG.cells
    refine bodyPost_ret (v := .tuple #[.agg #[.int .i64 since,.int .i64 next,.slice ra R.length rc],.int .i64 0]) ?_ rfl ⟨.inl ⟨ra,rc,HYe.out,by rw [HLn.out],hI⟩,hB⟩
    rw [results_ct2 rfl]
    go_simp
end
end Go.Proofs.YtdfjlmfnkhhnjaaGreatDoor
