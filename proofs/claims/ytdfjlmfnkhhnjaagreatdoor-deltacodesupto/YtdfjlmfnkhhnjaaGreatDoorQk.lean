import Derived.Test.YtdfjlmfnkhhnjaaGreatDoorGq
import Derived.Test.YtdfjlmfnkhhnjaaGreatDoorGv
import Derived.Test.YtdfjlmfnkhhnjaaGreatDoorGp
import Derived.Test.YtdfjlmfnkhhnjaaGreatDoorGx
import Derived.Deep.DeepAppendWide
import Derived.Deep.RegionHeld3
import Derived.Deep.CutRange
set_option maxRecDepth 100000
set_option linter.unusedVariables false
set_option linter.unusedSimpArgs false
namespace Go.Proofs.YtdfjlmfnkhhnjaaGreatDoor
section
open Go.RowKit
theorem val_step2 {P : Program} {o : Oper} {a : Act} {w : World} {next : Act → World → Prop} {Q : Exit → Act → World → Prop} {v : Value} {w2 : World} (d : Nat) (hd : o.dst = some d) (hx : (execOp a.eval o).run P w = .ok (.value v) w2) (hn : next (a.put (some d) v) w2) : Oper.wp P o a w next Q:=by
 unfold Oper.wp; rw [hx]; show next (a.put o.dst v) w2; rw [hd]; exact hn
theorem call_step2 {P : Program} {o : Oper} {a : Act} {w : World} {next : Act → World → Prop} {Q : Exit → Act → World → Prop} {f : Nat} {args : Array Value} {v : Value} {G : World → Prop} (d : Nat) (hd : o.dst = some d) (hx : (execOp a.eval o).run P w = .ok (.enter f args) w)
  (hc : Calls P f args w fun e w' => e = .returned v ∧ G w') (hn : ∀ w',G w' → next (a.put (some d) v) w') : Oper.wp P o a w next Q:=by
 unfold Oper.wp; rw [hx,Oper.upon_enter]; refine hc.mono ?_; rintro e w' ⟨rfl,g⟩; show next (a.put o.dst v) w'; rw [hd]; exact hn w' g
theorem bal2 {w w' : World} (h : Below w.heap.size w w') (o : Obj) : Below w.heap.size w (w'.alloc o):=h.alloc h.size o
theorem take2 {P : Program} {ops : Array Oper} {Q : Exit → Act → World → Prop} {md : Region.Mode} {S : World → Prop} {oi : Oper} {fuel : Nat} {listed : Array Bool} {a : Act} {w : World} (i d : Nat) (v : Value) (hi : ops[i]? = some oi) (hd : oi.dst = some d)
  (hs : Region.noSelect ops = true) (hf : Region.free md ops listed i = true) (hr : (Region.ready md ops listed).contains i = true)
  (hQ : ∀ c a w,Q (.panic c) (a.put (some d) v) w → Q (.panic c) a w) (hw : Region.wanted oi (yielded ops a.tmps) = true) (hy : ∀ w,S w → (execOp a.eval oi).run P w = .ok (.value v) w) (hS : S w)
  (h : wpAnyH P md ops Q S fuel (listed.setIfInBounds i true) (a.put (some d) v) w) : wpAnyH P md ops Q S (fuel + 1) listed a w :=
 wpAnyH_take hi hs hf hr (by rw [hd]; exact hQ) (Or.inl ⟨hw,hy⟩) hS (by rw [hd]; exact h)
theorem tk2 {P : Program} {ops : Array Oper} {Q : Exit → Act → World → Prop} {md : Region.Mode} {S : World → Prop} {oi : Oper} {fuel : Nat} {listed : Array Bool} {a : Act} {w : World} (i d : Nat) (v : Value) (hy : ∀ w,S w → (execOp a.eval oi).run P w = .ok (.value v) w)
  (h : wpAnyH P md ops Q S fuel (listed.setIfInBounds i true) (a.put (some d) v) w) (hi : ops[i]? = some oi:=by rfl) (hd : oi.dst = some d:=by rfl) (hs : Region.noSelect ops = true:=by kernel_rfl) (hf : Region.free md ops listed i = true:=by kernel_rfl)
  (hr : (Region.ready md ops listed).contains i = true:=by kernel_rfl) (hQ : ∀ c a w,Q (.panic c) (a.put (some d) v) w → Q (.panic c) a w:=by exact fun _ _ _ h => h) (hw : Region.wanted oi (yielded ops a.tmps) = true:=by kernel_rfl) (hS : S w:=by assumption) : wpAnyH P md ops Q S (fuel + 1) listed a w :=
 take2 i d v hi hd hs hf hr hQ hw hy hS h
open Stk (Rv rcs rcells rcells_append rcells_length rcells_get infoV Fo)
theorem run_av {base : Nat} {w1 : World} {v : Value} {R : List Rv} (r : Rv) (hO : w1.ownsRow base 62 5 v R.length (rcells R)) (hle : base ≤ w1.heap.size) (hn : R.length ≤ 1000000000) :
  ∃ g' c' w',(∀ ty,(Builtin.append_ #[22,22] ty #[v,.slice (some ⟨w1.heap.size,0,none⟩) 1 1]).run Tryz.prog (w1.alloc (.cells (rcs r).toArray 62)) = .ok (.slice (some ⟨g',0,none⟩) (R.length + 1) c') w') ∧ w'.ownsRow base 62 5 (.slice (some ⟨g',0,none⟩) (R.length + 1) c') (R.length + 1) (rcells (R ++ [r])) ∧ Below base w1 w' ∧ ∀ k,k < w1.heap.size → v.ownBlock ≠ some k → w'.heap[k]? = w1.heap[k]?:=by
 obtain ⟨i0,hi,hz0,hz1,hz2⟩:=infoV
 have hmx : maxLen = 9223372036854775807:=rfl
 have o1 : (w1.alloc (.cells (rcs r).toArray 62)).ownsRow base 62 5 v R.length (rcells R):=hO.alloc _
 obtain ⟨v',w',hr,hown,hgrow,_⟩:=run_append_own_wide (P:=Tryz.prog) (w:=w1.alloc (.cells (rcs r).toArray 62)) base 22 22 62 i0 _ 5 72 Tryz.underlying22 hi hz0 hz1 hz2 rfl (by omega) v R.length (rcells R) o1 ⟨w1.heap.size,0,none⟩ 1 1 (rcs r) rfl
  (World.news_of_block (cs:=(rcs r).toArray) (t:=62) (fr:=(0,0)) (heap_alloc_new w1 _)) (by simp [rcs,Value.oneCell']) (by rw [hmx]; omega) (by omega) (by simp; omega)
 rcases hown.2 with ⟨e,h0⟩ | ⟨g2,cap2,cur,e,h2⟩
 ·omega
 ·subst e
  refine ⟨g2,cap2,w',fun ty => hr,?_,((Below.refl _ _).alloc hle _).trans (grown_below o1 (by simp; omega) hgrow),fun k hk hne => by rw [hgrow.block k (by simp; omega) (Ne.symm hne),hao4 _ _ _ hk]⟩
  rw [rcells_append]
  have : rcells [r] = rcs r:=by simp [rcells]
  rw [this]; exact hown
def Bb2 (w : World) (g : Nat) (n : Int) (v : Value) : Prop:=w.heap[g]? = some (.cells #[.int .i64 n,v] 24 (0,0))
theorem Bb2.new (w : World) (n : Int) (v : Value) : Bb2 (w.alloc (.cells #[.int .i64 n,v] 24)) w.heap.size n v:=heap_alloc_new _ _
theorem Bb2.later {w w' : World} {g : Nat} {n : Int} {v : Value} (h : Bb2 w g n v) (hb : Below w.heap.size w w') : Bb2 w' g n v:=(hb.block g (lt_of_block h)).trans h
theorem Bb2.oth {w w' : World} {g : Nat} {n : Int} {v : Value} (h : Bb2 w g n v) (he : w'.heap[g]? = w.heap[g]?) : Bb2 w' g n v:=he.trans h
theorem Bb2.cells {w : World} {g : Nat} {n : Int} {v : Value} (h : Bb2 w g n v) : w.cell? ⟨g,0,none⟩ = some (.int .i64 n) ∧ w.cell? ⟨g,1,none⟩ = some v:=by
 refine ⟨?_,?_⟩ <;> (rw [cell_of_row _ _ _ _ _ _ h]; rfl)
theorem Bb2.fz {w : World} {g : Nat} {n : Int} {v : Value} (h : Bb2 w g n v) (j : Nat) : w.frozen? ⟨g,j,none⟩ = false:=frozen_of_row _ _ _ _ _ h
theorem Bb2.set2 {W : World} {r : Nat} {n : Int} {v : Value} (h : Bb2 W r n v) (n' : Int) (v' : Value) : Bb2 ((W.setCell ⟨r,0,none⟩ (.int .i64 n')).setCell ⟨r,1,none⟩ v') r n' v':=by
 have e1 : Bb2 (W.setCell ⟨r,0,none⟩ (.int .i64 n')) r n' v:=by unfold Bb2; rw [heap_setCell_same _ _ _ _ _ _ h]; rfl
 unfold Bb2; rw [heap_setCell_same _ _ _ _ _ _ e1]; rfl
theorem Bb2.set1 {W : World} {r : Nat} {n : Int} {v : Value} (h : Bb2 W r n v) (v' : Value) : Bb2 (W.setCell ⟨r,1,none⟩ v') r n v':=by unfold Bb2; rw [heap_setCell_same _ _ _ _ _ _ h]; rfl
theorem below2 {B : Nat} {w W : World} {r : Nat} (h : Below B w W) (hr : B ≤ r) (x y : Value) : Below B w ((W.setCell ⟨r,0,none⟩ x).setCell ⟨r,1,none⟩ y):=(h.setCell (p:=⟨r,0,none⟩) hr x).setCell (p:=⟨r,1,none⟩) hr y
structure VK (w W : World) (sn nx : Int) (mv v : Value) (R : List Rv) : Prop where
 g0 : Bm3 W w.heap.size sn nx mv
 g1 : Bb2 W (w.heap.size + 1) 0 (.slice none 0 0)
 g2 : Bb2 W (w.heap.size + 1 + 1) nx v
 own : W.ownsRow (w.heap.size + 3) 62 5 v R.length (rcells R)
 le : w.heap.size + 3 ≤ W.heap.size
 bel : Below w.heap.size w W
theorem VK.later {w W W' : World} {sn nx : Int} {mv v : Value} {R : List Rv} (h : VK w W sn nx mv v R) (hb : Below W.heap.size W W') : VK w W' sn nx mv v R :=
 ⟨h.g0.later hb,h.g1.later hb,h.g2.later hb,own_later h.own hb,Nat.le_trans h.le hb.size,h.bel.trans (hb.mono h.bel.size)⟩
theorem VK.more {w W w2 : World} {sn nx : Int} {mv v v' : Value} {R : List Rv} (r : Rv) (h : VK w W sn nx mv v R) (hown : w2.ownsRow (w.heap.size + 3) 62 5 v' (R.length + 1) (rcells (R ++ [r]))) (h2 : Below (w.heap.size + 3) W w2) :
  Bb2 w2 (w.heap.size + 1 + 1) nx v ∧ VK w (w2.setCell ⟨w.heap.size + 1 + 1,1,none⟩ v') sn nx mv v' (R ++ [r]):=by
 have hsz:=h2.size
 have hle:=h.le
 have e2 : Bb2 w2 (w.heap.size + 1 + 1) nx v:=h.g2.oth (h2.block _ (by omega))
 refine ⟨e2,⟨h.g0.oth ((hso _ _ (by omega)).trans (h2.block _ (by omega))),h.g1.oth ((hso _ _ (by omega)).trans (h2.block _ (by omega))),e2.set1 v',?_,by simpa using Nat.le_trans h.le hsz,(h.bel.trans (h2.mono (by omega))).setCell (p:=⟨w.heap.size + 1 + 1,1,none⟩) (by show w.heap.size ≤ w.heap.size + 1 + 1; omega) _⟩⟩
 have:=own_keep (w':=w2.setCell ⟨w.heap.size + 1 + 1,1,none⟩ v') hown (fun g hg => hso _ _ (by have:=(hown.lt g hg).1; omega))
 simpa using this
theorem VK.start (w : World) (sn nx : Int) (mv : Value) : VK w (((w.alloc (.cells #[.int .i64 sn,.int .i64 nx,mv] 28)).alloc (.cells #[.int .i64 0,.slice none 0 0] 24)).alloc (.cells #[.int .i64 nx,.slice none 0 0] 24)) sn nx mv (.slice none 0 0) []:=by
 have b0:=(Below.refl w.heap.size w).alloc (Nat.le_refl _) (.cells #[.int .i64 sn,.int .i64 nx,mv] 28)
 have b1:=b0.alloc b0.size (.cells #[.int .i64 0,.slice none 0 0] 24)
 have b2:=b1.alloc b1.size (.cells #[.int .i64 nx,.slice none 0 0] 24)
 refine ⟨?_,?_,?_,World.ownsRow_nil _ _ _ _,by simp,b2⟩
 ·unfold Bm3; rw [hao4 _ _ _ (by simp; omega),hao4 _ _ _ (by simp)]; exact heap_alloc_new _ _
 ·have:=Bb2.new (w.alloc (.cells #[.int .i64 sn,.int .i64 nx,mv] 28)) 0 (.slice none 0 0)
  rw [World.size_alloc] at this
  exact this.oth (hao4 _ _ _ (by simp))
 ·have:=Bb2.new ((w.alloc (.cells #[.int .i64 sn,.int .i64 nx,mv] 28)).alloc (.cells #[.int .i64 0,.slice none 0 0] 24)) nx (.slice none 0 0)
  rw [World.size_alloc,World.size_alloc] at this
  exact this
structure Pr2 (RI : List Ri) (R : List Rv) : Prop where
 le : R.length ≤ RI.length
 at' : ∀ (j : Nat) (r : Rv),R[j]? = some r → ∃ q,RI[j]? = some q ∧ r.z = [] ∧ r.a = q.2.1 ∧ r.c = q.2.2 ∧ r.v.l = q.1.l
theorem Pr2.fo {RI : List Ri} {R : List Rv} (h : Pr2 RI R) {base : Nat} {w : World} {iv v : Value} (hF : Fi base w iv RI) {B : Nat} (hO : w.ownsRow B 62 5 v R.length (rcells R)) (hB : base ≤ B) : Fo base w v R:=by
 have hmv : ∀ (j : Nat) (r : Rv),R[j]? = some r → ∃ q,RI[j]? = some q ∧ r.mv = q.mv ∧ r.v.l ++ r.z = q.1.l:=fun j r hr => by
  obtain ⟨q,h1,h2,h3,h4,h5⟩:=h.at' j r hr
  refine ⟨q,h1,?_,by rw [h2,h5,List.append_nil]⟩
  unfold Rv.mv Ri.mv
  rw [h2,h3,h4,h5]
  rfl
 refine ⟨⟨hO.1,?_⟩,hF.le,fun j r hr => ?_,fun j k r r' hjk hj hk b hb => ?_⟩
 ·rcases hO.2 with e | ⟨g,cap,cur,e1,e2,e3⟩
  ·exact .inl e
  ·exact .inr ⟨g,cap,cur,e1,Nat.le_trans hB e2,e3⟩
 ·obtain ⟨q,h1,h2,h3⟩:=hmv j r hr
  rw [h2,h3]
  exact hF.met j q h1
 ·obtain ⟨q,h1,h2,_⟩:=hmv j r hj
  obtain ⟨q',h1',h2',_⟩:=hmv k r' hk
  rw [h2] at hb
  rw [h2']
  exact hF.par j k q q' hjk h1 h1' b hb
theorem clone_any (s : List UInt8) (w : World) (h : s.length ≤ 281474976710656) : Calls Tryz.prog 119 #[str s] w fun e w' => e = .returned (str s) ∧ Below w.heap.size w w':=by
 have hc:=fun w => clone_str s w h
 go_enter Tryz.func119,Tryz.ntmps119
 go_wp2_with fail
 with_reducible refine Calls.mono (hc _) ?_
 rintro e w2 ⟨rfl,b2⟩
 go_wp2_with fail
 go_ret
 exact ⟨rfl,b2⟩
theorem voL_step {x : It} {l : List It} {t : List UInt8} {sz : Nat} (hs : x.size = (sz : Int)) (h : sz + fil sz ≤ t.length) : voL (x :: l) t = (voL l (t.drop (sz + fil sz))).map (fun M => ⟨x.key,x.seq,x.mkr,t.take sz,x.l⟩ :: M):=by
 have e : x.size.toNat = sz:=by rw [hs]; rfl
 conv => lhs; unfold voL
 rw [e,if_pos h]
theorem voL_stop {x : It} {l : List It} {t : List UInt8} {sz : Nat} (hs : x.size = (sz : Int)) (h : ¬ sz + fil sz ≤ t.length) : voL (x :: l) t = none:=by
 have e : x.size.toNat = sz:=by rw [hs]; rfl
 unfold voL
 rw [e,if_neg h]
end
section
open Go.RowKit
open Stk (Rv rcs rcells Fo)
attribute [local go_sem ↓] Go.wp_at_zero Go.wp_at_succ ldIe stIe Go.Proofs.YtdfjlmfnkhhnjaaGreatDoorP.sl9
attribute [-go_sem] Go.Builtin.append_
theorem run_from (b : List UInt8) (j : Nat) (h : j ≤ b.length) (w : World) : (Go.Proofs.YtdfjlmfnkhhnjaaGreatDoorP.slS (str b) (some (.int .i64 (j : Int))) none none).run Tryz.prog w = .ok (str (b.drop j)) w:=by
 have:=Go.Proofs.YtdfjlmfnkhhnjaaGreatDoorP.run_slL ⟨b.toArray⟩ j (by rw [str_size]; exact h) w
 have e : Value.string ((⟨b.toArray⟩ : ByteArray).extract j (⟨b.toArray⟩ : ByteArray).size) = str (b.drop j):=by rw [← str_data,Go.Proofs.YtdfjlmfnkhhnjaaGreatDoorP.ext_drop]
 rw [e] at this
 exact this
def VoP (base : Nat) (res : Option (List Vs)) (next : Int) (w : World) (e : Ending) (w' : World) : Prop :=
 (match res with
  | none => e = .returned (.tuple #[.agg #[.int .i64 0,.slice none 0 0],.bool false])
  | some L => ∃ (va : Option Addr) (vc : Nat) (R : List Rv),e = .returned (.tuple #[.agg #[.int .i64 next,.slice va R.length vc],.bool true]) ∧ R.map (·.v) = L ∧ (∀ r ∈ R,r.z = []) ∧ Fo base w' (.slice va R.length vc) R) ∧ Below w.heap.size w w'
set_option maxHeartbeats 8000000 in
theorem valueOf_any (since next : Int) (RI : List Ri) (text : List UInt8) (w : World) (base : Nat) (a : Option Addr) (cap : Nat) (hF : Fi base w (.slice a RI.length cap) RI) (hb : base ≤ w.heap.size) (hn : RI.length ≤ 256) (hs : ∀ r ∈ RI,0 ≤ r.1.size ∧ r.1.size ≤ 1024) (ht : text.length ≤ 281474976710656) :
  Calls Tryz.prog 75 #[.agg #[.int .i64 since,.int .i64 next,.slice a RI.length cap],str text] w (VoP base (voL (RI.map (·.1)) text) next w):=by
 obtain ⟨res,hres⟩ : ∃ r,Hid (voL (RI.map (·.1)) text = r):=⟨_,⟨rfl⟩⟩
 rw [hres.out]
 have HK0:=Hid.mk (VK.start w since next (.slice a RI.length cap))
 have HF:=Hid.mk hF
 have HS:=Hid.mk hs
 have HN:=Hid.mk hn
 have HBase:=Hid.mk hb
 have HTX:=Hid.mk ht
 clear hF hs hb ht
 go_enter Tryz.func75,Tryz.ntmps75
 go_wp2_with fail
 generalize ((w.alloc (.cells #[.int .i64 since,.int .i64 next,.slice a RI.length cap] 28)).alloc (.cells #[.int .i64 0,.slice none 0 0] 24)).alloc (.cells #[.int .i64 next,.slice none 0 0] 24) = W1 at *
 go_loopw [1,8,9,16] (fun tx _ _ i wr => ∃ (k : Nat) (tk : List UInt8) (R : List Rv) (ra : Option Addr) (rc : Nat),i = .int .i64 (k : Int) ∧ tx = str tk ∧ k ≤ RI.length ∧ Hid (R.length = k) ∧ Hid (VK w wr since next (.slice a RI.length cap) (.slice ra R.length rc) R) ∧ Hid (Pr2 RI R ∧ (voL ((RI.drop k).map (·.1)) tk).map (fun M => R.map (·.v) ++ M) = res ∧ tk.length ≤ 281474976710656)) (fun _ _ _ i _ => RI.length - (intOf i).toNat)
 case atStart => exact ⟨0,text,[],none,0,rfl,rfl,Nat.zero_le _,⟨rfl⟩,HK0,⟨⟨Nat.zero_le _,fun j r h => by simp at h⟩,by rw [List.drop_zero,hres.out]; cases res <;> simp,HTX.out⟩⟩
 case round =>
  clear HK0
  obtain ⟨k,tk,R,ra,rc,rfl,rfl,hk,hRk,HO,HR⟩:=hrel
  by_cases hlt : k < RI.length
  ·have d1 : decide ((k : Int) < (RI.length : Int)) = true:=decide_eq_true (by omega)
   have k0 : (0 : Int) ≤ (k : Int):=Int.natCast_nonneg k
   have k2 : (k : Int) < (RI.length : Int):=by omega
   have hw1 : wrap64 ((k : Int) + 1) = ((k + 1 : Nat) : Int):=by unfold wrap64; have:=HN.out; omega
   obtain ⟨q,hq⟩ : ∃ q,RI[k]? = some q:=⟨RI[k],List.getElem?_eq_getElem hlt⟩
   obtain ⟨x,ma,mc⟩:=q
   have hqs:=HS.out _ (List.mem_of_getElem? hq)
   obtain ⟨sz,hsz⟩ : ∃ sz : Nat,x.size = (sz : Int):=⟨x.size.toNat,by dsimp only at hqs; omega⟩
   have hsz2 : sz ≤ 1024:=by dsimp only at hqs; omega
   have hdr : (RI.drop k).map (·.1) = x :: (RI.drop (k + 1)).map (·.1):=by
    have : RI.drop k = (x,ma,mc) :: RI.drop (k + 1):=by
     rw [List.drop_eq_getElem_cons hlt]
     congr 1
     exact (List.getElem?_eq_some_iff.1 hq).2
    rw [this]; rfl
   obtain ⟨gi,rfl,hgl,hra⟩ : ∃ gi,a = some ⟨gi,0,none⟩ ∧ gi < wr.heap.size ∧ wr.rangeAt gi (k * 37) (ic x ma mc):=by
    have hF2:=HF.out
    rcases hF2.own.2 with ⟨e,h0⟩ | ⟨gi,cap',cur,e,hbg,hg,_⟩
    ·omega
    ·injection e with e1 e2 e3
     subst e1
     have hl9:=lt_of_block hg
     refine ⟨gi,rfl,Nat.lt_of_lt_of_le hl9 HO.out.bel.size,?_⟩
     refine range_later (w:=w) (fun j v hj => ?_) hl9 HO.out.bel
     have hj2 : j < 37:=by have:=(List.getElem?_eq_some_iff.1 hj).1; rw [ic_length] at this; exact this
     rw [hF2.own.cellAt _ (by have:=rics_len RI; omega),rics_get RI k (x,ma,mc) hq j hj2]
     exact hj
   have l1:=run_ldI hra
   have s1:=run_stI wr x ma mc
   have bx:=(Below.refl wr.heap.size wr).alloc (Nat.le_refl _) (.cells (ic x ma mc).toArray 46)
   have z1:=Bi.new wr x ma mc
   have h1:=Hid.mk (HO.out.later bx)
   have HQ:=Hid.mk hq
   have HD:=Hid.mk hdr
   have HSZ:=Hid.mk (And.intro hsz hsz2)
   obtain ⟨E,hE⟩ : ∃ E,E = sz + fil sz:=⟨_,rfl⟩
   have HE:=Hid.mk hE
   have hfl:=fil_lt sz
   have esum : (sz : Int) + ((fil sz : Nat) : Int) = (E : Int):=by omega
   have ewr : IntKind.i64.wrap ((sz : Int) + ((fil sz : Nat) : Int)) = (E : Int):=by rw [esum,IntKind.wrap_i64]; omega
   have ew0 : IntKind.i64.wrap (E : Int) = (E : Int):=by rw [IntKind.wrap_i64]; omega
   have hfi:=fun w => fill_any sz (by omega) w
   have HFB : Hid (fil sz < 64):=⟨hfl⟩
   obtain ⟨F,hF9⟩ : ∃ F,F = fil sz:=⟨_,rfl⟩
   have HF9:=Hid.mk hF9
   rw [← hF9] at esum ewr hfi HE
   clear hq hdr hqs hra bx HO hE hF9 hfl
   go_upto_region 5 with fail
   generalize hW2 : wr.alloc (.cells (ic x ma mc).toArray 46) = W2 at *
   clear hW2 l1 s1
   generalize wr.heap.size = g8 at *
   obtain ⟨c0,c1,c2,c3,c4⟩:=z1.cells
   rw [hsz] at c3
   have HZ:=Hid.mk z1
   have HS3 : Hid (∀ w',Below W2.heap.size W2 w' → Below W2.heap.size W2 w' ∧ w'.cell? ⟨g8,3,none⟩ = some (.int .i64 (sz : Int))):=⟨fun w' h => ⟨h,by rw [← hsz]; exact (HZ.out.later h).cells.2.2.2.1⟩⟩
   clear z1 c0 c1 c2 c4 hsz hsz2
   go_cut [9] from 18 to 53 (fun v9 wx => v9 = .int .i64 (E : Int) ∧ wx = W2.drew)
   case first =>
    clear c3
    have hS0:=HS3.out _ (Below.refl W2.heap.size W2).drew
    go_region_held3 (fun w' => Below W2.heap.size W2 w' ∧ w'.cell? ⟨g8,3,none⟩ = some (.int .i64 (sz : Int))) (first | exact hS0 | assumption) ((go_at_call 113; with_reducible refine Calls.mono (hfi _) ?_; rintro e w3 ⟨rfl,rfl⟩))
    all_goals (go_wp2_with fail)
    all_goals go_meet
    all_goals (first | exact ⟨rfl,rfl⟩ | exact ⟨by rw [esum],rfl⟩)
   case rest =>
   obtain ⟨rfl,rfl⟩:=hcut
   clear c3 hfi ewr ew0 esum HS3
   have bd : Below W2.heap.size W2 W2.drew:=(Below.refl _ _).drew
   replace HZ:=Hid.mk (HZ.out.later bd)
   replace h1:=Hid.mk (h1.out.later bd)
   generalize W2.drew = W3 at *
   clear bd
   by_cases hlen : E ≤ tk.length
   ·have d2 : decide ((tk.length : Int) < (E : Int)) = false:=decide_eq_false (by omega)
    have d2n : decide (tk.length < E) = false:=decide_eq_false (by omega)
    have HLen:=Hid.mk hlen
    have htk : ∀ w,(Go.Proofs.YtdfjlmfnkhhnjaaGreatDoorP.slS (str tk) none (some (.int .i64 (sz : Int))) none).run Tryz.prog w = .ok (str (tk.take sz)) w:=fun w => run_take tk sz (by have:=HE.out; omega) w
    have hdk : ∀ w,(Go.Proofs.YtdfjlmfnkhhnjaaGreatDoorP.slS (str tk) (some (.int .i64 (E : Int))) none none).run Tryz.prog w = .ok (str (tk.drop E)) w:=fun w => run_from tk E HLen.out w
    obtain ⟨ds,hds⟩ : ∃ ds,Hid (tk.take sz = ds):=⟨_,⟨rfl⟩⟩
    rw [hds.out] at htk
    have HDL : Hid (ds.length ≤ 281474976710656):=⟨by rw [← hds.out,List.length_take]; have:=HR.out.2.2; omega⟩
    obtain ⟨key,seq,mkr,size,l,g⟩:=x
    have HVC : Hid (∀ w',Below W3.heap.size W3 w' → w'.cell? ⟨g8,0,none⟩ = some (str key) ∧ w'.cell? ⟨g8,1,none⟩ = some (.int .i64 seq) ∧ w'.cell? ⟨g8,2,none⟩ = some (.bool mkr) ∧ w'.cell? ⟨g8,3,none⟩ = some (.int .i64 (sz : Int)) ∧ w'.cell? ⟨g8,4,none⟩ = some (.slice ma l.length mc)):=⟨fun w' h => by
     have:=(HZ.out.later h).cells
     rw [HSZ.out.1] at this
     exact this⟩
    have HVC2 : Hid (∀ w',Below W3.heap.size W3 w' → w'.cell? ⟨w.heap.size + 1 + 1,1,none⟩ = some (.slice ra R.length rc)):=⟨fun w' h => ((h1.out.later h).g2.cells).2⟩
    have HC : Hid (∀ w',Below W3.heap.size W3 w' → Calls Tryz.prog 119 #[str ds] w' fun e w'' => e = .returned (str ds) ∧ Below w'.heap.size w' w''):=⟨fun w' _ => clone_any ds w' HDL.out⟩
    have HEn : Hid (∀ w2,Below W3.heap.size W3 w2 → ∃ g' c' w3,(∀ ty,(Builtin.append_ #[22,22] ty #[.slice ra R.length rc,.slice (some ⟨w2.heap.size,0,none⟩) 1 1]).run Tryz.prog (w2.alloc (.cells #[str key,.int .i64 seq,.bool mkr,str ds,.slice ma l.length mc] 62)) = .ok (.slice (some ⟨g',0,none⟩) (R.length + 1) c') w3) ∧ w3.cell? ⟨w.heap.size + 1 + 1,1,none⟩ = some (.slice ra R.length rc) ∧ w3.frozen? ⟨w.heap.size + 1 + 1,1,none⟩ = false ∧ (w3.cell? ⟨g8,0,none⟩ = some (str key) ∧ w3.cell? ⟨g8,1,none⟩ = some (.int .i64 seq) ∧ w3.cell? ⟨g8,2,none⟩ = some (.bool mkr) ∧ w3.cell? ⟨g8,3,none⟩ = some (.int .i64 (sz : Int)) ∧ w3.cell? ⟨g8,4,none⟩ = some (.slice ma l.length mc)) ∧ ((w3.setCell ⟨w.heap.size + 1 + 1,1,none⟩ (.slice (some ⟨g',0,none⟩) (R.length + 1) c')).cell? ⟨g8,0,none⟩ = some (str key) ∧ (w3.setCell ⟨w.heap.size + 1 + 1,1,none⟩ (.slice (some ⟨g',0,none⟩) (R.length + 1) c')).cell? ⟨g8,1,none⟩ = some (.int .i64 seq) ∧ (w3.setCell ⟨w.heap.size + 1 + 1,1,none⟩ (.slice (some ⟨g',0,none⟩) (R.length + 1) c')).cell? ⟨g8,2,none⟩ = some (.bool mkr) ∧ (w3.setCell ⟨w.heap.size + 1 + 1,1,none⟩ (.slice (some ⟨g',0,none⟩) (R.length + 1) c')).cell? ⟨g8,3,none⟩ = some (.int .i64 (sz : Int)) ∧ (w3.setCell ⟨w.heap.size + 1 + 1,1,none⟩ (.slice (some ⟨g',0,none⟩) (R.length + 1) c')).cell? ⟨g8,4,none⟩ = some (.slice ma l.length mc)) ∧ VK w (w3.setCell ⟨w.heap.size + 1 + 1,1,none⟩ (.slice (some ⟨g',0,none⟩) (R.length + 1) c')) since next (.slice (some ⟨gi,0,none⟩) RI.length cap) (.slice (some ⟨g',0,none⟩) (R.length + 1) c') (R ++ [⟨⟨key,seq,mkr,ds,l⟩,[],ma,mc⟩])):=⟨fun w2 hb => by
     have K2:=h1.out.later hb
     obtain ⟨g',c',w3,hr,hown,hb3,hk3⟩:=run_av ⟨⟨key,seq,mkr,ds,l⟩,[],ma,mc⟩ K2.own K2.le (by have:=hRk.out; have:=HN.out; omega)
     obtain ⟨hbm,hv3⟩:=K2.more ⟨⟨key,seq,mkr,ds,l⟩,[],ma,mc⟩ hown hb3
     have hz2:=HZ.out.later hb
     have hz3 : Bi w3 g8 ⟨key,seq,mkr,size,l,g⟩ ma mc:=by
      unfold Bi
      rw [hk3 g8 hz2.lt (fun q => ?_)]
      ·exact hz2
      ·obtain ⟨cs,e⟩:=own_type K2.own q
       unfold Bi at hz2
       rw [hz2] at e
       injection e with e
       injection e with _ e _
       exact absurd e (by decide)
     have hz4 : Bi (w3.setCell ⟨w.heap.size + 1 + 1,1,none⟩ (.slice (some ⟨g',0,none⟩) (R.length + 1) c')) g8 ⟨key,seq,mkr,size,l,g⟩ ma mc:=by
      unfold Bi
      rw [hso _ _ (fun q => ?_)]
      ·exact hz3
      ·have h2:=hbm
       unfold Bb2 at h2
       unfold Bi at hz3
       rw [← q,hz3] at h2
       injection h2 with h2
       injection h2 with _ h2 _
       exact absurd h2 (by decide)
     have e3:=hz3.cells
     have e4:=hz4.cells
     rw [HSZ.out.1] at e3 e4
     exact ⟨g',c',w3,hr,hbm.cells.2,hbm.fz 1,e3,e4,hv3⟩⟩
    have HNx : Hid ((R ++ [(⟨⟨key,seq,mkr,ds,l⟩,[],ma,mc⟩ : Rv)]).length = k + 1 ∧ Pr2 RI (R ++ [⟨⟨key,seq,mkr,ds,l⟩,[],ma,mc⟩]) ∧ (voL ((RI.drop (k + 1)).map (·.1)) (tk.drop E)).map (fun M => (R ++ [(⟨⟨key,seq,mkr,ds,l⟩,[],ma,mc⟩ : Rv)]).map (·.v) ++ M) = res ∧ (tk.drop E).length ≤ 281474976710656):=⟨by
     refine ⟨by simp [hRk.out],⟨by rw [List.length_append,hRk.out]; exact hlt,fun j r hr => ?_⟩,?_,by rw [List.length_drop]; have:=HR.out.2.2; omega⟩
     ·by_cases hj : j < R.length
      ·rw [List.getElem?_append_left hj] at hr
       exact HR.out.1.at' j r hr
      ·have hj2 : j = R.length:=by
        have:=(List.getElem?_eq_some_iff.1 hr).1
        simp at this; omega
       subst hj2
       simp at hr
       subst hr
       rw [hRk.out]
       exact ⟨_,HQ.out,rfl,rfl,rfl,rfl⟩
     ·have h2:=HR.out.2.1
      rw [HD.out,voL_step (sz:=sz) HSZ.out.1 (by rw [← HF9.out,← HE.out]; exact HLen.out),← HF9.out,← HE.out,hds.out] at h2
      rw [← h2,Option.map_map]
      congr 1
      funext M
      simp⟩
    have hfz:=HLen
    clear HR hds HQ HD HZ hlen HLen HDL hfz
    go_wp2_with fail
    refine wp_region_held (S:=fun w' => w'.cell? ⟨g8,0,none⟩ = some (str key) ∧ w'.cell? ⟨g8,1,none⟩ = some (.int .i64 seq) ∧ w'.cell? ⟨g8,2,none⟩ = some (.bool mkr) ∧ w'.cell? ⟨g8,3,none⟩ = some (.int .i64 (sz : Int)) ∧ w'.cell? ⟨g8,4,none⟩ = some (.slice ma l.length mc)) (by kernel_rfl) ?_
    try (change wpAnyH _ _ _ _ _ _ _ _ (World.drew _))
    have hHeld:=HVC.out _ (Below.refl W3.heap.size W3).drew
    refine tk2 0 31 (.pointer (some ⟨w.heap.size + 1 + 1,1,none⟩)) ?_ ?_
    ·intro w' hSw
     obtain ⟨s0,s1,s2,s3,s4⟩:=hSw
     go_simp
    try simp only [Act.put,lyA,lyB,lyC]
    refine tk2 2 33 (.pointer (some ⟨g8,0,none⟩)) ?_ ?_
    ·intro w' hSw
     obtain ⟨s0,s1,s2,s3,s4⟩:=hSw
     go_simp
    try simp only [Act.put,lyA,lyB,lyC]
    refine tk2 3 34 (str key) ?_ ?_
    ·intro w' hSw
     obtain ⟨s0,s1,s2,s3,s4⟩:=hSw
     go_simp
    try simp only [Act.put,lyA,lyB,lyC]
    refine tk2 4 35 (.pointer (some ⟨g8,1,none⟩)) ?_ ?_
    ·intro w' hSw
     obtain ⟨s0,s1,s2,s3,s4⟩:=hSw
     go_simp
    try simp only [Act.put,lyA,lyB,lyC]
    refine tk2 5 36 (.int .i64 seq) ?_ ?_
    ·intro w' hSw
     obtain ⟨s0,s1,s2,s3,s4⟩:=hSw
     go_simp
    try simp only [Act.put,lyA,lyB,lyC]
    refine tk2 6 37 (.pointer (some ⟨g8,2,none⟩)) ?_ ?_
    ·intro w' hSw
     obtain ⟨s0,s1,s2,s3,s4⟩:=hSw
     go_simp
    try simp only [Act.put,lyA,lyB,lyC]
    refine tk2 7 38 (.bool mkr) ?_ ?_
    ·intro w' hSw
     obtain ⟨s0,s1,s2,s3,s4⟩:=hSw
     go_simp
    try simp only [Act.put,lyA,lyB,lyC]
    refine tk2 8 39 (str tk) ?_ ?_
    ·intro w' hSw
     obtain ⟨s0,s1,s2,s3,s4⟩:=hSw
     go_simp
    try simp only [Act.put,lyA,lyB,lyC]
    refine tk2 9 40 (.pointer (some ⟨g8,3,none⟩)) ?_ ?_
    ·intro w' hSw
     obtain ⟨s0,s1,s2,s3,s4⟩:=hSw
     go_simp
    try simp only [Act.put,lyA,lyB,lyC]
    refine tk2 10 41 (.int .i64 (sz : Int)) ?_ ?_
    ·intro w' hSw
     obtain ⟨s0,s1,s2,s3,s4⟩:=hSw
     go_simp
    try simp only [Act.put,lyA,lyB,lyC]
    refine tk2 11 42 (str ds) ?_ ?_
    ·intro w' hSw
     obtain ⟨s0,s1,s2,s3,s4⟩:=hSw
     go_simp
    try simp only [Act.put,lyA,lyB,lyC]
    refine tk2 13 44 (.pointer (some ⟨g8,4,none⟩)) ?_ ?_
    ·intro w' hSw
     obtain ⟨s0,s1,s2,s3,s4⟩:=hSw
     go_simp
    try simp only [Act.put,lyA,lyB,lyC]
    refine tk2 14 45 (.slice ma l.length mc) ?_ ?_
    ·intro w' hSw
     obtain ⟨s0,s1,s2,s3,s4⟩:=hSw
     go_simp
    try simp only [Act.put,lyA,lyB,lyC]
    refine wpAnyH_ready (rs := [1,12]) (by kernel_rfl) (by simp) ?_
    refine AllReadyH.cons rfl (fun K hK => ?_) (AllReadyH.cons rfl (fun K hK => ?_) AllReadyH.nil)
    ·skip
     rw [if_pos (by kernel_rfl)]
     have mc0:=HVC2.out _ (Below.refl W3.heap.size W3).drew
     refine val_step2 (v := .slice ra R.length rc) (w2:=W3.drew) 32 rfl ?_ ?_
     ·go_simp
     clear mc0
     refine hK.out _ _ (HVC.out _ (Below.refl W3.heap.size W3).drew) (fun hHeld => ?_)
     clear hK K
     try simp only [Act.put,lyA,lyB,lyC]
     refine wpAnyH_ready (rs := [12]) (by kernel_rfl) (by simp) ?_
     refine AllReadyH.cons rfl (fun K hK => ?_) AllReadyH.nil
     rw [if_pos (by kernel_rfl)]
     refine call_step2 43 rfl (by go_simp) (HC.out _ (Below.refl W3.heap.size W3).drew) ?_
     intro w1 gg3
     have b2:=below_seq (Below.refl W3.heap.size W3).drew gg3
     refine hK.out _ _ (HVC.out _ b2) (fun hHeld => ?_)
     clear hK K
     try simp only [Act.put,lyA,lyB,lyC]
     refine tk2 15 46 (.agg #[str key,.int .i64 seq,.bool mkr,str ds,.slice ma l.length mc]) ?_ ?_
     ·intro w' hSw
      obtain ⟨s0,s1,s2,s3,s4⟩:=hSw
      go_simp
     try simp only [Act.put,lyA,lyB,lyC]
     refine wpAnyH_ready (rs := [16]) (by kernel_rfl) (by simp) ?_
     refine AllReadyH.cons rfl (fun K hK => ?_) AllReadyH.nil
     rw [if_pos (by kernel_rfl)]
     have b4:=bal2 b2 (.cells #[str key,.int .i64 seq,.bool mkr,str ds,.slice ma l.length mc] 62)
     refine val_step2 (v := .slice (some ⟨w1.heap.size,0,none⟩) 1 1) (w2:=(w1.alloc (.cells #[str key,.int .i64 seq,.bool mkr,str ds,.slice ma l.length mc] 62))) 47 rfl ?_ ?_
     ·go_simp
     refine hK.out _ _ (HVC.out _ b4) (fun hHeld => ?_)
     clear hK K
     try simp only [Act.put,lyA,lyB,lyC]
     obtain ⟨g5,c6,w7,hr,m0,m1,HFa,HFb,HFc⟩:=HEn.out w1 b2
     refine wpAnyH_ready (rs := [17]) (by kernel_rfl) (by simp) ?_
     refine AllReadyH.cons rfl (fun K hK => ?_) AllReadyH.nil
     rw [if_pos (by kernel_rfl)]
     refine val_step2 (v := .slice (some ⟨g5,0,none⟩) (R.length + 1) c6) (w2:=w7) 48 rfl ?_ ?_
     ·go_simp
     refine hK.out _ _ HFa (fun hHeld => ?_)
     clear hK K
     try simp only [Act.put,lyA,lyB,lyC]
     refine tk2 18 49 (.pointer (some ⟨w.heap.size + 1 + 1,1,none⟩)) ?_ ?_
     ·intro w' hSw
      obtain ⟨s0,s1,s2,s3,s4⟩:=hSw
      go_simp
     try simp only [Act.put,lyA,lyB,lyC]
     refine wpAnyH_ready (rs := [19]) (by kernel_rfl) (by simp) ?_
     refine AllReadyH.cons rfl (fun K hK => ?_) AllReadyH.nil
     rw [if_pos (by kernel_rfl)]
     go_simp
     refine hK.out _ _ HFb (fun hHeld => ?_)
     clear hK K
     try simp only [Act.put,lyA,lyB,lyC]
     refine wpAnyH_done (by kernel_rfl) ?_ _
     have HQ2:=Hid.mk HFc
     clear hHeld hr m0 m1 HFa HFb HFc
     go_wp2_with fail
     exact ⟨⟨k + 1,tk.drop E,R ++ [⟨⟨key,seq,mkr,ds,l⟩,[],ma,mc⟩],_,_,by first | (rw [hw1]; done) | rfl | go_num,rfl,hlt,⟨HNx.out.1⟩,⟨by rw [List.length_append]; exact HQ2.out⟩,⟨HNx.out.2⟩⟩,by first | (rw [hw1]; exact Nat.sub_lt_sub_left hlt (Nat.lt_succ_self k)) | (simp [intOf]; omega)⟩
    ·skip
     rw [if_pos (by kernel_rfl)]
     refine call_step2 43 rfl (by go_simp) (HC.out _ (Below.refl W3.heap.size W3).drew) ?_
     intro w8 gg10
     have b9:=below_seq (Below.refl W3.heap.size W3).drew gg10
     refine hK.out _ _ (HVC.out _ b9) (fun hHeld => ?_)
     clear hK K
     try simp only [Act.put,lyA,lyB,lyC]
     refine tk2 15 46 (.agg #[str key,.int .i64 seq,.bool mkr,str ds,.slice ma l.length mc]) ?_ ?_
     ·intro w' hSw
      obtain ⟨s0,s1,s2,s3,s4⟩:=hSw
      go_simp
     try simp only [Act.put,lyA,lyB,lyC]
     refine wpAnyH_ready (rs := [1,16]) (by kernel_rfl) (by simp) ?_
     refine AllReadyH.cons rfl (fun K hK => ?_) (AllReadyH.cons rfl (fun K hK => ?_) AllReadyH.nil)
     ·skip
      rw [if_pos (by kernel_rfl)]
      have mc0:=HVC2.out _ b9
      refine val_step2 (v := .slice ra R.length rc) (w2:=w8) 32 rfl ?_ ?_
      ·go_simp
      clear mc0
      refine hK.out _ _ (HVC.out _ b9) (fun hHeld => ?_)
      clear hK K
      try simp only [Act.put,lyA,lyB,lyC]
      refine wpAnyH_ready (rs := [16]) (by kernel_rfl) (by simp) ?_
      refine AllReadyH.cons rfl (fun K hK => ?_) AllReadyH.nil
      rw [if_pos (by kernel_rfl)]
      have b11:=bal2 b9 (.cells #[str key,.int .i64 seq,.bool mkr,str ds,.slice ma l.length mc] 62)
      refine val_step2 (v := .slice (some ⟨w8.heap.size,0,none⟩) 1 1) (w2:=(w8.alloc (.cells #[str key,.int .i64 seq,.bool mkr,str ds,.slice ma l.length mc] 62))) 47 rfl ?_ ?_
      ·go_simp
      refine hK.out _ _ (HVC.out _ b11) (fun hHeld => ?_)
      clear hK K
      try simp only [Act.put,lyA,lyB,lyC]
      obtain ⟨g12,c13,w14,hr,m0,m1,HFa,HFb,HFc⟩:=HEn.out w8 b9
      refine wpAnyH_ready (rs := [17]) (by kernel_rfl) (by simp) ?_
      refine AllReadyH.cons rfl (fun K hK => ?_) AllReadyH.nil
      rw [if_pos (by kernel_rfl)]
      refine val_step2 (v := .slice (some ⟨g12,0,none⟩) (R.length + 1) c13) (w2:=w14) 48 rfl ?_ ?_
      ·go_simp
      refine hK.out _ _ HFa (fun hHeld => ?_)
      clear hK K
      try simp only [Act.put,lyA,lyB,lyC]
      refine tk2 18 49 (.pointer (some ⟨w.heap.size + 1 + 1,1,none⟩)) ?_ ?_
      ·intro w' hSw
       obtain ⟨s0,s1,s2,s3,s4⟩:=hSw
       go_simp
      try simp only [Act.put,lyA,lyB,lyC]
      refine wpAnyH_ready (rs := [19]) (by kernel_rfl) (by simp) ?_
      refine AllReadyH.cons rfl (fun K hK => ?_) AllReadyH.nil
      rw [if_pos (by kernel_rfl)]
      go_simp
      refine hK.out _ _ HFb (fun hHeld => ?_)
      clear hK K
      try simp only [Act.put,lyA,lyB,lyC]
      refine wpAnyH_done (by kernel_rfl) ?_ _
      have HQ2:=Hid.mk HFc
      clear hHeld hr m0 m1 HFa HFb HFc
      go_wp2_with fail
      exact ⟨⟨k + 1,tk.drop E,R ++ [⟨⟨key,seq,mkr,ds,l⟩,[],ma,mc⟩],_,_,by first | (rw [hw1]; done) | rfl | go_num,rfl,hlt,⟨HNx.out.1⟩,⟨by rw [List.length_append]; exact HQ2.out⟩,⟨HNx.out.2⟩⟩,by first | (rw [hw1]; exact Nat.sub_lt_sub_left hlt (Nat.lt_succ_self k)) | (simp [intOf]; omega)⟩
     ·skip
      rw [if_pos (by kernel_rfl)]
      have b15:=bal2 b9 (.cells #[str key,.int .i64 seq,.bool mkr,str ds,.slice ma l.length mc] 62)
      refine val_step2 (v := .slice (some ⟨w8.heap.size,0,none⟩) 1 1) (w2:=(w8.alloc (.cells #[str key,.int .i64 seq,.bool mkr,str ds,.slice ma l.length mc] 62))) 47 rfl ?_ ?_
      ·go_simp
      refine hK.out _ _ (HVC.out _ b15) (fun hHeld => ?_)
      clear hK K
      try simp only [Act.put,lyA,lyB,lyC]
      refine wpAnyH_ready (rs := [1]) (by kernel_rfl) (by simp) ?_
      refine AllReadyH.cons rfl (fun K hK => ?_) AllReadyH.nil
      rw [if_pos (by kernel_rfl)]
      have mc0:=HVC2.out _ b15
      refine val_step2 (v := .slice ra R.length rc) (w2:=(w8.alloc (.cells #[str key,.int .i64 seq,.bool mkr,str ds,.slice ma l.length mc] 62))) 32 rfl ?_ ?_
      ·go_simp
      clear mc0
      refine hK.out _ _ (HVC.out _ b15) (fun hHeld => ?_)
      clear hK K
      try simp only [Act.put,lyA,lyB,lyC]
      obtain ⟨g16,c17,w18,hr,m0,m1,HFa,HFb,HFc⟩:=HEn.out w8 b9
      refine wpAnyH_ready (rs := [17]) (by kernel_rfl) (by simp) ?_
      refine AllReadyH.cons rfl (fun K hK => ?_) AllReadyH.nil
      rw [if_pos (by kernel_rfl)]
      refine val_step2 (v := .slice (some ⟨g16,0,none⟩) (R.length + 1) c17) (w2:=w18) 48 rfl ?_ ?_
      ·go_simp
      refine hK.out _ _ HFa (fun hHeld => ?_)
      clear hK K
      try simp only [Act.put,lyA,lyB,lyC]
      refine tk2 18 49 (.pointer (some ⟨w.heap.size + 1 + 1,1,none⟩)) ?_ ?_
      ·intro w' hSw
       obtain ⟨s0,s1,s2,s3,s4⟩:=hSw
       go_simp
      try simp only [Act.put,lyA,lyB,lyC]
      refine wpAnyH_ready (rs := [19]) (by kernel_rfl) (by simp) ?_
      refine AllReadyH.cons rfl (fun K hK => ?_) AllReadyH.nil
      rw [if_pos (by kernel_rfl)]
      go_simp
      refine hK.out _ _ HFb (fun hHeld => ?_)
      clear hK K
      try simp only [Act.put,lyA,lyB,lyC]
      refine wpAnyH_done (by kernel_rfl) ?_ _
      have HQ2:=Hid.mk HFc
      clear hHeld hr m0 m1 HFa HFb HFc
      go_wp2_with fail
      exact ⟨⟨k + 1,tk.drop E,R ++ [⟨⟨key,seq,mkr,ds,l⟩,[],ma,mc⟩],_,_,by first | (rw [hw1]; done) | rfl | go_num,rfl,hlt,⟨HNx.out.1⟩,⟨by rw [List.length_append]; exact HQ2.out⟩,⟨HNx.out.2⟩⟩,by first | (rw [hw1]; exact Nat.sub_lt_sub_left hlt (Nat.lt_succ_self k)) | (simp [intOf]; omega)⟩
   ·have d2 : decide ((tk.length : Int) < (E : Int)) = true:=decide_eq_true (by omega)
    have d2n : decide (tk.length < E) = true:=decide_eq_true (by omega)
    have HFin : Hid (res = none):=⟨by
     have h2:=HR.out.2.1
     rw [HD.out,voL_stop (sz:=sz) HSZ.out.1 (by rw [← HF9.out,← HE.out]; exact hlen)] at h2
     exact h2.symm⟩
    obtain ⟨y0,y1⟩:=h1.out.g1.cells
    have f0:=h1.out.g1.fz 0
    have f1:=h1.out.g1.fz 1
    have n3:=h1.out.g1.set2 0 (.slice none 0 0)
    have B5:=Hid.mk (below2 (r:=w.heap.size + 1) h1.out.bel (Nat.le_succ _) (.int .i64 0) (.slice none 0 0))
    clear HR HQ HD HZ hlen
    go_wp2_with fail
    generalize (W3.setCell ⟨w.heap.size + 1,0,none⟩ (.int .i64 0)).setCell ⟨w.heap.size + 1,1,none⟩ (.slice none 0 0) = W9 at *
    obtain ⟨q0,q1⟩:=n3.cells
    refine bodyPost_ret (v := .tuple #[.agg #[.int .i64 0,.slice none 0 0],.bool false]) ?_ rfl ⟨by rw [HFin.out],B5.out⟩
    rw [results_ct2 rfl]
    go_simp
  ·obtain rfl : k = RI.length:=Nat.le_antisymm hk (Nat.le_of_not_lt hlt)
   have d1 : decide ((RI.length : Int) < (RI.length : Int)) = false:=decide_eq_false (fun q => Int.lt_irrefl _ q)
   have HFin : Hid (res = some (R.map (·.v))):=⟨by
    have h2:=HR.out.2.1
    rw [List.drop_length] at h2
    rw [← h2]
    simp [voL]⟩
   obtain ⟨x0,x1⟩:=HO.out.g2.cells
   obtain ⟨y0,y1⟩:=HO.out.g1.cells
   have f0:=HO.out.g1.fz 0
   have f1:=HO.out.g1.fz 1
   have n3:=HO.out.g1.set2 next (.slice ra R.length rc)
   have B5:=Hid.mk (below2 (r:=w.heap.size + 1) HO.out.bel (Nat.le_succ _) (.int .i64 next) (.slice ra R.length rc))
   have HG : Hid (Fo base ((wr.setCell ⟨w.heap.size + 1,0,none⟩ (.int .i64 next)).setCell ⟨w.heap.size + 1,1,none⟩ (.slice ra R.length rc)) (.slice ra R.length rc) R ∧ ∀ r ∈ R,r.z = []):=⟨by
    have hF2:=HF.out.later B5.out
    have ho:=own_keep (w':=(wr.setCell ⟨w.heap.size + 1,0,none⟩ (.int .i64 next)).setCell ⟨w.heap.size + 1,1,none⟩ (.slice ra R.length rc)) HO.out.own (fun g hg => by have:=(HO.out.own.lt g hg).1; rw [hso _ _ (by omega),hso _ _ (by omega)])
    refine ⟨HR.out.1.fo hF2 ho (by have:=HBase.out; omega),fun r hr => ?_⟩
    obtain ⟨j,hj,e⟩:=List.getElem_of_mem hr
    obtain ⟨q,_,h,_⟩:=HR.out.1.at' j r (by rw [List.getElem?_eq_getElem hj,e])
    exact h⟩
   clear HR HO HF hlt hk
   go_wp2_with fail
   generalize (wr.setCell ⟨w.heap.size + 1,0,none⟩ (.int .i64 next)).setCell ⟨w.heap.size + 1,1,none⟩ (.slice ra R.length rc) = W9 at *
   obtain ⟨q0,q1⟩:=n3.cells
   refine bodyPost_ret (v := .tuple #[.agg #[.int .i64 next,.slice ra R.length rc],.bool true]) ?_ rfl ⟨by rw [HFin.out]; exact ⟨ra,rc,R,rfl,rfl,HG.out.2,HG.out.1⟩,B5.out⟩
   rw [results_ct2 rfl]
   go_simp
end
section
open Go.RowKit
def svs (ts : List (List UInt8)) : List Value:=ts.map str
structure So (base : Nat) (w : World) (v : Value) (ts : List (List UInt8)) : Prop where
 own : w.ownsRow base 9 1 v ts.length (svs ts)
 le : base ≤ w.heap.size
theorem So.nil (w : World) (base : Nat) (h : base ≤ w.heap.size) : So base w (.slice none 0 0) []:=⟨World.ownsRow_nil _ _ _ _,h⟩
theorem So.later {base : Nat} {w w' : World} {v : Value} {R : List (List UInt8)} (h : So base w v R) (hb : Below w.heap.size w w') : So base w' v R:=⟨own_later h.own hb,Nat.le_trans h.le hb.size⟩
theorem info9f : (Tryz.prog.info? 9).map (fun i => (i.zero,i.size,i.bytes)) = some (some (.string ⟨#[]⟩),1,16):=by kernel_rfl
theorem info9 : ∃ i,Tryz.prog.info? 9 = some i ∧ i.zero = some (.string ⟨#[]⟩) ∧ i.size = 1 ∧ i.bytes = 16:=by
 have h:=info9f
 cases hi : Tryz.prog.info? 9 with
 | none => rw [hi] at h; cases h
 | some i => rw [hi] at h; simp at h; exact ⟨i,rfl,h.1,h.2.1,h.2.2⟩
theorem app_s {ops : Array Oper} {rest : List Oper} {o : Oper} {a : Act} {Q : Exit → Act → World → Prop} {W : World} (hgd : o.guard = none) (s x : Operand) (ho : o.op = .call { callee := .builtin .append,args:=#[s,x],argTypes:=#[127,127] })
  {base : Nat} {w : World} {v : Value} {l : List (List UInt8)} {g : Nat} (ps : List (List UInt8)) (hp : ps.length ≤ 16) (hW : W = w.alloc (.cells (svs ps).toArray 9)) (hO : So base w v l) (hg : g = w.heap.size) (hn : l.length ≤ 4500000000000)
  (hs : a.eval s = v) (hx : a.eval x = .slice (some ⟨g,0,none⟩) ps.length ps.length)
  (h : ∀ v' w',So base w' v' (l ++ ps) → Below base w w' → wpList Tryz.prog ops Q rest (a.put o.dst v') w') :
  wpList Tryz.prog ops Q (o :: rest) a W:=by
 obtain ⟨i0,hi0,hz0,hz1,hz2⟩:=info9
 subst hW hg
 have hm : maxLen = 9223372036854775807:=rfl
 refine wpList_append_own_wide _ hgd s x 127 ho base 9 i0 _ 1 16 Tryz.underlying127 hi0 hz0 hz1 hz2 rfl (by omega) v l.length (svs l) hs (hO.own.alloc _) _ ps.length ps.length (svs ps) hx (by simp [svs])
  (World.news_of_block (cs:=(svs ps).toArray) (t:=9) (fr:=(0,0)) (heap_alloc_new w _)) (by intro u hu; unfold svs at hu; obtain ⟨q,_,rfl⟩:=List.mem_map.1 hu; rfl) (by rw [hm]; omega) (by omega) (by have:=hO.le; simp; omega) ?_
 intro v' w' hown hgrow _
 refine h v' w' ⟨?_,?_⟩ ?_
 ·unfold svs; rw [List.map_append,List.length_append]; exact hown
 ·have:=hgrow.size; have h2:=hO.le; simp at this; omega
 ·exact ((Below.refl _ _).alloc hO.le _).trans (grown_below (hO.own.alloc _) (by have:=hO.le; simp; omega) hgrow)
structure TIn (w : World) (a : Option Addr) (ts : List (List UInt8)) : Prop where
 get : ∀ k t,ts[k]? = some t → ∃ b off,a = some ⟨b,off,none⟩ ∧ b < w.heap.size ∧ w.cell? ⟨b,off + k,none⟩ = some (str t)
theorem So.slice {base : Nat} {w : World} {v : Value} {l : List (List UInt8)} (h : So base w v l) : ∃ a cap,v = .slice a l.length cap ∧ TIn w a l:=by
 rcases h.own.2 with ⟨rfl,h0⟩ | ⟨g,cap,cur,rfl,_⟩
 ·have : l = []:=List.eq_nil_of_length_eq_zero h0
  subst this
  exact ⟨none,0,rfl,⟨fun k p hk => by simp at hk⟩⟩
 ·refine ⟨_,_,rfl,⟨fun k p hk => ?_⟩⟩
  have hkl:=(List.getElem?_eq_some_iff.1 hk).1
  have hlt:=(h.own.lt g rfl).2
  refine ⟨g,0,rfl,hlt,?_⟩
  rw [Nat.zero_add,h.own.cellAt _ (by omega)]
  unfold svs
  rw [List.getElem?_map,hk]
  rfl
end
end Go.Proofs.YtdfjlmfnkhhnjaaGreatDoor
