import Derived.Test.YtdfjlmfnkhhnjaaGreatDoorGl
set_option maxRecDepth 100000
set_option linter.unusedVariables false
set_option linter.unusedSimpArgs false
namespace Go.Proofs.YtdfjlmfnkhhnjaaGreatDoor
section
open Go.RowKit
open Go.Proofs.YtdfjlmfnkhhnjaaGreatDoorH (hv hv_length hv_one hv_eq)
def Bj (w : World) (g : Nat) (x : It) (a : Option Addr) (c : Nat) : Prop:=w.heap[g]? = some (.cells (ic x a c).toArray 81 (0,0))
theorem Bj.new (w : World) (x : It) (a : Option Addr) (c : Nat) : Bj (w.alloc (.cells (ic x a c).toArray 81)) w.heap.size x a c:=heap_alloc_new _ _
theorem Bj.lt {w : World} {g : Nat} {x : It} {a : Option Addr} {c : Nat} (h : Bj w g x a c) : g < w.heap.size:=(Array.getElem?_eq_some_iff.1 h).1
theorem Bj.later {w w' : World} {g : Nat} {x : It} {a : Option Addr} {c : Nat} (h : Bj w g x a c) (hb : Below w.heap.size w w') : Bj w' g x a c:=by
 have:=hb.block g h.lt
 unfold Bj at h ⊢
 rw [this]; exact h
theorem Bj.cells {w : World} {g : Nat} {x : It} {a : Option Addr} {c : Nat} (h : Bj w g x a c) : w.cell? ⟨g,0,none⟩ = some (str x.key) ∧ w.cell? ⟨g,1,none⟩ = some (.int .i64 x.seq) ∧ w.cell? ⟨g,2,none⟩ = some (.bool x.mkr) ∧ w.cell? ⟨g,3,none⟩ = some (.int .i64 x.size) ∧ w.cell? ⟨g,4,none⟩ = some (.slice a x.l.length c):=by
 obtain ⟨h0,h1,h2,h3,h4⟩:=ic_get x a c
 refine ⟨?_,?_,?_,?_,?_⟩
 ·rw [cell_of_row _ _ _ _ _ _ h,List.getElem?_toArray]; exact h0
 ·rw [cell_of_row _ _ _ _ _ _ h,List.getElem?_toArray]; exact h1
 ·rw [cell_of_row _ _ _ _ _ _ h,List.getElem?_toArray]; exact h2
 ·rw [cell_of_row _ _ _ _ _ _ h,List.getElem?_toArray]; exact h3
 ·rw [cell_of_row _ _ _ _ _ _ h,List.getElem?_toArray]; exact h4
def Bn3 (w : World) (g : Nat) (s n : Int) (v : Value) : Prop:=w.heap[g]? = some (.cells #[.int .i64 s,.int .i64 n,v] 38 (0,0))
theorem Bn3.new (w : World) (s n : Int) (v : Value) : Bn3 (w.alloc (.cells #[.int .i64 s,.int .i64 n,v] 38)) w.heap.size s n v:=heap_alloc_new _ _
theorem Bn3.lt {w : World} {g : Nat} {s n : Int} {v : Value} (h : Bn3 w g s n v) : g < w.heap.size:=(Array.getElem?_eq_some_iff.1 h).1
theorem Bn3.later {w w' : World} {g : Nat} {s n : Int} {v : Value} (h : Bn3 w g s n v) (hb : Below w.heap.size w w') : Bn3 w' g s n v:=by
 have:=hb.block g h.lt
 unfold Bn3 at h ⊢
 rw [this]; exact h
theorem Bn3.cells {w : World} {g : Nat} {s n : Int} {v : Value} (h : Bn3 w g s n v) : w.cell? ⟨g,0,none⟩ = some (.int .i64 s) ∧ w.cell? ⟨g,1,none⟩ = some (.int .i64 n) ∧ w.cell? ⟨g,2,none⟩ = some v:=by
 refine ⟨?_,?_,?_⟩
 all_goals rw [cell_of_row _ _ _ _ _ _ h]; rfl
theorem infoQ : (Tryz.prog.info? 81).map (·.size) = some 37:=by kernel_rfl
noncomputable def ldQ (v : Value) : Sem Value:=Instr.loadAt 81 v
theorem ldQe (v : Value) : Instr.loadAt 81 v = ldQ v:=rfl
noncomputable def stQ (p v : Value) : Sem Unit:=Instr.storeAt 81 p v
theorem stQe (p v : Value) : Instr.storeAt 81 p v = stQ p v:=rfl
theorem run_ldQ {w : World} {b o : Nat} {x : It} {a : Option Addr} {c : Nat} (h : w.rangeAt b o (ic x a c)) : (ldQ (.pointer (some ⟨b,o,none⟩))).run Tryz.prog w = .ok (.agg (ic x a c).toArray) w:=by
 unfold ldQ
 exact run_loadAt_mid (P:=Tryz.prog) w b o 81 (ic x a c) _ h Tryz.underlying81 rfl (by rw [ic_length]; exact infoQ)
theorem Bj.range {w : World} {g : Nat} {x : It} {a : Option Addr} {c : Nat} (h : Bj w g x a c) : w.rangeAt g 0 (ic x a c):=fun j v hv => by
 rw [Nat.zero_add,cell_of_row _ _ _ _ _ _ h,List.getElem?_toArray]; exact hv
theorem run_stQ (w : World) (x : It) (a : Option Addr) (c : Nat) : (stQ (.pointer (some ⟨w.heap.size,0,none⟩)) (.agg (ic x a c).toArray)).run Tryz.prog (w.alloc (.cells zI 81)) = .ok () (w.alloc (.cells (ic x a c).toArray 81)):=by
 unfold stQ
 exact run_storeAt_new w 81 zI (ic x a c).toArray (by rw [List.size_toArray,ic_length]; exact infoQ) ((show zI.size = 37 from rfl).trans (by rw [List.size_toArray,ic_length])) (all_oneCell_toArray (ic_one x a c))
attribute [local go_sem ↓] Go.wp_at_zero Go.wp_at_succ
theorem rti_iff (m : Ma) (x : It) : RtI m x ↔ RtJ x ∧ 1 ≤ x.seq ∧ x.seq < m.next ∧ m.since ≤ x.seq:=⟨fun h => ⟨⟨h.key,h.mk1,h.mk0⟩,h.s1,h.s2,h.s3⟩,fun h => ⟨h.1.key,h.2.1,h.2.2.1,h.2.2.2,h.1.mk1,h.1.mk0⟩⟩
def RqP (m : Ma) (x : It) (w : World) (e : Ending) (w' : World) : Prop := ∃ t,e = .returned (.bool t) ∧ (t = true ↔ RtI m x) ∧ Below w.heap.size w w'
set_option maxHeartbeats 8000000 in
theorem qright_any (m : Ma) (v : Value) (x : It) (w : World) (a : Option Addr) (c : Nat) (hS : Sl w a c x.l) (hz : x.l.length ≤ 4398046510976) (hp : ∀ (k : Nat) (e : En),x.l[k]? = some e → e.key.length ≤ 9223372036854775806 ∧ e.val.length ≤ 9223372036854775806) (hv : v.oneCell' = true) :
  Calls Tryz.prog 162 #[.agg (ic x a c).toArray,.agg #[.int .i64 m.since,.int .i64 m.next,v]] w (RqP m x w):=by
 have b0:=(Below.refl w.heap.size w).alloc (Nat.le_refl _) (.cells (ic x a c).toArray 81)
 have b1:=b0.alloc b0.size (.cells #[.int .i64 m.since,.int .i64 m.next,v] 38)
 have bq:=(Below.refl (w.alloc (.cells (ic x a c).toArray 81)).heap.size _).alloc (Nat.le_refl _) (.cells #[.int .i64 m.since,.int .i64 m.next,v] 38)
 obtain ⟨p0,p1,p2,p3,p4⟩:=((Bj.new w x a c).later bq).cells
 have zq:=Bn3.new (w.alloc (.cells (ic x a c).toArray 81)) m.since m.next v
 rw [World.size_alloc] at zq
 obtain ⟨y0,y1,y2⟩:=zq.cells
 have HS:=Hid.mk (hS.later b1)
 have HB0:=Hid.mk b1
 have Hz:=Hid.mk hz
 have Hp:=Hid.mk hp
 have HRi:=Hid.mk (rti_iff m x)
 clear hS b0 b1 bq zq hz hp
 obtain ⟨since,next,items⟩:=m
 dsimp only at *
 go_enter Tryz.func162,Tryz.ntmps162
 go_wp2_with fail
 with_reducible refine Calls.mono (rKey_any x.key _) ?_
 rintro e w1 ⟨rfl,rfl⟩
 dsimp only
 clear p0
 rcases keyE_or x.key with hk | hk
 ·rw [hk]
  have HKy:=Hid.mk hk
  clear hk
  by_cases h1 : x.seq < 1
  ·have d1 : decide (x.seq < 1) = true:=decide_eq_true h1
   have HN : Hid (¬ RtI ⟨since,next,items⟩ x):=⟨fun q => by have:=(HRi.out.1 q).2.1; omega⟩
   clear h1
   go_wp2_with fail
   go_ret
   exact ⟨_,rfl,ff HN.out,HB0.out⟩
  have d1 : decide (x.seq < 1) = false:=decide_eq_false h1
  by_cases h2 : next ≤ x.seq
  ·have d2 : decide (next ≤ x.seq) = true:=decide_eq_true h2
   have HN : Hid (¬ RtI ⟨since,next,items⟩ x):=⟨fun q => by have:=(HRi.out.1 q).2.2.1; omega⟩
   clear h1 h2
   go_wp2_with fail
   go_ret
   exact ⟨_,rfl,ff HN.out,HB0.out⟩
  have d2 : decide (next ≤ x.seq) = false:=decide_eq_false h2
  by_cases h3 : x.seq < since
  ·have d3 : decide (x.seq < since) = true:=decide_eq_true h3
   have HN : Hid (¬ RtI ⟨since,next,items⟩ x):=⟨fun q => by have:=(HRi.out.1 q).2.2.2; omega⟩
   clear h1 h2 h3
   go_wp2_with fail
   go_ret
   exact ⟨_,rfl,ff HN.out,HB0.out⟩
  have d3 : decide (x.seq < since) = false:=decide_eq_false h3
  have HQ : Hid (1 ≤ x.seq ∧ x.seq < next ∧ since ≤ x.seq):=⟨by omega,by omega,by omega⟩
  clear h1 h2 h3
  cases hm : x.mkr with
  | true =>
   rw [hm] at p2
   by_cases hs : x.size = 0
   ·rw [hs] at p3
    by_cases hl : x.l.length = 0
    ·rw [hl] at p4
     have HY : Hid (RtI ⟨since,next,items⟩ x):=⟨HRi.out.2 ⟨⟨HKy.out,fun _ => ⟨hs,List.eq_nil_of_length_eq_zero hl⟩,fun q => (by rw [hm] at q; cases q)⟩,HQ.out⟩⟩
     clear hm hs hl
     go_wp2_with fail
     go_ret
     exact ⟨_,rfl,⟨fun _ => HY.out,fun _ => rfl⟩,HB0.out⟩
    ·have d4 : ((x.l.length : Int) == 0) = false:=by rw [beq_eq_false_iff_ne]; omega
     have d4' : (x.l.length == 0) = false:=by rw [beq_eq_false_iff_ne]; omega
     have HN : Hid (¬ RtI ⟨since,next,items⟩ x):=⟨fun q => hl (by rw [(q.mk1 hm).2]; rfl)⟩
     clear hm hs hl
     go_wp2_with fail
     go_ret
     exact ⟨_,rfl,ff HN.out,HB0.out⟩
   ·have d4 : (x.size == 0) = false:=by rw [beq_eq_false_iff_ne]; exact hs
    have HN : Hid (¬ RtI ⟨since,next,items⟩ x):=⟨fun q => hs (q.mk1 hm).1⟩
    clear hm hs
    go_wp2_with fail
    go_ret
    exact ⟨_,rfl,ff HN.out,HB0.out⟩
  | false =>
   rw [hm] at p2
   by_cases g1 : 0 ≤ x.size
   ·have d4 : decide (0 ≤ x.size) = true:=decide_eq_true g1
    by_cases g2 : x.size ≤ 1024
    ·have d5 : decide (x.size ≤ 1024) = true:=decide_eq_true g2
     have H1:=Hid.mk g1
     have H2:=Hid.mk g2
     have Hm:=Hid.mk hm
     clear hm g1 g2
     go_wp2_with fail
     with_reducible refine Calls.mono (rMeta_any x.l _ a _ c rfl HS.out.at' Hp.out (by have:=Hz.out; omega)) ?_
     rintro e w2 ⟨rfl,b2⟩
     dsimp only
     have HB2:=Hid.mk (below_seq HB0.out b2)
     clear b2 d1 d2 d3 d4 d5 p1 p2 p3 p4 y0 y1 y2
     rcases mtE_or x.l with hq | hq
     ·rw [hq]
      have HY : Hid (RtI ⟨since,next,items⟩ x):=⟨HRi.out.2 ⟨⟨HKy.out,fun q => (by rw [Hm.out] at q; cases q),fun _ => ⟨H1.out,H2.out,hq⟩⟩,HQ.out⟩⟩
      clear hq
      go_wp2_with fail
      go_ret
      exact ⟨_,rfl,⟨fun _ => HY.out,fun _ => rfl⟩,HB2.out⟩
     ·rw [hq]
      have HN : Hid (¬ RtI ⟨since,next,items⟩ x):=⟨fun q => by have:=(q.mk0 Hm.out).2.2; omega⟩
      clear hq
      go_wp2_with fail
      go_ret
      exact ⟨_,rfl,ff HN.out,HB2.out⟩
    ·have d5 : decide (x.size ≤ 1024) = false:=decide_eq_false g2
     have HN : Hid (¬ RtI ⟨since,next,items⟩ x):=⟨fun q => g2 (q.mk0 hm).2.1⟩
     clear hm g1 g2
     go_wp2_with fail
     go_ret
     exact ⟨_,rfl,ff HN.out,HB0.out⟩
   ·have d4 : decide (0 ≤ x.size) = false:=decide_eq_false g1
    have HN : Hid (¬ RtI ⟨since,next,items⟩ x):=⟨fun q => g1 (q.mk0 hm).1⟩
    clear hm g1
    go_wp2_with fail
    go_ret
    exact ⟨_,rfl,ff HN.out,HB0.out⟩
 ·rw [hk]
  have HN : Hid (¬ RtI ⟨since,next,items⟩ x):=⟨fun q => by have:=q.key; omega⟩
  clear hk
  go_wp2_with fail
  go_ret
  exact ⟨_,rfl,ff HN.out,HB0.out⟩
end
section
open Go.RowKit
attribute [local go_sem ↓] Go.wp_at_zero Go.wp_at_succ
theorem w64 {n : Int} (h : 0 ≤ n) (h2 : n ≤ 1000000) : wrap64 n = n:=by unfold wrap64; omega
set_option maxHeartbeats 4000000 in
theorem qbytes_any (x : It) (hR : RtJ x) (w : World) (a : Option Addr) (c : Nat) (hS : Sl w a c x.l) :
  Calls Tryz.prog 163 #[.agg (ic x a c).toArray] w fun e w' => e = .returned (.int .i64 (isz x)) ∧ Below w.heap.size w w':=by
 have b0:=(Below.refl w.heap.size w).alloc (Nat.le_refl _) (.cells (ic x a c).toArray 81)
 have z0:=Hid.mk (Bj.new w x a c)
 obtain ⟨p0,p1,p2,p3,p4⟩:=z0.out.cells
 have HS:=Hid.mk (hS.later b0)
 have HB0:=Hid.mk b0
 have hk:=keyE_len hR.key
 have hl : tt x.l ≤ 640 ∧ 0 ≤ x.size ∧ x.size ≤ 1024 ∧ x.l.length ≤ 8:=by
  cases hm : x.mkr with
  | true =>
   obtain ⟨q1,q2⟩:=hR.mk1 hm
   rw [q1,q2]
   simp [tt]
  | false =>
   obtain ⟨q1,q2,q3⟩:=hR.mk0 hm
   obtain ⟨r1,r2,r3⟩:=mtE_iff q3
   have:=tt_le x.l r2
   exact ⟨by omega,q1,q2,r1⟩
 have ha1 : wrap64 (32 + (x.key.length : Int)) = 32 + (x.key.length : Int):=w64 (by omega) (by omega)
 have ha2 : wrap64 (32 + (x.key.length : Int) + x.size) = 32 + (x.key.length : Int) + x.size:=w64 (by omega) (by omega)
 have HLl:=Hid.mk hl
 have HKl:=Hid.mk hk
 clear hS b0 hR hl hk
 go_enter Tryz.func163,Tryz.ntmps163
 go_wp2_with fail
 clear p0 p1 p2 p3 p4 ha1 ha2
 generalize w.alloc (.cells (ic x a c).toArray 81) = W1 at *
 obtain ⟨S,hS⟩ : ∃ S : Nat → Int,S = fun k => 32 + (x.key.length : Int) + x.size + (tt (x.l.take k) : Nat):=⟨_,rfl⟩
 have HSd:=Hid.mk hS
 have h0 : 32 + (x.key.length : Int) + x.size = S 0:=by rw [hS]; simp [tt]
 rw [h0]
 have HSb : Hid (∀ k,0 ≤ S k ∧ S k ≤ 10000):=⟨fun k => by
  rw [hS]
  have:=HLl.out
  have:=HKl.out
  have h2 : tt (x.l.take k) ≤ tt x.l:=by
   have:=tt_append (x.l.take k) (x.l.drop k)
   rw [List.take_append_drop] at this
   omega
  constructor <;> (simp only; omega)⟩
 clear hS h0
 go_loopw [4,3] (fun i s wr => ∃ k : Nat,k ≤ x.l.length ∧ i = .int .i64 (k : Int) ∧ s = .int .i64 (S k) ∧ Hid (Below W1.heap.size W1 wr)) (fun i _ _ => x.l.length - (intOf i).toNat)
 case atStart => exact ⟨0,Nat.zero_le _,rfl,by first | rfl | (rw [w64 (HSb.out 0).1 (Int.le_trans (HSb.out 0).2 (by decide))]),⟨Below.refl _ _⟩⟩
 case round =>
  obtain ⟨k,hk,rfl,rfl,hb⟩:=hrel
  obtain ⟨p0,p1,p2,p3,p4⟩:=(z0.out.later hb.out).cells
  by_cases hlt : k < x.l.length
  ·have d1 : decide ((k : Int) < (x.l.length : Int)) = true:=decide_eq_true (Int.ofNat_lt.2 hlt)
   have k2 : (k : Int) < (x.l.length : Int):=Int.ofNat_lt.2 hlt
   have hw1 : wrap64 ((k : Int) + 1) = ((k + 1 : Nat) : Int):=by have:=HLl.out; unfold wrap64; omega
   obtain ⟨p,hp⟩ : ∃ p,x.l[k]? = some p:=⟨x.l[k],List.getElem?_eq_getElem hlt⟩
   obtain ⟨b,off,rfl,hbl,c0,c1⟩:=(HS.out.later hb.out).at'.get k p hp
   have hst : S k + (p.key.length : Int) + (p.val.length : Int) = S (k + 1):=by
    rw [HSd.out]
    simp only
    rw [tt_take hp]
    omega
   have hbb:=HSb.out (k + 1)
   have hbk:=HSb.out k
   have hi1 : IntKind.i64.wrap (S k + (p.key.length : Int)) = S k + (p.key.length : Int):=by rw [i64w]; exact w64 (by omega) (by omega)
   have hi2 : IntKind.i64.wrap (S k + (p.key.length : Int) + (p.val.length : Int)) = S (k + 1):=by rw [i64w,hst]; exact w64 (by omega) (by omega)
   have HB2 : Hid (Below W1.heap.size W1 wr.drew):=⟨hb.out.drew⟩
   clear hst hbb hbk hp
   go_wp2_with fail
   go_region
   clear hi1 hi2 c0 c1 p0 p1 p2 p3 p4
   go_wp2_with fail
   exact ⟨⟨k + 1,hlt,by first | (rw [hw1]; done) | rfl | go_num,rfl,HB2⟩,by first | (rw [hw1]; exact Nat.sub_lt_sub_left hlt (Nat.lt_succ_self k)) | (simp [intOf]; omega)⟩
  ·obtain rfl : k = x.l.length:=by omega
   have d1 : decide ((x.l.length : Int) < (x.l.length : Int)) = false:=decide_eq_false (by omega)
   have HE : Hid (S x.l.length = isz x):=⟨by rw [HSd.out]; simp only [List.take_length]; unfold isz; omega⟩
   go_wp2_with fail
   go_ret
   exact ⟨by show Ending.returned (Value.int .i64 (S x.l.length)) = _; rw [HE.out],HB0.out.trans (hb.out.mono HB0.out.size)⟩
end
section
open Go.RowKit
attribute [local go_sem ↓] Go.wp_at_zero Go.wp_at_succ ldQe stQe
theorem isum_step {L : List It} {k : Nat} {x : It} (h : L[k]? = some x) : isum (L.take (k + 1)) = isum (L.take k) + isz x:=by
 unfold isum
 rw [List.take_add_one,h]
 simp
theorem isum_rng : ∀ L : List It,(∀ x ∈ L,RtJ x) → 0 ≤ isum L ∧ isum L ≤ 2000 * (L.length : Int)
 | [],_ => by simp [isum]
 | x :: L,h => by
  obtain ⟨_,z1,z2⟩:=rtj_sz (h x (by simp))
  have ih:=isum_rng L (fun y hy => h y (by simp [hy]))
  have e : isum (x :: L) = isz x + isum L:=by simp [isum]
  rw [e,List.length_cons]
  omega
theorem rtm_pw {m : Ma} (h : RtM m) {j k : Nat} {y x : It} (hjk : j < k) (hy : m.items[j]? = some y) (hx : m.items[k]? = some x) : bef y x ∧ ¬ y.seq = x.seq:=by
 obtain ⟨h1,e1⟩:=List.getElem?_eq_some_iff.1 hy
 obtain ⟨h2,e2⟩:=List.getElem?_eq_some_iff.1 hx
 refine ⟨by have:=List.pairwise_iff_getElem.1 h.srt j k h1 h2 hjk; rwa [e1,e2] at this,fun q => ?_⟩
 have:=List.pairwise_iff_getElem.1 h.nod j k (by simpa using h1) (by simpa using h2) hjk
 simp [e1,e2,q] at this
structure Upk (m : Ma) (k : Nat) : Prop where
 it : ∀ x ∈ m.items.take k,RtI m x
 pw : ∀ (i j : Nat) (y x : It),i < j → j < k → m.items[i]? = some y → m.items[j]? = some x → bef y x ∧ ¬ y.seq = x.seq
theorem Upk.next {m : Ma} {k : Nat} {x : It} (h : Upk m k) (hx : m.items[k]? = some x) (hr : RtI m x) (hj : ∀ (i : Nat) (y : It),i < k → m.items[i]? = some y → bef y x ∧ ¬ y.seq = x.seq) : Upk m (k + 1):=by
 refine ⟨fun y hy => ?_,fun i j y z hij hjk hy hz => ?_⟩
 ·rw [List.take_add_one,hx] at hy
  rcases List.mem_append.1 hy with q | q
  ·exact h.it y q
  ·simp at q; subst q; exact hr
 ·by_cases e : j = k
  ·subst e
   rw [hx] at hz
   injection hz with hz
   subst hz
   exact hj i y hij hy
  ·exact h.pw i j y z hij (by omega) hy hz
theorem Upk.rt {m : Ma} (h : Upk m m.items.length) (hh : 1 ≤ m.next ∧ m.next ≤ 1099511627777 ∧ 0 ≤ m.since ∧ m.since ≤ m.next ∧ m.items.length ≤ 256) (hs : isum m.items ≤ 65536) : RtM m:=by
 have hit:=h.it
 rw [List.take_length] at hit
 refine ⟨hh.1,hh.2.1,hh.2.2.1,hh.2.2.2.1,hh.2.2.2.2,hit,?_,?_,hs⟩
 ·refine List.pairwise_iff_getElem.2 fun i j hi hj hij => ?_
  exact (h.pw i j _ _ hij hj (List.getElem?_eq_getElem hi) (List.getElem?_eq_getElem hj)).1
 ·refine List.pairwise_iff_getElem.2 fun i j hi hj hij => ?_
  have:=(h.pw i j _ _ hij (by simpa using hj) (List.getElem?_eq_getElem (by simpa using hi)) (List.getElem?_eq_getElem (by simpa using hj))).2
  simpa using this
set_option maxHeartbeats 8000000 in
theorem qmRight_any (m : Ma) (w : World) (a : Option Addr) (cap : Nat) (hL : IIt w a m.items) (hz : ∀ x ∈ m.items,x.l.length ≤ 4398046510976) (hp : ∀ x ∈ m.items,∀ (k : Nat) (e : En),x.l[k]? = some e → e.key.length ≤ 9223372036854775806 ∧ e.val.length ≤ 9223372036854775806) (hl : m.items.length ≤ 1466015503700) :
  Calls Tryz.prog 121 #[.agg #[.int .i64 m.since,.int .i64 m.next,.slice a m.items.length cap]] w (RiP m w):=by
 have b0:=(Below.refl w.heap.size w).alloc (Nat.le_refl _) (.cells #[.int .i64 m.since,.int .i64 m.next,.slice a m.items.length cap] 38)
 have z0:=Hid.mk (Bn3.new w m.since m.next (.slice a m.items.length cap))
 obtain ⟨p0,p1,p2⟩:=z0.out.cells
 have HL:=Hid.mk (hL.later b0)
 have HZ:=Hid.mk hz
 have HP:=Hid.mk hp
 have HB0:=Hid.mk b0
 have HRi:=Hid.mk (rtm_iff m)
 clear hL hz b0 hp
 obtain ⟨since,next,items⟩:=m
 dsimp only at *
 go_enter Tryz.func121,Tryz.ntmps121
 by_cases h1 : next < 1
 ·have d1 : decide (next < 1) = true:=decide_eq_true h1
  have HN : Hid (¬ RtM ⟨since,next,items⟩):=⟨fun q => by have:=(HRi.out.1 q).1.1; omega⟩
  clear h1
  go_wp2_with fail
  go_ret
  exact ⟨_,rfl,ff HN.out,HB0.out⟩
 have d1 : decide (next < 1) = false:=decide_eq_false h1
 by_cases h2 : 1099511627777 < next
 ·have d2 : decide (1099511627777 < next) = true:=decide_eq_true h2
  have HN : Hid (¬ RtM ⟨since,next,items⟩):=⟨fun q => by have:=(HRi.out.1 q).1.2.1; omega⟩
  clear h1 h2
  go_wp2_with fail
  go_ret
  exact ⟨_,rfl,ff HN.out,HB0.out⟩
 have d2 : decide (1099511627777 < next) = false:=decide_eq_false h2
 by_cases h3 : since < 0
 ·have d3 : decide (since < 0) = true:=decide_eq_true h3
  have HN : Hid (¬ RtM ⟨since,next,items⟩):=⟨fun q => by have:=(HRi.out.1 q).1.2.2.1; omega⟩
  clear h1 h2 h3
  go_wp2_with fail
  go_ret
  exact ⟨_,rfl,ff HN.out,HB0.out⟩
 have d3 : decide (since < 0) = false:=decide_eq_false h3
 by_cases h4 : next < since
 ·have d4 : decide (next < since) = true:=decide_eq_true h4
  have HN : Hid (¬ RtM ⟨since,next,items⟩):=⟨fun q => by have:=(HRi.out.1 q).1.2.2.2.1; omega⟩
  clear h1 h2 h3 h4
  go_wp2_with fail
  go_ret
  exact ⟨_,rfl,ff HN.out,HB0.out⟩
 have d4 : decide (next < since) = false:=decide_eq_false h4
 by_cases h5 : 256 < items.length
 ·have d5 : decide (256 < (items.length : Int)) = true:=decide_eq_true (by omega)
  have d5' : decide (256 < items.length) = true:=decide_eq_true h5
  have HN : Hid (¬ RtM ⟨since,next,items⟩):=⟨fun q => by have:=(HRi.out.1 q).1.2.2.2.2; omega⟩
  clear h1 h2 h3 h4 h5
  go_wp2_with fail
  go_ret
  exact ⟨_,rfl,ff HN.out,HB0.out⟩
 have d5 : decide (256 < (items.length : Int)) = false:=decide_eq_false (by omega)
 have d5' : decide (256 < items.length) = false:=decide_eq_false h5
 have HH : Hid (1 ≤ next ∧ next ≤ 1099511627777 ∧ 0 ≤ since ∧ since ≤ next ∧ items.length ≤ 256):=⟨by omega,by omega,by omega,by omega,by omega⟩
 clear h1 h2 h3 h4 h5
 go_wp2_with fail
 clear d1 d2 d3 d4 d5 d5' p0 p1 p2
 generalize w.alloc (.cells #[.int .i64 since,.int .i64 next,.slice a items.length cap] 38) = W1 at *
 have HBw : Hid (∀ w',Below W1.heap.size W1 w' → Below w.heap.size w w'):=⟨fun w' h => HB0.out.trans (h.mono HB0.out.size)⟩
 go_loopw [4,3] (fun i s wr => ∃ k : Nat,k ≤ items.length ∧ i = .int .i64 (k : Int) ∧ s = .int .i64 (isum (items.take k)) ∧ Hid (Upk ⟨since,next,items⟩ k) ∧ Hid (Below W1.heap.size W1 wr)) (fun i _ _ => items.length - (intOf i).toNat)
 case atStart => exact ⟨0,Nat.zero_le _,rfl,rfl,⟨⟨by simp,fun i j y x _ h => by omega⟩⟩,⟨Below.refl _ _⟩⟩
 case round =>
  obtain ⟨k,hk,rfl,rfl,HU,hb⟩:=hrel
  obtain ⟨p0,p1,p2⟩:=(z0.out.later hb.out).cells
  by_cases hlt : k < items.length
  ·have d1 : decide ((k : Int) < (items.length : Int)) = true:=decide_eq_true (Int.ofNat_lt.2 hlt)
   have k2 : (k : Int) < (items.length : Int):=Int.ofNat_lt.2 hlt
   have hw1 : wrap64 ((k : Int) + 1) = ((k + 1 : Nat) : Int):=by have:=HH.out; unfold wrap64; omega
   obtain ⟨x,hx⟩ : ∃ x,items[k]? = some x:=⟨items[k],List.getElem?_eq_getElem hlt⟩
   have hmem:=List.mem_of_getElem? hx
   obtain ⟨b,off,ma,mc,rfl,hbl,hr,hs⟩:=(HL.out.later hb.out).get k x hx
   have l1:=run_ldQ hr
   have s1:=run_stQ wr x ma mc
   have bx:=(Below.refl wr.heap.size wr).alloc (Nat.le_refl _) (.cells (ic x ma mc).toArray 81)
   have z1:=Hid.mk (Bj.new wr x ma mc)
   have l2:=run_ldQ z1.out.range
   obtain ⟨q0,q1,q2⟩:=((z0.out.later hb.out).later bx).cells
   have hri:=qright_any ⟨since,next,items⟩ (.slice (some ⟨b,off,none⟩) items.length cap) x (wr.alloc (.cells (ic x ma mc).toArray 81)) ma mc (hs.later bx) (HZ.out x hmem) (HP.out x hmem) rfl
   have HBy : Hid (Below W1.heap.size W1 (wr.alloc (.cells (ic x ma mc).toArray 81))):=⟨hb.out.trans (bx.mono hb.out.size)⟩
   go_wp2_with fail
   clear l1 s1 l2 q0 q1 q2 p0 p1 p2
   have Hs:=Hid.mk (hs.later bx)
   clear hs hr bx
   generalize wr.alloc (.cells (ic x ma mc).toArray 81) = w1 at *
   with_reducible refine Calls.mono hri ?_
   rintro e w2 ⟨t,rfl,ht,b2⟩
   dsimp only
   clear hri
   have HB2 : Hid (Below W1.heap.size W1 w2):=⟨below_seq HBy.out b2⟩
   have z2:=Hid.mk (z1.out.later b2)
   have Hs2:=Hid.mk (Hs.out.later b2)
   clear z1 Hs b2 HBy
   cases t with
   | false =>
    have HN : Hid (¬ RtM ⟨since,next,items⟩):=⟨fun q => by have:=ht.2 (q.it x hmem); cases this⟩
    clear ht
    go_wp2_with fail
    go_ret
    exact ⟨_,rfl,ff HN.out,HBw.out _ HB2.out⟩
   | true =>
    have Hr:=Hid.mk (ht.1 rfl)
    clear ht
    have hrj : RtJ x:=((rti_iff _ _).1 Hr.out).1
    have l3:=run_ldQ z2.out.range
    have hby:=qbytes_any x hrj w2 ma mc Hs2.out
    have hup:=isum_step hx
    have hj1 : ∀ y ∈ items.take k,RtJ y:=fun y hy => ((rti_iff _ _).1 (HU.out.it y hy)).1
    have hr1:=isum_rng _ hj1
    have hr2:=rtj_sz hrj
    have hlk : (items.take k).length = k:=by rw [List.length_take]; omega
    have hwS : wrap64 (isum (items.take k) + isz x) = isum (items.take (k + 1)):=by
     rw [hup]
     have:=HH.out
     rw [hlk] at hr1
     unfold wrap64
     omega
    clear hup hj1 hr1 hr2 hlk hrj
    go_wp2_with fail
    with_reducible refine Calls.mono hby ?_
    rintro e w3 ⟨rfl,b3⟩
    dsimp only
    clear hby l3
    have HB3 : Hid (Below W1.heap.size W1 w3):=⟨below_seq HB2.out b3⟩
    have z3:=Hid.mk (z2.out.later b3)
    clear b3 z2 Hs2 HB2
    generalize hS : isum (items.take (k + 1)) = S1 at *
    have HS:=Hid.mk hS
    clear hS
    go_wp2_with fail
    rw [hwS]
    clear hwS
    go_loopw [6] (fun j wq => ∃ i : Nat,i ≤ k ∧ j = .int .i64 (i : Int) ∧ Hid (∀ (q : Nat) (y : It),q < i → items[q]? = some y → bef y x ∧ ¬ y.seq = x.seq) ∧ Hid (Below w3.heap.size w3 wq)) (fun j _ => k - (intOf j).toNat)
    case atStart => exact ⟨0,Nat.zero_le _,rfl,⟨fun q y h => by omega⟩,⟨Below.refl _ _⟩⟩
    case round =>
     obtain ⟨j,hj,rfl,HJ,hc⟩:=hrel
     have HC : Hid (Below W1.heap.size W1 wr):=⟨below_seq HB3.out hc.out⟩
     obtain ⟨p0,p1,p2⟩:=(z0.out.later HC.out).cells
     by_cases hjk : j < k
     ·have e1 : decide ((j : Int) < (k : Int)) = true:=decide_eq_true (by omega)
      have j2 : (j : Int) < (items.length : Int):=by omega
      have hw2 : wrap64 ((j : Int) + 1) = ((j + 1 : Nat) : Int):=by have:=HH.out; unfold wrap64; omega
      obtain ⟨y,hy⟩ : ∃ y,items[j]? = some y:=⟨items[j],List.getElem?_eq_getElem (by omega)⟩
      obtain ⟨b',off',na,nc,hbb,hbl',hr',hs'⟩:=(HL.out.later HC.out).get j y hy
      injection hbb with hbb
      injection hbb with h1 h2
      subst h1 h2
      have l1:=run_ldQ hr'
      have s1:=run_stQ wr y na nc
      have bx:=(Below.refl wr.heap.size wr).alloc (Nat.le_refl _) (.cells (ic y na nc).toArray 81)
      obtain ⟨q0,q1,-,-,-⟩:=(Bj.new wr y na nc).cells
      obtain ⟨r0,r1,-,-,-⟩:=((z3.out.later hc.out).later bx).cells
      have HD : Hid (Below w3.heap.size w3 (wr.alloc (.cells (ic y na nc).toArray 81))):=⟨hc.out.trans (bx.mono hc.out.size)⟩
      clear hs' hr' bx
      have hN : (y.seq = x.seq ∨ lt x.key y.key ∨ (y.key = x.key ∧ x.seq < y.seq)) → Hid (¬ RtM ⟨since,next,items⟩):=fun h => ⟨fun q => by
       obtain ⟨g1,g2⟩:=rtm_pw q hjk hy hx
       rcases h with h | h | ⟨h,h'⟩
       ·exact g2 h
       ·rw [bef_iff] at g1
        rcases g1 with g | ⟨g,_⟩
        ·exact lt_asymm g h
        ·rw [g] at h; exact lt_irrefl h
       ·rw [bef_iff] at g1
        rcases g1 with g | ⟨_,g⟩
        ·rw [h] at g; exact lt_irrefl g
        ·omega⟩
      by_cases c1 : y.seq = x.seq
      ·have f1 : (y.seq == x.seq) = true:=beq_iff_eq.2 c1
       have HN:=hN (.inl c1)
       clear hN c1
       go_wp2_with fail
       go_ret
       exact ⟨_,rfl,ff HN.out,HBw.out _ (below_seq HB3.out HD.out)⟩
      have f1 : (y.seq == x.seq) = false:=beq_eq_false_iff_ne.2 c1
      have HK : Hid (bef y x → ∀ (q : Nat) (z : It),q < j + 1 → items[q]? = some z → bef z x ∧ ¬ z.seq = x.seq):=⟨fun hb q z hq hz => by
       by_cases e : q = j
       ·subst e; rw [hy] at hz; injection hz with hz; subst hz; exact ⟨hb,c1⟩
       ·exact HJ.out q z (by omega) hz⟩
      rcases tri x.key y.key with c2 | c2 | c2
      ·have f2:=bL_lt c2
       have f3:=bL_not (lt_asymm c2)
       have f4 : (y.key == x.key) = false:=by rw [beq_eq_false_iff_ne]; intro q; rw [q] at c2; exact lt_irrefl c2
       have HN:=hN (.inr (.inl c2))
       clear hN c1 c2 HK
       go_wp2_with fail
       go_ret
       exact ⟨_,rfl,ff HN.out,HBw.out _ (below_seq HB3.out HD.out)⟩
      ·have f2 : Go.Op.bytesLess x.key y.key = false:=by rw [c2]; exact bL_not lt_irrefl
       have f3 : Go.Op.bytesLess y.key x.key = false:=by rw [c2]; exact bL_not lt_irrefl
       have f4 : (y.key == x.key) = true:=beq_iff_eq.2 c2.symm
       by_cases c4 : x.seq < y.seq
       ·have f5 : decide (x.seq < y.seq) = true:=decide_eq_true c4
        have f6 : decide (y.seq ≤ x.seq) = false:=decide_eq_false (by omega)
        have HN:=hN (.inr (.inr ⟨c2.symm,c4⟩))
        clear hN c1 c2 c4 HK
        go_wp2_with fail
        go_ret
        exact ⟨_,rfl,ff HN.out,HBw.out _ (below_seq HB3.out HD.out)⟩
       ·have f5 : decide (x.seq < y.seq) = false:=decide_eq_false c4
        have f6 : decide (y.seq ≤ x.seq) = true:=decide_eq_true (by omega)
        have HY:=Hid.mk (HK.out (bef_iff.2 (.inr ⟨c2.symm,by omega⟩)))
        clear hN c1 c2 c4 HK
        go_wp2_with fail
        exact ⟨⟨j + 1,hjk,rfl,HY,HD⟩,by simp only [intOf,Int.toNat_natCast]; omega⟩
      ·have f2:=bL_not (lt_asymm c2)
       have f3:=bL_lt c2
       have f4 : (y.key == x.key) = false:=by rw [beq_eq_false_iff_ne]; intro q; rw [q] at c2; exact lt_irrefl c2
       have HY:=Hid.mk (HK.out (bef_iff.2 (.inl c2)))
       clear hN c1 c2 HK
       go_wp2_with fail
       exact ⟨⟨j + 1,hjk,rfl,HY,HD⟩,by simp only [intOf,Int.toNat_natCast]; omega⟩
     ·obtain rfl : j = k:=by omega
      have e1 : decide ((j : Int) < (j : Int)) = false:=decide_eq_false (by omega)
      have HU2:=Hid.mk (HU.out.next hx Hr.out HJ.out)
      go_wp2_with fail
      exact ⟨⟨j + 1,hlt,rfl,by rw [HS.out],HU2,HC⟩,by simp only [intOf,Int.toNat_natCast]; omega⟩
  ·obtain rfl : k = items.length:=by omega
   have d1 : decide ((items.length : Int) < (items.length : Int)) = false:=decide_eq_false (by omega)
   have e1 : isum (items.take items.length) = isum items:=by rw [List.take_length]
   rw [e1]
   by_cases hq : isum items ≤ 65536
   ·have d2 : decide (isum items ≤ 65536) = true:=decide_eq_true hq
    have HY : Hid (RtM ⟨since,next,items⟩):=⟨HU.out.rt HH.out hq⟩
    clear hq e1
    go_wp2_with fail
    go_ret
    exact ⟨_,rfl,⟨fun _ => HY.out,fun _ => rfl⟩,HBw.out _ hb.out⟩
   ·have d2 : decide (isum items ≤ 65536) = false:=decide_eq_false hq
    have HN : Hid (¬ RtM ⟨since,next,items⟩):=⟨fun q => hq q.byt⟩
    clear hq e1
    go_wp2_with fail
    go_ret
    exact ⟨_,rfl,ff HN.out,HBw.out _ hb.out⟩
end
end Go.Proofs.YtdfjlmfnkhhnjaaGreatDoor
