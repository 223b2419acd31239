import Derived.Test.YtdfjlmfnkhhnjaaGreatDoorQk
import Derived.Test.YtdfjlmfnkhhnjaaGreatDoorQb
import Derived.Test.YtdfjlmfnkhhnjaaGreatDoorGo
import Derived.Deep.QuietTactic
import Derived.Test.YtdfjlmfnkhhnjaaGreatDoorGu
import Derived.Deep.RegionHeld3
import Derived.Test.YtdfjlmfnkhhnjaaGreatDoorGq
import Derived.Laws.MakeOwn
import Derived.Laws.OwnMore
set_option maxRecDepth 100000
set_option linter.unusedVariables false
set_option linter.unusedSimpArgs false
namespace Go.Proofs.YtdfjlmfnkhhnjaaGreatDoor
section
open Go.RowKit
open Go.Proofs.YtdfjlmfnkhhnjaaGreatDoorP (TB)
open Go.Proofs.YtdfjlmfnkhhnjaaGreatDoorH (KIn)
open Stk (Rv rcs rcells Fo)
attribute [local go_sem ↓] Go.wp_at_zero Go.wp_at_succ Go.Proofs.YtdfjlmfnkhhnjaaGreatDoorP.sl9
def UnP (s : List UInt8) (w : World) (e : Ending) (w' : World) : Prop :=
 ((∃ (L : List Vs) (next since : Int) (R : List Rv) (va : Option Addr) (vc : Nat),Arc s L next since ∧ e = .returned (.tuple #[.agg #[.int .i64 next,.slice va R.length vc],.int .i64 since,.int .i64 0]) ∧ R.map (·.v) = L ∧ (∀ r ∈ R,r.z = []) ∧ Fo w.heap.size w' (.slice va R.length vc) R) ∨
  ((∀ L n c,¬ Arc s L n c) ∧ e = .returned (.tuple #[.agg #[.int .i64 0,.slice none 0 0],.int .i64 0,.int .i64 90]))) ∧ Below w.heap.size w w'
theorem fo_vin {base : Nat} {w : World} {a : Option Addr} {n c : Nat} {R : List Rv} (h : Fo base w (.slice a n c) R) : VIn w a (R.map (·.v)):=by
 obtain ⟨a',c',e,s⟩:=h.ls
 injection e with e1 e2 e3
 subst e1 e3
 exact ⟨s.at'.get⟩
theorem fo_oth2 {base : Nat} {w : World} {v : Value} {R : List Rv} (h : Fo base w v R) {g : Nat} (hg : g < base) (x y : Value) : Fo base ((w.setCell ⟨g,0,none⟩ x).setCell ⟨g,1,none⟩ y) v R:=by
 have hk : ∀ k,base ≤ k → ((w.setCell ⟨g,0,none⟩ x).setCell ⟨g,1,none⟩ y).heap[k]? = w.heap[k]?:=fun k hk => by rw [hso _ _ (by omega),hso _ _ (by omega)]
 exact ⟨own_keep h.own (fun b hb => hk b (h.own.lt b hb).1),by simpa using h.le,fun k r hr => (h.met k r hr).stay (by simp) (fun b hb => hk b ((h.met k r hr).own.lt b hb).1),h.par⟩
theorem fo_box {base : Nat} {w : World} {v : Value} {R : List Rv} (h : Fo base w v R) {g : Nat} {n : Int} {q : Value} (hb : Bb2 w g n q) (x y : Value) : Fo base ((w.setCell ⟨g,0,none⟩ x).setCell ⟨g,1,none⟩ y) v R:=by
 have hk : ∀ (k : Nat) (t : TypeId) (cs : Array Value),w.heap[k]? = some (.cells cs t (0,0)) → t ≠ 24 → ((w.setCell ⟨g,0,none⟩ x).setCell ⟨g,1,none⟩ y).heap[k]? = w.heap[k]?:=fun k t cs e ht => by
  have hne : k ≠ g:=fun q => by
   subst q
   unfold Bb2 at hb
   rw [hb] at e
   injection e with e
   injection e with _ e _
   exact ht e.symm
  rw [hso _ _ hne,hso _ _ hne]
 refine ⟨own_keep h.own (fun b hb => ?_),by simpa using h.le,fun k r hr => (h.met k r hr).stay (by simp) (fun b hb => ?_),h.par⟩
 ·obtain ⟨cs,e⟩:=own_type h.own hb
  exact hk b _ cs e (by decide)
 ·obtain ⟨cs,e⟩:=own_type (h.met k r hr).own hb
  exact hk b _ cs e (by decide)
theorem voL_len : ∀ (l : List It) (t : List UInt8) (L : List Vs),voL l t = some L → L.length = l.length
 | [],t,L,h => by injection h with h; subst h; rfl
 | x :: l,t,L,h => by
  unfold voL at h
  split at h
  ·cases hq : voL l (t.drop (x.size.toNat + fil x.size.toNat)) with
   | none => rw [hq] at h; cases h
   | some M =>
    rw [hq] at h
    injection h with h
    subst h
    have:=voL_len l _ M hq
    simp [this]
  ·cases h
theorem voL_mem : ∀ (l : List It) (t : List UInt8) (L : List Vs),voL l t = some L → ∀ v ∈ L,∃ x ∈ l,v.l = x.l
 | [],t,L,h => by injection h with h; subst h; intro v hv; simp at hv
 | x :: l,t,L,h => by
  unfold voL at h
  split at h
  ·cases hq : voL l (t.drop (x.size.toNat + fil x.size.toNat)) with
   | none => rw [hq] at h; cases h
   | some M =>
    rw [hq] at h
    injection h with h
    subst h
    intro v hv
    rcases List.mem_cons.1 hv with rfl | hv
    ·exact ⟨x,by simp,rfl⟩
    ·obtain ⟨y,hy,e⟩:=voL_mem l _ M hq v hv
     exact ⟨y,by simp [hy],e⟩
  ·cases h
theorem m_lens {m : Ma} (h : RtM m) : ∀ x ∈ m.items,x.l.length ≤ 8:=fun x hx => by
 have hi:=h.it x hx
 cases hm : x.mkr with
 | true => rw [(hi.mk1 hm).2]; exact Nat.zero_le _
 | false => exact (mtE_iff (hi.mk0 hm).2.2).1
theorem m_size {m : Ma} (h : RtM m) : ∀ x ∈ m.items,0 ≤ x.size ∧ x.size ≤ 1024:=fun x hx => by
 have hi:=h.it x hx
 cases hm : x.mkr with
 | true => have:=(hi.mk1 hm).1; omega
 | false => exact ⟨(hi.mk0 hm).1,(hi.mk0 hm).2.1⟩
theorem zq2 {w w5 : World} (h : Below (w.alloc (.cells #[.int .i64 0,.slice none 0 0] 24)).drew.heap.size (w.alloc (.cells #[.int .i64 0,.slice none 0 0] 24)).drew w5) : Bb2 w5 w.heap.size 0 (.slice none 0 0):=Bb2.later (w:=(w.alloc (.cells #[.int .i64 0,.slice none 0 0] 24)).drew) (Bb2.new w 0 (.slice none 0 0)) h
set_option maxHeartbeats 8000000 in
theorem unpack_any (s : List UInt8) (w : World) (hs : s.length ≤ 281474976710656) (hT : TB w) (hE : EG w) (hK : KIn w) : Calls Tryz.prog 39 #[str s] w (UnP s w):=by
 have b1:=(Below.refl w.heap.size w).alloc (Nat.le_refl _) (.cells #[.int .i64 0,.slice none 0 0] 24)
 have z1:=Bb2.new w 0 (.slice none 0 0)
 have hsz1 : (w.alloc (.cells #[.int .i64 0,.slice none 0 0] 24)).heap.size = w.heap.size + 1:=by simp
 have hrd:=mRead_any s (w.alloc (.cells #[.int .i64 0,.slice none 0 0] 24)) (by omega) (hT.below b1) (hE.below b1)
 have HB1:=Hid.mk b1
 have HZ1:=Hid.mk z1
 have HT:=Hid.mk hT
 have HK:=Hid.mk hK
 have HS:=Hid.mk hs
 have HSz:=Hid.mk hsz1
 clear b1 z1 hT hE hK hs hsz1
 go_enter Tryz.func39,Tryz.ntmps39
 go_wp2_with fail
 generalize w.alloc (.cells #[.int .i64 0,.slice none 0 0] 24) = W1 at *
 with_reducible refine Calls.mono hrd ?_
 rintro e w2 ⟨h2,b2⟩
 clear hrd
 have HB2:=Hid.mk (below_seq HB1.out b2)
 have HZ2:=Hid.mk (HZ1.out.later b2)
 clear HB1 HZ1
 rcases h2 with ⟨M,RI,a,c,hBeg,hnz,rfl,hRM,hFi⟩ | ⟨hno,rfl⟩
 rotate_left
 ·have HNo : Hid (∀ L n c,¬ Arc s L n c):=⟨fun L n c h => hno _ h.beg⟩
  have bx:=(Below.refl w2.heap.size w2).alloc (Nat.le_refl _) (.cells #[.int .i64 0,.int .i64 0,.slice none 0 0] 28)
  have hz:=HZ2.out.later bx
  obtain ⟨y0,y1⟩:=hz.cells
  have f0:=hz.fz 0
  have f1:=hz.fz 1
  have n3:=hz.set2 0 (.slice none 0 0)
  have B5:=Hid.mk (below2 (r:=w.heap.size) (below_seq HB2.out bx) (Nat.le_refl _) (.int .i64 0) (.slice none 0 0))
  clear hno hz bx b2
  dsimp only
  go_wp2_with fail
  generalize ((w2.alloc (.cells #[.int .i64 0,.int .i64 0,.slice none 0 0] 28)).setCell ⟨w.heap.size,0,none⟩ (.int .i64 0)).setCell ⟨w.heap.size,1,none⟩ (.slice none 0 0) = W9 at *
  obtain ⟨q0,q1⟩:=n3.cells
  refine bodyPost_ret (v := .tuple #[.agg #[.int .i64 0,.slice none 0 0],.int .i64 0,.int .i64 90]) ?_ rfl ⟨.inr ⟨HNo.out,rfl⟩,B5.out⟩
  rw [results_ctt rfl]
  go_simp
 have hn:=hBeg.1.len
 have hRl : RI.length = M.items.length:=by rw [← hRM,List.length_map]
 have hsi : ∀ r ∈ RI,0 ≤ r.1.size ∧ r.1.size ≤ 1024:=fun r hr => m_size hBeg.1 r.1 (by rw [← hRM]; exact List.mem_map_of_mem hr)
 have hml:=m_lens hBeg.1
 have hle : (mtx M).length ≤ s.length:=by
  obtain ⟨_,r,e⟩:=hBeg
  rw [e,List.length_append]; omega
 have bx:=(Below.refl w2.heap.size w2).alloc (Nat.le_refl _) (.cells #[.int .i64 M.since,.int .i64 M.next,.slice a RI.length c] 28)
 have z3:=Hid.mk (Bm3.new w2 M.since M.next (.slice a RI.length c))
 have HF:=Hid.mk (hFi.later bx)
 have HB3:=Hid.mk (below_seq HB2.out bx)
 have HZ3:=Hid.mk (HZ2.out.later bx)
 have HA : Hid (∀ L n c,Arc s L n c → voL M.items (s.drop (mtx M).length) = some L ∧ n = M.next ∧ c = M.since):=⟨fun L n c h => by
  obtain ⟨e1,e2,e3,_⟩:=Arc.tell hBeg h
  exact ⟨e3,e2.symm,e1.symm⟩⟩
 obtain ⟨n,hN⟩ : ∃ n,n = (mtx M).length:=⟨_,rfl⟩
 rw [← hN] at HA hle ⊢
 have hdk:=fun w => run_from s n hle w
 obtain ⟨tx,htx⟩ : ∃ tx,tx = s.drop n:=⟨_,rfl⟩
 rw [← htx] at hdk HA
 have htl : tx.length ≤ 281474976710656:=by rw [htx,List.length_drop]; have:=HS.out; omega
 obtain ⟨res,hres⟩ : ∃ r,Hid (voL M.items tx = r):=⟨_,⟨rfl⟩⟩
 have HBase : Hid (W1.heap.size ≤ w2.heap.size):=⟨b2.size⟩
 obtain ⟨B1,hB1⟩ : ∃ B,B = W1.heap.size:=⟨_,rfl⟩
 rw [← hB1] at HF HBase HSz
 have hres2:=hres.out
 rw [← hRM] at hres2
 rw [hres.out] at HA
 have HRm:=Hid.mk (And.intro hn (And.intro hsi (And.intro htl hRl)))
 have HML : Hid (∀ L,res = some L → L.length ≤ 256 ∧ ∀ v ∈ L,v.l.length ≤ 8):=⟨fun L hL => by
  have e1:=voL_len _ _ _ (hres.out.trans hL)
  refine ⟨by omega,fun v hv => ?_⟩
  obtain ⟨x,hx,e⟩:=voL_mem _ _ _ (hres.out.trans hL) v hv
  rw [e]; exact hml x hx⟩
 clear hml hRl b2 hFi bx hBeg hN htx hres hnz hRM hB1 hn hsi htl hle
 have HG3:=Hid.mk (lt_of_block HZ2.out)
 go_upto_region 4 with fail
 generalize w2.alloc (.cells #[.int .i64 M.since,.int .i64 M.next,.slice a RI.length c] 28) = W3 at *
 generalize hg3 : w2.heap.size = g3 at *
 have hB13 : B1 ≤ W3.heap.size:=by have:=z3.out.lt; have:=HBase.out; omega
 have hcall : Hid (∀ w',Below W3.heap.size W3 w' → Calls Tryz.prog 75 #[.agg #[.int .i64 M.since,.int .i64 M.next,.slice a RI.length c],str tx] w' fun e w'' => ∃ (va : Option Addr) (vn vc : Nat),e = .returned (.tuple #[.agg #[.int .i64 (if res.isSome = true then M.next else 0),.slice va vn vc],.bool res.isSome]) ∧ (∀ L,res = some L → ∃ R : List Rv,vn = R.length ∧ R.map (·.v) = L ∧ (∀ r ∈ R,r.z = []) ∧ Fo B1 w'' (.slice va R.length vc) R) ∧ Below w'.heap.size w' w''):=⟨fun w' hb => by
  refine (valueOf_any M.since M.next RI tx w' B1 a c (HF.out.later hb) (Nat.le_trans hB13 hb.size) (by have:=HRm.out.1; have:=HRm.out.2.2.2; omega) HRm.out.2.1 HRm.out.2.2.1).mono ?_
  rw [hres2]
  rintro e w'' ⟨h,hbb⟩
  cases res with
  | none => exact ⟨none,0,0,h,(fun L hL => by cases hL),hbb⟩
  | some L =>
   obtain ⟨va,vc,R,rfl,h3,h4,h5⟩:=h
   exact ⟨va,R.length,vc,rfl,(fun L' hL => by injection hL with hL; subst hL; exact ⟨R,rfl,h3,h4,h5⟩),hbb⟩⟩
 have HS9 : Hid (∀ w',Below W3.heap.size W3 w' → Below W3.heap.size W3 w' ∧ w'.cell? ⟨g3,0,none⟩ = some (.int .i64 M.since) ∧ w'.cell? ⟨g3,1,none⟩ = some (.int .i64 M.next) ∧ w'.cell? ⟨g3,2,none⟩ = some (.slice a RI.length c)):=⟨fun w' h => ⟨h,(z3.out.later h).cells⟩⟩
 obtain ⟨fd,hfd⟩ : ∃ fd,Hid (res.isSome = fd):=⟨_,⟨rfl⟩⟩
 obtain ⟨bn,hbn⟩ : ∃ bn,Hid ((if res.isSome = true then M.next else 0) = bn):=⟨_,⟨rfl⟩⟩
 rw [hbn.out,hfd.out] at hcall
 go_cut [8,9] from 20 (fun vb vf wx => ∃ (gx : Nat) (va : Option Addr) (vn vc : Nat),vb = .pointer (some ⟨gx,0,none⟩) ∧ vf = .bool fd ∧ Hid (Below W3.heap.size W3 wx ∧ Bb2 wx gx bn (.slice va vn vc) ∧ (∀ L,res = some L → ∃ R : List Rv,vn = R.length ∧ R.map (·.v) = L ∧ (∀ r ∈ R,r.z = []) ∧ Fo B1 wx (.slice va R.length vc) R)))
 case first =>
  go_region_held3 (fun w' => Below W3.heap.size W3 w' ∧ w'.cell? ⟨g3,0,none⟩ = some (.int .i64 M.since) ∧ w'.cell? ⟨g3,1,none⟩ = some (.int .i64 M.next) ∧ w'.cell? ⟨g3,2,none⟩ = some (.slice a RI.length c)) ((refine HS9.out _ ?_; first
   | with_reducible exact (Below.refl _ _).drew
   | with_reducible exact bC
   | with_reducible exact bal2 bC _
   | with_reducible exact (bal2 (Below.refl _ _) _).drew
   | with_reducible exact below2 bC hgx _ _)) (first
   | (go_at_call 75; with_reducible refine Calls.mono (hcall.out _ (And.left (by assumption))) ?_; rintro e w10 ⟨va,vn,vc,rfl,hy,x2⟩; first
    | (with_reducible have bC:=below_seq (Below.refl W3.heap.size W3).drew x2; clear x2)
    | (with_reducible have bC:=below_seq (bal2 (Below.refl W3.heap.size W3) _).drew x2; with_reducible have hz6:=zq2 x2; have z0:=hz6.cells.1; have z1:=hz6.cells.2; have f0:=hz6.fz 0; have f1:=hz6.fz 1; have hgx:=Nat.le_refl W3.heap.size; clear x2)))
  all_goals (go_wp2_with fail)
  all_goals go_meet
  all_goals (first
   | exact ⟨_,_,_,_,rfl,rfl,⟨bal2 bC _,Bb2.new _ _ _,fun L hL => by obtain ⟨R,h1,h2,h3,h4⟩:=hy L hL; exact ⟨R,h1,h2,h3,h4.later (bal2 (Below.refl _ _) _)⟩⟩⟩
   | exact ⟨_,_,_,_,rfl,rfl,⟨below2 bC hgx _ _,hz6.set2 _ _,fun L hL => by obtain ⟨R,h1,h2,h3,h4⟩:=hy L hL; exact ⟨R,h1,h2,h3,fo_box h4 hz6 _ _⟩⟩⟩)
 case rest =>
 obtain ⟨gx,va,vn,vc,rfl,rfl,HC⟩:=hcut
 have HZ4:=Hid.mk (HZ3.out.later HC.out.1)
 have HM4:=Hid.mk (z3.out.later HC.out.1)
 have HB4:=Hid.mk (below_seq HB3.out HC.out.1)
 clear hcall HS9 HZ3 z3 HB3 hdk hB13
 cases res with
 | none =>
  have HNo : Hid (∀ L n c,¬ Arc s L n c):=⟨fun L n c h => by have:=(HA.out L n c h).1; cases this⟩
  obtain rfl : fd = false:=hfd.out.symm
  obtain ⟨y0,y1⟩:=HZ4.out.cells
  have f0:=HZ4.out.fz 0
  have f1:=HZ4.out.fz 1
  have n3:=HZ4.out.set2 0 (.slice none 0 0)
  have B5:=Hid.mk (below2 (r:=w.heap.size) HB4.out (Nat.le_refl _) (.int .i64 0) (.slice none 0 0))
  go_wp2_with fail
  generalize (wc.setCell ⟨w.heap.size,0,none⟩ (.int .i64 0)).setCell ⟨w.heap.size,1,none⟩ (.slice none 0 0) = W9 at *
  obtain ⟨q0,q1⟩:=n3.cells
  refine bodyPost_ret (v := .tuple #[.agg #[.int .i64 0,.slice none 0 0],.int .i64 0,.int .i64 90]) ?_ rfl ⟨.inr ⟨HNo.out,rfl⟩,B5.out⟩
  rw [results_ctt rfl]
  go_simp
 | some L =>
  obtain rfl : fd = true:=hfd.out.symm
  obtain rfl : bn = M.next:=hbn.out.symm
  obtain ⟨R,rfl,hRL,hz,hFo⟩:=HC.out.2.2 L rfl
  have hLl : R.length = L.length:=by rw [← hRL,List.length_map]
  have hv:=fo_vin hFo
  rw [hRL] at hv
  have hp:=pack_any L M.next M.since wc va vc hv (by have:=(HML.out L rfl).1; omega) (fun v hv => by have:=(HML.out L rfl).2 v hv; omega) (HT.out.below HB4.out) (HK.out.seq HB4.out)
  rw [← hLl] at hp
  have HFo:=Hid.mk hFo
  have HRL:=Hid.mk (And.intro hRL hz)
  have HBx:=Hid.mk HC.out.2.1
  obtain ⟨x0,x1⟩:=HBx.out.cells
  obtain ⟨m0,m1,m2⟩:=HM4.out.cells
  clear hFo hRL hz hLl hv HC hfd hbn hres2
  go_wp2_with fail
  with_reducible refine Calls.mono hp ?_
  rintro e w5 ⟨rfl,b5⟩
  have HZ5:=Hid.mk (HZ4.out.later b5)
  have HB5:=Hid.mk (below_seq HB4.out b5)
  have HF5:=Hid.mk (HFo.out.later b5)
  have HM5:=Hid.mk (HM4.out.later b5)
  obtain ⟨x0,x1⟩:=(HBx.out.later b5).cells
  obtain ⟨m0,m1,m2⟩:=(HM4.out.later b5).cells
  clear hp b5
  by_cases hA : Arc s L M.next M.since
  ·obtain ⟨e1,e2⟩:=pk_yes hA.1
   rw [e1,e2,← hA.2]
   have HAr:=Hid.mk hA
   clear e1 e2 hA
   dsimp only
   obtain ⟨y0,y1⟩:=HZ5.out.cells
   have f0:=HZ5.out.fz 0
   have f1:=HZ5.out.fz 1
   have n3:=HZ5.out.set2 M.next (.slice va R.length vc)
   have B6:=Hid.mk (below2 (r:=w.heap.size) HB5.out (Nat.le_refl _) (.int .i64 M.next) (.slice va R.length vc))
   have hM6 : Bm3 (w5.setCell ⟨w.heap.size,0,none⟩ (.int .i64 M.next)) g3 M.since M.next (.slice a RI.length c):=HM5.out.oth (hso _ _ (by have:=HG3.out; omega))
   have hM7 : Bm3 ((w5.setCell ⟨w.heap.size,0,none⟩ (.int .i64 M.next)).setCell ⟨w.heap.size,1,none⟩ (.slice va R.length vc)) g3 M.since M.next (.slice a RI.length c):=hM6.oth (hso _ _ (by have:=HG3.out; omega))
   have mm6:=hM6.cells.1
   have mm7:=hM7.cells.1
   clear hM6 hM7
   have HF6:=Hid.mk (fo_oth2 HF5.out (g:=w.heap.size) (by have:=HSz.out; omega) (.int .i64 M.next) (.slice va R.length vc))
   go_wp2_with fail
   go_region
   all_goals (go_wp2_with fail)
   generalize (w5.setCell ⟨w.heap.size,0,none⟩ (.int .i64 M.next)).setCell ⟨w.heap.size,1,none⟩ (.slice va R.length vc) = W9 at *
   obtain ⟨q0,q1⟩:=n3.cells
   refine bodyPost_ret (v := .tuple #[.agg #[.int .i64 M.next,.slice va R.length vc],.int .i64 M.since,.int .i64 0]) ?_ rfl ⟨.inl ⟨L,M.next,M.since,R,va,vc,HAr.out,rfl,HRL.out.1,HRL.out.2,(HF6.out.later (Below.refl _ _).drew).base (by have:=HSz.out; omega)⟩,B6.out.drew⟩
   rw [results_ctt rfl]
   go_simp
  ·have HNo : Hid (∀ L n c,¬ Arc s L n c):=⟨fun L' n c h => by
    obtain ⟨e1,e2,e3⟩:=HA.out L' n c h
    injection e1 with e1
    subst e1 e2 e3
    exact hA h⟩
   by_cases hO : OfR L M.next M.since
   ·obtain ⟨e1,e2⟩:=pk_yes hO
    have hne : ¬ arc L M.next M.since = s:=fun q => hA ⟨hO,q.symm⟩
    have d1 : (arc L M.next M.since == s) = false:=beq_eq_false_iff_ne.2 hne
    have d2 : (arc L M.next M.since != s) = true:=by rw [bne,d1]; rfl
    rw [e1,e2]
    clear e1 e2 hne hO hA
    generalize arc L M.next M.since = ar at *
    dsimp only
    obtain ⟨y0,y1⟩:=HZ5.out.cells
    have f0:=HZ5.out.fz 0
    have f1:=HZ5.out.fz 1
    have n3:=HZ5.out.set2 0 (.slice none 0 0)
    have B5:=Hid.mk (below2 (r:=w.heap.size) HB5.out (Nat.le_refl _) (.int .i64 0) (.slice none 0 0))
    go_wp2_with fail
    generalize (w5.setCell ⟨w.heap.size,0,none⟩ (.int .i64 0)).setCell ⟨w.heap.size,1,none⟩ (.slice none 0 0) = W9 at *
    obtain ⟨q0,q1⟩:=n3.cells
    refine bodyPost_ret (v := .tuple #[.agg #[.int .i64 0,.slice none 0 0],.int .i64 0,.int .i64 90]) ?_ rfl ⟨.inr ⟨HNo.out,rfl⟩,B5.out⟩
    rw [results_ctt rfl]
    go_simp
   ·obtain ⟨e1,e2⟩:=pk_no hO
    rw [e1,e2]
    clear e1 e2 hO hA
    dsimp only
    obtain ⟨y0,y1⟩:=HZ5.out.cells
    have f0:=HZ5.out.fz 0
    have f1:=HZ5.out.fz 1
    have n3:=HZ5.out.set2 0 (.slice none 0 0)
    have B5:=Hid.mk (below2 (r:=w.heap.size) HB5.out (Nat.le_refl _) (.int .i64 0) (.slice none 0 0))
    go_wp2_with fail
    generalize (w5.setCell ⟨w.heap.size,0,none⟩ (.int .i64 0)).setCell ⟨w.heap.size,1,none⟩ (.slice none 0 0) = W9 at *
    obtain ⟨q0,q1⟩:=n3.cells
    refine bodyPost_ret (v := .tuple #[.agg #[.int .i64 0,.slice none 0 0],.int .i64 0,.int .i64 90]) ?_ rfl ⟨.inr ⟨HNo.out,rfl⟩,B5.out⟩
    rw [results_ctt rfl]
    go_simp
end
section
open Go.RowKit
def Bv (w : World) (g : Nat) (x y z u v : Value) : Prop:=w.heap[g]? = some (.cells #[x,y,z,u,v] 62 (0,0))
theorem Bv.lt {w : World} {g : Nat} {x y z u v : Value} (h : Bv w g x y z u v) : g < w.heap.size:=(Array.getElem?_eq_some_iff.1 h).1
theorem Bv.cells {w : World} {g : Nat} {x y z u v : Value} (h : Bv w g x y z u v) : w.cell? ⟨g,0,none⟩ = some x ∧ w.cell? ⟨g,1,none⟩ = some y ∧ w.cell? ⟨g,2,none⟩ = some z ∧ w.cell? ⟨g,3,none⟩ = some u ∧ w.cell? ⟨g,4,none⟩ = some v ∧ ∀ j,w.frozen? ⟨g,j,none⟩ = false:=by
 refine ⟨?_,?_,?_,?_,?_,fun j => frozen_of_row _ _ _ _ _ h⟩
 all_goals rw [cell_of_row _ _ _ _ _ _ h]; rfl
theorem Bv.later {w w' : World} {g : Nat} {x y z u v : Value} (h : Bv w g x y z u v) (hb : Below w.heap.size w w') : Bv w' g x y z u v:=by
 unfold Bv
 rw [hb.block g h.lt]; exact h
attribute [local go_sem ↓] Go.wp_at_zero Go.wp_at_succ
noncomputable def sv (v u : Vs) : Bool:=by classical exact decide (v = u)
theorem sv_true {v u : Vs} (h : v = u) : sv v u = true:=by unfold sv; simp [h]
theorem sv_false {v u : Vs} (h : ¬ v = u) : sv v u = false:=by unfold sv; simp [h]
end
section
open Go.RowKit
attribute [local go_sem ↓] Go.wp_at_zero Go.wp_at_succ
end
section
open Go.RowKit
open Go.Proofs.YtdfjlmfnkhhnjaaGreatDoorP (TB)
open Go.Proofs.YtdfjlmfnkhhnjaaGreatDoorH (KIn)
open Stk (Rv rcs rcells Fo)
attribute [local go_sem ↓] Go.wp_at_zero Go.wp_at_succ
end
section
open Go.RowKit
open Go.Proofs.YtdfjlmfnkhhnjaaGreatDoorP (TB recd nn LEN)
open Go.Proofs.YtdfjlmfnkhhnjaaGreatDoorH (KIn)
attribute [local go_sem ↓] Go.wp_at_zero Go.wp_at_succ
end
section
open Go.RowKit
theorem svs_one (ps : List (List UInt8)) : ∀ u ∈ svs ps,u.oneCell' = true:=by
 intro u hu
 unfold svs at hu
 obtain ⟨q,_,rfl⟩:=List.mem_map.1 hu
 rfl
structure Kp9 (w w' : World) : Prop where
 keep : ∀ (g : Nat) (cs : Array Value) (t : TypeId),w.heap[g]? = some (.cells cs t (0,0)) → t ≠ 9 → w'.heap[g]? = some (.cells cs t (0,0))
theorem kp9_own {base n : Nat} {w w' : World} {v : Value} {xs : List Value} (o : w.ownsRow base 9 1 v n xs) (hk : ∀ x,x < w.heap.size → v.ownBlock ≠ some x → w'.heap[x]? = w.heap[x]?) : Kp9 w w':=⟨fun g cs t hg ht => by
 rw [hk g (Array.getElem?_eq_some_iff.1 hg).1 (fun q => by
  obtain ⟨c1,e1⟩:=own_type o q
  rw [hg] at e1
  injection e1 with e1
  injection e1 with _ e2
  exact ht e2)]
 exact hg⟩
theorem run_s {base : Nat} {w1 : World} {v : Value} {l : List (List UInt8)} (ps : List (List UInt8)) (hp : 1 ≤ ps.length) (hp2 : ps.length ≤ 16) (hO : So base w1 v l) (hn : l.length ≤ 1000000000) :
  ∃ v' w',(∀ ty,(Builtin.append_ #[127,127] ty #[v,.slice (some ⟨w1.heap.size,0,none⟩) ps.length ps.length]).run Tryz.prog (w1.alloc (.cells (svs ps).toArray 9)) = .ok v' w') ∧ So base w' v' (l ++ ps) ∧ Below base w1 w' ∧ Kp9 w1 w':=by
 obtain ⟨i0,hi,hz0,hz1,hz2⟩:=info9
 have hmx : maxLen = 9223372036854775807:=rfl
 have o1 : (w1.alloc (.cells (svs ps).toArray 9)).ownsRow base 9 1 v l.length (svs l):=hO.own.alloc _
 have hle:=hO.le
 have hlen : (svs ps).length = ps.length:=by simp [svs]
 obtain ⟨g2,cap2,w',hr,hown,hgrow,hat,hlt⟩:=run_append_lies (P:=Tryz.prog) (w:=w1.alloc (.cells (svs ps).toArray 9)) 127 127 base 9 i0 _ 1 16 Tryz.underlying127 hi hz0 hz1 hz2 rfl (by omega) v l.length (svs l) o1 ⟨w1.heap.size,0,none⟩ ps.length ps.length (svs ps) (by rw [hlen,Nat.mul_one])
  (World.news_of_block (cs:=(svs ps).toArray) (t:=9) (fr:=(0,0)) (heap_alloc_new w1 _)) (svs_one ps) (by omega) (by rw [hmx]; omega) (by omega) (by simp; omega) _ rfl
 have hsz : w1.heap.size ≤ w'.heap.size:=by have:=hgrow.size; simp at this; omega
 refine ⟨_,w',fun ty => hr,⟨?_,by omega⟩,((Below.refl _ _).alloc hle _).trans (grown_below o1 (by simp; omega) hgrow),kp9_own hO.own (fun x hx hne => by rw [hgrow.block x (by simp; omega) (Ne.symm hne)]; first | exact heap_alloc_old _ _ hx | exact hao4 _ _ _ hx)⟩
 unfold svs
 rw [List.map_append,List.length_append]
 exact hown
theorem app_s2 {ops : Array Oper} {rest : List Oper} {o : Oper} {a : Act} {Q : Exit → Act → World → Prop} {W : World} (hgd : o.guard = none) (s x : Operand) (ho : o.op = .call { callee := .builtin .append,args:=#[s,x],argTypes:=#[127,127] })
  {base : Nat} {w : World} {v : Value} {l : List (List UInt8)} {g : Nat} (ps : List (List UInt8)) (hp1 : 1 ≤ ps.length) (hp : ps.length ≤ 16) (hW : W = w.alloc (.cells (svs ps).toArray 9)) (hO : So base w v l) (hg : g = w.heap.size) (hn : l.length ≤ 1000000000)
  (hs : a.eval s = v) (hx : a.eval x = .slice (some ⟨g,0,none⟩) ps.length ps.length)
  (h : ∀ v' w',So base w' v' (l ++ ps) → Below base w w' → Kp9 w w' → wpList Tryz.prog ops Q rest (a.put o.dst v') w') :
  wpList Tryz.prog ops Q (o :: rest) a W:=by
 subst hW hg
 refine wpList_plain hgd fun K hK => ?_
 obtain ⟨v',w',hr,h2,h3,h4⟩:=run_s ps hp1 hp hO hn
 unfold Oper.wp execOp
 simp only [ho,resolve,invoke,builtin,Sem.run_bind,Sem.run_pure,Result.andThen_ok,List.map_toArray,List.map_cons,List.map_nil,hs,hx,hr]
 exact hK _ _ (h v' w' h2 h3 h4)
theorem info5zf : (Tryz.prog.info? 5).map (fun i => (i.zero,i.size,i.bytes)) = some (some (.int .u8 0),1,1):=by kernel_rfl
theorem info5z : ∃ i,Tryz.prog.info? 5 = some i ∧ i.zero = some (.int .u8 0) ∧ i.size = 1 ∧ i.bytes = 1:=by
 have h:=info5zf
 cases hi : Tryz.prog.info? 5 with
 | none => rw [hi] at h; cases h
 | some i =>
  rw [hi] at h
  injection h with h
  injection h with h1 h
  injection h with h2 h3
  exact ⟨i,rfl,h1,h2,h3⟩
def zO (F : Nat) : Obj := .cells (madeCells #[.int .u8 0] F) 5
theorem mk_zero (F : Nat) (hF : F ≤ 1000) (w : World) : (Instr.makeSlice 47 (.int .i64 (F : Int)) (.int .i64 (F : Int))).run Tryz.prog w = .ok (.slice (some ⟨w.heap.size,0,none⟩) F F) (w.alloc (zO F)):=by
 obtain ⟨i,hi,hz,h1,h2⟩:=info5z
 have h:=run_make (P:=Tryz.prog) (w:=w) 47 5 i (.int .u8 0) Tryz.underlying47 hi hz .i64 .i64 (F : Int) (F : Int) (by omega) (by omega) (by rw [h2]; omega) (by omega)
 rw [h1,Nat.mul_one,Int.toNat_natCast] at h
 exact h
theorem conv_zero (F : Nat) (w : World) : (convert 47 9 (.slice (some ⟨w.heap.size,0,none⟩) F F)).run Tryz.prog (w.alloc (zO F)) = .ok (str (List.replicate F 0)) (w.alloc (zO F)):=by
 have h:=run_convert_bytes_back (P:=Tryz.prog) (w.alloc (zO F)) 47 9 5 ⟨w.heap.size,0,none⟩ F (List.replicate F (0 : UInt8)) Tryz.underlying47 Tryz.underlying5 Tryz.underlying9 (fun j hj => by
  have hg : (w.alloc (zO F)).heap[w.heap.size]? = some (.cells (madeCells #[.int .u8 0] F) 5 (0,0)):=heap_alloc_new w _
  have hj2 : j < F:=by simpa using hj
  have hadd : (⟨w.heap.size,0,none⟩ : Addr).add j = ⟨w.heap.size,j,none⟩:=by unfold Addr.add; split <;> simp_all
  rw [hadd,cell_of_row _ _ _ _ _ _ hg,← Array.getElem?_toList,toList_madeCells_one,List.getElem?_replicate,if_pos hj2,List.getElem_replicate]
  rfl)
 rw [List.length_replicate] at h
 exact h
end
end Go.Proofs.YtdfjlmfnkhhnjaaGreatDoor
