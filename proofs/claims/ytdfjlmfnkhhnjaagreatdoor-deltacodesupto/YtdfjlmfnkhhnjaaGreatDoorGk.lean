import Derived.Test.YtdfjlmfnkhhnjaaGreatDoorMx
import Derived.Test.YtdfjlmfnkhhnjaaGreatDoorGg
import Derived.Test.YtdfjlmfnkhhnjaaGreatDoorGh
import Derived.Deep.RegionHeld3
import Derived.RegionCalls
import Derived.Laws.Cover3
import Derived.Deep.MidRow
import Derived.Deep.RegionWith
set_option maxRecDepth 100000
set_option linter.unusedVariables false
set_option linter.unusedSimpArgs false
namespace Go.Proofs.YtdfjlmfnkhhnjaaGreatDoor
section
open Go.RowKit
open Go.Proofs.YtdfjlmfnkhhnjaaGreatDoorH (hv hv_length hv_one hv_eq)
attribute [local go_sem ↓] Go.wp_at_zero Go.wp_at_succ
noncomputable def ic (x : It) (a : Option Addr) (c : Nat) : List Value := [str x.key,.int .i64 x.seq,.bool x.mkr,.int .i64 x.size,.slice a x.l.length c] ++ hv x.g
theorem ic_length (x : It) (a : Option Addr) (c : Nat) : (ic x a c).length = 37:=by simp [ic,hv_length]
theorem ic_one (x : It) (a : Option Addr) (c : Nat) : ∀ v ∈ ic x a c,v.oneCell' = true:=by
 intro v h
 unfold ic at h
 rcases List.mem_append.1 h with q | q
 ·simp only [List.mem_cons,List.not_mem_nil,or_false] at q
  rcases q with rfl | rfl | rfl | rfl | rfl <;> rfl
 ·exact hv_one _ v q
theorem ic_get (x : It) (a : Option Addr) (c : Nat) : (ic x a c)[0]? = some (str x.key) ∧ (ic x a c)[1]? = some (.int .i64 x.seq) ∧ (ic x a c)[2]? = some (.bool x.mkr) ∧ (ic x a c)[3]? = some (.int .i64 x.size) ∧ (ic x a c)[4]? = some (.slice a x.l.length c):=⟨rfl,rfl,rfl,rfl,rfl⟩
def Bi (w : World) (g : Nat) (x : It) (a : Option Addr) (c : Nat) : Prop:=w.heap[g]? = some (.cells (ic x a c).toArray 46 (0,0))
theorem Bi.new (w : World) (x : It) (a : Option Addr) (c : Nat) : Bi (w.alloc (.cells (ic x a c).toArray 46)) w.heap.size x a c:=heap_alloc_new _ _
theorem Bi.lt {w : World} {g : Nat} {x : It} {a : Option Addr} {c : Nat} (h : Bi w g x a c) : g < w.heap.size:=(Array.getElem?_eq_some_iff.1 h).1
theorem Bi.later {w w' : World} {g : Nat} {x : It} {a : Option Addr} {c : Nat} (h : Bi w g x a c) (hb : Below w.heap.size w w') : Bi w' g x a c:=by
 have:=hb.block g h.lt
 unfold Bi at h ⊢
 rw [this]; exact h
theorem Bi.cells {w : World} {g : Nat} {x : It} {a : Option Addr} {c : Nat} (h : Bi w g x a c) : w.cell? ⟨g,0,none⟩ = some (str x.key) ∧ w.cell? ⟨g,1,none⟩ = some (.int .i64 x.seq) ∧ w.cell? ⟨g,2,none⟩ = some (.bool x.mkr) ∧ w.cell? ⟨g,3,none⟩ = some (.int .i64 x.size) ∧ w.cell? ⟨g,4,none⟩ = some (.slice a x.l.length c):=by
 obtain ⟨h0,h1,h2,h3,h4⟩:=ic_get x a c
 refine ⟨?_,?_,?_,?_,?_⟩
 ·rw [cell_of_row _ _ _ _ _ _ h,List.getElem?_toArray]; exact h0
 ·rw [cell_of_row _ _ _ _ _ _ h,List.getElem?_toArray]; exact h1
 ·rw [cell_of_row _ _ _ _ _ _ h,List.getElem?_toArray]; exact h2
 ·rw [cell_of_row _ _ _ _ _ _ h,List.getElem?_toArray]; exact h3
 ·rw [cell_of_row _ _ _ _ _ _ h,List.getElem?_toArray]; exact h4
structure RtJ (x : It) : Prop where
 key : keyE x.key = 0
 mk1 : x.mkr = true → x.size = 0 ∧ x.l = []
 mk0 : x.mkr = false → 0 ≤ x.size ∧ x.size ≤ 1024 ∧ mtE x.l = 0
theorem ff {P : Prop} (h : ¬ P) : (false = true ↔ P):=⟨fun q => (by cases q),fun q => absurd q h⟩
set_option maxHeartbeats 4000000 in
theorem isRightItem_any (x : It) (w : World) (a : Option Addr) (c : Nat) (hS : Sl w a c x.l) (hz : x.l.length ≤ 4398046510976) :
  Calls Tryz.prog 47 #[.agg (ic x a c).toArray] w fun e w' => ∃ t,e = .returned (.bool t) ∧ (t = true ↔ RtJ x) ∧ Below w.heap.size w w':=by
 have b0:=(Below.refl w.heap.size w).alloc (Nat.le_refl _) (.cells (ic x a c).toArray 46)
 have hB:=Hid.mk (Bi.new w x a c)
 have HS:=Hid.mk (hS.later b0)
 obtain ⟨p0,p1,p2,p3,p4⟩:=hB.out.cells
 clear hS
 go_enter Tryz.func47,Tryz.ntmps47
 go_wp2_with fail
 with_reducible refine Calls.mono (key_any x.key _) ?_
 rintro e w1 ⟨rfl,rfl⟩
 dsimp only
 have HB0:=Hid.mk b0
 have Hz:=Hid.mk hz
 clear b0 hz p0 p1
 rcases keyE_or x.key with hk | hk
 ·rw [hk]
  have HKy:=Hid.mk hk
  clear hk
  cases hm : x.mkr with
  | true =>
   rw [hm] at p2
   by_cases hs : x.size = 0
   ·rw [hs] at p3
    by_cases hl : x.l.length = 0
    ·rw [hl] at p4
     have HR : Hid (RtJ x):=⟨⟨HKy.out,fun _ => ⟨hs,List.eq_nil_of_length_eq_zero hl⟩,fun q => (by rw [hm] at q; cases q)⟩⟩
     clear hm hs hl
     go_wp2_with fail
     go_ret
     exact ⟨_,rfl,⟨fun _ => HR.out,fun _ => rfl⟩,HB0.out⟩
    ·have d1 : ((x.l.length : Int) == 0) = false:=by rw [beq_eq_false_iff_ne]; omega
     have d1' : (x.l.length == 0) = false:=by rw [beq_eq_false_iff_ne]; omega
     have HR : Hid (¬ RtJ x):=⟨fun q => hl (by rw [(q.mk1 hm).2]; rfl)⟩
     clear hm hs hl
     go_wp2_with fail
     go_ret
     exact ⟨_,rfl,(ff HR.out),HB0.out⟩
   ·have d1 : (x.size == 0) = false:=by rw [beq_eq_false_iff_ne]; exact hs
    have HR : Hid (¬ RtJ x):=⟨fun q => hs (q.mk1 hm).1⟩
    clear hm hs
    go_wp2_with fail
    go_ret
    exact ⟨_,rfl,(ff HR.out),HB0.out⟩
  | false =>
   rw [hm] at p2
   by_cases h1 : 0 ≤ x.size
   ·have d1 : decide (0 ≤ x.size) = true:=decide_eq_true h1
    by_cases h2 : x.size ≤ 1024
    ·have d2 : decide (x.size ≤ 1024) = true:=decide_eq_true h2
     have H1:=Hid.mk h1
     have H2:=Hid.mk h2
     have Hm:=Hid.mk hm
     clear hm h1 h2
     go_wp2_with fail
     with_reducible refine Calls.mono (meta_any x.l _ a _ c rfl HS.out.at' (by have:=Hz.out; omega)) ?_
     rintro e w2 ⟨rfl,b2⟩
     dsimp only
     have HB2:=Hid.mk (below_seq HB0.out b2)
     clear b2 d1 d2 p2 p3 p4
     rcases mtE_or x.l with hq | hq
     ·rw [hq]
      have HR : Hid (RtJ x):=⟨⟨HKy.out,fun q => (by rw [Hm.out] at q; cases q),fun _ => ⟨H1.out,H2.out,hq⟩⟩⟩
      clear hq
      go_wp2_with fail
      go_ret
      exact ⟨_,rfl,⟨fun _ => HR.out,fun _ => rfl⟩,HB2.out⟩
     ·rw [hq]
      have HR : Hid (¬ RtJ x):=⟨fun q => by have:=(q.mk0 Hm.out).2.2; omega⟩
      clear hq
      go_wp2_with fail
      go_ret
      exact ⟨_,rfl,(ff HR.out),HB2.out⟩
    ·have d2 : decide (x.size ≤ 1024) = false:=decide_eq_false h2
     have HR : Hid (¬ RtJ x):=⟨fun q => h2 (q.mk0 hm).2.1⟩
     clear hm h1 h2
     go_wp2_with fail
     go_ret
     exact ⟨_,rfl,(ff HR.out),HB0.out⟩
   ·have d1 : decide (0 ≤ x.size) = false:=decide_eq_false h1
    have HR : Hid (¬ RtJ x):=⟨fun q => h1 (q.mk0 hm).1⟩
    clear hm h1
    go_wp2_with fail
    go_ret
    exact ⟨_,rfl,(ff HR.out),HB0.out⟩
 ·rw [hk]
  have HR : Hid (¬ RtJ x):=⟨fun q => by have:=q.key; omega⟩
  clear hk
  go_wp2_with fail
  go_ret
  exact ⟨_,rfl,(ff HR.out),HB0.out⟩
end
section
open Go.RowKit
attribute [local go_sem ↓] Go.wp_at_zero Go.wp_at_succ
theorem bL_lt {a b : List UInt8} (h : lt a b) : Go.Op.bytesLess a b = true:=by rw [bytesLess_eq]; exact decide_eq_true h
theorem bL_not {a b : List UInt8} (h : ¬ lt a b) : Go.Op.bytesLess a b = false:=by rw [bytesLess_eq]; exact decide_eq_false h
theorem cmpS_any (a b : List UInt8) (w : World) : Calls Tryz.prog 91 #[str a,str b] w fun e w' => e = .returned (.int .i64 (bcmp a b)) ∧ w' = w:=by
 rcases tri a b with h | h | h
 ·have h1:=bL_lt h
  have e : bcmp a b = -1:=h
  rw [e]
  clear h e
  go_enter Tryz.func91,Tryz.ntmps91
  go_wp2
  go_ret
  exact ⟨rfl,rfl⟩
 ·subst h
  have h1:=bL_not (lt_irrefl (a:=a))
  rw [bcmp_self]
  go_enter Tryz.func91,Tryz.ntmps91
  go_wp2
  go_ret
  exact ⟨rfl,rfl⟩
 ·have h1:=bL_lt h
  have h2:=bL_not (lt_asymm h)
  have h3 : (a == b) = false:=by rw [beq_eq_false_iff_ne]; rintro rfl; exact lt_irrefl h
  have e : bcmp a b = 1:=by rw [bcmp_neg b a,h]; rfl
  rw [e]
  clear h e
  go_enter Tryz.func91,Tryz.ntmps91
  go_wp2
  go_ret
  exact ⟨rfl,rfl⟩
def icmp (x y : Int) : Int:=if x < y then -1 else if y < x then 1 else 0
theorem cmpI_any (x y : Int) (w : World) : Calls Tryz.prog 92 #[.int .i64 x,.int .i64 y] w fun e w' => e = .returned (.int .i64 (icmp x y)) ∧ w' = w:=by
 unfold icmp
 by_cases h : x < y
 ·rw [if_pos h]
  have d1 : decide (x < y) = true:=decide_eq_true h
  clear h
  go_enter Tryz.func92,Tryz.ntmps92
  go_wp2
  go_ret
  exact ⟨rfl,rfl⟩
 ·rw [if_neg h]
  have d1 : decide (x < y) = false:=decide_eq_false h
  by_cases h2 : y < x
  ·rw [if_pos h2]
   have d2 : decide (y < x) = true:=decide_eq_true h2
   clear h h2
   go_enter Tryz.func92,Tryz.ntmps92
   go_wp2
   go_ret
   exact ⟨rfl,rfl⟩
  ·rw [if_neg h2]
   have d2 : decide (y < x) = false:=decide_eq_false h2
   clear h h2
   go_enter Tryz.func92,Tryz.ntmps92
   go_wp2
   go_ret
   exact ⟨rfl,rfl⟩
def orI (x y : Int) : Int:=if x = 0 then y else x
theorem cmpOr_any (x y : Int) (w : World) (g : Nat) (h0 : w.cell? ⟨g,0,none⟩ = some (.int .i64 x)) (h1 : w.cell? ⟨g,1,none⟩ = some (.int .i64 y)) :
  Calls Tryz.prog 90 #[.slice (some ⟨g,0,none⟩) 2 2] w fun e w' => e = .returned (.int .i64 (orI x y)) ∧ w' = w:=by
 go_enter Tryz.func90,Tryz.ntmps90
 go_wp2_with fail
 go_loopw [8] (fun i wr => (i = .int .i64 0 ∨ (i = .int .i64 1 ∧ x = 0) ∨ (i = .int .i64 2 ∧ x = 0 ∧ y = 0)) ∧ wr = w) (fun i _ => 2 - (intOf i).toNat)
 case atStart => exact ⟨Or.inl rfl,rfl⟩
 case round =>
  obtain ⟨h,rfl⟩:=hrel
  rcases h with rfl | ⟨rfl,hx⟩ | ⟨rfl,hx,hy⟩
  ·by_cases hx : x = 0
   ·subst hx
    go_wp2_with fail
    exact ⟨⟨Or.inr (Or.inl ⟨rfl,trivial⟩),trivial⟩,by simp [intOf]⟩
   ·have d1 : (x == 0) = false:=beq_eq_false_iff_ne.2 hx
    have HO : Hid (orI x y = x):=⟨by unfold orI; rw [if_neg hx]⟩
    clear hx
    go_wp2_with fail
    go_ret
    exact ⟨by rw [HO.out]; rfl,rfl⟩
  ·subst hx
   by_cases hy : y = 0
   ·subst hy
    go_wp2_with fail
    exact ⟨⟨Or.inr (Or.inr ⟨rfl,trivial,trivial⟩),trivial⟩,by simp [intOf]⟩
   ·have d1 : (y == 0) = false:=beq_eq_false_iff_ne.2 hy
    clear hy
    go_wp2_with fail
    go_ret
    exact ⟨rfl,rfl⟩
  ·subst hx hy
   go_wp2_with fail
   go_ret
   exact ⟨rfl,rfl⟩
def cpI (a b : It) : Int:=orI (bcmp a.key b.key) (icmp a.seq b.seq)
theorem cpI_neg {a b : It} : cpI a b < 0 ↔ bef a b:=by
 unfold cpI orI icmp bef
 rcases bcmp_cases a.key b.key with h | h | h
 ·rw [h]; simp
 ·rw [h]
  have hk:=bcmp_zero h
  simp only [↓reduceIte,hk,true_and]
  by_cases q : a.seq < b.seq
  ·simp [q]
  ·by_cases q2 : b.seq < a.seq <;> simp [q,q2]
 ·rw [h]
  have hn : ¬ a.key = b.key:=fun q => by rw [q,bcmp_self] at h; omega
  simp [hn]
set_option maxHeartbeats 4000000 in
theorem canonical_any (u v : It) (w : World) (a : Option Addr) (c : Nat) (a' : Option Addr) (c' : Nat) :
  Calls Tryz.prog 49 #[.agg (ic u a c).toArray,.agg (ic v a' c').toArray] w fun e w' => e = .returned (.int .i64 (cpI u v)) ∧ Below w.heap.size w w':=by
 have h1:=fun w => cmpS_any u.key v.key w
 have h2:=fun w => cmpI_any u.seq v.seq w
 have h3 : ∀ w : World,Calls Tryz.prog 90 #[.slice (some ⟨w.heap.size,0,none⟩) 2 2] (w.alloc (.cells #[.int .i64 (bcmp u.key v.key),.int .i64 (icmp u.seq v.seq)] 3)).drew fun e w' => e = .returned (.int .i64 (cpI u v)) ∧ w' = (w.alloc (.cells #[.int .i64 (bcmp u.key v.key),.int .i64 (icmp u.seq v.seq)] 3)).drew:=fun w => cmpOr_any _ _ _ _ (by show (w.alloc _).cell? _ = _; rw [cell_of_row _ _ _ _ _ _ (heap_alloc_new _ _)]; rfl) (by show (w.alloc _).cell? _ = _; rw [cell_of_row _ _ _ _ _ _ (heap_alloc_new _ _)]; rfl)
 generalize cpI u v = CP at *
 generalize bcmp u.key v.key = X at *
 generalize icmp u.seq v.seq = Y at *
 have b1:=(Below.refl w.heap.size w).alloc (Nat.le_refl _) (.cells (ic u a c).toArray 46)
 have b2:=b1.alloc b1.size (.cells (ic v a' c').toArray 46)
 have hsz : ((w.alloc (.cells (ic u a c).toArray 46)).alloc (.cells (ic v a' c').toArray 46)).heap.size = w.heap.size + 2:=by simp
 have x0 : Bi ((w.alloc (.cells (ic u a c).toArray 46)).alloc (.cells (ic v a' c').toArray 46)) w.heap.size u a c:=(Bi.new w _ _ _).later ((Below.refl _ _).alloc (Nat.le_refl _) _)
 have y0 : Bi ((w.alloc (.cells (ic u a c).toArray 46)).alloc (.cells (ic v a' c').toArray 46)) (w.heap.size + 1) v a' c':=by
  have:=Bi.new (w.alloc (.cells (ic u a c).toArray 46)) v a' c'
  rwa [World.size_alloc] at this
 go_enter Tryz.func49,Tryz.ntmps49
 go_wp2_with fail
 generalize (w.alloc (.cells (ic u a c).toArray 46)).alloc (.cells (ic v a' c').toArray 46) = W2 at *
 have HS : Hid (∀ w',Below (w.heap.size + 2) W2 w' → Below (w.heap.size + 2) W2 w' ∧ w'.cell? ⟨w.heap.size,0,none⟩ = some (str u.key) ∧ w'.cell? ⟨w.heap.size,1,none⟩ = some (.int .i64 u.seq) ∧ w'.cell? ⟨w.heap.size + 1,0,none⟩ = some (str v.key) ∧ w'.cell? ⟨w.heap.size + 1,1,none⟩ = some (.int .i64 v.seq)):=⟨fun w' h => by
  rw [← hsz] at h
  obtain ⟨g0,g1,_⟩:=(x0.later h).cells
  obtain ⟨t0,t1,_⟩:=(y0.later h).cells
  rw [hsz] at h
  exact ⟨h,g0,g1,t0,t1⟩⟩
 have HZ : Hid (∀ w',Below (w.heap.size + 2) W2 w' → w.heap.size + 2 ≤ w'.heap.size):=⟨fun w' h => by rw [← hsz]; exact h.size⟩
 clear x0 y0 hsz b1
 go_region_held3 (fun w' => Below (w.heap.size + 2) W2 w' ∧ w'.cell? ⟨w.heap.size,0,none⟩ = some (str u.key) ∧ w'.cell? ⟨w.heap.size,1,none⟩ = some (.int .i64 u.seq) ∧ w'.cell? ⟨w.heap.size + 1,0,none⟩ = some (str v.key) ∧ w'.cell? ⟨w.heap.size + 1,1,none⟩ = some (.int .i64 v.seq)) (first
  | exact HS.out _ (Below.refl _ _).drew
  | assumption
  | exact HS.out _ (Below.alloc (And.left (by assumption)) (HZ.out _ (And.left (by assumption))) _)) (first
  | (go_at_call 91; with_reducible refine Calls.mono (h1 _) ?_; rintro e w3 ⟨rfl,rfl⟩)
  | (go_at_call 92; with_reducible refine Calls.mono (h2 _) ?_; rintro e w4 ⟨rfl,rfl⟩)
  | (go_at_call 90; with_reducible refine Calls.mono (h3 _) ?_; rintro e w5 ⟨rfl,rfl⟩))
 all_goals (
  have hbw : Below (w.heap.size + 2) W2 (W2.alloc (.cells #[.int .i64 X,.int .i64 Y] 3)).drew:=And.left (by assumption)
  go_wp2_with fail
  go_ret
  exact ⟨rfl,b2.trans (hbw.mono (by omega))⟩)
end
section
open Go.RowKit
structure IIt (w : World) (a : Option Addr) (L : List It) : Prop where
 get : ∀ k x,L[k]? = some x → ∃ b off ma mc,a = some ⟨b,off,none⟩ ∧ b < w.heap.size ∧ w.rangeAt b (off + k * 37) (ic x ma mc) ∧ Sl w ma mc x.l
theorem range_later {w w' : World} {b o : Nat} {cs : List Value} (h : w.rangeAt b o cs) (hl : b < w.heap.size) (hb : Below w.heap.size w w') : w'.rangeAt b o cs:=fun j v hv => by
 rw [hb.cell (p:=⟨b,o + j,none⟩) hl]; exact h j v hv
theorem IIt.later {w w' : World} {a : Option Addr} {L : List It} (h : IIt w a L) (hb : Below w.heap.size w w') : IIt w' a L:=by
 refine ⟨fun k x hx => ?_⟩
 obtain ⟨b,off,ma,mc,e,hl,hr,hs⟩:=h.get k x hx
 exact ⟨b,off,ma,mc,e,Nat.lt_of_lt_of_le hl hb.size,range_later hr hl hb,hs.later hb⟩
theorem infoI : (Tryz.prog.info? 46).map (·.size) = some 37:=by kernel_rfl
noncomputable def ldI (v : Value) : Sem Value:=Instr.loadAt 46 v
theorem ldIe (v : Value) : Instr.loadAt 46 v = ldI v:=rfl
noncomputable def stI (p v : Value) : Sem Unit:=Instr.storeAt 46 p v
theorem stIe (p v : Value) : Instr.storeAt 46 p v = stI p v:=rfl
theorem run_ldI {w : World} {b o : Nat} {x : It} {a : Option Addr} {c : Nat} (h : w.rangeAt b o (ic x a c)) : (ldI (.pointer (some ⟨b,o,none⟩))).run Tryz.prog w = .ok (.agg (ic x a c).toArray) w:=by
 unfold ldI
 exact run_loadAt_mid (P:=Tryz.prog) w b o 46 (ic x a c) _ h Tryz.underlying46 rfl (by rw [ic_length]; exact infoI)
theorem Bi.range {w : World} {g : Nat} {x : It} {a : Option Addr} {c : Nat} (h : Bi w g x a c) : w.rangeAt g 0 (ic x a c):=fun j v hv => by
 rw [Nat.zero_add,cell_of_row _ _ _ _ _ _ h,List.getElem?_toArray]; exact hv
abbrev zI : Array Value:=#[.string ⟨#[]⟩,.int .i64 0,.bool false,.int .i64 0,.slice none 0 0,.int .u8 0,.int .u8 0,.int .u8 0,.int .u8 0,.int .u8 0,.int .u8 0,.int .u8 0,.int .u8 0,.int .u8 0,.int .u8 0,.int .u8 0,.int .u8 0,.int .u8 0,.int .u8 0,.int .u8 0,.int .u8 0,.int .u8 0,.int .u8 0,.int .u8 0,.int .u8 0,.int .u8 0,.int .u8 0,.int .u8 0,.int .u8 0,.int .u8 0,.int .u8 0,.int .u8 0,.int .u8 0,.int .u8 0,.int .u8 0,.int .u8 0,.int .u8 0]
theorem run_stI (w : World) (x : It) (a : Option Addr) (c : Nat) : (stI (.pointer (some ⟨w.heap.size,0,none⟩)) (.agg (ic x a c).toArray)).run Tryz.prog (w.alloc (.cells zI 46)) = .ok () (w.alloc (.cells (ic x a c).toArray 46)):=by
 unfold stI
 exact run_storeAt_new w 46 zI (ic x a c).toArray (by rw [List.size_toArray,ic_length]; exact infoI) ((show zI.size = 37 from rfl).trans (by rw [List.size_toArray,ic_length])) (all_oneCell_toArray (ic_one x a c))
end
section
open Go.RowKit
attribute [local go_sem ↓] Go.wp_at_zero Go.wp_at_succ ldIe stIe
def iw (L : List It) : Int:=L.foldl (fun s x => wrap64 (s + wrap64 (vsz x.key [] x.l + x.size))) 0
theorem iw_step {L : List It} {k : Nat} {x : It} (h : L[k]? = some x) : iw (L.take (k + 1)) = wrap64 (iw (L.take k) + wrap64 (vsz x.key [] x.l + x.size)):=by
 unfold iw
 rw [List.take_add_one,h]
 simp
theorem i64w (x : Int) : IntKind.i64.wrap x = wrap64 x:=by rw [IntKind.wrap_i64]; unfold wrap64; first | rfl | omega | (split <;> omega)
set_option maxHeartbeats 4000000 in
theorem msize_any (L : List It) (w : World) (a : Option Addr) (cap : Nat) (hL : IIt w a L) (hz : ∀ x ∈ L,x.l.length ≤ 4398046510976) (hl : L.length ≤ 1466015503700) :
  Calls Tryz.prog 51 #[.slice a L.length cap] w fun e w' => e = .returned (.int .i64 (iw L)) ∧ Below w.heap.size w w':=by
 have HL:=Hid.mk hL
 have HZ:=Hid.mk hz
 have Hl:=Hid.mk hl
 clear hL hz hl
 go_enter Tryz.func51,Tryz.ntmps51
 go_wp2_with fail
 go_loopw [8,3] (fun i s wr => ∃ k : Nat,k ≤ L.length ∧ i = .int .i64 (k : Int) ∧ s = .int .i64 (iw (L.take k)) ∧ Hid (Below w.heap.size w wr)) (fun i _ _ => L.length - (intOf i).toNat)
 case atStart => exact ⟨0,Nat.zero_le _,rfl,rfl,⟨Below.refl _ _⟩⟩
 case round =>
  obtain ⟨k,hk,rfl,rfl,hb⟩:=hrel
  by_cases hlt : k < L.length
  ·have d1 : decide ((k : Int) < (L.length : Int)) = true:=decide_eq_true (Int.ofNat_lt.2 hlt)
   have k2 : (k : Int) < (L.length : Int):=Int.ofNat_lt.2 hlt
   have hw1 : wrap64 ((k : Int) + 1) = ((k + 1 : Nat) : Int):=by have:=Hl.out; unfold wrap64; omega
   obtain ⟨x,hx⟩ : ∃ x,L[k]? = some x:=⟨L[k],List.getElem?_eq_getElem hlt⟩
   obtain ⟨b,off,ma,mc,rfl,hbl,hr,hs⟩:=(HL.out.later hb.out).get k x hx
   have l1:=run_ldI hr
   have s1:=run_stI wr x ma mc
   have hsz:=fun w' (h : Below wr.heap.size wr w') => size_any x.key 0 false [] x.l w' ma _ mc rfl (hs.later h).at' (by have:=HZ.out x (List.mem_of_getElem? hx); omega)
   have hst:=iw_step hx
   have b1:=(Below.refl wr.heap.size wr).alloc (Nat.le_refl _) (.cells (ic x ma mc).toArray 46)
   have z1:=Bi.new wr x ma mc
   have HR1:=Hid.mk hst
   clear hst hr hs hx
   go_upto_region 5 with fail
   have Hz1:=Hid.mk z1
   have Hb1:=Hid.mk b1
   clear l1 s1 z1 b1
   generalize wr.alloc (.cells (ic x ma mc).toArray 46) = w1 at *
   obtain ⟨p0,p1,p2,p3,p4⟩:=Hz1.out.cells
   have hlx:=Hz1.out.lt
   obtain ⟨V,hV⟩ : ∃ V,V = vsz x.key [] x.l:=⟨_,rfl⟩
   rw [← hV] at hsz HR1
   obtain ⟨A1,hA1⟩ : ∃ A,A = wrap64 (V + x.size):=⟨_,rfl⟩
   rw [← hA1] at HR1
   have hi1 : IntKind.i64.wrap (V + x.size) = A1:=by rw [hA1]; exact i64w _
   have hi1' : wrap64 (V + x.size) = A1:=hA1.symm
   obtain ⟨S0,hS0⟩ : ∃ S,S = iw (L.take k):=⟨_,rfl⟩
   rw [← hS0] at HR1
   rw [← hS0]
   have hi2 : IntKind.i64.wrap (S0 + A1) = iw (L.take (k + 1)):=by rw [HR1.out]; exact i64w _
   have hi2' : wrap64 (S0 + A1) = iw (L.take (k + 1)):=HR1.out.symm
   obtain ⟨S1,hS1⟩ : ∃ S,S = iw (L.take (k + 1)):=⟨_,rfl⟩
   rw [← hS1] at hi2 hi2'
   have HS9:=Hid.mk hS1
   clear hS1
   have HSz:=Hid.mk hsz
   have HS1 : Hid (∀ w',Below w1.heap.size w1 w' → Below w1.heap.size w1 w' ∧ w'.cell? ⟨wr.heap.size,0,none⟩ = some (str x.key) ∧ w'.cell? ⟨wr.heap.size,3,none⟩ = some (.int .i64 x.size) ∧ w'.cell? ⟨wr.heap.size,4,none⟩ = some (.slice ma x.l.length mc)):=⟨fun w' h => by
    obtain ⟨t0,t1,t2,t3,t4⟩:=(Hz1.out.later h).cells
    exact ⟨h,t0,t3,t4⟩⟩
   have Hbx : Hid (∀ w',Below w1.heap.size w1 w' → Below wr.heap.size wr w'):=⟨fun w' h => Hb1.out.trans (h.mono Hb1.out.size)⟩
   clear hA1 hV hS0 hsz p0 p1 p2 p3 p4 HR1
   go_region_held3 (fun w' => Below w1.heap.size w1 w' ∧ w'.cell? ⟨wr.heap.size,0,none⟩ = some (str x.key) ∧ w'.cell? ⟨wr.heap.size,3,none⟩ = some (.int .i64 x.size) ∧ w'.cell? ⟨wr.heap.size,4,none⟩ = some (.slice ma x.l.length mc)) ((refine HS1.out _ ?_; first
    | with_reducible exact (Below.refl _ _).drew
    | with_reducible exact below_seq (And.left (by assumption)) e1)) ((go_at_call 95; with_reducible refine Calls.mono (HSz.out _ (Hbx.out _ (And.left (by assumption)))) ?_; rintro e w2 ⟨rfl,e1⟩))
   have hB2 : Hid (Below w.heap.size w w2):=⟨hb.out.trans ((Hbx.out _ (And.left (by assumption))).mono hb.out.size)⟩
   clear e1 HS1 HSz
   go_wp2_with fail
   exact ⟨⟨k + 1,hlt,by first | (rw [hw1]; done) | rfl | go_num,by rw [← HS9.out],hB2⟩,by first | (rw [hw1]; exact Nat.sub_lt_sub_left hlt (Nat.lt_succ_self k)) | (simp [intOf]; omega)⟩
  ·obtain rfl : k = L.length:=by omega
   have d1 : decide ((L.length : Int) < (L.length : Int)) = false:=decide_eq_false (by omega)
   go_wp2_with fail
   go_ret
   exact ⟨by show Ending.returned (Value.int .i64 (iw (L.take L.length))) = _; rw [List.take_length],hb.out⟩
end
section
open Go.RowKit
attribute [local go_sem ↓] Go.wp_at_zero Go.wp_at_succ ldIe
def AscI (L : List It) : Prop := ∀ (i : Nat) (a b : It),L[i]? = some a → L[i + 1]? = some b → ¬ bef b a
set_option maxHeartbeats 4000000 in
theorem isSortedI_any (L : List It) (w : World) (a : Option Addr) (n cap : Nat) (hn : L.length = n) (hS : IIt w a L) (hl : L.length ≤ 1954687338300) :
  Calls Tryz.prog 48 #[.slice a n cap,.func (.func 49) #[] #[]] w fun e w' => (∃ t : Bool,e = .returned (.bool t) ∧ (t = true ↔ AscI L)) ∧ Below w.heap.size w w':=by
 subst hn
 go_enter Tryz.func48,Tryz.ntmps48
 go_wp2_with fail
 go_loopw [5] (fun o wr => ((L.length = 0 ∧ o = .int .i64 (-1)) ∨ ∃ m : Nat,m < L.length ∧ o = .int .i64 (m : Int) ∧ Hid (∀ (j : Nat) (x y : It),m ≤ j → L[j]? = some x → L[j + 1]? = some y → ¬ bef y x)) ∧ Below w.heap.size w wr) (fun o _ => (intOf o).toNat)
 case atStart =>
  refine ⟨?_,Below.refl _ _⟩
  by_cases h0 : L.length = 0
  ·left
   refine ⟨h0,?_⟩
   rw [h0]; first | rfl | (congr 1)
  ·right
   refine ⟨L.length - 1,by omega,?_,⟨fun j x y hj hx hy => ?_⟩⟩
   ·congr 1
    first | omega | (unfold wrap64; omega)
   ·have:=(List.getElem?_eq_some_iff.1 hy).1
    omega
 case round =>
  obtain ⟨h,hb⟩:=hrel
  rcases h with ⟨h0,rfl⟩ | ⟨m,hm,rfl,HM⟩
  ·have HA : Hid (AscI L):=⟨fun i a b ha => by have:=(List.getElem?_eq_some_iff.1 ha).1; omega⟩
   go_wp2_with fail
   go_ret
   exact ⟨⟨true,rfl,fun _ => HA.out,fun _ => rfl⟩,hb⟩
  ·by_cases h1 : 0 < m
   ·have d1 : decide ((0 : Int) < (m : Int)) = true:=decide_eq_true (by omega)
    obtain ⟨u,hu⟩ : ∃ u,L[m]? = some u:=⟨L[m],List.getElem?_eq_getElem hm⟩
    obtain ⟨p,hp⟩ : ∃ p : Nat,p + 1 = m:=⟨m - 1,by omega⟩
    obtain ⟨v,hv⟩ : ∃ v,L[p]? = some v:=⟨L[p]'(by omega),List.getElem?_eq_getElem (by omega)⟩
    obtain ⟨b,off,ma,mc,rfl,hbl,hr,hsl⟩:=(hS.later hb).get m u hu
    obtain ⟨b',off',ma',mc',e',hbl',hr',hsl'⟩:=(hS.later hb).get p v hv
    injection e' with e'
    injection e' with e1 e2 e3
    subst e1 e2
    have hw1 : wrap64 ((m : Int) - 1) = (p : Int):=by unfold wrap64; omega
    have hw2 : IntKind.i64.wrap ((m : Int) - 1) = (p : Int):=by rw [IntKind.wrap_i64]; omega
    have k2 : (m : Int) < (L.length : Int):=by omega
    have k3 : (p : Int) < (L.length : Int):=by omega
    have l1:=run_ldI (w:=wr.drew) hr
    have l2:=run_ldI (w:=wr.drew) hr'
    have hc:=fun w => canonical_any u v w ma mc ma' mc'
    by_cases hq : bef u v
    ·have d2 : decide (cpI u v < 0) = true:=decide_eq_true (cpI_neg.2 hq)
     have HA : Hid (¬ AscI L):=⟨fun h => h p v u hv (by rw [hp]; exact hu) hq⟩
     clear hq HM hu hv hsl hsl' hS hp
     generalize cpI u v = C at *
     go_wp2_with fail
     go_region_with (go_at_call 49; refine (hc _).mono ?_; rintro e w1 ⟨rfl,b1⟩)
     all_goals (
      go_wp2_with fail
      go_ret
      exact ⟨⟨false,rfl,by simp [HA.out]⟩,hb.trans (Below.trans (Below.refl _ _).drew (b1.mono hb.size))⟩)
    ·have d2 : decide (cpI u v < 0) = false:=decide_eq_false (fun h => hq (cpI_neg.1 h))
     have HN : Hid (∀ (j : Nat) (x y : It),p ≤ j → L[j]? = some x → L[j + 1]? = some y → ¬ bef y x):=⟨fun j x y hj hx hy => by
      by_cases e : j = p
      ·subst e
       rw [hv] at hx
       rw [hp,hu] at hy
       cases hx; cases hy
       exact hq
      ·exact HM.out j x y (by omega) hx hy⟩
     clear hq HM hu hv hsl hsl' hS
     generalize cpI u v = C at *
     go_wp2_with fail
     go_region_with (go_at_call 49; refine (hc _).mono ?_; rintro e w1 ⟨rfl,b1⟩)
     all_goals (
      clear hc
      have hb3:=hb.trans (Below.trans (Below.refl _ _).drew (b1.mono hb.size))
      clear b1 l1 l2
      go_wp2_with fail
      exact ⟨⟨Or.inr ⟨p,by omega,by first | rfl | (rw [hw1]; done) | go_num,HN⟩,hb3⟩,by first | (rw [hw1]; simp [intOf]; omega) | (simp [intOf]; omega)⟩)
   ·obtain rfl : m = 0:=by omega
    have HA : Hid (AscI L):=⟨fun i a b ha hb' => HM.out i a b (Nat.zero_le _) ha hb'⟩
    go_wp2_with fail
    go_ret
    exact ⟨⟨true,rfl,fun _ => HA.out,fun _ => rfl⟩,hb⟩
end
end Go.Proofs.YtdfjlmfnkhhnjaaGreatDoor
