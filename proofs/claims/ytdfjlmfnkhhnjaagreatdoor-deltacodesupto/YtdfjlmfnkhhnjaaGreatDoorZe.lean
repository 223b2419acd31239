import Derived.Test.YtdfjlmfnkhhnjaaGreatDoorSort
import Derived.Test.YtdfjlmfnkhhnjaaGreatDoorZa
import Derived.Test.YtdfjlmfnkhhnjaaGreatDoorZb
import Derived.Deep.RegionWith
set_option maxRecDepth 100000
set_option linter.unusedVariables false
set_option linter.unusedSimpArgs false
namespace Go.Proofs.YtdfjlmfnkhhnjaaGreatDoor.Stk
section
open Go.RowKit
attribute [local go_sem ↓] Go.wp_at_zero Go.wp_at_succ
def iv (zs : List Int) : List Value:=zs.map (.int .i64)
structure Io (base : Nat) (w : World) (v : Value) (zs : List Int) : Prop where
 own : w.ownsRow base 2 1 v zs.length (iv zs)
 le : base ≤ w.heap.size
theorem Io.nil (w : World) (base : Nat) (h : base ≤ w.heap.size) : Io base w (.slice none 0 0) []:=⟨World.ownsRow_nil _ _ _ _,h⟩
theorem Io.later {base : Nat} {w w' : World} {v : Value} {R : List Int} (h : Io base w v R) (hb : Below w.heap.size w w') : Io base w' v R:=⟨own_same h.own (fun g hg => hb.block g (h.own.lt g hg).2),Nat.le_trans h.le hb.size⟩
theorem infoIf : (Tryz.prog.info? 2).map (fun i => (i.zero,i.size,i.bytes)) = some (some (.int .i64 0),1,8):=by kernel_rfl
theorem infoI : ∃ i,Tryz.prog.info? 2 = some i ∧ i.zero = some (.int .i64 0) ∧ i.size = 1 ∧ i.bytes = 8:=by
 have h:=infoIf
 cases hi : Tryz.prog.info? 2 with
 | none => rw [hi] at h; cases h
 | some i => rw [hi] at h; simp at h; exact ⟨i,rfl,h.1,h.2.1,h.2.2⟩
theorem app_i {ops : Array Oper} {rest : List Oper} {o : Oper} {a : Act} {Q : Exit → Act → World → Prop} {W : World} (hgd : o.guard = none) (s x : Operand) (ho : o.op = .call { callee := .builtin .append,args:=#[s,x],argTypes:=#[141,141] })
  {base : Nat} {w : World} {v : Value} {l : List Int} {g : Nat} (p : Int) (hW : W = w.alloc (.cells #[.int .i64 p] 2)) (hO : Io base w v l) (hg : g = w.heap.size) (hn : l.length ≤ 4500000000000)
  (hs : a.eval s = v) (hx : a.eval x = .slice (some ⟨g,0,none⟩) 1 1)
  (h : ∀ v' w',Io base w' v' (l ++ [p]) → Below base w w' → wpList Tryz.prog ops Q rest (a.put o.dst v') w') :
  wpList Tryz.prog ops Q (o :: rest) a W:=by
 obtain ⟨i0,hi0,hz0,hz1,hz2⟩:=infoI
 subst hW hg
 have hm : maxLen = 9223372036854775807:=rfl
 refine wpList_append_own_wide _ hgd s x 141 ho base 2 i0 _ 1 8 Tryz.underlying141 hi0 hz0 hz1 hz2 rfl (by omega) v l.length (iv l) hs (hO.own.alloc _) _ 1 1 [.int .i64 p] hx rfl
  (World.news_of_block (cs:=#[.int .i64 p]) (t:=2) (fr:=(0,0)) (heap_alloc_new w _)) (by simp [Value.oneCell']) (by rw [hm]; omega) (by omega) (by have:=hO.le; simp; omega) ?_
 intro v' w' hown hgrow _
 refine h v' w' ⟨?_,?_⟩ ?_
 ·unfold iv; rw [List.map_append,List.length_append]; exact hown
 ·have:=hgrow.size; have h2:=hO.le; simp at this; omega
 ·exact ((Below.refl _ _).alloc hO.le _).trans (grown_below (hO.own.alloc _) (by have:=hO.le; simp; omega) hgrow)
theorem Io.holds {base : Nat} {w : World} {v : Value} {zs : List Int} (h : Io base w v zs) (h0 : 0 < zs.length) : ∃ g cap,v = .slice (some ⟨g,0,none⟩) zs.length cap ∧ base ≤ g ∧ g < w.heap.size ∧ zs.length ≤ cap ∧ Go.Sort.Holds (Value.int .i64) w g 0 zs.toArray:=by
 rcases h.own.2 with ⟨_,q⟩ | ⟨g,cap,cur,e,h1,h2,h3,h4,h5,h6⟩
 ·omega
 ·subst e
  refine ⟨g,cap,rfl,h1,lt_of_block h2,h3,fun j hj => ?_⟩
  have hj' : j < zs.length:=by simpa using hj
  have hc:=h.own.cellAt j (by omega)
  refine ⟨?_,frozen_of_row _ _ _ _ _ h2⟩
  rw [Nat.zero_add,hc]
  unfold iv
  rw [List.getElem?_map,List.getElem?_eq_getElem hj']
  simp [hj']
theorem Io.sl0 {base : Nat} {w : World} {v : Value} {zs : List Int} (h : Io base w v zs) (hz : zs.length = 0) : ∃ p c,v = .slice p 0 c:=by
 rcases h.own.2 with ⟨e,_⟩ | ⟨g,c,cur,e,_⟩
 ·exact ⟨_,_,e⟩
 ·rw [hz] at e; exact ⟨_,_,e⟩
theorem below_row {B : Nat} {w : World} {blk off n : Nat} (d : Array Int) (os : Array Obj) (h : B ≤ blk) (hs : B ≤ w.heap.size) : Below B w (Go.Sort.grow (Go.Sort.putRow (Value.int .i64) (Go.Sort.ahead w n) blk off d) os):=by
 refine ⟨rfl,rfl,rfl,by simp,fun k hk => ?_⟩
 have hk1 : k < w.heap.size:=by omega
 simp only [Go.Sort.grow,Go.Sort.putRow,Go.Sort.mapBlock,Go.Sort.heap_ahead]
 rw [Array.getElem?_append_left (by simpa using hk1),Array.getElem?_modify]
 rw [if_neg (by omega)]
theorem below_row0 {B : Nat} {w : World} {blk off n : Nat} (d : Array Int) (h : B ≤ blk) (hs : B ≤ w.heap.size) : Below B w (Go.Sort.putRow (Value.int .i64) (Go.Sort.ahead w n) blk off d):=by
 have:=below_row (w:=w) (off:=off) (n:=n) d #[] h hs
 rwa [Go.Sort.grow_empty] at this
theorem holds_grow {w : World} {blk off : Nat} {d : Array Int} (h : Go.Sort.Holds (Value.int .i64) w blk off d) (hb : blk < w.heap.size) (os : Array Obj) : Go.Sort.Holds (Value.int .i64) (Go.Sort.grow w os) blk off d:=fun j hj => by
 obtain ⟨h1,h2⟩:=h j hj
 have e : (Go.Sort.grow w os).heap[blk]? = w.heap[blk]?:=Array.getElem?_append_left hb
 refine ⟨?_,?_⟩
 ·unfold World.cell? at h1 ⊢
  simp only at h1 ⊢
  rw [e]; exact h1
 ·unfold World.frozen? at h2 ⊢
  simp only at h2 ⊢
  rw [e]; exact h2
theorem compact_len (s : List Int) : (Go.Lib.compact s).length ≤ s.length ∧ ((Go.Lib.compact s).length < s.length ↔ ∃ j,0 < j ∧ j < s.length ∧ s[j]? = s[j - 1]?):=by
 unfold Go.Lib.compact Go.Lib.compactUpTo
 rw [List.length_map]
 have hr : (List.range s.length).length = s.length:=List.length_range
 refine ⟨by have:=List.length_filter_le (Go.Lib.keeps s.toArray) (List.range s.length); omega,?_⟩
 have key : ∀ j,0 < j → j < s.length → (Go.Lib.keeps s.toArray j = false ↔ s[j]? = s[j - 1]?):=fun j h0 hj => by
  have hj1 : j - 1 < s.length:=by omega
  unfold Go.Lib.keeps
  rw [List.getElem?_eq_getElem hj,List.getElem?_eq_getElem hj1]
  simp [hj,hj1,Nat.ne_of_gt h0]
 constructor
 ·intro h
  have hx : ¬ ∀ x ∈ List.range s.length,Go.Lib.keeps s.toArray x = true:=fun hx => by
   rw [List.filter_eq_self.2 hx,hr] at h
   omega
  have hx2 : ∃ x,x < s.length ∧ ¬ Go.Lib.keeps s.toArray x = true:=by
   by_cases q : ∃ x,x < s.length ∧ ¬ Go.Lib.keeps s.toArray x = true
   ·exact q
   ·exact absurd (fun x hx' => by
     by_cases k : Go.Lib.keeps s.toArray x = true
     ·exact k
     ·exact absurd ⟨x,List.mem_range.1 hx',k⟩ q) hx
  obtain ⟨x,hx3,hx4⟩:=hx2
  have h0 : 0 < x:=by
   rcases Nat.eq_zero_or_pos x with e | e
   ·subst e; exact absurd (by simp [Go.Lib.keeps]) hx4
   ·exact e
  exact ⟨x,h0,hx3,(key x h0 hx3).1 (by simpa using hx4)⟩
 ·rintro ⟨j,h0,hj,he⟩
  have hk:=(key j h0 hj).2 he
  have h1:=List.length_filter_le (Go.Lib.keeps s.toArray) (List.range s.length)
  rcases Nat.lt_or_ge ((List.range s.length).filter (Go.Lib.keeps s.toArray)).length s.length with q | q
  ·exact q
  ·have e : (List.range s.length).filter (Go.Lib.keeps s.toArray) = List.range s.length:=(List.filter_sublist).eq_of_length (by omega)
   have:=(List.filter_eq_self.1 e) j (List.mem_range.2 hj)
   rw [hk] at this
   cases this
theorem compact_sorted (zs : List Int) : ((Go.Lib.compact (zs.mergeSort fun x y => decide (x ≤ y))).length < zs.length ↔ ¬ zs.Nodup):=by
 have hp:=List.mergeSort_perm zs (fun x y => decide (x ≤ y))
 have hs : (zs.mergeSort fun x y => decide (x ≤ y)).Pairwise fun x y => decide (x ≤ y) = true:=List.pairwise_mergeSort (fun a b c h1 h2 => by have:=of_decide_eq_true h1; have:=of_decide_eq_true h2; exact decide_eq_true (by omega)) (fun a b => by simp; omega) zs
 rw [← hp.length_eq,(compact_len _).2,← hp.nodup_iff]
 generalize zs.mergeSort (fun x y => decide (x ≤ y)) = t at *
 constructor
 ·rintro ⟨j,h0,hj,he⟩ hn
  have hj1 : j - 1 < t.length:=by omega
  rw [List.getElem?_eq_getElem hj,List.getElem?_eq_getElem hj1] at he
  exact List.pairwise_iff_getElem.1 hn (j - 1) j hj1 hj (by omega) (Option.some.inj he).symm
 ·intro hn
  by_cases q : ∃ j,0 < j ∧ j < t.length ∧ t[j]? = t[j - 1]?
  ·exact q
  ·refine absurd ?_ hn
   refine List.pairwise_iff_getElem.2 fun i j hi hj hij he => q ⟨j,by omega,hj,?_⟩
   have hj1 : j - 1 < t.length:=by omega
   rw [List.getElem?_eq_getElem hj,List.getElem?_eq_getElem hj1]
   have h1 : t[j - 1] ≤ t[j]:=of_decide_eq_true (List.pairwise_iff_getElem.1 hs (j - 1) j hj1 hj (by omega))
   have h2 : t[i] ≤ t[j - 1]:=by
    by_cases e : i = j - 1
    ·subst e; exact Int.le_refl _
    ·exact of_decide_eq_true (List.pairwise_iff_getElem.1 hs i (j - 1) hi hj1 (by omega))
   congr 1
   omega
set_option maxHeartbeats 4000000 in
theorem seqTwice_any (L : List Vs) (w : World) (a : Option Addr) (n cap : Nat) (hn : L.length = n) (hS : LIn w a L) (hl : L.length ≤ 1954687338300) :
  Calls Tryz.prog 110 #[.slice a n cap] w fun e w' => (∃ t : Bool,e = .returned (.bool t) ∧ (t = true ↔ ¬ (L.map (·.seq)).Nodup)) ∧ Below w.heap.size w w':=by
 subst hn
 have I0:=Io.nil w w.heap.size (Nat.le_refl _)
 go_enter Tryz.func110,Tryz.ntmps110
 go_wp2_with fail
 go_loopw [3,8] (fun o i wr => ∃ k : Nat,k ≤ L.length ∧ i = .int .i64 (k : Int) ∧ Hid (Io w.heap.size wr o ((L.take k).map (·.seq))) ∧ Below w.heap.size w wr) (fun o i _ => L.length - (intOf i).toNat)
 case atStart => exact ⟨0,by omega,rfl,⟨by simpa using I0⟩,Below.refl _ _⟩
 case round =>
  clear I0
  obtain ⟨k,hk,rfl,hO,hb⟩:=hrel
  by_cases hlt : k < L.length
  ·have d1 : decide ((k : Int) < (L.length : Int)) = true:=decide_eq_true (by omega)
   have k2 : (k : Int) < (L.length : Int):=by omega
   obtain ⟨u,hu⟩ : ∃ u,L[k]? = some u:=⟨L[k],List.getElem?_eq_getElem hlt⟩
   obtain ⟨b,off,ma,mc,rfl,hbl,c0,c1,c2,c3,c4,hsl⟩:=(hS.later hb).get k u hu
   have hT : Hid ((L.take (k + 1)).map (·.seq) = (L.take k).map (·.seq) ++ [u.seq]):=⟨by rw [takeV hu,List.map_append]; rfl⟩
   have hlk : Hid (((L.take k).map (·.seq)).length ≤ 4500000000000):=⟨by rw [List.length_map,List.length_take]; omega⟩
   have hw1 : wrap64 ((k : Int) + 1) = ((k + 1 : Nat) : Int):=by unfold wrap64; omega
   have bx:=(Below.refl wr.heap.size wr).alloc (Nat.le_refl _) (.cells #[str u.key,.int .i64 u.seq,.bool u.mkr,str u.data,.slice ma u.l.length mc] 62)
   have hO1:=hO.out.later bx
   clear hu hS hsl
   go_wp2_with (refine app_i rfl _ _ rfl u.seq rfl hO1 (by simp) hlk.out rfl rfl ?_; intro v2 w2 o2 b2)
   exact ⟨⟨k + 1,by omega,by first | (rw [hw1]; done) | go_num,⟨by rw [hT.out]; exact o2⟩,(hb.trans (bx.mono hb.size)).trans b2⟩,by first | (rw [hw1]; exact Nat.sub_lt_sub_left hlt (Nat.lt_succ_self k)) | (simp [intOf]; omega)⟩
  ·obtain rfl : k = L.length:=by omega
   have d1 : decide ((L.length : Int) < (L.length : Int)) = false:=decide_eq_false (by omega)
   have hO1:=hO.out
   rw [List.take_length] at hO1
   have hlen : (L.map (·.seq)).length = L.length:=List.length_map ..
   have hcs:=compact_sorted (L.map (·.seq))
   rw [hlen] at hcs
   clear hO
   obtain ⟨zs,hzs⟩ : ∃ zs : List Int,zs = L.map (·.seq):=⟨_,rfl⟩
   rw [← hzs] at hO1 hlen hcs
   have HZ:=Hid.mk hzs
   clear hzs
   by_cases h0 : L.length = 0
   ·have hz : zs = []:=List.eq_nil_of_length_eq_zero (by omega)
    have HN : Hid (zs.Nodup):=⟨by rw [hz]; exact List.nodup_nil⟩
    obtain ⟨p,c,rfl⟩:=hO1.sl0 (by omega)
    have hso:=fun w => AnyM.slices_Sort_int_none Tryz.sortA p c w
    have hco:=fun w => AnyG.slices_Compact_int_empty Tryz.compactA p c w
    change ∀ w,Calls Tryz.prog 93 _ w _ at hso
    change ∀ w,Calls Tryz.prog 94 _ w _ at hco
    rw [h0] at d1 ⊢
    clear hS hcs hlen h0 hz hO1
    go_wp2_with (first
     | (go_at_call 93; refine (hso _).mono ?_; rintro e w1 ⟨rfl,rfl⟩)
     | (go_at_call 94; refine (hco _).mono ?_; rintro e w2 ⟨rfl,rfl⟩))
    go_ret
    exact ⟨⟨false,rfl,by rw [← HZ.out]; simp [HN.out]⟩,hb⟩
   ·obtain ⟨g,c,rfl,hg1,hg2,hg3,hH⟩:=hO1.holds (by omega)
    have hso:=AnyM.slices_Sort_int Tryz.sortA g 0 c zs wr hH hg2 (by omega)
    change Calls Tryz.prog 93 _ wr _ at hso
    have HL:=Hid.mk hlen
    have HC:=Hid.mk hcs
    clear hcs
    rw [hlen] at hso
    go_wp2_with fail
    with_reducible refine Calls.mono hso ?_
    rintro e w1 ⟨rfl,m1,os1,ew⟩
    dsimp only
    have hsl : (zs.mergeSort fun x y => decide (x ≤ y)).length = zs.length:=List.length_mergeSort _
    have hH1 : Go.Sort.Holds (Value.int .i64) w1 g 0 (zs.mergeSort fun x y => decide (x ≤ y)).toArray:=by
     have h1:=Go.Sort.holds_putRow (Value.int .i64) (Go.Sort.ahead wr m1) g 0 zs.toArray (zs.mergeSort fun x y => decide (x ≤ y)).toArray (Go.Sort.holds_ahead _ _ _ _ _ _ hH) (by simp [hsl])
     rw [ew]
     exact holds_grow h1 (by simpa using hg2) os1
    have b1 : Below w.heap.size w w1:=by
     have:=below_row (B:=w.heap.size) (w:=wr) (off:=0) (n:=m1) (zs.mergeSort fun x y => decide (x ≤ y)).toArray os1 hg1 hb.size
     rw [ew]
     exact hb.trans this
    have hg4 : g < w1.heap.size:=by rw [ew]; simp; omega
    have hcm:=AnyG.slices_Compact_int Tryz.compactA g 0 c (zs.mergeSort fun x y => decide (x ≤ y)) w1 hH1 (by omega) (by omega)
    change Calls Tryz.prog 94 _ w1 _ at hcm
    rw [hsl] at hcm
    have hcl:=(compact_len (zs.mergeSort fun x y => decide (x ≤ y))).1
    rw [hsl] at hcl
    have HB1:=Hid.mk b1
    clear hso hH hH1 b1 ew hO1 hS
    generalize (Go.Lib.compact (zs.mergeSort fun x y => decide (x ≤ y))) = CL at *
    rw [hlen] at hcm
    go_wp2_with (go_at_call 94; refine hcm.mono ?_; rintro e w2 ⟨rfl,q2,e2⟩)
    go_ret
    refine ⟨⟨_,rfl,?_⟩,?_⟩
    ·rw [← HZ.out,← HC.out]
     simp
    ·exact HB1.out.trans (below_row0 _ hg1 HB1.out.size)
end
section
open Go.RowKit
attribute [local go_sem ↓] Go.wp_at_zero Go.wp_at_succ
def icmp (x y : Int) : Int:=if x < y then -1 else if y < x then 1 else 0
theorem cmpI_any (x y : Int) (w : World) : Calls Tryz.prog 92 #[.int .i64 x,.int .i64 y] w fun e w' => e = .returned (.int .i64 (icmp x y)) ∧ w' = w:=by
 unfold icmp
 by_cases h : x < y
 ·rw [if_pos h]
  have d1 : decide (x < y) = true:=decide_eq_true h
  clear h
  go_enter Tryz.func92,Tryz.ntmps92
  go_wp2
  go_ret
  exact ⟨rfl,rfl⟩
 ·rw [if_neg h]
  have d1 : decide (x < y) = false:=decide_eq_false h
  by_cases h2 : y < x
  ·rw [if_pos h2]
   have d2 : decide (y < x) = true:=decide_eq_true h2
   clear h h2
   go_enter Tryz.func92,Tryz.ntmps92
   go_wp2
   go_ret
   exact ⟨rfl,rfl⟩
  ·rw [if_neg h2]
   have d2 : decide (y < x) = false:=decide_eq_false h2
   clear h h2
   go_enter Tryz.func92,Tryz.ntmps92
   go_wp2
   go_ret
   exact ⟨rfl,rfl⟩
def orI (x y : Int) : Int:=if x = 0 then y else x
theorem cmpOr_any (x y : Int) (w : World) (g : Nat) (h0 : w.cell? ⟨g,0,none⟩ = some (.int .i64 x)) (h1 : w.cell? ⟨g,1,none⟩ = some (.int .i64 y)) :
  Calls Tryz.prog 90 #[.slice (some ⟨g,0,none⟩) 2 2] w fun e w' => e = .returned (.int .i64 (orI x y)) ∧ w' = w:=by
 go_enter Tryz.func90,Tryz.ntmps90
 go_wp2_with fail
 go_loopw [8] (fun i wr => (i = .int .i64 0 ∨ (i = .int .i64 1 ∧ x = 0) ∨ (i = .int .i64 2 ∧ x = 0 ∧ y = 0)) ∧ wr = w) (fun i _ => 2 - (intOf i).toNat)
 case atStart => exact ⟨Or.inl rfl,rfl⟩
 case round =>
  obtain ⟨h,rfl⟩:=hrel
  rcases h with rfl | ⟨rfl,hx⟩ | ⟨rfl,hx,hy⟩
  ·by_cases hx : x = 0
   ·subst hx
    go_wp2_with fail
    exact ⟨⟨Or.inr (Or.inl ⟨rfl,trivial⟩),trivial⟩,by simp [intOf]⟩
   ·have d1 : (x == 0) = false:=beq_eq_false_iff_ne.2 hx
    have HO : Hid (orI x y = x):=⟨by unfold orI; rw [if_neg hx]⟩
    clear hx
    go_wp2_with fail
    go_ret
    exact ⟨by rw [HO.out]; rfl,rfl⟩
  ·subst hx
   by_cases hy : y = 0
   ·subst hy
    go_wp2_with fail
    exact ⟨⟨Or.inr (Or.inr ⟨rfl,trivial,trivial⟩),trivial⟩,by simp [intOf]⟩
   ·have d1 : (y == 0) = false:=beq_eq_false_iff_ne.2 hy
    clear hy
    go_wp2_with fail
    go_ret
    exact ⟨rfl,rfl⟩
  ·subst hx hy
   go_wp2_with fail
   go_ret
   exact ⟨rfl,rfl⟩
def cpV (a b : Vs) : Int:=orI (bcmp a.key b.key) (icmp a.seq b.seq)
theorem cpV_neg {a b : Vs} : cpV a b < 0 ↔ ltv a b:=by
 unfold cpV orI icmp ltv
 rcases tri a.key b.key with h | h | h
 ·have : bcmp a.key b.key = -1:=h
  rw [this]; simp; exact .inl h
 ·have : bcmp a.key b.key = 0:=by rw [h,bcmp_self]
  rw [this]
  simp only [↓reduceIte,h,true_and]
  by_cases q : a.seq < b.seq
  ·simp [q]
  ·by_cases q2 : b.seq < a.seq <;> simp [q,q2,lt_irrefl]
 ·have e : bcmp a.key b.key = 1:=by rw [bcmp_neg b.key a.key,h]; rfl
  rw [e]
  have hn : ¬ a.key = b.key:=fun q => by rw [q] at h; exact lt_irrefl h
  simp [hn,e]
set_option maxHeartbeats 4000000 in
theorem canonical_any (u v : Vs) (w : World) (a : Option Addr) (n c : Nat) (a' : Option Addr) (n' c' : Nat) :
  Calls Tryz.prog 109 #[vv u.key u.seq u.mkr u.data a n c,vv v.key v.seq v.mkr v.data a' n' c'] w fun e w' => e = .returned (.int .i64 (cpV u v)) ∧ Below w.heap.size w w':=by
 have h1:=fun w => cmpS_any u.key v.key w
 have h2:=fun w => cmpI_any u.seq v.seq w
 have h3 : ∀ w : World,Calls Tryz.prog 90 #[.slice (some ⟨w.heap.size,0,none⟩) 2 2] (w.alloc (.cells #[.int .i64 (bcmp u.key v.key),.int .i64 (icmp u.seq v.seq)] 3)).drew fun e w' => e = .returned (.int .i64 (cpV u v)) ∧ w' = (w.alloc (.cells #[.int .i64 (bcmp u.key v.key),.int .i64 (icmp u.seq v.seq)] 3)).drew:=fun w => cmpOr_any _ _ _ _ (by show (w.alloc _).cell? _ = _; rw [cell_of_row _ _ _ _ _ _ (heap_alloc_new w _)]; rfl) (by show (w.alloc _).cell? _ = _; rw [cell_of_row _ _ _ _ _ _ (heap_alloc_new w _)]; rfl)
 generalize cpV u v = CP at *
 generalize bcmp u.key v.key = X at *
 generalize icmp u.seq v.seq = Y at *
 have b1:=(Below.refl w.heap.size w).alloc (Nat.le_refl _) (.cells #[str u.key,.int .i64 u.seq,.bool u.mkr,str u.data,.slice a n c] 62)
 have b2:=b1.alloc b1.size (.cells #[str v.key,.int .i64 v.seq,.bool v.mkr,str v.data,.slice a' n' c'] 62)
 have hsz : ((w.alloc (.cells #[str u.key,.int .i64 u.seq,.bool u.mkr,str u.data,.slice a n c] 62)).alloc (.cells #[str v.key,.int .i64 v.seq,.bool v.mkr,str v.data,.slice a' n' c'] 62)).heap.size = w.heap.size + 2:=by simp
 have x0 : Bv ((w.alloc (.cells #[str u.key,.int .i64 u.seq,.bool u.mkr,str u.data,.slice a n c] 62)).alloc (.cells #[str v.key,.int .i64 v.seq,.bool v.mkr,str v.data,.slice a' n' c'] 62)) w.heap.size (str u.key) (.int .i64 u.seq) (.bool u.mkr) (str u.data) (.slice a n c):=(Bv.new w _ _ _ _ _).later ((Below.refl _ _).alloc (Nat.le_refl _) _)
 have y0 : Bv ((w.alloc (.cells #[str u.key,.int .i64 u.seq,.bool u.mkr,str u.data,.slice a n c] 62)).alloc (.cells #[str v.key,.int .i64 v.seq,.bool v.mkr,str v.data,.slice a' n' c'] 62)) (w.heap.size + 1) (str v.key) (.int .i64 v.seq) (.bool v.mkr) (str v.data) (.slice a' n' c'):=by
  have:=Bv.new (w.alloc (.cells #[str u.key,.int .i64 u.seq,.bool u.mkr,str u.data,.slice a n c] 62)) (str v.key) (.int .i64 v.seq) (.bool v.mkr) (str v.data) (.slice a' n' c')
  rwa [World.size_alloc] at this
 go_enter Tryz.func109,Tryz.ntmps109
 go_wp2_with fail
 generalize (w.alloc (.cells #[str u.key,.int .i64 u.seq,.bool u.mkr,str u.data,.slice a n c] 62)).alloc (.cells #[str v.key,.int .i64 v.seq,.bool v.mkr,str v.data,.slice a' n' c'] 62) = W2 at *
 have HS : Hid (∀ w',Below (w.heap.size + 2) W2 w' → Below (w.heap.size + 2) W2 w' ∧ w'.cell? ⟨w.heap.size,0,none⟩ = some (str u.key) ∧ w'.cell? ⟨w.heap.size,1,none⟩ = some (.int .i64 u.seq) ∧ w'.cell? ⟨w.heap.size + 1,0,none⟩ = some (str v.key) ∧ w'.cell? ⟨w.heap.size + 1,1,none⟩ = some (.int .i64 v.seq)):=⟨fun w' h => by
  rw [← hsz] at h
  obtain ⟨g0,g1,_⟩:=(x0.later h).cells
  obtain ⟨t0,t1,_⟩:=(y0.later h).cells
  rw [hsz] at h
  exact ⟨h,g0,g1,t0,t1⟩⟩
 have HZ : Hid (∀ w',Below (w.heap.size + 2) W2 w' → w.heap.size + 2 ≤ w'.heap.size):=⟨fun w' h => by rw [← hsz]; exact h.size⟩
 clear x0 y0 hsz b1
 go_region_held3 (fun w' => Below (w.heap.size + 2) W2 w' ∧ w'.cell? ⟨w.heap.size,0,none⟩ = some (str u.key) ∧ w'.cell? ⟨w.heap.size,1,none⟩ = some (.int .i64 u.seq) ∧ w'.cell? ⟨w.heap.size + 1,0,none⟩ = some (str v.key) ∧ w'.cell? ⟨w.heap.size + 1,1,none⟩ = some (.int .i64 v.seq)) (first
  | exact HS.out _ (Below.refl _ _).drew
  | assumption
  | exact HS.out _ (Below.alloc (And.left (by assumption)) (HZ.out _ (And.left (by assumption))) _)) (first
  | (go_at_call 91; with_reducible refine Calls.mono (h1 _) ?_; rintro e w3 ⟨rfl,rfl⟩)
  | (go_at_call 92; with_reducible refine Calls.mono (h2 _) ?_; rintro e w4 ⟨rfl,rfl⟩)
  | (go_at_call 90; with_reducible refine Calls.mono (h3 _) ?_; rintro e w5 ⟨rfl,rfl⟩))
 all_goals (
  have hbw : Below (w.heap.size + 2) W2 (W2.alloc (.cells #[.int .i64 X,.int .i64 Y] 3)).drew:=And.left (by assumption)
  go_wp2_with fail
  go_ret
  exact ⟨rfl,b2.trans (hbw.mono (by omega))⟩)
end
section
open Go.RowKit
attribute [local go_sem ↓] Go.wp_at_zero Go.wp_at_succ
def Asc (L : List Vs) : Prop := ∀ (i : Nat) (a b : Vs),L[i]? = some a → L[i + 1]? = some b → ¬ ltv b a
set_option maxHeartbeats 4000000 in
theorem isSorted_any (L : List Vs) (w : World) (a : Option Addr) (n cap : Nat) (hn : L.length = n) (hS : LIn w a L) (hl : L.length ≤ 1954687338300) :
  Calls Tryz.prog 108 #[.slice a n cap,.func (.func 109) #[] #[]] w fun e w' => (∃ t : Bool,e = .returned (.bool t) ∧ (t = true ↔ Asc L)) ∧ Below w.heap.size w w':=by
 subst hn
 go_enter Tryz.func108,Tryz.ntmps108
 go_wp2_with fail
 go_loopw [5] (fun o wr => ((L.length = 0 ∧ o = .int .i64 (-1)) ∨ ∃ m : Nat,m < L.length ∧ o = .int .i64 (m : Int) ∧ Hid (∀ (j : Nat) (x y : Vs),m ≤ j → L[j]? = some x → L[j + 1]? = some y → ¬ ltv y x)) ∧ Below w.heap.size w wr) (fun o _ => (intOf o).toNat)
 case atStart =>
  refine ⟨?_,Below.refl _ _⟩
  by_cases h0 : L.length = 0
  ·left
   refine ⟨h0,?_⟩
   rw [h0]; first | rfl | (congr 1)
  ·right
   refine ⟨L.length - 1,by omega,?_,⟨fun j x y hj hx hy => ?_⟩⟩
   ·congr 1
    first | omega | (unfold wrap64; omega)
   ·have:=(List.getElem?_eq_some_iff.1 hy).1
    omega
 case round =>
  obtain ⟨h,hb⟩:=hrel
  rcases h with ⟨h0,rfl⟩ | ⟨m,hm,rfl,HM⟩
  ·have HA : Hid (Asc L):=⟨fun i a b ha => by have:=(List.getElem?_eq_some_iff.1 ha).1; omega⟩
   go_wp2_with fail
   go_ret
   exact ⟨⟨true,rfl,fun _ => HA.out,fun _ => rfl⟩,hb⟩
  ·by_cases h1 : 0 < m
   ·have d1 : decide ((0 : Int) < (m : Int)) = true:=decide_eq_true (by omega)
    obtain ⟨u,hu⟩ : ∃ u,L[m]? = some u:=⟨L[m],List.getElem?_eq_getElem hm⟩
    obtain ⟨p,hp⟩ : ∃ p : Nat,p + 1 = m:=⟨m - 1,by omega⟩
    obtain ⟨v,hv⟩ : ∃ v,L[p]? = some v:=⟨L[p]'(by omega),List.getElem?_eq_getElem (by omega)⟩
    obtain ⟨b,off,ma,mc,rfl,hbl,c0,c1,c2,c3,c4,hsl⟩:=(hS.later hb).get m u hu
    obtain ⟨b',off',ma',mc',e',hbl',c0',c1',c2',c3',c4',hsl'⟩:=(hS.later hb).get p v hv
    injection e' with e'
    injection e' with e1 e2 e3
    subst e1 e2
    have hw1 : wrap64 ((m : Int) - 1) = (p : Int):=by unfold wrap64; omega
    have hw2 : IntKind.i64.wrap ((m : Int) - 1) = (p : Int):=by rw [IntKind.wrap_i64]; omega
    have k2 : (m : Int) < (L.length : Int):=by omega
    have k3 : (p : Int) < (L.length : Int):=by omega
    have hc:=fun w => canonical_any u v w ma u.l.length mc ma' v.l.length mc'
    by_cases hq : ltv u v
    ·have d2 : decide (cpV u v < 0) = true:=decide_eq_true (cpV_neg.2 hq)
     have HA : Hid (¬ Asc L):=⟨fun h => h p v u hv (by rw [hp]; exact hu) hq⟩
     clear hq HM hu hv hsl hsl' hS hp
     generalize cpV u v = C at *
     go_wp2_with fail
     go_region_with (go_at_call 109; refine (hc _).mono ?_; rintro e w1 ⟨rfl,b1⟩)
     all_goals (
      go_wp2_with fail
      go_ret
      exact ⟨⟨false,rfl,by simp [HA.out]⟩,hb.trans (Below.trans (Below.refl _ _).drew (b1.mono hb.size))⟩)
    ·have d2 : decide (cpV u v < 0) = false:=decide_eq_false (fun h => hq (cpV_neg.1 h))
     have HN : Hid (∀ (j : Nat) (x y : Vs),p ≤ j → L[j]? = some x → L[j + 1]? = some y → ¬ ltv y x):=⟨fun j x y hj hx hy => by
      by_cases e : j = p
      ·subst e
       rw [hv] at hx
       rw [hp,hu] at hy
       cases hx; cases hy
       exact hq
      ·exact HM.out j x y (by omega) hx hy⟩
     clear hq HM hu hv hsl hsl' hS
     generalize cpV u v = C at *
     go_wp2_with fail
     go_region_with (go_at_call 109; refine (hc _).mono ?_; rintro e w1 ⟨rfl,b1⟩)
     all_goals (
      clear hc
      have hb3:=hb.trans (Below.trans (Below.refl _ _).drew (b1.mono hb.size))
      clear b1 c0 c1 c2 c3 c4 c0' c1' c2' c3' c4'
      go_wp2_with fail
      exact ⟨⟨Or.inr ⟨p,by omega,by first | rfl | (rw [hw1]; done) | go_num,HN⟩,hb3⟩,by first | (rw [hw1]; simp [intOf]; omega) | (simp [intOf]; omega)⟩)
   ·obtain rfl : m = 0:=by omega
    have HA : Hid (Asc L):=⟨fun i a b ha hb' => HM.out i a b (Nat.zero_le _) ha hb'⟩
    go_wp2_with fail
    go_ret
    exact ⟨⟨true,rfl,fun _ => HA.out,fun _ => rfl⟩,hb⟩
end
section
open Go.RowKit
attribute [local go_sem ↓] Go.wp_at_zero Go.wp_at_succ
def VOk (next : Int) (v : Vs) : Prop:=1 ≤ v.seq ∧ v.seq < next ∧ vrV v = 0
structure RtB (next : Int) (L : List Vs) : Prop where
 n1 : 1 ≤ next
 n2 : next ≤ 1099511627777
 len : L.length ≤ 256
 ok : ∀ v ∈ L,VOk next v
 srt : SrtV L
 nod : (L.map (·.seq)).Nodup
 byt : bw L ≤ 65536
theorem asc_srt {L : List Vs} (h : Asc L) (hn : (L.map (·.seq)).Nodup) : SrtV L:=srtv_of fun i a b ha hb => by
 have hne : ¬ a.seq = b.seq:=fun e => by
  obtain ⟨hi,rfl⟩:=List.getElem?_eq_some_iff.1 ha
  obtain ⟨hj,rfl⟩:=List.getElem?_eq_some_iff.1 hb
  have:=List.pairwise_iff_getElem.1 hn i (i + 1) (by simpa using hi) (by simpa using hj) (by omega)
  exact this (by simpa using e)
 have h1:=h i a b ha hb
 unfold ltv at h1 ⊢
 rcases tri a.key b.key with q | q | q
 ·exact .inl q
 ·refine .inr ⟨q,?_⟩
  rcases Int.lt_or_le a.seq b.seq with z | z
  ·exact z
  ·exact absurd (.inr ⟨q.symm,by omega⟩) h1
 ·exact absurd (.inl q) h1
theorem srt_asc {L : List Vs} (h : SrtV L) : Asc L:=fun i a b ha hb q => ltv_irrefl (ltv_trans (h.get (Nat.lt_succ_self i) ha hb) q)
set_option maxHeartbeats 8000000 in
theorem bRight_any (L : List Vs) (next : Int) (w : World) (a : Option Addr) (n cap : Nat) (hL : Li w L a n cap) :
  Calls Tryz.prog 68 #[bv next a n cap] w fun e w' => (∃ t : Bool,e = .returned (.bool t) ∧ (t = true ↔ RtB next L)) ∧ Below w.heap.size w w':=by
 obtain rfl:=hL.n
 have b0:=(Below.refl w.heap.size w).alloc (Nat.le_refl _) (.cells #[.int .i64 next,.slice a L.length cap] 24)
 have z0:=Bq.new w (.int .i64 next) (.slice a L.length cap)
 obtain ⟨p0,p1,_⟩:=z0.cells
 have hl:=hL.l
 have HL:=Hid.mk hL
 clear hL
 by_cases h1 : next < 1
 ·have d1 : decide (next < 1) = true:=decide_eq_true h1
  have HN : Hid (¬ RtB next L):=⟨fun h => by have:=h.n1; omega⟩
  clear h1
  go_enter Tryz.func68,Tryz.ntmps68
  go_wp2_with fail
  go_ret
  exact ⟨⟨false,rfl,by simp [HN.out]⟩,b0⟩
 ·have d1 : decide (next < 1) = false:=decide_eq_false h1
  by_cases h2 : 1099511627777 < next
  ·have d2 : decide (1099511627777 < next) = true:=decide_eq_true h2
   have HN : Hid (¬ RtB next L):=⟨fun h => by have:=h.n2; omega⟩
   clear h1 h2
   go_enter Tryz.func68,Tryz.ntmps68
   go_wp2_with fail
   go_ret
   exact ⟨⟨false,rfl,by simp [HN.out]⟩,b0⟩
  ·have d2 : decide (1099511627777 < next) = false:=decide_eq_false h2
   by_cases h3 : 256 < L.length
   ·have d3 : decide ((256 : Int) < (L.length : Int)) = true:=decide_eq_true (by omega)
    have HN : Hid (¬ RtB next L):=⟨fun h => by have:=h.len; omega⟩
    clear h1 h2 h3
    go_enter Tryz.func68,Tryz.ntmps68
    go_wp2_with fail
    go_ret
    exact ⟨⟨false,rfl,by simp [HN.out]⟩,b0⟩
   ·have d3 : decide ((256 : Int) < (L.length : Int)) = false:=decide_eq_false (by omega)
    go_enter Tryz.func68,Tryz.ntmps68
    go_wp2_with fail
    have HB:=Hid.mk b0
    have HZ:=Hid.mk z0
    clear p0 p1 b0 z0 d1 d2 d3
    generalize w.alloc (.cells #[.int .i64 next,.slice a L.length cap] 24) = W1 at *
    go_loopw [22] (fun i wr => ∃ k : Nat,k ≤ L.length ∧ i = .int .i64 (k : Int) ∧ Hid (∀ j v,j < k → L[j]? = some v → VOk next v) ∧ Hid (Below W1.heap.size W1 wr)) (fun i _ => L.length - (intOf i).toNat)
    case atStart => exact ⟨0,by omega,rfl,⟨fun j v hj => by omega⟩,⟨Below.refl _ _⟩⟩
    case round =>
     obtain ⟨k,hk,rfl,hV,hb⟩:=hrel
     have bwr:=HB.out.trans (hb.out.mono HB.out.size)
     have zr:=HZ.out.later hb.out
     obtain ⟨p0,p1,_⟩:=zr.cells
     by_cases hlt : k < L.length
     ·have d1 : decide ((k : Int) < (L.length : Int)) = true:=decide_eq_true (by omega)
      have k2 : (k : Int) < (L.length : Int):=by omega
      obtain ⟨u,hu⟩ : ∃ u,L[k]? = some u:=⟨L[k],List.getElem?_eq_getElem hlt⟩
      have hum:=List.mem_of_getElem? hu
      obtain ⟨b,off,ma,mc,rfl,hbl,c0,c1,c2,c3,c4,hsl⟩:=(HL.out.s.at'.later bwr).get k u hu
      have hzu:=HL.out.z u hum
      have hw1 : wrap64 ((k : Int) + 1) = ((k + 1 : Nat) : Int):=by unfold wrap64; omega
      have bx:=(Below.refl wr.heap.size wr).alloc (Nat.le_refl _) (.cells #[str u.key,.int .i64 u.seq,.bool u.mkr,str u.data,.slice ma u.l.length mc] 62)
      have zx:=zr.later bx
      obtain ⟨q0,q1,_⟩:=zx.cells
      have hvr:=fun w' (hb' : Below (wr.alloc (.cells #[str u.key,.int .i64 u.seq,.bool u.mkr,str u.data,.slice ma u.l.length mc] 62)).heap.size (wr.alloc (.cells #[str u.key,.int .i64 u.seq,.bool u.mkr,str u.data,.slice ma u.l.length mc] 62)) w') => version_any u.key u.seq u.mkr u.data u.l w' ma u.l.length mc rfl ((hsl.later bx).later hb').at' (by omega)
      have hbad : ¬ VOk next u → ¬ RtB next L:=fun h hr => h (hr.ok u hum)
      have HBX:=Hid.mk (bwr.trans (bx.mono bwr.size))
      by_cases e1 : u.seq < 1
      ·have f1 : decide (u.seq < 1) = true:=decide_eq_true e1
       have HN:=Hid.mk (hbad (fun h => by have:=h.1; omega))
       clear e1 hbad hV hu hum hsl zr zx hvr bx
       go_wp2_with fail
       go_ret
       exact ⟨⟨false,rfl,by simp [HN.out]⟩,HBX.out⟩
      ·have f1 : decide (u.seq < 1) = false:=decide_eq_false e1
       by_cases e2 : next ≤ u.seq
       ·have f2 : decide (next ≤ u.seq) = true:=decide_eq_true e2
        have HN:=Hid.mk (hbad (fun h => by have:=h.2.1; omega))
        clear e1 e2 hbad hV hu hum hsl zr zx hvr bx
        go_wp2_with fail
        go_ret
        exact ⟨⟨false,rfl,by simp [HN.out]⟩,HBX.out⟩
       ·have f2 : decide (next ≤ u.seq) = false:=decide_eq_false e2
        have hvc:=hvr _ (Below.refl _ _)
        change Calls Tryz.prog 84 _ _ (fun e w' => e = .returned (.int .i64 (vrV u)) ∧ _) at hvc
        by_cases e3 : vrV u = 0
        ·have HV' : Hid (∀ j v,j < k + 1 → L[j]? = some v → VOk next v):=⟨fun j v hj hv => by
          by_cases e : j = k
          ·subst e
           rw [hu] at hv
           injection hv with hv
           subst hv
           exact ⟨by omega,by omega,e3⟩
          ·exact hV.out j v (by omega) hv⟩
         rw [e3] at hvc
         have HBR:=Hid.mk (below_seq hb.out bx)
         clear e1 e2 e3 hbad hV hu hum hsl zr zx hvr bx
         go_wp2_with (go_at_call 84; refine hvc.mono ?_; rintro e w1 ⟨rfl,c9⟩)
         exact ⟨⟨k + 1,by omega,by first | (rw [hw1]; done) | go_num,HV',⟨below_seq HBR.out c9⟩⟩,by first | (rw [hw1]; exact Nat.sub_lt_sub_left hlt (Nat.lt_succ_self k)) | (simp [intOf]; omega)⟩
        ·have f3 : (vrV u == 0) = false:=beq_eq_false_iff_ne.2 e3
         have HN:=Hid.mk (hbad (fun h => e3 h.2.2))
         generalize vrV u = VU at *
         clear e1 e2 e3 hbad hV hu hum hsl zr zx hvr bx
         go_wp2_with (go_at_call 84; refine hvc.mono ?_; rintro e w1 ⟨rfl,c9⟩)
         go_ret
         exact ⟨⟨false,rfl,by simp [HN.out]⟩,below_seq HBX.out c9⟩
     ·obtain rfl : k = L.length:=by omega
      have d1 : decide ((L.length : Int) < (L.length : Int)) = false:=decide_eq_false (by omega)
      have hLr:=HL.out.later bwr
      have hso:=isSorted_any L wr a _ cap rfl hLr.s.at' (by omega)
      have HBW:=Hid.mk bwr
      have hall : ∀ v ∈ L,VOk next v:=fun v hv => by
       obtain ⟨j,hj,rfl⟩:=List.getElem_of_mem hv
       exact hV.out j _ hj (List.getElem?_eq_getElem hj)
      by_cases g1 : Asc L
      ·have hso' : Calls Tryz.prog 108 #[.slice a L.length cap,.func (.func 109) #[] #[]] wr fun e w' => e = .returned (.bool true) ∧ Below wr.heap.size wr w':=hso.mono (by
        rintro e w' ⟨⟨t,rfl,ht⟩,hb'⟩
        exact ⟨by rw [ht.2 g1],hb'⟩)
       have htw:=fun w' (hb' : Below wr.heap.size wr w') => seqTwice_any L w' a _ cap rfl (hLr.later hb').s.at' (by omega)
       have hcl : ∀ w',Below wr.heap.size wr w' → w'.cell? ⟨w.heap.size,0,none⟩ = some (.int .i64 next) ∧ w'.cell? ⟨w.heap.size,1,none⟩ = some (.slice a L.length cap):=fun w' hb' => by
        obtain ⟨t0,t1,_⟩:=(zr.later hb').cells
        exact ⟨t0,t1⟩
       have HCL:=Hid.mk hcl
       by_cases g2 : (L.map (·.seq)).Nodup
       ·have htw':=fun w' (hb' : Below wr.heap.size wr w') => (htw w' hb').mono (R':=fun e w'' => e = .returned (.bool false) ∧ Below w'.heap.size w' w'') (by
         rintro e w'' ⟨⟨t,rfl,ht⟩,hb''⟩
         refine ⟨?_,hb''⟩
         cases t with
         | false => rfl
         | true => exact absurd g2 (ht.1 rfl))
        have hby:=fun w' (hb' : Below wr.heap.size wr w') => bBytes_any L next w' a _ cap (hLr.later hb')
        by_cases g3 : bw L ≤ 65536
        ·have f3 : decide (bw L ≤ 65536) = true:=decide_eq_true g3
         have HR : Hid (RtB next L):=⟨⟨by omega,by omega,by omega,hall,asc_srt g1 g2,g2,g3⟩⟩
         clear hso htw hall g1 g2 g3 hcl hLr hV
         generalize bw L = BL at *
         go_wp2_with fail
         with_reducible refine Calls.mono (hso') ?_
         rintro e w1 ⟨rfl,c1⟩
         dsimp only
         have e1:=below_seq (Below.refl wr.heap.size wr) c1
         clear p0 p1 c1
         obtain ⟨p0,p1⟩:=HCL.out w1 e1
         go_wp2_with fail
         with_reducible refine Calls.mono (htw' w1 e1) ?_
         rintro e w2 ⟨rfl,c2⟩
         dsimp only
         have e2:=below_seq e1 c2
         clear p0 p1 c2
         obtain ⟨p0,p1⟩:=HCL.out w2 e2
         go_wp2_with fail
         with_reducible refine Calls.mono (hby w2 e2) ?_
         rintro e w3 ⟨rfl,c3⟩
         dsimp only
         have e3:=below_seq e2 c3
         clear p0 p1 c3
         obtain ⟨p0,p1⟩:=HCL.out w3 e3
         go_wp2_with fail
         go_ret
         exact ⟨⟨true,rfl,by simp [HR.out]⟩,below_seq HBW.out e3⟩
        ·have f3 : decide (bw L ≤ 65536) = false:=decide_eq_false g3
         have HN : Hid (¬ RtB next L):=⟨fun h => g3 h.byt⟩
         clear hso htw hall g1 g2 g3 hcl hLr hV
         generalize bw L = BL at *
         go_wp2_with fail
         with_reducible refine Calls.mono (hso') ?_
         rintro e w1 ⟨rfl,c1⟩
         dsimp only
         have e1:=below_seq (Below.refl wr.heap.size wr) c1
         clear p0 p1 c1
         obtain ⟨p0,p1⟩:=HCL.out w1 e1
         go_wp2_with fail
         with_reducible refine Calls.mono (htw' w1 e1) ?_
         rintro e w2 ⟨rfl,c2⟩
         dsimp only
         have e2:=below_seq e1 c2
         clear p0 p1 c2
         obtain ⟨p0,p1⟩:=HCL.out w2 e2
         go_wp2_with fail
         with_reducible refine Calls.mono (hby w2 e2) ?_
         rintro e w3 ⟨rfl,c3⟩
         dsimp only
         have e3:=below_seq e2 c3
         clear p0 p1 c3
         obtain ⟨p0,p1⟩:=HCL.out w3 e3
         go_wp2_with fail
         go_ret
         exact ⟨⟨false,rfl,by simp [HN.out]⟩,below_seq HBW.out e3⟩
       ·have htw':=fun w' (hb' : Below wr.heap.size wr w') => (htw w' hb').mono (R':=fun e w'' => e = .returned (.bool true) ∧ Below w'.heap.size w' w'') (by
         rintro e w'' ⟨⟨t,rfl,ht⟩,hb''⟩
         exact ⟨by rw [ht.2 g2],hb''⟩)
        have HN : Hid (¬ RtB next L):=⟨fun h => g2 h.nod⟩
        clear hso htw hall g1 g2 hcl hLr hV
        go_wp2_with fail
        with_reducible refine Calls.mono (hso') ?_
        rintro e w1 ⟨rfl,c1⟩
        dsimp only
        have e1:=below_seq (Below.refl wr.heap.size wr) c1
        clear p0 p1 c1
        obtain ⟨p0,p1⟩:=HCL.out w1 e1
        go_wp2_with fail
        with_reducible refine Calls.mono (htw' w1 e1) ?_
        rintro e w2 ⟨rfl,c2⟩
        dsimp only
        have e2:=below_seq e1 c2
        clear p0 p1 c2
        obtain ⟨p0,p1⟩:=HCL.out w2 e2
        go_wp2_with fail
        go_ret
        exact ⟨⟨false,rfl,by simp [HN.out]⟩,below_seq HBW.out e2⟩
      ·have hso' : Calls Tryz.prog 108 #[.slice a L.length cap,.func (.func 109) #[] #[]] wr fun e w' => e = .returned (.bool false) ∧ Below wr.heap.size wr w':=hso.mono (by
        rintro e w' ⟨⟨t,rfl,ht⟩,hb'⟩
        refine ⟨?_,hb'⟩
        cases t with
        | false => rfl
        | true => exact absurd (ht.1 rfl) g1)
       have hcl : ∀ w',Below wr.heap.size wr w' → w'.cell? ⟨w.heap.size,0,none⟩ = some (.int .i64 next) ∧ w'.cell? ⟨w.heap.size,1,none⟩ = some (.slice a L.length cap):=fun w' hb' => by
        obtain ⟨t0,t1,_⟩:=(zr.later hb').cells
        exact ⟨t0,t1⟩
       have HCL:=Hid.mk hcl
       have HN : Hid (¬ RtB next L):=⟨fun h => g1 (srt_asc h.srt)⟩
       clear hso hall g1 hcl hLr hV
       go_wp2_with fail
       with_reducible refine Calls.mono (hso') ?_
       rintro e w1 ⟨rfl,c1⟩
       dsimp only
       have e1:=below_seq (Below.refl wr.heap.size wr) c1
       clear p0 p1 c1
       obtain ⟨p0,p1⟩:=HCL.out w1 e1
       go_wp2_with fail
       go_ret
       exact ⟨⟨false,rfl,by simp [HN.out]⟩,below_seq HBW.out e1⟩
end
section
open Go.RowKit
attribute [local go_sem ↓] Go.wp_at_zero Go.wp_at_succ
noncomputable def ahB (u v : Vs) : Bool:=by classical exact decide (ltv u v)
theorem ahead_any (u v : Vs) (w : World) (a : Option Addr) (n c : Nat) (a' : Option Addr) (n' c' : Nat) :
  Calls Tryz.prog 73 #[vv u.key u.seq u.mkr u.data a n c,vv v.key v.seq v.mkr v.data a' n' c'] w fun e w' => e = .returned (.bool (ahB u v)) ∧ Below w.heap.size w w':=by
 have b1:=(Below.refl w.heap.size w).alloc (Nat.le_refl _) (.cells #[str u.key,.int .i64 u.seq,.bool u.mkr,str u.data,.slice a n c] 62)
 have b2:=b1.alloc b1.size (.cells #[str v.key,.int .i64 v.seq,.bool v.mkr,str v.data,.slice a' n' c'] 62)
 clear b1
 by_cases hk : u.key = v.key
 ·have HA : Hid (ahB u v = decide (u.seq < v.seq)):=⟨by
   unfold ahB ltv
   simp [hk,lt_irrefl]⟩
  rw [hk]
  rw [hk] at b2
  go_enter Tryz.func73,Tryz.ntmps73
  go_wp2_with fail
  go_ret
  exact ⟨by rw [HA.out]; rfl,b2⟩
 ·have HA : Hid (ahB u v = Go.Op.bytesLess u.key v.key):=⟨by
   unfold ahB ltv
   rw [bytesLess_eq]
   simp [hk]⟩
  have d1 : (u.key == v.key) = false:=beq_eq_false_iff_ne.2 hk
  go_enter Tryz.func73,Tryz.ntmps73
  go_wp2_with fail
  go_ret
  exact ⟨by rw [HA.out]; rfl,b2⟩
def Pz (l : List En) : Prop := ∀ (k : Nat) (e : En),l[k]? = some e → e.key.length ≤ 9223372036854775806 ∧ e.val.length ≤ 9223372036854775806
theorem vrV_iff {v : Vs} : vrV v = 0 ↔ (keyE v.key = 0 ∧ datE v.data = 0 ∧ mtE v.l = 0) ∧ (v.mkr = true → v.data = [] ∧ v.l = []):=by
 unfold vrV vrE
 by_cases h1 : keyE v.key = 0
 ·rw [if_neg (by simpa using h1)]
  by_cases h2 : (v.mkr = true ∧ ¬ v.data = []) ∨ ¬ datE v.data = 0
  ·rw [if_pos h2]
   refine ⟨fun h => by omega,fun ⟨⟨_,q2,_⟩,q4⟩ => ?_⟩
   rcases h2 with ⟨z1,z2⟩ | z
   ·exact absurd (q4 z1).1 z2
   ·exact absurd q2 z
  ·rw [if_neg h2]
   by_cases h3 : v.mkr = true ∧ 1 ≤ v.l.length
   ·rw [if_pos h3]
    refine ⟨fun h => by omega,fun ⟨_,q4⟩ => ?_⟩
    have:=(q4 h3.1).2
    rw [this] at h3
    simp at h3
   ·rw [if_neg h3]
    have h4 : datE v.data = 0:=by
     rcases datE_or v.data with q | q
     ·exact q
     ·exact absurd (.inr (by omega)) h2
    refine ⟨fun h => ⟨⟨h1,h4,h⟩,fun hm => ⟨?_,?_⟩⟩,fun h => h.1.2.2⟩
    ·by_cases q : v.data = []
     ·exact q
     ·exact absurd (.inl ⟨hm,q⟩) h2
    ·by_cases q : v.l = []
     ·exact q
     ·exact absurd ⟨hm,by have:=List.length_pos_iff.2 q; omega⟩ h3
 ·rw [if_pos (by simpa using h1)]
  exact ⟨fun h => by omega,fun h => absurd h.1.1 h1⟩
set_option maxHeartbeats 4000000 in
theorem well_any (v : Vs) (w : World) (a : Option Addr) (n cap : Nat) (hV : Vi w v a n cap) (hz : Pz v.l) :
  Calls Tryz.prog 72 #[vv v.key v.seq v.mkr v.data a n cap] w fun e w' => (∃ t : Bool,e = .returned (.bool t) ∧ (t = true ↔ vrV v = 0)) ∧ Below w.heap.size w w':=by
 obtain rfl:=hV.n
 have b1:=(Below.refl w.heap.size w).alloc (Nat.le_refl _) (.cells #[str v.key,.int .i64 v.seq,.bool v.mkr,str v.data,.slice a v.l.length cap] 62)
 have h1:=fun w => rKey_any v.key w
 have h2:=fun w => rData_any v.data w
 have h3:=rMeta_any v.l _ a _ cap rfl (hV.later b1).s.at' hz (by have:=hV.z; omega)
 have HI:=Hid.mk (vrV_iff (v:=v))
 have z1:=Bv.new w (str v.key) (.int .i64 v.seq) (.bool v.mkr) (str v.data) (.slice a v.l.length cap)
 clear hV hz
 obtain ⟨key,seq,mkr,data,l⟩:=v
 simp only at *
 by_cases k1 : keyE key = 0
 ·rw [k1] at h1
  by_cases k2 : datE data = 0
  ·rw [k2] at h2
   by_cases k3 : mtE l = 0
   ·rw [k3] at h3
    cases mkr with
    | false =>
     go_enter Tryz.func72,Tryz.ntmps72
     go_wp2_with (first
      | (go_at_call 115; refine (h1 _).mono ?_; rintro e w0 ⟨rfl,rfl⟩)
      | (go_at_call 116; refine (h2 _).mono ?_; rintro e w0 ⟨rfl,rfl⟩)
      | (go_at_call 117; refine h3.mono ?_; rintro e w3 ⟨rfl,b3⟩; obtain ⟨p0,p1,p2,p3,p4,_⟩:=(z1.later b3).cells))
     go_ret
     exact ⟨⟨true,rfl,by rw [HI.out]; simp [k1,k2,k3]⟩,below_seq b1 b3⟩
    | true =>
     by_cases k4 : data = []
     ·subst k4
      by_cases k5 : l.length = 0
      ·have e5 : l = []:=List.eq_nil_of_length_eq_zero k5
       have d5 : ((l.length : Int) == 0) = true:=by rw [k5]; rfl
       have HX : Hid (l = []):=⟨e5⟩
       clear e5 k5
       go_enter Tryz.func72,Tryz.ntmps72
       go_wp2_with (first
        | (go_at_call 115; refine (h1 _).mono ?_; rintro e w0 ⟨rfl,rfl⟩)
        | (go_at_call 116; refine (h2 _).mono ?_; rintro e w0 ⟨rfl,rfl⟩)
        | (go_at_call 117; refine h3.mono ?_; rintro e w3 ⟨rfl,b3⟩; obtain ⟨p0,p1,p2,p3,p4,_⟩:=(z1.later b3).cells))
       go_ret
       exact ⟨⟨true,rfl,by rw [HI.out]; exact ⟨fun _ => ⟨⟨k1,k2,k3⟩,fun _ => ⟨by first | trivial | rfl,HX.out⟩⟩,fun _ => rfl⟩⟩,below_seq b1 b3⟩
      ·have d5 : ((l.length : Int) == 0) = false:=by rw [beq_eq_false_iff_ne]; omega
       have HX : Hid (¬ l = []):=⟨fun h => k5 (by rw [h]; rfl)⟩
       clear k5
       go_enter Tryz.func72,Tryz.ntmps72
       go_wp2_with (first
        | (go_at_call 115; refine (h1 _).mono ?_; rintro e w0 ⟨rfl,rfl⟩)
        | (go_at_call 116; refine (h2 _).mono ?_; rintro e w0 ⟨rfl,rfl⟩)
        | (go_at_call 117; refine h3.mono ?_; rintro e w3 ⟨rfl,b3⟩; obtain ⟨p0,p1,p2,p3,p4,_⟩:=(z1.later b3).cells))
       go_ret
       exact ⟨⟨false,rfl,by rw [HI.out]; simp [k1,k2,k3,HX.out]⟩,below_seq b1 b3⟩
     ·have d4 : data.isEmpty = false:=by simpa using k4
      have HX : Hid (¬ data = []):=⟨k4⟩
      clear k4
      go_enter Tryz.func72,Tryz.ntmps72
      go_wp2_with (first
       | (go_at_call 115; refine (h1 _).mono ?_; rintro e w0 ⟨rfl,rfl⟩)
       | (go_at_call 116; refine (h2 _).mono ?_; rintro e w0 ⟨rfl,rfl⟩)
       | (go_at_call 117; refine h3.mono ?_; rintro e w3 ⟨rfl,b3⟩; obtain ⟨p0,p1,p2,p3,p4,_⟩:=(z1.later b3).cells))
      go_ret
      exact ⟨⟨false,rfl,by rw [HI.out]; simp [k1,k2,k3,HX.out]⟩,below_seq b1 b3⟩
   ·rw [(mtE_or l).resolve_left k3] at h3
    go_enter Tryz.func72,Tryz.ntmps72
    go_wp2_with (first
     | (go_at_call 115; refine (h1 _).mono ?_; rintro e w0 ⟨rfl,rfl⟩)
     | (go_at_call 116; refine (h2 _).mono ?_; rintro e w0 ⟨rfl,rfl⟩)
     | (go_at_call 117; refine h3.mono ?_; rintro e w3 ⟨rfl,b3⟩; obtain ⟨p0,p1,p2,p3,p4,_⟩:=(z1.later b3).cells))
    go_ret
    exact ⟨⟨false,rfl,by rw [HI.out]; simp [k1,k2,k3]⟩,below_seq b1 b3⟩
  ·rw [(datE_or data).resolve_left k2] at h2
   go_enter Tryz.func72,Tryz.ntmps72
   go_wp2_with (first
    | (go_at_call 115; refine (h1 _).mono ?_; rintro e w0 ⟨rfl,rfl⟩)
    | (go_at_call 116; refine (h2 _).mono ?_; rintro e w0 ⟨rfl,rfl⟩)
    | (go_at_call 117; refine h3.mono ?_; rintro e w3 ⟨rfl,b3⟩; obtain ⟨p0,p1,p2,p3,p4,_⟩:=(z1.later b3).cells))
   go_ret
   exact ⟨⟨false,rfl,by rw [HI.out]; simp [k1,k2]⟩,b1⟩
 ·rw [(keyE_or key).resolve_left k1] at h1
  go_enter Tryz.func72,Tryz.ntmps72
  go_wp2_with (first
   | (go_at_call 115; refine (h1 _).mono ?_; rintro e w0 ⟨rfl,rfl⟩)
   | (go_at_call 116; refine (h2 _).mono ?_; rintro e w0 ⟨rfl,rfl⟩)
   | (go_at_call 117; refine h3.mono ?_; rintro e w3 ⟨rfl,b3⟩; obtain ⟨p0,p1,p2,p3,p4,_⟩:=(z1.later b3).cells))
  go_ret
  exact ⟨⟨false,rfl,by rw [HI.out]; simp [k1]⟩,b1⟩
end
section
open Go.RowKit
def szN (v : Vs) : Nat:=32 + v.key.length + v.data.length + tt v.l
def sN (L : List Vs) : Nat:=(L.map szN).sum
theorem szV_eq (v : Vs) : szV v = wrap64 (szN v : Int):=rfl
theorem tt_le {l : List En} (h : ∀ p ∈ l,prb p = true) : tt l ≤ 80 * l.length:=by
 induction l with
 | nil => simp [tt]
 | cons p t ih =>
  have h1:=ih fun q hq => h q (List.mem_cons_of_mem _ hq)
  have h2:=h p List.mem_cons_self
  unfold prb smN at h2
  simp at h2
  have : tt (p :: t) = p.key.length + p.val.length + tt t:=by simp [tt]
  rw [this,List.length_cons]
  omega
theorem vr_size {v : Vs} (h : vrV v = 0) : szN v ≤ 2000:=by
 obtain ⟨⟨h1,h2,h3⟩,_⟩:=vrV_iff.1 h
 unfold keyE at h1
 unfold datE at h2
 unfold mtE at h3
 split at h1
 ·split at h2
  ·split at h3
   ·rename_i q1 q2 q3
    have:=tt_le q3.2.1
    unfold szN
    omega
   ·omega
  ·omega
 ·omega
theorem wr_small {x : Int} (h0 : 0 ≤ x) (h : x ≤ 1000000000) : wrap64 x = x:=by unfold wrap64; omega
theorem foldl_sz : ∀ (L : List Vs) (s : Nat),(∀ v ∈ L,szN v ≤ 2000) → s + 2000 * L.length ≤ 1000000000 → L.foldl (fun s v => wrap64 (s + szV v)) (s : Int) = ((s + sN L : Nat) : Int)
 | [],s,_,_ => by simp [sN]
 | v :: t,s,h,hs => by
  have hv:=h v List.mem_cons_self
  rw [List.length_cons] at hs
  have e : wrap64 ((s : Int) + szV v) = ((s + szN v : Nat) : Int):=by
   rw [szV_eq]
   have e1 : wrap64 (szN v : Int) = (szN v : Int):=by unfold wrap64; omega
   rw [e1]
   unfold wrap64
   omega
  rw [List.foldl_cons,e,foldl_sz t (s + szN v) (fun u hu => h u (List.mem_cons_of_mem _ hu)) (by omega)]
  have : sN (v :: t) = szN v + sN t:=by simp [sN]
  rw [this]
  congr 1
  omega
theorem bw_eq {L : List Vs} (h : ∀ v ∈ L,vrV v = 0) (hl : L.length ≤ 300) : bw L = (sN L : Int):=by
 have:=foldl_sz L 0 (fun v hv => vr_size (h v hv)) (by omega)
 rw [Nat.zero_add] at this
 exact this
theorem parts (L : List Vs) (i : Nat) (k : List UInt8) : L = L.take i ++ gpL L i k ++ L.drop (i + ken (L.drop i) k):=by
 unfold gpL
 rw [List.append_assoc,← List.drop_drop,List.take_append_drop,List.take_append_drop]
end
section
def snL (m : Int) (L : List Vs) : List Vs:=L.filter (fun v => decide (m ≤ v.seq))
theorem fil_step {p : Vs → Bool} {L : List Vs} {k : Nat} {u : Vs} (h : L[k]? = some u) : (L.take (k + 1)).filter p = if p u = true then (L.take k).filter p ++ [u] else (L.take k).filter p:=by
 rw [takeV h,List.filter_append]
 by_cases hp : p u = true
 ·rw [if_pos hp]; simp [hp]
 ·rw [if_neg hp]; simp [hp]
theorem snL_yes {m : Int} {L : List Vs} {k : Nat} {u : Vs} (h : L[k]? = some u) (hu : m ≤ u.seq) : snL m (L.take (k + 1)) = snL m (L.take k) ++ [u]:=by
 unfold snL; rw [fil_step h,if_pos (by simpa using hu)]
theorem snL_no {m : Int} {L : List Vs} {k : Nat} {u : Vs} (h : L[k]? = some u) (hu : ¬ m ≤ u.seq) : snL m (L.take (k + 1)) = snL m (L.take k):=by
 unfold snL; rw [fil_step h,if_neg (by simpa using hu)]
theorem snL_len (m : Int) (L : List Vs) : (snL m L).length ≤ L.length:=List.length_filter_le _ _
def mg : List Vs → List Vs → List Vs
 | [],d => d
 | x :: b,[] => x :: b
 | x :: b,y :: d => if ltv y x then y :: mg (x :: b) d else x :: mg b (y :: d)
termination_by b d => b.length + d.length
theorem mg_nil (d : List Vs) : mg [] d = d:=by unfold mg; rfl
theorem mg_nil2 (b : List Vs) : mg b [] = b:=by
 cases b with
 | nil => unfold mg; rfl
 | cons x b => unfold mg; rfl
theorem mg_right {x y : Vs} {b d : List Vs} (h : ltv y x) : mg (x :: b) (y :: d) = y :: mg (x :: b) d:=by
 rw [mg,if_pos h]
theorem mg_left {x y : Vs} {b d : List Vs} (h : ¬ ltv y x) : mg (x :: b) (y :: d) = x :: mg b (y :: d):=by
 rw [mg,if_neg h]
theorem mg_perm : ∀ (n : Nat) (b d : List Vs),b.length + d.length ≤ n → (mg b d).Perm (b ++ d)
 | n,[],d,_ => by rw [mg_nil]; simp
 | n,x :: b,[],_ => by rw [mg_nil2]; simp
 | 0,x :: b,y :: d,h => by simp at h
 | n + 1,x :: b,y :: d,h => by
  simp only [List.length_cons] at h
  by_cases hq : ltv y x
  ·rw [mg_right hq]
   have:=mg_perm n (x :: b) d (by simp only [List.length_cons]; omega)
   exact (this.cons y).trans List.perm_middle.symm
  ·rw [mg_left hq]
   have:=mg_perm n b (y :: d) (by simp only [List.length_cons]; omega)
   exact this.cons x
theorem mg_perm' (b d : List Vs) : (mg b d).Perm (b ++ d):=mg_perm _ b d (Nat.le_refl _)
theorem mg_len (b d : List Vs) : (mg b d).length = b.length + d.length:=by rw [(mg_perm' b d).length_eq,List.length_append]
structure RtD (since next : Int) (L : List Vs) : Prop where
 b : RtB next L
 s1 : 1 ≤ since
 s2 : since ≤ next
 s : ∀ v ∈ L,since ≤ v.seq
theorem RtB.bws {next : Int} {L : List Vs} (h : RtB next L) : bw L = (sN L : Int):=bw_eq (fun u hu => (h.ok u hu).2.2) (by have:=h.len; omega)
end
end Go.Proofs.YtdfjlmfnkhhnjaaGreatDoor.Stk
