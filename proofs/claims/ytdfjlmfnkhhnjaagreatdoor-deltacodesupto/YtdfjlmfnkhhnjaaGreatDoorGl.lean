import Derived.Test.YtdfjlmfnkhhnjaaGreatDoorSort
import Derived.Test.YtdfjlmfnkhhnjaaGreatDoorGk
import Derived.Deep.DeepAppendWide
set_option maxRecDepth 100000
set_option linter.unusedVariables false
set_option linter.unusedSimpArgs false
namespace Go.Proofs.YtdfjlmfnkhhnjaaGreatDoor
section
open Go.RowKit
attribute [local go_sem ↓] Go.wp_at_zero Go.wp_at_succ ldIe stIe
def iv (zs : List Int) : List Value:=zs.map (.int .i64)
structure Io (base : Nat) (w : World) (v : Value) (zs : List Int) : Prop where
 own : w.ownsRow base 2 1 v zs.length (iv zs)
 le : base ≤ w.heap.size
theorem Io.nil (w : World) (base : Nat) (h : base ≤ w.heap.size) : Io base w (.slice none 0 0) []:=⟨World.ownsRow_nil _ _ _ _,h⟩
theorem Io.later {base : Nat} {w w' : World} {v : Value} {R : List Int} (h : Io base w v R) (hb : Below w.heap.size w w') : Io base w' v R:=⟨own_later h.own hb,Nat.le_trans h.le hb.size⟩
theorem infoZf : (Tryz.prog.info? 2).map (fun i => (i.zero,i.size,i.bytes)) = some (some (.int .i64 0),1,8):=by kernel_rfl
theorem infoZ : ∃ i,Tryz.prog.info? 2 = some i ∧ i.zero = some (.int .i64 0) ∧ i.size = 1 ∧ i.bytes = 8:=by
 have h:=infoZf
 cases hi : Tryz.prog.info? 2 with
 | none => rw [hi] at h; cases h
 | some i => rw [hi] at h; simp at h; exact ⟨i,rfl,h.1,h.2.1,h.2.2⟩
theorem app_i {ops : Array Oper} {rest : List Oper} {o : Oper} {a : Act} {Q : Exit → Act → World → Prop} {W : World} (hgd : o.guard = none) (s x : Operand) (ho : o.op = .call { callee := .builtin .append,args:=#[s,x],argTypes:=#[141,141] })
  {base : Nat} {w : World} {v : Value} {l : List Int} {g : Nat} (p : Int) (hW : W = w.alloc (.cells #[.int .i64 p] 2)) (hO : Io base w v l) (hg : g = w.heap.size) (hn : l.length ≤ 4500000000000)
  (hs : a.eval s = v) (hx : a.eval x = .slice (some ⟨g,0,none⟩) 1 1)
  (h : ∀ v' w',Io base w' v' (l ++ [p]) → Below base w w' → wpList Tryz.prog ops Q rest (a.put o.dst v') w') :
  wpList Tryz.prog ops Q (o :: rest) a W:=by
 obtain ⟨i0,hi0,hz0,hz1,hz2⟩:=infoZ
 subst hW hg
 have hm : maxLen = 9223372036854775807:=rfl
 refine wpList_append_own_wide _ hgd s x 141 ho base 2 i0 _ 1 8 Tryz.underlying141 hi0 hz0 hz1 hz2 rfl (by omega) v l.length (iv l) hs (hO.own.alloc _) _ 1 1 [.int .i64 p] hx rfl
  (World.news_of_block (cs:=#[.int .i64 p]) (t:=2) (fr:=(0,0)) (heap_alloc_new w _)) (by simp [Value.oneCell']) (by rw [hm]; omega) (by omega) (by have:=hO.le; simp; omega) ?_
 intro v' w' hown hgrow _
 refine h v' w' ⟨?_,?_⟩ ?_
 ·unfold iv; rw [List.map_append,List.length_append]; exact hown
 ·have:=hgrow.size; have h2:=hO.le; simp at this; omega
 ·exact ((Below.refl _ _).alloc hO.le _).trans (grown_below (hO.own.alloc _) (by have:=hO.le; simp; omega) hgrow)
theorem Io.holds {base : Nat} {w : World} {v : Value} {zs : List Int} (h : Io base w v zs) (h0 : 0 < zs.length) : ∃ g cap,v = .slice (some ⟨g,0,none⟩) zs.length cap ∧ base ≤ g ∧ g < w.heap.size ∧ zs.length ≤ cap ∧ Go.Sort.Holds (Value.int .i64) w g 0 zs.toArray:=by
 rcases h.own.2 with ⟨_,q⟩ | ⟨g,cap,cur,e,h1,h2,h3,h4,h5,h6⟩
 ·omega
 ·subst e
  refine ⟨g,cap,rfl,h1,lt_of_block h2,h3,fun j hj => ?_⟩
  have hj' : j < zs.length:=by simpa using hj
  have hc:=h.own.cellAt j (by omega)
  refine ⟨?_,frozen_of_row _ _ _ _ _ h2⟩
  rw [Nat.zero_add,hc]
  unfold iv
  rw [List.getElem?_map,List.getElem?_eq_getElem hj']
  simp [hj']
theorem Io.sl0 {base : Nat} {w : World} {v : Value} {zs : List Int} (h : Io base w v zs) (hz : zs.length = 0) : ∃ p c,v = .slice p 0 c:=by
 rcases h.own.2 with ⟨e,_⟩ | ⟨g,c,cur,e,_⟩
 ·exact ⟨_,_,e⟩
 ·rw [hz] at e; exact ⟨_,_,e⟩
theorem below_row {B : Nat} {w : World} {blk off n : Nat} (d : Array Int) (os : Array Obj) (h : B ≤ blk) (hs : B ≤ w.heap.size) : Below B w (Go.Sort.grow (Go.Sort.putRow (Value.int .i64) (Go.Sort.ahead w n) blk off d) os):=by
 refine ⟨rfl,rfl,rfl,by simp,fun k hk => ?_⟩
 have hk1 : k < w.heap.size:=by omega
 simp only [Go.Sort.grow,Go.Sort.putRow,Go.Sort.mapBlock,Go.Sort.heap_ahead]
 rw [Array.getElem?_append_left (by simpa using hk1),Array.getElem?_modify]
 rw [if_neg (by omega)]
theorem below_row0 {B : Nat} {w : World} {blk off n : Nat} (d : Array Int) (h : B ≤ blk) (hs : B ≤ w.heap.size) : Below B w (Go.Sort.putRow (Value.int .i64) (Go.Sort.ahead w n) blk off d):=by
 have:=below_row (w:=w) (off:=off) (n:=n) d #[] h hs
 rwa [Go.Sort.grow_empty] at this
theorem holds_grow {w : World} {blk off : Nat} {d : Array Int} (h : Go.Sort.Holds (Value.int .i64) w blk off d) (hb : blk < w.heap.size) (os : Array Obj) : Go.Sort.Holds (Value.int .i64) (Go.Sort.grow w os) blk off d:=fun j hj => by
 obtain ⟨h1,h2⟩:=h j hj
 have e : (Go.Sort.grow w os).heap[blk]? = w.heap[blk]?:=Array.getElem?_append_left hb
 refine ⟨?_,?_⟩
 ·unfold World.cell? at h1 ⊢
  simp only at h1 ⊢
  rw [e]; exact h1
 ·unfold World.frozen? at h2 ⊢
  simp only at h2 ⊢
  rw [e]; exact h2
theorem compact_len (s : List Int) : (Go.Lib.compact s).length ≤ s.length ∧ ((Go.Lib.compact s).length < s.length ↔ ∃ j,0 < j ∧ j < s.length ∧ s[j]? = s[j - 1]?):=by
 unfold Go.Lib.compact Go.Lib.compactUpTo
 rw [List.length_map]
 have hr : (List.range s.length).length = s.length:=List.length_range
 refine ⟨by have:=List.length_filter_le (Go.Lib.keeps s.toArray) (List.range s.length); omega,?_⟩
 have key : ∀ j,0 < j → j < s.length → (Go.Lib.keeps s.toArray j = false ↔ s[j]? = s[j - 1]?):=fun j h0 hj => by
  have hj1 : j - 1 < s.length:=by omega
  unfold Go.Lib.keeps
  rw [List.getElem?_eq_getElem hj,List.getElem?_eq_getElem hj1]
  simp [hj,hj1,Nat.ne_of_gt h0]
 constructor
 ·intro h
  have hx : ¬ ∀ x ∈ List.range s.length,Go.Lib.keeps s.toArray x = true:=fun hx => by
   rw [List.filter_eq_self.2 hx,hr] at h
   omega
  have hx2 : ∃ x,x < s.length ∧ ¬ Go.Lib.keeps s.toArray x = true:=by
   by_cases q : ∃ x,x < s.length ∧ ¬ Go.Lib.keeps s.toArray x = true
   ·exact q
   ·exact absurd (fun x hx' => by
     by_cases k : Go.Lib.keeps s.toArray x = true
     ·exact k
     ·exact absurd ⟨x,List.mem_range.1 hx',k⟩ q) hx
  obtain ⟨x,hx3,hx4⟩:=hx2
  have h0 : 0 < x:=by
   rcases Nat.eq_zero_or_pos x with e | e
   ·subst e; exact absurd (by simp [Go.Lib.keeps]) hx4
   ·exact e
  exact ⟨x,h0,hx3,(key x h0 hx3).1 (by simpa using hx4)⟩
 ·rintro ⟨j,h0,hj,he⟩
  have hk:=(key j h0 hj).2 he
  have h1:=List.length_filter_le (Go.Lib.keeps s.toArray) (List.range s.length)
  rcases Nat.lt_or_ge ((List.range s.length).filter (Go.Lib.keeps s.toArray)).length s.length with q | q
  ·exact q
  ·have e : (List.range s.length).filter (Go.Lib.keeps s.toArray) = List.range s.length:=(List.filter_sublist).eq_of_length (by omega)
   have:=(List.filter_eq_self.1 e) j (List.mem_range.2 hj)
   rw [hk] at this
   cases this
theorem compact_sorted (zs : List Int) : ((Go.Lib.compact (zs.mergeSort fun x y => decide (x ≤ y))).length < zs.length ↔ ¬ zs.Nodup):=by
 have hp:=List.mergeSort_perm zs (fun x y => decide (x ≤ y))
 have hs : (zs.mergeSort fun x y => decide (x ≤ y)).Pairwise fun x y => decide (x ≤ y) = true:=List.pairwise_mergeSort (fun a b c h1 h2 => by have:=of_decide_eq_true h1; have:=of_decide_eq_true h2; exact decide_eq_true (by omega)) (fun a b => by simp; omega) zs
 rw [← hp.length_eq,(compact_len _).2,← hp.nodup_iff]
 generalize zs.mergeSort (fun x y => decide (x ≤ y)) = t at *
 constructor
 ·rintro ⟨j,h0,hj,he⟩ hn
  have hj1 : j - 1 < t.length:=by omega
  rw [List.getElem?_eq_getElem hj,List.getElem?_eq_getElem hj1] at he
  exact List.pairwise_iff_getElem.1 hn (j - 1) j hj1 hj (by omega) (Option.some.inj he).symm
 ·intro hn
  by_cases q : ∃ j,0 < j ∧ j < t.length ∧ t[j]? = t[j - 1]?
  ·exact q
  ·refine absurd ?_ hn
   refine List.pairwise_iff_getElem.2 fun i j hi hj hij he => q ⟨j,by omega,hj,?_⟩
   have hj1 : j - 1 < t.length:=by omega
   rw [List.getElem?_eq_getElem hj,List.getElem?_eq_getElem hj1]
   have h1 : t[j - 1] ≤ t[j]:=of_decide_eq_true (List.pairwise_iff_getElem.1 hs (j - 1) j hj1 hj (by omega))
   have h2 : t[i] ≤ t[j - 1]:=by
    by_cases e : i = j - 1
    ·subst e; exact Int.le_refl _
    ·exact of_decide_eq_true (List.pairwise_iff_getElem.1 hs i (j - 1) hi hj1 (by omega))
   congr 1
   omega
set_option maxHeartbeats 4000000 in
theorem mseqTwice_any (L : List It) (w : World) (a : Option Addr) (n cap : Nat) (hn : L.length = n) (hS : IIt w a L) (hl : L.length ≤ 1954687338300) :
  Calls Tryz.prog 50 #[.slice a n cap] w fun e w' => (∃ t : Bool,e = .returned (.bool t) ∧ (t = true ↔ ¬ (L.map (·.seq)).Nodup)) ∧ Below w.heap.size w w':=by
 subst hn
 have I0:=Io.nil w w.heap.size (Nat.le_refl _)
 go_enter Tryz.func50,Tryz.ntmps50
 go_wp2_with fail
 go_loopw [3,8] (fun o i wr => ∃ k : Nat,k ≤ L.length ∧ i = .int .i64 (k : Int) ∧ Hid (Io w.heap.size wr o ((L.take k).map (·.seq))) ∧ Below w.heap.size w wr) (fun o i _ => L.length - (intOf i).toNat)
 case atStart => exact ⟨0,by omega,rfl,⟨by simpa using I0⟩,Below.refl _ _⟩
 case round =>
  clear I0
  obtain ⟨k,hk,rfl,hO,hb⟩:=hrel
  by_cases hlt : k < L.length
  ·have d1 : decide ((k : Int) < (L.length : Int)) = true:=decide_eq_true (by omega)
   have k2 : (k : Int) < (L.length : Int):=by omega
   obtain ⟨u,hu⟩ : ∃ u,L[k]? = some u:=⟨L[k],List.getElem?_eq_getElem hlt⟩
   obtain ⟨b,off,ma,mc,rfl,hbl,hr,hsl⟩:=(hS.later hb).get k u hu
   have l1:=run_ldI hr
   have s1:=run_stI wr u ma mc
   obtain ⟨p0,p1,p2,p3,p4⟩:=(Bi.new wr u ma mc).cells
   have hT : Hid ((L.take (k + 1)).map (·.seq) = (L.take k).map (·.seq) ++ [u.seq]):=⟨by rw [List.take_add_one,hu,List.map_append]; rfl⟩
   have hlk : Hid (((L.take k).map (·.seq)).length ≤ 4500000000000):=⟨by rw [List.length_map,List.length_take]; omega⟩
   have hw1 : wrap64 ((k : Int) + 1) = ((k + 1 : Nat) : Int):=by unfold wrap64; omega
   have bx:=(Below.refl wr.heap.size wr).alloc (Nat.le_refl _) (.cells (ic u ma mc).toArray 46)
   have hO1:=hO.out.later bx
   clear hu hS hsl
   go_wp2_with (refine app_i rfl _ _ rfl u.seq rfl hO1 (by simp) hlk.out rfl rfl ?_; intro v2 w2 o2 b2)
   exact ⟨⟨k + 1,by omega,by first | (rw [hw1]; done) | go_num,⟨by rw [hT.out]; exact o2⟩,(hb.trans (bx.mono hb.size)).trans b2⟩,by first | (rw [hw1]; exact Nat.sub_lt_sub_left hlt (Nat.lt_succ_self k)) | (simp [intOf]; omega)⟩
  ·obtain rfl : k = L.length:=by omega
   have d1 : decide ((L.length : Int) < (L.length : Int)) = false:=decide_eq_false (by omega)
   have hO1:=hO.out
   rw [List.take_length] at hO1
   have hlen : (L.map (·.seq)).length = L.length:=List.length_map ..
   have hcs:=compact_sorted (L.map (·.seq))
   rw [hlen] at hcs
   clear hO
   obtain ⟨zs,hzs⟩ : ∃ zs : List Int,zs = L.map (·.seq):=⟨_,rfl⟩
   rw [← hzs] at hO1 hlen hcs
   have HZ:=Hid.mk hzs
   clear hzs
   by_cases h0 : L.length = 0
   ·have hz : zs = []:=List.eq_nil_of_length_eq_zero (by omega)
    have HN : Hid (zs.Nodup):=⟨by rw [hz]; exact List.nodup_nil⟩
    obtain ⟨p,c,rfl⟩:=hO1.sl0 (by omega)
    have hso:=fun w => AnyM.slices_Sort_int_none Tryz.sortA p c w
    have hco:=fun w => AnyG.slices_Compact_int_empty Tryz.compactA p c w
    change ∀ w,Calls Tryz.prog 93 _ w _ at hso
    change ∀ w,Calls Tryz.prog 94 _ w _ at hco
    rw [h0] at d1 ⊢
    clear hS hcs hlen h0 hz hO1
    go_wp2_with (first
     | (go_at_call 93; refine (hso _).mono ?_; rintro e w1 ⟨rfl,rfl⟩)
     | (go_at_call 94; refine (hco _).mono ?_; rintro e w2 ⟨rfl,rfl⟩))
    go_ret
    exact ⟨⟨false,rfl,by rw [← HZ.out]; simp [HN.out]⟩,hb⟩
   ·obtain ⟨g,c,rfl,hg1,hg2,hg3,hH⟩:=hO1.holds (by omega)
    have hso:=AnyM.slices_Sort_int Tryz.sortA g 0 c zs wr hH hg2 (by omega)
    change Calls Tryz.prog 93 _ wr _ at hso
    have HL:=Hid.mk hlen
    have HC:=Hid.mk hcs
    clear hcs
    rw [hlen] at hso
    go_wp2_with fail
    with_reducible refine Calls.mono hso ?_
    rintro e w1 ⟨rfl,m1,os1,ew⟩
    dsimp only
    have hsl : (zs.mergeSort fun x y => decide (x ≤ y)).length = zs.length:=List.length_mergeSort _
    have hH1 : Go.Sort.Holds (Value.int .i64) w1 g 0 (zs.mergeSort fun x y => decide (x ≤ y)).toArray:=by
     have h1:=Go.Sort.holds_putRow (Value.int .i64) (Go.Sort.ahead wr m1) g 0 zs.toArray (zs.mergeSort fun x y => decide (x ≤ y)).toArray (Go.Sort.holds_ahead _ _ _ _ _ _ hH) (by simp [hsl])
     rw [ew]
     exact holds_grow h1 (by simpa using hg2) os1
    have b1 : Below w.heap.size w w1:=by
     have:=below_row (B:=w.heap.size) (w:=wr) (off:=0) (n:=m1) (zs.mergeSort fun x y => decide (x ≤ y)).toArray os1 hg1 hb.size
     rw [ew]
     exact hb.trans this
    have hg4 : g < w1.heap.size:=by rw [ew]; simp; omega
    have hcm:=AnyG.slices_Compact_int Tryz.compactA g 0 c (zs.mergeSort fun x y => decide (x ≤ y)) w1 hH1 (by omega) (by omega)
    change Calls Tryz.prog 94 _ w1 _ at hcm
    rw [hsl] at hcm
    have hcl:=(compact_len (zs.mergeSort fun x y => decide (x ≤ y))).1
    rw [hsl] at hcl
    have HB1:=Hid.mk b1
    clear hso hH hH1 b1 ew hO1 hS
    generalize (Go.Lib.compact (zs.mergeSort fun x y => decide (x ≤ y))) = CL at *
    rw [hlen] at hcm
    go_wp2_with (go_at_call 94; refine hcm.mono ?_; rintro e w2 ⟨rfl,q2,e2⟩)
    go_ret
    refine ⟨⟨_,rfl,?_⟩,?_⟩
    ·rw [← HZ.out,← HC.out]
     simp
    ·exact HB1.out.trans (below_row0 _ hg1 HB1.out.size)
end
section
open Go.RowKit
theorem bcmp_lt {a b : List UInt8} : bcmp a b < 0 ↔ lt a b:=by
 unfold lt
 rcases bcmp_cases a b with h | h | h <;> rw [h] <;> simp
theorem bef_iff {a b : It} : bef a b ↔ lt a.key b.key ∨ (a.key = b.key ∧ a.seq < b.seq):=by unfold bef; rw [bcmp_lt]
theorem bef_trans {a b c : It} (h1 : bef a b) (h2 : bef b c) : bef a c:=by
 rw [bef_iff] at *
 rcases h1 with h1 | ⟨e1,s1⟩
 ·rcases h2 with h2 | ⟨e2,s2⟩
  ·exact .inl (bcmp_trans h1 h2)
  ·exact .inl (by rw [← e2]; exact h1)
 ·rcases h2 with h2 | ⟨e2,s2⟩
  ·exact .inl (by rw [e1]; exact h2)
  ·exact .inr ⟨e1.trans e2,by omega⟩
theorem bef_asymm {a b : It} (h1 : bef a b) : ¬ bef b a:=fun h2 => by
 have:=bef_trans h1 h2
 rw [bef_iff] at this
 rcases this with q | ⟨_,q⟩
 ·exact lt_irrefl q
 ·omega
theorem bef_tri (a b : It) : bef a b ∨ (a.key = b.key ∧ a.seq = b.seq) ∨ bef b a:=by
 rw [bef_iff,bef_iff]
 rcases tri a.key b.key with h | h | h
 ·exact .inl (.inl h)
 ·by_cases q : a.seq < b.seq
  ·exact .inl (.inr ⟨h,q⟩)
  ·by_cases q2 : b.seq < a.seq
   ·exact .inr (.inr (.inr ⟨h.symm,q2⟩))
   ·exact .inr (.inl ⟨h,by omega⟩)
 ·exact .inr (.inr (.inl h))
theorem asc_pw : ∀ L : List It,AscI L → (L.map (·.seq)).Nodup → L.Pairwise bef
 | [],_,_ => List.Pairwise.nil
 | [a],_,_ => List.pairwise_singleton _ _
 | a :: b :: t,hA,hN => by
  have hab : bef a b:=by
   rcases bef_tri a b with q | ⟨_,q⟩ | q
   ·exact q
   ·simp [q] at hN
   ·exact absurd q (hA 0 a b rfl rfl)
  have ih:=asc_pw (b :: t) (fun i x y hx hy => hA (i + 1) x y (by simpa using hx) (by simpa using hy)) (by simp at hN ⊢; exact hN.2)
  refine List.Pairwise.cons (fun x hx => ?_) ih
  rcases List.mem_cons.1 hx with rfl | hx
  ·exact hab
  ·exact bef_trans hab ((List.pairwise_cons.1 ih).1 x hx)
theorem pw_asc {L : List It} (h : L.Pairwise bef) : AscI L:=fun i a b ha hb => by
 obtain ⟨h1,e1⟩:=List.getElem?_eq_some_iff.1 ha
 obtain ⟨h2,e2⟩:=List.getElem?_eq_some_iff.1 hb
 have:=List.pairwise_iff_getElem.1 h i (i + 1) h1 h2 (by omega)
 rw [e1,e2] at this
 exact bef_asymm this
theorem tt_le : ∀ l : List En,(∀ p ∈ l,prb p = true) → tt l ≤ 80 * l.length
 | [],_ => by simp [tt]
 | p :: l,h => by
  have ih:=tt_le l (fun q hq => h q (by simp [hq]))
  obtain ⟨g1,g2⟩:=prb_iff (h p (by simp))
  have g3:=(small_key g1).2.2.2
  have e : tt (p :: l) = p.key.length + p.val.length + tt l:=by simp [tt]
  rw [e,List.length_cons]
  omega
theorem rtj_sz {x : It} (h : RtJ x) : vsz x.key [] x.l + x.size = isz x ∧ 0 ≤ isz x ∧ isz x ≤ 2000:=by
 have hk:=keyE_len h.key
 have hl : tt x.l ≤ 640 ∧ 0 ≤ x.size ∧ x.size ≤ 1024:=by
  cases hm : x.mkr with
  | true =>
   obtain ⟨q1,q2⟩:=h.mk1 hm
   rw [q1,q2]
   simp [tt]
  | false =>
   obtain ⟨q1,q2,q3⟩:=h.mk0 hm
   obtain ⟨r1,r2,r3⟩:=mtE_iff q3
   have:=tt_le x.l r2
   exact ⟨by omega,q1,q2⟩
 have hv : vsz x.key [] x.l = ((32 + x.key.length + tt x.l : Nat) : Int):=by
  unfold vsz wrap64
  simp only [List.length_nil]
  omega
 unfold isz
 rw [hv]
 refine ⟨rfl,by omega,by omega⟩
theorem iw_from : ∀ (L : List It) (s : Int),(∀ x ∈ L,RtJ x) → 0 ≤ s → s + 2000 * (L.length : Int) ≤ 1000000000 → L.foldl (fun s x => wrap64 (s + wrap64 (vsz x.key [] x.l + x.size))) s = s + isum L
 | [],s,_,_,_ => by simp [isum]
 | x :: L,s,h,h0,h1 => by
  obtain ⟨e,z1,z2⟩:=rtj_sz (h x (by simp))
  rw [List.length_cons] at h1
  have e1 : wrap64 (vsz x.key [] x.l + x.size) = isz x:=by rw [e]; unfold wrap64; omega
  have e2 : wrap64 (s + isz x) = s + isz x:=by unfold wrap64; omega
  rw [List.foldl_cons,e1,e2,iw_from L (s + isz x) (fun y hy => h y (by simp [hy])) (by omega) (by omega)]
  unfold isum
  rw [List.map_cons,List.sum_cons]
  omega
theorem iw_eq {L : List It} (h : ∀ x ∈ L,RtJ x) (hl : L.length ≤ 256) : iw L = isum L:=by
 unfold iw
 rw [iw_from L 0 h (by omega) (by omega)]
 omega
theorem rtm_iff (m : Ma) : RtM m ↔ (1 ≤ m.next ∧ m.next ≤ 1099511627777 ∧ 0 ≤ m.since ∧ m.since ≤ m.next ∧ m.items.length ≤ 256) ∧ (∀ x ∈ m.items,max m.since 1 ≤ x.seq ∧ x.seq < m.next ∧ RtJ x) ∧ AscI m.items ∧ (m.items.map (·.seq)).Nodup ∧ iw m.items ≤ 65536:=by
 constructor
 ·intro h
  have hj : ∀ x ∈ m.items,RtJ x:=fun x hx => ⟨(h.it x hx).key,(h.it x hx).mk1,(h.it x hx).mk0⟩
  refine ⟨⟨h.n1,h.n2,h.c1,h.c2,h.len⟩,fun x hx => ⟨?_,(h.it x hx).s2,hj x hx⟩,pw_asc h.srt,h.nod,by rw [iw_eq hj h.len]; exact h.byt⟩
  have h1:=(h.it x hx).s1
  have h2:=(h.it x hx).s3
  omega
 ·rintro ⟨⟨h1,h2,h3,h4,h5⟩,h6,h7,h8,h9⟩
  have hj : ∀ x ∈ m.items,RtJ x:=fun x hx => (h6 x hx).2.2
  refine ⟨h1,h2,h3,h4,h5,fun x hx => ?_,asc_pw _ h7 h8,h8,by rw [← iw_eq hj h5]; exact h9⟩
  obtain ⟨a1,a2,a3⟩:=h6 x hx
  exact ⟨a3.key,by omega,a2,by omega,a3.mk1,a3.mk0⟩
end
section
open Go.RowKit
attribute [local go_sem ↓] Go.wp_at_zero Go.wp_at_succ ldIe stIe
def Bm3 (w : World) (g : Nat) (s n : Int) (v : Value) : Prop:=w.heap[g]? = some (.cells #[.int .i64 s,.int .i64 n,v] 28 (0,0))
theorem Bm3.new (w : World) (s n : Int) (v : Value) : Bm3 (w.alloc (.cells #[.int .i64 s,.int .i64 n,v] 28)) w.heap.size s n v:=heap_alloc_new _ _
theorem Bm3.lt {w : World} {g : Nat} {s n : Int} {v : Value} (h : Bm3 w g s n v) : g < w.heap.size:=(Array.getElem?_eq_some_iff.1 h).1
theorem Bm3.later {w w' : World} {g : Nat} {s n : Int} {v : Value} (h : Bm3 w g s n v) (hb : Below w.heap.size w w') : Bm3 w' g s n v:=by
 have:=hb.block g h.lt
 unfold Bm3 at h ⊢
 rw [this]; exact h
theorem Bm3.cells {w : World} {g : Nat} {s n : Int} {v : Value} (h : Bm3 w g s n v) : w.cell? ⟨g,0,none⟩ = some (.int .i64 s) ∧ w.cell? ⟨g,1,none⟩ = some (.int .i64 n) ∧ w.cell? ⟨g,2,none⟩ = some v:=by
 refine ⟨?_,?_,?_⟩
 all_goals rw [cell_of_row _ _ _ _ _ _ h]; rfl
def RiP (m : Ma) (w : World) (e : Ending) (w' : World) : Prop := ∃ t,e = .returned (.bool t) ∧ (t = true ↔ RtM m) ∧ Below w.heap.size w w'
set_option maxHeartbeats 8000000 in
theorem isRight_any (m : Ma) (w : World) (a : Option Addr) (cap : Nat) (hL : IIt w a m.items) (hz : ∀ x ∈ m.items,x.l.length ≤ 4398046510976) (hl : m.items.length ≤ 1466015503700) :
  Calls Tryz.prog 24 #[.agg #[.int .i64 m.since,.int .i64 m.next,.slice a m.items.length cap]] w (RiP m w):=by
 have b0:=(Below.refl w.heap.size w).alloc (Nat.le_refl _) (.cells #[.int .i64 m.since,.int .i64 m.next,.slice a m.items.length cap] 28)
 have z0:=Hid.mk (Bm3.new w m.since m.next (.slice a m.items.length cap))
 obtain ⟨p0,p1,p2⟩:=z0.out.cells
 have HL:=Hid.mk (hL.later b0)
 have HZ:=Hid.mk hz
 have HB0:=Hid.mk b0
 have HRi:=Hid.mk (rtm_iff m)
 clear hL hz b0
 obtain ⟨since,next,items⟩:=m
 dsimp only at *
 go_enter Tryz.func24,Tryz.ntmps24
 by_cases h1 : next < 1
 ·have d1 : decide (next < 1) = true:=decide_eq_true h1
  have HN : Hid (¬ RtM ⟨since,next,items⟩):=⟨fun q => by have:=(HRi.out.1 q).1.1; omega⟩
  clear h1
  go_wp2_with fail
  go_ret
  exact ⟨_,rfl,ff HN.out,HB0.out⟩
 have d1 : decide (next < 1) = false:=decide_eq_false h1
 by_cases h2 : 1099511627777 < next
 ·have d2 : decide (1099511627777 < next) = true:=decide_eq_true h2
  have HN : Hid (¬ RtM ⟨since,next,items⟩):=⟨fun q => by have:=(HRi.out.1 q).1.2.1; omega⟩
  clear h1 h2
  go_wp2_with fail
  go_ret
  exact ⟨_,rfl,ff HN.out,HB0.out⟩
 have d2 : decide (1099511627777 < next) = false:=decide_eq_false h2
 by_cases h3 : since < 0
 ·have d3 : decide (since < 0) = true:=decide_eq_true h3
  have HN : Hid (¬ RtM ⟨since,next,items⟩):=⟨fun q => by have:=(HRi.out.1 q).1.2.2.1; omega⟩
  clear h1 h2 h3
  go_wp2_with fail
  go_ret
  exact ⟨_,rfl,ff HN.out,HB0.out⟩
 have d3 : decide (since < 0) = false:=decide_eq_false h3
 by_cases h4 : next < since
 ·have d4 : decide (next < since) = true:=decide_eq_true h4
  have HN : Hid (¬ RtM ⟨since,next,items⟩):=⟨fun q => by have:=(HRi.out.1 q).1.2.2.2.1; omega⟩
  clear h1 h2 h3 h4
  go_wp2_with fail
  go_ret
  exact ⟨_,rfl,ff HN.out,HB0.out⟩
 have d4 : decide (next < since) = false:=decide_eq_false h4
 by_cases h5 : 256 < items.length
 ·have d5 : decide (256 < (items.length : Int)) = true:=decide_eq_true (by omega)
  have d5' : decide (256 < items.length) = true:=decide_eq_true h5
  have HN : Hid (¬ RtM ⟨since,next,items⟩):=⟨fun q => by have:=(HRi.out.1 q).1.2.2.2.2; omega⟩
  clear h1 h2 h3 h4 h5
  go_wp2_with fail
  go_ret
  exact ⟨_,rfl,ff HN.out,HB0.out⟩
 have d5 : decide (256 < (items.length : Int)) = false:=decide_eq_false (by omega)
 have d5' : decide (256 < items.length) = false:=decide_eq_false h5
 have HH : Hid (1 ≤ next ∧ next ≤ 1099511627777 ∧ 0 ≤ since ∧ since ≤ next ∧ items.length ≤ 256):=⟨by omega,by omega,by omega,by omega,by omega⟩
 clear h1 h2 h3 h4 h5
 go_wp2_with fail
 clear d1 d2 d3 d4 d5 d5' p0 p1 p2
 generalize w.alloc (.cells #[.int .i64 since,.int .i64 next,.slice a items.length cap] 28) = W1 at *
 go_loopw [34] (fun i wr => ∃ k : Nat,k ≤ items.length ∧ i = .int .i64 (k : Int) ∧ Hid (∀ x ∈ items.take k,max since 1 ≤ x.seq ∧ x.seq < next ∧ RtJ x) ∧ Hid (Below W1.heap.size W1 wr)) (fun i _ => items.length - (intOf i).toNat)
 case atStart => exact ⟨0,Nat.zero_le _,rfl,⟨by simp⟩,⟨Below.refl _ _⟩⟩
 case round =>
  obtain ⟨k,hk,rfl,HT,hb⟩:=hrel
  by_cases hlt : k < items.length
  ·have d1 : decide ((k : Int) < (items.length : Int)) = true:=decide_eq_true (Int.ofNat_lt.2 hlt)
   have k2 : (k : Int) < (items.length : Int):=Int.ofNat_lt.2 hlt
   have hw1 : wrap64 ((k : Int) + 1) = ((k + 1 : Nat) : Int):=by have:=HH.out; unfold wrap64; omega
   obtain ⟨x,hx⟩ : ∃ x,items[k]? = some x:=⟨items[k],List.getElem?_eq_getElem hlt⟩
   obtain ⟨b,off,ma,mc,rfl,hbl,hr,hs⟩:=(HL.out.later hb.out).get k x hx
   have l1:=run_ldI hr
   have s1:=run_stI wr x ma mc
   have bx:=(Below.refl wr.heap.size wr).alloc (Nat.le_refl _) (.cells (ic x ma mc).toArray 46)
   have z1:=Hid.mk (Bi.new wr x ma mc)
   obtain ⟨c0,c1,c2,c3,c4⟩:=z1.out.cells
   obtain ⟨p0,p1,p2⟩:=((z0.out.later hb.out).later bx).cells
   have hri:=isRightItem_any x (wr.alloc (.cells (ic x ma mc).toArray 46)) ma mc (hs.later bx) (HZ.out x (List.mem_of_getElem? hx))
   have l2:=run_ldI z1.out.range
   have HBx : Hid (Below w.heap.size w (wr.alloc (.cells (ic x ma mc).toArray 46))):=⟨HB0.out.trans ((hb.out.trans (bx.mono hb.out.size)).mono HB0.out.size)⟩
   have HBy : Hid (Below W1.heap.size W1 (wr.alloc (.cells (ic x ma mc).toArray 46))):=⟨hb.out.trans (bx.mono hb.out.size)⟩
   have hmem:=List.mem_of_getElem? hx
   by_cases e1 : x.seq < max since 1
   ·have f1 : decide (x.seq < max since 1) = true:=decide_eq_true e1
    have HN : Hid (¬ RtM ⟨since,next,items⟩):=⟨fun q => by have:=((HRi.out.1 q).2.1 x hmem).1; omega⟩
    clear e1 hri
    go_wp2_with fail
    go_ret
    exact ⟨_,rfl,ff HN.out,HBx.out⟩
   have f1 : decide (x.seq < max since 1) = false:=decide_eq_false e1
   by_cases e2 : next ≤ x.seq
   ·have f2 : decide (next ≤ x.seq) = true:=decide_eq_true e2
    have HN : Hid (¬ RtM ⟨since,next,items⟩):=⟨fun q => by have:=((HRi.out.1 q).2.1 x hmem).2.1; omega⟩
    clear e1 e2 hri
    go_wp2_with fail
    go_ret
    exact ⟨_,rfl,ff HN.out,HBx.out⟩
   have f2 : decide (next ≤ x.seq) = false:=decide_eq_false e2
   have HE : Hid (max since 1 ≤ x.seq ∧ x.seq < next):=⟨by omega,by omega⟩
   clear e1 e2
   go_wp2_with fail
   with_reducible refine Calls.mono hri ?_
   rintro e w2 ⟨t,rfl,ht,b2⟩
   dsimp only
   have HB2 : Hid (Below w.heap.size w w2):=⟨below_seq HBx.out b2⟩
   have HB3 : Hid (Below W1.heap.size W1 w2):=⟨below_seq HBy.out b2⟩
   clear hri l1 s1 l2 c0 c1 c2 c3 c4 p0 p1 p2 bx b2 f1 f2
   cases t with
   | false =>
    have HN : Hid (¬ RtM ⟨since,next,items⟩):=⟨fun q => by have:=ht.2 ((HRi.out.1 q).2.1 x hmem).2.2; cases this⟩
    clear ht
    go_wp2_with fail
    go_ret
    exact ⟨_,rfl,ff HN.out,HB2.out⟩
   | true =>
    have HT2 : Hid (∀ y ∈ items.take (k + 1),max since 1 ≤ y.seq ∧ y.seq < next ∧ RtJ y):=⟨fun y hy => by
     rw [List.take_add_one,hx] at hy
     rcases List.mem_append.1 hy with q | q
     ·exact HT.out y q
     ·simp at q; subst q; exact ⟨HE.out.1,HE.out.2,ht.1 rfl⟩⟩
    clear ht
    go_wp2_with fail
    exact ⟨⟨k + 1,hlt,by first | (rw [hw1]; done) | rfl | go_num,HT2,HB3⟩,by first | (rw [hw1]; exact Nat.sub_lt_sub_left hlt (Nat.lt_succ_self k)) | (simp [intOf]; omega)⟩
  ·obtain rfl : k = items.length:=by omega
   have d1 : decide ((items.length : Int) < (items.length : Int)) = false:=decide_eq_false (by omega)
   have HT1 : Hid (∀ x ∈ items,max since 1 ≤ x.seq ∧ x.seq < next ∧ RtJ x):=⟨by have:=HT.out; rwa [List.take_length] at this⟩
   obtain ⟨p0,p1,p2⟩:=(z0.out.later hb.out).cells
   have hso:=isSortedI_any items wr a _ cap rfl (HL.out.later hb.out) (by have:=HH.out; omega)
   clear HT hlt hk
   go_wp2_with fail
   with_reducible refine Calls.mono hso ?_
   rintro e w2 ⟨⟨t,rfl,ht⟩,b2⟩
   dsimp only
   clear hso p0 p1 p2 d1
   have HBw : Hid (∀ w',Below W1.heap.size W1 w' → Below w.heap.size w w'):=⟨fun w' h => HB0.out.trans (h.mono HB0.out.size)⟩
   have hb2:=Hid.mk (below_seq hb.out b2)
   clear b2
   cases t with
   | false =>
    have HN : Hid (¬ RtM ⟨since,next,items⟩):=⟨fun q => by have:=ht.2 (HRi.out.1 q).2.2.1; cases this⟩
    clear ht
    go_wp2_with fail
    go_ret
    exact ⟨_,rfl,ff HN.out,HBw.out _ hb2.out⟩
   | true =>
    have Ht:=Hid.mk (ht.1 rfl)
    clear ht
    obtain ⟨p0,p1,p2⟩:=(z0.out.later hb2.out).cells
    have htw:=mseqTwice_any items w2 a _ cap rfl (HL.out.later hb2.out) (by have:=HH.out; omega)
    go_wp2_with fail
    with_reducible refine Calls.mono htw ?_
    rintro e w3 ⟨⟨t,rfl,ht⟩,b3⟩
    dsimp only
    clear htw p0 p1 p2
    have hb3:=Hid.mk (below_seq hb2.out b3)
    clear b3
    cases t with
    | true =>
     have HN : Hid (¬ RtM ⟨since,next,items⟩):=⟨fun q => ht.1 rfl (HRi.out.1 q).2.2.2.1⟩
     clear ht
     go_wp2_with fail
     go_ret
     exact ⟨_,rfl,ff HN.out,HBw.out _ hb3.out⟩
    | false =>
     have Hn : Hid ((items.map (·.seq)).Nodup):=⟨by
      by_cases q : (items.map (·.seq)).Nodup
      ·exact q
      ·have:=ht.2 q; cases this⟩
     clear ht
     obtain ⟨p0,p1,p2⟩:=(z0.out.later hb3.out).cells
     have hsz:=msize_any items w3 a cap (HL.out.later hb3.out) HZ.out (by have:=HH.out; omega)
     go_wp2_with fail
     with_reducible refine Calls.mono hsz ?_
     rintro e w4 ⟨rfl,b4⟩
     dsimp only
     clear hsz p0 p1 p2
     have hb4:=Hid.mk (below_seq hb3.out b4)
     clear b4
     by_cases hq : iw items ≤ 65536
     ·have d1 : decide (iw items ≤ 65536) = true:=decide_eq_true hq
      have HY : Hid (RtM ⟨since,next,items⟩):=⟨HRi.out.2 ⟨HH.out,HT1.out,Ht.out,Hn.out,hq⟩⟩
      clear hq
      go_wp2_with fail
      go_ret
      exact ⟨_,rfl,⟨fun _ => HY.out,fun _ => rfl⟩,HBw.out _ hb4.out⟩
     ·have d1 : decide (iw items ≤ 65536) = false:=decide_eq_false hq
      have HN : Hid (¬ RtM ⟨since,next,items⟩):=⟨fun q => hq (HRi.out.1 q).2.2.2.2⟩
      clear hq
      go_wp2_with fail
      go_ret
      exact ⟨_,rfl,ff HN.out,HBw.out _ hb4.out⟩
end
end Go.Proofs.YtdfjlmfnkhhnjaaGreatDoor
