import Derived.Test.YtdfjlmfnkhhnjaaGreatDoorMx
import Derived.Test.YtdfjlmfnkhhnjaaGreatDoorGl
import Derived.Test.YtdfjlmfnkhhnjaaGreatDoorGj
import Derived.Test.YtdfjlmfnkhhnjaaGreatDoorGm
import Derived.Deep.QuietTactic
import Derived.Test.YtdfjlmfnkhhnjaaGreatDoorGd
import Derived.Test.YtdfjlmfnkhhnjaaGreatDoorGo
set_option maxRecDepth 100000
set_option linter.unusedVariables false
set_option linter.unusedSimpArgs false
namespace Go.Proofs.YtdfjlmfnkhhnjaaGreatDoor
section
open Go.RowKit Go.Shelf
open Go.Proofs.YtdfjlmfnkhhnjaaGreatDoorP (TB)
attribute [local go_sem] Oper.semAt_some
theorem fmt_any (n : Int) (h0 : 0 ≤ n) (h1 : n ≤ 9223372036854775807) (w : World) (hT : TB w) :
  Calls Tryz.prog 145 #[.int .i64 n,.int .i64 10] w fun e w' => e = .returned (str (dec n)) ∧ Below w.heap.size w w':=by
 go_enter Tryz.func145,Tryz.ntmps145
 go_wp2_with fail
 with_reducible refine Calls.mono (Tryz.internal_strconv_FormatInt_10 n (by omega) h1 w hT.out) ?_
 rintro e w' ⟨rfl,k,os,rfl⟩
 dsimp only
 have hb : Below w.heap.size w (Go.Sort.grow (w.drewN k) os):=Lib.below_grow _ _ (Nat.le_refl _) _ _
 have he : Lib.itoa n = dec n:=by
  obtain ⟨m,rfl⟩ : ∃ m : Nat,n = m:=⟨n.toNat,by omega⟩
  rw [Lib.itoa_nonneg]; rfl
 rw [he]
 generalize Go.Sort.grow (w.drewN k) os = w2 at *
 go_wp2_with fail
 go_ret
 exact ⟨rfl,hb⟩
theorem mdecimal_any (n : Int) (h0 : 0 ≤ n) (h1 : n ≤ 9223372036854775807) (w : World) (hT : TB w) :
  Calls Tryz.prog 97 #[.int .i64 n] w fun e w' => e = .returned (str (dec n)) ∧ Below w.heap.size w w':=by
 go_enter Tryz.func97,Tryz.ntmps97
 go_wp2_with fail
 with_reducible refine Calls.mono (fmt_any n h0 h1 w hT) ?_
 rintro e w' ⟨rfl,hb⟩
 dsimp only
 go_wp2_with fail
 go_ret
 exact ⟨rfl,hb⟩
abbrev nob : Bs:=fun _ => False
theorem own_bel {J : Nat → World → Bs → Prop} (hJ : Abid J) {k : Nat} {W W' : World} {X : Bs} (h : J k W X) (b : Below W.heap.size W W') : J k W' X:=hJ.bel h b
theorem headRecords_any (s n : Int) (v : Value) (hv : v.oneCell' = true) (w : World) :
  Calls Tryz.prog 53 #[.agg #[.int .i64 s,.int .i64 n,v]] w fun e w' => e = .returned (.func (.func 96) #[] #[.pointer (some ⟨w.heap.size,0,none⟩)]) ∧ w' = w.alloc (.cells #[.int .i64 s,.int .i64 n,v] 28):=by
 go_enter Tryz.func53,Tryz.ntmps53
 go_wp2_with fail
 go_ret
 exact ⟨rfl,rfl⟩
set_option maxHeartbeats 4000000 in
theorem head_tells (m : Ma) (g : Nat) (a : Option Addr) (cap : Nat) (h0 : 0 ≤ m.since) (h1 : m.since ≤ 1099511627777) (h2 : 0 ≤ m.next) (h3 : m.next ≤ 1099511627777) (h4 : m.items.length ≤ 256) :
  Tells Tryz.prog 96 #[.pointer (some ⟨g,0,none⟩)] (headR m) (fun W => Bm3 W g m.since m.next (.slice a m.items.length cap) ∧ TB W):=by
 intro mm l J W hJ hJb hY hJ0
 have HY:=Hid.mk hY
 have HJ:=Hid.mk hJ
 have HC : Hid (∀ k W1,J k W1 nob → W1.cell? ⟨g,0,none⟩ = some (.int .i64 m.since) ∧ W1.cell? ⟨g,1,none⟩ = some (.int .i64 m.next) ∧ W1.cell? ⟨g,2,none⟩ = some (.slice a m.items.length cap) ∧ TB W1):=⟨fun k W1 h => by
  obtain ⟨p0,p1,p2⟩:=(hJb k W1 _ h).1.cells
  exact ⟨p0,p1,p2,(hJb k W1 _ h).2⟩⟩
 have H4 : Hid (m.items.length ≤ 256 ∧ 0 ≤ m.next ∧ m.next ≤ 1099511627777 ∧ 0 ≤ m.since ∧ m.since ≤ 1099511627777):=⟨h4,h2,h3,h0,h1⟩
 clear hY hJ hJb h0 h1 h2 h3 h4
 refine callsIn_of_wp Tryz.func96 rfl trivial ?_ rfl
 simp only [Tryz.ntmps96,List.size_toArray,List.length_cons,List.length_nil,Nat.reduceAdd,Nat.reduceSub,Array.replicate_succ,Array.replicate_zero,List.push_toArray,List.append_toArray,List.nil_append,List.cons_append]
 by_cases hs : m.since = 0
 ·have e : headR m = [(sKind,sFull),(sFormat,sCoffer),(sNext,dec m.next),(sCount,dec m.items.length)]:=by
   unfold headR; rw [if_pos hs,if_pos hs]; rfl
  rw [e] at HY ⊢
  obtain ⟨p0,p1,p2,_⟩:=HC.out _ _ hJ0
  rw [hs] at p0
  have Y0 : YieldAt Fence.wide (mm - 1) Tryz.prog l #[.string ⟨#[107,105,110,100]⟩,.string ⟨#[102,117,108,108]⟩] W (fun e W' => e = .returned (.bool true) ∧ J 1 W' nob ∧ Stay nob W W'):=HY.out 0 (sKind,sFull) W nob rfl hJ0 (mm - 1)
  obtain ⟨fn0,t0,as0,bo0,hy0,hR0⟩:=Y0
  gi_wp2
  clear p0 p1 p2
  clear hy0
  refine ⟨(fun h => (by cases h)),hR0.mono ?_⟩
  rintro e W1 ⟨rfl,hJ1,-⟩
  have Y1 : YieldAt Fence.wide (mm - 1) Tryz.prog l #[.string ⟨#[102,111,114,109,97,116]⟩,.string ⟨#[99,111,102,102,101,114,45,49]⟩] W1 (fun e W' => e = .returned (.bool true) ∧ J 2 W' nob ∧ Stay nob W1 W'):=HY.out 1 (sFormat,sCoffer) W1 nob rfl hJ1 (mm - 1)
  obtain ⟨fn1,t1,as1,bo1,hy1,hR1⟩:=Y1
  gi_wp2
  clear hy1
  refine ⟨(fun h => (by cases h)),hR1.mono ?_⟩
  rintro e W2 ⟨rfl,hJ2,-⟩
  obtain ⟨p0,p1,p2,hT2⟩:=HC.out _ _ hJ2
  rw [hs] at p0
  have hd:=(callsIn_wide (n:=mm - 1)).2 (mdecimal_any m.next (by have:=H4.out; omega) (by have:=H4.out; omega) W2 hT2)
  gi_wp2
  refine ⟨trivial,(fun h => (by cases h)),hd.mono ?_⟩
  rintro e V0 ⟨rfl,bb⟩
  have hV0:=own_bel HJ.out hJ2 bb
  have Y2 : YieldAt Fence.wide (mm - 1) Tryz.prog l #[.string ⟨#[110,101,120,116]⟩,str (dec m.next)] V0 (fun e W' => e = .returned (.bool true) ∧ J 3 W' nob ∧ Stay nob V0 W'):=HY.out 2 (sNext,dec m.next) V0 nob rfl hV0 (mm - 1)
  obtain ⟨fn2,t2,as2,bo2,hy2,hR2⟩:=Y2
  gi_wp2
  clear hd hT2 p0 p1 p2 bb
  clear hy2
  refine ⟨(fun h => (by cases h)),hR2.mono ?_⟩
  rintro e U0 ⟨rfl,hU0,-⟩
  obtain ⟨p0,p1,p2,hT2⟩:=HC.out _ _ hU0
  rw [hs] at p0
  have hd:=(callsIn_wide (n:=mm - 1)).2 (mdecimal_any (m.items.length : Int) (by have:=H4.out; omega) (by have:=H4.out; omega) U0 hT2)
  gi_wp2
  refine ⟨trivial,(fun h => (by cases h)),hd.mono ?_⟩
  rintro e V1 ⟨rfl,bb⟩
  have hV1:=own_bel HJ.out hU0 bb
  have Y3 : YieldAt Fence.wide (mm - 1) Tryz.prog l #[.string ⟨#[99,111,117,110,116]⟩,str (dec (m.items.length : Int))] V1 (fun e W' => e = .returned (.bool true) ∧ J 4 W' nob ∧ Stay nob V1 W'):=HY.out 3 (sCount,dec (m.items.length : Int)) V1 nob rfl hV1 (mm - 1)
  obtain ⟨fn3,t3,as3,bo3,hy3,hR3⟩:=Y3
  gi_wp2
  clear hd hT2 p0 p1 p2 bb
  clear hy3
  refine ⟨(fun h => (by cases h)),hR3.mono ?_⟩
  rintro e U1 ⟨rfl,hU1,-⟩
  gi_wp2
  go_end0
  exact ⟨⟨_,rfl⟩,hU1⟩
 ·have e : headR m = [(sKind,sDelta),(sFormat,sCoffer),(sNext,dec m.next),(sSince,dec m.since),(sCount,dec m.items.length)]:=by
   unfold headR; rw [if_neg hs,if_neg hs]; rfl
  rw [e] at HY ⊢
  have d0 : (m.since == 0) = false:=beq_eq_false_iff_ne.2 hs
  obtain ⟨p0,p1,p2,_⟩:=HC.out _ _ hJ0
  have Y0 : YieldAt Fence.wide (mm - 1) Tryz.prog l #[.string ⟨#[107,105,110,100]⟩,.string ⟨#[100,101,108,116,97]⟩] W (fun e W' => e = .returned (.bool true) ∧ J 1 W' nob ∧ Stay nob W W'):=HY.out 0 (sKind,sDelta) W nob rfl hJ0 (mm - 1)
  obtain ⟨fn0,t0,as0,bo0,hy0,hR0⟩:=Y0
  gi_wp2
  clear p0 p1 p2
  clear hy0
  refine ⟨(fun h => (by cases h)),hR0.mono ?_⟩
  rintro e W1 ⟨rfl,hJ1,-⟩
  have Y1 : YieldAt Fence.wide (mm - 1) Tryz.prog l #[.string ⟨#[102,111,114,109,97,116]⟩,.string ⟨#[99,111,102,102,101,114,45,49]⟩] W1 (fun e W' => e = .returned (.bool true) ∧ J 2 W' nob ∧ Stay nob W1 W'):=HY.out 1 (sFormat,sCoffer) W1 nob rfl hJ1 (mm - 1)
  obtain ⟨fn1,t1,as1,bo1,hy1,hR1⟩:=Y1
  gi_wp2
  clear hy1
  refine ⟨(fun h => (by cases h)),hR1.mono ?_⟩
  rintro e W2 ⟨rfl,hJ2,-⟩
  obtain ⟨p0,p1,p2,hT2⟩:=HC.out _ _ hJ2
  have hd:=(callsIn_wide (n:=mm - 1)).2 (mdecimal_any m.next (by have:=H4.out; omega) (by have:=H4.out; omega) W2 hT2)
  gi_wp2
  refine ⟨trivial,(fun h => (by cases h)),hd.mono ?_⟩
  rintro e V0 ⟨rfl,bb⟩
  have hV0:=own_bel HJ.out hJ2 bb
  have Y2 : YieldAt Fence.wide (mm - 1) Tryz.prog l #[.string ⟨#[110,101,120,116]⟩,str (dec m.next)] V0 (fun e W' => e = .returned (.bool true) ∧ J 3 W' nob ∧ Stay nob V0 W'):=HY.out 2 (sNext,dec m.next) V0 nob rfl hV0 (mm - 1)
  obtain ⟨fn2,t2,as2,bo2,hy2,hR2⟩:=Y2
  gi_wp2
  clear hd hT2 p0 p1 p2 bb
  clear hy2
  refine ⟨(fun h => (by cases h)),hR2.mono ?_⟩
  rintro e U0 ⟨rfl,hU0,-⟩
  obtain ⟨p0,p1,p2,hT2⟩:=HC.out _ _ hU0
  have hd:=(callsIn_wide (n:=mm - 1)).2 (mdecimal_any m.since (by have:=H4.out; omega) (by have:=H4.out; omega) U0 hT2)
  gi_wp2
  refine ⟨trivial,(fun h => (by cases h)),hd.mono ?_⟩
  rintro e V1 ⟨rfl,bb⟩
  have hV1:=own_bel HJ.out hU0 bb
  have Y3 : YieldAt Fence.wide (mm - 1) Tryz.prog l #[.string ⟨#[115,105,110,99,101]⟩,str (dec m.since)] V1 (fun e W' => e = .returned (.bool true) ∧ J 4 W' nob ∧ Stay nob V1 W'):=HY.out 3 (sSince,dec m.since) V1 nob rfl hV1 (mm - 1)
  obtain ⟨fn3,t3,as3,bo3,hy3,hR3⟩:=Y3
  gi_wp2
  clear hd hT2 p0 p1 p2 bb
  clear hy3
  refine ⟨(fun h => (by cases h)),hR3.mono ?_⟩
  rintro e U1 ⟨rfl,hU1,-⟩
  obtain ⟨p0,p1,p2,hT2⟩:=HC.out _ _ hU1
  have hd:=(callsIn_wide (n:=mm - 1)).2 (mdecimal_any (m.items.length : Int) (by have:=H4.out; omega) (by have:=H4.out; omega) U1 hT2)
  gi_wp2
  refine ⟨trivial,(fun h => (by cases h)),hd.mono ?_⟩
  rintro e V2 ⟨rfl,bb⟩
  have hV2:=own_bel HJ.out hU1 bb
  have Y4 : YieldAt Fence.wide (mm - 1) Tryz.prog l #[.string ⟨#[99,111,117,110,116]⟩,str (dec (m.items.length : Int))] V2 (fun e W' => e = .returned (.bool true) ∧ J 5 W' nob ∧ Stay nob V2 W'):=HY.out 4 (sCount,dec (m.items.length : Int)) V2 nob rfl hV2 (mm - 1)
  obtain ⟨fn4,t4,as4,bo4,hy4,hR4⟩:=Y4
  gi_wp2
  clear hd hT2 p0 p1 p2 bb
  clear hy4
  refine ⟨(fun h => (by cases h)),hR4.mono ?_⟩
  rintro e U2 ⟨rfl,hU2,-⟩
  gi_wp2
  go_end0
  exact ⟨⟨_,rfl⟩,hU2⟩
end
section
open Go.RowKit
attribute [local go_sem ↓] Go.wp_at_zero Go.wp_at_succ
end
section
open Go.RowKit
open Go.Proofs.YtdfjlmfnkhhnjaaGreatDoorH (hv hv_length hv_one hv_eq hv_b32 hv_inj eqb eq22 eqb_of)
noncomputable def ldH (v : Value) : Sem Value:=Instr.loadAt 44 v
theorem ldHe (v : Value) : Instr.loadAt 44 v = ldH v:=rfl
noncomputable def eqH (p q : Value) : Sem Bool:=Op.equalIn 10000 44 p q
theorem eqHe (p q : Value) : Op.equalIn 10000 44 p q = eqH p q:=rfl
theorem infoH : (Tryz.prog.info? 44).map (·.size) = some 32:=by kernel_rfl
theorem run_ldH {w : World} {g : Nat} {x : It} {a : Option Addr} {c : Nat} (h : Bj w g x a c) : (ldH (.pointer (some ⟨g,5,none⟩))).run Tryz.prog w = .ok (.agg (hv x.g).toArray) w:=by
 unfold ldH
 refine run_loadAt_mid (P:=Tryz.prog) w g 5 44 (hv x.g) _ ?_ Tryz.underlying44 rfl (by rw [hv_length]; exact infoH)
 intro j v hj
 refine h.range (5 + j) v ?_ |> fun q => by simpa using q
 unfold ic
 rw [List.getElem?_append_right (by simp)]
 simpa using hj
attribute [local go_sem ↓] Go.wp_at_zero Go.wp_at_succ ldQe stQe ldHe eqHe
end
section
open Go.RowKit Go.Shelf
open Go.Proofs.YtdfjlmfnkhhnjaaGreatDoorP (TB recd nn LEN key)
open Go.Proofs.YtdfjlmfnkhhnjaaGreatDoorH (hv hexL hv_length)
attribute [local go_sem] Oper.semAt_some
attribute [local go_sem ↓] ad9 ldHe
theorem run_ldH2 {w : World} {g : Nat} {x : It} {a : Option Addr} {c : Nat} (h : Bi w g x a c) : (ldH (.pointer (some ⟨g,5,none⟩))).run Tryz.prog w = .ok (.agg (hv x.g).toArray) w:=by
 unfold ldH
 refine run_loadAt_mid (P:=Tryz.prog) w g 5 44 (hv x.g) _ ?_ Tryz.underlying44 rfl (by rw [hv_length]; exact infoH)
 intro j v hj
 refine h.range (5 + j) v ?_ |> fun q => by simpa using q
 unfold ic
 rw [List.getElem?_append_right (by simp)]
 simpa using hj
theorem itemRecords_any (x : It) (a : Option Addr) (c : Nat) (w : World) :
  Calls Tryz.prog 54 #[.agg (ic x a c).toArray] w fun e w' => e = .returned (.func (.func 98) #[] #[.pointer (some ⟨w.heap.size,0,none⟩)]) ∧ w' = w.alloc (.cells (ic x a c).toArray 46):=by
 go_enter Tryz.func54,Tryz.ntmps54
 go_wp2_with fail
 go_ret
 exact ⟨rfl,rfl⟩
theorem item_data {x : It} (hmk : x.mkr = false) : itemR x = (sKey,x.key) :: (sSeq,dec x.seq) :: (sType,sData) :: (sSize,dec x.size) :: (metaR x.l ++ [(sLeaf,hexL x.g)]):=by
 unfold itemR
 rw [if_neg (by rw [hmk]; decide)]
 simp
theorem item_meta {x : It} (hmk : x.mkr = false) {k : Nat} {p : En} (hp : x.l[k]? = some p) : (itemR x)[4 + k]? = some (sMeta ++ p.key,p.val):=by
 have hk:=(List.getElem?_eq_some_iff.1 hp).1
 rw [item_data hmk,Nat.add_comm]
 show (metaR x.l ++ [(sLeaf,hexL x.g)])[k]? = _
 rw [List.getElem?_append_left (by simpa [metaR] using hk)]
 simp [metaR,hp]
theorem item_leaf {x : It} (hmk : x.mkr = false) : (itemR x)[4 + x.l.length]? = some (sLeaf,hexL x.g):=by
 rw [item_data hmk,Nat.add_comm]
 show (metaR x.l ++ [(sLeaf,hexL x.g)])[x.l.length]? = _
 rw [List.getElem?_append_right (by simp [metaR])]
 simp [metaR]
theorem item_len {x : It} (hmk : x.mkr = false) : (itemR x).length = 4 + x.l.length + 1:=by
 rw [item_data hmk]
 simp [metaR]
 omega
theorem item_mark {x : It} (hmk : x.mkr = true) (hl : x.l = []) : itemR x = [(sKey,x.key),(sSeq,dec x.seq),(sType,sMarker),(sLeaf,hexL x.g)]:=by
 unfold itemR
 rw [if_pos hmk,hl]
 rfl
set_option maxHeartbeats 8000000 in
theorem item_tells (m : Ma) (x : It) (hm : m.next ≤ 1099511627777) (hx : RtI m x) (g : Nat) (a : Option Addr) (c : Nat)   :
  Tells Tryz.prog 98 #[.pointer (some ⟨g,0,none⟩)] (itemR x) (fun W => Bi W g x a c ∧ Sl W a c x.l ∧ TB W):=by
 intro mm l J W hJ hJb hY hJ0
 have HY:=Hid.mk hY
 have HJ:=Hid.mk hJ
 have HC : Hid (∀ k W1,J k W1 nob → W1.cell? ⟨g,0,none⟩ = some (str x.key) ∧ W1.cell? ⟨g,1,none⟩ = some (.int .i64 x.seq) ∧ W1.cell? ⟨g,2,none⟩ = some (.bool x.mkr) ∧ W1.cell? ⟨g,3,none⟩ = some (.int .i64 x.size) ∧ W1.cell? ⟨g,4,none⟩ = some (.slice a x.l.length c) ∧ TB W1 ∧ Sl W1 a c x.l ∧ (ldH (.pointer (some ⟨g,5,none⟩))).run Tryz.prog W1 = .ok (.agg (hv x.g).toArray) W1):=⟨fun k W1 h => by
  obtain ⟨hB,hS,hT⟩:=hJb k W1 _ h
  obtain ⟨p0,p1,p2,p3,p4⟩:=hB.cells
  exact ⟨p0,p1,p2,p3,p4,hT,hS,run_ldH2 hB⟩⟩
 have H4 : Hid (1 ≤ x.seq ∧ x.seq ≤ 1099511627777):=⟨hx.s1,by have:=hx.s2; omega⟩
 have HX:=Hid.mk hx
 have hHex : ∀ W1,CallsIn Fence.wide (mm - 1) Tryz.prog 99 #[.agg (hv x.g).toArray] W1 fun e w' => e = .returned (str (hexL x.g)) ∧ Below W1.heap.size W1 w':=fun W1 => callsIn_wide.2 (by rw [Go.Proofs.YtdfjlmfnkhhnjaaGreatDoorH.hv_b32]; exact Go.Proofs.YtdfjlmfnkhhnjaaGreatDoorH.hex_any x.g W1)
 clear hY hJ hJb hm hx
 refine callsIn_of_wp Tryz.func98 rfl trivial ?_ rfl
 simp only [Tryz.ntmps98,List.size_toArray,List.length_cons,List.length_nil,Nat.reduceAdd,Nat.reduceSub,Array.replicate_succ,Array.replicate_zero,List.push_toArray,List.append_toArray,List.nil_append,List.cons_append]
 cases hmk : x.mkr with
 | true =>
  have hl:=(HX.out.mk1 hmk).2
  have e:=item_mark hmk hl
  rw [e] at HY ⊢
  obtain ⟨p0,p1,p2,p3,p4,hT2,hS2,l5⟩:=HC.out _ _ hJ0
  rw [hmk] at p2
  have Y0 : YieldAt Fence.wide (mm - 1) Tryz.prog l #[.string ⟨#[107,101,121]⟩,str x.key] W (fun e W' => e = .returned (.bool true) ∧ J (0 + 1) W' nob ∧ Stay nob W W'):=HY.out (0) (sKey,x.key) W nob rfl hJ0 (mm - 1)
  obtain ⟨fn0,t0,as0,bo0,hy0,hR0⟩:=Y0
  gi_wp2
  clear p0 p1 p2 p3 p4 hT2 hS2 l5
  clear hy0
  refine ⟨(fun h => (by cases h)),hR0.mono ?_⟩
  rintro e W1 ⟨rfl,hJ1,-⟩
  obtain ⟨p0,p1,p2,p3,p4,hT2,hS2,l5⟩:=HC.out _ _ hJ1
  rw [hmk] at p2
  have hd:=(callsIn_wide (n:=mm - 1)).2 (mdecimal_any x.seq (by have:=H4.out; omega) (by have:=H4.out; omega) W1 hT2)
  gi_wp2
  refine ⟨trivial,(fun h => (by cases h)),hd.mono ?_⟩
  rintro e V1 ⟨rfl,bb⟩
  have hV1:=own_bel HJ.out hJ1 bb
  clear bb hd
  clear p0 p1 p2 p3 p4 hT2 hS2 l5
  have Y1 : YieldAt Fence.wide (mm - 1) Tryz.prog l #[.string ⟨#[115,101,113]⟩,str (dec x.seq)] V1 (fun e W' => e = .returned (.bool true) ∧ J (1 + 1) W' nob ∧ Stay nob V1 W'):=HY.out (1) (sSeq,(dec x.seq)) V1 nob rfl hV1 (mm - 1)
  obtain ⟨fn1,t1,as1,bo1,hy1,hR1⟩:=Y1
  gi_wp2
  clear hy1
  refine ⟨(fun h => (by cases h)),hR1.mono ?_⟩
  rintro e W2 ⟨rfl,hJ2,-⟩
  obtain ⟨p0,p1,p2,p3,p4,hT2,hS2,l5⟩:=HC.out _ _ hJ2
  rw [hmk] at p2
  rw [hl] at p4
  have Y2 : YieldAt Fence.wide (mm - 1) Tryz.prog l #[.string ⟨#[116,121,112,101]⟩,.string ⟨#[109,97,114,107,101,114]⟩] W2 (fun e W' => e = .returned (.bool true) ∧ J (2 + 1) W' nob ∧ Stay nob W2 W'):=HY.out (2) (sType,sMarker) W2 nob rfl hJ2 (mm - 1)
  obtain ⟨fn2,t2,as2,bo2,hy2,hR2⟩:=Y2
  gi_wp2
  clear p0 p1 p2 p3 p4 hT2 hS2 l5
  clear hy2
  refine ⟨(fun h => (by cases h)),hR2.mono ?_⟩
  rintro e W3 ⟨rfl,hJ3,-⟩
  obtain ⟨p0,p1,p2,p3,p4,hT2,hS2,l5⟩:=HC.out _ _ hJ3
  rw [hl] at p4
  have hw0 : decide ((0 : Int) < ((List.nil : List En).length : Int)) = false:=by decide
  gi_wp2
  gi_loopw [39,3] (fun i on wr => i = .int .i64 0 ∧ on = .bool true ∧ J 3 wr nob) (fun _ _ _ => 0)
  case atStart => exact ⟨rfl,rfl,hJ3⟩
  case round =>
   clear p0 p1 p2 p3 p4 hT2 hS2 l5
   obtain ⟨rfl,rfl,hJ4⟩:=hrel
   obtain ⟨p0,p1,p2,p3,p4,hT2,hS2,l5⟩:=HC.out _ _ hJ4
   have hd:=hHex wr
   gi_wp2
   refine ⟨trivial,(fun h => (by cases h)),hd.mono ?_⟩
   rintro e V4 ⟨rfl,bb⟩
   have hV4:=own_bel HJ.out hJ4 bb
   have Y3 : YieldAt Fence.wide (mm - 1) Tryz.prog l #[.string ⟨#[108,101,97,102]⟩,str (hexL x.g)] V4 (fun e W' => e = .returned (.bool true) ∧ J (3 + 1) W' nob ∧ Stay nob V4 W'):=HY.out (3) (sLeaf,(hexL x.g)) V4 nob rfl hV4 (mm - 1)
   obtain ⟨fn3,t3,as3,bo3,hy3,hR3⟩:=Y3
   gi_wp2
   clear hy3
   refine ⟨(fun h => (by cases h)),hR3.mono ?_⟩
   rintro e W5 ⟨rfl,hJ5,-⟩
   gi_wp2
   go_end0
   exact ⟨⟨_,rfl⟩,hJ5⟩
 | false =>
  have He:=Hid.mk (item_data hmk)
  have Hm:=Hid.mk (fun k p => item_meta (k:=k) (p:=p) hmk)
  have Hf:=Hid.mk (item_leaf hmk)
  have HL:=Hid.mk (item_len hmk)
  have hz:=HX.out.mk0 hmk
  have H5 : Hid (0 ≤ x.size ∧ x.size ≤ 1024):=⟨hz.1,hz.2.1⟩
  obtain ⟨g4,g5,g6⟩:=mtE_iff hz.2.2
  have G4:=Hid.mk g4
  have HP : Hid (∀ p ∈ x.l,p.key.length ≤ 100 ∧ p.val.length ≤ 100):=⟨fun p hp => by obtain ⟨u1,u2⟩:=prb_iff (g5 p hp); obtain ⟨_,_,_,u3⟩:=small_key u1; exact ⟨by omega,by omega⟩⟩
  clear hz g4 g5 g6
  obtain ⟨p0,p1,p2,p3,p4,hT2,hS2,l5⟩:=HC.out _ _ hJ0
  rw [hmk] at p2
  have Y0 : YieldAt Fence.wide (mm - 1) Tryz.prog l #[.string ⟨#[107,101,121]⟩,str x.key] W (fun e W' => e = .returned (.bool true) ∧ J (0 + 1) W' nob ∧ Stay nob W W'):=HY.out (0) (sKey,x.key) W nob (by rw [He.out]; rfl) hJ0 (mm - 1)
  obtain ⟨fn0,t0,as0,bo0,hy0,hR0⟩:=Y0
  gi_wp2
  clear p0 p1 p2 p3 p4 hT2 hS2 l5
  clear hy0
  refine ⟨(fun h => (by cases h)),hR0.mono ?_⟩
  rintro e W1 ⟨rfl,hJ1,-⟩
  obtain ⟨p0,p1,p2,p3,p4,hT2,hS2,l5⟩:=HC.out _ _ hJ1
  rw [hmk] at p2
  have hd:=(callsIn_wide (n:=mm - 1)).2 (mdecimal_any x.seq (by have:=H4.out; omega) (by have:=H4.out; omega) W1 hT2)
  gi_wp2
  refine ⟨trivial,(fun h => (by cases h)),hd.mono ?_⟩
  rintro e V1 ⟨rfl,bb⟩
  have hV1:=own_bel HJ.out hJ1 bb
  clear bb hd
  clear p0 p1 p2 p3 p4 hT2 hS2 l5
  have Y1 : YieldAt Fence.wide (mm - 1) Tryz.prog l #[.string ⟨#[115,101,113]⟩,str (dec x.seq)] V1 (fun e W' => e = .returned (.bool true) ∧ J (1 + 1) W' nob ∧ Stay nob V1 W'):=HY.out (1) (sSeq,(dec x.seq)) V1 nob (by rw [He.out]; rfl) hV1 (mm - 1)
  obtain ⟨fn1,t1,as1,bo1,hy1,hR1⟩:=Y1
  gi_wp2
  clear hy1
  refine ⟨(fun h => (by cases h)),hR1.mono ?_⟩
  rintro e W2 ⟨rfl,hJ2,-⟩
  obtain ⟨p0,p1,p2,p3,p4,hT2,hS2,l5⟩:=HC.out _ _ hJ2
  rw [hmk] at p2
  have Y2 : YieldAt Fence.wide (mm - 1) Tryz.prog l #[.string ⟨#[116,121,112,101]⟩,.string ⟨#[100,97,116,97]⟩] W2 (fun e W' => e = .returned (.bool true) ∧ J (2 + 1) W' nob ∧ Stay nob W2 W'):=HY.out (2) (sType,sData) W2 nob (by rw [He.out]; rfl) hJ2 (mm - 1)
  obtain ⟨fn2,t2,as2,bo2,hy2,hR2⟩:=Y2
  gi_wp2
  clear p0 p1 p2 p3 p4 hT2 hS2 l5
  clear hy2
  refine ⟨(fun h => (by cases h)),hR2.mono ?_⟩
  rintro e W3 ⟨rfl,hJ3,-⟩
  have hsz:=H5.out
  obtain ⟨p0,p1,p2,p3,p4,hT2,hS2,l5⟩:=HC.out _ _ hJ3
  rw [hmk] at p2
  have hd:=(callsIn_wide (n:=mm - 1)).2 (mdecimal_any x.size (by have:=H4.out; omega) (by have:=H4.out; omega) W3 hT2)
  gi_wp2
  refine ⟨trivial,(fun h => (by cases h)),hd.mono ?_⟩
  rintro e V3 ⟨rfl,bb⟩
  have hV3:=own_bel HJ.out hJ3 bb
  clear bb hd
  clear p0 p1 p2 p3 p4 hT2 hS2 l5
  have Y3 : YieldAt Fence.wide (mm - 1) Tryz.prog l #[.string ⟨#[115,105,122,101]⟩,str (dec x.size)] V3 (fun e W' => e = .returned (.bool true) ∧ J (3 + 1) W' nob ∧ Stay nob V3 W'):=HY.out (3) (sSize,(dec x.size)) V3 nob (by rw [He.out]; rfl) hV3 (mm - 1)
  obtain ⟨fn3,t3,as3,bo3,hy3,hR3⟩:=Y3
  gi_wp2
  clear hy3
  refine ⟨(fun h => (by cases h)),hR3.mono ?_⟩
  rintro e W4 ⟨rfl,hJ4,-⟩
  obtain ⟨p0,p1,p2,p3,p4,hT2,hS2,l5⟩:=HC.out _ _ hJ4
  gi_wp2
  gi_loopw [39,3] (fun i on wr => ∃ k : Nat,k ≤ x.l.length ∧ i = .int .i64 (k : Int) ∧ on = .bool true ∧ J (4 + k) wr nob) (fun i _ _ => x.l.length - (intOf i).toNat)
  case atStart => exact ⟨0,Nat.zero_le _,rfl,rfl,hJ4⟩
  case round =>
   clear p0 p1 p2 p3 p4 hT2 hS2 l5
   clear hJ4 hV3 hJ3 hJ2 hV1 hJ1 hJ0
   obtain ⟨k,hk,rfl,rfl,hJk⟩:=hrel
   obtain ⟨p0,p1,p2,p3,p4,hT2,hS2,l5⟩:=HC.out _ _ hJk
   by_cases hlt : k < x.l.length
   ·have hd : decide ((k : Int) < (x.l.length : Int)) = true:=decide_eq_true (by omega)
    have k2 : (k : Int) < (x.l.length : Int):=by omega
    obtain ⟨p,hp⟩ : ∃ p,x.l[k]? = some p:=⟨x.l[k],List.getElem?_eq_getElem hlt⟩
    obtain ⟨b,off,hab,hbl,c0,c1⟩:=hS2.at'.get k p hp
    subst hab
    have hpl:=HP.out p (List.mem_of_getElem? hp)
    have r0 : ∀ w,(adS (.string ⟨#[109,101,116,97,46]⟩) (str p.key)).run Tryz.prog w = .ok (str (sMeta ++ p.key)) w:=fun w => run_ad sMeta p.key (by simp [sMeta]; omega) w
    have hw1 : wrap64 ((k : Int) + 1) = ((k + 1 : Nat) : Int):=by have:=G4.out; unfold wrap64; omega
    have hV:=own_bel HJ.out hJk ((Below.refl _ _).alloc (Nat.le_refl _) (.cells #[str p.key,str p.val] 49))
    have Y4 : YieldAt Fence.wide (mm - 1) Tryz.prog l #[str (sMeta ++ p.key),str p.val] (wr.alloc (.cells #[str p.key,str p.val] 49)) (fun e W' => e = .returned (.bool true) ∧ J (4 + k + 1) W' nob ∧ Stay nob (wr.alloc (.cells #[str p.key,str p.val] 49)) W'):=HY.out (4 + k) (sMeta ++ p.key,p.val) _ nob (Hm.out k p hp) hV (mm - 1)
    obtain ⟨fn4,t4,as4,bo4,hy4,hR4⟩:=Y4
    generalize sMeta ++ p.key = NK at *
    gi_wp2
    clear p0 p1 p2 p3 p4 hT2 hS2 l5
    clear hy4
    refine ⟨(fun h => (by cases h)),hR4.mono ?_⟩
    rintro e W5 ⟨rfl,hJ5,-⟩
    gi_wp2
    go_roundw
    case rel => exact ⟨k + 1,hlt,by first | (rw [hw1]; done) | rfl | go_num,rfl,hJ5⟩
    case measure => first | (rw [hw1]; exact Nat.sub_lt_sub_left hlt (Nat.lt_succ_self k)) | (simp [intOf]; omega)
   ·obtain rfl : k = x.l.length:=by omega
    have hd0 : decide ((x.l.length : Int) < (x.l.length : Int)) = false:=decide_eq_false (by omega)
    have hd:=hHex wr
    gi_wp2
    refine ⟨trivial,(fun h => (by cases h)),hd.mono ?_⟩
    rintro e V4 ⟨rfl,bb⟩
    have hV4:=own_bel HJ.out hJk bb
    have Y5 : YieldAt Fence.wide (mm - 1) Tryz.prog l #[.string ⟨#[108,101,97,102]⟩,str (hexL x.g)] V4 (fun e W' => e = .returned (.bool true) ∧ J (4 + x.l.length + 1) W' nob ∧ Stay nob V4 W'):=HY.out (4 + x.l.length) (sLeaf,(hexL x.g)) V4 nob Hf.out hV4 (mm - 1)
    obtain ⟨fn5,t5,as5,bo5,hy5,hR5⟩:=Y5
    gi_wp2
    clear hy5
    refine ⟨(fun h => (by cases h)),hR5.mono ?_⟩
    rintro e W5 ⟨rfl,hJ5,-⟩
    gi_wp2
    go_end0
    exact ⟨⟨_,rfl⟩,by rw [HL.out]; exact hJ5⟩
end
end Go.Proofs.YtdfjlmfnkhhnjaaGreatDoor
