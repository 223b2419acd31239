import Derived.Test.YtdfjlmfnkhhnjaaGreatDoorGp
import Derived.Lib.FrozenHead
import Derived.Lib.ConvBytes
import Derived.Test.YtdfjlmfnkhhnjaaGreatDoorHa
set_option maxRecDepth 100000
set_option linter.unusedVariables false
set_option linter.unusedSimpArgs false
namespace Go.Proofs.YtdfjlmfnkhhnjaaGreatDoor
section
open Go.RowKit
theorem storeT (P : Program) (g o : Nat) (t : TypeId) (fz : Nat × Nat) : ∀ (vs : List Value) (i : Nat) (cur : Array Value) (w : World),w.heap[g]? = some (.cells cur t fz) → o + i + vs.length ≤ fz.1 → o + i + vs.length ≤ cur.size → (∀ v ∈ vs,v.oneCell' = true) →
  (storeCells ⟨g,o,none⟩ vs i).run P w = .ok () (w.setRow g (cur.toList.take (o + i) ++ vs ++ cur.toList.drop (o + i + vs.length)).toArray)
 | [],i,cur,w,hg,_,_,_ => by
  simp only [storeCells,List.append_nil,List.length_nil,Nat.add_zero,List.take_append_drop,Array.toArray_toList]
  rw [setRow_self w g cur t fz hg]
  rfl
 | v :: rest,i,cur,w,hg,hfz,hl,h1 => by
  have hi : o + i < cur.size:=by simp at hl; omega
  have hadd : (⟨g,o,none⟩ : Addr).add i = ⟨g,o + i,none⟩:=by unfold Addr.add; split <;> simp_all
  have hcell : w.cell? ⟨g,o + i,none⟩ = some cur[o + i]:=by simp [World.cell?,hg,hi]
  have hfro : w.frozen? ⟨g,o + i,none⟩ = false:=by
   obtain ⟨lo,hi'⟩:=fz
   simp only [World.frozen?,hg,Bool.and_eq_false_iff,decide_eq_false_iff_not]
   left
   simp only [List.length_cons] at hfz
   omega
  have hst : (store ((⟨g,o,none⟩ : Addr).add i) v).run P w = .ok () (w.setRow g (cur.setIfInBounds (o + i) v)):=by
   rw [hadd,run_store P w _ v _ (h1 v (by simp)),hcell]
   simp [hfro,setCell_eq_setRow w g (o + i) cur t fz v hg]
  have ih:=storeT P g o t fz rest (i + 1) (cur.setIfInBounds (o + i) v) (w.setRow g (cur.setIfInBounds (o + i) v)) (setRow_heap w g cur _ t _ hg) (by simp only [List.length_cons] at hfz; omega) (by simp at hl ⊢; omega) (fun x hx => h1 x (by simp [hx]))
  simp only [storeCells,Sem.run_bind,hst,Result.andThen_ok,ih,setRow_setRow]
  congr 3
  have e:=list_seg_step cur.toList (o + i) v rest (by simp at hl ⊢; omega)
  simpa [Array.toList_setIfInBounds,Nat.add_assoc] using e
theorem roomT {P : Program} (w : World) (t u ty e : TypeId) (i : TypeInfo) (ht : P.underlying t = some (.slice e)) (hu : P.underlying u = some .string) (hi : P.info? e = some i) (hs1 : i.size = 1)
  (g sLen sCap : Nat) (cur : Array Value) (fz : Nat × Nat) (hg : w.heap[g]? = some (.cells cur e fz)) (s : ByteArray) (hfz : sLen + s.size ≤ fz.1)
  (hroom : sLen + s.size ≤ sCap) (hfit : sLen + s.size ≤ cur.size) :
  (Builtin.append_ #[t,u] ty #[.slice (some ⟨g,0,none⟩) sLen sCap,.string s]).run P w =
   .ok (.slice (some ⟨g,0,none⟩) (sLen + s.size) sCap) (w.setRow g (cur.toList.take sLen ++ Lib.strCells s ++ cur.toList.drop (sLen + s.size)).toArray):=by
 have hf:=Lib.run_firstCells_string (P:=P) w 1 s
 have hst:=storeT P g sLen e fz (Lib.strCells s) 0 cur w hg (by simpa [Lib.strCells_length] using hfz) (by simpa [Lib.strCells_length] using hfit) (Lib.strCells_oneCell s)
 simp only [Nat.add_zero,Lib.strCells_length] at hst
 simp [Builtin.append_,run_underlying ht,run_underlying hu,sizeOf,typeInfo,hi,hs1,Builtin.lenOf,hroom,hf,Addr.add_lit,hst]
structure Mb (base : Nat) (w : World) (v : Value) (L : List UInt8) : Prop where
 row : ∃ g cap cur fz,v = .slice (some ⟨g,0,none⟩) L.length cap ∧ base ≤ g ∧ w.heap[g]? = some (.cells cur 5 fz) ∧ (fz = (0,0) ∨ cap ≤ fz.1) ∧ L.length ≤ cap ∧ cap ≤ maxLen ∧ cur.size = cap ∧ cur.toList.take L.length = vals L
 le : base ≤ w.heap.size
theorem Mb.later {base : Nat} {w w' : World} {v : Value} {L : List UInt8} (h : Mb base w v L) (hb : Below w.heap.size w w') : Mb base w' v L:=by
 obtain ⟨g,cap,cur,fz,e,h1,h2,h3⟩:=h.row
 exact ⟨⟨g,cap,cur,fz,e,h1,(hb.block g (Array.getElem?_eq_some_iff.1 h2).1).trans h2,h3⟩,Nat.le_trans h.le hb.size⟩
theorem mb_new (w : World) (l : List UInt8) (hl : l.length ≤ 1000000000000) : (convert 9 47 (str l)).run Tryz.prog w = .ok (.slice (some ⟨w.heap.size,0,none⟩) l.length (grownCap w l.length 0 5)) (Lib.bytesWorld w 5 ⟨l.toArray⟩) ∧ Mb w.heap.size (Lib.bytesWorld w 5 ⟨l.toArray⟩) (.slice (some ⟨w.heap.size,0,none⟩) l.length (grownCap w l.length 0 5)) l ∧ Below w.heap.size w (Lib.bytesWorld w 5 ⟨l.toArray⟩):=by
 have hs : (⟨l.toArray⟩ : ByteArray).size = l.length:=str_size l
 have hr:=Lib.run_convert_string_bytes (P:=Tryz.prog) w 9 47 5 ⟨l.toArray⟩ Tryz.underlying9 Tryz.underlying47 Tryz.underlying5
 have hnew:=Lib.bytesWorld_at_new w 5 ⟨l.toArray⟩
 have hge:=grownCap_ge w l.length 0 5
 have hm : maxLen = 9223372036854775807:=rfl
 have hcm : grownCap w l.length 0 5 ≤ maxLen:=grownCap_le_maxLen w _ _ _ (by rw [hm]; omega)
 have hsz : (Lib.bytesCells w 5 ⟨l.toArray⟩).size = grownCap w l.length 0 5:=by
  simp only [Lib.bytesCells,Array.size_append,Array.size_map,Array.size_replicate,hs]
  have e2 : l.toArray.size = l.length:=by simp
  rw [e2]; omega
 rw [hs] at hr
 refine ⟨hr,⟨⟨w.heap.size,grownCap w l.length 0 5,_,_,rfl,Nat.le_refl _,hnew,.inr (by rw [hsz]; exact Nat.le_refl _),hge,hcm,hsz,?_⟩,by rw [Lib.bytesWorld_size]; omega⟩,?_⟩
 ·simp [Lib.bytesCells,vals]
 ·refine ⟨rfl,rfl,rfl,by rw [Lib.bytesWorld_size]; omega,fun k hk => Lib.bytesWorld_at_old w 5 _ k hk⟩
theorem app_mb {ops : Array Oper} {rest : List Oper} {o : Oper} {a : Act} {Q : Exit → Act → World → Prop} {base : Nat} {w : World} {v : Value} {L : List UInt8} (l : List UInt8) (hO : Mb base w v L) (hn : L.length + l.length ≤ 140000000000000)
  (hgd : o.guard = none) (s x : Operand) (ho : o.op = .call { callee := .builtin .append,args:=#[s,x],argTypes:=#[47,9] })
  (hs : a.eval s = v) (hx : a.eval x = str l)
  (h : ∀ v' w',Mb base w' v' (L ++ l) → Below base w w' → wpList Tryz.prog ops Q rest (a.put o.dst v') w') : wpList Tryz.prog ops Q (o :: rest) a w:=by
 obtain ⟨i0,hi0,hz0,hz1,hz2⟩:=info5
 have hm : maxLen = 9223372036854775807:=rfl
 have hls : (⟨l.toArray⟩ : ByteArray).size = l.length:=str_size l
 obtain ⟨g,cap,cur,fz,rfl,hbg,hg,hfz,hnc,hcm,hcs,htake⟩:=hO.row
 have key : ∃ v' w',(∀ ty,(Builtin.append_ #[47,9] ty #[.slice (some ⟨g,0,none⟩) L.length cap,str l]).run Tryz.prog w = .ok v' w') ∧ Mb base w' v' (L ++ l) ∧ Below base w w':=by
  by_cases hroom : L.length + l.length ≤ cap
  ·have hr : ∀ ty,(Builtin.append_ #[47,9] ty #[.slice (some ⟨g,0,none⟩) L.length cap,str l]).run Tryz.prog w = .ok (.slice (some ⟨g,0,none⟩) (L.length + l.length) cap) (w.setRow g (cur.toList.take L.length ++ vals l ++ cur.toList.drop (L.length + l.length)).toArray):=fun ty => by
    rcases hfz with rfl | hfz
    ·have:=Lib.run_append_room_string (P:=Tryz.prog) w 47 9 ty 5 i0 Tryz.underlying47 Tryz.underlying9 hi0 hz1 g L.length cap cur hg ⟨l.toArray⟩ (by rw [hls]; exact hroom) (by rw [hls]; omega)
     rwa [hls,vals_str] at this
    ·have:=roomT (P:=Tryz.prog) w 47 9 ty 5 i0 Tryz.underlying47 Tryz.underlying9 hi0 hz1 g L.length cap cur fz hg ⟨l.toArray⟩ (by rw [hls]; omega) (by rw [hls]; exact hroom) (by rw [hls]; omega)
     rwa [hls,vals_str] at this
   refine ⟨_,_,hr,⟨⟨g,cap,_,fz,by rw [List.length_append],hbg,setRow_heap w g cur _ 5 _ hg,hfz,by rw [List.length_append]; exact hroom,hcm,?_,?_⟩,by have h2:=hO.le; simpa using h2⟩,?_⟩
   ·simp only [List.size_toArray,List.length_append,List.length_take,List.length_drop,Array.length_toList,vals_length]
    omega
   ·rw [htake,← vals_append,← vals_length (L ++ l)]
    exact List.take_left
   ·exact (Below.refl _ _).grown (row:=some g) ⟨rfl,rfl,rfl,by simp,fun k _ hk => setRow_other w g k _ (fun e => hk (by rw [e]))⟩ hO.le (fun k0 hk0 => by cases hk0; exact hbg)
  ·have holds : ∀ j u,(vals L)[j]? = some u → w.cell? ((⟨g,0,none⟩ : Addr).add j) = some u:=fun j u hu => by
    have hadd : (⟨g,0,none⟩ : Addr).add j = ⟨g,j,none⟩:=by unfold Addr.add; split <;> simp_all
    rw [hadd,cell_of_row w g j cur 5 fz hg]
    rw [← htake,List.getElem?_take] at hu
    split at hu
    ·simpa using hu
    ·cases hu
   have hr:=fun ty => Lib.run_append_grow_string (P:=Tryz.prog) w 47 9 ty 5 i0 (.int .u8 0) Tryz.underlying47 Tryz.underlying9 hi0 hz0 ⟨g,0,none⟩ L.length cap (vals L) (by rw [hz1,vals_length]; simp) holds ⟨l.toArray⟩ (by rw [hls]; omega) (by rw [hls]; omega) (by rw [hz2,hls]; exact growslice_fits_wide (by omega) (by omega))
   have hge:=grownCap_ge w (L.length + l.length) cap 5
   have hcm2 : grownCap w (L.length + l.length) cap 5 ≤ maxLen:=grownCap_le_maxLen w _ _ _ (by rw [hm]; omega)
   simp only [hls,vals_str] at hr
   refine ⟨_,_,hr,⟨⟨w.heap.size,_,_,(0,0),by rw [List.length_append],hO.le,heap_alloc_new w.drew _,.inl rfl,by rw [List.length_append]; exact hge,hcm2,?_,?_⟩,by have:=hO.le; simp; omega⟩,(Below.refl _ _).drew.alloc hO.le _⟩
   ·have hz1 : (Value.int IntKind.u8 0).cells.size = 1:=rfl
    simp only [Array.size_append,List.size_toArray,size_zeroCells,hz1,vals_length]
    omega
   ·simp only [Array.toList_append,List.append_assoc]
    rw [← List.append_assoc,← vals_append,← vals_length (L ++ l)]
    exact List.take_left
 obtain ⟨v',w',hr,h2,h3⟩:=key
 refine wpList_plain hgd fun K hK => ?_
 unfold Oper.wp execOp
 simp only [ho,resolve,invoke,builtin,Sem.run_bind,Sem.run_pure,Result.andThen_ok,List.map_toArray,List.map_cons,List.map_nil,hs,hx,hr]
 exact hK _ _ (h v' w' h2 h3)
theorem Mb.str {base : Nat} {w : World} {v : Value} {l : List UInt8} (h : Mb base w v l) : (convert 47 9 v).run Tryz.prog w = .ok (str l) w:=by
 obtain ⟨g,cap,cur,fz,rfl,hbg,hg,hfz,hnc,hcm,hcs,htake⟩:=h.row
 refine run_convert_bytes_back w 47 9 5 ⟨g,0,none⟩ cap l Tryz.underlying47 Tryz.underlying5 Tryz.underlying9 ?_
 intro j hj
 have hadd : (⟨g,0,none⟩ : Addr).add j = ⟨g,j,none⟩:=by unfold Addr.add; split <;> simp_all
 rw [hadd,cell_of_row w g j cur 5 fz hg]
 have : cur.toList[j]? = (vals l)[j]?:=by rw [← htake,List.getElem?_take_of_lt hj]
 rw [← Array.getElem?_toList,this]
 simp [vals,hj]
end
section
open Go.RowKit
open Go.Proofs.YtdfjlmfnkhhnjaaGreatDoorP (recd nn LEN key)
attribute [local go_sem ↓] Go.wp_at_zero Go.wp_at_succ ldQe
theorem pre_len {m : Ma} (h : RtM m) {R S : List Kv} (e : recs m = R ++ S) : (txt R).length ≤ 104857600000:=by
 have h1:=txt_len (recs m) (recs_ok h)
 have h2:=recs_max h
 have h3 : txt (recs m) = txt R ++ txt S:=by rw [e,txt_append]
 have h4:=congrArg List.length h3
 rw [List.length_append] at h4
 have h5 : (recs m).length * 1048576 ≤ 100000 * 1048576:=Nat.mul_le_mul_right _ h2
 omega
theorem rec_in {m : Ma} (h : RtM m) {R S : List Kv} {p : Kv} (e : recs m = R ++ p :: S) : key p.1 = true ∧ LEN (nn p.1 p.2) ≤ 1048576 ∧ p.1.length ≤ 1000000000 ∧ p.2.length ≤ 1000000000 ∧ (recd p.1 p.2).length ≤ 1048576:=by
 obtain ⟨h1,h2⟩:=recs_ok h p (by rw [e]; simp)
 obtain ⟨h3,h4⟩:=kv_len h2
 exact ⟨h1,h2,by omega,by omega,by rw [Go.Proofs.YtdfjlmfnkhhnjaaGreatDoorP.recd_length]; exact h2⟩
structure QW (W : World) (wx : World) (v : Value) (R : List Kv) : Prop where
 mb : Mb W.heap.size wx v (txt R)
 bel : Below W.heap.size W wx
theorem QW.later {W wx w' : World} {v : Value} {R : List Kv} (h : QW W wx v R) (hb : Below wx.heap.size wx w') : QW W w' v R:=⟨h.mb.later hb,h.bel.trans (hb.mono h.bel.size)⟩
theorem qw_new {W wx : World} (hb : Below W.heap.size W wx) (k v : List UInt8) (hl : (recd k v).length ≤ 1048576) : (convert 9 47 (str (recd k v))).run Tryz.prog wx = .ok (.slice (some ⟨wx.heap.size,0,none⟩) (recd k v).length (grownCap wx (recd k v).length 0 5)) (Lib.bytesWorld wx 5 ⟨(recd k v).toArray⟩) ∧ QW W (Lib.bytesWorld wx 5 ⟨(recd k v).toArray⟩) (.slice (some ⟨wx.heap.size,0,none⟩) (recd k v).length (grownCap wx (recd k v).length 0 5)) [(k,v)]:=by
 obtain ⟨h1,h2,h3⟩:=mb_new wx (recd k v) (by omega)
 refine ⟨h1,⟨?_,hb.trans (h3.mono hb.size)⟩⟩
 obtain ⟨g,cap,cur,fz,e,h4,h5⟩:=h2.row
 have e2 : txt [(k,v)] = recd k v:=by simp [txt]
 rw [e2]
 exact ⟨⟨g,cap,cur,fz,e,Nat.le_trans hb.size h4,h5⟩,Nat.le_trans hb.size h2.le⟩
theorem app_q {ops : Array Oper} {rest : List Oper} {o : Oper} {a : Act} {Q : Exit → Act → World → Prop} {W w : World} {v : Value} {R : List Kv} (l : List UInt8) (S : List Kv) (hl : l = txt S) (hO : QW W w v R) (hn : (txt R).length + l.length ≤ 140000000000000)
  (hgd : o.guard = none) (s x : Operand) (ho : o.op = .call { callee := .builtin .append,args:=#[s,x],argTypes:=#[47,9] })
  (hs : a.eval s = v) (hx : a.eval x = str l)
  (h : ∀ v' w',QW W w' v' (R ++ S) → wpList Tryz.prog ops Q rest (a.put o.dst v') w') : wpList Tryz.prog ops Q (o :: rest) a w :=
 app_mb l hO.mb hn hgd s x ho hs hx fun v' w' h1 h2 => h v' w' ⟨by rw [txt_append,← hl]; exact h1,hO.bel.trans h2⟩
theorem txt_one (k v : List UInt8) : recd k v = txt [(k,v)]:=by simp [txt]
set_option maxHeartbeats 8000000 in
theorem qWriteM_any (m : Ma) (w : World) (a : Option Addr) (cap : Nat) (hL : IIt w a m.items) (hz : ∀ x ∈ m.items,x.l.length ≤ 4398046510976) (hp : ∀ x ∈ m.items,∀ (k : Nat) (e : En),x.l[k]? = some e → e.key.length ≤ 9223372036854775806 ∧ e.val.length ≤ 9223372036854775806) (hl : m.items.length ≤ 1466015503700) :
  Calls Tryz.prog 77 #[.agg #[.int .i64 m.since,.int .i64 m.next,.slice a m.items.length cap]] w (WrP m w):=by
 have b0:=(Below.refl w.heap.size w).alloc (Nat.le_refl _) (.cells #[.int .i64 m.since,.int .i64 m.next,.slice a m.items.length cap] 38)
 have z0:=Bn3.new w m.since m.next (.slice a m.items.length cap)
 obtain ⟨p0,p1,p2⟩:=z0.cells
 have hrt:=qmRight_any m (w.alloc (.cells #[.int .i64 m.since,.int .i64 m.next,.slice a m.items.length cap] 38)) a cap (hL.later b0) hz hp hl
 have Z0:=Hid.mk z0
 have HL:=Hid.mk (hL.later b0)
 have HB0:=Hid.mk b0
 clear hL b0 hp z0
 go_enter Tryz.func77,Tryz.ntmps77
 go_wp2_with fail
 generalize w.alloc (.cells #[.int .i64 m.since,.int .i64 m.next,.slice a m.items.length cap] 38) = W1 at *
 refine Calls.mono hrt ?_
 rintro e w2 ⟨t,rfl,ht,b2⟩
 dsimp only
 have HB2:=Hid.mk b2
 clear hrt p0 p1 p2 b2
 cases t with
 | false =>
  have HN : Hid (¬ RtM m):=⟨fun q => by have:=ht.2 q; cases this⟩
  go_wp2_with fail
  go_ret2
  exact ⟨.inr ⟨HN.out,rfl⟩,below_seq HB0.out HB2.out⟩
 | true =>
  have HR : Hid (RtM m):=⟨ht.1 rfl⟩
  clear ht hz
  have hn0 : 0 ≤ m.next ∧ m.next ≤ 9223372036854775807:=by have:=HR.out.n1; have:=HR.out.n2; omega
  have hs0 : 0 ≤ m.since ∧ m.since ≤ 9223372036854775807:=by have:=HR.out.c1; have:=HR.out.c2; omega
  have hi0 : m.items.length ≤ 256:=HR.out.len
  have Hh : Hid (recs m = headR m ++ ((m.items.map itemR).flatten ++ [(sEnd,sMani)])):=⟨by unfold recs; rw [List.append_assoc]⟩
  have hk1 : (recd sKind sFull).length ≤ 1048576 ∧ (recd sKind sDelta).length ≤ 1048576:=by rw [Go.Proofs.YtdfjlmfnkhhnjaaGreatDoorP.recd_length,Go.Proofs.YtdfjlmfnkhhnjaaGreatDoorP.recd_length]; exact ⟨(kv_ok (k:=sKind) (by decide) (by decide) (by decide)).2,(kv_ok (k:=sKind) (by decide) (by decide) (by decide)).2⟩
  have hrk:=qrecord_any sKind sFull (by decide) (kv_ok (k:=sKind) (by decide) (by decide) (by decide)).2 (by decide) (by decide) w2
  go_wp2_with fail
  refine Calls.mono hrk ?_
  rintro e w3 ⟨rfl,b3⟩
  obtain ⟨hcv,hq⟩:=qw_new (below_seq HB2.out b3) sKind sFull hk1.1
  have HQ:=Hid.mk hq
  have HB3:=Hid.mk (below_seq HB2.out b3)
  obtain ⟨p0,p1,p2⟩:=(Z0.out.later hq.bel).cells
  clear hrk b3 hq
  dsimp only
  go_upto_if 13 with fail
  go_cut [4] from 6 (fun v wx => Hid (QW W1 wx v [(sKind,if m.since = 0 then sFull else sDelta)]))
  case first =>
   by_cases hs : m.since = 0
   ·have d1 : decide (0 < m.since) = false:=decide_eq_false (by omega)
    first | rw [d1] | skip
    have Hsn:=Hid.mk hs
    clear hs
    go_wp2_with fail
    go_meet
    case rel => exact ⟨by rw [if_pos Hsn.out]; exact HQ.out⟩
   ·have d1 : decide (0 < m.since) = true:=decide_eq_true (by omega)
    first | rw [d1] | skip
    have Hsn:=Hid.mk hs
    clear hs
    have hrk:=qrecord_any sKind sDelta (by decide) (kv_ok (k:=sKind) (by decide) (by decide) (by decide)).2 (by decide) (by decide) (Lib.bytesWorld w3 5 ⟨(recd sKind sFull).toArray⟩)
    go_wp2_with fail
    refine Calls.mono hrk ?_
    rintro e w4 ⟨rfl,b4⟩
    obtain ⟨hcv2,hq2⟩:=qw_new (HQ.out.later b4).bel sKind sDelta hk1.2
    have HQ2:=Hid.mk hq2
    clear b4 hrk hq2
    dsimp only
    go_wp2_with fail
    go_meet
    case rel => exact ⟨by rw [if_neg Hsn.out]; exact HQ2.out⟩
  case rest =>
   have HQ1:=hcut
   clear hcut HQ hcv p0 p1 p2 HB3
   obtain ⟨kd,hkd⟩ : ∃ kd,kd = (sKind,if m.since = 0 then sFull else sDelta):=⟨_,rfl⟩
   rw [← hkd] at HQ1
   have Hkd:=Hid.mk hkd
   clear hkd
   have HP1 : Hid (recs m = [kd] ++ (sFormat,sCoffer) :: ((sNext,dec m.next) :: ((if m.since = 0 then [] else [(sSince,dec m.since)]) ++ [(sCount,dec m.items.length)] ++ ((m.items.map itemR).flatten ++ [(sEnd,sMani)])))):=⟨by rw [Hh.out,Hkd.out]; unfold headR; simp⟩
   have hf:=rec_in HR.out HP1.out
   have hrf:=qrecord_any sFormat sCoffer hf.1 hf.2.1 hf.2.2.1 hf.2.2.2.1 wc
   have Hf:=Hid.mk hf.2.2.2.2
   have Hl1:=Hid.mk (pre_len HR.out HP1.out)
   clear hf
   go_wp2_with fail
   refine Calls.mono hrf ?_
   rintro e w5 ⟨rfl,b5⟩
   have HQ2:=Hid.mk (HQ1.out.later b5)
   obtain ⟨p0,p1,p2⟩:=(Z0.out.later HQ2.out.bel).cells
   clear b5 hrf HQ1
   dsimp only
   go_wp2_with (refine app_q (recd sFormat sCoffer) [(sFormat,sCoffer)] (txt_one _ _) HQ2.out (by have:=Hf.out; have:=Hl1.out; omega) rfl _ _ rfl rfl rfl ?_; intro v6 w6 hq6; have ⟨p0,p1,p2⟩:=(Z0.out.later hq6.bel).cells)
   have HQ3:=Hid.mk hq6
   clear hq6 HQ2
   have HP2 : Hid (recs m = ([kd] ++ [(sFormat,sCoffer)]) ++ (sNext,dec m.next) :: ((if m.since = 0 then [] else [(sSince,dec m.since)]) ++ [(sCount,dec m.items.length)] ++ ((m.items.map itemR).flatten ++ [(sEnd,sMani)]))):=⟨by rw [HP1.out]; simp⟩
   have hf:=rec_in HR.out HP2.out
   have Hf2:=Hid.mk hf
   have Hl2:=Hid.mk (pre_len HR.out HP2.out)
   clear HP1 Hf Hl1 hf
   refine Calls.mono (qdecimal_any m.next hn0.1 hn0.2 _) ?_
   rintro e w7 ⟨rfl,b7⟩
   have HQ4:=Hid.mk (HQ3.out.later b7)
   clear b7 HQ3 p0 p1 p2
   dsimp only
   go_wp2_with fail
   refine Calls.mono (qrecord_any sNext (dec m.next) Hf2.out.1 Hf2.out.2.1 Hf2.out.2.2.1 Hf2.out.2.2.2.1 w7) ?_
   rintro e w8 ⟨rfl,b8⟩
   have HQ5:=Hid.mk (HQ4.out.later b8)
   clear b8 HQ4
   dsimp only
   generalize hdn : recd sNext (dec m.next) = rn at *
   have Hdn:=Hid.mk hdn
   clear hdn
   go_upto_if 27 with (refine app_q rn [(sNext,dec m.next)] (by rw [← Hdn.out]; exact txt_one _ _) HQ5.out (by have:=Hf2.out.2.2.2.2; have:=Hl2.out; omega) rfl _ _ rfl rfl rfl ?_; intro v9 w9 hq9; have ⟨p0,p1,p2⟩:=(Z0.out.later hq9.bel).cells)
   have HQ6:=Hid.mk hq9
   clear hq9 HQ5
   go_cut [4] from 6 (fun v wx => Hid (QW W1 wx v ([kd] ++ [(sFormat,sCoffer)] ++ [(sNext,dec m.next)] ++ (if m.since = 0 then [] else [(sSince,dec m.since)]))))
   case first =>
    by_cases hs : m.since = 0
    ·have d1 : decide (0 < m.since) = false:=decide_eq_false (by omega)
     first | rw [d1] | skip
     have Hsn:=Hid.mk hs
     clear hs
     go_wp2_with fail
     go_meet
     case rel => exact ⟨by rw [if_pos Hsn.out,List.append_nil]; exact HQ6.out⟩
    ·have d1 : decide (0 < m.since) = true:=decide_eq_true (by omega)
     first | rw [d1] | skip
     have HP3 : recs m = ([kd] ++ [(sFormat,sCoffer)] ++ [(sNext,dec m.next)]) ++ (sSince,dec m.since) :: ([(sCount,dec m.items.length)] ++ ((m.items.map itemR).flatten ++ [(sEnd,sMani)])):=by rw [HP2.out,if_neg hs]; simp
     have Hf3:=Hid.mk (rec_in HR.out HP3)
     have Hl3:=Hid.mk (pre_len HR.out HP3)
     have Hsn:=Hid.mk hs
     clear hs HP3
     go_wp2_with fail
     refine Calls.mono (qdecimal_any m.since hs0.1 hs0.2 _) ?_
     rintro e w10 ⟨rfl,b10⟩
     have HQ7:=Hid.mk (HQ6.out.later b10)
     clear b10 HQ6 p0 p1 p2
     dsimp only
     go_wp2_with fail
     refine Calls.mono (qrecord_any sSince (dec m.since) Hf3.out.1 Hf3.out.2.1 Hf3.out.2.2.1 Hf3.out.2.2.2.1 w10) ?_
     rintro e w11 ⟨rfl,b11⟩
     have HQ8:=Hid.mk (HQ7.out.later b11)
     clear b11 HQ7
     dsimp only
     generalize hdn : recd sSince (dec m.since) = rs at *
     have Hds:=Hid.mk hdn
     clear hdn
     go_wp2_with (refine app_q rs [(sSince,dec m.since)] (by rw [← Hds.out]; exact txt_one _ _) HQ8.out (by have:=Hf3.out.2.2.2.2; have:=Hl3.out; omega) rfl _ _ rfl rfl rfl ?_; intro v12 w12 hq12)
     go_meet
     case rel => exact ⟨by rw [if_neg Hsn.out]; exact hq12⟩
   case rest =>
    have HQ7:=hcut
    clear hcut HQ6 p0 p1 p2
    obtain ⟨p0,p1,p2⟩:=(Z0.out.later HQ7.out.bel).cells
    have Hhd : Hid ([kd] ++ [(sFormat,sCoffer)] ++ [(sNext,dec m.next)] ++ (if m.since = 0 then [] else [(sSince,dec m.since)]) ++ [(sCount,dec m.items.length)] = headR m):=⟨by rw [Hkd.out]; unfold headR; simp⟩
    obtain ⟨H4,hH4⟩ : ∃ H4,H4 = [kd] ++ [(sFormat,sCoffer)] ++ [(sNext,dec m.next)] ++ (if m.since = 0 then [] else [(sSince,dec m.since)]):=⟨_,rfl⟩
    rw [← hH4] at HQ7 Hhd
    have HP4 : recs m = H4 ++ (sCount,dec m.items.length) :: ((m.items.map itemR).flatten ++ [(sEnd,sMani)]):=by rw [Hh.out,← Hhd.out]; simp
    have Hf4:=Hid.mk (rec_in HR.out HP4)
    have Hl4:=Hid.mk (pre_len HR.out HP4)
    clear hH4 HP4 HP2 Hf2 Hl2
    go_wp2_with fail
    refine Calls.mono (qdecimal_any (m.items.length : Int) (by omega) (by omega) _) ?_
    rintro e w13 ⟨rfl,b13⟩
    have HQ8:=Hid.mk (HQ7.out.later b13)
    clear b13 HQ7 p0 p1 p2
    dsimp only
    go_wp2_with fail
    refine Calls.mono (qrecord_any sCount (dec m.items.length) Hf4.out.1 Hf4.out.2.1 Hf4.out.2.2.1 Hf4.out.2.2.2.1 w13) ?_
    rintro e w14 ⟨rfl,b14⟩
    have HQ9:=Hid.mk (HQ8.out.later b14)
    clear b14 HQ8
    dsimp only
    generalize hdn : recd sCount (dec m.items.length) = rcn at *
    have Hdc:=Hid.mk hdn
    clear hdn
    go_wp2_with (refine app_q rcn [(sCount,dec m.items.length)] (by rw [← Hdc.out]; exact txt_one _ _) HQ9.out (by have:=Hf4.out.2.2.2.2; have:=Hl4.out; omega) rfl _ _ rfl rfl rfl ?_; intro v15 w15 hq15)
    rw [Hhd.out] at hq15
    have HQ10:=Hid.mk hq15
    clear hq15 HQ9 Hhd Hf4 Hl4 Hdc
    go_loopw [4,5] (fun v i wx => ∃ k : Nat,k ≤ m.items.length ∧ i = .int .i64 (k : Int) ∧ Hid (QW W1 wx v (headR m ++ ((m.items.take k).map itemR).flatten))) (fun _ i _ => m.items.length - (intOf i).toNat)
    case atStart => exact ⟨0,Nat.zero_le _,rfl,⟨by simpa using HQ10.out⟩⟩
    case round =>
     obtain ⟨k,hk,rfl,HQk⟩:=hrel
     obtain ⟨p0,p1,p2⟩:=(Z0.out.later HQk.out.bel).cells
     have HSp : Hid (recs m = (headR m ++ ((m.items.take k).map itemR).flatten) ++ (((m.items.drop k).map itemR).flatten ++ [(sEnd,sMani)])):=⟨by
      have : (m.items.map itemR).flatten = ((m.items.take k).map itemR).flatten ++ ((m.items.drop k).map itemR).flatten:=by rw [← List.flatten_append,← List.map_append,List.take_append_drop]
      rw [Hh.out,this]; simp⟩
     have Hlk:=Hid.mk (pre_len HR.out HSp.out)
     by_cases hlt : k < m.items.length
     ·have d1 : decide ((k : Int) < (m.items.length : Int)) = true:=decide_eq_true (Int.ofNat_lt.2 hlt)
      have k2 : (k : Int) < (m.items.length : Int):=Int.ofNat_lt.2 hlt
      have hw1 : wrap64 ((k : Int) + 1) = ((k + 1 : Nat) : Int):=by unfold wrap64; omega
      have HM : Hid (m.items.length - (k + 1) < m.items.length - k):=⟨by omega⟩
      obtain ⟨x,hx⟩ : ∃ x,m.items[k]? = some x:=⟨m.items[k],List.getElem?_eq_getElem hlt⟩
      obtain ⟨b,off,ma,mc,hab,hbl,hr,hsx⟩:=HL.out.get k x hx
      subst hab
      have l1:=run_ldQ (Go.Proofs.YtdfjlmfnkhhnjaaGreatDoorH.rangeBelow hr HQk.out.bel hbl)
      have HTk : Hid (headR m ++ ((m.items.take (k + 1)).map itemR).flatten = headR m ++ ((m.items.take k).map itemR).flatten ++ itemR x):=⟨by rw [List.take_add_one,hx]; simp⟩
      have Hli : Hid ((txt (itemR x)).length ≤ 104857600000):=⟨by
       have e : recs m = (headR m ++ ((m.items.take (k + 1)).map itemR).flatten) ++ (((m.items.drop (k + 1)).map itemR).flatten ++ [(sEnd,sMani)]):=by
        have : (m.items.map itemR).flatten = ((m.items.take (k + 1)).map itemR).flatten ++ ((m.items.drop (k + 1)).map itemR).flatten:=by rw [← List.flatten_append,← List.map_append,List.take_append_drop]
        rw [Hh.out,this]; simp
       have h1:=pre_len HR.out e
       rw [HTk.out,txt_append,List.length_append] at h1
       omega⟩
      have hqi:=qitem_any m x HR.out.n2 (HR.out.it x (List.mem_of_getElem? hx)) _ ma mc (hsx.later HQk.out.bel)
      clear hr hsx hx hbl HSp
      go_wp2_with fail
      refine Calls.mono hqi ?_
      rintro e w16 ⟨rfl,b16⟩
      have HQm:=Hid.mk (HQk.out.later b16)
      clear b16 hqi l1 HQk p0 p1 p2
      dsimp only
      generalize hdn : txt (itemR x) = ti at *
      have Hti:=Hid.mk hdn
      clear hdn
      go_wp2_with (refine app_q ti (itemR x) Hti.out.symm HQm.out (by have:=Hli.out; have:=Hlk.out; omega) rfl _ _ rfl rfl rfl ?_; intro v17 w17 hq17)
      exact ⟨⟨k + 1,hlt,by first | rfl | (rw [hw1]),⟨by rw [HTk.out]; exact hq17⟩⟩,by first | exact HM.out | (rw [hw1]; exact HM.out)⟩
     ·obtain rfl : k = m.items.length:=by omega
      have d1 : decide ((m.items.length : Int) < (m.items.length : Int)) = false:=decide_eq_false (by omega)
      rw [List.take_length] at HQk Hlk
      have HE : Hid (recs m = (headR m ++ (m.items.map itemR).flatten) ++ [(sEnd,sMani)]):=⟨rfl⟩
      have Hfe:=Hid.mk (rec_in HR.out HE.out)
      go_wp2_with fail
      refine Calls.mono (qrecord_any sEnd sMani Hfe.out.1 Hfe.out.2.1 Hfe.out.2.2.1 Hfe.out.2.2.2.1 _) ?_
      rintro e w16 ⟨rfl,b16⟩
      have HQm:=Hid.mk (HQk.out.later b16)
      clear b16 HQk p0 p1 p2
      dsimp only
      generalize hdn : recd sEnd sMani = re at *
      have Hre:=Hid.mk hdn
      clear hdn
      go_wp2_with (refine app_q re [(sEnd,sMani)] (by rw [← Hre.out]; exact txt_one _ _) HQm.out (by have:=Hfe.out.2.2.2.2; have:=Hlk.out; omega) rfl _ _ rfl rfl rfl ?_; intro v17 w17 hq17; have hcv:=hq17.mb.str)
      go_ret2
      exact ⟨.inl ⟨HR.out,by show Ending.returned (.tuple #[str (txt (headR m ++ ((m.items.map itemR).flatten ++ [(sEnd,sMani)]))),.int .i64 0]) = Ending.returned (.tuple #[str (mtx m),.int .i64 0]); rw [← Hh.out]; rfl⟩,below_seq HB0.out hq17.bel⟩
end
end Go.Proofs.YtdfjlmfnkhhnjaaGreatDoor
