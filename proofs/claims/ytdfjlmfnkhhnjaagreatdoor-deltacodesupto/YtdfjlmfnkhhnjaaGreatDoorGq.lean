import Derived.Test.YtdfjlmfnkhhnjaaGreatDoorGu
import Derived.Test.YtdfjlmfnkhhnjaaGreatDoorGp
import Derived.Test.YtdfjlmfnkhhnjaaGreatDoorQi
import Derived.Test.YtdfjlmfnkhhnjaaGreatDoorHa
import Derived.Test.YtdfjlmfnkhhnjaaGreatDoorGc
set_option maxRecDepth 100000
set_option linter.unusedVariables false
set_option linter.unusedSimpArgs false
namespace Go.Proofs.YtdfjlmfnkhhnjaaGreatDoor
section
open Go.RowKit
open Go.Proofs.YtdfjlmfnkhhnjaaGreatDoorP (TB recd nn LEN key Rd RdAt recd_length)
open Go.Proofs.YtdfjlmfnkhhnjaaGreatDoorH (hv leaf)
abbrev m0 : Ma:=⟨0,1,[]⟩
abbrev nothing : List UInt8 := [49,51,32,107,105,110,100,61,102,117,108,108,10,49,57,32,102,111,114,109,97,116,61,99,111,102,102,101,114,45,49,10,57,32,110,101,120,116,61,49,10,49,49,32,99,111,117,110,116,61,48,10,49,54,32,101,110,100,61,109,97,110,105,102,101,115,116,10]
end
section
open Go.RowKit
open Go.Proofs.YtdfjlmfnkhhnjaaGreatDoorP (TB recd nn LEN key Rd RdAt)
open Go.Proofs.YtdfjlmfnkhhnjaaGreatDoorH (hv leaf KIn)
attribute [local go_sem ↓] Go.wp_at_zero Go.wp_at_succ
end
section
open Go.RowKit
open Go.Proofs.YtdfjlmfnkhhnjaaGreatDoorH (hv hv_length hv_one hv_eq)
attribute [local go_sem ↓] Go.wp_at_zero Go.wp_at_succ bsIe bdIe slPe ldQe stQe
attribute [local go_sem] run_bsI
noncomputable def slI (v : Value) (a b c : Option Value) : Sem Value:=Instr.slice 26 v a b c
theorem slIe (v : Value) (a b c : Option Value) : Instr.slice 26 v a b c = slI v a b c:=rfl
attribute [local go_sem ↓] slIe
end
section
open Go.RowKit
open Go.Proofs.YtdfjlmfnkhhnjaaGreatDoorH (hv hv_length hv_one hv_eq)
theorem itemR_len {m : Ma} {x : It} (h : RtI m x) : (itemR x).length ≤ 20:=by
 unfold itemR
 cases hm : x.mkr with
 | true => rw [(h.mk1 hm).2]; simp [metaR]
 | false =>
  have:=(mtE_iff (h.mk0 hm).2.2).1
  simp [metaR]; omega
theorem items_len {m : Ma} : ∀ (L : List It),(∀ x ∈ L,RtI m x) → ((L.map itemR).flatten).length ≤ L.length * 20
 | [],_ => by simp
 | x :: L,h => by
  have h1:=items_len L (fun y hy => h y (by simp [hy]))
  have h2:=itemR_len (h x (by simp))
  simp only [List.map_cons,List.flatten_cons,List.length_append,List.length_cons]
  omega
theorem mtx_le {m : Ma} (h : RtM m) : (mtx m).length ≤ 6000000000:=by
 have h1:=txt_len (recs m) (recs_ok h)
 have h2:=items_len m.items h.it
 have h3:=h.len
 have h4 : (headR m).length ≤ 5:=by unfold headR; split <;> simp
 have h5 : (recs m).length ≤ 5 + 256 * 20 + 1:=by
  unfold recs
  simp only [List.length_append,List.length_cons,List.length_nil]
  have : m.items.length * 20 ≤ 256 * 20:=by omega
  omega
 unfold mtx
 omega
theorem Beg.two {b : List UInt8} {m n : Ma} (h : Beg b m) (h' : Beg b n) : nzM m = nzM n ∧ (mtx m).length = (mtx n).length:=by
 have e:=h.at'
 rw [h'.at'] at e
 exact ⟨(congrArg Prod.fst e).symm,(congrArg (fun p => p.2.1) e).symm⟩
end
section
open Go.Proofs.YtdfjlmfnkhhnjaaGreatDoorP (recd Rd key nn LEN)
open Go.Proofs.YtdfjlmfnkhhnjaaGreatDoorH (hexL rootOf)
def fil (n : Nat) : Nat:=(64 - n % 64) % 64
def conV (d : List UInt8) : List UInt8:=d ++ List.replicate (fil d.length) 0
def con (L : List Vs) : List UInt8:=(L.map fun v => conV v.data).flatten
def sRoot : List UInt8 := [114,111,111,116]
def sLength : List UInt8 := [108,101,110,103,116,104]
def txF (ts : List (List UInt8)) (k : Nat) : ByteArray:=⟨(ts.getD k []).toArray⟩
noncomputable def rtX (ts : List (List UInt8)) : List UInt8:=hexL (rootOf ts.length (txF ts))
noncomputable def trl (ts : List (List UInt8)) (n : Nat) : List UInt8:=recd sRoot (rtX ts) ++ recd sLength (dec (n : Int))
noncomputable def bod (L : List Vs) (next since : Int) : List UInt8:=mtx ⟨since,next,ofI L⟩ ++ con L
noncomputable def arc (L : List Vs) (next since : Int) : List UInt8:=bod L next since ++ trl (L.map enc) (bod L next since).length
theorem conV_len (d : List UInt8) : (conV d).length = d.length + fil d.length:=by simp [conV]
theorem con_cons (v : Vs) (L : List Vs) : con (v :: L) = conV v.data ++ con L:=by simp [con]
theorem con_append (L M : List Vs) : con (L ++ M) = con L ++ con M:=by simp [con]
def voL : List It → List UInt8 → Option (List Vs)
 | [],_ => some []
 | x :: l,t => if x.size.toNat + fil x.size.toNat ≤ t.length then (voL l (t.drop (x.size.toNat + fil x.size.toNat))).map (fun M => ⟨x.key,x.seq,x.mkr,t.take x.size.toNat,x.l⟩ :: M) else none
theorem voL_of : ∀ (L : List Vs) (r : List UInt8),voL (ofI L) (con L ++ r) = some L
 | [],r => rfl
 | v :: L,r => by
  have ih:=voL_of L r
  have e : con (v :: L) ++ r = conV v.data ++ (con L ++ r):=by rw [con_cons,List.append_assoc]
  have hs : (itOf v (enc v)).size.toNat = v.data.length:=by simp [itOf]
  have ht : (conV v.data ++ (con L ++ r)).take v.data.length = v.data:=by unfold conV; rw [List.append_assoc,List.take_left' rfl]
  show voL (itOf v (enc v) :: ofI L) _ = _
  unfold voL
  rw [e,hs,if_pos (by rw [List.length_append,conV_len]; omega),← conV_len,List.drop_left' rfl,ih,ht]
  rfl
theorem voL_nz : ∀ (l : List It) (t : List UInt8),voL (l.map nz) t = voL l t
 | [],t => rfl
 | x :: l,t => by
  have ih:=voL_nz l
  show voL (nz x :: l.map nz) t = _
  unfold voL
  simp only [nz,ih]
def Arc (s : List UInt8) (L : List Vs) (next since : Int) : Prop:=OfR L next since ∧ s = arc L next since
theorem Arc.beg {s : List UInt8} {L : List Vs} {next since : Int} (h : Arc s L next since) : Beg s ⟨since,next,ofI L⟩:=⟨h.1.2.2,con L ++ trl (L.map enc) (bod L next since).length,by rw [h.2]; unfold arc bod; rw [List.append_assoc]⟩
theorem Arc.tell {s : List UInt8} {m : Ma} {L : List Vs} {next since : Int} (hB : Beg s m) (h : Arc s L next since) : m.since = since ∧ m.next = next ∧ voL m.items (s.drop (mtx m).length) = some L ∧ (mtx m).length = (mtx ⟨since,next,ofI L⟩).length:=by
 obtain ⟨e1,e2⟩:=hB.two h.beg
 have i1 : m.since = since:=by have:=congrArg Ma.since e1; exact this
 have i2 : m.next = next:=by have:=congrArg Ma.next e1; exact this
 have i3 : m.items.map nz = (ofI L).map nz:=by have:=congrArg Ma.items e1; exact this
 refine ⟨i1,i2,?_,e2⟩
 rw [← voL_nz,i3,voL_nz,e2,h.2]
 unfold arc bod
 rw [List.append_assoc,List.drop_left]
 exact voL_of _ _
theorem Arc.two {s : List UInt8} {L M : List Vs} {n n' c c' : Int} (h : Arc s L n c) (h' : Arc s M n' c') : L = M ∧ n = n' ∧ c = c':=by
 obtain ⟨a1,a2,a3,a4⟩:=Arc.tell h.beg h
 obtain ⟨b1,b2,b3,b4⟩:=Arc.tell h.beg h'
 rw [a3] at b3
 injection b3 with b3
 exact ⟨b3,a2.symm.trans b2,a1.symm.trans b1⟩
theorem rtX_len (ts : List (List UInt8)) : (rtX ts).length = 64:=hexL_len _
theorem fil_lt (n : Nat) : fil n < 64:=by unfold fil; omega
theorem con_le {L : List Vs} {n : Nat} (hd : ∀ v ∈ L,v.data.length ≤ 1024) : (con L).length ≤ L.length * 1088:=by
 induction L with
 | nil => simp [con]
 | cons v L ih =>
  have h1:=hd v (by simp)
  have h2:=ih (fun u hu => hd u (by simp [hu]))
  have h3:=fil_lt v.data.length
  rw [con_cons,List.length_append,conV_len,List.length_cons]
  omega
theorem OfR.dat {L : List Vs} {n c : Int} (h : OfR L n c) : ∀ v ∈ L,v.data.length ≤ 1024:=fun v hv => (rt_of (h.2.1 v hv)).d
theorem bod_le {L : List Vs} {n c : Int} (h : OfR L n c) : (bod L n c).length ≤ 6000278528:=by
 have h1:=mtx_le h.2.2
 have h2:=con_le (n:=0) h.dat
 have h3:=h.1
 unfold bod
 rw [List.length_append]
 omega
end
section
open Go.RowKit
attribute [local go_sem ↓] Go.wp_at_zero Go.wp_at_succ
set_option maxHeartbeats 1000000 in
theorem fill_any (n : Nat) (hn : n ≤ 4611686018427387904) (w : World) : Calls Tryz.prog 113 #[.int .i64 (n : Int)] w fun e w' => e = .returned (.int .i64 (fil n : Nat)) ∧ w' = w:=by
 have e1 : Int.tmod (n : Int) 64 = ((n % 64 : Nat) : Int):=by rw [Int.tmod_eq_emod_of_nonneg (by omega)]; omega
 have hlt : n % 64 < 64:=Nat.mod_lt _ (by decide)
 have e2 : Int.tmod (64 - ((n % 64 : Nat) : Int)) 64 = ((fil n : Nat) : Int):=by
  rw [Int.tmod_eq_emod_of_nonneg (by omega)]
  unfold fil
  omega
 have e3 : Int.tmod (64 - (n : Int) % 64) 64 = ((fil n : Nat) : Int):=by rw [← e2]; congr 1
 obtain ⟨F,hF⟩ : ∃ F,F = fil n:=⟨_,rfl⟩
 have HF : Hid (F = fil n):=⟨hF⟩
 rw [← hF] at e2 e3 ⊢
 obtain ⟨r,hr⟩ : ∃ r,r = n % 64:=⟨_,rfl⟩
 rw [← hr] at e1 e2 hlt
 clear hF
 go_enter Tryz.func113,Tryz.ntmps113
 go_wp2_with fail
 go_ret
 exact ⟨by first | rfl | (congr 2),rfl⟩
theorem rep_zero : ∀ n : Nat,Lib.repeatL [0] n = List.replicate n (0 : UInt8)
 | 0 => rfl
 | n + 1 => by rw [List.replicate_succ,← rep_zero n]; rfl
theorem repeat_any (n : Nat) (hn : n ≤ 1000) (w : World) : Calls Tryz.prog 112 #[.string ⟨#[0]⟩,.int .i64 (n : Int)] w fun e w' => e = .returned (str (List.replicate n 0)) ∧ Below w.heap.size w w':=by
 have:=Tryz.strings_Repeat ⟨#[0]⟩ n w (by omega) (by show 1 * n ≤ _; omega)
 rw [show ((⟨#[0]⟩ : ByteArray).data.toList) = [0] from rfl,rep_zero] at this
 exact this
end
section
open Go.RowKit
attribute [local go_sem ↓] Go.wp_at_zero Go.wp_at_succ
structure CJ (w W : World) (l : List UInt8) : Prop where
 bld : ∃ v,Bld W w.heap.size v l ∧ ∀ b,v.ownBlock = some b → w.heap.size < b ∧ b < W.heap.size
 bel : Below w.heap.size w W
theorem CJ.start (w : World) : CJ w (w.alloc (.cells #[.pointer none,.slice none 0 0] 68)) [] :=
 ⟨⟨.slice none 0 0,⟨⟨_,.inl rfl,heap_alloc_new _ _⟩,World.ownsRow_nil _ _ _ _,fun q => by cases q⟩,fun b hb => by cases hb⟩,(Below.refl _ _).alloc (Nat.le_refl _) _⟩
theorem CJ.later {w W W' : World} {l : List UInt8} (h : CJ w W l) (hb : Below W.heap.size W W') : CJ w W' l:=by
 obtain ⟨⟨v,h1,h2⟩,h3⟩:=h
 exact ⟨⟨v,h1.later hb,fun b q => ⟨(h2 b q).1,Nat.lt_of_lt_of_le (h2 b q).2 hb.size⟩⟩,h3.trans (hb.mono h3.size)⟩
theorem CJ.write {w W : World} {l : List UInt8} (h : CJ w W l) (s : List UInt8) (hl : l.length + s.length ≤ 140737488355328) :
  Calls Tryz.prog 27 #[.pointer (some ⟨w.heap.size,0,none⟩),str s] W fun e W' => e = .returned (.tuple #[.int .i64 (s.length : Int),.nilIface]) ∧ CJ w W' (l ++ s) ∧ ∀ (g : Nat) (cs : Array Value) (t : TypeId),g ≠ w.heap.size → t ≠ 5 → W.heap[g]? = some (.cells cs t (0,0)) → W'.heap[g]? = some (.cells cs t (0,0)):=by
 obtain ⟨⟨v,h1,h2⟩,h3⟩:=h
 refine (wstr_any w.heap.size v l ⟨s.toArray⟩ W h1 (by rw [str_size]; exact hl)).mono ?_
 rintro e W' ⟨rfl,v',hv,ho,hn⟩
 have hsz:=ho.size
 refine ⟨by rw [str_size],⟨⟨v',hv,fun b q => ?_⟩,⟨ho.os.trans h3.os,ho.tape.trans h3.tape,ho.output.trans h3.output,Nat.le_trans h3.size hsz,fun k hk => ?_⟩⟩,fun g cs t hg ht hc => ?_⟩
 ·have hlt:=(hv.own.lt b q).2
  rcases hn b q with z | z
  ·exact ⟨(h2 b z).1,hlt⟩
  ·have:=h3.size
   have hb:=lt_of_block h1.box.choose_spec.2
   exact ⟨by omega,hlt⟩
 ·rw [ho.block k (by have:=h3.size; omega) (fun q => ?_),h3.block k hk]
  rcases q with q | q
  ·omega
  ·have:=(h2 k q).1; omega
 ·rw [ho.block g (lt_of_block hc) (fun q => ?_)]
  ·exact hc
  ·rcases q with q | q
   ·exact hg q
   ·obtain ⟨cs',e⟩:=own_type h1.own q
    rw [hc] at e
    injection e with e
    injection e with _ e _
    exact ht e
theorem con_take {L : List Vs} {k : Nat} {v : Vs} (h : L[k]? = some v) : con (L.take (k + 1)) = con (L.take k) ++ v.data ++ List.replicate (fil v.data.length) 0:=by
 rw [List.take_add_one,h,con_append]
 simp [con,conV]
theorem con_len_le {L : List Vs} {n : Nat} (hn : L.length ≤ n) (hd : ∀ v ∈ L,v.data.length ≤ 1024) (k : Nat) : (con (L.take k)).length ≤ n * 1088:=by
 have h1:=con_le (L:=L.take k) (n:=0) (fun v hv => hd v (List.mem_of_mem_take hv))
 rw [List.length_take] at h1
 have h2 : min k L.length * 1088 ≤ n * 1088:=Nat.mul_le_mul_right _ (by omega)
 omega
theorem vcells {w : World} {g : Nat} {x0 x1 x2 x3 x4 : Value} {t : TypeId} (h : w.heap[g]? = some (.cells #[x0,x1,x2,x3,x4] t (0,0))) : w.cell? ⟨g,3,none⟩ = some x3:=by rw [cell_of_row _ _ _ _ _ _ h]; rfl
theorem us_nil (q : Option Addr) (w : World) : (Builtin.unsafeString_ #[108,3] 9 #[.pointer q,.int .i64 0]).run Tryz.prog w = .ok (.string ⟨#[]⟩) w:=Lib.run_unsafeString_none w _ _ _ q
set_option maxHeartbeats 2000000 in
theorem bstr_nil (g : Nat) (v : Value) (w : World) (h : Bld w g v []) : Calls Tryz.prog 28 #[.pointer (some ⟨g,0,none⟩)] w fun e w' => e = .returned (str []) ∧ Oth (fun b => v.ownBlock = some b) w w':=by
 obtain ⟨p,hp,hb⟩:=h.box
 have c1 : w.drew.cell? ⟨g,1,none⟩ = some v:=by
  have : w.drew.heap[g]? = some (.cells #[p,v] 68 (0,0)):=hb
  rw [cell_of_row _ _ _ _ _ _ this]; rfl
 have hO0 : Oth (fun b => v.ownBlock = some b) w w.drew:=Oth.of_below (Below.refl _ _).drew
 rcases h.own.2 with ⟨rfl,_⟩ | ⟨c,cap,cur,rfl,h2,h3,h4⟩
 ·have hSD : (Builtin.unsafeSliceData_ #[47] 108 #[.slice none 0 0]).run Tryz.prog w.drew = .ok (.pointer none) w.drew:=Lib.run_unsafeSliceData_nil _ _ _ _ _
  have hUS:=us_nil none w.drew
  have HO:=Hid.mk hO0
  clear hO0 hb hp h
  go_enter Tryz.func28,Tryz.ntmps28
  go_wp2
  go_region
  all_goals (go_wp2; go_ret; exact ⟨rfl,HO.out⟩)
 ·rcases Nat.eq_zero_or_pos cap with rfl | hc
  ·have hg : w.drew.heap[c]? = some (.cells cur 5 (0,0)):=h3
   have hSD : (Builtin.unsafeSliceData_ #[47] 108 #[.slice (some ⟨c,0,none⟩) 0 0]).run Tryz.prog w.drew = .ok (.pointer (some ⟨w.drew.heap.size,0,none⟩)) (w.drew.alloc (.view ⟨c,0,none⟩ 5)):=Lib.run_unsafeSliceData_zero w.drew _ _ 5 Tryz.underlying108 _ _ (5,cur.size) (by unfold World.shape?; rw [hg])
   have hUS:=us_nil (some ⟨w.heap.size,0,none⟩) (w.alloc (.view ⟨c,0,none⟩ 5)).drew
   have c2 : (w.alloc (.view ⟨c,0,none⟩ 5)).drew.cell? ⟨g,1,none⟩ = some (.slice (some ⟨c,0,none⟩) 0 0):=by
    have : (w.alloc (.view ⟨c,0,none⟩ 5)).drew.heap[g]? = some (.cells #[p,.slice (some ⟨c,0,none⟩) 0 0] 68 (0,0)):=by
     show (w.alloc (.view ⟨c,0,none⟩ 5)).heap[g]? = _
     rw [hao4 _ _ _ (lt_of_block hb)]; exact hb
    rw [cell_of_row _ _ _ _ _ _ this]; rfl
   have HO : Hid (Oth (fun b => (Value.slice (some ⟨c,0,none⟩) 0 0).ownBlock = some b) w (w.drew.alloc (.view ⟨c,0,none⟩ 5))):=⟨Oth.of_below ((Below.refl _ _).drew.alloc (Nat.le_refl _) _)⟩
   clear hO0 hb hp h hg h2 h3 h4
   go_enter Tryz.func28,Tryz.ntmps28
   go_wp2
   go_region
   all_goals (go_wp2; go_ret; exact ⟨rfl,HO.out⟩)
  ·have hSD : (Builtin.unsafeSliceData_ #[47] 108 #[.slice (some ⟨c,0,none⟩) 0 cap]).run Tryz.prog w.drew = .ok (.pointer (some ⟨c,0,none⟩)) w.drew:=Lib.run_unsafeSliceData_row _ _ _ _ _ _ (by omega)
   have hUS:=us_nil (some ⟨c,0,none⟩) w.drew
   have HO:=Hid.mk hO0
   clear hO0 hb hp h h2 h3 h4
   go_enter Tryz.func28,Tryz.ntmps28
   go_wp2
   go_region
   all_goals (go_wp2; go_ret; exact ⟨rfl,HO.out⟩)
set_option maxHeartbeats 4000000 in
theorem contents_any (L : List Vs) (w : World) (a : Option Addr) (cap : Nat) (hL : VIn w a L) (hn : L.length ≤ 256) (hd : ∀ v ∈ L,v.data.length ≤ 1024) :
  Calls Tryz.prog 70 #[.slice a L.length cap] w fun e w' => e = .returned (str (con L)) ∧ Below w.heap.size w w':=by
 have HJ0:=Hid.mk (CJ.start w)
 have HL:=Hid.mk hL
 have HD:=Hid.mk hd
 have HN:=Hid.mk hn
 clear hL hd
 go_enter Tryz.func70,Tryz.ntmps70
 go_wp2_with fail
 generalize w.alloc (.cells #[.pointer none,.slice none 0 0] 68) = W1 at *
 go_loopw [8] (fun i wr => ∃ k : Nat,i = .int .i64 (k : Int) ∧ k ≤ L.length ∧ Hid (CJ w wr (con (L.take k)))) (fun i _ => L.length - (intOf i).toNat)
 case atStart => exact ⟨0,rfl,Nat.zero_le _,HJ0⟩
 case round =>
  clear HJ0
  obtain ⟨k,rfl,hk,HJ⟩:=hrel
  by_cases hlt : k < L.length
  ·have d1 : decide ((k : Int) < (L.length : Int)) = true:=decide_eq_true (by omega)
   have k0 : (0 : Int) ≤ (k : Int):=Int.natCast_nonneg k
   have k2 : (k : Int) < (L.length : Int):=by omega
   have hw1 : wrap64 ((k : Int) + 1) = ((k + 1 : Nat) : Int):=by unfold wrap64; omega
   obtain ⟨v,hv⟩ : ∃ v,L[k]? = some v:=⟨L[k],List.getElem?_eq_getElem hlt⟩
   have hdv:=HD.out v (List.mem_of_getElem? hv)
   obtain ⟨b,off,ma,mc,hab,hbl,c0,c1,c2,c3,c4,hsl⟩:=(HL.out.later HJ.out.bel).get k v hv
   subst hab
   have HTk:=Hid.mk (con_take hv)
   have hcl:=con_len_le HN.out HD.out k
   have bx:=(Below.refl wr.heap.size wr).alloc (Nat.le_refl _) (.cells #[str v.key,.int .i64 v.seq,.bool v.mkr,str v.data,.slice ma v.l.length mc] 62)
   have hbx : (wr.alloc (.cells #[str v.key,.int .i64 v.seq,.bool v.mkr,str v.data,.slice ma v.l.length mc] 62)).heap[wr.heap.size]? = some (.cells #[str v.key,.int .i64 v.seq,.bool v.mkr,str v.data,.slice ma v.l.length mc] 62 (0,0)):=heap_alloc_new _ _
   have hJ1:=HJ.out.later bx
   have hwlt:=HJ.out.bel.size
   have hne : wr.heap.size ≠ w.heap.size:=fun e => by
    obtain ⟨⟨bv,hb,_⟩,_⟩:=HJ.out
    have:=lt_of_block hb.box.choose_spec.2
    omega
   have hc1:=hJ1.write v.data (by omega)
   have HX:=Hid.mk hbx
   have HNE:=Hid.mk hne
   have HCL:=Hid.mk hcl
   have HDV:=Hid.mk hdv
   have p3:=vcells hbx
   clear hv hsl bx hbx hne hwlt hcl hdv hJ1
   obtain ⟨key,seq,mkr,data,l⟩:=v
   dsimp only at *
   go_wp2_with fail
   generalize wr.alloc (.cells #[str key,.int .i64 seq,.bool mkr,str data,.slice ma l.length mc] 62) = W2 at *
   generalize wr.heap.size = g2 at *
   with_reducible refine Calls.mono hc1 ?_
   rintro e W3 ⟨rfl,hJ3,hk3⟩
   have hX3:=hk3 _ _ _ HNE.out (by decide) HX.out
   replace HX:=Hid.mk hX3
   have p3:=vcells hX3
   have HJ3:=Hid.mk hJ3
   clear hc1 hJ3 hk3 hX3 p3
   have p3:=vcells HX.out
   dsimp only
   go_wp2_with fail
   with_reducible refine Calls.mono (fill_any data.length (by have:=HDV.out; omega) _) ?_
   rintro e W4 ⟨rfl,rfl⟩
   have hrp:=repeat_any (fil data.length) (by have:=fil_lt data.length; omega) W4
   dsimp only
   go_wp2_with fail
   with_reducible refine Calls.mono hrp ?_
   rintro e W5 ⟨rfl,b5⟩
   have hJ5:=HJ3.out.later b5
   have hc2:=hJ5.write (List.replicate (fil data.length) 0) (by rw [List.length_append,List.length_replicate]; have:=fil_lt data.length; have:=HCL.out; have:=HDV.out; omega)
   clear hrp b5 hJ5
   dsimp only
   go_wp2_with fail
   with_reducible refine Calls.mono hc2 ?_
   rintro e W6 ⟨rfl,hJ6,_⟩
   have HJ6:=Hid.mk hJ6
   clear hc2 hJ6
   dsimp only
   go_wp2_with fail
   refine ⟨⟨k + 1,by first | (rw [hw1]; done) | rfl | go_num,hlt,⟨by rw [HTk.out]; exact HJ6.out⟩⟩,by first | (rw [hw1]; exact Nat.sub_lt_sub_left hlt (Nat.lt_succ_self k)) | (simp [intOf]; omega)⟩
  ·obtain rfl : k = L.length:=Nat.le_antisymm hk (Nat.le_of_not_lt hlt)
   have d1 : decide ((L.length : Int) < (L.length : Int)) = false:=decide_eq_false (fun q => Int.lt_irrefl _ q)
   have hJ:=HJ.out
   rw [List.take_length] at hJ
   obtain ⟨⟨bv,hb,hown⟩,hbel⟩:=hJ
   have hs : Calls Tryz.prog 28 #[.pointer (some ⟨w.heap.size,0,none⟩)] wr fun e w' => e = .returned (str (con L)) ∧ Oth (fun b => bv.ownBlock = some b) wr w':=by
    by_cases h0 : con L = []
    ·rw [h0] at hb ⊢; exact bstr_nil _ _ _ hb
    ·exact bstr_any w.heap.size bv (con L) wr hb h0
   have HB:=Hid.mk hbel
   have HO:=Hid.mk hown
   clear hb hown hbel hlt hk
   go_wp2_with fail
   with_reducible refine Calls.mono hs ?_
   rintro e w9 ⟨rfl,ho⟩
   dsimp only
   go_wp2_with fail
   go_ret
   exact ⟨rfl,⟨ho.os.trans HB.out.os,ho.tape.trans HB.out.tape,ho.output.trans HB.out.output,Nat.le_trans HB.out.size ho.size,fun k hk => by
    rw [ho.block k (by have:=HB.out.size; omega) (fun q => by have:=(HO.out k q).1; omega),HB.out.block k hk]⟩⟩
end
end Go.Proofs.YtdfjlmfnkhhnjaaGreatDoor
