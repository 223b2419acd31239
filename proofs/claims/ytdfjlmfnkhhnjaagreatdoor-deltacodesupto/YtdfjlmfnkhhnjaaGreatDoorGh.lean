import Derived.Test.YtdfjlmfnkhhnjaaGreatDoorGf
set_option maxRecDepth 100000
set_option linter.unusedVariables false
set_option linter.unusedSimpArgs false
namespace Go.Proofs.YtdfjlmfnkhhnjaaGreatDoor
section
def be (w n : Nat) : List UInt8:=(List.range w).map fun i => UInt8.ofNat (n / 256 ^ (w - 1 - i))
def vl (s : List UInt8) : Nat:=s.foldl (fun n c => n * 256 + c.toNat) 0
theorem be_len (w n : Nat) : (be w n).length = w:=by simp [be]
theorem be_get {w n i : Nat} (h : i < w) : (be w n)[i]? = some (UInt8.ofNat (n / 256 ^ (w - 1 - i))):=by
 unfold be
 rw [List.getElem?_map,List.getElem?_range h]; rfl
theorem be_take {w n i : Nat} (h : i < w) : (be w n).take (i + 1) = (be w n).take i ++ [UInt8.ofNat (n / 256 ^ (w - 1 - i))]:=by
 rw [List.take_add_one,be_get h]; rfl
theorem be_all (w n : Nat) : (be w n).take w = be w n:=by rw [List.take_of_length_le (by rw [be_len]; omega)]
def sh (s : List UInt8) : List UInt8:=UInt8.ofNat s.length :: s
def pe (p : En) : List UInt8:=sh p.key ++ sh p.val
def pes (l : List En) : List UInt8:=(l.map pe).flatten
theorem pes_take {l : List En} {k : Nat} {p : En} (h : l[k]? = some p) : pes (l.take (k + 1)) = pes (l.take k) ++ pe p:=by
 rw [take_succ' h]; simp [pes]
structure Vs where
 key : List UInt8
 seq : Int
 mkr : Bool
 data : List UInt8
 l : List En
def hd (k : UInt8) (v : Vs) : List UInt8:=k :: (be 8 v.seq.toNat ++ sh v.key)
def enc (v : Vs) : List UInt8:=if v.mkr = true then hd 1 v else hd 0 v ++ (be 2 v.data.length ++ v.data) ++ (UInt8.ofNat v.l.length :: pes v.l)
theorem enc_mk {v : Vs} (h : v.mkr = true) : enc v = hd 1 v:=by unfold enc; rw [if_pos h]
theorem enc_ob {v : Vs} (h : v.mkr = false) : enc v = hd 0 v ++ (be 2 v.data.length ++ v.data) ++ (UInt8.ofNat v.l.length :: pes v.l):=by unfold enc; rw [if_neg (by rw [h]; decide)]
theorem enc_ob' (key : List UInt8) (seq : Int) (data : List UInt8) (l : List En) : enc ⟨key,seq,false,data,l⟩ = hd 0 ⟨key,seq,false,data,l⟩ ++ (be 2 data.length ++ data) ++ (UInt8.ofNat l.length :: pes l):=enc_ob rfl
noncomputable def rtE (v : Vs) : Int:=by
 classical exact if v.seq < 1 ∨ 1099511627776 < v.seq then 1 else vrE v.key v.mkr v.data v.l
structure Rt (v : Vs) : Prop where
 s1 : 1 ≤ v.seq
 s2 : v.seq ≤ 1099511627776
 k1 : 1 ≤ v.key.length
 k2 : v.key.length ≤ 32
 d : v.data.length ≤ 1024
 m : v.mkr = true → v.data = [] ∧ v.l = []
 n : v.l.length ≤ 8
 p : ∀ (k : Nat) (e : En),v.l[k]? = some e → e.key.length ≤ 16 ∧ e.val.length ≤ 64
theorem prb_len {p : En} (h : prb p = true) : p.key.length ≤ 16 ∧ p.val.length ≤ 64:=by
 unfold prb smN at h
 simp at h
 omega
theorem rt_of {v : Vs} (h : rtE v = 0) : Rt v:=by
 unfold rtE at h
 split at h
 ·omega
 ·next hs =>
  unfold vrE at h
  split at h
  ·omega
  ·next hk =>
   split at h
   ·omega
   ·next hd =>
    split at h
    ·omega
    ·next hm =>
     have hk' : keyE v.key = 0:=Classical.byContradiction hk
     have hd1 : ¬ (v.mkr = true ∧ ¬ v.data = []):=fun q => hd (.inl q)
     have hd2 : datE v.data = 0:=Classical.byContradiction fun q => hd (.inr q)
     unfold keyE at hk'
     unfold datE at hd2
     unfold mtE at h
     split at hk'
     ·split at hd2
      ·split at h
       ·next a b c =>
        refine ⟨by omega,by omega,a.1,a.2,b,fun q => ⟨?_,?_⟩,c.1,fun k e he => prb_len (c.2.1 e (List.mem_of_getElem? he))⟩
        ·exact Classical.byContradiction fun z => hd1 ⟨q,z⟩
        ·exact List.eq_nil_of_length_eq_zero (by have : ¬ 1 ≤ v.l.length:=fun z => hm ⟨q,z⟩; omega)
       ·omega
      ·omega
     ·omega
def tv (n : Nat) (r : List UInt8) : List UInt8:=if n ≤ r.length then r.take n else []
def tr (n : Nat) (r : List UInt8) : List UInt8:=if n ≤ r.length then r.drop n else r
def tb (n : Nat) (r : List UInt8) (b : Bool) : Bool:=if n ≤ r.length then b else true
def xv (w : Nat) (r : List UInt8) : List UInt8:=tv (vl (tv w r)) (tr w r)
def xr (w : Nat) (r : List UInt8) : List UInt8:=tr (vl (tv w r)) (tr w r)
def xb (w : Nat) (r : List UInt8) (b : Bool) : Bool:=tb (vl (tv w r)) (tr w r) (tb w r b)
theorem be_one (n : Nat) : be 1 n = [UInt8.ofNat n]:=by simp [be]
theorem sh_be (s : List UInt8) : sh s = be 1 s.length ++ s:=by rw [be_one]; rfl
def kd (b : List UInt8) : Nat:=vl (tv 1 b)
def r1 (b : List UInt8) : List UInt8:=tr 1 b
def b1 (b : List UInt8) : Bool:=tb 1 b false
def r2 (b : List UInt8) : List UInt8:=tr 8 (r1 b)
def r3 (b : List UInt8) : List UInt8:=xr 1 (r2 b)
def b3 (b : List UInt8) (q : Bool) : Bool:=xb 1 (r2 b) (tb 8 (r1 b) q)
def da (b : List UInt8) : List UInt8:=xv 2 (r3 b)
def r4 (b : List UInt8) : List UInt8:=xr 2 (r3 b)
def b4 (b : List UInt8) (q : Bool) : Bool:=xb 2 (r3 b) (b3 b q)
def cn (b : List UInt8) : Nat:=vl (tv 1 (r4 b))
def r5 (b : List UInt8) : List UInt8:=tr 1 (r4 b)
def b5 (b : List UInt8) (q : Bool) : Bool:=tb 1 (r4 b) (b4 b q)
theorem ofNat_toNat (c : UInt8) : UInt8.ofNat c.toNat = c:=by simp
end
section
open Go.RowKit
attribute [local go_sem ↓] Go.wp_at_zero Go.wp_at_succ
theorem Ob.base' {b b' : Nat} {w : World} {v : Value} {l : List UInt8} (h : Ob b w v l) (hb : b' ≤ b) : Ob b' w v l:=by
 refine ⟨⟨h.own.1,?_⟩,Nat.le_trans hb h.le⟩
 rcases h.own.2 with e | ⟨g,cap,cur,e1,e2,e3⟩
 ·exact Or.inl e
 ·exact Or.inr ⟨g,cap,cur,e1,Nat.le_trans hb e2,e3⟩
def Kp (w : World) (v : Value) (w' : World) (v' : Value) : Prop := ∀ k,k < w.heap.size → v.ownBlock ≠ some k → w'.heap[k]? = w.heap[k]? ∧ v'.ownBlock ≠ some k
theorem Kp.refl (w : World) (v : Value) : Kp w v w v:=fun k _ h => ⟨rfl,h⟩
theorem Kp.trans {w w1 w2 : World} {v v1 v2 : Value} (h : Kp w v w1 v1) (hs : w.heap.size ≤ w1.heap.size) (h2 : Kp w1 v1 w2 v2) : Kp w v w2 v2:=fun k hk hn => by
 obtain ⟨a1,a2⟩:=h k hk hn
 obtain ⟨b1,b2⟩:=h2 k (by omega) a2
 exact ⟨b1.trans a1,b2⟩
theorem ob_lt {base : Nat} {w : World} {v : Value} {L : List UInt8} (h : Ob base w v L) : v.ownBlock ≠ some w.heap.size:=fun q => by
 have:=(h.own.lt _ q).2
 omega
theorem app_onek {ops : Array Oper} {rest : List Oper} {o : Oper} {a : Act} {Q : Exit → Act → World → Prop} {W : World} (hgd : o.guard = none) (s x : Operand) (ho : o.op = .call { callee := .builtin .append,args:=#[s,x],argTypes:=#[47,47] })
  {base : Nat} {w : World} {v : Value} {L : List UInt8} {c : Int} {g : Nat} (C : UInt8) (hW : W = w.alloc (.cells #[.int .u8 c] 5)) (hO : Ob base w v L) (hg : g = w.heap.size) (hn : L.length ≤ 1000000000) (hC : c = (C.toNat : Int))
  (hs : a.eval s = v) (hx : a.eval x = .slice (some ⟨g,0,none⟩) 1 1)
  (h : ∀ v' w',Ob base w' v' (L ++ [C]) → Below base w w' → Kp w v w' v' → wpList Tryz.prog ops Q rest (a.put o.dst v') w') : wpList Tryz.prog ops Q (o :: rest) a W:=by
 obtain ⟨i0,hi0,hz0,hz1,hz2⟩:=info5
 subst hW hC hg
 have hm : maxLen = 9223372036854775807:=rfl
 refine wpList_append_lies _ hgd s x 47 ho base 5 i0 _ 1 1 Tryz.underlying47 hi0 hz0 hz1 hz2 rfl (by omega) v L.length (vals L) hs (hO.own.alloc _) _ 1 1 [.int .u8 C.toNat] hx rfl
  (World.news_of_block (cs:=#[.int .u8 C.toNat]) (t:=5) (fr:=(0,0)) (heap_alloc_new w _)) (by simp [Value.oneCell']) (by omega) (by rw [hm]; omega) (by omega) (by have:=hO.le; simp; omega) _ rfl ?_
 intro g2 cap2 w' hown hgrow hat hlt
 refine h _ w' ⟨?_,?_⟩ ?_ ?_
 ·rw [vals_append,List.length_append]; exact hown
 ·have:=hgrow.size; have h2:=hO.le; simp at this; omega
 ·exact ((Below.refl _ _).alloc hO.le _).trans (grown_below (hO.own.alloc _) (by have:=hO.le; simp; omega) hgrow)
 ·intro k hk hne
  refine ⟨by rw [hgrow.block k (by simp; omega) (Ne.symm hne),heap_alloc_old _ _ hk],?_⟩
  intro q
  have e1 : g2 = k:=by simpa [Value.ownBlock] using q
  subst e1
  rcases hat with q2 | q2
  ·exact hne q2
  ·simp at q2; omega
theorem app_run {ops : Array Oper} {rest : List Oper} {o : Oper} {a : Act} {Q : Exit → Act → World → Prop} {w w' : World} {v x' r : Value} {t1 t2 : TypeId} (hgd : o.guard = none) (s x : Operand) (ho : o.op = .call { callee := .builtin .append,args:=#[s,x],argTypes:=#[t1,t2] })
  (hs : a.eval s = v) (hx : a.eval x = x') (hr : (Builtin.append_ #[t1,t2] o.type #[v,x']).run Tryz.prog w = .ok r w')
  (h : wpList Tryz.prog ops Q rest (a.put o.dst r) w') : wpList Tryz.prog ops Q (o :: rest) a w:=by
 refine wpList_plain hgd fun K hK => ?_
 unfold Oper.wp execOp
 simp only [ho,resolve,invoke,builtin,Sem.run_bind,Sem.run_pure,Result.andThen_ok,List.map_toArray,List.map_cons,List.map_nil,hs,hx,hr]
 exact hK _ _ h
theorem app_strk {ops : Array Oper} {rest : List Oper} {o : Oper} {a : Act} {Q : Exit → Act → World → Prop} {base : Nat} {w : World} {v : Value} {L : List UInt8} (l : List UInt8) (hO : Ob base w v L) (hn : L.length + l.length ≤ 1000000000)
  (hgd : o.guard = none) (s x : Operand) (ho : o.op = .call { callee := .builtin .append,args:=#[s,x],argTypes:=#[47,9] })
  (hs : a.eval s = v) (hx : a.eval x = str l)
  (h : ∀ v' w',Ob base w' v' (L ++ l) → Below base w w' → (∀ k,k < w.heap.size → v.ownBlock ≠ some k → w'.heap[k]? = w.heap[k]?) → wpList Tryz.prog ops Q rest (a.put o.dst v') w') : wpList Tryz.prog ops Q (o :: rest) a w:=by
 obtain ⟨i0,hi0,hz0,hz1,hz2⟩:=info5
 have hm : maxLen = 9223372036854775807:=rfl
 obtain ⟨v',w',hr,hown,hgrow,_⟩:=Lib.run_append_own_string (P:=Tryz.prog) w base 47 9 o.type 5 i0 Tryz.underlying47 Tryz.underlying9 hi0 hz0 hz1 hz2 v L.length (vals L) hO.own ⟨l.toArray⟩ (by rw [str_size,hm]; omega) (by rw [str_size]; omega) hO.le
 refine app_run hgd s x ho hs hx hr ?_
 refine h v' w' ⟨?_,?_⟩ (grown_below hO.own hO.le hgrow) (fun k hk hne => hgrow.block k hk (Ne.symm hne))
 ·rw [vals_append,List.length_append,← vals_str l]; rw [str_size] at hown; exact hown
 ·have:=hgrow.size; have h2:=hO.le; omega
theorem wrong_any (v : Vs) (w : World) (a : Option Addr) (n cap : Nat) (hn : v.l.length = n) (hP : PIn w a v.l) (hz : v.l.length ≤ 9223372036854775806) :
  Calls Tryz.prog 42 #[vv v.key v.seq v.mkr v.data a n cap] w fun e w' => e = .returned (.int .i64 (rtE v)) ∧ Below w.heap.size w w':=by
 obtain ⟨key,seq,mk,data,l⟩:=v
 simp only at hn hP hz ⊢
 have hbx : Below w.heap.size w (w.alloc (.cells #[str key,.int .i64 seq,.bool mk,str data,.slice a n cap] 62)):=(Below.refl _ _).alloc (Nat.le_refl _) _
 have hm:=version_any key seq mk data l _ a n cap hn (hP.later hbx) hz
 by_cases h1 : seq < 1
 ·have HV : Hid (rtE ⟨key,seq,mk,data,l⟩ = 1):=⟨by unfold rtE; rw [if_pos (.inl h1)]⟩
  have d1 : decide (seq < 1) = true:=decide_eq_true h1
  generalize rtE ⟨key,seq,mk,data,l⟩ = E at *
  go_enter Tryz.func42,Tryz.ntmps42
  go_wp2_with fail
  go_ret
  exact ⟨by rw [HV.out]; rfl,hbx⟩
 ·have d1 : decide (seq < 1) = false:=decide_eq_false h1
  by_cases h2 : 1099511627776 < seq
  ·have HV : Hid (rtE ⟨key,seq,mk,data,l⟩ = 1):=⟨by unfold rtE; rw [if_pos (.inr h2)]⟩
   have d2 : decide (1099511627776 < seq) = true:=decide_eq_true h2
   generalize rtE ⟨key,seq,mk,data,l⟩ = E at *
   go_enter Tryz.func42,Tryz.ntmps42
   go_wp2_with fail
   go_ret
   exact ⟨by rw [HV.out]; rfl,hbx⟩
  ·have HV : Hid (rtE ⟨key,seq,mk,data,l⟩ = vrE key mk data l):=⟨by unfold rtE; rw [if_neg (by simp only; omega)]⟩
   have d2 : decide (1099511627776 < seq) = false:=decide_eq_false h2
   generalize rtE ⟨key,seq,mk,data,l⟩ = E at *
   generalize vrE key mk data l = E2 at *
   go_enter Tryz.func42,Tryz.ntmps42
   go_wp2_with (go_at_call 84; refine hm.mono ?_; rintro e w1 ⟨rfl,b1⟩)
   go_ret
   exact ⟨by rw [HV.out]; rfl,hbx.trans (b1.mono (by simp))⟩
theorem byte_of (n : Nat) : (((UInt8.ofNat n).toNat : Nat) : Int) = (n : Int) % 256:=by simp
theorem shr_byte (n k : Nat) : (n : Int) / 2 ^ (8 * k) % 256 = (((UInt8.ofNat (n / 256 ^ k)).toNat : Nat) : Int):=by
 rw [byte_of,show (256 : Nat) = 2 ^ 8 by decide,← Nat.pow_mul,Int.natCast_ediv,Int.natCast_pow]; rfl
theorem putNumber_any {base : Nat} {w : World} {v : Value} {L : List UInt8} (n width : Nat) (hw : width ≤ 8) (hn : n < 18446744073709551616) (hO : Ob base w v L) (hL : L.length ≤ 1000000) :
  Calls Tryz.prog 45 #[v,.int .u64 (n : Int),.int .i64 (width : Int)] w fun e w' => ∃ v',e = .returned v' ∧ Ob base w' v' (L ++ be width n) ∧ Below base w w' ∧ Kp w v w' v':=by
 have hB : (be width n).length = width:=be_len _ _
 have HT:=fun i (h : i < width) => be_take (n:=n) h
 have hall:=be_all width n
 generalize hBE : be width n = B at *
 have HB:=Hid.mk hB
 clear hB hBE
 go_enter Tryz.func45,Tryz.ntmps45
 go_wp2_with fail
 go_loopw [0,9] (fun b i wr => ∃ k : Nat,k ≤ width ∧ i = .int .i64 (k : Int) ∧ Ob base wr b (L ++ B.take k) ∧ Below base w wr ∧ Hid (Kp w v wr b)) (fun _ i _ => width - (intOf i).toNat)
 case atStart => exact ⟨0,by omega,rfl,by simpa using hO,Below.refl _ _,⟨Kp.refl _ _⟩⟩
 case round =>
  obtain ⟨k,hk,rfl,o1,hb,HK⟩:=hrel
  by_cases hlt : k < width
  ·have d1 : decide ((k : Int) < (width : Int)) = true:=decide_eq_true (by omega)
   have HT1:=Hid.mk (HT k hlt)
   have hlen : (L ++ B.take k).length ≤ 1000000000:=by rw [List.length_append,List.length_take]; omega
   have HE:=Hid.mk (shr_byte n (width - 1 - k))
   clear HT hall
   go_wp2_with (refine app_onek rfl _ _ rfl (UInt8.ofNat (n / 256 ^ (width - 1 - k))) rfl o1 rfl hlen HE.out rfl rfl ?_; intro v2 w2 o2 b2 k2)
   exact ⟨⟨k + 1,by omega,by go_num,by rw [HT1.out,← List.append_assoc]; exact o2,hb.trans b2,⟨HK.out.trans hb.size k2⟩⟩,by simp [intOf]; omega⟩
  ·obtain rfl : k = width:=by omega
   have d1 : decide ((k : Int) < (k : Int)) = false:=decide_eq_false (by omega)
   rw [hall] at o1
   go_wp2_with fail
   go_ret
   exact ⟨_,rfl,o1,hb,HK.out⟩
theorem putText_any {base : Nat} {w : World} {v : Value} {L : List UInt8} (s : List UInt8) (width : Nat) (hw : width ≤ 8) (hs : s.length ≤ 100000) (hO : Ob base w v L) (hL : L.length ≤ 500000) :
  Calls Tryz.prog 44 #[v,str s,.int .i64 (width : Int)] w fun e w' => ∃ v',e = .returned v' ∧ Ob base w' v' (L ++ (be width s.length ++ s)) ∧ Below base w w' ∧ (∀ k,k < w.heap.size → v.ownBlock ≠ some k → w'.heap[k]? = w.heap[k]?):=by
 have hp:=putNumber_any s.length width hw (by omega) hO (by omega)
 have hlen : (L ++ be width s.length).length + s.length ≤ 1000000000:=by rw [List.length_append,be_len]; omega
 generalize be width s.length = B at *
 go_enter Tryz.func44,Tryz.ntmps44
 go_wp2_with (first | (go_at_call 45; refine hp.mono ?_; rintro e w1 ⟨v1,rfl,o1,b1,k1⟩) | (refine app_strk s o1 hlen rfl _ _ rfl rfl rfl ?_; intro v2 w2 o2 b2 k2))
 go_ret
 exact ⟨_,rfl,by rw [← List.append_assoc]; exact o2,b1.trans b2,fun k hk hn => (k2 k (Nat.lt_of_lt_of_le hk b1.size) (k1 k hk hn).2).trans (k1 k hk hn).1⟩
theorem putHead_any (k : UInt8) (v : Vs) (w : World) (a : Option Addr) (n cap : Nat) (R : Rt v) :
  Calls Tryz.prog 43 #[.slice none 0 0,.int .u8 (k.toNat : Int),vv v.key v.seq v.mkr v.data a n cap] w fun e w' => ∃ v',e = .returned v' ∧ Ob w.heap.size w' v' (hd k v) ∧ Below w.heap.size w w':=by
 obtain ⟨key,seq,mk,data,l⟩:=v
 have s1:=R.s1
 have s2:=R.s2
 have k2:=R.k2
 simp only at s1 s2 k2 ⊢
 obtain ⟨S,rfl⟩ : ∃ S : Nat,seq = (S : Int):=⟨seq.toNat,by omega⟩
 have hbx : Below w.heap.size w (w.alloc (.cells #[str key,.int .i64 (S : Int),.bool mk,str data,.slice a n cap] 62)):=(Below.refl _ _).alloc (Nat.le_refl _) _
 have o0 : Ob (w.heap.size + 1) (w.alloc (.cells #[str key,.int .i64 (S : Int),.bool mk,str data,.slice a n cap] 62)) (.slice none 0 0) []:=Ob.nil _ _ (by simp)
 have HX : Hid (∀ w1,Below (w.heap.size + 1) (w.alloc (.cells #[str key,.int .i64 (S : Int),.bool mk,str data,.slice a n cap] 62)) w1 → w1.cell? ⟨w.heap.size,0,none⟩ = some (str key) ∧ w1.cell? ⟨w.heap.size,1,none⟩ = some (.int .i64 (S : Int))):=⟨fun w1 h => by
  have:=box5 (w:=w) (w1:=w1) (by rw [World.size_alloc]; exact h)
  exact ⟨this.1,this.2.1⟩⟩
 have HH : Hid (hd k ⟨key,(S : Int),mk,data,l⟩ = [] ++ [k] ++ be 8 S ++ (be 1 key.length ++ key)):=⟨by unfold hd; simp [sh_be]⟩
 have hl8:=be_len 8 S
 have hp2:=fun w v (h : Ob (w.heap.size + 1) w v ([] ++ [k])) => putNumber_any S 8 (by omega) (by omega) h (by simp)
 generalize hd k ⟨key,(S : Int),mk,data,l⟩ = H at *
 go_enter Tryz.func43,Tryz.ntmps43
 go_wp2_with (refine app_byteg k o0 (by simp) (by simp) rfl rfl _ _ rfl rfl rfl ?_; intro v1 w1 o1 b1; obtain ⟨x0,x1⟩:=HX.out w1 b1)
 with_reducible refine Calls.mono (putNumber_any S 8 (by omega) (by omega) o1 (by simp)) ?_
 rintro e w2 ⟨v2,rfl,o2,b2,_⟩
 dsimp only
 have b12:=b1.trans b2
 obtain ⟨y0,y1⟩:=HX.out w2 b12
 have hl9 : ([] ++ [k] ++ be 8 S).length ≤ 500000:=by rw [List.length_append,hl8]; simp
 clear x0 x1 hp2
 go_wp2_with fail
 with_reducible refine Calls.mono (putText_any key 1 (by omega) (by omega) o2 hl9) ?_
 rintro e w3 ⟨v3,rfl,o3,b3,_⟩
 dsimp only
 rw [← HH.out] at o3
 go_wp2_with fail
 go_ret
 exact ⟨_,rfl,o3.base' (by omega),hbx.trans ((b12.trans b3).mono (by omega))⟩
noncomputable def wro (v : Vs) : Value := .tuple #[str (if rtE v = 0 then enc v else []),.int .i64 (rtE v)]
theorem wro_ok {v : Vs} (h : rtE v = 0) : wro v = .tuple #[str (enc v),.int .i64 0]:=by unfold wro; rw [if_pos h,h]
theorem wro_no {v : Vs} (h : ¬ rtE v = 0) : wro v = .tuple #[str [],.int .i64 (rtE v)]:=by unfold wro; rw [if_neg h]
theorem pes_len (l : List En) (h : ∀ (k : Nat) (e : En),l[k]? = some e → e.key.length ≤ 16 ∧ e.val.length ≤ 64) : (pes l).length ≤ 82 * l.length:=by
 induction l with
 | nil => simp [pes]
 | cons p l ih =>
  have h0:=h 0 p rfl
  have:=ih fun k e he => h (k + 1) e (by simpa using he)
  simp only [pes,List.map_cons,List.flatten_cons,List.length_append,List.length_cons,pe,sh] at this ⊢
  omega
theorem hd_len (k : UInt8) (v : Vs) : (hd k v).length = 10 + v.key.length:=by unfold hd; simp [be_len,sh]; omega
theorem enc_len {v : Vs} (R : Rt v) : 1 ≤ (enc v).length ∧ (enc v).length ≤ 3000:=by
 have k2:=R.k2
 have d:=R.d
 have n:=R.n
 have q:=pes_len v.l R.p
 unfold enc
 split
 ·rw [hd_len]; omega
 ·simp only [List.length_append,List.length_cons,hd_len,be_len]; omega
theorem box2 {w : World} {g : Nat} {a b : Value} {t : TypeId} (h : w.heap[g]? = some (.cells #[a,b] t (0,0))) : w.cell? ⟨g,0,none⟩ = some a ∧ w.cell? ⟨g,1,none⟩ = some b :=
 ⟨by rw [cell_of_row _ _ _ _ _ _ h]; rfl,by rw [cell_of_row _ _ _ _ _ _ h]; rfl⟩
set_option maxHeartbeats 4000000 in
theorem write_any (v : Vs) (w : World) (a : Option Addr) (n cap : Nat) (hn : v.l.length = n) (hP : PIn w a v.l) (hz : v.l.length ≤ 9223372036854775806) :
  Calls Tryz.prog 22 #[vv v.key v.seq v.mkr v.data a n cap] w fun e w' => e = .returned (wro v) ∧ Below w.heap.size w w':=by
 subst hn
 have hbx : Below w.heap.size w (w.alloc (.cells #[str v.key,.int .i64 v.seq,.bool v.mkr,str v.data,.slice a v.l.length cap] 62)):=(Below.refl _ _).alloc (Nat.le_refl _) _
 have hP1:=hP.later hbx
 have hw:=wrong_any v _ a v.l.length cap rfl hP1 hz
 have HX : Hid (∀ w1,Below (w.heap.size + 1) (w.alloc (.cells #[str v.key,.int .i64 v.seq,.bool v.mkr,str v.data,.slice a v.l.length cap] 62)) w1 → w1.cell? ⟨w.heap.size,0,none⟩ = some (str v.key) ∧ w1.cell? ⟨w.heap.size,1,none⟩ = some (.int .i64 v.seq) ∧ w1.cell? ⟨w.heap.size,2,none⟩ = some (.bool v.mkr) ∧ w1.cell? ⟨w.heap.size,3,none⟩ = some (str v.data) ∧ w1.cell? ⟨w.heap.size,4,none⟩ = some (.slice a v.l.length cap)):=⟨fun w1 h => box5 (w:=w) (w1:=w1) (by rw [World.size_alloc]; exact h)⟩
 by_cases h0 : rtE v = 0
 ·have R:=rt_of h0
  have HW:=Hid.mk (wro_ok h0)
  have el:=(enc_len R).2
  rw [h0] at hw
  generalize wro v = WR at *
  have hh:=fun k w => putHead_any k v w a v.l.length cap R
  obtain ⟨key,seq,mk,data,l⟩:=v
  have HS:=Hid.mk R.p
  have hd0:=R.d
  have hn0:=R.n
  have hk0:=R.k2
  simp only at hP hz hbx hP1 hw HX hh HS hd0 hn0 hk0
  have HE : Hid (∀ w',Below (w.heap.size + 1) (w.alloc (.cells #[str key,.int .i64 seq,.bool mk,str data,.slice a l.length cap] 62)) w' → Below w.heap.size w w'):=⟨fun w' hb => hbx.trans (hb.mono (by omega))⟩
  have PL : Hid (∀ w',Below (w.heap.size + 1) (w.alloc (.cells #[str key,.int .i64 seq,.bool mk,str data,.slice a l.length cap] 62)) w' → PIn w' a l):=⟨fun w' hb => hP1.later (hb.mono (by simp))⟩
  cases mk with
  | true =>
   rw [enc_mk rfl] at HW
   have hh1:=fun w => hh 1 w
   generalize hd 1 ⟨key,seq,true,data,l⟩ = H at *
   clear el h0 R hh
   go_enter Tryz.func22,Tryz.ntmps22
   go_wp2_with (first
    | (go_at_call 42; refine hw.mono ?_; rintro e w1 ⟨rfl,b1⟩; rw [World.size_alloc] at b1; obtain ⟨x0,x1,x2,x3,x4⟩:=HX.out w1 b1)
    | (go_at_call 43; refine (hh1 _).mono ?_; rintro e w2 ⟨v2,rfl,o2,b2⟩; have hc:=conv_own o2))
   go_ret2
   exact ⟨by rw [HW.out]; rfl,HE.out _ (b1.trans (b2.mono (by have:=b1.size; simp at this; omega)))⟩
  | false =>
   rw [enc_ob' key seq data l] at HW
   have hh0:=fun w => hh 0 w
   have hl1:=hd_len 0 ⟨key,seq,false,data,l⟩
   simp only at hl1
   generalize hd 0 ⟨key,seq,false,data,l⟩ = H at *
   have hl2:=be_len 2 data.length
   have hpl:=pes_len l HS.out
   have HL : Hid ((H ++ (be 2 data.length ++ data) ++ be 1 l.length).length ≤ 2000):=⟨by simp only [List.length_append,hl1,hl2,be_len]; omega⟩
   clear el h0 R hh
   go_enter Tryz.func22,Tryz.ntmps22
   go_wp2_with (first
    | (go_at_call 42; refine hw.mono ?_; rintro e w1 ⟨rfl,b1⟩; rw [World.size_alloc] at b1; obtain ⟨x0,x1,x2,x3,x4⟩:=HX.out w1 b1)
    | (go_at_call 43; refine (hh0 _).mono ?_; rintro e w2 ⟨v2,rfl,o2,b2⟩; have X2:=b1.trans (b2.mono (by have:=b1.size; simp at this; omega)); obtain ⟨y0,y1,y2,y3,y4⟩:=HX.out w2 X2; clear x0 x1 x2 x3 x4))
   have hwb:=b1.size
   simp at hwb
   with_reducible refine Calls.mono (putText_any data 2 (by omega) (by omega) o2 (by omega)) ?_
   rintro e w3 ⟨v3,rfl,o3,b3,_⟩
   dsimp only
   have X3:=X2.trans (b3.mono (by omega))
   obtain ⟨z0,z1,z2,z3,z4⟩:=HX.out w3 X3
   clear y0 y1 y2 y3 y4 hw
   go_wp2_with fail
   with_reducible refine Calls.mono (putNumber_any l.length 1 (by omega) (by omega) o3 (by simp only [List.length_append,hl1,hl2]; omega)) ?_
   rintro e w4 ⟨v4,rfl,o4,b4,_⟩
   dsimp only
   have X4:=X3.trans (b4.mono (by omega))
   obtain ⟨y0,y1,y2,y3,y4⟩:=HX.out w4 X4
   clear z0 z1 z2 z3 z4
   go_wp2_with fail
   have o4':=Hid.mk (o4.base' (b':=w.heap.size + 1) (by omega))
   have hBB:=HL.out
   have HW2 : Hid (WR = .tuple #[str ((H ++ (be 2 data.length ++ data) ++ be 1 l.length) ++ pes l),.int .i64 0]):=⟨by rw [HW.out,be_one]; simp⟩
   clear HW
   generalize H ++ (be 2 data.length ++ data) ++ be 1 l.length = BB at *
   have X4':=Hid.mk X4
   clear o2 o3 o4 b1 b2 b3 b4 X2 X3 X4 y0 y1 y2 y3 y4
   go_loopw [5,33] (fun b i wr => ∃ k : Nat,k ≤ l.length ∧ i = .int .i64 (k : Int) ∧ Hid (Ob (w.heap.size + 1) wr b (BB ++ pes (l.take k)) ∧ Below (w.heap.size + 1) (w.alloc (.cells #[str key,.int .i64 seq,.bool false,str data,.slice a l.length cap] 62)) wr)) (fun _ i _ => l.length - (intOf i).toNat)
   case atStart => exact ⟨0,by omega,rfl,⟨by simpa [pes] using o4'.out,X4'.out⟩⟩
   case round =>
    obtain ⟨k,hk,rfl,HO⟩:=hrel
    by_cases hlt : k < l.length
    ·have hd : decide ((k : Int) < (l.length : Int)) = true:=decide_eq_true (by omega)
     have k2 : (k : Int) < (l.length : Int):=by omega
     obtain ⟨p,hp⟩ : ∃ p,l[k]? = some p:=⟨l[k],List.getElem?_eq_getElem hlt⟩
     obtain ⟨b,off,rfl,hbl,c0,c1⟩:=(PL.out _ HO.out.2).get k p hp
     obtain ⟨s1,s2⟩:=HS.out k p hp
     have hbo : (BB ++ pes (l.take k)).length ≤ 3000:=by
      have q1:=pes_len (l.take k) (fun j e he => HS.out j e (by
       by_cases hj : j < k
       ·rw [List.getElem?_take_of_lt hj] at he; exact he
       ·rw [List.getElem?_eq_none (by rw [List.length_take]; omega)] at he; cases he))
      rw [List.length_take] at q1
      rw [List.length_append]
      omega
     have HN : Hid (BB ++ pes (l.take (k + 1)) = BB ++ pes (l.take k) ++ (be 1 p.key.length ++ p.key) ++ (be 1 p.val.length ++ p.val)):=⟨by rw [pes_take hp]; simp [pe,sh_be]⟩
     have HO1:=HO.out.1.alloc (.cells #[str p.key,str p.val] 49)
     have hne:=ob_lt HO.out.1
     have hB1:=HO.out.2.alloc (by have:=HO.out.2.size; simp at this; omega) (.cells #[str p.key,str p.val] 49)
     have hg1 : (wr.alloc (.cells #[str p.key,str p.val] 49)).heap[wr.heap.size]? = some (.cells #[str p.key,str p.val] 49 (0,0)):=heap_alloc_new _ _
     clear o4' X4' hp HO
     generalize BB ++ pes (l.take k) = LL at *
     have ht1:=putText_any p.key 1 (by omega) (by omega) HO1 (by omega)
     have hl5 : (LL ++ (be 1 p.key.length ++ p.key)).length ≤ 500000:=by simp only [List.length_append,be_len]; omega
     go_wp2_with fail
     with_reducible refine Calls.mono ht1 ?_
     rintro e w5 ⟨v5,rfl,o5,b5,k5⟩
     have q5:=k5 wr.heap.size (by simp) hne
     rw [hg1] at q5
     obtain ⟨m0,m1⟩:=box2 q5
     dsimp only
     clear ht1 k5 c0 c1 HO1 hg1
     go_wp2_with fail
     with_reducible refine Calls.mono (putText_any p.val 1 (by omega) (by omega) o5 hl5) ?_
     rintro e w6 ⟨v6,rfl,o6,b6,k6⟩
     dsimp only
     go_wp2_with fail
     exact ⟨⟨k + 1,by omega,by go_num,⟨by rw [HN.out]; exact o6,(hB1.trans b5).trans b6⟩⟩,by simp [intOf]; omega⟩
    ·obtain rfl : k = l.length:=by omega
     have hd : decide ((l.length : Int) < (l.length : Int)) = false:=decide_eq_false (by omega)
     rw [List.take_length] at HO
     have hcv:=conv_own HO.out.1
     have HB:=Hid.mk (HE.out _ HO.out.2)
     clear HO o4' X4'
     go_wp2_with fail
     go_ret2
     exact ⟨by rw [HW2.out]; rfl,HB.out⟩
 ·have HW:=Hid.mk (wro_no h0)
  have HN:=Hid.mk h0
  have hne : (rtE v == 0) = false:=by rw [beq_eq_false_iff_ne]; exact h0
  generalize wro v = WR at *
  generalize rtE v = E at *
  clear h0
  go_enter Tryz.func22,Tryz.ntmps22
  go_wp2_with (go_at_call 42; refine hw.mono ?_; rintro e w1 ⟨rfl,b1⟩)
  go_ret2
  exact ⟨by rw [HW.out]; rfl,hbx.trans (b1.mono (by simp))⟩
end
end Go.Proofs.YtdfjlmfnkhhnjaaGreatDoor
