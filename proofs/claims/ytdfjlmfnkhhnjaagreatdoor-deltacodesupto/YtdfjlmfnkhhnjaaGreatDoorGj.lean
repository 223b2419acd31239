import Derived.Test.YtdfjlmfnkhhnjaaGreatDoorGi
import Derived.Defers
import Derived.Recover
import Derived.Laws.Pointers
set_option maxRecDepth 100000
set_option linter.unusedVariables false
set_option linter.unusedSimpArgs false
namespace Go.Proofs.YtdfjlmfnkhhnjaaGreatDoorP
section
open Go.RowKit
def digs (l : List UInt8) (k : Nat) : Prop := ∀ j,j < k → isDig (l.getD j 0)
theorem take_snoc (l : List UInt8) (k : Nat) (h : k < l.length) : l.take (k + 1) = l.take k ++ [l.getD k 0]:=by
 rw [List.take_add_one,List.getD_eq_getElem?_getD,List.getElem?_eq_getElem h]; rfl
theorem val_take (l : List UInt8) (k : Nat) (h : k < l.length) : val (l.take (k + 1)) = val (l.take k) * 10 + ((l.getD k 0).toNat - 48):=by
 rw [take_snoc l k h,val_snoc]
theorem Ld.parts {l ds : List UInt8} (h : Ld l ds) : 0 < ds.length ∧ ds.length < l.length ∧ l.getD ds.length 0 = 32 ∧ l.take ds.length = ds ∧ digs l ds.length ∧ l.getD 0 0 ≠ 48:=by
 obtain ⟨r,e⟩:=h.pre
 have h0 : 0 < ds.length:=List.length_pos_iff.2 h.ne
 have gl : ∀ j,j < ds.length → l.getD j 0 = ds.getD j 0:=fun j hj => by
  rw [e,List.getD_eq_getElem?_getD,List.getElem?_append_left hj,← List.getD_eq_getElem?_getD]
 refine ⟨h0,by rw [e]; simp,?_,by rw [e]; simp,fun j hj => ?_,?_⟩
 ·rw [e,List.getD_eq_getElem?_getD,List.getElem?_append_right (Nat.le_refl _)]; simp
 ·rw [gl j hj]; exact h.dg _ (getD_mem hj)
 ·rw [gl 0 h0]
  intro e0
  refine h.hd ?_
  cases ds with
  | nil => exact absurd rfl h.ne
  | cons a ds => simpa using e0
theorem ld_here {l : List UInt8} {k : Nat} (h0 : 0 < k) (h1 : k < l.length) (h2 : l.getD k 0 = 32) (h3 : digs l k) (h4 : val (l.take k) ≤ 1048576) (h5 : l.getD 0 0 ≠ 48) : Ld l (l.take k) ∧ (l.take k).length = k:=by
 have hl : (l.take k).length = k:=by rw [List.length_take]; omega
 refine ⟨⟨fun e => ?_,fun c hc => ?_,fun e => ?_,h4,⟨l.drop (k + 1),?_⟩⟩,hl⟩
 ·rw [e] at hl; simp at hl; omega
 ·obtain ⟨j,hj,e⟩:=mem_getD hc
  rw [hl] at hj
  rw [← e,List.getD_eq_getElem?_getD,List.getElem?_take_of_lt hj,← List.getD_eq_getElem?_getD]
  exact h3 j hj
 ·refine h5 ?_
  cases l with
  | nil => simp at h1
  | cons a l =>
   rw [show k = (k - 1) + 1 by omega] at e
   simpa using e
 ·have e1 : l[k] = 32:=by
   rw [List.getD_eq_getElem?_getD,List.getElem?_eq_getElem h1] at h2; exact h2
  rw [← e1,List.getElem_cons_drop,List.take_append_drop]
theorem ld_zero {l : List UInt8} (h : l.getD 0 0 = 48) (ds : List UInt8) : ¬ Ld l ds:=fun g => g.parts.2.2.2.2.2 h
theorem not_dig_32 : ¬ isDig 32:=fun h => by have:=h.1; simp at this
theorem ld_bad {l : List UInt8} {k : Nat} (h1 : digs l k) (h2 : ¬ isDig (l.getD k 0)) (h3 : l.getD k 0 = 32 → k = 0) (ds : List UInt8) : ¬ Ld l ds:=fun g => by
 obtain ⟨a,b,c,d,e,f⟩:=g.parts
 rcases Nat.lt_trichotomy ds.length k with h | h | h
 ·have:=h1 _ h; rw [c] at this; exact not_dig_32 this
 ·subst h; have:=h3 c; omega
 ·exact h2 (e k h)
theorem ld_big {l : List UInt8} {k : Nat} (h1 : digs l k) (h2 : 1048576 < val (l.take k)) (ds : List UInt8) : ¬ Ld l ds:=fun g => by
 obtain ⟨a,b,c,d,e,f⟩:=g.parts
 by_cases h : ds.length < k
 ·have:=h1 _ h; rw [c] at this; exact not_dig_32 this
 ·have h4 : l.take ds.length = l.take k ++ (l.take ds.length).drop k:=by
   have:=(List.take_append_drop k (l.take ds.length)).symm
   rwa [List.take_take,Nat.min_eq_left (by omega)] at this
  have h3:=val_le_append (l.take k) ((l.take ds.length).drop k)
  rw [← h4,d] at h3
  have:=g.le
  omega
theorem ld_end {l : List UInt8} (h1 : digs l l.length) (ds : List UInt8) : ¬ Ld l ds:=fun g => by
 obtain ⟨a,b,c,d,e,f⟩:=g.parts
 have:=h1 _ b; rw [c] at this; exact not_dig_32 this
attribute [local go_sem ↓] Go.wp_at_zero Go.wp_at_succ
theorem leading_any (s : ByteArray) (h0 : 0 < s.size) (hs : s.size ≤ 9223372036854775807) (w : World) :
  Calls Tryz.prog 189 #[.string s] w fun e w' => ((∃ ds,Ld s.data.toList ds ∧ e = .returned (.tuple #[.int .i64 (val ds),.int .i64 (ds.length + 1)])) ∨ (e = gone ∧ ∀ ds,¬ Ld s.data.toList ds)) ∧ w' = w:=by
 obtain ⟨l,hl⟩ : ∃ l,l = s.data.toList:=⟨_,rfl⟩
 have hlen:=getD_of hl
 have hix:=idxs s l hl
 rw [← hl]
 have HL : Hid (l = s.data.toList):=⟨hl⟩
 clear hl
 have hx0 : ∀ w,(Instr.index 9 (.string s) (.int .i64 0)).run Tryz.prog w = .ok (.int .u8 ((l.getD 0 0).toNat : Int)) w:=hix 0 h0
 go_enter Tryz.func189,Tryz.ntmps189
 by_cases h1 : l.getD 0 0 = 48
 ·have hno : Hid (∀ ds,¬ Ld l ds):=⟨ld_zero h1⟩
  rw [h1] at hx0
  clear h1
  go_wp2_with (first | (go_at_call 190; refine (must_false _).mono ?_; rintro e w' ⟨rfl,rfl⟩))
  exact ⟨rfl,Or.inr ⟨rfl,hno.out⟩,rfl⟩
 ·have d1 : (((l.getD 0 0).toNat : Int) == 48) = false:=by simpa using fun e => h1 (UInt8.toNat_inj.1 (Int.ofNat.inj e))
  have H1 : Hid (l.getD 0 0 ≠ 48):=⟨h1⟩
  clear h1
  generalize l.getD 0 0 = c0 at hx0 d1
  have d1' : ((c0.toNat : Int) != 48) = true:=by rw [bne,d1]; rfl
  go_wp2_with (first | (go_at_call 190; refine (must_true _).mono ?_; rintro e w' ⟨rfl,rfl⟩))
  go_loop [2,12] (fun v i => ∃ k : Nat,v = .int .i64 (val (l.take k)) ∧ i = .int .i64 k ∧ k ≤ s.size ∧ digs l k ∧ val (l.take k) ≤ 1048576) (fun _ i => s.size - (intOf i).toNat)
  case atStart => exact ⟨0,rfl,rfl,Nat.zero_le _,fun j hj => by omega,by simp [val]⟩
  case round =>
   obtain ⟨k,rfl,rfl,hk,hb,hv⟩:=hrel
   clear hx0 d1 d1'
   by_cases h2 : k < s.size
   ·have d2 : decide ((k : Int) < (s.size : Int)) = true:=decide_eq_true (by omega)
    have hx:=hix k h2
    have hvt : Hid (val (l.take (k + 1)) = val (l.take k) * 10 + ((l.getD k 0).toNat - 48)):=⟨val_take l k (by omega)⟩
    obtain ⟨c,hc⟩ : ∃ c,c = l.getD k 0:=⟨_,rfl⟩
    rw [← hc] at hx hvt
    have HC : Hid (c = l.getD k 0):=⟨hc⟩
    clear hc hix
    by_cases h3 : c = 32 ∧ 0 < k
    ·obtain ⟨h3,h4⟩:=h3
     have hH : Hid (Ld l (l.take k) ∧ (l.take k).length = k):=⟨ld_here h4 (by omega) (HC.out ▸ h3) hb hv H1.out⟩
     subst h3
     have d4 : decide ((0 : Int) < (k : Int)) = true:=decide_eq_true (by omega)
     go_wp2_with fail
     go_ret2
     refine ⟨Or.inl ⟨l.take k,hH.out.1,?_⟩,rfl⟩
     rw [hH.out.2]
     rfl
    ·by_cases h4 : c = 32
     ·have hk0 : k = 0:=by
       by_cases e : k = 0
       ·exact e
       ·exact absurd ⟨h4,by omega⟩ h3
      have hno : Hid (∀ ds,¬ Ld l ds):=⟨ld_bad hb (by rw [← HC.out,h4]; exact not_dig_32) (fun _ => hk0)⟩
      clear h3
      subst h4
      have d4 : decide ((0 : Int) < (k : Int)) = false:=decide_eq_false (by omega)
      have d5 : ¬ 0 < k:=by omega
      clear hk0
      go_wp2_with (first | (go_at_call 190; refine (must_false _).mono ?_; rintro e w' ⟨rfl,rfl⟩))
      exact ⟨rfl,Or.inr ⟨rfl,hno.out⟩,rfl⟩
     ·have d4 : ((c.toNat : Int) == 32) = false:=by simpa using fun e => h4 (UInt8.toNat_inj.1 (Int.ofNat.inj e))
      clear h3
      by_cases h5 : 48 ≤ c.toNat
      ·have d5 : decide ((48 : Int) ≤ (c.toNat : Int)) = true:=decide_eq_true (by omega)
       by_cases h6 : c.toNat ≤ 57
       ·have d6 : decide ((c.toNat : Int) ≤ 57) = true:=decide_eq_true (by omega)
        have hb1 : Hid (digs l (k + 1)):=⟨fun j hj => by
         by_cases e : j = k
         ·subst e; rw [← HC.out]; exact ⟨h5,h6⟩
         ·exact hb j (by omega)⟩
        obtain ⟨m,hm⟩ : ∃ m,m = val (l.take k):=⟨_,rfl⟩
        obtain ⟨m1,hm1⟩ : ∃ m1,m1 = val (l.take (k + 1)):=⟨_,rfl⟩
        have hmm : Hid (m1 = m * 10 + (c.toNat - 48)):=⟨by rw [hm,hm1]; exact hvt.out⟩
        have HM1 : Hid (m1 = val (l.take (k + 1))):=⟨hm1⟩
        rw [← hm] at hv ⊢
        clear hm hm1 hvt
        have e2 : Hid ((m : Int) * 10 + ((c.toNat : Int) - 48) = (m1 : Int)):=⟨by have:=hmm.out; omega⟩
        by_cases h7 : m1 ≤ 1048576
        ·have d7 : decide ((m : Int) * 10 + ((c.toNat : Int) - 48) ≤ 1048576) = true:=decide_eq_true (by rw [e2.out]; omega)
         go_wp2_with (first | (go_at_call 190; refine (must_true _).mono ?_; rintro e w' ⟨rfl,rfl⟩))
         go_round
         case rel => exact ⟨k + 1,by rw [e2.out,HM1.out],by go_num,h2,hb1.out,by rw [← HM1.out]; exact h7⟩
         case measure => simp [intOf]; omega
        ·have d7 : decide ((m : Int) * 10 + ((c.toNat : Int) - 48) ≤ 1048576) = false:=decide_eq_false (by rw [e2.out]; omega)
         have hno : Hid (∀ ds,¬ Ld l ds):=⟨ld_big hb1.out (by rw [← HM1.out]; omega)⟩
         go_wp2_with (first | (go_at_call 190; first | (refine (must_true _).mono ?_; rintro e w' ⟨rfl,rfl⟩) | (refine (must_false _).mono ?_; rintro e w' ⟨rfl,rfl⟩)))
         exact ⟨rfl,Or.inr ⟨rfl,hno.out⟩,rfl⟩
       ·have d6 : decide ((c.toNat : Int) ≤ 57) = false:=decide_eq_false (by omega)
        have hno : Hid (∀ ds,¬ Ld l ds):=⟨ld_bad hb (by rw [← HC.out]; exact fun h => h6 h.2) (fun h => absurd (HC.out.trans h) h4)⟩
        go_wp2_with (first | (go_at_call 190; refine (must_false _).mono ?_; rintro e w' ⟨rfl,rfl⟩))
        exact ⟨rfl,Or.inr ⟨rfl,hno.out⟩,rfl⟩
      ·have d5 : decide ((48 : Int) ≤ (c.toNat : Int)) = false:=decide_eq_false (by omega)
       have hno : Hid (∀ ds,¬ Ld l ds):=⟨ld_bad hb (by rw [← HC.out]; exact fun h => h5 h.1) (fun h => absurd (HC.out.trans h) h4)⟩
       go_wp2_with (first | (go_at_call 190; refine (must_false _).mono ?_; rintro e w' ⟨rfl,rfl⟩))
       exact ⟨rfl,Or.inr ⟨rfl,hno.out⟩,rfl⟩
   ·have d2 : decide ((k : Int) < (s.size : Int)) = false:=decide_eq_false (by omega)
    have hno : Hid (∀ ds,¬ Ld l ds):=⟨ld_end (by rw [hlen,show s.size = k by omega]; exact hb)⟩
    go_wp2_with fail
    exact ⟨rfl,Or.inr ⟨rfl,hno.out⟩,rfl⟩
end
section
open Go.RowKit
theorem catch_panicking (p : Addr) (x : Int) (u : TypeId) (pv : Value) (older : List PanicEntry) (w : World) (hc : w.cell? p = some (.int .i64 x)) (hz : w.frozen? p = false) :
  CallsD Tryz.prog 188 #[.pointer (some p)] (.panicking ({ v := .iface u pv,recovered:=false } :: older)) w fun e u' w' =>
   e = .returned (.tuple #[]) ∧ u' = .panicking ({ v := .iface u pv,recovered:=true } :: older) ∧ w' = w.setCell p (.int .i64 4):=by
 refine callsD_of_wpS Tryz.func188 rfl fun c₀ cs hu => ?_
 apply wpS_seq
 apply wpS_region
 simp [wpOpsS,go_sem,recoverD,hu,Tryz.ntmps188,Exit.thenS]
 refine wpS_cond (t:=true) (by simp [Act.eval,Array.replicate]) ?_
 simp only [if_true]
 apply wpS_region
 simp [wpOpsS,go_sem,hc,hz,bodyPostS,results,Tryz.results188]
theorem catch_idle (p : Addr) (w : World) :
  CallsD Tryz.prog 188 #[.pointer (some p)] .returning w fun e u' w' => e = .returned (.tuple #[]) ∧ u' = .returning ∧ w' = w:=by
 refine callsD_of_wpS Tryz.func188 rfl fun c₀ cs hu => ?_
 apply wpS_seq
 apply wpS_region
 simp [wpOpsS,go_sem,recoverD,hu,Tryz.ntmps188,Exit.thenS]
 refine wpS_cond (t:=false) (by simp [Act.eval,Array.replicate]) ?_
 simp only [Bool.false_eq_true,if_false]
 refine wpS_of_wp (wp_skip ?_)
 cases c₀
 simp_all [bodyPostS,results,Tryz.results188]
def Told (l : List UInt8) (w : World) (e : Ending) (w' : World) : Prop :=
 ∃ (k v : ByteArray) (n er : Int),e = .returned (.tuple #[.string k,.string v,.int .i64 n,.int .i64 er]) ∧
  ((er = 0 ∧ Rd l k.data.toList v.data.toList ∧ n = (LEN (nn k.data.toList v.data.toList) : Nat)) ∨ (er = 4 ∧ ∀ x y,¬ Rd l x y)) ∧ Below w.heap.size w w'
structure ES (w W : World) : Prop where
 bel : Below w.heap.size w W
 cell : W.cell? ⟨w.heap.size,0,none⟩ = some (.int .i64 0)
 frz : W.frozen? ⟨w.heap.size,0,none⟩ = false
 lt : w.heap.size < W.heap.size
theorem ES.made (w : World) : ES w (w.alloc (.cells #[.int .i64 0] 29)) :=
 ⟨(Below.refl _ _).alloc (Nat.le_refl _) _,by rw [World.cell?_alloc_new]; rfl,World.frozen?_alloc_new _ _ _ _,by simp⟩
theorem ES.next {w W W2 : World} (h : ES w W) (b : Below W.heap.size W W2) : ES w W2 :=
 ⟨below_seq h.bel b,(b.cell (p:=⟨w.heap.size,0,none⟩) h.lt).trans h.cell,(b.frozen (p:=⟨w.heap.size,0,none⟩) h.lt).trans h.frz,Nat.lt_of_lt_of_le h.lt b.size⟩
theorem door_panic {l : List UInt8} {w W : World} {tmps : Array Value} (k v : ByteArray) (n : Int) (hE : ES w W) (h2 : tmps.getD 2 undef = .string k) (h3 : tmps.getD 3 undef = .string v) (h4 : tmps.getD 4 undef = .int .i64 n)
  (h5 : tmps.getD 5 undef = .pointer (some ⟨w.heap.size,0,none⟩)) (hno : ∀ x y,¬ Rd l x y) :
  bodyPostD Tryz.prog Tryz.f148 (Told l w) (Exit.panic [{ v := .iface 29 (.int .i64 4),recovered:=false }])
   { tmps:=tmps,defers := [{ target:=Target.fn (Fn.func 188) #[.pointer (some ⟨w.heap.size,0,none⟩)],args:=#[] }] } W:=by
 refine leaves_cons (f:=188) (args:=#[.pointer (some ⟨w.heap.size,0,none⟩)]) (by simp) (by simp [go_sem]) ?_
 refine (catch_panicking ⟨w.heap.size,0,none⟩ 0 29 _ [] _ hE.cell hE.frz).mono ?_
 rintro e u' w'' ⟨rfl,rfl,rfl⟩
 have hc:=hE.cell
 have hz:=hE.frz
 have hT : Told l w (.returned (.tuple #[.string k,.string v,.int .i64 n,.int .i64 4])) (W.setCell ⟨w.heap.size,0,none⟩ (.int .i64 4)) :=
  ⟨k,v,n,4,rfl,Or.inr ⟨rfl,hno⟩,hE.bel.setCell (Nat.le_refl _) _⟩
 simp only [Array.getD_eq_getD_getElem?] at h2 h3 h4 h5
 simp [Leaves,settle,results,Tryz.results148,go_sem,h2,h3,h4,h5,hc,hz]
 exact hT
theorem door_ret {l : List UInt8} {w W : World} {tmps : Array Value} (k v : ByteArray) (n : Int) (hb : Below w.heap.size w W) (hcell : W.cell? ⟨w.heap.size,0,none⟩ = some (.int .i64 0)) (h2 : tmps.getD 2 undef = .string k) (h3 : tmps.getD 3 undef = .string v) (h4 : tmps.getD 4 undef = .int .i64 n)
  (h5 : tmps.getD 5 undef = .pointer (some ⟨w.heap.size,0,none⟩)) (hR : Rd l k.data.toList v.data.toList ∧ n = (LEN (nn k.data.toList v.data.toList) : Nat)) :
  bodyPostD Tryz.prog Tryz.f148 (Told l w) Exit.ret
   { tmps:=tmps,defers := [{ target:=Target.fn (Fn.func 188) #[.pointer (some ⟨w.heap.size,0,none⟩)],args:=#[] }] } W:=by
 refine leaves_cons (f:=188) (args:=#[.pointer (some ⟨w.heap.size,0,none⟩)]) (by simp) (by simp [go_sem]) ?_
 refine (catch_idle ⟨w.heap.size,0,none⟩ _).mono ?_
 rintro e u' w'' ⟨rfl,rfl,rfl⟩
 have hT : Told l w (.returned (.tuple #[.string k,.string v,.int .i64 n,.int .i64 0])) w'' :=
  ⟨k,v,n,0,rfl,Or.inl ⟨rfl,hR⟩,hb⟩
 simp only [Array.getD_eq_getD_getElem?] at h2 h3 h4 h5
 simp [Leaves,settle,results,Tryz.results148,go_sem,h2,h3,h4,h5,hcell]
 exact hT
end
section
open Go.RowKit
noncomputable def slS (v : Value) (a b c : Option Value) : Sem Value:=Instr.slice 9 v a b c
theorem sl9 (v : Value) (a b c : Option Value) : Instr.slice 9 v a b c = slS v a b c:=rfl
noncomputable def ixS (v i : Value) : Sem Value:=Instr.index 9 v i
theorem ix9 (v i : Value) : Instr.index 9 v i = ixS v i:=rfl
theorem run_slS (s : ByteArray) (i j : Nat) (h1 : i ≤ j) (h2 : j ≤ s.size) (w : World) : (slS (.string s) (some (.int .i64 (i : Int))) (some (.int .i64 (j : Int))) none).run Tryz.prog w = .ok (.string (s.extract i j)) w:=by
 unfold slS
 rw [run_slice_string_if (P:=Tryz.prog) (w:=w) 9 s .i64 .i64 i j Tryz.underlying9,if_pos ⟨by omega,by omega⟩,if_pos ⟨by omega,by omega⟩]
 rfl
theorem ext_mid (s : ByteArray) (i j : Nat) : (s.extract i j).data.toList = (s.data.toList.drop i).take (j - i):=by
 simp [ByteArray.data_extract,List.extract_eq_take_drop]
theorem getD_some {l : List UInt8} {j : Nat} {c : UInt8} (h : j < l.length) (e : l.getD j 0 = c) : l[j]? = some c:=by
 rw [List.getD_eq_getElem?_getD] at e
 rw [List.getElem?_eq_getElem h] at e ⊢
 rw [← e]; rfl
attribute [local go_sem ↓] Go.wp_at_zero Go.wp_at_succ
attribute [local go_sem ↓] sl9 ix9
set_option maxHeartbeats 1000000 in
theorem first_any (s : ByteArray) (h0 : 0 < s.size) (hs : s.size ≤ 4611686018427387904) (w : World) (hT : TB w) :
  Calls Tryz.prog 148 #[.string s] w (Told s.data.toList w):=by
 have hmf : ∀ (fn : Fn) (first cap : Array Value) (w : World),(Instr.makeFunc fn first cap).run Tryz.prog w = .ok (.func fn first cap) w:=fun _ _ _ _ => rfl
 have hsl:=run_slS s
 obtain ⟨l,hl⟩ : ∃ l,l = s.data.toList:=⟨_,rfl⟩
 have hlen:=getD_of hl
 have hld:=fun w => leading_any s h0 (by omega) w
 have hix : ∀ (p : Nat) (h : p < s.size) (w : World),(ixS (.string s) (.int .i64 (p : Int))).run Tryz.prog w = .ok (.int .u8 ((l.getD p 0).toNat : Int)) w:=idxs s l hl
 have hxt : ∀ i j,(s.extract i j).data.toList = (l.drop i).take (j - i):=fun i j => by rw [hl]; exact ext_mid s i j
 rw [← hl] at hld ⊢
 clear hl
 have hE0:=ES.made w
 go_enter_defers Tryz.func148,Tryz.ntmps148
 go_wp2_with (fail)
 generalize w.alloc (.cells #[.int .i64 0] 29) = W0 at *
 refine (hld W0).mono ?_
 rintro e w1 ⟨⟨ds,hL,rfl⟩ | ⟨rfl,hno⟩,rfl⟩
 ·clear hld hmf
  dsimp only
  obtain ⟨z,hz⟩ : ∃ z,z = val ds:=⟨_,rfl⟩
  obtain ⟨g,hg⟩ : ∃ g,g = ds.length:=⟨_,rfl⟩
  have hF : Hid (∀ x y,Rd l x y → z = LEN (nn x y) ∧ g + 1 < z ∧ z ≤ s.size ∧ l[z - 1]? = some 10 ∧ (l.drop (g + 1)).take (z - 1 - (g + 1)) = x ++ 61 :: y):=⟨fun x y h => by
   rw [← hlen,hz,hg]; exact h.facts hL⟩
  have hO : Hid (∀ x y,g + 1 < z → z ≤ s.size → l[z - 1]? = some 10 → (l.drop (g + 1)).take (z - 1 - (g + 1)) = x ++ 61 :: y → key x = true → z = LEN (nn x y) → Rd l x y):=⟨fun x y a b c d e f => by
   rw [← hlen] at b; rw [hz] at a b c d f; rw [hg] at a d; exact ok_rd hL a b c d e f⟩
  have hz2 : z ≤ 1048576:=by rw [hz]; exact hL.le
  rw [← hz,← hg]
  clear hL hz hg
  by_cases h1 : g + 1 < z
  ·have d1 : decide ((g : Int) + 1 < (z : Int)) = true:=decide_eq_true (by omega)
   by_cases h2 : z ≤ s.size
   ·have d2 : decide ((z : Int) ≤ (s.size : Int)) = true:=decide_eq_true (by omega)
    have hx : ∀ w,(ixS (.string s) (.int .i64 ((z : Int) - 1))).run Tryz.prog w = .ok (.int .u8 ((l.getD (z - 1) 0).toNat : Int)) w:=fun w => by
     have:=hix (z - 1) (by omega) w
     rwa [show ((z - 1 : Nat) : Int) = (z : Int) - 1 by omega] at this
    clear hix
    by_cases h3 : l.getD (z - 1) 0 = 10
    ·have H3 : Hid (l[z - 1]? = some 10):=⟨getD_some (by omega) h3⟩
     rw [h3] at hx
     clear h3
     obtain ⟨q,hq⟩ : ∃ q,q = s.extract (g + 1) (z - 1):=⟨_,rfl⟩
     have hsl1 : ∀ w,(slS (.string s) (some (.int .i64 ((g : Int) + 1))) (some (.int .i64 ((z : Int) - 1))) none).run Tryz.prog w = .ok (.string q) w:=fun w => by
      have:=hsl (g + 1) (z - 1) (by omega) (by omega) w
      rw [← hq] at this
      rwa [show ((z - 1 : Nat) : Int) = (z : Int) - 1 by omega,show ((g + 1 : Nat) : Int) = (g : Int) + 1 by omega] at this
     have hql : q.data.toList = (l.drop (g + 1)).take (z - 1 - (g + 1)):=by rw [hq]; exact hxt _ _
     have hqs : q.size ≤ 1048576:=by
      have : q.size = q.data.toList.length:=by rw [Array.length_toList]; rfl
      rw [this,hql,List.length_take]; omega
     have hcut:=fun w => cut_any q 61 (by omega) w
     rw [hql] at hcut
     clear hsl hq hxt hql
     go_wp2_with (first | (go_at_call 190; refine (must_true _).mono ?_; rintro e w' ⟨rfl,rfl⟩))
     refine (hcut _).mono ?_
     rintro e w2 ⟨a,b,f,rfl,hC,hb⟩
     dsimp only
     have hE2:=hE0.next hb
     cases f
     ·have hno : Hid (∀ x y,¬ Rd l x y):=⟨fun x y h => by
       rcases hC with ⟨e,_⟩ | ⟨_,e⟩
       ·cases e
       ·exact e (by rw [(hF.out x y h).2.2.2.2]; simp)⟩
      go_wp2_with (first | (go_at_call 190; refine (must_false _).mono ?_; rintro e w' ⟨rfl,rfl⟩))
      exact door_panic _ _ _ hE2 rfl rfl rfl rfl hno.out
     ·have hC2 : Hid ((l.drop (g + 1)).take (z - 1 - (g + 1)) = a.data.toList ++ 61 :: b.data.toList ∧ (61 : UInt8) ∉ a.data.toList):=⟨by
       rcases hC with ⟨_,e⟩ | ⟨e,_⟩
       ·exact e
       ·cases e⟩
      clear hC
      have hab : a.size + b.size ≤ 1048576:=by
       have h5:=congrArg List.length hC2.out.1
       rw [List.length_append,List.length_cons,List.length_take] at h5
       have h6 : a.data.toList.length = a.size:=Array.length_toList
       have h7 : b.data.toList.length = b.size:=Array.length_toList
       omega
      have hkey:=fun w => isKey_any a w
      have hlng:=fun w ht => length_any a b (by omega) w ht
      have hU : Hid (∀ x y,Rd l x y → a.data.toList = x ∧ b.data.toList = y):=⟨fun x y h => by
       have:=(hF.out x y h).2.2.2.2
       rw [hC2.out.1] at this
       exact split_uniq hC2.out.2 ((key_iff _).1 h.kk).2.1 this⟩
      by_cases h5 : key a.data.toList = true
      ·rw [h5] at hkey
       by_cases h6 : z = LEN (nn a.data.toList b.data.toList)
       ·have hR : Hid (Rd l a.data.toList b.data.toList ∧ (z : Int) = (LEN (nn a.data.toList b.data.toList) : Nat)):=⟨hO.out _ _ h1 h2 H3.out hC2.out.1 h5 h6,by rw [← h6]⟩
        rw [nn_size] at h6
        rw [← h6] at hlng
        clear h6
        go_wp2_with (first | (go_at_call 55; refine (hkey _).mono ?_; rintro e w' ⟨rfl,rfl⟩) | (go_at_call 190; refine (must_true _).mono ?_; rintro e w' ⟨rfl,rfl⟩))
        refine (hlng _ (hT.below hE2.bel)).mono ?_
        rintro e w3 ⟨rfl,hb3⟩
        dsimp only
        have hE3:=hE2.next hb3
        have hc3:=hE3.cell
        have hz3:=hE3.frz
        have hbs:=hE3.bel.setCell (p:=⟨w.heap.size,0,none⟩) (Nat.le_refl _) (.int .i64 0)
        have hcs : (w3.setCell ⟨w.heap.size,0,none⟩ (.int .i64 0)).cell? ⟨w.heap.size,0,none⟩ = some (.int .i64 0):=World.cell?_setCell_same _ _ _ hc3
        go_wp2_with (first | (go_at_call 190; refine (must_true _).mono ?_; rintro e w' ⟨rfl,rfl⟩))
        exact door_ret _ _ _ hbs hcs rfl rfl rfl rfl hR.out
       ·have hno : Hid (∀ x y,¬ Rd l x y):=⟨fun x y h => by
         obtain ⟨e1,e2⟩:=hU.out x y h
         exact h6 (by rw [e1,e2]; exact (hF.out x y h).1)⟩
        rw [nn_size] at h6
        generalize LEN (a.size + b.size + 3) = L at h6 hlng
        have d6 : ((z : Int) == (L : Int)) = false:=beq_eq_false_iff_ne.2 (by omega)
        go_wp2_with (first | (go_at_call 55; refine (hkey _).mono ?_; rintro e w' ⟨rfl,rfl⟩))
        refine (hlng _ (hT.below hE2.bel)).mono ?_
        rintro e w3 ⟨rfl,hb3⟩
        dsimp only
        have hE3:=hE2.next hb3
        go_wp2_with (first | (go_at_call 190; refine (must_false _).mono ?_; rintro e w' ⟨rfl,rfl⟩))
        exact door_panic _ _ _ hE3 rfl rfl rfl rfl hno.out
      ·rw [Bool.not_eq_true] at h5
       have hno : Hid (∀ x y,¬ Rd l x y):=⟨fun x y h => by
        have:=(hU.out x y h).1
        rw [this,h.kk] at h5; cases h5⟩
       rw [h5] at hkey
       go_wp2_with (first | (go_at_call 55; refine (hkey _).mono ?_; rintro e w' ⟨rfl,rfl⟩) | (go_at_call 190; refine (must_false _).mono ?_; rintro e w' ⟨rfl,rfl⟩))
       exact door_panic _ _ _ hE2 rfl rfl rfl rfl hno.out
    ·have hno : Hid (∀ x y,¬ Rd l x y):=⟨fun x y h => by
      obtain ⟨_,_,_,a,_⟩:=hF.out x y h
      rw [List.getElem?_eq_getElem (by omega)] at a
      exact h3 (by rw [List.getD_eq_getElem?_getD,List.getElem?_eq_getElem (by omega),a]; rfl)⟩
     generalize l.getD (z - 1) 0 = c at hx h3
     have d3 : ((c.toNat : Int) == 10) = false:=by simpa using fun e => h3 (UInt8.toNat_inj.1 (Int.ofNat.inj e))
     go_wp2_with (first | (go_at_call 190; refine (must_false _).mono ?_; rintro e w' ⟨rfl,rfl⟩))
     exact door_panic _ _ _ hE0 rfl rfl rfl rfl hno.out
   ·have d2 : decide ((z : Int) ≤ (s.size : Int)) = false:=decide_eq_false (by omega)
    have hno : Hid (∀ x y,¬ Rd l x y):=⟨fun x y h => h2 (hF.out x y h).2.2.1⟩
    go_wp2_with (first | (go_at_call 190; refine (must_false _).mono ?_; rintro e w' ⟨rfl,rfl⟩))
    exact door_panic _ _ _ hE0 rfl rfl rfl rfl hno.out
  ·have d1 : decide ((g : Int) + 1 < (z : Int)) = false:=decide_eq_false (by omega)
   have hno : Hid (∀ x y,¬ Rd l x y):=⟨fun x y h => h1 (hF.out x y h).2.1⟩
   go_wp2_with (first | (go_at_call 190; refine (must_false _).mono ?_; rintro e w' ⟨rfl,rfl⟩))
   exact door_panic _ _ _ hE0 rfl rfl rfl rfl hno.out
 ·exact door_panic _ _ _ hE0 rfl rfl rfl rfl (fun x y h => hno _ h.ld)
end
section
open Go.RowKit
structure RdAt (l : List UInt8) (p : Int) (k v : List UInt8) (n er : Int) : Prop where
 arg : (p < 0 ∨ (l.length : Int) < p) → k = [] ∧ v = [] ∧ n = 0 ∧ er = 1
 none : p = (l.length : Int) → k = [] ∧ v = [] ∧ n = 0 ∧ er = 5
 at' : 0 ≤ p → p < (l.length : Int) → (er = 0 ∧ Rd (l.drop p.toNat) k v ∧ n = p + (LEN (nn k v) : Nat)) ∨ (er = 4 ∧ k = [] ∧ v = [] ∧ n = 0 ∧ ∀ x y,¬ Rd (l.drop p.toNat) x y)
def ReadPost (l : List UInt8) (p : Int) (w : World) (e : Ending) (w' : World) : Prop :=
 ∃ (k v : ByteArray) (n er : Int),e = .returned (.tuple #[.string k,.string v,.int .i64 n,.int .i64 er]) ∧ RdAt l p k.data.toList v.data.toList n er ∧ Below w.heap.size w w'
theorem results_tmp4 {fn : Func} {t u v x : Tmp} (h : fn.results = #[.tmp t,.tmp u,.tmp v,.tmp x]) (tmps : Array Value) (P : Program) (w : World) :
  (results fn tmps).run P w = .ok (.tuple #[tmps.getD t undef,tmps.getD u undef,tmps.getD v undef,tmps.getD x undef]) w:=by
 simp [results,h]
theorem clone_any (s : ByteArray) (w : World) (hlim : s.size ≤ 281474976710656) :
  Calls Tryz.prog 119 #[.string s] w fun e w' => e = .returned (.string s) ∧ Below w.heap.size w w':=by
 go_enter Tryz.func119,Tryz.ntmps119
 go_wp2_with (go_at_call 161; refine (Tryz.stringslite_Clone s _ hlim).mono ?_; rintro e w' ⟨rfl,hb⟩)
 go_ret
 exact ⟨rfl,hb⟩
attribute [local go_sem ↓] Go.wp_at_zero Go.wp_at_succ
attribute [local go_sem ↓] sl9 ix9
theorem run_slL (s : ByteArray) (i : Nat) (h2 : i ≤ s.size) (w : World) : (slS (.string s) (some (.int .i64 (i : Int))) none none).run Tryz.prog w = .ok (.string (s.extract i s.size)) w:=by
 unfold slS
 rw [run_slice_string_l (P:=Tryz.prog) w 9 s Tryz.underlying9 .i64 i (by omega) (by omega)]
 rfl
set_option maxHeartbeats 1000000 in
theorem read_any (s : ByteArray) (p : Int) (hs : s.size ≤ 4611686018427387904) (hp : p ≤ 9223372036854775807) (w : World) (hT : TB w) :
  Calls Tryz.prog 103 #[.string s,.int .i64 p] w (ReadPost s.data.toList p w):=by
 obtain ⟨l,hl⟩ : ∃ l,l = s.data.toList:=⟨_,rfl⟩
 have hlen:=getD_of hl
 have hxd : ∀ o,(s.extract o s.size).data.toList = l.drop o:=fun o => by rw [hl]; exact ext_drop s o
 have hsl:=run_slL s
 rw [← hl]
 clear hl
 go_enter Tryz.func103,Tryz.ntmps103
 by_cases h1 : p < 0
 ·have d1 : decide (p < 0) = true:=decide_eq_true h1
  go_wp2_with fail
  refine bodyPost_ret (results_tmp4 rfl _ _ _) rfl ?_
  exact ⟨_,_,_,_,rfl,⟨fun _ => ⟨rfl,rfl,rfl,rfl⟩,fun h => by omega,fun h => by omega⟩,Below.refl _ _⟩
 ·have d1 : decide (p < 0) = false:=decide_eq_false h1
  by_cases h2 : (s.size : Int) < p
  ·have d2 : decide ((s.size : Int) < p) = true:=decide_eq_true h2
   go_wp2_with fail
   refine bodyPost_ret (results_tmp4 rfl _ _ _) rfl ?_
   exact ⟨_,_,_,_,rfl,⟨fun _ => ⟨rfl,rfl,rfl,rfl⟩,fun h => by omega,fun h => by omega⟩,Below.refl _ _⟩
  ·have d2 : decide ((s.size : Int) < p) = false:=decide_eq_false h2
   obtain ⟨o,rfl⟩ : ∃ o : Nat,p = (o : Int):=⟨p.toNat,by omega⟩
   by_cases h3 : o = s.size
   ·have d3 : ((o : Int) == (s.size : Int)) = true:=by rw [h3]; exact beq_self_eq_true _
    have H3 : Hid (o = s.size):=⟨h3⟩
    clear h3
    go_wp2_with fail
    refine bodyPost_ret (results_tmp4 rfl _ _ _) rfl ?_
    have:=H3.out
    exact ⟨_,_,_,_,rfl,⟨fun h => by omega,fun h => ⟨rfl,rfl,rfl,rfl⟩,fun _ h => by omega⟩,Below.refl _ _⟩
   ·have d3 : ((o : Int) == (s.size : Int)) = false:=beq_eq_false_iff_ne.2 (by omega)
    have hsl1:=hsl o (by omega)
    have hq0 : 0 < (s.extract o s.size).size:=by rw [ByteArray.size_extract]; omega
    have hq1 : (s.extract o s.size).size ≤ 4611686018427387904:=by rw [ByteArray.size_extract]; omega
    have hf:=fun w ht => first_any (s.extract o s.size) hq0 hq1 w ht
    rw [hxd o] at hf
    generalize s.extract o s.size = q at *
    clear hsl
    go_wp2_with fail
    refine (hf _ hT).mono ?_
    rintro e w1 ⟨k,v,n,er,rfl,hR,hb⟩
    dsimp only
    rcases hR with ⟨rfl,hR,hn⟩ | ⟨rfl,hno⟩
    ·have hk : k.size + v.size ≤ 1048576:=by
      have h4:=hR.small
      have h5:=LEN_pos (nn k.data.toList v.data.toList)
      rw [nn_size] at h4 h5
      omega
     have HR : Hid (Rd (l.drop o) k.data.toList v.data.toList ∧ n = (LEN (nn k.data.toList v.data.toList) : Nat)):=⟨hR,hn⟩
     have hn2 : 0 ≤ n ∧ n ≤ 1048576:=by rw [hn]; have:=hR.small; omega
     clear hR hn
     have hck:=fun w => clone_any k w (by omega)
     have hcv:=fun w => clone_any v w (by omega)
     have hsum : 0 ≤ (o : Int) + n ∧ (o : Int) + n ≤ 9223372036854775807:=by omega
     go_wp2_with fail
     refine (hck _).mono ?_
     rintro e w2 ⟨rfl,hb2⟩
     dsimp only
     go_wp2_with fail
     refine (hcv _).mono ?_
     rintro e w3 ⟨rfl,hb3⟩
     dsimp only
     go_wp2_with fail
     refine bodyPost_ret (results_tmp4 rfl _ _ _) rfl ?_
     exact ⟨_,_,_,_,rfl,⟨fun h => by omega,fun h => by omega,fun _ _ => Or.inl ⟨rfl,HR.out.1,by rw [HR.out.2]⟩⟩,below_seq (below_seq hb hb2) hb3⟩
    ·go_wp2_with fail
     refine bodyPost_ret (results_tmp4 rfl _ _ _) rfl ?_
     exact ⟨_,_,_,_,rfl,⟨fun h => by omega,fun h => by omega,fun _ _ => Or.inr ⟨rfl,rfl,rfl,rfl,hno⟩⟩,hb⟩
end
section
open Go.RowKit
structure Nm (l : List UInt8) (k : Nat) : Prop where
 le : k ≤ 8
 len : k ≤ l.length
 dg : digs l k
 stop : k = l.length ∨ k = 8 ∨ ¬ isDig (l.getD k 0)
theorem Nm.of_rd {l x y : List UInt8} {k : Nat} (h : Nm l k) (r : Rd l x y) : l.take k = Lib.decDigits (LEN (nn x y)) ∧ k = dig (nn x y):=by
 obtain ⟨a,b,c,d,e,f⟩:=r.ld.parts
 have hd : (Lib.decDigits (LEN (nn x y))).length = dig (nn x y):=by rw [Lib.decDigits_length,nDigits_LEN]
 rw [hd] at a b c d e
 have h7:=dig_seven r.small
 have hk : k = dig (nn x y):=by
  rcases Nat.lt_trichotomy k (dig (nn x y)) with g | g | g
  ·rcases h.stop with s | s | s
   ·omega
   ·omega
   ·exact absurd (e k g) s
  ·exact g
  ·have:=h.dg _ g; rw [c] at this; exact absurd this not_dig_32
 exact ⟨by rw [hk,d],hk⟩
attribute [local go_sem ↓] Go.wp_at_zero Go.wp_at_succ
attribute [local go_sem ↓] sl9 ix9
theorem val_lt (l : List UInt8) (hd : ∀ c ∈ l,isDig c) : val l < 10 ^ l.length:=by
 have : ∀ (m : Nat) (l : List UInt8),l.length = m → (∀ c ∈ l,isDig c) → val l < 10 ^ l.length:=by
  intro m
  induction m with
  | zero => intro l h _; rw [List.length_eq_zero_iff.1 h]; decide
  | succ m ih =>
   intro l h hd
   have hn : l ≠ []:=fun e => by rw [e] at h; simp at h
   obtain ⟨q,c,rfl⟩ : ∃ q c,l = q ++ [c]:=⟨l.dropLast,l.getLast hn,(List.dropLast_concat_getLast hn).symm⟩
   have h1:=ih q (by simp at h; omega) (fun x hx => hd x (by simp [hx]))
   have h2:=hd c (by simp)
   obtain ⟨c1,c2⟩:=h2
   rw [val_snoc,List.length_append,List.length_singleton,Nat.pow_succ]
   omega
 exact this _ l rfl hd
theorem digs_take {l : List UInt8} {k : Nat} (hk : k ≤ l.length) (h : digs l k) : ∀ c ∈ l.take k,isDig c:=fun c hc => by
 obtain ⟨j,hj,e⟩:=mem_getD hc
 rw [List.length_take] at hj
 rw [← e,List.getD_eq_getElem?_getD,List.getElem?_take_of_lt (by omega),← List.getD_eq_getElem?_getD]
 exact h j (by omega)
theorem val_small {l : List UInt8} {k : Nat} (hk : k ≤ l.length) (h8 : k ≤ 8) (h : digs l k) : val (l.take k) < 100000000:=by
 have h1:=val_lt _ (digs_take hk h)
 rw [List.length_take,Nat.min_eq_left hk] at h1
 exact Nat.lt_of_lt_of_le h1 (Nat.pow_le_pow_right (by decide) h8)
theorem number_any (s : ByteArray) (hs : s.size ≤ 4611686018427387904) (w : World) :
  Calls Tryz.prog 168 #[.string s] w fun e w' => ∃ k,Nm s.data.toList k ∧ e = .returned (.tuple #[.int .i64 (val (s.data.toList.take k)),.int .i64 k]) ∧ w' = w:=by
 obtain ⟨l,hl⟩ : ∃ l,l = s.data.toList:=⟨_,rfl⟩
 have hlen:=getD_of hl
 have hix : ∀ (p : Nat) (h : p < s.size) (w : World),(ixS (.string s) (.int .i64 (p : Int))).run Tryz.prog w = .ok (.int .u8 ((l.getD p 0).toNat : Int)) w:=idxs s l hl
 rw [← hl]
 clear hl
 go_enter Tryz.func168,Tryz.ntmps168
 go_wp2_with fail
 go_loop [4,5] (fun v i => ∃ k : Nat,v = .int .i64 (val (l.take k)) ∧ i = .int .i64 k ∧ k ≤ s.size ∧ k ≤ 8 ∧ digs l k) (fun _ i => 8 - (intOf i).toNat)
 case atStart => exact ⟨0,rfl,rfl,Nat.zero_le _,Nat.zero_le _,fun j hj => by omega⟩
 case round =>
  obtain ⟨k,rfl,rfl,hk,hk8,hb⟩:=hrel
  by_cases h1 : k < s.size
  ·have d1 : decide ((k : Int) < (s.size : Int)) = true:=decide_eq_true (by omega)
   by_cases h2 : k < 8
   ·have d2 : decide ((k : Int) < 8) = true:=decide_eq_true (by omega)
    have hx:=hix k h1
    have hvt : Hid (val (l.take (k + 1)) = val (l.take k) * 10 + ((l.getD k 0).toNat - 48)):=⟨val_take l k (by omega)⟩
    obtain ⟨c,hc⟩ : ∃ c,c = l.getD k 0:=⟨_,rfl⟩
    rw [← hc] at hx hvt
    have HC : Hid (c = l.getD k 0):=⟨hc⟩
    clear hc hix
    by_cases h5 : 48 ≤ c.toNat
    ·have d5 : decide ((48 : Int) ≤ (c.toNat : Int)) = true:=decide_eq_true (by omega)
     by_cases h6 : c.toNat ≤ 57
     ·have d6 : decide ((c.toNat : Int) ≤ 57) = true:=decide_eq_true (by omega)
      have hb1 : Hid (digs l (k + 1)):=⟨fun j hj => by
       by_cases e : j = k
       ·subst e; rw [← HC.out]; exact ⟨h5,h6⟩
       ·exact hb j (by omega)⟩
      have hv:=val_small (by omega) hk8 hb
      obtain ⟨m,hm⟩ : ∃ m,m = val (l.take k):=⟨_,rfl⟩
      have hmm : Hid ((val (l.take (k + 1)) : Int) = 10 * (m : Int) + ((c.toNat : Int) - 48)):=⟨by rw [hvt.out,← hm]; omega⟩
      rw [← hm] at hv ⊢
      clear hm hvt
      go_wp2_with fail
      go_round
      case rel => exact ⟨k + 1,by rw [hmm.out],by go_num,h1,by omega,hb1.out⟩
      case measure => simp [intOf]; omega
     ·have d6 : decide ((c.toNat : Int) ≤ 57) = false:=decide_eq_false (by omega)
      have hN : Hid (Nm l k):=⟨⟨hk8,by omega,hb,Or.inr (Or.inr (by rw [← HC.out]; exact fun h => h6 h.2))⟩⟩
      go_wp2_with fail
      go_ret2
      exact ⟨k,hN.out,rfl,rfl⟩
    ·have d5 : decide ((48 : Int) ≤ (c.toNat : Int)) = false:=decide_eq_false (by omega)
     have hN : Hid (Nm l k):=⟨⟨hk8,by omega,hb,Or.inr (Or.inr (by rw [← HC.out]; exact fun h => h5 h.1))⟩⟩
     go_wp2_with fail
     go_ret2
     exact ⟨k,hN.out,rfl,rfl⟩
   ·have d2 : decide ((k : Int) < 8) = false:=decide_eq_false (by omega)
    have hN : Hid (Nm l k):=⟨⟨hk8,by omega,hb,Or.inr (Or.inl (by omega))⟩⟩
    clear hix
    go_wp2_with fail
    go_ret2
    exact ⟨k,hN.out,rfl,rfl⟩
  ·have d1 : decide ((k : Int) < (s.size : Int)) = false:=decide_eq_false (by omega)
   have hN : Hid (Nm l k):=⟨⟨hk8,by omega,hb,Or.inl (by omega)⟩⟩
   clear hix
   go_wp2_with fail
   go_ret2
   exact ⟨k,hN.out,rfl,rfl⟩
end
section
open Go.RowKit
theorem Nm.facts {l x y : List UInt8} {k : Nat} (h : Nm l k) (r : Rd l x y) :
  val (l.take k) = LEN (nn x y) ∧ 0 < k ∧ k + 2 ≤ val (l.take k) ∧ val (l.take k) ≤ l.length ∧ l.take (val (l.take k)) = recd x y ∧ (l.drop (k + 1)).take (val (l.take k) - 1 - (k + 1)) = x ++ 61 :: y:=by
 obtain ⟨h1,h2⟩:=h.of_rd r
 have f:=r.facts r.ld
 have hd : (Lib.decDigits (LEN (nn x y))).length = k:=by rw [h2,Lib.decDigits_length,nDigits_LEN]
 rw [← h1] at f
 have hl : (l.take k).length = k:=by rw [h1]; exact hd
 rw [hl] at f
 obtain ⟨f1,f2,f3,f4,f5⟩:=f
 have hp:=dig_pos (nn x y)
 refine ⟨f1,by omega,by omega,f3,?_,f5⟩
 obtain ⟨t,e⟩:=r.pre
 rw [f1,e]
 exact List.take_left' (recd_length x y)
theorem body_eq (l : List UInt8) (k z : Nat) : ((l.take z).drop (k + 1)).take (z - 1 - (k + 1)) = (l.drop (k + 1)).take (z - 1 - (k + 1)):=by
 rw [List.drop_take,List.take_take,Nat.min_eq_left (by omega)]
theorem Rd.of_wrote {l a b : List UInt8} {z : Nat} (h1 : werr a b = 0) (h2 : wrote a b = l.take z) (hz : z ≤ l.length) : Rd l a b ∧ z = LEN (nn a b):=by
 unfold werr at h1
 unfold wrote at h2
 by_cases hk : key a = false
 ·rw [if_pos hk] at h1; cases h1
 ·rw [if_neg hk] at h1 h2
  by_cases hs : 1048576 < LEN (nn a b)
  ·rw [if_pos hs] at h1; cases h1
  ·rw [if_neg hs] at h2
   refine ⟨⟨by simpa using hk,by omega,⟨l.drop z,by rw [h2,List.take_append_drop]⟩⟩,?_⟩
   have:=congrArg List.length h2
   rw [recd_length,List.length_take] at this
   omega
theorem Rd.wr {l a b : List UInt8} (h : Rd l a b) : wrote a b = recd a b ∧ werr a b = 0:=by
 unfold wrote werr
 have h1 : ¬ key a = false:=by rw [h.kk]; decide
 have h2 : ¬ 1048576 < LEN (nn a b):=by have:=h.small; omega
 rw [if_neg h1,if_neg h1,if_neg h2,if_neg h2]
 exact ⟨rfl,rfl⟩
theorem ba_ne {a b : ByteArray} (h : ¬ a = b) : (a.toList == b.toList) = false:=by
 rw [ByteArray.toList_eq,ByteArray.toList_eq]
 refine beq_eq_false_iff_ne.2 fun e => h ?_
 apply ByteArray.ext; exact Array.toList_inj.1 e
attribute [local go_sem ↓] Go.wp_at_zero Go.wp_at_succ
attribute [local go_sem ↓] sl9 ix9
set_option maxHeartbeats 1000000 in
theorem refRead_any (s : ByteArray) (p : Int) (hs : s.size ≤ 281474976710656) (hp : p ≤ 9223372036854775807) (w : World) :
  Calls Tryz.prog 132 #[.string s,.int .i64 p] w (ReadPost s.data.toList p w):=by
 obtain ⟨l,hl⟩ : ∃ l,l = s.data.toList:=⟨_,rfl⟩
 have hlen:=getD_of hl
 have hxd : ∀ o,(s.extract o s.size).data.toList = l.drop o:=fun o => by rw [hl]; exact ext_drop s o
 have hxt : ∀ i j,(s.extract i j).data.toList = (l.drop i).take (j - i):=fun i j => by rw [hl]; exact ext_mid s i j
 have hsl:=run_slL s
 have hsm:=run_slS s
 rw [← hl]
 clear hl
 go_enter Tryz.func132,Tryz.ntmps132
 by_cases h1 : p < 0
 ·have d1 : decide (p < 0) = true:=decide_eq_true h1
  go_wp2_with fail
  refine bodyPost_ret (results_tmp4 rfl _ _ _) rfl ?_
  exact ⟨_,_,_,_,rfl,⟨fun _ => ⟨rfl,rfl,rfl,rfl⟩,fun h => by omega,fun h => by omega⟩,Below.refl _ _⟩
 ·have d1 : decide (p < 0) = false:=decide_eq_false h1
  by_cases h2 : (s.size : Int) < p
  ·have d2 : decide ((s.size : Int) < p) = true:=decide_eq_true h2
   go_wp2_with fail
   refine bodyPost_ret (results_tmp4 rfl _ _ _) rfl ?_
   exact ⟨_,_,_,_,rfl,⟨fun _ => ⟨rfl,rfl,rfl,rfl⟩,fun h => by omega,fun h => by omega⟩,Below.refl _ _⟩
  ·have d2 : decide ((s.size : Int) < p) = false:=decide_eq_false h2
   obtain ⟨o,rfl⟩ : ∃ o : Nat,p = (o : Int):=⟨p.toNat,by omega⟩
   by_cases h3 : o = s.size
   ·have d3 : ((o : Int) == (s.size : Int)) = true:=by rw [h3]; exact beq_self_eq_true _
    have H3 : Hid (o = s.size):=⟨h3⟩
    clear h3
    go_wp2_with fail
    refine bodyPost_ret (results_tmp4 rfl _ _ _) rfl ?_
    have:=H3.out
    exact ⟨_,_,_,_,rfl,⟨fun h => by omega,fun h => ⟨rfl,rfl,rfl,rfl⟩,fun _ h => by omega⟩,Below.refl _ _⟩
   ·have d3 : ((o : Int) == (s.size : Int)) = false:=beq_eq_false_iff_ne.2 (by omega)
    have hsl1:=hsl o (by omega)
    have hq1 : (s.extract o s.size).size ≤ 4611686018427387904:=by rw [ByteArray.size_extract]; omega
    have hf:=fun w => number_any (s.extract o s.size) hq1 w
    rw [hxd o] at hf
    have hol : (l.drop o).length = s.size - o:=by rw [List.length_drop]; omega
    have hos : o < s.size:=by omega
    have hBad : Hid ((∀ x y,¬ Rd (l.drop o) x y) → RdAt l (o : Int) [] [] 0 4):=⟨fun hno => ⟨fun h => by omega,fun h => by omega,fun _ _ => Or.inr ⟨rfl,rfl,rfl,rfl,hno⟩⟩⟩
    have hOk : Hid (∀ a b n,Rd (l.drop o) a b → n = (LEN (nn a b) : Nat) → RdAt l (o : Int) a b ((o : Int) + n) 0):=⟨fun a b n h e => ⟨fun h => by omega,fun h => by omega,fun _ _ => Or.inl ⟨rfl,h,by rw [e]⟩⟩⟩
    generalize s.extract o s.size = q at *
    clear hsl hxd
    have hxt1:=hxt o
    generalize hLL : l.drop o = L at *
    clear hLL
    go_wp2_with fail
    refine (hf _).mono ?_
    rintro e w1 ⟨k,hN,rfl,rfl⟩
    dsimp only
    have hF : Hid (∀ x y,Rd L x y → val (L.take k) = LEN (nn x y) ∧ 0 < k ∧ k + 2 ≤ val (L.take k) ∧ val (L.take k) ≤ L.length ∧ L.take (val (L.take k)) = recd x y ∧ (L.drop (k + 1)).take (val (L.take k) - 1 - (k + 1)) = x ++ 61 :: y):=⟨fun x y h => hN.facts h⟩
    have hk8:=hN.le
    clear hN
    generalize val (L.take k) = z at *
    by_cases h4 : k = 0
    ·have hno : Hid (RdAt l (o : Int) [] [] 0 4):=⟨hBad.out fun x y h => by have:=hF.out x y h; omega⟩
     subst h4
     go_wp2_with fail
     refine bodyPost_ret (results_tmp4 rfl _ _ _) rfl ?_
     exact ⟨_,_,_,_,rfl,hno.out,Below.refl _ _⟩
    ·have d4 : ((k : Int) == 0) = false:=beq_eq_false_iff_ne.2 (by omega)
     by_cases h5 : z < k + 2
     ·have hno : Hid (RdAt l (o : Int) [] [] 0 4):=⟨hBad.out fun x y h => by have:=hF.out x y h; omega⟩
      have d5 : decide ((z : Int) < (k : Int) + 2) = true:=decide_eq_true (by omega)
      go_wp2_with fail
      refine bodyPost_ret (results_tmp4 rfl _ _ _) rfl ?_
      exact ⟨_,_,_,_,rfl,hno.out,Below.refl _ _⟩
     ·have d5 : decide ((z : Int) < (k : Int) + 2) = false:=decide_eq_false (by omega)
      by_cases h6 : s.size - o < z
      ·have hno : Hid (RdAt l (o : Int) [] [] 0 4):=⟨hBad.out fun x y h => by have:=hF.out x y h; omega⟩
       have d6 : decide ((s.size : Int) - (o : Int) < (z : Int)) = true:=decide_eq_true (by omega)
       go_wp2_with fail
       refine bodyPost_ret (results_tmp4 rfl _ _ _) rfl ?_
       exact ⟨_,_,_,_,rfl,hno.out,Below.refl _ _⟩
      ·have d6 : decide ((s.size : Int) - (o : Int) < (z : Int)) = false:=decide_eq_false (by omega)
       obtain ⟨r,hr⟩ : ∃ r,r = s.extract o (o + z):=⟨_,rfl⟩
       have hrl : r.data.toList = L.take z:=by rw [hr,hxt1,show o + z - o = z by omega]
       have hrs : r.size = z:=by
        have : r.size = r.data.toList.length:=by rw [Array.length_toList]; rfl
        rw [this,hrl,List.length_take]; omega
       have s1 : ∀ w,(slS (.string s) (some (.int .i64 (o : Int))) (some (.int .i64 ((o : Int) + (z : Int)))) none).run Tryz.prog w = .ok (.string r) w:=fun w => by
        have:=hsm o (o + z) (by omega) (by omega) w
        rw [← hr] at this
        rwa [show ((o + z : Nat) : Int) = (o : Int) + (z : Int) by omega] at this
       obtain ⟨c,hc⟩ : ∃ c,c = r.extract (k + 1) (z - 1):=⟨_,rfl⟩
       have s2 : ∀ w,(slS (.string r) (some (.int .i64 ((k : Int) + 1))) (some (.int .i64 ((z : Int) - 1))) none).run Tryz.prog w = .ok (.string c) w:=fun w => by
        have:=run_slS r (k + 1) (z - 1) (by omega) (by omega) w
        rw [← hc] at this
        rwa [show ((z - 1 : Nat) : Int) = (z : Int) - 1 by omega,show ((k + 1 : Nat) : Int) = (k : Int) + 1 by omega] at this
       have hcl : c.data.toList = (L.drop (k + 1)).take (z - 1 - (k + 1)):=by rw [hc,ext_mid,hrl,body_eq]
       have hcs : c.size = z - 1 - (k + 1):=by rw [hc,ByteArray.size_extract]; omega
       have hcut:=fun w => refCut_any c 61 (by omega) w
       rw [hcl] at hcut
       clear hsm hr hxt hxt1 hc
       go_wp2_with fail
       refine (hcut _).mono ?_
       rintro e w2 ⟨a,b,f,rfl,hC,hb⟩
       dsimp only
       cases f
       ·have hno : Hid (RdAt l (o : Int) [] [] 0 4):=⟨hBad.out fun x y h => by
         rcases hC with ⟨e,_⟩ | ⟨_,e⟩
         ·cases e
         ·exact e (by rw [(hF.out x y h).2.2.2.2.2]; simp)⟩
        go_wp2_with fail
        refine bodyPost_ret (results_tmp4 rfl _ _ _) rfl ?_
        exact ⟨_,_,_,_,rfl,hno.out,hb⟩
       ·have hC2 : Hid ((L.drop (k + 1)).take (z - 1 - (k + 1)) = a.data.toList ++ 61 :: b.data.toList ∧ (61 : UInt8) ∉ a.data.toList):=⟨by
         rcases hC with ⟨_,e⟩ | ⟨e,_⟩
         ·exact e
         ·cases e⟩
        clear hC
        have hab : a.size + b.size ≤ 281474976710656:=by
         have h5:=congrArg List.length hC2.out.1
         rw [List.length_append,List.length_cons,← hcl] at h5
         have h6 : a.data.toList.length = a.size:=Array.length_toList
         have h7 : b.data.toList.length = b.size:=Array.length_toList
         have h8 : c.data.toList.length = c.size:=Array.length_toList
         omega
        have hU : Hid (∀ x y,Rd L x y → a.data.toList = x ∧ b.data.toList = y):=⟨fun x y h => by
         have:=(hF.out x y h).2.2.2.2.2
         rw [hC2.out.1] at this
         exact split_uniq hC2.out.2 ((key_iff _).1 h.kk).2.1 this⟩
        have hW:=fun w => refWrite_any a b (by omega) (by omega) w
        have hYes : Hid (werr a.data.toList b.data.toList = 0 → wrote a.data.toList b.data.toList = L.take z → RdAt l (o : Int) a.data.toList b.data.toList ((o : Int) + (z : Int)) 0):=⟨fun g1 g2 => by
         obtain ⟨g3,g4⟩:=Rd.of_wrote g1 g2 (by omega)
         exact hOk.out _ _ _ g3 (by rw [← g4])⟩
        have hNo : Hid (¬ (werr a.data.toList b.data.toList = 0 ∧ wrote a.data.toList b.data.toList = L.take z) → RdAt l (o : Int) [] [] 0 4):=⟨fun g => hBad.out fun x y h => by
         obtain ⟨e1,e2⟩:=hU.out x y h
         refine g ?_
         rw [e1,e2]
         exact ⟨h.wr.2,by rw [h.wr.1]; exact (hF.out x y h).2.2.2.2.1.symm⟩⟩
        unfold str at hW
        obtain ⟨wl,hwl⟩ : ∃ wl,wl = wrote a.data.toList b.data.toList:=⟨_,rfl⟩
        obtain ⟨er,her⟩ : ∃ er,er = werr a.data.toList b.data.toList:=⟨_,rfl⟩
        rw [← hwl] at hW hYes hNo
        rw [← her] at hW hYes hNo
        clear hwl her
        rw [← hrl] at hYes hNo
        obtain ⟨wq,hwq⟩ : ∃ wq : ByteArray,wq = ⟨wl.toArray⟩:=⟨_,rfl⟩
        have hwd : wq.data.toList = wl:=by rw [hwq]
        rw [← hwq] at hW
        rw [← hwd] at hYes hNo
        clear hwq hwd
        go_wp2_with fail
        refine (hW _).mono ?_
        rintro e w3 ⟨rfl,hb3⟩
        replace hb3:=below_seq hb hb3
        dsimp only
        by_cases h7 : er = 0
        ·subst h7
         by_cases h8 : wq = r
         ·have hA : Hid _:=⟨hYes.out rfl (by rw [h8])⟩
          subst h8
          go_wp2_with fail
          refine bodyPost_ret (results_tmp4 rfl _ _ _) rfl ?_
          exact ⟨_,_,_,_,rfl,hA.out,hb3⟩
         ·have hA : Hid _:=⟨hNo.out (fun g => h8 (by apply ByteArray.ext; exact Array.toList_inj.1 g.2))⟩
          have d8 : (wq.toList == r.toList) = false:=ba_ne h8
          go_wp2_with fail
          refine bodyPost_ret (results_tmp4 rfl _ _ _) rfl ?_
          exact ⟨_,_,_,_,rfl,hA.out,hb3⟩
        ·have hA : Hid _:=⟨hNo.out (fun g => h7 g.1)⟩
         have d7 : (er == 0) = false:=beq_eq_false_iff_ne.2 h7
         go_wp2_with fail
         refine bodyPost_ret (results_tmp4 rfl _ _ _) rfl ?_
         exact ⟨_,_,_,_,rfl,hA.out,hb3⟩
end
end Go.Proofs.YtdfjlmfnkhhnjaaGreatDoorP
