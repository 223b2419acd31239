import Derived.Test.YtdfjlmfnkhhnjaaGreatDoorGb
import Derived.Test.YtdfjlmfnkhhnjaaGreatDoorShelf
import Derived.Laws.IdiomStrings
set_option maxRecDepth 100000
set_option linter.unusedVariables false
set_option linter.unusedSimpArgs false
namespace Go.Proofs.YtdfjlmfnkhhnjaaGreatDoorH
section
open Go.RowKit
attribute [local go_sem ↓] Go.wp_at_zero Go.wp_at_succ
theorem keepR {wr w2 w3 : World} {B n T : Nat} {g : Nat → UInt8} {C : Prop} (hB : B < wr.heap.size) (h1 : wr.heap[B]? = some (.cells (pb n g n) T (0,0))) {L : List UInt8} (hL : L = (List.range n).map g) (q : Below w2.heap.size w2 w3) (h : Below wr.heap.size wr w2 ∧ C) : Below wr.heap.size wr w3 ∧ (convert 47 9 (.slice (some ⟨B,0,none⟩) n n)).run Tryz.prog w3 = .ok (.string ⟨L.toArray⟩) w3:=by
 subst hL
 have b : Below wr.heap.size wr w3:=h.1.trans (q.mono h.1.size)
 exact ⟨b,conv_row (by rw [b.block B hB]; exact h1)⟩
def zerosB (z : Nat) : ByteArray:=⟨(List.replicate z 0).toArray⟩
theorem zerosB_size (z : Nat) : (zerosB z).size = z:=by simp [zerosB,ByteArray.size]
theorem repeat_zero : ∀ z,Lib.repeatL [0] z = List.replicate z 0
 | 0 => rfl
 | z + 1 => by rw [Lib.repeatL,repeat_zero z]; rfl
theorem zeros_any (z : Nat) (w : World) (h : z < 64) : Calls Tryz.prog 112 #[.string ⟨#[0]⟩,.int .i64 (z : Int)] w fun e w' => e = .returned (.string (zerosB z)) ∧ Below w.heap.size w w':=by
 have:=Tryz.strings_Repeat ⟨#[0]⟩ z w (by omega) (by show 1 * z ≤ _; omega)
 refine this.mono ?_
 rintro e w' ⟨rfl,b⟩
 exact ⟨by rw [zerosB,← repeat_zero],b⟩
theorem startR {wr : World} {B n T : Nat} {g : Nat → UInt8} (h1 : wr.heap[B]? = some (.cells (pb n g n) T (0,0))) {L : List UInt8} (hL : L = (List.range n).map g) : Below wr.heap.size wr wr.drew ∧ (convert 47 9 (.slice (some ⟨B,0,none⟩) n n)).run Tryz.prog wr.drew = .ok (.string ⟨L.toArray⟩) wr.drew:=by
 subst hL; exact ⟨(Below.refl _ _).drew,conv_row (w':=wr.drew) h1⟩
set_option maxHeartbeats 400000 in
theorem padding_any (n : Nat) (hn : n < 1152921504606846976) (w : World) :
  Calls Tryz.prog 138 #[.int .u64 (n : Int)] w fun e w' => e = .returned (.string ⟨(Sha.pad n).toArray⟩) ∧ Below w.heap.size w w':=by
 obtain ⟨z,hz,ez⟩ : ∃ z : Nat,z = (119 - n % 64) % 64 ∧ (119 - (n : Int) % 64) % 64 = (z : Int):=⟨_,rfl,by omega⟩
 have hz64 : z < 64:=by omega
 have HZ : Hid (z = (119 - n % 64) % 64):=hz
 clear hz
 go_enter Tryz.func138,Tryz.ntmps138
 go_wp2_with fail
 rw [← pb8 (Sha.lenByte n)]
 obtain ⟨W,hW,hb,h1⟩ : ∃ W,W = w.alloc (Obj.cells (pb 8 (Sha.lenByte n) 0) 204) ∧ Below w.heap.size w W ∧ W.heap[w.heap.size]? = some (.cells (pb 8 (Sha.lenByte n) 0) 204 (0,0)) :=
  ⟨_,rfl,(Below.refl _ _).alloc (Nat.le_refl _) _,heap_alloc_new _ _⟩
 rw [← hW]
 clear hW
 generalize hB : w.heap.size = B at *
 go_loopw [10] (fun i wr => ∃ k : Nat,k ≤ 8 ∧ i = .int .i64 k ∧ Below B w wr ∧ wr.heap[B]? = some (.cells (pb 8 (Sha.lenByte n) k) 204 (0,0))) (fun i _ => 8 - (intOf i).toNat)
 case atStart => exact ⟨0,by omega,rfl,hb,h1⟩
 case round =>
  clear hb h1
  obtain ⟨k,hk,rfl,hb,h1⟩:=hrel
  by_cases hlt : k < 8
  ·have hd : decide ((k : Int) < 8) = true:=by simp; omega
   have i0 : (0 : Int) ≤ (k : Int):=by omega
   have i1 : (k : Int) < 8:=by omega
   have g5 : wr.frozen? ⟨B,k,none⟩ = false:=frozen_of_row _ _ _ _ _ h1
   obtain ⟨v0,g4⟩ : ∃ v,wr.cell? ⟨B,k,none⟩ = some v:=⟨_,by rw [cell_of_row _ _ _ _ _ _ h1]; exact Array.getElem?_eq_getElem (by rw [pb_size]; omega)⟩
   go_wp2_with fail
   go_round
   case rel =>
    have e : 8 * (n : Int) / 2 ^ (56 - 8 * k) % 256 = ((Sha.lenByte n k).toNat : Int):=by
     unfold Sha.lenByte; rw [UInt8.toNat_ofNat']; exact (cast_div (8 * n) _).symm
    refine ⟨k + 1,by omega,by go_num,hb.setCell (Nat.le_refl _) _,?_⟩
    rw [cell_set _ _ _ _ _ _ h1,e,pb_set 8 _ k hlt]
   case measure => simp [intOf]; omega
  ·obtain rfl : k = 8:=by omega
   have hd : decide ((8 : Int) < 8) = false:=by decide
   go_wp2_with fail
   have hB1 : B < wr.heap.size:=by
    rcases Nat.lt_or_ge B wr.heap.size with h | h
    ·exact h
    ·rw [Array.getElem?_eq_none h] at h1; exact absurd h1 (by simp)
   have hwz : IntKind.i64.wrap (z : Int) = (z : Int):=by rw [IntKind.wrap_i64]; omega
   obtain ⟨L,hL⟩ : ∃ L,L = (List.range 8).map (Sha.lenByte n):=⟨_,rfl⟩
   have HL : Hid (L = (List.range 8).map (Sha.lenByte n)):=hL
   clear hL
   have hzs : (zerosB z).size = z:=zerosB_size z
   have hLs : L.length = 8:=by rw [HL.out]; simp
   have s1 : ¬ 9223372036854775807 < (⟨#[128]⟩ : ByteArray).size + (zerosB z).size:=by rw [hzs]; show ¬ _ < 1 + z; omega
   have s2 : ¬ 9223372036854775807 < ((⟨#[128]⟩ : ByteArray) ++ zerosB z).size + (⟨L.toArray⟩ : ByteArray).size:=by rw [ByteArray.size_append,hzs]; show ¬ _ < 1 + z + L.toArray.size; simp; omega
   have s3 : ¬ 9223372036854775807 < 1 + z:=by omega
   have s4 : ¬ 9223372036854775807 < 1 + z + 8:=by omega
   go_region_held3 (fun w' => (Below wr.heap.size wr w') ∧ (convert 47 9 (.slice (some ⟨B,0,none⟩) 8 8)).run Tryz.prog w' = .ok (.string ⟨L.toArray⟩) w') (first | exact startR h1 HL.out | exact keepR hB1 h1 HL.out bq (by assumption)) ((go_at_call 112; refine (zeros_any z _ hz64).mono ?_; rintro e w' ⟨rfl,bq⟩))
   go_wp2
   go_ret
   rename_i hH
   refine ⟨?_,by subst hB; exact hb.trans (hH.1.mono hb.size)⟩
   have e1 : ((⟨#[128]⟩ : ByteArray) ++ zerosB z ++ ⟨L.toArray⟩) = ⟨(Sha.pad n).toArray⟩:=by
    have a1 : (⟨#[128]⟩ : ByteArray) = ⟨([128] : List UInt8).toArray⟩:=rfl
    rw [a1,zerosB,ByteArray.mk_append_mk,ByteArray.mk_append_mk,HL.out,HZ.out]
    rfl
   exact congrArg (fun z => Ending.returned (.string z)) e1
end
section
open Go.RowKit
set_option maxHeartbeats 400000 in
theorem bytesOf_any (s : Sha.S8) (w : World) :
  Calls Tryz.prog 139 #[.agg (words8 s)] w fun e w' => e = .returned (.agg (b32 (Sha.outByte s))) ∧ Below w.heap.size w w':=by
 go_enter Tryz.func139,Tryz.ntmps139
 go_wp2_with fail
 rw [← pb32 (Sha.outByte s)]
 have hT : ∃ W,W = ((w.alloc (Obj.cells (words8 s) 167)).alloc (Obj.cells (pb 32 (Sha.outByte s) 0) 44)).alloc (Obj.cells (pb 32 (Sha.outByte s) 0) 44) ∧ Below w.heap.size w W ∧ W.heap[w.heap.size]? = some (.cells (words8 s) 167 (0,0)) ∧ W.heap[w.heap.size + 1]? = some (.cells (pb 32 (Sha.outByte s) 0) 44 (0,0)) ∧ W.heap[w.heap.size + 1 + 1]? = some (.cells (pb 32 (Sha.outByte s) 0) 44 (0,0)):=by
  refine ⟨_,rfl,(((Below.refl _ _).alloc (Nat.le_refl _) _).alloc (by simp) _).alloc (by simp; omega) _,?_,?_,?_⟩
  ·rw [heap_alloc_old _ _ (by simp; omega),heap_alloc_old _ _ (by simp),heap_alloc_new]
  ·rw [heap_alloc_old _ _ (by simp),heap_alloc2_new]
  ·have:=heap_alloc_new ((w.alloc (Obj.cells (words8 s) 167)).alloc (Obj.cells (pb 32 (Sha.outByte s) 0) 44)) (Obj.cells (pb 32 (Sha.outByte s) 0) 44)
   simpa using this
 obtain ⟨W,hW,hb,h1,h2,h3⟩:=hT
 rw [← hW]
 clear hW
 generalize hB : w.heap.size = B at *
 generalize hg : Sha.outByte s = g at *
 have hr : Hid (Sha.outByte s = g):=hg
 clear hg
 go_loopw [5] (fun i wr => ∃ k : Nat,k ≤ 32 ∧ i = .int .i64 k ∧ Below B w wr ∧ wr.heap[B]? = some (.cells (words8 s) 167 (0,0)) ∧ wr.heap[B + 1]? = some (.cells (pb 32 g 0) 44 (0,0)) ∧ wr.heap[B + 1 + 1]? = some (.cells (pb 32 g k) 44 (0,0))) (fun i _ => 32 - (intOf i).toNat)
 case atStart => exact ⟨0,by omega,rfl,hb,h1,h2,h3⟩
 case round =>
  clear hb h1 h2 h3
  obtain ⟨k,hk,rfl,hb,h1,h2,h3⟩:=hrel
  by_cases hlt : k < 32
  ·have hd : decide ((k : Int) < 32) = true:=by simp; omega
   have i0 : (0 : Int) ≤ (k : Int):=by omega
   have i1 : (k : Int) < 32:=by omega
   have gc : wr.cell? ⟨B,k / 4,none⟩ = some (.int .u32 ((Sha.word s (k / 4)).toNat : Int)):=by rw [cell_of_row _ _ _ _ _ _ h1,words8_get s (k / 4) (by omega)]
   have g5 : wr.frozen? ⟨B + 1 + 1,k,none⟩ = false:=frozen_of_row _ _ _ _ _ h3
   obtain ⟨v0,g4⟩ : ∃ v,wr.cell? ⟨B + 1 + 1,k,none⟩ = some v:=⟨_,by rw [cell_of_row _ _ _ _ _ _ h3]; exact Array.getElem?_eq_getElem (by rw [pb_size]; omega)⟩
   go_wp2_with fail
   go_round
   case rel =>
    have e : ((Sha.word s (k / 4)).toNat : Int) / 2 ^ (24 - 8 * (k % 4)) % 256 = ((g k).toNat : Int):=by
     rw [← hr.out]; unfold Sha.outByte; rw [UInt8.toNat_ofNat']; exact (cast_div _ _).symm
    refine ⟨k + 1,by omega,by go_num,hb.setCell (by show B ≤ B + 1 + 1; omega) _,?_,?_,?_⟩
    ·rw [Below.heap_setCell _ _ _ _ (by show B ≠ B + 1 + 1; omega),h1]
    ·rw [Below.heap_setCell _ _ _ _ (by show B + 1 ≠ B + 1 + 1; omega),h2]
    ·rw [cell_set _ _ _ _ _ _ h3,e,pb_set 32 g k hlt]
   case measure => simp [intOf]; omega
  ·obtain rfl : k = 32:=by omega
   have hd : decide ((32 : Int) < 32) = false:=by decide
   have hs : (pb 32 g 32).size = 32:=pb_size 32 g 32
   have ho : (pb 32 g 32).all (·.oneCell') = true:=pb_one 32 g 32
   have hz : (pb 32 g 0).size = (pb 32 g 32).size:=by rw [pb_size,pb_size]
   have e8 : Hid (pb 32 g 32 = b32 g):=rfl
   generalize pb 32 g 32 = A at *
   have hi : (Tryz.prog.info? 44).map (·.size) = some A.size:=by rw [hs]; exact info22
   go_wp2_with (first
    | (refine wpList_load_row rfl 44 _ rfl _ rfl 44 _ (0,0) _ h3 Tryz.underlying44 rfl hi ?_)
    | (refine wpList_store_row rfl 44 _ _ rfl _ _ rfl rfl 44 _ h2 hi hz ho ?_))
   refine bodyPost_ret (v := .agg A) (results_cell_row Tryz.results139 _ _ (B + 1) 44 A (0,0) _ rfl (setRow_heap _ _ _ _ _ _ h2) Tryz.underlying44 rfl hi) rfl ⟨by rw [e8.out,hr.out],by subst hB; exact below_setRow hb (by omega) _⟩
end
section
open Go.RowKit
def dg (m : List UInt8) : Nat → UInt8:=Sha.outByte (Sha.num (m ++ Sha.pad m.length))
theorem info52 : (Tryz.prog.info? 170).map (·.size) = some 73:=by kernel_rfl
def zw : Array Value:=wcells ⟨0#32,0#32,0#32,0#32,0#32,0#32,0#32,0#32⟩ (fun _ => 0) 0
theorem zinfo52 : (Tryz.prog.info? 170).map (fun i => (i.zero,i.size)) = some (some (.agg zw),73):=by kernel_rfl
theorem zero52 (w : World) : (zeroValue 170).run Tryz.prog w = .ok (.agg zw) w:=(zero_of_info zinfo52).1 w
theorem zw_size : zw.size = 73:=wcells_size _ _ _
theorem zc : Tryz.zeroCells170 = zw:=by kernel_rfl
attribute [local go_sem] zero52 zw_size zc
theorem ld52 (v : Value) : Instr.loadAt 170 v = ldS 170 v:=rfl
theorem st52 (p v : Value) : Instr.storeAt 170 p v = stS 170 p v:=rfl
attribute [local go_sem ↓] ld49 ld52 st52
set_option maxHeartbeats 400000 in
theorem new_any (w : World) :
  Calls Tryz.prog 85 #[] w fun e w' => e = .returned (.pointer (some ⟨w.heap.size,0,none⟩)) ∧ WrAt w' w.heap.size [] ∧ Below w.heap.size w w':=by
 go_enter Tryz.func85,Tryz.ntmps85
 go_wp2_with fail
 go_ret
 refine ⟨rfl,⟨fun _ => 0,fun j hj => absurd hj (by simp),?_⟩,(Below.refl _ _).alloc (Nat.le_refl _) _⟩
 rw [heap_alloc_new]
 show some (Obj.cells (lay zw 0 (words8 Sha.iv).toList) 170) = _
 rw [zw,lay_num]
 rfl
theorem wcells_one (s : Sha.S8) (f : Nat → UInt8) (n : Nat) : (wcells s f n).all (·.oneCell') = true:=by
 simp [wcells,words8,bytes64,Value.oneCell']
 decide +kernel
set_option maxHeartbeats 400000 in
theorem wsum_any (g : Nat) (m : List UInt8) (w : World) (hK : KIn w) (hW : WrAt w g m) (hlen : m.length < 1152921504606846000) :
  Calls Tryz.prog 87 #[.pointer (some ⟨g,0,none⟩)] w fun e w' => e = .returned (.agg (b32 (dg m))) ∧ Below w.heap.size w w':=by
 obtain ⟨f,hf,hh⟩:=hW
 obtain ⟨A,hA⟩ : ∃ A,A = wcells (Sha.num m) f m.length:=⟨_,rfl⟩
 rw [← hA] at hh
 have hs : A.size = 73:=by rw [hA]; exact wcells_size _ _ _
 have hi : (Tryz.prog.info? 170).map (·.size) = some A.size:=by rw [hs]; exact info52
 have ho : A.all (·.oneCell') = true:=by rw [hA]; exact wcells_one _ _ _
 have HA : Hid (A = wcells (Sha.num m) f m.length):=hA
 have HF : Hid (∀ j,j < m.length % 64 → f j = Sha.blk m (m.length / 64) j):=hf
 clear hA hf
 have hlt : g < w.heap.size:=by
  rcases Nat.lt_or_ge g w.heap.size with h' | h'
  ·exact h'
  ·rw [Array.getElem?_eq_none h'] at hh; exact absurd hh (by simp)
 have hh1 : ∀ o,(w.alloc o).heap[g]? = some (.cells A 170 (0,0)):=fun o => by rw [heap_alloc_old _ _ hlt]; exact hh
 have hcell : ∀ o1 o2 C,(((w.alloc o1).alloc o2).setRow (w.heap.size + 1) C).cell? ⟨g,72,none⟩ = some (.int .u64 (m.length : Int)):=fun o1 o2 C => by
  rw [cell_setRow_other _ _ _ _ (by show g ≠ w.heap.size + 1; omega),cell_of_row _ _ _ _ _ _ (show ((w.alloc o1).alloc o2).heap[g]? = some (.cells A 170 (0,0)) by rw [heap_alloc_old _ _ (by simp; omega),heap_alloc_old _ _ hlt]; exact hh),HA.out,wcells_len]
 have hrow : ∀ (Z : Array Value),Z = pb 32 (dg m) 0 → ∃ W,W = ((w.alloc (.cells Z 44)).alloc (.cells zw 170)).setRow (w.heap.size + 1) A ∧ Below w.heap.size w W ∧ W.heap[w.heap.size]? = some (.cells (pb 32 (dg m) 0) 44 (0,0)) ∧ W.heap[w.heap.size + 1]? = some (.cells A 170 (0,0)):=by
  rintro Z rfl
  refine ⟨_,rfl,below_setRow (((Below.refl _ _).alloc (Nat.le_refl _) _).alloc (by simp) _) (by omega) _,?_,?_⟩
  ·rw [setRow_other _ _ _ _ (by omega),heap_alloc2_old]
  ·exact setRow_heap _ _ _ _ _ _ (heap_alloc2_new _ _ _)
 have l52 : ∀ o,(ldS 170 (.pointer (some ⟨g,0,none⟩))).run Tryz.prog (w.alloc o) = .ok (.agg A) (w.alloc o):=fun o => by
  show (Instr.loadAt 170 (.pointer (some ⟨g,0,none⟩))).run Tryz.prog (w.alloc o) = _
  simp only [Instr.loadAt,Instr.sureAddr,Sem.run_bind,Sem.run_pure,Result.andThen_ok,run_loadVar_row _ g 170 170 A (0,0) _ (hh1 o) Tryz.underlying170 rfl hi]
 have s52 : ∀ o,(stS 170 (.pointer (some ⟨w.heap.size + 1,0,none⟩)) (.agg A)).run Tryz.prog ((w.alloc o).alloc (.cells zw 170)) = .ok () (((w.alloc o).alloc (.cells zw 170)).setRow (w.heap.size + 1) A):=fun o => by
  show (Instr.storeAt 170 (.pointer (some ⟨w.heap.size + 1,0,none⟩)) (.agg A)).run Tryz.prog ((w.alloc o).alloc (.cells zw 170)) = _
  simp only [Instr.storeAt,Instr.sureAddr,Sem.run_bind,Sem.run_pure,Result.andThen_ok,run_storeVar_row _ (w.heap.size + 1) 170 170 zw A (heap_alloc2_new _ _ _) hi (by rw [hs]; exact zw_size) ho]
 go_enter Tryz.func87,Tryz.ntmps87
 go_wp2_with fail
 obtain ⟨W2,e2,b2,q2,r2⟩:=hrow _ (pb32 (dg m)).symm
 rw [← e2]
 clear e2 hrow hcell hh1 l52 s52
 have hB0 : 0 < w.heap.size:=hK.lt
 have k2 : KIn W2:=hK.below b2 hB0
 generalize hB : w.heap.size = B at *
 refine (padding_any m.length (by omega) _).mono ?_
 rintro e w3 ⟨rfl,b3⟩
 have r3:=carry r2 b3
 have q3:=carry q2 b3
 have b23 : Below B w w3:=b2.trans (b3.mono (by have:=b2.size; omega))
 have k3 : KIn w3:=k2.below b3 k2.lt
 have W3 : WrAt w3 (B + 1) m:=⟨f,HF.out,by rw [← HA.out]; exact r3⟩
 clear r2 q2 r3 b2 k2
 have hpl : (⟨(Sha.pad m.length).toArray⟩ : ByteArray).size ≤ 72:=by
  show (Sha.pad m.length).toArray.size ≤ 72
  rw [List.size_toArray,Sha.pad_length]; omega
 go_wp2_with fail
 refine (write_any (B + 1) m ⟨(Sha.pad m.length).toArray⟩ w3 k3 (by omega) W3 (by omega)).mono ?_
 rintro e w4 ⟨rfl,W4,b4⟩
 obtain ⟨f4,hf4,h4⟩:=W4
 have q4 : w4.heap[B]? = some (.cells (pb 32 (dg m) 0) 44 (0,0)):=by
  rw [b4.block B (by rcases Nat.lt_or_ge B w3.heap.size with h | h; exact h; rw [Array.getElem?_eq_none h] at q3; exact absurd q3 (by simp)) (by omega)]; exact q3
 have b24 : Below B w w4:=b23.trans (b4.below (by have:=b23.size; omega) (by omega))
 obtain ⟨a1,a2,a3⟩:=row_facts h4
 clear hf4 W3 k3 b23 b4 q3 a2 a3 b3
 have hS : Hid (Sha.outByte (Sha.num (m ++ (⟨(Sha.pad m.length).toArray⟩ : ByteArray).data.toList)) = dg m):=rfl
 go_wp2_with fail
 refine (bytesOf_any _ _).mono ?_
 rintro e w5 ⟨rfl,b5⟩
 rw [hS.out]
 have q5:=carry q4 b5
 have b25 : Below B w w5:=b24.trans (b5.mono (by have:=b24.size; omega))
 clear q4 b24 b5 a1 h4
 have ho : (b32 (dg m)).all (·.oneCell') = true:=pb_one _ _ _
 have hz : (pb 32 (dg m) 0).size = (b32 (dg m)).size:=by unfold b32; rw [pb_size,pb_size]
 have hi5 : (Tryz.prog.info? 44).map (·.size) = some (b32 (dg m)).size:=by unfold b32; rw [pb_size]; exact info22
 go_wp2_with (refine wpList_store_row rfl 44 _ _ rfl _ _ rfl rfl 44 _ q5 hi5 hz ho ?_)
 refine bodyPost_ret (v := .agg (b32 (dg m))) (results_cell_row Tryz.results87 _ _ B 44 (b32 (dg m)) (0,0) _ rfl (setRow_heap _ _ _ _ _ _ q5) Tryz.underlying44 rfl hi5) rfl ⟨rfl,?_⟩
 subst hB
 exact below_setRow b25 (Nat.le_refl _) _
end
end Go.Proofs.YtdfjlmfnkhhnjaaGreatDoorH
