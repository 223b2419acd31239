import Derived.Test.YtdfjlmfnkhhnjaaGreatDoorGb
import Derived.Laws.IdiomStrings
import Derived.Test.YtdfjlmfnkhhnjaaGreatDoorShelf
import Derived.Test.YtdfjlmfnkhhnjaaGreatDoorGc
set_option maxRecDepth 100000
set_option linter.unusedVariables false
set_option linter.unusedSimpArgs false
namespace Go.Proofs.YtdfjlmfnkhhnjaaGreatDoorH
section
open Go.RowKit
def hx (g : Nat → UInt8) (j : Nat) : UInt8:=if j % 2 = 0 then Sha.dig ((g (j / 2)).toNat / 16) else Sha.dig ((g (j / 2)).toNat % 16)
def hexL (g : Nat → UInt8) : List UInt8:=(List.range 64).map (hx g)
theorem idxdig : ∀ n : Nat,n < 16 → ∀ w,(Instr.index 9 (.string ⟨#[48,49,50,51,52,53,54,55,56,57,97,98,99,100,101,102]⟩) (.int .u8 (n : Int))).run Tryz.prog w = .ok (.int .u8 ((Sha.dig n).toNat : Int)) w:=by
 intro n h w
 have hall : n = 0 ∨ n = 1 ∨ n = 2 ∨ n = 3 ∨ n = 4 ∨ n = 5 ∨ n = 6 ∨ n = 7 ∨ n = 8 ∨ n = 9 ∨ n = 10 ∨ n = 11 ∨ n = 12 ∨ n = 13 ∨ n = 14 ∨ n = 15:=by omega
 rcases hall with rfl | rfl | rfl | rfl | rfl | rfl | rfl | rfl | rfl | rfl | rfl | rfl | rfl | rfl | rfl | rfl <;> (rw [run_index_string _ _ _ _ _ Tryz.underlying9]; rfl)
theorem and15_u8 (x : UInt8) : bits BinOp.and IntKind.u8 (x.toNat : Int) 15 = ((x.toNat % 16 : Nat) : Int):=by
 have:=u8_and_nat x.toNat 15 x.toNat_lt (by decide)
 rw [nat_mask4] at this
 exact this
theorem idx22 (g : Nat → UInt8) (k : Nat) (h : k < 32) (w : World) : (Instr.index 44 (.agg (b32 g)) (.int .i64 (k : Int))).run Tryz.prog w = .ok (.int .u8 ((g k).toNat : Int)) w:=by
 have h2 : (k : Int) < 32:=by omega
 have h3 : k < (b32 g).size:=by unfold b32; rw [pb_size]; exact h
 have hv:=b32_get g k h
 rw [Array.getElem?_eq_getElem h3] at hv
 have h4:=Option.some.inj hv
 simp [Instr.index,Tryz.underlying44,go_sem,h2,h3,h,h4]
attribute [local go_sem ↓] Go.wp_at_zero Go.wp_at_succ
set_option maxHeartbeats 400000 in
theorem hex_any (g : Nat → UInt8) (w : World) :
  Calls Tryz.prog 99 #[.agg (b32 g)] w fun e w' => e = .returned (.string ⟨(hexL g).toArray⟩) ∧ Below w.heap.size w w':=by
 have hib : (Tryz.prog.info? 44).map (·.size) = some (b32 g).size:=by unfold b32; rw [pb_size]; exact info22
 have hrow : ∀ o,((w.alloc (Obj.cells (b32 g) 44)).alloc o).heap[w.heap.size]? = some (.cells (b32 g) 44 (0,0)):=fun o => by rw [heap_alloc_old _ _ (by simp),heap_alloc_new]
 go_enter Tryz.func99,Tryz.ntmps99
 go_wp2_with (refine wpList_load_row rfl 44 _ rfl _ rfl 44 _ (0,0) _ (hrow _) Tryz.underlying44 rfl hib ?_)
 rw [← pb64 (hx g)]
 obtain ⟨W,hW,hb,h1⟩ : ∃ W,W = (w.alloc (Obj.cells (b32 g) 44)).alloc (Obj.cells (pb 64 (hx g) 0) 168) ∧ Below w.heap.size w W ∧ W.heap[w.heap.size + 1]? = some (.cells (pb 64 (hx g) 0) 168 (0,0)) :=
  ⟨_,rfl,((Below.refl _ _).alloc (Nat.le_refl _) _).alloc (by simp) _,heap_alloc2_new _ _ _⟩
 rw [← hW]
 clear hW hrow hib
 generalize hB : w.heap.size = B at *
 go_loopw [7] (fun i wr => ∃ k : Nat,k ≤ 32 ∧ i = .int .i64 k ∧ Below B w wr ∧ wr.heap[B + 1]? = some (.cells (pb 64 (hx g) (2 * k)) 168 (0,0))) (fun i _ => 32 - (intOf i).toNat)
 case atStart => exact ⟨0,by omega,rfl,hb,h1⟩
 case round =>
  clear hb h1
  obtain ⟨k,hk,rfl,hb,h1⟩:=hrel
  by_cases hlt : k < 32
  ·have hd : decide ((k : Int) < 32) = true:=by simp; omega
   have i0 : (0 : Int) ≤ (k : Int):=by omega
   have i1 : (k : Int) < 32:=by omega
   have hix:=idx22 g k hlt
   have hx0 : Hid (hx g (2 * k) = Sha.dig ((g k).toNat / 16)):=by show _ = _; unfold hx; rw [if_pos (by omega),show 2 * k / 2 = k by omega]
   have hx1 : Hid (hx g (2 * k + 1) = Sha.dig ((g k).toNat % 16)):=by show _ = _; unfold hx; rw [if_neg (by omega),show (2 * k + 1) / 2 = k by omega]
   have hlt8 : (g k).toNat < 256:=(g k).toNat_lt
   obtain ⟨hi,hhi,ehi⟩ : ∃ hi : Nat,hi = (g k).toNat / 16 ∧ ((g k).toNat : Int) / 16 = (hi : Int):=⟨(g k).toNat / 16,rfl,by omega⟩
   obtain ⟨lo,hlo,elo⟩ : ∃ lo : Nat,lo = (g k).toNat % 16 ∧ bits BinOp.and IntKind.u8 ((g k).toNat : Int) 15 = (lo : Int):=⟨(g k).toNat % 16,rfl,and15_u8 _⟩
   rw [← hhi] at hx0
   rw [← hlo] at hx1
   have dhi:=idxdig hi (by omega)
   have dlo:=idxdig lo (by omega)
   clear hhi hlo hlt8
   obtain ⟨p,hp,hp64,w0⟩ : ∃ p,p = 2 * k ∧ (p : Int) < 64 ∧ IntKind.i64.wrap (2 * (k : Int)) = (p : Int):=⟨2 * k,rfl,by omega,by rw [IntKind.wrap_i64]; omega⟩
   obtain ⟨p1,hp1,hp164,w1⟩ : ∃ p1,p1 = p + 1 ∧ (p1 : Int) < 64 ∧ IntKind.i64.wrap ((p : Int) + 1) = (p1 : Int):=⟨p + 1,rfl,by omega,by rw [IntKind.wrap_i64]; omega⟩
   have q0 : (0 : Int) ≤ (p : Int):=by omega
   have q1 : (0 : Int) ≤ (p1 : Int):=by omega
   have hcs : ∀ j,j < 64 → ∃ v,wr.cell? ⟨B + 1,j,none⟩ = some v:=fun j hj => ⟨_,by rw [cell_of_row _ _ _ _ _ _ h1]; exact Array.getElem?_eq_getElem (by rw [pb_size]; exact hj)⟩
   obtain ⟨v0,g0⟩:=hcs p (by omega)
   obtain ⟨v1,g1⟩:=hcs p1 (by omega)
   have f0 : wr.frozen? ⟨B + 1,p,none⟩ = false:=frozen_of_row _ _ _ _ _ h1
   have f1 : wr.frozen? ⟨B + 1,p1,none⟩ = false:=frozen_of_row _ _ _ _ _ h1
   have HP : Hid (p = 2 * k ∧ p1 = p + 1):=⟨hp,hp1⟩
   have hne : ¬ p1 = p:=by omega
   have hne' : ¬ p = p1:=by omega
   clear hp hp1 hcs
   go_wp2_with fail
   go_region
   all_goals go_wp2_with fail
   go_round
   case rel =>
    refine ⟨k + 1,by omega,by go_num,((hb.setCell (by show B ≤ B + 1; omega) _).setCell (by show B ≤ B + 1; omega) _).drew,?_⟩
    have ep : p = 2 * k:=HP.out.1
    have ep1 : p1 = 2 * k + 1:=by rw [HP.out.2,ep]
    rw [heap_drew,cell_set _ _ _ _ _ _ (cell_set _ _ _ _ _ _ h1),ep,ep1,← hx0.out,← hx1.out,pb_set 64 _ _ (by omega),pb_set 64 _ _ (by omega)]
    rfl
   case measure => simp [intOf]; omega
  ·obtain rfl : k = 32:=by omega
   have hd : decide ((32 : Int) < 32) = false:=by decide
   obtain ⟨L,hL⟩ : ∃ L,L = (List.range 64).map (hx g):=⟨_,rfl⟩
   have hcv:=conv_row (n:=64) (g:=hx g) (show wr.heap[B + 1]? = some (.cells (pb 64 (hx g) 64) 168 (0,0)) from h1)
   rw [← hL] at hcv
   have HL : Hid (L = hexL g):=hL
   clear hL h1
   go_wp2_with fail
   go_ret
   exact ⟨by rw [HL.out]; rfl,by subst hB; exact hb⟩
end
section
open Go.RowKit
def isdig (b : UInt8) : Bool:=Sha.digs.contains b
def dval (b : UInt8) : Nat:=Sha.digs.idxOf b
def dvi (b : UInt8) : Int:=if isdig b then (dval b : Int) else -1
theorem ib_all : ∀ n,n < 256 → Lib.indexByte Sha.digs (UInt8.ofNat n) = dvi (UInt8.ofNat n):=by decide +kernel
theorem ib_eq (b : UInt8) : Lib.indexByte Sha.digs b = dvi b:=by
 have:=ib_all b.toNat b.toNat_lt
 rwa [UInt8.ofNat_toNat] at this
theorem dig_any (b : UInt8) (w : World) : Calls Tryz.prog 152 #[.string ⟨#[48,49,50,51,52,53,54,55,56,57,97,98,99,100,101,102]⟩,.int .u8 (b.toNat : Int)] w fun e w' => e = .returned (.int .i64 (dvi b)) ∧ w' = w:=by
 refine (Tryz.strings_IndexByte _ _ w).mono ?_
 rintro e w' ⟨rfl,rfl⟩
 refine ⟨?_,rfl⟩
 rw [← ib_eq]
 have : ((b.toNat : Int).toNat.toUInt8) = b:=by rw [Int.toNat_natCast]; exact UInt8.ofNat_toNat
 rw [this]
 rfl
theorem dval_lt (b : UInt8) (h : isdig b = true) : dval b < 16:=by
 unfold dval isdig at *
 have:=List.idxOf_lt_length_iff.2 (List.contains_iff_mem.1 h)
 exact this
def pv (l : List UInt8) (i : Nat) : UInt8:=UInt8.ofNat (16 * dval (l.getD (2 * i) 0) + dval (l.getD (2 * i + 1) 0))
def digUpTo (l : List UInt8) (k : Nat) : Prop := ∀ j,j < k → isdig (l.getD j 0) = true
def okL (l : List UInt8) : Bool:=decide (l.length = 64) && l.all isdig
def parsed (l : List UInt8) : Array Value:=if okL l then b32 (pv l) else b32 (fun _ => 0)
theorem idxs (s : ByteArray) (l : List UInt8) (hl : l = s.data.toList) (p : Nat) (h : p < s.size) (w : World) : (Instr.index 9 (.string s) (.int .i64 (p : Int))).run Tryz.prog w = .ok (.int .u8 ((l.getD p 0).toNat : Int)) w:=by
 rw [run_index_string _ _ _ _ _ Tryz.underlying9]
 have h2 : (0 : Int) ≤ (p : Int) ∧ (p : Int) < s.size:=by omega
 have h3 : p < s.data.size:=h
 rw [dif_pos h2]
 subst hl
 have : s.data.toList.getD p 0 = s[p]:=by
  rw [List.getD_eq_getElem?_getD,List.getElem?_eq_getElem (by simpa using h3)]
  rfl
 rw [this]
 rfl
theorem res2 {tmps : Array Value} {w : World} {g : Nat} {A : Array Value} {t : TypeId} (b : Bool) (hp : tmps.getD 2 undef = .pointer (some ⟨g,0,none⟩)) (hb : tmps.getD 3 undef = .bool b) (hg : w.heap[g]? = some (.cells A t (0,0))) (hi : (Tryz.prog.info? 44).map (·.size) = some A.size) :
  (results Tryz.f106 tmps).run Tryz.prog w = .ok (.tuple #[.agg A,.bool b]) w:=by
 have hp' : tmps[2]?.getD undef = .pointer (some ⟨g,0,none⟩):=by simpa using hp
 have hb' : tmps[3]?.getD undef = .bool b:=by simpa using hb
 have hl:=run_loadVar_row (P:=Tryz.prog) w g t 44 A (0,0) _ hg Tryz.underlying44 rfl hi
 simp [results,Tryz.results106,hp',hb',asAddr,hl]
theorem zero_one (g : Nat → UInt8) {Z : Array Value} (h : pb 32 g 0 = Z) : Z.all (·.oneCell') = true:=by rw [← h]; exact pb_one 32 g 0
theorem zero_size (g : Nat → UInt8) {Z : Array Value} (h : pb 32 g 0 = Z) : Z.size = 32:=by rw [← h]; exact pb_size 32 g 0
theorem parsed_no {l : List UInt8} (h : okL l = false) (g : Nat → UInt8) : parsed l = pb 32 g 0:=by
 unfold parsed; rw [h]
 show b32 (fun _ => 0) = pb 32 g 0
 unfold b32 pb
 apply Array.ext
 ·simp
 ·intro i h1 h2; simp
theorem okL_false {l : List UInt8} {j : Nat} (hj : j < l.length) (h : isdig (l.getD j 0) = false) : okL l = false:=by
 unfold okL
 rw [Bool.and_eq_false_iff]; right
 rw [List.all_eq_false]
 refine ⟨l[j],List.getElem_mem hj,?_⟩
 have : l.getD j 0 = l[j]:=by rw [List.getD_eq_getElem?_getD,List.getElem?_eq_getElem hj]; rfl
 rw [← this,h]; simp
theorem okL_len {l : List UInt8} (h : l.length ≠ 64) : okL l = false:=by
 unfold okL; rw [Bool.and_eq_false_iff]; left; exact decide_eq_false h
theorem okL_true {l : List UInt8} (h : l.length = 64) (hd : digUpTo l 64) : okL l = true:=by
 unfold okL; rw [Bool.and_eq_true,decide_eq_true_eq,List.all_eq_true]
 refine ⟨h,fun x hx => ?_⟩
 obtain ⟨j,hj,rfl⟩:=List.getElem_of_mem hx
 have:=hd j (by omega)
 rwa [List.getD_eq_getElem?_getD,List.getElem?_eq_getElem hj] at this
theorem or_digs : ∀ a : Nat,a < 16 → ∀ b : Nat,b < 16 → bits BinOp.or IntKind.i64 ((a : Int) * 16) (b : Int) % 256 = ((UInt8.ofNat (16 * a + b)).toNat : Int):=by decide +kernel
attribute [local go_sem ↓] Go.wp_at_zero Go.wp_at_succ
set_option maxHeartbeats 400000 in
theorem parse_any (s : ByteArray) (w : World) (hs : s.size ≤ 9223372036854775807) :
  Calls Tryz.prog 106 #[.string s] w fun e w' => e = .returned (.tuple #[.agg (parsed s.data.toList),.bool (okL s.data.toList)]) ∧ Below w.heap.size w w':=by
 obtain ⟨l,hl⟩ : ∃ l,l = s.data.toList:=⟨_,rfl⟩
 rw [← hl]
 have HL : Hid (l = s.data.toList):=hl
 clear hl
 by_cases h64 : s.size = 64
 ·go_enter Tryz.func106,Tryz.ntmps106
  go_wp2_with fail
  rw [← pb32 (pv l)]
  obtain ⟨W,hW,hb,h1,h2⟩ : ∃ W,W = (w.alloc (Obj.cells (pb 32 (pv l) 0) 44)).alloc (Obj.cells (pb 32 (pv l) 0) 44) ∧ Below w.heap.size w W ∧ W.heap[w.heap.size]? = some (.cells (pb 32 (pv l) 0) 44 (0,0)) ∧ W.heap[w.heap.size + 1]? = some (.cells (pb 32 (pv l) 0) 44 (0,0)) :=
   ⟨_,rfl,((Below.refl _ _).alloc (Nat.le_refl _) _).alloc (by simp) _,heap_alloc2_old _ _ _,heap_alloc2_new _ _ _⟩
  rw [← hW]
  clear hW
  generalize hB : w.heap.size = B at *
  go_loopw [12] (fun i wr => ∃ k : Nat,k ≤ 32 ∧ i = .int .i64 k ∧ digUpTo l (2 * k) ∧ Below B w wr ∧ wr.heap[B]? = some (.cells (pb 32 (pv l) 0) 44 (0,0)) ∧ wr.heap[B + 1]? = some (.cells (pb 32 (pv l) k) 44 (0,0))) (fun i _ => 32 - (intOf i).toNat)
  case atStart => exact ⟨0,by omega,rfl,fun j hj => absurd hj (by omega),hb,h1,h2⟩
  case round =>
   clear hb h1 h2
   obtain ⟨k,hk,rfl,hdig,hb,h1,h2⟩:=hrel
   have HD : Hid (digUpTo l (2 * k)):=hdig
   clear hdig
   by_cases hlt : k < 32
   ·have hd : decide ((k : Int) < 32) = true:=by simp; omega
    have i0 : (0 : Int) ≤ (k : Int):=by omega
    have i1 : (k : Int) < 32:=by omega
    obtain ⟨p,hp,hp64,w0⟩ : ∃ p,p = 2 * k ∧ p < s.size ∧ IntKind.i64.wrap (2 * (k : Int)) = (p : Int):=⟨2 * k,rfl,by omega,by rw [IntKind.wrap_i64]; omega⟩
    obtain ⟨p1,hp1,hp164,w1⟩ : ∃ p1,p1 = p + 1 ∧ p1 < s.size ∧ IntKind.i64.wrap ((p : Int) + 1) = (p1 : Int):=⟨p + 1,rfl,by omega,by rw [IntKind.wrap_i64]; omega⟩
    have q0 : (0 : Int) ≤ (p : Int):=by omega
    have q1 : (0 : Int) ≤ (p1 : Int):=by omega
    have r0 : (p : Int) < (s.size : Int):=by omega
    have r1 : (p1 : Int) < (s.size : Int):=by omega
    have e0 : (2 : Int) * (k : Int) = (p : Int):=by omega
    have e1 : (p : Int) + 1 = (p1 : Int):=by omega
    have x0:=idxs s l HL.out p hp64
    have x1:=idxs s l HL.out p1 hp164
    obtain ⟨c0,hc0⟩ : ∃ c,c = l.getD p 0:=⟨_,rfl⟩
    obtain ⟨c1,hc1⟩ : ∃ c,c = l.getD p1 0:=⟨_,rfl⟩
    rw [← hc0] at x0
    rw [← hc1] at x1
    have HP : Hid (p = 2 * k ∧ p1 = 2 * k + 1 ∧ c0 = l.getD p 0 ∧ c1 = l.getD p1 0):=⟨hp,by omega,hc0,hc1⟩
    clear hp hp1 hc0 hc1 w0 w1
    go_wp2_with fail
    go_quiet ((go_at_call 152; exact Calls.quiet_of_same (dig_any _ _)))
    have hb' : Below B w (wr.drewN nq):=⟨hb.os,hb.tape,hb.output,hb.size,hb.block⟩
    have h1' : (wr.drewN nq).heap[B]? = some (.cells (pb 32 (pv l) 0) 44 (0,0)):=h1
    have h2' : (wr.drewN nq).heap[B + 1]? = some (.cells (pb 32 (pv l) k) 44 (0,0)):=h2
    clear hb h1 h2
    generalize wr.drewN nq = wr at *
    cases hc0 : isdig c0
    ·have ev : dvi c0 = -1:=by unfold dvi; rw [hc0]; rfl
     have hno : okL l = false:=okL_false (j:=p) (by rw [HL.out]; simpa using hp64) (by rw [← HP.out.2.2.1]; exact hc0)
     clear hc0
     go_wp2_with (refine wpList_store_row rfl 44 _ _ rfl _ _ rfl rfl 44 _ h1' info22 (zero_size _ rfl) (zero_one (pv l) (pb32 _)) ?_)
     refine bodyPost_ret (v := .tuple #[.agg (parsed l),.bool (okL l)]) ?_ rfl ⟨rfl,by subst hB; exact below_setRow hb' (Nat.le_refl _) _⟩
     rw [hno,parsed_no hno (pv l),pb32]
     exact res2 false rfl rfl (setRow_heap _ _ _ _ _ _ h1') info22
    ·obtain ⟨d0,hd0,hd016,ev0⟩ : ∃ d0 : Nat,d0 = dval c0 ∧ d0 < 16 ∧ dvi c0 = (d0 : Int):=⟨dval c0,rfl,dval_lt c0 hc0,by unfold dvi; rw [hc0]; rfl⟩
     cases hc1 : isdig c1
     ·have ev : dvi c1 = -1:=by unfold dvi; rw [hc1]; rfl
      have hno : okL l = false:=okL_false (j:=p1) (by rw [HL.out]; simpa using hp164) (by rw [← HP.out.2.2.2]; exact hc1)
      have t0 : decide ((d0 : Int) < 0) = false:=by simp
      clear hc0 hc1 hd0
      go_wp2_with (refine wpList_store_row rfl 44 _ _ rfl _ _ rfl rfl 44 _ h1' info22 (zero_size _ rfl) (zero_one (pv l) (pb32 _)) ?_)
      refine bodyPost_ret (v := .tuple #[.agg (parsed l),.bool (okL l)]) ?_ rfl ⟨rfl,by subst hB; exact below_setRow hb' (Nat.le_refl _) _⟩
      rw [hno,parsed_no hno (pv l),pb32]
      exact res2 false rfl rfl (setRow_heap _ _ _ _ _ _ h1') info22
     ·obtain ⟨d1,hd1,hd116,ev1⟩ : ∃ d0 : Nat,d0 = dval c1 ∧ d0 < 16 ∧ dvi c1 = (d0 : Int):=⟨dval c1,rfl,dval_lt c1 hc1,by unfold dvi; rw [hc1]; rfl⟩
      have HV : Hid (pv l k = UInt8.ofNat (16 * d0 + d1)):=by
       show _ = _
       unfold pv
       rw [hd0,hd1,HP.out.2.2.1,HP.out.2.2.2,HP.out.1,HP.out.2.1]
      have HD2 : Hid (digUpTo l (2 * (k + 1))):=by
       intro j hj
       by_cases e : j < 2 * k
       ·exact HD.out j e
       ·by_cases e2 : j = 2 * k
        ·rw [e2,← HP.out.1,← HP.out.2.2.1]; exact hc0
        ·have e3 : j = 2 * k + 1:=by omega
         rw [e3,← HP.out.2.1,← HP.out.2.2.2]; exact hc1
      have t0 : decide ((d0 : Int) < 0) = false:=by simp
      have t1 : decide ((d1 : Int) < 0) = false:=by simp
      have g5 : wr.frozen? ⟨B + 1,k,none⟩ = false:=frozen_of_row _ _ _ _ _ h2'
      obtain ⟨v0,g4⟩ : ∃ v,wr.cell? ⟨B + 1,k,none⟩ = some v:=⟨_,by rw [cell_of_row _ _ _ _ _ _ h2']; exact Array.getElem?_eq_getElem (by rw [pb_size]; omega)⟩
      clear hc0 hc1 hd0 hd1
      go_wp2_with fail
      go_round
      case rel =>
       refine ⟨k + 1,by omega,by go_num,HD2.out,hb'.setCell (by show B ≤ B + 1; omega) _,?_,?_⟩
       ·rw [Below.heap_setCell _ _ _ _ (by show B ≠ B + 1; omega),h1']
       ·rw [cell_set _ _ _ _ _ _ h2',or_digs d0 hd016 d1 hd116,← HV.out,pb_set 32 _ k hlt]
      case measure => simp [intOf]; omega
   ·obtain rfl : k = 32:=by omega
    have hd : decide ((32 : Int) < 32) = false:=by decide
    have hs32 : (pb 32 (pv l) 32).size = 32:=pb_size 32 _ 32
    have ho : (pb 32 (pv l) 32).all (·.oneCell') = true:=pb_one 32 _ 32
    have hz : (pb 32 (pv l) 0).size = (pb 32 (pv l) 32).size:=by rw [pb_size,pb_size]
    have hyes : okL l = true:=okL_true (by rw [HL.out]; simpa using h64) HD.out
    have e8 : Hid (pb 32 (pv l) 32 = parsed l):=by show _ = _; unfold parsed; rw [hyes]; rfl
    generalize pb 32 (pv l) 32 = A at *
    have hi : (Tryz.prog.info? 44).map (·.size) = some A.size:=by rw [hs32]; exact info22
    go_wp2_with (first
     | (refine wpList_load_row rfl 44 _ rfl _ rfl 44 _ (0,0) _ h2 Tryz.underlying44 rfl hi ?_)
     | (refine wpList_store_row rfl 44 _ _ rfl _ _ rfl rfl 44 _ h1 hi hz ho ?_))
    refine bodyPost_ret (v := .tuple #[.agg (parsed l),.bool (okL l)]) ?_ rfl ⟨rfl,by subst hB; exact below_setRow hb (Nat.le_refl _) _⟩
    rw [hyes,← e8.out]
    exact res2 true rfl rfl (setRow_heap _ _ _ _ _ _ h1) hi
 ·have hno : okL l = false:=okL_len (by rw [HL.out]; simpa using h64)
  have hne : ((s.size : Int) != 64) = true:=by rw [bne_iff_ne]; omega
  go_enter Tryz.func106,Tryz.ntmps106
  go_wp2_with (first
   | (refine wpList_load_row rfl 44 _ rfl _ rfl 44 _ (0,0) _ (heap_alloc2_new _ _ _) Tryz.underlying44 rfl info22 ?_)
   | (refine wpList_store_row rfl 44 _ _ rfl _ _ rfl rfl 44 _ (heap_alloc2_old _ _ _) info22 rfl (zero_one (pv l) (pb32 _)) ?_))
  refine bodyPost_ret (v := .tuple #[.agg (parsed l),.bool (okL l)]) ?_ rfl ⟨rfl,below_setRow (((Below.refl _ _).alloc (Nat.le_refl _) _).alloc (by simp) _) (Nat.le_refl _) _⟩
  rw [hno,parsed_no hno (pv l),pb32]
  exact res2 false rfl rfl (setRow_heap _ _ _ _ _ _ (heap_alloc2_old _ _ _)) info22
end
section
open Go.RowKit
theorem below_seq {w w1 w2 : World} (a : Below w.heap.size w w1) (b : Below w1.heap.size w1 w2) : Below w.heap.size w w2:=a.trans (b.mono a.size)
theorem lt_of_row {w : World} {g : Nat} {o : Obj} (h : w.heap[g]? = some o) : g < w.heap.size:=by
 rcases Nat.lt_or_ge g w.heap.size with h' | h'
 ·exact h'
 ·rw [Array.getElem?_eq_none h'] at h; exact absurd h (by simp)
theorem KIn.seq {w w' : World} (h : KIn w) (b : Below w.heap.size w w') : KIn w':=h.below b h.lt
theorem b32_one (g : Nat → UInt8) : (b32 g).all (·.oneCell') = true:=pb_one _ _ _
theorem b32_size (g : Nat → UInt8) : (b32 g).size = 32:=pb_size _ _ _
theorem info22b (g : Nat → UInt8) : (Tryz.prog.info? 44).map (·.size) = some (b32 g).size:=by rw [b32_size]; exact info22
theorem row22 (w : World) (g : Nat → UInt8) {Z : Array Value} (h : Z = pb 32 g 0) : (w.alloc (.cells Z 44)).heap[w.heap.size]? = some (.cells (pb 32 g 0) 44 (0,0)):=by
 subst h; exact heap_alloc_new _ _
set_option maxHeartbeats 400000 in
theorem sum_any (s : ByteArray) (w : World) (hK : KIn w) (hs : s.size < 1152921504606846000) :
  Calls Tryz.prog 157 #[.string s] w fun e w' => e = .returned (.agg (b32 (dg s.data.toList))) ∧ Below w.heap.size w w':=by
 go_enter Tryz.func157,Tryz.ntmps157
 go_wp2_with fail
 obtain ⟨W,hW,q,b0⟩ : ∃ W,W = w.alloc (.cells _ 44) ∧ W.heap[w.heap.size]? = some (.cells (pb 32 (dg s.data.toList) 0) 44 (0,0)) ∧ Below w.heap.size w W :=
  ⟨_,rfl,row22 w (dg s.data.toList) (pb32 _).symm,(Below.refl _ _).alloc (Nat.le_refl _) _⟩
 rw [← hW]
 clear hW
 have k0 : KIn W:=hK.seq b0
 have hB0 : w.heap.size < W.heap.size:=lt_of_row q
 have hGk : 0 < W.heap.size:=k0.lt
 refine (new_any W).mono ?_
 rintro e w1 ⟨rfl,W1,b1⟩
 have k1:=k0.seq b1
 have q1:=carry q b1
 have b01:=below_seq b0 b1
 go_wp2_with fail
 refine (write_any W.heap.size [] s w1 k1 (by omega) W1 (by show 0 + s.size < _; omega)).mono ?_
 rintro e w2 ⟨rfl,W2,b2⟩
 rw [List.nil_append] at W2
 have k2:=b2.kin k1 (by omega)
 have q2 : w2.heap[w.heap.size]? = some (.cells (pb 32 (dg s.data.toList) 0) 44 (0,0)):=by
  rw [b2.block _ (by have:=b1.size; omega) (by omega)]; exact q1
 have b02 : Below w.heap.size w w2:=b01.trans (b2.below (by have:=b1.size; omega) (by omega))
 have hl : s.data.toList.length < 1152921504606846000:=by rw [Array.length_toList]; exact hs
 go_wp2_with fail
 refine (wsum_any W.heap.size s.data.toList w2 k2 W2 hl).mono ?_
 rintro e w3 ⟨rfl,b3⟩
 have q3:=carry q2 b3
 have b03:=below_seq b02 b3
 generalize hg : dg s.data.toList = g at *
 have HG : Hid (dg s.data.toList = g):=hg
 clear hg
 clear W2 W1 k0 k1 k2 q q1 q2 b01 b02 b0 b1 b2 b3 hl hB0 hK
 have ho:=b32_one g
 have hz : (pb 32 g 0).size = (b32 g).size:=by rw [b32_size,pb_size]
 have hi:=info22b g
 go_wp2_with (refine wpList_store_row rfl 44 _ _ rfl _ _ rfl rfl 44 _ q3 hi hz ho ?_)
 exact bodyPost_ret (v := .agg (b32 g)) (results_cell_row Tryz.results157 _ _ w.heap.size 44 (b32 g) (0,0) _ rfl (setRow_heap _ _ _ _ _ _ q3) Tryz.underlying44 rfl hi) rfl ⟨by rw [HG.out],below_setRow b03 (Nat.le_refl _) _⟩
abbrev z32 : Array Value:=#[.int .u8 0,.int .u8 0,.int .u8 0,.int .u8 0,.int .u8 0,.int .u8 0,.int .u8 0,.int .u8 0,.int .u8 0,.int .u8 0,.int .u8 0,.int .u8 0,.int .u8 0,.int .u8 0,.int .u8 0,.int .u8 0,.int .u8 0,.int .u8 0,.int .u8 0,.int .u8 0,.int .u8 0,.int .u8 0,.int .u8 0,.int .u8 0,.int .u8 0,.int .u8 0,.int .u8 0,.int .u8 0,.int .u8 0,.int .u8 0,.int .u8 0,.int .u8 0]
theorem st22 (p v : Value) : Instr.storeAt 44 p v = stS 44 p v:=rfl
attribute [local go_sem ↓] st22
end
section
open Go.RowKit
def eqb (g h : Nat → UInt8) : Bool:=(List.range 32).all fun i => g i == h i
theorem part5 (g : Nat → UInt8) (i : Nat) (hi : i < 32) (w : World) : (part 5 (b32 g) i).run Tryz.prog w = .ok (.int .u8 ((g i).toNat : Int)) w:=by
 have h3 : i < (b32 g).size:=by rw [b32_size]; exact hi
 have hv:=b32_get g i hi
 rw [Array.getElem?_eq_getElem h3] at hv
 have h4:=Option.some.inj hv
 simp [go_sem,h3,h4]
theorem byte_beq (a b : UInt8) : ((a.toNat : Int) == (b.toNat : Int)) = (a == b):=by
 rw [Bool.eq_iff_iff,beq_iff_eq,beq_iff_eq]
 constructor
 ·intro h; exact UInt8.toNat_inj.1 (by omega)
 ·intro h; rw [h]
theorem eq22 (g h : Nat → UInt8) (w : World) : (Op.equalIn 10000 44 (.agg (b32 g)) (.agg (b32 h))).run Tryz.prog w = .ok (eqb g h) w:=by
 unfold Op.equalIn
 rw [Sem.run_bind,run_underlying Tryz.underlying44 w,Result.andThen_ok]
 simp only [Sem.run_bind,Tryz.sizeOf5,Result.andThen_ok,Nat.mul_one]
 rw [Std.Legacy.Range.forIn_eq_forIn_range']
 have main : ∀ l : List Nat,(∀ i ∈ l,i < 32) → Sem.run Tryz.prog (forIn l ((none : Option Bool),()) fun i __s => do
      let __do_lift ← part 5 (b32 g) i
      let __do_lift_1 ← part 5 (b32 h) i
      let __do_lift ← Op.equalIn 9999 5 __do_lift __do_lift_1
      if (!__do_lift) = true then pure (ForInStep.done (some false,())) else pure (ForInStep.yield (none,()))) w = .ok (if (l.all fun i => g i == h i) then (none,()) else (some false,())) w:=by
  intro l
  induction l with
  | nil => intro _; simp
  | cons i r ih =>
   intro hl
   have ih':=ih (fun j hj => hl j (List.mem_cons_of_mem _ hj))
   have hi:=hl i (List.mem_cons_self ..)
   rw [List.forIn_cons]
   simp only [Sem.run_bind,part5 g i hi,part5 h i hi,Result.andThen_ok,run_equalIn_int w 9998 5 .u8 .u8 _ _ Tryz.underlying5,byte_beq,List.all_cons]
   by_cases hb : (g i == h i) = true
   ·rw [if_neg (by rw [hb]; decide)]
    simp only [Sem.run_pure,Result.andThen_ok,hb,Bool.true_and]
    exact ih'
   ·have hb' : (g i == h i) = false:=by simpa using hb
    rw [if_pos (by rw [hb']; rfl)]
    simp only [Sem.run_pure,Result.andThen_ok,hb',Bool.false_and]
    rfl
 rw [main _ (by intro i hi; simp [List.mem_range'] at hi; have : [:32].size = 32:=rfl; omega),Result.andThen_ok]
 have e : (List.range' [:32].start [:32].size [:32].step) = List.range 32:=rfl
 rw [e]
 show _ = Result.ok (eqb g h) w
 unfold eqb
 cases (List.range 32).all fun i => g i == h i <;> rfl
theorem eqb_of {g h : Nat → UInt8} (e : ∀ i,i < 32 → g i = h i) : eqb g h = true:=by
 unfold eqb; rw [List.all_eq_true]; intro i hi; rw [List.mem_range] at hi; rw [e i hi]; simp
end
section
open Go.RowKit
def pz (l : List UInt8) : Nat → UInt8:=if okL l then pv l else fun _ => 0
theorem parsed_pz (l : List UInt8) : parsed l = b32 (pz l):=by unfold parsed pz; split <;> rfl
theorem parse2 (s : ByteArray) (w : World) (hs : s.size ≤ 9223372036854775807) :
  Calls Tryz.prog 106 #[.string s] w fun e w' => e = .returned (.tuple #[.agg (b32 (pz s.data.toList)),.bool (okL s.data.toList)]) ∧ Below w.heap.size w w':=by
 have:=parse_any s w hs
 rw [parsed_pz] at this
 exact this
theorem dig_all : ∀ n,n < 16 → isdig (Sha.dig n) = true ∧ dval (Sha.dig n) = n:=by decide +kernel
theorem hexL_length (g : Nat → UInt8) : (hexL g).length = 64:=by simp [hexL]
theorem hexL_getD (g : Nat → UInt8) (j : Nat) (h : j < 64) : (hexL g).getD j 0 = hx g j:=by
 unfold hexL; rw [List.getD_eq_getElem?_getD,List.getElem?_map,List.getElem?_range h]; rfl
theorem hx_dig (g : Nat → UInt8) (j : Nat) : isdig (hx g j) = true:=by
 unfold hx
 have:=(g (j / 2)).toNat_lt
 split
 ·exact (dig_all _ (by omega)).1
 ·exact (dig_all _ (by omega)).1
theorem okL_hex (g : Nat → UInt8) : okL (hexL g) = true:=okL_true (hexL_length g) fun j hj => by rw [hexL_getD g j hj]; exact hx_dig g j
theorem pv_hex (g : Nat → UInt8) (i : Nat) (h : i < 32) : pv (hexL g) i = g i:=by
 unfold pv
 have hb:=(g i).toNat_lt
 rw [hexL_getD g _ (by omega),hexL_getD g _ (by omega)]
 unfold hx
 rw [if_pos (by omega),if_neg (by omega),show 2 * i / 2 = i by omega,show (2 * i + 1) / 2 = i by omega,(dig_all _ (by omega)).2,(dig_all _ (by omega)).2,show 16 * ((g i).toNat / 16) + (g i).toNat % 16 = (g i).toNat by omega,UInt8.ofNat_toNat]
end
end Go.Proofs.YtdfjlmfnkhhnjaaGreatDoorH
