import Derived.Test.YtdfjlmfnkhhnjaaGreatDoorQi
import Derived.Laws.OwnMore
import Derived.Test.YtdfjlmfnkhhnjaaGreatDoorGz
import Derived.Test.YtdfjlmfnkhhnjaaGreatDoorGd
set_option maxRecDepth 100000
set_option linter.unusedVariables false
set_option linter.unusedSimpArgs false
namespace Go.Proofs.YtdfjlmfnkhhnjaaGreatDoorH
section
open Go.RowKit
noncomputable def flatL (l : List Hs) : List Value:=l.flatMap hv
theorem flatL_snoc (l : List Hs) (g : Hs) : flatL (l ++ [g]) = flatL l ++ hv g:=by unfold flatL; simp
theorem flatL_get : ∀ (l : List Hs) (k j : Nat) (g : Hs),l[k]? = some g → j < 32 → (flatL l)[k * 32 + j]? = (hv g)[j]?
 | [],k,j,g,h,_ => by simp at h
 | a :: r,0,j,g,h,hj => by
  have : a = g:=by simpa using h
  subst this
  show (hv a ++ flatL r)[0 * 32 + j]? = _
  rw [List.getElem?_append_left (by rw [hv_length]; omega)]
  congr 1; omega
 | a :: r,k + 1,j,g,h,hj => by
  have h' : r[k]? = some g:=by simpa using h
  show (hv a ++ flatL r)[(k + 1) * 32 + j]? = _
  rw [List.getElem?_append_right (by rw [hv_length]; omega),hv_length,← flatL_get r k j g h' hj]
  congr 1; omega
theorem grow_range {w w' : World} {row : Option Nat} (hg : w.grownBy w' row) {b o : Nat} {cs : List Value} (h : w.rangeAt b o cs) (hne : some b ≠ row) : w'.rangeAt b o cs:=fun j v hv =>
 hg.cell (a:=⟨b,o + j,none⟩) (h j v hv) hne
theorem own_next {w w' : World} {base e size n : Nat} {v : Value} {xs : List Value} (h : w.ownsRow base e size v n xs) (bq : Below w.heap.size w w') : w'.ownsRow base e size v n xs:=by
 refine ⟨h.1,?_⟩
 rcases h.2 with h0 | ⟨g,cap,cur,h1,h2,h3,h4⟩
 ·exact .inl h0
 ·exact .inr ⟨g,cap,cur,h1,h2,carry h3 bq,h4⟩
theorem own_range {w : World} {base : Nat} {v : Value} {l : List Hs} (h : w.ownsRow base 44 32 v l.length (flatL l)) {k : Nat} {x : Hs} (hk : l[k]? = some x) : ∃ g cap,v = .slice (some ⟨g,0,none⟩) l.length cap ∧ base ≤ g ∧ w.rangeAt g (k * 32) (hv x):=by
 have hlt : k < l.length:=(List.getElem?_eq_some_iff.1 hk).1
 rcases h.2 with ⟨_,h0⟩ | ⟨g,cap,cur,h1,h2,h3,h4,h5,h6,h7⟩
 ·omega
 ·refine ⟨g,cap,h1,h2,fun j u hj => ?_⟩
  have hj32 : j < 32:=by have:=(List.getElem?_eq_some_iff.1 hj).1; rw [hv_length] at this; exact this
  have:=flatL_get l k j x hk hj32
  rw [hj,← h7,List.getElem?_take_of_lt (by omega)] at this
  rw [cell_of_row _ _ _ _ _ _ h3]
  simpa using this
end
section
open Go.RowKit
def dvK (c : UInt8) (q : Nat) : Int:=if dval c < q then (dval c : Int) else -1
theorem dig_eq_all : ∀ n,n < 256 → ∀ k,k < 16 → (Sha.dig k == UInt8.ofNat n) = decide (dval (UInt8.ofNat n) = k):=by decide +kernel
theorem dig_eq (c : UInt8) (k : Nat) (hk : k < 16) : (((Sha.dig k).toNat : Int) == (c.toNat : Int)) = decide (dval c = k):=by
 have:=dig_eq_all c.toNat c.toNat_lt k hk
 rw [UInt8.ofNat_toNat] at this
 rw [← this]
 by_cases h : Sha.dig k = c
 ·subst h; simp
 ·have h2 : ¬ (Sha.dig k).toNat = c.toNat:=fun e => h (UInt8.toNat_inj.1 e)
  rw [beq_eq_false_iff_ne.2 h,beq_eq_false_iff_ne.2 (by omega)]
theorem isdig_dval_all : ∀ n,n < 256 → isdig (UInt8.ofNat n) = decide (dval (UInt8.ofNat n) < 16):=by decide +kernel
theorem isdig_dval (c : UInt8) : isdig c = decide (dval c < 16):=by
 have:=isdig_dval_all c.toNat c.toNat_lt
 rwa [UInt8.ofNat_toNat] at this
def hq (l : List UInt8) (i j : Nat) : UInt8:=if 2 * j + 2 ≤ i then pv l j else if 2 * j + 1 ≤ i then UInt8.ofNat (dval (l.getD (2 * j) 0)) else 0
theorem hq_zero (l : List UInt8) : b32 (hq l 0) = pb 32 (pv l) 0:=by
 unfold b32 pb
 apply Array.ext
 ·simp
 ·intro i h1 h2; simp [hq]
theorem hq_full (l : List UInt8) : b32 (hq l 64) = pb 32 (pv l) 32:=by
 unfold b32 pb
 apply Array.ext
 ·simp
 ·intro i h1 h2
  have : i < 32:=by simpa using h1
  have h62 : 2 * i ≤ 62:=by omega
  simp [hq,this,h62]
theorem b32_set (f g : Nat → UInt8) (j : Nat) (hj : j < 32) (h : ∀ i,i ≠ j → f i = g i) {q : Int} (hq : q = ((g j).toNat : Int)) : (b32 f).setIfInBounds j (.int .u8 q) = b32 g:=by
 subst hq
 apply Array.ext_getElem?
 intro i
 by_cases hi : i < 32
 ·by_cases e : j = i
  ·subst e
   rw [Array.getElem?_setIfInBounds_self_of_lt (by unfold b32; rw [pb_size]; exact hi),b32_get g j hi]
  ·rw [Array.getElem?_setIfInBounds_ne e,b32_get f i hi,b32_get g i hi,h i (by omega)]
 ·rw [Array.getElem?_eq_none (by rw [Array.size_setIfInBounds]; unfold b32; rw [pb_size]; omega),Array.getElem?_eq_none (by unfold b32; rw [pb_size]; omega)]
theorem hq_other (l : List UInt8) (i j : Nat) (h : j ≠ i / 2) : hq l i j = hq l (i + 1) j:=by
 unfold hq
 by_cases h1 : 2 * j + 2 ≤ i
 ·rw [if_pos h1,if_pos (by omega)]
 ·have h2 : ¬ 2 * j + 1 ≤ i:=by omega
  have h3 : ¬ 2 * j + 2 ≤ i + 1:=by omega
  have h4 : ¬ 2 * j + 1 ≤ i + 1:=by omega
  rw [if_neg h1,if_neg h2,if_neg h3,if_neg h4]
theorem hq_lt (l : List UInt8) (i : Nat) (hd : digUpTo l i) : (hq l i (i / 2)).toNat < 16:=by
 unfold hq
 rw [if_neg (by omega)]
 by_cases h2 : 2 * (i / 2) + 1 ≤ i
 ·rw [if_pos h2]
  have:=dval_lt _ (hd (2 * (i / 2)) (by omega))
  rw [UInt8.toNat_ofNat']; omega
 ·rw [if_neg h2]; decide
theorem hq_next (l : List UInt8) (i : Nat) (hd : digUpTo l i) (h1 : isdig (l.getD i 0) = true) : ((hq l (i + 1) (i / 2)).toNat : Int) = ((hq l i (i / 2)).toNat : Int) * 16 + (dval (l.getD i 0) : Int):=by
 have hv:=dval_lt _ h1
 by_cases h2 : 2 * (i / 2) + 1 ≤ i
 ·have e0 : hq l i (i / 2) = UInt8.ofNat (dval (l.getD (2 * (i / 2)) 0)):=by unfold hq; rw [if_neg (by omega),if_pos h2]
  have e1 : hq l (i + 1) (i / 2) = pv l (i / 2):=by unfold hq; rw [if_pos (by omega)]
  have hv0:=dval_lt _ (hd (2 * (i / 2)) (by omega))
  have e2 : i = 2 * (i / 2) + 1:=by omega
  rw [e0,e1]
  unfold pv
  rw [← e2,UInt8.toNat_ofNat',UInt8.toNat_ofNat']
  omega
 ·have e0 : hq l i (i / 2) = 0:=by unfold hq; rw [if_neg (by omega),if_neg h2]
  have e1 : hq l (i + 1) (i / 2) = UInt8.ofNat (dval (l.getD (2 * (i / 2)) 0)):=by unfold hq; rw [if_neg (by omega),if_pos (by omega)]
  have e2 : i = 2 * (i / 2):=by omega
  rw [e0,e1,← e2,UInt8.toNat_ofNat']
  have : (0 : UInt8).toNat = 0:=rfl
  rw [this]; omega
theorem idxdigI : ∀ n : Nat,n < 16 → ∀ w,(ixS (.string ⟨#[48,49,50,51,52,53,54,55,56,57,97,98,99,100,101,102]⟩) (.int .i64 (n : Int))).run Tryz.prog w = .ok (.int .u8 ((Sha.dig n).toNat : Int)) w:=by
 intro n h w
 show (Instr.index 9 _ _).run Tryz.prog w = _
 have hall : n = 0 ∨ n = 1 ∨ n = 2 ∨ n = 3 ∨ n = 4 ∨ n = 5 ∨ n = 6 ∨ n = 7 ∨ n = 8 ∨ n = 9 ∨ n = 10 ∨ n = 11 ∨ n = 12 ∨ n = 13 ∨ n = 14 ∨ n = 15:=by omega
 rcases hall with rfl | rfl | rfl | rfl | rfl | rfl | rfl | rfl | rfl | rfl | rfl | rfl | rfl | rfl | rfl | rfl <;> (rw [run_index_string _ _ _ _ _ Tryz.underlying9]; rfl)
theorem idxsS (s : ByteArray) (l : List UInt8) (hl : l = s.data.toList) (p : Nat) (h : p < s.size) (w : World) : (ixS (.string s) (.int .i64 (p : Int))).run Tryz.prog w = .ok (.int .u8 ((l.getD p 0).toNat : Int)) w:=idxs s l hl p h w
theorem res17 {tmps : Array Value} {w : World} {g : Nat} {A : Array Value} {t : TypeId} (b : Bool) (hp : tmps.getD 2 undef = .pointer (some ⟨g,0,none⟩)) (hb : tmps.getD 3 undef = .bool b) (hg : w.heap[g]? = some (.cells A t (0,0))) (hi : (Tryz.prog.info? 44).map (·.size) = some A.size) :
  (results Tryz.f134 tmps).run Tryz.prog w = .ok (.tuple #[.agg A,.bool b]) w:=by
 have hp' : tmps[2]?.getD undef = .pointer (some ⟨g,0,none⟩):=by simpa using hp
 have hb' : tmps[3]?.getD undef = .bool b:=by simpa using hb
 have hl:=run_loadVar_row (P:=Tryz.prog) w g t 44 A (0,0) _ hg Tryz.underlying44 rfl hi
 simp [results,Tryz.results134,hp',hb',asAddr,hl]
attribute [local go_sem ↓] ix9
attribute [local go_sem ↓] Go.wp_at_zero Go.wp_at_succ
set_option maxHeartbeats 1000000 in
theorem refParse_any (s : ByteArray) (w : World) (hs : s.size ≤ 9223372036854775807) :
  Calls Tryz.prog 134 #[.string s] w fun e w' => e = .returned (.tuple #[.agg (parsed s.data.toList),.bool (okL s.data.toList)]) ∧ Below w.heap.size w w':=by
 obtain ⟨l,hl⟩ : ∃ l,l = s.data.toList:=⟨_,rfl⟩
 rw [← hl]
 have HL : Hid (l = s.data.toList):=hl
 clear hl
 by_cases h64 : s.size = 64
 ·have hne : ((s.size : Int) != 64) = false:=by rw [bne_eq_false_iff_eq]; omega
  have H64 : Hid (s.size = 64):=h64
  clear h64
  go_enter Tryz.func134,Tryz.ntmps134
  go_wp2_with fail
  rw [← pb32 (pv l)]
  obtain ⟨W,hW,hb,h1,h2⟩ : ∃ W,W = (w.alloc (Obj.cells (pb 32 (pv l) 0) 44)).alloc (Obj.cells (pb 32 (pv l) 0) 44) ∧ Below w.heap.size w W ∧ W.heap[w.heap.size]? = some (.cells (pb 32 (pv l) 0) 44 (0,0)) ∧ W.heap[w.heap.size + 1]? = some (.cells (pb 32 (pv l) 0) 44 (0,0)) :=
   ⟨_,rfl,((Below.refl _ _).alloc (Nat.le_refl _) _).alloc (by simp) _,heap_alloc2_old _ _ _,heap_alloc2_new _ _ _⟩
  rw [← hW]
  clear hW
  rw [← hq_zero] at h2
  generalize hB : w.heap.size = B at *
  go_loopw [5] (fun i wr => ∃ k : Nat,k ≤ 64 ∧ i = .int .i64 k ∧ digUpTo l k ∧ Below B w wr ∧ wr.heap[B]? = some (.cells (pb 32 (pv l) 0) 44 (0,0)) ∧ wr.heap[B + 1]? = some (.cells (b32 (hq l k)) 44 (0,0))) (fun i _ => 64 - (intOf i).toNat)
  case atStart => exact ⟨0,by omega,rfl,fun j hj => absurd hj (by omega),hb,h1,h2⟩
  case round =>
   clear hb h1 h2
   obtain ⟨k,hk,rfl,hdig,hb,h1,h2⟩:=hrel
   have HD : Hid (digUpTo l k):=hdig
   clear hdig
   by_cases hlt : k < 64
   ·have hd : decide ((k : Int) < 64) = true:=decide_eq_true (by omega)
    have x1:=idxsS s l HL.out k (by have:=H64.out; omega)
    obtain ⟨c,hc⟩ : ∃ c,c = l.getD k 0:=⟨_,rfl⟩
    rw [← hc] at x1
    have HC : Hid (c = l.getD k 0):=hc
    clear hc
    go_wp2_with fail
    go_loopw [6,7] (fun v i wr => ∃ q : Nat,q ≤ 16 ∧ i = .int .i64 q ∧ v = .int .i64 (dvK c q) ∧ Below B w wr ∧ wr.heap[B]? = some (.cells (pb 32 (pv l) 0) 44 (0,0)) ∧ wr.heap[B + 1]? = some (.cells (b32 (hq l k)) 44 (0,0))) (fun _ i _ => 16 - (intOf i).toNat)
    case atStart => exact ⟨0,by omega,rfl,by unfold dvK; rw [if_neg (by omega)],hb,h1,h2⟩
    case round =>
     clear hb h1 h2
     obtain ⟨q,hq16,rfl,rfl,hb,h1,h2⟩:=hrel
     by_cases hlq : q < 16
     ·have hd2 : decide ((q : Int) < 16) = true:=decide_eq_true (by omega)
      have x2:=idxdigI q hlq
      have hE:=dig_eq c q hlq
      by_cases he : dval c = q
      ·have hE1 : (((Sha.dig q).toNat : Int) == (c.toNat : Int)) = true:=by rw [hE,decide_eq_true he]
       have HV : Hid (dvK c (q + 1) = (q : Int)):=by show _ = _; unfold dvK; rw [if_pos (by omega),he]
       clear hE he
       go_wp2_with fail
       go_quiet (fail)
       go_wp2_with fail
       exact ⟨⟨q + 1,by omega,by go_num,by rw [HV.out],⟨hb.os,hb.tape,hb.output,hb.size,hb.block⟩,h1,h2⟩,by simp [intOf]; omega⟩
      ·have hE1 : (((Sha.dig q).toNat : Int) == (c.toNat : Int)) = false:=by rw [hE,decide_eq_false he]
       have HV : Hid (dvK c (q + 1) = dvK c q):=by
        show _ = _; unfold dvK
        by_cases h : dval c < q
        ·rw [if_pos h,if_pos (by omega)]
        ·rw [if_neg h,if_neg (by omega)]
       clear hE he
       go_wp2_with fail
       go_quiet (fail)
       go_wp2_with fail
       exact ⟨⟨q + 1,by omega,by go_num,by rw [HV.out],⟨hb.os,hb.tape,hb.output,hb.size,hb.block⟩,h1,h2⟩,by simp [intOf]; omega⟩
     ·obtain rfl : q = 16:=by omega
      have hd2 : decide ((16 : Int) < 16) = false:=by decide
      cases hc0 : isdig c
      ·have ev : dvK c 16 = -1:=by unfold dvK; rw [if_neg]; rw [isdig_dval] at hc0; simpa using hc0
       have hno : okL l = false:=okL_false (j:=k) (by rw [HL.out]; have:=H64.out; simpa using (by omega : k < s.size)) (by rw [← HC.out]; exact hc0)
       clear hc0
       go_wp2_with (refine wpList_store_row rfl 44 _ _ rfl _ _ rfl rfl 44 _ h1 info22 (zero_size _ rfl) (zero_one (pv l) (pb32 _)) ?_)
       refine bodyPost_ret (v := .tuple #[.agg (parsed l),.bool (okL l)]) ?_ rfl ⟨rfl,by subst hB; exact below_setRow hb (Nat.le_refl _) _⟩
       rw [hno,parsed_no hno (pv l),pb32]
       exact res17 false rfl rfl (setRow_heap _ _ _ _ _ _ h1) info22
      ·obtain ⟨d,hdd,hd16,ev⟩ : ∃ d : Nat,d = dval c ∧ d < 16 ∧ dvK c 16 = (d : Int):=⟨dval c,rfl,dval_lt c hc0,by unfold dvK; rw [if_pos (dval_lt c hc0)]⟩
       have t0 : decide ((d : Int) < 0) = false:=by simp
       have hnx:=hq_next l k HD.out (by rw [← HC.out]; exact hc0)
       rw [← HC.out,← hdd] at hnx
       have hxl:=hq_lt l k HD.out
       have gc : wr.cell? ⟨B + 1,k / 2,none⟩ = some (.int .u8 ((hq l k (k / 2)).toNat : Int)):=by rw [cell_of_row _ _ _ _ _ _ h2,b32_get _ _ (by omega)]
       have g5 : wr.frozen? ⟨B + 1,k / 2,none⟩ = false:=frozen_of_row _ _ _ _ _ h2
       obtain ⟨x,hx⟩ : ∃ x,x = (hq l k (k / 2)).toNat:=⟨_,rfl⟩
       rw [← hx] at gc hxl hnx
       have HX : Hid (((hq l (k + 1) (k / 2)).toNat : Int) = (x : Int) * 16 + (d : Int)):=hnx
       have HD2 : Hid (digUpTo l (k + 1)):=by
        intro j hj
        by_cases e : j < k
        ·exact HD.out j e
        ·rw [show j = k by omega,← HC.out]; exact hc0
       clear hnx hx hdd hc0
       go_wp2_with fail
       refine ⟨⟨k + 1,by omega,by go_num,HD2.out,hb.setCell (by show B ≤ B + 1; omega) _,?_,?_⟩,by simp [intOf]; omega⟩
       ·rw [Below.heap_setCell _ _ _ _ (by show B ≠ B + 1; omega),h1]
       ·rw [cell_set _ _ _ _ _ _ h2,b32_set _ _ _ (by omega) (fun i hi => hq_other l k i hi) HX.out.symm]
   ·obtain rfl : k = 64:=by omega
    have hd : decide ((64 : Int) < 64) = false:=by decide
    have hs32 : (pb 32 (pv l) 32).size = 32:=pb_size 32 _ 32
    have ho : (pb 32 (pv l) 32).all (·.oneCell') = true:=pb_one 32 _ 32
    have hz : (pb 32 (pv l) 0).size = (pb 32 (pv l) 32).size:=by rw [pb_size,pb_size]
    have hyes : okL l = true:=okL_true (by rw [HL.out]; simpa using H64.out) HD.out
    have e8 : Hid (pb 32 (pv l) 32 = parsed l):=by show _ = _; unfold parsed; rw [hyes]; rfl
    rw [hq_full] at h2
    generalize pb 32 (pv l) 32 = A at *
    have hi : (Tryz.prog.info? 44).map (·.size) = some A.size:=by rw [hs32]; exact info22
    go_wp2_with (first
     | (refine wpList_load_row rfl 44 _ rfl _ rfl 44 _ (0,0) _ h2 Tryz.underlying44 rfl hi ?_)
     | (refine wpList_store_row rfl 44 _ _ rfl _ _ rfl rfl 44 _ h1 hi hz ho ?_))
    refine bodyPost_ret (v := .tuple #[.agg (parsed l),.bool (okL l)]) ?_ rfl ⟨rfl,by subst hB; exact below_setRow hb (Nat.le_refl _) _⟩
    rw [hyes,← e8.out]
    exact res17 true rfl rfl (setRow_heap _ _ _ _ _ _ h1) hi
 ·have hno : okL l = false:=okL_len (by rw [HL.out]; simpa using h64)
  have hne : ((s.size : Int) != 64) = true:=by rw [bne_iff_ne]; omega
  go_enter Tryz.func134,Tryz.ntmps134
  go_wp2_with (first
   | (refine wpList_load_row rfl 44 _ rfl _ rfl 44 _ (0,0) _ (heap_alloc2_new _ _ _) Tryz.underlying44 rfl info22 ?_)
   | (refine wpList_store_row rfl 44 _ _ rfl _ _ rfl rfl 44 _ (heap_alloc2_old _ _ _) info22 rfl (zero_one (pv l) (pb32 _)) ?_))
  refine bodyPost_ret (v := .tuple #[.agg (parsed l),.bool (okL l)]) ?_ rfl ⟨rfl,below_setRow (((Below.refl _ _).alloc (Nat.le_refl _) _).alloc (by simp) _) (Nat.le_refl _) _⟩
  rw [hno,parsed_no hno (pv l),pb32]
  exact res17 false rfl rfl (setRow_heap _ _ _ _ _ _ (heap_alloc2_old _ _ _)) info22
end
end Go.Proofs.YtdfjlmfnkhhnjaaGreatDoorH
