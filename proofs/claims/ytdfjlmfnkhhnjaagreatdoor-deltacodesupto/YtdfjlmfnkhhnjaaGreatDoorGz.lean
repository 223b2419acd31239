import Derived.Test.YtdfjlmfnkhhnjaaGreatDoorGb
import Derived.OwnWalk
import Derived.Deep.AppendLies
import Derived.Laws.OwnMore
import Derived.Lib.AppendStr
import Derived.Test.YtdfjlmfnkhhnjaaGreatDoorGd
import Derived.Test.YtdfjlmfnkhhnjaaGreatDoorGc
import Derived.Test.YtdfjlmfnkhhnjaaGreatDoorGg
set_option maxRecDepth 100000
set_option linter.unusedVariables false
set_option linter.unusedSimpArgs false
namespace Go.Proofs.YtdfjlmfnkhhnjaaGreatDoorH
section
open Go.RowKit
theorem or_comm_bits (a b : Nat) (ha : a < 4294967296) (hb : b < 4294967296) : bits BinOp.or IntKind.u32 (a : Int) (b : Int) = bits BinOp.or IntKind.u32 (b : Int) (a : Int):=by
 rw [u32_or_nat _ _ ha hb,u32_or_nat _ _ hb ha,Nat.or_comm]
theorem rr_bv2 (x : BitVec 32) (k n : Nat) (hn : n ≤ 32) (hk : k = 32 - n) : bits BinOp.or IntKind.u32 ((x.toNat : Int) / 2 ^ n) ((x.toNat : Int) * 2 ^ k % 4294967296) = ((Sha.rr x n).toNat : Int):=by
 rw [← rr_bv x k n hn hk]
 have e1 : ((x.toNat : Int) * 2 ^ k % 4294967296) = ((x.toNat * 2 ^ k % 4294967296 : Nat) : Int):=by rw [Int.natCast_emod,Int.natCast_mul,Int.natCast_pow]; rfl
 have e2 : ((x.toNat : Int) / 2 ^ n) = ((x.toNat / 2 ^ n : Nat) : Int):=by rw [Int.natCast_ediv,Int.natCast_pow]; rfl
 rw [e1,e2]
 exact or_comm_bits _ _ (Nat.lt_of_le_of_lt (Nat.div_le_self _ _) (bv_lt x)) (Nat.mod_lt _ (by decide))
set_option maxHeartbeats 400000 in
theorem right_any (x : BitVec 32) (n : Nat) (h0 : 0 < n) (h : n < 32) (w : World) :
  Calls Tryz.prog 205 #[.int .u32 (x.toNat : Int),.int .u64 (n : Int)] w fun e w' => e = .returned (.int .u32 ((Sha.rr x n).toNat : Int)) ∧ w' = w:=by
 obtain ⟨k,hk,hw⟩ : ∃ k : Nat,k = 32 - n ∧ IntKind.u64.wrap (32 - (n : Int)) = (k : Int):=⟨32 - n,rfl,by rw [IntKind.wrap_u64]; omega⟩
 have hk2 : (32 : Int) - (n : Int) = (k : Int):=by omega
 have HK : Hid (k = 32 - n):=hk
 have hk3 : k < 32:=by omega
 clear hk
 go_enter Tryz.func205,Tryz.ntmps205
 go_wp2
 go_ret
 refine ⟨?_,rfl⟩
 exact congrArg (fun z => Ending.returned (.int .u32 z)) (rr_bv2 x k n (by omega) HK.out)
theorem rightI (x : BitVec 32) (i : Int) (h0 : 0 < i) (h : i < 32) (w : World) :
  Calls Tryz.prog 205 #[.int .u32 (x.toNat : Int),.int .u64 i] w fun e w' => e = .returned (.int .u32 ((Sha.rr x i.toNat).toNat : Int)) ∧ w' = w:=by
 obtain ⟨n,rfl⟩ : ∃ n : Nat,i = (n : Int):=⟨i.toNat,by omega⟩
 exact right_any x n (by omega) (by omega) w
def RW (w : World) (f : Nat → UInt8) (k : Nat) (wr : World) : Prop :=
 Below w.heap.size w wr ∧ wr.heap[w.heap.size]? = some (.cells (pw f 0) 172 (0,0)) ∧ wr.heap[w.heap.size + 1]? = some (.cells (pw f k) 172 (0,0))
theorem RW.set {w : World} {f : Nat → UInt8} {k : Nat} {wr : World} (h : RW w f k wr) (hk : k < 64) {B : Nat} (hB : w.heap.size = B) {q : Int} (hq : q = ((Sha.wt f k).toNat : Int)) : RW w f (k + 1) ((wr.setCell ⟨B + 1,k,none⟩ (.int .u32 q)).drew):=by
 subst hB hq
 obtain ⟨a,c,d⟩:=h
 refine ⟨(a.setCell (by show w.heap.size ≤ w.heap.size + 1; omega) _).drew,?_,?_⟩
 ·rw [heap_drew,Below.heap_setCell _ _ _ _ (by show w.heap.size ≠ w.heap.size + 1; omega),c]
 ·rw [heap_drew,cell_set _ _ _ _ _ _ d,pw_set f k hk]
attribute [local go_sem] xo_bv ad_bv sr3_bv sr10_bv
attribute [local go_sem ↓] Go.wp_at_zero Go.wp_at_succ
set_option maxHeartbeats 400000 in
theorem words_any (f : Nat → UInt8) (b off cap : Nat) (w : World) (hb0 : b < w.heap.size) (hcap : 64 ≤ cap) (hbf : ∀ j,j < 64 → w.cell? ⟨b,off + j,none⟩ = some (.int .u8 ((f j).toNat : Int))) :
  Calls Tryz.prog 204 #[.slice (some ⟨b,off,none⟩) 64 cap] w fun e w' => e = .returned (.agg (words64 (Sha.wt f))) ∧ Below w.heap.size w w':=by
 have hbB : b ≠ w.heap.size + 1:=by omega
 go_enter Tryz.func204,Tryz.ntmps204
 go_wp2_with fail
 rw [← pw_lit f]
 have hT : RW w f 0 ((w.alloc (Obj.cells (pw f 0) 172)).alloc (Obj.cells (pw f 0) 172)):=by
  refine ⟨((Below.refl _ _).alloc (Nat.le_refl _) _).alloc (by simp) _,?_,?_⟩
  ·exact heap_alloc2_old _ _ _
  ·exact heap_alloc2_new _ _ _
 generalize hB : w.heap.size = B at *
 generalize (w.alloc (Obj.cells (pw f 0) 172)).alloc (Obj.cells (pw f 0) 172) = W at *
 go_loopw [4] (fun i wr => ∃ k : Nat,k ≤ 16 ∧ i = .int .i64 k ∧ RW w f k wr) (fun i _ => 16 - (intOf i).toNat)
 case atStart => exact ⟨0,by omega,rfl,hT⟩
 case round =>
  clear hT
  obtain ⟨k,hk,rfl,hT⟩:=hrel
  by_cases hlt : k < 16
  ·have h4 : wr.heap[B + 1]? = some (.cells (pw f k) 172 (0,0)):=by rw [← hB]; exact hT.2.2
   have hd : decide ((k : Int) < 16) = true:=by simp; omega
   have i0 : (0 : Int) ≤ (k : Int):=by omega
   have i1 : (k : Int) < 64:=by omega
   have gc : ∀ j,j < 64 → wr.cell? ⟨b,off + j,none⟩ = some (.int .u8 ((f j).toNat : Int)):=fun j hj => by rw [hT.1.cell (p:=⟨b,off + j,none⟩) (by rw [hB]; exact hb0)]; exact hbf j hj
   obtain ⟨p,hp,hp64,g0,w0⟩ : ∃ p,p = 4 * k ∧ (p : Int) < 64 ∧ wr.cell? ⟨b,off + p,none⟩ = some (.int .u8 ((f p).toNat : Int)) ∧ IntKind.i64.wrap (4 * (k : Int)) = (p : Int):=⟨4 * k,rfl,by omega,gc _ (by omega),by rw [IntKind.wrap_i64]; omega⟩
   obtain ⟨p1,hp1,hp164,g1,w1⟩ : ∃ p1,p1 = 4 * k + 1 ∧ (p1 : Int) < 64 ∧ wr.cell? ⟨b,off + p1,none⟩ = some (.int .u8 ((f p1).toNat : Int)) ∧ IntKind.i64.wrap ((p : Int) + 1) = (p1 : Int):=⟨4 * k + 1,rfl,by omega,gc _ (by omega),by rw [IntKind.wrap_i64]; omega⟩
   obtain ⟨p2,hp2,hp264,g2,w2⟩ : ∃ p1,p1 = 4 * k + 2 ∧ (p1 : Int) < 64 ∧ wr.cell? ⟨b,off + p1,none⟩ = some (.int .u8 ((f p1).toNat : Int)) ∧ IntKind.i64.wrap ((p : Int) + 2) = (p1 : Int):=⟨4 * k + 2,rfl,by omega,gc _ (by omega),by rw [IntKind.wrap_i64]; omega⟩
   obtain ⟨p3,hp3,hp364,g3,w3⟩ : ∃ p1,p1 = 4 * k + 3 ∧ (p1 : Int) < 64 ∧ wr.cell? ⟨b,off + p1,none⟩ = some (.int .u8 ((f p1).toNat : Int)) ∧ IntKind.i64.wrap ((p : Int) + 3) = (p1 : Int):=⟨4 * k + 3,rfl,by omega,gc _ (by omega),by rw [IntKind.wrap_i64]; omega⟩
   have HW : Hid (Sha.wt f k = Sha.be (f p) (f p1) (f p2) (f p3)):=by show _ = _; rw [Sha.wt_first f k hlt,hp,hp1,hp2,hp3]; rfl
   clear hp hp1 hp2 hp3
   have q0 : (0 : Int) ≤ (p : Int):=by omega
   have q1 : (0 : Int) ≤ (p1 : Int):=by omega
   have q2 : (0 : Int) ≤ (p2 : Int):=by omega
   have q3 : (0 : Int) ≤ (p3 : Int):=by omega
   have gs : ∃ v,wr.cell? ⟨B + 1,k,none⟩ = some v:=⟨_,by rw [cell_of_row _ _ _ _ _ _ h4]; exact Array.getElem?_eq_getElem (by rw [pw_size]; omega)⟩
   obtain ⟨v0,g4⟩:=gs
   have g5 : wr.frozen? ⟨B + 1,k,none⟩ = false:=frozen_of_row _ _ _ _ _ h4
   clear gc
   go_wp2_with fail
   go_region_held3 (fun w' => w'.cell? ⟨b,off + p,none⟩ = some (.int .u8 ((f p).toNat : Int)) ∧ w'.cell? ⟨b,off + p1,none⟩ = some (.int .u8 ((f p1).toNat : Int)) ∧ w'.cell? ⟨b,off + p2,none⟩ = some (.int .u8 ((f p2).toNat : Int)) ∧ w'.cell? ⟨b,off + p3,none⟩ = some (.int .u8 ((f p3).toNat : Int))) (first | (go_keep; done) | exact ⟨keep_far hbB g0,keep_far hbB g1,keep_far hbB g2,keep_far hbB g3⟩) (fail)
   go_wp2_with fail
   go_round
   case rel => exact ⟨k + 1,by omega,by go_num,hT.set (by omega) hB (by rw [be_bv',HW.out])⟩
   case measure => simp [intOf]; omega
  ·obtain rfl : k = 16:=by omega
   go_wp2_with fail
   go_loopw [5] (fun i wr => ∃ k : Nat,16 ≤ k ∧ k ≤ 64 ∧ i = .int .i64 k ∧ RW w f k wr) (fun i _ => 64 - (intOf i).toNat)
   case atStart => exact ⟨16,by omega,by omega,rfl,hT⟩
   case round =>
    clear hT
    obtain ⟨k,hk16,hk,rfl,hT⟩:=hrel
    have h4 : wr.heap[B + 1]? = some (.cells (pw f k) 172 (0,0)):=by rw [← hB]; exact hT.2.2
    by_cases hlt : k < 64
    ·have hd : decide ((k : Int) < 64) = true:=by simp; omega
     have i0 : (0 : Int) ≤ (k : Int):=by omega
     have i1 : (k : Int) < 64:=by omega
     have gc : ∀ j,j < k → wr.cell? ⟨B + 1,j,none⟩ = some (.int .u32 ((Sha.wt f j).toNat : Int)):=fun j hj => by rw [cell_of_row _ _ _ _ _ _ h4,pw_get f k j hj (by omega)]
     obtain ⟨p,hp,hp64,g0,w0⟩ : ∃ p,p = k - 15 ∧ (p : Int) < 64 ∧ wr.cell? ⟨B + 1,p,none⟩ = some (.int .u32 ((Sha.wt f p).toNat : Int)) ∧ IntKind.i64.wrap ((k : Int) - 15) = (p : Int):=⟨k - 15,rfl,by omega,gc _ (by omega),by rw [IntKind.wrap_i64]; omega⟩
     obtain ⟨p1,hp1,hp164,g1,w1⟩ : ∃ p,p = k - 2 ∧ (p : Int) < 64 ∧ wr.cell? ⟨B + 1,p,none⟩ = some (.int .u32 ((Sha.wt f p).toNat : Int)) ∧ IntKind.i64.wrap ((k : Int) - 2) = (p : Int):=⟨k - 2,rfl,by omega,gc _ (by omega),by rw [IntKind.wrap_i64]; omega⟩
     obtain ⟨p2,hp2,hp264,g2,w2⟩ : ∃ p,p = k - 7 ∧ (p : Int) < 64 ∧ wr.cell? ⟨B + 1,p,none⟩ = some (.int .u32 ((Sha.wt f p).toNat : Int)) ∧ IntKind.i64.wrap ((k : Int) - 7) = (p : Int):=⟨k - 7,rfl,by omega,gc _ (by omega),by rw [IntKind.wrap_i64]; omega⟩
     obtain ⟨p3,hp3,hp364,g3,w3⟩ : ∃ p,p = k - 16 ∧ (p : Int) < 64 ∧ wr.cell? ⟨B + 1,p,none⟩ = some (.int .u32 ((Sha.wt f p).toNat : Int)) ∧ IntKind.i64.wrap ((k : Int) - 16) = (p : Int):=⟨k - 16,rfl,by omega,gc _ (by omega),by rw [IntKind.wrap_i64]; omega⟩
     have HW : Hid (Sha.wt f k = Sha.ad (Sha.ad (Sha.ad (Sha.sg1 (Sha.wt f p1)) (Sha.wt f p2)) (Sha.sg0 (Sha.wt f p))) (Sha.wt f p3)):=by show _ = _; rw [Sha.wt_next f k hk16,hp,hp1,hp2,hp3]
     have n0 : Hid (p ≠ k ∧ p1 ≠ k ∧ p2 ≠ k ∧ p3 ≠ k):=by refine ⟨?_,?_,?_,?_⟩ <;> omega
     clear hp hp1 hp2 hp3 gc
     have q0 : (0 : Int) ≤ (p : Int):=by omega
     have q1 : (0 : Int) ≤ (p1 : Int):=by omega
     have q2 : (0 : Int) ≤ (p2 : Int):=by omega
     have q3 : (0 : Int) ≤ (p3 : Int):=by omega
     have gs : ∃ v,wr.cell? ⟨B + 1,k,none⟩ = some v:=⟨_,by rw [cell_of_row _ _ _ _ _ _ h4]; exact Array.getElem?_eq_getElem (by rw [pw_size]; omega)⟩
     obtain ⟨v0,g4⟩:=gs
     have g5 : wr.frozen? ⟨B + 1,k,none⟩ = false:=frozen_of_row _ _ _ _ _ h4
     go_wp2_with (go_at_call 205; refine (rightI _ _ (by decide) (by decide) _).mono ?_; rintro e w' ⟨rfl,rfl⟩)
     have hT':=hT
     have g2' : w'.cell? ⟨B + 1,p2,none⟩ = some (.int .u32 ((Sha.wt f p2).toNat : Int)):=g2
     have g3' : w'.cell? ⟨B + 1,p3,none⟩ = some (.int .u32 ((Sha.wt f p3).toNat : Int)):=g3
     have g4' : w'.cell? ⟨B + 1,k,none⟩ = some v0:=g4
     have g5' : w'.frozen? ⟨B + 1,k,none⟩ = false:=g5
     clear hT g0 g1 g2 g3 g4 g5 h4
     go_region_held3 (fun w' => w'.cell? ⟨B + 1,p2,none⟩ = some (.int .u32 ((Sha.wt f p2).toNat : Int)) ∧ w'.cell? ⟨B + 1,p3,none⟩ = some (.int .u32 ((Sha.wt f p3).toNat : Int))) (first | (go_keep; done) | exact ⟨keep_cell n0.out.2.2.1 g2',keep_cell n0.out.2.2.2 g3'⟩) (fail)
     go_wp2_with fail
     refine ⟨?_,?measure⟩
     ·(repeat apply Exists.intro)
      refine ⟨⟨k + 1,by omega,by omega,by go_num,hT'.set (by omega) hB ?_⟩,rfl⟩
      rw [HW.out]
      rfl
     case measure => simp [intOf]; omega
    ·obtain rfl : k = 64:=by omega
     have h3 : wr.heap[B]? = some (.cells (pw f 0) 172 (0,0)):=by rw [← hB]; exact hT.2.1
     have hb:=hT.1
     have e8 : Hid (pw f 64 = words64 (Sha.wt f)):=pw_all f
     have hd : decide ((64 : Int) < 64) = false:=by decide
     have hs : (pw f 64).size = 64:=pw_size f 64
     have h1 : (pw f 64).all (·.oneCell') = true:=pw_one f 64
     have hz : (pw f 0).size = (pw f 64).size:=by rw [pw_size,pw_size]
     clear hT
     generalize pw f 64 = A at *
     have hi : (Tryz.prog.info? 172).map (·.size) = some A.size:=by rw [hs]; exact info54
     go_wp2_with (first
      | (refine wpList_load_row rfl 172 _ rfl _ rfl 172 _ (0,0) _ h4 Tryz.underlying172 rfl hi ?_)
      | (refine wpList_store_row rfl 172 _ _ rfl _ _ rfl rfl 172 _ h3 hi hz h1 ?_))
     refine bodyPost_ret (v := .agg A) (results_cell_row Tryz.results204 _ _ B 172 A (0,0) _ rfl (setRow_heap _ _ _ _ _ _ h3) Tryz.underlying172 rfl hi) rfl ⟨by rw [e8.out],below_setRow hb (by omega) _⟩
end
section
open Go.RowKit
theorem info5f : (Tryz.prog.info? 5).map (fun i => (i.zero,i.size,i.bytes)) = some (some (.int .u8 0),1,1):=by kernel_rfl
theorem vals_append (a b : List UInt8) : vals (a ++ b) = vals a ++ vals b:=List.map_append ..
theorem vals_length (a : List UInt8) : (vals a).length = a.length:=List.length_map ..
theorem news1 {W : World} {c : Value} : ∀ j u,[c][j]? = some u → (W.alloc (.cells #[c] 5)).cell? ((⟨W.heap.size,0,none⟩ : Addr).add j) = some u :=
 World.news_of_block (cs:=#[c]) (t:=5) (fr:=(0,0)) (heap_alloc_new W _)
theorem below_grow {w wr w2 : World} {v : Value} {o : Obj} {k : Nat} {xs : List Value} (hbr : Below w.heap.size w wr) (hown : wr.ownsRow w.heap.size 5 1 v k xs) (hg : (wr.alloc o).grownBy w2 v.ownBlock) : Below w.heap.size w w2 :=
 (hbr.alloc hbr.size _).grown hg (by have:=hbr.size; simp; omega) (fun k0 hk0 => (hown.lt k0 hk0).1)
def lnOf : Value → Nat | .slice _ n _ => n | _ => 0
def OwnL (w wr : World) (v : Value) (L : List UInt8) : Prop := ∃ g cap,v = .slice (some ⟨g,0,none⟩) L.length cap ∧ wr.ownsRow w.heap.size 5 1 v L.length (vals L) ∧ Below w.heap.size w wr
def zs (n j : Nat) (m : List UInt8) : List UInt8:=m ++ 128 :: List.replicate j 0
def ls (n k : Nat) (m : List UInt8) : List UInt8:=m ++ 128 :: (List.replicate ((119 - n % 64) % 64) 0 ++ (List.range k).map (Sha.lenByte n))
theorem zs_len (n j : Nat) (m : List UInt8) : (zs n j m).length = m.length + 1 + j:=by simp [zs]; omega
theorem ls_len (n j : Nat) (m : List UInt8) : (ls n j m).length = m.length + 1 + (119 - n % 64) % 64 + j:=by simp [ls]; omega
theorem zs_succ (n j : Nat) (m : List UInt8) : zs n (j + 1) m = zs n j m ++ [0]:=by simp [zs,List.replicate_succ']
theorem ls_succ (n j : Nat) (m : List UInt8) : ls n (j + 1) m = ls n j m ++ [Sha.lenByte n j]:=by simp [ls,List.range_succ]
theorem zs_ls (n : Nat) (m : List UInt8) : zs n ((119 - n % 64) % 64) m = ls n 0 m:=by simp [zs,ls]
set_option maxHeartbeats 1000000 in
theorem padded_any (s : ByteArray) (w : World) (hs : s.size ≤ 140737488351232) :
  Calls Tryz.prog 165 #[.string s] w fun e w' => ∃ g cap,e = .returned (.slice (some ⟨g,0,none⟩) (s.data.toList ++ Sha.pad s.size).length cap) ∧ w'.ownsRow w.heap.size 5 1 (.slice (some ⟨g,0,none⟩) (s.data.toList ++ Sha.pad s.size).length cap) (s.data.toList ++ Sha.pad s.size).length (vals (s.data.toList ++ Sha.pad s.size)) ∧ Below w.heap.size w w':=by
 obtain ⟨i0,hi0,hz0,hz1,hz2⟩ : ∃ i,Tryz.prog.info? 5 = some i ∧ i.zero = some (.int .u8 0) ∧ i.size = 1 ∧ i.bytes = 1:=by
  have:=info5f
  cases hq : Tryz.prog.info? 5 with
  | none => rw [hq] at this; cases this
  | some i => rw [hq] at this; simp at this; exact ⟨i,rfl,this.1,this.2.1,this.2.2⟩
 have hm : maxLen = 9223372036854775807:=rfl
 go_enter Tryz.func165,Tryz.ntmps165
 go_wp2_with (first
  | (refine Lib.wpList_append_own_string _ rfl _ _ _ _ rfl w.heap.size 5 i0 Tryz.underlying47 Tryz.underlying9 hi0 hz0 hz1 hz2 _ 0 [] rfl (World.ownsRow_nil _ _ _ _) s rfl (by rw [hm]; omega) (by omega) (Nat.le_refl _) ?_; intro v1 w1 hown1 hgrow1 hiff1)
  | (refine wpList_append_lies _ rfl _ _ _ rfl w.heap.size 5 i0 _ 1 1 Tryz.underlying47 hi0 hz0 hz1 hz2 rfl (by omega) v1 (0 + s.size) ([] ++ Lib.strCells s) rfl (hown1.alloc _) _ 1 1 [.int .u8 128] rfl rfl news1 (by simp [Value.oneCell']) (by omega) (by rw [hm]; omega) (by omega) (by have:=hgrow1.size; simp; omega) _ rfl ?_; intro g2 c2 w2 hown2 hgrow2 hat2 hlt2))
 have hb2 : Below w.heap.size w w2:=by
  have h1 : Below w.heap.size w w1:=(Below.refl _ _).grown hgrow1 (Nat.le_refl _) (fun k0 hk0 => by simp [go_sem,Value.ownBlock] at hk0)
  exact below_grow h1 hown1 hgrow2
 have e0 : ([] ++ Lib.strCells s ++ [Value.int IntKind.u8 128]) = vals (zs s.size 0 s.data.toList):=by simp [vals,zs,Lib.strCells]
 have hl0 : s.data.toList.length = s.size:=Array.length_toList
 have e1 : 0 + s.size + 1 = (zs s.size 0 s.data.toList).length:=by rw [zs_len,hl0]; omega
 have hO : OwnL w w2 (.slice (some ⟨g2,0,none⟩) (s.size + 1) c2) (zs s.size 0 s.data.toList):=by
  rw [e0,e1] at hown2
  have e2 : s.size + 1 = (zs s.size 0 s.data.toList).length:=by omega
  rw [e2]
  exact ⟨g2,c2,rfl,hown2,hb2⟩
 clear hown2 hgrow2 hat2 hlt2 hown1 hgrow1 hiff1 hb2 e0 e1
 generalize (.slice (some ⟨g2,0,none⟩) (s.size + 1) c2 : Value) = v2 at *
 obtain ⟨n,hn⟩ : ∃ n,n = s.size:=⟨_,rfl⟩
 obtain ⟨z,hz⟩ : ∃ z,z = (119 - n % 64) % 64:=⟨_,rfl⟩
 have hz64 : z < 64:=by omega
 rw [← hn] at hO hl0
 have hn47 : n ≤ 140737488351232:=by omega
 have HL0 : Hid (s.data.toList.length = n):=hl0
 have HZ : Hid (z = (119 - n % 64) % 64):=hz
 have HN : Hid (n = s.size):=hn
 clear hz hn
 clear hl0
 generalize hM : s.data.toList = m at *
 have HM : Hid (s.data.toList = m):=hM
 clear hM
 go_loopw [3] (fun v wr => ∃ j : Nat,j ≤ z ∧ OwnL w wr v (zs n j m)) (fun v _ => n + 1 + z - lnOf v)
 case atStart => exact ⟨0,by omega,hO⟩
 case round =>
  clear hO
  obtain ⟨j,hj,g,cap,rfl,hown,hb⟩:=hrel
  obtain ⟨l,hl⟩ : ∃ l,l = (zs n j m).length:=⟨_,rfl⟩
  have hll : l = n + 1 + j:=by rw [hl,zs_len,HL0.out]
  rw [← hl] at hown
  have Hl : Hid (l = (zs n j m).length):=hl
  rw [← hl]
  clear hl
  have Hll : Hid (l = n + 1 + j):=hll
  have hl47 : l ≤ n + 1 + z:=by omega
  by_cases hlt : j < z
  ·have hne : ((l : Int) % 64 != 56) = true:=by rw [bne_iff_ne]; have:=HZ.out; omega
   clear hll
   go_wp2_with (refine wpList_append_lies _ rfl _ _ _ rfl w.heap.size 5 i0 _ 1 1 Tryz.underlying47 hi0 hz0 hz1 hz2 rfl (by omega) (.slice (some ⟨g,0,none⟩) l cap) l (vals (zs n j m)) rfl (hown.alloc _) _ 1 1 [.int .u8 0] rfl rfl news1 (by simp [Value.oneCell']) (by omega) (by rw [hm]; omega) (by omega) (by have:=hb.size; simp; omega) _ rfl ?_; intro g3 c3 w3 hown3 hgrow3 hat3 hlt3)
   refine ⟨⟨j + 1,by omega,g3,c3,?_,?_,below_grow hb hown hgrow3⟩,?_⟩
   ·rw [zs_len,HL0.out,Hll.out]; rfl
   ·rw [zs_succ,vals_append,List.length_append,← Hl.out]; exact hown3
   ·show n + 1 + z - (l + 1) < n + 1 + z - l
    have:=Hll.out; omega
  ·obtain rfl : z = j:=by omega
   have hne : ((l : Int) % 64 != 56) = false:=by rw [bne_eq_false_iff_eq]; have:=HZ.out; omega
   clear hll
   have hO : OwnL w wr (.slice (some ⟨g,0,none⟩) l cap) (ls n 0 m):=⟨g,cap,by rw [← zs_ls,← HZ.out,← Hl.out],by rw [← zs_ls,← HZ.out,← Hl.out]; exact hown,hb⟩
   clear hown hb
   go_wp2_with fail
   generalize (.slice (some ⟨g,0,none⟩) l cap : Value) = v3 at *
   go_loopw [3,5] (fun v i wr => ∃ k : Nat,k ≤ 8 ∧ i = .int .i64 (7 - (k : Int)) ∧ OwnL w wr v (ls n k m)) (fun _ i _ => (intOf i + 1).toNat)
   case atStart => exact ⟨0,by omega,rfl,hO⟩
   case round =>
    clear hO
    obtain ⟨k,hk,rfl,g,cap,rfl,hown,hb⟩:=hrel
    obtain ⟨l,hl⟩ : ∃ l,l = (ls n k m).length:=⟨_,rfl⟩
    have hll : l = n + 1 + z + k:=by rw [hl,ls_len,HL0.out,← HZ.out]
    rw [← hl] at hown
    have Hl : Hid (l = (ls n k m).length):=hl
    rw [← hl]
    clear hl
    have Hll : Hid (l = n + 1 + z + k):=hll
    have hl47 : l ≤ n + 1 + z + 8:=by omega
    clear hll
    by_cases hlt : k < 8
    ·have hge : decide ((0 : Int) ≤ 7 - (k : Int)) = true:=decide_eq_true (by omega)
     go_wp2_with (refine wpList_append_lies _ rfl _ _ _ rfl w.heap.size 5 i0 _ 1 1 Tryz.underlying47 hi0 hz0 hz1 hz2 rfl (by omega) (.slice (some ⟨g,0,none⟩) l cap) l (vals (ls n k m)) rfl (hown.alloc _) _ 1 1 [.int .u8 ((s.size : Int) * 8 / 2 ^ (8 * (7 - k)) % 256)] rfl rfl news1 (by simp [Value.oneCell']) (by omega) (by rw [hm]; omega) (by omega) (by have:=hb.size; simp; omega) _ rfl ?_; intro g3 c3 w3 hown3 hgrow3 hat3 hlt3)
     have e : (s.size : Int) * 8 / 2 ^ (8 * (7 - k)) % 256 = ((Sha.lenByte n k).toNat : Int):=by
      have e1 : 8 * (7 - k) = 56 - 8 * k:=by omega
      have e2 : (s.size : Int) * 8 = ((8 * n : Nat) : Int):=by have:=HN.out; omega
      rw [e1,e2]
      unfold Sha.lenByte; rw [UInt8.toNat_ofNat']; exact (cast_div (8 * n) _).symm
     rw [e] at hown3
     refine ⟨⟨k + 1,by omega,by go_num,g3,c3,?_,?_,below_grow hb hown hgrow3⟩,?_⟩
     ·rw [ls_succ,List.length_append,← Hl.out]; rfl
     ·rw [ls_succ,vals_append,List.length_append,← Hl.out]; exact hown3
     ·simp [intOf]; omega
    ·obtain rfl : k = 8:=by omega
     go_wp2_with fail
     go_ret
     have e : ls n 8 m = m ++ Sha.pad s.size:=by rw [← HN.out]; rfl
     rw [e] at hown Hl
     rw [HM.out,← Hl.out]
     exact ⟨g,cap,rfl,hown,hb⟩
end
section
open Go.RowKit
theorem conv_own {wr : World} {base k : Nat} {v : Value} {l : List UInt8} (h : wr.ownsRow base 5 1 v k (vals l)) (hl : l.length = k) : (convert 47 9 v).run Tryz.prog wr = .ok (.string ⟨l.toArray⟩) wr:=by
 rcases h.2 with ⟨rfl,h0⟩ | ⟨g,cap,cur,rfl,_,_⟩
 ·have : l = []:=List.length_eq_zero_iff.1 (by omega)
  subst this
  exact run_convert_bytes_nil wr 47 5 Tryz.underlying47 Tryz.underlying5 0 0 9 Tryz.underlying9
 ·have hg:=(h.lt g rfl).2
  subst hl
  refine run_convert_bytes_back wr 47 9 5 ⟨g,0,none⟩ cap l Tryz.underlying47 Tryz.underlying5 Tryz.underlying9 ?_
  intro j hj
  have hadd : (⟨g,0,none⟩ : Addr).add j = ⟨g,j,none⟩:=by unfold Addr.add; split <;> simp_all
  rw [hadd,h.cellAt j (by omega)]
  simp [vals,hj]
def hp (g : Nat → UInt8) (n : Nat) : List UInt8:=(List.range n).map (hx g)
theorem hp_succ2 (g : Nat → UInt8) (k : Nat) : hp g (2 * (k + 1)) = hp g (2 * k) ++ [hx g (2 * k),hx g (2 * k + 1)]:=by
 unfold hp
 rw [show 2 * (k + 1) = 2 * k + 1 + 1 by omega,List.range_succ,List.range_succ]
 simp
theorem below2 {W wr w2 : World} {v : Value} {n : Nat} {xs : List Value} {o : Obj} (hbr : Below W.heap.size W wr) (hown : wr.ownsRow W.heap.size 5 1 v n xs) (hgrow : ((wr.alloc o).drew).grownBy w2 v.ownBlock) : Below W.heap.size W w2 :=
 ((hbr.alloc hbr.size _).drew).grown hgrow (by have:=hbr.size; simp; omega) (fun k0 hk0 => (hown.lt k0 hk0).1)
theorem keepH {W wr w2 : World} {v : Value} {n : Nat} {xs : List Value} {o : Obj} {B k : Nat} {c : Value} (hbr : Below W.heap.size W wr) (hown : wr.ownsRow W.heap.size 5 1 v n xs) (hB : B < W.heap.size) (gc : wr.cell? ⟨B,k,none⟩ = some c) (hgrow : ((wr.alloc o).drew).grownBy w2 v.ownBlock) : w2.cell? ⟨B,k,none⟩ = some c:=by
 rw [(below2 hbr hown hgrow).cell (p:=⟨B,k,none⟩) hB]
 rw [hbr.cell (p:=⟨B,k,none⟩) hB] at gc
 exact gc
theorem keepA {W wr : World} {o : Obj} {B k : Nat} {c : Value} (hbr : Below W.heap.size W wr) (hB : B < W.heap.size) (gc : wr.cell? ⟨B,k,none⟩ = some c) : (wr.alloc o).cell? ⟨B,k,none⟩ = some c:=by
 have h2:=hbr.alloc hbr.size o
 rw [h2.cell (p:=⟨B,k,none⟩) hB]
 rw [hbr.cell (p:=⟨B,k,none⟩) hB] at gc
 exact gc
noncomputable def ixS (v i : Value) : Sem Value:=Instr.index 9 v i
theorem ix9 (v i : Value) : Instr.index 9 v i = ixS v i:=rfl
theorem ixdig : ∀ n : Nat,n < 16 → ∀ w,(ixS (.string ⟨#[48,49,50,51,52,53,54,55,56,57,97,98,99,100,101,102]⟩) (.int .u8 (n : Int))).run Tryz.prog w = .ok (.int .u8 ((Sha.dig n).toNat : Int)) w:=idxdig
attribute [local go_sem ↓] ix9
attribute [local go_sem ↓] Go.wp_at_zero Go.wp_at_succ
set_option maxHeartbeats 1000000 in
theorem refHex_any (g : Nat → UInt8) (w : World) :
  Calls Tryz.prog 81 #[.agg (b32 g)] w fun e w' => e = .returned (.string ⟨(hexL g).toArray⟩) ∧ Below w.heap.size w w':=by
 obtain ⟨i0,hi0,hz0,hz1,hz2⟩ : ∃ i,Tryz.prog.info? 5 = some i ∧ i.zero = some (.int .u8 0) ∧ i.size = 1 ∧ i.bytes = 1:=by
  have:=info5f
  cases hq : Tryz.prog.info? 5 with
  | none => rw [hq] at this; cases this
  | some i => rw [hq] at this; simp at this; exact ⟨i,rfl,this.1,this.2.1,this.2.2⟩
 go_enter Tryz.func81,Tryz.ntmps81
 go_wp2_with fail
 obtain ⟨W,hW,hb0,h1,hB⟩ : ∃ W,W = w.alloc (Obj.cells (b32 g) 44) ∧ Below w.heap.size w W ∧ W.heap[w.heap.size]? = some (.cells (b32 g) 44 (0,0)) ∧ W.heap.size = w.heap.size + 1 :=
  ⟨_,rfl,(Below.refl _ _).alloc (Nat.le_refl _) _,heap_alloc_new _ _,by simp⟩
 rw [← hW]
 clear hW
 have HB : Hid (W.heap.size = w.heap.size + 1):=hB
 clear hB
 generalize hBB : w.heap.size = B at *
 go_loopw [3,4] (fun v i wr => ∃ k : Nat,k ≤ 32 ∧ i = .int .i64 k ∧ wr.ownsRow W.heap.size 5 1 v (2 * k) (vals (hp g (2 * k))) ∧ Below W.heap.size W wr) (fun _ i _ => 32 - (intOf i).toNat)
 case atStart => exact ⟨0,Nat.zero_le _,rfl,World.ownsRow_nil _ _ _ _,Below.refl _ _⟩
 case round =>
  obtain ⟨k,hk,rfl,hown,hbr⟩:=hrel
  have hrow : wr.heap[B]? = some (.cells (b32 g) 44 (0,0)):=by rw [hbr.block B (by have:=HB.out; omega)]; exact h1
  by_cases hlt : k < 32
  ·have hd : decide ((k : Int) < 32) = true:=decide_eq_true (by omega)
   have i0' : (0 : Int) ≤ (k : Int):=by omega
   have i1 : (k : Int) < 32:=by omega
   have gc : wr.cell? ⟨B,k,none⟩ = some (.int .u8 ((g k).toNat : Int)):=by rw [cell_of_row _ _ _ _ _ _ hrow,b32_get g k hlt]
   have hx0 : Hid (hx g (2 * k) = Sha.dig ((g k).toNat / 16)):=by show _ = _; unfold hx; rw [if_pos (by omega),show 2 * k / 2 = k by omega]
   have hx1 : Hid (hx g (2 * k + 1) = Sha.dig ((g k).toNat % 16)):=by show _ = _; unfold hx; rw [if_neg (by omega),show (2 * k + 1) / 2 = k by omega]
   have hlt8 : (g k).toNat < 256:=(g k).toNat_lt
   obtain ⟨hi,hhi,ehi⟩ : ∃ hi : Nat,hi = (g k).toNat / 16 ∧ ((g k).toNat : Int) / 16 = (hi : Int):=⟨(g k).toNat / 16,rfl,by omega⟩
   obtain ⟨lo,hlo,elo⟩ : ∃ lo : Nat,lo = (g k).toNat % 16 ∧ ((g k).toNat : Int) % 16 = (lo : Int):=⟨(g k).toNat % 16,rfl,by omega⟩
   rw [← hhi] at hx0
   rw [← hlo] at hx1
   have whi : IntKind.u8.wrap (hi : Int) = (hi : Int):=by rw [IntKind.wrap_u8]; omega
   have elo2 : ((g k).toNat : Int).tmod 16 = (lo : Int):=by rw [Int.tmod_eq_emod_of_nonneg (by omega)]; exact elo
   have dhi:=ixdig hi (by omega)
   have dlo:=ixdig lo (by omega)
   have HX : Hid (vals (hp g (2 * (k + 1))) = vals (hp g (2 * k)) ++ [.int .u8 ((Sha.dig hi).toNat : Int),.int .u8 ((Sha.dig lo).toNat : Int)]):=by
    show _ = _; rw [hp_succ2,vals_append,hx0.out,hx1.out]; rfl
   clear hhi hlo hlt8 hrow
   have f1 : 2 * k + 2 ≤ maxLen:=by unfold maxLen; omega
   have f2 : (2 * k + 2) * 1 ≤ 140737488355328:=by omega
   have f3 : W.heap.size ≤ wr.heap.size + 1:=by have:=hbr.size; omega
   go_wp2_with fail
   have hBW : B < W.heap.size:=by have:=HB.out; omega
   go_region_held3 (fun w' => w'.cell? ⟨B,k,none⟩ = some (.int .u8 ((g k).toNat : Int))) (first | (go_keep; done) | exact gc | exact keepA hbr hBW gc | exact keepH hbr hown hBW gc hgrow)
    ((refine step_append_lies _ (by rfl) _ _ _ (by rfl) W.heap.size 5 i0 _ 1 1 Tryz.underlying47 hi0 hz0 hz1 hz2 rfl (by omega) _ (2 * k) (vals (hp g (2 * k))) (by rfl) ((hown.alloc _).drew) ⟨wr.heap.size,0,none⟩ 2 2 [.int .u8 ((Sha.dig hi).toNat : Int),.int .u8 ((Sha.dig lo).toNat : Int)] (by rfl) (by rfl) (World.news_of_block (cs:=#[.int .u8 ((Sha.dig hi).toNat : Int),.int .u8 ((Sha.dig lo).toNat : Int)]) (t:=5) (fr:=(0,0)) (heap_alloc_new wr _)) (by simp [Value.oneCell']) (by omega) f1 f2 (by simpa using f3) (wr.heap.size + 1) (by simp) ?_; intro gg cap w2 hown1 hgrow hat hlt2))
   all_goals
    have hb2 : Below W.heap.size W w2:=below2 hbr hown hgrow
    have hown2 : w2.ownsRow W.heap.size 5 1 (Value.slice (some { block:=gg,off:=0 }) (2 * k + 2) cap) (2 * (k + 1)) (vals (hp g (2 * (k + 1)))):=by rw [HX.out]; exact hown1
    clear hgrow hat hlt2 hown1 hown
    go_wp2_with fail
    exact ⟨⟨k + 1,by omega,by go_num,hown2,hb2⟩,by simp [intOf]; omega⟩
  ·obtain rfl : k = 32:=by omega
   have hd : decide ((32 : Int) < 32) = false:=by decide
   have hcv:=conv_own hown (by simp [hp])
   have HL : Hid (hp g (2 * 32) = hexL g):=rfl
   generalize hp g (2 * 32) = L at *
   go_wp2_with fail
   go_ret
   exact ⟨by rw [HL.out]; rfl,by subst hBB; exact hb0.trans (hbr.mono (by rw [HB.out]; omega))⟩
end
section
open Go.RowKit
abbrev z8 : Array Value:=#[.int .u32 0,.int .u32 0,.int .u32 0,.int .u32 0,.int .u32 0,.int .u32 0,.int .u32 0,.int .u32 0]
abbrev z64w : Array Value:=#[.int .u32 0,.int .u32 0,.int .u32 0,.int .u32 0,.int .u32 0,.int .u32 0,.int .u32 0,.int .u32 0,.int .u32 0,.int .u32 0,.int .u32 0,.int .u32 0,.int .u32 0,.int .u32 0,.int .u32 0,.int .u32 0,.int .u32 0,.int .u32 0,.int .u32 0,.int .u32 0,.int .u32 0,.int .u32 0,.int .u32 0,.int .u32 0,.int .u32 0,.int .u32 0,.int .u32 0,.int .u32 0,.int .u32 0,.int .u32 0,.int .u32 0,.int .u32 0,.int .u32 0,.int .u32 0,.int .u32 0,.int .u32 0,.int .u32 0,.int .u32 0,.int .u32 0,.int .u32 0,.int .u32 0,.int .u32 0,.int .u32 0,.int .u32 0,.int .u32 0,.int .u32 0,.int .u32 0,.int .u32 0,.int .u32 0,.int .u32 0,.int .u32 0,.int .u32 0,.int .u32 0,.int .u32 0,.int .u32 0,.int .u32 0,.int .u32 0,.int .u32 0,.int .u32 0,.int .u32 0,.int .u32 0,.int .u32 0,.int .u32 0,.int .u32 0]
theorem st54 (p v : Value) : Instr.storeAt 172 p v = stS 172 p v:=rfl
theorem ld54 (v : Value) : Instr.loadAt 172 v = ldS 172 v:=rfl
theorem ldRow {w : World} {B T : Nat} {A : Array Value} {n e : Nat} (h : w.heap[B]? = some (.cells A T (0,0))) (hu : Tryz.prog.underlying T = some (.array n e)) (hi : (Tryz.prog.info? T).map (·.size) = some A.size) :
  (ldS T (.pointer (some ⟨B,0,none⟩))).run Tryz.prog w = .ok (.agg A) w:=by
 show (Instr.loadAt T (.pointer (some ⟨B,0,none⟩))).run Tryz.prog w = _
 simp only [Instr.loadAt,Instr.sureAddr,Sem.run_bind,Sem.run_pure,Result.andThen_ok,run_loadVar_row _ B T T A (0,0) _ h hu rfl hi]
theorem stRow {w : World} {B T : Nat} {old A : Array Value} (h : w.heap[B]? = some (.cells old T (0,0))) (hi : (Tryz.prog.info? T).map (·.size) = some A.size) (ho : old.size = A.size) (h1 : A.all (·.oneCell') = true) :
  (stS T (.pointer (some ⟨B,0,none⟩)) (.agg A)).run Tryz.prog w = .ok () (w.setRow B A):=by
 show (Instr.storeAt T (.pointer (some ⟨B,0,none⟩)) (.agg A)).run Tryz.prog w = _
 simp only [Instr.storeAt,Instr.sureAddr,Sem.run_bind,Sem.run_pure,Result.andThen_ok,run_storeVar_row _ B T T old A h hi ho h1]
theorem words64_size (f : Nat → BitVec 32) : (words64 f).size = 64:=by simp [words64]
theorem words64_one (f : Nat → BitVec 32) : (words64 f).all (·.oneCell') = true:=by
 rw [Array.all_eq_true]; intro i h; simp only [words64,Array.getElem_map]; rfl
theorem words8_one (s : Sha.S8) : (words8 s).all (·.oneCell') = true:=by simp [words8,Value.oneCell']
theorem info54w (f : Nat → BitVec 32) : (Tryz.prog.info? 172).map (·.size) = some (words64 f).size:=by rw [words64_size]; exact info54
theorem new_row (w : World) (c A : Array Value) (t : TypeId) : (w.alloc (.cells c t)).setRow w.heap.size A = w.alloc (.cells A t):=World.setRow_alloc_new w c A t
def kcs : Array Value:=#[.int .u32 1116352408,.int .u32 1899447441,.int .u32 3049323471,.int .u32 3921009573,.int .u32 961987163,.int .u32 1508970993,.int .u32 2453635748,.int .u32 2870763221,.int .u32 3624381080,.int .u32 310598401,.int .u32 607225278,.int .u32 1426881987,.int .u32 1925078388,.int .u32 2162078206,.int .u32 2614888103,.int .u32 3248222580,.int .u32 3835390401,.int .u32 4022224774,.int .u32 264347078,.int .u32 604807628,.int .u32 770255983,.int .u32 1249150122,.int .u32 1555081692,.int .u32 1996064986,.int .u32 2554220882,.int .u32 2821834349,.int .u32 2952996808,.int .u32 3210313671,.int .u32 3336571891,.int .u32 3584528711,.int .u32 113926993,.int .u32 338241895,.int .u32 666307205,.int .u32 773529912,.int .u32 1294757372,.int .u32 1396182291,.int .u32 1695183700,.int .u32 1986661051,.int .u32 2177026350,.int .u32 2456956037,.int .u32 2730485921,.int .u32 2820302411,.int .u32 3259730800,.int .u32 3345764771,.int .u32 3516065817,.int .u32 3600352804,.int .u32 4094571909,.int .u32 275423344,.int .u32 430227734,.int .u32 506948616,.int .u32 659060556,.int .u32 883997877,.int .u32 958139571,.int .u32 1322822218,.int .u32 1537002063,.int .u32 1747873779,.int .u32 1955562222,.int .u32 2024104815,.int .u32 2227730452,.int .u32 2361852424,.int .u32 2428436474,.int .u32 2756734187,.int .u32 3204031479,.int .u32 3329325298]
theorem kcs_eq : kcs = words64 Sha.kt:=by kernel_rfl
set_option maxHeartbeats 1000000 in
theorem consts_any (w : World) :
  Calls Tryz.prog 164 #[] w fun e w' => e = .returned (.agg (words64 Sha.kt)) ∧ Below w.heap.size w w':=by
 have hs : kcs.size = 64:=by rw [kcs_eq]; exact words64_size _
 have hi : (Tryz.prog.info? 172).map (·.size) = some kcs.size:=by rw [hs]; exact info54
 have h1 : kcs.all (·.oneCell') = true:=by rw [kcs_eq]; exact words64_one _
 go_enter Tryz.func164,Tryz.ntmps164
 go_wp2_with (refine wpList_store_row rfl 172 _ _ rfl _ kcs rfl rfl 172 _ (heap_alloc_new _ _) hi hs.symm h1 ?_)
 refine bodyPost_ret (v := .agg kcs) (results_cell_row Tryz.results164 _ _ w.heap.size 172 kcs (0,0) _ rfl (setRow_heap _ _ _ _ _ _ (heap_alloc_new _ _)) Tryz.underlying172 rfl hi) rfl ⟨by rw [kcs_eq],below_setRow ((Below.refl _ _).alloc (Nat.le_refl _) _) (Nat.le_refl _) _⟩
end
section
open Go.RowKit
theorem lt_of_row2 {w : World} {g : Nat} {o : Obj} (h : w.heap[g]? = some o) : g < w.heap.size:=by
 rcases Nat.lt_or_ge g w.heap.size with h2 | h2
 ·exact h2
 ·rw [Array.getElem?_eq_none h2] at h; exact absurd h (by simp)
theorem ad_comm (a b : BitVec 32) : Sha.ad a b = Sha.ad b a:=BitVec.add_comm a b
theorem plus_comm (s r : Sha.S8) : Sha.plus s r = Sha.plus r s:=by
 unfold Sha.plus; rw [ad_comm s.a,ad_comm s.b,ad_comm s.c,ad_comm s.d,ad_comm s.e,ad_comm s.f,ad_comm s.g,ad_comm s.h]
structure BR (w : World) (s r : Sha.S8) (F : Nat → BitVec 32) (X : Nat) (wr : World) : Prop where
 bel : Below w.heap.size w wr
 was : wr.heap[w.heap.size]? = some (.cells (words8 s) 167 (0,0))
 kk : wr.heap[w.heap.size + 1]? = some (.cells (words64 Sha.kt) 172 (0,0))
 res : wr.heap[w.heap.size + 1 + 1]? = some (.cells z8 167 (0,0))
 v : wr.heap[w.heap.size + 1 + 1 + 1]? = some (.cells (words8 r) 167 (0,0))
 ws : wr.heap[X]? = some (.cells (words64 F) 172 (0,0))
theorem BR.drewN {w : World} {s r : Sha.S8} {F : Nat → BitVec 32} {X : Nat} {wr : World} (h : BR w s r F X wr) (n : Nat) : BR w s r F X (wr.drewN n) :=
 ⟨⟨h.bel.os,h.bel.tape,h.bel.output,h.bel.size,h.bel.block⟩,h.was,h.kk,h.res,h.v,h.ws⟩
theorem BR.next {w : World} {s r r' : Sha.S8} {F : Nat → BitVec 32} {X : Nat} {wr : World} (h : BR w s r F X wr) (hX : w.heap.size + 1 + 1 + 1 < X) : BR w s r' F X (wr.setRow (w.heap.size + 1 + 1 + 1) (words8 r')) :=
 ⟨below_setRow h.bel (by omega) _,by rw [setRow_other _ _ _ _ (by omega)]; exact h.was,by rw [setRow_other _ _ _ _ (by omega)]; exact h.kk,by rw [setRow_other _ _ _ _ (by omega)]; exact h.res,setRow_heap _ _ _ _ _ _ h.v,by rw [setRow_other _ _ _ _ (by omega)]; exact h.ws⟩
theorem r0_of {r : Sha.S8} {V : Nat} {wr : World} (h : wr.heap[V]? = some (.cells (words8 r) 167 (0,0))) : (wr.cell? ⟨V,0,none⟩ = some (.int .u32 (r.a.toNat : Int)) ∧ wr.cell? ⟨V,1,none⟩ = some (.int .u32 (r.b.toNat : Int)) ∧ wr.cell? ⟨V,2,none⟩ = some (.int .u32 (r.c.toNat : Int)) ∧ wr.cell? ⟨V,3,none⟩ = some (.int .u32 (r.d.toNat : Int))) ∧ wr.cell? ⟨V,4,none⟩ = some (.int .u32 (r.e.toNat : Int)) ∧ wr.cell? ⟨V,5,none⟩ = some (.int .u32 (r.f.toNat : Int)) ∧ wr.cell? ⟨V,6,none⟩ = some (.int .u32 (r.g.toNat : Int)) ∧ wr.cell? ⟨V,7,none⟩ = some (.int .u32 (r.h.toNat : Int)):=by
 refine ⟨⟨?_,?_,?_,?_⟩,?_,?_,?_,?_⟩ <;> rw [cell_of_row _ _ _ _ _ _ h] <;> rfl
attribute [local go_sem] xo_bv an_bv no_bv' ad_bv
attribute [local go_sem ↓] ld49 st49 ld54 st54
attribute [local go_sem ↓] Go.wp_at_zero Go.wp_at_succ
set_option maxHeartbeats 1000000 in
theorem block_any (s : Sha.S8) (f : Nat → UInt8) (b off cap : Nat) (w : World) (hb0 : b < w.heap.size) (hcap : 64 ≤ cap) (hbf : ∀ j,j < 64 → w.cell? ⟨b,off + j,none⟩ = some (.int .u8 ((f j).toNat : Int))) :
  Calls Tryz.prog 166 #[.agg (words8 s),.slice (some ⟨b,off,none⟩) 64 cap,.agg (words64 Sha.kt)] w fun e w' => e = .returned (.agg (words8 (Sha.comp s (Sha.wt f)))) ∧ Below w.heap.size w w':=by
 have hl : ∀ o2 o3,(ldS 167 (.pointer (some ⟨w.heap.size,0,none⟩))).run Tryz.prog (((w.alloc (.cells (words8 s) 167)).alloc o2).alloc o3) = .ok (.agg (words8 s)) (((w.alloc (.cells (words8 s) 167)).alloc o2).alloc o3):=fun o2 o3 =>
  ldRow (by rw [heap_alloc_old _ _ (by simp; omega),heap_alloc_old _ _ (by simp),heap_alloc_new]) Tryz.underlying167 info49
 have hs : ∀ o1 o2 o3,(stS 167 (.pointer (some ⟨w.heap.size + 1 + 1 + 1,0,none⟩)) (.agg (words8 s))).run Tryz.prog ((((w.alloc o1).alloc o2).alloc o3).alloc (.cells z8 167)) = .ok () ((((w.alloc o1).alloc o2).alloc o3).alloc (.cells (words8 s) 167)):=fun o1 o2 o3 => by
  have h0:=heap_alloc_new (((w.alloc o1).alloc o2).alloc o3) (.cells z8 167)
  have e : (((w.alloc o1).alloc o2).alloc o3).heap.size = w.heap.size + 1 + 1 + 1:=by simp
  rw [e] at h0
  rw [stRow (A:=words8 s) h0 info49 rfl (words8_one s)]
  have:=new_row (((w.alloc o1).alloc o2).alloc o3) z8 (words8 s) 167
  rw [e] at this
  rw [this]
 go_enter Tryz.func166,Tryz.ntmps166
 go_wp2_with fail
 clear hl hs
 obtain ⟨W1,e1,b1,r0,r1,r2,r3⟩ : ∃ W1,W1 = (((w.alloc (.cells (words8 s) 167)).alloc (.cells (words64 Sha.kt) 172)).alloc (.cells z8 167)).alloc (.cells (words8 s) 167) ∧ Below w.heap.size w W1 ∧ W1.heap[w.heap.size]? = some (.cells (words8 s) 167 (0,0)) ∧ W1.heap[w.heap.size + 1]? = some (.cells (words64 Sha.kt) 172 (0,0)) ∧ W1.heap[w.heap.size + 1 + 1]? = some (.cells z8 167 (0,0)) ∧ W1.heap[w.heap.size + 1 + 1 + 1]? = some (.cells (words8 s) 167 (0,0)):=by
  refine ⟨_,rfl,((((Below.refl _ _).alloc (Nat.le_refl _) _).alloc (by simp) _).alloc (by simp; omega) _).alloc (by simp; omega) _,?_,?_,?_,?_⟩
  ·rw [heap_alloc_old _ _ (by simp; omega),heap_alloc_old _ _ (by simp; omega),heap_alloc_old _ _ (by simp),heap_alloc_new]
  ·rw [heap_alloc_old _ _ (by simp),heap_alloc_old _ _ (by simp),heap_alloc2_new]
  ·rw [heap_alloc_old _ _ (by simp)]
   have:=heap_alloc_new ((w.alloc (.cells (words8 s) 167)).alloc (.cells (words64 Sha.kt) 172)) (.cells z8 167)
   simpa using this
  ·have:=heap_alloc_new (((w.alloc (.cells (words8 s) 167)).alloc (.cells (words64 Sha.kt) 172)).alloc (.cells z8 167)) (.cells (words8 s) 167)
   simpa using this
 rw [← e1]
 clear e1
 refine (words_any f b off cap W1 (by have:=b1.size; omega) hcap (fun j hj => by rw [b1.cell (p:=⟨b,off + j,none⟩) hb0]; exact hbf j hj)).mono ?_
 rintro e w2 ⟨rfl,b2⟩
 obtain ⟨X,hX⟩ : ∃ X,X = w2.heap.size:=⟨_,rfl⟩
 have hst : (stS 172 (.pointer (some ⟨w2.heap.size,0,none⟩)) (.agg (words64 (Sha.wt f)))).run Tryz.prog (w2.alloc (.cells z64w 172)) = .ok () (w2.alloc (.cells (words64 (Sha.wt f)) 172)):=by
  rw [stRow (heap_alloc_new _ _) (info54w _) (by rw [words64_size]; rfl) (words64_one _),new_row]
 have hX3 : w.heap.size + 1 + 1 + 1 < X:=by rw [hX]; have:=lt_of_row2 r3; have:=b2.size; omega
 have R : BR w s s (Sha.wt f) X (w2.alloc (.cells (words64 (Sha.wt f)) 172)):=by
  have b3 : Below w2.heap.size w2 (w2.alloc (.cells (words64 (Sha.wt f)) 172)):=(Below.refl _ _).alloc (Nat.le_refl _) _
  have b12 : Below w.heap.size w w2:=b1.trans (b2.mono b1.size)
  exact ⟨b12.trans (b3.mono b12.size),carry (carry r0 b2) b3,carry (carry r1 b2) b3,carry (carry r2 b2) b3,carry (carry r3 b2) b3,by rw [hX]; exact heap_alloc_new _ _⟩
 go_wp2_with fail
 clear hst r0 r1 r2 r3 b1
 rw [← hX]
 generalize (w2.alloc (.cells (words64 (Sha.wt f)) 172)) = W3 at *
 clear hX b2
 generalize hF : Sha.wt f = F at *
 have HF : Hid (Sha.wt f = F):=hF
 clear hF
 generalize hB : w.heap.size = B at *
 go_loopw [9] (fun i wr => ∃ k : Nat,k ≤ 64 ∧ i = .int .i64 k ∧ BR w s (Sha.rounds F s k) F X wr) (fun i _ => 64 - (intOf i).toNat)
 case atStart => exact ⟨0,by omega,rfl,R⟩
 case round =>
  clear R
  obtain ⟨k,hk,rfl,R⟩:=hrel
  by_cases hlt : k < 64
  ·have hd : decide ((k : Int) < 64) = true:=decide_eq_true (by omega)
   have i0 : (0 : Int) ≤ (k : Int):=by omega
   have i1 : (k : Int) < 64:=by omega
   have hv:=R.v
   have hkk:=R.kk
   have hws:=R.ws
   rw [hB] at hv hkk
   generalize hr : Sha.rounds F s k = r at *
   have HR : Hid (Sha.rounds F s (k + 1) = Sha.rnd r (Sha.kt k) (F k)):=by show Sha.rounds F s (k+1) = _; rw [Sha.rounds,hr]
   clear hr
   obtain ⟨⟨c0,c1,c2,c3⟩,c4,c5,c6,c7⟩:=r0_of hv
   have ck : wr.cell? ⟨B + 1,k,none⟩ = some (.int .u32 ((Sha.kt k).toNat : Int)):=by rw [cell_of_row _ _ _ _ _ _ hkk,words64_get _ k hlt]
   have cw : wr.cell? ⟨X,k,none⟩ = some (.int .u32 ((F k).toNat : Int)):=by rw [cell_of_row _ _ _ _ _ _ hws,words64_get _ k hlt]
   have hst : ∀ q0 q1 q2 q3 q4 q5 q6 q7 : Int,∀ nq,(stS 167 (.pointer (some ⟨B + 1 + 1 + 1,0,none⟩)) (.agg #[.int .u32 q0,.int .u32 q1,.int .u32 q2,.int .u32 q3,.int .u32 q4,.int .u32 q5,.int .u32 q6,.int .u32 q7])).run Tryz.prog (wr.drewN nq) = .ok () ((wr.drewN nq).setRow (B + 1 + 1 + 1) #[.int .u32 q0,.int .u32 q1,.int .u32 q2,.int .u32 q3,.int .u32 q4,.int .u32 q5,.int .u32 q6,.int .u32 q7]):=fun q0 q1 q2 q3 q4 q5 q6 q7 nq =>
    stRow (w:=wr.drewN nq) hv info49 rfl (by simp [Value.oneCell'])
   clear hv hkk hws
   go_wp2_with (go_at_call 205; refine (rightI _ _ (by decide) (by decide) _).mono ?_; rintro e w' ⟨rfl,hw'⟩; rw [hw']; clear hw')
   go_quiet (fail)
   go_wp2_with fail
   go_round
   case rel =>
    refine ⟨k + 1,by omega,by go_num,?_⟩
    rw [HR.out]
    have:=(R.drewN nq).next (r':=Sha.rnd r (Sha.kt k) (F k)) (by omega)
    rw [hB] at this
    exact this
   case measure => simp [intOf]; omega
  ·obtain rfl : k = 64:=by omega
   have hd : decide ((64 : Int) < 64) = false:=by decide
   have HC : Hid (Sha.comp s F = Sha.plus (Sha.rounds F s 64) s):=by show _ = _; rw [Sha.comp,plus_comm]
   generalize Sha.rounds F s 64 = r at *
   have bel:=R.bel
   have hwas:=R.was
   have hres:=R.res
   have hv : wr.heap[w.heap.size + 1 + 1 + 1]? = some (.cells (mix r s 0) 167 (0,0)):=R.v
   rw [hB] at bel hwas hres hv
   clear R
   go_wp2_with fail
   go_loopw [18] (fun i wr => ∃ k : Nat,k ≤ 8 ∧ i = .int .i64 k ∧ Below B w wr ∧ wr.heap[B]? = some (.cells (words8 s) 167 (0,0)) ∧ wr.heap[B + 1 + 1]? = some (.cells z8 167 (0,0)) ∧ wr.heap[B + 1 + 1 + 1]? = some (.cells (mix r s k) 167 (0,0))) (fun i _ => 8 - (intOf i).toNat)
   case atStart => exact ⟨0,by omega,rfl,bel,hwas,hres,hv⟩
   case round =>
    clear bel hwas hres hv
    obtain ⟨k,hk,rfl,bel,hwas,hres,hv⟩:=hrel
    by_cases hlt2 : k < 8
    ·have c0 : wr.cell? ⟨B + 1 + 1 + 1,k,none⟩ = some (.int .u32 ((Sha.word r k).toNat : Int)):=by rw [cell_of_row _ _ _ _ _ _ hv,mix_get r s k hlt2]
     have c1 : wr.cell? ⟨B,k,none⟩ = some (.int .u32 ((Sha.word s k).toNat : Int)):=by rw [cell_of_row _ _ _ _ _ _ hwas,words8_get s k hlt2]
     have f0 : wr.frozen? ⟨B + 1 + 1 + 1,k,none⟩ = false:=frozen_of_row _ _ _ _ _ hv
     have i0 : (0 : Int) ≤ (k : Int):=by omega
     have i1 : (k : Int) < 8:=by omega
     have hd2 : decide ((k : Int) < 8) = true:=decide_eq_true (by omega)
     have HM : Hid _:=mix_succ r s k hlt2
     have hbB : B ≠ B + 1 + 1 + 1:=by omega
     go_wp2_with fail
     go_region
     go_wp2_with fail
     go_round
     case rel =>
      refine ⟨k + 1,by omega,by go_num,(bel.setCell (by show B ≤ B + 1 + 1 + 1; omega) _).drew,?_,?_,?_⟩
      ·rw [heap_drew,Below.heap_setCell _ _ _ _ (by show B ≠ B + 1 + 1 + 1; omega),hwas]
      ·rw [heap_drew,Below.heap_setCell _ _ _ _ (by show B + 1 + 1 ≠ B + 1 + 1 + 1; omega),hres]
      ·rw [heap_drew,cell_set _ _ _ _ _ _ hv,HM.out]
     case measure => simp [intOf]; omega
    ·obtain rfl : k = 8:=by omega
     have hd2 : decide ((8 : Int) < 8) = false:=by decide
     have e8 : Hid (mix r s 8 = words8 (Sha.comp s F)):=by show _ = _; rw [HC.out]; rfl
     generalize mix r s 8 = A at *
     have hs : A.size = 8:=by rw [e8.out]; rfl
     have h1 : A.all (·.oneCell') = true:=by rw [e8.out]; exact words8_one _
     have hi : (Tryz.prog.info? 167).map (·.size) = some A.size:=by rw [hs]; exact info49
     have hz : z8.size = A.size:=hs.symm
     have ll:=ldRow hv Tryz.underlying167 hi
     have ss:=stRow hres hi hz h1
     go_wp2_with fail
     refine bodyPost_ret (v := .agg A) (results_cell_row Tryz.results166 _ _ (B + 1 + 1) 167 A (0,0) _ rfl (setRow_heap _ _ _ _ _ _ hres) Tryz.underlying167 rfl hi) rfl ⟨by rw [e8.out,HF.out],?_⟩
     subst hB
     exact below_setRow bel (by omega) _
end
section
open Go.RowKit
structure SR (w : World) (m : List UInt8) (q : Nat → UInt8) (k X g : Nat) (wr : World) : Prop where
 bel : Below w.heap.size w wr
 res : wr.heap[w.heap.size]? = some (.cells (pb 32 q 0) 44 (0,0))
 v : wr.heap[w.heap.size + 1]? = some (.cells (words8 (Sha.hs m k)) 167 (0,0))
 kk : wr.heap[X]? = some (.cells (words64 Sha.kt) 172 (0,0))
 txt : ∀ j,j < m.length → wr.cell? ⟨g,j,none⟩ = some (.int .u8 ((m.getD j 0).toNat : Int))
 lt : g < wr.heap.size
theorem own_cap {w : World} {base e size g n cap : Nat} {xs : List Value} (h : w.ownsRow base e size (.slice (some ⟨g,0,none⟩) n cap) n xs) : n ≤ cap:=by
 rcases h.2 with ⟨h',_⟩ | ⟨g',cap',cur,h',_,hg,hn,_⟩
 ·simp at h'
 ·simp only [Value.slice.injEq,Option.some.injEq,Addr.mk.injEq,and_true,true_and] at h'
  omega
theorem hs_zero (m : List UInt8) : Sha.hs m 0 = Sha.iv:=by simp only [Sha.hs]
theorem hs_succ (m : List UInt8) (k : Nat) : Sha.hs m (k + 1) = Sha.comp (Sha.hs m k) (Sha.wt (Sha.blk m k)):=by simp only [Sha.hs]
theorem iv_lit : (#[.int .u32 1779033703,.int .u32 3144134277,.int .u32 1013904242,.int .u32 2773480762,.int .u32 1359893119,.int .u32 2600822924,.int .u32 528734635,.int .u32 1541459225] : Array Value) = words8 Sha.iv:=by kernel_rfl
noncomputable def slS (v : Value) (a b c : Option Value) : Sem Value:=Instr.sliceAt 47 v a b c
theorem sl27 (v : Value) (a b c : Option Value) : Instr.sliceAt 47 v a b c = slS v a b c:=rfl
theorem slice_txt (g l cap k : Nat) (h1 : 64 * k + 64 ≤ l) (h2 : l ≤ cap) (w : World) : (slS (.slice (some ⟨g,0,none⟩) l cap) (some (.int .i64 (64 * (k : Int)))) (some (.int .i64 (64 * (k : Int) + 64))) none).run Tryz.prog w = .ok (.slice (some ⟨g,64 * k,none⟩) 64 (cap - 64 * k)) w:=by
 show (Instr.sliceAt 47 (.slice (some ⟨g,0,none⟩) l cap) (some (.int .i64 (64 * (k : Int)))) (some (.int .i64 (64 * (k : Int) + 64))) none).run Tryz.prog w = _
 have i0 : (0 : Int) ≤ 64 * (k : Int):=by omega
 have i1 : 64 * (k : Int) + 64 ≤ (cap : Int):=by omega
 have i2 : ¬ cap = 64 * k:=by omega
 have i4 : (0 : Int) ≤ 64 * (k : Int) + 64:=by omega
 have i5 : 64 * (k : Int) ≤ max (64 * (k : Int) + 64) 0:=by omega
 have t1 : (64 * (k : Int)).toNat = 64 * k:=by omega
 have t2 : (64 * (k : Int) + 64).toNat = 64 * k + 64:=by omega
 simp [Instr.sliceAt,go_sem,Tryz.underlying47,i0,i1,i2,i4,i5,t1,t2]
 intro h; omega
attribute [local go_sem ↓] ld49 st49 ld54 st54 sl27
attribute [local go_sem] iv_lit
attribute [local go_sem ↓] Go.wp_at_zero Go.wp_at_succ
set_option maxHeartbeats 1000000 in
theorem refSum_any (s : ByteArray) (w : World) (hs : s.size ≤ 140737488351232) :
  Calls Tryz.prog 130 #[.string s] w fun e w' => e = .returned (.agg (b32 (dg s.data.toList))) ∧ Below w.heap.size w w':=by
 have s49 : ∀ o1,(stS 167 (.pointer (some ⟨w.heap.size + 1,0,none⟩)) (.agg (words8 Sha.iv))).run Tryz.prog ((w.alloc o1).alloc (.cells z8 167)) = .ok () ((w.alloc o1).alloc (.cells (words8 Sha.iv) 167)):=fun o1 => by
  rw [stRow (A:=words8 Sha.iv) (heap_alloc2_new w o1 (.cells z8 167)) info49 rfl (words8_one _)]
  have:=new_row (w.alloc o1) z8 (words8 Sha.iv) 167
  rw [show (w.alloc o1).heap.size = w.heap.size + 1 by simp] at this
  rw [this]
 go_enter Tryz.func130,Tryz.ntmps130
 go_wp2_with fail
 clear s49
 obtain ⟨q,hq⟩ : ∃ q,q = dg s.data.toList:=⟨_,rfl⟩
 rw [← pb32 q]
 obtain ⟨W1,e1,b1,r0,r1⟩ : ∃ W1,W1 = (w.alloc (.cells (pb 32 q 0) 44)).alloc (.cells (words8 Sha.iv) 167) ∧ Below w.heap.size w W1 ∧ W1.heap[w.heap.size]? = some (.cells (pb 32 q 0) 44 (0,0)) ∧ W1.heap[w.heap.size + 1]? = some (.cells (words8 Sha.iv) 167 (0,0)) :=
  ⟨_,rfl,((Below.refl _ _).alloc (Nat.le_refl _) _).alloc (by simp) _,heap_alloc2_old _ _ _,heap_alloc2_new _ _ _⟩
 rw [← e1]
 clear e1
 refine (consts_any W1).mono ?_
 rintro e w2 ⟨rfl,b2⟩
 obtain ⟨X,hX⟩ : ∃ X,X = w2.heap.size:=⟨_,rfl⟩
 have hst : (stS 172 (.pointer (some ⟨w2.heap.size,0,none⟩)) (.agg (words64 Sha.kt))).run Tryz.prog (w2.alloc (.cells z64w 172)) = .ok () (w2.alloc (.cells (words64 Sha.kt) 172)):=by
  rw [stRow (heap_alloc_new _ _) (info54w _) (by rw [words64_size]; rfl) (words64_one _),new_row]
 go_wp2_with fail
 clear hst
 have b3 : Below w2.heap.size w2 (w2.alloc (.cells (words64 Sha.kt) 172)):=(Below.refl _ _).alloc (Nat.le_refl _) _
 have b12 : Below w.heap.size w w2:=b1.trans (b2.mono b1.size)
 have b13:=b12.trans (b3.mono b12.size)
 have q0:=carry (carry r0 b2) b3
 have q1:=carry (carry r1 b2) b3
 have q2 : (w2.alloc (.cells (words64 Sha.kt) 172)).heap[X]? = some (.cells (words64 Sha.kt) 172 (0,0)):=by rw [hX]; exact heap_alloc_new _ _
 have hX1 : w.heap.size + 1 < X:=by rw [hX]; have:=lt_of_row2 r1; have:=b2.size; omega
 rw [← hX]
 clear b3 b12 b1 b2 r0 r1 hX
 generalize (w2.alloc (.cells (words64 Sha.kt) 172)) = W3 at *
 refine (padded_any s W3 hs).mono ?_
 rintro e W4 ⟨g,cap,rfl,hown,b4⟩
 obtain ⟨m,hm⟩ : ∃ m,m = s.data.toList ++ Sha.pad s.size:=⟨_,rfl⟩
 rw [← hm] at hown
 rw [← hm]
 have hg:=(hown.lt g rfl)
 have R : SR w m q 0 X g W4:=by
  refine ⟨b13.trans (b4.mono b13.size),carry q0 b4,by rw [hs_zero]; exact carry q1 b4,carry q2 b4,fun j hj => ?_,hg.2⟩
  rw [hown.cellAt j (by omega),vals,List.getElem?_map,List.getElem?_eq_getElem hj,List.getD_eq_getElem?_getD,List.getElem?_eq_getElem hj]
  rfl
 have hgX : X < g:=by have:=lt_of_row2 q2; omega
 have hcap:=own_cap hown
 have hmm : m.length % 64 = 0 ∧ m.length ≤ s.size + 73:=by
  have e : s.data.toList.length = s.size:=Array.length_toList
  rw [hm,List.length_append,Sha.pad_length,e]; omega
 have HQ : Hid (Sha.outByte (Sha.hs m (m.length / 64)) = q):=by show _ = _; rw [hq,hm]; unfold dg Sha.num; rw [show s.data.toList.length = s.size from Array.length_toList]
 have HM : Hid (m = s.data.toList ++ Sha.pad s.size):=hm
 have HQ0 : Hid (q = dg s.data.toList):=hq
 clear hm hq hown b4 hg q0 q1 q2 b13
 obtain ⟨l,hl⟩ : ∃ l,l = m.length:=⟨_,rfl⟩
 rw [← hl] at hcap hmm
 rw [← hl]
 have HL : Hid (l = m.length):=hl
 clear hl
 generalize hB : w.heap.size = B at *
 go_wp2_with fail
 go_loopw [6] (fun i wr => ∃ k : Nat,64 * k ≤ l ∧ i = .int .i64 (64 * (k : Int)) ∧ SR w m q k X g wr) (fun i _ => l - (intOf i).toNat)
 case atStart => exact ⟨0,by omega,rfl,R⟩
 case round =>
  clear R
  obtain ⟨k,hk,rfl,R⟩:=hrel
  by_cases hlt : 64 * k < l
  ·have hd : decide (64 * (k : Int) < (l : Int)) = true:=decide_eq_true (by omega)
   have hlt2 : 64 * k + 64 ≤ l:=by omega
   have hl47 : l ≤ 140737488351305:=by omega
   have hv : wr.drew.heap[B + 1]? = some (.cells (words8 (Sha.hs m k)) 167 (0,0)):=by have:=R.v; rw [hB] at this; exact this
   have l49:=ldRow hv Tryz.underlying167 info49
   have l54:=ldRow (w:=wr.drew) R.kk Tryz.underlying172 (info54w _)
   have txt : ∀ j,j < 64 → wr.drew.cell? ⟨g,64 * k + j,none⟩ = some (.int .u8 ((Sha.blk m k j).toNat : Int)):=fun j hj => R.txt (64 * k + j) (by rw [← HL.out]; omega)
   have hgl : g < wr.drew.heap.size:=R.lt
   have i3 : 64 ≤ cap - 64 * k:=by omega
   have hwr : IntKind.i64.wrap (64 * (k : Int) + 64) = 64 * (k : Int) + 64:=by rw [IntKind.wrap_i64]; omega
   have hsl:=slice_txt g l cap k hlt2 hcap
   have HT : Hid (∀ j,j < 64 → wr.drew.cell? ⟨g,64 * k + j,none⟩ = some (.int .u8 ((Sha.blk m k j).toNat : Int))):=txt
   clear txt
   go_wp2_with fail
   go_region_with (go_at_call 166; refine (block_any (Sha.hs m k) (Sha.blk m k) g (64 * k) (cap - 64 * k) _ hgl i3 HT.out).mono ?_; rintro e w5 ⟨rfl,bq⟩; have hv1:=carry hv bq; have d1:=stRow (A:=words8 (Sha.comp (Sha.hs m k) (Sha.wt (Sha.blk m k)))) hv1 (by rw [words8_size]; exact info49) (by rw [words8_size,words8_size]) (words8_one _))
   all_goals go_wp2_with fail
   all_goals
    refine ⟨⟨k + 1,by omega,by go_num,?_⟩,by simp [intOf]; omega⟩
    have bw : Below w.heap.size w w5:=R.bel.drew.trans (bq.mono R.bel.size)
    have e49 : Hid _:=hv1
    refine ⟨below_setRow bw (by omega) _,?_,?_,?_,?_,?_⟩
    ·rw [setRow_other _ _ _ _ (by omega)]; exact carry (a:=wr.drew) R.res bq
    ·rw [hB,hs_succ]; exact setRow_heap _ _ _ _ _ _ hv1
    ·rw [setRow_other _ _ _ _ (by omega)]; exact carry (a:=wr.drew) R.kk bq
    ·intro j hj
     rw [cell_setRow_other _ _ _ _ (by show g ≠ B + 1; omega),bq.cell (p:=⟨g,j,none⟩) hgl]; exact R.txt j hj
    ·have:=bq.size; have h7:=hgl; simp at h7 ⊢; simp at this; omega
  ·have hd : decide (64 * (k : Int) < (l : Int)) = false:=decide_eq_false (by omega)
   have bel:=R.bel
   have r1:=R.res
   have r2:=R.v
   have hgl:=R.lt
   have hk2 : k = m.length / 64:=by rw [← HL.out]; omega
   have hX2:=lt_of_row2 R.kk
   rw [hB] at bel r1 r2
   rw [hk2] at r2
   generalize hsv : Sha.hs m (m.length / 64) = sv at *
   clear R hk2
   have h0 : Hid (Sha.outByte sv = q):=HQ
   go_wp2_with fail
   rw [← pb32 q]
   obtain ⟨W6,e6,b6,t1,t2,t3⟩ : ∃ W6,W6 = wr.alloc (.cells (pb 32 q 0) 44) ∧ Below B w W6 ∧ W6.heap[B]? = some (.cells (pb 32 q 0) 44 (0,0)) ∧ W6.heap[B + 1]? = some (.cells (words8 sv) 167 (0,0)) ∧ W6.heap[wr.heap.size]? = some (.cells (pb 32 q 0) 44 (0,0)) :=
    ⟨_,rfl,bel.alloc (by rw [← hB]; exact bel.size) _,by rw [heap_alloc_old _ _ (lt_of_row2 r1)]; exact r1,by rw [heap_alloc_old _ _ (lt_of_row2 r2)]; exact r2,heap_alloc_new _ _⟩
   rw [← e6]
   have hH : B + 1 < wr.heap.size:=lt_of_row2 r2
   clear e6 r1 r2 bel
   generalize wr.heap.size = H at *
   go_loopw [8] (fun i wr => ∃ k : Nat,k ≤ 32 ∧ i = .int .i64 k ∧ Below B w wr ∧ wr.heap[B]? = some (.cells (pb 32 q 0) 44 (0,0)) ∧ wr.heap[B + 1]? = some (.cells (words8 sv) 167 (0,0)) ∧ wr.heap[H]? = some (.cells (pb 32 q k) 44 (0,0))) (fun i _ => 32 - (intOf i).toNat)
   case atStart => exact ⟨0,by omega,rfl,b6,t1,t2,t3⟩
   case round =>
    clear b6 t1 t2 t3
    obtain ⟨k,hk,rfl,hb,h1,h2,h3⟩:=hrel
    by_cases hlt : k < 32
    ·have hd : decide ((k : Int) < 32) = true:=by simp; omega
     have i0 : (0 : Int) ≤ (k : Int):=by omega
     have i1 : (k : Int) < 32:=by omega
     have gc : wr.cell? ⟨B + 1,k / 4,none⟩ = some (.int .u32 ((Sha.word sv (k / 4)).toNat : Int)):=by rw [cell_of_row _ _ _ _ _ _ h2,words8_get sv (k / 4) (by omega)]
     have g5 : wr.frozen? ⟨H,k,none⟩ = false:=frozen_of_row _ _ _ _ _ h3
     obtain ⟨v0,g4⟩ : ∃ v,wr.cell? ⟨H,k,none⟩ = some v:=⟨_,by rw [cell_of_row _ _ _ _ _ _ h3]; exact Array.getElem?_eq_getElem (by rw [pb_size]; omega)⟩
     go_wp2_with fail
     go_round
     case rel =>
      have e : ((Sha.word sv (k / 4)).toNat : Int) / 2 ^ (24 - 8 * (k % 4)) % 256 = ((q k).toNat : Int):=by
       rw [← h0.out]; unfold Sha.outByte; rw [UInt8.toNat_ofNat']; exact (cast_div _ _).symm
      refine ⟨k + 1,by omega,by go_num,hb.setCell (by show B ≤ H; omega) _,?_,?_,?_⟩
      ·rw [Below.heap_setCell _ _ _ _ (by show B ≠ H; omega),h1]
      ·rw [Below.heap_setCell _ _ _ _ (by show B + 1 ≠ H; omega),h2]
      ·rw [cell_set _ _ _ _ _ _ h3,e,pb_set 32 q k hlt]
     case measure => simp [intOf]; omega
    ·obtain rfl : k = 32:=by omega
     have hd : decide ((32 : Int) < 32) = false:=by decide
     have hs : (pb 32 q 32).size = 32:=pb_size 32 q 32
     have ho : (pb 32 q 32).all (·.oneCell') = true:=pb_one 32 q 32
     have hz : (pb 32 q 0).size = (pb 32 q 32).size:=by rw [pb_size,pb_size]
     have e8 : Hid (pb 32 q 32 = b32 q):=rfl
     generalize pb 32 q 32 = A at *
     have hi : (Tryz.prog.info? 44).map (·.size) = some A.size:=by rw [hs]; exact info22
     go_wp2_with (first
      | (refine wpList_load_row rfl 44 _ rfl _ rfl 44 _ (0,0) _ h3 Tryz.underlying44 rfl hi ?_)
      | (refine wpList_store_row rfl 44 _ _ rfl _ _ rfl rfl 44 _ h1 hi hz ho ?_))
     refine bodyPost_ret (v := .agg A) (results_cell_row Tryz.results130 _ _ B 44 A (0,0) _ rfl (setRow_heap _ _ _ _ _ _ h1) Tryz.underlying44 rfl hi) rfl ⟨by rw [e8.out,HQ0.out],by subst hB; exact below_setRow hb (by omega) _⟩
end
section
open Go.RowKit
attribute [local go_sem ↓] Go.wp_at_zero Go.wp_at_succ
abbrev zero32 : Array Value:=#[.int .u8 0,.int .u8 0,.int .u8 0,.int .u8 0,.int .u8 0,.int .u8 0,.int .u8 0,.int .u8 0,.int .u8 0,.int .u8 0,.int .u8 0,.int .u8 0,.int .u8 0,.int .u8 0,.int .u8 0,.int .u8 0,.int .u8 0,.int .u8 0,.int .u8 0,.int .u8 0,.int .u8 0,.int .u8 0,.int .u8 0,.int .u8 0,.int .u8 0,.int .u8 0,.int .u8 0,.int .u8 0,.int .u8 0,.int .u8 0,.int .u8 0,.int .u8 0]
theorem size_hv (g : Hs) : (Tryz.prog.info? 44).map (·.size) = some (hv g).toArray.size:=by rw [List.size_toArray]; exact infoH _
theorem there_hv {w : World} {B : Nat} (h : w.there B 0 32) (g : Hs) : w.there B 0 (hv g).toArray.size:=by rw [List.size_toArray,hv_length]; exact h
theorem there_new (w : World) (T : TypeId) : (w.alloc (.cells zero32 T)).there w.heap.size 0 32:=there_of_row (heap_alloc_new _ _) 0 (by simp)
theorem range_new {w : World} {B : Nat} (h : w.there B 0 32) (g : Hs) : (w.setCells B 0 (hv g)).rangeAt B 0 (hv g):=World.rangeAt_setCells_same _ _ _ _ (by rw [hv_length]; exact h)
theorem refSum_hv (s : ByteArray) (w : World) (hs : s.size ≤ 140737488351232) :
  Calls Tryz.prog 130 #[.string s] w fun e w' => e = .returned (.agg (hv (dg s.data.toList)).toArray) ∧ Below w.heap.size w w':=by
 rw [hv_b32]; exact refSum_any s w hs
theorem refSumL (s : ByteArray) (w : World) (hs : s.size ≤ 2097152) : Calls Tryz.prog 130 #[.string ((⟨#[0]⟩ : ByteArray) ++ s)] w fun e w' => e = .returned (.agg (hv (leaf s.data.toList)).toArray) ∧ Below w.heap.size w w':=by
 have h0:=refSum_hv (⟨#[0]⟩ ++ s) w (by rw [ByteArray.size_append]; show 1 + s.size ≤ _; omega)
 have e : ((⟨#[0]⟩ : ByteArray) ++ s).data.toList = 0 :: s.data.toList:=by rw [ByteArray.data_append,Array.toList_append]; rfl
 rw [e] at h0
 rw [leaf_eq]
 exact h0
set_option maxHeartbeats 400000 in
theorem refLeaf_hv (s : ByteArray) (w : World) (hs : s.size ≤ 2097152) :
  Calls Tryz.prog 120 #[.string s] w fun e w' => e = .returned (.agg (hv (leaf s.data.toList)).toArray) ∧ Below w.heap.size w w':=by
 have s1 : ¬ 9223372036854775807 < (⟨#[0]⟩ : ByteArray).size + s.size:=by show ¬ _ < 1 + s.size; omega
 have s2 : ¬ 9223372036854775807 < 1 + s.size:=by omega
 have b0 : Below w.heap.size w (w.alloc (.cells zero32 44)):=(Below.refl _ _).alloc (Nat.le_refl _) _
 have t0:=there_new w 44
 go_enter Tryz.func120,Tryz.ntmps120
 go_wp2_with fail
 refine (refSumL s _ hs).mono ?_
 rintro e w2 ⟨rfl,bq⟩
 have t2:=thereNext t0 bq
 have b2:=below_seq b0 bq
 go_wp2_with (refine wpList_store_mid rfl 44 _ _ rfl w.heap.size 0 _ rfl rfl (there_hv t2 _) (size_hv _) (all_oneCell_toArray (hv_one _)) ?_)
 exact bodyPost_ret (v := .agg (hv (leaf s.data.toList)).toArray) (results_mid Tryz.results120 _ _ w.heap.size (leaf s.data.toList) rfl (range_new t2 _)) rfl ⟨rfl,below_setCells (Nat.le_refl _) _ _ b2⟩
end
end Go.Proofs.YtdfjlmfnkhhnjaaGreatDoorH
