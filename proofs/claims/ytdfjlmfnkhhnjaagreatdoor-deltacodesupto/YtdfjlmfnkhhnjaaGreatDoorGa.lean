import Derived.Test.YtdfjlmfnkhhnjaaGreatDoorRows
import Derived.WalkKit
import Derived.Laws.BitsAllLaws
import Derived.WalkSpells
import Derived.WalkLawsBesides
import Derived.Below
import Derived.Deep.WholeRow
import Derived.BigQuiet
import Derived.Deep.QuietTactic
import Derived.Laws.CopyOwn
import Derived.Deep.RegionHeld3
import Derived.Deep.DrawnRows
set_option maxRecDepth 100000
set_option linter.unusedVariables false
set_option linter.unusedSimpArgs false
namespace Go.Proofs.YtdfjlmfnkhhnjaaGreatDoorH.Sha
abbrev W:=BitVec 32
def ad (a b : W) : W:=a + b
def xo (a b : W) : W:=a ^^^ b
def an (a b : W) : W:=a &&& b
def no (a : W) : W := ~~~ a
def rr (x : W) (n : Nat) : W:=(x <<< (32 - n)) ||| (x >>> n)
def sr (x : W) (n : Nat) : W:=x >>> n
def be (a b c d : UInt8) : W:=BitVec.ofNat 32 (a.toNat * 16777216 + b.toNat * 65536 + c.toNat * 256 + d.toNat)
def K : List W := [
 0x428a2f98,0x71374491,0xb5c0fbcf,0xe9b5dba5,0x3956c25b,0x59f111f1,0x923f82a4,0xab1c5ed5,
 0xd807aa98,0x12835b01,0x243185be,0x550c7dc3,0x72be5d74,0x80deb1fe,0x9bdc06a7,0xc19bf174,
 0xe49b69c1,0xefbe4786,0x0fc19dc6,0x240ca1cc,0x2de92c6f,0x4a7484aa,0x5cb0a9dc,0x76f988da,
 0x983e5152,0xa831c66d,0xb00327c8,0xbf597fc7,0xc6e00bf3,0xd5a79147,0x06ca6351,0x14292967,
 0x27b70a85,0x2e1b2138,0x4d2c6dfc,0x53380d13,0x650a7354,0x766a0abb,0x81c2c92e,0x92722c85,
 0xa2bfe8a1,0xa81a664b,0xc24b8b70,0xc76c51a3,0xd192e819,0xd6990624,0xf40e3585,0x106aa070,
 0x19a4c116,0x1e376c08,0x2748774c,0x34b0bcb5,0x391c0cb3,0x4ed8aa4a,0x5b9cca4f,0x682e6ff3,
 0x748f82ee,0x78a5636f,0x84c87814,0x8cc70208,0x90befffa,0xa4506ceb,0xbef9a3f7,0xc67178f2]
def kt (t : Nat) : W:=K.getD t 0
structure S8 where
 a : W
 b : W
 c : W
 d : W
 e : W
 f : W
 g : W
 h : W
deriving DecidableEq
def iv : S8:=⟨0x6a09e667,0xbb67ae85,0x3c6ef372,0xa54ff53a,0x510e527f,0x9b05688c,0x1f83d9ab,0x5be0cd19⟩
def t1 (s : S8) (k w : W) : W:=ad (ad (ad (ad s.h (xo (xo (rr s.e 6) (rr s.e 11)) (rr s.e 25))) (xo (an s.e s.f) (an (no s.e) s.g))) k) w
def t2 (s : S8) : W:=ad (xo (xo (rr s.a 2) (rr s.a 13)) (rr s.a 22)) (xo (xo (an s.a s.b) (an s.a s.c)) (an s.b s.c))
def rnd (s : S8) (k w : W) : S8:=⟨ad (t1 s k w) (t2 s),s.a,s.b,s.c,ad s.d (t1 s k w),s.e,s.f,s.g⟩
def rounds (w : Nat → W) (s : S8) : Nat → S8
 | 0 => s
 | k + 1 => rnd (rounds w s k) (kt k) (w k)
def plus (s r : S8) : S8:=⟨ad s.a r.a,ad s.b r.b,ad s.c r.c,ad s.d r.d,ad s.e r.e,ad s.f r.f,ad s.g r.g,ad s.h r.h⟩
def comp (s : S8) (w : Nat → W) : S8:=plus s (rounds w s 64)
def sg0 (x : W) : W:=xo (xo (rr x 7) (rr x 18)) (sr x 3)
def sg1 (y : W) : W:=xo (xo (rr y 17) (rr y 19)) (sr y 10)
def first (f : Nat → UInt8) (t : Nat) : W:=be (f (4 * t)) (f (4 * t + 1)) (f (4 * t + 2)) (f (4 * t + 3))
def sch (f : Nat → UInt8) : Nat → List W
 | 0 => []
 | t + 1 => (if t < 16 then first f t else ad (ad (ad (sg1 ((sch f t).getD 1 0)) ((sch f t).getD 6 0)) (sg0 ((sch f t).getD 14 0))) ((sch f t).getD 15 0)) :: sch f t
def wt (f : Nat → UInt8) (t : Nat) : W:=(sch f (t + 1)).headD 0
theorem sch_length (f : Nat → UInt8) : ∀ t,(sch f t).length = t
 | 0 => rfl
 | t + 1 => by simp [sch,sch_length f t]
theorem sch_cons (f : Nat → UInt8) (t : Nat) : sch f (t + 1) = wt f t :: sch f t:=by
 simp [wt,sch]
theorem sch_getD (f : Nat → UInt8) : ∀ t j,j < t → (sch f t).getD j 0 = wt f (t - 1 - j)
 | 0,j,h => by omega
 | t + 1,0,_ => by rw [sch_cons]; simp
 | t + 1,j + 1,h => by
  rw [sch_cons,List.getD_cons_succ,sch_getD f t j (by omega)]
  congr 1; omega
theorem wt_first (f : Nat → UInt8) (t : Nat) (h : t < 16) : wt f t = first f t:=by
 simp [wt,sch,h]
theorem wt_next (f : Nat → UInt8) (t : Nat) (h : 16 ≤ t) : wt f t = ad (ad (ad (sg1 (wt f (t - 2))) (wt f (t - 7))) (sg0 (wt f (t - 15)))) (wt f (t - 16)):=by
 have e : wt f t = ad (ad (ad (sg1 ((sch f t).getD 1 0)) ((sch f t).getD 6 0)) (sg0 ((sch f t).getD 14 0))) ((sch f t).getD 15 0):=by
  have : ¬ t < 16:=by omega
  simp [wt,sch,this]
 rw [e,sch_getD _ _ _ (by omega),sch_getD _ _ _ (by omega),sch_getD _ _ _ (by omega),sch_getD _ _ _ (by omega)]
 have h1 : t - 1 - 1 = t - 2:=by omega
 have h2 : t - 1 - 6 = t - 7:=by omega
 have h3 : t - 1 - 14 = t - 15:=by omega
 have h4 : t - 1 - 15 = t - 16:=by omega
 rw [h1,h2,h3,h4]
theorem first_congr {f g : Nat → UInt8} (h : ∀ j,j < 64 → f j = g j) (t : Nat) (ht : t < 16) : first f t = first g t:=by
 unfold first; rw [h _ (by omega),h _ (by omega),h _ (by omega),h _ (by omega)]
theorem sch_congr {f g : Nat → UInt8} (h : ∀ j,j < 64 → f j = g j) : ∀ t,sch f t = sch g t
 | 0 => rfl
 | t + 1 => by
  have ih:=sch_congr h t
  simp only [sch,ih]
  by_cases ht : t < 16
  ·rw [if_pos ht,if_pos ht,first_congr h t ht]
  ·rw [if_neg ht,if_neg ht]
theorem wt_congr {f g : Nat → UInt8} (h : ∀ j,j < 64 → f j = g j) : wt f = wt g:=by
 funext t; unfold wt; rw [sch_congr h]
def blk (m : List UInt8) (k j : Nat) : UInt8:=m.getD (64 * k + j) 0
def hs (m : List UInt8) : Nat → S8
 | 0 => iv
 | k + 1 => comp (hs m k) (wt (blk m k))
def num (m : List UInt8) : S8:=hs m (m.length / 64)
def lenByte (n i : Nat) : UInt8:=UInt8.ofNat (8 * n / 2 ^ (56 - 8 * i))
def pad (n : Nat) : List UInt8:=128 :: (List.replicate ((119 - n % 64) % 64) 0 ++ (List.range 8).map (lenByte n))
def word (s : S8) : Nat → W
 | 0 => s.a
 | 1 => s.b
 | 2 => s.c
 | 3 => s.d
 | 4 => s.e
 | 5 => s.f
 | 6 => s.g
 | _ => s.h
def outByte (s : S8) (i : Nat) : UInt8:=UInt8.ofNat ((word s (i / 4)).toNat / 2 ^ (24 - 8 * (i % 4)))
def out (s : S8) : List UInt8:=(List.range 32).map (outByte s)
theorem blk_append (m x : List UInt8) (k j : Nat) (h : 64 * k + j < m.length) : blk (m ++ x) k j = blk m k j:=by
 unfold blk; rw [List.getD_eq_getElem?_getD,List.getD_eq_getElem?_getD,List.getElem?_append_left h]
theorem hs_append (m x : List UInt8) : ∀ k,64 * k ≤ m.length → hs (m ++ x) k = hs m k
 | 0,_ => rfl
 | k + 1,h => by
  simp only [hs]
  rw [hs_append m x k (by omega),wt_congr (g:=blk m k)]
  intro j hj; exact blk_append m x k j (by omega)
theorem num_append_small (m x : List UInt8) (h : (m ++ x).length / 64 = m.length / 64) : num (m ++ x) = num m:=by
 unfold num; rw [h]; exact hs_append m x _ (by omega)
theorem num_append_full (m x : List UInt8) (f : Nat → UInt8) (h : (m ++ x).length / 64 = m.length / 64 + 1) (hf : ∀ j,j < 64 → f j = blk (m ++ x) (m.length / 64) j) : num (m ++ x) = comp (num m) (wt f):=by
 unfold num; rw [h]
 simp only [hs]
 rw [hs_append m x _ (by omega),wt_congr hf]
theorem pad_length (n : Nat) : (pad n).length = 1 + ((119 - n % 64) % 64 + 8):=by
 simp [pad]; omega
def digs : List UInt8 := [48,49,50,51,52,53,54,55,56,57,97,98,99,100,101,102]
def dig (n : Nat) : UInt8:=digs.getD n 0
end Go.Proofs.YtdfjlmfnkhhnjaaGreatDoorH.Sha
namespace Go.Proofs.YtdfjlmfnkhhnjaaGreatDoorH
section
open Go.RowKit
theorem bv_lt (x : BitVec 32) : x.toNat < 4294967296:=x.isLt
theorem xo_bv (x y : BitVec 32) : bits BinOp.xor IntKind.u32 (x.toNat : Int) (y.toNat : Int) = ((Sha.xo x y).toNat : Int):=by
 rw [u32_xor_nat _ _ (bv_lt x) (bv_lt y)]; unfold Sha.xo; rw [BitVec.toNat_xor]
theorem an_bv (x y : BitVec 32) : bits BinOp.and IntKind.u32 (x.toNat : Int) (y.toNat : Int) = ((Sha.an x y).toNat : Int):=by
 rw [u32_and_nat _ _ (bv_lt x) (bv_lt y)]; unfold Sha.an; rw [BitVec.toNat_and]
theorem no_bv (x : BitVec 32) : bits BinOp.xor IntKind.u32 IntKind.u32.max (x.toNat : Int) = ((Sha.no x).toNat : Int):=by
 have e : (Sha.no x : BitVec 32) = BitVec.allOnes 32 ^^^ x:=by
  apply BitVec.eq_of_getLsbD_eq; intro i hi; unfold Sha.no; rw [BitVec.getLsbD_xor,BitVec.getLsbD_allOnes,BitVec.getLsbD_not,decide_eq_true hi,Bool.true_xor,Bool.true_and]
 rw [e,BitVec.toNat_xor,← u32_xor_nat _ _ (bv_lt _) (bv_lt x)]; rfl
theorem ad_bv (x y : BitVec 32) : IntKind.u32.wrap ((x.toNat : Int) + (y.toNat : Int)) = ((Sha.ad x y).toNat : Int):=by
 rw [IntKind.wrap_u32]; unfold Sha.ad; rw [BitVec.toNat_add]; omega
theorem sr3_bv (x : BitVec 32) : (x.toNat : Int) / (8 : Int) = ((Sha.sr x 3).toNat : Int):=by
 unfold Sha.sr; rw [BitVec.toNat_ushiftRight,Nat.shiftRight_eq_div_pow]; rfl
theorem sr10_bv (x : BitVec 32) : (x.toNat : Int) / (1024 : Int) = ((Sha.sr x 10).toNat : Int):=by
 unfold Sha.sr; rw [BitVec.toNat_ushiftRight,Nat.shiftRight_eq_div_pow]; rfl
theorem mask_neg (n : Nat) (h0 : 0 < n) (h : n < 32) : bits BinOp.and IntKind.u64 (IntKind.u64.wrap (-(n : Int))) 31 = ((32 - n : Nat) : Int):=by
 have e : IntKind.u64.wrap (-(n : Int)) = ((18446744073709551616 - n : Nat) : Int):=by
  rw [IntKind.wrap_u64]; omega
 rw [e,show (31 : Int) = ((31 : Nat) : Int) from rfl,u64_and_nat _ _ (by omega) (by decide)]
 have : (18446744073709551616 - n) &&& 31 = (18446744073709551616 - n) % 32:=Nat.and_two_pow_sub_one_eq_mod _ 5
 rw [this]
 congr 1
 omega
theorem rr_bv (x : BitVec 32) (k n : Nat) (hn : n ≤ 32) (hk : k = 32 - n) : bits BinOp.or IntKind.u32 ((x.toNat : Int) * 2 ^ k % 4294967296) ((x.toNat : Int) / 2 ^ n) = ((Sha.rr x n).toNat : Int):=by
 subst hk
 have e1 : ((x.toNat : Int) * 2 ^ (32 - n) % 4294967296) = ((x.toNat * 2 ^ (32 - n) % 4294967296 : Nat) : Int):=by rw [Int.natCast_emod,Int.natCast_mul,Int.natCast_pow]; rfl
 have e2 : ((x.toNat : Int) / 2 ^ n) = ((x.toNat / 2 ^ n : Nat) : Int):=by push_cast; rfl
 have l:=bv_lt x
 rw [e1,e2,u32_or_nat _ _ (Nat.mod_lt _ (by decide)) (Nat.lt_of_le_of_lt (Nat.div_le_self _ _) l)]
 unfold Sha.rr
 rw [BitVec.toNat_or,BitVec.toNat_shiftLeft,BitVec.toNat_ushiftRight,Nat.shiftLeft_eq,Nat.shiftRight_eq_div_pow]
set_option maxHeartbeats 400000 in
theorem rot (x : BitVec 32) (n : Nat) (h0 : 0 < n) (h : n < 32) (w : World) :
  Calls Tryz.prog 170 #[.int .u32 (x.toNat : Int),.int .i64 (n : Int)] w fun e w' => e = .returned (.int .u32 ((Sha.rr x n).toNat : Int)) ∧ w' = w:=by
 have hm:=mask_neg n h0 h
 obtain ⟨k,hk⟩ : ∃ k,k = 32 - n:=⟨_,rfl⟩
 rw [← hk] at hm
 have HK : Hid (k = 32 - n):=hk
 have h32 : k < 32:=by omega
 have HN : Hid (32 - k = n):=by show 32 - k = n; omega
 clear hk
 have hw : IntKind.u64.wrap (32 - (k : Int)) = ((32 - k : Nat) : Int):=by rw [IntKind.wrap_u64]; omega
 go_enter Tryz.func170,Tryz.ntmps170
 go_wp2
 go_ret
 refine ⟨?_,rfl⟩
 have e:=rr_bv x k n (by omega) HK.out
 rw [HN.out]
 exact congrArg (fun z => Ending.returned (.int .u32 z)) e
end
section
open Go.RowKit
theorem rotI (x : BitVec 32) (i : Int) (h0 : 0 < i) (h : i < 32) (w : World) :
  Calls Tryz.prog 170 #[.int .u32 (x.toNat : Int),.int .i64 i] w fun e w' => e = .returned (.int .u32 ((Sha.rr x i.toNat).toNat : Int)) ∧ w' = w:=by
 obtain ⟨n,rfl⟩ : ∃ n : Nat,i = (n : Int):=⟨i.toNat,by omega⟩
 exact rot x n (by omega) (by omega) w
def words8 (s : Sha.S8) : Array Value:=#[.int .u32 (s.a.toNat : Int),.int .u32 (s.b.toNat : Int),.int .u32 (s.c.toNat : Int),.int .u32 (s.d.toNat : Int),.int .u32 (s.e.toNat : Int),.int .u32 (s.f.toNat : Int),.int .u32 (s.g.toNat : Int),.int .u32 (s.h.toNat : Int)]
def zero8 : Array Value:=#[.int .u32 0,.int .u32 0,.int .u32 0,.int .u32 0,.int .u32 0,.int .u32 0,.int .u32 0,.int .u32 0]
def words64 (f : Nat → BitVec 32) : Array Value:=(Array.range 64).map fun j => .int .u32 ((f j).toNat : Int)
theorem words64_get (f : Nat → BitVec 32) (k : Nat) (h : k < 64) : (words64 f)[k]? = some (.int .u32 ((f k).toNat : Int)):=by
 simp [words64,h]
def KIn (w : World) : Prop := ∀ t,t < 64 → w.cell? ⟨0,t,none⟩ = some (.int .u32 ((Sha.kt t).toNat : Int))
theorem KIn.lt {w : World} (h : KIn w) : 0 < w.heap.size:=block_lt_of_cell (h 0 (by decide))
theorem KIn.below {B : Nat} {w w' : World} (h : KIn w) (b : Below B w w') (hB : 0 < B) : KIn w':=fun t ht => by
 rw [b.cell (p:=⟨0,t,none⟩) hB]; exact h t ht
theorem no_bv' (x : BitVec 32) : bits BinOp.xor IntKind.u32 (if IntKind.u32.signed = true then -1 else IntKind.u32.max) (x.toNat : Int) = ((Sha.no x).toNat : Int):=no_bv x
def mx (k j : Nat) (a b : BitVec 32) : BitVec 32:=if j < k then Sha.ad a b else a
def mix (s r : Sha.S8) (k : Nat) : Array Value:=#[.int .u32 ((mx k 0 s.a r.a).toNat : Int),.int .u32 ((mx k 1 s.b r.b).toNat : Int),.int .u32 ((mx k 2 s.c r.c).toNat : Int),.int .u32 ((mx k 3 s.d r.d).toNat : Int),.int .u32 ((mx k 4 s.e r.e).toNat : Int),.int .u32 ((mx k 5 s.f r.f).toNat : Int),.int .u32 ((mx k 6 s.g r.g).toNat : Int),.int .u32 ((mx k 7 s.h r.h).toNat : Int)]
theorem info49 : (Tryz.prog.info? 167).map (·.size) = some 8:=by kernel_rfl
theorem cell_set (wr : World) (g j : Nat) (cs : Array Value) (t : TypeId) (v : Value) (h : wr.heap[g]? = some (.cells cs t (0,0))) : (wr.setCell ⟨g,j,none⟩ v).heap[g]? = some (.cells (cs.setIfInBounds j v) t (0,0)) :=
 heap_setCell_same wr g j cs t v h
theorem mix_get (s r : Sha.S8) : ∀ k,k < 8 → (mix s r k)[k]? = some (.int .u32 ((Sha.word s k).toNat : Int))
 | 0,_ | 1,_ | 2,_ | 3,_ | 4,_ | 5,_ | 6,_ | 7,_ => rfl
 | k + 8,h => by omega
theorem words8_get (r : Sha.S8) : ∀ k,k < 8 → (words8 r)[k]? = some (.int .u32 ((Sha.word r k).toNat : Int))
 | 0,_ | 1,_ | 2,_ | 3,_ | 4,_ | 5,_ | 6,_ | 7,_ => rfl
 | k + 8,h => by omega
theorem mix_succ (s r : Sha.S8) : ∀ k,k < 8 → (mix s r k).setIfInBounds k (.int .u32 ((Sha.ad (Sha.word s k) (Sha.word r k)).toNat : Int)) = mix s r (k + 1)
 | 0,_ | 1,_ | 2,_ | 3,_ | 4,_ | 5,_ | 6,_ | 7,_ => rfl
 | k + 8,h => by omega
theorem idx49 (cs : Array Value) (k : Nat) (h : k < 8) (q : Int) (hv : cs[k]? = some (.int .u32 q)) (w : World) : (Instr.index 167 (.agg cs) (.int .i64 (k : Int))).run Tryz.prog w = .ok (.int .u32 q) w:=by
 have h2 : (k : Int) < 8:=by omega
 have h3 : k < cs.size:=by
  rcases Nat.lt_or_ge k cs.size with h | h
  ·exact h
  ·rw [Array.getElem?_eq_none h] at hv; exact absurd hv (by simp)
 rw [Array.getElem?_eq_getElem h3] at hv
 have h4:=Option.some.inj hv
 simp [Instr.index,Tryz.underlying167,go_sem,h2,h3,h,h4]
end
section
open Go.RowKit
def TW (w : World) (s : Sha.S8) (f : Nat → BitVec 32) (wr : World) : Prop :=
 Below w.heap.size w wr ∧ wr.heap[w.heap.size]? = some (.cells (words8 s) 167 (0,0)) ∧ wr.heap[w.heap.size + 1]? = some (.cells (words64 f) 172 (0,0)) ∧ wr.heap[w.heap.size + 1 + 1]? = some (.cells zero8 167 (0,0))
attribute [local go_sem] xo_bv an_bv no_bv' ad_bv
set_option maxHeartbeats 400000 in
theorem turned_any (s : Sha.S8) (f : Nat → BitVec 32) (w : World) (hK : KIn w) :
  Calls Tryz.prog 136 #[.agg (words8 s),.agg (words64 f)] w fun e w' => e = .returned (.agg (words8 (Sha.comp s f))) ∧ Below w.heap.size w w':=by
 go_enter Tryz.func136,Tryz.ntmps136
 go_wp2_with fail
 have hT : TW w s f (((w.alloc (Obj.cells (words8 s) 167)).alloc (Obj.cells (words64 f) 172)).alloc (Obj.cells zero8 167)):=by
  refine ⟨(((Below.refl _ _).alloc (Nat.le_refl _) _).alloc (by simp) _).alloc (by simp; omega) _,?_,?_,?_⟩
  ·rw [heap_alloc_old _ _ (by simp; omega),heap_alloc_old _ _ (by simp),heap_alloc_new]
  ·rw [heap_alloc_old _ _ (by simp),heap_alloc2_new]
  ·have:=heap_alloc_new ((w.alloc (Obj.cells (words8 s) 167)).alloc (Obj.cells (words64 f) 172)) (Obj.cells zero8 167)
   simpa using this
 unfold zero8 at hT
 generalize hB : w.heap.size = B at *
 generalize (((w.alloc (Obj.cells (words8 s) 167)).alloc (Obj.cells (words64 f) 172)).alloc _) = W at *
 have hc : ∀ (wr : World),TW w s f wr → (wr.cell? ⟨B,0,none⟩ = some (.int .u32 (s.a.toNat : Int)) ∧ wr.cell? ⟨B,1,none⟩ = some (.int .u32 (s.b.toNat : Int)) ∧ wr.cell? ⟨B,2,none⟩ = some (.int .u32 (s.c.toNat : Int)) ∧ wr.cell? ⟨B,3,none⟩ = some (.int .u32 (s.d.toNat : Int))) ∧ wr.cell? ⟨B,4,none⟩ = some (.int .u32 (s.e.toNat : Int)) ∧ wr.cell? ⟨B,5,none⟩ = some (.int .u32 (s.f.toNat : Int)) ∧ wr.cell? ⟨B,6,none⟩ = some (.int .u32 (s.g.toNat : Int)) ∧ wr.cell? ⟨B,7,none⟩ = some (.int .u32 (s.h.toNat : Int)):=by
  intro wr h
  have h2:=h.2.1
  rw [hB] at h2
  refine ⟨⟨?_,?_,?_,?_⟩,?_,?_,?_,?_⟩ <;> rw [cell_of_row _ _ _ _ _ _ h2] <;> rfl
 obtain ⟨⟨c0,c1,c2,c3⟩,c4,c5,c6,c7⟩:=hc W hT
 clear hc
 go_quiet (fail)
 go_wp2_with fail
 clear c0 c1 c2 c3 c4 c5 c6 c7
 have hT' : TW w s f (W.drewN nq):=⟨⟨hT.1.os,hT.1.tape,hT.1.output,hT.1.size,hT.1.block⟩,hT.2⟩
 clear hT
 generalize W.drewN nq = W at *
 go_loopw [5,6,7,8,9,10,11,12,34] (fun a b c d e f' g h i wr => ∃ k : Nat,k ≤ 64 ∧ i = .int .i64 k ∧ TW w s f wr ∧ a = .int .u32 ((Sha.rounds f s k).a.toNat : Int) ∧ b = .int .u32 ((Sha.rounds f s k).b.toNat : Int) ∧ c = .int .u32 ((Sha.rounds f s k).c.toNat : Int) ∧ d = .int .u32 ((Sha.rounds f s k).d.toNat : Int) ∧ e = .int .u32 ((Sha.rounds f s k).e.toNat : Int) ∧ f' = .int .u32 ((Sha.rounds f s k).f.toNat : Int) ∧ g = .int .u32 ((Sha.rounds f s k).g.toNat : Int) ∧ h = .int .u32 ((Sha.rounds f s k).h.toNat : Int)) (fun _ _ _ _ _ _ _ _ i _ => 64 - (intOf i).toNat)
 case atStart => exact ⟨0,by omega,rfl,hT',rfl,rfl,rfl,rfl,rfl,rfl,rfl,rfl⟩
 case round =>
  obtain ⟨k,hk,rfl,hT,rfl,rfl,rfl,rfl,rfl,rfl,rfl,rfl⟩:=hrel
  by_cases hlt : k < 64
  ·have hd : decide ((k : Int) < 64) = true:=by simp; omega
   have ck : wr.cell? ⟨0,k,none⟩ = some (.int .u32 ((Sha.kt k).toNat : Int)):=(hK.below hT.1 hK.lt) k hlt
   have cw : wr.cell? ⟨B + 1,k,none⟩ = some (.int .u32 ((f k).toNat : Int)):=by
    have h3:=hT.2.2.1
    rw [hB] at h3
    rw [cell_of_row _ _ _ _ _ _ h3,words64_get f k hlt]
   generalize hr : Sha.rounds f s k = r at *
   have HR : Hid (Sha.rounds f s (k + 1) = Sha.rnd r (Sha.kt k) (f k)):=by show Sha.rounds f s (k+1) = _; rw [Sha.rounds,hr]
   have i0 : (0 : Int) ≤ (k : Int):=by omega
   have i1 : (k : Int) < 64:=by omega
   clear hr
   go_wp2_with fail
   go_quiet ((go_at_call 170; exact Calls.quiet_of_same (rotI _ _ (by decide) (by decide) _)))
   go_wp2_with (go_at_call 170; refine (rotI _ _ (by decide) (by decide) _).mono ?_; rintro e w' ⟨rfl,rfl⟩)
   go_round
   case rel =>
    refine ⟨k + 1,by omega,by go_num,⟨⟨hT.1.os,hT.1.tape,hT.1.output,hT.1.size,hT.1.block⟩,hT.2⟩,?_⟩
    rw [HR.out]
    exact ⟨rfl,rfl,rfl,rfl,rfl,rfl,rfl,rfl⟩
   case measure => simp [intOf]; omega
  ·obtain rfl : k = 64:=by omega
   go_wp2_with fail
   have hb:=hT.1
   have h2 : wr.heap[B]? = some (.cells (mix s (Sha.rounds f s 64) 0) 167 (0,0)):=by rw [← hB]; exact hT.2.1
   have h4 : wr.heap[B + 1 + 1]? = some (.cells zero8 167 (0,0)):=by rw [← hB]; exact hT.2.2.2
   have HC : Hid (Sha.comp s f = Sha.plus s (Sha.rounds f s 64)):=rfl
   clear hT hT' hK
   generalize Sha.rounds f s 64 = r at *
   go_loopw [106] (fun i wr => ∃ k : Nat,k ≤ 8 ∧ i = .int .i64 k ∧ Below w.heap.size w wr ∧ wr.heap[B]? = some (.cells (mix s r k) 167 (0,0)) ∧ wr.heap[B + 1 + 1]? = some (.cells zero8 167 (0,0))) (fun i _ => 8 - (intOf i).toNat)
   case atStart => exact ⟨0,by omega,rfl,hb,h2,h4⟩
   case round =>
    clear hb h2 h4
    obtain ⟨k,hk,rfl,hb,h2,h4⟩:=hrel
    by_cases hlt : k < 8
    ·have c0 : wr.cell? ⟨B,k,none⟩ = some (.int .u32 ((Sha.word s k).toNat : Int)):=by rw [cell_of_row _ _ _ _ _ _ h2,mix_get s r k hlt]
     have f0 : wr.frozen? ⟨B,k,none⟩ = false:=frozen_of_row _ _ _ _ _ h2
     have i0 : (0 : Int) ≤ (k : Int):=by omega
     have i1 : (k : Int) < 8:=by omega
     have hd : decide ((k : Int) < 8) = true:=by simp; omega
     have hx : ∀ w,(Instr.index 167 (.agg #[.int .u32 (r.a.toNat : Int),.int .u32 (r.b.toNat : Int),.int .u32 (r.c.toNat : Int),.int .u32 (r.d.toNat : Int),.int .u32 (r.e.toNat : Int),.int .u32 (r.f.toNat : Int),.int .u32 (r.g.toNat : Int),.int .u32 (r.h.toNat : Int)]) (.int .i64 (k : Int))).run Tryz.prog w = .ok (.int .u32 ((Sha.word r k).toNat : Int)) w:=fun w => idx49 _ k hlt _ (words8_get r k hlt) w
     have HM : Hid _:=mix_succ s r k hlt
     go_wp2_with fail
     go_round
     case rel => 
      refine ⟨k + 1,by omega,by go_num,hb.setCell (by show w.heap.size ≤ B; omega) _,?_,?_⟩
      ·rw [cell_set _ _ _ _ _ _ h2,HM.out]
      ·rw [Below.heap_setCell _ _ _ _ (by show B + 1 + 1 ≠ B; omega),h4]
     case measure => simp [intOf]; omega
    ·obtain rfl : k = 8:=by omega
     have e8 : Hid (mix s r 8 = words8 (Sha.comp s f)):=by show _ = _; rw [HC.out]; rfl
     have hd : decide ((8 : Int) < 8) = false:=by decide
     generalize mix s r 8 = A at *
     have hs : A.size = 8:=by rw [e8.out]; rfl
     have h1 : A.all (·.oneCell') = true:=by rw [e8.out]; simp [words8,Value.oneCell']
     have hi : (Tryz.prog.info? 167).map (·.size) = some A.size:=by rw [hs]; exact info49
     have hz : zero8.size = A.size:=hs.symm
     go_wp2_with (first
      | (refine wpList_load_row rfl 167 _ rfl _ rfl 167 _ (0,0) _ h2 Tryz.underlying167 rfl hi ?_)
      | (refine wpList_store_row rfl 167 _ _ rfl _ _ rfl rfl 167 _ h4 hi hz h1 ?_))
     refine bodyPost_ret (v := .agg A) (results_cell_row Tryz.results136 _ _ (B + 1 + 1) 167 A (0,0) _ rfl (setRow_heap _ _ _ _ _ _ h4) Tryz.underlying167 rfl hi) rfl ⟨by rw [e8.out],below_setRow hb (by omega) _⟩
end
section
open Go.RowKit
def bytes64 (f : Nat → UInt8) : Array Value:=(Array.range 64).map fun j => .int .u8 ((f j).toNat : Int)
theorem bytes64_get (f : Nat → UInt8) (k : Nat) (h : k < 64) : (bytes64 f)[k]? = some (.int .u8 ((f k).toNat : Int)):=by
 simp [bytes64,h]
def pw (f : Nat → UInt8) (k : Nat) : Array Value:=(Array.range 64).map fun j => .int .u32 (((if j < k then Sha.wt f j else 0#32) : BitVec 32).toNat : Int)
theorem pw_0 (f : Nat → UInt8) : pw f 0 = Array.replicate 64 (.int .u32 0):=by
 unfold pw
 simp only [Nat.not_lt_zero,if_false]
 apply Array.ext
 ·simp
 ·intro i h1 h2; simp
theorem pw_lit (f : Nat → UInt8) : pw f 0 = #[.int .u32 0,.int .u32 0,.int .u32 0,.int .u32 0,.int .u32 0,.int .u32 0,.int .u32 0,.int .u32 0,.int .u32 0,.int .u32 0,.int .u32 0,.int .u32 0,.int .u32 0,.int .u32 0,.int .u32 0,.int .u32 0,.int .u32 0,.int .u32 0,.int .u32 0,.int .u32 0,.int .u32 0,.int .u32 0,.int .u32 0,.int .u32 0,.int .u32 0,.int .u32 0,.int .u32 0,.int .u32 0,.int .u32 0,.int .u32 0,.int .u32 0,.int .u32 0,.int .u32 0,.int .u32 0,.int .u32 0,.int .u32 0,.int .u32 0,.int .u32 0,.int .u32 0,.int .u32 0,.int .u32 0,.int .u32 0,.int .u32 0,.int .u32 0,.int .u32 0,.int .u32 0,.int .u32 0,.int .u32 0,.int .u32 0,.int .u32 0,.int .u32 0,.int .u32 0,.int .u32 0,.int .u32 0,.int .u32 0,.int .u32 0,.int .u32 0,.int .u32 0,.int .u32 0,.int .u32 0,.int .u32 0,.int .u32 0,.int .u32 0,.int .u32 0]:=by
 rw [pw_0]; rfl
theorem pw_size (f : Nat → UInt8) (k : Nat) : (pw f k).size = 64:=by simp [pw]
theorem pw_get (f : Nat → UInt8) (k j : Nat) (h : j < k) (hj : j < 64) : (pw f k)[j]? = some (.int .u32 ((Sha.wt f j).toNat : Int)):=by
 simp [pw,hj,h]
theorem pw_set (f : Nat → UInt8) (k : Nat) (h : k < 64) : (pw f k).setIfInBounds k (.int .u32 ((Sha.wt f k).toNat : Int)) = pw f (k + 1):=by
 apply Array.ext
 ·rw [Array.size_setIfInBounds,pw_size,pw_size]
 ·intro i h1 h2
  have hi : i < (pw f k).size:=by rw [pw_size] at *; exact h2
  rw [Array.getElem_setIfInBounds hi]
  simp only [pw,Array.getElem_map,Array.getElem_range]
  by_cases e : k = i
  ·subst e; simp
  ·rw [if_neg e]
   by_cases e2 : i < k
   ·rw [if_pos e2,if_pos (by omega)]
   ·rw [if_neg e2,if_neg (by omega)]
theorem pw_one (f : Nat → UInt8) (k : Nat) : (pw f k).all (·.oneCell') = true:=by
 rw [Array.all_eq_true]; intro i h; simp only [pw,Array.getElem_map]; rfl
theorem pw_all (f : Nat → UInt8) : pw f 64 = words64 (Sha.wt f):=by
 apply Array.ext
 ·simp [pw,words64]
 ·intro i h1 h2
  have : i < 64:=by rw [pw_size] at h1; exact h1
  simp [pw,words64,this]
def SW (w : World) (f : Nat → UInt8) (k : Nat) (wr : World) : Prop :=
 Below w.heap.size w wr ∧ wr.heap[w.heap.size]? = some (.cells (bytes64 f) 168 (0,0)) ∧ wr.heap[w.heap.size + 1]? = some (.cells (pw f 0) 172 (0,0)) ∧ wr.heap[w.heap.size + 1 + 1]? = some (.cells (pw f k) 172 (0,0))
theorem keep_far {w : World} {B C j k : Nat} {u v : Value} (h : B ≠ C) (hc : w.cell? ⟨B,j,none⟩ = some v) : (w.setCell ⟨C,k,none⟩ u).drew.cell? ⟨B,j,none⟩ = some v:=by
 show (w.setCell ⟨C,k,none⟩ u).cell? ⟨B,j,none⟩ = some v
 rw [World.cell?_setCell_other _ _ _ _ (by intro q; injection q; omega)]; exact hc
theorem keep_cell {w : World} {C j k : Nat} {u v : Value} (h : j ≠ k) (hc : w.cell? ⟨C,j,none⟩ = some v) : (w.setCell ⟨C,k,none⟩ u).drew.cell? ⟨C,j,none⟩ = some v:=by
 show (w.setCell ⟨C,k,none⟩ u).cell? ⟨C,j,none⟩ = some v
 rw [World.cell?_setCell_other _ _ _ _ (by intro q; injection q; omega)]; exact hc
theorem or_disj (a b i : Nat) (hb : b < 2 ^ i) : 2 ^ i * a ||| b = 2 ^ i * a + b:=(Nat.two_pow_add_eq_or_of_lt hb a).symm
theorem be_bv (a b c d : UInt8) : bits BinOp.or IntKind.u32 (bits BinOp.or IntKind.u32 (bits BinOp.or IntKind.u32 (IntKind.u32.wrap (IntKind.u32.wrap (a.toNat : Int) * 16777216)) (IntKind.u32.wrap (IntKind.u32.wrap (b.toNat : Int) * 65536))) (IntKind.u32.wrap (IntKind.u32.wrap (c.toNat : Int) * 256))) (IntKind.u32.wrap (d.toNat : Int)) = ((Sha.be a b c d).toNat : Int):=by
 have ha : a.toNat < 256:=a.toNat_lt
 have hb : b.toNat < 256:=b.toNat_lt
 have hc : c.toNat < 256:=c.toNat_lt
 have hd : d.toNat < 256:=d.toNat_lt
 unfold Sha.be
 rw [BitVec.toNat_ofNat]
 generalize a.toNat = a at *
 generalize b.toNat = b at *
 generalize c.toNat = c at *
 generalize d.toNat = d at *
 have e1 : IntKind.u32.wrap (IntKind.u32.wrap (a : Int) * 16777216) = ((a * 16777216 : Nat) : Int):=by rw [IntKind.wrap_u32,IntKind.wrap_u32]; omega
 have e2 : IntKind.u32.wrap (IntKind.u32.wrap (b : Int) * 65536) = ((b * 65536 : Nat) : Int):=by rw [IntKind.wrap_u32,IntKind.wrap_u32]; omega
 have e3 : IntKind.u32.wrap (IntKind.u32.wrap (c : Int) * 256) = ((c * 256 : Nat) : Int):=by rw [IntKind.wrap_u32,IntKind.wrap_u32]; omega
 have e4 : IntKind.u32.wrap (d : Int) = ((d : Nat) : Int):=by rw [IntKind.wrap_u32]; omega
 have o1 : a * 16777216 ||| b * 65536 = a * 16777216 + b * 65536:=by
  have:=or_disj a (b * 65536) 24 (by omega)
  rw [show 2 ^ 24 * a = a * 16777216 from Nat.mul_comm _ _] at this; exact this
 have o2 : (a * 16777216 + b * 65536) ||| c * 256 = a * 16777216 + b * 65536 + c * 256:=by
  have:=or_disj (a * 256 + b) (c * 256) 16 (by omega)
  rw [show 2 ^ 16 * (a * 256 + b) = a * 16777216 + b * 65536 by omega] at this; exact this
 have o3 : (a * 16777216 + b * 65536 + c * 256) ||| d = a * 16777216 + b * 65536 + c * 256 + d:=by
  have:=or_disj (a * 65536 + b * 256 + c) d 8 (by omega)
  rw [show 2 ^ 8 * (a * 65536 + b * 256 + c) = a * 16777216 + b * 65536 + c * 256 by omega] at this; exact this
 rw [e1,e2,e3,e4,u32_or_nat _ _ (by omega) (by omega),o1,u32_or_nat _ _ (by omega) (by omega),o2,u32_or_nat _ _ (by omega) (by omega),o3]
 omega
theorem be_bv' (a b c d : UInt8) : bits BinOp.or IntKind.u32 (bits BinOp.or IntKind.u32 (bits BinOp.or IntKind.u32 ((a.toNat : Int) % 4294967296 * 16777216 % 4294967296) ((b.toNat : Int) % 4294967296 * 65536 % 4294967296)) ((c.toNat : Int) % 4294967296 * 256 % 4294967296)) ((d.toNat : Int) % 4294967296) = ((Sha.be a b c d).toNat : Int):=by
 have:=be_bv a b c d
 simp only [IntKind.wrap_u32] at this
 exact this
theorem SW.set {w : World} {f : Nat → UInt8} {k : Nat} {wr : World} (h : SW w f k wr) (hk : k < 64) {B : Nat} (hB : w.heap.size = B) {q : Int} (hq : q = ((Sha.wt f k).toNat : Int)) : SW w f (k + 1) ((wr.setCell ⟨B + 1 + 1,k,none⟩ (.int .u32 q)).drew):=by
 subst hB hq
 obtain ⟨a,b,c,d⟩:=h
 refine ⟨(a.setCell (by show w.heap.size ≤ w.heap.size + 1 + 1; omega) _).drew,?_,?_,?_⟩
 ·rw [heap_drew,Below.heap_setCell _ _ _ _ (by show w.heap.size ≠ w.heap.size + 1 + 1; omega),b]
 ·rw [heap_drew,Below.heap_setCell _ _ _ _ (by show w.heap.size + 1 ≠ w.heap.size + 1 + 1; omega),c]
 ·rw [heap_drew,cell_set _ _ _ _ _ _ d,pw_set f k hk]
theorem SW.drawn {w : World} {f : Nat → UInt8} {k : Nat} {wr : World} (h : SW w f k wr) (n : Nat) : SW w f k (wr.drewN n):=⟨⟨h.1.os,h.1.tape,h.1.output,h.1.size,h.1.block⟩,h.2⟩
theorem info54 : (Tryz.prog.info? 172).map (·.size) = some 64:=by kernel_rfl
attribute [local go_sem] xo_bv ad_bv sr3_bv sr10_bv
attribute [local go_sem ↓] Go.wp_at_zero Go.wp_at_succ
set_option maxHeartbeats 400000 in
theorem spread_any (f : Nat → UInt8) (w : World) :
  Calls Tryz.prog 137 #[.agg (bytes64 f)] w fun e w' => e = .returned (.agg (words64 (Sha.wt f))) ∧ Below w.heap.size w w':=by
 go_enter Tryz.func137,Tryz.ntmps137
 go_wp2_with fail
 rw [← pw_lit f]
 have hT : SW w f 0 (((w.alloc (Obj.cells (bytes64 f) 168)).alloc (Obj.cells (pw f 0) 172)).alloc (Obj.cells (pw f 0) 172)):=by
  refine ⟨(((Below.refl _ _).alloc (Nat.le_refl _) _).alloc (by simp) _).alloc (by simp; omega) _,?_,?_,?_⟩
  ·rw [heap_alloc_old _ _ (by simp; omega),heap_alloc_old _ _ (by simp),heap_alloc_new]
  ·rw [heap_alloc_old _ _ (by simp),heap_alloc2_new]
  ·have:=heap_alloc_new ((w.alloc (Obj.cells (bytes64 f) 168)).alloc (Obj.cells (pw f 0) 172)) (Obj.cells (pw f 0) 172)
   simpa using this
 generalize hB : w.heap.size = B at *
 generalize (((w.alloc (Obj.cells (bytes64 f) 168)).alloc (Obj.cells (pw f 0) 172)).alloc (Obj.cells (pw f 0) 172)) = W at *
 go_loopw [10] (fun i wr => ∃ k : Nat,k ≤ 16 ∧ i = .int .i64 k ∧ SW w f k wr) (fun i _ => 16 - (intOf i).toNat)
 case atStart => exact ⟨0,by omega,rfl,hT⟩
 case round =>
  clear hT
  obtain ⟨k,hk,rfl,hT⟩:=hrel
  by_cases hlt : k < 16
  ·have h2 : wr.heap[B]? = some (.cells (bytes64 f) 168 (0,0)):=by rw [← hB]; exact hT.2.1
   have h4 : wr.heap[B + 1 + 1]? = some (.cells (pw f k) 172 (0,0)):=by rw [← hB]; exact hT.2.2.2
   have hd : decide ((k : Int) < 16) = true:=by simp; omega
   have i0 : (0 : Int) ≤ (k : Int):=by omega
   have i1 : (k : Int) < 64:=by omega
   have gc : ∀ j,j < 64 → wr.cell? ⟨B,j,none⟩ = some (.int .u8 ((f j).toNat : Int)):=fun j hj => by rw [cell_of_row _ _ _ _ _ _ h2,bytes64_get f j hj]
   obtain ⟨p,hp,hp64,g0,w0⟩ : ∃ p,p = 4 * k ∧ (p : Int) < 64 ∧ wr.cell? ⟨B,p,none⟩ = some (.int .u8 ((f p).toNat : Int)) ∧ IntKind.i64.wrap (4 * (k : Int)) = (p : Int):=⟨4 * k,rfl,by omega,gc _ (by omega),by rw [IntKind.wrap_i64]; omega⟩
   obtain ⟨p1,hp1,hp164,g1,w1⟩ : ∃ p1,p1 = 4 * k + 1 ∧ (p1 : Int) < 64 ∧ wr.cell? ⟨B,p1,none⟩ = some (.int .u8 ((f p1).toNat : Int)) ∧ IntKind.i64.wrap ((p : Int) + 1) = (p1 : Int):=⟨4 * k + 1,rfl,by omega,gc _ (by omega),by rw [IntKind.wrap_i64]; omega⟩
   obtain ⟨p2,hp2,hp264,g2,w2⟩ : ∃ p1,p1 = 4 * k + 2 ∧ (p1 : Int) < 64 ∧ wr.cell? ⟨B,p1,none⟩ = some (.int .u8 ((f p1).toNat : Int)) ∧ IntKind.i64.wrap ((p : Int) + 2) = (p1 : Int):=⟨4 * k + 2,rfl,by omega,gc _ (by omega),by rw [IntKind.wrap_i64]; omega⟩
   obtain ⟨p3,hp3,hp364,g3,w3⟩ : ∃ p1,p1 = 4 * k + 3 ∧ (p1 : Int) < 64 ∧ wr.cell? ⟨B,p1,none⟩ = some (.int .u8 ((f p1).toNat : Int)) ∧ IntKind.i64.wrap ((p : Int) + 3) = (p1 : Int):=⟨4 * k + 3,rfl,by omega,gc _ (by omega),by rw [IntKind.wrap_i64]; omega⟩
   have HW : Hid (Sha.wt f k = Sha.be (f p) (f p1) (f p2) (f p3)):=by show _ = _; rw [Sha.wt_first f k hlt,hp,hp1,hp2,hp3]; rfl
   clear hp hp1 hp2 hp3
   have q0 : (0 : Int) ≤ (p : Int):=by omega
   have q1 : (0 : Int) ≤ (p1 : Int):=by omega
   have q2 : (0 : Int) ≤ (p2 : Int):=by omega
   have q3 : (0 : Int) ≤ (p3 : Int):=by omega
   have gs : ∃ v,wr.cell? ⟨B + 1 + 1,k,none⟩ = some v:=⟨_,by rw [cell_of_row _ _ _ _ _ _ h4]; exact Array.getElem?_eq_getElem (by rw [pw_size]; omega)⟩
   obtain ⟨v0,g4⟩:=gs
   have g5 : wr.frozen? ⟨B + 1 + 1,k,none⟩ = false:=frozen_of_row _ _ _ _ _ h4
   clear gc
   go_wp2_with fail
   go_region_held3 (fun w' => w'.cell? ⟨B,p,none⟩ = some (.int .u8 ((f p).toNat : Int)) ∧ w'.cell? ⟨B,p1,none⟩ = some (.int .u8 ((f p1).toNat : Int)) ∧ w'.cell? ⟨B,p2,none⟩ = some (.int .u8 ((f p2).toNat : Int)) ∧ w'.cell? ⟨B,p3,none⟩ = some (.int .u8 ((f p3).toNat : Int))) (first | (go_keep; done) | exact ⟨keep_far (by omega) g0,keep_far (by omega) g1,keep_far (by omega) g2,keep_far (by omega) g3⟩) (fail)
   go_wp2_with fail
   go_round
   case rel => exact ⟨k + 1,by omega,by go_num,hT.set (by omega) hB (by rw [be_bv',HW.out])⟩
   case measure => simp [intOf]; omega
  ·obtain rfl : k = 16:=by omega
   go_wp2_with fail
   go_loopw [5] (fun i wr => ∃ k : Nat,16 ≤ k ∧ k ≤ 64 ∧ i = .int .i64 k ∧ SW w f k wr) (fun i _ => 64 - (intOf i).toNat)
   case atStart => exact ⟨16,by omega,by omega,rfl,hT⟩
   case round =>
    clear hT
    obtain ⟨k,hk16,hk,rfl,hT⟩:=hrel
    have h4 : wr.heap[B + 1 + 1]? = some (.cells (pw f k) 172 (0,0)):=by rw [← hB]; exact hT.2.2.2
    by_cases hlt : k < 64
    ·have hd : decide ((k : Int) < 64) = true:=by simp; omega
     have i0 : (0 : Int) ≤ (k : Int):=by omega
     have i1 : (k : Int) < 64:=by omega
     have gc : ∀ j,j < k → wr.cell? ⟨B + 1 + 1,j,none⟩ = some (.int .u32 ((Sha.wt f j).toNat : Int)):=fun j hj => by rw [cell_of_row _ _ _ _ _ _ h4,pw_get f k j hj (by omega)]
     obtain ⟨p,hp,hp64,g0,w0⟩ : ∃ p,p = k - 15 ∧ (p : Int) < 64 ∧ wr.cell? ⟨B + 1 + 1,p,none⟩ = some (.int .u32 ((Sha.wt f p).toNat : Int)) ∧ IntKind.i64.wrap ((k : Int) - 15) = (p : Int):=⟨k - 15,rfl,by omega,gc _ (by omega),by rw [IntKind.wrap_i64]; omega⟩
     obtain ⟨p1,hp1,hp164,g1,w1⟩ : ∃ p,p = k - 2 ∧ (p : Int) < 64 ∧ wr.cell? ⟨B + 1 + 1,p,none⟩ = some (.int .u32 ((Sha.wt f p).toNat : Int)) ∧ IntKind.i64.wrap ((k : Int) - 2) = (p : Int):=⟨k - 2,rfl,by omega,gc _ (by omega),by rw [IntKind.wrap_i64]; omega⟩
     obtain ⟨p2,hp2,hp264,g2,w2⟩ : ∃ p,p = k - 7 ∧ (p : Int) < 64 ∧ wr.cell? ⟨B + 1 + 1,p,none⟩ = some (.int .u32 ((Sha.wt f p).toNat : Int)) ∧ IntKind.i64.wrap ((k : Int) - 7) = (p : Int):=⟨k - 7,rfl,by omega,gc _ (by omega),by rw [IntKind.wrap_i64]; omega⟩
     obtain ⟨p3,hp3,hp364,g3,w3⟩ : ∃ p,p = k - 16 ∧ (p : Int) < 64 ∧ wr.cell? ⟨B + 1 + 1,p,none⟩ = some (.int .u32 ((Sha.wt f p).toNat : Int)) ∧ IntKind.i64.wrap ((k : Int) - 16) = (p : Int):=⟨k - 16,rfl,by omega,gc _ (by omega),by rw [IntKind.wrap_i64]; omega⟩
     have HW : Hid (Sha.wt f k = Sha.ad (Sha.ad (Sha.ad (Sha.sg1 (Sha.wt f p1)) (Sha.wt f p2)) (Sha.sg0 (Sha.wt f p))) (Sha.wt f p3)):=by show _ = _; rw [Sha.wt_next f k hk16,hp,hp1,hp2,hp3]
     have n0 : Hid (p ≠ k ∧ p1 ≠ k ∧ p2 ≠ k ∧ p3 ≠ k):=by refine ⟨?_,?_,?_,?_⟩ <;> omega
     clear hp hp1 hp2 hp3 gc
     have q0 : (0 : Int) ≤ (p : Int):=by omega
     have q1 : (0 : Int) ≤ (p1 : Int):=by omega
     have q2 : (0 : Int) ≤ (p2 : Int):=by omega
     have q3 : (0 : Int) ≤ (p3 : Int):=by omega
     have gs : ∃ v,wr.cell? ⟨B + 1 + 1,k,none⟩ = some v:=⟨_,by rw [cell_of_row _ _ _ _ _ _ h4]; exact Array.getElem?_eq_getElem (by rw [pw_size]; omega)⟩
     obtain ⟨v0,g4⟩:=gs
     have g5 : wr.frozen? ⟨B + 1 + 1,k,none⟩ = false:=frozen_of_row _ _ _ _ _ h4
     go_wp2_with fail
     go_quiet (fail)
     go_wp2_with (go_at_call 170; refine (rotI _ _ (by decide) (by decide) _).mono ?_; rintro e w' ⟨rfl,rfl⟩)
     have hT':=hT.drawn nq
     have g2' : (wr.drewN nq).cell? ⟨B + 1 + 1,p2,none⟩ = some (.int .u32 ((Sha.wt f p2).toNat : Int)):=g2
     have g3' : (wr.drewN nq).cell? ⟨B + 1 + 1,p3,none⟩ = some (.int .u32 ((Sha.wt f p3).toNat : Int)):=g3
     have g4' : (wr.drewN nq).cell? ⟨B + 1 + 1,k,none⟩ = some v0:=g4
     have g5' : (wr.drewN nq).frozen? ⟨B + 1 + 1,k,none⟩ = false:=g5
     clear hT g0 g1 g2 g3 g4 g5 h4
     generalize wr.drewN nq = wr at *
     go_region_held3 (fun w' => w'.cell? ⟨B + 1 + 1,p2,none⟩ = some (.int .u32 ((Sha.wt f p2).toNat : Int)) ∧ w'.cell? ⟨B + 1 + 1,p3,none⟩ = some (.int .u32 ((Sha.wt f p3).toNat : Int))) (first | (go_keep; done) | exact ⟨keep_cell n0.out.2.2.1 g2',keep_cell n0.out.2.2.2 g3'⟩) (fail)
     go_wp2_with fail
     refine ⟨?_,?measure⟩
     ·(repeat apply Exists.intro)
      refine ⟨⟨k + 1,by omega,by omega,by go_num,hT'.set (by omega) hB ?_⟩,rfl⟩
      rw [HW.out]
      rfl
     case measure => simp [intOf]; omega
    ·obtain rfl : k = 64:=by omega
     have h3 : wr.heap[B + 1]? = some (.cells (pw f 0) 172 (0,0)):=by rw [← hB]; exact hT.2.2.1
     have hb:=hT.1
     have e8 : Hid (pw f 64 = words64 (Sha.wt f)):=pw_all f
     have hd : decide ((64 : Int) < 64) = false:=by decide
     have hs : (pw f 64).size = 64:=pw_size f 64
     have h1 : (pw f 64).all (·.oneCell') = true:=pw_one f 64
     have hz : (pw f 0).size = (pw f 64).size:=by rw [pw_size,pw_size]
     clear hT
     generalize pw f 64 = A at *
     have hi : (Tryz.prog.info? 172).map (·.size) = some A.size:=by rw [hs]; exact info54
     go_wp2_with (first
      | (refine wpList_load_row rfl 172 _ rfl _ rfl 172 _ (0,0) _ h4 Tryz.underlying172 rfl hi ?_)
      | (refine wpList_store_row rfl 172 _ _ rfl _ _ rfl rfl 172 _ h3 hi hz h1 ?_))
     refine bodyPost_ret (v := .agg A) (results_cell_row Tryz.results137 _ _ (B + 1) 172 A (0,0) _ rfl (setRow_heap _ _ _ _ _ _ h3) Tryz.underlying172 rfl hi) rfl ⟨by rw [e8.out],below_setRow hb (by omega) _⟩
end
end Go.Proofs.YtdfjlmfnkhhnjaaGreatDoorH
