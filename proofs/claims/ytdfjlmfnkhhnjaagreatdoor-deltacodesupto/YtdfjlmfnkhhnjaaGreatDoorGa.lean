import Derived.Test.YtdfjlmfnkhhnjaaGreatDoorRows
import Derived.WalkKit
import Derived.Laws.BitsAllLaws
import Derived.WalkSpells
import Derived.WalkLawsBesides
import Derived.Below
import Derived.Deep.WholeRow
import Derived.BigQuiet
import Derived.Deep.QuietTactic
import Derived.Laws.CopyOwn
/- Plain mathematics of SHA-256 over numbers of 32 bits, and of a hash's digits: own work, no part of the program's text. -/
namespace Go.Proofs.YtdfjlmfnkhhnjaaGreatDoorH.Sha
abbrev W := BitVec 32
def ad (a b : W) : W := a + b
def xo (a b : W) : W := a ^^^ b
def an (a b : W) : W := a &&& b
def no (a : W) : W := ~~~ a
def rr (x : W) (n : Nat) : W := (x <<< (32 - n)) ||| (x >>> n)
def sr (x : W) (n : Nat) : W := x >>> n
def be (a b c d : UInt8) : W := BitVec.ofNat 32 (a.toNat * 16777216 + b.toNat * 65536 + c.toNat * 256 + d.toNat)
def K : List W := [
  0x428a2f98, 0x71374491, 0xb5c0fbcf, 0xe9b5dba5, 0x3956c25b, 0x59f111f1, 0x923f82a4, 0xab1c5ed5,
  0xd807aa98, 0x12835b01, 0x243185be, 0x550c7dc3, 0x72be5d74, 0x80deb1fe, 0x9bdc06a7, 0xc19bf174,
  0xe49b69c1, 0xefbe4786, 0x0fc19dc6, 0x240ca1cc, 0x2de92c6f, 0x4a7484aa, 0x5cb0a9dc, 0x76f988da,
  0x983e5152, 0xa831c66d, 0xb00327c8, 0xbf597fc7, 0xc6e00bf3, 0xd5a79147, 0x06ca6351, 0x14292967,
  0x27b70a85, 0x2e1b2138, 0x4d2c6dfc, 0x53380d13, 0x650a7354, 0x766a0abb, 0x81c2c92e, 0x92722c85,
  0xa2bfe8a1, 0xa81a664b, 0xc24b8b70, 0xc76c51a3, 0xd192e819, 0xd6990624, 0xf40e3585, 0x106aa070,
  0x19a4c116, 0x1e376c08, 0x2748774c, 0x34b0bcb5, 0x391c0cb3, 0x4ed8aa4a, 0x5b9cca4f, 0x682e6ff3,
  0x748f82ee, 0x78a5636f, 0x84c87814, 0x8cc70208, 0x90befffa, 0xa4506ceb, 0xbef9a3f7, 0xc67178f2]
def kt (t : Nat) : W := K.getD t 0
structure S8 where
  a : W
  b : W
  c : W
  d : W
  e : W
  f : W
  g : W
  h : W
deriving DecidableEq
def iv : S8 := ⟨0x6a09e667, 0xbb67ae85, 0x3c6ef372, 0xa54ff53a, 0x510e527f, 0x9b05688c, 0x1f83d9ab, 0x5be0cd19⟩
def t1 (s : S8) (k w : W) : W := ad (ad (ad (ad s.h (xo (xo (rr s.e 6) (rr s.e 11)) (rr s.e 25))) (xo (an s.e s.f) (an (no s.e) s.g))) k) w
def t2 (s : S8) : W := ad (xo (xo (rr s.a 2) (rr s.a 13)) (rr s.a 22)) (xo (xo (an s.a s.b) (an s.a s.c)) (an s.b s.c))
def rnd (s : S8) (k w : W) : S8 := ⟨ad (t1 s k w) (t2 s), s.a, s.b, s.c, ad s.d (t1 s k w), s.e, s.f, s.g⟩
def rounds (w : Nat → W) (s : S8) : Nat → S8
  | 0 => s
  | k + 1 => rnd (rounds w s k) (kt k) (w k)
def plus (s r : S8) : S8 := ⟨ad s.a r.a, ad s.b r.b, ad s.c r.c, ad s.d r.d, ad s.e r.e, ad s.f r.f, ad s.g r.g, ad s.h r.h⟩
def comp (s : S8) (w : Nat → W) : S8 := plus s (rounds w s 64)
def sg0 (x : W) : W := xo (xo (rr x 7) (rr x 18)) (sr x 3)
def sg1 (y : W) : W := xo (xo (rr y 17) (rr y 19)) (sr y 10)
def first (f : Nat → UInt8) (t : Nat) : W := be (f (4 * t)) (f (4 * t + 1)) (f (4 * t + 2)) (f (4 * t + 3))
def sch (f : Nat → UInt8) : Nat → List W
  | 0 => []
  | t + 1 => (if t < 16 then first f t else ad (ad (ad (sg1 ((sch f t).getD 1 0)) ((sch f t).getD 6 0)) (sg0 ((sch f t).getD 14 0))) ((sch f t).getD 15 0)) :: sch f t
def wt (f : Nat → UInt8) (t : Nat) : W := (sch f (t + 1)).headD 0
theorem sch_length (f : Nat → UInt8) : ∀ t, (sch f t).length = t
  | 0 => rfl
  | t + 1 => by simp [sch, sch_length f t]
theorem sch_cons (f : Nat → UInt8) (t : Nat) : sch f (t + 1) = wt f t :: sch f t := by
  simp [wt, sch]
theorem sch_getD (f : Nat → UInt8) : ∀ t j, j < t → (sch f t).getD j 0 = wt f (t - 1 - j)
  | 0, j, h => by omega
  | t + 1, 0, _ => by rw [sch_cons]; simp
  | t + 1, j + 1, h => by
    rw [sch_cons, List.getD_cons_succ, sch_getD f t j (by omega)]
    congr 1; omega
theorem wt_first (f : Nat → UInt8) (t : Nat) (h : t < 16) : wt f t = first f t := by
  simp [wt, sch, h]
theorem wt_next (f : Nat → UInt8) (t : Nat) (h : 16 ≤ t) : wt f t = ad (ad (ad (sg1 (wt f (t - 2))) (wt f (t - 7))) (sg0 (wt f (t - 15)))) (wt f (t - 16)) := by
  have e : wt f t = ad (ad (ad (sg1 ((sch f t).getD 1 0)) ((sch f t).getD 6 0)) (sg0 ((sch f t).getD 14 0))) ((sch f t).getD 15 0) := by
    have : ¬ t < 16 := by omega
    simp [wt, sch, this]
  rw [e, sch_getD _ _ _ (by omega), sch_getD _ _ _ (by omega), sch_getD _ _ _ (by omega), sch_getD _ _ _ (by omega)]
  have h1 : t - 1 - 1 = t - 2 := by omega
  have h2 : t - 1 - 6 = t - 7 := by omega
  have h3 : t - 1 - 14 = t - 15 := by omega
  have h4 : t - 1 - 15 = t - 16 := by omega
  rw [h1, h2, h3, h4]
theorem first_congr {f g : Nat → UInt8} (h : ∀ j, j < 64 → f j = g j) (t : Nat) (ht : t < 16) : first f t = first g t := by
  unfold first; rw [h _ (by omega), h _ (by omega), h _ (by omega), h _ (by omega)]
theorem sch_congr {f g : Nat → UInt8} (h : ∀ j, j < 64 → f j = g j) : ∀ t, sch f t = sch g t
  | 0 => rfl
  | t + 1 => by
    have ih := sch_congr h t
    simp only [sch, ih]
    by_cases ht : t < 16
    · rw [if_pos ht, if_pos ht, first_congr h t ht]
    · rw [if_neg ht, if_neg ht]
theorem wt_congr {f g : Nat → UInt8} (h : ∀ j, j < 64 → f j = g j) : wt f = wt g := by
  funext t; unfold wt; rw [sch_congr h]
def blk (m : List UInt8) (k j : Nat) : UInt8 := m.getD (64 * k + j) 0
def hs (m : List UInt8) : Nat → S8
  | 0 => iv
  | k + 1 => comp (hs m k) (wt (blk m k))
def num (m : List UInt8) : S8 := hs m (m.length / 64)
def lenByte (n i : Nat) : UInt8 := UInt8.ofNat (8 * n / 2 ^ (56 - 8 * i))
def pad (n : Nat) : List UInt8 := 128 :: (List.replicate ((119 - n % 64) % 64) 0 ++ (List.range 8).map (lenByte n))
def word (s : S8) : Nat → W
  | 0 => s.a
  | 1 => s.b
  | 2 => s.c
  | 3 => s.d
  | 4 => s.e
  | 5 => s.f
  | 6 => s.g
  | _ => s.h
def outByte (s : S8) (i : Nat) : UInt8 := UInt8.ofNat ((word s (i / 4)).toNat / 2 ^ (24 - 8 * (i % 4)))
def out (s : S8) : List UInt8 := (List.range 32).map (outByte s)
theorem blk_append (m x : List UInt8) (k j : Nat) (h : 64 * k + j < m.length) : blk (m ++ x) k j = blk m k j := by
  unfold blk; rw [List.getD_eq_getElem?_getD, List.getD_eq_getElem?_getD, List.getElem?_append_left h]
theorem hs_append (m x : List UInt8) : ∀ k, 64 * k ≤ m.length → hs (m ++ x) k = hs m k
  | 0, _ => rfl
  | k + 1, h => by
    simp only [hs]
    rw [hs_append m x k (by omega), wt_congr (g := blk m k)]
    intro j hj; exact blk_append m x k j (by omega)
theorem num_append_small (m x : List UInt8) (h : (m ++ x).length / 64 = m.length / 64) : num (m ++ x) = num m := by
  unfold num; rw [h]; exact hs_append m x _ (by omega)
theorem num_append_full (m x : List UInt8) (f : Nat → UInt8) (h : (m ++ x).length / 64 = m.length / 64 + 1) (hf : ∀ j, j < 64 → f j = blk (m ++ x) (m.length / 64) j) : num (m ++ x) = comp (num m) (wt f) := by
  unfold num; rw [h]
  simp only [hs]
  rw [hs_append m x _ (by omega), wt_congr hf]
theorem pad_length (n : Nat) : (pad n).length = 1 + ((119 - n % 64) % 64 + 8) := by
  simp [pad]; omega
/-! ### a hash's digits -/
def digs : List UInt8 := [48, 49, 50, 51, 52, 53, 54, 55, 56, 57, 97, 98, 99, 100, 101, 102]
def dig (n : Nat) : UInt8 := digs.getD n 0
end Go.Proofs.YtdfjlmfnkhhnjaaGreatDoorH.Sha
/- How the model's bits of a uint32 are those of a 'BitVec 32'; the turn to the right. -/
namespace Go.Proofs.YtdfjlmfnkhhnjaaGreatDoorH
set_option maxRecDepth 100000
set_option linter.unusedVariables false
set_option linter.unusedSimpArgs false
open Go.RowKit
theorem bv_lt (x : BitVec 32) : x.toNat < 4294967296 := x.isLt
theorem xo_bv (x y : BitVec 32) : bits BinOp.xor IntKind.u32 (x.toNat : Int) (y.toNat : Int) = ((Sha.xo x y).toNat : Int) := by
  rw [u32_xor_nat _ _ (bv_lt x) (bv_lt y)]; unfold Sha.xo; rw [BitVec.toNat_xor]
theorem an_bv (x y : BitVec 32) : bits BinOp.and IntKind.u32 (x.toNat : Int) (y.toNat : Int) = ((Sha.an x y).toNat : Int) := by
  rw [u32_and_nat _ _ (bv_lt x) (bv_lt y)]; unfold Sha.an; rw [BitVec.toNat_and]
theorem no_bv (x : BitVec 32) : bits BinOp.xor IntKind.u32 IntKind.u32.max (x.toNat : Int) = ((Sha.no x).toNat : Int) := by
  have e : (Sha.no x : BitVec 32) = BitVec.allOnes 32 ^^^ x := by
    apply BitVec.eq_of_getLsbD_eq; intro i hi; unfold Sha.no; rw [BitVec.getLsbD_xor, BitVec.getLsbD_allOnes, BitVec.getLsbD_not, decide_eq_true hi, Bool.true_xor, Bool.true_and]
  rw [e, BitVec.toNat_xor, ← u32_xor_nat _ _ (bv_lt _) (bv_lt x)]; rfl
theorem ad_bv (x y : BitVec 32) : IntKind.u32.wrap ((x.toNat : Int) + (y.toNat : Int)) = ((Sha.ad x y).toNat : Int) := by
  rw [IntKind.wrap_u32]; unfold Sha.ad; rw [BitVec.toNat_add]; omega
theorem sr3_bv (x : BitVec 32) : (x.toNat : Int) / (8 : Int) = ((Sha.sr x 3).toNat : Int) := by
  unfold Sha.sr; rw [BitVec.toNat_ushiftRight, Nat.shiftRight_eq_div_pow]; rfl
theorem sr10_bv (x : BitVec 32) : (x.toNat : Int) / (1024 : Int) = ((Sha.sr x 10).toNat : Int) := by
  unfold Sha.sr; rw [BitVec.toNat_ushiftRight, Nat.shiftRight_eq_div_pow]; rfl
theorem mask_neg (n : Nat) (h0 : 0 < n) (h : n < 32) : bits BinOp.and IntKind.u64 (IntKind.u64.wrap (-(n : Int))) 31 = ((32 - n : Nat) : Int) := by
  have e : IntKind.u64.wrap (-(n : Int)) = ((18446744073709551616 - n : Nat) : Int) := by
    rw [IntKind.wrap_u64]; omega
  rw [e, show (31 : Int) = ((31 : Nat) : Int) from rfl, u64_and_nat _ _ (by omega) (by decide)]
  have : (18446744073709551616 - n) &&& 31 = (18446744073709551616 - n) % 32 := Nat.and_two_pow_sub_one_eq_mod _ 5
  rw [this]
  congr 1
  omega
theorem rr_bv (x : BitVec 32) (k n : Nat) (hn : n ≤ 32) (hk : k = 32 - n) : bits BinOp.or IntKind.u32 ((x.toNat : Int) * 2 ^ k % 4294967296) ((x.toNat : Int) / 2 ^ n) = ((Sha.rr x n).toNat : Int) := by
  subst hk
  have e1 : ((x.toNat : Int) * 2 ^ (32 - n) % 4294967296) = ((x.toNat * 2 ^ (32 - n) % 4294967296 : Nat) : Int) := by rw [Int.natCast_emod, Int.natCast_mul, Int.natCast_pow]; rfl
  have e2 : ((x.toNat : Int) / 2 ^ n) = ((x.toNat / 2 ^ n : Nat) : Int) := by push_cast; rfl
  have l := bv_lt x
  rw [e1, e2, u32_or_nat _ _ (Nat.mod_lt _ (by decide)) (Nat.lt_of_le_of_lt (Nat.div_le_self _ _) l)]
  unfold Sha.rr
  rw [BitVec.toNat_or, BitVec.toNat_shiftLeft, BitVec.toNat_ushiftRight, Nat.shiftLeft_eq, Nat.shiftRight_eq_div_pow]
set_option maxHeartbeats 400000 in
theorem rot (x : BitVec 32) (n : Nat) (h0 : 0 < n) (h : n < 32) (w : World) :
    Calls Tryz.prog 170 #[.int .u32 (x.toNat : Int), .int .i64 (n : Int)] w fun e w' => e = .returned (.int .u32 ((Sha.rr x n).toNat : Int)) ∧ w' = w := by
  have hm := mask_neg n h0 h
  obtain ⟨k, hk⟩ : ∃ k, k = 32 - n := ⟨_, rfl⟩
  rw [← hk] at hm
  have HK : Hid (k = 32 - n) := hk
  have h32 : k < 32 := by omega
  have HN : Hid (32 - k = n) := by show 32 - k = n; omega
  clear hk
  have hw : IntKind.u64.wrap (32 - (k : Int)) = ((32 - k : Nat) : Int) := by rw [IntKind.wrap_u64]; omega
  go_enter Tryz.func170, Tryz.ntmps170
  go_wp2
  go_ret
  refine ⟨?_, rfl⟩
  have e := rr_bv x k n (by omega) HK.out
  rw [HN.out]
  exact congrArg (fun z => Ending.returned (.int .u32 z)) e
end Go.Proofs.YtdfjlmfnkhhnjaaGreatDoorH
namespace Go.Proofs.YtdfjlmfnkhhnjaaGreatDoorH
set_option maxRecDepth 100000
set_option linter.unusedVariables false
set_option linter.unusedSimpArgs false
open Go.RowKit
theorem rotI (x : BitVec 32) (i : Int) (h0 : 0 < i) (h : i < 32) (w : World) :
    Calls Tryz.prog 170 #[.int .u32 (x.toNat : Int), .int .i64 i] w fun e w' => e = .returned (.int .u32 ((Sha.rr x i.toNat).toNat : Int)) ∧ w' = w := by
  obtain ⟨n, rfl⟩ : ∃ n : Nat, i = (n : Int) := ⟨i.toNat, by omega⟩
  exact rot x n (by omega) (by omega) w
def words8 (s : Sha.S8) : Array Value := #[.int .u32 (s.a.toNat : Int), .int .u32 (s.b.toNat : Int), .int .u32 (s.c.toNat : Int), .int .u32 (s.d.toNat : Int), .int .u32 (s.e.toNat : Int), .int .u32 (s.f.toNat : Int), .int .u32 (s.g.toNat : Int), .int .u32 (s.h.toNat : Int)]
def zero8 : Array Value := #[.int .u32 0, .int .u32 0, .int .u32 0, .int .u32 0, .int .u32 0, .int .u32 0, .int .u32 0, .int .u32 0]
def words64 (f : Nat → BitVec 32) : Array Value := (Array.range 64).map fun j => .int .u32 ((f j).toNat : Int)
theorem words64_get (f : Nat → BitVec 32) (k : Nat) (h : k < 64) : (words64 f)[k]? = some (.int .u32 ((f k).toNat : Int)) := by
  simp [words64, h]
def KIn (w : World) : Prop := ∀ t, t < 64 → w.cell? ⟨0, t, none⟩ = some (.int .u32 ((Sha.kt t).toNat : Int))
theorem KIn.lt {w : World} (h : KIn w) : 0 < w.heap.size := block_lt_of_cell (h 0 (by decide))
theorem KIn.below {B : Nat} {w w' : World} (h : KIn w) (b : Below B w w') (hB : 0 < B) : KIn w' := fun t ht => by
  rw [b.cell (p := ⟨0, t, none⟩) hB]; exact h t ht
theorem no_bv' (x : BitVec 32) : bits BinOp.xor IntKind.u32 (if IntKind.u32.signed = true then -1 else IntKind.u32.max) (x.toNat : Int) = ((Sha.no x).toNat : Int) := no_bv x
def mx (k j : Nat) (a b : BitVec 32) : BitVec 32 := if j < k then Sha.ad a b else a
def mix (s r : Sha.S8) (k : Nat) : Array Value := #[.int .u32 ((mx k 0 s.a r.a).toNat : Int), .int .u32 ((mx k 1 s.b r.b).toNat : Int), .int .u32 ((mx k 2 s.c r.c).toNat : Int), .int .u32 ((mx k 3 s.d r.d).toNat : Int), .int .u32 ((mx k 4 s.e r.e).toNat : Int), .int .u32 ((mx k 5 s.f r.f).toNat : Int), .int .u32 ((mx k 6 s.g r.g).toNat : Int), .int .u32 ((mx k 7 s.h r.h).toNat : Int)]
theorem info49 : (Tryz.prog.info? 167).map (·.size) = some 8 := by kernel_rfl
theorem cell_set (wr : World) (g j : Nat) (cs : Array Value) (t : TypeId) (v : Value) (h : wr.heap[g]? = some (.cells cs t (0, 0))) : (wr.setCell ⟨g, j, none⟩ v).heap[g]? = some (.cells (cs.setIfInBounds j v) t (0, 0)) :=
  heap_setCell_same wr g j cs t v h
theorem mix_get (s r : Sha.S8) : ∀ k, k < 8 → (mix s r k)[k]? = some (.int .u32 ((Sha.word s k).toNat : Int))
  | 0, _ | 1, _ | 2, _ | 3, _ | 4, _ | 5, _ | 6, _ | 7, _ => rfl
  | k + 8, h => by omega
theorem words8_get (r : Sha.S8) : ∀ k, k < 8 → (words8 r)[k]? = some (.int .u32 ((Sha.word r k).toNat : Int))
  | 0, _ | 1, _ | 2, _ | 3, _ | 4, _ | 5, _ | 6, _ | 7, _ => rfl
  | k + 8, h => by omega
theorem mix_succ (s r : Sha.S8) : ∀ k, k < 8 → (mix s r k).setIfInBounds k (.int .u32 ((Sha.ad (Sha.word s k) (Sha.word r k)).toNat : Int)) = mix s r (k + 1)
  | 0, _ | 1, _ | 2, _ | 3, _ | 4, _ | 5, _ | 6, _ | 7, _ => rfl
  | k + 8, h => by omega
theorem idx49 (cs : Array Value) (k : Nat) (h : k < 8) (q : Int) (hv : cs[k]? = some (.int .u32 q)) (w : World) : (Instr.index 167 (.agg cs) (.int .i64 (k : Int))).run Tryz.prog w = .ok (.int .u32 q) w := by
  have h2 : (k : Int) < 8 := by omega
  have h3 : k < cs.size := by
    rcases Nat.lt_or_ge k cs.size with h | h
    · exact h
    · rw [Array.getElem?_eq_none h] at hv; exact absurd hv (by simp)
  rw [Array.getElem?_eq_getElem h3] at hv
  have h4 := Option.some.inj hv
  simp [Instr.index, Tryz.underlying167, go_sem, h2, h3, h, h4]
end Go.Proofs.YtdfjlmfnkhhnjaaGreatDoorH
