import Derived.Test.YtcmmbdcflblekaaGreatDoorGb
import Derived.OwnWalk
import Derived.Deep.AppendLies
import Derived.Laws.OwnMore
import Derived.Lib.AppendStr
import Derived.Test.YtcmmbdcflblekaaGreatDoorGc
/- The reference: the turn to the right, and the 64 numbers of a block. -/
namespace Go.Proofs.YtcmmbdcflblekaaGreatDoorH
set_option maxRecDepth 100000
set_option linter.unusedVariables false
set_option linter.unusedSimpArgs false
open Go.RowKit
theorem or_comm_bits (a b : Nat) (ha : a < 4294967296) (hb : b < 4294967296) : bits BinOp.or IntKind.u32 (a : Int) (b : Int) = bits BinOp.or IntKind.u32 (b : Int) (a : Int) := by
  rw [u32_or_nat _ _ ha hb, u32_or_nat _ _ hb ha, Nat.or_comm]
theorem rr_bv2 (x : BitVec 32) (k n : Nat) (hn : n ≤ 32) (hk : k = 32 - n) : bits BinOp.or IntKind.u32 ((x.toNat : Int) / 2 ^ n) ((x.toNat : Int) * 2 ^ k % 4294967296) = ((Sha.rr x n).toNat : Int) := by
  rw [← rr_bv x k n hn hk]
  have e1 : ((x.toNat : Int) * 2 ^ k % 4294967296) = ((x.toNat * 2 ^ k % 4294967296 : Nat) : Int) := by rw [Int.natCast_emod, Int.natCast_mul, Int.natCast_pow]; rfl
  have e2 : ((x.toNat : Int) / 2 ^ n) = ((x.toNat / 2 ^ n : Nat) : Int) := by rw [Int.natCast_ediv, Int.natCast_pow]; rfl
  rw [e1, e2]
  exact or_comm_bits _ _ (Nat.lt_of_le_of_lt (Nat.div_le_self _ _) (bv_lt x)) (Nat.mod_lt _ (by decide))
def RW (w : World) (f : Nat → UInt8) (k : Nat) (wr : World) : Prop :=
  Below w.heap.size w wr ∧ wr.heap[w.heap.size]? = some (.cells (pw f 0) 132 (0, 0)) ∧ wr.heap[w.heap.size + 1]? = some (.cells (pw f k) 132 (0, 0))
theorem RW.set {w : World} {f : Nat → UInt8} {k : Nat} {wr : World} (h : RW w f k wr) (hk : k < 64) {B : Nat} (hB : w.heap.size = B) {q : Int} (hq : q = ((Sha.wt f k).toNat : Int)) : RW w f (k + 1) ((wr.setCell ⟨B + 1, k, none⟩ (.int .u32 q)).drew) := by
  subst hB hq
  obtain ⟨a, c, d⟩ := h
  refine ⟨(a.setCell (by show w.heap.size ≤ w.heap.size + 1; omega) _).drew, ?_, ?_⟩
  · rw [heap_drew, Below.heap_setCell _ _ _ _ (by show w.heap.size ≠ w.heap.size + 1; omega), c]
  · rw [heap_drew, cell_set _ _ _ _ _ _ d, pw_set f k hk]
attribute [local go_sem] xo_bv ad_bv sr3_bv sr10_bv
attribute [local go_sem ↓] Go.wp_at_zero Go.wp_at_succ
end Go.Proofs.YtcmmbdcflblekaaGreatDoorH

/- The reference: the padded text. -/
namespace Go.Proofs.YtcmmbdcflblekaaGreatDoorH
set_option maxRecDepth 100000
set_option linter.unusedVariables false
set_option linter.unusedSimpArgs false
open Go.RowKit
theorem info5f : (Tryz.prog.info? 5).map (fun i => (i.zero, i.size, i.bytes)) = some (some (.int .u8 0), 1, 1) := by kernel_rfl
theorem vals_append (a b : List UInt8) : vals (a ++ b) = vals a ++ vals b := List.map_append ..
theorem vals_length (a : List UInt8) : (vals a).length = a.length := List.length_map ..
theorem news1 {W : World} {c : Value} : ∀ j u, [c][j]? = some u → (W.alloc (.cells #[c] 5)).cell? ((⟨W.heap.size, 0, none⟩ : Addr).add j) = some u :=
  World.news_of_block (cs := #[c]) (t := 5) (fr := (0, 0)) (heap_alloc_new W _)
theorem below_grow {w wr w2 : World} {v : Value} {o : Obj} {k : Nat} {xs : List Value} (hbr : Below w.heap.size w wr) (hown : wr.ownsRow w.heap.size 5 1 v k xs) (hg : (wr.alloc o).grownBy w2 v.ownBlock) : Below w.heap.size w w2 :=
  (hbr.alloc hbr.size _).grown hg (by have := hbr.size; simp; omega) (fun k0 hk0 => (hown.lt k0 hk0).1)
def lnOf : Value → Nat | .slice _ n _ => n | _ => 0
/-- A slice of its own that holds these bytes. -/
def OwnL (w wr : World) (v : Value) (L : List UInt8) : Prop := ∃ g cap, v = .slice (some ⟨g, 0, none⟩) L.length cap ∧ wr.ownsRow w.heap.size 5 1 v L.length (vals L) ∧ Below w.heap.size w wr
def zs (n j : Nat) (m : List UInt8) : List UInt8 := m ++ 128 :: List.replicate j 0
def ls (n k : Nat) (m : List UInt8) : List UInt8 := m ++ 128 :: (List.replicate ((119 - n % 64) % 64) 0 ++ (List.range k).map (Sha.lenByte n))
theorem zs_len (n j : Nat) (m : List UInt8) : (zs n j m).length = m.length + 1 + j := by simp [zs]; omega
theorem ls_len (n j : Nat) (m : List UInt8) : (ls n j m).length = m.length + 1 + (119 - n % 64) % 64 + j := by simp [ls]; omega
theorem zs_succ (n j : Nat) (m : List UInt8) : zs n (j + 1) m = zs n j m ++ [0] := by simp [zs, List.replicate_succ']
theorem ls_succ (n j : Nat) (m : List UInt8) : ls n (j + 1) m = ls n j m ++ [Sha.lenByte n j] := by simp [ls, List.range_succ]
theorem zs_ls (n : Nat) (m : List UInt8) : zs n ((119 - n % 64) % 64) m = ls n 0 m := by simp [zs, ls]
end Go.Proofs.YtcmmbdcflblekaaGreatDoorH

/- The reference: the constants, and a block's step. -/
namespace Go.Proofs.YtcmmbdcflblekaaGreatDoorH
set_option maxRecDepth 100000
set_option linter.unusedVariables false
set_option linter.unusedSimpArgs false
open Go.RowKit
abbrev z8 : Array Value := #[.int .u32 0, .int .u32 0, .int .u32 0, .int .u32 0, .int .u32 0, .int .u32 0, .int .u32 0, .int .u32 0]
abbrev z64w : Array Value := #[.int .u32 0, .int .u32 0, .int .u32 0, .int .u32 0, .int .u32 0, .int .u32 0, .int .u32 0, .int .u32 0, .int .u32 0, .int .u32 0, .int .u32 0, .int .u32 0, .int .u32 0, .int .u32 0, .int .u32 0, .int .u32 0, .int .u32 0, .int .u32 0, .int .u32 0, .int .u32 0, .int .u32 0, .int .u32 0, .int .u32 0, .int .u32 0, .int .u32 0, .int .u32 0, .int .u32 0, .int .u32 0, .int .u32 0, .int .u32 0, .int .u32 0, .int .u32 0, .int .u32 0, .int .u32 0, .int .u32 0, .int .u32 0, .int .u32 0, .int .u32 0, .int .u32 0, .int .u32 0, .int .u32 0, .int .u32 0, .int .u32 0, .int .u32 0, .int .u32 0, .int .u32 0, .int .u32 0, .int .u32 0, .int .u32 0, .int .u32 0, .int .u32 0, .int .u32 0, .int .u32 0, .int .u32 0, .int .u32 0, .int .u32 0, .int .u32 0, .int .u32 0, .int .u32 0, .int .u32 0, .int .u32 0, .int .u32 0, .int .u32 0, .int .u32 0]
theorem st54 (p v : Value) : Instr.storeAt 132 p v = stS 132 p v := rfl
theorem ld54 (v : Value) : Instr.loadAt 132 v = ldS 132 v := rfl
theorem ldRow {w : World} {B T : Nat} {A : Array Value} {n e : Nat} (h : w.heap[B]? = some (.cells A T (0, 0))) (hu : Tryz.prog.underlying T = some (.array n e)) (hi : (Tryz.prog.info? T).map (·.size) = some A.size) :
    (ldS T (.pointer (some ⟨B, 0, none⟩))).run Tryz.prog w = .ok (.agg A) w := by
  show (Instr.loadAt T (.pointer (some ⟨B, 0, none⟩))).run Tryz.prog w = _
  simp only [Instr.loadAt, Instr.sureAddr, Sem.run_bind, Sem.run_pure, Result.andThen_ok, run_loadVar_row _ B T T A (0, 0) _ h hu rfl hi]
theorem stRow {w : World} {B T : Nat} {old A : Array Value} (h : w.heap[B]? = some (.cells old T (0, 0))) (hi : (Tryz.prog.info? T).map (·.size) = some A.size) (ho : old.size = A.size) (h1 : A.all (·.oneCell') = true) :
    (stS T (.pointer (some ⟨B, 0, none⟩)) (.agg A)).run Tryz.prog w = .ok () (w.setRow B A) := by
  show (Instr.storeAt T (.pointer (some ⟨B, 0, none⟩)) (.agg A)).run Tryz.prog w = _
  simp only [Instr.storeAt, Instr.sureAddr, Sem.run_bind, Sem.run_pure, Result.andThen_ok, run_storeVar_row _ B T T old A h hi ho h1]
theorem words64_size (f : Nat → BitVec 32) : (words64 f).size = 64 := by simp [words64]
theorem words64_one (f : Nat → BitVec 32) : (words64 f).all (·.oneCell') = true := by
  rw [Array.all_eq_true]; intro i h; simp only [words64, Array.getElem_map]; rfl
theorem words8_one (s : Sha.S8) : (words8 s).all (·.oneCell') = true := by simp [words8, Value.oneCell']
theorem info54w (f : Nat → BitVec 32) : (Tryz.prog.info? 132).map (·.size) = some (words64 f).size := by rw [words64_size]; exact info54
theorem new_row (w : World) (c A : Array Value) (t : TypeId) : (w.alloc (.cells c t)).setRow w.heap.size A = w.alloc (.cells A t) := World.setRow_alloc_new w c A t
def kcs : Array Value := #[.int .u32 1116352408, .int .u32 1899447441, .int .u32 3049323471, .int .u32 3921009573, .int .u32 961987163, .int .u32 1508970993, .int .u32 2453635748, .int .u32 2870763221, .int .u32 3624381080, .int .u32 310598401, .int .u32 607225278, .int .u32 1426881987, .int .u32 1925078388, .int .u32 2162078206, .int .u32 2614888103, .int .u32 3248222580, .int .u32 3835390401, .int .u32 4022224774, .int .u32 264347078, .int .u32 604807628, .int .u32 770255983, .int .u32 1249150122, .int .u32 1555081692, .int .u32 1996064986, .int .u32 2554220882, .int .u32 2821834349, .int .u32 2952996808, .int .u32 3210313671, .int .u32 3336571891, .int .u32 3584528711, .int .u32 113926993, .int .u32 338241895, .int .u32 666307205, .int .u32 773529912, .int .u32 1294757372, .int .u32 1396182291, .int .u32 1695183700, .int .u32 1986661051, .int .u32 2177026350, .int .u32 2456956037, .int .u32 2730485921, .int .u32 2820302411, .int .u32 3259730800, .int .u32 3345764771, .int .u32 3516065817, .int .u32 3600352804, .int .u32 4094571909, .int .u32 275423344, .int .u32 430227734, .int .u32 506948616, .int .u32 659060556, .int .u32 883997877, .int .u32 958139571, .int .u32 1322822218, .int .u32 1537002063, .int .u32 1747873779, .int .u32 1955562222, .int .u32 2024104815, .int .u32 2227730452, .int .u32 2361852424, .int .u32 2428436474, .int .u32 2756734187, .int .u32 3204031479, .int .u32 3329325298]
theorem kcs_eq : kcs = words64 Sha.kt := by kernel_rfl
end Go.Proofs.YtcmmbdcflblekaaGreatDoorH

/- The reference: a block's step. -/
namespace Go.Proofs.YtcmmbdcflblekaaGreatDoorH
set_option maxRecDepth 100000
set_option linter.unusedVariables false
set_option linter.unusedSimpArgs false
open Go.RowKit
theorem lt_of_row2 {w : World} {g : Nat} {o : Obj} (h : w.heap[g]? = some o) : g < w.heap.size := by
  rcases Nat.lt_or_ge g w.heap.size with h2 | h2
  · exact h2
  · rw [Array.getElem?_eq_none h2] at h; exact absurd h (by simp)
theorem ad_comm (a b : BitVec 32) : Sha.ad a b = Sha.ad b a := BitVec.add_comm a b
theorem plus_comm (s r : Sha.S8) : Sha.plus s r = Sha.plus r s := by
  unfold Sha.plus; rw [ad_comm s.a, ad_comm s.b, ad_comm s.c, ad_comm s.d, ad_comm s.e, ad_comm s.f, ad_comm s.g, ad_comm s.h]
/-- The blocks that the step has made. -/
structure BR (w : World) (s r : Sha.S8) (F : Nat → BitVec 32) (X : Nat) (wr : World) : Prop where
  bel : Below w.heap.size w wr
  was : wr.heap[w.heap.size]? = some (.cells (words8 s) 128 (0, 0))
  kk : wr.heap[w.heap.size + 1]? = some (.cells (words64 Sha.kt) 132 (0, 0))
  res : wr.heap[w.heap.size + 1 + 1]? = some (.cells z8 128 (0, 0))
  v : wr.heap[w.heap.size + 1 + 1 + 1]? = some (.cells (words8 r) 128 (0, 0))
  ws : wr.heap[X]? = some (.cells (words64 F) 132 (0, 0))
theorem BR.drewN {w : World} {s r : Sha.S8} {F : Nat → BitVec 32} {X : Nat} {wr : World} (h : BR w s r F X wr) (n : Nat) : BR w s r F X (wr.drewN n) :=
  ⟨⟨h.bel.os, h.bel.tape, h.bel.output, h.bel.size, h.bel.block⟩, h.was, h.kk, h.res, h.v, h.ws⟩
theorem BR.next {w : World} {s r r' : Sha.S8} {F : Nat → BitVec 32} {X : Nat} {wr : World} (h : BR w s r F X wr) (hX : w.heap.size + 1 + 1 + 1 < X) : BR w s r' F X (wr.setRow (w.heap.size + 1 + 1 + 1) (words8 r')) :=
  ⟨below_setRow h.bel (by omega) _, by rw [setRow_other _ _ _ _ (by omega)]; exact h.was, by rw [setRow_other _ _ _ _ (by omega)]; exact h.kk, by rw [setRow_other _ _ _ _ (by omega)]; exact h.res, setRow_heap _ _ _ _ _ _ h.v, by rw [setRow_other _ _ _ _ (by omega)]; exact h.ws⟩
theorem r0_of {r : Sha.S8} {V : Nat} {wr : World} (h : wr.heap[V]? = some (.cells (words8 r) 128 (0, 0))) : (wr.cell? ⟨V, 0, none⟩ = some (.int .u32 (r.a.toNat : Int)) ∧ wr.cell? ⟨V, 1, none⟩ = some (.int .u32 (r.b.toNat : Int)) ∧ wr.cell? ⟨V, 2, none⟩ = some (.int .u32 (r.c.toNat : Int)) ∧ wr.cell? ⟨V, 3, none⟩ = some (.int .u32 (r.d.toNat : Int))) ∧ wr.cell? ⟨V, 4, none⟩ = some (.int .u32 (r.e.toNat : Int)) ∧ wr.cell? ⟨V, 5, none⟩ = some (.int .u32 (r.f.toNat : Int)) ∧ wr.cell? ⟨V, 6, none⟩ = some (.int .u32 (r.g.toNat : Int)) ∧ wr.cell? ⟨V, 7, none⟩ = some (.int .u32 (r.h.toNat : Int)) := by
  refine ⟨⟨?_, ?_, ?_, ?_⟩, ?_, ?_, ?_, ?_⟩ <;> rw [cell_of_row _ _ _ _ _ _ h] <;> rfl
attribute [local go_sem] xo_bv an_bv no_bv' ad_bv
attribute [local go_sem ↓] ld49 st49 ld54 st54
attribute [local go_sem ↓] Go.wp_at_zero Go.wp_at_succ
end Go.Proofs.YtcmmbdcflblekaaGreatDoorH

/- The reference: the hash. -/
namespace Go.Proofs.YtcmmbdcflblekaaGreatDoorH
set_option maxRecDepth 100000
set_option linter.unusedVariables false
set_option linter.unusedSimpArgs false
open Go.RowKit
/-- What the hash has made: its result, its numbers, the constants, the padded text. -/
structure SR (w : World) (m : List UInt8) (q : Nat → UInt8) (k X g : Nat) (wr : World) : Prop where
  bel : Below w.heap.size w wr
  res : wr.heap[w.heap.size]? = some (.cells (pb 32 q 0) 44 (0, 0))
  v : wr.heap[w.heap.size + 1]? = some (.cells (words8 (Sha.hs m k)) 128 (0, 0))
  kk : wr.heap[X]? = some (.cells (words64 Sha.kt) 132 (0, 0))
  txt : ∀ j, j < m.length → wr.cell? ⟨g, j, none⟩ = some (.int .u8 ((m.getD j 0).toNat : Int))
  lt : g < wr.heap.size
theorem own_cap {w : World} {base e size g n cap : Nat} {xs : List Value} (h : w.ownsRow base e size (.slice (some ⟨g, 0, none⟩) n cap) n xs) : n ≤ cap := by
  rcases h.2 with ⟨h', _⟩ | ⟨g', cap', cur, h', _, hg, hn, _⟩
  · simp at h'
  · simp only [Value.slice.injEq, Option.some.injEq, Addr.mk.injEq, and_true, true_and] at h'
    omega
theorem hs_zero (m : List UInt8) : Sha.hs m 0 = Sha.iv := by simp only [Sha.hs]
theorem hs_succ (m : List UInt8) (k : Nat) : Sha.hs m (k + 1) = Sha.comp (Sha.hs m k) (Sha.wt (Sha.blk m k)) := by simp only [Sha.hs]
theorem iv_lit : (#[.int .u32 1779033703, .int .u32 3144134277, .int .u32 1013904242, .int .u32 2773480762, .int .u32 1359893119, .int .u32 2600822924, .int .u32 528734635, .int .u32 1541459225] : Array Value) = words8 Sha.iv := by kernel_rfl
noncomputable def slS (v : Value) (a b c : Option Value) : Sem Value := Instr.sliceAt 47 v a b c
theorem sl27 (v : Value) (a b c : Option Value) : Instr.sliceAt 47 v a b c = slS v a b c := rfl
theorem slice_txt (g l cap k : Nat) (h1 : 64 * k + 64 ≤ l) (h2 : l ≤ cap) (w : World) : (slS (.slice (some ⟨g, 0, none⟩) l cap) (some (.int .i64 (64 * (k : Int)))) (some (.int .i64 (64 * (k : Int) + 64))) none).run Tryz.prog w = .ok (.slice (some ⟨g, 64 * k, none⟩) 64 (cap - 64 * k)) w := by
  show (Instr.sliceAt 47 (.slice (some ⟨g, 0, none⟩) l cap) (some (.int .i64 (64 * (k : Int)))) (some (.int .i64 (64 * (k : Int) + 64))) none).run Tryz.prog w = _
  have i0 : (0 : Int) ≤ 64 * (k : Int) := by omega
  have i1 : 64 * (k : Int) + 64 ≤ (cap : Int) := by omega
  have i2 : ¬ cap = 64 * k := by omega
  have i4 : (0 : Int) ≤ 64 * (k : Int) + 64 := by omega
  have i5 : 64 * (k : Int) ≤ max (64 * (k : Int) + 64) 0 := by omega
  have t1 : (64 * (k : Int)).toNat = 64 * k := by omega
  have t2 : (64 * (k : Int) + 64).toNat = 64 * k + 64 := by omega
  simp [Instr.sliceAt, go_sem, Tryz.underlying47, i0, i1, i2, i4, i5, t1, t2]
  intro h; omega
attribute [local go_sem ↓] ld49 st49 ld54 st54 sl27
attribute [local go_sem] iv_lit
attribute [local go_sem ↓] Go.wp_at_zero Go.wp_at_succ
end Go.Proofs.YtcmmbdcflblekaaGreatDoorH
