/- A row of bytes among the call's own blocks, and how one byte of it is turned. -/
import Derived.Test.YtoclndanabcjkaaLift
import Derived.Laws.IdiomStrings
namespace Go.Proofs.Ytoclndanabcjkaa
set_option linter.unusedVariables false
open Go.RowKit

/-- Block B's first cells are the bytes l, and none of them is frozen. -/
def Row (w : World) (B : Nat) (l : List UInt8) : Prop :=
  ∀ i (h : i < l.length), w.cell? ⟨B, i, none⟩ = some (.int .u8 (l[i].toNat : Int)) ∧ w.frozen? ⟨B, i, none⟩ = false
theorem Row.set {w : World} {B : Nat} {l : List UInt8} (h : Row w B l) (j : Nat) (hj : j < l.length) (v : UInt8) : Row (w.setCell ⟨B, j, none⟩ (.int .u8 (v.toNat : Int))) B (l.set j v) := by
  intro i hi
  have hi' : i < l.length := by simpa using hi
  refine ⟨?_, ?_⟩
  · rw [List.getElem_set]
    by_cases e : j = i
    · subst e
      rw [if_pos rfl, World.cell?_setCell_same _ _ _ (h j hj).1]
    · rw [if_neg e, World.cell?_setCell_other _ _ _ _ (by intro q; injection q; omega)]
      exact (h i hi').1
  · rw [World.frozen?_setCell]; exact (h i hi').2
theorem row_new (w : World) (s : ByteArray) (cap : Nat) : Row (w.alloc (.cells (bytesRow s cap) 5 ((bytesRow s cap).size, (bytesRow s cap).size + 1))).drew w.heap.size s.data.toList := by
  intro i hi
  have hi' : i < s.data.size := by simpa using hi
  refine ⟨?_, ?_⟩
  · show (w.alloc _).cell? _ = _
    rw [World.cell?_alloc_mark]
    unfold bytesRow
    rw [Array.getElem?_append_left (by simpa using hi')]
    rw [Array.getElem?_map, Array.getElem?_eq_getElem hi']
    rfl
  · show (w.alloc _).frozen? _ = _
    rw [World.frozen?_alloc_mark]
    have : ¬ (bytesRow s cap).size ≤ i := by unfold bytesRow; rw [Array.size_append, Array.size_map]; omega
    simp [this]
theorem byte_xor_u8 (a b : UInt8) : bits BinOp.xor IntKind.u8 (a.toNat : Int) (b.toNat : Int) = ((a ^^^ b).toNat : Int) := by
  rw [u8_xor_nat _ _ a.toNat_lt b.toNat_lt, UInt8.toNat_xor]
theorem toList_empty (s : ByteArray) : s.toList.isEmpty = decide (s.size = 0) := by
  rw [ByteArray.toList_eq]
  have : s.size = s.data.toList.length := by simp
  rw [this]
  cases s.data.toList <;> simp
theorem at_of (a : Int) (n : Nat) (h : 0 < n) (hn : n ≤ 140737488351232) : ∃ A : Nat, A < n ∧ wrap64 ((IntKind.u64.wrap a).tmod (n : Int)) = (A : Int) := by
  rw [IntKind.wrap_u64]
  have h1 : 0 ≤ a % 18446744073709551616 := Int.emod_nonneg _ (by decide)
  rw [Int.tmod_eq_emod_of_nonneg h1]
  have h2 : 0 ≤ a % 18446744073709551616 % (n : Int) := Int.emod_nonneg _ (by omega)
  have h3 : a % 18446744073709551616 % (n : Int) < n := Int.emod_lt_of_pos _ (by omega)
  generalize a % 18446744073709551616 % (n : Int) = r at *
  refine ⟨r.toNat, by omega, ?_⟩
  unfold wrap64
  omega
theorem byteOf_bv (x : BitVec 64) (k : Nat) : (x.toNat : Int) / (2 : Int) ^ (8 * k) % (256 : Int) = ((Crc.byteOf x k).toNat : Int) := by
  unfold Crc.byteOf
  rw [UInt8.toNat_ofNat']
  have e : (2 : Int) ^ (8 * k) = ((2 ^ (8 * k) : Nat) : Int) := by push_cast; rfl
  rw [e]
  rfl
theorem byte_bne (b : UInt8) : ((b.toNat : Int) != 0) = (b != 0) := by
  rw [Bool.eq_iff_iff, bne_iff_ne, bne_iff_ne]
  constructor
  · intro h e; subst e; exact h rfl
  · intro h e; exact h (UInt8.toNat_inj.1 (by simpa using e))
theorem chg_t {x : BitVec 64} {k : Nat} (h : Crc.changed x k = true) : Value.bool true = Value.bool (Crc.changed x (k + 1)) := by
  rw [Crc.changed, h, Bool.true_or]
theorem chg_f {x : BitVec 64} {k : Nat} (h : Crc.changed x k = false) : Value.bool (((Crc.byteOf x k).toNat : Int) != 0) = Value.bool (Crc.changed x (k + 1)) := by
  rw [Crc.changed, h, Bool.false_or, byte_bne]
theorem row_back {w : World} {B : Nat} {l : List UInt8} (h : Row w B l) (cap n : Nat) (hn : l.length = n) : (convert 28 9 (.slice (some ⟨B, 0, none⟩) n cap)).run Try.prog w = .ok (.string ⟨l.toArray⟩) w := by
  subst hn
  refine run_convert_bytes_back w 28 9 5 ⟨B, 0, none⟩ cap l Try.underlying28 Try.underlying5 Try.underlying9 ?_
  intro j hj
  have hadd : (⟨B, 0, none⟩ : Addr).add j = ⟨B, j, none⟩ := by unfold Addr.add; split <;> simp_all
  rw [hadd]
  exact (h j hj).1
theorem of_list (l : List UInt8) (w : World) (hl : l.length ≤ maxLen) :
    Calls Try.prog 9 #[.string ⟨l.toArray⟩] w fun e w' => e = .returned (.int .u64 ((Crc.on 0#64 l).toNat : Int)) ∧ Below w.heap.size w w' :=
  of_any ⟨l.toArray⟩ w (by simpa [ByteArray.size] using hl)
theorem told_bool (b : List UInt8) (a : Nat) (bits : BitVec 64) (n : Nat) (h : a + n ≤ b.length) (h8 : n ≤ 8) :
    ((((Crc.on 0#64 (Crc.turned b a bits n)).toNat : Int) != ((Crc.on 0#64 b).toNat : Int)) == Crc.changed bits n) = true := by
  have ht := Crc.told b a bits n h h8
  have e : (((Crc.on 0#64 (Crc.turned b a bits n)).toNat : Int) != ((Crc.on 0#64 b).toNat : Int)) = !(Crc.on 0#64 (Crc.turned b a bits n) == Crc.on 0#64 b) := by
    rw [← bv_beq]; rfl
  rw [e]
  cases hc : Crc.changed bits n
  · rw [hc] at ht
    have := ht.2 rfl
    rw [this]; simp
  · rw [hc] at ht
    have hne : ¬ Crc.on 0#64 (Crc.turned b a bits n) = Crc.on 0#64 b := fun q => by simpa using ht.1 q
    simp [hne]
end Go.Proofs.Ytoclndanabcjkaa
