import Derived.Test.YtoclndanabcjkaaTp
import Derived.OwnWalk
import Derived.Deep.RegionHeld3
import Derived.Deep.AppendLies
import Derived.Deep.DrawnRows
import Derived.Laws.OwnMore
import Derived.Laws.BytesArg
namespace Go.Proofs.Ytoclndanabcjkaa
set_option linter.unusedVariables false
open Go.RowKit
namespace sumLinear
def bx (a b : UInt8) : UInt8 := a ^^^ b
def bx64 (a b : BitVec 64) : BitVec 64 := a ^^^ b
theorem bx_u8 (a b : UInt8) : bits BinOp.xor IntKind.u8 (a.toNat : Int) (b.toNat : Int) = ((bx a b).toNat : Int) := byte_xor_u8 a b
theorem bx_u64 (a b : BitVec 64) : bits BinOp.xor IntKind.u64 (a.toNat : Int) (b.toNat : Int) = ((bx64 a b).toNat : Int) := xor_bv a b

theorem info5 : (Try.prog.info? 5).map (fun i => (i.zero, i.size, i.bytes)) = some (some (.int .u8 0), 1, 1) := by kernel_rfl
def vals (l : List UInt8) : List Value := l.map fun v => .int .u8 (v.toNat : Int)
theorem xor3_snoc : ∀ (a b c : List UInt8) (x y z : UInt8), a.length = b.length → a.length = c.length → Crc.xor3 (a ++ [x]) (b ++ [y]) (c ++ [z]) = Crc.xor3 a b c ++ [x ^^^ y ^^^ z]
  | [], [], [], _, _, _, _, _ => rfl
  | p :: a, q :: b, r :: c, x, y, z, h1, h2 => by
    simp only [List.cons_append, Crc.xor3]
    rw [xor3_snoc a b c x y z (by simpa using h1) (by simpa using h2)]
def X (a b c : ByteArray) (k : Nat) : List UInt8 := Crc.xor3 (a.data.toList.take k) (b.data.toList.take k) (c.data.toList.take k)
theorem X_succ (a b c : ByteArray) (k : Nat) (ha : k < a.size) (hb : k < b.size) (hc : k < c.size) : vals (X a b c (k + 1)) = vals (X a b c k) ++ [.int .u8 ((bx (bx a[k] b[k]) c[k]).toNat : Int)] := by
  unfold X vals bx
  rw [take_snoc a k ha, take_snoc b k hb, take_snoc c k hc, xor3_snoc _ _ _ _ _ _ (by simp; omega) (by simp; omega), List.map_append]
  rfl
theorem X_len (a b c : ByteArray) (k : Nat) (ha : k ≤ a.size) (hb : k ≤ b.size) (hc : k ≤ c.size) : (X a b c k).length = k := by
  obtain ⟨e, l⟩ := Crc.xor3_eq (a.data.toList.take k) (b.data.toList.take k) (c.data.toList.take k) (by simp; omega) (by simp; omega)
  unfold X
  have l2 := (Crc.xor3_eq (Crc.xor2 (a.data.toList.take k) (b.data.toList.take k)) (c.data.toList.take k) (c.data.toList.take k) (by rw [l]; simp; omega) (by rw [l]; simp; omega)).2
  rw [e, l2, l]
  simp; omega
theorem conv_own {wr : World} {base k : Nat} {v : Value} {l : List UInt8} (h : wr.ownsRow base 5 1 v k (vals l)) (hl : l.length = k) : ∀ w', Below wr.heap.size wr w' → (convert 28 9 v).run Try.prog w' = .ok (.string ⟨l.toArray⟩) w' := by
  intro w' hb
  rcases h.2 with ⟨rfl, h0⟩ | ⟨g, cap, cur, rfl, _, _⟩
  · have : l = [] := List.length_eq_zero_iff.1 (by omega)
    subst this
    exact run_convert_bytes_nil w' 28 5 Try.underlying28 Try.underlying5 0 0 9 Try.underlying9
  · have hg := (h.lt g rfl).2
    subst hl
    refine run_convert_bytes_back w' 28 9 5 ⟨g, 0, none⟩ cap l Try.underlying28 Try.underlying5 Try.underlying9 ?_
    intro j hj
    have hadd : (⟨g, 0, none⟩ : Addr).add j = ⟨g, j, none⟩ := by unfold Addr.add; split <;> simp_all
    rw [hadd, hb.cell (p := ⟨g, j, none⟩) hg, h.cellAt j (by omega)]
    simp [vals, hj]
theorem keepS {wr w2 w3 : World} {C : World → Prop} (hcv : ∀ w', Below wr.heap.size wr w' → C w') (q : Below w2.heap.size w2 w3) (h : Below wr.heap.size wr w2 ∧ C w2) : Below wr.heap.size wr w3 ∧ C w3 :=
  ⟨below_seq h.1 q, hcv _ (below_seq h.1 q)⟩
theorem of_small (s : ByteArray) (w : World) (hs : s.size ≤ 140737488351232) :
    Calls Try.prog 9 #[.string s] w fun e w' => e = .returned (.int .u64 ((Crc.on 0#64 s.data.toList).toNat : Int)) ∧ Below w.heap.size w w' :=
  of_any s w (by unfold maxLen; omega)
theorem fin (a b c : ByteArray) (n : Nat) (ha : n ≤ a.size) (hb : n ≤ b.size) (hc : n ≤ c.size) :
    (((bx64 (bx64 (Crc.on 0#64 (a.data.toList.take n)) (Crc.on 0#64 (b.data.toList.take n))) (Crc.on 0#64 (c.data.toList.take n))).toNat : Int) == ((Crc.on 0#64 (X a b c n)).toNat : Int)) = true := by
  rw [bv_beq, beq_iff_eq]
  unfold bx64 X
  exact Crc.on_xor3 _ _ _ (by simp; omega) (by simp; omega)
theorem take_all (a : ByteArray) : a.data.toList.take a.size = a.data.toList := List.take_of_length_le (by simp)
theorem size_list (l : List UInt8) : (⟨l.toArray⟩ : ByteArray).size = l.length := by simp [ByteArray.size]
end sumLinear
end Go.Proofs.Ytoclndanabcjkaa
