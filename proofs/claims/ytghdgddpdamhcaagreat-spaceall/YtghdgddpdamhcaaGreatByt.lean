/- Rows of bytes of one's own: literals, zeros put behind them; the numbers of two bytes. -/
import Derived.Test.YtghdgddpdamhcaaGreatSml
import Derived.Lib.AppendStr
namespace Go.Proofs.YtghdgddpdamhcaaGreat
set_option linter.unusedVariables false
set_option linter.unusedSimpArgs false
open Go.RowKit
def vals (l : List UInt8) : List Value := l.map fun b => Value.int .u8 b.toNat
theorem vals_append (a b : List UInt8) : vals (a ++ b) = vals a ++ vals b := List.map_append ..
theorem vals_length (a : List UInt8) : (vals a).length = a.length := List.length_map ..
theorem vals_str (l : List UInt8) : Lib.strCells ⟨l.toArray⟩ = vals l := by simp [Lib.strCells, vals]
theorem vals_one : ∀ (l : List UInt8), ∀ u ∈ vals l, u.oneCell' = true := fun l u hu => by
  obtain ⟨b, _, rfl⟩ := List.mem_map.1 hu; rfl
theorem str_size (l : List UInt8) : (⟨l.toArray⟩ : ByteArray).size = l.length := by show l.toArray.size = _; simp
theorem info5f : (Tryz.prog.info? 5).map (fun i => (i.zero, i.size, i.bytes)) = some (some (.int .u8 0), 1, 1) := by kernel_rfl
theorem info5 : ∃ i, Tryz.prog.info? 5 = some i ∧ i.zero = some (.int .u8 0) ∧ i.size = 1 ∧ i.bytes = 1 := by
  have := info5f
  cases hq : Tryz.prog.info? 5 with
  | none => rw [hq] at this; cases this
  | some i => rw [hq] at this; simp at this; exact ⟨i, rfl, this.1, this.2.1, this.2.2⟩
theorem own_slice {w : World} {base : Nat} {e : TypeId} {size : Nat} {v : Value} {n : Nat} {xs : List Value} (h : w.ownsRow base e size v n xs) : ∃ a c, v = .slice a n c := by
  rcases h.2 with ⟨rfl, h0⟩ | ⟨g, cap, cur, rfl, _⟩
  · subst h0; exact ⟨none, 0, rfl⟩
  · exact ⟨_, _, rfl⟩
theorem conv_own {base : Nat} {w : World} {v : Value} {l : List UInt8} (h : w.ownsRow base 5 1 v l.length (vals l)) : (convert 40 9 v).run Tryz.prog w = .ok (.string ⟨l.toArray⟩) w := by
  rcases h.2 with ⟨rfl, h0⟩ | ⟨g, cap, cur, rfl, _, _⟩
  · have : l = [] := List.eq_nil_of_length_eq_zero h0
    subst this
    exact run_convert_bytes_nil w 40 5 Tryz.underlying40 Tryz.underlying5 0 0 9 Tryz.underlying9
  · refine run_convert_bytes_back w 40 9 5 ⟨g, 0, none⟩ cap l Tryz.underlying40 Tryz.underlying5 Tryz.underlying9 ?_
    intro j hj
    have hadd : (⟨g, 0, none⟩ : Addr).add j = ⟨g, j, none⟩ := by unfold Addr.add; split <;> simp_all
    rw [hadd, h.cellAt j (by simpa using hj)]
    simp [vals, hj]
/-- a row of bytes of the call's own -/
structure Ob (base : Nat) (w : World) (v : Value) (L : List UInt8) : Prop where
  own : w.ownsRow base 5 1 v L.length (vals L)
  le : base ≤ w.heap.size
theorem Ob.nil (w : World) (base : Nat) (h : base ≤ w.heap.size) : Ob base w (.slice none 0 0) [] := ⟨World.ownsRow_nil _ _ _ _, h⟩
theorem Ob.alloc {base : Nat} {w : World} {v : Value} {L : List UInt8} (h : Ob base w v L) (o : Obj) : Ob base (w.alloc o) v L := ⟨h.own.alloc o, by have := h.le; simp; omega⟩
theorem own_later {base : Nat} {w w' : World} {v : Value} {n : Nat} {e : TypeId} {size : Nat} {xs : List Value} (hown : w.ownsRow base e size v n xs) (hb : Below w.heap.size w w') : w'.ownsRow base e size v n xs :=
  (Fr.of_below (S := fun _ => False) hb).own hown (fun _ _ h => h)
theorem Ob.later {base : Nat} {w w' : World} {v : Value} {L : List UInt8} (h : Ob base w v L) (hb : Below w.heap.size w w') : Ob base w' v L := ⟨own_later h.own hb, Nat.le_trans h.le hb.size⟩
theorem grown_below {base : Nat} {w w' : World} {v : Value} {n : Nat} {e : TypeId} {size : Nat} {xs : List Value} (hown : w.ownsRow base e size v n xs) (hle : base ≤ w.heap.size) (hg : w.grownBy w' v.ownBlock) : Below base w w' :=
  (Below.refl _ _).grown hg hle (fun k0 hk0 => (hown.lt k0 hk0).1)
/-- a literal row of bytes, made just now -/
theorem Ob.lit {base : Nat} {w : World} (l : List UInt8) (cs : Array Value) (hc : cs = (vals l).toArray) (hb : base ≤ w.heap.size) (hl : l.length ≤ 1000) (h0 : l ≠ []) : Ob base (w.alloc (.cells cs 5)) (.slice (some ⟨w.heap.size, 0, none⟩) l.length l.length) l := by
  subst hc
  refine ⟨⟨by simp [vals_length], .inr ⟨w.heap.size, l.length, _, rfl, hb, heap_alloc_new w _, Nat.le_refl _, by show _ ≤ 9223372036854775807; omega, by simp [vals_length], by simp only [Nat.mul_one]; rw [← vals_length l]; exact List.take_length⟩⟩, by simp; omega⟩
theorem app_lits {ops : Array Oper} {rest : List Oper} {o : Oper} {a : Act} {Q : Exit → Act → World → Prop} {base : Nat} {w w0 : World} {v : Value} {L : List UInt8} {g m : Nat} {cs : Array Value} (C : List UInt8) (hw : w0 = w.alloc (.cells cs 5)) (hcs : cs = (vals C).toArray) (hm : m = C.length) (hO : Ob base w v L) (hg : g = w.heap.size) (hn : L.length + C.length ≤ 140000000000000)
    (hgd : o.guard = none) (s x : Operand) (ho : o.op = .call { callee := .builtin .append, args := #[s, x], argTypes := #[40, 40] })
    (hs : a.eval s = v) (hx : a.eval x = .slice (some ⟨g, 0, none⟩) m m)
    (h : ∀ v' w', Ob base w' v' (L ++ C) → Below base w w' → wpList Tryz.prog ops Q rest (a.put o.dst v') w') : wpList Tryz.prog ops Q (o :: rest) a w0 := by
  subst hw hcs hg hm
  obtain ⟨i0, hi0, hz0, hz1, hz2⟩ := info5
  have hmx : maxLen = 9223372036854775807 := rfl
  refine wpList_append_own_wide _ hgd s x 40 ho base 5 i0 _ 1 1 Tryz.underlying40 hi0 hz0 hz1 hz2 rfl (by omega) v L.length (vals L) hs (hO.own.alloc _) _ C.length C.length (vals C) hx (by simp [vals_length])
    (World.news_of_block (cs := (vals C).toArray) (t := 5) (fr := (0, 0)) (heap_alloc_new w _)) (vals_one C) (by rw [hmx]; omega) (by omega) (by have := hO.le; simp; omega) ?_
  intro v' w' hown hgrow _
  refine h v' w' ⟨?_, ?_⟩ ?_
  · rw [vals_append, List.length_append]; exact hown
  · have := hgrow.size; have h2 := hO.le; simp at this; omega
  · exact ((Below.refl _ _).alloc hO.le _).trans (grown_below (hO.own.alloc _) (by have := hO.le; simp; omega) hgrow)
/-- append of so many zeros is append of a text of zeros -/
theorem run_append_zeros (w : World) (ty : TypeId) (b : Option Addr) (n c : Nat) (m : Nat) (hm : m ≤ 100000) (hn : n ≤ 100000) (hc : n ≤ c) :
    (Builtin.append_ #[40, 3] ty #[.slice b n c, .int .i64 (m : Int)]).run Tryz.prog w = (Builtin.append_ #[40, 9] ty #[.slice b n c, .string ⟨(List.replicate m (0 : UInt8)).toArray⟩]).run Tryz.prog w := by
  obtain ⟨i0, hi0, hz0, hz1, hz2⟩ := info5
  have hw : IntKind.i64.wrap (m : Int) = (m : Int) := by rw [IntKind.wrap_i64]; omega
  have hs : (⟨(List.replicate m (0 : UInt8)).toArray⟩ : ByteArray).size = m := by rw [str_size, List.length_replicate]
  have e0 : ((⟨(List.replicate m (0 : UInt8)).toArray⟩ : ByteArray).extract 0 m) = ⟨(List.replicate m (0 : UInt8)).toArray⟩ := by
    have := ByteArray.extract_zero_size (b := (⟨(List.replicate m (0 : UInt8)).toArray⟩ : ByteArray))
    rw [hs] at this
    exact this
  have e1 : ((⟨(List.replicate m (0 : UInt8)).toArray⟩ : ByteArray).data.map fun b => Value.int .u8 b.toNat) = Builtin.zeroCells (Value.int .u8 0).cells m := by
    apply Array.ext
    · simp [Builtin.zeroCells, Value.cells]
    · intro i h1 h2
      simp [Builtin.zeroCells, Value.cells, Nat.mod_one]
  have hneg : ¬ ((m : Int) < 0) := by omega
  have hbig : ¬ ((281474976710656 : Int) < m) := by omega
  have hbig2 : ¬ ((9223372036854775807 : Int) < (n : Int) + m) := by omega
  generalize (⟨(List.replicate m (0 : UInt8)).toArray⟩ : ByteArray) = X at *
  have hzs : (Builtin.zeroCells (Value.int .u8 0).cells m).size = m := by simp [Builtin.zeroCells, Value.cells]
  have et : List.take m (Builtin.zeroCells (Value.int .u8 0).cells m).toList = (Builtin.zeroCells (Value.int .u8 0).cells m).toList := List.take_of_length_le (by simp [hzs])
  have ex : (Builtin.zeroCells (Value.int .u8 0).cells m).extract 0 m = Builtin.zeroCells (Value.int .u8 0).cells m := by
    have := Array.extract_size (xs := Builtin.zeroCells (Value.int .u8 0).cells m)
    rw [hzs] at this
    exact this
  by_cases h0 : m = 0
  · subst h0
    have hroom : n + 0 ≤ c := by omega
    have ez : Builtin.zeroCells (Value.int .u8 0).cells 0 = #[] := by simp [Builtin.zeroCells]
    rw [ez] at e1
    cases b <;> simp [Builtin.append_, run_underlying Tryz.underlying40, run_underlying Tryz.underlying3, run_underlying Tryz.underlying9, sizeOf, typeInfo, hi0, hz0, hz1, hz2, Builtin.lenOf, Builtin.firstCells, IntKind.wrap_i64, hs, asInt, asIntOf, hroom, e0, e1, zeroValue, hc]
  · by_cases hroom : n + m ≤ c
    · cases b <;> simp [Builtin.append_, run_underlying Tryz.underlying40, run_underlying Tryz.underlying3, run_underlying Tryz.underlying9, sizeOf, typeInfo, hi0, hz0, hz1, hz2, Builtin.lenOf, Builtin.firstCells, hw, hs, asInt, asIntOf, hneg, hbig, hroom, e0, e1, et, ex, zeroValue, h0]
    · have hcap : ¬ (281474976710656 < Builtin.nextslicecap (n + m) c) := by
        have := growslice_fits_wide (need := n + m) (old := c) (bytes := 1) (by omega) (by omega)
        omega
      cases b <;> simp [Builtin.append_, run_underlying Tryz.underlying40, run_underlying Tryz.underlying3, run_underlying Tryz.underlying9, sizeOf, typeInfo, hi0, hz0, hz1, hz2, Builtin.lenOf, Builtin.firstCells, hw, hs, asInt, asIntOf, hneg, hbig, hbig2, hcap, hroom, e0, e1, et, ex, zeroValue, h0]
end Go.Proofs.YtghdgddpdamhcaaGreat
