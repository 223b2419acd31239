/- A hash as a value: a list of 32 cells; where it lies. -/
import Derived.Test.YtlpiokepagkahaaDoorLf
import Derived.Deep.RegionHeld3
namespace Go.Proofs.YtlpiokepagkahaaDoor
set_option linter.unusedVariables false
set_option linter.unusedSimpArgs false
open Go.RowKit
noncomputable def hv : Hs → List Value := Classical.choose (⟨_, rfl⟩ : ∃ f : Hs → List Value, f = fun g => (List.range 32).map fun j => .int .u8 ((g j).toNat : Int))
theorem hv_eq (g : Hs) : hv g = (List.range 32).map fun j => .int .u8 ((g j).toNat : Int) := congrFun (Classical.choose_spec (⟨_, rfl⟩ : ∃ f : Hs → List Value, f = fun g => (List.range 32).map fun j => .int .u8 ((g j).toNat : Int))) g
theorem hv_length (g : Hs) : (hv g).length = 32 := by simp [hv_eq]
theorem hv_one (g : Hs) : ∀ v ∈ hv g, v.oneCell' = true := by
  intro v hvm; simp only [hv_eq, List.mem_map] at hvm; obtain ⟨j, _, rfl⟩ := hvm; rfl
theorem hv_get (g : Hs) (j : Nat) (hj : j < 32) : (hv g)[j]? = some (.int .u8 ((g j).toNat : Int)) := by simp [hv_eq, hj]
theorem hv_b32 (g : Hs) : (hv g).toArray = b32 g := by
  apply Array.ext_getElem?
  intro i
  by_cases h : i < 32
  · rw [b32_get g i h, List.getElem?_toArray, hv_get g i h]
  · rw [Array.getElem?_eq_none (xs := (hv g).toArray) (by rw [List.size_toArray, hv_length]; omega), Array.getElem?_eq_none (xs := b32 g) (by rw [b32_size]; omega)]
theorem infoH (g : Hs) : (Tryd.prog.info? 23).map (·.size) = some (hv g).length := by rw [hv_length]; exact info22
theorem hv_inj {g h : Hs} (e : hv g = hv h) (j : Nat) (hj : j < 32) : g j = h j := by
  have h1 := hv_get g j hj
  rw [e, hv_get h j hj] at h1
  have h2 := Option.some.inj h1
  injection h2 with _ h3
  exact (UInt8.toNat_inj.1 (by omega)).symm
theorem rangeBelow {B : Nat} {w w' : World} {b o : Nat} {cs : List Value} (h : w.rangeAt b o cs) (bq : Below B w w') (hb : b < B) : w'.rangeAt b o cs := fun j v hv => by
  rw [bq.cell (p := ⟨b, o + j, none⟩) hb]; exact h j v hv
theorem rangeNext {w w' : World} {b o : Nat} {cs : List Value} (h : w.rangeAt b o cs) (bq : Below w.heap.size w w') : w'.rangeAt b o cs := fun j v hv => by
  have hc := h j v hv
  rw [bq.cell (p := ⟨b, o + j, none⟩) (block_lt_of_cell hc)]; exact hc
theorem range_of_row {w : World} {b : Nat} {cs : List Value} {T : TypeId} {fr : Nat × Nat} (h : w.heap[b]? = some (.cells cs.toArray T fr)) : w.rangeAt b 0 cs := fun j v hv => by
  rw [Nat.zero_add, cell_of_row _ _ _ _ _ _ h, List.getElem?_toArray]; exact hv
theorem there_of_row {w : World} {b n : Nat} {C : Array Value} {T : TypeId} (h : w.heap[b]? = some (.cells C T (0, 0))) (o : Nat) (hn : o + n ≤ C.size) : w.there b o n := fun j hj => by
  refine ⟨?_, frozen_of_row _ _ _ _ _ h⟩
  rw [cell_of_row _ _ _ _ _ _ h, Array.getElem?_eq_getElem (by omega)]; rfl
theorem thereNext {w w' : World} {b o n : Nat} (h : w.there b o n) (bq : Below w.heap.size w w') : w'.there b o n := fun j hj => by
  obtain ⟨u, hu⟩ := Option.isSome_iff_exists.1 (h j hj).1
  have hlt : b < w.heap.size := block_lt_of_cell hu
  rw [bq.cell (p := ⟨b, o + j, none⟩) hlt, bq.frozen (p := ⟨b, o + j, none⟩) hlt]; exact h j hj
theorem results_mid {fn : Func} {p : Tmp} (h : fn.results = #[.cell p 23]) (tmps : Array Value) (w : World) (b : Nat) (g : Hs) (hp : tmps.getD p undef = .pointer (some ⟨b, 0, none⟩)) (hr : w.rangeAt b 0 (hv g)) :
    (results fn tmps).run Tryd.prog w = .ok (.agg (hv g).toArray) w := by
  have hp' : tmps[p]?.getD undef = .pointer (some ⟨b, 0, none⟩) := by simpa using hp
  have hl := run_loadVar_mid (P := Tryd.prog) w b 0 23 (hv g) _ hr Tryd.underlying23 rfl (infoH g)
  simp only [results, h]
  simp [Sem.run_bind, Result.andThen, hp', asAddr, hl]
theorem below_setCells {B : Nat} {w0 : World} {b : Nat} (hb : B ≤ b) : ∀ (vs : List Value) (o : Nat) {w : World}, Below B w0 w → Below B w0 (w.setCells b o vs)
  | [], _, _, h => h
  | v :: r, o, w, h => below_setCells hb r (o + 1) (h.setCell (p := ⟨b, o, none⟩) hb v)
theorem leaf_hv (s : ByteArray) (w : World) (hK : KIn w) (hs : s.size < 1152921504606845000) :
    Calls Tryd.prog 12 #[.string s] w fun e w' => e = .returned (.agg (hv (leaf s.data.toList)).toArray) ∧ Below w.heap.size w w' := by
  rw [hv_b32]; exact leaf_any s w hK hs
theorem sum_hv (s : ByteArray) (w : World) (hK : KIn w) (hs : s.size < 1152921504606846000) :
    Calls Tryd.prog 22 #[.string s] w fun e w' => e = .returned (.agg (hv (dg s.data.toList)).toArray) ∧ Below w.heap.size w w' := by
  rw [hv_b32]; exact sum_any s w hK hs
end Go.Proofs.YtlpiokepagkahaaDoor
