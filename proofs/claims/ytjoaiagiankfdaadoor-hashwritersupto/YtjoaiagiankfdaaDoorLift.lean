/- From the listed variable to its cells; a world that meets the condition; an array of 32 bytes that came in. -/
import Derived.Test.YtjoaiagiankfdaaDoorHead
import Derived.ProofKit
import Derived.OpenShut
import Derived.ShutString
import Derived.ChangeOld
import Derived.ChangeSame
import Derived.ChangeVars
import Derived.JoinedOf
import Derived.RowKit
import Derived.Carry
import Derived.LaidLaws
import Derived.LaidHandle
import Derived.Lib.LaidTab
import Derived.Stop.Joined
import Derived.SizedLaws
namespace Go.Proofs.YtjoaiagiankfdaaDoor
open Go.ChangeShapes Go.WideShapes Go.ChangeAt Go.RowKit
set_option linter.unusedVariables false
set_option linter.unusedSimpArgs false
theorem own : ownKnob Tryd.prog.godebug = none := by kernel_rfl
def kz : List Int := [1116352408, 1899447441, 3049323471, 3921009573, 961987163, 1508970993, 2453635748, 2870763221, 3624381080, 310598401, 607225278, 1426881987, 1925078388, 2162078206, 2614888103, 3248222580, 3835390401, 4022224774, 264347078, 604807628, 770255983, 1249150122, 1555081692, 1996064986, 2554220882, 2821834349, 2952996808, 3210313671, 3336571891, 3584528711, 113926993, 338241895, 666307205, 773529912, 1294757372, 1396182291, 1695183700, 1986661051, 2177026350, 2456956037, 2730485921, 2820302411, 3259730800, 3345764771, 3516065817, 3600352804, 4094571909, 275423344, 430227734, 506948616, 659060556, 883997877, 958139571, 1322822218, 1537002063, 1747873779, 1955562222, 2024104815, 2227730452, 2361852424, 2428436474, 2756734187, 3204031479, 3329325298]
def kcells : Array Value := #[.int .u32 1116352408, .int .u32 1899447441, .int .u32 3049323471, .int .u32 3921009573, .int .u32 961987163, .int .u32 1508970993, .int .u32 2453635748, .int .u32 2870763221, .int .u32 3624381080, .int .u32 310598401, .int .u32 607225278, .int .u32 1426881987, .int .u32 1925078388, .int .u32 2162078206, .int .u32 2614888103, .int .u32 3248222580, .int .u32 3835390401, .int .u32 4022224774, .int .u32 264347078, .int .u32 604807628, .int .u32 770255983, .int .u32 1249150122, .int .u32 1555081692, .int .u32 1996064986, .int .u32 2554220882, .int .u32 2821834349, .int .u32 2952996808, .int .u32 3210313671, .int .u32 3336571891, .int .u32 3584528711, .int .u32 113926993, .int .u32 338241895, .int .u32 666307205, .int .u32 773529912, .int .u32 1294757372, .int .u32 1396182291, .int .u32 1695183700, .int .u32 1986661051, .int .u32 2177026350, .int .u32 2456956037, .int .u32 2730485921, .int .u32 2820302411, .int .u32 3259730800, .int .u32 3345764771, .int .u32 3516065817, .int .u32 3600352804, .int .u32 4094571909, .int .u32 275423344, .int .u32 430227734, .int .u32 506948616, .int .u32 659060556, .int .u32 883997877, .int .u32 958139571, .int .u32 1322822218, .int .u32 1537002063, .int .u32 1747873779, .int .u32 1955562222, .int .u32 2024104815, .int .u32 2227730452, .int .u32 2361852424, .int .u32 2428436474, .int .u32 2756734187, .int .u32 3204031479, .int .u32 3329325298]
abbrev laid1 : List (String × DataW Unit) := [("coffer/hash.cubeRoots", Rows.laid_coffer_hash_cubeRoots)]
theorem gK : Tryd.prog.globalNamed "coffer/hash.cubeRoots" = some 0 := by kernel_rfl
theorem gKType : (Tryd.prog.globals[0]?).map (·.type) = some 54 := by kernel_rfl
theorem cells48 : Tryd.prog.cellsOf 48 = 1 := by kernel_rfl
theorem cells54 : Tryd.prog.cellsOf 54 = 64 := by kernel_rfl
theorem cells22 : Tryd.prog.cellsOf 22 = 32 := by kernel_rfl
theorem cells5 : Tryd.prog.cellsOf 5 = 1 := by kernel_rfl
theorem kz_kt : ∀ t, t < 64 → kz.getD t 0 = ((Sha.kt t).toNat : Int) := by decide +kernel
theorem kin_of_laid {W : World} (h : laidMetH Tryd.prog laid1 W) : KIn W := by
  have h' : laidMet Tryd.prog [("coffer/hash.cubeRoots", Lib.tabData .u32 kz)] W := h
  have hT := Lib.tabIs_of_head gK gKType Tryd.underlying54 Tryd.underlying48 cells48 cells54 h'
  intro t ht
  rw [hT.cell gK t (by show t < 64; exact ht), kz_kt t ht]
noncomputable def laidWorld (os : Os) : World :=
  { World.holding Tryd.prog os ⟨#[], #[], []⟩ with heap := (World.holding Tryd.prog os ⟨#[], #[], []⟩).heap.modify 0 fun
      | .cells _ t frozen => .cells kcells t frozen
      | o => o }
theorem laidWorld_met (os : Os) (args : Array Value) : laidMetH Tryd.prog laid1 ((laidWorld os).forCall (fun _ _ => 0) ⟨#[], args, []⟩).memory :=
  laidMetH_of_parts (laidMet_of_run' 8 (by kernel_rfl) (by kernel_rfl)) (by kernel_rfl)
/-- An array of 32 bytes that came in. -/
theorem open32 {H : Type} {enc : TypeId × Value → H} {W : World} {base base' : Nat} {sp : Nat → Bool} {held : Bool} {v : Value} {d : DataW H} {ps : List MemPlace} (hv : Value.okWide Tryd.prog W .any base 22 v)
    (h : DataW.Trod enc Tryd.prog W base' sp held 22 v d ps) : ∃ g : Nat → UInt8, v = .agg (b32 g) ∧ ps = [] := by
  obtain ⟨cs, rfl, hs, _⟩ : ∃ cs, v = .agg cs ∧ cs.size = Tryd.prog.cellsOf 22 ∧ _ := by
    simp only [Value.okWide, Tryd.underlying22] at hv
    exact hv
  rw [cells22] at hs
  obtain ⟨fuel, hf⟩ := h
  obtain ⟨xs, m, rfl, hx, hl, hn, hi⟩ := DataW.trod_array Tryd.underlying22 hf
  have each : ∀ i, i < 32 → ∃ b : UInt8, cs[i]? = some (.int .u8 (b.toNat : Int)) ∧ ∃ l, xs[i]? = some (.lit l, []) := by
    intro i h32
    have := hi i h32
    rw [cells5, Nat.mul_one] at this
    cases hq : xs[i]? with
    | none => rw [List.getElem?_eq_none_iff] at hq; omega
    | some y =>
      rw [hq] at this
      obtain ⟨z, hz, rfl, wf⟩ := DataW.trod_int Tryd.underlying5 this
      have hb := bounds_u8 wf
      refine ⟨UInt8.ofNat z.toNat, ?_, ⟨_, rfl⟩⟩
      have e1 : (Value.cells (.agg cs)).toList = cs.toList := rfl
      rw [e1] at hz
      have h3 : i < cs.toList.length := by rw [Array.length_toList]; omega
      rw [List.drop_eq_getElem_cons h3, List.take_succ_cons, List.take_zero] at hz
      have h4 : cs.toList[i] = .int .u8 z := by injection hz
      rw [Array.getElem?_eq_getElem (by omega), ← Array.getElem_toList, h4, UInt8.toNat_ofNat']
      congr 2
      omega
  obtain ⟨g, hg⟩ : ∃ g : Nat → UInt8, ∀ i, i < 32 → cs[i]? = some (.int .u8 ((g i).toNat : Int)) := by
    refine ⟨fun i => if h : i < 32 then (each i h).choose else 0, fun i h => ?_⟩
    simp only [dif_pos h]
    exact (each i h).choose_spec.1
  refine ⟨g, ?_, ?_⟩
  · congr 1
    apply Array.ext_getElem?
    intro i
    by_cases h : i < 32
    · rw [hg i h, b32_get g i h]
    · rw [Array.getElem?_eq_none (by omega), Array.getElem?_eq_none (by rw [b32_size]; omega)]
  · have := congrArg Prod.snd hx
    simp only at this
    rw [this, List.flatMap_eq_nil_iff]
    intro x hxm
    obtain ⟨i, hi2, rfl⟩ := List.getElem_of_mem hxm
    obtain ⟨b, _, l, hl2⟩ := each i (by omega)
    rw [List.getElem?_eq_getElem hi2] at hl2
    rw [Option.some.inj hl2]
theorem read22 {H : Type} {enc : TypeId × Value → H} {W W' : World} {v : Value} {d : DataW H} (h : DataW.Trod enc Tryd.prog W 0 (fun _ => true) true 22 v d []) (hb : Below W.heap.size W W') :
    DataW.Trod enc Tryd.prog W' 0 (fun b => decide (b < W.heap.size)) true 22 v d [] :=
  Below.trod (P := Tryd.prog) (by kernel_rfl) (by kernel_rfl) (of_decide_eq_true (by kernel_rfl)) h hb (fun x hx => by cases hx)
end Go.Proofs.YtjoaiagiankfdaaDoor
