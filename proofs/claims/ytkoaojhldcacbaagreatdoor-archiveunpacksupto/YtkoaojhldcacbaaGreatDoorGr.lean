import Derived.Test.YtkoaojhldcacbaaGreatDoorGe
import Derived.Test.YtkoaojhldcacbaaGreatDoorRows
import Derived.ProofKit
import Derived.OpenShut
import Derived.JoinedCond
import Derived.SizedLaws
import Derived.Deep.Slices
import Derived.Test.YtkoaojhldcacbaaGreatDoorGk
import Derived.Test.YtkoaojhldcacbaaGreatDoorGm
import Derived.Test.YtkoaojhldcacbaaGreatDoorGu
import Derived.Test.YtkoaojhldcacbaaGreatDoorGs
import Derived.Test.YtkoaojhldcacbaaGreatDoorGd
import Derived.ShutString
import Derived.ChangeOld
import Derived.ChangeSame
import Derived.ChangeVars
import Derived.JoinedOf
import Derived.RowKit
import Derived.Carry
import Derived.LaidLaws
import Derived.LaidHandle
import Derived.Lib.LaidTab
import Derived.LaidSub
import Derived.Lay
import Derived.Stop.LaidErr
import Derived.Stop.Joined
/- Slices of entries that came in. -/
namespace Go.Proofs.YtkoaojhldcacbaaGreatDoor
set_option maxRecDepth 100000
set_option linter.unusedVariables false
set_option linter.unusedSimpArgs false
open Go.ChangeShapes Go.WideShapes Go.ChangeAt Go.RowKit
theorem own : ownKnob Tryz.prog.godebug = none := by kernel_rfl
theorem str_of (a : ByteArray) : str a.data.toList = .string a := by simp [str]
end Go.Proofs.YtkoaojhldcacbaaGreatDoor

/- How much room a slice of entries has that came in. -/
namespace Go.Proofs.YtkoaojhldcacbaaGreatDoor
set_option maxRecDepth 100000
set_option linter.unusedVariables false
set_option linter.unusedSimpArgs false
open Go.ChangeShapes Go.WideShapes Go.ChangeAt Go.RowKit
end Go.Proofs.YtkoaojhldcacbaaGreatDoor

/- A manifest of the document's that came in. -/
namespace Go.Proofs.YtkoaojhldcacbaaGreatDoor
set_option maxRecDepth 100000
set_option linter.unusedVariables false
set_option linter.unusedSimpArgs false
open Go.ChangeShapes Go.WideShapes Go.ChangeAt Go.RowKit
open Go.Proofs.YtkoaojhldcacbaaGreatDoorH (hv hv_length hv_get)
end Go.Proofs.YtkoaojhldcacbaaGreatDoor

/- A bucket that came in. -/
namespace Go.Proofs.YtkoaojhldcacbaaGreatDoor
set_option maxRecDepth 100000
set_option linter.unusedVariables false
set_option linter.unusedSimpArgs false
open Go.ChangeShapes Go.WideShapes Go.ChangeAt Go.RowKit
end Go.Proofs.YtkoaojhldcacbaaGreatDoor

/- A slice of integers that came in; a byte. -/
namespace Go.Proofs.YtkoaojhldcacbaaGreatDoor
set_option maxRecDepth 100000
open Go.ChangeShapes Go.WideShapes Go.ChangeAt Go.RowKit
set_option linter.unusedVariables false
set_option linter.unusedSimpArgs false
def IntsAt (w : World) (a : Option Addr) (len : Nat) : Prop :=
  ∀ k, k < len → ∃ (b off : Nat) (z : Int), a = some ⟨b, off, none⟩ ∧ b < w.heap.size ∧ w.cell? ⟨b, off + k, none⟩ = some (.int .i64 z) ∧ (Lit.int .i64 z).wf = true
theorem IntsAt.later {w w' : World} {a : Option Addr} {n : Nat} (h : IntsAt w a n) (hb : Below w.heap.size w w') : IntsAt w' a n := fun k hk => by
  obtain ⟨b, off, z, e, h1, h2, h3⟩ := h k hk
  exact ⟨b, off, z, e, Nat.lt_of_lt_of_le h1 hb.size, (hb.cell (p := ⟨b, _, none⟩) h1).trans h2, h3⟩
end Go.Proofs.YtkoaojhldcacbaaGreatDoor

/- From the listed variables to their cells; a world that meets the condition. -/
namespace Go.Proofs.YtkoaojhldcacbaaGreatDoor
set_option maxRecDepth 100000
set_option linter.unusedVariables false
set_option linter.unusedSimpArgs false
open Go.ChangeShapes Go.WideShapes Go.ChangeAt Go.RowKit
open Go.Proofs.YtkoaojhldcacbaaGreatDoorP (TB)
open Go.Proofs.YtkoaojhldcacbaaGreatDoorH (KIn)
abbrev laid1 : List (String × DataW Unit) := [("math/bits.deBruijn32tab", Rows.laid_math_bits_deBruijn32tab), ("math/bits.deBruijn64tab", Rows.laid_math_bits_deBruijn64tab), ("internal/strconv.uint64pow10", Rows.laid_internal_strconv_uint64pow10), ("strconv.ErrRange", Rows.laid_strconv_ErrRange), ("strconv.ErrSyntax", Rows.laid_strconv_ErrSyntax), ("coffer/hash.cubeRoots", Rows.laid_coffer_hash_cubeRoots)]
theorem gP : Tryz.prog.globalNamed "internal/strconv.uint64pow10" = some 0 := by kernel_rfl
theorem gPType : (Tryz.prog.globals[0]?).map (·.type) = some 210 := by kernel_rfl
theorem lcells48 : Tryz.prog.cellsOf 131 = 1 := by kernel_rfl
theorem lcells55 : Tryz.prog.cellsOf 210 = 20 := by kernel_rfl
theorem laid_met {W : World} (h : laidMetH Tryz.prog laid1 W) : laidMet Tryz.prog laid1 W := h
theorem tb_of_laid {W : World} (h : laidMetH Tryz.prog laid1 W) : TB W := by
  have h1 : laidMet Tryz.prog laid1 W := laid_met h
  have h2 := h1.filter (fun x => x.1 == "internal/strconv.uint64pow10")
  have h3 : laidMet Tryz.prog [("internal/strconv.uint64pow10", Lib.tabData .u64 Lib.pow10Tab)] W := h2
  exact ⟨Lib.tabIs_of_head gP gPType Tryz.underlying210 Tryz.underlying131 lcells48 lcells55 h3⟩
def kz : List Int := [1116352408, 1899447441, 3049323471, 3921009573, 961987163, 1508970993, 2453635748, 2870763221, 3624381080, 310598401, 607225278, 1426881987, 1925078388, 2162078206, 2614888103, 3248222580, 3835390401, 4022224774, 264347078, 604807628, 770255983, 1249150122, 1555081692, 1996064986, 2554220882, 2821834349, 2952996808, 3210313671, 3336571891, 3584528711, 113926993, 338241895, 666307205, 773529912, 1294757372, 1396182291, 1695183700, 1986661051, 2177026350, 2456956037, 2730485921, 2820302411, 3259730800, 3345764771, 3516065817, 3600352804, 4094571909, 275423344, 430227734, 506948616, 659060556, 883997877, 958139571, 1322822218, 1537002063, 1747873779, 1955562222, 2024104815, 2227730452, 2361852424, 2428436474, 2756734187, 3204031479, 3329325298]
theorem gK : Tryz.prog.globalNamed "coffer/hash.cubeRoots" = some 1 := by kernel_rfl
theorem gKType : (Tryz.prog.globals[1]?).map (·.type) = some 154 := by kernel_rfl
theorem lcells32 : Tryz.prog.cellsOf 152 = 1 := by kernel_rfl
theorem lcells64 : Tryz.prog.cellsOf 154 = 64 := by kernel_rfl
theorem kz_kt : ∀ t, t < 64 → kz.getD t 0 = ((Go.Proofs.YtkoaojhldcacbaaGreatDoorH.Sha.kt t).toNat : Int) := by decide +kernel
theorem kin_of_laid {W : World} (h : laidMetH Tryz.prog laid1 W) : KIn W := by
  have h1 : laidMet Tryz.prog laid1 W := laid_met h
  have h2 := h1.filter (fun x => x.1 == "coffer/hash.cubeRoots")
  have h' : laidMet Tryz.prog [("coffer/hash.cubeRoots", Lib.tabData .u32 kz)] W := h2
  have hT := Lib.tabIs_of_head gK gKType Tryz.underlying154 Tryz.underlying152 lcells32 lcells64 h'
  intro t ht
  rw [hT.cell gK t (by show t < 64; exact ht), kz_kt t ht]
theorem gES : Tryz.prog.globalNamed "strconv.ErrSyntax" = some 5 := by kernel_rfl
theorem gESType : (Tryz.prog.globals[5]?).map (·.type) = some 98 := by kernel_rfl
theorem gER : Tryz.prog.globalNamed "strconv.ErrRange" = some 6 := by kernel_rfl
theorem gERType : (Tryz.prog.globals[6]?).map (·.type) = some 98 := by kernel_rfl
theorem lcellsE : Tryz.prog.cellsOf 254 = 1 := by kernel_rfl
theorem lcells9 : Tryz.prog.cellsOf 9 = 1 := by kernel_rfl
theorem star : "*" ++ "errors.errorString" = "*errors.errorString" := by decide
theorem rowE (u : TypeId) (h : Tryz.prog.typeName? 3 u = some "*errors.errorString") : u = 252 :=
  typeName_ptr_named (nm := "errors.errorString") (by rw [star]; kernel_rfl) (by kernel_rfl) (by decide) u (by rw [star]; exact h)
theorem eg_of_laid {W : World} (h : laidMetH Tryz.prog laid1 W) : EG W := by
  have h1 : laidMet Tryz.prog laid1 W := laid_met h
  have h2 : laidMet Tryz.prog [("strconv.ErrSyntax", Rows.laid_strconv_ErrSyntax)] W := h1.filter (fun x => x.1 == "strconv.ErrSyntax")
  have h3 : laidMet Tryz.prog [("strconv.ErrRange", Rows.laid_strconv_ErrRange)] W := h1.filter (fun x => x.1 == "strconv.ErrRange")
  obtain ⟨a0, s0, hv0, -, -, -⟩ := laid_sentinel h2 gES gESType Tryz.underlying98 rowE Tryz.underlying252 Tryz.underlying254 rfl rfl Tryz.underlying9 lcellsE lcells9
  obtain ⟨a1, s1, hv1, -, -, -⟩ := laid_sentinel h3 gER gERType Tryz.underlying98 rowE Tryz.underlying252 Tryz.underlying254 rfl rfl Tryz.underlying9 lcellsE lcells9
  have c0 := World.var?_cell gES hv0 0
  have c1 := World.var?_cell gER hv1 0
  refine ⟨?_, ?_⟩
  · first
    | exact ⟨_, _, by simpa using c0⟩
    | exact ⟨_, _, by simpa using c1⟩
  · first
    | exact ⟨_, _, by simpa using c1⟩
    | exact ⟨_, _, by simpa using c0⟩
noncomputable def laidWorld (os : Os) : World := World.laidAll Tryz.prog os laid1
theorem laidWorld_os (os : Os) : (laidWorld os).os = os := World.laidAll_os _ _ _
theorem laidWorld_met (os : Os) (args : Array Value) : laidMetH Tryz.prog laid1 ((laidWorld os).forCall (fun _ _ => 0) ⟨#[], args, []⟩).memory :=
  laidMetH_of_parts (laidMet_laidAll args (by kernel_rfl) (by kernel_rfl)) (by kernel_rfl)
/-- one start that meets the condition -/
theorem wit_laid {H : Type} {enc : TypeId × Value → H} {os : Os} {f : FuncId} {fn : Func} {s : ChangeSpec} {conds : List PathCond} {apart : Bool} {X : World → Array Value → Prop} (modest : Bool) (args : Array Value) (fuel : Nat)
    (hsh : ((laidWorld os).forCall (fun _ _ => 0) ⟨#[], args, []⟩).Shaped Tryz.checked.prog)
    (hok : Input.okWideB Tryz.checked.prog ((laidWorld os).forCall (fun _ _ => 0) ⟨#[], args, []⟩) f ⟨#[], args, []⟩ = true)
    (hpre : s.preB enc Tryz.checked.prog fn conds apart ((laidWorld os).forCall (fun _ _ => 0) ⟨#[], args, []⟩).memory args fuel = true)
    (hsz : s.sizedB enc Tryz.checked.prog fn apart ((laidWorld os).forCall (fun _ _ => 0) ⟨#[], args, []⟩).memory args fuel = true)
    (hx : X ((laidWorld os).forCall (fun _ _ => 0) ⟨#[], args, []⟩).memory args) :
    ∃ (w : World) (tape : Tape) (i : Input), w.os = os ∧ (w.forCall tape i).Shaped Tryz.checked.prog ∧ i.vars = [] ∧ Input.okWide Tryz.checked.prog (w.forCall tape i) .any w.heap.size f i ∧
      ((s.pre enc Tryz.checked.prog fn conds apart (w.forCall tape i).memory i.args ∧ X (w.forCall tape i).memory i.args) ∧ sizedMet enc Tryz.checked.prog fn (OpenSpec.ofChange s) apart (w.forCall tape i).memory i.args) ∧ ({ modest := modest } : Assume).holds Tryz.checked.prog (lone (Frame.enter Tryz.checked.prog f i.args .normal) [] (w.forCall tape i)) :=
  ⟨laidWorld os, fun _ _ => 0, ⟨#[], args, []⟩, laidWorld_os os, hsh, (Input.okWide_of_okWideB (base := 0) hok).1, (Input.okWide_of_okWideB hok).2, ⟨⟨ChangeSpec.pre_of_preB hpre, hx⟩, sizedMet_of_sizedB hsz⟩, by
    simp only [Assume.holds]
    exact ⟨by simp, by simp, fun _ => Modest.zero, by simp, by simp⟩⟩
end Go.Proofs.YtkoaojhldcacbaaGreatDoor

/- Where the bulk of what came in is bounded. -/
namespace Go.Proofs.YtkoaojhldcacbaaGreatDoor
set_option maxRecDepth 100000
set_option linter.unusedVariables false
set_option linter.unusedSimpArgs false
open Go.ChangeShapes Go.WideShapes Go.ChangeAt Go.RowKit
theorem bulk_mem {H : Type} : ∀ (l : List (DataW H)) (d : DataW H), d ∈ l → Rows.uptoBulk d ≤ Rows.uptoBulkAll l
  | x :: r, d, h => by
    simp only [Rows.uptoBulkAll]
    rcases List.mem_cons.1 h with rfl | h
    · omega
    · have := bulk_mem r d h; omega
theorem bulk_str {H : Type} {enc : TypeId × Value → H} {W : World} {d : DataW H} {p : List MemPlace} (h : DataW.Trod enc Tryz.prog W 0 (fun _ => true) true 9 (.string ByteArray.empty) d p) : Rows.uptoBulk d ≤ 64 := by
  obtain ⟨fuel, hf⟩ := h
  obtain ⟨s, e, y, -⟩ := DataW.trod_string Tryz.underlying9 hf
  simp [Value.cells] at e
  subst e
  have hd := congrArg Prod.fst y
  simp at hd
  rw [hd]
  simp [Rows.uptoBulk]
end Go.Proofs.YtkoaojhldcacbaaGreatDoor
