/- From the listed variables to their cells; a world that meets the condition. -/
import Derived.Test.YtgbkloihclbimaaDoorGi
import Derived.Test.YtgbkloihclbimaaDoorRows
import Derived.Test.YtgbkloihclbimaaDoorGd
import Derived.ProofKit
import Derived.OpenShut
import Derived.ShutString
import Derived.ChangeOld
import Derived.ChangeSame
import Derived.ChangeVars
import Derived.JoinedOf
import Derived.RowKit
import Derived.Carry
import Derived.LaidLaws
import Derived.LaidHandle
import Derived.Lib.LaidTab
import Derived.LaidSub
import Derived.Lay
import Derived.Stop.LaidErr
import Derived.Stop.Joined
import Derived.SizedLaws
namespace Go.Proofs.YtgbkloihclbimaaDoor
set_option maxRecDepth 100000
set_option linter.unusedVariables false
set_option linter.unusedSimpArgs false
open Go.ChangeShapes Go.WideShapes Go.ChangeAt Go.RowKit
theorem wf8 {n : Int} (h : (Lit.int .u8 n).wf = true) : ∃ c : UInt8, n = (c.toNat : Int) := by
  have h2 : 0 ≤ n ∧ n ≤ 255 := by simpa [Lit.wf, IntKind.min, IntKind.max, IntKind.signed, IntKind.bits] using h
  refine ⟨UInt8.ofNat n.toNat, ?_⟩
  rw [UInt8.toNat_ofNat']
  omega
abbrev laid1 : List (String × DataW Unit) := [("math/bits.deBruijn32tab", Rows.laid_math_bits_deBruijn32tab), ("math/bits.deBruijn64tab", Rows.laid_math_bits_deBruijn64tab), ("internal/strconv.uint64pow10", Rows.laid_internal_strconv_uint64pow10), ("strconv.ErrRange", Rows.laid_strconv_ErrRange), ("strconv.ErrSyntax", Rows.laid_strconv_ErrSyntax), ("coffer/script.shapes", Rows.laid_coffer_script_shapes)]
theorem gP : Tryd.prog.globalNamed "internal/strconv.uint64pow10" = some 1 := by kernel_rfl
theorem gPType : (Tryd.prog.globals[1]?).map (·.type) = some 120 := by kernel_rfl
theorem lcells48 : Tryd.prog.cellsOf 109 = 1 := by kernel_rfl
theorem lcells55 : Tryd.prog.cellsOf 120 = 20 := by kernel_rfl
theorem laid_met {W : World} (h : laidMetH Tryd.prog laid1 W) : laidMet Tryd.prog laid1 W := h
theorem tb_of_laid {W : World} (h : laidMetH Tryd.prog laid1 W) : TB W := by
  have h1 : laidMet Tryd.prog laid1 W := laid_met h
  have h2 := h1.filter (fun x => x.1 == "internal/strconv.uint64pow10")
  have h3 : laidMet Tryd.prog [("internal/strconv.uint64pow10", Lib.tabData .u64 Lib.pow10Tab)] W := h2
  exact ⟨Lib.tabIs_of_head gP gPType Tryd.underlying120 Tryd.underlying109 lcells48 lcells55 h3⟩
theorem gES : Tryd.prog.globalNamed "strconv.ErrSyntax" = some 5 := by kernel_rfl
theorem gESType : (Tryd.prog.globals[5]?).map (·.type) = some 126 := by kernel_rfl
theorem gER : Tryd.prog.globalNamed "strconv.ErrRange" = some 6 := by kernel_rfl
theorem gERType : (Tryd.prog.globals[6]?).map (·.type) = some 126 := by kernel_rfl
theorem lcellsE : Tryd.prog.cellsOf 149 = 1 := by kernel_rfl
theorem lcells9 : Tryd.prog.cellsOf 9 = 1 := by kernel_rfl
theorem star : "*" ++ "errors.errorString" = "*errors.errorString" := by decide
theorem rowE (u : TypeId) (h : Tryd.prog.typeName? 3 u = some "*errors.errorString") : u = 147 :=
  typeName_ptr_named (nm := "errors.errorString") (by rw [star]; kernel_rfl) (by kernel_rfl) (by decide) u (by rw [star]; exact h)
theorem eg_of_laid {W : World} (h : laidMetH Tryd.prog laid1 W) : EG W := by
  have h1 : laidMet Tryd.prog laid1 W := laid_met h
  have h2 : laidMet Tryd.prog [("strconv.ErrSyntax", Rows.laid_strconv_ErrSyntax)] W := h1.filter (fun x => x.1 == "strconv.ErrSyntax")
  have h3 : laidMet Tryd.prog [("strconv.ErrRange", Rows.laid_strconv_ErrRange)] W := h1.filter (fun x => x.1 == "strconv.ErrRange")
  obtain ⟨a0, s0, hv0, -, -, -⟩ := laid_sentinel h2 gES gESType Tryd.underlying126 rowE Tryd.underlying147 Tryd.underlying149 rfl rfl Tryd.underlying9 lcellsE lcells9
  obtain ⟨a1, s1, hv1, -, -, -⟩ := laid_sentinel h3 gER gERType Tryd.underlying126 rowE Tryd.underlying147 Tryd.underlying149 rfl rfl Tryd.underlying9 lcellsE lcells9
  have c0 := World.var?_cell gES hv0 0
  have c1 := World.var?_cell gER hv1 0
  refine ⟨?_, ?_⟩
  · first
    | exact ⟨_, _, by simpa using c0⟩
    | exact ⟨_, _, by simpa using c1⟩
  · first
    | exact ⟨_, _, by simpa using c1⟩
    | exact ⟨_, _, by simpa using c0⟩
/-- the table of shapes -/
def shD1 (s : Shp) : DataW Unit := .agg [.lit (.string s.name), .lit (.int .i64 s.kind), .lit (.int .i64 s.step), .lit (.string s.parts)]
def shDs : DataW Unit := .agg (shps.map shD1)
theorem shDs_eq : (Rows.laid_coffer_script_shapes : DataW Unit) = shDs := by rfl
theorem gS : Tryd.prog.globalNamed "coffer/script.shapes" = some 0 := by kernel_rfl
theorem gSType : (Tryd.prog.globals[0]?).map (·.type) = some 71 := by kernel_rfl
theorem lcellsS : Tryd.prog.cellsOf 52 = 4 := by kernel_rfl
theorem lcells3 : Tryd.prog.cellsOf 3 = 1 := by kernel_rfl
theorem arr_elem {w : World} {fuel : Nat} {t e : TypeId} {n : Nat} {cs : List Value} {ds : List (DataW Unit)} {p : List MemPlace} (ht : Tryd.prog.underlying t = some (.array n e))
    (h : DataW.trod (fun _ => ()) Tryd.prog w 0 (fun _ => true) false fuel t cs = some (.agg ds, p)) (i : Nat) (hi : i < n) :
    ∃ fuel' d q, ds[i]? = some d ∧ DataW.trod (fun _ => ()) Tryd.prog w 0 (fun _ => true) false fuel' e ((cs.drop (i * Tryd.prog.cellsOf e)).take (Tryd.prog.cellsOf e)) = some (d, q) := by
  cases fuel with
  | zero => simp [DataW.trod] at h
  | succ fuel =>
    simp only [DataW.trod, ht] at h
    split at h
    · obtain ⟨xs, hm, hx⟩ := Option.map_eq_some_iff.1 h
      obtain ⟨b, hb, hf⟩ := Lib.mapM_at hm i i (by simp [hi])
      have hds : xs.map (·.1) = ds := by
        have := congrArg Prod.fst hx
        simpa using this
      exact ⟨fuel, b.1, b.2, by rw [← hds]; simp [hb], hf⟩
    · cases h
theorem sh_cells {w : World} {fuel : Nat} {cs : List Value} {s : Shp} {q : List MemPlace} (h : DataW.trod (fun _ => ()) Tryd.prog w 0 (fun _ => true) false fuel 52 cs = some (shD1 s, q)) : cs = scs s := by
  obtain ⟨xs, n, rfl, hx, hl, hxl, hall⟩ := DataW.trod_struct Tryd.underlying52 h
  have hxs : xs.map (·.1) = [.lit (.string s.name), .lit (.int .i64 s.kind), .lit (.int .i64 s.step), .lit (.string s.parts)] := by
    have := congrArg Prod.fst hx
    simpa [shD1] using this.symm
  rw [lcellsS] at hl
  obtain ⟨c0, c1, c2, c3, rfl⟩ : ∃ a b c d, cs = [a, b, c, d] := by
    match cs, hl with
    | [a, b, c, d], _ => exact ⟨a, b, c, d, rfl⟩
  match xs, hxs with
  | [x0, x1, x2, x3], hxs =>
    simp only [List.map_cons, List.map_nil, List.cons.injEq, and_true] at hxs
    obtain ⟨e0, e1, e2, e3⟩ := hxs
    have t0 : DataW.trod (fun _ => ()) Tryd.prog w 0 (fun _ => true) false n 9 (([c0, c1, c2, c3].drop 0).take (Tryd.prog.cellsOf 9)) = some x0 := hall 0 _ rfl
    rw [lcells9] at t0
    have t1 : DataW.trod (fun _ => ()) Tryd.prog w 0 (fun _ => true) false n 3 (([c0, c1, c2, c3].drop 1).take (Tryd.prog.cellsOf 3)) = some x1 := hall 1 _ rfl
    rw [lcells3] at t1
    have t2 : DataW.trod (fun _ => ()) Tryd.prog w 0 (fun _ => true) false n 3 (([c0, c1, c2, c3].drop 2).take (Tryd.prog.cellsOf 3)) = some x2 := hall 2 _ rfl
    rw [lcells3] at t2
    have t3 : DataW.trod (fun _ => ()) Tryd.prog w 0 (fun _ => true) false n 9 (([c0, c1, c2, c3].drop 3).take (Tryd.prog.cellsOf 9)) = some x3 := hall 3 _ rfl
    rw [lcells9] at t3
    obtain ⟨b0, d0, f0, -⟩ := DataW.trod_string Tryd.underlying9 t0
    obtain ⟨z1, d1, f1, -⟩ := DataW.trod_int Tryd.underlying3 t1
    obtain ⟨z2, d2, f2, -⟩ := DataW.trod_int Tryd.underlying3 t2
    obtain ⟨b3, d3, f3, -⟩ := DataW.trod_string Tryd.underlying9 t3
    rw [f0] at e0
    rw [f1] at e1
    rw [f2] at e2
    rw [f3] at e3
    simp at d0 d1 d2 d3 e0 e1 e2 e3
    subst d0 d1 d2 d3
    unfold scs
    rw [← e0, ← e1, ← e2, ← e3]
theorem sg_of_laid {W : World} (h : laidMetH Tryd.prog laid1 W) : SG W := by
  have h1 : laidMet Tryd.prog laid1 W := laid_met h
  have h2 : laidMet Tryd.prog [("coffer/script.shapes", shDs)] W := h1.filter (fun x => x.1 == "coffer/script.shapes")
  obtain ⟨ps, ⟨g', t', cs, fuel, p, q, hg', ht', hvar, hd, _, _⟩, _⟩ := h2
  obtain rfl := Option.some.inj (gS.symm.trans hg')
  obtain rfl := Option.some.inj (gSType.symm.trans ht')
  intro j v hv
  have hj := (List.getElem?_eq_some_iff.1 hv).1
  rw [shCells_len] at hj
  obtain ⟨f1, d1, q1, hd1, he⟩ := arr_elem Tryd.underlying71 hd (j / 4) (by omega)
  rw [lcellsS] at he
  have hs22 : j / 4 < 22 := by omega
  rw [List.getElem?_map, shAt_get hs22] at hd1
  injection hd1 with hd1
  subst hd1
  have hc := sh_cells he
  have hat := sh_at shps (j / 4) hs22
  have hj4 : j % 4 < 4 := Nat.mod_lt _ (by decide)
  have key : cs.toList[j]? = shCells[j]? := by
    have a1 := congrArg (·[j % 4]?) hc
    have a2 := congrArg (·[j % 4]?) hat
    simp only [List.getElem?_take, List.getElem?_drop, if_pos hj4] at a1 a2
    have ej : j / 4 * 4 + j % 4 = j := by omega
    rw [ej] at a1 a2
    unfold shCells
    rw [a1, a2]; rfl
  rw [Nat.zero_add, World.var?_cell gS hvar j, ← Array.getElem?_toList, key]
  exact hv
noncomputable def laidWorld (os : Os) : World := World.laidAll Tryd.prog os laid1
theorem laidWorld_os (os : Os) : (laidWorld os).os = os := World.laidAll_os _ _ _
theorem laidWorld_met (os : Os) (args : Array Value) : laidMetH Tryd.prog laid1 ((laidWorld os).forCall (fun _ _ => 0) ⟨#[], args, []⟩).memory :=
  laidMetH_of_parts (laidMet_laidAll args (by kernel_rfl) (by kernel_rfl)) (by kernel_rfl)
/-- one start that meets the condition -/
theorem wit_laid {H : Type} {enc : TypeId × Value → H} {os : Os} {f : FuncId} {fn : Func} {s : ChangeSpec} {conds : List PathCond} {apart : Bool} {X : World → Array Value → Prop} (modest : Bool) (args : Array Value) (fuel : Nat)
    (hsh : ((laidWorld os).forCall (fun _ _ => 0) ⟨#[], args, []⟩).Shaped Tryd.checked.prog)
    (hok : Input.okWideB Tryd.checked.prog ((laidWorld os).forCall (fun _ _ => 0) ⟨#[], args, []⟩) f ⟨#[], args, []⟩ = true)
    (hpre : s.preB enc Tryd.checked.prog fn conds apart ((laidWorld os).forCall (fun _ _ => 0) ⟨#[], args, []⟩).memory args fuel = true)
    (hsz : s.sizedB enc Tryd.checked.prog fn apart ((laidWorld os).forCall (fun _ _ => 0) ⟨#[], args, []⟩).memory args fuel = true)
    (hx : X ((laidWorld os).forCall (fun _ _ => 0) ⟨#[], args, []⟩).memory args) :
    ∃ (w : World) (tape : Tape) (i : Input), w.os = os ∧ (w.forCall tape i).Shaped Tryd.checked.prog ∧ i.vars = [] ∧ Input.okWide Tryd.checked.prog (w.forCall tape i) .any w.heap.size f i ∧
      ((s.pre enc Tryd.checked.prog fn conds apart (w.forCall tape i).memory i.args ∧ X (w.forCall tape i).memory i.args) ∧ sizedMet enc Tryd.checked.prog fn (OpenSpec.ofChange s) apart (w.forCall tape i).memory i.args) ∧ ({ modest := modest } : Assume).holds Tryd.checked.prog (lone (Frame.enter Tryd.checked.prog f i.args .normal) [] (w.forCall tape i)) :=
  ⟨laidWorld os, fun _ _ => 0, ⟨#[], args, []⟩, laidWorld_os os, hsh, (Input.okWide_of_okWideB (base := 0) hok).1, (Input.okWide_of_okWideB hok).2, ⟨⟨ChangeSpec.pre_of_preB hpre, hx⟩, sizedMet_of_sizedB hsz⟩, by
    simp only [Assume.holds]
    exact ⟨by simp, by simp, fun _ => Modest.zero, by simp, by simp⟩⟩
end Go.Proofs.YtgbkloihclbimaaDoor
