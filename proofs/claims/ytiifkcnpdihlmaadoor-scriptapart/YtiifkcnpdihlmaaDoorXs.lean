/- Layer 22: the table of the lines' shapes. -/
import Derived.Test.YtiifkcnpdihlmaaDoorXr
import Derived.Deep.MidRow
import Derived.Deep.WholeRow
namespace Go.Proofs.YtiifkcnpdihlmaaDoor
set_option maxRecDepth 100000
set_option linter.unusedVariables false
set_option linter.unusedSimpArgs false
open Go.RowKit
attribute [local go_sem ↓] Go.wp_at_zero Go.wp_at_succ
def scs (s : Shp) : List Value := [str s.name, .int .i64 s.kind, .int .i64 s.step, str s.parts]
def shCells : List Value := shps.flatMap scs
theorem shCells_len : shCells.length = 88 := rfl
/-- the table lies where the program's variable lies -/
def SG (w : World) : Prop := w.rangeAt 0 0 shCells
theorem SG.lt {w : World} (h : SG w) : 0 < w.heap.size := block_lt_of_cell (h 0 _ rfl)
theorem SG.below {w w' : World} (h : SG w) (b : Below w.heap.size w w') : SG w' := fun j v hv => by
  rw [b.cell (p := ⟨0, 0 + j, none⟩) h.lt]; exact h j v hv
theorem infoSh : (Tryd.prog.info? 85).map (·.size) = some 88 := by kernel_rfl
noncomputable def ldA (v : Value) : Sem Value := Instr.loadAt 85 v
theorem ldAe (v : Value) : Instr.loadAt 85 v = ldA v := rfl
noncomputable def ixA (v i : Value) : Sem Value := Instr.index 85 v i
theorem ixAe (v i : Value) : Instr.index 85 v i = ixA v i := rfl
def SHv : Value := .agg shCells.toArray
theorem run_ldA {w : World} (h : SG w) : (ldA (.pointer (some ⟨0, 0, none⟩))).run Tryd.prog w = .ok SHv w := by
  unfold ldA
  exact run_loadAt_mid (P := Tryd.prog) w 0 0 85 shCells _ h Tryd.underlying85 rfl (by rw [shCells_len]; exact infoSh)
def shAt (k : Nat) : Shp := shps.getD k ⟨[], 0, 0, []⟩
theorem sh_at : ∀ (l : List Shp) (k : Nat), k < l.length → ((l.flatMap scs).drop (k * 4)).take 4 = scs (l.getD k ⟨[], 0, 0, []⟩)
  | [], k, h => by simp at h
  | s :: l, 0, _ => by simp [scs]
  | s :: l, k + 1, h => by
    have ih := sh_at l k (by simpa using h)
    rw [List.flatMap_cons, show (k + 1) * 4 = (scs s).length + k * 4 by simp [scs]; omega, List.drop_append, List.drop_of_length_le (by simp [scs])]
    simpa using ih
theorem run_ixA (k : Nat) (hk : k < 22) (w : World) : (ixA SHv (.int .i64 (k : Int))).run Tryd.prog w = .ok (.agg #[str (shAt k).name, .int .i64 (shAt k).kind, .int .i64 (shAt k).step, str (shAt k).parts]) w := by
  have h := sh_at shps k hk
  have h2 : (k : Int) < 22 := by omega
  unfold ixA SHv
  simp [Instr.index, Tryd.underlying85, go_sem, h2]
  rw [if_pos hk]
  unfold shCells
  rw [h]
  rfl
theorem shAt_get {k : Nat} (h : k < 22) : shps[k]? = some (shAt k) := by
  unfold shAt
  rw [List.getD_eq_getElem?_getD, List.getElem?_eq_getElem h]; rfl
theorem find_yes {p : Shp → Bool} {k : Nat} (hk : k < 22) (h : p (shAt k) = true) (hn : ∀ j, j < k → p (shAt j) = false) : shps.find? p = some (shAt k) := by
  rw [List.find?_eq_some_iff_getElem]
  refine ⟨h, k, hk, ?_, fun j hj => ?_⟩
  · have := shAt_get hk
    rw [List.getElem?_eq_getElem hk] at this
    exact Option.some.inj this
  · have hj2 : j < 22 := Nat.lt_trans hj hk
    have := shAt_get hj2
    rw [List.getElem?_eq_getElem hj2] at this
    exact (congrArg (fun s => !p s) (Option.some.inj this)).trans (by show (!p (shAt j)) = true; rw [hn j hj]; rfl)
theorem find_no {p : Shp → Bool} (hn : ∀ j, j < 22 → p (shAt j) = false) : shps.find? p = none := by
  rw [List.find?_eq_none]
  intro x hx
  obtain ⟨j, hj, rfl⟩ := List.getElem_of_mem hx
  have := shAt_get hj
  rw [List.getElem?_eq_getElem hj] at this
  intro q
  have e : p (shAt j) = true := (congrArg p (Option.some.inj this)).symm.trans q
  rw [hn j hj] at e
  exact Bool.noConfusion e
abbrev sh0 : Shp := ⟨[], 0, 0, []⟩
abbrev shV (s : Shp) : Value := .agg #[str s.name, .int .i64 s.kind, .int .i64 s.step, str s.parts]
/-- a box with a shape -/
def Bs4 (w : World) (g : Nat) (s : Shp) : Prop := w.heap[g]? = some (.cells #[str s.name, .int .i64 s.kind, .int .i64 s.step, str s.parts] 66 (0, 0))
theorem Bs4.cells {w : World} {g : Nat} {s : Shp} (h : Bs4 w g s) : w.cell? ⟨g, 0, none⟩ = some (str s.name) ∧ w.cell? ⟨g, 1, none⟩ = some (.int .i64 s.kind) ∧ w.cell? ⟨g, 2, none⟩ = some (.int .i64 s.step) ∧ w.cell? ⟨g, 3, none⟩ = some (str s.parts) ∧ ∀ j, w.frozen? ⟨g, j, none⟩ = false := by
  refine ⟨?_, ?_, ?_, ?_, fun j => frozen_of_row _ _ _ _ _ h⟩ <;> (rw [cell_of_row _ _ _ _ _ _ h]; rfl)
def s4 (w : World) (g : Nat) (s : Shp) : World := (((w.setCell ⟨g, 0, none⟩ (str s.name)).setCell ⟨g, 1, none⟩ (.int .i64 s.kind)).setCell ⟨g, 2, none⟩ (.int .i64 s.step)).setCell ⟨g, 3, none⟩ (str s.parts)
theorem s4_eq (w : World) (g : Nat) (s : Shp) : (((w.setCell ⟨g, 0, none⟩ (str s.name)).setCell ⟨g, 1, none⟩ (.int .i64 s.kind)).setCell ⟨g, 2, none⟩ (.int .i64 s.step)).setCell ⟨g, 3, none⟩ (str s.parts) = s4 w g s := rfl
theorem Bs4.s4 {w : World} {g : Nat} {t : Shp} (h : Bs4 w g t) (s : Shp) : Bs4 (s4 w g s) g s := by
  unfold Bs4 Go.Proofs.YtiifkcnpdihlmaaDoor.s4
  rw [heap_setCell_same _ _ _ _ _ _ (heap_setCell_same _ _ _ _ _ _ (heap_setCell_same _ _ _ _ _ _ (heap_setCell_same _ _ _ _ _ _ h)))]
  rfl
theorem below_s4 {B : Nat} {w0 w : World} {g : Nat} (h : Below B w0 w) (hg : B ≤ g) (s : Shp) : Below B w0 (s4 w g s) := (((h.setCell (p := ⟨g, 0, none⟩) hg _).setCell (p := ⟨g, 1, none⟩) hg _).setCell (p := ⟨g, 2, none⟩) hg _).setCell (p := ⟨g, 3, none⟩) hg _
theorem results_ct {fn : Func} {p t : Tmp} {ty : TypeId} (h : fn.results = #[.cell p ty, .tmp t]) (tmps : Array Value) (P : Program) (w : World) :
    (results fn tmps).run P w = ((asAddr (tmps.getD p undef)).run P w).andThen fun a w₁ => ((loadVar ty a).run P w₁).andThen fun v w₂ => .ok (.tuple #[v, tmps.getD t undef]) w₂ := by
  simp only [results, h]
  simp [Sem.run_bind, Result.andThen]
attribute [local go_sem ↓] ldAe ixAe
set_option maxHeartbeats 1000000 in
theorem shapeNamed_any (nm : By) (w : World) (hS : SG w) : Calls Tryd.prog 41 #[str nm] w fun e w' => e = .returned (.tuple #[shV ((shpNamed nm).getD sh0), .bool (shpNamed nm).isSome]) ∧ Below w.heap.size w w' := by
  have b0 := (Below.refl w.heap.size w).alloc (Nat.le_refl _) (.cells #[.string ⟨#[]⟩, .int .i64 0, .int .i64 0, .string ⟨#[]⟩] 66)
  have z0 : Bs4 (w.alloc (.cells #[.string ⟨#[]⟩, .int .i64 0, .int .i64 0, .string ⟨#[]⟩] 66)) w.heap.size sh0 := heap_alloc_new _ _
  have hl := run_ldA (hS.below b0)
  generalize hw0 : w.alloc (.cells #[.string ⟨#[]⟩, .int .i64 0, .int .i64 0, .string ⟨#[]⟩] 66) = w0 at *
  go_enter Tryd.func41, Tryd.ntmps41
  go_wp2_with fail
  go_loopw [7] (fun i wr => ∃ k : Nat, i = .int .i64 k ∧ k ≤ 22 ∧ Hid (Below w.heap.size w wr) ∧ Hid (Bs4 wr w.heap.size sh0) ∧ Hid (∀ j, j < k → ((shAt j).name == nm) = false)) (fun i _ => 22 - (intOf i).toNat)
  case atStart => exact ⟨0, rfl, by omega, ⟨b0⟩, ⟨z0⟩, ⟨fun j hj => by omega⟩⟩
  case round =>
    clear b0 z0 hl hw0
    obtain ⟨k, rfl, hk, HB, HZ, HN⟩ := hrel
    by_cases hlt : k < 22
    · have d1 : decide ((k : Int) < 22) = true := decide_eq_true (by omega)
      have hix := run_ixA k hlt
      have HNX : Hid (((shAt k).name == nm) = false → ∀ j, j < k + 1 → ((shAt j).name == nm) = false) := ⟨fun q j hj => by
        by_cases e : j = k
        · rw [e]; exact q
        · exact HN.out j (by omega)⟩
      have HVX : Hid (((shAt k).name == nm) = true → shpNamed nm = some (shAt k)) := ⟨fun q => find_yes hlt q HN.out⟩
      generalize shAt k = t at *
      obtain ⟨wa, hwa⟩ : ∃ wa, wa = wr.alloc (.cells #[str t.name, .int .i64 t.kind, .int .i64 t.step, str t.parts] 66) := ⟨_, rfl⟩
      have ba : Below wr.heap.size wr wa := by rw [hwa]; exact (Below.refl _ _).alloc (Nat.le_refl _) _
      have ya : Bs4 wa wr.heap.size t := by rw [hwa]; exact heap_alloc_new _ _
      have za : Bs4 wa w.heap.size sh0 := by
        unfold Bs4
        rw [ba.block _ (lt_of_block HZ.out)]; exact HZ.out
      have Ba := Hid.mk (below_seq HB.out ba)
      obtain ⟨p0, p1, p2, p3, pf⟩ := ya.cells
      obtain ⟨q0, q1, q2, q3, qf⟩ := za.cells
      cases hq : (t.name == nm) with
      | true =>
        have HV := Hid.mk (HVX.out hq)
        have HS := Hid.mk (za.s4 t)
        have HBB := Hid.mk (below_s4 Ba.out (Nat.le_refl _) t)
        have f0 := qf 0
        have f1 := qf 1
        have f2 := qf 2
        have f3 := qf 3
        have hne : ¬ wr.heap.size = w.heap.size := by have := lt_of_block HZ.out; omega
        clear HNX HVX pf qf ya za ba
        subst hwa
        go_wp2_with fail
        first | rw [s4_eq _ w.heap.size t] | skip
        obtain ⟨g0, g1, g2, g3, _⟩ := HS.out.cells
        clear q0 q1 q2 q3 p0 p1 p2 p3 f0 f1 f2 f3
        generalize s4 (wr.alloc (.cells #[str t.name, .int .i64 t.kind, .int .i64 t.step, str t.parts] 66)) w.heap.size t = W9 at *
        refine bodyPost_ret (v := .tuple #[shV t, .bool true]) ?_ rfl ⟨by rw [HV.out]; rfl, HBB.out⟩
        rw [results_ct rfl]
        go_simp
      | false =>
        have HN2 := Hid.mk (HNX.out hq)
        have HZa := Hid.mk za
        clear HNX HVX pf qf ya za ba q0 q1 q2 q3
        subst hwa
        go_wp2_with fail
        go_roundw
        case rel => exact ⟨k + 1, rfl, by omega, Ba, HZa, HN2⟩
        case measure => simp [intOf]; omega
    · have d1 : decide ((k : Int) < 22) = false := decide_eq_false (by omega)
      have HV : Hid (shpNamed nm = none) := ⟨find_no fun j hj => HN.out j (by omega)⟩
      obtain ⟨q0, q1, q2, q3, qf⟩ := HZ.out.cells
      have HS := Hid.mk (HZ.out.s4 sh0)
      have HBB := Hid.mk (below_s4 HB.out (Nat.le_refl _) sh0)
      have f0 := qf 0
      have f1 := qf 1
      have f2 := qf 2
      have f3 := qf 3
      go_wp2_with fail
      first | rw [s4_eq wr w.heap.size sh0] | skip
      obtain ⟨g0, g1, g2, g3, _⟩ := HS.out.cells
      generalize s4 wr w.heap.size sh0 = W9 at *
      refine bodyPost_ret (v := .tuple #[shV sh0, .bool false]) ?_ rfl ⟨by rw [HV.out]; rfl, HBB.out⟩
      rw [results_ct rfl]
      go_simp
end Go.Proofs.YtiifkcnpdihlmaaDoor
