/- Versions that came in. -/
import Derived.Test.YtahdndmmakdamaaOpn2
import Derived.Test.YtahdndmmakdamaaVer
namespace Go.Proofs.Ytahdndmmakdamaa
set_option linter.unusedVariables false
set_option linter.unusedSimpArgs false
open Go.ChangeShapes Go.WideShapes Go.ChangeAt Go.RowKit
theorem cells4t : Try.prog.cellsOf 4 = 1 := by kernel_rfl
theorem cells2t : Try.prog.cellsOf 2 = 1 := by kernel_rfl
theorem cellsEs : Try.prog.cellsOf 22 = 1 := by kernel_rfl
theorem cellsV : Try.prog.cellsOf 24 = 5 := by kernel_rfl
theorem undV : ∃ f0 f1 f2 f3 f4 : Field, Try.prog.underlying 24 = some (.struct #[f0, f1, f2, f3, f4]) ∧ (f0.type = 9 ∧ f1.type = 2 ∧ f2.type = 4 ∧ f3.type = 9 ∧ f4.type = 22) ∧ (f0.offset = 0 ∧ f1.offset = 1 ∧ f2.offset = 2 ∧ f3.offset = 3 ∧ f4.offset = 4) := by
  refine ⟨_, _, _, _, _, Try.underlying24, ⟨rfl, rfl, rfl, rfl, rfl⟩, rfl, rfl, rfl, rfl, rfl⟩
/-- what is known of a version that came in -/
structure VIn (W : World) (key : List UInt8) (data : List UInt8) (a : Option Addr) (cap : Nat) (L : List En) : Prop where
  k : key.length ≤ 140737488351232
  d : data.length ≤ 140737488351232
  p : PIn W a L
  z : ∀ (k : Nat) (e : En), L[k]? = some e → e.key.length ≤ 140737488351232 ∧ e.val.length ≤ 140737488351232
  l : L.length ≤ 4398046510976
  s : L.length ≤ cap ∧ cap ≤ 9223372036854775807 ∧ (a = none → cap = 0)
set_option maxRecDepth 100000 in
theorem ver_in {H : Type} {enc : TypeId × Value → H} {W : World} {base : Nat} {v : Value} {d : DataW H} {p : List MemPlace} (hv : Value.okWide Try.prog W .any base 24 v) (h : DataW.Trod enc Try.prog W 0 (fun _ => true) true 24 v d p) (hw : ∀ n ∈ d.weights Try.prog 24, n ≤ 140737488351232) :
    ∃ (key : List UInt8) (seq : Int) (mk : Bool) (data : List UInt8) (a : Option Addr) (cap : Nat) (L : List En), v = vv key seq mk data a L.length cap ∧ VIn W key data a cap L := by
  obtain ⟨f0, f1, f2, f3, f4, hu, ⟨t0, t1, t2, t3, t4⟩, o0, o1, o2, o3, o4⟩ := undV
  obtain ⟨cs, rfl, hc⟩ := okWide_struct hu hv
  rw [cellsV] at hc
  obtain ⟨fuel, hf⟩ := h
  obtain ⟨xs, n', _, hxd, _, hxl, hfs⟩ := DataW.trod_struct hu hf
  obtain ⟨cl, rfl⟩ : ∃ cl : List Value, cs = cl.toArray := ⟨cs.toList, by simp⟩
  have hcl : cl.length = 5 := by simpa using hc
  have hcells : (Value.agg cl.toArray).cells = cl.toArray := rfl
  match xs, hxl, cl, hcl with
  | [y0, y1, y2, y3, y4], _, [v0, v1, v2, v3, v4], _ =>
    have g0 := hfs 0 f0 rfl
    have g1 := hfs 1 f1 rfl
    have g2 := hfs 2 f2 rfl
    have g3 := hfs 3 f3 rfl
    have g4 := hfs 4 f4 rfl
    simp [o0, o1, o2, o3, o4, t0, t1, t2, t3, t4, cells9t, cells2t, cells4t, cellsEs, Value.cells] at g0 g1 g2 g3 g4
    obtain ⟨s0, e0, ye0, hs0⟩ := DataW.trod_string Try.underlying9 g0
    obtain ⟨s1, e1, ye1, hs1⟩ := DataW.trod_int Try.underlying2 g1
    obtain ⟨s2, e2, ye2⟩ := DataW.trod_bool Try.underlying4 g2
    obtain ⟨s3, e3, ye3, hs3⟩ := DataW.trod_string Try.underlying9 g3
    have h4 : ∃ a len cap, v4 = .slice a len cap := by
      rcases Go.Deep.open_slice Try.underlying22 g4 with ⟨hcs, _⟩ | ⟨x, l, c, m, n, D, Pl, hcs, _⟩
      · simp at hcs; exact ⟨_, _, _, hcs⟩
      · simp at hcs; exact ⟨_, _, _, hcs⟩
    obtain ⟨a, len, cap, rfl⟩ := h4
    simp at e0 e1 e2 e3
    subst e0 e1 e2 e3
    have hDe : d = .agg [y0.1, y1.1, y2.1, y3.1, y4.1] := congrArg Prod.fst hxd
    have hws : ∀ n ∈ DataW.weightsEach Try.prog [9, 2, 4, 9, 22] [y0.1, y1.1, y2.1, y3.1, y4.1], n ≤ 140737488351232 := by
      intro n hn
      refine hw n ?_
      rw [hDe]
      simp only [DataW.weights, hu]
      simpa [t0, t1, t2, t3, t4] using hn
    have hz0 : s0.size ≤ 140737488351232 := by
      refine hws _ (DataW.weights_mem_each (j := 0) rfl rfl _ ?_)
      rw [ye0]
      show s0.size ∈ [s0.data.toList.length]
      simp
    have hz3 : s3.size ≤ 140737488351232 := by
      refine hws _ (DataW.weights_mem_each (j := 3) rfl rfl _ ?_)
      rw [ye3]
      show s3.size ∈ [s3.data.toList.length]
      simp
    have hw4 : ∀ n ∈ y4.1.weights Try.prog 22, n ≤ 140737488351232 := fun n hn => hws n (DataW.weights_mem_each (j := 4) rfl rfl _ hn)
    have T4 : DataW.Trod enc Try.prog W 0 (fun _ => true) true 22 (.slice a len cap) y4.1 y4.2 := ⟨n', by simpa [Value.cells] using g4⟩
    obtain ⟨L, hl, ⟨i1, i2⟩, rd⟩ := ents_in T4 hw4
    subst hl
    refine ⟨s0.data.toList, s1, s2, s3.data.toList, a, cap, L, by simp [str], ⟨by simpa using hz0, by simpa using hz3, i1, i2, ents_in_len rd hw4, ents_sl T4⟩⟩
end Go.Proofs.Ytahdndmmakdamaa
