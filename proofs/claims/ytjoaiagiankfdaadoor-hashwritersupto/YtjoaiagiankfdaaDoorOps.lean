/- A slice of operations that came in: each is a bool, a text, an integer, a bool. -/
import Derived.Test.YtjoaiagiankfdaaDoorInts
import Derived.Deep.Slices
namespace Go.Proofs.YtjoaiagiankfdaaDoor
open Go.ChangeShapes Go.WideShapes Go.ChangeAt Go.RowKit
set_option linter.unusedVariables false
set_option linter.unusedSimpArgs false
def OpsAt (w : World) (a : Option Addr) (len : Nat) : Prop :=
  ∀ k, k < len → ∃ (b off : Nat) (two : Bool) (s : ByteArray) (z : Int) (ask : Bool), a = some ⟨b, off, none⟩ ∧ b < w.heap.size ∧ w.cell? ⟨b, off + 4 * k, none⟩ = some (.bool two) ∧ w.cell? ⟨b, off + 4 * k + 1, none⟩ = some (.string s) ∧
    w.cell? ⟨b, off + 4 * k + 2, none⟩ = some (.int .i64 z) ∧ w.cell? ⟨b, off + 4 * k + 3, none⟩ = some (.bool ask) ∧ s.size ≤ maxLen ∧ (Lit.int .i64 z).wf = true
theorem und43 : ∃ f0 f1 f2 f3 : Field, Tryd.prog.underlying 43 = some (.struct #[f0, f1, f2, f3]) ∧ (f0.type = 4 ∧ f1.type = 9 ∧ f2.type = 3 ∧ f3.type = 4) ∧ (f0.offset = 0 ∧ f1.offset = 1 ∧ f2.offset = 2 ∧ f3.offset = 3) := by
  refine ⟨_, _, _, _, Tryd.underlying43, ⟨rfl, rfl, rfl, rfl⟩, rfl, rfl, rfl, rfl⟩
theorem cells43 : Tryd.prog.cellsOf 43 = 4 := by kernel_rfl
theorem cells4 : Tryd.prog.cellsOf 4 = 1 := by kernel_rfl
theorem cells9 : Tryd.prog.cellsOf 9 = 1 := by kernel_rfl
theorem cells3 : Tryd.prog.cellsOf 3 = 1 := by kernel_rfl
theorem ops_at {H : Type} {enc : TypeId × Value → H} {W : World} {a : Option Addr} {len cap : Nat} {d : DataW H} {p : List MemPlace} (h : DataW.Trod enc Tryd.prog W 0 (fun _ => true) true 39 (.slice a len cap) d p) : OpsAt W a len ∧ len ≤ 9223372036854775807 := by
  obtain ⟨fuel, hf⟩ := h
  rcases Go.Deep.open_slice Tryd.underlying39 hf with ⟨hcs, _⟩ | ⟨x, l, c, m, n, D, Pl, hcs, _, hl, hm, hmm, _, hel⟩
  · simp [Value.cells] at hcs
    obtain ⟨rfl, rfl, rfl⟩ := hcs
    exact ⟨fun k hk => by omega, by omega⟩
  · simp [Value.cells] at hcs
    obtain ⟨rfl, rfl, rfl⟩ := hcs
    have hmc : m = cap := by simpa using hmm
    refine ⟨fun k hk => ?_, by unfold maxLen at hm; omega⟩
    obtain ⟨b, off, spot⟩ := x
    obtain ⟨cs', h1, h2⟩ := hel k (by omega)
    rw [cells43] at h1
    obtain ⟨_, hlen, hcell⟩ := World.cells?_some h1
    obtain ⟨f0, f1, f2, f3, hu, ⟨t0, t1, t2, t3⟩, o0, o1, o2, o3⟩ := und43
    obtain ⟨xs, n', _, _, _, hxl, hfs⟩ := DataW.trod_struct hu h2
    match xs, hxl, cs', hlen with
    | [y0, y1, y2, y3], _, [v0, v1, v2, v3], _ =>
      have g0 := hfs 0 f0 rfl
      have g1 := hfs 1 f1 rfl
      have g2 := hfs 2 f2 rfl
      have g3 := hfs 3 f3 rfl
      simp [o0, o1, o2, o3, t0, t1, t2, t3, cells4, cells9, cells3] at g0 g1 g2 g3
      obtain ⟨two, e0, _⟩ := DataW.trod_bool Tryd.underlying4 g0
      obtain ⟨s, e1, _, hs⟩ := DataW.trod_string Tryd.underlying9 g1
      obtain ⟨z, e2, _, hz⟩ := DataW.trod_int Tryd.underlying3 g2
      obtain ⟨ask, e3, _⟩ := DataW.trod_bool Tryd.underlying4 g3
      simp at e0 e1 e2 e3
      subst e0 e1 e2 e3
      have c0 := hcell 0 (by omega)
      have c1 := hcell 1 (by omega)
      have c2 := hcell 2 (by omega)
      have c3 := hcell 3 (by omega)
      have hspot : spot = none := by
        obtain ⟨cs0, h10, _⟩ := hel 0 (by omega)
        rw [cells43] at h10
        obtain ⟨_, hlen0, hcell0⟩ := World.cells?_some h10
        match cs0, hlen0 with
        | [u0, u1, u2, u3], _ =>
          have q0 := hcell0 0 (by omega)
          simpa [Addr.add] using World.cell?_spot q0
      subst hspot
      have hadd : ∀ j i, ((⟨b, off, none⟩ : Addr).add j).add i = ⟨b, off + j + i, none⟩ := fun j i => by rw [Addr.add_mid, Addr.add_mid]
      rw [hadd] at c0 c1 c2 c3
      rw [Nat.mul_comm k 4] at c0 c1 c2 c3
      exact ⟨b, off, two, s, z, ask, rfl, block_lt_of_cell c0, by simpa using c0, by simpa using c1, by simpa using c2, by simpa using c3, hs, hz⟩
end Go.Proofs.YtjoaiagiankfdaaDoor
