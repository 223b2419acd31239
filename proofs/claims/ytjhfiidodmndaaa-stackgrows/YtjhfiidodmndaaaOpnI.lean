/- Numbers that came in, opened. -/
import Derived.Test.YtjhfiidodmndaaaOpnM
import Derived.Test.YtjhfiidodmndaaaIin
namespace Go.Proofs.Ytjhfiidodmndaaa
set_option linter.unusedVariables false
set_option linter.unusedSimpArgs false
open Go.ChangeShapes Go.WideShapes Go.ChangeAt Go.RowKit
theorem bytesI6 : Try.prog.bytesOf 2 = 8 := by kernel_rfl
set_option maxRecDepth 100000 in
theorem ints_in {H : Type} {enc : TypeId × Value → H} {W : World} {a : Option Addr} {len cap : Nat} {d : DataW H} {p : List MemPlace} (h : DataW.Trod enc Try.prog W 0 (fun _ => true) true 39 (.slice a len cap) d p) (hw : ∀ n ∈ d.weights Try.prog 39, n ≤ 140737488351232) :
    ∃ L : List Int, L.length = len ∧ IIn W a L ∧ Reads d len := by
  obtain ⟨fuel, hf⟩ := h
  rcases Go.Deep.open_slice Try.underlying39 hf with ⟨hcs, _⟩ | ⟨x, l, c, m, n, D, Pl, hcs, _, hl, hm, hmm, hx, hel⟩
  · simp [Value.cells] at hcs
    obtain ⟨rfl, rfl, rfl⟩ := hcs
    exact ⟨[], rfl, ⟨fun k p hk => by simp at hk⟩, .inl rfl⟩
  · simp [Value.cells] at hcs
    obtain ⟨rfl, rfl, rfl⟩ := hcs
    have hmc : m = cap := by simpa using hmm
    have hd : d = .slice ((List.range len).map D) ((List.range (m - len)).map fun j => D (len + j)) := congrArg Prod.fst hx
    have hwe : ∀ k, k < len → ∀ n ∈ (D k).weights Try.prog 2, n ≤ 140737488351232 := by
      intro k hk n hn
      refine hw n ?_
      rw [hd]
      simp only [DataW.weights, Try.underlying39]
      exact List.mem_cons_of_mem _ (List.mem_append_left _ (weightsAll_mem (List.mem_map.2 ⟨k, List.mem_range.2 hk, rfl⟩) n hn))
    obtain ⟨b, off, spot⟩ := x
    have key : ∀ k, ∃ o : Int, k < len → (spot = none ∧ b < W.heap.size ∧ W.cell? ⟨b, off + k, none⟩ = some (.int .i64 o) ∧ -9223372036854775808 ≤ o ∧ o ≤ 9223372036854775807) := by
      intro k
      by_cases hk : k < len
      · obtain ⟨cs', h1, h2⟩ := hel k (by omega)
        rw [cells2t] at h1
        obtain ⟨_, hlen, hcell⟩ := World.cells?_some h1
        have hwk := hwe k hk
        have hspot : spot = none := by
          obtain ⟨cs0, h10, _⟩ := hel 0 (by omega)
          rw [cells2t] at h10
          obtain ⟨_, hlen0, hcell0⟩ := World.cells?_some h10
          match cs0, hlen0 with
          | [u0], _ =>
            have q0 := hcell0 0 (by omega)
            simpa [Addr.add] using World.cell?_spot q0
        subst hspot
        have hadd : ∀ j i, ((⟨b, off, none⟩ : Addr).add j).add i = ⟨b, off + j + i, none⟩ := fun j i => by rw [addr_add, addr_add]
        obtain ⟨z0, e0, _, hz0⟩ := DataW.trod_int Try.underlying2 h2
        subst e0
        have c0 := hcell 0 (by simp)
        rw [hadd] at c0
        exact ⟨z0, fun _ => ⟨rfl, block_lt_of_cell c0, by simpa using c0, wf64 hz0⟩⟩
      · exact ⟨0, fun h => absurd h hk⟩
    have hf := fun k => Classical.choose_spec (key k)
    refine ⟨(List.range len).map fun k => Classical.choose (key k), by simp, ⟨fun k q hk => ?_⟩, .inr ⟨_, _, hd, by simp⟩⟩
    have hkl : k < len := by
      have := (List.getElem?_eq_some_iff.1 hk).1
      simpa using this
    rw [List.getElem?_map, List.getElem?_range hkl] at hk
    have hq := (Option.some.inj hk).symm
    subst hq
    obtain ⟨h1, h2, h3⟩ := hf k hkl
    exact ⟨b, off, by rw [h1], h2, h3⟩
theorem ints_in_len {H : Type} {d : DataW H} {len : Nat} (h : Reads d len) (hw : ∀ n ∈ d.weights Try.prog 39, n ≤ 140737488351232) : len ≤ 17592186043904 := by
  rcases h with h0 | ⟨es, sp, he, hl⟩
  · omega
  · have := hw ((es.length + sp.length) * Try.prog.bytesOf 2) (by rw [he]; simp only [DataW.weights, Try.underlying39]; exact List.mem_cons_self)
    rw [bytesI6] at this
    omega
end Go.Proofs.Ytjhfiidodmndaaa
