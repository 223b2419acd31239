/- A slice of parts that came in, and how much it holds. -/
import Derived.Test.YtijkabnhedmimabWr
import Derived.Test.YtijkabnhedmimabRows
import Derived.ProofKit
import Derived.OpenShut
import Derived.JoinedCond
import Derived.Deep.Slices
namespace Go.Proofs.Ytijkabnhedmimab
set_option linter.unusedVariables false
set_option linter.unusedSimpArgs false
open Go.ChangeShapes Go.WideShapes Go.ChangeAt Go.RowKit
theorem addr_add (b off j : Nat) : (⟨b, off, none⟩ : Addr).add j = ⟨b, off + j, none⟩ := by unfold Addr.add; split <;> simp_all
theorem cellsR : Try.prog.cellsOf 43 = 3 := by kernel_rfl
theorem cells2t : Try.prog.cellsOf 2 = 1 := by kernel_rfl
theorem cells9t : Try.prog.cellsOf 9 = 1 := by kernel_rfl
theorem cells3t : Try.prog.cellsOf 3 = 1 := by kernel_rfl
theorem undR : ∃ f0 f1 f2 : Field, Try.prog.underlying 43 = some (.struct #[f0, f1, f2]) ∧ (f0.type = 3 ∧ f1.type = 9 ∧ f2.type = 2) ∧ (f0.offset = 0 ∧ f1.offset = 1 ∧ f2.offset = 2) := by
  refine ⟨_, _, _, Try.underlying43, ⟨rfl, rfl, rfl⟩, rfl, rfl, rfl⟩
theorem bulk_pos {H : Type} (d : DataW H) : 1 ≤ Rows.uptoBulk d := by
  cases d with
  | lit l => cases l <;> simp [Rows.uptoBulk]
  | _ => simp [Rows.uptoBulk]
theorem bulk_sum {H : Type} (D : Nat → DataW H) (f : Nat → Pt) : ∀ (ks : List Nat), (∀ k ∈ ks, 10 + 9 * ngr (f k).text.length ≤ 20 * Rows.uptoBulk (D k)) → bulk (ks.map f) ≤ 20 * Rows.uptoBulkAll (ks.map D)
  | [], _ => by simp [bulk]
  | k :: ks, h => by
    have h1 := h k List.mem_cons_self
    have h2 := bulk_sum D f ks (fun j hj => h j (List.mem_cons_of_mem _ hj))
    simp [bulk, Rows.uptoBulkAll] at h1 h2 ⊢
    omega
theorem parts_in {H : Type} {enc : TypeId × Value → H} {W : World} {a : Option Addr} {len cap N : Nat} {d : DataW H} {p : List MemPlace} (h : DataW.Trod enc Try.prog W 0 (fun _ => true) true 22 (.slice a len cap) d p) (hN : Rows.uptoBulk d ≤ N) :
    ∃ L : List Pt, L.length = len ∧ PIn W a L ∧ N64 L ∧ bulk L ≤ 20 * N := by
  obtain ⟨fuel, hf⟩ := h
  rcases Go.Deep.open_slice Try.underlying22 hf with ⟨hcs, _⟩ | ⟨x, l, c, m, n, D, Pl, hcs, _, hl, hm, hmm, hx, hel⟩
  · simp [Value.cells] at hcs
    obtain ⟨rfl, rfl, rfl⟩ := hcs
    exact ⟨[], rfl, ⟨fun k p hk => by simp at hk⟩, fun p hp => by simp at hp, by simp [bulk]⟩
  · simp [Value.cells] at hcs
    obtain ⟨rfl, rfl, rfl⟩ := hcs
    have hmc : m = cap := by simpa using hmm
    have hd : d = .slice ((List.range len).map D) ((List.range (m - len)).map fun j => D (len + j)) := congrArg Prod.fst hx
    rw [hd] at hN
    simp only [Rows.uptoBulk] at hN
    obtain ⟨b, off, spot⟩ := x
    have key : ∀ k, ∃ q : Pt, k < len → (spot = none ∧ b < W.heap.size ∧ W.cell? ⟨b, off + k * 3, none⟩ = some (.int .i64 q.kind) ∧ W.cell? ⟨b, off + k * 3 + 1, none⟩ = some (str q.text) ∧ W.cell? ⟨b, off + k * 3 + 2, none⟩ = some (.int .i64 q.n) ∧
        (-9223372036854775808 ≤ q.n ∧ q.n ≤ 9223372036854775807) ∧ 10 + 9 * ngr q.text.length ≤ 20 * Rows.uptoBulk (D k)) := by
      intro k
      by_cases hk : k < len
      · obtain ⟨cs', h1, h2⟩ := hel k (by omega)
        rw [cellsR] at h1
        obtain ⟨_, hlen, hcell⟩ := World.cells?_some h1
        obtain ⟨f0, f1, f2, hu, ⟨t0, t1, t2⟩, o0, o1, o2⟩ := undR
        obtain ⟨xs, n', _, hxd, _, hxl, hfs⟩ := DataW.trod_struct hu h2
        match xs, hxl, cs', hlen with
        | [y0, y1, y2], _, [v0, v1, v2], _ =>
          have g0 := hfs 0 f0 rfl
          have g1 := hfs 1 f1 rfl
          have g2 := hfs 2 f2 rfl
          simp [o0, o1, o2, t0, t1, t2, cells2t, cells9t, cells3t] at g0 g1 g2
          obtain ⟨z0, e0, _, hz0⟩ := DataW.trod_int Try.underlying3 g0
          obtain ⟨s, e1, y1e, hs⟩ := DataW.trod_string Try.underlying9 g1
          obtain ⟨z, e2, _, hz⟩ := DataW.trod_int Try.underlying2 g2
          simp at e0 e1 e2
          subst e0 e1 e2
          have hDe : D k = .agg [y0.1, y1.1, y2.1] := congrArg Prod.fst hxd
          have hsN : s.size + 2 ≤ Rows.uptoBulk (D k) := by
            rw [hDe, y1e]
            have p0 := bulk_pos y0.1
            simp [Rows.uptoBulk, Rows.uptoBulkAll]
            omega
          have c0 := hcell 0 (by omega)
          have c1 := hcell 1 (by omega)
          have c2 := hcell 2 (by omega)
          have hspot : spot = none := by
            obtain ⟨cs0, h10, _⟩ := hel 0 (by omega)
            rw [cellsR] at h10
            obtain ⟨_, hlen0, hcell0⟩ := World.cells?_some h10
            match cs0, hlen0 with
            | [u0, u1, u2], _ =>
              have q0 := hcell0 0 (by omega)
              simpa [Addr.add] using World.cell?_spot q0
          subst hspot
          have hadd : ∀ j i, ((⟨b, off, none⟩ : Addr).add j).add i = ⟨b, off + j + i, none⟩ := fun j i => by rw [addr_add, addr_add]
          rw [hadd] at c0 c1 c2
          have hz' : -9223372036854775808 ≤ z ∧ z ≤ 9223372036854775807 := by simpa [Lit.wf, IntKind.min, IntKind.max, IntKind.signed, IntKind.bits] using hz
          have es : str s.data.toList = .string s := by simp [str]
          refine ⟨⟨z0, s.data.toList, z⟩, fun _ => ⟨rfl, block_lt_of_cell c0, by simpa using c0, ?_, by simpa using c2, hz', ?_⟩⟩
          · show _ = some (str s.data.toList)
            rw [es]
            simpa using c1
          · have : s.data.toList.length = s.size := by rw [Array.length_toList]; rfl
            show 10 + 9 * ngr s.data.toList.length ≤ _
            rw [this]
            have : ngr s.size ≤ s.size / 8 + 1 := by unfold ngr; split <;> omega
            omega
      · exact ⟨⟨0, [], 0⟩, fun h => absurd h hk⟩
    have hf := fun k => Classical.choose_spec (key k)
    have hmap : ∀ k q, ((List.range len).map fun k => Classical.choose (key k))[k]? = some q → k < len ∧ q = Classical.choose (key k) := by
      intro k q hk
      have hkl : k < len := by
        have := (List.getElem?_eq_some_iff.1 hk).1
        simpa using this
      rw [List.getElem?_map, List.getElem?_range hkl] at hk
      exact ⟨hkl, (Option.some.inj hk).symm⟩
    refine ⟨(List.range len).map fun k => Classical.choose (key k), by simp, ⟨fun k q hk => ?_⟩, fun q hq => ?_, ?_⟩
    · obtain ⟨hk', rfl⟩ := hmap k q hk
      obtain ⟨h1, h2, h3, h4, h5, _⟩ := hf k hk'
      exact ⟨b, off, by rw [h1], h2, h3, h4, h5⟩
    · obtain ⟨k, hk, rfl⟩ := List.mem_map.1 hq
      exact (hf k (List.mem_range.1 hk)).2.2.2.2.2.1
    · have := bulk_sum D (fun k => Classical.choose (key k)) (List.range len) (fun k hk => (hf k (List.mem_range.1 hk)).2.2.2.2.2.2)
      omega
end Go.Proofs.Ytijkabnhedmimab
