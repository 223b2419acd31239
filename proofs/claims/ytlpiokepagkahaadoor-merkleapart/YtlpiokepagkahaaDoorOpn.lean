/- Lists of texts, and of hashes, that came in. -/
import Derived.Test.YtlpiokepagkahaaDoorLift
import Derived.Test.YtlpiokepagkahaaDoorTxt
import Derived.Deep.Slices
namespace Go.Proofs.YtlpiokepagkahaaDoor
open Go.ChangeShapes Go.WideShapes Go.ChangeAt Go.RowKit
set_option linter.unusedVariables false
set_option linter.unusedSimpArgs false
theorem cells9 : Tryd.prog.cellsOf 9 = 1 := by kernel_rfl
theorem bytes9 : Tryd.prog.bytesOf 9 = 16 := by kernel_rfl
theorem bytes23 : Tryd.prog.bytesOf 23 = 32 := by kernel_rfl
theorem weightsAll_mem {H : Type} {P : Program} {e : TypeId} : ∀ {l : List (DataW H)} {d : DataW H}, d ∈ l → ∀ n ∈ d.weights P e, n ∈ DataW.weightsAll P e l
  | [], _, h, _, _ => by cases h
  | x :: r, d, h, n, hn => by
    simp only [DataW.weightsAll, List.mem_append]
    rcases List.mem_cons.1 h with rfl | h
    · exact .inl hn
    · exact .inr (weightsAll_mem h n hn)
theorem weights_le {H : Type} {ts : List TypeId} {ds : List (DataW H)} (h : (DataW.weightsEach Tryd.prog ts ds).all (· ≤ reachBytes) = true) {j : Nat} {t : TypeId} {d : DataW H} (ht : ts[j]? = some t) (hd : ds[j]? = some d) : ∀ n ∈ d.weights Tryd.prog t, n ≤ 140737488351232 := fun n hn => by
  have := of_decide_eq_true (List.all_eq_true.1 h n (DataW.weights_mem_each ht hd n hn))
  simpa [reachBytes] using this
theorem open23 {H : Type} {enc : TypeId × Value → H} {W : World} {base base' : Nat} {sp : Nat → Bool} {held : Bool} {v : Value} {d : DataW H} {ps : List MemPlace} (hvv : Value.okWide Tryd.prog W .any base 23 v)
    (h : DataW.Trod enc Tryd.prog W base' sp held 23 v d ps) : ∃ g : Hs, v = .agg (hv g).toArray ∧ ps = [] := by
  obtain ⟨g, e1, e2⟩ := open32 hvv h
  exact ⟨g, by rw [e1, hv_b32], e2⟩
/-- A list of texts that came in, bounded text by text. -/
theorem texts_at {H : Type} {enc : TypeId × Value → H} {W : World} {a : Option Addr} {len cap : Nat} {d : DataW H} {p : List MemPlace} (h : DataW.Trod enc Tryd.prog W 0 (fun _ => true) true 22 (.slice a len cap) d p) (hw : ∀ n ∈ d.weights Tryd.prog 22, n ≤ 140737488351232) :
    ∃ t : Nat → ByteArray, TextsIn W a len t ∧ (∀ k, k < len → (t k).size ≤ 140737488351232) ∧ len ≤ 8796093021952 ∧ len ≤ cap ∧ cap ≤ 8796093021952 := by
  obtain ⟨fuel, hf⟩ := h
  rcases Go.Deep.open_slice Tryd.underlying22 hf with ⟨hcs, _⟩ | ⟨x, l, c, m, n, D, Pl, hcs, _, hl, hm, hmm, hx, hel⟩
  · simp [Value.cells] at hcs
    obtain ⟨rfl, rfl, rfl⟩ := hcs
    exact ⟨fun _ => ⟨#[]⟩, fun k hk => by omega, fun k hk => by omega, by omega, by omega, by omega⟩
  · simp [Value.cells] at hcs
    obtain ⟨rfl, rfl, rfl⟩ := hcs
    have hmc : m = cap := by simpa using hmm
    have hd : d = .slice ((List.range len).map D) ((List.range (m - len)).map fun j => D (len + j)) := congrArg Prod.fst hx
    rw [hd] at hw
    simp only [DataW.weights, Tryd.underlying22, bytes9] at hw
    have hcap : (len + (m - len)) * 16 ≤ 140737488351232 := by
      have := hw _ (List.mem_cons_self ..)
      simpa using this
    have each : ∀ k, k < len → ∃ (b off : Nat) (s : ByteArray), some x = some ⟨b, off, none⟩ ∧ W.cell? ⟨b, off + k, none⟩ = some (.string s) ∧ s.size ≤ 140737488351232 := by
      intro k hk
      obtain ⟨b, off, spot⟩ := x
      obtain ⟨cs', h1, h2⟩ := hel k (by omega)
      rw [cells9] at h1
      obtain ⟨_, hlen, hcell⟩ := World.cells?_some h1
      obtain ⟨s, e1, e2, _⟩ := DataW.trod_string Tryd.underlying9 h2
      subst e1
      have c0 := hcell 0 (by simp)
      have hspot : spot = none := by
        obtain ⟨cs0, h10, _⟩ := hel 0 (by omega)
        rw [cells9] at h10
        obtain ⟨_, hlen0, hcell0⟩ := World.cells?_some h10
        match cs0, hlen0 with
        | [u0], _ =>
          have q0 := hcell0 0 (by simp)
          simpa [Addr.add] using World.cell?_spot q0
      subst hspot
      rw [Addr.add_mid, Addr.add_mid] at c0
      refine ⟨b, off, s, rfl, by simpa using c0, ?_⟩
      have hDk : D k = .lit (.string s.data.toList) := congrArg Prod.fst e2
      have hmem : D k ∈ (List.range len).map D := List.mem_map.2 ⟨k, List.mem_range.2 hk, rfl⟩
      have := hw (s.data.toList.length) (List.mem_cons_of_mem _ (List.mem_append_left _ (weightsAll_mem hmem _ (by rw [hDk]; simp [DataW.weights]))))
      rw [Array.length_toList] at this
      exact this
    refine ⟨fun k => if hk : k < len then (each k hk).choose_spec.choose_spec.choose else ⟨#[]⟩, fun k hk => ?_, fun k hk => ?_, by omega, by omega, by omega⟩
    · have := (each k hk).choose_spec.choose_spec.choose_spec
      exact ⟨_, _, this.1, by simp only [dif_pos hk]; exact this.2.1⟩
    · simp only [dif_pos hk]
      exact (each k hk).choose_spec.choose_spec.choose_spec.2.2
end Go.Proofs.YtlpiokepagkahaaDoor
