/- How much the arguments hold, for the second form. -/
import Derived.Test.YtlpiokepagkahaaDoorOpn
namespace Go.Proofs.YtlpiokepagkahaaDoor
open Go.ChangeShapes Go.WideShapes Go.ChangeAt Go.RowKit
set_option linter.unusedVariables false
set_option linter.unusedSimpArgs false
theorem bulk_pos {H : Type} (d : DataW H) : 1 ≤ Rows.uptoBulk d := by
  cases d with
  | lit l => cases l <;> simp [Rows.uptoBulk]
  | _ => simp [Rows.uptoBulk]
theorem bulk_mem {H : Type} : ∀ (l : List (DataW H)) (d : DataW H), d ∈ l → Rows.uptoBulk d ≤ Rows.uptoBulkAll l
  | [], _, h => by cases h
  | x :: r, d, h => by
    rcases List.mem_cons.1 h with rfl | h
    · simp [Rows.uptoBulkAll]
    · have := bulk_mem r d h; simp [Rows.uptoBulkAll]; omega
theorem bulk_len {H : Type} : ∀ (l : List (DataW H)), l.length ≤ Rows.uptoBulkAll l
  | [] => by simp [Rows.uptoBulkAll]
  | x :: r => by have := bulk_len r; have := bulk_pos x; simp [Rows.uptoBulkAll]; omega
theorem bulk_ones {H : Type} : ∀ (l : List (DataW H)), (∀ d ∈ l, Rows.uptoBulk d = 1) → Rows.uptoBulkAll l = l.length
  | [], _ => by simp [Rows.uptoBulkAll]
  | x :: r, h => by
    have := bulk_ones r (fun d hd => h d (List.mem_cons_of_mem _ hd))
    have := h x (List.mem_cons_self ..)
    simp [Rows.uptoBulkAll]; omega
section
variable {H : Type} {enc : TypeId × Value → H} {W : World} {d : DataW H} {p : List MemPlace}
theorem bulk_texts (h : DataW.Trod enc Tryd.prog W 0 (fun _ => true) true 22 (.slice none 0 0) d p) : Rows.uptoBulk d ≤ 64 := by
  obtain ⟨fuel, hf⟩ := h
  rcases Go.Deep.open_slice Tryd.underlying22 hf with ⟨_, hd⟩ | ⟨x, l, c, m, n, D, Pl, hcs, _⟩
  · obtain rfl : d = .nil := congrArg Prod.fst hd
    simp [Rows.uptoBulk]
  · simp [Value.cells] at hcs
theorem bulk_hashes (h : DataW.Trod enc Tryd.prog W 0 (fun _ => true) true 25 (.slice none 0 0) d p) : Rows.uptoBulk d ≤ 64 := by
  obtain ⟨fuel, hf⟩ := h
  rcases Go.Deep.open_slice Tryd.underlying25 hf with ⟨_, hd⟩ | ⟨x, l, c, m, n, D, Pl, hcs, _⟩
  · obtain rfl : d = .nil := congrArg Prod.fst hd
    simp [Rows.uptoBulk]
  · simp [Value.cells] at hcs
theorem bulk_str (h : DataW.Trod enc Tryd.prog W 0 (fun _ => true) true 9 (.string ByteArray.empty) d p) : Rows.uptoBulk d ≤ 64 := by
  obtain ⟨fuel, hf⟩ := h
  obtain ⟨s, e1, e2, _⟩ := DataW.trod_string Tryd.underlying9 hf
  have hs : s = ByteArray.empty := by
    have : [Value.string ByteArray.empty] = [Value.string s] := e1
    injection this with this
    injection this with this
    exact this.symm
  have hd : d = .lit (.string s.data.toList) := congrArg Prod.fst e2
  rw [hd, hs]
  simp [Rows.uptoBulk]
theorem bulk_i64 (h : DataW.Trod enc Tryd.prog W 0 (fun _ => true) true 3 (.int .i64 0) d p) : Rows.uptoBulk d ≤ 64 := by
  obtain ⟨fuel, hf⟩ := h
  obtain ⟨z, _, e2, _⟩ := DataW.trod_int Tryd.underlying3 hf
  have hd : d = .lit (.int .i64 z) := congrArg Prod.fst e2
  rw [hd]; simp [Rows.uptoBulk]
theorem bulk_arr32 {v : Value} (h : DataW.Trod enc Tryd.prog W 0 (fun _ => true) true 23 v d p) : Rows.uptoBulk d ≤ 64 := by
  obtain ⟨fuel, hf⟩ := h
  obtain ⟨xs, m, rfl, hx, hl, hn, hi⟩ := DataW.trod_array Tryd.underlying23 hf
  have hd : d = .agg (xs.map Prod.fst) := congrArg Prod.fst hx
  rw [hd]
  simp only [Rows.uptoBulk]
  rw [bulk_ones _ (fun y hy => by
    obtain ⟨q, hq, rfl⟩ := List.mem_map.1 hy
    obtain ⟨i, hi2, rfl⟩ := List.getElem_of_mem hq
    have hi32 : i < 32 := by omega
    have := hi i hi32
    rw [cells5, Nat.mul_one, List.getElem?_eq_getElem hi2] at this
    obtain ⟨z, _, e, _⟩ := DataW.trod_int Tryd.underlying5 this
    rw [e]; simp [Rows.uptoBulk])]
  rw [List.length_map]
  omega
/-- A list of texts that came in, short as a whole. -/
theorem texts_in {a : Option Addr} {len cap : Nat} (h : DataW.Trod enc Tryd.prog W 0 (fun _ => true) true 22 (.slice a len cap) d p) (hN : Rows.uptoBulk d ≤ 1048576) :
    ∃ t : Nat → ByteArray, TextsIn W a len t ∧ (∀ k, k < len → (t k).size ≤ 1048576) ∧ len ≤ 1048576 ∧ len ≤ cap ∧ cap ≤ 1048576 := by
  obtain ⟨fuel, hf⟩ := h
  rcases Go.Deep.open_slice Tryd.underlying22 hf with ⟨hcs, _⟩ | ⟨x, l, c, m, n, D, Pl, hcs, _, hl, hm, hmm, hx, hel⟩
  · simp [Value.cells] at hcs
    obtain ⟨rfl, rfl, rfl⟩ := hcs
    exact ⟨fun _ => ⟨#[]⟩, fun k hk => by omega, fun k hk => by omega, by omega, by omega, by omega⟩
  · simp [Value.cells] at hcs
    obtain ⟨rfl, rfl, rfl⟩ := hcs
    have hmc : m = cap := by simpa using hmm
    have hd : d = .slice ((List.range len).map D) ((List.range (m - len)).map fun j => D (len + j)) := congrArg Prod.fst hx
    rw [hd] at hN
    simp only [Rows.uptoBulk] at hN
    have l1 := bulk_len ((List.range len).map D)
    have l2 := bulk_len ((List.range (m - len)).map fun j => D (len + j))
    simp only [List.length_map, List.length_range] at l1 l2
    have each : ∀ k, k < len → ∃ (b off : Nat) (s : ByteArray), some x = some ⟨b, off, none⟩ ∧ W.cell? ⟨b, off + k, none⟩ = some (.string s) ∧ s.size ≤ 1048576 := by
      intro k hk
      have hDk : Rows.uptoBulk (D k) ≤ 1048576 := by
        have := bulk_mem ((List.range len).map D) (D k) (List.mem_map.2 ⟨k, List.mem_range.2 hk, rfl⟩)
        omega
      obtain ⟨b, off, spot⟩ := x
      obtain ⟨cs', h1, h2⟩ := hel k (by omega)
      rw [cells9] at h1
      obtain ⟨_, hlen, hcell⟩ := World.cells?_some h1
      obtain ⟨s, e1, e2, _⟩ := DataW.trod_string Tryd.underlying9 h2
      subst e1
      have c0 := hcell 0 (by simp)
      have hspot : spot = none := by
        obtain ⟨cs0, h10, _⟩ := hel 0 (by omega)
        rw [cells9] at h10
        obtain ⟨_, hlen0, hcell0⟩ := World.cells?_some h10
        match cs0, hlen0 with
        | [u0], _ =>
          have q0 := hcell0 0 (by simp)
          simpa [Addr.add] using World.cell?_spot q0
      subst hspot
      rw [Addr.add_mid, Addr.add_mid] at c0
      refine ⟨b, off, s, rfl, by simpa using c0, ?_⟩
      have hDs : D k = .lit (.string s.data.toList) := congrArg Prod.fst e2
      rw [hDs] at hDk
      simp [Rows.uptoBulk] at hDk
      have : s.size = s.data.size := rfl
      omega
    refine ⟨fun k => if hk : k < len then (each k hk).choose_spec.choose_spec.choose else ⟨#[]⟩, fun k hk => ?_, fun k hk => ?_, by omega, by omega, by omega⟩
    · have := (each k hk).choose_spec.choose_spec.choose_spec
      exact ⟨_, _, this.1, by simp only [dif_pos hk]; exact this.2.1⟩
    · simp only [dif_pos hk]
      exact (each k hk).choose_spec.choose_spec.choose_spec.2.2
/-- A list of hashes that came in, short as a whole. -/
theorem hashes_in {a : Option Addr} {len cap : Nat} (h : DataW.Trod enc Tryd.prog W 0 (fun _ => true) true 25 (.slice a len cap) d p) (hN : Rows.uptoBulk d ≤ 1048576) :
    ∃ f : List Hs, PathAt W a f ∧ len = f.length ∧ len ≤ 1048576 ∧ len ≤ cap := by
  obtain ⟨fuel, hf⟩ := h
  rcases Go.Deep.open_slice Tryd.underlying25 hf with ⟨hcs, _⟩ | ⟨x, l, c, m, n, D, Pl, hcs, _, hl, hm, hmm, hx, hel⟩
  · simp [Value.cells] at hcs
    obtain ⟨rfl, rfl, rfl⟩ := hcs
    exact ⟨[], fun k x hk => by simp at hk, rfl, by omega, by omega⟩
  · simp [Value.cells] at hcs
    obtain ⟨rfl, rfl, rfl⟩ := hcs
    have hmc : m = cap := by simpa using hmm
    have hd : d = .slice ((List.range len).map D) ((List.range (m - len)).map fun j => D (len + j)) := congrArg Prod.fst hx
    rw [hd] at hN
    simp only [Rows.uptoBulk] at hN
    have l1 := bulk_len ((List.range len).map D)
    simp only [List.length_map, List.length_range] at l1
    have each : ∀ k, k < len → ∃ (b off : Nat) (g : Hs), some x = some ⟨b, off, none⟩ ∧ W.rangeAt b (off + k * 32) (hv g) := by
      intro k hk
      obtain ⟨b, off, spot⟩ := x
      obtain ⟨cs', h1, h2⟩ := hel k (by omega)
      rw [cells22] at h1
      obtain ⟨_, hlen, hcell⟩ := World.cells?_some h1
      obtain ⟨xs, m', rfl, hx', hl', hn', hi'⟩ := DataW.trod_array Tryd.underlying23 h2
      have hspot : spot = none := by
        obtain ⟨cs0, h10, _⟩ := hel 0 (by omega)
        rw [cells22] at h10
        obtain ⟨_, hlen0, hcell0⟩ := World.cells?_some h10
        have q0 := hcell0 0 (by omega)
        cases hc0 : cs0[0]? with
        | none => rw [List.getElem?_eq_none_iff] at hc0; omega
        | some u0 =>
          rw [hc0] at q0
          simpa [Addr.add] using World.cell?_spot q0
      subst hspot
      have byte : ∀ i, i < 32 → ∃ q : UInt8, cs'[i]? = some (.int .u8 (q.toNat : Int)) := by
        intro i hi32
        have := hi' i hi32
        rw [cells5, Nat.mul_one] at this
        cases hq : xs[i]? with
        | none => rw [List.getElem?_eq_none_iff] at hq; omega
        | some y =>
          rw [hq] at this
          obtain ⟨zz, hzz, rfl, wf⟩ := DataW.trod_int Tryd.underlying5 this
          have hb := bounds_u8 wf
          refine ⟨UInt8.ofNat zz.toNat, ?_⟩
          have h3 : i < cs'.length := by omega
          rw [List.drop_eq_getElem_cons h3, List.take_succ_cons, List.take_zero] at hzz
          have h4 : cs'[i] = .int .u8 zz := by injection hzz
          rw [List.getElem?_eq_getElem h3, h4, UInt8.toNat_ofNat']
          congr 2
          omega
      refine ⟨b, off, fun i => if hi : i < 32 then (byte i hi).choose else 0, rfl, fun j v hv => ?_⟩
      have hj : j < 32 := by have := (List.getElem?_eq_some_iff.1 hv).1; rw [hv_length] at this; exact this
      rw [hv_get _ j hj] at hv
      simp only [dif_pos hj] at hv
      have hc := hcell j (by omega)
      rw [Addr.add_mid, Addr.add_mid, (byte j hj).choose_spec] at hc
      rw [hc, ← hv]
    refine ⟨(List.range len).map fun k => if hk : k < len then (each k hk).choose_spec.choose_spec.choose else fun _ => 0, fun k y hk => ?_, by simp, by omega, by omega⟩
    have hkl : k < len := by have := (List.getElem?_eq_some_iff.1 hk).1; simpa using this
    have hy : y = (each k hkl).choose_spec.choose_spec.choose := by
      rw [List.getElem?_map, List.getElem?_range hkl] at hk
      have h9 := Option.some.inj hk
      simp only [dif_pos hkl] at h9
      exact h9.symm
    have := (each k hkl).choose_spec.choose_spec.choose_spec
    rw [hy]
    exact ⟨_, _, this.1, this.2⟩
end
end Go.Proofs.YtlpiokepagkahaaDoor
