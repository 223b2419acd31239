/- A bucket that came in. -/
import Derived.Test.YtbiponnchppndaaGreatDoorGr
import Derived.Test.YtbiponnchppndaaGreatDoorMOf
namespace Go.Proofs.YtbiponnchppndaaGreatDoor
set_option maxRecDepth 100000
set_option linter.unusedVariables false
set_option linter.unusedSimpArgs false
open Go.ChangeShapes Go.WideShapes Go.ChangeAt Go.RowKit
theorem mcellsV : Tryz.prog.cellsOf 50 = 5 := by kernel_rfl
theorem mcellsVs : Tryz.prog.cellsOf 42 = 1 := by kernel_rfl
theorem mcellsB : Tryz.prog.cellsOf 44 = 2 := by kernel_rfl
theorem mbytesV : Tryz.prog.bytesOf 50 = 72 := by kernel_rfl
theorem mundV : ∃ f0 f1 f2 f3 f4 : Field, Tryz.prog.underlying 50 = some (.struct #[f0, f1, f2, f3, f4]) ∧ (f0.type = 9 ∧ f1.type = 2 ∧ f2.type = 4 ∧ f3.type = 9 ∧ f4.type = 48) ∧ (f0.offset = 0 ∧ f1.offset = 1 ∧ f2.offset = 2 ∧ f3.offset = 3 ∧ f4.offset = 4) := by
  refine ⟨_, _, _, _, _, Tryz.underlying50, ⟨rfl, rfl, rfl, rfl, rfl⟩, rfl, rfl, rfl, rfl, rfl⟩
theorem mundB : ∃ f0 f1 : Field, Tryz.prog.underlying 44 = some (.struct #[f0, f1]) ∧ (f0.type = 2 ∧ f1.type = 42) ∧ (f0.offset = 0 ∧ f1.offset = 1) := by
  refine ⟨_, _, Tryz.underlying44, ⟨rfl, rfl⟩, rfl, rfl⟩
set_option maxRecDepth 100000 in
theorem mver_at {H : Type} {enc : TypeId × Value → H} {W : World} {fuel : Nat} {cs : List Value} {d : DataW H} {pl : List MemPlace} (h : DataW.trod enc Tryz.prog W 0 (fun _ => true) true fuel 50 cs = some (d, pl)) (hlen : cs.length = 5) (hw : ∀ n ∈ d.weights Tryz.prog 50, n ≤ 140737488351232) :
    ∃ (o : Vs) (a : Option Addr) (c : Nat), cs = [str o.key, .int .i64 o.seq, .bool o.mkr, str o.data, .slice a o.l.length c] ∧ Sl W a c o.l ∧ o.l.length ≤ 4398046510976 := by
  obtain ⟨f0, f1, f2, f3, f4, hu, ⟨t0, t1, t2, t3, t4⟩, o0, o1, o2, o3, o4⟩ := mundV
  obtain ⟨xs, n', _, hxd, _, hxl, hfs⟩ := DataW.trod_struct hu h
  match xs, hxl, cs, hlen with
  | [y0, y1, y2, y3, y4], _, [v0, v1, v2, v3, v4], _ =>
    have g0 := hfs 0 f0 rfl
    have g1 := hfs 1 f1 rfl
    have g2 := hfs 2 f2 rfl
    have g3 := hfs 3 f3 rfl
    have g4 := hfs 4 f4 rfl
    simp [o0, o1, o2, o3, o4, t0, t1, t2, t3, t4, cells9t, mcells2, mcells4, mcellsEs] at g0 g1 g2 g3 g4
    obtain ⟨s0, e0, ye0, hs0⟩ := DataW.trod_string Tryz.underlying9 g0
    obtain ⟨s1, e1, ye1, hs1⟩ := DataW.trod_int Tryz.underlying2 g1
    obtain ⟨s2, e2, ye2⟩ := DataW.trod_bool Tryz.underlying4 g2
    obtain ⟨s3, e3, ye3, hs3⟩ := DataW.trod_string Tryz.underlying9 g3
    have h4 : ∃ a len cap, v4 = .slice a len cap := by
      rcases Go.Deep.open_slice Tryz.underlying48 g4 with ⟨hcs, _⟩ | ⟨x, l, c, m, n, D, Pl, hcs, _⟩
      · simp at hcs; exact ⟨_, _, _, hcs⟩
      · simp at hcs; exact ⟨_, _, _, hcs⟩
    obtain ⟨a, len, cap, rfl⟩ := h4
    simp at e0 e1 e2 e3
    subst e0 e1 e2 e3
    have hDe : d = .agg [y0.1, y1.1, y2.1, y3.1, y4.1] := congrArg Prod.fst hxd
    have hws : ∀ n ∈ DataW.weightsEach Tryz.prog [9, 2, 4, 9, 48] [y0.1, y1.1, y2.1, y3.1, y4.1], n ≤ 140737488351232 := by
      intro n hn
      refine hw n ?_
      rw [hDe]
      simp only [DataW.weights, hu]
      simpa [t0, t1, t2, t3, t4] using hn
    have hw4 : ∀ n ∈ y4.1.weights Tryz.prog 48, n ≤ 140737488351232 := fun n hn => hws n (DataW.weights_mem_each (j := 4) rfl rfl _ hn)
    have T4 : DataW.Trod enc Tryz.prog W 0 (fun _ => true) true 48 (.slice a len cap) y4.1 y4.2 := ⟨n', by simpa [Value.cells] using g4⟩
    obtain ⟨L, hl, ⟨i1, i2⟩, rd⟩ := ents_in T4 hw4
    subst hl
    exact ⟨⟨s0.data.toList, s1, s2, s3.data.toList, L⟩, a, cap, by simp [str], ⟨i1, (ents_sl T4).1, (ents_sl T4).2.1, (ents_sl T4).2.2⟩, ents_in_len rd hw4⟩
set_option maxRecDepth 100000 in
theorem mvers_in {H : Type} {enc : TypeId × Value → H} {W : World} {a : Option Addr} {len cap : Nat} {d : DataW H} {p : List MemPlace} (h : DataW.Trod enc Tryz.prog W 0 (fun _ => true) true 42 (.slice a len cap) d p) (hw : ∀ n ∈ d.weights Tryz.prog 42, n ≤ 140737488351232) :
    ∃ L : List Vs, L.length = len ∧ (VIn W a L ∧ (∀ x ∈ L, x.l.length ≤ 4398046510976)) ∧ Reads d len := by
  obtain ⟨fuel, hf⟩ := h
  rcases Go.Deep.open_slice Tryz.underlying42 hf with ⟨hcs, _⟩ | ⟨x, l, c, m, n, D, Pl, hcs, _, hl, hm, hmm, hx, hel⟩
  · simp [Value.cells] at hcs
    obtain ⟨rfl, rfl, rfl⟩ := hcs
    exact ⟨[], rfl, ⟨⟨fun k p hk => by simp at hk⟩, fun p hk => by simp at hk⟩, .inl rfl⟩
  · simp [Value.cells] at hcs
    obtain ⟨rfl, rfl, rfl⟩ := hcs
    have hmc : m = cap := by simpa using hmm
    have hd : d = .slice ((List.range len).map D) ((List.range (m - len)).map fun j => D (len + j)) := congrArg Prod.fst hx
    have hwe : ∀ k, k < len → ∀ n ∈ (D k).weights Tryz.prog 50, n ≤ 140737488351232 := by
      intro k hk n hn
      refine hw n ?_
      rw [hd]
      simp only [DataW.weights, Tryz.underlying42]
      exact List.mem_cons_of_mem _ (List.mem_append_left _ (weightsAll_mem (List.mem_map.2 ⟨k, List.mem_range.2 hk, rfl⟩) n hn))
    obtain ⟨b, off, spot⟩ := x
    have key : ∀ k, ∃ o : Vs × Option Addr × Nat, k < len → (spot = none ∧ b < W.heap.size ∧ (W.cell? ⟨b, off + k * 5, none⟩ = some (str o.1.key) ∧ W.cell? ⟨b, off + k * 5 + 1, none⟩ = some (.int .i64 o.1.seq) ∧ W.cell? ⟨b, off + k * 5 + 2, none⟩ = some (.bool o.1.mkr) ∧ W.cell? ⟨b, off + k * 5 + 3, none⟩ = some (str o.1.data) ∧ W.cell? ⟨b, off + k * 5 + 4, none⟩ = some (.slice o.2.1 o.1.l.length o.2.2)) ∧ Sl W o.2.1 o.2.2 o.1.l ∧ o.1.l.length ≤ 4398046510976) := by
      intro k
      by_cases hk : k < len
      · obtain ⟨cs', h1, h2⟩ := hel k (by omega)
        rw [mcellsV] at h1
        obtain ⟨_, hlen, hcell⟩ := World.cells?_some h1
        have hwk := hwe k hk
        have hspot : spot = none := by
          obtain ⟨cs0, h10, _⟩ := hel 0 (by omega)
          rw [mcellsV] at h10
          obtain ⟨_, hlen0, hcell0⟩ := World.cells?_some h10
          match cs0, hlen0 with
          | [u0, u1, u2, u3, u4], _ =>
            have q0 := hcell0 0 (by omega)
            simpa [Addr.add] using World.cell?_spot q0
        subst hspot
        have hadd : ∀ j i, ((⟨b, off, none⟩ : Addr).add j).add i = ⟨b, off + j + i, none⟩ := fun j i => by rw [addr_add, addr_add]
        obtain ⟨o, oa, oc, rfl, hr, hs⟩ := mver_at h2 hlen hwk
        have c0 := hcell 0 (by simp)
        have c1 := hcell 1 (by simp)
        have c2 := hcell 2 (by simp)
        have c3 := hcell 3 (by simp)
        have c4 := hcell 4 (by simp)
        rw [hadd] at c0 c1 c2 c3 c4
        exact ⟨⟨o, oa, oc⟩, fun _ => ⟨rfl, block_lt_of_cell c0, ⟨by simpa using c0, by simpa using c1, by simpa using c2, by simpa using c3, by simpa using c4⟩, hr, hs⟩⟩
      · exact ⟨⟨⟨[], 0, false, [], []⟩, none, 0⟩, fun h => absurd h hk⟩
    have hf := fun k => Classical.choose_spec (key k)
    have hget : ∀ (k : Nat) (q : Vs), ((List.range len).map fun k => (Classical.choose (key k)).1)[k]? = some q → k < len ∧ q = (Classical.choose (key k)).1 := fun k q hk => by
      have hkl : k < len := by
        have := (List.getElem?_eq_some_iff.1 hk).1
        simpa using this
      rw [List.getElem?_map, List.getElem?_range hkl] at hk
      exact ⟨hkl, (Option.some.inj hk).symm⟩
    refine ⟨(List.range len).map fun k => (Classical.choose (key k)).1, by simp, ⟨⟨fun k q hk => ?_⟩, fun q hq => ?_⟩, .inr ⟨_, _, hd, by simp⟩⟩
    · obtain ⟨hkl, rfl⟩ := hget k q hk
      obtain ⟨h1, h2, ⟨h3, h4, h5, h6, h7⟩, h8, h9⟩ := hf k hkl
      exact ⟨b, off, _, _, by rw [h1], h2, h3, h4, h5, h6, h7, h8⟩
    · obtain ⟨k, hk, e⟩ := List.getElem_of_mem hq
      obtain ⟨hkl, rfl⟩ := hget k q (by rw [List.getElem?_eq_getElem hk, e])
      exact (hf k hkl).2.2.2.2
theorem mvers_len {H : Type} {d : DataW H} {len : Nat} (h : Reads d len) (hw : ∀ n ∈ d.weights Tryz.prog 42, n ≤ 140737488351232) : len ≤ 1954687338211 := by
  rcases h with h0 | ⟨es, sp, he, hl⟩
  · omega
  · have := hw ((es.length + sp.length) * Tryz.prog.bytesOf 50) (by rw [he]; simp only [DataW.weights, Tryz.underlying42]; exact List.mem_cons_self)
    rw [mbytesV] at this
    omega
set_option maxRecDepth 100000 in
theorem bkt_in {H : Type} {enc : TypeId × Value → H} {W : World} {base : Nat} {v : Value} {d : DataW H} {p : List MemPlace} (hv : Value.okWide Tryz.prog W .any base 44 v) (h : DataW.Trod enc Tryz.prog W 0 (fun _ => true) true 44 v d p) (hw : ∀ n ∈ d.weights Tryz.prog 44, n ≤ 140737488351232) :
    ∃ (nx : Int) (L : List Vs) (a : Option Addr) (c : Nat), v = .agg #[.int .i64 nx, .slice a L.length c] ∧ VIn W a L ∧ (∀ x ∈ L, x.l.length ≤ 4398046510976) ∧ L.length ≤ 1954687338211 := by
  obtain ⟨f0, f1, hu, ⟨t0, t1⟩, o0, o1⟩ := mundB
  obtain ⟨cs0, rfl, hc⟩ := okWide_struct hu hv
  rw [mcellsB] at hc
  obtain ⟨fuel, hf⟩ := h
  have hcl : (Value.cells (.agg cs0)).toList = cs0.toList := rfl
  rw [hcl] at hf
  obtain ⟨cs, hcs⟩ : ∃ cs, cs0.toList = cs := ⟨_, rfl⟩
  have hlen : cs.length = 2 := by rw [← hcs, Array.length_toList]; exact hc
  rw [hcs] at hf
  obtain ⟨xs, n', _, hxd, _, hxl, hfs⟩ := DataW.trod_struct hu hf
  match xs, hxl, cs, hlen with
  | [y0, y1], _, [v0, v1], _ =>
    have g0 := hfs 0 f0 rfl
    have g1 := hfs 1 f1 rfl
    simp [o0, o1, t0, t1, mcells2, mcellsVs] at g0 g1
    obtain ⟨s0, e0, ye0, hs0⟩ := DataW.trod_int Tryz.underlying2 g0
    have h4 : ∃ a len cap, v1 = .slice a len cap := by
      rcases Go.Deep.open_slice Tryz.underlying42 g1 with ⟨hcs, _⟩ | ⟨x, l, c, m, n, D, Pl, hcs, _⟩
      · simp at hcs; exact ⟨_, _, _, hcs⟩
      · simp at hcs; exact ⟨_, _, _, hcs⟩
    obtain ⟨a, len, cap, rfl⟩ := h4
    simp at e0
    subst e0
    have hDe : d = .agg [y0.1, y1.1] := congrArg Prod.fst hxd
    have hw1 : ∀ n ∈ y1.1.weights Tryz.prog 42, n ≤ 140737488351232 := fun n hn => by
      refine hw n ?_
      rw [hDe]
      simp only [DataW.weights, hu]
      have := DataW.weights_mem_each (P := Tryz.prog) (ts := [2, 42]) (ds := [y0.1, y1.1]) (j := 1) rfl rfl n hn
      simpa [t0, t1] using this
    have T1 : DataW.Trod enc Tryz.prog W 0 (fun _ => true) true 42 (.slice a len cap) y1.1 y1.2 := ⟨n', by simpa [Value.cells] using g1⟩
    obtain ⟨L, hl, ⟨i1, i2⟩, rd⟩ := mvers_in T1 hw1
    have hb := mvers_len rd hw1
    subst hl
    refine ⟨s0, L, a, cap, ?_, i1, i2, hb⟩
    have : cs0 = #[.int .i64 s0, .slice a L.length cap] := by
      apply Array.ext'
      rw [hcs]
    rw [this]
end Go.Proofs.YtbiponnchppndaaGreatDoor
