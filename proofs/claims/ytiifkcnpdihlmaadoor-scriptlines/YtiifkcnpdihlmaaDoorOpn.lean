/- Slices of entries that came in. -/
import Derived.Test.YtiifkcnpdihlmaaDoorRow
import Derived.Test.YtiifkcnpdihlmaaDoorRows
import Derived.ProofKit
import Derived.OpenShut
import Derived.JoinedCond
import Derived.SizedLaws
import Derived.Deep.Slices
namespace Go.Proofs.YtiifkcnpdihlmaaDoor
set_option maxRecDepth 100000
set_option linter.unusedVariables false
set_option linter.unusedSimpArgs false
open Go.ChangeShapes Go.WideShapes Go.ChangeAt Go.RowKit
theorem own : ownKnob Tryd.prog.godebug = none := by kernel_rfl
theorem wf64 {n : Int} (h : (Lit.int .i64 n).wf = true) : -9223372036854775808 ≤ n ∧ n ≤ 9223372036854775807 := by
  simpa [Lit.wf, IntKind.min, IntKind.max, IntKind.signed, IntKind.bits] using h
theorem cells3t : Tryd.prog.cellsOf 3 = 1 := by kernel_rfl
theorem cells9t : Tryd.prog.cellsOf 9 = 1 := by kernel_rfl
theorem bytesE : Tryd.prog.bytesOf 47 = 32 := by kernel_rfl
theorem cellsE : Tryd.prog.cellsOf 47 = 2 := by kernel_rfl
theorem undE : ∃ f0 f1 : Field, Tryd.prog.underlying 47 = some (.struct #[f0, f1]) ∧ (f0.type = 9 ∧ f1.type = 9) ∧ (f0.offset = 0 ∧ f1.offset = 1) := by
  refine ⟨_, _, Tryd.underlying47, ⟨rfl, rfl⟩, rfl, rfl⟩
/-- how long the slice reads -/
def Reads {H : Type} (d : DataW H) (len : Nat) : Prop := len = 0 ∨ ∃ es sp, d = .slice es sp ∧ es.length = len
theorem weightsAll_mem {H : Type} {P : Program} {e : TypeId} : ∀ {l : List (DataW H)} {d : DataW H}, d ∈ l → ∀ n ∈ d.weights P e, n ∈ DataW.weightsAll P e l
  | x :: r, d, h, n, hn => by
    simp only [DataW.weightsAll, List.mem_append]
    rcases List.mem_cons.1 h with rfl | h
    · exact .inl hn
    · exact .inr (weightsAll_mem h n hn)
theorem weights_le {H : Type} {ts : List TypeId} {ds : List (DataW H)} (h : (DataW.weightsEach Tryd.prog ts ds).all (· ≤ reachBytes) = true) {j : Nat} {t : TypeId} {d : DataW H} (ht : ts[j]? = some t) (hd : ds[j]? = some d) : ∀ n ∈ d.weights Tryd.prog t, n ≤ 140737488351232 := fun n hn => by
  have := of_decide_eq_true (List.all_eq_true.1 h n (DataW.weights_mem_each ht hd n hn))
  simpa [reachBytes] using this
set_option maxRecDepth 100000 in
theorem ent_at {H : Type} {enc : TypeId × Value → H} {W : World} {fuel : Nat} {cs : List Value} {d : DataW H} {pl : List MemPlace} (h : DataW.trod enc Tryd.prog W 0 (fun _ => true) true fuel 47 cs = some (d, pl)) (hlen : cs.length = 2) (hw : ∀ n ∈ d.weights Tryd.prog 47, n ≤ 140737488351232) :
    ∃ o : En, cs = [str o.key, str o.val] ∧ o.key.length ≤ 140737488351232 ∧ o.val.length ≤ 140737488351232 := by
  obtain ⟨f0, f1, hu, ⟨t0, t1⟩, o0, o1⟩ := undE
  obtain ⟨xs, n', _, hxd, _, hxl, hfs⟩ := DataW.trod_struct hu h
  match xs, hxl, cs, hlen with
  | [y0, y1], _, [v0, v1], _ =>
    have g0 := hfs 0 f0 rfl
    have g1 := hfs 1 f1 rfl
    simp [o0, o1, t0, t1, cells9t] at g0 g1
    obtain ⟨s0, e0, ye0, hs0⟩ := DataW.trod_string Tryd.underlying9 g0
    obtain ⟨s, e1, ye, hs⟩ := DataW.trod_string Tryd.underlying9 g1
    simp at e0 e1
    subst e0 e1
    have hDe : d = .agg [y0.1, y1.1] := congrArg Prod.fst hxd
    have hws : ∀ n ∈ DataW.weightsEach Tryd.prog [9, 9] [y0.1, y1.1], n ≤ 140737488351232 := by
      intro n hn
      refine hw n ?_
      rw [hDe]
      simp only [DataW.weights, hu]
      simpa [t0, t1] using hn
    have hsz : s.size ≤ 140737488351232 := by
      refine hws _ (DataW.weights_mem_each (j := 1) rfl rfl _ ?_)
      rw [ye]
      show s.size ∈ [s.data.toList.length]
      simp
    have hsz0 : s0.size ≤ 140737488351232 := by
      refine hws _ (DataW.weights_mem_each (j := 0) rfl rfl _ ?_)
      rw [ye0]
      show s0.size ∈ [s0.data.toList.length]
      simp
    exact ⟨⟨s0.data.toList, s.data.toList⟩, by simp [str], by simpa using hsz0, by simpa using hsz⟩
set_option maxRecDepth 100000 in
theorem ents_in {H : Type} {enc : TypeId × Value → H} {W : World} {a : Option Addr} {len cap : Nat} {d : DataW H} {p : List MemPlace} (h : DataW.Trod enc Tryd.prog W 0 (fun _ => true) true 29 (.slice a len cap) d p) (hw : ∀ n ∈ d.weights Tryd.prog 29, n ≤ 140737488351232) :
    ∃ L : List En, L.length = len ∧ (PIn W a L ∧ (∀ (k : Nat) (e : En), L[k]? = some e → e.key.length ≤ 140737488351232 ∧ e.val.length ≤ 140737488351232)) ∧ Reads d len := by
  obtain ⟨fuel, hf⟩ := h
  rcases Go.Deep.open_slice Tryd.underlying29 hf with ⟨hcs, _⟩ | ⟨x, l, c, m, n, D, Pl, hcs, _, hl, hm, hmm, hx, hel⟩
  · simp [Value.cells] at hcs
    obtain ⟨rfl, rfl, rfl⟩ := hcs
    exact ⟨[], rfl, ⟨⟨fun k p hk => by simp at hk⟩, fun k p hk => by simp at hk⟩, .inl rfl⟩
  · simp [Value.cells] at hcs
    obtain ⟨rfl, rfl, rfl⟩ := hcs
    have hmc : m = cap := by simpa using hmm
    have hd : d = .slice ((List.range len).map D) ((List.range (m - len)).map fun j => D (len + j)) := congrArg Prod.fst hx
    have hwe : ∀ k, k < len → ∀ n ∈ (D k).weights Tryd.prog 47, n ≤ 140737488351232 := by
      intro k hk n hn
      refine hw n ?_
      rw [hd]
      simp only [DataW.weights, Tryd.underlying29]
      exact List.mem_cons_of_mem _ (List.mem_append_left _ (weightsAll_mem (List.mem_map.2 ⟨k, List.mem_range.2 hk, rfl⟩) n hn))
    obtain ⟨b, off, spot⟩ := x
    have key : ∀ k, ∃ o : En, k < len → (spot = none ∧ b < W.heap.size ∧ (W.cell? ⟨b, off + k * 2, none⟩ = some (str o.key) ∧ W.cell? ⟨b, off + k * 2 + 1, none⟩ = some (str o.val)) ∧ o.key.length ≤ 140737488351232 ∧ o.val.length ≤ 140737488351232) := by
      intro k
      by_cases hk : k < len
      · obtain ⟨cs', h1, h2⟩ := hel k (by omega)
        rw [cellsE] at h1
        obtain ⟨_, hlen, hcell⟩ := World.cells?_some h1
        have hwk := hwe k hk
        have hspot : spot = none := by
          obtain ⟨cs0, h10, _⟩ := hel 0 (by omega)
          rw [cellsE] at h10
          obtain ⟨_, hlen0, hcell0⟩ := World.cells?_some h10
          match cs0, hlen0 with
          | [u0, u1], _ =>
            have q0 := hcell0 0 (by omega)
            simpa [Addr.add] using World.cell?_spot q0
        subst hspot
        have hadd : ∀ j i, ((⟨b, off, none⟩ : Addr).add j).add i = ⟨b, off + j + i, none⟩ := fun j i => by rw [addr_add, addr_add]
        obtain ⟨o, rfl, hr, hs⟩ := ent_at h2 hlen hwk
        have c0 := hcell 0 (by simp)
        have c1 := hcell 1 (by simp)
        rw [hadd] at c0 c1
        exact ⟨o, fun _ => ⟨rfl, block_lt_of_cell c0, ⟨by simpa using c0, by simpa using c1⟩, hr, hs⟩⟩
      · exact ⟨⟨[], []⟩, fun h => absurd h hk⟩
    have hf := fun k => Classical.choose_spec (key k)
    have hget : ∀ (k : Nat) (q : En), ((List.range len).map fun k => Classical.choose (key k))[k]? = some q → k < len ∧ q = Classical.choose (key k) := fun k q hk => by
      have hkl : k < len := by
        have := (List.getElem?_eq_some_iff.1 hk).1
        simpa using this
      rw [List.getElem?_map, List.getElem?_range hkl] at hk
      exact ⟨hkl, (Option.some.inj hk).symm⟩
    refine ⟨(List.range len).map fun k => Classical.choose (key k), by simp, ⟨⟨fun k q hk => ?_⟩, fun k q hk => ?_⟩, .inr ⟨_, _, hd, by simp⟩⟩
    · obtain ⟨hkl, rfl⟩ := hget k q hk
      obtain ⟨h1, h2, h3, h4⟩ := hf k hkl
      exact ⟨b, off, by rw [h1], h2, h3.1, h3.2⟩
    · obtain ⟨hkl, rfl⟩ := hget k q hk
      obtain ⟨h1, h2, h3, h4⟩ := hf k hkl
      exact h4
theorem ents_in_len {H : Type} {d : DataW H} {len : Nat} (h : Reads d len) (hw : ∀ n ∈ d.weights Tryd.prog 29, n ≤ 140737488351232) : len ≤ 4398046510976 := by
  rcases h with h0 | ⟨es, sp, he, hl⟩
  · omega
  · have := hw ((es.length + sp.length) * Tryd.prog.bytesOf 47) (by rw [he]; simp only [DataW.weights, Tryd.underlying29]; exact List.mem_cons_self)
    rw [bytesE] at this
    omega
set_option maxRecDepth 100000 in
/-- an entry that came in -/
theorem ent_in {H : Type} {enc : TypeId × Value → H} {W : World} {base : Nat} {v : Value} {d : DataW H} {p : List MemPlace} (hv : Value.okWide Tryd.prog W .any base 47 v) (h : DataW.Trod enc Tryd.prog W 0 (fun _ => true) true 47 v d p) (hw : ∀ n ∈ d.weights Tryd.prog 47, n ≤ 140737488351232) :
    ∃ o : En, v = pv o ∧ o.key.length ≤ 140737488351232 ∧ o.val.length ≤ 140737488351232 := by
  obtain ⟨f0, f1, hu, _⟩ := undE
  obtain ⟨cs, rfl, hc⟩ := okWide_struct hu hv
  rw [cellsE] at hc
  obtain ⟨fuel, hf⟩ := h
  obtain ⟨o, ho, h1⟩ := ent_at hf (by simpa [Value.cells] using hc) hw
  refine ⟨o, ?_, h1⟩
  have : cs = #[str o.key, str o.val] := by
    apply Array.ext'
    simpa [Value.cells] using ho
  rw [this]
theorem str_of (a : ByteArray) : str a.data.toList = .string a := by simp [str]
end Go.Proofs.YtiifkcnpdihlmaaDoor
