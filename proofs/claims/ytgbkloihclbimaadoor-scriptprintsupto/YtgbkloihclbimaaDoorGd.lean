import Derived.Test.YtgbkloihclbimaaDoorRow
import Derived.Test.YtgbkloihclbimaaDoorRows
import Derived.ProofKit
import Derived.OpenShut
import Derived.JoinedCond
import Derived.SizedLaws
import Derived.Deep.Slices
import Derived.Test.YtgbkloihclbimaaDoorYe
import Derived.Test.YtgbkloihclbimaaDoorGc
/- Slices of entries that came in. -/
namespace Go.Proofs.YtgbkloihclbimaaDoor
set_option maxRecDepth 100000
set_option linter.unusedVariables false
set_option linter.unusedSimpArgs false
open Go.ChangeShapes Go.WideShapes Go.ChangeAt Go.RowKit
theorem own : ownKnob Tryd.prog.godebug = none := by kernel_rfl
theorem wf64 {n : Int} (h : (Lit.int .i64 n).wf = true) : -9223372036854775808 ≤ n ∧ n ≤ 9223372036854775807 := by
  simpa [Lit.wf, IntKind.min, IntKind.max, IntKind.signed, IntKind.bits] using h
theorem cells3t : Tryd.prog.cellsOf 3 = 1 := by kernel_rfl
theorem cells9t : Tryd.prog.cellsOf 9 = 1 := by kernel_rfl
theorem bytesE : Tryd.prog.bytesOf 38 = 32 := by kernel_rfl
theorem cellsE : Tryd.prog.cellsOf 38 = 2 := by kernel_rfl
theorem undE : ∃ f0 f1 : Field, Tryd.prog.underlying 38 = some (.struct #[f0, f1]) ∧ (f0.type = 9 ∧ f1.type = 9) ∧ (f0.offset = 0 ∧ f1.offset = 1) := by
  refine ⟨_, _, Tryd.underlying38, ⟨rfl, rfl⟩, rfl, rfl⟩
/-- how long the slice reads -/
def Reads {H : Type} (d : DataW H) (len : Nat) : Prop := len = 0 ∨ ∃ es sp, d = .slice es sp ∧ es.length = len
theorem weightsAll_mem {H : Type} {P : Program} {e : TypeId} : ∀ {l : List (DataW H)} {d : DataW H}, d ∈ l → ∀ n ∈ d.weights P e, n ∈ DataW.weightsAll P e l
  | x :: r, d, h, n, hn => by
    simp only [DataW.weightsAll, List.mem_append]
    rcases List.mem_cons.1 h with rfl | h
    · exact .inl hn
    · exact .inr (weightsAll_mem h n hn)
theorem weights_le {H : Type} {ts : List TypeId} {ds : List (DataW H)} (h : (DataW.weightsEach Tryd.prog ts ds).all (· ≤ reachBytes) = true) {j : Nat} {t : TypeId} {d : DataW H} (ht : ts[j]? = some t) (hd : ds[j]? = some d) : ∀ n ∈ d.weights Tryd.prog t, n ≤ 140737488351232 := fun n hn => by
  have := of_decide_eq_true (List.all_eq_true.1 h n (DataW.weights_mem_each ht hd n hn))
  simpa [reachBytes] using this
set_option maxRecDepth 100000 in
theorem ent_at {H : Type} {enc : TypeId × Value → H} {W : World} {fuel : Nat} {cs : List Value} {d : DataW H} {pl : List MemPlace} (h : DataW.trod enc Tryd.prog W 0 (fun _ => true) true fuel 38 cs = some (d, pl)) (hlen : cs.length = 2) (hw : ∀ n ∈ d.weights Tryd.prog 38, n ≤ 140737488351232) :
    ∃ o : En, cs = [str o.key, str o.val] ∧ o.key.length ≤ 140737488351232 ∧ o.val.length ≤ 140737488351232 := by
  obtain ⟨f0, f1, hu, ⟨t0, t1⟩, o0, o1⟩ := undE
  obtain ⟨xs, n', _, hxd, _, hxl, hfs⟩ := DataW.trod_struct hu h
  match xs, hxl, cs, hlen with
  | [y0, y1], _, [v0, v1], _ =>
    have g0 := hfs 0 f0 rfl
    have g1 := hfs 1 f1 rfl
    simp [o0, o1, t0, t1, cells9t] at g0 g1
    obtain ⟨s0, e0, ye0, hs0⟩ := DataW.trod_string Tryd.underlying9 g0
    obtain ⟨s, e1, ye, hs⟩ := DataW.trod_string Tryd.underlying9 g1
    simp at e0 e1
    subst e0 e1
    have hDe : d = .agg [y0.1, y1.1] := congrArg Prod.fst hxd
    have hws : ∀ n ∈ DataW.weightsEach Tryd.prog [9, 9] [y0.1, y1.1], n ≤ 140737488351232 := by
      intro n hn
      refine hw n ?_
      rw [hDe]
      simp only [DataW.weights, hu]
      simpa [t0, t1] using hn
    have hsz : s.size ≤ 140737488351232 := by
      refine hws _ (DataW.weights_mem_each (j := 1) rfl rfl _ ?_)
      rw [ye]
      show s.size ∈ [s.data.toList.length]
      simp
    have hsz0 : s0.size ≤ 140737488351232 := by
      refine hws _ (DataW.weights_mem_each (j := 0) rfl rfl _ ?_)
      rw [ye0]
      show s0.size ∈ [s0.data.toList.length]
      simp
    exact ⟨⟨s0.data.toList, s.data.toList⟩, by simp [str], by simpa using hsz0, by simpa using hsz⟩
set_option maxRecDepth 100000 in
theorem ents_in {H : Type} {enc : TypeId × Value → H} {W : World} {a : Option Addr} {len cap : Nat} {d : DataW H} {p : List MemPlace} (h : DataW.Trod enc Tryd.prog W 0 (fun _ => true) true 31 (.slice a len cap) d p) (hw : ∀ n ∈ d.weights Tryd.prog 31, n ≤ 140737488351232) :
    ∃ L : List En, L.length = len ∧ (PIn W a L ∧ (∀ (k : Nat) (e : En), L[k]? = some e → e.key.length ≤ 140737488351232 ∧ e.val.length ≤ 140737488351232)) ∧ Reads d len := by
  obtain ⟨fuel, hf⟩ := h
  rcases Go.Deep.open_slice Tryd.underlying31 hf with ⟨hcs, _⟩ | ⟨x, l, c, m, n, D, Pl, hcs, _, hl, hm, hmm, hx, hel⟩
  · simp [Value.cells] at hcs
    obtain ⟨rfl, rfl, rfl⟩ := hcs
    exact ⟨[], rfl, ⟨⟨fun k p hk => by simp at hk⟩, fun k p hk => by simp at hk⟩, .inl rfl⟩
  · simp [Value.cells] at hcs
    obtain ⟨rfl, rfl, rfl⟩ := hcs
    have hmc : m = cap := by simpa using hmm
    have hd : d = .slice ((List.range len).map D) ((List.range (m - len)).map fun j => D (len + j)) := congrArg Prod.fst hx
    have hwe : ∀ k, k < len → ∀ n ∈ (D k).weights Tryd.prog 38, n ≤ 140737488351232 := by
      intro k hk n hn
      refine hw n ?_
      rw [hd]
      simp only [DataW.weights, Tryd.underlying31]
      exact List.mem_cons_of_mem _ (List.mem_append_left _ (weightsAll_mem (List.mem_map.2 ⟨k, List.mem_range.2 hk, rfl⟩) n hn))
    obtain ⟨b, off, spot⟩ := x
    have key : ∀ k, ∃ o : En, k < len → (spot = none ∧ b < W.heap.size ∧ (W.cell? ⟨b, off + k * 2, none⟩ = some (str o.key) ∧ W.cell? ⟨b, off + k * 2 + 1, none⟩ = some (str o.val)) ∧ o.key.length ≤ 140737488351232 ∧ o.val.length ≤ 140737488351232) := by
      intro k
      by_cases hk : k < len
      · obtain ⟨cs', h1, h2⟩ := hel k (by omega)
        rw [cellsE] at h1
        obtain ⟨_, hlen, hcell⟩ := World.cells?_some h1
        have hwk := hwe k hk
        have hspot : spot = none := by
          obtain ⟨cs0, h10, _⟩ := hel 0 (by omega)
          rw [cellsE] at h10
          obtain ⟨_, hlen0, hcell0⟩ := World.cells?_some h10
          match cs0, hlen0 with
          | [u0, u1], _ =>
            have q0 := hcell0 0 (by omega)
            simpa [Addr.add] using World.cell?_spot q0
        subst hspot
        have hadd : ∀ j i, ((⟨b, off, none⟩ : Addr).add j).add i = ⟨b, off + j + i, none⟩ := fun j i => by rw [addr_add, addr_add]
        obtain ⟨o, rfl, hr, hs⟩ := ent_at h2 hlen hwk
        have c0 := hcell 0 (by simp)
        have c1 := hcell 1 (by simp)
        rw [hadd] at c0 c1
        exact ⟨o, fun _ => ⟨rfl, block_lt_of_cell c0, ⟨by simpa using c0, by simpa using c1⟩, hr, hs⟩⟩
      · exact ⟨⟨[], []⟩, fun h => absurd h hk⟩
    have hf := fun k => Classical.choose_spec (key k)
    have hget : ∀ (k : Nat) (q : En), ((List.range len).map fun k => Classical.choose (key k))[k]? = some q → k < len ∧ q = Classical.choose (key k) := fun k q hk => by
      have hkl : k < len := by
        have := (List.getElem?_eq_some_iff.1 hk).1
        simpa using this
      rw [List.getElem?_map, List.getElem?_range hkl] at hk
      exact ⟨hkl, (Option.some.inj hk).symm⟩
    refine ⟨(List.range len).map fun k => Classical.choose (key k), by simp, ⟨⟨fun k q hk => ?_⟩, fun k q hk => ?_⟩, .inr ⟨_, _, hd, by simp⟩⟩
    · obtain ⟨hkl, rfl⟩ := hget k q hk
      obtain ⟨h1, h2, h3, h4⟩ := hf k hkl
      exact ⟨b, off, by rw [h1], h2, h3.1, h3.2⟩
    · obtain ⟨hkl, rfl⟩ := hget k q hk
      obtain ⟨h1, h2, h3, h4⟩ := hf k hkl
      exact h4
theorem ents_in_len {H : Type} {d : DataW H} {len : Nat} (h : Reads d len) (hw : ∀ n ∈ d.weights Tryd.prog 31, n ≤ 140737488351232) : len ≤ 4398046510976 := by
  rcases h with h0 | ⟨es, sp, he, hl⟩
  · omega
  · have := hw ((es.length + sp.length) * Tryd.prog.bytesOf 38) (by rw [he]; simp only [DataW.weights, Tryd.underlying31]; exact List.mem_cons_self)
    rw [bytesE] at this
    omega
set_option maxRecDepth 100000 in
/-- an entry that came in -/
theorem ent_in {H : Type} {enc : TypeId × Value → H} {W : World} {base : Nat} {v : Value} {d : DataW H} {p : List MemPlace} (hv : Value.okWide Tryd.prog W .any base 38 v) (h : DataW.Trod enc Tryd.prog W 0 (fun _ => true) true 38 v d p) (hw : ∀ n ∈ d.weights Tryd.prog 38, n ≤ 140737488351232) :
    ∃ o : En, v = pv o ∧ o.key.length ≤ 140737488351232 ∧ o.val.length ≤ 140737488351232 := by
  obtain ⟨f0, f1, hu, _⟩ := undE
  obtain ⟨cs, rfl, hc⟩ := okWide_struct hu hv
  rw [cellsE] at hc
  obtain ⟨fuel, hf⟩ := h
  obtain ⟨o, ho, h1⟩ := ent_at hf (by simpa [Value.cells] using hc) hw
  refine ⟨o, ?_, h1⟩
  have : cs = #[str o.key, str o.val] := by
    apply Array.ext'
    simpa [Value.cells] using ho
  rw [this]
theorem str_of (a : ByteArray) : str a.data.toList = .string a := by simp [str]
end Go.Proofs.YtgbkloihclbimaaDoor

/- How much room a slice of entries has that came in. -/
namespace Go.Proofs.YtgbkloihclbimaaDoor
set_option maxRecDepth 100000
set_option linter.unusedVariables false
set_option linter.unusedSimpArgs false
open Go.ChangeShapes Go.WideShapes Go.ChangeAt Go.RowKit
theorem ents_sl {H : Type} {enc : TypeId × Value → H} {W : World} {a : Option Addr} {len cap : Nat} {d : DataW H} {p : List MemPlace} (h : DataW.Trod enc Tryd.prog W 0 (fun _ => true) true 31 (.slice a len cap) d p) : len ≤ cap ∧ cap ≤ 9223372036854775807 ∧ (a = none → cap = 0) := by
  obtain ⟨fuel, hf⟩ := h
  rcases Go.Deep.open_slice Tryd.underlying31 hf with ⟨hcs, _⟩ | ⟨x, l, c, m, n, D, Pl, hcs, _, hl, hm, hmm, hx, hel⟩
  · simp [Value.cells] at hcs
    obtain ⟨rfl, rfl, rfl⟩ := hcs
    exact ⟨by omega, by omega, fun _ => rfl⟩
  · simp [Value.cells] at hcs
    obtain ⟨rfl, rfl, rfl⟩ := hcs
    exact ⟨hl, hm, fun q => by cases q⟩
end Go.Proofs.YtgbkloihclbimaaDoor

/- Layer 22: lists of the document's commands that came in. -/
namespace Go.Proofs.YtgbkloihclbimaaDoor
set_option maxRecDepth 100000
set_option linter.unusedVariables false
set_option linter.unusedSimpArgs false
open Go.ChangeShapes Go.WideShapes Go.ChangeAt Go.RowKit
theorem cells2t : Tryd.prog.cellsOf 2 = 1 := by kernel_rfl
theorem cellsEs : Tryd.prog.cellsOf 31 = 1 := by kernel_rfl
theorem cellsIs : Tryd.prog.cellsOf 32 = 1 := by kernel_rfl
theorem cellsQS : Tryd.prog.cellsOf 48 = 8 := by kernel_rfl
theorem cellsQC : Tryd.prog.cellsOf 50 = 12 := by kernel_rfl
theorem bytes3 : Tryd.prog.bytesOf 3 = 8 := by kernel_rfl
theorem bytesQC : Tryd.prog.bytesOf 50 = 160 := by kernel_rfl
theorem undQS : ∃ f0 f1 f2 f3 f4 f5 f6 f7 : Field, Tryd.prog.underlying 48 = some (.struct #[f0, f1, f2, f3, f4, f5, f6, f7]) ∧ (f0.type = 3 ∧ f1.type = 9 ∧ f2.type = 9 ∧ f3.type = 9 ∧ f4.type = 31 ∧ f5.type = 2 ∧ f6.type = 3 ∧ f7.type = 32) ∧ (f0.offset = 0 ∧ f1.offset = 1 ∧ f2.offset = 2 ∧ f3.offset = 3 ∧ f4.offset = 4 ∧ f5.offset = 5 ∧ f6.offset = 6 ∧ f7.offset = 7) := by
  refine ⟨_, _, _, _, _, _, _, _, Tryd.underlying48, ⟨rfl, rfl, rfl, rfl, rfl, rfl, rfl, rfl⟩, rfl, rfl, rfl, rfl, rfl, rfl, rfl, rfl⟩
theorem undQC : ∃ f0 f1 f2 f3 f4 : Field, Tryd.prog.underlying 50 = some (.struct #[f0, f1, f2, f3, f4]) ∧ (f0.type = 3 ∧ f1.type = 3 ∧ f2.type = 3 ∧ f3.type = 48 ∧ f4.type = 9) ∧ (f0.offset = 0 ∧ f1.offset = 1 ∧ f2.offset = 2 ∧ f3.offset = 3 ∧ f4.offset = 11) := by
  refine ⟨_, _, _, _, _, Tryd.underlying50, ⟨rfl, rfl, rfl, rfl, rfl⟩, rfl, rfl, rfl, rfl, rfl⟩
set_option maxRecDepth 100000 in
theorem ints_in {H : Type} {enc : TypeId × Value → H} {W : World} {a : Option Addr} {len cap : Nat} {d : DataW H} {p : List MemPlace} (h : DataW.Trod enc Tryd.prog W 0 (fun _ => true) true 32 (.slice a len cap) d p) (hw : ∀ n ∈ d.weights Tryd.prog 32, n ≤ 140737488351232) :
    ∃ L : List Int, L.length = len ∧ Si W a cap L ∧ (∀ n ∈ L, In64 n) ∧ len ≤ 17592186043904 := by
  obtain ⟨fuel, hf⟩ := h
  rcases Go.Deep.open_slice Tryd.underlying32 hf with ⟨hcs, _⟩ | ⟨x, l, c, m, n, D, Pl, hcs, _, hl, hm, hmm, hx, hel⟩
  · simp [Value.cells] at hcs
    obtain ⟨rfl, rfl, rfl⟩ := hcs
    exact ⟨[], rfl, si_nil W, (fun n hn => by cases hn), by omega⟩
  · simp [Value.cells] at hcs
    obtain ⟨rfl, rfl, rfl⟩ := hcs
    have hmc : m = cap := by simpa using hmm
    have hd : d = .slice ((List.range len).map D) ((List.range (m - len)).map fun j => D (len + j)) := congrArg Prod.fst hx
    obtain ⟨b, off, spot⟩ := x
    have key : ∀ k, ∃ o : Int, k < len → (spot = none ∧ b < W.heap.size ∧ W.cell? ⟨b, off + k, none⟩ = some (.int .i64 o) ∧ In64 o) := by
      intro k
      by_cases hk : k < len
      · obtain ⟨cs', h1, h2⟩ := hel k (by omega)
        rw [cells3t, Nat.mul_one] at h1
        obtain ⟨_, hlen, hcell⟩ := World.cells?_some h1
        obtain ⟨z, ez, yz, hz⟩ := DataW.trod_int Tryd.underlying3 h2
        subst ez
        have q0 := hcell 0 (by simp)
        have hspot : spot = none := by
          obtain ⟨cs0, h10, h20⟩ := hel 0 (by omega)
          rw [cells3t] at h10
          obtain ⟨_, hlen0, hcell0⟩ := World.cells?_some h10
          match cs0, hlen0 with
          | [u0], _ =>
            have q0 := hcell0 0 (by omega)
            simpa [Addr.add] using World.cell?_spot q0
        subst hspot
        have hadd : ((⟨b, off, none⟩ : Addr).add k).add 0 = ⟨b, off + k, none⟩ := by rw [addr_add, addr_add]; simp
        rw [hadd] at q0
        exact ⟨z, fun _ => ⟨rfl, block_lt_of_cell q0, by simpa using q0, wf64 hz⟩⟩
      · exact ⟨0, fun h => absurd h hk⟩
    have hf := fun k => Classical.choose_spec (key k)
    have hget : ∀ (k : Nat) (q : Int), ((List.range len).map fun k => Classical.choose (key k))[k]? = some q → k < len ∧ q = Classical.choose (key k) := fun k q hk => by
      have hkl : k < len := by
        have := (List.getElem?_eq_some_iff.1 hk).1
        simpa using this
      rw [List.getElem?_map, List.getElem?_range hkl] at hk
      exact ⟨hkl, (Option.some.inj hk).symm⟩
    refine ⟨(List.range len).map fun k => Classical.choose (key k), by simp, ⟨fun k q hk => ?_, by simpa using hl, fun q => by cases q⟩, fun n hn => ?_, ?_⟩
    · obtain ⟨hkl, rfl⟩ := hget k q hk
      obtain ⟨h1, h2, h3, h4⟩ := hf k hkl
      exact ⟨b, off, by rw [h1], h2, h3⟩
    · obtain ⟨k, hk, rfl⟩ := List.mem_map.1 hn
      exact (hf k (List.mem_range.1 hk)).2.2.2
    · have := hw ((((List.range len).map D).length + ((List.range (m - len)).map fun j => D (len + j)).length) * Tryd.prog.bytesOf 3) (by rw [hd]; simp only [DataW.weights, Tryd.underlying32]; exact List.mem_cons_self)
      rw [bytes3] at this
      simp at this
      omega
/-- a command that came in: numbers in range, texts and lists no greater than they may be -/
structure OkI (c : Cm) : Prop where
  ok : OkC c
  b : c.bucket.length ≤ 140737488351232
  sb : c.st.bucket.length ≤ 140737488351232
  sk : c.st.key.length ≤ 140737488351232
  sd : c.st.data.length ≤ 140737488351232
  mt : ∀ e ∈ c.st.mt, e.key.length ≤ 140737488351232 ∧ e.val.length ≤ 140737488351232
  ml : c.st.mt.length ≤ 4398046510976
  kl : c.st.kept.length ≤ 17592186043904
theorem OkI.t {c : Cm} (h : OkI c) : OkT c := ⟨h.ok, by have := h.b; omega, by have := h.sb; omega, by have := h.sk; omega, by have := h.sd; omega, by have := h.ml; omega, by have := h.kl; omega, fun e he => by have := h.mt e he; omega⟩
structure StI (s : Sp) : Prop where
  k : In64 s.kind
  q : In64 s.seq
  n : In64 s.n
  kp : ∀ x ∈ s.kept, In64 x
  sb : s.bucket.length ≤ 140737488351232
  sk : s.key.length ≤ 140737488351232
  sd : s.data.length ≤ 140737488351232
  mt : ∀ e ∈ s.mt, e.key.length ≤ 140737488351232 ∧ e.val.length ≤ 140737488351232
  ml : s.mt.length ≤ 4398046510976
  kl : s.kept.length ≤ 17592186043904
set_option maxRecDepth 100000 in
theorem step_at {H : Type} {enc : TypeId × Value → H} {W : World} {fuel : Nat} {cs : List Value} {d : DataW H} {pl : List MemPlace} (h : DataW.trod enc Tryd.prog W 0 (fun _ => true) true fuel 48 cs = some (d, pl)) (hlen : cs.length = 8) (hw : ∀ n ∈ d.weights Tryd.prog 48, n ≤ 140737488351232) :
    ∃ (s : Sp) (ma : Option Addr) (mc : Nat) (ka : Option Addr) (kc : Nat), cs = [.int .i64 s.kind, str s.bucket, str s.key, str s.data, .slice ma s.mt.length mc, .int .i64 s.seq, .int .i64 s.n, .slice ka s.kept.length kc] ∧ Sl W ma mc s.mt ∧ Si W ka kc s.kept ∧ StI s := by
  obtain ⟨f0, f1, f2, f3, f4, f5, f6, f7, hu, ⟨t0, t1, t2, t3, t4, t5, t6, t7⟩, o0, o1, o2, o3, o4, o5, o6, o7⟩ := undQS
  obtain ⟨xs, n', _, hxd, _, hxl, hfs⟩ := DataW.trod_struct hu h
  match xs, hxl, cs, hlen with
  | [y0, y1, y2, y3, y4, y5, y6, y7], _, [v0, v1, v2, v3, v4, v5, v6, v7], _ =>
    have g0 := hfs 0 f0 rfl
    have g1 := hfs 1 f1 rfl
    have g2 := hfs 2 f2 rfl
    have g3 := hfs 3 f3 rfl
    have g4 := hfs 4 f4 rfl
    have g5 := hfs 5 f5 rfl
    have g6 := hfs 6 f6 rfl
    have g7 := hfs 7 f7 rfl
    simp [o0, o1, o2, o3, o4, o5, o6, o7, t0, t1, t2, t3, t4, t5, t6, t7, cells9t, cells2t, cells3t, cellsEs, cellsIs] at g0 g1 g2 g3 g4 g5 g6 g7
    obtain ⟨s0, e0, ye0, hs0⟩ := DataW.trod_int Tryd.underlying3 g0
    obtain ⟨s1, e1, ye1, hs1⟩ := DataW.trod_string Tryd.underlying9 g1
    obtain ⟨s2, e2, ye2, hs2⟩ := DataW.trod_string Tryd.underlying9 g2
    obtain ⟨s3, e3, ye3, hs3⟩ := DataW.trod_string Tryd.underlying9 g3
    obtain ⟨s5, e5, ye5, hs5⟩ := DataW.trod_int Tryd.underlying2 g5
    obtain ⟨s6, e6, ye6, hs6⟩ := DataW.trod_int Tryd.underlying3 g6
    have h4 : ∃ a len cap, v4 = .slice a len cap := by
      rcases Go.Deep.open_slice Tryd.underlying31 g4 with ⟨hcs, _⟩ | ⟨x, l, c, m, n, D, Pl, hcs, _⟩
      · simp at hcs; exact ⟨_, _, _, hcs⟩
      · simp at hcs; exact ⟨_, _, _, hcs⟩
    have h7 : ∃ a len cap, v7 = .slice a len cap := by
      rcases Go.Deep.open_slice Tryd.underlying32 g7 with ⟨hcs, _⟩ | ⟨x, l, c, m, n, D, Pl, hcs, _⟩
      · simp at hcs; exact ⟨_, _, _, hcs⟩
      · simp at hcs; exact ⟨_, _, _, hcs⟩
    obtain ⟨ma, mlen, mc, rfl⟩ := h4
    obtain ⟨ka, klen, kc, rfl⟩ := h7
    simp at e0 e1 e2 e3 e5 e6
    subst e0 e1 e2 e3 e5 e6
    have hDe : d = .agg [y0.1, y1.1, y2.1, y3.1, y4.1, y5.1, y6.1, y7.1] := congrArg Prod.fst hxd
    have hws : ∀ n ∈ DataW.weightsEach Tryd.prog [3, 9, 9, 9, 31, 2, 3, 32] [y0.1, y1.1, y2.1, y3.1, y4.1, y5.1, y6.1, y7.1], n ≤ 140737488351232 := by
      intro n hn
      refine hw n ?_
      rw [hDe]
      simp only [DataW.weights, hu]
      simpa [t0, t1, t2, t3, t4, t5, t6, t7] using hn
    have hz1 : s1.size ≤ 140737488351232 := by
      refine hws _ (DataW.weights_mem_each (j := 1) rfl rfl _ ?_)
      rw [ye1]
      show s1.size ∈ [s1.data.toList.length]
      simp
    have hz2 : s2.size ≤ 140737488351232 := by
      refine hws _ (DataW.weights_mem_each (j := 2) rfl rfl _ ?_)
      rw [ye2]
      show s2.size ∈ [s2.data.toList.length]
      simp
    have hz3 : s3.size ≤ 140737488351232 := by
      refine hws _ (DataW.weights_mem_each (j := 3) rfl rfl _ ?_)
      rw [ye3]
      show s3.size ∈ [s3.data.toList.length]
      simp
    have hw4 : ∀ n ∈ y4.1.weights Tryd.prog 31, n ≤ 140737488351232 := fun n hn => hws n (DataW.weights_mem_each (j := 4) rfl rfl _ hn)
    have hw7 : ∀ n ∈ y7.1.weights Tryd.prog 32, n ≤ 140737488351232 := fun n hn => hws n (DataW.weights_mem_each (j := 7) rfl rfl _ hn)
    have T4 : DataW.Trod enc Tryd.prog W 0 (fun _ => true) true 31 (.slice ma mlen mc) y4.1 y4.2 := ⟨n', by simpa [Value.cells] using g4⟩
    have T7 : DataW.Trod enc Tryd.prog W 0 (fun _ => true) true 32 (.slice ka klen kc) y7.1 y7.2 := ⟨n', by simpa [Value.cells] using g7⟩
    obtain ⟨L, hl, ⟨i1, i2⟩, rd⟩ := ents_in T4 hw4
    obtain ⟨K, hkl, si, ki, kn⟩ := ints_in T7 hw7
    subst hl hkl
    refine ⟨⟨s0, s1.data.toList, s2.data.toList, s3.data.toList, L, s5, s6, K⟩, ma, mc, ka, kc, by simp [str], ⟨i1, (ents_sl T4).1, (ents_sl T4).2.1, (ents_sl T4).2.2⟩, si, ⟨wf64 hs0, wf64 hs5, wf64 hs6, ki, by simpa using hz1, by simpa using hz2, by simpa using hz3, fun e he => ?_, ents_in_len rd hw4, kn⟩⟩
    obtain ⟨k, hk⟩ := List.getElem?_of_mem he
    exact i2 k e hk
set_option maxRecDepth 100000 in
theorem cmd_at {H : Type} {enc : TypeId × Value → H} {W : World} {fuel : Nat} {cs : List Value} {d : DataW H} {pl : List MemPlace} (h : DataW.trod enc Tryd.prog W 0 (fun _ => true) true fuel 50 cs = some (d, pl)) (hlen : cs.length = 12) (hw : ∀ n ∈ d.weights Tryd.prog 50, n ≤ 140737488351232) :
    ∃ r : Cr, cs = ccl r ∧ Sl W r.ma r.mc r.c.st.mt ∧ Si W r.ka r.kc r.c.st.kept ∧ OkI r.c := by
  obtain ⟨f0, f1, f2, f3, f4, hu, ⟨t0, t1, t2, t3, t4⟩, o0, o1, o2, o3, o4⟩ := undQC
  obtain ⟨xs, n', _, hxd, _, hxl, hfs⟩ := DataW.trod_struct hu h
  match xs, hxl, cs, hlen with
  | [y0, y1, y2, y3, y4], _, [v0, v1, v2, v3, v4, v5, v6, v7, v8, v9, v10, v11], _ =>
    have g0 := hfs 0 f0 rfl
    have g1 := hfs 1 f1 rfl
    have g2 := hfs 2 f2 rfl
    have g3 := hfs 3 f3 rfl
    have g4 := hfs 4 f4 rfl
    simp [o0, o1, o2, o3, o4, t0, t1, t2, t3, t4, cells9t, cells3t, cellsQS] at g0 g1 g2 g3 g4
    obtain ⟨s0, e0, ye0, hs0⟩ := DataW.trod_int Tryd.underlying3 g0
    obtain ⟨s1, e1, ye1, hs1⟩ := DataW.trod_int Tryd.underlying3 g1
    obtain ⟨s2, e2, ye2, hs2⟩ := DataW.trod_int Tryd.underlying3 g2
    obtain ⟨s4, e4, ye4, hs4⟩ := DataW.trod_string Tryd.underlying9 g4
    simp at e0 e1 e2 e4
    subst e0 e1 e2 e4
    have hDe : d = .agg [y0.1, y1.1, y2.1, y3.1, y4.1] := congrArg Prod.fst hxd
    have hws : ∀ n ∈ DataW.weightsEach Tryd.prog [3, 3, 3, 48, 9] [y0.1, y1.1, y2.1, y3.1, y4.1], n ≤ 140737488351232 := by
      intro n hn
      refine hw n ?_
      rw [hDe]
      simp only [DataW.weights, hu]
      simpa [t0, t1, t2, t3, t4] using hn
    have hz4 : s4.size ≤ 140737488351232 := by
      refine hws _ (DataW.weights_mem_each (j := 4) rfl rfl _ ?_)
      rw [ye4]
      show s4.size ∈ [s4.data.toList.length]
      simp
    have hw3 : ∀ n ∈ y3.1.weights Tryd.prog 48, n ≤ 140737488351232 := fun n hn => hws n (DataW.weights_mem_each (j := 3) rfl rfl _ hn)
    obtain ⟨s, ma, mc, ka, kc, es, hsl, hsi, hst⟩ := step_at g3 rfl hw3
    injection es with z0 es
    injection es with z1 es
    injection es with z2 es
    injection es with z3 es
    injection es with z4 es
    injection es with z5 es
    injection es with z6 es
    injection es with z7 es
    subst z0 z1 z2 z3 z4 z5 z6 z7
    refine ⟨⟨⟨s0, s1, s2, s, s4.data.toList⟩, ma, mc, ka, kc⟩, by simp [ccl, ccs, str], hsl, hsi, ⟨⟨wf64 hs0, wf64 hs1, wf64 hs2, hst.k, hst.q, hst.n, hst.kp⟩, by simpa using hz4, hst.sb, hst.sk, hst.sd, hst.mt, hst.ml, hst.kl⟩⟩
def r00 : Cr := ⟨⟨0, 0, 0, ⟨0, [], [], [], [], 0, 0, []⟩, []⟩, none, 0, none, 0⟩
set_option maxRecDepth 100000 in
theorem cmds_at {H : Type} {enc : TypeId × Value → H} {W : World} {a : Option Addr} {len cap : Nat} {d : DataW H} {p : List MemPlace} (h : DataW.Trod enc Tryd.prog W 0 (fun _ => true) true 22 (.slice a len cap) d p) (hw : ∀ n ∈ d.weights Tryd.prog 22, n ≤ 140737488351232) :
    ∃ L : List Cr, L.length = len ∧ CT W a L ∧ (∀ r ∈ L, OkI r.c) ∧ len ≤ 879609302208 := by
  obtain ⟨fuel, hf⟩ := h
  rcases Go.Deep.open_slice Tryd.underlying22 hf with ⟨hcs, _⟩ | ⟨x, l, c, m, n, D, Pl, hcs, _, hl, hm, hmm, hx, hel⟩
  · simp [Value.cells] at hcs
    obtain ⟨rfl, rfl, rfl⟩ := hcs
    exact ⟨[], rfl, (fun k r hk => by simp at hk), (fun r hr => by cases hr), by omega⟩
  · simp [Value.cells] at hcs
    obtain ⟨rfl, rfl, rfl⟩ := hcs
    have hmc : m = cap := by simpa using hmm
    have hd : d = .slice ((List.range len).map D) ((List.range (m - len)).map fun j => D (len + j)) := congrArg Prod.fst hx
    have hwe : ∀ k, k < len → ∀ n ∈ (D k).weights Tryd.prog 50, n ≤ 140737488351232 := by
      intro k hk n hn
      refine hw n ?_
      rw [hd]
      simp only [DataW.weights, Tryd.underlying22]
      exact List.mem_cons_of_mem _ (List.mem_append_left _ (weightsAll_mem (List.mem_map.2 ⟨k, List.mem_range.2 hk, rfl⟩) n hn))
    obtain ⟨b, off, spot⟩ := x
    have key : ∀ k, ∃ r : Cr, k < len → (spot = none ∧ b < W.heap.size ∧ W.rangeAt b (off + k * 12) (ccl r) ∧ Sl W r.ma r.mc r.c.st.mt ∧ Si W r.ka r.kc r.c.st.kept ∧ OkI r.c) := by
      intro k
      by_cases hk : k < len
      · obtain ⟨cs', h1, h2⟩ := hel k (by omega)
        rw [cellsQC] at h1
        obtain ⟨_, hlen, hcell⟩ := World.cells?_some h1
        have hwk := hwe k hk
        have hspot : spot = none := by
          obtain ⟨cs0, h10, _⟩ := hel 0 (by omega)
          rw [cellsQC] at h10
          obtain ⟨_, hlen0, hcell0⟩ := World.cells?_some h10
          have q0 := hcell0 0 (by decide)
          rw [List.getElem?_eq_getElem (by omega)] at q0
          simpa [Addr.add] using World.cell?_spot q0
        subst hspot
        have hadd : ∀ j i, ((⟨b, off, none⟩ : Addr).add j).add i = ⟨b, off + j + i, none⟩ := fun j i => by rw [addr_add, addr_add]
        obtain ⟨r, rfl, hr, hs, hi⟩ := cmd_at h2 hlen hwk
        have hrg : W.rangeAt b (off + k * 12) (ccl r) := fun j v hv => by
          have hj : j < 12 := (List.getElem?_eq_some_iff.1 hv).1
          have q := hcell j hj
          rw [hadd] at q
          rw [q]; exact hv
        have c0 := hrg 0 _ rfl
        exact ⟨r, fun _ => ⟨rfl, block_lt_of_cell c0, hrg, hr, hs, hi⟩⟩
      · exact ⟨r00, fun h => absurd h hk⟩
    have hf := fun k => Classical.choose_spec (key k)
    have hget : ∀ (k : Nat) (q : Cr), ((List.range len).map fun k => Classical.choose (key k))[k]? = some q → k < len ∧ q = Classical.choose (key k) := fun k q hk => by
      have hkl : k < len := by
        have := (List.getElem?_eq_some_iff.1 hk).1
        simpa using this
      rw [List.getElem?_map, List.getElem?_range hkl] at hk
      exact ⟨hkl, (Option.some.inj hk).symm⟩
    refine ⟨(List.range len).map fun k => Classical.choose (key k), by simp, fun k q hk => ?_, fun r hr => ?_, ?_⟩
    · obtain ⟨hkl, rfl⟩ := hget k q hk
      obtain ⟨h1, h2, h3, h4, h5, h6⟩ := hf k hkl
      exact ⟨b, off, by rw [h1], h2, h3, h4, h5⟩
    · obtain ⟨k, hk, rfl⟩ := List.mem_map.1 hr
      exact (hf k (List.mem_range.1 hk)).2.2.2.2.2
    · have := hw ((((List.range len).map D).length + ((List.range (m - len)).map fun j => D (len + j)).length) * Tryd.prog.bytesOf 50) (by rw [hd]; simp only [DataW.weights, Tryd.underlying22]; exact List.mem_cons_self)
      rw [bytesQC] at this
      simp at this
      omega
theorem cmds_in {H : Type} {enc : TypeId × Value → H} {W : World} {base : Nat} {v : Value} {d : DataW H} {p : List MemPlace} (hv : Value.okWide Tryd.prog W .any base 22 v) (h : DataW.Trod enc Tryd.prog W 0 (fun _ => true) true 22 v d p) (hw : ∀ n ∈ d.weights Tryd.prog 22, n ≤ 140737488351232) :
    ∃ (R : List Cr) (a : Option Addr) (c : Nat), v = .slice a R.length c ∧ CT W a R ∧ R.length ≤ 879609302208 ∧ ∀ r ∈ R, OkI r.c := by
  obtain ⟨a, len, cap, rfl⟩ := okWide_slice Tryd.underlying22 hv
  obtain ⟨L, rfl, h1, h2, h3⟩ := cmds_at h hw
  exact ⟨L, a, cap, rfl, h1, h3, h2⟩
end Go.Proofs.YtgbkloihclbimaaDoor

/- Layer 22: lists of commands that came in, where the bulk is bounded (written by mkVj.py). -/
namespace Go.Proofs.YtgbkloihclbimaaDoor
set_option maxRecDepth 100000
set_option linter.unusedVariables false
set_option linter.unusedSimpArgs false
open Go.ChangeShapes Go.WideShapes Go.ChangeAt Go.RowKit
set_option maxRecDepth 100000 in
theorem ent_atU {H : Type} {enc : TypeId × Value → H} {W : World} {fuel : Nat} {cs : List Value} {d : DataW H} {pl : List MemPlace} (h : DataW.trod enc Tryd.prog W 0 (fun _ => true) true fuel 38 cs = some (d, pl)) (hlen : cs.length = 2) (hw : ∀ n ∈ d.weights Tryd.prog 38, n ≤ 167772160) :
    ∃ o : En, cs = [str o.key, str o.val] ∧ o.key.length ≤ 167772160 ∧ o.val.length ≤ 167772160 := by
  obtain ⟨f0, f1, hu, ⟨t0, t1⟩, o0, o1⟩ := undE
  obtain ⟨xs, n', _, hxd, _, hxl, hfs⟩ := DataW.trod_struct hu h
  match xs, hxl, cs, hlen with
  | [y0, y1], _, [v0, v1], _ =>
    have g0 := hfs 0 f0 rfl
    have g1 := hfs 1 f1 rfl
    simp [o0, o1, t0, t1, cells9t] at g0 g1
    obtain ⟨s0, e0, ye0, hs0⟩ := DataW.trod_string Tryd.underlying9 g0
    obtain ⟨s, e1, ye, hs⟩ := DataW.trod_string Tryd.underlying9 g1
    simp at e0 e1
    subst e0 e1
    have hDe : d = .agg [y0.1, y1.1] := congrArg Prod.fst hxd
    have hws : ∀ n ∈ DataW.weightsEach Tryd.prog [9, 9] [y0.1, y1.1], n ≤ 167772160 := by
      intro n hn
      refine hw n ?_
      rw [hDe]
      simp only [DataW.weights, hu]
      simpa [t0, t1] using hn
    have hsz : s.size ≤ 167772160 := by
      refine hws _ (DataW.weights_mem_each (j := 1) rfl rfl _ ?_)
      rw [ye]
      show s.size ∈ [s.data.toList.length]
      simp
    have hsz0 : s0.size ≤ 167772160 := by
      refine hws _ (DataW.weights_mem_each (j := 0) rfl rfl _ ?_)
      rw [ye0]
      show s0.size ∈ [s0.data.toList.length]
      simp
    exact ⟨⟨s0.data.toList, s.data.toList⟩, by simp [str], by simpa using hsz0, by simpa using hsz⟩
set_option maxRecDepth 100000 in
theorem ents_inU {H : Type} {enc : TypeId × Value → H} {W : World} {a : Option Addr} {len cap : Nat} {d : DataW H} {p : List MemPlace} (h : DataW.Trod enc Tryd.prog W 0 (fun _ => true) true 31 (.slice a len cap) d p) (hw : ∀ n ∈ d.weights Tryd.prog 31, n ≤ 167772160) :
    ∃ L : List En, L.length = len ∧ (PIn W a L ∧ (∀ (k : Nat) (e : En), L[k]? = some e → e.key.length ≤ 167772160 ∧ e.val.length ≤ 167772160)) ∧ Reads d len := by
  obtain ⟨fuel, hf⟩ := h
  rcases Go.Deep.open_slice Tryd.underlying31 hf with ⟨hcs, _⟩ | ⟨x, l, c, m, n, D, Pl, hcs, _, hl, hm, hmm, hx, hel⟩
  · simp [Value.cells] at hcs
    obtain ⟨rfl, rfl, rfl⟩ := hcs
    exact ⟨[], rfl, ⟨⟨fun k p hk => by simp at hk⟩, fun k p hk => by simp at hk⟩, .inl rfl⟩
  · simp [Value.cells] at hcs
    obtain ⟨rfl, rfl, rfl⟩ := hcs
    have hmc : m = cap := by simpa using hmm
    have hd : d = .slice ((List.range len).map D) ((List.range (m - len)).map fun j => D (len + j)) := congrArg Prod.fst hx
    have hwe : ∀ k, k < len → ∀ n ∈ (D k).weights Tryd.prog 38, n ≤ 167772160 := by
      intro k hk n hn
      refine hw n ?_
      rw [hd]
      simp only [DataW.weights, Tryd.underlying31]
      exact List.mem_cons_of_mem _ (List.mem_append_left _ (weightsAll_mem (List.mem_map.2 ⟨k, List.mem_range.2 hk, rfl⟩) n hn))
    obtain ⟨b, off, spot⟩ := x
    have key : ∀ k, ∃ o : En, k < len → (spot = none ∧ b < W.heap.size ∧ (W.cell? ⟨b, off + k * 2, none⟩ = some (str o.key) ∧ W.cell? ⟨b, off + k * 2 + 1, none⟩ = some (str o.val)) ∧ o.key.length ≤ 167772160 ∧ o.val.length ≤ 167772160) := by
      intro k
      by_cases hk : k < len
      · obtain ⟨cs', h1, h2⟩ := hel k (by omega)
        rw [cellsE] at h1
        obtain ⟨_, hlen, hcell⟩ := World.cells?_some h1
        have hwk := hwe k hk
        have hspot : spot = none := by
          obtain ⟨cs0, h10, _⟩ := hel 0 (by omega)
          rw [cellsE] at h10
          obtain ⟨_, hlen0, hcell0⟩ := World.cells?_some h10
          match cs0, hlen0 with
          | [u0, u1], _ =>
            have q0 := hcell0 0 (by omega)
            simpa [Addr.add] using World.cell?_spot q0
        subst hspot
        have hadd : ∀ j i, ((⟨b, off, none⟩ : Addr).add j).add i = ⟨b, off + j + i, none⟩ := fun j i => by rw [addr_add, addr_add]
        obtain ⟨o, rfl, hr, hs⟩ := ent_atU h2 hlen hwk
        have c0 := hcell 0 (by simp)
        have c1 := hcell 1 (by simp)
        rw [hadd] at c0 c1
        exact ⟨o, fun _ => ⟨rfl, block_lt_of_cell c0, ⟨by simpa using c0, by simpa using c1⟩, hr, hs⟩⟩
      · exact ⟨⟨[], []⟩, fun h => absurd h hk⟩
    have hf := fun k => Classical.choose_spec (key k)
    have hget : ∀ (k : Nat) (q : En), ((List.range len).map fun k => Classical.choose (key k))[k]? = some q → k < len ∧ q = Classical.choose (key k) := fun k q hk => by
      have hkl : k < len := by
        have := (List.getElem?_eq_some_iff.1 hk).1
        simpa using this
      rw [List.getElem?_map, List.getElem?_range hkl] at hk
      exact ⟨hkl, (Option.some.inj hk).symm⟩
    refine ⟨(List.range len).map fun k => Classical.choose (key k), by simp, ⟨⟨fun k q hk => ?_⟩, fun k q hk => ?_⟩, .inr ⟨_, _, hd, by simp⟩⟩
    · obtain ⟨hkl, rfl⟩ := hget k q hk
      obtain ⟨h1, h2, h3, h4⟩ := hf k hkl
      exact ⟨b, off, by rw [h1], h2, h3.1, h3.2⟩
    · obtain ⟨hkl, rfl⟩ := hget k q hk
      obtain ⟨h1, h2, h3, h4⟩ := hf k hkl
      exact h4
theorem ents_in_lenU {H : Type} {d : DataW H} {len : Nat} (h : Reads d len) (hw : ∀ n ∈ d.weights Tryd.prog 31, n ≤ 167772160) : len ≤ 5242880 := by
  rcases h with h0 | ⟨es, sp, he, hl⟩
  · omega
  · have := hw ((es.length + sp.length) * Tryd.prog.bytesOf 38) (by rw [he]; simp only [DataW.weights, Tryd.underlying31]; exact List.mem_cons_self)
    rw [bytesE] at this
    omega
set_option maxRecDepth 100000 in
theorem ints_inU {H : Type} {enc : TypeId × Value → H} {W : World} {a : Option Addr} {len cap : Nat} {d : DataW H} {p : List MemPlace} (h : DataW.Trod enc Tryd.prog W 0 (fun _ => true) true 32 (.slice a len cap) d p) (hw : ∀ n ∈ d.weights Tryd.prog 32, n ≤ 167772160) :
    ∃ L : List Int, L.length = len ∧ Si W a cap L ∧ (∀ n ∈ L, In64 n) ∧ len ≤ 20971520 := by
  obtain ⟨fuel, hf⟩ := h
  rcases Go.Deep.open_slice Tryd.underlying32 hf with ⟨hcs, _⟩ | ⟨x, l, c, m, n, D, Pl, hcs, _, hl, hm, hmm, hx, hel⟩
  · simp [Value.cells] at hcs
    obtain ⟨rfl, rfl, rfl⟩ := hcs
    exact ⟨[], rfl, si_nil W, (fun n hn => by cases hn), by omega⟩
  · simp [Value.cells] at hcs
    obtain ⟨rfl, rfl, rfl⟩ := hcs
    have hmc : m = cap := by simpa using hmm
    have hd : d = .slice ((List.range len).map D) ((List.range (m - len)).map fun j => D (len + j)) := congrArg Prod.fst hx
    obtain ⟨b, off, spot⟩ := x
    have key : ∀ k, ∃ o : Int, k < len → (spot = none ∧ b < W.heap.size ∧ W.cell? ⟨b, off + k, none⟩ = some (.int .i64 o) ∧ In64 o) := by
      intro k
      by_cases hk : k < len
      · obtain ⟨cs', h1, h2⟩ := hel k (by omega)
        rw [cells3t, Nat.mul_one] at h1
        obtain ⟨_, hlen, hcell⟩ := World.cells?_some h1
        obtain ⟨z, ez, yz, hz⟩ := DataW.trod_int Tryd.underlying3 h2
        subst ez
        have q0 := hcell 0 (by simp)
        have hspot : spot = none := by
          obtain ⟨cs0, h10, h20⟩ := hel 0 (by omega)
          rw [cells3t] at h10
          obtain ⟨_, hlen0, hcell0⟩ := World.cells?_some h10
          match cs0, hlen0 with
          | [u0], _ =>
            have q0 := hcell0 0 (by omega)
            simpa [Addr.add] using World.cell?_spot q0
        subst hspot
        have hadd : ((⟨b, off, none⟩ : Addr).add k).add 0 = ⟨b, off + k, none⟩ := by rw [addr_add, addr_add]; simp
        rw [hadd] at q0
        exact ⟨z, fun _ => ⟨rfl, block_lt_of_cell q0, by simpa using q0, wf64 hz⟩⟩
      · exact ⟨0, fun h => absurd h hk⟩
    have hf := fun k => Classical.choose_spec (key k)
    have hget : ∀ (k : Nat) (q : Int), ((List.range len).map fun k => Classical.choose (key k))[k]? = some q → k < len ∧ q = Classical.choose (key k) := fun k q hk => by
      have hkl : k < len := by
        have := (List.getElem?_eq_some_iff.1 hk).1
        simpa using this
      rw [List.getElem?_map, List.getElem?_range hkl] at hk
      exact ⟨hkl, (Option.some.inj hk).symm⟩
    refine ⟨(List.range len).map fun k => Classical.choose (key k), by simp, ⟨fun k q hk => ?_, by simpa using hl, fun q => by cases q⟩, fun n hn => ?_, ?_⟩
    · obtain ⟨hkl, rfl⟩ := hget k q hk
      obtain ⟨h1, h2, h3, h4⟩ := hf k hkl
      exact ⟨b, off, by rw [h1], h2, h3⟩
    · obtain ⟨k, hk, rfl⟩ := List.mem_map.1 hn
      exact (hf k (List.mem_range.1 hk)).2.2.2
    · have := hw ((((List.range len).map D).length + ((List.range (m - len)).map fun j => D (len + j)).length) * Tryd.prog.bytesOf 3) (by rw [hd]; simp only [DataW.weights, Tryd.underlying32]; exact List.mem_cons_self)
      rw [bytes3] at this
      simp at this
      omega
/-- a command that came in: numbers in range, texts and lists no greater than they may be -/
structure OkIU (c : Cm) : Prop where
  ok : OkC c
  b : c.bucket.length ≤ 167772160
  sb : c.st.bucket.length ≤ 167772160
  sk : c.st.key.length ≤ 167772160
  sd : c.st.data.length ≤ 167772160
  mt : ∀ e ∈ c.st.mt, e.key.length ≤ 167772160 ∧ e.val.length ≤ 167772160
  ml : c.st.mt.length ≤ 5242880
  kl : c.st.kept.length ≤ 20971520
structure StIU (s : Sp) : Prop where
  k : In64 s.kind
  q : In64 s.seq
  n : In64 s.n
  kp : ∀ x ∈ s.kept, In64 x
  sb : s.bucket.length ≤ 167772160
  sk : s.key.length ≤ 167772160
  sd : s.data.length ≤ 167772160
  mt : ∀ e ∈ s.mt, e.key.length ≤ 167772160 ∧ e.val.length ≤ 167772160
  ml : s.mt.length ≤ 5242880
  kl : s.kept.length ≤ 20971520
set_option maxRecDepth 100000 in
theorem step_atU {H : Type} {enc : TypeId × Value → H} {W : World} {fuel : Nat} {cs : List Value} {d : DataW H} {pl : List MemPlace} (h : DataW.trod enc Tryd.prog W 0 (fun _ => true) true fuel 48 cs = some (d, pl)) (hlen : cs.length = 8) (hw : ∀ n ∈ d.weights Tryd.prog 48, n ≤ 167772160) :
    ∃ (s : Sp) (ma : Option Addr) (mc : Nat) (ka : Option Addr) (kc : Nat), cs = [.int .i64 s.kind, str s.bucket, str s.key, str s.data, .slice ma s.mt.length mc, .int .i64 s.seq, .int .i64 s.n, .slice ka s.kept.length kc] ∧ Sl W ma mc s.mt ∧ Si W ka kc s.kept ∧ StIU s := by
  obtain ⟨f0, f1, f2, f3, f4, f5, f6, f7, hu, ⟨t0, t1, t2, t3, t4, t5, t6, t7⟩, o0, o1, o2, o3, o4, o5, o6, o7⟩ := undQS
  obtain ⟨xs, n', _, hxd, _, hxl, hfs⟩ := DataW.trod_struct hu h
  match xs, hxl, cs, hlen with
  | [y0, y1, y2, y3, y4, y5, y6, y7], _, [v0, v1, v2, v3, v4, v5, v6, v7], _ =>
    have g0 := hfs 0 f0 rfl
    have g1 := hfs 1 f1 rfl
    have g2 := hfs 2 f2 rfl
    have g3 := hfs 3 f3 rfl
    have g4 := hfs 4 f4 rfl
    have g5 := hfs 5 f5 rfl
    have g6 := hfs 6 f6 rfl
    have g7 := hfs 7 f7 rfl
    simp [o0, o1, o2, o3, o4, o5, o6, o7, t0, t1, t2, t3, t4, t5, t6, t7, cells9t, cells2t, cells3t, cellsEs, cellsIs] at g0 g1 g2 g3 g4 g5 g6 g7
    obtain ⟨s0, e0, ye0, hs0⟩ := DataW.trod_int Tryd.underlying3 g0
    obtain ⟨s1, e1, ye1, hs1⟩ := DataW.trod_string Tryd.underlying9 g1
    obtain ⟨s2, e2, ye2, hs2⟩ := DataW.trod_string Tryd.underlying9 g2
    obtain ⟨s3, e3, ye3, hs3⟩ := DataW.trod_string Tryd.underlying9 g3
    obtain ⟨s5, e5, ye5, hs5⟩ := DataW.trod_int Tryd.underlying2 g5
    obtain ⟨s6, e6, ye6, hs6⟩ := DataW.trod_int Tryd.underlying3 g6
    have h4 : ∃ a len cap, v4 = .slice a len cap := by
      rcases Go.Deep.open_slice Tryd.underlying31 g4 with ⟨hcs, _⟩ | ⟨x, l, c, m, n, D, Pl, hcs, _⟩
      · simp at hcs; exact ⟨_, _, _, hcs⟩
      · simp at hcs; exact ⟨_, _, _, hcs⟩
    have h7 : ∃ a len cap, v7 = .slice a len cap := by
      rcases Go.Deep.open_slice Tryd.underlying32 g7 with ⟨hcs, _⟩ | ⟨x, l, c, m, n, D, Pl, hcs, _⟩
      · simp at hcs; exact ⟨_, _, _, hcs⟩
      · simp at hcs; exact ⟨_, _, _, hcs⟩
    obtain ⟨ma, mlen, mc, rfl⟩ := h4
    obtain ⟨ka, klen, kc, rfl⟩ := h7
    simp at e0 e1 e2 e3 e5 e6
    subst e0 e1 e2 e3 e5 e6
    have hDe : d = .agg [y0.1, y1.1, y2.1, y3.1, y4.1, y5.1, y6.1, y7.1] := congrArg Prod.fst hxd
    have hws : ∀ n ∈ DataW.weightsEach Tryd.prog [3, 9, 9, 9, 31, 2, 3, 32] [y0.1, y1.1, y2.1, y3.1, y4.1, y5.1, y6.1, y7.1], n ≤ 167772160 := by
      intro n hn
      refine hw n ?_
      rw [hDe]
      simp only [DataW.weights, hu]
      simpa [t0, t1, t2, t3, t4, t5, t6, t7] using hn
    have hz1 : s1.size ≤ 167772160 := by
      refine hws _ (DataW.weights_mem_each (j := 1) rfl rfl _ ?_)
      rw [ye1]
      show s1.size ∈ [s1.data.toList.length]
      simp
    have hz2 : s2.size ≤ 167772160 := by
      refine hws _ (DataW.weights_mem_each (j := 2) rfl rfl _ ?_)
      rw [ye2]
      show s2.size ∈ [s2.data.toList.length]
      simp
    have hz3 : s3.size ≤ 167772160 := by
      refine hws _ (DataW.weights_mem_each (j := 3) rfl rfl _ ?_)
      rw [ye3]
      show s3.size ∈ [s3.data.toList.length]
      simp
    have hw4 : ∀ n ∈ y4.1.weights Tryd.prog 31, n ≤ 167772160 := fun n hn => hws n (DataW.weights_mem_each (j := 4) rfl rfl _ hn)
    have hw7 : ∀ n ∈ y7.1.weights Tryd.prog 32, n ≤ 167772160 := fun n hn => hws n (DataW.weights_mem_each (j := 7) rfl rfl _ hn)
    have T4 : DataW.Trod enc Tryd.prog W 0 (fun _ => true) true 31 (.slice ma mlen mc) y4.1 y4.2 := ⟨n', by simpa [Value.cells] using g4⟩
    have T7 : DataW.Trod enc Tryd.prog W 0 (fun _ => true) true 32 (.slice ka klen kc) y7.1 y7.2 := ⟨n', by simpa [Value.cells] using g7⟩
    obtain ⟨L, hl, ⟨i1, i2⟩, rd⟩ := ents_inU T4 hw4
    obtain ⟨K, hkl, si, ki, kn⟩ := ints_inU T7 hw7
    subst hl hkl
    refine ⟨⟨s0, s1.data.toList, s2.data.toList, s3.data.toList, L, s5, s6, K⟩, ma, mc, ka, kc, by simp [str], ⟨i1, (ents_sl T4).1, (ents_sl T4).2.1, (ents_sl T4).2.2⟩, si, ⟨wf64 hs0, wf64 hs5, wf64 hs6, ki, by simpa using hz1, by simpa using hz2, by simpa using hz3, fun e he => ?_, ents_in_lenU rd hw4, kn⟩⟩
    obtain ⟨k, hk⟩ := List.getElem?_of_mem he
    exact i2 k e hk
set_option maxRecDepth 100000 in
theorem cmd_atU {H : Type} {enc : TypeId × Value → H} {W : World} {fuel : Nat} {cs : List Value} {d : DataW H} {pl : List MemPlace} (h : DataW.trod enc Tryd.prog W 0 (fun _ => true) true fuel 50 cs = some (d, pl)) (hlen : cs.length = 12) (hw : ∀ n ∈ d.weights Tryd.prog 50, n ≤ 167772160) :
    ∃ r : Cr, cs = ccl r ∧ Sl W r.ma r.mc r.c.st.mt ∧ Si W r.ka r.kc r.c.st.kept ∧ OkIU r.c := by
  obtain ⟨f0, f1, f2, f3, f4, hu, ⟨t0, t1, t2, t3, t4⟩, o0, o1, o2, o3, o4⟩ := undQC
  obtain ⟨xs, n', _, hxd, _, hxl, hfs⟩ := DataW.trod_struct hu h
  match xs, hxl, cs, hlen with
  | [y0, y1, y2, y3, y4], _, [v0, v1, v2, v3, v4, v5, v6, v7, v8, v9, v10, v11], _ =>
    have g0 := hfs 0 f0 rfl
    have g1 := hfs 1 f1 rfl
    have g2 := hfs 2 f2 rfl
    have g3 := hfs 3 f3 rfl
    have g4 := hfs 4 f4 rfl
    simp [o0, o1, o2, o3, o4, t0, t1, t2, t3, t4, cells9t, cells3t, cellsQS] at g0 g1 g2 g3 g4
    obtain ⟨s0, e0, ye0, hs0⟩ := DataW.trod_int Tryd.underlying3 g0
    obtain ⟨s1, e1, ye1, hs1⟩ := DataW.trod_int Tryd.underlying3 g1
    obtain ⟨s2, e2, ye2, hs2⟩ := DataW.trod_int Tryd.underlying3 g2
    obtain ⟨s4, e4, ye4, hs4⟩ := DataW.trod_string Tryd.underlying9 g4
    simp at e0 e1 e2 e4
    subst e0 e1 e2 e4
    have hDe : d = .agg [y0.1, y1.1, y2.1, y3.1, y4.1] := congrArg Prod.fst hxd
    have hws : ∀ n ∈ DataW.weightsEach Tryd.prog [3, 3, 3, 48, 9] [y0.1, y1.1, y2.1, y3.1, y4.1], n ≤ 167772160 := by
      intro n hn
      refine hw n ?_
      rw [hDe]
      simp only [DataW.weights, hu]
      simpa [t0, t1, t2, t3, t4] using hn
    have hz4 : s4.size ≤ 167772160 := by
      refine hws _ (DataW.weights_mem_each (j := 4) rfl rfl _ ?_)
      rw [ye4]
      show s4.size ∈ [s4.data.toList.length]
      simp
    have hw3 : ∀ n ∈ y3.1.weights Tryd.prog 48, n ≤ 167772160 := fun n hn => hws n (DataW.weights_mem_each (j := 3) rfl rfl _ hn)
    obtain ⟨s, ma, mc, ka, kc, es, hsl, hsi, hst⟩ := step_atU g3 rfl hw3
    injection es with z0 es
    injection es with z1 es
    injection es with z2 es
    injection es with z3 es
    injection es with z4 es
    injection es with z5 es
    injection es with z6 es
    injection es with z7 es
    subst z0 z1 z2 z3 z4 z5 z6 z7
    refine ⟨⟨⟨s0, s1, s2, s, s4.data.toList⟩, ma, mc, ka, kc⟩, by simp [ccl, ccs, str], hsl, hsi, ⟨⟨wf64 hs0, wf64 hs1, wf64 hs2, hst.k, hst.q, hst.n, hst.kp⟩, by simpa using hz4, hst.sb, hst.sk, hst.sd, hst.mt, hst.ml, hst.kl⟩⟩
set_option maxRecDepth 100000 in
theorem cmds_atU {H : Type} {enc : TypeId × Value → H} {W : World} {a : Option Addr} {len cap : Nat} {d : DataW H} {p : List MemPlace} (h : DataW.Trod enc Tryd.prog W 0 (fun _ => true) true 22 (.slice a len cap) d p) (hw : ∀ n ∈ d.weights Tryd.prog 22, n ≤ 167772160) :
    ∃ L : List Cr, L.length = len ∧ CT W a L ∧ (∀ r ∈ L, OkIU r.c) ∧ len ≤ 1048576 := by
  obtain ⟨fuel, hf⟩ := h
  rcases Go.Deep.open_slice Tryd.underlying22 hf with ⟨hcs, _⟩ | ⟨x, l, c, m, n, D, Pl, hcs, _, hl, hm, hmm, hx, hel⟩
  · simp [Value.cells] at hcs
    obtain ⟨rfl, rfl, rfl⟩ := hcs
    exact ⟨[], rfl, (fun k r hk => by simp at hk), (fun r hr => by cases hr), by omega⟩
  · simp [Value.cells] at hcs
    obtain ⟨rfl, rfl, rfl⟩ := hcs
    have hmc : m = cap := by simpa using hmm
    have hd : d = .slice ((List.range len).map D) ((List.range (m - len)).map fun j => D (len + j)) := congrArg Prod.fst hx
    have hwe : ∀ k, k < len → ∀ n ∈ (D k).weights Tryd.prog 50, n ≤ 167772160 := by
      intro k hk n hn
      refine hw n ?_
      rw [hd]
      simp only [DataW.weights, Tryd.underlying22]
      exact List.mem_cons_of_mem _ (List.mem_append_left _ (weightsAll_mem (List.mem_map.2 ⟨k, List.mem_range.2 hk, rfl⟩) n hn))
    obtain ⟨b, off, spot⟩ := x
    have key : ∀ k, ∃ r : Cr, k < len → (spot = none ∧ b < W.heap.size ∧ W.rangeAt b (off + k * 12) (ccl r) ∧ Sl W r.ma r.mc r.c.st.mt ∧ Si W r.ka r.kc r.c.st.kept ∧ OkIU r.c) := by
      intro k
      by_cases hk : k < len
      · obtain ⟨cs', h1, h2⟩ := hel k (by omega)
        rw [cellsQC] at h1
        obtain ⟨_, hlen, hcell⟩ := World.cells?_some h1
        have hwk := hwe k hk
        have hspot : spot = none := by
          obtain ⟨cs0, h10, _⟩ := hel 0 (by omega)
          rw [cellsQC] at h10
          obtain ⟨_, hlen0, hcell0⟩ := World.cells?_some h10
          have q0 := hcell0 0 (by decide)
          rw [List.getElem?_eq_getElem (by omega)] at q0
          simpa [Addr.add] using World.cell?_spot q0
        subst hspot
        have hadd : ∀ j i, ((⟨b, off, none⟩ : Addr).add j).add i = ⟨b, off + j + i, none⟩ := fun j i => by rw [addr_add, addr_add]
        obtain ⟨r, rfl, hr, hs, hi⟩ := cmd_atU h2 hlen hwk
        have hrg : W.rangeAt b (off + k * 12) (ccl r) := fun j v hv => by
          have hj : j < 12 := (List.getElem?_eq_some_iff.1 hv).1
          have q := hcell j hj
          rw [hadd] at q
          rw [q]; exact hv
        have c0 := hrg 0 _ rfl
        exact ⟨r, fun _ => ⟨rfl, block_lt_of_cell c0, hrg, hr, hs, hi⟩⟩
      · exact ⟨r00, fun h => absurd h hk⟩
    have hf := fun k => Classical.choose_spec (key k)
    have hget : ∀ (k : Nat) (q : Cr), ((List.range len).map fun k => Classical.choose (key k))[k]? = some q → k < len ∧ q = Classical.choose (key k) := fun k q hk => by
      have hkl : k < len := by
        have := (List.getElem?_eq_some_iff.1 hk).1
        simpa using this
      rw [List.getElem?_map, List.getElem?_range hkl] at hk
      exact ⟨hkl, (Option.some.inj hk).symm⟩
    refine ⟨(List.range len).map fun k => Classical.choose (key k), by simp, fun k q hk => ?_, fun r hr => ?_, ?_⟩
    · obtain ⟨hkl, rfl⟩ := hget k q hk
      obtain ⟨h1, h2, h3, h4, h5, h6⟩ := hf k hkl
      exact ⟨b, off, by rw [h1], h2, h3, h4, h5⟩
    · obtain ⟨k, hk, rfl⟩ := List.mem_map.1 hr
      exact (hf k (List.mem_range.1 hk)).2.2.2.2.2
    · have := hw ((((List.range len).map D).length + ((List.range (m - len)).map fun j => D (len + j)).length) * Tryd.prog.bytesOf 50) (by rw [hd]; simp only [DataW.weights, Tryd.underlying22]; exact List.mem_cons_self)
      rw [bytesQC] at this
      simp at this
      omega
theorem cmds_inU {H : Type} {enc : TypeId × Value → H} {W : World} {base : Nat} {v : Value} {d : DataW H} {p : List MemPlace} (hv : Value.okWide Tryd.prog W .any base 22 v) (h : DataW.Trod enc Tryd.prog W 0 (fun _ => true) true 22 v d p) (hw : ∀ n ∈ d.weights Tryd.prog 22, n ≤ 167772160) :
    ∃ (R : List Cr) (a : Option Addr) (c : Nat), v = .slice a R.length c ∧ CT W a R ∧ R.length ≤ 1048576 ∧ ∀ r ∈ R, OkIU r.c := by
  obtain ⟨a, len, cap, rfl⟩ := okWide_slice Tryd.underlying22 hv
  obtain ⟨L, rfl, h1, h2, h3⟩ := cmds_atU h hw
  exact ⟨L, a, cap, rfl, h1, h3, h2⟩
theorem bulk_pos {H : Type} (d : DataW H) : 1 ≤ Rows.uptoBulk d := by
  cases d with
  | lit l => cases l <;> simp [Rows.uptoBulk]
  | _ => simp [Rows.uptoBulk]
theorem bulk_len {H : Type} : ∀ l : List (DataW H), l.length ≤ Rows.uptoBulkAll l
  | [] => Nat.zero_le _
  | d :: r => by
    have := bulk_len r
    have := bulk_pos d
    simp only [Rows.uptoBulkAll, List.length_cons]
    omega
theorem bulk_mem {H : Type} : ∀ {l : List (DataW H)} {d : DataW H}, d ∈ l → Rows.uptoBulk d ≤ Rows.uptoBulkAll l
  | x :: r, d, h => by
    simp only [Rows.uptoBulkAll]
    rcases List.mem_cons.1 h with rfl | h
    · omega
    · have := bulk_mem h; omega
theorem reads_bulk {H : Type} {d : DataW H} {len : Nat} (h : Reads d len) : len ≤ Rows.uptoBulk d := by
  rcases h with h0 | ⟨es, sp, he, hl⟩
  · omega
  · have := bulk_len es
    rw [he]
    simp only [Rows.uptoBulk]
    omega
theorem w_all {H : Type} {t : TypeId} {C : Nat} (h : ∀ (d : DataW H), ∀ n ∈ d.weights Tryd.prog t, n ≤ C * Rows.uptoBulk d) : ∀ (l : List (DataW H)), ∀ n ∈ DataW.weightsAll Tryd.prog t l, n ≤ C * Rows.uptoBulkAll l
  | [], n, hn => by simp [DataW.weightsAll] at hn
  | d :: r, n, hn => by
    simp only [DataW.weightsAll, List.mem_append] at hn
    simp only [Rows.uptoBulkAll, Nat.mul_add]
    rcases hn with q | q
    · have := h d n q; omega
    · have := w_all h r n q; omega
theorem w_each {H : Type} {C : Nat} : ∀ (ts : List TypeId), (∀ t ∈ ts, ∀ (d : DataW H), ∀ n ∈ d.weights Tryd.prog t, n ≤ C * Rows.uptoBulk d) → ∀ (l : List (DataW H)), ∀ n ∈ DataW.weightsEach Tryd.prog ts l, n ≤ C * Rows.uptoBulkAll l
  | [], _, l, n, hn => by simp [DataW.weightsEach] at hn
  | t :: ts, h, [], n, hn => by simp [DataW.weightsEach] at hn
  | t :: ts, h, d :: r, n, hn => by
    simp only [DataW.weightsEach, List.mem_append] at hn
    simp only [Rows.uptoBulkAll, Nat.mul_add]
    rcases hn with q | q
    · have := h t List.mem_cons_self d n q; omega
    · have := w_each ts (fun t' ht' => h t' (List.mem_cons_of_mem _ ht')) r n q; omega
theorem w_str {H : Type} (d : DataW H) : ∀ n ∈ d.weights Tryd.prog 9, n ≤ 32 * Rows.uptoBulk d := by
  intro n hn
  cases d with
  | lit l => cases l <;> simp [DataW.weights] at hn; simp [Rows.uptoBulk]; omega
  | _ => simp [DataW.weights, Tryd.underlying9] at hn
theorem w_int {H : Type} (d : DataW H) : ∀ n ∈ d.weights Tryd.prog 2, n ≤ 32 * Rows.uptoBulk d := by
  intro n hn
  cases d with
  | lit l => cases l <;> simp [DataW.weights] at hn; simp [Rows.uptoBulk]; omega
  | _ => simp [DataW.weights, Tryd.underlying2] at hn
theorem w_i3 {H : Type} (d : DataW H) : ∀ n ∈ d.weights Tryd.prog 3, n ≤ 32 * Rows.uptoBulk d := by
  intro n hn
  cases d with
  | lit l => cases l <;> simp [DataW.weights] at hn; simp [Rows.uptoBulk]; omega
  | _ => simp [DataW.weights, Tryd.underlying3] at hn
theorem w_ent {H : Type} (d : DataW H) : ∀ n ∈ d.weights Tryd.prog 38, n ≤ 32 * Rows.uptoBulk d := by
  intro n hn
  obtain ⟨f0, f1, hu, ⟨t0, t1⟩, _⟩ := undE
  cases d with
  | lit l => cases l <;> simp [DataW.weights] at hn; simp [Rows.uptoBulk]; omega
  | agg ps =>
    simp only [DataW.weights, hu] at hn
    have := w_each (C := 32) [9, 9] (fun t ht d => by simp at ht; subst ht; exact w_str d) ps n (by simpa [t0, t1] using hn)
    simp only [Rows.uptoBulk]
    omega
  | _ => simp [DataW.weights, hu] at hn
theorem w_ents {H : Type} (d : DataW H) : ∀ n ∈ d.weights Tryd.prog 31, n ≤ 32 * Rows.uptoBulk d := by
  intro n hn
  cases d with
  | lit l => cases l <;> simp [DataW.weights] at hn; simp [Rows.uptoBulk]; omega
  | slice es sp =>
    simp only [DataW.weights, Tryd.underlying31, List.mem_cons, List.mem_append] at hn
    simp only [Rows.uptoBulk]
    rcases hn with q | q | q
    · rw [bytesE] at q
      have := bulk_len es
      have := bulk_len sp
      omega
    · have := w_all w_ent es n q; omega
    · have := w_all w_ent sp n q; omega
  | _ => simp [DataW.weights, Tryd.underlying31] at hn
theorem w_ints {H : Type} (d : DataW H) : ∀ n ∈ d.weights Tryd.prog 32, n ≤ 32 * Rows.uptoBulk d := by
  intro n hn
  cases d with
  | lit l => cases l <;> simp [DataW.weights] at hn; simp [Rows.uptoBulk]; omega
  | slice es sp =>
    simp only [DataW.weights, Tryd.underlying32, List.mem_cons, List.mem_append] at hn
    simp only [Rows.uptoBulk]
    rcases hn with q | q | q
    · rw [bytes3] at q
      have := bulk_len es
      have := bulk_len sp
      omega
    · have := w_all w_i3 es n q; omega
    · have := w_all w_i3 sp n q; omega
  | _ => simp [DataW.weights, Tryd.underlying32] at hn
theorem w_qs {H : Type} (d : DataW H) : ∀ n ∈ d.weights Tryd.prog 48, n ≤ 32 * Rows.uptoBulk d := by
  intro n hn
  obtain ⟨f0, f1, f2, f3, f4, f5, f6, f7, hu, ⟨t0, t1, t2, t3, t4, t5, t6, t7⟩, _⟩ := undQS
  cases d with
  | lit l => cases l <;> simp [DataW.weights] at hn; simp [Rows.uptoBulk]; omega
  | agg ps =>
    simp only [DataW.weights, hu] at hn
    have := w_each (C := 32) [3, 9, 9, 9, 31, 2, 3, 32] (fun t ht d n hn => by
      simp at ht
      rcases ht with rfl | rfl | rfl | rfl | rfl | rfl
      · exact w_i3 d n hn
      · exact w_str d n hn
      · exact w_ents d n hn
      · exact w_int d n hn
      · exact w_i3 d n hn
      · exact w_ints d n hn) ps n (by simpa [t0, t1, t2, t3, t4, t5, t6, t7] using hn)
    simp only [Rows.uptoBulk]
    omega
  | _ => simp [DataW.weights, hu] at hn
theorem w_qc {H : Type} (d : DataW H) : ∀ n ∈ d.weights Tryd.prog 50, n ≤ 32 * Rows.uptoBulk d := by
  intro n hn
  obtain ⟨f0, f1, f2, f3, f4, hu, ⟨t0, t1, t2, t3, t4⟩, _⟩ := undQC
  cases d with
  | lit l => cases l <;> simp [DataW.weights] at hn; simp [Rows.uptoBulk]; omega
  | agg ps =>
    simp only [DataW.weights, hu] at hn
    have := w_each (C := 32) [3, 3, 3, 48, 9] (fun t ht d n hn => by
      simp at ht
      rcases ht with rfl | rfl | rfl
      · exact w_i3 d n hn
      · exact w_qs d n hn
      · exact w_str d n hn) ps n (by simpa [t0, t1, t2, t3, t4] using hn)
    simp only [Rows.uptoBulk]
    omega
  | _ => simp [DataW.weights, hu] at hn
theorem w_qcs {H : Type} (d : DataW H) : ∀ n ∈ d.weights Tryd.prog 22, n ≤ 160 * Rows.uptoBulk d := by
  intro n hn
  cases d with
  | lit l => cases l <;> simp [DataW.weights] at hn; simp [Rows.uptoBulk]; omega
  | slice es sp =>
    simp only [DataW.weights, Tryd.underlying22, List.mem_cons, List.mem_append] at hn
    simp only [Rows.uptoBulk]
    rcases hn with q | q | q
    · rw [bytesQC] at q
      have := bulk_len es
      have := bulk_len sp
      omega
    · have := w_all w_qc es n q; omega
    · have := w_all w_qc sp n q; omega
  | _ => simp [DataW.weights, Tryd.underlying22] at hn
theorem OkIU.s {c : Cm} (h : OkIU c) : OkS c := ⟨h.ok, by have := h.b; omega, by have := h.sb; omega, by have := h.sk; omega, by have := h.sd; omega, fun e he => by have := h.mt e he; omega, by have := h.ml; omega, by have := h.kl; omega⟩
/-- a list that came in, its bulk bounded -/
theorem cmds_inB {H : Type} {enc : TypeId × Value → H} {W : World} {base : Nat} {v : Value} {d : DataW H} {p : List MemPlace} (hv : Value.okWide Tryd.prog W .any base 22 v) (h : DataW.Trod enc Tryd.prog W 0 (fun _ => true) true 22 v d p) (hw : Rows.uptoBulk d ≤ 1048576) :
    ∃ (R : List Cr) (a : Option Addr) (c : Nat), v = .slice a R.length c ∧ CT W a R ∧ R.length ≤ 170000000 ∧ ∀ r ∈ R, OkS r.c := by
  obtain ⟨R, a, c, e, h1, h2, h3⟩ := cmds_inU hv h (fun n hn => by have := w_qcs d n hn; omega)
  exact ⟨R, a, c, e, h1, by omega, fun r hr => (h3 r hr).s⟩
theorem bulk_str {H : Type} {enc : TypeId × Value → H} {W : World} {d : DataW H} {p : List MemPlace} (h : DataW.Trod enc Tryd.prog W 0 (fun _ => true) true 9 (.string ByteArray.empty) d p) : Rows.uptoBulk d ≤ 64 := by
  obtain ⟨fuel, hf⟩ := h
  obtain ⟨s, e, y, -⟩ := DataW.trod_string Tryd.underlying9 hf
  simp [Value.cells] at e
  subst e
  have hd := congrArg Prod.fst y
  simp at hd
  rw [hd]
  simp [Rows.uptoBulk]
theorem bulk_qcs {H : Type} {enc : TypeId × Value → H} {W : World} {d : DataW H} {p : List MemPlace} (h : DataW.Trod enc Tryd.prog W 0 (fun _ => true) true 22 (.slice none 0 0) d p) : Rows.uptoBulk d ≤ 64 := by
  obtain ⟨fuel, hf⟩ := h
  rcases Go.Deep.open_slice Tryd.underlying22 hf with ⟨hcs, hx⟩ | ⟨x, l, c, m, n, D, Pl, hcs, _⟩
  · have hd := congrArg Prod.fst hx
    simp at hd
    rw [hd]
    simp [Rows.uptoBulk]
  · simp [Value.cells] at hcs
end Go.Proofs.YtgbkloihclbimaaDoor
