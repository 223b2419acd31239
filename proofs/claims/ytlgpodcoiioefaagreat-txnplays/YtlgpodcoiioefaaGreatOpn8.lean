/- Slices that came in: writes, steps. -/
import Derived.Test.YtlgpodcoiioefaaGreatMad
import Derived.Test.YtlgpodcoiioefaaGreatRows
import Derived.ProofKit
import Derived.OpenShut
import Derived.JoinedCond
import Derived.SizedLaws
import Derived.Deep.Slices
namespace Go.Proofs.YtlgpodcoiioefaaGreat
set_option linter.unusedVariables false
set_option linter.unusedSimpArgs false
open Go.ChangeShapes Go.WideShapes Go.ChangeAt Go.RowKit
theorem own : ownKnob Tryz.prog.godebug = none := by kernel_rfl
theorem addr_add (b off j : Nat) : (⟨b, off, none⟩ : Addr).add j = ⟨b, off + j, none⟩ := by unfold Addr.add; split <;> simp_all
theorem wf64 {n : Int} (h : (Lit.int .i64 n).wf = true) : -9223372036854775808 ≤ n ∧ n ≤ 9223372036854775807 := by
  simpa [Lit.wf, IntKind.min, IntKind.max, IntKind.signed, IntKind.bits] using h
theorem cells3t : Tryz.prog.cellsOf 3 = 1 := by kernel_rfl
theorem cells9t : Tryz.prog.cellsOf 9 = 1 := by kernel_rfl
theorem bytesW : Tryz.prog.bytesOf 78 = 24 := by kernel_rfl
theorem bytesO8 : Tryz.prog.bytesOf 40 = 40 := by kernel_rfl
theorem cellsW8 : Tryz.prog.cellsOf 78 = 2 := by kernel_rfl
theorem cellsO8 : Tryz.prog.cellsOf 40 = 4 := by kernel_rfl
theorem undW : ∃ f0 f1 : Field, Tryz.prog.underlying 78 = some (.struct #[f0, f1]) ∧ (f0.type = 3 ∧ f1.type = 9) ∧ (f0.offset = 0 ∧ f1.offset = 1) := by
  refine ⟨_, _, Tryz.underlying78, ⟨rfl, rfl⟩, rfl, rfl⟩
theorem undO8 : ∃ f0 f1 f2 f3 : Field, Tryz.prog.underlying 40 = some (.struct #[f0, f1, f2, f3]) ∧ (f0.type = 3 ∧ f1.type = 3 ∧ f2.type = 3 ∧ f3.type = 9) ∧ (f0.offset = 0 ∧ f1.offset = 1 ∧ f2.offset = 2 ∧ f3.offset = 3) := by
  refine ⟨_, _, _, _, Tryz.underlying40, ⟨rfl, rfl, rfl, rfl⟩, rfl, rfl, rfl, rfl⟩
/-- how long the slice reads -/
def Reads {H : Type} (d : DataW H) (len : Nat) : Prop := len = 0 ∨ ∃ es sp, d = .slice es sp ∧ es.length = len
theorem weightsAll_mem {H : Type} {P : Program} {e : TypeId} : ∀ {l : List (DataW H)} {d : DataW H}, d ∈ l → ∀ n ∈ d.weights P e, n ∈ DataW.weightsAll P e l
  | x :: r, d, h, n, hn => by
    simp only [DataW.weightsAll, List.mem_append]
    rcases List.mem_cons.1 h with rfl | h
    · exact .inl hn
    · exact .inr (weightsAll_mem h n hn)
theorem weights_le {H : Type} {ts : List TypeId} {ds : List (DataW H)} (h : (DataW.weightsEach Tryz.prog ts ds).all (· ≤ reachBytes) = true) {j : Nat} {t : TypeId} {d : DataW H} (ht : ts[j]? = some t) (hd : ds[j]? = some d) : ∀ n ∈ d.weights Tryz.prog t, n ≤ 140737488351232 := fun n hn => by
  have := of_decide_eq_true (List.all_eq_true.1 h n (DataW.weights_mem_each ht hd n hn))
  simpa [reachBytes] using this
/-- writes that came in -/
structure WAt (w : World) (a : Option Addr) (l : Il) : Prop where
  get : ∀ (k : Nat) p, l[k]? = some p → ∃ b off, a = some ⟨b, off, none⟩ ∧ b < w.heap.size ∧ (w.cell? ⟨b, off + k * 2, none⟩ = some (.int .i64 p.1) ∧ w.cell? ⟨b, off + k * 2 + 1, none⟩ = some (.string p.2)) ∧ (-9223372036854775808 ≤ p.1 ∧ p.1 ≤ 9223372036854775807) ∧ p.2.size ≤ 140737488351232
/-- a step -/
structure Sx where
  kd : Int
  t : Int
  n : Int
  s : ByteArray
structure SxIn (w : World) (a : Option Addr) (l : List Sx) : Prop where
  get : ∀ (k : Nat) p, l[k]? = some p → ∃ b off, a = some ⟨b, off, none⟩ ∧ b < w.heap.size ∧ (w.cell? ⟨b, off + k * 4, none⟩ = some (.int .i64 p.kd) ∧ w.cell? ⟨b, off + k * 4 + 1, none⟩ = some (.int .i64 p.t) ∧ w.cell? ⟨b, off + k * 4 + 2, none⟩ = some (.int .i64 p.n) ∧ w.cell? ⟨b, off + k * 4 + 3, none⟩ = some (.string p.s)) ∧ ((-9223372036854775808 ≤ p.kd ∧ p.kd ≤ 9223372036854775807) ∧ (-9223372036854775808 ≤ p.t ∧ p.t ≤ 9223372036854775807) ∧ (-9223372036854775808 ≤ p.n ∧ p.n ≤ 9223372036854775807)) ∧ p.s.size ≤ 140737488351232
theorem later_cell {w w' : World} {b j : Nat} {v : Value} (hb : Below w.heap.size w w') (h : b < w.heap.size) (hc : w.cell? ⟨b, j, none⟩ = some v) : w'.cell? ⟨b, j, none⟩ = some v := (hb.cell (p := ⟨b, j, none⟩) h).trans hc
theorem WAt.later {w w' : World} {a : Option Addr} {l : Il} (h : WAt w a l) (b : Below w.heap.size w w') : WAt w' a l := ⟨fun k p hk => by
  obtain ⟨g, off, e, h1, ⟨c0, c1⟩, h3⟩ := h.get k p hk
  exact ⟨g, off, e, Nat.lt_of_lt_of_le h1 b.size, ⟨later_cell b h1 c0, later_cell b h1 c1⟩, h3⟩⟩
theorem SxIn.later {w w' : World} {a : Option Addr} {l : List Sx} (h : SxIn w a l) (b : Below w.heap.size w w') : SxIn w' a l := ⟨fun k p hk => by
  obtain ⟨g, off, e, h1, ⟨c0, c1, c2, c3⟩, h3⟩ := h.get k p hk
  exact ⟨g, off, e, Nat.lt_of_lt_of_le h1 b.size, ⟨later_cell b h1 c0, later_cell b h1 c1, later_cell b h1 c2, later_cell b h1 c3⟩, h3⟩⟩
set_option maxRecDepth 100000 in
theorem write_at {H : Type} {enc : TypeId × Value → H} {W : World} {fuel : Nat} {cs : List Value} {d : DataW H} {pl : List MemPlace} (h : DataW.trod enc Tryz.prog W 0 (fun _ => true) true fuel 78 cs = some (d, pl)) (hlen : cs.length = 2) (hw : ∀ n ∈ d.weights Tryz.prog 78, n ≤ 140737488351232) :
    ∃ o : (Int × ByteArray), cs = [.int .i64 o.1, .string o.2] ∧ (-9223372036854775808 ≤ o.1 ∧ o.1 ≤ 9223372036854775807) ∧ o.2.size ≤ 140737488351232 := by
  obtain ⟨f0, f1, hu, ⟨t0, t1⟩, o0, o1⟩ := undW
  obtain ⟨xs, n', _, hxd, _, hxl, hfs⟩ := DataW.trod_struct hu h
  match xs, hxl, cs, hlen with
  | [y0, y1], _, [v0, v1], _ =>
    have g0 := hfs 0 f0 rfl
    have g1 := hfs 1 f1 rfl
    simp [o0, o1, t0, t1, cells3t, cells9t] at g0 g1
    obtain ⟨z0, e0, _, hz0⟩ := DataW.trod_int Tryz.underlying3 g0
    obtain ⟨s, e1, ye, hs⟩ := DataW.trod_string Tryz.underlying9 g1
    simp at e0 e1
    subst e0 e1
    have hDe : d = .agg [y0.1, y1.1] := congrArg Prod.fst hxd
    have hws : ∀ n ∈ DataW.weightsEach Tryz.prog [3, 9] [y0.1, y1.1], n ≤ 140737488351232 := by
      intro n hn
      refine hw n ?_
      rw [hDe]
      simp only [DataW.weights, hu]
      simpa [t0, t1] using hn
    have hsz : s.size ≤ 140737488351232 := by
      refine hws _ (DataW.weights_mem_each (j := 1) rfl rfl _ ?_)
      rw [ye]
      show s.size ∈ [s.data.toList.length]
      simp
    exact ⟨(z0, s), rfl, wf64 hz0, hsz⟩
set_option maxRecDepth 100000 in
theorem writes_in {H : Type} {enc : TypeId × Value → H} {W : World} {a : Option Addr} {len cap : Nat} {d : DataW H} {p : List MemPlace} (h : DataW.Trod enc Tryz.prog W 0 (fun _ => true) true 65 (.slice a len cap) d p) (hw : ∀ n ∈ d.weights Tryz.prog 65, n ≤ 140737488351232) :
    ∃ L : List (Int × ByteArray), L.length = len ∧ WAt W a L ∧ Reads d len := by
  obtain ⟨fuel, hf⟩ := h
  rcases Go.Deep.open_slice Tryz.underlying65 hf with ⟨hcs, _⟩ | ⟨x, l, c, m, n, D, Pl, hcs, _, hl, hm, hmm, hx, hel⟩
  · simp [Value.cells] at hcs
    obtain ⟨rfl, rfl, rfl⟩ := hcs
    exact ⟨[], rfl, ⟨fun k p hk => by simp at hk⟩, .inl rfl⟩
  · simp [Value.cells] at hcs
    obtain ⟨rfl, rfl, rfl⟩ := hcs
    have hmc : m = cap := by simpa using hmm
    have hd : d = .slice ((List.range len).map D) ((List.range (m - len)).map fun j => D (len + j)) := congrArg Prod.fst hx
    have hwe : ∀ k, k < len → ∀ n ∈ (D k).weights Tryz.prog 78, n ≤ 140737488351232 := by
      intro k hk n hn
      refine hw n ?_
      rw [hd]
      simp only [DataW.weights, Tryz.underlying65]
      exact List.mem_cons_of_mem _ (List.mem_append_left _ (weightsAll_mem (List.mem_map.2 ⟨k, List.mem_range.2 hk, rfl⟩) n hn))
    obtain ⟨b, off, spot⟩ := x
    have key : ∀ k, ∃ o : (Int × ByteArray), k < len → (spot = none ∧ b < W.heap.size ∧ (W.cell? ⟨b, off + k * 2, none⟩ = some (.int .i64 o.1) ∧ W.cell? ⟨b, off + k * 2 + 1, none⟩ = some (.string o.2)) ∧ (-9223372036854775808 ≤ o.1 ∧ o.1 ≤ 9223372036854775807) ∧ o.2.size ≤ 140737488351232) := by
      intro k
      by_cases hk : k < len
      · obtain ⟨cs', h1, h2⟩ := hel k (by omega)
        rw [cellsW8] at h1
        obtain ⟨_, hlen, hcell⟩ := World.cells?_some h1
        have hwk := hwe k hk
        have hspot : spot = none := by
          obtain ⟨cs0, h10, _⟩ := hel 0 (by omega)
          rw [cellsW8] at h10
          obtain ⟨_, hlen0, hcell0⟩ := World.cells?_some h10
          match cs0, hlen0 with
          | [u0, u1], _ =>
            have q0 := hcell0 0 (by omega)
            simpa [Addr.add] using World.cell?_spot q0
        subst hspot
        have hadd : ∀ j i, ((⟨b, off, none⟩ : Addr).add j).add i = ⟨b, off + j + i, none⟩ := fun j i => by rw [addr_add, addr_add]
        obtain ⟨o, rfl, hr, hs⟩ := write_at h2 hlen hwk
        have c0 := hcell 0 (by simp)
        have c1 := hcell 1 (by simp)
        rw [hadd] at c0 c1
        exact ⟨o, fun _ => ⟨rfl, block_lt_of_cell c0, ⟨by simpa using c0, by simpa using c1⟩, hr, hs⟩⟩
      · exact ⟨(0, ByteArray.empty), fun h => absurd h hk⟩
    have hf := fun k => Classical.choose_spec (key k)
    refine ⟨(List.range len).map fun k => Classical.choose (key k), by simp, ⟨fun k q hk => ?_⟩, .inr ⟨_, _, hd, by simp⟩⟩
    have hkl : k < len := by
      have := (List.getElem?_eq_some_iff.1 hk).1
      simpa using this
    rw [List.getElem?_map, List.getElem?_range hkl] at hk
    have hq := (Option.some.inj hk).symm
    subst hq
    obtain ⟨h1, h2, h3⟩ := hf k hkl
    exact ⟨b, off, by rw [h1], h2, h3⟩
theorem writes_in_len {H : Type} {d : DataW H} {len : Nat} (h : Reads d len) (hw : ∀ n ∈ d.weights Tryz.prog 65, n ≤ 140737488351232) : len ≤ 5864062014634 := by
  rcases h with h0 | ⟨es, sp, he, hl⟩
  · omega
  · have := hw ((es.length + sp.length) * Tryz.prog.bytesOf 78) (by rw [he]; simp only [DataW.weights, Tryz.underlying65]; exact List.mem_cons_self)
    rw [bytesW] at this
    omega
set_option maxRecDepth 100000 in
theorem step_at {H : Type} {enc : TypeId × Value → H} {W : World} {fuel : Nat} {cs : List Value} {d : DataW H} {pl : List MemPlace} (h : DataW.trod enc Tryz.prog W 0 (fun _ => true) true fuel 40 cs = some (d, pl)) (hlen : cs.length = 4) (hw : ∀ n ∈ d.weights Tryz.prog 40, n ≤ 140737488351232) :
    ∃ o : Sx, cs = [.int .i64 o.kd, .int .i64 o.t, .int .i64 o.n, .string o.s] ∧ ((-9223372036854775808 ≤ o.kd ∧ o.kd ≤ 9223372036854775807) ∧ (-9223372036854775808 ≤ o.t ∧ o.t ≤ 9223372036854775807) ∧ (-9223372036854775808 ≤ o.n ∧ o.n ≤ 9223372036854775807)) ∧ o.s.size ≤ 140737488351232 := by
  obtain ⟨f0, f1, f2, f3, hu, ⟨t0, t1, t2, t3⟩, o0, o1, o2, o3⟩ := undO8
  obtain ⟨xs, n', _, hxd, _, hxl, hfs⟩ := DataW.trod_struct hu h
  match xs, hxl, cs, hlen with
  | [y0, y1, y2, y3], _, [v0, v1, v2, v3], _ =>
    have g0 := hfs 0 f0 rfl
    have g1 := hfs 1 f1 rfl
    have g2 := hfs 2 f2 rfl
    have g3 := hfs 3 f3 rfl
    simp [o0, o1, o2, o3, t0, t1, t2, t3, cells3t, cells9t] at g0 g1 g2 g3
    obtain ⟨z0, e0, _, hz0⟩ := DataW.trod_int Tryz.underlying3 g0
    obtain ⟨z1, e1, _, hz1⟩ := DataW.trod_int Tryz.underlying3 g1
    obtain ⟨z2, e2, _, hz2⟩ := DataW.trod_int Tryz.underlying3 g2
    obtain ⟨s, e3, ye, hs⟩ := DataW.trod_string Tryz.underlying9 g3
    simp at e0 e1 e2 e3
    subst e0 e1 e2 e3
    have hDe : d = .agg [y0.1, y1.1, y2.1, y3.1] := congrArg Prod.fst hxd
    have hws : ∀ n ∈ DataW.weightsEach Tryz.prog [3, 3, 3, 9] [y0.1, y1.1, y2.1, y3.1], n ≤ 140737488351232 := by
      intro n hn
      refine hw n ?_
      rw [hDe]
      simp only [DataW.weights, hu]
      simpa [t0, t1, t2, t3] using hn
    have hsz : s.size ≤ 140737488351232 := by
      refine hws _ (DataW.weights_mem_each (j := 3) rfl rfl _ ?_)
      rw [ye]
      show s.size ∈ [s.data.toList.length]
      simp
    exact ⟨⟨z0, z1, z2, s⟩, rfl, ⟨wf64 hz0, wf64 hz1, wf64 hz2⟩, hsz⟩
set_option maxRecDepth 100000 in
theorem steps_in {H : Type} {enc : TypeId × Value → H} {W : World} {a : Option Addr} {len cap : Nat} {d : DataW H} {p : List MemPlace} (h : DataW.Trod enc Tryz.prog W 0 (fun _ => true) true 22 (.slice a len cap) d p) (hw : ∀ n ∈ d.weights Tryz.prog 22, n ≤ 140737488351232) :
    ∃ L : List Sx, L.length = len ∧ SxIn W a L ∧ Reads d len := by
  obtain ⟨fuel, hf⟩ := h
  rcases Go.Deep.open_slice Tryz.underlying22 hf with ⟨hcs, _⟩ | ⟨x, l, c, m, n, D, Pl, hcs, _, hl, hm, hmm, hx, hel⟩
  · simp [Value.cells] at hcs
    obtain ⟨rfl, rfl, rfl⟩ := hcs
    exact ⟨[], rfl, ⟨fun k p hk => by simp at hk⟩, .inl rfl⟩
  · simp [Value.cells] at hcs
    obtain ⟨rfl, rfl, rfl⟩ := hcs
    have hmc : m = cap := by simpa using hmm
    have hd : d = .slice ((List.range len).map D) ((List.range (m - len)).map fun j => D (len + j)) := congrArg Prod.fst hx
    have hwe : ∀ k, k < len → ∀ n ∈ (D k).weights Tryz.prog 40, n ≤ 140737488351232 := by
      intro k hk n hn
      refine hw n ?_
      rw [hd]
      simp only [DataW.weights, Tryz.underlying22]
      exact List.mem_cons_of_mem _ (List.mem_append_left _ (weightsAll_mem (List.mem_map.2 ⟨k, List.mem_range.2 hk, rfl⟩) n hn))
    obtain ⟨b, off, spot⟩ := x
    have key : ∀ k, ∃ o : Sx, k < len → (spot = none ∧ b < W.heap.size ∧ (W.cell? ⟨b, off + k * 4, none⟩ = some (.int .i64 o.kd) ∧ W.cell? ⟨b, off + k * 4 + 1, none⟩ = some (.int .i64 o.t) ∧ W.cell? ⟨b, off + k * 4 + 2, none⟩ = some (.int .i64 o.n) ∧ W.cell? ⟨b, off + k * 4 + 3, none⟩ = some (.string o.s)) ∧ ((-9223372036854775808 ≤ o.kd ∧ o.kd ≤ 9223372036854775807) ∧ (-9223372036854775808 ≤ o.t ∧ o.t ≤ 9223372036854775807) ∧ (-9223372036854775808 ≤ o.n ∧ o.n ≤ 9223372036854775807)) ∧ o.s.size ≤ 140737488351232) := by
      intro k
      by_cases hk : k < len
      · obtain ⟨cs', h1, h2⟩ := hel k (by omega)
        rw [cellsO8] at h1
        obtain ⟨_, hlen, hcell⟩ := World.cells?_some h1
        have hwk := hwe k hk
        have hspot : spot = none := by
          obtain ⟨cs0, h10, _⟩ := hel 0 (by omega)
          rw [cellsO8] at h10
          obtain ⟨_, hlen0, hcell0⟩ := World.cells?_some h10
          match cs0, hlen0 with
          | [u0, u1, u2, u3], _ =>
            have q0 := hcell0 0 (by omega)
            simpa [Addr.add] using World.cell?_spot q0
        subst hspot
        have hadd : ∀ j i, ((⟨b, off, none⟩ : Addr).add j).add i = ⟨b, off + j + i, none⟩ := fun j i => by rw [addr_add, addr_add]
        obtain ⟨o, rfl, hr, hs⟩ := step_at h2 hlen hwk
        have c0 := hcell 0 (by simp)
        have c1 := hcell 1 (by simp)
        have c2 := hcell 2 (by simp)
        have c3 := hcell 3 (by simp)
        rw [hadd] at c0 c1 c2 c3
        exact ⟨o, fun _ => ⟨rfl, block_lt_of_cell c0, ⟨by simpa using c0, by simpa using c1, by simpa using c2, by simpa using c3⟩, hr, hs⟩⟩
      · exact ⟨⟨0, 0, 0, ByteArray.empty⟩, fun h => absurd h hk⟩
    have hf := fun k => Classical.choose_spec (key k)
    refine ⟨(List.range len).map fun k => Classical.choose (key k), by simp, ⟨fun k q hk => ?_⟩, .inr ⟨_, _, hd, by simp⟩⟩
    have hkl : k < len := by
      have := (List.getElem?_eq_some_iff.1 hk).1
      simpa using this
    rw [List.getElem?_map, List.getElem?_range hkl] at hk
    have hq := (Option.some.inj hk).symm
    subst hq
    obtain ⟨h1, h2, h3⟩ := hf k hkl
    exact ⟨b, off, by rw [h1], h2, h3⟩
theorem steps_in_len {H : Type} {d : DataW H} {len : Nat} (h : Reads d len) (hw : ∀ n ∈ d.weights Tryz.prog 22, n ≤ 140737488351232) : len ≤ 3518437208780 := by
  rcases h with h0 | ⟨es, sp, he, hl⟩
  · omega
  · have := hw ((es.length + sp.length) * Tryz.prog.bytesOf 40) (by rw [he]; simp only [DataW.weights, Tryz.underlying22]; exact List.mem_cons_self)
    rw [bytesO8] at this
    omega
end Go.Proofs.YtlgpodcoiioefaaGreat
