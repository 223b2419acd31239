/- A slice of steps that came in. -/
import Derived.Test.YtmfjhdjphnogiaaPlaL
import Derived.Test.YtmfjhdjphnogiaaOpn
namespace Go.Proofs.Ytmfjhdjphnogiaa
set_option linter.unusedVariables false
set_option linter.unusedSimpArgs false
open Go.ChangeShapes Go.WideShapes Go.ChangeAt Go.RowKit
theorem bytesO : Try.prog.bytesOf 56 = 64 := by kernel_rfl
theorem cellsO : Try.prog.cellsOf 56 = 5 := by kernel_rfl
theorem cells9t : Try.prog.cellsOf 9 = 1 := by kernel_rfl
theorem cellsIt : Try.prog.cellsOf 23 = 1 := by kernel_rfl
theorem undO : ∃ f0 f1 f2 f3 f4 : Field, Try.prog.underlying 56 = some (.struct #[f0, f1, f2, f3, f4]) ∧ (f0.type = 3 ∧ f1.type = 3 ∧ f2.type = 9 ∧ f3.type = 4 ∧ f4.type = 23) ∧ (f0.offset = 0 ∧ f1.offset = 1 ∧ f2.offset = 2 ∧ f3.offset = 3 ∧ f4.offset = 4) := by
  refine ⟨_, _, _, _, _, Try.underlying56, ⟨rfl, rfl, rfl, rfl, rfl⟩, rfl, rfl, rfl, rfl, rfl⟩
theorem weightsAll_mem {H : Type} {P : Program} {e : TypeId} : ∀ {l : List (DataW H)} {d : DataW H}, d ∈ l → ∀ n ∈ d.weights P e, n ∈ DataW.weightsAll P e l
  | x :: r, d, h, n, hn => by
    simp only [DataW.weightsAll, List.mem_append]
    rcases List.mem_cons.1 h with rfl | h
    · exact .inl hn
    · exact .inr (weightsAll_mem h n hn)
theorem weights_le {H : Type} {ts : List TypeId} {ds : List (DataW H)} (h : (DataW.weightsEach Try.prog ts ds).all (· ≤ reachBytes) = true) {j : Nat} {t : TypeId} {d : DataW H} (ht : ts[j]? = some t) (hd : ds[j]? = some d) : ∀ n ∈ d.weights Try.prog t, n ≤ 140737488351232 := fun n hn => by
  have := of_decide_eq_true (List.all_eq_true.1 h n (DataW.weights_mem_each ht hd n hn))
  simpa [reachBytes] using this
/-- one step -/
theorem op_at {H : Type} {enc : TypeId × Value → H} {W : World} {fuel : Nat} {cs : List Value} {d : DataW H} {pl : List MemPlace} (h : DataW.trod enc Try.prog W 0 (fun _ => true) true fuel 56 cs = some (d, pl)) (hlen : cs.length = 5) (hw : ∀ n ∈ d.weights Try.prog 56, n ≤ 140737488351232) :
    ∃ o : Opx, cs = o.cells.toList ∧ o.ok W := by
  obtain ⟨f0, f1, f2, f3, f4, hu, ⟨t0, t1, t2, t3, t4⟩, o0, o1, o2, o3, o4⟩ := undO
  obtain ⟨xs, n', _, hxd, _, hxl, hfs⟩ := DataW.trod_struct hu h
  match xs, hxl, cs, hlen with
  | [y0, y1, y2, y3, y4], _, [v0, v1, v2, v3, v4], _ =>
    have g0 := hfs 0 f0 rfl
    have g1 := hfs 1 f1 rfl
    have g2 := hfs 2 f2 rfl
    have g3 := hfs 3 f3 rfl
    have g4 := hfs 4 f4 rfl
    simp [o0, o1, o2, o3, o4, t0, t1, t2, t3, t4, cells3t, cells9t, cells4t, cellsIt] at g0 g1 g2 g3 g4
    obtain ⟨z0, e0, _, hz0⟩ := DataW.trod_int Try.underlying3 g0
    obtain ⟨z1, e1, _, hz1⟩ := DataW.trod_int Try.underlying3 g1
    obtain ⟨s, e2, y2e, hs⟩ := DataW.trod_string Try.underlying9 g2
    obtain ⟨bb, e3, _⟩ := DataW.trod_bool Try.underlying4 g3
    simp at e0 e1 e2 e3
    subst e0 e1 e2 e3
    have hDe : d = .agg [y0.1, y1.1, y2.1, y3.1, y4.1] := congrArg Prod.fst hxd
    have hws : ∀ n ∈ DataW.weightsEach Try.prog [3, 3, 9, 4, 23] [y0.1, y1.1, y2.1, y3.1, y4.1], n ≤ 140737488351232 := by
      intro n hn
      refine hw n ?_
      rw [hDe]
      simp only [DataW.weights, hu]
      simpa [t0, t1, t2, t3, t4] using hn
    have hsz : s.size ≤ 140737488351232 := by
      refine hws _ (DataW.weights_mem_each (j := 2) rfl rfl _ ?_)
      rw [y2e]
      show s.size ∈ [s.data.toList.length]
      simp
    have hwk : ∀ n ∈ y4.1.weights Try.prog 23, n ≤ 140737488351232 := fun n hn => hws n (DataW.weights_mem_each (j := 4) rfl rfl n hn)
    obtain ⟨ka, kl, kc, rfl, hkc⟩ : ∃ ka kl kc, v4 = .slice ka kl kc ∧ (ka = none → kc = 0) := by
      rcases Go.Deep.open_slice Try.underlying23 g4 with ⟨hcs, _⟩ | ⟨x, l, c, m, n, D, Pl, hcs, _⟩
      · simp at hcs; exact ⟨none, 0, 0, hcs, fun _ => rfl⟩
      · simp at hcs; exact ⟨some x, l, c, hcs, fun e => by cases e⟩
    obtain ⟨zs, hzl, hzi, hrd⟩ := ints_in (p := y4.2) (d := y4.1) ⟨_, by simpa [Value.cells] using g4⟩
    subst hzl
    have hzb : zs.length ≤ 20000000000000 := by
      rcases hrd with h0 | ⟨es, sp, he, hl⟩
      · omega
      · have := hwk ((es.length + sp.length) * Try.prog.bytesOf 3) (by rw [he]; simp only [DataW.weights, Try.underlying23]; exact List.mem_cons_self)
        rw [bytesI] at this
        omega
    exact ⟨⟨z0, z1, s, bb, ka, kc, zs⟩, rfl, ⟨(wf64 hz0).1, (wf64 hz0).2, (wf64 hz1).1, (wf64 hz1).2, hsz, hzb, hzi, hkc⟩⟩
set_option maxRecDepth 100000 in
theorem ops_in {H : Type} {enc : TypeId × Value → H} {W : World} {a : Option Addr} {len cap : Nat} {d : DataW H} {p : List MemPlace} (h : DataW.Trod enc Try.prog W 0 (fun _ => true) true 49 (.slice a len cap) d p) (hw : ∀ n ∈ d.weights Try.prog 49, n ≤ 140737488351232) :
    ∃ L : List Opx, L.length = len ∧ OIn W a L ∧ Reads d len := by
  obtain ⟨fuel, hf⟩ := h
  rcases Go.Deep.open_slice Try.underlying49 hf with ⟨hcs, _⟩ | ⟨x, l, c, m, n, D, Pl, hcs, _, hl, hm, hmm, hx, hel⟩
  · simp [Value.cells] at hcs
    obtain ⟨rfl, rfl, rfl⟩ := hcs
    exact ⟨[], rfl, ⟨fun k p hk => by simp at hk⟩, .inl rfl⟩
  · simp [Value.cells] at hcs
    obtain ⟨rfl, rfl, rfl⟩ := hcs
    have hmc : m = cap := by simpa using hmm
    have hd : d = .slice ((List.range len).map D) ((List.range (m - len)).map fun j => D (len + j)) := congrArg Prod.fst hx
    have hwe : ∀ k, k < len → ∀ n ∈ (D k).weights Try.prog 56, n ≤ 140737488351232 := by
      intro k hk n hn
      refine hw n ?_
      rw [hd]
      simp only [DataW.weights, Try.underlying49]
      exact List.mem_cons_of_mem _ (List.mem_append_left _ (weightsAll_mem (List.mem_map.2 ⟨k, List.mem_range.2 hk, rfl⟩) n hn))
    obtain ⟨b, off, spot⟩ := x
    have key : ∀ k, ∃ o : Opx, k < len → (spot = none ∧ b < W.heap.size ∧ (W.cell? ⟨b, off + k * 5, none⟩ = some (.int .i64 o.kd) ∧ W.cell? ⟨b, off + k * 5 + 1, none⟩ = some (.int .i64 o.n) ∧ W.cell? ⟨b, off + k * 5 + 2, none⟩ = some (.string o.t) ∧ W.cell? ⟨b, off + k * 5 + 3, none⟩ = some (.bool o.ev) ∧ W.cell? ⟨b, off + k * 5 + 4, none⟩ = some (.slice o.ka o.zs.length o.kc)) ∧ o.ok W) := by
      intro k
      by_cases hk : k < len
      · obtain ⟨cs', h1, h2⟩ := hel k (by omega)
        rw [cellsO] at h1
        obtain ⟨_, hlen, hcell⟩ := World.cells?_some h1
        obtain ⟨o, rfl, ok⟩ := op_at h2 hlen (hwe k hk)
        have c0 := hcell 0 (by simp [Opx.cells])
        have c1 := hcell 1 (by simp [Opx.cells])
        have c2 := hcell 2 (by simp [Opx.cells])
        have c3 := hcell 3 (by simp [Opx.cells])
        have c4 := hcell 4 (by simp [Opx.cells])
        have hspot : spot = none := by
          obtain ⟨cs0, h10, _⟩ := hel 0 (by omega)
          rw [cellsO] at h10
          obtain ⟨_, hlen0, hcell0⟩ := World.cells?_some h10
          match cs0, hlen0 with
          | [u0, u1, u2, u3, u4], _ =>
            have q0 := hcell0 0 (by omega)
            simpa [Addr.add] using World.cell?_spot q0
        subst hspot
        have hadd : ∀ j i, ((⟨b, off, none⟩ : Addr).add j).add i = ⟨b, off + j + i, none⟩ := fun j i => by rw [addr_add, addr_add]
        rw [hadd] at c0 c1 c2 c3 c4
        exact ⟨o, fun _ => ⟨rfl, block_lt_of_cell c0, ⟨by simpa [Opx.cells] using c0, by simpa [Opx.cells] using c1, by simpa [Opx.cells] using c2, by simpa [Opx.cells] using c3, by simpa [Opx.cells] using c4⟩, ok⟩⟩
      · exact ⟨⟨0, 0, ByteArray.empty, false, none, 0, []⟩, fun h => absurd h hk⟩
    have hf := fun k => Classical.choose_spec (key k)
    refine ⟨(List.range len).map fun k => Classical.choose (key k), by simp, ⟨fun k q hk => ?_⟩, .inr ⟨_, _, hd, by simp⟩⟩
    have hkl : k < len := by
      have := (List.getElem?_eq_some_iff.1 hk).1
      simpa using this
    rw [List.getElem?_map, List.getElem?_range hkl] at hk
    have hq := (Option.some.inj hk).symm
    subst hq
    obtain ⟨h1, h2, h3, h4⟩ := hf k hkl
    exact ⟨b, off, by rw [h1], h2, h3, h4⟩
theorem diskPlays_walk (n : Int) (L : List Opx) (a : Option Addr) (cap : Nat) (w : World) (n1 : -9223372036854775808 ≤ n) (n2 : n ≤ 9223372036854775807) (hL : OIn w a L) (hl : L.length ≤ 2199023255488) :
    Calls Try.prog 7 #[.int .i64 n, .slice a L.length cap] w fun e w' => e = .returned (.bool true) ∧ Below w.heap.size w w' := by
  by_cases hb : n < 1 ∨ 8192 < n
  · exact diskPlays_bad n a L.length cap w hb
  · by_cases h64 : 64 < n
    · have h1 := Int.emod_nonneg n (show (64 : Int) ≠ 0 by omega)
      have h2 := Int.emod_lt_of_pos n (show 0 < (64 : Int) by omega)
      exact diskPlays_good n (1 + n % 64).toNat L a cap w hL hl (by omega) (by omega) (.inr ⟨h64, by omega, by omega⟩)
    · exact diskPlays_good n n.toNat L a cap w hL hl (by omega) (by omega) (.inl (by omega))
end Go.Proofs.Ytmfjhdjphnogiaa
