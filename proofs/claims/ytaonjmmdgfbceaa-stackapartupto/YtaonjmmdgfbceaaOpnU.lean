/- Lists of versions that came in, where the bulk is bounded. -/
import Derived.Test.YtaonjmmdgfbceaaOpnL
namespace Go.Proofs.Ytaonjmmdgfbceaa
set_option linter.unusedVariables false
set_option linter.unusedSimpArgs false
open Go.ChangeShapes Go.WideShapes Go.ChangeAt Go.RowKit
theorem bulk_pos {H : Type} (d : DataW H) : 1 ≤ Rows.uptoBulk d := by
  cases d with
  | lit l => cases l <;> simp [Rows.uptoBulk]
  | _ => simp [Rows.uptoBulk]
theorem bulk_len {H : Type} : ∀ l : List (DataW H), l.length ≤ Rows.uptoBulkAll l
  | [] => Nat.zero_le _
  | d :: r => by
    have := bulk_len r
    have := bulk_pos d
    simp only [Rows.uptoBulkAll, List.length_cons]
    omega
theorem bulk_mem {H : Type} : ∀ {l : List (DataW H)} {d : DataW H}, d ∈ l → Rows.uptoBulk d ≤ Rows.uptoBulkAll l
  | x :: r, d, h => by
    simp only [Rows.uptoBulkAll]
    rcases List.mem_cons.1 h with rfl | h
    · omega
    · have := bulk_mem h; omega
theorem reads_bulk {H : Type} {d : DataW H} {len : Nat} (h : Reads d len) : len ≤ Rows.uptoBulk d := by
  rcases h with h0 | ⟨es, sp, he, hl⟩
  · omega
  · have := bulk_len es
    rw [he]
    simp only [Rows.uptoBulk]
    omega
theorem w_all {H : Type} {t : TypeId} {C : Nat} (h : ∀ (d : DataW H), ∀ n ∈ d.weights Try.prog t, n ≤ C * Rows.uptoBulk d) : ∀ (l : List (DataW H)), ∀ n ∈ DataW.weightsAll Try.prog t l, n ≤ C * Rows.uptoBulkAll l
  | [], n, hn => by simp [DataW.weightsAll] at hn
  | d :: r, n, hn => by
    simp only [DataW.weightsAll, List.mem_append] at hn
    simp only [Rows.uptoBulkAll, Nat.mul_add]
    rcases hn with q | q
    · have := h d n q; omega
    · have := w_all h r n q; omega
theorem w_each {H : Type} {C : Nat} : ∀ (ts : List TypeId), (∀ t ∈ ts, ∀ (d : DataW H), ∀ n ∈ d.weights Try.prog t, n ≤ C * Rows.uptoBulk d) → ∀ (l : List (DataW H)), ∀ n ∈ DataW.weightsEach Try.prog ts l, n ≤ C * Rows.uptoBulkAll l
  | [], _, l, n, hn => by simp [DataW.weightsEach] at hn
  | t :: ts, h, [], n, hn => by simp [DataW.weightsEach] at hn
  | t :: ts, h, d :: r, n, hn => by
    simp only [DataW.weightsEach, List.mem_append] at hn
    simp only [Rows.uptoBulkAll, Nat.mul_add]
    rcases hn with q | q
    · have := h t List.mem_cons_self d n q; omega
    · have := w_each ts (fun t' ht' => h t' (List.mem_cons_of_mem _ ht')) r n q; omega
theorem w_str {H : Type} (d : DataW H) : ∀ n ∈ d.weights Try.prog 9, n ≤ 32 * Rows.uptoBulk d := by
  intro n hn
  cases d with
  | lit l => cases l <;> simp [DataW.weights] at hn; simp [Rows.uptoBulk]; omega
  | _ => simp [DataW.weights, Try.underlying9] at hn
theorem w_int {H : Type} (d : DataW H) : ∀ n ∈ d.weights Try.prog 2, n ≤ 32 * Rows.uptoBulk d := by
  intro n hn
  cases d with
  | lit l => cases l <;> simp [DataW.weights] at hn; simp [Rows.uptoBulk]; omega
  | _ => simp [DataW.weights, Try.underlying2] at hn
theorem w_bool {H : Type} (d : DataW H) : ∀ n ∈ d.weights Try.prog 4, n ≤ 32 * Rows.uptoBulk d := by
  intro n hn
  cases d with
  | lit l => cases l <;> simp [DataW.weights] at hn; simp [Rows.uptoBulk]; omega
  | _ => simp [DataW.weights, Try.underlying4] at hn
theorem w_ent {H : Type} (d : DataW H) : ∀ n ∈ d.weights Try.prog 50, n ≤ 32 * Rows.uptoBulk d := by
  intro n hn
  obtain ⟨f0, f1, hu, ⟨t0, t1⟩, _⟩ := undE
  cases d with
  | lit l => cases l <;> simp [DataW.weights] at hn; simp [Rows.uptoBulk]; omega
  | agg ps =>
    simp only [DataW.weights, hu] at hn
    have := w_each (C := 32) [9, 9] (fun t ht d => by simp at ht; subst ht; exact w_str d) ps n (by simpa [t0, t1] using hn)
    simp only [Rows.uptoBulk]
    omega
  | _ => simp [DataW.weights, hu] at hn
theorem w_ents {H : Type} (d : DataW H) : ∀ n ∈ d.weights Try.prog 31, n ≤ 32 * Rows.uptoBulk d := by
  intro n hn
  cases d with
  | lit l => cases l <;> simp [DataW.weights] at hn; simp [Rows.uptoBulk]; omega
  | slice es sp =>
    simp only [DataW.weights, Try.underlying31, List.mem_cons, List.mem_append] at hn
    simp only [Rows.uptoBulk]
    rcases hn with q | q | q
    · rw [bytesE] at q
      have := bulk_len es
      have := bulk_len sp
      omega
    · have := w_all w_ent es n q; omega
    · have := w_all w_ent sp n q; omega
  | _ => simp [DataW.weights, Try.underlying31] at hn
theorem w_ver {H : Type} (d : DataW H) : ∀ n ∈ d.weights Try.prog 33, n ≤ 72 * Rows.uptoBulk d := by
  intro n hn
  obtain ⟨f0, f1, f2, f3, f4, hu, ⟨t0, t1, t2, t3, t4⟩, _⟩ := undV
  cases d with
  | lit l => cases l <;> simp [DataW.weights] at hn; simp [Rows.uptoBulk]; omega
  | agg ps =>
    simp only [DataW.weights, hu] at hn
    have := w_each (C := 72) [9, 2, 4, 9, 31] (fun t ht d n hn => by
      simp at ht
      have : n ≤ 32 * Rows.uptoBulk d := by
        rcases ht with rfl | rfl | rfl | rfl | rfl
        · exact w_str d n hn
        · exact w_int d n hn
        · exact w_bool d n hn
        · exact w_str d n hn
        · exact w_ents d n hn
      omega) ps n (by simpa [t0, t1, t2, t3, t4] using hn)
    simp only [Rows.uptoBulk]
    omega
  | _ => simp [DataW.weights, hu] at hn
theorem w_vers {H : Type} (d : DataW H) : ∀ n ∈ d.weights Try.prog 22, n ≤ 72 * Rows.uptoBulk d := by
  intro n hn
  cases d with
  | lit l => cases l <;> simp [DataW.weights] at hn; simp [Rows.uptoBulk]; omega
  | slice es sp =>
    simp only [DataW.weights, Try.underlying22, List.mem_cons, List.mem_append] at hn
    simp only [Rows.uptoBulk]
    rcases hn with q | q | q
    · rw [bytesV] at q
      have := bulk_len es
      have := bulk_len sp
      omega
    · have := w_all w_ver es n q; omega
    · have := w_all w_ver sp n q; omega
  | _ => simp [DataW.weights, Try.underlying22] at hn
set_option maxRecDepth 100000 in
theorem ver_atU {H : Type} {enc : TypeId × Value → H} {W : World} {fuel : Nat} {cs : List Value} {d : DataW H} {pl : List MemPlace} (h : DataW.trod enc Try.prog W 0 (fun _ => true) true fuel 33 cs = some (d, pl)) (hlen : cs.length = 5) (hw : ∀ n ∈ d.weights Try.prog 33, n ≤ 140737488351232) :
    ∃ (o : Vs) (a : Option Addr) (c : Nat), cs = [str o.key, .int .i64 o.seq, .bool o.mkr, str o.data, .slice a o.l.length c] ∧ Sl W a c o.l ∧ o.l.length ≤ 4398046510976 ∧ o.l.length ≤ Rows.uptoBulk d := by
  obtain ⟨f0, f1, f2, f3, f4, hu, ⟨t0, t1, t2, t3, t4⟩, o0, o1, o2, o3, o4⟩ := undV
  obtain ⟨xs, n', _, hxd, _, hxl, hfs⟩ := DataW.trod_struct hu h
  match xs, hxl, cs, hlen with
  | [y0, y1, y2, y3, y4], _, [v0, v1, v2, v3, v4], _ =>
    have g0 := hfs 0 f0 rfl
    have g1 := hfs 1 f1 rfl
    have g2 := hfs 2 f2 rfl
    have g3 := hfs 3 f3 rfl
    have g4 := hfs 4 f4 rfl
    simp [o0, o1, o2, o3, o4, t0, t1, t2, t3, t4, cells9t, cells2t, cells4t, cellsEs] at g0 g1 g2 g3 g4
    obtain ⟨s0, e0, ye0, hs0⟩ := DataW.trod_string Try.underlying9 g0
    obtain ⟨s1, e1, ye1, hs1⟩ := DataW.trod_int Try.underlying2 g1
    obtain ⟨s2, e2, ye2⟩ := DataW.trod_bool Try.underlying4 g2
    obtain ⟨s3, e3, ye3, hs3⟩ := DataW.trod_string Try.underlying9 g3
    have h4 : ∃ a len cap, v4 = .slice a len cap := by
      rcases Go.Deep.open_slice Try.underlying31 g4 with ⟨hcs, _⟩ | ⟨x, l, c, m, n, D, Pl, hcs, _⟩
      · simp at hcs; exact ⟨_, _, _, hcs⟩
      · simp at hcs; exact ⟨_, _, _, hcs⟩
    obtain ⟨a, len, cap, rfl⟩ := h4
    simp at e0 e1 e2 e3
    subst e0 e1 e2 e3
    have hDe : d = .agg [y0.1, y1.1, y2.1, y3.1, y4.1] := congrArg Prod.fst hxd
    have hws : ∀ n ∈ DataW.weightsEach Try.prog [9, 2, 4, 9, 31] [y0.1, y1.1, y2.1, y3.1, y4.1], n ≤ 140737488351232 := by
      intro n hn
      refine hw n ?_
      rw [hDe]
      simp only [DataW.weights, hu]
      simpa [t0, t1, t2, t3, t4] using hn
    have hz0 : s0.size ≤ 140737488351232 := by
      refine hws _ (DataW.weights_mem_each (j := 0) rfl rfl _ ?_)
      rw [ye0]
      show s0.size ∈ [s0.data.toList.length]
      simp
    have hz3 : s3.size ≤ 140737488351232 := by
      refine hws _ (DataW.weights_mem_each (j := 3) rfl rfl _ ?_)
      rw [ye3]
      show s3.size ∈ [s3.data.toList.length]
      simp
    have hw4 : ∀ n ∈ y4.1.weights Try.prog 31, n ≤ 140737488351232 := fun n hn => hws n (DataW.weights_mem_each (j := 4) rfl rfl _ hn)
    have T4 : DataW.Trod enc Try.prog W 0 (fun _ => true) true 31 (.slice a len cap) y4.1 y4.2 := ⟨n', by simpa [Value.cells] using g4⟩
    obtain ⟨L, hl, ⟨i1, i2⟩, rd⟩ := ents_in T4 hw4
    subst hl
    refine ⟨⟨s0.data.toList, s1, s2, s3.data.toList, L⟩, a, cap, by simp [str], ⟨i1, (ents_sl T4).1, (ents_sl T4).2.1, (ents_sl T4).2.2⟩, ents_in_len rd hw4, ?_⟩
    have := reads_bulk rd
    rw [hDe]
    simp only [Rows.uptoBulk, Rows.uptoBulkAll]
    show L.length ≤ _
    omega
set_option maxRecDepth 100000 in
theorem vers_inU {H : Type} {enc : TypeId × Value → H} {W : World} {a : Option Addr} {len cap : Nat} {d : DataW H} {p : List MemPlace} (h : DataW.Trod enc Try.prog W 0 (fun _ => true) true 22 (.slice a len cap) d p) (hw : ∀ n ∈ d.weights Try.prog 22, n ≤ 140737488351232) :
    ∃ L : List Vs, L.length = len ∧ (LIn W a L ∧ (∀ (k : Nat) (e : Vs), L[k]? = some e → e.l.length ≤ 4398046510976 ∧ e.l.length ≤ Rows.uptoBulk d)) ∧ Reads d len := by
  obtain ⟨fuel, hf⟩ := h
  rcases Go.Deep.open_slice Try.underlying22 hf with ⟨hcs, _⟩ | ⟨x, l, c, m, n, D, Pl, hcs, _, hl, hm, hmm, hx, hel⟩
  · simp [Value.cells] at hcs
    obtain ⟨rfl, rfl, rfl⟩ := hcs
    exact ⟨[], rfl, ⟨⟨fun k p hk => by simp at hk⟩, fun k p hk => by simp at hk⟩, .inl rfl⟩
  · simp [Value.cells] at hcs
    obtain ⟨rfl, rfl, rfl⟩ := hcs
    have hmc : m = cap := by simpa using hmm
    have hd : d = .slice ((List.range len).map D) ((List.range (m - len)).map fun j => D (len + j)) := congrArg Prod.fst hx
    have hwe : ∀ k, k < len → ∀ n ∈ (D k).weights Try.prog 33, n ≤ 140737488351232 := by
      intro k hk n hn
      refine hw n ?_
      rw [hd]
      simp only [DataW.weights, Try.underlying22]
      exact List.mem_cons_of_mem _ (List.mem_append_left _ (weightsAll_mem (List.mem_map.2 ⟨k, List.mem_range.2 hk, rfl⟩) n hn))
    obtain ⟨b, off, spot⟩ := x
    have key : ∀ k, ∃ o : Xv, k < len → (spot = none ∧ b < W.heap.size ∧ At5 W b off k o ∧ Sl W o.a o.c o.v.l ∧ o.v.l.length ≤ 4398046510976 ∧ o.v.l.length ≤ Rows.uptoBulk (D k)) := by
      intro k
      by_cases hk : k < len
      · obtain ⟨cs', h1, h2⟩ := hel k (by omega)
        rw [cellsV] at h1
        obtain ⟨_, hlen, hcell⟩ := World.cells?_some h1
        have hwk := hwe k hk
        have hspot : spot = none := by
          obtain ⟨cs0, h10, _⟩ := hel 0 (by omega)
          rw [cellsV] at h10
          obtain ⟨_, hlen0, hcell0⟩ := World.cells?_some h10
          match cs0, hlen0 with
          | [u0, u1, u2, u3, u4], _ =>
            have q0 := hcell0 0 (by omega)
            simpa [Addr.add] using World.cell?_spot q0
        subst hspot
        have hadd : ∀ j i, ((⟨b, off, none⟩ : Addr).add j).add i = ⟨b, off + j + i, none⟩ := fun j i => by rw [addr_add, addr_add]
        obtain ⟨o, oa, oc, rfl, hr, hs⟩ := ver_atU h2 hlen hwk
        have c0 := hcell 0 (by simp)
        have c1 := hcell 1 (by simp)
        have c2 := hcell 2 (by simp)
        have c3 := hcell 3 (by simp)
        have c4 := hcell 4 (by simp)
        rw [hadd] at c0 c1 c2 c3 c4
        exact ⟨⟨o, oa, oc⟩, fun _ => ⟨rfl, block_lt_of_cell c0, ⟨by simpa using c0, by simpa using c1, by simpa using c2, by simpa using c3, by simpa using c4⟩, hr, hs⟩⟩
      · exact ⟨⟨vs0, none, 0⟩, fun h => absurd h hk⟩
    have hf := fun k => Classical.choose_spec (key k)
    have hget : ∀ (k : Nat) (q : Vs), ((List.range len).map fun k => (Classical.choose (key k)).v)[k]? = some q → k < len ∧ q = (Classical.choose (key k)).v := fun k q hk => by
      have hkl : k < len := by
        have := (List.getElem?_eq_some_iff.1 hk).1
        simpa using this
      rw [List.getElem?_map, List.getElem?_range hkl] at hk
      exact ⟨hkl, (Option.some.inj hk).symm⟩
    refine ⟨(List.range len).map fun k => (Classical.choose (key k)).v, by simp, ⟨⟨fun k q hk => ?_⟩, fun k q hk => ?_⟩, .inr ⟨_, _, hd, by simp⟩⟩
    · obtain ⟨hkl, rfl⟩ := hget k q hk
      obtain ⟨h1, h2, h3, h4, h5⟩ := hf k hkl
      exact ⟨b, off, _, _, by rw [h1], h2, h3.1, h3.2.1, h3.2.2.1, h3.2.2.2.1, h3.2.2.2.2, h4⟩
    · obtain ⟨hkl, rfl⟩ := hget k q hk
      obtain ⟨h1, h2, h3, h4, h5, h6⟩ := hf k hkl
      refine ⟨h5, Nat.le_trans h6 ?_⟩
      have := bulk_mem (List.mem_map.2 ⟨k, List.mem_range.2 hkl, rfl⟩ : D k ∈ (List.range len).map D)
      rw [hd]
      simp only [Rows.uptoBulk]
      omega
theorem ver_inU {H : Type} {enc : TypeId × Value → H} {W : World} {base : Nat} {v : Value} {d : DataW H} {p : List MemPlace} (hv : Value.okWide Try.prog W .any base 33 v) (h : DataW.Trod enc Try.prog W 0 (fun _ => true) true 33 v d p) (hw : ∀ n ∈ d.weights Try.prog 33, n ≤ 140737488351232) :
    ∃ (u : Vs) (a : Option Addr) (c : Nat), v = vv u.key u.seq u.mkr u.data a u.l.length c ∧ Vi W u a u.l.length c ∧ u.l.length ≤ Rows.uptoBulk d := by
  obtain ⟨f0, f1, f2, f3, f4, hu, _⟩ := undV
  obtain ⟨cs, rfl, hc⟩ := okWide_struct hu hv
  rw [cellsV] at hc
  obtain ⟨fuel, hf⟩ := h
  obtain ⟨o, a, c, ho, h1, h2, h3⟩ := ver_atU hf (by simpa [Value.cells] using hc) hw
  refine ⟨o, a, c, ?_, ⟨rfl, h1, h2⟩, h3⟩
  have : cs = #[str o.key, .int .i64 o.seq, .bool o.mkr, str o.data, .slice a o.l.length c] := by
    apply Array.ext'
    simpa [Value.cells] using ho
  rw [this]
end Go.Proofs.Ytaonjmmdgfbceaa
