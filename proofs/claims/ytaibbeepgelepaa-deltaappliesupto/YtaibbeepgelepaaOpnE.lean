/- What came in, where the bulk is bounded. -/
import Derived.Test.YtaibbeepgelepaaOpnD
namespace Go.Proofs.Ytaibbeepgelepaa
set_option linter.unusedVariables false
set_option linter.unusedSimpArgs false
open Go.ChangeShapes Go.WideShapes Go.ChangeAt Go.RowKit
theorem bulk_pos {H : Type} (d : DataW H) : 1 ≤ Rows.uptoBulk d := by
  cases d with
  | lit l => cases l <;> simp [Rows.uptoBulk]
  | _ => simp [Rows.uptoBulk]
theorem bulk_len {H : Type} : ∀ l : List (DataW H), l.length ≤ Rows.uptoBulkAll l
  | [] => Nat.zero_le _
  | d :: r => by
    have := bulk_len r
    have := bulk_pos d
    simp only [Rows.uptoBulkAll, List.length_cons]
    omega
theorem bulk_mem {H : Type} : ∀ {l : List (DataW H)} {d : DataW H}, d ∈ l → Rows.uptoBulk d ≤ Rows.uptoBulkAll l
  | x :: r, d, h => by
    simp only [Rows.uptoBulkAll]
    rcases List.mem_cons.1 h with rfl | h
    · omega
    · have := bulk_mem h; omega
theorem reads_bulk {H : Type} {d : DataW H} {len : Nat} (h : Reads d len) : len ≤ Rows.uptoBulk d := by
  rcases h with h0 | ⟨es, sp, he, hl⟩
  · omega
  · have := bulk_len es
    rw [he]
    simp only [Rows.uptoBulk]
    omega
theorem w_all {H : Type} {t : TypeId} {C : Nat} (h : ∀ (d : DataW H), ∀ n ∈ d.weights Try.prog t, n ≤ C * Rows.uptoBulk d) : ∀ (l : List (DataW H)), ∀ n ∈ DataW.weightsAll Try.prog t l, n ≤ C * Rows.uptoBulkAll l
  | [], n, hn => by simp [DataW.weightsAll] at hn
  | d :: r, n, hn => by
    simp only [DataW.weightsAll, List.mem_append] at hn
    simp only [Rows.uptoBulkAll, Nat.mul_add]
    rcases hn with q | q
    · have := h d n q; omega
    · have := w_all h r n q; omega
theorem w_each {H : Type} {C : Nat} : ∀ (ts : List TypeId), (∀ t ∈ ts, ∀ (d : DataW H), ∀ n ∈ d.weights Try.prog t, n ≤ C * Rows.uptoBulk d) → ∀ (l : List (DataW H)), ∀ n ∈ DataW.weightsEach Try.prog ts l, n ≤ C * Rows.uptoBulkAll l
  | [], _, l, n, hn => by simp [DataW.weightsEach] at hn
  | t :: ts, h, [], n, hn => by simp [DataW.weightsEach] at hn
  | t :: ts, h, d :: r, n, hn => by
    simp only [DataW.weightsEach, List.mem_append] at hn
    simp only [Rows.uptoBulkAll, Nat.mul_add]
    rcases hn with q | q
    · have := h t List.mem_cons_self d n q; omega
    · have := w_each ts (fun t' ht' => h t' (List.mem_cons_of_mem _ ht')) r n q; omega
theorem w_str {H : Type} (d : DataW H) : ∀ n ∈ d.weights Try.prog 9, n ≤ 32 * Rows.uptoBulk d := by
  intro n hn
  cases d with
  | lit l => cases l <;> simp [DataW.weights] at hn; simp [Rows.uptoBulk]; omega
  | _ => simp [DataW.weights, Try.underlying9] at hn
theorem w_int {H : Type} (d : DataW H) : ∀ n ∈ d.weights Try.prog 2, n ≤ 32 * Rows.uptoBulk d := by
  intro n hn
  cases d with
  | lit l => cases l <;> simp [DataW.weights] at hn; simp [Rows.uptoBulk]; omega
  | _ => simp [DataW.weights, Try.underlying2] at hn
theorem w_bool {H : Type} (d : DataW H) : ∀ n ∈ d.weights Try.prog 4, n ≤ 32 * Rows.uptoBulk d := by
  intro n hn
  cases d with
  | lit l => cases l <;> simp [DataW.weights] at hn; simp [Rows.uptoBulk]; omega
  | _ => simp [DataW.weights, Try.underlying4] at hn
theorem w_ent {H : Type} (d : DataW H) : ∀ n ∈ d.weights Try.prog 60, n ≤ 32 * Rows.uptoBulk d := by
  intro n hn
  obtain ⟨f0, f1, hu, ⟨t0, t1⟩, _⟩ := undE
  cases d with
  | lit l => cases l <;> simp [DataW.weights] at hn; simp [Rows.uptoBulk]; omega
  | agg ps =>
    simp only [DataW.weights, hu] at hn
    have := w_each (C := 32) [9, 9] (fun t ht d => by simp at ht; subst ht; exact w_str d) ps n (by simpa [t0, t1] using hn)
    simp only [Rows.uptoBulk]
    omega
  | _ => simp [DataW.weights, hu] at hn
theorem w_ents {H : Type} (d : DataW H) : ∀ n ∈ d.weights Try.prog 46, n ≤ 32 * Rows.uptoBulk d := by
  intro n hn
  cases d with
  | lit l => cases l <;> simp [DataW.weights] at hn; simp [Rows.uptoBulk]; omega
  | slice es sp =>
    simp only [DataW.weights, Try.underlying46, List.mem_cons, List.mem_append] at hn
    simp only [Rows.uptoBulk]
    rcases hn with q | q | q
    · rw [bytesE] at q
      have := bulk_len es
      have := bulk_len sp
      omega
    · have := w_all w_ent es n q; omega
    · have := w_all w_ent sp n q; omega
  | _ => simp [DataW.weights, Try.underlying46] at hn
theorem w_ver {H : Type} (d : DataW H) : ∀ n ∈ d.weights Try.prog 48, n ≤ 72 * Rows.uptoBulk d := by
  intro n hn
  obtain ⟨f0, f1, f2, f3, f4, hu, ⟨t0, t1, t2, t3, t4⟩, _⟩ := undV
  cases d with
  | lit l => cases l <;> simp [DataW.weights] at hn; simp [Rows.uptoBulk]; omega
  | agg ps =>
    simp only [DataW.weights, hu] at hn
    have := w_each (C := 72) [9, 2, 4, 9, 46] (fun t ht d n hn => by
      simp at ht
      have : n ≤ 32 * Rows.uptoBulk d := by
        rcases ht with rfl | rfl | rfl | rfl | rfl
        · exact w_str d n hn
        · exact w_int d n hn
        · exact w_bool d n hn
        · exact w_str d n hn
        · exact w_ents d n hn
      omega) ps n (by simpa [t0, t1, t2, t3, t4] using hn)
    simp only [Rows.uptoBulk]
    omega
  | _ => simp [DataW.weights, hu] at hn
theorem w_vers {H : Type} (d : DataW H) : ∀ n ∈ d.weights Try.prog 22, n ≤ 72 * Rows.uptoBulk d := by
  intro n hn
  cases d with
  | lit l => cases l <;> simp [DataW.weights] at hn; simp [Rows.uptoBulk]; omega
  | slice es sp =>
    simp only [DataW.weights, Try.underlying22, List.mem_cons, List.mem_append] at hn
    simp only [Rows.uptoBulk]
    rcases hn with q | q | q
    · rw [bytesV] at q
      have := bulk_len es
      have := bulk_len sp
      omega
    · have := w_all w_ver es n q; omega
    · have := w_all w_ver sp n q; omega
  | _ => simp [DataW.weights, Try.underlying22] at hn
theorem w_bkt {H : Type} (d : DataW H) : ∀ n ∈ d.weights Try.prog 24, n ≤ 72 * Rows.uptoBulk d := by
  intro n hn
  obtain ⟨f0, f1, hu, ⟨t0, t1⟩, _⟩ := undB
  cases d with
  | lit l => cases l <;> simp [DataW.weights] at hn; simp [Rows.uptoBulk]; omega
  | agg ps =>
    simp only [DataW.weights, hu] at hn
    have := w_each (C := 72) [2, 22] (fun t ht d n hn => by
      simp at ht
      rcases ht with rfl | rfl
      · have := w_int d n hn; omega
      · exact w_vers d n hn) ps n (by simpa [t0, t1] using hn)
    simp only [Rows.uptoBulk]
    omega
  | _ => simp [DataW.weights, hu] at hn
theorem w_dlt {H : Type} (d : DataW H) : ∀ n ∈ d.weights Try.prog 27, n ≤ 72 * Rows.uptoBulk d := by
  intro n hn
  obtain ⟨f0, f1, hu, ⟨t0, t1⟩, _⟩ := undD
  cases d with
  | lit l => cases l <;> simp [DataW.weights] at hn; simp [Rows.uptoBulk]; omega
  | agg ps =>
    simp only [DataW.weights, hu] at hn
    have := w_each (C := 72) [2, 24] (fun t ht d n hn => by
      simp at ht
      rcases ht with rfl | rfl
      · have := w_int d n hn; omega
      · exact w_bkt d n hn) ps n (by simpa [t0, t1] using hn)
    simp only [Rows.uptoBulk]
    omega
  | _ => simp [DataW.weights, hu] at hn
set_option maxRecDepth 100000 in
theorem bkt_atU {H : Type} {enc : TypeId × Value → H} {W : World} {fuel : Nat} {cs : List Value} {d : DataW H} {pl : List MemPlace} (h : DataW.trod enc Try.prog W 0 (fun _ => true) true fuel 24 cs = some (d, pl)) (hlen : cs.length = 2) (hw : ∀ n ∈ d.weights Try.prog 24, n ≤ 140737488351232) :
    ∃ (next : Int) (L : List Vs) (a : Option Addr) (c : Nat), cs = [.int .i64 next, .slice a L.length c] ∧ Li W L a L.length c ∧ (∀ u ∈ L, Pz u.l) ∧ L.length ≤ Rows.uptoBulk d := by
  obtain ⟨f0, f1, hu, ⟨t0, t1⟩, o0, o1⟩ := undB
  obtain ⟨xs, n', _, hxd, _, hxl, hfs⟩ := DataW.trod_struct hu h
  match xs, hxl, cs, hlen with
  | [y0, y1], _, [v0, v1], _ =>
    have g0 := hfs 0 f0 rfl
    have g1 := hfs 1 f1 rfl
    simp [o0, o1, t0, t1, cells2t, cellsVs] at g0 g1
    obtain ⟨s0, e0, ye0, hs0⟩ := DataW.trod_int Try.underlying2 g0
    have h4 : ∃ a len cap, v1 = .slice a len cap := by
      rcases Go.Deep.open_slice Try.underlying22 g1 with ⟨hcs, _⟩ | ⟨x, l, c, m, n, D, Pl, hcs, _⟩
      · simp at hcs; exact ⟨_, _, _, hcs⟩
      · simp at hcs; exact ⟨_, _, _, hcs⟩
    obtain ⟨a, len, cap, rfl⟩ := h4
    simp at e0
    subst e0
    have hDe : d = .agg [y0.1, y1.1] := congrArg Prod.fst hxd
    have hw1 : ∀ n ∈ y1.1.weights Try.prog 22, n ≤ 140737488351232 := fun n hn => by
      refine hw n ?_
      rw [hDe]
      simp only [DataW.weights, hu]
      have := DataW.weights_mem_each (P := Try.prog) (ts := [2, 22]) (ds := [y0.1, y1.1]) (j := 1) rfl rfl n hn
      simpa [t0, t1] using this
    have T1 : DataW.Trod enc Try.prog W 0 (fun _ => true) true 22 (.slice a len cap) y1.1 y1.2 := ⟨n', by simpa [Value.cells] using g1⟩
    obtain ⟨L, hl, ⟨i1, i2⟩, rd⟩ := vers_in T1 hw1
    subst hl
    have hm : ∀ u ∈ L, u.l.length ≤ 4398046510976 ∧ Pz u.l := fun u hu => by
      obtain ⟨kk, hkk, e⟩ := List.getElem_of_mem hu
      exact i2 kk u (by rw [List.getElem?_eq_getElem hkk, e])
    exact ⟨s0, L, a, cap, rfl, ⟨rfl, ⟨i1, (vers_sl T1).1, (vers_sl T1).2.1, (vers_sl T1).2.2⟩, by have := vers_in_len rd hw1; omega, fun u hu => (hm u hu).1⟩, fun u hu => (hm u hu).2, by have := reads_bulk rd; rw [hDe]; simp only [Rows.uptoBulk, Rows.uptoBulkAll]; omega⟩
set_option maxRecDepth 100000 in
theorem bkt_inU {H : Type} {enc : TypeId × Value → H} {W : World} {base : Nat} {v : Value} {d : DataW H} {p : List MemPlace} (hv : Value.okWide Try.prog W .any base 24 v) (h : DataW.Trod enc Try.prog W 0 (fun _ => true) true 24 v d p) (hw : ∀ n ∈ d.weights Try.prog 24, n ≤ 140737488351232) :
    ∃ (next : Int) (L : List Vs) (a : Option Addr) (c : Nat), v = bv next a L.length c ∧ Li W L a L.length c ∧ (∀ u ∈ L, Pz u.l) ∧ L.length ≤ Rows.uptoBulk d := by
  obtain ⟨f0, f1, hu, _⟩ := undB
  obtain ⟨cs, rfl, hc⟩ := okWide_struct hu hv
  rw [cellsB] at hc
  obtain ⟨fuel, hf⟩ := h
  obtain ⟨next, L, a, c, ho, h1, h2⟩ := bkt_atU hf (by simpa [Value.cells] using hc) hw
  refine ⟨next, L, a, c, ?_, h1, h2⟩
  have : cs = #[.int .i64 next, .slice a L.length c] := by
    apply Array.ext'
    simpa [Value.cells] using ho
  rw [this]
set_option maxRecDepth 100000 in
theorem dlt_atU {H : Type} {enc : TypeId × Value → H} {W : World} {fuel : Nat} {cs : List Value} {d : DataW H} {pl : List MemPlace} (h : DataW.trod enc Try.prog W 0 (fun _ => true) true fuel 27 cs = some (d, pl)) (hlen : cs.length = 3) (hw : ∀ n ∈ d.weights Try.prog 27, n ≤ 140737488351232) :
    ∃ (since next : Int) (L : List Vs) (a : Option Addr) (c : Nat), cs = [.int .i64 since, .int .i64 next, .slice a L.length c] ∧ Li W L a L.length c ∧ (∀ u ∈ L, Pz u.l) ∧ L.length ≤ Rows.uptoBulk d := by
  obtain ⟨f0, f1, hu, ⟨t0, t1⟩, o0, o1⟩ := undD
  obtain ⟨xs, n', _, hxd, _, hxl, hfs⟩ := DataW.trod_struct hu h
  match xs, hxl, cs, hlen with
  | [y0, y1], _, [v0, v1, v2], _ =>
    have g0 := hfs 0 f0 rfl
    have g1 := hfs 1 f1 rfl
    simp [o0, o1, t0, t1, cells2t, cellsB] at g0 g1
    obtain ⟨s0, e0, ye0, hs0⟩ := DataW.trod_int Try.underlying2 g0
    simp at e0
    subst e0
    have hDe : d = .agg [y0.1, y1.1] := congrArg Prod.fst hxd
    have hw1 : ∀ n ∈ y1.1.weights Try.prog 24, n ≤ 140737488351232 := fun n hn => by
      refine hw n ?_
      rw [hDe]
      simp only [DataW.weights, hu]
      have := DataW.weights_mem_each (P := Try.prog) (ts := [2, 24]) (ds := [y0.1, y1.1]) (j := 1) rfl rfl n hn
      simpa [t0, t1] using this
    obtain ⟨next, L, a, c, hcs, h1, h2⟩ := bkt_atU g1 rfl hw1
    simp at hcs
    obtain ⟨rfl, rfl⟩ := hcs
    exact ⟨s0, next, L, a, c, rfl, h1, h2.1, by have := h2.2; rw [hDe]; simp only [Rows.uptoBulk, Rows.uptoBulkAll]; omega⟩
set_option maxRecDepth 100000 in
theorem dlt_inU {H : Type} {enc : TypeId × Value → H} {W : World} {base : Nat} {v : Value} {d : DataW H} {p : List MemPlace} (hv : Value.okWide Try.prog W .any base 27 v) (h : DataW.Trod enc Try.prog W 0 (fun _ => true) true 27 v d p) (hw : ∀ n ∈ d.weights Try.prog 27, n ≤ 140737488351232) :
    ∃ (since next : Int) (L : List Vs) (a : Option Addr) (c : Nat), v = dv since next a L.length c ∧ Li W L a L.length c ∧ (∀ u ∈ L, Pz u.l) ∧ L.length ≤ Rows.uptoBulk d := by
  obtain ⟨f0, f1, hu, _⟩ := undD
  obtain ⟨cs, rfl, hc⟩ := okWide_struct hu hv
  rw [cellsD] at hc
  obtain ⟨fuel, hf⟩ := h
  obtain ⟨since, next, L, a, c, ho, h1, h2⟩ := dlt_atU hf (by simpa [Value.cells] using hc) hw
  refine ⟨since, next, L, a, c, ?_, h1, h2⟩
  have : cs = #[.int .i64 since, .int .i64 next, .slice a L.length c] := by
    apply Array.ext'
    simpa [Value.cells] using ho
  rw [this]
end Go.Proofs.Ytaibbeepgelepaa
