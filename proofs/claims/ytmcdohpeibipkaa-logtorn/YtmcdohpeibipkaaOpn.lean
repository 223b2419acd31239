/- Slices that came in: integers, words, texts, puts, steps. -/
import Derived.Test.YtmcdohpeibipkaaBlk
import Derived.Test.YtmcdohpeibipkaaRows
import Derived.ProofKit
import Derived.OpenShut
import Derived.JoinedCond
import Derived.SizedLaws
import Derived.Deep.Slices
namespace Go.Proofs.Ytmcdohpeibipkaa
set_option linter.unusedVariables false
set_option linter.unusedSimpArgs false
open Go.ChangeShapes Go.WideShapes Go.ChangeAt Go.RowKit
theorem own : ownKnob Try.prog.godebug = none := by kernel_rfl
theorem addr_add (b off j : Nat) : (⟨b, off, none⟩ : Addr).add j = ⟨b, off + j, none⟩ := by unfold Addr.add; split <;> simp_all
theorem wf64 {n : Int} (h : (Lit.int .i64 n).wf = true) : -9223372036854775808 ≤ n ∧ n ≤ 9223372036854775807 := by
  simpa [Lit.wf, IntKind.min, IntKind.max, IntKind.signed, IntKind.bits] using h
theorem wfu64 {n : Int} (h : (Lit.int .u64 n).wf = true) : 0 ≤ n ∧ n ≤ 18446744073709551615 := by
  simpa [Lit.wf, IntKind.min, IntKind.max, IntKind.signed, IntKind.bits] using h
theorem bytesI : Try.prog.bytesOf 3 = 8 := by kernel_rfl
theorem bytesU : Try.prog.bytesOf 53 = 8 := by kernel_rfl
theorem bytesT : Try.prog.bytesOf 9 = 16 := by kernel_rfl
theorem bytesP : Try.prog.bytesOf 82 = 32 := by kernel_rfl
theorem bytesO : Try.prog.bytesOf 67 = 64 := by kernel_rfl
theorem cellsP : Try.prog.cellsOf 82 = 3 := by kernel_rfl
theorem cellsO : Try.prog.cellsOf 67 = 4 := by kernel_rfl
theorem cells3t : Try.prog.cellsOf 3 = 1 := by kernel_rfl
theorem cells4t : Try.prog.cellsOf 4 = 1 := by kernel_rfl
theorem cells9t : Try.prog.cellsOf 9 = 1 := by kernel_rfl
theorem cellsUt : Try.prog.cellsOf 53 = 1 := by kernel_rfl
theorem cellsIt : Try.prog.cellsOf 65 = 1 := by kernel_rfl
theorem cellsPt : Try.prog.cellsOf 49 = 1 := by kernel_rfl
theorem undP : ∃ f0 f1 f2 : Field, Try.prog.underlying 82 = some (.struct #[f0, f1, f2]) ∧ (f0.type = 3 ∧ f1.type = 9 ∧ f2.type = 4) ∧ (f0.offset = 0 ∧ f1.offset = 1 ∧ f2.offset = 2) := by
  refine ⟨_, _, _, Try.underlying82, ⟨rfl, rfl, rfl⟩, rfl, rfl, rfl⟩
theorem undO : ∃ f0 f1 f2 f3 : Field, Try.prog.underlying 67 = some (.struct #[f0, f1, f2, f3]) ∧ (f0.type = 3 ∧ f1.type = 49 ∧ f2.type = 3 ∧ f3.type = 65) ∧ (f0.offset = 0 ∧ f1.offset = 1 ∧ f2.offset = 2 ∧ f3.offset = 3) := by
  refine ⟨_, _, _, _, Try.underlying67, ⟨rfl, rfl, rfl, rfl⟩, rfl, rfl, rfl, rfl⟩
/-- how long the slice reads -/
def Reads {H : Type} (d : DataW H) (len : Nat) : Prop := len = 0 ∨ ∃ es sp, d = .slice es sp ∧ es.length = len
theorem weightsAll_mem {H : Type} {P : Program} {e : TypeId} : ∀ {l : List (DataW H)} {d : DataW H}, d ∈ l → ∀ n ∈ d.weights P e, n ∈ DataW.weightsAll P e l
  | x :: r, d, h, n, hn => by
    simp only [DataW.weightsAll, List.mem_append]
    rcases List.mem_cons.1 h with rfl | h
    · exact .inl hn
    · exact .inr (weightsAll_mem h n hn)
theorem weights_le {H : Type} {ts : List TypeId} {ds : List (DataW H)} (h : (DataW.weightsEach Try.prog ts ds).all (· ≤ reachBytes) = true) {j : Nat} {t : TypeId} {d : DataW H} (ht : ts[j]? = some t) (hd : ds[j]? = some d) : ∀ n ∈ d.weights Try.prog t, n ≤ 140737488351232 := fun n hn => by
  have := of_decide_eq_true (List.all_eq_true.1 h n (DataW.weights_mem_each ht hd n hn))
  simpa [reachBytes] using this
/-- a put -/
structure Px where
  n : Int
  t : ByteArray
  odd : Bool
/-- words -/
structure UIn (w : World) (a : Option Addr) (l : List Nat) : Prop where
  get : ∀ (k : Nat) p, l[k]? = some p → ∃ b off, a = some ⟨b, off, none⟩ ∧ b < w.heap.size ∧ w.cell? ⟨b, off + k, none⟩ = some (.int .u64 (p : Int)) ∧ p < 18446744073709551616
/-- texts -/
structure TIn (w : World) (a : Option Addr) (l : List ByteArray) : Prop where
  get : ∀ (k : Nat) p, l[k]? = some p → ∃ b off, a = some ⟨b, off, none⟩ ∧ b < w.heap.size ∧ w.cell? ⟨b, off + k, none⟩ = some (.string p) ∧ p.size ≤ 140737488351232
structure PIn (w : World) (a : Option Addr) (l : List Px) : Prop where
  get : ∀ (k : Nat) p, l[k]? = some p → ∃ b off, a = some ⟨b, off, none⟩ ∧ b < w.heap.size ∧ (w.cell? ⟨b, off + k * 3, none⟩ = some (.int .i64 p.n) ∧ w.cell? ⟨b, off + k * 3 + 1, none⟩ = some (.string p.t) ∧ w.cell? ⟨b, off + k * 3 + 2, none⟩ = some (.bool p.odd)) ∧ (-9223372036854775808 ≤ p.n ∧ p.n ≤ 9223372036854775807) ∧ p.t.size ≤ 140737488351232
/-- a step -/
structure Ox where
  kd : Int
  la : Option Addr
  lc : Nat
  ls : List Px
  n : Int
  ka : Option Addr
  kc : Nat
  zs : List Int
structure Ox.ok (w : World) (o : Ox) : Prop where
  k1 : -9223372036854775808 ≤ o.kd
  k2 : o.kd ≤ 9223372036854775807
  n1 : -9223372036854775808 ≤ o.n
  n2 : o.n ≤ 9223372036854775807
  ll : o.ls.length ≤ 4398046510976
  li : PIn w o.la o.ls
  zl : o.zs.length ≤ 20000000000000
  zi : IIn w o.ka o.zs
  zc : o.ka = none → o.kc = 0
structure OIn (w : World) (a : Option Addr) (l : List Ox) : Prop where
  get : ∀ (k : Nat) o, l[k]? = some o → ∃ b off, a = some ⟨b, off, none⟩ ∧ b < w.heap.size ∧ (w.cell? ⟨b, off + k * 4, none⟩ = some (.int .i64 o.kd) ∧ w.cell? ⟨b, off + k * 4 + 1, none⟩ = some (.slice o.la o.ls.length o.lc) ∧ w.cell? ⟨b, off + k * 4 + 2, none⟩ = some (.int .i64 o.n) ∧ w.cell? ⟨b, off + k * 4 + 3, none⟩ = some (.slice o.ka o.zs.length o.kc)) ∧ o.ok w
theorem later_cell {w w' : World} {b j : Nat} {v : Value} (hb : Below w.heap.size w w') (h : b < w.heap.size) (hc : w.cell? ⟨b, j, none⟩ = some v) : w'.cell? ⟨b, j, none⟩ = some v := (hb.cell (p := ⟨b, j, none⟩) h).trans hc
theorem IIn.later {w w' : World} {a : Option Addr} {zs : List Int} (h : IIn w a zs) (b : Below w.heap.size w w') : IIn w' a zs := h.below b (fun _ _ _ hb => hb)
theorem UIn.later {w w' : World} {a : Option Addr} {l : List Nat} (h : UIn w a l) (b : Below w.heap.size w w') : UIn w' a l := ⟨fun k p hk => by
  obtain ⟨g, off, e, h1, h2, h3⟩ := h.get k p hk
  exact ⟨g, off, e, Nat.lt_of_lt_of_le h1 b.size, later_cell b h1 h2, h3⟩⟩
theorem TIn.later {w w' : World} {a : Option Addr} {l : List ByteArray} (h : TIn w a l) (b : Below w.heap.size w w') : TIn w' a l := ⟨fun k p hk => by
  obtain ⟨g, off, e, h1, h2, h3⟩ := h.get k p hk
  exact ⟨g, off, e, Nat.lt_of_lt_of_le h1 b.size, later_cell b h1 h2, h3⟩⟩
theorem PIn.later {w w' : World} {a : Option Addr} {l : List Px} (h : PIn w a l) (b : Below w.heap.size w w') : PIn w' a l := ⟨fun k p hk => by
  obtain ⟨g, off, e, h1, ⟨c0, c1, c2⟩, h3⟩ := h.get k p hk
  exact ⟨g, off, e, Nat.lt_of_lt_of_le h1 b.size, ⟨later_cell b h1 c0, later_cell b h1 c1, later_cell b h1 c2⟩, h3⟩⟩
theorem Ox.ok.later {w w' : World} {o : Ox} (h : o.ok w) (b : Below w.heap.size w w') : o.ok w' := ⟨h.k1, h.k2, h.n1, h.n2, h.ll, h.li.later b, h.zl, h.zi.later b, h.zc⟩
theorem OIn.later {w w' : World} {a : Option Addr} {l : List Ox} (h : OIn w a l) (b : Below w.heap.size w w') : OIn w' a l := ⟨fun k p hk => by
  obtain ⟨g, off, e, h1, ⟨c0, c1, c2, c3⟩, h3⟩ := h.get k p hk
  exact ⟨g, off, e, Nat.lt_of_lt_of_le h1 b.size, ⟨later_cell b h1 c0, later_cell b h1 c1, later_cell b h1 c2, later_cell b h1 c3⟩, h3.later b⟩⟩
set_option maxRecDepth 100000 in
theorem ints_in {H : Type} {enc : TypeId × Value → H} {W : World} {a : Option Addr} {len cap : Nat} {d : DataW H} {p : List MemPlace} (h : DataW.Trod enc Try.prog W 0 (fun _ => true) true 65 (.slice a len cap) d p) (hw : ∀ n ∈ d.weights Try.prog 65, n ≤ 140737488351232) :
    ∃ L : List Int, L.length = len ∧ IIn W a L ∧ Reads d len := by
  obtain ⟨fuel, hf⟩ := h
  rcases Go.Deep.open_slice Try.underlying65 hf with ⟨hcs, _⟩ | ⟨x, l, c, m, n, D, Pl, hcs, _, hl, hm, hmm, hx, hel⟩
  · simp [Value.cells] at hcs
    obtain ⟨rfl, rfl, rfl⟩ := hcs
    exact ⟨[], rfl, ⟨fun k p hk => by simp at hk⟩, .inl rfl⟩
  · simp [Value.cells] at hcs
    obtain ⟨rfl, rfl, rfl⟩ := hcs
    have hmc : m = cap := by simpa using hmm
    have hd : d = .slice ((List.range len).map D) ((List.range (m - len)).map fun j => D (len + j)) := congrArg Prod.fst hx
    have hwe : ∀ k, k < len → ∀ n ∈ (D k).weights Try.prog 3, n ≤ 140737488351232 := by
      intro k hk n hn
      refine hw n ?_
      rw [hd]
      simp only [DataW.weights, Try.underlying65]
      exact List.mem_cons_of_mem _ (List.mem_append_left _ (weightsAll_mem (List.mem_map.2 ⟨k, List.mem_range.2 hk, rfl⟩) n hn))
    obtain ⟨b, off, spot⟩ := x
    have key : ∀ k, ∃ o : Int, k < len → (spot = none ∧ b < W.heap.size ∧ W.cell? ⟨b, off + k, none⟩ = some (.int .i64 o) ∧ -9223372036854775808 ≤ o ∧ o ≤ 9223372036854775807) := by
      intro k
      by_cases hk : k < len
      · obtain ⟨cs', h1, h2⟩ := hel k (by omega)
        rw [cells3t] at h1
        obtain ⟨_, hlen, hcell⟩ := World.cells?_some h1
        have hwk := hwe k hk
        have hspot : spot = none := by
          obtain ⟨cs0, h10, _⟩ := hel 0 (by omega)
          rw [cells3t] at h10
          obtain ⟨_, hlen0, hcell0⟩ := World.cells?_some h10
          match cs0, hlen0 with
          | [u0], _ =>
            have q0 := hcell0 0 (by omega)
            simpa [Addr.add] using World.cell?_spot q0
        subst hspot
        have hadd : ∀ j i, ((⟨b, off, none⟩ : Addr).add j).add i = ⟨b, off + j + i, none⟩ := fun j i => by rw [addr_add, addr_add]
        obtain ⟨z0, e0, _, hz0⟩ := DataW.trod_int Try.underlying3 h2
        subst e0
        have c0 := hcell 0 (by simp)
        rw [hadd] at c0
        exact ⟨z0, fun _ => ⟨rfl, block_lt_of_cell c0, by simpa using c0, wf64 hz0⟩⟩
      · exact ⟨0, fun h => absurd h hk⟩
    have hf := fun k => Classical.choose_spec (key k)
    refine ⟨(List.range len).map fun k => Classical.choose (key k), by simp, ⟨fun k q hk => ?_⟩, .inr ⟨_, _, hd, by simp⟩⟩
    have hkl : k < len := by
      have := (List.getElem?_eq_some_iff.1 hk).1
      simpa using this
    rw [List.getElem?_map, List.getElem?_range hkl] at hk
    have hq := (Option.some.inj hk).symm
    subst hq
    obtain ⟨h1, h2, h3⟩ := hf k hkl
    exact ⟨b, off, by rw [h1], h2, h3⟩
theorem ints_in_len {H : Type} {d : DataW H} {len : Nat} (h : Reads d len) (hw : ∀ n ∈ d.weights Try.prog 65, n ≤ 140737488351232) : len ≤ 17592186043904 := by
  rcases h with h0 | ⟨es, sp, he, hl⟩
  · omega
  · have := hw ((es.length + sp.length) * Try.prog.bytesOf 3) (by rw [he]; simp only [DataW.weights, Try.underlying65]; exact List.mem_cons_self)
    rw [bytesI] at this
    omega
set_option maxRecDepth 100000 in
theorem u64s_in {H : Type} {enc : TypeId × Value → H} {W : World} {a : Option Addr} {len cap : Nat} {d : DataW H} {p : List MemPlace} (h : DataW.Trod enc Try.prog W 0 (fun _ => true) true 50 (.slice a len cap) d p) (hw : ∀ n ∈ d.weights Try.prog 50, n ≤ 140737488351232) :
    ∃ L : List Nat, L.length = len ∧ UIn W a L ∧ Reads d len := by
  obtain ⟨fuel, hf⟩ := h
  rcases Go.Deep.open_slice Try.underlying50 hf with ⟨hcs, _⟩ | ⟨x, l, c, m, n, D, Pl, hcs, _, hl, hm, hmm, hx, hel⟩
  · simp [Value.cells] at hcs
    obtain ⟨rfl, rfl, rfl⟩ := hcs
    exact ⟨[], rfl, ⟨fun k p hk => by simp at hk⟩, .inl rfl⟩
  · simp [Value.cells] at hcs
    obtain ⟨rfl, rfl, rfl⟩ := hcs
    have hmc : m = cap := by simpa using hmm
    have hd : d = .slice ((List.range len).map D) ((List.range (m - len)).map fun j => D (len + j)) := congrArg Prod.fst hx
    have hwe : ∀ k, k < len → ∀ n ∈ (D k).weights Try.prog 53, n ≤ 140737488351232 := by
      intro k hk n hn
      refine hw n ?_
      rw [hd]
      simp only [DataW.weights, Try.underlying50]
      exact List.mem_cons_of_mem _ (List.mem_append_left _ (weightsAll_mem (List.mem_map.2 ⟨k, List.mem_range.2 hk, rfl⟩) n hn))
    obtain ⟨b, off, spot⟩ := x
    have key : ∀ k, ∃ o : Nat, k < len → (spot = none ∧ b < W.heap.size ∧ W.cell? ⟨b, off + k, none⟩ = some (.int .u64 (o : Int)) ∧ o < 18446744073709551616) := by
      intro k
      by_cases hk : k < len
      · obtain ⟨cs', h1, h2⟩ := hel k (by omega)
        rw [cellsUt] at h1
        obtain ⟨_, hlen, hcell⟩ := World.cells?_some h1
        have hwk := hwe k hk
        have hspot : spot = none := by
          obtain ⟨cs0, h10, _⟩ := hel 0 (by omega)
          rw [cellsUt] at h10
          obtain ⟨_, hlen0, hcell0⟩ := World.cells?_some h10
          match cs0, hlen0 with
          | [u0], _ =>
            have q0 := hcell0 0 (by omega)
            simpa [Addr.add] using World.cell?_spot q0
        subst hspot
        have hadd : ∀ j i, ((⟨b, off, none⟩ : Addr).add j).add i = ⟨b, off + j + i, none⟩ := fun j i => by rw [addr_add, addr_add]
        obtain ⟨z0, e0, _, hz0⟩ := DataW.trod_int Try.underlying53 h2
        subst e0
        have c0 := hcell 0 (by simp)
        rw [hadd] at c0
        have hz := wfu64 hz0
        obtain ⟨z, rfl⟩ : ∃ z : Nat, z0 = (z : Int) := ⟨z0.toNat, by omega⟩
        exact ⟨z, fun _ => ⟨rfl, block_lt_of_cell c0, by simpa using c0, by omega⟩⟩
      · exact ⟨0, fun h => absurd h hk⟩
    have hf := fun k => Classical.choose_spec (key k)
    refine ⟨(List.range len).map fun k => Classical.choose (key k), by simp, ⟨fun k q hk => ?_⟩, .inr ⟨_, _, hd, by simp⟩⟩
    have hkl : k < len := by
      have := (List.getElem?_eq_some_iff.1 hk).1
      simpa using this
    rw [List.getElem?_map, List.getElem?_range hkl] at hk
    have hq := (Option.some.inj hk).symm
    subst hq
    obtain ⟨h1, h2, h3⟩ := hf k hkl
    exact ⟨b, off, by rw [h1], h2, h3⟩
theorem u64s_in_len {H : Type} {d : DataW H} {len : Nat} (h : Reads d len) (hw : ∀ n ∈ d.weights Try.prog 50, n ≤ 140737488351232) : len ≤ 17592186043904 := by
  rcases h with h0 | ⟨es, sp, he, hl⟩
  · omega
  · have := hw ((es.length + sp.length) * Try.prog.bytesOf 53) (by rw [he]; simp only [DataW.weights, Try.underlying50]; exact List.mem_cons_self)
    rw [bytesU] at this
    omega
set_option maxRecDepth 100000 in
theorem texts_in {H : Type} {enc : TypeId × Value → H} {W : World} {a : Option Addr} {len cap : Nat} {d : DataW H} {p : List MemPlace} (h : DataW.Trod enc Try.prog W 0 (fun _ => true) true 42 (.slice a len cap) d p) (hw : ∀ n ∈ d.weights Try.prog 42, n ≤ 140737488351232) :
    ∃ L : List ByteArray, L.length = len ∧ TIn W a L ∧ Reads d len := by
  obtain ⟨fuel, hf⟩ := h
  rcases Go.Deep.open_slice Try.underlying42 hf with ⟨hcs, _⟩ | ⟨x, l, c, m, n, D, Pl, hcs, _, hl, hm, hmm, hx, hel⟩
  · simp [Value.cells] at hcs
    obtain ⟨rfl, rfl, rfl⟩ := hcs
    exact ⟨[], rfl, ⟨fun k p hk => by simp at hk⟩, .inl rfl⟩
  · simp [Value.cells] at hcs
    obtain ⟨rfl, rfl, rfl⟩ := hcs
    have hmc : m = cap := by simpa using hmm
    have hd : d = .slice ((List.range len).map D) ((List.range (m - len)).map fun j => D (len + j)) := congrArg Prod.fst hx
    have hwe : ∀ k, k < len → ∀ n ∈ (D k).weights Try.prog 9, n ≤ 140737488351232 := by
      intro k hk n hn
      refine hw n ?_
      rw [hd]
      simp only [DataW.weights, Try.underlying42]
      exact List.mem_cons_of_mem _ (List.mem_append_left _ (weightsAll_mem (List.mem_map.2 ⟨k, List.mem_range.2 hk, rfl⟩) n hn))
    obtain ⟨b, off, spot⟩ := x
    have key : ∀ k, ∃ o : ByteArray, k < len → (spot = none ∧ b < W.heap.size ∧ W.cell? ⟨b, off + k, none⟩ = some (.string o) ∧ o.size ≤ 140737488351232) := by
      intro k
      by_cases hk : k < len
      · obtain ⟨cs', h1, h2⟩ := hel k (by omega)
        rw [cells9t] at h1
        obtain ⟨_, hlen, hcell⟩ := World.cells?_some h1
        have hwk := hwe k hk
        have hspot : spot = none := by
          obtain ⟨cs0, h10, _⟩ := hel 0 (by omega)
          rw [cells9t] at h10
          obtain ⟨_, hlen0, hcell0⟩ := World.cells?_some h10
          match cs0, hlen0 with
          | [u0], _ =>
            have q0 := hcell0 0 (by omega)
            simpa [Addr.add] using World.cell?_spot q0
        subst hspot
        have hadd : ∀ j i, ((⟨b, off, none⟩ : Addr).add j).add i = ⟨b, off + j + i, none⟩ := fun j i => by rw [addr_add, addr_add]
        obtain ⟨s, e0, ye, hs⟩ := DataW.trod_string Try.underlying9 h2
        subst e0
        have c0 := hcell 0 (by simp)
        rw [hadd] at c0
        have hsz : s.size ≤ 140737488351232 := by
          refine hwk _ ?_
          rw [show D k = _ from congrArg Prod.fst ye]
          show s.size ∈ [s.data.toList.length]
          simp
        exact ⟨s, fun _ => ⟨rfl, block_lt_of_cell c0, by simpa using c0, hsz⟩⟩
      · exact ⟨ByteArray.empty, fun h => absurd h hk⟩
    have hf := fun k => Classical.choose_spec (key k)
    refine ⟨(List.range len).map fun k => Classical.choose (key k), by simp, ⟨fun k q hk => ?_⟩, .inr ⟨_, _, hd, by simp⟩⟩
    have hkl : k < len := by
      have := (List.getElem?_eq_some_iff.1 hk).1
      simpa using this
    rw [List.getElem?_map, List.getElem?_range hkl] at hk
    have hq := (Option.some.inj hk).symm
    subst hq
    obtain ⟨h1, h2, h3⟩ := hf k hkl
    exact ⟨b, off, by rw [h1], h2, h3⟩
theorem texts_in_len {H : Type} {d : DataW H} {len : Nat} (h : Reads d len) (hw : ∀ n ∈ d.weights Try.prog 42, n ≤ 140737488351232) : len ≤ 8796093021952 := by
  rcases h with h0 | ⟨es, sp, he, hl⟩
  · omega
  · have := hw ((es.length + sp.length) * Try.prog.bytesOf 9) (by rw [he]; simp only [DataW.weights, Try.underlying42]; exact List.mem_cons_self)
    rw [bytesT] at this
    omega
set_option maxRecDepth 100000 in
theorem put_at {H : Type} {enc : TypeId × Value → H} {W : World} {fuel : Nat} {cs : List Value} {d : DataW H} {pl : List MemPlace} (h : DataW.trod enc Try.prog W 0 (fun _ => true) true fuel 82 cs = some (d, pl)) (hlen : cs.length = 3) (hw : ∀ n ∈ d.weights Try.prog 82, n ≤ 140737488351232) :
    ∃ o : Px, cs = [.int .i64 o.n, .string o.t, .bool o.odd] ∧ (-9223372036854775808 ≤ o.n ∧ o.n ≤ 9223372036854775807) ∧ o.t.size ≤ 140737488351232 := by
  obtain ⟨f0, f1, f2, hu, ⟨t0, t1, t2⟩, o0, o1, o2⟩ := undP
  obtain ⟨xs, n', _, hxd, _, hxl, hfs⟩ := DataW.trod_struct hu h
  match xs, hxl, cs, hlen with
  | [y0, y1, y2], _, [v0, v1, v2], _ =>
    have g0 := hfs 0 f0 rfl
    have g1 := hfs 1 f1 rfl
    have g2 := hfs 2 f2 rfl
    simp [o0, o1, o2, t0, t1, t2, cells3t, cells9t, cells4t] at g0 g1 g2
    obtain ⟨z0, e0, _, hz0⟩ := DataW.trod_int Try.underlying3 g0
    obtain ⟨s, e1, ye, hs⟩ := DataW.trod_string Try.underlying9 g1
    obtain ⟨bb, e2, _⟩ := DataW.trod_bool Try.underlying4 g2
    simp at e0 e1 e2
    subst e0 e1 e2
    have hDe : d = .agg [y0.1, y1.1, y2.1] := congrArg Prod.fst hxd
    have hws : ∀ n ∈ DataW.weightsEach Try.prog [3, 9, 4] [y0.1, y1.1, y2.1], n ≤ 140737488351232 := by
      intro n hn
      refine hw n ?_
      rw [hDe]
      simp only [DataW.weights, hu]
      simpa [t0, t1, t2] using hn
    have hsz : s.size ≤ 140737488351232 := by
      refine hws _ (DataW.weights_mem_each (j := 1) rfl rfl _ ?_)
      rw [ye]
      show s.size ∈ [s.data.toList.length]
      simp
    exact ⟨⟨z0, s, bb⟩, rfl, wf64 hz0, hsz⟩
set_option maxRecDepth 100000 in
theorem puts_in {H : Type} {enc : TypeId × Value → H} {W : World} {a : Option Addr} {len cap : Nat} {d : DataW H} {p : List MemPlace} (h : DataW.Trod enc Try.prog W 0 (fun _ => true) true 49 (.slice a len cap) d p) (hw : ∀ n ∈ d.weights Try.prog 49, n ≤ 140737488351232) :
    ∃ L : List Px, L.length = len ∧ PIn W a L ∧ Reads d len := by
  obtain ⟨fuel, hf⟩ := h
  rcases Go.Deep.open_slice Try.underlying49 hf with ⟨hcs, _⟩ | ⟨x, l, c, m, n, D, Pl, hcs, _, hl, hm, hmm, hx, hel⟩
  · simp [Value.cells] at hcs
    obtain ⟨rfl, rfl, rfl⟩ := hcs
    exact ⟨[], rfl, ⟨fun k p hk => by simp at hk⟩, .inl rfl⟩
  · simp [Value.cells] at hcs
    obtain ⟨rfl, rfl, rfl⟩ := hcs
    have hmc : m = cap := by simpa using hmm
    have hd : d = .slice ((List.range len).map D) ((List.range (m - len)).map fun j => D (len + j)) := congrArg Prod.fst hx
    have hwe : ∀ k, k < len → ∀ n ∈ (D k).weights Try.prog 82, n ≤ 140737488351232 := by
      intro k hk n hn
      refine hw n ?_
      rw [hd]
      simp only [DataW.weights, Try.underlying49]
      exact List.mem_cons_of_mem _ (List.mem_append_left _ (weightsAll_mem (List.mem_map.2 ⟨k, List.mem_range.2 hk, rfl⟩) n hn))
    obtain ⟨b, off, spot⟩ := x
    have key : ∀ k, ∃ o : Px, k < len → (spot = none ∧ b < W.heap.size ∧ (W.cell? ⟨b, off + k * 3, none⟩ = some (.int .i64 o.n) ∧ W.cell? ⟨b, off + k * 3 + 1, none⟩ = some (.string o.t) ∧ W.cell? ⟨b, off + k * 3 + 2, none⟩ = some (.bool o.odd)) ∧ (-9223372036854775808 ≤ o.n ∧ o.n ≤ 9223372036854775807) ∧ o.t.size ≤ 140737488351232) := by
      intro k
      by_cases hk : k < len
      · obtain ⟨cs', h1, h2⟩ := hel k (by omega)
        rw [cellsP] at h1
        obtain ⟨_, hlen, hcell⟩ := World.cells?_some h1
        have hwk := hwe k hk
        have hspot : spot = none := by
          obtain ⟨cs0, h10, _⟩ := hel 0 (by omega)
          rw [cellsP] at h10
          obtain ⟨_, hlen0, hcell0⟩ := World.cells?_some h10
          match cs0, hlen0 with
          | [u0, u1, u2], _ =>
            have q0 := hcell0 0 (by omega)
            simpa [Addr.add] using World.cell?_spot q0
        subst hspot
        have hadd : ∀ j i, ((⟨b, off, none⟩ : Addr).add j).add i = ⟨b, off + j + i, none⟩ := fun j i => by rw [addr_add, addr_add]
        obtain ⟨o, rfl, hr, hs⟩ := put_at h2 hlen hwk
        have c0 := hcell 0 (by simp)
        have c1 := hcell 1 (by simp)
        have c2 := hcell 2 (by simp)
        rw [hadd] at c0 c1 c2
        exact ⟨o, fun _ => ⟨rfl, block_lt_of_cell c0, ⟨by simpa using c0, by simpa using c1, by simpa using c2⟩, hr, hs⟩⟩
      · exact ⟨⟨0, ByteArray.empty, false⟩, fun h => absurd h hk⟩
    have hf := fun k => Classical.choose_spec (key k)
    refine ⟨(List.range len).map fun k => Classical.choose (key k), by simp, ⟨fun k q hk => ?_⟩, .inr ⟨_, _, hd, by simp⟩⟩
    have hkl : k < len := by
      have := (List.getElem?_eq_some_iff.1 hk).1
      simpa using this
    rw [List.getElem?_map, List.getElem?_range hkl] at hk
    have hq := (Option.some.inj hk).symm
    subst hq
    obtain ⟨h1, h2, h3⟩ := hf k hkl
    exact ⟨b, off, by rw [h1], h2, h3⟩
theorem puts_in_len {H : Type} {d : DataW H} {len : Nat} (h : Reads d len) (hw : ∀ n ∈ d.weights Try.prog 49, n ≤ 140737488351232) : len ≤ 4398046510976 := by
  rcases h with h0 | ⟨es, sp, he, hl⟩
  · omega
  · have := hw ((es.length + sp.length) * Try.prog.bytesOf 82) (by rw [he]; simp only [DataW.weights, Try.underlying49]; exact List.mem_cons_self)
    rw [bytesP] at this
    omega
set_option maxRecDepth 100000 in
theorem op_at {H : Type} {enc : TypeId × Value → H} {W : World} {fuel : Nat} {cs : List Value} {d : DataW H} {pl : List MemPlace} (h : DataW.trod enc Try.prog W 0 (fun _ => true) true fuel 67 cs = some (d, pl)) (hlen : cs.length = 4) (hw : ∀ n ∈ d.weights Try.prog 67, n ≤ 140737488351232) :
    ∃ o : Ox, cs = [.int .i64 o.kd, .slice o.la o.ls.length o.lc, .int .i64 o.n, .slice o.ka o.zs.length o.kc] ∧ o.ok W := by
  obtain ⟨f0, f1, f2, f3, hu, ⟨t0, t1, t2, t3⟩, o0, o1, o2, o3⟩ := undO
  obtain ⟨xs, n', _, hxd, _, hxl, hfs⟩ := DataW.trod_struct hu h
  match xs, hxl, cs, hlen with
  | [y0, y1, y2, y3], _, [v0, v1, v2, v3], _ =>
    have g0 := hfs 0 f0 rfl
    have g1 := hfs 1 f1 rfl
    have g2 := hfs 2 f2 rfl
    have g3 := hfs 3 f3 rfl
    simp [o0, o1, o2, o3, t0, t1, t2, t3, cells3t, cellsPt, cellsIt] at g0 g1 g2 g3
    obtain ⟨z0, e0, _, hz0⟩ := DataW.trod_int Try.underlying3 g0
    obtain ⟨z2, e2, _, hz2⟩ := DataW.trod_int Try.underlying3 g2
    simp at e0 e2
    subst e0 e2
    have hDe : d = .agg [y0.1, y1.1, y2.1, y3.1] := congrArg Prod.fst hxd
    have hws : ∀ n ∈ DataW.weightsEach Try.prog [3, 49, 3, 65] [y0.1, y1.1, y2.1, y3.1], n ≤ 140737488351232 := by
      intro n hn
      refine hw n ?_
      rw [hDe]
      simp only [DataW.weights, hu]
      simpa [t0, t1, t2, t3] using hn
    have hwl : ∀ n ∈ y1.1.weights Try.prog 49, n ≤ 140737488351232 := fun n hn => hws n (DataW.weights_mem_each (j := 1) rfl rfl n hn)
    have hwk : ∀ n ∈ y3.1.weights Try.prog 65, n ≤ 140737488351232 := fun n hn => hws n (DataW.weights_mem_each (j := 3) rfl rfl n hn)
    obtain ⟨la, ll, lc, rfl⟩ : ∃ la ll lc, v1 = .slice la ll lc := by
      rcases Go.Deep.open_slice Try.underlying49 g1 with ⟨hcs, _⟩ | ⟨x, l, c, m, n, D, Pl, hcs, _⟩
      · simp at hcs; exact ⟨none, 0, 0, hcs⟩
      · simp at hcs; exact ⟨some x, l, c, hcs⟩
    obtain ⟨ka, kl, kc, rfl, hkc⟩ : ∃ ka kl kc, v3 = .slice ka kl kc ∧ (ka = none → kc = 0) := by
      rcases Go.Deep.open_slice Try.underlying65 g3 with ⟨hcs, _⟩ | ⟨x, l, c, m, n, D, Pl, hcs, _⟩
      · simp at hcs; exact ⟨none, 0, 0, hcs, fun _ => rfl⟩
      · simp at hcs; exact ⟨some x, l, c, hcs, fun e => by cases e⟩
    obtain ⟨ls, hll, hli, hlr⟩ := puts_in (p := y1.2) (d := y1.1) ⟨_, by simpa [Value.cells] using g1⟩ hwl
    subst hll
    obtain ⟨zs, hzl, hzi, hzr⟩ := ints_in (p := y3.2) (d := y3.1) ⟨_, by simpa [Value.cells] using g3⟩ hwk
    subst hzl
    have h1 := puts_in_len hlr hwl
    have h2 := ints_in_len hzr hwk
    exact ⟨⟨z0, la, lc, ls, z2, ka, kc, zs⟩, rfl, ⟨(wf64 hz0).1, (wf64 hz0).2, (wf64 hz2).1, (wf64 hz2).2, h1, hli, Nat.le_trans h2 (by decide), hzi, hkc⟩⟩
set_option maxRecDepth 100000 in
theorem ops_in {H : Type} {enc : TypeId × Value → H} {W : World} {a : Option Addr} {len cap : Nat} {d : DataW H} {p : List MemPlace} (h : DataW.Trod enc Try.prog W 0 (fun _ => true) true 57 (.slice a len cap) d p) (hw : ∀ n ∈ d.weights Try.prog 57, n ≤ 140737488351232) :
    ∃ L : List Ox, L.length = len ∧ OIn W a L ∧ Reads d len := by
  obtain ⟨fuel, hf⟩ := h
  rcases Go.Deep.open_slice Try.underlying57 hf with ⟨hcs, _⟩ | ⟨x, l, c, m, n, D, Pl, hcs, _, hl, hm, hmm, hx, hel⟩
  · simp [Value.cells] at hcs
    obtain ⟨rfl, rfl, rfl⟩ := hcs
    exact ⟨[], rfl, ⟨fun k p hk => by simp at hk⟩, .inl rfl⟩
  · simp [Value.cells] at hcs
    obtain ⟨rfl, rfl, rfl⟩ := hcs
    have hmc : m = cap := by simpa using hmm
    have hd : d = .slice ((List.range len).map D) ((List.range (m - len)).map fun j => D (len + j)) := congrArg Prod.fst hx
    have hwe : ∀ k, k < len → ∀ n ∈ (D k).weights Try.prog 67, n ≤ 140737488351232 := by
      intro k hk n hn
      refine hw n ?_
      rw [hd]
      simp only [DataW.weights, Try.underlying57]
      exact List.mem_cons_of_mem _ (List.mem_append_left _ (weightsAll_mem (List.mem_map.2 ⟨k, List.mem_range.2 hk, rfl⟩) n hn))
    obtain ⟨b, off, spot⟩ := x
    have key : ∀ k, ∃ o : Ox, k < len → (spot = none ∧ b < W.heap.size ∧ (W.cell? ⟨b, off + k * 4, none⟩ = some (.int .i64 o.kd) ∧ W.cell? ⟨b, off + k * 4 + 1, none⟩ = some (.slice o.la o.ls.length o.lc) ∧ W.cell? ⟨b, off + k * 4 + 2, none⟩ = some (.int .i64 o.n) ∧ W.cell? ⟨b, off + k * 4 + 3, none⟩ = some (.slice o.ka o.zs.length o.kc)) ∧ o.ok W) := by
      intro k
      by_cases hk : k < len
      · obtain ⟨cs', h1, h2⟩ := hel k (by omega)
        rw [cellsO] at h1
        obtain ⟨_, hlen, hcell⟩ := World.cells?_some h1
        have hwk := hwe k hk
        have hspot : spot = none := by
          obtain ⟨cs0, h10, _⟩ := hel 0 (by omega)
          rw [cellsO] at h10
          obtain ⟨_, hlen0, hcell0⟩ := World.cells?_some h10
          match cs0, hlen0 with
          | [u0, u1, u2, u3], _ =>
            have q0 := hcell0 0 (by omega)
            simpa [Addr.add] using World.cell?_spot q0
        subst hspot
        have hadd : ∀ j i, ((⟨b, off, none⟩ : Addr).add j).add i = ⟨b, off + j + i, none⟩ := fun j i => by rw [addr_add, addr_add]
        obtain ⟨o, rfl, ok⟩ := op_at h2 hlen hwk
        have c0 := hcell 0 (by simp)
        have c1 := hcell 1 (by simp)
        have c2 := hcell 2 (by simp)
        have c3 := hcell 3 (by simp)
        rw [hadd] at c0 c1 c2 c3
        exact ⟨o, fun _ => ⟨rfl, block_lt_of_cell c0, ⟨by simpa using c0, by simpa using c1, by simpa using c2, by simpa using c3⟩, ok⟩⟩
      · exact ⟨⟨0, none, 0, [], 0, none, 0, []⟩, fun h => absurd h hk⟩
    have hf := fun k => Classical.choose_spec (key k)
    refine ⟨(List.range len).map fun k => Classical.choose (key k), by simp, ⟨fun k q hk => ?_⟩, .inr ⟨_, _, hd, by simp⟩⟩
    have hkl : k < len := by
      have := (List.getElem?_eq_some_iff.1 hk).1
      simpa using this
    rw [List.getElem?_map, List.getElem?_range hkl] at hk
    have hq := (Option.some.inj hk).symm
    subst hq
    obtain ⟨h1, h2, h3⟩ := hf k hkl
    exact ⟨b, off, by rw [h1], h2, h3⟩
theorem ops_in_len {H : Type} {d : DataW H} {len : Nat} (h : Reads d len) (hw : ∀ n ∈ d.weights Try.prog 57, n ≤ 140737488351232) : len ≤ 2199023255488 := by
  rcases h with h0 | ⟨es, sp, he, hl⟩
  · omega
  · have := hw ((es.length + sp.length) * Try.prog.bytesOf 67) (by rw [he]; simp only [DataW.weights, Try.underlying57]; exact List.mem_cons_self)
    rw [bytesO] at this
    omega
end Go.Proofs.Ytmcdohpeibipkaa
