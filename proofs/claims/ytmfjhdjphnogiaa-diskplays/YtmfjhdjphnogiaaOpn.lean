/- Slices that came in: puts, integers, bools. -/
import Derived.Test.YtmfjhdjphnogiaaPut
import Derived.Test.YtmfjhdjphnogiaaRows
import Derived.ProofKit
import Derived.OpenShut
import Derived.JoinedCond
import Derived.SizedLaws
import Derived.Deep.Slices
namespace Go.Proofs.Ytmfjhdjphnogiaa
set_option linter.unusedVariables false
set_option linter.unusedSimpArgs false
open Go.ChangeShapes Go.WideShapes Go.ChangeAt Go.RowKit
theorem own : ownKnob Try.prog.godebug = none := by kernel_rfl
theorem addr_add (b off j : Nat) : (⟨b, off, none⟩ : Addr).add j = ⟨b, off + j, none⟩ := by unfold Addr.add; split <;> simp_all
theorem wf64 {n : Int} (h : (Lit.int .i64 n).wf = true) : -9223372036854775808 ≤ n ∧ n ≤ 9223372036854775807 := by
  simpa [Lit.wf, IntKind.min, IntKind.max, IntKind.signed, IntKind.bits] using h
theorem wf8 {n : Int} (h : (Lit.int .u8 n).wf = true) : 0 ≤ n ∧ n ≤ 255 := by
  simpa [Lit.wf, IntKind.min, IntKind.max, IntKind.signed, IntKind.bits] using h
theorem bytesP : Try.prog.bytesOf 30 = 16 := by kernel_rfl
theorem bytesI : Try.prog.bytesOf 3 = 8 := by kernel_rfl
theorem bytesB : Try.prog.bytesOf 4 = 1 := by kernel_rfl
theorem cellsP : Try.prog.cellsOf 30 = 2 := by kernel_rfl
theorem cells3t : Try.prog.cellsOf 3 = 1 := by kernel_rfl
theorem cells5t : Try.prog.cellsOf 5 = 1 := by kernel_rfl
theorem cells4t : Try.prog.cellsOf 4 = 1 := by kernel_rfl
theorem undP : ∃ f0 f1 : Field, Try.prog.underlying 30 = some (.struct #[f0, f1]) ∧ (f0.type = 3 ∧ f1.type = 5) ∧ (f0.offset = 0 ∧ f1.offset = 1) := by
  refine ⟨_, _, Try.underlying30, ⟨rfl, rfl⟩, rfl, rfl⟩
/-- how long the slice reads -/
def Reads {H : Type} (d : DataW H) (len : Nat) : Prop := len = 0 ∨ ∃ es sp, d = .slice es sp ∧ es.length = len
set_option maxRecDepth 100000 in
theorem puts_in {H : Type} {enc : TypeId × Value → H} {W : World} {a : Option Addr} {len cap : Nat} {d : DataW H} {p : List MemPlace} (h : DataW.Trod enc Try.prog W 0 (fun _ => true) true 22 (.slice a len cap) d p) :
    ∃ L : List (Int × UInt8), L.length = len ∧ PIn W a L ∧ Reads d len := by
  obtain ⟨fuel, hf⟩ := h
  rcases Go.Deep.open_slice Try.underlying22 hf with ⟨hcs, _⟩ | ⟨x, l, c, m, n, D, Pl, hcs, _, hl, hm, hmm, hx, hel⟩
  · simp [Value.cells] at hcs
    obtain ⟨rfl, rfl, rfl⟩ := hcs
    exact ⟨[], rfl, ⟨fun k p hk => by simp at hk⟩, .inl rfl⟩
  · simp [Value.cells] at hcs
    obtain ⟨rfl, rfl, rfl⟩ := hcs
    have hmc : m = cap := by simpa using hmm
    have hd : d = .slice ((List.range len).map D) ((List.range (m - len)).map fun j => D (len + j)) := congrArg Prod.fst hx
    obtain ⟨b, off, spot⟩ := x
    have key : ∀ k, ∃ q : Int × UInt8, k < len → (spot = none ∧ b < W.heap.size ∧ W.cell? ⟨b, off + k * 2, none⟩ = some (.int .i64 q.1) ∧ W.cell? ⟨b, off + k * 2 + 1, none⟩ = some (.int .u8 (q.2.toNat : Int)) ∧ -9223372036854775808 ≤ q.1 ∧ q.1 ≤ 9223372036854775807) := by
      intro k
      by_cases hk : k < len
      · obtain ⟨cs', h1, h2⟩ := hel k (by omega)
        rw [cellsP] at h1
        obtain ⟨_, hlen, hcell⟩ := World.cells?_some h1
        obtain ⟨f0, f1, hu, ⟨t0, t1⟩, o0, o1⟩ := undP
        obtain ⟨xs, n', _, hxd, _, hxl, hfs⟩ := DataW.trod_struct hu h2
        match xs, hxl, cs', hlen with
        | [y0, y1], _, [v0, v1], _ =>
          have g0 := hfs 0 f0 rfl
          have g1 := hfs 1 f1 rfl
          simp [o0, o1, t0, t1, cells3t, cells5t] at g0 g1
          obtain ⟨z0, e0, _, hz0⟩ := DataW.trod_int Try.underlying3 g0
          obtain ⟨z1, e1, _, hz1⟩ := DataW.trod_int Try.underlying5 g1
          simp at e0 e1
          subst e0 e1
          have c0 := hcell 0 (by omega)
          have c1 := hcell 1 (by omega)
          have hspot : spot = none := by
            obtain ⟨cs0, h10, _⟩ := hel 0 (by omega)
            rw [cellsP] at h10
            obtain ⟨_, hlen0, hcell0⟩ := World.cells?_some h10
            match cs0, hlen0 with
            | [u0, u1], _ =>
              have q0 := hcell0 0 (by omega)
              simpa [Addr.add] using World.cell?_spot q0
          subst hspot
          have hadd : ∀ j i, ((⟨b, off, none⟩ : Addr).add j).add i = ⟨b, off + j + i, none⟩ := fun j i => by rw [addr_add, addr_add]
          rw [hadd] at c0 c1
          have hz := wf8 hz1
          refine ⟨(z0, UInt8.ofNat z1.toNat), fun _ => ⟨rfl, block_lt_of_cell c0, by simpa using c0, ?_, wf64 hz0⟩⟩
          have e8 : ((UInt8.ofNat z1.toNat).toNat : Int) = z1 := by
            rw [UInt8.toNat_ofNat', Nat.mod_eq_of_lt (by omega)]; omega
          rw [e8]
          simpa using c1
      · exact ⟨(0, 0), fun h => absurd h hk⟩
    have hf := fun k => Classical.choose_spec (key k)
    have hmap : ∀ k q, ((List.range len).map fun k => Classical.choose (key k))[k]? = some q → k < len ∧ q = Classical.choose (key k) := by
      intro k q hk
      have hkl : k < len := by
        have := (List.getElem?_eq_some_iff.1 hk).1
        simpa using this
      rw [List.getElem?_map, List.getElem?_range hkl] at hk
      exact ⟨hkl, (Option.some.inj hk).symm⟩
    refine ⟨(List.range len).map fun k => Classical.choose (key k), by simp, ⟨fun k q hk => ?_⟩, .inr ⟨_, _, hd, by simp⟩⟩
    obtain ⟨hk', rfl⟩ := hmap k q hk
    obtain ⟨h1, h2, h3, h4, h5⟩ := hf k hk'
    exact ⟨b, off, by rw [h1], h2, h3, h4, h5⟩
set_option maxRecDepth 100000 in
theorem ints_in {H : Type} {enc : TypeId × Value → H} {W : World} {a : Option Addr} {len cap : Nat} {d : DataW H} {p : List MemPlace} (h : DataW.Trod enc Try.prog W 0 (fun _ => true) true 23 (.slice a len cap) d p) :
    ∃ L : List Int, L.length = len ∧ IIn W a L ∧ Reads d len := by
  obtain ⟨fuel, hf⟩ := h
  rcases Go.Deep.open_slice Try.underlying23 hf with ⟨hcs, _⟩ | ⟨x, l, c, m, n, D, Pl, hcs, _, hl, hm, hmm, hx, hel⟩
  · simp [Value.cells] at hcs
    obtain ⟨rfl, rfl, rfl⟩ := hcs
    exact ⟨[], rfl, IIn.nil _ _, .inl rfl⟩
  · simp [Value.cells] at hcs
    obtain ⟨rfl, rfl, rfl⟩ := hcs
    have hmc : m = cap := by simpa using hmm
    have hd : d = .slice ((List.range len).map D) ((List.range (m - len)).map fun j => D (len + j)) := congrArg Prod.fst hx
    obtain ⟨b, off, spot⟩ := x
    have key : ∀ k, ∃ q : Int, k < len → (spot = none ∧ b < W.heap.size ∧ W.cell? ⟨b, off + k, none⟩ = some (.int .i64 q) ∧ -9223372036854775808 ≤ q ∧ q ≤ 9223372036854775807) := by
      intro k
      by_cases hk : k < len
      · obtain ⟨cs', h1, h2⟩ := hel k (by omega)
        rw [cells3t] at h1
        obtain ⟨_, hlen, hcell⟩ := World.cells?_some h1
        obtain ⟨z0, e0, _, hz0⟩ := DataW.trod_int Try.underlying3 h2
        subst e0
        have c0 := hcell 0 (by simp)
        have hspot : spot = none := by
          obtain ⟨cs0, h10, _⟩ := hel 0 (by omega)
          rw [cells3t] at h10
          obtain ⟨_, hlen0, hcell0⟩ := World.cells?_some h10
          match cs0, hlen0 with
          | [u0], _ =>
            have q0 := hcell0 0 (by omega)
            simpa [Addr.add] using World.cell?_spot q0
        subst hspot
        rw [addr_add, addr_add] at c0
        exact ⟨z0, fun _ => ⟨rfl, block_lt_of_cell c0, by simpa using c0, wf64 hz0⟩⟩
      · exact ⟨0, fun h => absurd h hk⟩
    have hf := fun k => Classical.choose_spec (key k)
    refine ⟨(List.range len).map fun k => Classical.choose (key k), by simp, ⟨fun k q hk => ?_⟩, .inr ⟨_, _, hd, by simp⟩⟩
    have hkl : k < len := by
      have := (List.getElem?_eq_some_iff.1 hk).1
      simpa using this
    rw [List.getElem?_map, List.getElem?_range hkl] at hk
    have hq := (Option.some.inj hk).symm
    subst hq
    obtain ⟨h1, h2, h3, h4⟩ := hf k hkl
    exact ⟨b, off, by rw [h1], h2, h3, h4⟩
/-- the list that a slice of bools holds -/
structure BIn (w : World) (a : Option Addr) (l : List Bool) : Prop where
  get : ∀ (k : Nat) q, l[k]? = some q → ∃ b off, a = some ⟨b, off, none⟩ ∧ b < w.heap.size ∧ w.cell? ⟨b, off + k, none⟩ = some (.bool q)
theorem BIn.below {w w' : World} {a : Option Addr} {l : List Bool} (h : BIn w a l) (b : Below w.heap.size w w') : BIn w' a l := ⟨fun k p hk => by
  obtain ⟨c, off, h1, h2, h3⟩ := h.get k p hk
  exact ⟨c, off, h1, Nat.lt_of_lt_of_le h2 b.size, by rw [b.cell (p := ⟨c, _, none⟩) h2]; exact h3⟩⟩
set_option maxRecDepth 100000 in
theorem bools_in {H : Type} {enc : TypeId × Value → H} {W : World} {a : Option Addr} {len cap : Nat} {d : DataW H} {p : List MemPlace} (h : DataW.Trod enc Try.prog W 0 (fun _ => true) true 41 (.slice a len cap) d p) :
    ∃ L : List Bool, L.length = len ∧ BIn W a L ∧ Reads d len := by
  obtain ⟨fuel, hf⟩ := h
  rcases Go.Deep.open_slice Try.underlying41 hf with ⟨hcs, _⟩ | ⟨x, l, c, m, n, D, Pl, hcs, _, hl, hm, hmm, hx, hel⟩
  · simp [Value.cells] at hcs
    obtain ⟨rfl, rfl, rfl⟩ := hcs
    exact ⟨[], rfl, ⟨fun k p hk => by simp at hk⟩, .inl rfl⟩
  · simp [Value.cells] at hcs
    obtain ⟨rfl, rfl, rfl⟩ := hcs
    have hmc : m = cap := by simpa using hmm
    have hd : d = .slice ((List.range len).map D) ((List.range (m - len)).map fun j => D (len + j)) := congrArg Prod.fst hx
    obtain ⟨b, off, spot⟩ := x
    have key : ∀ k, ∃ q : Bool, k < len → (spot = none ∧ b < W.heap.size ∧ W.cell? ⟨b, off + k, none⟩ = some (.bool q)) := by
      intro k
      by_cases hk : k < len
      · obtain ⟨cs', h1, h2⟩ := hel k (by omega)
        rw [cells4t] at h1
        obtain ⟨_, hlen, hcell⟩ := World.cells?_some h1
        obtain ⟨z0, e0, _⟩ := DataW.trod_bool Try.underlying4 h2
        subst e0
        have c0 := hcell 0 (by simp)
        have hspot : spot = none := by
          obtain ⟨cs0, h10, _⟩ := hel 0 (by omega)
          rw [cells4t] at h10
          obtain ⟨_, hlen0, hcell0⟩ := World.cells?_some h10
          match cs0, hlen0 with
          | [u0], _ =>
            have q0 := hcell0 0 (by omega)
            simpa [Addr.add] using World.cell?_spot q0
        subst hspot
        rw [addr_add, addr_add] at c0
        exact ⟨z0, fun _ => ⟨rfl, block_lt_of_cell c0, by simpa using c0⟩⟩
      · exact ⟨false, fun h => absurd h hk⟩
    have hf := fun k => Classical.choose_spec (key k)
    refine ⟨(List.range len).map fun k => Classical.choose (key k), by simp, ⟨fun k q hk => ?_⟩, .inr ⟨_, _, hd, by simp⟩⟩
    have hkl : k < len := by
      have := (List.getElem?_eq_some_iff.1 hk).1
      simpa using this
    rw [List.getElem?_map, List.getElem?_range hkl] at hk
    have hq := (Option.some.inj hk).symm
    subst hq
    obtain ⟨h1, h2, h3⟩ := hf k hkl
    exact ⟨b, off, by rw [h1], h2, h3⟩
theorem bulk_pos {H : Type} (d : DataW H) : 1 ≤ Rows.uptoBulk d := by
  cases d with
  | lit l => cases l <;> simp [Rows.uptoBulk]
  | _ => simp [Rows.uptoBulk]
theorem bulk_len {H : Type} : ∀ es : List (DataW H), es.length ≤ Rows.uptoBulkAll es
  | [] => by simp
  | d :: r => by
    have h1 := bulk_pos d
    have h2 := bulk_len r
    simp [Rows.uptoBulkAll]
    omega
theorem Reads.bulk {H : Type} {d : DataW H} {len : Nat} (h : Reads d len) : len ≤ Rows.uptoBulk d := by
  rcases h with rfl | ⟨es, sp, rfl, rfl⟩
  · exact Nat.zero_le _
  · have := bulk_len es
    simp [Rows.uptoBulk]
    omega
end Go.Proofs.Ytmfjhdjphnogiaa
