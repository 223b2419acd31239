/- Lists of texts as they come in; the root of any of them. -/
import Derived.Test.YtlpiokepagkahaaDoorHld
namespace Go.Proofs.YtlpiokepagkahaaDoor
set_option linter.unusedVariables false
set_option linter.unusedSimpArgs false
open Go.RowKit
def TextsIn (w : World) (a : Option Addr) (n : Nat) (t : Nat → ByteArray) : Prop := ∀ k, k < n → ∃ b off, a = some ⟨b, off, none⟩ ∧ w.cell? ⟨b, off + k, none⟩ = some (.string (t k))
theorem TextsIn.at {w : World} {a : Option Addr} {n : Nat} {t : Nat → ByteArray} (h : TextsIn w a n t) (hn : 0 < n) : ∃ b off, a = some ⟨b, off, none⟩ ∧ TextsAt w b off n t ∧ b < w.heap.size := by
  obtain ⟨b, off, rfl, h0⟩ := h 0 hn
  refine ⟨b, off, rfl, fun k hk => ?_, block_lt_of_cell h0⟩
  obtain ⟨b', off', e, hk'⟩ := h k hk
  injection e with e
  injection e with e1 e2
  subst e1 e2
  exact hk'
theorem TextsAt.sub {w : World} {b off n : Nat} {t : Nat → ByteArray} (h : TextsAt w b off n t) (k m : Nat) (hm : k + m ≤ n) : TextsAt w b (off + k) m (fun i => t (k + i)) := fun i hi => by
  have := h (k + i) (by omega)
  rw [← Nat.add_assoc] at this
  exact this
theorem TextsAt.first {w : World} {b off n : Nat} {t : Nat → ByteArray} (h : TextsAt w b off n t) (m : Nat) (hm : m ≤ n) : TextsAt w b off m t := fun i hi => h i (by omega)
theorem TextsAt.below {B : Nat} {w w' : World} {b off n : Nat} {t : Nat → ByteArray} (h : TextsAt w b off n t) (bq : Below B w w') (hb : b < B) : TextsAt w' b off n t := fun k hk => by
  rw [bq.cell (p := ⟨b, off + k, none⟩) hb]; exact h k hk
theorem root_any (b off n cap : Nat) (t : Nat → ByteArray) {w : World} (hK : KIn w) (hT : TextsAt w b off n t) (hz : ∀ k, k < n → (t k).size < 1152921504606845000) (hn : n ≤ 8796093022208) :
    Calls Tryd.prog 8 #[.slice (some ⟨b, off, none⟩) n cap] w fun e w' => e = .returned (.agg (hv (rootOf n t)).toArray) ∧ Below w.heap.size w w' := by
  rcases Nat.eq_zero_or_pos n with rfl | h0
  · exact root_none _ cap t w hK
  · exact root_some b off n cap t w hK hT hz hn h0
theorem rootOf_one (t : Nat → ByteArray) : rootOf 1 t = leaf (t 0).data.toList := by
  unfold rootOf; rw [if_neg (by omega), Tree.root_one node _ (by omega)]; rfl
theorem rootOf_congr {n : Nat} {t u : Nat → ByteArray} (e : ∀ k, k < n → t k = u k) : rootOf n t = rootOf n u := by
  unfold rootOf
  by_cases h : n = 0
  · rw [if_pos h, if_pos h]
  · rw [if_neg h, if_neg h]
    exact Tree.root_congr node n (by omega) (fun k hk => by unfold leaves; rw [e k hk])
theorem rootOf_split (j n : Nat) (t : Nat → ByteArray) (h1 : 2 ^ j < n) (h2 : n ≤ 2 ^ (j + 1)) : rootOf n t = node (rootOf (2 ^ j) t) (rootOf (n - 2 ^ j) (fun i => t (2 ^ j + i))) := by
  have hp : 0 < 2 ^ j := Nat.two_pow_pos j
  unfold rootOf
  rw [if_neg (by omega), if_neg (by omega), if_neg (by omega), Tree.root_split node j n (leaves t) h1 h2]
  rfl
noncomputable def slT (v : Value) (a b c : Option Value) : Sem Value := Instr.sliceAt 22 v a b c
theorem sl22 (v : Value) (a b c : Option Value) : Instr.sliceAt 22 v a b c = slT v a b c := rfl
theorem slice_to (b off n cap k : Nat) (h : k ≤ cap) (w : World) : (slT (.slice (some ⟨b, off, none⟩) n cap) none (some (.int .i64 (k : Int))) none).run Tryd.prog w = .ok (.slice (some ⟨b, off, none⟩) k cap) w := by
  unfold slT
  have i1 : (0 : Int) ≤ (k : Int) := by omega
  have i2 : (k : Int) ≤ (cap : Int) := by omega
  simp [Instr.sliceAt, go_sem, Tryd.underlying22, i1, i2, h]
theorem slice_from (b off n cap k : Nat) (h : k < n) (hc : n ≤ cap) (w : World) : (slT (.slice (some ⟨b, off, none⟩) n cap) (some (.int .i64 (k : Int))) none none).run Tryd.prog w = .ok (.slice (some ⟨b, off + k, none⟩) (n - k) (cap - k)) w := by
  unfold slT
  have i1 : (0 : Int) ≤ (k : Int) := by omega
  have i2 : (n : Int) ≤ (cap : Int) := by omega
  have i3 : (k : Int) ≤ (n : Int) := by omega
  have i4 : ¬ cap - k = 0 := by omega
  have i5 : ¬ cap ≤ k := by omega
  have i6 : k ≤ n := by omega
  simp [Instr.sliceAt, go_sem, Tryd.underlying22, i1, i2, i3, i4, i5, i6, hc]
  omega
/-- What a law's own walk keeps: the table, what was there, one hash of its own. -/
structure KB (w : World) (O : Nat) (x : Hs) (w' : World) : Prop where
  k : KIn w'
  bel : Below w.heap.size w w'
  r : w'.rangeAt O 0 (hv x)
theorem KB.next {w w2 w3 : World} {O : Nat} {x : Hs} (h : KB w O x w2) (bq : Below w2.heap.size w2 w3) : KB w O x w3 := ⟨h.k.seq bq, below_seq h.bel bq, rangeNext h.r bq⟩
theorem KB.both {w w2 : World} {O : Nat} {x : Hs} (h : KB w O x w2) : KB w O x w2 ∧ w2.rangeAt O 0 (hv x) := ⟨h, h.r⟩
theorem KB.drew {w w2 : World} {O : Nat} {x : Hs} (h : KB w O x w2) : KB w O x w2.drew := h.next ((Below.refl _ _).drew)
def strL (t : Nat → ByteArray) (k : Nat) : List Value := (List.range k).map fun i => .string (t i)
theorem strL_length (t : Nat → ByteArray) (k : Nat) : (strL t k).length = k := by simp [strL]
theorem strL_get (t : Nat → ByteArray) (k i : Nat) (h : i < k) : (strL t k)[i]? = some (.string (t i)) := by simp [strL, h]
theorem strL_one (t : Nat → ByteArray) (k : Nat) : ∀ u ∈ strL t k, u.oneCell' = true := by
  intro u hu; simp only [strL, List.mem_map] at hu; obtain ⟨j, _, rfl⟩ := hu; rfl
theorem strL_news {w : World} {b off k : Nat} {t : Nat → ByteArray} (h : TextsAt w b off k t) : ∀ j u, (strL t k)[j]? = some u → w.cell? ((⟨b, off, none⟩ : Addr).add j) = some u := fun j u hu => by
  have hj : j < k := by have := (List.getElem?_eq_some_iff.1 hu).1; rw [strL_length] at this; exact this
  rw [strL_get t k j hj] at hu
  rw [Addr.add_mid, h j hj]; exact hu
theorem info9x : ∃ (i : TypeInfo) (z : Value), Tryd.prog.info? 9 = some i ∧ i.zero = some z ∧ i.size = 1 ∧ i.bytes = 16 ∧ z.cells.size = 1 := by
  have h : ((Tryd.prog.info? 9).map fun i => (i.size, i.bytes, i.zero.map fun z => z.cells.size)) = some (1, 16, some 1) := by kernel_rfl
  cases hi : Tryd.prog.info? 9 with
  | none => rw [hi] at h; cases h
  | some i =>
    rw [hi] at h
    simp only [Option.map_some, Option.some.injEq, Prod.mk.injEq] at h
    cases hz : i.zero with
    | none => rw [hz] at h; exact absurd h.2.2 (by simp)
    | some z =>
      rw [hz] at h
      exact ⟨i, z, rfl, hz, h.1, h.2.1, by simpa using h.2.2⟩
/-- The texts of an owned row. -/
theorem own_texts {w : World} {base g n cap : Nat} {xs : List Value} {t : Nat → ByteArray} (h : w.ownsRow base 9 1 (.slice (some ⟨g, 0, none⟩) n cap) n xs) (hx : ∀ i, i < n → xs[i]? = some (.string (t i))) : TextsAt w g 0 n t := fun k hk => by
  rw [Nat.zero_add, h.cellAt k (by omega)]; exact hx k hk
theorem KB.drewN {w w2 : World} {O : Nat} {x : Hs} (h : KB w O x w2) (q : Nat) : KB w O x (w2.drewN q) := h.next ⟨rfl, rfl, rfl, Nat.le_refl _, fun _ _ => rfl⟩
theorem KB.grow {w W W' : World} {O : Nat} {x : Hs} {row : Option Nat} (h : KB w O x W) (g : W.grownBy W' row) (hr : ∀ k, row = some k → w.heap.size ≤ k ∧ k ≠ O) (h0 : 0 < w.heap.size) (hK : KIn w) : KB w O x W' := by
  have b := h.bel.grown g h.bel.size (fun k hk => (hr k hk).1)
  exact ⟨hK.below b h0, b, grow_range g h.r (fun e => (hr O e.symm).2 rfl)⟩
theorem KB.lt {w W : World} {O : Nat} {x : Hs} (h : KB w O x W) : O < W.heap.size := block_lt_of_cell (h.r 0 _ (hv_get _ 0 (by omega)))
theorem news_str (w : World) (s : ByteArray) (T : TypeId) : ∀ j u, ([.string s] : List Value)[j]? = some u → (w.alloc (.cells #[.string s] T)).cell? ((⟨w.heap.size, 0, none⟩ : Addr).add j) = some u := fun j u hu =>
  World.news_of_block (cs := #[.string s]) (heap_alloc_new w (.cells #[.string s] T)) j u hu
/-- A list with one text more. -/
def grownT (t : Nat → ByteArray) (K : Nat) (s : ByteArray) (i : Nat) : ByteArray := if i < K then t i else s
theorem grown_get (t : Nat → ByteArray) (K : Nat) (s : ByteArray) (i : Nat) (hi : i < K + 1) : (strL t K ++ [.string s])[i]? = some (.string (grownT t K s i)) := by
  unfold grownT
  by_cases h : i < K
  · rw [if_pos h, List.getElem?_append_left (by rw [strL_length]; exact h), strL_get t K i h]
  · rw [if_neg h, List.getElem?_append_right (by rw [strL_length]; omega), strL_length]
    have : i - K = 0 := by omega
    rw [this]; rfl
theorem rootOf_grown (j K : Nat) (t : Nat → ByteArray) (s : ByteArray) (hK : K = 2 ^ j) : rootOf (K + 1) (grownT t K s) = node (rootOf K t) (leaf s.data.toList) := by
  have hp : 0 < 2 ^ j := Nat.two_pow_pos j
  have := rootOf_split j (K + 1) (grownT t K s) (by omega) (by rw [Nat.pow_succ]; omega)
  rw [this, ← hK]
  have e1 : rootOf K (grownT t K s) = rootOf K t := rootOf_congr fun k hk => by unfold grownT; rw [if_pos hk]
  have e2 : K + 1 - K = 1 := by omega
  rw [e1, e2, rootOf_one]
  congr 1
  unfold grownT
  rw [if_neg (by omega)]
end Go.Proofs.YtlpiokepagkahaaDoor
