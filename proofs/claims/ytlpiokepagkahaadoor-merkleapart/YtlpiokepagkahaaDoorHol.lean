/- MerkleHolds: what its walk needs. -/
import Derived.Test.YtlpiokepagkahaaDoorTxt
import Derived.Deep.DeepCutAuto
import Derived.Deep.QuietTactic
namespace Go.Proofs.YtlpiokepagkahaaDoor
set_option linter.unusedVariables false
set_option linter.unusedSimpArgs false
open Go.RowKit
theorem TextsIn.next {w w' : World} {a : Option Addr} {n : Nat} {t : Nat → ByteArray} (h : TextsIn w a n t) (bq : Below w.heap.size w w') : TextsIn w' a n t := fun k hk => by
  obtain ⟨b, off, e, hc⟩ := h k hk
  exact ⟨b, off, e, by rw [bq.cell (p := ⟨b, off + k, none⟩) (block_lt_of_cell hc)]; exact hc⟩
theorem TextsIn.first {w : World} {a : Option Addr} {n : Nat} {t : Nat → ByteArray} (h : TextsIn w a n t) (m : Nat) (hm : m ≤ n) : TextsIn w a m t := fun k hk => h k (by omega)
theorem root_in {w : World} {a : Option Addr} {n : Nat} (cap : Nat) {t : Nat → ByteArray} (hK : KIn w) (hT : TextsIn w a n t) (hz : ∀ k, k < n → (t k).size < 1152921504606845000) (hn : n ≤ 8796093022208) :
    Calls Tryd.prog 8 #[.slice a n cap] w fun e w' => e = .returned (.agg (hv (rootOf n t)).toArray) ∧ Below w.heap.size w w' := by
  rcases Nat.eq_zero_or_pos n with rfl | h0
  · exact root_none _ cap t w hK
  · obtain ⟨b, off, rfl, hTA, _⟩ := hT.at h0
    exact root_some b off n cap t w hK hTA hz hn h0
noncomputable def pathOf (n : Nat) (t : Nat → ByteArray) (i : Nat) : List Hs := Tree.path node n (leaves t) i
theorem path_in {w : World} {a : Option Addr} {n i : Nat} (cap : Nat) {t : Nat → ByteArray} (hK : KIn w) (hT : TextsIn w a n t) (hz : ∀ k, k < n → (t k).size < 1152921504606845000) (hn : n ≤ 8796093022208) (hi : i < n) :
    Calls Tryd.prog 9 #[.slice a n cap, .int .i64 (i : Int)] w fun e w' => ∃ v, e = .returned (.tuple #[v, .int .i64 0]) ∧ w'.ownsRow w.heap.size 23 32 v (pathOf n t i).length (flatL (pathOf n t i)) ∧ Below w.heap.size w w' := by
  obtain ⟨b, off, rfl, hTA, _⟩ := hT.at (by omega)
  exact path_some b off n cap i t w hK hTA hz hn hi
/-- An owned row of hashes as a path. -/
theorem own_path {w : World} {base : Nat} {v : Value} {l : List Hs} (h : w.ownsRow base 23 32 v l.length (flatL l)) :
    ∃ (a : Option Addr) (cap : Nat), v = .slice a l.length cap ∧ l.length ≤ cap ∧ cap ≤ 9223372036854775807 ∧ PathAt w a l ∧ ((a = none ∧ cap = 0 ∧ l = []) ∨ ∃ g, a = some ⟨g, 0, none⟩ ∧ base ≤ g ∧ g < w.heap.size) := by
  rcases h.2 with ⟨h1, h2⟩ | ⟨g, cap, cur, h1, h2, h3, h4, h5, h6, h7⟩
  · refine ⟨none, 0, by rw [h2]; exact h1, by omega, by omega, fun k x hk => ?_, .inl ⟨rfl, rfl, List.length_eq_zero_iff.1 h2⟩⟩
    rw [List.length_eq_zero_iff.1 h2] at hk; simp at hk
  · refine ⟨some ⟨g, 0, none⟩, cap, h1, h4, by unfold maxLen at h5; omega, fun k x hk => ?_, .inr ⟨g, rfl, h2, lt_of_row h3⟩⟩
    obtain ⟨g', cap', e, _, hr⟩ := own_range h hk
    rw [h1] at e
    injection e with e1 e2 e3
    injection e1 with e1
    injection e1 with e1
    subst e1
    exact ⟨g, 0, rfl, by rw [Nat.zero_add]; exact hr⟩
theorem PathAt.take {w : World} {a : Option Addr} {l : List Hs} (h : PathAt w a l) (m : Nat) : PathAt w a (l.take m) := fun k x hk => h k x (by
  rw [List.getElem?_take] at hk
  split at hk
  · exact hk
  · cases hk)
theorem slice_to25 (b off n cap k : Nat) (h : k ≤ cap) (w : World) : (slP (.slice (some ⟨b, off, none⟩) n cap) none (some (.int .i64 (k : Int))) none).run Tryd.prog w = .ok (.slice (some ⟨b, off, none⟩) k cap) w := by
  unfold slP
  have i1 : (0 : Int) ≤ (k : Int) := by omega
  have i2 : (k : Int) ≤ (cap : Int) := by omega
  simp [Instr.sliceAt, go_sem, Tryd.underlying25, i1, i2, h]
theorem told_path (n : Nat) (t : Nat → ByteArray) (i : Nat) (hi : i < n) : told (rootOf n t) n i (leaf (t i).data.toList) (pathOf n t i) = true := by
  unfold told pathOf rootOf
  rw [if_neg (by omega)]
  have := Tree.lead_path node n (leaves t) i hi
  unfold leaves at this ⊢
  rw [this]
  exact eqb_self _
theorem told_len (r : Hs) (n : Nat) (t : Nat → ByteArray) (i : Nat) (x : Hs) (p : List Hs) (h : p.length ≠ (pathOf n t i).length) : told r n i x p = false := by
  unfold told
  unfold pathOf at h
  rw [Tree.path_length] at h
  rw [Tree.lead_other node n i x p h]
theorem pathOf_len (n : Nat) (t : Nat → ByteArray) (i : Nat) (hn : n ≤ 300) : (pathOf n t i).length ≤ 9 := by
  unfold pathOf; rw [Tree.path_length]; exact Tree.steps_le 9 n i (by omega)
/-- What the walk keeps: the table, what was there, the root and the hash that was handed in. -/
structure HB (w : World) (Rb Mb : Nat) (r g : Hs) (w' : World) : Prop where
  k : KIn w'
  bel : Below w.heap.size w w'
  rr : w'.rangeAt Rb 0 (hv r)
  rm : w'.rangeAt Mb 0 (hv g)
theorem HB.next {w w2 w3 : World} {Rb Mb : Nat} {r g : Hs} (h : HB w Rb Mb r g w2) (bq : Below w2.heap.size w2 w3) : HB w Rb Mb r g w3 := ⟨h.k.seq bq, below_seq h.bel bq, rangeNext h.rr bq, rangeNext h.rm bq⟩
theorem HB.drew {w w2 : World} {Rb Mb : Nat} {r g : Hs} (h : HB w Rb Mb r g w2) : HB w Rb Mb r g w2.drew := h.next ((Below.refl _ _).drew)
theorem HB.drewN {w w2 : World} {Rb Mb : Nat} {r g : Hs} (h : HB w Rb Mb r g w2) (q : Nat) : HB w Rb Mb r g (w2.drewN q) := h.next ⟨rfl, rfl, rfl, Nat.le_refl _, fun _ _ => rfl⟩
theorem HB.lt {w W : World} {Rb Mb : Nat} {r g : Hs} (h : HB w Rb Mb r g W) : Rb < W.heap.size ∧ Mb < W.heap.size := ⟨block_lt_of_cell (h.rr 0 _ (hv_get _ 0 (by omega))), block_lt_of_cell (h.rm 0 _ (hv_get _ 0 (by omega)))⟩
theorem HB.grow {w W W' : World} {Rb Mb : Nat} {r g : Hs} {row : Option Nat} (h : HB w Rb Mb r g W) (gr : W.grownBy W' row) (hr : ∀ k, row = some k → w.heap.size ≤ k ∧ k ≠ Rb ∧ k ≠ Mb) (hK : KIn w) : HB w Rb Mb r g W' := by
  have b := h.bel.grown gr h.bel.size (fun k hk => (hr k hk).1)
  exact ⟨hK.below b hK.lt, b, grow_range gr h.rr (fun e => (hr Rb e.symm).2.1 rfl), grow_range gr h.rm (fun e => (hr Mb e.symm).2.2 rfl)⟩
theorem flatL_one (l : List Hs) : ∀ u ∈ flatL l, u.oneCell' = true := fun u hu => by
  unfold flatL at hu
  obtain ⟨x, _, hx⟩ := List.mem_flatMap.1 hu
  exact hv_one x u hx
theorem own_news {w : World} {base g n cap : Nat} {l : List Hs} (h : w.ownsRow base 23 32 (.slice (some ⟨g, 0, none⟩) n cap) n (flatL l)) : ∀ j u, (flatL l)[j]? = some u → w.cell? ((⟨g, 0, none⟩ : Addr).add j) = some u := h.cells rfl
end Go.Proofs.YtlpiokepagkahaaDoor
