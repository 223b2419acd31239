import Derived.Test.YtghdgddpdamhcaaGreatMath
/- Bits of a block of the bitmap: no model. -/
namespace Go.Proofs.YtghdgddpdamhcaaGreat
set_option linter.unusedVariables false
set_option linter.unusedSimpArgs false
/-- bit k of a block -/
def bt (t : ByteArray) (k : Nat) : Bool := (t.data.toList.getD (k / 8) 0).toNat.testBit (k % 8)
def flipL (l : List UInt8) (k : Nat) : List UInt8 := l.set (k / 8) (l.getD (k / 8) 0 ^^^ ((1 : UInt8) <<< (k % 8).toUInt8))
def flip1 (t : ByteArray) (k : Nat) : ByteArray := ⟨(flipL t.data.toList k).toArray⟩
theorem flip1_size (t : ByteArray) (k : Nat) : (flip1 t k).size = t.size := by
  show (flipL t.data.toList k).toArray.size = t.data.size
  simp [flipL]
theorem one_shift (i : Nat) (hi : i < 8) (j : Nat) : ((1 : UInt8) <<< i.toUInt8).toNat.testBit j = decide (j = i) := by
  have : i = 0 ∨ i = 1 ∨ i = 2 ∨ i = 3 ∨ i = 4 ∨ i = 5 ∨ i = 6 ∨ i = 7 := by omega
  rcases this with rfl | rfl | rfl | rfl | rfl | rfl | rfl | rfl
  · show Nat.testBit (2 ^ 0) j = _; rw [Nat.testBit_two_pow]; exact decide_eq_decide.2 eq_comm
  · show Nat.testBit (2 ^ 1) j = _; rw [Nat.testBit_two_pow]; exact decide_eq_decide.2 eq_comm
  · show Nat.testBit (2 ^ 2) j = _; rw [Nat.testBit_two_pow]; exact decide_eq_decide.2 eq_comm
  · show Nat.testBit (2 ^ 3) j = _; rw [Nat.testBit_two_pow]; exact decide_eq_decide.2 eq_comm
  · show Nat.testBit (2 ^ 4) j = _; rw [Nat.testBit_two_pow]; exact decide_eq_decide.2 eq_comm
  · show Nat.testBit (2 ^ 5) j = _; rw [Nat.testBit_two_pow]; exact decide_eq_decide.2 eq_comm
  · show Nat.testBit (2 ^ 6) j = _; rw [Nat.testBit_two_pow]; exact decide_eq_decide.2 eq_comm
  · show Nat.testBit (2 ^ 7) j = _; rw [Nat.testBit_two_pow]; exact decide_eq_decide.2 eq_comm
theorem bt_flip {t : ByteArray} {k : Nat} (hk : k / 8 < t.size) (j : Nat) : bt (flip1 t k) j = (bt t j ^^ decide (j = k)) := by
  have hl : k / 8 < t.data.toList.length := by rw [Array.length_toList]; exact hk
  show ((flipL t.data.toList k).toArray.toList.getD (j / 8) 0).toNat.testBit (j % 8) = _
  unfold bt flipL
  rw [List.toList_toArray]
  by_cases e : k / 8 = j / 8
  · rw [← e]
    have : (t.data.toList.set (k / 8) (t.data.toList.getD (k / 8) 0 ^^^ ((1 : UInt8) <<< (k % 8).toUInt8))).getD (k / 8) 0 = t.data.toList.getD (k / 8) 0 ^^^ ((1 : UInt8) <<< (k % 8).toUInt8) := by
      rw [List.getD_eq_getElem?_getD, List.getElem?_set_self hl]; rfl
    rw [this, UInt8.toNat_xor, Nat.testBit_xor, one_shift (k % 8) (by omega)]
    congr 1
    exact decide_eq_decide.2 ⟨fun h => by omega, fun h => by omega⟩
  · have : (t.data.toList.set (k / 8) (t.data.toList.getD (k / 8) 0 ^^^ ((1 : UInt8) <<< (k % 8).toUInt8))).getD (j / 8) 0 = t.data.toList.getD (j / 8) 0 := by
      rw [List.getD_eq_getElem?_getD, List.getElem?_set_ne e, ← List.getD_eq_getElem?_getD]
    rw [this, decide_eq_false (by intro h; subst h; exact e rfl), Bool.xor_false]
def flipA (t : ByteArray) : List Nat → ByteArray
  | [] => t
  | k :: r => flipA (flip1 t k) r
theorem flipA_size : ∀ (l : List Nat) (t : ByteArray), (flipA t l).size = t.size
  | [], _ => rfl
  | k :: r, t => by rw [flipA, flipA_size r, flip1_size]
theorem flipA_snoc : ∀ (l : List Nat) (t : ByteArray) (k : Nat), flipA t (l ++ [k]) = flip1 (flipA t l) k
  | [], _, _ => rfl
  | a :: r, t, k => by rw [List.cons_append, flipA, flipA, flipA_snoc r]
theorem bt_flipA : ∀ {l : List Nat} {t : ByteArray}, l.Nodup → (∀ k ∈ l, k / 8 < t.size) → ∀ j, bt (flipA t l) j = (bt t j ^^ decide (j ∈ l))
  | [], t, _, _, j => by simp [flipA]
  | k :: r, t, hn, hl, j => by
    obtain ⟨h1, h2⟩ := List.nodup_cons.1 hn
    rw [flipA, bt_flipA h2 (fun x hx => by rw [flip1_size]; exact hl x (List.mem_cons_of_mem _ hx)), bt_flip (hl k List.mem_cons_self)]
    by_cases e : j = k
    · subst e; simp [h1]
    · simp [e]
/-- the free blocks from a on, below n, rising -/
def frees (t : ByteArray) (a n : Nat) : List Nat := (List.range n).filter fun k => decide (a ≤ k) && !bt t k
theorem mem_frees {t : ByteArray} {a n k : Nat} : k ∈ frees t a n ↔ k < n ∧ a ≤ k ∧ bt t k = false := by
  unfold frees; simp [List.mem_filter]
theorem frees_rise (t : ByteArray) (a n : Nat) : (frees t a n).Pairwise (· < ·) := List.Pairwise.filter _ List.pairwise_lt_range
theorem frees_nodup (t : ByteArray) (a n : Nat) : (frees t a n).Nodup := (frees_rise t a n).imp (fun h => by omega)
theorem frees_len (t : ByteArray) (a n : Nat) : (frees t a n).length ≤ n - a := by
  have h1 : (frees t a n).length ≤ ((List.range n).filter fun k => decide (a ≤ k)).length := by
    unfold frees
    have : (List.range n).filter (fun k => decide (a ≤ k) && !bt t k) = ((List.range n).filter fun k => decide (a ≤ k)).filter fun k => !bt t k := by
      rw [List.filter_filter]; congr 1; funext k; exact Bool.and_comm _ _
    rw [this]; exact List.length_filter_le _ _
  have h2 : ((List.range n).filter fun k => decide (a ≤ k)).length = n - a := by
    clear h1
    induction n with
    | zero => simp
    | succ n ih =>
      rw [List.range_succ, List.filter_append, List.length_append, ih]
      by_cases h : a ≤ n
      · simp [h]; omega
      · simp [h]; omega
  omega
theorem frees_yes {t : ByteArray} {a k : Nat} (h1 : a ≤ k) (h2 : bt t k = false) : frees t a (k + 1) = frees t a k ++ [k] := by
  unfold frees; rw [List.range_succ, List.filter_append]; simp [h1, h2]
theorem frees_no {t : ByteArray} {a k : Nat} (h : k < a ∨ bt t k = true) : frees t a (k + 1) = frees t a k := by
  unfold frees; rw [List.range_succ, List.filter_append]
  rcases h with h | h
  · have : ¬ a ≤ k := by omega
    simp [this]
  · simp [h]
/-- the free blocks below k, of m -/
def fm (t : ByteArray) (a m k : Nat) : List Nat := frees t a (min k m)
theorem fm_zero (t : ByteArray) (a m : Nat) : fm t a m 0 = [] := by unfold fm; rw [Nat.zero_min]; rfl
theorem fm_yes {t : ByteArray} {a m k : Nat} (h1 : a ≤ k) (h2 : k < m) (h3 : bt t k = false) : fm t a m (k + 1) = fm t a m k ++ [k] := by
  unfold fm; rw [show min (k + 1) m = k + 1 by omega, show min k m = k by omega]; exact frees_yes h1 h3
theorem fm_no {t : ByteArray} {a m k : Nat} (h : bt t k = true ∨ k < a ∨ m ≤ k) : fm t a m (k + 1) = fm t a m k := by
  unfold fm
  by_cases hm : m ≤ k
  · rw [show min (k + 1) m = m by omega, show min k m = m by omega]
  · rw [show min (k + 1) m = k + 1 by omega, show min k m = k by omega]
    exact frees_no (by rcases h with h | h | h; exact .inr h; exact .inl h; omega)
theorem fm_all (t : ByteArray) (a m k : Nat) (h : m ≤ k) : fm t a m k = frees t a m := by unfold fm; rw [show min k m = m by omega]
theorem frees_split (t : ByteArray) (a : Nat) {k m : Nat} (h : k ≤ m) : ∃ r, frees t a m = frees t a k ++ r := by
  unfold frees
  obtain ⟨d, rfl⟩ := Nat.exists_eq_add_of_le h
  rw [List.range_add, List.filter_append]
  exact ⟨_, rfl⟩
theorem fm_split (t : ByteArray) (a m k : Nat) : ∃ r, frees t a m = fm t a m k ++ r := frees_split t a (by omega)
end Go.Proofs.YtghdgddpdamhcaaGreat

/- How many blocks are free when some bits are turned over: no model. -/
namespace Go.Proofs.YtghdgddpdamhcaaGreat
set_option linter.unusedVariables false
set_option linter.unusedSimpArgs false
theorem filter_two {α : Type} (p : α → Bool) : ∀ l : List α, (l.filter p).length + (l.filter fun k => !p k).length = l.length
  | [] => rfl
  | a :: r => by
    have := filter_two p r
    cases h : p a <;> simp [List.filter_cons, h] <;> omega
theorem frees_congr {t t' : ByteArray} {a m : Nat} (h : ∀ k, a ≤ k → k < m → bt t k = bt t' k) : frees t a m = frees t' a m := by
  unfold frees
  apply List.filter_congr
  intro k hk
  have := List.mem_range.1 hk
  by_cases e : a ≤ k
  · rw [h k e this]
  · simp [e]
theorem frees_flip {t : ByteArray} {a m : Nat} {l : List Nat} (hn : l.Nodup) (hs : ∀ k ∈ l, k / 8 < t.size) (hf : ∀ k ∈ l, k ∈ frees t a m) : (frees (flipA t l) a m).length + l.length = (frees t a m).length := by
  have e1 : frees (flipA t l) a m = (frees t a m).filter fun k => decide (k ∉ l) := by
    unfold frees
    rw [List.filter_filter]
    apply List.filter_congr
    intro k hk
    rw [bt_flipA hn hs]
    by_cases h1 : k ∈ l
    · have h2 := (mem_frees.1 (hf k h1)).2.2
      simp [h1, h2]
    · cases bt t k <;> simp [h1]
  have e2 : ((frees t a m).filter fun k => decide (k ∈ l)).length = l.length := by
    apply List.Perm.length_eq
    rw [List.perm_ext_iff_of_nodup ((frees_nodup t a m).filter _) hn]
    intro k
    rw [List.mem_filter]
    constructor
    · intro h; exact of_decide_eq_true h.2
    · intro h; exact ⟨hf k h, decide_eq_true h⟩
  have e3 := filter_two (fun k => decide (k ∉ l)) (frees t a m)
  rw [e1]
  have e4 : (fun k => !decide (k ∉ l)) = fun k => decide (k ∈ l) := by funext k; by_cases h : k ∈ l <;> simp [h]
  rw [e4] at e3
  omega
theorem flip_back {t : ByteArray} {l : List Nat} (hn : l.Nodup) (hs : ∀ k ∈ l, k / 8 < t.size) (j : Nat) : bt (flipA (flipA t l) l) j = bt t j := by
  rw [bt_flipA hn (fun k hk => by rw [flipA_size]; exact hs k hk), bt_flipA hn hs]
  cases bt t j <;> cases decide (j ∈ l) <;> rfl
theorem frees_unflip {t : ByteArray} {a m : Nat} {l : List Nat} (hn : l.Nodup) (hs : ∀ k ∈ l, k / 8 < t.size) (hu : ∀ k ∈ l, a ≤ k ∧ k < m ∧ bt t k = true) : (frees (flipA t l) a m).length = (frees t a m).length + l.length := by
  have h := frees_flip (t := flipA t l) (a := a) (m := m) hn (fun k hk => by rw [flipA_size]; exact hs k hk) (fun k hk => by
    rw [mem_frees, bt_flipA hn hs]
    obtain ⟨h1, h2, h3⟩ := hu k hk
    simp [h1, h2, h3, hk])
  rw [frees_congr (t' := t) (fun k _ _ => flip_back hn hs k)] at h
  exact h.symm
theorem frees_zero {t : ByteArray} {a m : Nat} (h : ∀ k, bt t k = false) : (frees t a m).length = m - a := by
  have e : frees t a m = (List.range m).filter fun k => decide (a ≤ k) := by
    unfold frees; apply List.filter_congr; intro k _; rw [h k]; simp
  rw [e]
  clear e
  induction m with
  | zero => simp
  | succ n ih =>
    rw [List.range_succ, List.filter_append, List.length_append, ih]
    by_cases h : a ≤ n
    · simp [h]; omega
    · simp [h]; omega
theorem bt_fl0 (k : Nat) : bt (fl 0) k = false := by
  unfold bt
  have : (fl 0).data.toList.getD (k / 8) 0 = 0 := by
    show ((List.replicate 512 (0 : UInt8)).toArray.toList).getD (k / 8) 0 = 0
    rw [List.toList_toArray, List.getD_eq_getElem?_getD, List.getElem?_replicate]
    split <;> rfl
  rw [this]; simp
end Go.Proofs.YtghdgddpdamhcaaGreat
