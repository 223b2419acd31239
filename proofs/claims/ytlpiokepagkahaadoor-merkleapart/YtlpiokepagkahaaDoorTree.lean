/- Plain mathematics of the tree over a list: rows, root, paths, and where a path leads: own work, no part of the program's text. -/
namespace Go.Proofs.YtlpiokepagkahaaDoor.Tree
set_option linter.unusedVariables false
set_option linter.unusedSimpArgs false
variable {H : Type} (nd : H → H → H)
def upLen (n : Nat) : Nat := n / 2 + n % 2
def up (n : Nat) (h : Nat → H) (k : Nat) : H := if 2 * k + 1 < n then nd (h (2 * k)) (h (2 * k + 1)) else h (2 * k)
def nb (i : Nat) : Nat := if i % 2 = 1 then i - 1 else i + 1
def led (i : Nat) (x q : H) : H := if i % 2 = 1 then nd q x else nd x q
theorem upLen_lt {n : Nat} (h : ¬ n ≤ 1) : upLen n < n := by unfold upLen; omega
def root (n : Nat) (h : Nat → H) : H := if hn : n ≤ 1 then h 0 else root (upLen n) (up nd n h)
termination_by n
decreasing_by exact upLen_lt hn
def path (n : Nat) (h : Nat → H) (i : Nat) : List H := if hn : n ≤ 1 then [] else if nb i < n then h (nb i) :: path (upLen n) (up nd n h) (i / 2) else path (upLen n) (up nd n h) (i / 2)
termination_by n
decreasing_by all_goals exact upLen_lt hn
def steps (n : Nat) (i : Nat) : Nat := if hn : n ≤ 1 then 0 else if nb i < n then steps (upLen n) (i / 2) + 1 else steps (upLen n) (i / 2)
termination_by n
decreasing_by all_goals exact upLen_lt hn
def lead (n : Nat) (i : Nat) (x : H) (p : List H) : Option H :=
  if hn : n ≤ 1 then (match p with | [] => some x | _ :: _ => none) else if nb i < n then (match p with | [] => none | q :: r => lead (upLen n) (i / 2) (led nd i x q) r) else lead (upLen n) (i / 2) x p
termination_by n
decreasing_by all_goals exact upLen_lt hn
theorem root_one {n : Nat} (h : Nat → H) (hn : n ≤ 1) : root nd n h = h 0 := by rw [root, dif_pos hn]
theorem root_more {n : Nat} (h : Nat → H) (hn : ¬ n ≤ 1) : root nd n h = root nd (upLen n) (up nd n h) := by rw [root, dif_neg hn]
theorem path_one {n : Nat} (h : Nat → H) (i : Nat) (hn : n ≤ 1) : path nd n h i = [] := by rw [path, dif_pos hn]
theorem path_side {n : Nat} (h : Nat → H) (i : Nat) (hn : ¬ n ≤ 1) (hi : nb i < n) : path nd n h i = h (nb i) :: path nd (upLen n) (up nd n h) (i / 2) := by rw [path, dif_neg hn, if_pos hi]
theorem path_alone {n : Nat} (h : Nat → H) (i : Nat) (hn : ¬ n ≤ 1) (hi : ¬ nb i < n) : path nd n h i = path nd (upLen n) (up nd n h) (i / 2) := by rw [path, dif_neg hn, if_neg hi]
theorem lead_one {n : Nat} (i : Nat) (x : H) (hn : n ≤ 1) : lead nd n i x [] = some x := by rw [lead, dif_pos hn]
theorem lead_left {n : Nat} (i : Nat) (x q : H) (r : List H) (hn : n ≤ 1) : lead nd n i x (q :: r) = none := by rw [lead, dif_pos hn]
theorem lead_none {n : Nat} (i : Nat) (x : H) (hn : ¬ n ≤ 1) (hi : nb i < n) : lead nd n i x [] = none := by rw [lead, dif_neg hn, if_pos hi]
theorem lead_side {n : Nat} (i : Nat) (x q : H) (r : List H) (hn : ¬ n ≤ 1) (hi : nb i < n) : lead nd n i x (q :: r) = lead nd (upLen n) (i / 2) (led nd i x q) r := by rw [lead, dif_neg hn, if_pos hi]
theorem lead_alone {n : Nat} (i : Nat) (x : H) (p : List H) (hn : ¬ n ≤ 1) (hi : ¬ nb i < n) : lead nd n i x p = lead nd (upLen n) (i / 2) x p := by cases p <;> rw [lead, dif_neg hn, if_neg hi]
theorem up_side (n : Nat) (h : Nat → H) (i : Nat) (hi : i < n) (hs : nb i < n) : up nd n h (i / 2) = led nd i (h i) (h (nb i)) := by
  unfold nb at hs ⊢
  unfold up led
  by_cases ho : i % 2 = 1
  · rw [if_pos ho] at hs ⊢
    rw [if_pos ho]
    have e1 : 2 * (i / 2) + 1 = i := by omega
    have e2 : 2 * (i / 2) = i - 1 := by omega
    rw [e1, e2, if_pos hi]
  · rw [if_neg ho] at hs ⊢
    rw [if_neg ho]
    have e2 : 2 * (i / 2) = i := by omega
    rw [e2, if_pos hs]
theorem up_alone (n : Nat) (h : Nat → H) (i : Nat) (hi : i < n) (hs : ¬ nb i < n) : up nd n h (i / 2) = h i := by
  unfold nb at hs
  unfold up
  by_cases ho : i % 2 = 1
  · rw [if_pos ho] at hs; omega
  · rw [if_neg ho] at hs
    have e2 : 2 * (i / 2) = i := by omega
    rw [e2, if_neg hs]
theorem half_lt {n i : Nat} (hi : i < n) : i / 2 < upLen n := by unfold upLen; omega
theorem lead_path (n : Nat) : ∀ (h : Nat → H) (i : Nat), i < n → lead nd n i (h i) (path nd n h i) = some (root nd n h) := by
  induction n using Nat.strongRecOn with
  | ind n ih =>
    intro h i hi
    by_cases hn : n ≤ 1
    · rw [path_one nd h i hn, lead_one nd i _ hn, root_one nd h hn]
      have : i = 0 := by omega
      rw [this]
    · rw [root_more nd h hn]
      by_cases hs : nb i < n
      · rw [path_side nd h i hn hs, lead_side nd i _ _ _ hn hs, ← up_side nd n h i hi hs]
        exact ih _ (upLen_lt hn) _ _ (half_lt hi)
      · rw [path_alone nd h i hn hs, lead_alone nd i _ _ hn hs, ← up_alone nd n h i hi hs]
        exact ih _ (upLen_lt hn) _ _ (half_lt hi)
theorem path_length (n : Nat) : ∀ (h : Nat → H) (i : Nat), (path nd n h i).length = steps n i := by
  induction n using Nat.strongRecOn with
  | ind n ih =>
    intro h i
    by_cases hn : n ≤ 1
    · rw [path_one nd h i hn, steps, dif_pos hn]; rfl
    · by_cases hs : nb i < n
      · rw [path_side nd h i hn hs, steps, dif_neg hn, if_pos hs, List.length_cons, ih _ (upLen_lt hn)]
      · rw [path_alone nd h i hn hs, steps, dif_neg hn, if_neg hs, ih _ (upLen_lt hn)]
theorem lead_length (n : Nat) : ∀ (i : Nat) (x y : H) (p : List H), lead nd n i x p = some y → p.length = steps n i := by
  induction n using Nat.strongRecOn with
  | ind n ih =>
    intro i x y p hl
    by_cases hn : n ≤ 1
    · rw [steps, dif_pos hn]
      cases p with
      | nil => rfl
      | cons q r => rw [lead_left nd i x q r hn] at hl; cases hl
    · by_cases hs : nb i < n
      · rw [steps, dif_neg hn, if_pos hs]
        cases p with
        | nil => rw [lead_none nd i x hn hs] at hl; cases hl
        | cons q r =>
          rw [lead_side nd i x q r hn hs] at hl
          rw [List.length_cons, ih _ (upLen_lt hn) _ _ _ _ hl]
      · rw [lead_alone nd i x p hn hs] at hl
        rw [steps, dif_neg hn, if_neg hs]
        exact ih _ (upLen_lt hn) _ _ _ _ hl
theorem lead_other (n i : Nat) (x : H) (p : List H) (h : p.length ≠ steps n i) : lead nd n i x p = none := by
  cases hl : lead nd n i x p with
  | none => rfl
  | some y => exact absurd (lead_length nd n i x y p hl) h
theorem steps_le : ∀ (k n i : Nat), n ≤ 2 ^ k → steps n i ≤ k
  | 0, n, i, h => by rw [steps, dif_pos (by simpa using h)]; exact Nat.le_refl _
  | k + 1, n, i, h => by
    by_cases hn : n ≤ 1
    · rw [steps, dif_pos hn]; exact Nat.zero_le _
    · have hu : upLen n ≤ 2 ^ k := by unfold upLen; rw [Nat.pow_succ] at h; omega
      have := steps_le k (upLen n) (i / 2) hu
      rw [steps, dif_neg hn]
      split <;> omega
theorem up_congr {n : Nat} {h g : Nat → H} (e : ∀ k, k < n → h k = g k) (k : Nat) (hk : k < upLen n) : up nd n h k = up nd n g k := by
  unfold upLen at hk
  unfold up
  by_cases hs : 2 * k + 1 < n
  · rw [if_pos hs, if_pos hs, e _ (by omega), e _ hs]
  · rw [if_neg hs, if_neg hs, e _ (by omega)]
theorem root_congr (n : Nat) : ∀ {h g : Nat → H}, 0 < n → (∀ k, k < n → h k = g k) → root nd n h = root nd n g := by
  induction n using Nat.strongRecOn with
  | ind n ih =>
    intro h g h0 e
    by_cases hn : n ≤ 1
    · rw [root_one nd h hn, root_one nd g hn, e 0 h0]
    · rw [root_more nd h hn, root_more nd g hn]
      exact ih _ (upLen_lt hn) (by unfold upLen; omega) (up_congr nd e)
theorem path_congr (n : Nat) : ∀ {h g : Nat → H} (i : Nat), i < n → (∀ k, k < n → h k = g k) → path nd n h i = path nd n g i := by
  induction n using Nat.strongRecOn with
  | ind n ih =>
    intro h g i hi e
    by_cases hn : n ≤ 1
    · rw [path_one nd h i hn, path_one nd g i hn]
    · have := ih _ (upLen_lt hn) (i / 2) (half_lt hi) (up_congr nd e)
      by_cases hs : nb i < n
      · rw [path_side nd h i hn hs, path_side nd g i hn hs, e _ hs, this]
      · rw [path_alone nd h i hn hs, path_alone nd g i hn hs, this]
/-- In two. -/
theorem root_split : ∀ (j n : Nat) (h : Nat → H), 2 ^ j < n → n ≤ 2 ^ (j + 1) → root nd n h = nd (root nd (2 ^ j) h) (root nd (n - 2 ^ j) (fun i => h (2 ^ j + i)))
  | 0, n, h, h1, h2 => by
    have hn : n = 2 := by simp at h1 h2; omega
    subst hn
    rw [root_more nd h (by omega), root_one nd _ (by unfold upLen; omega)]
    simp only [Nat.pow_zero]
    rw [root_one nd h (by omega), root_one nd _ (by omega)]
    simp [up]
  | j + 1, n, h, h1, h2 => by
    have p1 : 2 ^ (j + 1) = 2 * 2 ^ j := by rw [Nat.pow_succ]; omega
    have p2 : 2 ^ (j + 1 + 1) = 4 * 2 ^ j := by rw [Nat.pow_succ, p1]; omega
    have hp : 0 < 2 ^ j := Nat.two_pow_pos j
    rw [p2] at h2
    rw [p1] at h1 ⊢
    generalize hq : 2 ^ j = q at *
    have hn : ¬ n ≤ 1 := by omega
    rw [root_more nd h hn]
    have ih := root_split j (upLen n) (up nd n h) (by rw [hq]; unfold upLen; omega) (by rw [p1]; unfold upLen; omega)
    rw [hq] at ih
    rw [ih]
    congr 1
    · rw [root_more nd h (n := 2 * q) (by omega)]
      have : upLen (2 * q) = q := by unfold upLen; omega
      rw [this]
      refine root_congr nd q hp fun k hk => ?_
      unfold up
      rw [if_pos (by omega), if_pos (by omega)]
    · by_cases h3 : n - 2 * q ≤ 1
      · have h4 : upLen n - q ≤ 1 := by unfold upLen; omega
        rw [root_one nd _ h3, root_one nd _ h4]
        unfold up
        rw [if_neg (by omega)]
        congr 1
      · rw [root_more nd _ h3]
        have h4 : upLen (n - 2 * q) = upLen n - q := by unfold upLen; omega
        rw [h4]
        refine root_congr nd _ (by unfold upLen; omega) fun k hk => ?_
        unfold up
        simp only []
        have e1 : 2 * q + 2 * k = 2 * (q + k) := by omega
        have e2 : 2 * q + (2 * k + 1) = 2 * (q + k) + 1 := by omega
        rw [e1, e2]
        by_cases h5 : 2 * (q + k) + 1 < n
        · rw [if_pos h5, if_pos (by omega)]
        · rw [if_neg h5, if_neg (by omega)]
end Go.Proofs.YtlpiokepagkahaaDoor.Tree
