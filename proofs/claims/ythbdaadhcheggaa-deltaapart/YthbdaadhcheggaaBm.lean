/- A bucket's lists, without the model. -/
import Derived.Test.YthbdaadhcheggaaSm
namespace Go.Proofs.Ythbdaadhcheggaa
set_option linter.unusedVariables false
set_option linter.unusedSimpArgs false
/-- canonical order -/
def ltv (a b : Vs) : Prop := lt a.key b.key ∨ a.key = b.key ∧ a.seq < b.seq
instance (a b : Vs) : Decidable (ltv a b) := by unfold ltv; infer_instance
def SrtV (L : List Vs) : Prop := L.Pairwise ltv
instance (L : List Vs) : Decidable (SrtV L) := by unfold SrtV; infer_instance
theorem ltv_trans {a b c : Vs} (h1 : ltv a b) (h2 : ltv b c) : ltv a c := by
  rcases h1 with h1 | ⟨e1, h1⟩ <;> rcases h2 with h2 | ⟨e2, h2⟩
  · exact .inl (bcmp_trans h1 h2)
  · exact .inl (by rw [← e2]; exact h1)
  · exact .inl (by rw [e1]; exact h2)
  · exact .inr ⟨e1.trans e2, by omega⟩
theorem ltv_irrefl {a : Vs} : ¬ ltv a a := by
  rintro (h | ⟨_, h⟩)
  · exact lt_irrefl h
  · omega
theorem SrtV.get {L : List Vs} (h : SrtV L) {i j : Nat} {a b : Vs} (hij : i < j) (ha : L[i]? = some a) (hb : L[j]? = some b) : ltv a b := by
  obtain ⟨hi, rfl⟩ := List.getElem?_eq_some_iff.1 ha
  obtain ⟨hj, rfl⟩ := List.getElem?_eq_some_iff.1 hb
  exact List.pairwise_iff_getElem.1 h i j hi hj hij
theorem ltv_le {a b : Vs} (h : ltv a b) : ¬ lt b.key a.key := by
  rcases h with h | ⟨e, _⟩
  · exact lt_asymm h
  · rw [e]; exact lt_irrefl
theorem SrtV.le {L : List Vs} (h : SrtV L) {i j : Nat} {a b : Vs} (hij : i ≤ j) (ha : L[i]? = some a) (hb : L[j]? = some b) : ¬ lt b.key a.key := by
  by_cases e : i = j
  · subst e; rw [ha] at hb; cases hb; exact lt_irrefl
  · exact ltv_le (h.get (by omega) ha hb)
/-- it is enough that each stands ahead of the next one -/
theorem srtv_of {L : List Vs} (h : ∀ i a b, L[i]? = some a → L[i + 1]? = some b → ltv a b) : SrtV L := by
  induction L with
  | nil => exact List.Pairwise.nil
  | cons v t ih =>
    have it : SrtV t := ih fun i a b ha hb => h (i + 1) a b (by simpa using ha) (by simpa using hb)
    refine List.Pairwise.cons (fun u hu => ?_) it
    obtain ⟨k, hk, rfl⟩ := List.getElem_of_mem hu
    cases t with
    | nil => simp at hk
    | cons x s =>
      have h0 : ltv v x := h 0 v x rfl rfl
      by_cases e : k = 0
      · subst e; exact h0
      · exact ltv_trans h0 (it.get (i := 0) (j := k) (by omega) rfl (List.getElem?_eq_getElem hk))
/-- where a key's versions begin -/
def fndV : List Vs → List UInt8 → Nat
  | [], _ => 0
  | v :: t, k => if lt v.key k then fndV t k + 1 else 0
theorem fndV_le : ∀ (L : List Vs) (k : List UInt8), fndV L k ≤ L.length
  | [], _ => Nat.le_refl _
  | v :: t, k => by
    have := fndV_le t k
    unfold fndV
    split <;> simp only [List.length_cons] <;> omega
theorem fndV_is : ∀ {L : List Vs} {k : List UInt8} {i : Nat}, i ≤ L.length → (∀ j e, j < i → L[j]? = some e → lt e.key k) → (∀ j e, i ≤ j → L[j]? = some e → ¬ lt e.key k) → i = fndV L k
  | [], _, i, h, _, _ => by simp at h; subst h; rfl
  | v :: t, k, 0, _, _, h2 => by unfold fndV; rw [if_neg (h2 0 v (Nat.le_refl _) rfl)]
  | v :: t, k, i + 1, h, h1, h2 => by
    unfold fndV
    rw [if_pos (h1 0 v (Nat.succ_pos _) rfl)]
    rw [← fndV_is (L := t) (i := i) (by simpa using h) (fun j e hj he => h1 (j + 1) e (by omega) (by simpa using he)) (fun j e hj he => h2 (j + 1) e (by omega) (by simpa using he))]
theorem fndV_lt : ∀ {L : List Vs} {k : List UInt8} {i : Nat} {e : Vs}, i < fndV L k → L[i]? = some e → lt e.key k
  | [], _, i, e, h, _ => by simp [fndV] at h
  | v :: t, k, i, e, h, he => by
    unfold fndV at h
    split at h
    · rename_i hv
      match i with
      | 0 => simp at he; subst he; exact hv
      | i + 1 => exact fndV_lt (L := t) (i := i) (by omega) (by simpa using he)
    · omega
theorem fndV_at : ∀ {L : List Vs} {k : List UInt8} {e : Vs}, L[fndV L k]? = some e → ¬ lt e.key k
  | [], _, e, h => by simp at h
  | v :: t, k, e, h => by
    unfold fndV at h
    split at h
    · exact fndV_at (L := t) (by simpa using h)
    · rename_i hv; simp at h; subst h; exact hv
theorem fndV_ge {L : List Vs} (hs : SrtV L) {k : List UInt8} {i : Nat} {e : Vs} (h : fndV L k ≤ i) (he : L[i]? = some e) : ¬ lt e.key k := by
  have hi := (List.getElem?_eq_some_iff.1 he).1
  obtain ⟨f, hf⟩ : ∃ f, L[fndV L k]? = some f := ⟨L[fndV L k]'(by omega), List.getElem?_eq_getElem (by omega)⟩
  have h1 := fndV_at hf
  have h2 := hs.le h hf he
  intro q
  rcases tri f.key e.key with z | z | z
  · exact h1 (bcmp_trans z q)
  · exact h1 (z ▸ q)
  · exact h2 z
/-- how many at the beginning are of a key -/
def ken (L : List Vs) (k : List UInt8) : Nat := (L.takeWhile fun v => v.key == k).length
theorem ken_le (L : List Vs) (k : List UInt8) : ken L k ≤ L.length := by
  unfold ken
  exact (List.takeWhile_sublist _).length_le
theorem ken_cons {v : Vs} {t : List Vs} {k : List UInt8} : ken (v :: t) k = if v.key = k then ken t k + 1 else 0 := by
  unfold ken
  rw [List.takeWhile_cons]
  by_cases h : v.key = k
  · rw [if_pos (by rw [beq_iff_eq]; exact h), if_pos h]; rfl
  · rw [if_neg (by rw [beq_iff_eq]; exact h), if_neg h]; rfl
theorem ken_at : ∀ {L : List Vs} {k : List UInt8} {i : Nat} {u : Vs}, L[i]? = some u → ¬ u.key = k → (∀ j v, j < i → L[j]? = some v → v.key = k) → ken L k = i
  | [], _, i, u, h, _, _ => by simp at h
  | v :: t, k, 0, u, h, hn, _ => by simp at h; subst h; rw [ken_cons, if_neg hn]
  | v :: t, k, i + 1, u, h, hn, ha => by
    rw [ken_cons, if_pos (ha 0 v (Nat.succ_pos _) rfl), ken_at (L := t) (i := i) (by simpa using h) hn (fun j e hj he => ha (j + 1) e (by omega) (by simpa using he))]
theorem ken_all : ∀ {L : List Vs} {k : List UInt8}, (∀ j v, j < L.length → L[j]? = some v → v.key = k) → ken L k = L.length
  | [], _, _ => rfl
  | v :: t, k, h => by
    rw [ken_cons, if_pos (h 0 v (Nat.succ_pos _) rfl), ken_all (L := t) (fun j e hj he => h (j + 1) e (by simp; omega) (by simpa using he))]
    rfl
theorem ken_key : ∀ {L : List Vs} {k : List UInt8} {i : Nat} {u : Vs}, i < ken L k → L[i]? = some u → u.key = k
  | [], _, i, u, h, hu => by simp at hu
  | v :: t, k, i, u, h, hu => by
    rw [ken_cons] at h
    split at h
    · rename_i hv
      match i with
      | 0 => simp at hu; subst hu; exact hv
      | i + 1 => exact ken_key (L := t) (i := i) (by omega) (by simpa using hu)
    · omega
/-- what IndexFunc tells of the first of another key -/
def kenI (L : List Vs) (k : List UInt8) : Int := if ken L k < L.length then (ken L k : Int) else -1
end Go.Proofs.Ythbdaadhcheggaa
