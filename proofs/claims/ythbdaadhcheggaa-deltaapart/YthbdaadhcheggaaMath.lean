/- Entries, their order, lists of them: no model here. -/
import Derived.WalkKit
namespace Go.Proofs.Ythbdaadhcheggaa
set_option linter.unusedVariables false
set_option linter.unusedSimpArgs false
structure En where
  key : List UInt8
  val : List UInt8
theorem En.ext' {p q : En} (a : p.key = q.key) (b : p.val = q.val) : p = q := by cases p; cases q; simp at a b; subst a b; rfl
/-- the order of two texts -/
def bcmp : List UInt8 → List UInt8 → Int
  | [], [] => 0
  | [], _ :: _ => -1
  | _ :: _, [] => 1
  | x :: a, y :: b => if x.toNat < y.toNat then -1 else if y.toNat < x.toNat then 1 else bcmp a b
theorem bcmp_self : ∀ a, bcmp a a = 0
  | [] => rfl
  | x :: a => by simp [bcmp, bcmp_self a]
theorem bcmp_zero : ∀ {a b : List UInt8}, bcmp a b = 0 → a = b
  | [], [], _ => rfl
  | [], _ :: _, h => by simp [bcmp] at h
  | _ :: _, [], h => by simp [bcmp] at h
  | x :: a, y :: b, h => by
    unfold bcmp at h
    split at h
    · omega
    · split at h
      · omega
      · have : x = y := UInt8.toNat.inj (by omega)
        rw [this, bcmp_zero h]
theorem bcmp_neg : ∀ (a b : List UInt8), bcmp b a = - bcmp a b
  | [], [] => rfl
  | [], _ :: _ => rfl
  | _ :: _, [] => rfl
  | x :: a, y :: b => by
    unfold bcmp
    rw [bcmp_neg a b]
    repeat' split
    all_goals omega
theorem bcmp_cases : ∀ (a b : List UInt8), bcmp a b = -1 ∨ bcmp a b = 0 ∨ bcmp a b = 1
  | [], [] => by simp [bcmp]
  | [], _ :: _ => by simp [bcmp]
  | _ :: _, [] => by simp [bcmp]
  | x :: a, y :: b => by
    unfold bcmp
    split
    · exact Or.inl rfl
    · split
      · exact Or.inr (Or.inr rfl)
      · exact bcmp_cases a b
theorem bcmp_trans : ∀ {a b c : List UInt8}, bcmp a b = -1 → bcmp b c = -1 → bcmp a c = -1
  | [], _, [], h1, h2 => by
    rename_i b
    cases b with
    | nil => simp [bcmp] at h1
    | cons y b => simp [bcmp] at h2
  | [], _, _ :: _, _, _ => rfl
  | _ :: _, [], _, h1, _ => by simp [bcmp] at h1
  | _ :: _, _ :: _, [], _, h2 => by simp [bcmp] at h2
  | x :: a, y :: b, z :: c, h1, h2 => by
    unfold bcmp at h1 h2 ⊢
    split at h1
    · split at h2
      · rw [if_pos (by omega)]
      · split at h2
        · omega
        · rw [if_pos (by omega)]
    · split at h1
      · omega
      · split at h2
        · rw [if_pos (by omega)]
        · split at h2
          · omega
          · rw [if_neg (by omega), if_neg (by omega)]
            exact bcmp_trans h1 h2
abbrev lt (a b : List UInt8) : Prop := bcmp a b = -1
theorem lt_irrefl {a : List UInt8} : ¬ lt a a := by unfold lt; rw [bcmp_self]; decide
theorem lt_asymm {a b : List UInt8} (h : lt a b) : ¬ lt b a := fun h2 => lt_irrefl (bcmp_trans h h2)
theorem tri (a b : List UInt8) : lt a b ∨ a = b ∨ lt b a := by
  rcases bcmp_cases a b with h | h | h
  · exact Or.inl h
  · exact Or.inr (Or.inl (bcmp_zero h))
  · exact Or.inr (Or.inr (by show bcmp b a = -1; rw [bcmp_neg, h]))
/-- each key below the next one's -/
def Srt (l : List En) : Prop := l.Pairwise fun a b => lt a.key b.key
theorem Srt.nil : Srt [] := List.Pairwise.nil
theorem Srt.tail {e : En} {l : List En} (h : Srt (e :: l)) : Srt l := (List.pairwise_cons.1 h).2
theorem Srt.head {e : En} {l : List En} (h : Srt (e :: l)) : ∀ x ∈ l, lt e.key x.key := (List.pairwise_cons.1 h).1
theorem Srt.get {l : List En} (h : Srt l) {i j : Nat} {a b : En} (hij : i < j) (ha : l[i]? = some a) (hb : l[j]? = some b) : lt a.key b.key := by
  obtain ⟨h1, rfl⟩ := List.getElem?_eq_some_iff.1 ha
  obtain ⟨h2, rfl⟩ := List.getElem?_eq_some_iff.1 hb
  exact List.pairwise_iff_getElem.1 h i j h1 h2 hij
theorem Srt.take {l : List En} (h : Srt l) (n : Nat) : Srt (l.take n) := List.Pairwise.sublist (List.take_sublist _ _) h
theorem Srt.drop {l : List En} (h : Srt l) (n : Nat) : Srt (l.drop n) := List.Pairwise.sublist (List.drop_sublist _ _) h
/-- each one below its next one makes all of it sorted -/
theorem srt_of {l : List En} (h : ∀ i a b, l[i]? = some a → l[i + 1]? = some b → lt a.key b.key) : Srt l := by
  induction l with
  | nil => exact Srt.nil
  | cons e l ih =>
    have hl : Srt l := ih fun i a b ha hb => h (i + 1) a b (by simpa using ha) (by simpa using hb)
    refine List.pairwise_cons.2 ⟨fun x hx => ?_, hl⟩
    cases l with
    | nil => simp at hx
    | cons f l =>
      have h0 : lt e.key f.key := h 0 e f rfl rfl
      rcases List.mem_cons.1 hx with rfl | hx
      · exact h0
      · exact bcmp_trans h0 (hl.head x hx)
/-- how many are below -/
def fnd : List En → List UInt8 → Nat
  | [], _ => 0
  | e :: l, k => if bcmp e.key k = -1 then fnd l k + 1 else 0
theorem fnd_le : ∀ (l : List En) (k : List UInt8), fnd l k ≤ l.length
  | [], _ => by simp [fnd]
  | e :: l, k => by
    unfold fnd
    have := fnd_le l k
    split
    · simp; omega
    · omega
theorem fnd_lt : ∀ {l : List En} {k : List UInt8} {i : Nat} {e : En}, i < fnd l k → l[i]? = some e → lt e.key k
  | [], _, _, _, h, _ => by simp [fnd] at h
  | f :: l, k, i, e, h, he => by
    unfold fnd at h
    split at h
    · next hf =>
      cases i with
      | zero => simp at he; subst he; exact hf
      | succ i => exact fnd_lt (l := l) (k := k) (i := i) (by omega) (by simpa using he)
    · omega
theorem fnd_at : ∀ {l : List En} {k : List UInt8} {e : En}, l[fnd l k]? = some e → ¬ lt e.key k
  | [], _, _, h => by simp at h
  | f :: l, k, e, h => by
    unfold fnd at h
    split at h
    · next hf => exact fnd_at (l := l) (by simpa using h)
    · next hf => simp at h; subst h; exact hf
theorem fnd_ge {l : List En} (hs : Srt l) {k : List UInt8} {i : Nat} {e : En} (h : fnd l k ≤ i) (he : l[i]? = some e) : ¬ lt e.key k := by
  have hi := (List.getElem?_eq_some_iff.1 he).1
  obtain ⟨f, hf⟩ : ∃ f, l[fnd l k]? = some f := ⟨l[fnd l k]'(by omega), List.getElem?_eq_getElem (by omega)⟩
  have hn := fnd_at hf
  rcases Nat.lt_or_ge (fnd l k) i with h2 | h2
  · intro h3
    exact hn (bcmp_trans (hs.get h2 hf he) h3)
  · have : i = fnd l k := by omega
    subst this
    rw [hf] at he
    cases he
    exact hn
/-- what a search ends with -/
theorem fnd_is {l : List En} {k : List UInt8} {i : Nat} (hi : i ≤ l.length) (h1 : ∀ j e, j < i → l[j]? = some e → lt e.key k) (h2 : ∀ j e, i ≤ j → l[j]? = some e → ¬ lt e.key k) : i = fnd l k := by
  rcases Nat.lt_trichotomy i (fnd l k) with h | h | h
  · have hl := fnd_le l k
    obtain ⟨f, hf⟩ : ∃ f, l[i]? = some f := ⟨l[i]'(by omega), List.getElem?_eq_getElem (by omega)⟩
    exact absurd (fnd_lt h hf) (h2 i f (Nat.le_refl _) hf)
  · exact h
  · obtain ⟨f, hf⟩ : ∃ f, l[fnd l k]? = some f := ⟨l[fnd l k]'(by omega), List.getElem?_eq_getElem (by omega)⟩
    exact absurd (h1 _ f h hf) (fnd_at hf)
/-- is it there -/
def hit (l : List En) (k : List UInt8) : Bool := match l[fnd l k]? with
  | some e => e.key == k
  | none => false
theorem hit_none {l : List En} {k : List UInt8} (h : fnd l k = l.length) : hit l k = false := by unfold hit; rw [h, List.getElem?_eq_none (Nat.le_refl _)]
theorem hit_some {l : List En} {k : List UInt8} {e : En} (h : l[fnd l k]? = some e) : hit l k = (e.key == k) := by unfold hit; rw [h]
def put (l : List En) (k v : List UInt8) : List En := l.take (fnd l k) ++ ⟨k, v⟩ :: l.drop (fnd l k + if hit l k then 1 else 0)
def del (l : List En) (k : List UInt8) : List En := l.take (fnd l k) ++ l.drop (fnd l k + if hit l k then 1 else 0)
theorem fnd_cons_lt {e : En} {l : List En} {k : List UInt8} (h : lt e.key k) : fnd (e :: l) k = fnd l k + 1 := by show (if _ then _ else _) = _; rw [if_pos h]
theorem fnd_cons_not {e : En} {l : List En} {k : List UInt8} (h : ¬ lt e.key k) : fnd (e :: l) k = 0 := by show (if _ then _ else _) = _; rw [if_neg h]
theorem hit_cons_lt {e : En} {l : List En} {k : List UInt8} (h : lt e.key k) : hit (e :: l) k = hit l k := by unfold hit; rw [fnd_cons_lt h]; simp
theorem hit_cons_not {e : En} {l : List En} {k : List UInt8} (h : ¬ lt e.key k) : hit (e :: l) k = (e.key == k) := by unfold hit; rw [fnd_cons_not h]; simp
theorem put_nil (k v : List UInt8) : put [] k v = [⟨k, v⟩] := rfl
theorem put_lt {e : En} {l : List En} {k v : List UInt8} (h : lt e.key k) : put (e :: l) k v = e :: put l k v := by
  unfold put
  rw [hit_cons_lt h, fnd_cons_lt h, show fnd l k + 1 + (if hit l k = true then 1 else 0) = (fnd l k + if hit l k = true then 1 else 0) + 1 by omega]
  simp
theorem put_eq {e : En} {l : List En} {k v : List UInt8} (h : e.key = k) : put (e :: l) k v = ⟨k, v⟩ :: l := by
  have hn : ¬ lt e.key k := by rw [h]; exact lt_irrefl
  unfold put
  rw [hit_cons_not hn, fnd_cons_not hn]
  simp [h]
theorem put_gt {e : En} {l : List En} {k v : List UInt8} (h : lt k e.key) : put (e :: l) k v = ⟨k, v⟩ :: e :: l := by
  have hn : ¬ lt e.key k := lt_asymm h
  have hne : e.key ≠ k := fun q => by rw [q] at h; exact lt_irrefl h
  unfold put
  rw [hit_cons_not hn, fnd_cons_not hn]
  simp [hne]
theorem del_nil (k : List UInt8) : del [] k = [] := rfl
theorem del_lt {e : En} {l : List En} {k : List UInt8} (h : lt e.key k) : del (e :: l) k = e :: del l k := by
  unfold del
  rw [hit_cons_lt h, fnd_cons_lt h, show fnd l k + 1 + (if hit l k = true then 1 else 0) = (fnd l k + if hit l k = true then 1 else 0) + 1 by omega]
  simp
theorem del_eq {e : En} {l : List En} {k : List UInt8} (h : e.key = k) : del (e :: l) k = l := by
  have hn : ¬ lt e.key k := by rw [h]; exact lt_irrefl
  unfold del
  rw [hit_cons_not hn, fnd_cons_not hn]
  simp [h]
theorem del_gt {e : En} {l : List En} {k : List UInt8} (h : lt k e.key) : del (e :: l) k = e :: l := by
  have hn : ¬ lt e.key k := lt_asymm h
  have hne : e.key ≠ k := fun q => by rw [q] at h; exact lt_irrefl h
  unfold del
  rw [hit_cons_not hn, fnd_cons_not hn]
  simp [hne]
theorem mem_put {l : List En} {k v : List UInt8} {x : En} (h : x ∈ put l k v) : x = ⟨k, v⟩ ∨ x ∈ l := by
  unfold put at h
  rcases List.mem_append.1 h with h | h
  · exact Or.inr (List.mem_of_mem_take h)
  · rcases List.mem_cons.1 h with h | h
    · exact Or.inl h
    · exact Or.inr (List.mem_of_mem_drop h)
theorem mem_del {l : List En} {k : List UInt8} {x : En} (h : x ∈ del l k) : x ∈ l := by
  unfold del at h
  rcases List.mem_append.1 h with h | h
  · exact List.mem_of_mem_take h
  · exact List.mem_of_mem_drop h
theorem put_srt {l : List En} (hs : Srt l) (k v : List UInt8) : Srt (put l k v) := by
  induction l with
  | nil => rw [put_nil]; exact List.pairwise_singleton _ _
  | cons e l ih =>
    rcases tri e.key k with h | h | h
    · rw [put_lt h]
      refine List.pairwise_cons.2 ⟨fun x hx => ?_, ih hs.tail⟩
      rcases mem_put hx with rfl | hx
      · exact h
      · exact hs.head x hx
    · rw [put_eq h]
      refine List.pairwise_cons.2 ⟨fun x hx => ?_, hs.tail⟩
      have := hs.head x hx
      rw [h] at this
      exact this
    · rw [put_gt h]
      refine List.pairwise_cons.2 ⟨fun x hx => ?_, hs⟩
      rcases List.mem_cons.1 hx with rfl | hx
      · exact h
      · exact bcmp_trans h (hs.head x hx)
theorem del_srt {l : List En} (hs : Srt l) (k : List UInt8) : Srt (del l k) := by
  unfold del
  refine List.Pairwise.sublist ?_ hs
  refine List.Sublist.trans (List.Sublist.append (List.Sublist.refl _) ?_) (by rw [List.take_append_drop (fnd l k) l]; exact List.Sublist.refl _)
  rw [← List.drop_drop]
  exact List.drop_sublist _ _
theorem put_len {l : List En} (k v : List UInt8) : (put l k v).length = l.length + if hit l k then 0 else 1 := by
  have h1 := fnd_le l k
  have h2 : hit l k = true → fnd l k < l.length := fun h => by
    rcases Nat.lt_or_ge (fnd l k) l.length with q | q
    · exact q
    · rw [hit_none (by omega)] at h; cases h
  unfold put
  simp
  split
  · next h => have := h2 h; omega
  · omega
theorem del_len {l : List En} (k : List UInt8) : (del l k).length = l.length - if hit l k then 1 else 0 := by
  have h1 := fnd_le l k
  have h2 : hit l k = true → fnd l k < l.length := fun h => by
    rcases Nat.lt_or_ge (fnd l k) l.length with q | q
    · exact q
    · rw [hit_none (by omega)] at h; cases h
  unfold del
  simp
  split
  · next h => have := h2 h; omega
  · omega
/-- the value at a key -/
def look : List En → List UInt8 → Option (List UInt8)
  | [], _ => none
  | e :: l, k => if e.key = k then some e.val else look l k
theorem look_gt {l : List En} {k : List UInt8} (h : ∀ x ∈ l, lt k x.key) : look l k = none := by
  induction l with
  | nil => rfl
  | cons e l ih =>
    have h0 := h e List.mem_cons_self
    show (if e.key = k then _ else _) = _
    rw [if_neg (fun q => by rw [q] at h0; exact lt_irrefl h0)]
    exact ih fun x hx => h x (List.mem_cons_of_mem _ hx)
theorem look_fnd {l : List En} (hs : Srt l) (k : List UInt8) : look l k = if hit l k then (l[fnd l k]?).map (·.val) else none := by
  induction l with
  | nil => rfl
  | cons e l ih =>
    show (if e.key = k then _ else _) = _
    rcases tri e.key k with h | h | h
    · rw [if_neg (fun q => by rw [q] at h; exact lt_irrefl h), ih hs.tail, hit_cons_lt h, fnd_cons_lt h]
      simp
    · have hn : ¬ lt e.key k := by rw [h]; exact lt_irrefl
      rw [if_pos h, hit_cons_not hn, fnd_cons_not hn]
      simp [h]
    · have hn : ¬ lt e.key k := lt_asymm h
      have hne : e.key ≠ k := fun q => by rw [q] at h; exact lt_irrefl h
      rw [if_neg hne, hit_cons_not hn]
      simp [hne]
      exact look_gt fun x hx => bcmp_trans h (hs.head x hx)
theorem look_put {l : List En} (hs : Srt l) (k v j : List UInt8) : look (put l k v) j = if j = k then some v else look l j := by
  induction l with
  | nil => rw [put_nil]; show (if k = j then _ else _) = _; by_cases h : k = j <;> simp [h, look]; intro q; exact absurd q.symm h
  | cons e l ih =>
    rcases tri e.key k with h | h | h
    · rw [put_lt h]
      show (if e.key = j then _ else _) = if j = k then _ else (if e.key = j then _ else _)
      rw [ih hs.tail]
      by_cases h1 : e.key = j
      · rw [if_pos h1, if_pos h1, if_neg (fun q => by rw [h1, q] at h; exact lt_irrefl h)]
      · rw [if_neg h1, if_neg h1]
    · rw [put_eq h]
      show (if k = j then _ else _) = if j = k then _ else (if e.key = j then _ else _)
      rw [h]
      by_cases h1 : k = j
      · rw [if_pos h1, if_pos h1.symm]
      · rw [if_neg h1, if_neg (Ne.symm h1), if_neg h1]
    · rw [put_gt h]
      show (if k = j then _ else (if e.key = j then _ else _)) = if j = k then _ else (if e.key = j then _ else _)
      by_cases h1 : k = j
      · rw [if_pos h1, if_pos h1.symm]
      · rw [if_neg h1, if_neg (Ne.symm h1)]
theorem look_del {l : List En} (hs : Srt l) (k j : List UInt8) : look (del l k) j = if j = k then none else look l j := by
  induction l with
  | nil => rw [del_nil]; simp [look]
  | cons e l ih =>
    rcases tri e.key k with h | h | h
    · rw [del_lt h]
      show (if e.key = j then _ else _) = if j = k then _ else (if e.key = j then _ else _)
      rw [ih hs.tail]
      by_cases h1 : e.key = j
      · rw [if_pos h1, if_pos h1, if_neg (fun q => by rw [h1, q] at h; exact lt_irrefl h)]
      · rw [if_neg h1, if_neg h1]
    · rw [del_eq h]
      show _ = if j = k then _ else (if e.key = j then _ else _)
      rw [h]
      by_cases h1 : k = j
      · rw [if_pos h1.symm]
        subst h1
        exact look_gt fun x hx => by have := hs.head x hx; rw [h] at this; exact this
      · rw [if_neg (Ne.symm h1), if_neg h1]
    · rw [del_gt h]
      by_cases h1 : j = k
      · rw [if_pos h1]
        subst h1
        exact look_gt fun x hx => by
          rcases List.mem_cons.1 hx with rfl | hx
          · exact h
          · exact bcmp_trans h (hs.head x hx)
      · rw [if_neg h1]
theorem hit_look {l : List En} (hs : Srt l) (k : List UInt8) : hit l k = (look l k).isSome := by
  rw [look_fnd hs]
  by_cases h : hit l k = true
  · rw [if_pos h, h]
    unfold hit at h
    split at h
    · next e he => rw [he]; rfl
    · cases h
  · rw [if_neg h]
    simpa using h
/-- a sorted list of any -/
def srtd (l : List En) : List En := (l.take 200).foldl (fun out e => put out e.key e.val) []
theorem foldl_inv {α β : Type} (f : α → β → α) (P : α → Prop) (l : List β) (h : ∀ a b, b ∈ l → P a → P (f a b)) : ∀ a, P a → P (l.foldl f a) := by
  induction l with
  | nil => intro a ha; exact ha
  | cons b l ih => intro a ha; exact ih (fun a c hc => h a c (List.mem_cons_of_mem _ hc)) _ (h a b List.mem_cons_self ha)
theorem srtd_srt (l : List En) : Srt (srtd l) := foldl_inv _ Srt _ (fun a b _ h => put_srt h _ _) _ Srt.nil
theorem srtd_mem {l : List En} {x : En} (h : x ∈ srtd l) : x ∈ l := by
  have : ∀ x ∈ srtd l, x ∈ l := foldl_inv _ (fun (out : List En) => ∀ x ∈ out, x ∈ l) _ (fun a b hb h x hx => by
    rcases mem_put hx with rfl | hx
    · exact List.mem_of_mem_take hb
    · exact h x hx) _ (by simp)
  exact this x h
/-- the list so far -/
def srt_upto (l : List En) (k : Nat) : List En := (l.take k).foldl (fun out e => put out e.key e.val) []
theorem srt_upto_succ {l : List En} {k : Nat} {e : En} (h : l[k]? = some e) : srt_upto l (k + 1) = put (srt_upto l k) e.key e.val := by
  unfold srt_upto
  rw [List.take_add_one, h, List.foldl_append]
  rfl
theorem srt_upto_len (l : List En) : ∀ k, (srt_upto l k).length ≤ k
  | 0 => by simp [srt_upto]
  | k + 1 => by
    have := srt_upto_len l k
    cases h : l[k]? with
    | none =>
      have e : srt_upto l (k + 1) = srt_upto l k := by unfold srt_upto; rw [List.take_add_one, h]; simp
      rw [e]; omega
    | some e => rw [srt_upto_succ h, put_len]; split <;> omega
theorem srt_upto_srt (l : List En) (k : Nat) : Srt (srt_upto l k) := foldl_inv _ Srt _ (fun a b _ h => put_srt h _ _) _ Srt.nil
theorem srtd_upto (l : List En) : srtd l = srt_upto l 200 := rfl
theorem srtd_len (l : List En) : (srtd l).length ≤ 200 := srt_upto_len l 200
theorem srt_upto_all {l : List En} {k : Nat} (h : l.length ≤ k) (h2 : k ≤ 200) : srt_upto l k = srtd l := by
  rw [srtd_upto]; unfold srt_upto; rw [List.take_of_length_le h, List.take_of_length_le (by omega)]
/-- sizes -/
def sz (e : En) : Nat := 2 + e.key.length + e.val.length
def tot (l : List En) : Nat := (l.map sz).sum
theorem tot_nil : tot [] = 0 := rfl
theorem tot_cons (e : En) (l : List En) : tot (e :: l) = sz e + tot l := by simp [tot]
theorem tot_append (a b : List En) : tot (a ++ b) = tot a + tot b := by simp [tot]
theorem tot_take {l : List En} {k : Nat} {e : En} (h : l[k]? = some e) : tot (l.take (k + 1)) = tot (l.take k) + sz e := by
  rw [List.take_add_one, h, tot_append]; simp [tot]
theorem tot_split (l : List En) (k : Nat) : tot (l.take k) + tot (l.drop k) = tot l := by rw [← tot_append, List.take_append_drop]
theorem tot_len (l : List En) : 2 * l.length ≤ tot l := by
  induction l with
  | nil => simp
  | cons e l ih => rw [tot_cons]; simp [sz]; omega
/-- it may not stand in a page -/
def lng (e : En) : Bool := decide (100 < e.key.length) || decide (150 < e.val.length)
theorem lng_sz {e : En} (h : lng e = false) : e.key.length ≤ 100 ∧ e.val.length ≤ 150 := by simp [lng] at h; omega
theorem tot_short {l : List En} (h : ∀ e ∈ l, lng e = false) : tot l ≤ 252 * l.length := by
  induction l with
  | nil => simp [tot]
  | cons e l ih =>
    have := lng_sz (h e List.mem_cons_self)
    have := ih fun x hx => h x (List.mem_cons_of_mem _ hx)
    rw [tot_cons]; simp [sz]; omega
theorem tot_put (l : List En) (k v : List UInt8) : tot (put l k v) ≤ tot l + sz ⟨k, v⟩ := by
  unfold put
  rw [tot_append, tot_cons]
  have h1 := tot_split l (fnd l k)
  have h2 := tot_split (l.drop (fnd l k)) (if hit l k then 1 else 0)
  rw [List.drop_drop] at h2
  omega
end Go.Proofs.Ythbdaadhcheggaa
