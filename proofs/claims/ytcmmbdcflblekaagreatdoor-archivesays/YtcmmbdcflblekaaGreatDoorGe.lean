import Derived.WalkKit
import Derived.Test.YtcmmbdcflblekaaGreatDoorProg
import Derived.WalkLawsBesides
import Derived.WalkSpells
import Derived.BigQuiet
import Derived.Deep.QuietTactic
import Derived.Deep.DrawnRows
import Derived.Lib.Bytealg
import Derived.OwnWalk
import Derived.Deep.AppendLies
import Derived.Deep.DeepAppendWide
import Derived.Laws.OwnMore
import Derived.Lib.AppendStr
import Derived.Laws.IdiomStrings
import Derived.ArgAppend
import Derived.OneCell
/- Entries, their order, lists of them: no model here. -/
namespace Go.Proofs.YtcmmbdcflblekaaGreatDoor
set_option maxRecDepth 100000
set_option linter.unusedVariables false
set_option linter.unusedSimpArgs false
structure En where
  key : List UInt8
  val : List UInt8
theorem En.ext' {p q : En} (a : p.key = q.key) (b : p.val = q.val) : p = q := by cases p; cases q; simp at a b; subst a b; rfl
/-- the order of two texts -/
def bcmp : List UInt8 → List UInt8 → Int
  | [], [] => 0
  | [], _ :: _ => -1
  | _ :: _, [] => 1
  | x :: a, y :: b => if x.toNat < y.toNat then -1 else if y.toNat < x.toNat then 1 else bcmp a b
theorem bcmp_self : ∀ a, bcmp a a = 0
  | [] => rfl
  | x :: a => by simp [bcmp, bcmp_self a]
theorem bcmp_zero : ∀ {a b : List UInt8}, bcmp a b = 0 → a = b
  | [], [], _ => rfl
  | [], _ :: _, h => by simp [bcmp] at h
  | _ :: _, [], h => by simp [bcmp] at h
  | x :: a, y :: b, h => by
    unfold bcmp at h
    split at h
    · omega
    · split at h
      · omega
      · have : x = y := UInt8.toNat.inj (by omega)
        rw [this, bcmp_zero h]
theorem bcmp_neg : ∀ (a b : List UInt8), bcmp b a = - bcmp a b
  | [], [] => rfl
  | [], _ :: _ => rfl
  | _ :: _, [] => rfl
  | x :: a, y :: b => by
    unfold bcmp
    rw [bcmp_neg a b]
    repeat' split
    all_goals omega
theorem bcmp_cases : ∀ (a b : List UInt8), bcmp a b = -1 ∨ bcmp a b = 0 ∨ bcmp a b = 1
  | [], [] => by simp [bcmp]
  | [], _ :: _ => by simp [bcmp]
  | _ :: _, [] => by simp [bcmp]
  | x :: a, y :: b => by
    unfold bcmp
    split
    · exact Or.inl rfl
    · split
      · exact Or.inr (Or.inr rfl)
      · exact bcmp_cases a b
theorem bcmp_trans : ∀ {a b c : List UInt8}, bcmp a b = -1 → bcmp b c = -1 → bcmp a c = -1
  | [], _, [], h1, h2 => by
    rename_i b
    cases b with
    | nil => simp [bcmp] at h1
    | cons y b => simp [bcmp] at h2
  | [], _, _ :: _, _, _ => rfl
  | _ :: _, [], _, h1, _ => by simp [bcmp] at h1
  | _ :: _, _ :: _, [], _, h2 => by simp [bcmp] at h2
  | x :: a, y :: b, z :: c, h1, h2 => by
    unfold bcmp at h1 h2 ⊢
    split at h1
    · split at h2
      · rw [if_pos (by omega)]
      · split at h2
        · omega
        · rw [if_pos (by omega)]
    · split at h1
      · omega
      · split at h2
        · rw [if_pos (by omega)]
        · split at h2
          · omega
          · rw [if_neg (by omega), if_neg (by omega)]
            exact bcmp_trans h1 h2
abbrev lt (a b : List UInt8) : Prop := bcmp a b = -1
theorem lt_irrefl {a : List UInt8} : ¬ lt a a := by unfold lt; rw [bcmp_self]; decide
theorem lt_asymm {a b : List UInt8} (h : lt a b) : ¬ lt b a := fun h2 => lt_irrefl (bcmp_trans h h2)
theorem tri (a b : List UInt8) : lt a b ∨ a = b ∨ lt b a := by
  rcases bcmp_cases a b with h | h | h
  · exact Or.inl h
  · exact Or.inr (Or.inl (bcmp_zero h))
  · exact Or.inr (Or.inr (by show bcmp b a = -1; rw [bcmp_neg, h]))
/-- each key below the next one's -/
def Srt (l : List En) : Prop := l.Pairwise fun a b => lt a.key b.key
theorem Srt.nil : Srt [] := List.Pairwise.nil
theorem Srt.tail {e : En} {l : List En} (h : Srt (e :: l)) : Srt l := (List.pairwise_cons.1 h).2
theorem Srt.head {e : En} {l : List En} (h : Srt (e :: l)) : ∀ x ∈ l, lt e.key x.key := (List.pairwise_cons.1 h).1
theorem Srt.get {l : List En} (h : Srt l) {i j : Nat} {a b : En} (hij : i < j) (ha : l[i]? = some a) (hb : l[j]? = some b) : lt a.key b.key := by
  obtain ⟨h1, rfl⟩ := List.getElem?_eq_some_iff.1 ha
  obtain ⟨h2, rfl⟩ := List.getElem?_eq_some_iff.1 hb
  exact List.pairwise_iff_getElem.1 h i j h1 h2 hij
theorem Srt.take {l : List En} (h : Srt l) (n : Nat) : Srt (l.take n) := List.Pairwise.sublist (List.take_sublist _ _) h
theorem Srt.drop {l : List En} (h : Srt l) (n : Nat) : Srt (l.drop n) := List.Pairwise.sublist (List.drop_sublist _ _) h
/-- each one below its next one makes all of it sorted -/
theorem srt_of {l : List En} (h : ∀ i a b, l[i]? = some a → l[i + 1]? = some b → lt a.key b.key) : Srt l := by
  induction l with
  | nil => exact Srt.nil
  | cons e l ih =>
    have hl : Srt l := ih fun i a b ha hb => h (i + 1) a b (by simpa using ha) (by simpa using hb)
    refine List.pairwise_cons.2 ⟨fun x hx => ?_, hl⟩
    cases l with
    | nil => simp at hx
    | cons f l =>
      have h0 : lt e.key f.key := h 0 e f rfl rfl
      rcases List.mem_cons.1 hx with rfl | hx
      · exact h0
      · exact bcmp_trans h0 (hl.head x hx)
/-- how many are below -/
def fnd : List En → List UInt8 → Nat
  | [], _ => 0
  | e :: l, k => if bcmp e.key k = -1 then fnd l k + 1 else 0
theorem fnd_le : ∀ (l : List En) (k : List UInt8), fnd l k ≤ l.length
  | [], _ => by simp [fnd]
  | e :: l, k => by
    unfold fnd
    have := fnd_le l k
    split
    · simp; omega
    · omega
theorem fnd_lt : ∀ {l : List En} {k : List UInt8} {i : Nat} {e : En}, i < fnd l k → l[i]? = some e → lt e.key k
  | [], _, _, _, h, _ => by simp [fnd] at h
  | f :: l, k, i, e, h, he => by
    unfold fnd at h
    split at h
    · next hf =>
      cases i with
      | zero => simp at he; subst he; exact hf
      | succ i => exact fnd_lt (l := l) (k := k) (i := i) (by omega) (by simpa using he)
    · omega
theorem fnd_at : ∀ {l : List En} {k : List UInt8} {e : En}, l[fnd l k]? = some e → ¬ lt e.key k
  | [], _, _, h => by simp at h
  | f :: l, k, e, h => by
    unfold fnd at h
    split at h
    · next hf => exact fnd_at (l := l) (by simpa using h)
    · next hf => simp at h; subst h; exact hf
theorem fnd_ge {l : List En} (hs : Srt l) {k : List UInt8} {i : Nat} {e : En} (h : fnd l k ≤ i) (he : l[i]? = some e) : ¬ lt e.key k := by
  have hi := (List.getElem?_eq_some_iff.1 he).1
  obtain ⟨f, hf⟩ : ∃ f, l[fnd l k]? = some f := ⟨l[fnd l k]'(by omega), List.getElem?_eq_getElem (by omega)⟩
  have hn := fnd_at hf
  rcases Nat.lt_or_ge (fnd l k) i with h2 | h2
  · intro h3
    exact hn (bcmp_trans (hs.get h2 hf he) h3)
  · have : i = fnd l k := by omega
    subst this
    rw [hf] at he
    cases he
    exact hn
/-- what a search ends with -/
theorem fnd_is {l : List En} {k : List UInt8} {i : Nat} (hi : i ≤ l.length) (h1 : ∀ j e, j < i → l[j]? = some e → lt e.key k) (h2 : ∀ j e, i ≤ j → l[j]? = some e → ¬ lt e.key k) : i = fnd l k := by
  rcases Nat.lt_trichotomy i (fnd l k) with h | h | h
  · have hl := fnd_le l k
    obtain ⟨f, hf⟩ : ∃ f, l[i]? = some f := ⟨l[i]'(by omega), List.getElem?_eq_getElem (by omega)⟩
    exact absurd (fnd_lt h hf) (h2 i f (Nat.le_refl _) hf)
  · exact h
  · obtain ⟨f, hf⟩ : ∃ f, l[fnd l k]? = some f := ⟨l[fnd l k]'(by omega), List.getElem?_eq_getElem (by omega)⟩
    exact absurd (h1 _ f h hf) (fnd_at hf)
/-- is it there -/
def hit (l : List En) (k : List UInt8) : Bool := match l[fnd l k]? with
  | some e => e.key == k
  | none => false
theorem hit_none {l : List En} {k : List UInt8} (h : fnd l k = l.length) : hit l k = false := by unfold hit; rw [h, List.getElem?_eq_none (Nat.le_refl _)]
theorem hit_some {l : List En} {k : List UInt8} {e : En} (h : l[fnd l k]? = some e) : hit l k = (e.key == k) := by unfold hit; rw [h]
def put (l : List En) (k v : List UInt8) : List En := l.take (fnd l k) ++ ⟨k, v⟩ :: l.drop (fnd l k + if hit l k then 1 else 0)
def del (l : List En) (k : List UInt8) : List En := l.take (fnd l k) ++ l.drop (fnd l k + if hit l k then 1 else 0)
theorem fnd_cons_lt {e : En} {l : List En} {k : List UInt8} (h : lt e.key k) : fnd (e :: l) k = fnd l k + 1 := by show (if _ then _ else _) = _; rw [if_pos h]
theorem fnd_cons_not {e : En} {l : List En} {k : List UInt8} (h : ¬ lt e.key k) : fnd (e :: l) k = 0 := by show (if _ then _ else _) = _; rw [if_neg h]
theorem hit_cons_lt {e : En} {l : List En} {k : List UInt8} (h : lt e.key k) : hit (e :: l) k = hit l k := by unfold hit; rw [fnd_cons_lt h]; simp
theorem hit_cons_not {e : En} {l : List En} {k : List UInt8} (h : ¬ lt e.key k) : hit (e :: l) k = (e.key == k) := by unfold hit; rw [fnd_cons_not h]; simp
theorem put_nil (k v : List UInt8) : put [] k v = [⟨k, v⟩] := rfl
theorem put_lt {e : En} {l : List En} {k v : List UInt8} (h : lt e.key k) : put (e :: l) k v = e :: put l k v := by
  unfold put
  rw [hit_cons_lt h, fnd_cons_lt h, show fnd l k + 1 + (if hit l k = true then 1 else 0) = (fnd l k + if hit l k = true then 1 else 0) + 1 by omega]
  simp
theorem put_eq {e : En} {l : List En} {k v : List UInt8} (h : e.key = k) : put (e :: l) k v = ⟨k, v⟩ :: l := by
  have hn : ¬ lt e.key k := by rw [h]; exact lt_irrefl
  unfold put
  rw [hit_cons_not hn, fnd_cons_not hn]
  simp [h]
theorem put_gt {e : En} {l : List En} {k v : List UInt8} (h : lt k e.key) : put (e :: l) k v = ⟨k, v⟩ :: e :: l := by
  have hn : ¬ lt e.key k := lt_asymm h
  have hne : e.key ≠ k := fun q => by rw [q] at h; exact lt_irrefl h
  unfold put
  rw [hit_cons_not hn, fnd_cons_not hn]
  simp [hne]
theorem del_nil (k : List UInt8) : del [] k = [] := rfl
theorem del_lt {e : En} {l : List En} {k : List UInt8} (h : lt e.key k) : del (e :: l) k = e :: del l k := by
  unfold del
  rw [hit_cons_lt h, fnd_cons_lt h, show fnd l k + 1 + (if hit l k = true then 1 else 0) = (fnd l k + if hit l k = true then 1 else 0) + 1 by omega]
  simp
theorem del_eq {e : En} {l : List En} {k : List UInt8} (h : e.key = k) : del (e :: l) k = l := by
  have hn : ¬ lt e.key k := by rw [h]; exact lt_irrefl
  unfold del
  rw [hit_cons_not hn, fnd_cons_not hn]
  simp [h]
theorem del_gt {e : En} {l : List En} {k : List UInt8} (h : lt k e.key) : del (e :: l) k = e :: l := by
  have hn : ¬ lt e.key k := lt_asymm h
  have hne : e.key ≠ k := fun q => by rw [q] at h; exact lt_irrefl h
  unfold del
  rw [hit_cons_not hn, fnd_cons_not hn]
  simp [hne]
theorem mem_put {l : List En} {k v : List UInt8} {x : En} (h : x ∈ put l k v) : x = ⟨k, v⟩ ∨ x ∈ l := by
  unfold put at h
  rcases List.mem_append.1 h with h | h
  · exact Or.inr (List.mem_of_mem_take h)
  · rcases List.mem_cons.1 h with h | h
    · exact Or.inl h
    · exact Or.inr (List.mem_of_mem_drop h)
theorem mem_del {l : List En} {k : List UInt8} {x : En} (h : x ∈ del l k) : x ∈ l := by
  unfold del at h
  rcases List.mem_append.1 h with h | h
  · exact List.mem_of_mem_take h
  · exact List.mem_of_mem_drop h
theorem put_srt {l : List En} (hs : Srt l) (k v : List UInt8) : Srt (put l k v) := by
  induction l with
  | nil => rw [put_nil]; exact List.pairwise_singleton _ _
  | cons e l ih =>
    rcases tri e.key k with h | h | h
    · rw [put_lt h]
      refine List.pairwise_cons.2 ⟨fun x hx => ?_, ih hs.tail⟩
      rcases mem_put hx with rfl | hx
      · exact h
      · exact hs.head x hx
    · rw [put_eq h]
      refine List.pairwise_cons.2 ⟨fun x hx => ?_, hs.tail⟩
      have := hs.head x hx
      rw [h] at this
      exact this
    · rw [put_gt h]
      refine List.pairwise_cons.2 ⟨fun x hx => ?_, hs⟩
      rcases List.mem_cons.1 hx with rfl | hx
      · exact h
      · exact bcmp_trans h (hs.head x hx)
theorem del_srt {l : List En} (hs : Srt l) (k : List UInt8) : Srt (del l k) := by
  unfold del
  refine List.Pairwise.sublist ?_ hs
  refine List.Sublist.trans (List.Sublist.append (List.Sublist.refl _) ?_) (by rw [List.take_append_drop (fnd l k) l]; exact List.Sublist.refl _)
  rw [← List.drop_drop]
  exact List.drop_sublist _ _
theorem put_len {l : List En} (k v : List UInt8) : (put l k v).length = l.length + if hit l k then 0 else 1 := by
  have h1 := fnd_le l k
  have h2 : hit l k = true → fnd l k < l.length := fun h => by
    rcases Nat.lt_or_ge (fnd l k) l.length with q | q
    · exact q
    · rw [hit_none (by omega)] at h; cases h
  unfold put
  simp
  split
  · next h => have := h2 h; omega
  · omega
theorem del_len {l : List En} (k : List UInt8) : (del l k).length = l.length - if hit l k then 1 else 0 := by
  have h1 := fnd_le l k
  have h2 : hit l k = true → fnd l k < l.length := fun h => by
    rcases Nat.lt_or_ge (fnd l k) l.length with q | q
    · exact q
    · rw [hit_none (by omega)] at h; cases h
  unfold del
  simp
  split
  · next h => have := h2 h; omega
  · omega
/-- the value at a key -/
def look : List En → List UInt8 → Option (List UInt8)
  | [], _ => none
  | e :: l, k => if e.key = k then some e.val else look l k
theorem look_gt {l : List En} {k : List UInt8} (h : ∀ x ∈ l, lt k x.key) : look l k = none := by
  induction l with
  | nil => rfl
  | cons e l ih =>
    have h0 := h e List.mem_cons_self
    show (if e.key = k then _ else _) = _
    rw [if_neg (fun q => by rw [q] at h0; exact lt_irrefl h0)]
    exact ih fun x hx => h x (List.mem_cons_of_mem _ hx)
theorem look_fnd {l : List En} (hs : Srt l) (k : List UInt8) : look l k = if hit l k then (l[fnd l k]?).map (·.val) else none := by
  induction l with
  | nil => rfl
  | cons e l ih =>
    show (if e.key = k then _ else _) = _
    rcases tri e.key k with h | h | h
    · rw [if_neg (fun q => by rw [q] at h; exact lt_irrefl h), ih hs.tail, hit_cons_lt h, fnd_cons_lt h]
      simp
    · have hn : ¬ lt e.key k := by rw [h]; exact lt_irrefl
      rw [if_pos h, hit_cons_not hn, fnd_cons_not hn]
      simp [h]
    · have hn : ¬ lt e.key k := lt_asymm h
      have hne : e.key ≠ k := fun q => by rw [q] at h; exact lt_irrefl h
      rw [if_neg hne, hit_cons_not hn]
      simp [hne]
      exact look_gt fun x hx => bcmp_trans h (hs.head x hx)
theorem look_put {l : List En} (hs : Srt l) (k v j : List UInt8) : look (put l k v) j = if j = k then some v else look l j := by
  induction l with
  | nil => rw [put_nil]; show (if k = j then _ else _) = _; by_cases h : k = j <;> simp [h, look]; intro q; exact absurd q.symm h
  | cons e l ih =>
    rcases tri e.key k with h | h | h
    · rw [put_lt h]
      show (if e.key = j then _ else _) = if j = k then _ else (if e.key = j then _ else _)
      rw [ih hs.tail]
      by_cases h1 : e.key = j
      · rw [if_pos h1, if_pos h1, if_neg (fun q => by rw [h1, q] at h; exact lt_irrefl h)]
      · rw [if_neg h1, if_neg h1]
    · rw [put_eq h]
      show (if k = j then _ else _) = if j = k then _ else (if e.key = j then _ else _)
      rw [h]
      by_cases h1 : k = j
      · rw [if_pos h1, if_pos h1.symm]
      · rw [if_neg h1, if_neg (Ne.symm h1), if_neg h1]
    · rw [put_gt h]
      show (if k = j then _ else (if e.key = j then _ else _)) = if j = k then _ else (if e.key = j then _ else _)
      by_cases h1 : k = j
      · rw [if_pos h1, if_pos h1.symm]
      · rw [if_neg h1, if_neg (Ne.symm h1)]
theorem look_del {l : List En} (hs : Srt l) (k j : List UInt8) : look (del l k) j = if j = k then none else look l j := by
  induction l with
  | nil => rw [del_nil]; simp [look]
  | cons e l ih =>
    rcases tri e.key k with h | h | h
    · rw [del_lt h]
      show (if e.key = j then _ else _) = if j = k then _ else (if e.key = j then _ else _)
      rw [ih hs.tail]
      by_cases h1 : e.key = j
      · rw [if_pos h1, if_pos h1, if_neg (fun q => by rw [h1, q] at h; exact lt_irrefl h)]
      · rw [if_neg h1, if_neg h1]
    · rw [del_eq h]
      show _ = if j = k then _ else (if e.key = j then _ else _)
      rw [h]
      by_cases h1 : k = j
      · rw [if_pos h1.symm]
        subst h1
        exact look_gt fun x hx => by have := hs.head x hx; rw [h] at this; exact this
      · rw [if_neg (Ne.symm h1), if_neg h1]
    · rw [del_gt h]
      by_cases h1 : j = k
      · rw [if_pos h1]
        subst h1
        exact look_gt fun x hx => by
          rcases List.mem_cons.1 hx with rfl | hx
          · exact h
          · exact bcmp_trans h (hs.head x hx)
      · rw [if_neg h1]
theorem hit_look {l : List En} (hs : Srt l) (k : List UInt8) : hit l k = (look l k).isSome := by
  rw [look_fnd hs]
  by_cases h : hit l k = true
  · rw [if_pos h, h]
    unfold hit at h
    split at h
    · next e he => rw [he]; rfl
    · cases h
  · rw [if_neg h]
    simpa using h
/-- a sorted list of any -/
def srtd (l : List En) : List En := (l.take 200).foldl (fun out e => put out e.key e.val) []
theorem foldl_inv {α β : Type} (f : α → β → α) (P : α → Prop) (l : List β) (h : ∀ a b, b ∈ l → P a → P (f a b)) : ∀ a, P a → P (l.foldl f a) := by
  induction l with
  | nil => intro a ha; exact ha
  | cons b l ih => intro a ha; exact ih (fun a c hc => h a c (List.mem_cons_of_mem _ hc)) _ (h a b List.mem_cons_self ha)
theorem srtd_srt (l : List En) : Srt (srtd l) := foldl_inv _ Srt _ (fun a b _ h => put_srt h _ _) _ Srt.nil
theorem srtd_mem {l : List En} {x : En} (h : x ∈ srtd l) : x ∈ l := by
  have : ∀ x ∈ srtd l, x ∈ l := foldl_inv _ (fun (out : List En) => ∀ x ∈ out, x ∈ l) _ (fun a b hb h x hx => by
    rcases mem_put hx with rfl | hx
    · exact List.mem_of_mem_take hb
    · exact h x hx) _ (by simp)
  exact this x h
/-- the list so far -/
def srt_upto (l : List En) (k : Nat) : List En := (l.take k).foldl (fun out e => put out e.key e.val) []
theorem srt_upto_succ {l : List En} {k : Nat} {e : En} (h : l[k]? = some e) : srt_upto l (k + 1) = put (srt_upto l k) e.key e.val := by
  unfold srt_upto
  rw [List.take_add_one, h, List.foldl_append]
  rfl
theorem srt_upto_len (l : List En) : ∀ k, (srt_upto l k).length ≤ k
  | 0 => by simp [srt_upto]
  | k + 1 => by
    have := srt_upto_len l k
    cases h : l[k]? with
    | none =>
      have e : srt_upto l (k + 1) = srt_upto l k := by unfold srt_upto; rw [List.take_add_one, h]; simp
      rw [e]; omega
    | some e => rw [srt_upto_succ h, put_len]; split <;> omega
theorem srt_upto_srt (l : List En) (k : Nat) : Srt (srt_upto l k) := foldl_inv _ Srt _ (fun a b _ h => put_srt h _ _) _ Srt.nil
theorem srtd_upto (l : List En) : srtd l = srt_upto l 200 := rfl
theorem srtd_len (l : List En) : (srtd l).length ≤ 200 := srt_upto_len l 200
theorem srt_upto_all {l : List En} {k : Nat} (h : l.length ≤ k) (h2 : k ≤ 200) : srt_upto l k = srtd l := by
  rw [srtd_upto]; unfold srt_upto; rw [List.take_of_length_le h, List.take_of_length_le (by omega)]
/-- sizes -/
def sz (e : En) : Nat := 2 + e.key.length + e.val.length
def tot (l : List En) : Nat := (l.map sz).sum
theorem tot_nil : tot [] = 0 := rfl
theorem tot_cons (e : En) (l : List En) : tot (e :: l) = sz e + tot l := by simp [tot]
theorem tot_append (a b : List En) : tot (a ++ b) = tot a + tot b := by simp [tot]
theorem tot_take {l : List En} {k : Nat} {e : En} (h : l[k]? = some e) : tot (l.take (k + 1)) = tot (l.take k) + sz e := by
  rw [List.take_add_one, h, tot_append]; simp [tot]
theorem tot_split (l : List En) (k : Nat) : tot (l.take k) + tot (l.drop k) = tot l := by rw [← tot_append, List.take_append_drop]
theorem tot_len (l : List En) : 2 * l.length ≤ tot l := by
  induction l with
  | nil => simp
  | cons e l ih => rw [tot_cons]; simp [sz]; omega
/-- it may not stand in a page -/
def lng (e : En) : Bool := decide (100 < e.key.length) || decide (150 < e.val.length)
theorem lng_sz {e : En} (h : lng e = false) : e.key.length ≤ 100 ∧ e.val.length ≤ 150 := by simp [lng] at h; omega
theorem tot_short {l : List En} (h : ∀ e ∈ l, lng e = false) : tot l ≤ 252 * l.length := by
  induction l with
  | nil => simp [tot]
  | cons e l ih =>
    have := lng_sz (h e List.mem_cons_self)
    have := ih fun x hx => h x (List.mem_cons_of_mem _ hx)
    rw [tot_cons]; simp [sz]; omega
theorem tot_put (l : List En) (k v : List UInt8) : tot (put l k v) ≤ tot l + sz ⟨k, v⟩ := by
  unfold put
  rw [tot_append, tot_cons]
  have h1 := tot_split l (fnd l k)
  have h2 := tot_split (l.drop (fnd l k)) (if hit l k then 1 else 0)
  rw [List.drop_drop] at h2
  omega
end Go.Proofs.YtcmmbdcflblekaaGreatDoor

/- Small things for the walks; the order of two texts. -/
namespace Go.Proofs.YtcmmbdcflblekaaGreatDoor
set_option maxRecDepth 100000
set_option linter.unusedVariables false
set_option linter.unusedSimpArgs false
open Go.RowKit
structure Hid (p : Prop) : Prop where
  out : p
abbrev str (l : List UInt8) : Value := .string ⟨l.toArray⟩
/-- an entry as a value -/
abbrev pv (p : En) : Value := .agg #[str p.key, str p.val]
theorem str_size (l : List UInt8) : (⟨l.toArray⟩ : ByteArray).size = l.length := by simp [ByteArray.size]
theorem str_toList (l : List UInt8) : (⟨l.toArray⟩ : ByteArray).toList = l := by rw [ByteArray.toList_eq]
theorem bcmp_lib : ∀ a b, Lib.compareBytes a b = bcmp a b
  | [], [] => by simp [Lib.compareBytes, bcmp]
  | [], _ :: _ => by simp [Lib.compareBytes, bcmp]
  | _ :: _, [] => by simp [Lib.compareBytes, bcmp]
  | x :: a, y :: b => by
    simp only [Lib.compareBytes, bcmp, bcmp_lib a b, UInt8.lt_iff_toNat_lt]
theorem bytesLess_eq : ∀ a b, Go.Op.bytesLess a b = decide (bcmp a b = -1)
  | [], [] => by simp [Go.Op.bytesLess, bcmp]
  | [], _ :: _ => by simp [Go.Op.bytesLess, bcmp]
  | _ :: _, [] => by simp [Go.Op.bytesLess, bcmp]
  | x :: a, y :: b => by
    have hxy : (x == y) = decide (x.toNat = y.toNat) := by
      by_cases e : x = y
      · subst e; simp
      · rw [beq_eq_false_iff_ne.2 e]; symm; rw [decide_eq_false_iff_not]; exact fun h => e (UInt8.toNat.inj h)
    simp only [Go.Op.bytesLess, bcmp, bytesLess_eq a b, UInt8.lt_iff_toNat_lt, hxy]
    repeat' split
    · next h => simp [h]
    · next h1 h2 => simp [h1]; omega
    · next h1 h2 => simp [h1]; omega
noncomputable def slS (v : Value) (a b c : Option Value) : Sem Value := Instr.slice 9 v a b c
theorem sl9 (v : Value) (a b c : Option Value) : Instr.slice 9 v a b c = slS v a b c := rfl
noncomputable def ixS (v i : Value) : Sem Value := Instr.index 9 v i
theorem ix9 (v i : Value) : Instr.index 9 v i = ixS v i := rfl
theorem mk_ext (s : ByteArray) (i j : Nat) : s.extract i j = ⟨((s.data.toList.drop i).take (j - i)).toArray⟩ := by
  apply ByteArray.ext
  apply Array.ext'
  simp [ByteArray.data_extract, List.extract_eq_take_drop]
theorem run_hi (l : List UInt8) (j : Nat) (h : j ≤ l.length) (hl : l.length ≤ 9223372036854775807) (w : World) : (slS (str l) none (some (.int .i64 (j : Int))) none).run Tryz.prog w = .ok (str (l.take j)) w := by
  unfold slS
  rw [run_slice_string_h (P := Tryz.prog) w 9 _ Tryz.underlying9 .i64 j (by omega) (by rw [str_size]; omega), mk_ext]
  simp
theorem run_mid (l : List UInt8) (i j : Nat) (h1 : i ≤ j) (h2 : j ≤ l.length) (hl : l.length ≤ 9223372036854775807) (w : World) : (slS (str l) (some (.int .i64 (i : Int))) (some (.int .i64 (j : Int))) none).run Tryz.prog w = .ok (str ((l.drop i).take (j - i))) w := by
  unfold slS
  rw [run_slice_string_if (P := Tryz.prog) (w := w) 9 _ .i64 .i64 i j Tryz.underlying9, if_pos ⟨by omega, by rw [str_size]; omega⟩, if_pos ⟨by omega, by omega⟩, mk_ext]
  simp
theorem run_lo (l : List UInt8) (i : Nat) (h : i ≤ l.length) (hl : l.length ≤ 9223372036854775807) (w : World) : (slS (str l) (some (.int .i64 (i : Int))) none none).run Tryz.prog w = .ok (str (l.drop i)) w := by
  unfold slS
  rw [run_slice_string_l (P := Tryz.prog) w 9 _ Tryz.underlying9 .i64 i (by omega) (by rw [str_size]; omega)]
  have e : (⟨l.toArray⟩ : ByteArray).extract ((i : Int)).toNat (⟨l.toArray⟩ : ByteArray).size = ⟨(l.drop i).toArray⟩ := by
    rw [mk_ext, str_size]
    congr 2
    simp
    rw [List.take_of_length_le (by simp)]
  exact congrArg (fun x => Result.ok (Value.string x) w) e
theorem run_ix (l : List UInt8) (p : Nat) (h : p < l.length) (w : World) : (ixS (str l) (.int .i64 (p : Int))).run Tryz.prog w = .ok (.int .u8 ((l.getD p 0).toNat : Int)) w := by
  unfold ixS
  rw [run_index_string _ _ _ _ _ Tryz.underlying9]
  have h2 : (0 : Int) ≤ (p : Int) ∧ (p : Int) < (⟨l.toArray⟩ : ByteArray).size := by rw [str_size]; omega
  rw [dif_pos h2]
  congr 4
  rw [List.getD_eq_getElem?_getD, List.getElem?_eq_getElem h]
  rfl
end Go.Proofs.YtcmmbdcflblekaaGreatDoor

/- Rows of bytes of one's own; what an append does to them. -/
namespace Go.Proofs.YtcmmbdcflblekaaGreatDoor
set_option maxRecDepth 100000
set_option linter.unusedVariables false
set_option linter.unusedSimpArgs false
open Go.RowKit
def vals (l : List UInt8) : List Value := l.map fun b => Value.int .u8 b.toNat
theorem vals_append (a b : List UInt8) : vals (a ++ b) = vals a ++ vals b := List.map_append ..
theorem vals_length (a : List UInt8) : (vals a).length = a.length := List.length_map ..
theorem vals_str (l : List UInt8) : Lib.strCells ⟨l.toArray⟩ = vals l := by simp [Lib.strCells, vals]
theorem info5f : (Tryz.prog.info? 5).map (fun i => (i.zero, i.size, i.bytes)) = some (some (.int .u8 0), 1, 1) := by kernel_rfl
theorem info5 : ∃ i, Tryz.prog.info? 5 = some i ∧ i.zero = some (.int .u8 0) ∧ i.size = 1 ∧ i.bytes = 1 := by
  have := info5f
  cases hq : Tryz.prog.info? 5 with
  | none => rw [hq] at this; cases this
  | some i => rw [hq] at this; simp at this; exact ⟨i, rfl, this.1, this.2.1, this.2.2⟩
theorem below_seq {w w1 w2 : World} (a : Below w.heap.size w w1) (b : Below w1.heap.size w1 w2) : Below w.heap.size w w2 := a.trans (b.mono a.size)
/-- a row of bytes of its own, made behind 'base' -/
structure Ob (base : Nat) (w : World) (v : Value) (L : List UInt8) : Prop where
  own : w.ownsRow base 5 1 v L.length (vals L)
  le : base ≤ w.heap.size
theorem Ob.nil (w : World) (base : Nat) (h : base ≤ w.heap.size) : Ob base w (.slice none 0 0) [] := ⟨World.ownsRow_nil _ _ _ _, h⟩
theorem Ob.alloc {base : Nat} {w : World} {v : Value} {L : List UInt8} (h : Ob base w v L) (o : Obj) : Ob base (w.alloc o) v L := ⟨h.own.alloc o, by have := h.le; simp; omega⟩
theorem Ob.drew {base : Nat} {w : World} {v : Value} {L : List UInt8} (h : Ob base w v L) : Ob base w.drew v L := ⟨h.own.drew, h.le⟩
theorem Ob.drewN {base : Nat} {w : World} {v : Value} {L : List UInt8} (h : Ob base w v L) (n : Nat) : Ob base (w.drewN n) v L := ⟨h.own, h.le⟩
theorem grown_below {base : Nat} {w w' : World} {v : Value} {n : Nat} {e : TypeId} {size : Nat} {xs : List Value} (hown : w.ownsRow base e size v n xs) (hle : base ≤ w.heap.size) (hg : w.grownBy w' v.ownBlock) : Below base w w' :=
  (Below.refl _ _).grown hg hle (fun k0 hk0 => (hown.lt k0 hk0).1)
/-- later, when nothing that lay there has changed -/
theorem own_later {base : Nat} {w w' : World} {v : Value} {n : Nat} {e : TypeId} {size : Nat} {xs : List Value} (hown : w.ownsRow base e size v n xs) (hb : Below w.heap.size w w') : w'.ownsRow base e size v n xs := by
  refine ⟨hown.1, ?_⟩
  rcases hown.2 with h | ⟨g, cap, cur, h1, h2, h3, h4⟩
  · exact Or.inl h
  · refine Or.inr ⟨g, cap, cur, h1, h2, ?_, h4⟩
    rw [hb.block g (by rcases Nat.lt_or_ge g w.heap.size with q | q
                       · exact q
                       · rw [Array.getElem?_eq_none q] at h3; cases h3)]
    exact h3
theorem Ob.later {base : Nat} {w w' : World} {v : Value} {L : List UInt8} (h : Ob base w v L) (hb : Below w.heap.size w w') : Ob base w' v L := ⟨own_later h.own hb, Nat.le_trans h.le hb.size⟩
theorem app_bytek {ops : Array Oper} {rest : List Oper} {o : Oper} {a : Act} {Q : Exit → Act → World → Prop} {base : Nat} {w : World} {v : Value} {L : List UInt8} {c : Int} {g : Nat} (C : UInt8) (hO : Ob base w v L) (hg : g = w.heap.size) (hn : L.length ≤ 200000000000000) (hC : c = (C.toNat : Int))
    (hgd : o.guard = none) (s x : Operand) (ho : o.op = .call { callee := .builtin .append, args := #[s, x], argTypes := #[47, 47] })
    (hs : a.eval s = v) (hx : a.eval x = .slice (some ⟨g, 0, none⟩) 1 1)
    (h : ∀ v' w', Ob base w' v' (L ++ [C]) → Below base w w' → (∀ k, k < w.heap.size → v.ownBlock ≠ some k → w'.heap[k]? = w.heap[k]?) → wpList Tryz.prog ops Q rest (a.put o.dst v') w') : wpList Tryz.prog ops Q (o :: rest) a (w.alloc (.cells #[.int .u8 c] 5)) := by
  obtain ⟨i0, hi0, hz0, hz1, hz2⟩ := info5
  subst hC hg
  have hm : maxLen = 9223372036854775807 := rfl
  refine wpList_append_own_wide _ hgd s x 47 ho base 5 i0 _ 1 1 Tryz.underlying47 hi0 hz0 hz1 hz2 rfl (by omega) v L.length (vals L) hs (hO.own.alloc _) _ 1 1 [.int .u8 C.toNat] hx rfl
    (World.news_of_block (cs := #[.int .u8 C.toNat]) (t := 5) (fr := (0, 0)) (heap_alloc_new w _)) (by simp [Value.oneCell']) (by rw [hm]; omega) (by omega) (by have := hO.le; simp; omega) ?_
  intro v' w' hown hgrow _
  refine h v' w' ⟨?_, ?_⟩ ?_ ?_
  · rw [vals_append, List.length_append]; exact hown
  · have := hgrow.size; have h2 := hO.le; simp at this; omega
  · exact ((Below.refl _ _).alloc hO.le _).trans (grown_below (hO.own.alloc _) (by have := hO.le; simp; omega) hgrow)
  · intro k hk hne
    rw [hgrow.block k (by simp; omega) (Ne.symm hne), heap_alloc_old _ _ hk]
theorem app_byteg {ops : Array Oper} {rest : List Oper} {o : Oper} {a : Act} {Q : Exit → Act → World → Prop} {base : Nat} {w : World} {v : Value} {L : List UInt8} {c : Int} {g : Nat} (C : UInt8) (hO : Ob base w v L) (hg : g = w.heap.size) (hn : L.length ≤ 200000000000000) (hC : c = (C.toNat : Int))
    (hgd : o.guard = none) (s x : Operand) (ho : o.op = .call { callee := .builtin .append, args := #[s, x], argTypes := #[47, 47] })
    (hs : a.eval s = v) (hx : a.eval x = .slice (some ⟨g, 0, none⟩) 1 1)
    (h : ∀ v' w', Ob base w' v' (L ++ [C]) → Below base w w' → wpList Tryz.prog ops Q rest (a.put o.dst v') w') : wpList Tryz.prog ops Q (o :: rest) a (w.alloc (.cells #[.int .u8 c] 5)) :=
  app_bytek C hO hg hn hC hgd s x ho hs hx fun v' w' h1 h2 _ => h v' w' h1 h2
theorem app_byte {ops : Array Oper} {rest : List Oper} {o : Oper} {a : Act} {Q : Exit → Act → World → Prop} {base : Nat} {w : World} {v : Value} {L : List UInt8} {c : Int} (C : UInt8) (hO : Ob base w v L) (hn : L.length ≤ 200000000000000) (hC : c = (C.toNat : Int))
    (hgd : o.guard = none) (s x : Operand) (ho : o.op = .call { callee := .builtin .append, args := #[s, x], argTypes := #[47, 47] })
    (hs : a.eval s = v) (hx : a.eval x = .slice (some ⟨w.heap.size, 0, none⟩) 1 1)
    (h : ∀ v' w', Ob base w' v' (L ++ [C]) → Below base w w' → wpList Tryz.prog ops Q rest (a.put o.dst v') w') : wpList Tryz.prog ops Q (o :: rest) a (w.alloc (.cells #[.int .u8 c] 5)) :=
  app_byteg C hO rfl hn hC hgd s x ho hs hx h
theorem run_append_str (w : World) {base : Nat} {v : Value} {L : List UInt8} (l : List UInt8) (ty : TypeId) (hO : Ob base w v L) (hn : L.length + l.length ≤ 200000000000000) :
    ∃ v' w', (Builtin.append_ #[47, 9] ty #[v, str l]).run Tryz.prog w = .ok v' w' ∧ Ob base w' v' (L ++ l) ∧ Below base w w' := by
  obtain ⟨i0, hi0, hz0, hz1, hz2⟩ := info5
  have hm : maxLen = 9223372036854775807 := rfl
  by_cases small : L.length + l.length ≤ 140737488355328
  · obtain ⟨v', w', hr, hown, hgrow, _⟩ := Lib.run_append_own_string (P := Tryz.prog) w base 47 9 ty 5 i0 Tryz.underlying47 Tryz.underlying9 hi0 hz0 hz1 hz2 v L.length (vals L) hO.own ⟨l.toArray⟩ (by rw [str_size, hm]; omega) (by rw [str_size]; exact small) hO.le
    refine ⟨v', w', hr, ⟨?_, ?_⟩, grown_below hO.own hO.le hgrow⟩
    · rw [vals_append, List.length_append, ← vals_str l]; rw [str_size] at hown; exact hown
    · have := hgrow.size; have h2 := hO.le; omega
  · have hls : (⟨l.toArray⟩ : ByteArray).size = l.length := str_size l
    have grown : ∀ (old : Nat), old < L.length + l.length →
        Ob base (w.drew.alloc (.cells ((vals L).toArray ++ (vals l).toArray ++ Builtin.zeroCells (Value.int .u8 0).cells (grownCap w (L.length + l.length) old 5 - (L.length + l.length))) 5))
          (.slice (some ⟨w.heap.size, 0, none⟩) (L.length + l.length) (grownCap w (L.length + l.length) old 5)) (L ++ l) ∧
        Below base w (w.drew.alloc (.cells ((vals L).toArray ++ (vals l).toArray ++ Builtin.zeroCells (Value.int .u8 0).cells (grownCap w (L.length + l.length) old 5 - (L.length + l.length))) 5)) := by
      intro old ho
      have hge := grownCap_ge w (L.length + l.length) old 5
      have hcm : grownCap w (L.length + l.length) old 5 ≤ maxLen := grownCap_le_maxLen w _ _ _ (by rw [hm]; omega)
      have hlen : (vals (L ++ l)).length = L.length + l.length := by rw [vals_length, List.length_append]
      refine ⟨⟨⟨by rw [vals_length]; simp, Or.inr ⟨w.heap.size, _, _, ?_, hO.le, heap_alloc_new w.drew _, ?_, hcm, ?_, ?_⟩⟩, by have := hO.le; simp; omega⟩, (Below.refl _ _).drew.alloc hO.le _⟩
      · rw [List.length_append]
      · rw [List.length_append]; exact hge
      · have hz1 : (Value.int IntKind.u8 0).cells.size = 1 := rfl
        simp only [Array.size_append, List.size_toArray, size_zeroCells, hz1, vals_length]
        omega
      · simp only [Array.toList_append, List.append_assoc]
        rw [← List.append_assoc, ← vals_append, List.length_append, Nat.mul_one, ← hlen]
        exact List.take_left
    rcases hO.own.2 with ⟨rfl, hL0⟩ | ⟨g, cap, cur, rfl, hbg, hg, hnc, hcm, hcs, htake⟩
    · have e0 : L = [] := List.eq_nil_of_length_eq_zero hL0
      subst e0
      have hr := run_append_nil_string (P := Tryz.prog) w 47 9 ty 5 i0 (.int .u8 0) Tryz.underlying47 Tryz.underlying9 hi0 hz0 ⟨l.toArray⟩ (by rw [hls]; simp at small; omega) (by rw [hls]; simp at hn; omega) (by rw [hls, hz2]; simp at hn; omega)
      have hgr := grown 0 (by simp at small ⊢; omega)
      have e1 : ((⟨l.toArray⟩ : ByteArray).data.map fun b => Value.int .u8 b.toNat) = (vals l).toArray := by simp [vals]
      rw [e1, hls] at hr
      simp only [List.length_nil, Nat.zero_add, List.nil_append, vals, List.map_nil, Array.empty_append] at hgr hr ⊢
      exact ⟨_, _, hr, hgr.1, hgr.2⟩
    · by_cases hroom : L.length + l.length ≤ cap
      · have hcs' : cur.size = cap := by simpa using hcs
        have hr := Lib.run_append_room_string (P := Tryz.prog) w 47 9 ty 5 i0 Tryz.underlying47 Tryz.underlying9 hi0 hz1 g L.length cap cur hg ⟨l.toArray⟩ (by rw [hls]; exact hroom) (by rw [hls]; omega)
        rw [hls, vals_str] at hr
        have ht' : cur.toList.take L.length = vals L := by simpa using htake
        refine ⟨_, _, hr, ⟨⟨by rw [vals_length]; simp, Or.inr ⟨g, cap, _, by rw [List.length_append], hbg, setRow_heap w g cur _ 5 _ hg, by rw [List.length_append]; exact hroom, hcm, ?_, ?_⟩⟩, ?_⟩, ?_⟩
        · simp only [List.size_toArray, List.length_append, List.length_take, List.length_drop, Array.length_toList, vals_length]
          omega
        · rw [ht', ← vals_append, Nat.mul_one, ← vals_length (L ++ l)]
          exact List.take_left
        · have h2 := hO.le; simpa using h2
        · exact grown_below hO.own hO.le ⟨rfl, rfl, rfl, by simp, fun k _ hk => setRow_other w g k _ (fun e => hk (by simp [Value.ownBlock, e]))⟩
      · have holds : ∀ j u, (vals L)[j]? = some u → w.cell? ((⟨g, 0, none⟩ : Addr).add j) = some u := hO.own.cells (g := g) rfl
        have hr := Lib.run_append_grow_string (P := Tryz.prog) w 47 9 ty 5 i0 (.int .u8 0) Tryz.underlying47 Tryz.underlying9 hi0 hz0 ⟨g, 0, none⟩ L.length cap (vals L) (by rw [hz1, vals_length]; simp) holds ⟨l.toArray⟩ (by rw [hls]; omega) (by rw [hls]; omega) (by rw [hz2, hls]; exact growslice_fits_wide (by omega) (by omega))
        rw [hls, vals_str] at hr
        have hgr := grown cap (by omega)
        exact ⟨_, _, hr, hgr.1, hgr.2⟩
theorem app_str {ops : Array Oper} {rest : List Oper} {o : Oper} {a : Act} {Q : Exit → Act → World → Prop} {base : Nat} {w : World} {v : Value} {L : List UInt8} (l : List UInt8) (hO : Ob base w v L) (hn : L.length + l.length ≤ 200000000000000)
    (hgd : o.guard = none) (s x : Operand) (ho : o.op = .call { callee := .builtin .append, args := #[s, x], argTypes := #[47, 9] })
    (hs : a.eval s = v) (hx : a.eval x = str l)
    (h : ∀ v' w', Ob base w' v' (L ++ l) → Below base w w' → wpList Tryz.prog ops Q rest (a.put o.dst v') w') : wpList Tryz.prog ops Q (o :: rest) a w := by
  refine wpList_plain hgd fun K hK => ?_
  obtain ⟨v', w', hr, h2, h3⟩ := run_append_str w l o.type hO hn
  unfold Oper.wp execOp
  simp only [ho, resolve, invoke, builtin, Sem.run_bind, Sem.run_pure, Result.andThen_ok, List.map_toArray, List.map_cons, List.map_nil, hs, hx, hr]
  exact hK _ _ (h v' w' h2 h3)
theorem conv_own {base : Nat} {w : World} {v : Value} {l : List UInt8} (h : Ob base w v l) : (convert 47 9 v).run Tryz.prog w = .ok (str l) w := by
  rcases h.own.2 with ⟨rfl, h0⟩ | ⟨g, cap, cur, rfl, _, _⟩
  · have : l = [] := List.eq_nil_of_length_eq_zero h0
    subst this
    exact run_convert_bytes_nil w 47 5 Tryz.underlying47 Tryz.underlying5 0 0 9 Tryz.underlying9
  · refine run_convert_bytes_back w 47 9 5 ⟨g, 0, none⟩ cap l Tryz.underlying47 Tryz.underlying5 Tryz.underlying9 ?_
    intro j hj
    have hadd : (⟨g, 0, none⟩ : Addr).add j = ⟨g, j, none⟩ := by unfold Addr.add; split <;> simp_all
    rw [hadd, h.own.cellAt j (by simpa using hj)]
    simp [vals, hj]
end Go.Proofs.YtcmmbdcflblekaaGreatDoor

/- Rows of entries: where they lie, one's own, what an append does to them. -/
namespace Go.Proofs.YtcmmbdcflblekaaGreatDoor
set_option maxRecDepth 100000
set_option linter.unusedVariables false
set_option linter.unusedSimpArgs false
open Go.RowKit
theorem below_dN {B : Nat} {a w : World} (h : Below B a w) (n : Nat) : Below B a (w.drewN n) := ⟨h.os, h.tape, h.output, h.size, h.block⟩
/-- an entry's cells -/
def pcs (p : En) : List Value := [str p.key, str p.val]
def pcells (l : List En) : List Value := (l.map pcs).flatten
theorem pcells_append (a b : List En) : pcells (a ++ b) = pcells a ++ pcells b := by simp [pcells]
theorem pcells_length (l : List En) : (pcells l).length = l.length * 2 := by
  induction l with
  | nil => rfl
  | cons p l ih => simp [pcells, pcs] at ih ⊢; omega
theorem pcells_get {l : List En} {k : Nat} {p : En} (h : l[k]? = some p) : (pcells l)[k * 2]? = some (str p.key) ∧ (pcells l)[k * 2 + 1]? = some (str p.val) := by
  obtain ⟨hk, he⟩ := List.getElem?_eq_some_iff.1 h
  have e : l = l.take k ++ (p :: l.drop (k + 1)) := by
    rw [← he, List.getElem_cons_drop]
    simp
  have e2 : pcells l = pcells (l.take k) ++ (pcs p ++ pcells (l.drop (k + 1))) := by
    conv => lhs; rw [e]
    rw [pcells_append]
    rfl
  have hl : (pcells (l.take k)).length = k * 2 := by rw [pcells_length, List.length_take]; omega
  rw [e2]
  refine ⟨?_, ?_⟩
  · rw [List.getElem?_append_right (by omega), hl, show k * 2 - k * 2 = 0 by omega]; rfl
  · rw [List.getElem?_append_right (by omega), hl, show k * 2 + 1 - k * 2 = 1 by omega]; rfl
theorem pcells_one (l : List En) : ∀ u ∈ pcells l, u.oneCell' = true := by
  intro u hu
  unfold pcells at hu
  rw [List.mem_flatten] at hu
  obtain ⟨x, hx, hu⟩ := hu
  obtain ⟨p, _, rfl⟩ := List.mem_map.1 hx
  simp [pcs] at hu
  rcases hu with rfl | rfl <;> rfl
theorem infoPf : (Tryz.prog.info? 49).map (fun i => (i.zero, i.size, i.bytes)) = some (some (.agg #[.string ⟨#[]⟩, .string ⟨#[]⟩]), 2, 32) := by kernel_rfl
theorem infoP : ∃ i, Tryz.prog.info? 49 = some i ∧ i.zero = some (.agg #[.string ⟨#[]⟩, .string ⟨#[]⟩]) ∧ i.size = 2 ∧ i.bytes = 32 := by
  have := infoPf
  cases hq : Tryz.prog.info? 49 with
  | none => rw [hq] at this; cases this
  | some i => rw [hq] at this; simp at this; exact ⟨i, rfl, this.1, this.2.1, this.2.2⟩
/-- the list that a slice holds -/
structure PIn (w : World) (a : Option Addr) (l : List En) : Prop where
  get : ∀ k p, l[k]? = some p → ∃ b off, a = some ⟨b, off, none⟩ ∧ b < w.heap.size ∧ w.cell? ⟨b, off + k * 2, none⟩ = some (str p.key) ∧ w.cell? ⟨b, off + k * 2 + 1, none⟩ = some (str p.val)
theorem PIn.later {w w' : World} {a : Option Addr} {l : List En} (h : PIn w a l) (hb : Below w.heap.size w w') : PIn w' a l := by
  refine ⟨fun k p hk => ?_⟩
  obtain ⟨b, off, h1, h2, h3, h4⟩ := h.get k p hk
  exact ⟨b, off, h1, Nat.lt_of_lt_of_le h2 hb.size, by rw [hb.cell (p := ⟨b, _, none⟩) h2]; exact h3, by rw [hb.cell (p := ⟨b, _, none⟩) h2]; exact h4⟩
theorem PIn.take {w : World} {a : Option Addr} {l : List En} (h : PIn w a l) (n : Nat) : PIn w a (l.take n) := ⟨fun k p hk => h.get k p (by
  by_cases hkn : k < n
  · rw [List.getElem?_take_of_lt hkn] at hk; exact hk
  · rw [List.getElem?_eq_none (by rw [List.length_take]; omega)] at hk; cases hk)⟩
theorem PIn.cells {w : World} {b off : Nat} {q : List En} (h : PIn w (some ⟨b, off, none⟩) q) : ∀ j u, (pcells q)[j]? = some u → w.cell? ((⟨b, off, none⟩ : Addr).add j) = some u := by
  intro j u hj
  have hadd : (⟨b, off, none⟩ : Addr).add j = ⟨b, off + j, none⟩ := by unfold Addr.add; split <;> simp_all
  rw [hadd]
  have hlt : j < (pcells q).length := (List.getElem?_eq_some_iff.1 hj).1
  rw [pcells_length] at hlt
  have hk : j / 2 < q.length := by omega
  obtain ⟨p, hp⟩ : ∃ p, q[j / 2]? = some p := ⟨q[j / 2], List.getElem?_eq_getElem hk⟩
  obtain ⟨c0, c1⟩ := pcells_get hp
  obtain ⟨b', off', e, _, k0, k1⟩ := h.get _ _ hp
  injection e with e
  injection e with e1 e2
  subst e1 e2
  rcases (by omega : j = j / 2 * 2 ∨ j = j / 2 * 2 + 1) with h | h
  · have hj' : (pcells q)[j / 2 * 2]? = some u := by rw [← h]; exact hj
    rw [c0] at hj'
    rw [show off + j = off + j / 2 * 2 by omega, k0]; exact hj'
  · have hj' : (pcells q)[j / 2 * 2 + 1]? = some u := by rw [← h]; exact hj
    rw [c1] at hj'
    rw [show off + j = off + j / 2 * 2 + 1 by omega, k1]; exact hj'
/-- a slice as it is told: where, how long, how much room -/
structure Sl (w : World) (a : Option Addr) (cap : Nat) (l : List En) : Prop where
  at' : PIn w a l
  le : l.length ≤ cap
  max : cap ≤ 9223372036854775807
  nil : a = none → cap = 0
theorem Sl.later {w w' : World} {a : Option Addr} {cap : Nat} {l : List En} (h : Sl w a cap l) (hb : Below w.heap.size w w') : Sl w' a cap l := ⟨h.at'.later hb, h.le, h.max, h.nil⟩
theorem Sl.take {w : World} {a : Option Addr} {cap : Nat} {l : List En} (h : Sl w a cap l) (n : Nat) : Sl w a cap (l.take n) := ⟨h.at'.take n, Nat.le_trans (by rw [List.length_take]; omega) h.le, h.max, h.nil⟩
theorem Sl.cut {w : World} {a : Option Addr} {cap : Nat} {l : List En} (h : Sl w a cap l) (n : Nat) (hn : n ≤ l.length) : Sl w a n (l.take n) := ⟨h.at'.take n, by rw [List.length_take]; omega, by have := h.le; have := h.max; omega, fun q => by have := h.nil q; have := h.le; omega⟩
/-- the part behind -/
def dropA (a : Option Addr) (cap n : Nat) : Option Addr := match a with
  | none => none
  | some ad => if cap - n = 0 then some ad else some (ad.add (n * 2))
theorem addr_add (b off j : Nat) : (⟨b, off, none⟩ : Addr).add j = ⟨b, off + j, none⟩ := by unfold Addr.add; split <;> simp_all
theorem Sl.drop {w : World} {a : Option Addr} {cap : Nat} {l : List En} (h : Sl w a cap l) (n : Nat) (hn : n ≤ l.length) : Sl w (dropA a cap n) (cap - n) (l.drop n) := by
  refine ⟨⟨fun k p hk => ?_⟩, by rw [List.length_drop]; have := h.le; omega, by have := h.max; omega, ?_⟩
  · rw [List.getElem?_drop] at hk
    obtain ⟨b, off, rfl, h1, h2, h3⟩ := h.at'.get _ _ hk
    have hlt : n + k < l.length := (List.getElem?_eq_some_iff.1 hk).1
    have hle := h.le
    refine ⟨b, off + n * 2, ?_, h1, ?_, ?_⟩
    · show (if cap - n = 0 then _ else _) = _
      rw [if_neg (by omega), addr_add]
    · rw [show off + n * 2 + k * 2 = off + (n + k) * 2 by omega]; exact h2
    · rw [show off + n * 2 + k * 2 = off + (n + k) * 2 by omega]; exact h3
  · intro q
    cases a with
    | none => have := h.nil rfl; omega
    | some ad =>
      unfold dropA at q
      simp only at q
      split at q <;> cases q
noncomputable def slP (v : Value) (a b c : Option Value) : Sem Value := Instr.slice 43 v a b c
theorem slPe (v : Value) (a b c : Option Value) : Instr.slice 43 v a b c = slP v a b c := rfl
theorem run_slP (a : Option Addr) (len cap n : Nat) (h1 : n ≤ cap) (h3 : cap ≤ 9223372036854775807) (hn : a = none → cap = 0) (w : World) : (slP (.slice a len cap) none (some (.int .i64 (n : Int))) none).run Tryz.prog w = .ok (.slice a n cap) w := by
  unfold slP
  cases a with
  | none =>
    obtain rfl := hn rfl
    obtain rfl : n = 0 := by omega
    simp [Instr.slice, Tryz.underlying43, go_sem]
  | some ad =>
    simp [Instr.slice, Tryz.underlying43, go_sem]
    intro hc
    omega
/-- a row of entries of its own, made behind 'base' -/
structure Ow (base : Nat) (w : World) (v : Value) (l : List En) : Prop where
  own : w.ownsRow base 49 2 v l.length (pcells l)
  le : base ≤ w.heap.size
theorem Ow.nil (w : World) (base : Nat) (h : base ≤ w.heap.size) : Ow base w (.slice none 0 0) [] := ⟨World.ownsRow_nil _ _ _ _, h⟩
theorem Ow.alloc {base : Nat} {w : World} {v : Value} {l : List En} (h : Ow base w v l) (o : Obj) : Ow base (w.alloc o) v l := ⟨h.own.alloc o, by have := h.le; simp; omega⟩
theorem Ow.drew {base : Nat} {w : World} {v : Value} {l : List En} (h : Ow base w v l) : Ow base w.drew v l := ⟨h.own.drew, h.le⟩
theorem Ow.drewN {base : Nat} {w : World} {v : Value} {l : List En} (h : Ow base w v l) (n : Nat) : Ow base (w.drewN n) v l := ⟨h.own, h.le⟩
theorem Ow.later {base : Nat} {w w' : World} {v : Value} {l : List En} (h : Ow base w v l) (hb : Below w.heap.size w w') : Ow base w' v l := ⟨own_later h.own hb, Nat.le_trans h.le hb.size⟩
theorem Ow.slice {base : Nat} {w : World} {v : Value} {l : List En} (h : Ow base w v l) : ∃ a cap, v = .slice a l.length cap ∧ PIn w a l := by
  rcases h.own.2 with ⟨rfl, h0⟩ | ⟨g, cap, cur, rfl, _⟩
  · have : l = [] := List.eq_nil_of_length_eq_zero h0
    subst this
    exact ⟨none, 0, rfl, ⟨fun k p hk => by simp at hk⟩⟩
  · refine ⟨_, _, rfl, ⟨fun k p hk => ?_⟩⟩
    obtain ⟨hkl, _⟩ := List.getElem?_eq_some_iff.1 hk
    obtain ⟨c0, c1⟩ := pcells_get hk
    have hlt := (h.own.lt g rfl).2
    have hp : (pcells l).length = l.length * 2 := pcells_length l
    refine ⟨g, 0, rfl, hlt, ?_, ?_⟩
    · rw [Nat.zero_add, h.own.cellAt _ (by omega), c0]
    · rw [Nat.zero_add, h.own.cellAt _ (by omega), c1]
theorem Ow.sl {base : Nat} {w : World} {v : Value} {l : List En} (h : Ow base w v l) : ∃ a cap, v = .slice a l.length cap ∧ Sl w a cap l := by
  obtain ⟨a, cap, rfl, hP⟩ := h.slice
  refine ⟨a, cap, rfl, hP, ?_, ?_, ?_⟩
  all_goals rcases h.own.2 with ⟨e, h0⟩ | ⟨g, cap', cur, e, _, _, h1, h2, _⟩
  all_goals injection e with e1 e2 e3
  all_goals subst e1 e3
  · omega
  · exact h1
  · omega
  · exact h2
  · intro _; rfl
  · intro h; cases h
theorem Ow.empty {base : Nat} (w : World) (h : base ≤ w.heap.size) : Ow base (w.alloc (.cells #[] 49)) (.slice (some ⟨w.heap.size, 0, none⟩) 0 0) [] :=
  ⟨⟨rfl, Or.inr ⟨w.heap.size, 0, #[], rfl, h, heap_alloc_new _ _, Nat.le_refl _, Nat.zero_le _, rfl, rfl⟩⟩, by simp; omega⟩
theorem Ow.base {b b' : Nat} {w : World} {v : Value} {l : List En} (h : Ow b w v l) (hb : b' ≤ b) : Ow b' w v l := by
  refine ⟨⟨h.own.1, ?_⟩, Nat.le_trans hb h.le⟩
  rcases h.own.2 with e | ⟨g, cap, cur, e1, e2, e3⟩
  · exact Or.inl e
  · exact Or.inr ⟨g, cap, cur, e1, Nat.le_trans hb e2, e3⟩
/-- one entry more behind one's own -/
theorem app_one {ops : Array Oper} {rest : List Oper} {o : Oper} {a : Act} {Q : Exit → Act → World → Prop} {W : World} (hgd : o.guard = none) (s x : Operand) (ho : o.op = .call { callee := .builtin .append, args := #[s, x], argTypes := #[43, 43] })
    {base : Nat} {w : World} {v : Value} {l : List En} {g : Nat} (p : En) (hW : W = w.alloc (.cells #[str p.key, str p.val] 49)) (hO : Ow base w v l) (hg : g = w.heap.size) (hn : l.length ≤ 1000000000000)
    (hs : a.eval s = v) (hx : a.eval x = .slice (some ⟨g, 0, none⟩) 1 1)
    (h : ∀ v' w', Ow base w' v' (l ++ [p]) → Below base w w' → wpList Tryz.prog ops Q rest (a.put o.dst v') w') :
    wpList Tryz.prog ops Q (o :: rest) a W := by
  obtain ⟨i0, hi0, hz0, hz1, hz2⟩ := infoP
  subst hW hg
  have hm : maxLen = 9223372036854775807 := rfl
  refine wpList_append_own_wide _ hgd s x 43 ho base 49 i0 _ 2 32 Tryz.underlying43 hi0 hz0 hz1 hz2 rfl (by omega) v l.length (pcells l) hs (hO.own.alloc _) _ 1 1 (pcs p) hx rfl
    (World.news_of_block (cs := #[str p.key, str p.val]) (t := 49) (fr := (0, 0)) (heap_alloc_new w _)) (by simp [pcs, Value.oneCell']) (by rw [hm]; omega) (by omega) (by have := hO.le; simp; omega) ?_
  intro v' w' hown hgrow _
  refine h v' w' ⟨?_, ?_⟩ ?_
  · rw [pcells_append, List.length_append]
    have : pcells [p] = pcs p := by simp [pcells]
    rw [this]; exact hown
  · have := hgrow.size; have h2 := hO.le; simp at this; omega
  · exact ((Below.refl _ _).alloc hO.le _).trans (grown_below (hO.own.alloc _) (by have := hO.le; simp; omega) hgrow)
/-- a list behind one's own -/
theorem app_slice {ops : Array Oper} {rest : List Oper} {o : Oper} {a : Act} {Q : Exit → Act → World → Prop} {w : World} (hgd : o.guard = none) (s x : Operand) (ho : o.op = .call { callee := .builtin .append, args := #[s, x], argTypes := #[43, 43] })
    {base : Nat} {v : Value} {l : List En} {ad : Option Addr} {k c : Nat} (q : List En) (hO : Ow base w v l) (hS : Sl w ad c q) (hk : q.length = k) (hn : l.length + q.length ≤ 1000000000000)
    (hs : a.eval s = v) (hx : a.eval x = .slice ad k c)
    (h : ∀ v' w', Ow base w' v' (l ++ q) → Below base w w' → wpList Tryz.prog ops Q rest (a.put o.dst v') w') :
    wpList Tryz.prog ops Q (o :: rest) a w := by
  obtain ⟨i0, hi0, hz0, hz1, hz2⟩ := infoP
  have hm : maxLen = 9223372036854775807 := rfl
  subst hk
  cases ad with
  | none =>
    have hc := hS.nil rfl
    have h0 : q.length = 0 := by have := hS.le; omega
    have hq : q = [] := List.eq_nil_of_length_eq_zero h0
    subst hq hc
    refine wpList_plain hgd fun K hK' => ?_
    have hrun := run_append_owned_none (P := Tryz.prog) w base 43 o.type 49 i0 2 Tryz.underlying43 hi0 _ l.length (pcells l) hO.own
    unfold Oper.wp
    simp [execOp, ho, resolve, invoke, builtin, hs, hx, hrun, Result.andThen]
    exact hK' _ _ (h v w (by simpa using hO) (Below.refl _ _))
  | some ad =>
    have hspot : q.length = 0 ∨ ad.spot = none := by
      rcases Nat.eq_zero_or_pos q.length with h0 | h0
      · exact Or.inl h0
      · obtain ⟨b, off, e, _⟩ := hS.at'.get 0 q[0] (List.getElem?_eq_getElem h0)
        injection e with e
        exact Or.inr (by rw [e])
    have hcells : ∀ j u, (pcells q)[j]? = some u → w.cell? (ad.add j) = some u := by
      rcases hspot with h0 | h0
      · intro j u hj
        have hq : q = [] := List.eq_nil_of_length_eq_zero h0
        subst hq
        simp [pcells] at hj
      · obtain ⟨b, off, sp⟩ := ad
        simp at h0
        subst h0
        exact hS.at'.cells
    refine wpList_append_own_wide _ hgd s x 43 ho base 49 i0 _ 2 32 Tryz.underlying43 hi0 hz0 hz1 hz2 rfl (by omega) v l.length (pcells l) hs hO.own ad q.length c (pcells q) hx (pcells_length q) hcells (pcells_one q) (by rw [hm]; omega) (by omega) hO.le ?_
    intro v' w' hown hgrow _
    refine h v' w' ⟨?_, ?_⟩ (grown_below hO.own hO.le hgrow)
    · rw [pcells_append, List.length_append]; exact hown
    · have := hgrow.size; have h2 := hO.le; omega
/-- one entry behind a part that is cut from its room -/
theorem app_full {ops : Array Oper} {rest : List Oper} {o : Oper} {a : Act} {Q : Exit → Act → World → Prop} {W : World} (hgd : o.guard = none) (s x : Operand) (ho : o.op = .call { callee := .builtin .append, args := #[s, x], argTypes := #[43, 43] })
    {base : Nat} {w : World} {ad : Option Addr} {l : List En} {n g : Nat} (p : En) (hW : W = w.alloc (.cells #[str p.key, str p.val] 49)) (hS : Sl w ad n l) (hln : l.length = n) (hg : g = w.heap.size) (hb : base ≤ w.heap.size) (hn : l.length ≤ 1000000000000)
    (hs : a.eval s = .slice ad n n) (hx : a.eval x = .slice (some ⟨g, 0, none⟩) 1 1)
    (h : ∀ v' w', Ow base w' v' (l ++ [p]) → Below base w w' → wpList Tryz.prog ops Q rest (a.put o.dst v') w') :
    wpList Tryz.prog ops Q (o :: rest) a W := by
  obtain ⟨i0, hi0, hz0, hz1, hz2⟩ := infoP
  subst hW hg hln
  have hm : maxLen = 9223372036854775807 := rfl
  have hS' := hS.later ((Below.refl _ _).alloc (Nat.le_refl _) (.cells #[str p.key, str p.val] 49))
  refine wpList_append_grows _ hgd s x 43 ho 49 i0 _ 2 32 Tryz.underlying43 hi0 hz0 hz1 hz2 rfl (by omega) ad l.length l.length (pcells l) hs (fun q => ⟨hS.nil q, hS.nil q⟩) (pcells_length l) ?_ ⟨w.heap.size, 0, none⟩ 1 1 (pcs p) hx rfl
    (World.news_of_block (cs := #[str p.key, str p.val]) (t := 49) (fr := (0, 0)) (heap_alloc_new w _)) (by simp [pcs, Value.oneCell']) (by omega) (by rw [hm]; omega) (by omega) ?_
  · intro b hb j u hj
    subst hb
    rcases Nat.eq_zero_or_pos l.length with h0 | h0
    · have hq : l = [] := List.eq_nil_of_length_eq_zero h0
      subst hq
      simp [pcells] at hj
    · obtain ⟨b', off, e, _⟩ := hS'.at'.get 0 l[0] (List.getElem?_eq_getElem h0)
      obtain rfl := Option.some.inj e
      exact hS'.at'.cells j u hj
  · intro v' w' hown hgrow
    have hgs := hgrow.size
    simp at hgs
    refine h v' w' ?_ ?_
    · refine Ow.base (b := (w.alloc (.cells #[str p.key, str p.val] 49)).heap.size) ⟨?_, hgrow.size⟩ (by simp; omega)
      rw [pcells_append, List.length_append]
      have : pcells [p] = pcs p := by simp [pcells]
      rw [this]; exact hown
    · exact ((Below.refl _ _).alloc hb _).trans ((Below.refl _ _).grown hgrow (by simp; omega) (fun k0 hk0 => by cases hk0))
theorem new2 {w w1 : World} {a b : Value} {t : TypeId} (h : Below (w.alloc (.cells #[a, b] t)).heap.size (w.alloc (.cells #[a, b] t)) w1) :
    w1.cell? ⟨w.heap.size, 0, none⟩ = some a ∧ w1.cell? ⟨w.heap.size, 1, none⟩ = some b := by
  have hr : w1.heap[w.heap.size]? = some (.cells #[a, b] t (0, 0)) := by rw [h.block _ (by simp)]; exact heap_alloc_new _ _
  exact ⟨by rw [cell_of_row _ _ _ _ _ _ hr]; rfl, by rw [cell_of_row _ _ _ _ _ _ hr]; rfl⟩
theorem take_succ' {l : List En} {k : Nat} {p : En} (h : l[k]? = some p) : l.take (k + 1) = l.take k ++ [p] := by rw [List.take_add_one, h]; rfl
/-- alike, as a test -/
noncomputable def same (a b : List En) : Bool := by classical exact decide (a = b)
theorem same_true {a b : List En} (h : a = b) : same a b = true := by unfold same; simp [h]
theorem same_false {a b : List En} (h : ¬ a = b) : same a b = false := by unfold same; simp [h]
theorem same_iff {a b : List En} : same a b = true ↔ a = b := by unfold same; simp
end Go.Proofs.YtcmmbdcflblekaaGreatDoor
