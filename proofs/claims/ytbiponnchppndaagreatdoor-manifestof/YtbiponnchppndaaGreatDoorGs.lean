import Derived.Test.YtbiponnchppndaaGreatDoorMm
import Derived.Test.YtbiponnchppndaaGreatDoorMRx
/- Which records may follow one another in a manifest; what is none. No model. -/
namespace Go.Proofs.YtbiponnchppndaaGreatDoor
set_option maxRecDepth 100000
set_option linter.unusedVariables false
set_option linter.unusedSimpArgs false
open Go.Proofs.YtbiponnchppndaaGreatDoorP (recd Rd key nn LEN)
open Go.Proofs.YtbiponnchppndaaGreatDoorH (hexL)
theorem bcmp_asym {a b : List UInt8} (h1 : bcmp a b < 0) (h2 : bcmp b a < 0) : False := by
  rw [bcmp_neg a b] at h2
  omega
theorem lt_neg {a b : List UInt8} (h : lt a b) : bcmp a b < 0 := by
  have h : bcmp a b = -1 := h
  omega
/-- a record's kind -/
def cl (p : Kv) : Nat :=
  if p.1 = sKind then 0 else if p.1 = sFormat then 1 else if p.1 = sNext then 2 else if p.1 = sSince then 3 else if p.1 = sCount then 4 else if p.1 = sKey then 5 else if p.1 = sSeq then 6 else if p.1 = sType then (if p.2 = sMarker then 7 else 12) else if p.1 = sSize then 8 else if p.1 = sLeaf then 10 else if p.1 = sEnd then 11 else 9
theorem cl_kind (v : List UInt8) : cl (sKind, v) = 0 := if_pos rfl
theorem cl_format (v : List UInt8) : cl (sFormat, v) = 1 := rfl
theorem cl_next (v : List UInt8) : cl (sNext, v) = 2 := rfl
theorem cl_since (v : List UInt8) : cl (sSince, v) = 3 := rfl
theorem cl_count (v : List UInt8) : cl (sCount, v) = 4 := rfl
theorem cl_key (v : List UInt8) : cl (sKey, v) = 5 := rfl
theorem cl_seq (v : List UInt8) : cl (sSeq, v) = 6 := rfl
theorem cl_mark : cl (sType, sMarker) = 7 := by decide
theorem cl_data : cl (sType, sData) = 12 := by decide
theorem cl_size (v : List UInt8) : cl (sSize, v) = 8 := rfl
theorem cl_leaf (v : List UInt8) : cl (sLeaf, v) = 10 := rfl
theorem cl_end (v : List UInt8) : cl (sEnd, v) = 11 := rfl
theorem cl_meta (n v : List UInt8) : cl (sMeta ++ n, v) = 9 := by
  have h : ∀ s : List UInt8, s.head? ≠ some 109 → ¬ sMeta ++ n = s := fun s hs e => hs (by rw [← e]; rfl)
  unfold cl
  simp only
  rw [if_neg (h _ (by decide)), if_neg (h _ (by decide)), if_neg (h _ (by decide)), if_neg (h _ (by decide)), if_neg (h _ (by decide)), if_neg (h _ (by decide)), if_neg (h _ (by decide)), if_neg (h _ (by decide)), if_neg (h _ (by decide)), if_neg (h _ (by decide)), if_neg (h _ (by decide))]
/-- what may follow -/
def fol : List (Nat × Nat) := [(0, 1), (1, 2), (2, 3), (2, 4), (3, 4), (4, 5), (4, 11), (5, 6), (6, 7), (6, 12), (7, 10), (12, 8), (8, 9), (8, 10), (9, 9), (9, 10), (10, 5), (10, 11)]
structure Fol (p q : Kv) : Prop where
  c : (cl p, cl q) ∈ fol
  o : cl p = 9 → cl q = 9 → bcmp (p.1.drop 5) (q.1.drop 5) < 0
def Ch : Kv → List Kv → Prop
  | _, [] => True
  | p, q :: L => Fol p q ∧ Ch q L
theorem Ch.join : ∀ (L : List Kv) (p q : Kv) (M : List Kv), Ch p (L ++ [q]) → Ch q M → Ch p (L ++ q :: M)
  | [], p, q, M, h, h2 => ⟨h.1, h2⟩
  | x :: L, p, q, M, h, h2 => ⟨h.1, Ch.join L x q M h.2 h2⟩
theorem Ch.at' : ∀ (L : List Kv) (p : Kv) (i : Nat) (a b : Kv), Ch p L → (p :: L)[i]? = some a → (p :: L)[i + 1]? = some b → Fol a b
  | [], p, i, a, b, _, _, h2 => by simp at h2
  | q :: L, p, 0, a, b, h, h1, h2 => by
    simp at h1 h2
    subst h1 h2
    exact h.1
  | q :: L, p, i + 1, a, b, h, h1, h2 => Ch.at' L q i a b h.2 (by simpa using h1) (by simpa using h2)
theorem fl {a b : Kv} {x y : Nat} (h1 : cl a = x) (h2 : cl b = y) (h : (x, y) ∈ fol) (hn : x ≠ 9 ∨ y ≠ 9) : Fol a b := ⟨by rw [h1, h2]; exact h, fun e1 e2 => by rw [h1] at e1; rw [h2] at e2; rcases hn with q | q; exact absurd e1 q; exact absurd e2 q⟩
theorem drop5 (n : List UInt8) : (sMeta ++ n).drop 5 = n := by show ([109, 101, 116, 97, 46] ++ n).drop 5 = n; rfl
theorem ch_meta : ∀ (l : List En) (p : Kv) (v : List UInt8), (cl p = 8 ∨ (cl p = 9 ∧ ∀ e ∈ l.head?, bcmp (p.1.drop 5) e.key < 0)) → Srt l → Ch p (metaR l ++ [(sLeaf, v)])
  | [], p, v, hp, _ => by
    refine ⟨?_, trivial⟩
    rcases hp with q | ⟨q, _⟩
    · exact fl q (cl_leaf v) (by decide) (.inl (by decide))
    · exact fl q (cl_leaf v) (by decide) (.inr (by decide))
  | e :: l, p, v, hp, hs => by
    refine ⟨?_, ch_meta l (sMeta ++ e.key, e.val) v (.inr ⟨cl_meta _ _, ?_⟩) ?_⟩
    · rcases hp with q | ⟨q, h⟩
      · exact fl q (cl_meta _ _) (by decide) (.inl (by decide))
      · refine ⟨by rw [q]; show (9, cl (sMeta ++ e.key, e.val)) ∈ fol; rw [cl_meta]; decide, fun _ _ => ?_⟩
        show bcmp _ ((sMeta ++ e.key).drop 5) < 0
        rw [drop5]
        exact h e (by simp)
    · intro e2 he2
      rw [drop5]
      cases l with
      | nil => simp at he2
      | cons e3 l =>
        simp at he2
        subst he2
        exact lt_neg (hs.head e3 (by simp))
    · exact hs.tail
theorem ch_item {m : Ma} {x : It} (hx : RtI m x) (p : Kv) (hp : cl p = 4 ∨ cl p = 10) : Ch p (itemR x) := by
  have hk : Fol p (sKey, x.key) := by
    rcases hp with q | q
    · exact fl q (cl_key _) (by decide) (.inl (by decide))
    · exact fl q (cl_key _) (by decide) (.inl (by decide))
  cases hmk : x.mkr with
  | true =>
    unfold itemR
    rw [if_pos hmk, (hx.mk1 hmk).2]
    exact ⟨hk, fl (cl_key _) (cl_seq _) (by decide) (.inl (by decide)), fl (cl_seq _) cl_mark (by decide) (.inl (by decide)), fl cl_mark (cl_leaf _) (by decide) (.inl (by decide)), trivial⟩
  | false =>
    have e : itemR x = (sKey, x.key) :: (sSeq, dec x.seq) :: (sType, sData) :: (sSize, dec x.size) :: (metaR x.l ++ [(sLeaf, hexL x.g)]) := by
      unfold itemR
      rw [if_neg (by rw [hmk]; decide)]
      simp
    rw [e]
    exact ⟨hk, fl (cl_key _) (cl_seq _) (by decide) (.inl (by decide)), fl (cl_seq _) cl_data (by decide) (.inl (by decide)), fl cl_data (cl_size _) (by decide) (.inl (by decide)), ch_meta x.l _ _ (.inl (cl_size _)) (mtE_iff (hx.mk0 hmk).2.2).2.2⟩
theorem item_last (x : It) : ∃ I, itemR x = I ++ [(sLeaf, hexL x.g)] := ⟨_, rfl⟩
theorem ch_items {m : Ma} : ∀ (L : List It) (p : Kv), (∀ x ∈ L, RtI m x) → (cl p = 4 ∨ cl p = 10) → Ch p ((L.map itemR).flatten ++ [(sEnd, sMani)])
  | [], p, _, hp => by
    refine ⟨?_, trivial⟩
    rcases hp with q | q
    · exact fl q (cl_end _) (by decide) (.inl (by decide))
    · exact fl q (cl_end _) (by decide) (.inl (by decide))
  | x :: L, p, hx, hp => by
    obtain ⟨I, hI⟩ := item_last x
    have h1 := ch_item (hx x (by simp)) p hp
    rw [hI] at h1
    have h2 := Ch.join I p _ _ h1 (ch_items L (sLeaf, hexL x.g) (fun y hy => hx y (by simp [hy])) (.inr (cl_leaf _)))
    rw [List.map_cons, List.flatten_cons, hI]
    simpa using h2
theorem ch_recs {m : Ma} (h : RtM m) : ∃ p L, recs m = p :: L ∧ cl p = 0 ∧ Ch p L := by
  by_cases hs : m.since = 0
  · have e : recs m = (sKind, sFull) :: (sFormat, sCoffer) :: (sNext, dec m.next) :: (sCount, dec m.items.length) :: ((m.items.map itemR).flatten ++ [(sEnd, sMani)]) := by
      unfold recs headR
      rw [if_pos hs, if_pos hs]
      simp
    exact ⟨_, _, e, cl_kind _, fl (cl_kind _) (cl_format _) (by decide) (.inl (by decide)), fl (cl_format _) (cl_next _) (by decide) (.inl (by decide)), fl (cl_next _) (cl_count _) (by decide) (.inl (by decide)), ch_items m.items _ h.it (.inl (cl_count _))⟩
  · have e : recs m = (sKind, sDelta) :: (sFormat, sCoffer) :: (sNext, dec m.next) :: (sSince, dec m.since) :: (sCount, dec m.items.length) :: ((m.items.map itemR).flatten ++ [(sEnd, sMani)]) := by
      unfold recs headR
      rw [if_neg hs, if_neg hs]
      simp
    exact ⟨_, _, e, cl_kind _, fl (cl_kind _) (cl_format _) (by decide) (.inl (by decide)), fl (cl_format _) (cl_next _) (by decide) (.inl (by decide)), fl (cl_next _) (cl_since _) (by decide) (.inl (by decide)), fl (cl_since _) (cl_count _) (by decide) (.inl (by decide)), ch_items m.items _ h.it (.inl (cl_count _))⟩
theorem fol_at {m : Ma} (h : RtM m) {i : Nat} {a b : Kv} (h1 : (recs m)[i]? = some a) (h2 : (recs m)[i + 1]? = some b) : Fol a b := by
  obtain ⟨p, L, e, _, hc⟩ := ch_recs h
  rw [e] at h1 h2
  exact Ch.at' L p i a b hc h1 h2
theorem first_at {m : Ma} (h : RtM m) : ∃ p, (recs m)[0]? = some p ∧ cl p = 0 := by
  obtain ⟨p, L, e, h0, _⟩ := ch_recs h
  exact ⟨p, by rw [e]; rfl, h0⟩
theorem recs_len (m : Ma) : 5 ≤ (recs m).length := by
  unfold recs headR
  split <;> simp <;> omega
theorem last_at (m : Ma) : (recs m)[(recs m).length - 1]? = some (sEnd, sMani) := by
  have e : recs m = (headR m ++ (m.items.map itemR).flatten) ++ [(sEnd, sMani)] := rfl
  rw [e, List.length_append]
  simp
/-- the end stands at the end alone -/
theorem end_at {m : Ma} (h : RtM m) {i : Nat} {p : Kv} (hp : (recs m)[i]? = some p) (hc : cl p = 11) : i + 1 = (recs m).length := by
  have hi := (List.getElem?_eq_some_iff.1 hp).1
  rcases Nat.lt_or_ge (i + 1) (recs m).length with q | q
  · have := (fol_at h hp (List.getElem?_eq_getElem q)).c
    rw [hc] at this
    simp [fol] at this
  · omega
theorem no_x {m : Ma} (h : RtM m) {p : Kv} (hp : p ∈ recs m) : p.1.head? ≠ some 120 := by
  unfold recs at hp
  simp only [List.mem_append, List.mem_cons, List.not_mem_nil, or_false] at hp
  rcases hp with (hp | hp) | rfl
  · unfold headR at hp
    split at hp
    · simp only [List.append_nil, List.mem_append, List.mem_cons, List.not_mem_nil, or_false] at hp
      rcases hp with (rfl | rfl | rfl) | rfl <;> (simp only; decide)
    · simp only [List.mem_append, List.mem_cons, List.not_mem_nil, or_false] at hp
      rcases hp with ((rfl | rfl | rfl) | rfl) | rfl <;> (simp only; decide)
  · obtain ⟨l, hl, hpl⟩ := List.mem_flatten.1 hp
    obtain ⟨x, hx, rfl⟩ := List.mem_map.1 hl
    unfold itemR at hpl
    simp only [List.mem_append, List.mem_cons, List.not_mem_nil, or_false] at hpl
    rcases hpl with (((rfl | rfl) | hpl) | hpl) | rfl
    · simp only; decide
    · simp only; decide
    · split at hpl
      · simp only [List.mem_cons, List.not_mem_nil, or_false] at hpl
        subst hpl
        simp only; decide
      · simp only [List.mem_cons, List.not_mem_nil, or_false] at hpl
        rcases hpl with rfl | rfl <;> (simp only; decide)
    · obtain ⟨q, hq, rfl⟩ := List.mem_map.1 hpl
      simp [sMeta]
    · simp only; decide
  · simp only; decide
/-- a delta's third record says since when -/
theorem since_at {m : Ma} (hs : (recs m)[0]? = some (sKind, sDelta)) : ∃ v, (recs m)[3]? = some (sSince, v) := by
  by_cases q : m.since = 0
  · unfold recs headR at hs
    rw [if_pos q] at hs
    simp at hs
    exact absurd hs (by decide)
  · refine ⟨dec m.since, ?_⟩
    unfold recs headR
    rw [if_neg q, if_neg q]
    simp
theorem since_only {m : Ma} (h : RtM m) {k : Nat} {p : Kv} (hp : (recs m)[k]? = some p) (hc : cl p = 3) : k = 3 ∧ (recs m)[0]? = some (sKind, sDelta) := by
  have hk0 : k ≠ 0 := fun e => by
    obtain ⟨q, hq, hq0⟩ := first_at h
    subst e
    rw [hp] at hq
    injection hq with hq
    rw [← hq, hc] at hq0
    cases hq0
  obtain ⟨j, rfl⟩ : ∃ j, k = j + 1 := ⟨k - 1, by omega⟩
  have back : ∀ {j : Nat} {b : Kv} {y : Nat}, (recs m)[j + 1]? = some b → cl b = y → ∃ a, (recs m)[j]? = some a ∧ (cl a, y) ∈ fol := fun {j b y} hb hy => by
    have hl := (List.getElem?_eq_some_iff.1 hb).1
    refine ⟨(recs m)[j]'(by omega), List.getElem?_eq_getElem _, ?_⟩
    have := (fol_at h (List.getElem?_eq_getElem (by omega)) hb).c
    rw [hy] at this
    exact this
  have z0 : ∀ {j : Nat} {b : Kv} {y : Nat}, (recs m)[j]? = some b → cl b = y → y ≠ 0 → j ≠ 0 := fun {j b y} hb hy hn e => by
    obtain ⟨q, hq, hq0⟩ := first_at h
    subst e
    rw [hb] at hq
    injection hq with hq
    rw [← hq, hy] at hq0
    exact hn hq0
  obtain ⟨a, ha, ea⟩ := back hp hc
  have ea : cl a = 2 := by simp [fol] at ea; exact ea
  have := z0 ha ea (by decide)
  obtain ⟨j, rfl⟩ : ∃ i, j = i + 1 := ⟨j - 1, by omega⟩
  obtain ⟨b, hb, eb⟩ := back ha ea
  have eb : cl b = 1 := by simp [fol] at eb; exact eb
  have := z0 hb eb (by decide)
  obtain ⟨j, rfl⟩ : ∃ i, j = i + 1 := ⟨j - 1, by omega⟩
  obtain ⟨c, hc', ec⟩ := back hb eb
  have ec : cl c = 0 := by simp [fol] at ec; exact ec
  have hj : j = 0 := by
    rcases Nat.eq_zero_or_pos j with q | q
    · exact q
    · obtain ⟨j, rfl⟩ : ∃ i, j = i + 1 := ⟨j - 1, by omega⟩
      obtain ⟨d, hd, ed⟩ := back hc' ec
      simp [fol] at ed
  subst hj
  refine ⟨rfl, ?_⟩
  by_cases q : m.since = 0
  · have e3 : (recs m)[3]? = some (sCount, dec m.items.length) := by
      unfold recs headR
      rw [if_pos q, if_pos q]
      simp
    have hp3 : (recs m)[3]? = some p := hp
    rw [e3] at hp3
    injection hp3 with hp3
    rw [← hp3, cl_count] at hc
    cases hc
  · unfold recs headR
    rw [if_neg q]
    simp
/-- a manifest whose records the changed ones begin with goes on beyond the place of the change -/
theorem beyond {m m' : Ma} (h : RtM m) (h' : RtM m') {k : Nat} (hk : k < (recs m).length) {S T : List Kv} (e : (recs m).take k ++ S = recs m' ++ T) : k < (recs m').length ∧ (recs m').take k = (recs m).take k ∧ S = (recs m').drop k ++ T := by
  have hl' := recs_len m'
  have hkl : ((recs m).take k).length = k := by rw [List.length_take]; omega
  have hge : k < (recs m').length := by
    rcases Nat.lt_or_ge k (recs m').length with q | q
    · exact q
    · have h1 := last_at m'
      have h2 : ((recs m).take k ++ S)[(recs m').length - 1]? = some (sEnd, sMani) := by rw [e, List.getElem?_append_left (by omega)]; exact h1
      rw [List.getElem?_append_left (by omega), List.getElem?_take_of_lt (by omega)] at h2
      have := end_at h h2 (cl_end _)
      omega
  have e1 := congrArg (List.take k) e
  rw [List.take_append_of_le_length (by omega), List.take_of_length_le (by omega), List.take_append_of_le_length (by omega)] at e1
  refine ⟨hge, e1.symm, ?_⟩
  have e2 := congrArg (List.drop k) e
  rw [List.drop_append_of_le_length (by omega), List.drop_of_length_le (by omega), List.drop_append_of_le_length (by omega)] at e2
  simpa using e2
section
variable {m m' : Ma} (h : RtM m) (h' : RtM m') {k : Nat} {a b : Kv} {T : List Kv}
include h h'
theorem bad_more (ha : (recs m)[k]? = some a) {q : Kv} (hq : q.1.head? = some 120) (e : (recs m).take k ++ q :: (recs m).drop k = recs m' ++ T) : False := by
  obtain ⟨h1, h2, h3⟩ := beyond h h' (List.getElem?_eq_some_iff.1 ha).1 e
  have h4 := congrArg (fun l : List Kv => l[0]?) h3
  simp only [List.getElem?_cons_zero] at h4
  rw [List.getElem?_append_left (by rw [List.length_drop]; omega), List.getElem?_drop] at h4
  exact no_x h' (List.mem_of_getElem? h4.symm) hq
theorem bad_twice (ha : (recs m)[k]? = some a) (hb : (recs m)[k + 1]? = some b) (e : (recs m).take (k + 1) ++ a :: (recs m).drop (k + 1) = recs m' ++ T) : False := by
  obtain ⟨h1, h2, h3⟩ := beyond h h' (List.getElem?_eq_some_iff.1 hb).1 e
  have h4 := congrArg (fun l : List Kv => l[0]?) h3
  simp only [List.getElem?_cons_zero] at h4
  rw [List.getElem?_append_left (by rw [List.length_drop]; omega), List.getElem?_drop] at h4
  have h5 : (recs m')[k]? = some a := by
    have := congrArg (fun l : List Kv => l[k]?) h2
    rw [List.getElem?_take_of_lt (by omega), List.getElem?_take_of_lt (by omega), ha] at this
    exact this
  have hf := fol_at h' h5 h4.symm
  have hc := hf.c
  by_cases q : cl a = 9
  · have := hf.o q q
    rw [bcmp_self] at this
    omega
  · generalize cl a = x at hc q
    simp [fol] at hc
    omega
theorem bad_turned (ha : (recs m)[k]? = some a) (hb : (recs m)[k + 1]? = some b) (e : (recs m).take k ++ b :: a :: (recs m).drop (k + 2) = recs m' ++ T) : False := by
  obtain ⟨h1, h2, h3⟩ := beyond h h' (List.getElem?_eq_some_iff.1 ha).1 e
  have hf := fol_at h ha hb
  have h4 := congrArg (fun l : List Kv => l[0]?) h3
  simp only [List.getElem?_cons_zero] at h4
  rw [List.getElem?_append_left (by rw [List.length_drop]; omega), List.getElem?_drop] at h4
  have h4 : (recs m')[k]? = some b := h4.symm
  rcases Nat.lt_or_ge (k + 1) (recs m').length with q | q
  · have h5 := congrArg (fun l : List Kv => l[1]?) h3
    simp only [List.getElem?_cons_succ, List.getElem?_cons_zero] at h5
    rw [List.getElem?_append_left (by rw [List.length_drop]; omega), List.getElem?_drop] at h5
    have hg := fol_at h' h4 h5.symm
    have c1 := hf.c
    have c2 := hg.c
    by_cases z : cl a = 9 ∧ cl b = 9
    · have o1 := hf.o z.1 z.2
      have o2 := hg.o z.2 z.1
      exact bcmp_asym o1 o2
    · generalize cl a = x at c1 c2 z
      generalize cl b = y at c1 c2 z
      simp [fol] at c1 c2
      omega
  · have h5 := last_at m'
    have : (recs m').length - 1 = k := by omega
    rw [this, h4] at h5
    injection h5 with h5
    subst h5
    have c1 := hf.c
    rw [cl_end] at c1
    rcases Nat.eq_zero_or_pos k with z | z
    · subst z
      obtain ⟨p, hp, hp0⟩ := first_at h'
      rw [h4] at hp
      injection hp with hp
      rw [← hp, cl_end] at hp0
      cases hp0
    · obtain ⟨j, rfl⟩ : ∃ j, k = j + 1 := ⟨k - 1, by omega⟩
      have hj : j < (recs m').length := by omega
      have e1 : (recs m)[j]? = (recs m')[j]? := by
        have := congrArg (fun l : List Kv => l[j]?) h2
        rw [List.getElem?_take_of_lt (by omega), List.getElem?_take_of_lt (by omega)] at this
        exact this.symm
      have hc1 := (fol_at h' (List.getElem?_eq_getElem hj) h4).c
      have hc2 := (fol_at h (e1.trans (List.getElem?_eq_getElem hj)) ha).c
      rw [cl_end] at hc1
      generalize cl ((recs m')[j]'hj) = x at hc1 hc2
      generalize cl a = y at c1 hc2
      simp [fol] at c1 hc1 hc2
      omega
theorem bad_left (ha : (recs m)[k]? = some a) (hn : cl a ≠ 9) (e : (recs m).take k ++ (recs m).drop (k + 1) = recs m' ++ T) : False := by
  obtain ⟨h1, h2, h3⟩ := beyond h h' (List.getElem?_eq_some_iff.1 ha).1 e
  have h4 := congrArg (fun l : List Kv => l[0]?) h3
  rw [List.getElem?_append_left (by rw [List.length_drop]; omega), List.getElem?_drop, List.getElem?_drop] at h4
  have h4 : (recs m)[k + 1]? = (recs m')[k]? := h4
  have hm : (recs m')[k]? = some ((recs m')[k]'h1) := List.getElem?_eq_getElem h1
  rw [hm] at h4
  generalize (recs m')[k]'h1 = b at h4 hm
  have hf := fol_at h ha h4
  have c1 := hf.c
  rcases Nat.eq_zero_or_pos k with z | z
  · subst z
    obtain ⟨p, hp, hp0⟩ := first_at h'
    rw [hm] at hp
    injection hp with hp
    rw [hp, hp0] at c1
    simp [fol] at c1
  · obtain ⟨j, rfl⟩ : ∃ j, k = j + 1 := ⟨k - 1, by omega⟩
    have hj : j < (recs m').length := by omega
    have e1 : ∀ i, i < j + 1 → (recs m)[i]? = (recs m')[i]? := fun i hi => by
      have := congrArg (fun l : List Kv => l[i]?) h2
      rw [List.getElem?_take_of_lt hi, List.getElem?_take_of_lt hi] at this
      exact this.symm
    have hc1 := (fol_at h' (List.getElem?_eq_getElem hj) hm).c
    have hc2 := (fol_at h ((e1 j (by omega)).trans (List.getElem?_eq_getElem hj)) ha).c
    by_cases q3 : cl a = 3
    · obtain ⟨k3, k0⟩ := since_only h ha q3
      have k0' : (recs m')[0]? = some (sKind, sDelta) := by rw [← e1 0 (by omega)]; exact k0
      obtain ⟨v, hv⟩ := since_at k0'
      have : j + 1 = 3 := k3
      rw [this, hv] at hm
      injection hm with hm
      rw [q3, ← hm, cl_since] at c1
      simp [fol] at c1
    · generalize cl ((recs m')[j]'hj) = x at hc1 hc2
      generalize cl a = y at c1 hc2 hn q3
      generalize cl b = z at c1 hc1
      simp [fol] at c1 hc1 hc2
      omega
end
end Go.Proofs.YtbiponnchppndaaGreatDoor

/- ManifestNothing without the model: what the four changed texts are, and that none begins with a manifest's. -/
namespace Go.Proofs.YtbiponnchppndaaGreatDoor
set_option maxRecDepth 100000
set_option linter.unusedVariables false
set_option linter.unusedSimpArgs false
open Go.Proofs.YtbiponnchppndaaGreatDoorP (recd Rd key nn LEN)
open Go.Proofs.YtbiponnchppndaaGreatDoorH (hexL)
/-- a text of records that is no manifest's, cut anywhere -/
theorem bad_beg {C : List Kv} (hC : Kvs C) (hno : ∀ m' T, RtM m' → C = recs m' ++ T → False) (m' : Ma) : ¬ Beg (txt C) m' := by
  rintro ⟨h1, r, e⟩
  have e' : txt C ++ [] = txt (recs m') ++ r := by rw [List.append_nil]; exact e
  rcases txt_cmp C (recs m') [] r hC (recs_ok h1) e' with ⟨T, hT⟩ | ⟨T, hT⟩
  · have e2 := e'
    rw [hT, txt_append, List.append_assoc] at e2
    have e3 : ([] : List UInt8) = txt T ++ r := List.append_cancel_left e2
    have e4 : txt T = [] := by
      cases hq : txt T with
      | nil => rfl
      | cons a b => rw [hq] at e3; cases e3
    cases T with
    | nil => exact hno m' [] h1 (by rw [hT]; simp)
    | cons q T =>
      rw [txt_cons] at e4
      exact recd_ne q.1 q.2 (List.append_eq_nil_iff.1 e4).1
  · exact hno m' T h1 hT
/-- the texts that the loop makes: a piece for each place -/
def pcsF (f : Nat → List UInt8) (i : Nat) : List UInt8 := ((List.range i).map f).flatten
theorem pcsFsucc (f : Nat → List UInt8) (i : Nat) : pcsF f (i + 1) = pcsF f i ++ f i := by simp [pcsF, List.range_succ]
theorem pcsFzero (f : Nat → List UInt8) : pcsF f 0 = [] := rfl
def rt (R : List Kv) (j : Nat) : List UInt8 := match R[j]? with | some p => recd p.1 p.2 | none => []
theorem rt_some {R : List Kv} {j : Nat} {p : Kv} (h : R[j]? = some p) : rt R j = recd p.1 p.2 := by unfold rt; rw [h]
/-- a list by pieces -/
theorem pcsFlist (f : Nat → List UInt8) (g : Nat → List Kv) (h : ∀ j, f j = txt (g j)) : ∀ i, pcsF f i = txt (((List.range i).map g).flatten)
  | 0 => rfl
  | i + 1 => by rw [pcsFsucc, pcsFlist f g h i, h i, List.range_succ]; simp [txt]
theorem rng_take (R : List Kv) (i : Nat) (hi : i ≤ R.length) : ((List.range i).map fun j => (R[j]?).toList).flatten = R.take i := by
  induction i with
  | zero => simp
  | succ i ih =>
    rw [List.range_succ, List.map_append, List.flatten_append, ih (by omega), List.take_add_one]
    simp
/-- pieces but at one place k -/
theorem rng_at (R : List Kv) (k : Nat) (hk : k < R.length) (X : List Kv) (g : Nat → List Kv) (h1 : g k = X) (h2 : ∀ j, j ≠ k → g j = (R[j]?).toList) :
    ∀ i, i ≤ R.length → ((List.range i).map g).flatten = if i ≤ k then R.take i else R.take k ++ X ++ (R.take i).drop (k + 1) := by
  intro i hi
  induction i with
  | zero => simp
  | succ i ih =>
    rw [List.range_succ, List.map_append, List.flatten_append, ih (by omega)]
    simp only [List.map_cons, List.map_nil, List.flatten_cons, List.flatten_nil, List.append_nil]
    by_cases h : i + 1 ≤ k
    · rw [if_pos (by omega), if_pos h, h2 i (by omega), List.take_add_one]
    · rw [if_neg h]
      by_cases he : i = k
      · subst he
        rw [if_pos (Nat.le_refl _), h1, List.drop_of_length_le (by rw [List.length_take]; omega)]
        simp
      · rw [if_neg (by omega), h2 i he, List.take_add_one, List.append_assoc]
        congr 1
        rw [List.drop_append_of_le_length (by rw [List.length_take]; omega)]
/-- left out -/
def lfF (R : List Kv) (k j : Nat) : List UInt8 := if j = k then [] else rt R j
def twF (R : List Kv) (k j : Nat) : List UInt8 := if j = k then rt R j ++ rt R j else rt R j
def moF (R : List Kv) (o : List UInt8) (k j : Nat) : List UInt8 := if j = k then o ++ rt R j else rt R j
def tuF (R : List Kv) (k j : Nat) : List UInt8 := if j = k then (if k + 1 < R.length then rt R (j + 1) else rt R j) else if j = k + 1 then rt R k else rt R j
theorem rt_txt (R : List Kv) (j : Nat) : rt R j = txt ((R[j]?).toList) := by
  unfold rt
  cases R[j]? with
  | none => rfl
  | some p => simp [txt]
theorem lfFall (R : List Kv) (k : Nat) (hk : k < R.length) : pcsF (lfF R k) R.length = txt (R.take k ++ R.drop (k + 1)) := by
  rw [pcsFlist (lfF R k) (fun j => if j = k then [] else (R[j]?).toList) (fun j => by unfold lfF; split; rfl; exact rt_txt R j)]
  rw [rng_at R k hk [] _ (by simp) (fun j hj => by simp [hj]) _ (Nat.le_refl _), if_neg (by omega), List.take_length]
  simp
theorem twFall (R : List Kv) (k : Nat) {a : Kv} (ha : R[k]? = some a) : pcsF (twF R k) R.length = txt (R.take (k + 1) ++ a :: R.drop (k + 1)) := by
  have hk := (List.getElem?_eq_some_iff.1 ha).1
  rw [pcsFlist (twF R k) (fun j => if j = k then [a, a] else (R[j]?).toList) (fun j => by
    unfold twF
    split
    · next h => subst h; rw [rt_some ha]; simp [txt]
    · exact rt_txt R j)]
  rw [rng_at R k hk [a, a] _ (by simp) (fun j hj => by simp [hj]) _ (Nat.le_refl _), if_neg (by omega), List.take_length, List.take_add_one, ha]
  simp
theorem moFall (R : List Kv) (k : Nat) (q : Kv) {a : Kv} (ha : R[k]? = some a) : pcsF (moF R (recd q.1 q.2) k) R.length = txt (R.take k ++ q :: R.drop k) := by
  have hk := (List.getElem?_eq_some_iff.1 ha).1
  rw [pcsFlist (moF R (recd q.1 q.2) k) (fun j => if j = k then [q, a] else (R[j]?).toList) (fun j => by
    unfold moF
    split
    · next h => subst h; rw [rt_some ha]; simp [txt]
    · exact rt_txt R j)]
  have hd : R.drop k = a :: R.drop (k + 1) := by
    rw [List.drop_eq_getElem_cons hk]
    congr 1
    exact (List.getElem?_eq_some_iff.1 ha).2
  rw [rng_at R k hk [q, a] _ (by simp) (fun j hj => by simp [hj]) _ (Nat.le_refl _), if_neg (by omega), List.take_length, hd]
  simp
theorem tuFall (R : List Kv) (k : Nat) {a b : Kv} (ha : R[k]? = some a) (hb : R[k + 1]? = some b) : pcsF (tuF R k) R.length = txt (R.take k ++ b :: a :: R.drop (k + 2)) := by
  have hk := (List.getElem?_eq_some_iff.1 hb).1
  have key : ∀ i, i ≤ R.length → ((List.range i).map fun j => if j = k then [b] else if j = k + 1 then [a] else (R[j]?).toList).flatten = if i ≤ k then R.take i else if i = k + 1 then R.take k ++ [b] else R.take k ++ [b, a] ++ (R.take i).drop (k + 2) := by
    intro i hi
    induction i with
    | zero => simp
    | succ i ih =>
      rw [List.range_succ, List.map_append, List.flatten_append, ih (by omega)]
      simp only [List.map_cons, List.map_nil, List.flatten_cons, List.flatten_nil, List.append_nil]
      by_cases h : i + 1 ≤ k
      · rw [if_pos (by omega), if_pos h, if_neg (by omega), if_neg (by omega), List.take_add_one]
      · rw [if_neg h]
        by_cases he : i = k
        · subst he
          rw [if_pos (Nat.le_refl _), if_pos rfl, if_pos rfl]
        · rw [if_neg (by omega), if_neg he]
          by_cases he2 : i = k + 1
          · subst he2
            rw [if_pos rfl, if_pos rfl, if_neg (by omega), List.drop_of_length_le (by rw [List.length_take]; omega)]
            simp
          · rw [if_neg he2, if_neg he2, if_neg (by omega), List.take_add_one, List.append_assoc]
            congr 1
            rw [List.drop_append_of_le_length (by rw [List.length_take]; omega)]
  rw [pcsFlist (tuF R k) (fun j => if j = k then [b] else if j = k + 1 then [a] else (R[j]?).toList) (fun j => by
    unfold tuF
    rw [if_pos hk]
    split
    · next h => subst h; rw [rt_some hb]; simp [txt]
    · split
      · rw [rt_some ha]; simp [txt]
      · exact rt_txt R j)]
  rw [key _ (Nat.le_refl _), if_neg (by omega), if_neg (by omega), List.take_length]
  simp
/-- which records are metadata's -/
theorem meta_cl {m : Ma} (h : RtM m) {p : Kv} (hp : p ∈ recs m) (hc : cl p = 9) : 5 < p.1.length ∧ p.1.take 5 = sMeta := by
  unfold recs at hp
  simp only [List.mem_append, List.mem_cons, List.not_mem_nil, or_false] at hp
  rcases hp with (hp | hp) | rfl
  · exfalso
    unfold headR at hp
    split at hp
    · simp only [List.append_nil, List.mem_append, List.mem_cons, List.not_mem_nil, or_false] at hp
      rcases hp with (rfl | rfl | rfl) | rfl <;> simp [cl_kind, cl_format, cl_next, cl_count] at hc
    · simp only [List.mem_append, List.mem_cons, List.not_mem_nil, or_false] at hp
      rcases hp with ((rfl | rfl | rfl) | rfl) | rfl <;> simp [cl_kind, cl_format, cl_next, cl_count, cl_since] at hc
  · obtain ⟨l, hl, hpl⟩ := List.mem_flatten.1 hp
    obtain ⟨x, hx, rfl⟩ := List.mem_map.1 hl
    unfold itemR at hpl
    simp only [List.mem_append, List.mem_cons, List.not_mem_nil, or_false] at hpl
    rcases hpl with (((rfl | rfl) | hpl) | hpl) | rfl
    · simp [cl_key] at hc
    · simp [cl_seq] at hc
    · split at hpl
      · simp only [List.mem_cons, List.not_mem_nil, or_false] at hpl
        subst hpl
        rw [cl_mark] at hc; omega
      · simp only [List.mem_cons, List.not_mem_nil, or_false] at hpl
        rcases hpl with rfl | rfl
        · rw [cl_data] at hc; omega
        · rw [cl_size] at hc; omega
    · obtain ⟨q, hq, rfl⟩ := List.mem_map.1 hpl
      have hxi := h.it x hx
      have hne : q.key ≠ [] := by
        cases hmk : x.mkr with
        | true => rw [(hxi.mk1 hmk).2] at hq; simp at hq
        | false => exact (small_key (prb_iff ((mtE_iff (hxi.mk0 hmk).2.2).2.1 q hq)).1).2.2.1
      refine ⟨?_, rfl⟩
      have : sMeta.length = 5 := rfl
      have h1 : 0 < q.key.length := List.length_pos_iff.2 hne
      simp only [List.length_append]
      omega
    · rw [cl_leaf] at hc; omega
  · rw [cl_end] at hc; omega
theorem kvs_more {m : Ma} (h : RtM m) {k : Nat} {q : Kv} (hq : key q.1 = true ∧ LEN (nn q.1 q.2) ≤ 1048576) : Kvs ((recs m).take k ++ q :: (recs m).drop k) := by
  intro p hp
  rcases List.mem_append.1 hp with h1 | h1
  · exact recs_ok h p (List.mem_of_mem_take h1)
  · rcases List.mem_cons.1 h1 with rfl | h1
    · exact hq
    · exact recs_ok h p (List.mem_of_mem_drop h1)
section
variable {m : Ma} (h : RtM m) {k : Nat} {a : Kv} (ha : (recs m)[k]? = some a)
include h ha
theorem no_more {q : Kv} (hq : key q.1 = true ∧ LEN (nn q.1 q.2) ≤ 1048576) (hx : q.1.head? = some 120) (m' : Ma) : ¬ Beg (pcsF (moF (recs m) (recd q.1 q.2) k) (recs m).length) m' := by
  rw [moFall (recs m) k q ha]
  exact bad_beg (kvs_more h hq) (fun m' T h' e => bad_more h h' ha hx e) m'
theorem no_left (hn : cl a ≠ 9) (m' : Ma) : ¬ Beg (pcsF (lfF (recs m) k) (recs m).length) m' := by
  rw [lfFall (recs m) k (List.getElem?_eq_some_iff.1 ha).1]
  refine bad_beg ?_ (fun m' T h' e => bad_left h h' ha hn e) m'
  intro p hp
  rcases List.mem_append.1 hp with h1 | h1
  · exact recs_ok h p (List.mem_of_mem_take h1)
  · exact recs_ok h p (List.mem_of_mem_drop h1)
theorem no_twice {b : Kv} (hb : (recs m)[k + 1]? = some b) (m' : Ma) : ¬ Beg (pcsF (twF (recs m) k) (recs m).length) m' := by
  rw [twFall (recs m) k ha]
  refine bad_beg ?_ (fun m' T h' e => bad_twice h h' ha hb e) m'
  intro p hp
  rcases List.mem_append.1 hp with h1 | h1
  · exact recs_ok h p (List.mem_of_mem_take h1)
  · rcases List.mem_cons.1 h1 with rfl | h1
    · exact recs_ok h p (List.mem_of_getElem? ha)
    · exact recs_ok h p (List.mem_of_mem_drop h1)
theorem no_turned {b : Kv} (hb : (recs m)[k + 1]? = some b) (m' : Ma) : ¬ Beg (pcsF (tuF (recs m) k) (recs m).length) m' := by
  rw [tuFall (recs m) k ha hb]
  refine bad_beg ?_ (fun m' T h' e => bad_turned h h' ha hb e) m'
  intro p hp
  rcases List.mem_append.1 hp with h1 | h1
  · exact recs_ok h p (List.mem_of_mem_take h1)
  · rcases List.mem_cons.1 h1 with rfl | h1
    · exact recs_ok h p (List.mem_of_getElem? hb)
    · rcases List.mem_cons.1 h1 with rfl | h1
      · exact recs_ok h p (List.mem_of_getElem? ha)
      · exact recs_ok h p (List.mem_of_mem_drop h1)
end
/-- how long the changed texts are -/
theorem pcsFlen {f : Nat → List UInt8} {B : Nat} (h : ∀ j, (f j).length ≤ B) : ∀ i, (pcsF f i).length ≤ i * B
  | 0 => by simp [pcsF]
  | i + 1 => by
    rw [pcsFsucc, List.length_append]
    have := pcsFlen h i
    have := h i
    rw [Nat.succ_mul]
    omega
theorem rt_len {m : Ma} (h : RtM m) (j : Nat) : (rt (recs m) j).length ≤ 1048576 := by
  unfold rt
  cases hq : (recs m)[j]? with
  | none => simp
  | some p =>
    simp only
    rw [Go.Proofs.YtbiponnchppndaaGreatDoorP.recd_length]
    exact (recs_ok h p (List.mem_of_getElem? hq)).2
end Go.Proofs.YtbiponnchppndaaGreatDoor
