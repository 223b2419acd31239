/- The log on the disk's own terms: what a lay of writes makes of it, what may stand there behind a crash, what an Open makes of that. No model. -/
import Derived.Test.YtghdgddpdamhcaaGreatMath
namespace Go.Proofs.YtghdgddpdamhcaaGreat
set_option linter.unusedVariables false
set_option linter.unusedSimpArgs false
abbrev Wl := List (Nat × ByteArray)
/-- writes one behind the other, then a flush; it ends at the first that is refused -/
def layR : St → Wl → St × Int
  | st, [] => st.flush
  | st, p :: r => if (st.write p.1 p.2).2 = 0 then layR (st.write p.1 p.2).1 r else st.write p.1 p.2
theorem layR_spec : ∀ (l : Wl) (st : St), st.off = false → (∀ p ∈ l, p.1 < st.safe.length ∧ p.2.size = 512) →
    ((st.fall = 0 ∨ l.length + 1 < st.fall) → layR st l = ({ st with safe := lay st.seen l, pend := [], fall := st.fall - (l.length + 1) }, 0)) ∧
    (1 ≤ st.fall → st.fall ≤ l.length + 1 → layR st l = ({ st with pend := st.pend ++ l.take (st.fall - 1), off := true, opn := true, fall := 0 }, 9))
  | [], st, ho, _ => by
    refine ⟨fun h => ?_, fun h1 h2 => ?_⟩
    · have hg : st.gone = false := by
        unfold St.gone; rw [beq_eq_false_iff_ne]; rcases h with h | h
        · omega
        · simp at h; omega
      simp only [layR, St.flush, ho, hg, lay, List.foldl_nil, List.length_nil, Bool.false_eq_true, if_false]
      unfold St.went
      rcases h with h | h
      · rw [if_pos h]; simp [h, ho]
      · simp at h; rw [if_neg (by omega), if_neg (by omega)]; simp [ho]
    · have hf : st.fall = 1 := by simp at h2; omega
      simp [layR, St.flush, ho, St.gone, hf, St.went]
  | p :: r, st, ho, hl => by
    have hp := hl p List.mem_cons_self
    have hh : (st.has (p.1 : Int) && p.2.size == 512) = true := by simp [St.has, hp]
    have hw : ∀ st' : St, st.write p.1 p.2 = (st', 0) → layR st (p :: r) = layR st' r := fun st' e => by rw [layR, e, if_pos rfl]
    have hwr : st.gone = false → st.write p.1 p.2 = ({ st.went with pend := st.pend ++ [(p.1, p.2)] }, 0) := fun hg => by
      simp only [St.write, ho, hh, hg, Bool.false_eq_true, if_false, if_true, Int.toNat_natCast]
    have key : st.gone = false → ∀ f, st.went.fall = f → layR st (p :: r) = layR { st with pend := st.pend ++ [p], fall := f } r := fun hg f hf => by
      rw [hw _ (hwr hg)]
      congr 1
      rw [← hf]
      unfold St.went
      split
      · rfl
      · split
        · next h1 => exact absurd hg (by simp [St.gone, h1])
        · rfl
    have seen' : ∀ f, (St.seen { st with pend := st.pend ++ [p], fall := f }) = (st.seen).set p.1 p.2 := fun f => by
      show lay st.safe (st.pend ++ [p]) = _
      rw [lay_snoc]; rfl
    refine ⟨fun h => ?_, fun h1 h2 => ?_⟩
    · have hg : st.gone = false := by
        unfold St.gone; rw [beq_eq_false_iff_ne]; rcases h with h | h
        · omega
        · simp at h; omega
      have hf : st.went.fall = st.fall - 1 := by
        unfold St.went; rcases h with h | h
        · rw [if_pos h]; omega
        · simp at h; rw [if_neg (by omega), if_neg (by omega)]
      rw [key hg _ hf]
      have ih := (layR_spec r { st with pend := st.pend ++ [p], fall := st.fall - 1 } ho (fun q hq => hl q (List.mem_cons_of_mem _ hq))).1
        (by simp only [List.length_cons] at h; rcases h with h | h
            · left; simp; omega
            · right; simp; omega)
      rw [ih, seen']
      have e : st.fall - 1 - (r.length + 1) = st.fall - ((p :: r).length + 1) := by simp; omega
      simp only [e]
      rfl
    · by_cases h0 : st.fall = 1
      · have hg : st.gone = true := by simp [St.gone, h0]
        have e : st.write p.1 p.2 = (st.went, 9) := by simp only [St.write, ho, hh, hg, Bool.false_eq_true, if_false, if_true]
        rw [layR, e, if_neg (show ¬ ((9 : Int) = 0) by decide)]
        simp [St.went, h0]
      · have hg : st.gone = false := by unfold St.gone; rw [beq_eq_false_iff_ne]; exact h0
        have hf : st.went.fall = st.fall - 1 := by unfold St.went; rw [if_neg (by omega), if_neg h0]
        rw [key hg _ hf]
        have ih := (layR_spec r { st with pend := st.pend ++ [p], fall := st.fall - 1 } ho (fun q hq => hl q (List.mem_cons_of_mem _ hq))).2
          (by simp; omega) (by simp at h2 ⊢; omega)
        rw [ih]
        have e : st.fall - 1 = (st.fall - 1 - 1) + 1 := by omega
        have e2 : (p :: r).take (st.fall - 1) = p :: r.take (st.fall - 1 - 1) := by rw [e]; rfl
        simp only [e2]
        simp
/-- the writes with their numbers further on -/
def shift (f : Nat) (l : Wl) : Wl := l.map fun p => (f + p.1, p.2)
theorem shift_length (f : Nat) (l : Wl) : (shift f l).length = l.length := by simp [shift]
theorem shift_zero (l : Wl) : shift 0 l = l := by simp [shift]
theorem mem_shift {f : Nat} {l : Wl} {p : Nat × ByteArray} (h : p ∈ shift f l) : ∃ q ∈ l, p = (f + q.1, q.2) := by
  obtain ⟨q, hq, e⟩ := List.mem_map.1 h
  exact ⟨q, hq, e.symm⟩
theorem drop_set_lt (L : List ByteArray) (n s : Nat) (t : ByteArray) (h : n < s) : (L.set n t).drop s = L.drop s := by
  apply List.ext_getElem?
  intro i
  rw [List.getElem?_drop, List.getElem?_drop, List.getElem?_set_ne (by omega)]
theorem drop_set_ge (L : List ByteArray) (n s : Nat) (t : ByteArray) : (L.set (s + n) t).drop s = (L.drop s).set n t := by
  apply List.ext_getElem?
  intro i
  rw [List.getElem?_drop, List.getElem?_set, List.getElem?_set]
  by_cases e : n = i
  · subst e
    rw [if_pos rfl, if_pos rfl, List.length_drop]
    by_cases h : s + n < L.length
    · rw [if_pos h, if_pos (by omega)]
    · rw [if_neg h, if_neg (by omega)]
  · rw [if_neg (by omega), if_neg e, List.getElem?_drop]
theorem drop_lay_lt (s : Nat) : ∀ (l : Wl) (L : List ByteArray), (∀ p ∈ l, p.1 < s) → (lay L l).drop s = L.drop s
  | [], _, _ => rfl
  | p :: r, L, h => by
    show (lay (L.set p.1 p.2) r).drop s = _
    rw [drop_lay_lt s r _ (fun q hq => h q (List.mem_cons_of_mem _ hq)), drop_set_lt _ _ _ _ (h p List.mem_cons_self)]
theorem drop_lay_ge (s : Nat) : ∀ (l : Wl) (L : List ByteArray), (lay L (shift s l)).drop s = lay (L.drop s) l
  | [], _ => rfl
  | p :: r, L => by
    show (lay (L.set (s + p.1) p.2) (shift s r)).drop s = lay ((L.drop s).set p.1 p.2) r
    rw [drop_lay_ge s r, drop_set_ge]
theorem drop_layK_lt (kept : List Int) (s : Nat) : ∀ (l : Wl) (i : Nat) (L : List ByteArray), (∀ p ∈ l, p.1 < s) → (layK kept i L l).drop s = L.drop s
  | [], _, _, _ => rfl
  | p :: r, i, L, h => by
    rw [layK, drop_layK_lt kept s r _ _ (fun q hq => h q (List.mem_cons_of_mem _ hq))]
    split
    · rw [drop_set_lt _ _ _ _ (h p List.mem_cons_self)]
    · rfl
theorem drop_layK_ge (kept : List Int) (s : Nat) : ∀ (l : Wl) (i : Nat) (L : List ByteArray), (layK kept i L (shift s l)).drop s = layK kept i (L.drop s) l
  | [], _, _ => rfl
  | p :: r, i, L => by
    show (layK kept (i + 1) (if (i : Int) ∈ kept then L.set (s + p.1) p.2 else L) (shift s r)).drop s = layK kept (i + 1) (if (i : Int) ∈ kept then (L.drop s).set p.1 p.2 else L.drop s) r
    rw [drop_layK_ge kept s r]
    congr 1
    split
    · rw [drop_set_ge]
    · rfl
/-- what the writes cover does not matter to what they make -/
theorem lay_same : ∀ (l : Wl) (L L' : List ByteArray), L.length = L'.length → (∀ n, (∀ p ∈ l, p.1 ≠ n) → L[n]? = L'[n]?) → lay L l = lay L' l
  | [], L, L', _, h => List.ext_getElem? (fun n => h n (by simp))
  | p :: r, L, L', hl, h => by
    show lay (L.set p.1 p.2) r = lay (L'.set p.1 p.2) r
    refine lay_same r _ _ (by simpa using hl) (fun n hn => ?_)
    by_cases e : p.1 = n
    · subst e
      rw [List.getElem?_set, List.getElem?_set, hl, if_pos rfl, if_pos rfl]
    · rw [List.getElem?_set_ne e, List.getElem?_set_ne e]
      exact h n (fun q hq => by
        rcases List.mem_cons.1 hq with rfl | hq
        · exact e
        · exact hn q hq)
theorem lay_lay (l : Wl) (L : List ByteArray) : lay (lay L l) l = lay L l := lay_same l _ _ (lay_length _ _) (fun n hn => lay_get l L n hn)
theorem lay_layK (kept : List Int) (l : Wl) (i k : Nat) (L : List ByteArray) : lay (layK kept i L (l.take k)) l = lay L l :=
  lay_same l _ _ (layK_length _ _ _ _) (fun n hn => layK_get kept _ i L n (fun p hp => hn p (List.mem_of_mem_take hp)))
theorem layK_one (kept : List Int) (i : Nat) (L : List ByteArray) (p : Nat × ByteArray) (k : Nat) : layK kept i L ([p].take k) = L ∨ layK kept i L ([p].take k) = L.set p.1 p.2 := by
  cases k with
  | zero => exact .inl rfl
  | succ k =>
    have e : [p].take (k + 1) = [p] := by simp
    rw [e]
    simp only [layK]
    split
    · exact .inr rfl
    · exact .inl rfl
theorem take_shift (f : Nat) (l : Wl) (k : Nat) : (shift f l).take k = shift f (l.take k) := by simp [shift, List.map_take]

/-! the texts of the log's own sectors, by name alone -/
structure Names where
  hd : Nat → Nat → ByteArray
  nums : List Nat → ByteArray
/-- texts behind the sector of numbers -/
def txs : Nat → Wl → Wl
  | _, [] => []
  | k, p :: r => (k, p.2) :: txs (k + 1) r
theorem txs_length : ∀ (l : Wl) (k : Nat), (txs k l).length = l.length
  | [], _ => rfl
  | _ :: r, k => by simp [txs, txs_length r]
theorem txs_at : ∀ (l : Wl) (k i : Nat), (txs k l)[i]? = (l[i]?).map fun p => (k + i, p.2)
  | [], _, _ => by simp [txs]
  | p :: r, k, 0 => by simp [txs]
  | p :: r, k, i + 1 => by simp only [txs, List.getElem?_cons_succ, txs_at r]; congr 1; funext p; simp; omega
theorem txs_mem {l : Wl} {k : Nat} {p : Nat × ByteArray} (h : p ∈ txs k l) : ∃ i q, l[i]? = some q ∧ p = (k + i, q.2) := by
  obtain ⟨i, hi, e⟩ := List.getElem_of_mem h
  have := List.getElem?_eq_getElem hi
  rw [txs_at, e] at this
  obtain ⟨q, h1, h2⟩ := Option.map_eq_some_iff.1 this
  exact ⟨i, q, h1, h2.symm⟩
theorem txs_append : ∀ (a b : Wl) (k : Nat), txs k (a ++ b) = txs k a ++ txs (k + a.length) b
  | [], b, k => by simp [txs]
  | p :: r, b, k => by simp [txs, txs_append r b]; congr 1; omega
/-- the lay of different sectors -/
theorem lay_txs : ∀ (l : Wl) (k : Nat) (L : List ByteArray), k + l.length ≤ L.length → ∀ i q, l[i]? = some q → (lay L (txs k l))[k + i]? = some q.2
  | [], _, _, _, i, q, h => by simp at h
  | p :: r, k, L, hl, i, q, h => by
    show (lay (L.set k p.2) (txs (k + 1) r))[k + i]? = _
    simp at hl
    cases i with
    | zero =>
      simp at h; subst h
      have h1 : (lay (L.set k p.2) (txs (k + 1) r))[k]? = some p.2 := by
        rw [lay_get _ _ _ (fun x hx => by obtain ⟨j, y, _, rfl⟩ := txs_mem hx; simp; omega), List.getElem?_set_self (by omega)]
      exact h1
    | succ i =>
      have := lay_txs r (k + 1) (L.set k p.2) (by simp; omega) i q (by simpa using h)
      rw [show k + (i + 1) = k + 1 + i by omega]
      exact this
section
variable (N : Names)
def numsOf (w : Wl) : ByteArray := N.nums (w.map Prod.fst)
def bhL (w : Wl) : Wl := (0, numsOf N w) :: txs 1 w
structure Good (n s : Nat) (w : Wl) : Prop where
  num : ∀ p ∈ w, s + p.1 < n ∧ p.2.size = 512
  nd : (w.map Prod.fst).Nodup
  len : 1 + w.length < s
  le : w.length ≤ 256
structure Laid (L : List ByteArray) (w : Wl) : Prop where
  nums : L[1]? = some (numsOf N w)
  txt : ∀ i p, w[i]? = some p → L[2 + i]? = some p.2
/-- what a safe row may be behind a crash, where the blocks are B -/
def RecL (L : List ByteArray) (s : Nat) (B : List ByteArray) : Prop :=
  ((L[0]? = some (fl 0) ∨ L[0]? = some (N.hd s 0)) ∧ L.drop s = B) ∨ ∃ w : Wl, w ≠ [] ∧ Good L.length s w ∧ L[0]? = some (N.hd s w.length) ∧ Laid N L w ∧ lay (L.drop s) w = B
structure OKst (st : St) (n s : Nat) (B : List ByteArray) : Prop where
  wf : st.WF
  pend : st.pend = []
  off : st.off = false
  opn : st.opn = false
  len : st.safe.length = n
  head : st.safe[0]? = some (N.hd s 0)
  blk : st.safe.drop s = B
structure OFFst (st : St) (n : Nat) (P : List ByteArray → Prop) : Prop where
  wf : st.WF
  off : st.off = true
  opn : st.opn = true
  len : st.safe.length = n
  few : st.pend.length ≤ 300
  may : ∀ kept, P (layK kept 0 st.safe st.pend)
theorem OFFst.mono {st : St} {n : Nat} {P Q : List ByteArray → Prop} (h : OFFst st n P) (hq : ∀ L, P L → Q L) : OFFst st n Q := ⟨h.wf, h.off, h.opn, h.len, h.few, fun k => hq _ (h.may k)⟩
/-- one lay, from a row at rest -/
theorem lay_out (st : St) (l : Wl) (wf : st.WF) (hp : st.pend = []) (ho : st.off = false) (hl : ∀ p ∈ l, p.1 < st.safe.length ∧ p.2.size = 512) :
    ((st.fall = 0 ∨ l.length + 1 < st.fall) ∧ layR st l = ({ st with safe := lay st.safe l, pend := [], fall := st.fall - (l.length + 1) }, 0)) ∨
    (1 ≤ st.fall ∧ st.fall ≤ l.length + 1 ∧ layR st l = ({ st with pend := l.take (st.fall - 1), off := true, opn := true, fall := 0 }, 9)) := by
  have h := layR_spec l st ho hl
  have e : st.seen = st.safe := by unfold St.seen; rw [hp]; rfl
  rw [e, hp] at h
  by_cases c : st.fall = 0 ∨ l.length + 1 < st.fall
  · exact .inl ⟨c, h.1 c⟩
  · exact .inr ⟨by omega, by omega, by have := h.2 (by omega) (by omega); simpa using this⟩
theorem wf_lay {st : St} (wf : st.WF) (l : Wl) (hl : ∀ p ∈ l, p.1 < st.safe.length ∧ p.2.size = 512) (f : Nat) (hf : f ≤ st.fall) : ({ st with safe := lay st.safe l, pend := [], fall := f } : St).WF :=
  ⟨by simp [lay_length]; exact wf.lo, by simp [lay_length]; exact wf.hi, Sz.lay _ wf.sz (fun p hp => (hl p hp).2), by simp, by have := wf.fl; simp; omega⟩
theorem wf_off {st : St} (wf : st.WF) (l : Wl) (hl : ∀ p ∈ l, p.1 < st.safe.length ∧ p.2.size = 512) (k : Nat) : ({ st with pend := l.take k, off := true, opn := true, fall := 0 } : St).WF :=
  ⟨wf.lo, wf.hi, wf.sz, fun p hp => hl p (List.mem_of_mem_take hp), by simp⟩
/-- the two lays that end what is under way -/
def finR (st : St) (s : Nat) (w : Wl) : St × Int := if (layR st (shift s w)).2 = 0 then layR (layR st (shift s w)).1 [(0, N.hd s 0)] else layR st (shift s w)
def comR (st : St) (s : Nat) (w : Wl) : St × Int :=
  if (layR st (shift 1 (bhL N w))).2 = 0 then
    (if (layR (layR st (shift 1 (bhL N w))).1 [(0, N.hd s w.length)]).2 = 0 then finR N (layR (layR st (shift 1 (bhL N w))).1 [(0, N.hd s w.length)]).1 s w else layR (layR st (shift 1 (bhL N w))).1 [(0, N.hd s w.length)])
  else layR st (shift 1 (bhL N w))
variable {N}
theorem rest_out (hN : ∀ s c, (N.hd s c).size = 512) {st : St} {n s : Nat} {B : List ByteArray} (wf : st.WF) (hp : st.pend = []) (ho : st.off = false) (hopn : st.opn = false) (hn : st.safe.length = n) (hs : 1 ≤ s) (hr : RecL N st.safe s B) (hb : st.safe.drop s = B) :
    ((st.fall = 0 ∨ 2 < st.fall) ∧ (layR st [(0, N.hd s 0)]).2 = 0 ∧ OKst N (layR st [(0, N.hd s 0)]).1 n s B ∧ (layR st [(0, N.hd s 0)]).1.fall = st.fall - 2) ∨
    (1 ≤ st.fall ∧ st.fall ≤ 2 ∧ (layR st [(0, N.hd s 0)]).2 = 9 ∧ OFFst (layR st [(0, N.hd s 0)]).1 n (fun L => RecL N L s B)) := by
  have hl : ∀ p ∈ [((0 : Nat), N.hd s 0)], p.1 < st.safe.length ∧ p.2.size = 512 := fun p hp => by
    simp at hp; subst hp; exact ⟨wf.lo, hN _ _⟩
  have hset : RecL N (st.safe.set 0 (N.hd s 0)) s B := .inl ⟨.inr (List.getElem?_set_self wf.lo), by rw [drop_set_lt _ _ _ _ hs]; exact hb⟩
  rcases lay_out st _ wf hp ho hl with ⟨h1, h2⟩ | ⟨h1, h2, h3⟩
  · rw [h2]
    exact .inl ⟨h1, rfl, ⟨wf_lay wf _ hl _ (by omega), rfl, ho, hopn, by simp [lay_length]; exact hn, List.getElem?_set_self wf.lo, by show (st.safe.set 0 _).drop s = B; rw [drop_set_lt _ _ _ _ hs]; exact hb⟩, rfl⟩
  · rw [h3]
    refine .inr ⟨h1, by simpa using h2, rfl, ⟨wf_off wf _ hl _, rfl, rfl, hn, by simp; omega, fun kept => ?_⟩⟩
    show RecL N (layK kept 0 st.safe _) s B
    rcases layK_one kept 0 st.safe (0, N.hd s 0) (st.fall - 1) with h | h
    · rw [h]; exact hr
    · rw [h]; exact hset
theorem Laid.kept {L L' : List ByteArray} {w : Wl} {s : Nat} (h : Laid N L w) (hl : 1 + w.length < s) (hk : ∀ i, 1 ≤ i → i < s → L'[i]? = L[i]?) : Laid N L' w :=
  ⟨(hk 1 (by omega) (by omega)).trans h.nums, fun i p hi => (hk (2 + i) (by omega) (by have := (List.getElem?_eq_some_iff.1 hi).1; omega)).trans (h.txt i p hi)⟩
theorem fin_out (hN : ∀ s c, (N.hd s c).size = 512) {st : St} {n s : Nat} {B : List ByteArray} {w : Wl} (wf : st.WF) (hp : st.pend = []) (ho : st.off = false) (hopn : st.opn = false) (hn : st.safe.length = n) (hw : w ≠ []) (g : Good n s w) (h0 : st.safe[0]? = some (N.hd s w.length)) (hla : Laid N st.safe w) (hb : lay (st.safe.drop s) w = B) :
    ((st.fall = 0 ∨ w.length + 3 < st.fall) ∧ (finR N st s w).2 = 0 ∧ OKst N (finR N st s w).1 n s B ∧ (finR N st s w).1.fall = st.fall - (w.length + 3)) ∨
    (1 ≤ st.fall ∧ st.fall ≤ w.length + 3 ∧ (finR N st s w).2 = 9 ∧ OFFst (finR N st s w).1 n (fun L => RecL N L s B)) := by
  have hs : 1 ≤ s := by have := g.len; omega
  have hl : ∀ p ∈ shift s w, p.1 < st.safe.length ∧ p.2.size = 512 := fun p hp => by
    obtain ⟨q, hq, rfl⟩ := mem_shift hp
    rw [hn]; exact g.num q hq
  have get : ∀ (L : List ByteArray) i, i < s → (∀ p ∈ shift s w, p.1 ≠ i) := fun L i hi p hp => by
    obtain ⟨q, hq, rfl⟩ := mem_shift hp
    simp; omega
  rcases lay_out st _ wf hp ho hl with ⟨h1, h2⟩ | ⟨h1, h2, h3⟩
  · unfold finR
    rw [h2]
    simp only [if_true]
    rw [shift_length] at h1 ⊢
    have hwf := wf_lay wf _ hl (st.fall - (w.length + 1)) (by omega)
    have hd : (lay st.safe (shift s w)).drop s = B := by rw [drop_lay_ge]; exact hb
    have hr : RecL N (lay st.safe (shift s w)) s B := by
      refine .inr ⟨w, hw, by rw [lay_length, hn]; exact g, ?_, ?_, ?_⟩
      · rw [lay_get _ _ _ (get [] 0 hs)]; exact h0
      · exact hla.kept g.len (fun i _ hi => lay_get _ _ _ (get [] i hi))
      · rw [hd, ← hb, lay_lay]
    have := rest_out hN (st := { st with safe := lay st.safe (shift s w), pend := [], fall := st.fall - (w.length + 1) }) (n := n) (s := s) (B := B) hwf rfl ho hopn (by simp [lay_length]; exact hn) hs hr hd
    simp only at this
    rcases this with ⟨a, b, c, d⟩ | ⟨a, b, c, d⟩
    · exact .inl ⟨by omega, b, c, by rw [d]; omega⟩
    · exact .inr ⟨by omega, by omega, c, d⟩
  · unfold finR
    rw [h3]
    simp only [show ¬ ((9 : Int) = 0) by decide, if_false]
    rw [shift_length] at h2
    refine .inr ⟨h1, by omega, trivial, ⟨wf_off wf _ hl _, rfl, rfl, hn, by have := g.le; simp [shift_length]; omega, fun kept => ?_⟩⟩
    show RecL N (layK kept 0 st.safe _) s B
    refine .inr ⟨w, hw, by rw [layK_length, hn]; exact g, ?_, ?_, ?_⟩
    · rw [layK_get _ _ _ _ _ (fun p hp => get [] 0 hs p (List.mem_of_mem_take hp))]; exact h0
    · exact hla.kept g.len (fun i _ hi => layK_get _ _ _ _ _ (fun p hp => get [] i hi p (List.mem_of_mem_take hp)))
    · rw [take_shift, drop_layK_ge, lay_layK]; exact hb
theorem bhL_mem {s n : Nat} {w : Wl} (g : Good n s w) (hnum : ∀ l, (N.nums l).size = 512) (hsn : s < n) : ∀ p ∈ shift 1 (bhL N w), 1 ≤ p.1 ∧ p.1 < s ∧ p.1 < n ∧ p.2.size = 512 := fun p hp => by
  obtain ⟨q, hq, rfl⟩ := mem_shift hp
  have := g.len
  rcases List.mem_cons.1 hq with rfl | hq
  · exact ⟨by simp, by simp; omega, by simp; omega, hnum _⟩
  · obtain ⟨i, x, hi, rfl⟩ := txs_mem hq
    have hil := (List.getElem?_eq_some_iff.1 hi).1
    exact ⟨by simp, by simp; omega, by simp; omega, (g.num x (List.mem_of_getElem? hi)).2⟩
theorem com_out (hN : ∀ s c, (N.hd s c).size = 512) (hnum : ∀ l, (N.nums l).size = 512) {st : St} {n s : Nat} {B : List ByteArray} {w : Wl} (ok : OKst N st n s B) (hsn : s < n) (hw : w ≠ []) (g : Good n s w) :
    ((st.fall = 0 ∨ 2 * w.length + 7 < st.fall) ∧ (comR N st s w).2 = 0 ∧ OKst N (comR N st s w).1 n s (lay B w) ∧ (comR N st s w).1.fall = st.fall - (2 * w.length + 7)) ∨
    (1 ≤ st.fall ∧ st.fall ≤ 2 * w.length + 7 ∧ (comR N st s w).2 = 9 ∧ OFFst (comR N st s w).1 n (fun L => RecL N L s B ∨ RecL N L s (lay B w)) ∧ (st.fall = 1 → OFFst (comR N st s w).1 n (fun L => L[0]? = some (N.hd s 0) ∧ L.drop s = B))) := by
  obtain ⟨wf, hp, ho, hopn, hn, h0, hb⟩ := ok
  have hs : 1 ≤ s := by have := g.len; omega
  have hm := bhL_mem g hnum hsn
  have hl : ∀ p ∈ shift 1 (bhL N w), p.1 < st.safe.length ∧ p.2.size = 512 := fun p hp => by rw [hn]; exact (hm p hp).2.2
  have len1 : (shift 1 (bhL N w)).length = w.length + 1 := by rw [shift_length, bhL, List.length_cons, txs_length]
  unfold comR
  rcases lay_out st _ wf hp ho hl with ⟨h1, h2⟩ | ⟨h1, h2, h3⟩
  · rw [h2]
    simp only [if_true]
    rw [len1] at h1 ⊢
    have wf1 := wf_lay wf _ hl (st.fall - (w.length + 1 + 1)) (by omega)
    have hd1 : (lay st.safe (shift 1 (bhL N w))).drop s = B := by rw [drop_lay_lt _ _ _ (fun p hp => (hm p hp).2.1)]; exact hb
    have h01 : (lay st.safe (shift 1 (bhL N w)))[0]? = some (N.hd s 0) := by rw [lay_get _ _ _ (fun p hp => by have := (hm p hp).1; omega)]; exact h0
    have hn1 : (lay st.safe (shift 1 (bhL N w))).length = n := by rw [lay_length]; exact hn
    have hsh : shift 1 (bhL N w) = (1, numsOf N w) :: txs 2 w := by
      rw [bhL, shift, List.map_cons]
      congr 1
      apply List.ext_getElem?
      intro i
      rw [List.getElem?_map, txs_at, txs_at]
      cases w[i]? <;> simp; omega
    have hla : Laid N (lay st.safe (shift 1 (bhL N w))) w := by
      rw [hsh]
      refine ⟨?_, fun i p hi => ?_⟩
      · show (lay (st.safe.set 1 (numsOf N w)) (txs 2 w))[1]? = _
        rw [lay_get _ _ _ (fun p hp => by obtain ⟨j, y, _, rfl⟩ := txs_mem hp; simp; omega), List.getElem?_set_self (by have := g.len; omega)]
      · show (lay (st.safe.set 1 (numsOf N w)) (txs 2 w))[2 + i]? = _
        exact lay_txs w 2 _ (by simp; have := g.len; omega) i p hi
    have hl2 : ∀ p ∈ [((0 : Nat), N.hd s w.length)], p.1 < (lay st.safe (shift 1 (bhL N w))).length ∧ p.2.size = 512 := fun p hp => by
      simp at hp; subst hp; rw [hn1]; exact ⟨by simp; omega, hN _ _⟩
    generalize hL : lay st.safe (shift 1 (bhL N w)) = L1 at *
    have hla2 : Laid N (L1.set 0 (N.hd s w.length)) w := hla.kept g.len (fun i h1 _ => List.getElem?_set_ne (by omega))
    have hd2 : (L1.set 0 (N.hd s w.length)).drop s = B := by rw [drop_set_lt _ _ _ _ hs]; exact hd1
    have h02 : (L1.set 0 (N.hd s w.length))[0]? = some (N.hd s w.length) := List.getElem?_set_self (by omega)
    rcases lay_out { st with safe := L1, pend := [], fall := st.fall - (w.length + 1 + 1) } [(0, N.hd s w.length)] wf1 rfl ho hl2 with ⟨h3, h4⟩ | ⟨h3, h4, h5⟩
    · rw [h4]
      simp only [if_true]
      have wf2 := wf_lay wf1 [(0, N.hd s w.length)] hl2 (st.fall - (w.length + 1 + 1) - ([(0, N.hd s w.length)].length + 1)) (by simp)
      have := fin_out hN (st := { st with safe := lay L1 [(0, N.hd s w.length)], pend := [], fall := st.fall - (w.length + 1 + 1) - ([(0, N.hd s w.length)].length + 1) }) (n := n) (s := s) (B := lay B w) (w := w) wf2 rfl ho hopn (by simp [lay_length]; exact hn1) hw g h02 hla2 (by show lay ((L1.set 0 (N.hd s w.length)).drop s) w = _; rw [hd2])
      simp only [List.length_cons, List.length_nil] at this h3
      rcases this with ⟨a, b, c, d⟩ | ⟨a, b, c, d⟩
      · exact .inl ⟨by omega, b, c, by simp only [List.length_cons, List.length_nil]; rw [d]; omega⟩
      · exact .inr ⟨by omega, by omega, c, d.mono (fun L h => .inr h), fun h => by omega⟩
    · rw [h5]
      simp only [show ¬ ((9 : Int) = 0) by decide, if_false]
      simp only [List.length_cons, List.length_nil] at h3 h4
      refine .inr ⟨by omega, by omega, trivial, ⟨wf_off wf1 _ hl2 _, rfl, rfl, hn1, by simp; omega, fun kept => ?_⟩, fun h => by omega⟩
      show RecL N (layK kept 0 L1 _) s B ∨ _
      rcases layK_one kept 0 L1 (0, N.hd s w.length) (st.fall - (w.length + 1 + 1) - 1) with h | h
      · simp only at h ⊢; rw [h]
        exact .inl (.inl ⟨.inr h01, hd1⟩)
      · simp only at h ⊢; rw [h]
        exact .inr (.inr ⟨w, hw, by rw [List.length_set, hn1]; exact g, h02, hla2, by rw [hd2]⟩)
  · rw [h3]
    simp only [show ¬ ((9 : Int) = 0) by decide, if_false]
    rw [len1] at h2
    have hall : OFFst { st with pend := (shift 1 (bhL N w)).take (st.fall - 1), off := true, opn := true, fall := 0 } n (fun L => L[0]? = some (N.hd s 0) ∧ L.drop s = B) := by
      refine ⟨wf_off wf _ hl _, rfl, rfl, hn, by have := g.le; simp only [List.length_take, len1]; omega, fun kept => ?_⟩
      refine ⟨?_, ?_⟩
      · show (layK kept 0 st.safe _)[0]? = _
        rw [layK_get _ _ _ _ _ (fun p hp => by have := (hm p (List.mem_of_mem_take hp)).1; omega)]; exact h0
      · show (layK kept 0 st.safe _).drop s = _
        rw [drop_layK_lt _ _ _ _ _ (fun p hp => (hm p (List.mem_of_mem_take hp)).2.1)]; exact hb
    exact .inr ⟨h1, by omega, trivial, hall.mono (fun L h => .inl (.inl ⟨.inr h.1, h.2⟩)), fun _ => hall⟩
end
end Go.Proofs.YtghdgddpdamhcaaGreat
