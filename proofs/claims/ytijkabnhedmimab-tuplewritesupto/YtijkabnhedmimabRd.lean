/- Read: the list whose text this is. -/
import Derived.Test.YtijkabnhedmimabRNum
namespace Go.Proofs.Ytijkabnhedmimab
set_option linter.unusedVariables false
set_option linter.unusedSimpArgs false
open Go.RowKit
/-- a part's cells -/
def pcs (p : Pt) : List Value := [.int .i64 p.kind, str p.text, .int .i64 p.n]
def pcells (l : List Pt) : List Value := (l.map pcs).flatten
theorem pcells_append (a b : List Pt) : pcells (a ++ b) = pcells a ++ pcells b := by simp [pcells]
theorem pcells_length (l : List Pt) : (pcells l).length = l.length * 3 := by
  induction l with
  | nil => rfl
  | cons p l ih => simp [pcells, pcs] at ih ⊢; omega
theorem pcells_get {l : List Pt} {k : Nat} {p : Pt} (h : l[k]? = some p) : (pcells l)[k * 3]? = some (.int .i64 p.kind) ∧ (pcells l)[k * 3 + 1]? = some (str p.text) ∧ (pcells l)[k * 3 + 2]? = some (.int .i64 p.n) := by
  obtain ⟨hk, he⟩ := List.getElem?_eq_some_iff.1 h
  have e : l = l.take k ++ (p :: l.drop (k + 1)) := by
    rw [← he, List.getElem_cons_drop]
    simp
  have e2 : pcells l = pcells (l.take k) ++ (pcs p ++ pcells (l.drop (k + 1))) := by
    conv => lhs; rw [e]
    rw [pcells_append]
    rfl
  have hl : (pcells (l.take k)).length = k * 3 := by rw [pcells_length, List.length_take]; omega
  rw [e2]
  refine ⟨?_, ?_, ?_⟩
  · rw [List.getElem?_append_right (by omega), hl, show k * 3 - k * 3 = 0 by omega]; rfl
  · rw [List.getElem?_append_right (by omega), hl, show k * 3 + 1 - k * 3 = 1 by omega]; rfl
  · rw [List.getElem?_append_right (by omega), hl, show k * 3 + 2 - k * 3 = 2 by omega]; rfl
theorem infoPf : (Try.prog.info? 39).map (fun i => (i.zero, i.size, i.bytes)) = some (some (.agg #[.int .i64 0, .string ⟨#[]⟩, .int .i64 0]), 3, 32) := by kernel_rfl
theorem infoP : ∃ i, Try.prog.info? 39 = some i ∧ i.zero = some (.agg #[.int .i64 0, .string ⟨#[]⟩, .int .i64 0]) ∧ i.size = 3 ∧ i.bytes = 32 := by
  have := infoPf
  cases hq : Try.prog.info? 39 with
  | none => rw [hq] at this; cases this
  | some i => rw [hq] at this; simp at this; exact ⟨i, rfl, this.1, this.2.1, this.2.2⟩
/-- a row of parts of its own, made behind 'base' -/
structure Ow (base : Nat) (w : World) (v : Value) (l : List Pt) : Prop where
  own : w.ownsRow base 39 3 v l.length (pcells l)
  le : base ≤ w.heap.size
theorem Ow.nil (w : World) (base : Nat) (h : base ≤ w.heap.size) : Ow base w (.slice none 0 0) [] := ⟨World.ownsRow_nil _ _ _ _, h⟩
theorem Ow.alloc {base : Nat} {w : World} {v : Value} {l : List Pt} (h : Ow base w v l) (o : Obj) : Ow base (w.alloc o) v l := ⟨h.own.alloc o, by have := h.le; simp; omega⟩
theorem Ow.later {base : Nat} {w w' : World} {v : Value} {l : List Pt} (h : Ow base w v l) (hb : Below w.heap.size w w') : Ow base w' v l := ⟨own_later h.own hb, Nat.le_trans h.le hb.size⟩
theorem Ow.slice {base : Nat} {w : World} {v : Value} {l : List Pt} (h : Ow base w v l) : ∃ a cap, v = .slice a l.length cap ∧ PIn w a l := by
  rcases h.own.2 with ⟨rfl, h0⟩ | ⟨g, cap, cur, rfl, _⟩
  · have : l = [] := List.eq_nil_of_length_eq_zero h0
    subst this
    exact ⟨none, 0, rfl, ⟨fun k p hk => by simp at hk⟩⟩
  · refine ⟨_, _, rfl, ⟨fun k p hk => ?_⟩⟩
    obtain ⟨hkl, _⟩ := List.getElem?_eq_some_iff.1 hk
    obtain ⟨c0, c1, c2⟩ := pcells_get hk
    have hlt := (h.own.lt g rfl).2
    have hp : (pcells l).length = l.length * 3 := pcells_length l
    refine ⟨g, 0, rfl, hlt, ?_, ?_, ?_⟩
    · rw [Nat.zero_add, h.own.cellAt _ (by omega), c0]
    · rw [Nat.zero_add, h.own.cellAt _ (by omega), c1]
    · rw [Nat.zero_add, h.own.cellAt _ (by omega), c2]
theorem app_part {ops : Array Oper} {rest : List Oper} {o : Oper} {a : Act} {Q : Exit → Act → World → Prop} {base : Nat} {w : World} {v : Value} {l : List Pt} {g : Nat} (p : Pt) (hO : Ow base w v l) (hg : g = w.heap.size) (hn : l.length ≤ 1000000000000)
    (hgd : o.guard = none) (s x : Operand) (ho : o.op = .call { callee := .builtin .append, args := #[s, x], argTypes := #[30, 30] })
    (hs : a.eval s = v) (hx : a.eval x = .slice (some ⟨g, 0, none⟩) 1 1)
    (h : ∀ v' w', Ow base w' v' (l ++ [p]) → Below base w w' → (∀ k, k < w.heap.size → v.ownBlock ≠ some k → w'.heap[k]? = w.heap[k]?) → wpList Try.prog ops Q rest (a.put o.dst v') w') :
    wpList Try.prog ops Q (o :: rest) a (w.alloc (.cells #[.int .i64 p.kind, str p.text, .int .i64 p.n] 39)) := by
  obtain ⟨i0, hi0, hz0, hz1, hz2⟩ := infoP
  subst hg
  have hm : maxLen = 9223372036854775807 := rfl
  refine wpList_append_own_wide _ hgd s x 30 ho base 39 i0 _ 3 32 Try.underlying30 hi0 hz0 hz1 hz2 rfl (by omega) v l.length (pcells l) hs (hO.own.alloc _) _ 1 1 (pcs p) hx rfl
    (World.news_of_block (cs := #[.int .i64 p.kind, str p.text, .int .i64 p.n]) (t := 39) (fr := (0, 0)) (heap_alloc_new w _)) (by simp [pcs, Value.oneCell']) (by rw [hm]; omega) (by omega) (by have := hO.le; simp; omega) ?_
  intro v' w' hown hgrow _
  refine h v' w' ⟨?_, ?_⟩ ?_ ?_
  · rw [pcells_append, List.length_append]
    have : pcells [p] = pcs p := by simp [pcells]
    rw [this]; exact hown
  · have := hgrow.size; have h2 := hO.le; simp at this; omega
  · exact ((Below.refl _ _).alloc hO.le _).trans (grown_below (hO.own.alloc _) (by have := hO.le; simp; omega) hgrow)
  · intro k hk hne
    rw [hgrow.block k (by simp; omega) (Ne.symm hne), heap_alloc_old _ _ hk]
theorem wt_split : ∀ {l m : List Pt} {R : List UInt8}, okL l → okL m → wt l ++ R = wt m → ∃ m', m = l ++ m' ∧ R = wt m'
  | [], m, R, _, _, h => ⟨m, rfl, by simpa [wt] using h⟩
  | p :: l, [], R, _, _, h => by
    rw [wt_cons, wt_nil, List.append_assoc] at h
    exact absurd (List.append_eq_nil_iff.1 h).1 (ptx_ne p)
  | p :: l, q :: m, R, hl, hm, h => by
    rw [wt_cons, wt_cons, List.append_assoc] at h
    obtain ⟨e1, e2⟩ := ptx_inj hl.head hm.head h
    subst e1
    obtain ⟨m', h1, h2⟩ := wt_split hl.tail hm.tail e2
    exact ⟨m', by rw [h1]; rfl, h2⟩
theorem len_wt (l : List Pt) : l.length ≤ (wt l).length := by
  induction l with
  | nil => simp
  | cons p l ih => rw [wt_cons, List.length_append, ptx_length, List.length_cons]; split <;> omega
/-- what Read answers -/
def readTold (base : Nat) (b : List UInt8) (e : Ending) (w' : World) : Prop :=
  (∃ v l, okL l ∧ b = wt l ∧ e = .returned (.tuple #[v, .int .i64 0]) ∧ Ow base w' v l) ∨ ((∀ l, okL l → b ≠ wt l) ∧ e = .returned (.tuple #[.slice none 0 0, .int .i64 4]))
attribute [local go_sem ↓] Go.wp_at_zero Go.wp_at_succ
attribute [local go_sem ↓] sl9 ix9
set_option maxHeartbeats 1000000 in
theorem read_any (b : List UInt8) (w : World) (hl : b.length ≤ 1000000000000) :
    Calls Try.prog 13 #[str b] w fun e w' => readTold w.heap.size b e w' ∧ Below w.heap.size w w' := by
  go_enter Try.func13, Try.ntmps13
  go_wp2_with fail
  go_loopw [0, 4] (fun x v wr => ∃ (R : List UInt8) (l : List Pt), x = str R ∧ Ow w.heap.size wr v l ∧ okL l ∧ b = wt l ++ R ∧ Below w.heap.size w wr) (fun x _ _ => szOf x)
  case atStart => exact ⟨b, [], rfl, Ow.nil _ _ (Nat.le_refl _), fun p hp => by simp at hp, by simp [wt], Below.refl _ _⟩
  case round =>
    obtain ⟨R, l, rfl, hO, hok, hbe, hb⟩ := hrel
    have hbl : (wt l).length + R.length ≤ 1000000000000 := by rw [hbe, List.length_append] at hl; exact hl
    have hll : l.length ≤ 1000000000000 := Nat.le_trans (len_wt l) (by omega)
    cases R with
    | nil =>
      have HT : ∀ v w', Ow w.heap.size w' v l → readTold w.heap.size b (.returned (.tuple #[v, .int .i64 0])) w' := fun v w' h => Or.inl ⟨v, l, hok, by simpa using hbe, rfl, h⟩
      clear hbe
      go_wp2_with fail
      go_ret2
      exact ⟨HT _ _ hO, hb⟩
    | cons c R =>
      have hr := readPart_any c R wr (by simp at hbl; omega)
      have HB : ∀ w', (∀ p r, p.ok → c :: R ≠ ptx p ++ r) → readTold w.heap.size b (.returned (.tuple #[.slice none 0 0, .int .i64 4])) w' := by
        intro w' hno
        refine Or.inr ⟨fun m hm e => ?_, rfl⟩
        rw [hbe] at e
        obtain ⟨m', _, h2⟩ := wt_split hok hm e
        cases m' with
        | nil => cases h2
        | cons p m' =>
          rw [wt_cons] at h2
          have hpo : p.ok := by
            have : p ∈ m := by rw [‹m = l ++ p :: m'›]; simp
            exact hm p this
          exact hno p _ hpo h2
      have HG : ∀ p r, p.ok → Hid (c :: R = ptx p ++ r) → Hid (okL (l ++ [p]) ∧ b = wt (l ++ [p]) ++ r ∧ r.length < (c :: R).length) := by
        intro p r hp h
        refine ⟨fun q hq => ?_, ?_, ?_⟩
        · rcases List.mem_append.1 hq with h | h
          · exact hok q h
          · simp at h; subst h; exact hp
        · rw [hbe, h.out, wt_append, wt_cons, wt_nil, List.append_nil, List.append_assoc]
        · rw [h.out, List.length_append, ptx_length]
          split <;> omega
      clear hbe
      go_wp2_with (first
        | (go_at_call 23; refine hr.mono ?_; rintro e w1 ⟨⟨v, rfl, hv⟩, hb1⟩; rcases hv with ⟨p, r, hp, he, rfl⟩ | ⟨hno, p, r, rfl⟩; replace he := HG p r hp ⟨he⟩; have hO1 := (hO.later hb1).alloc (Obj.cells #[Value.int IntKind.i64 p.kind, Value.string { data := p.text.toArray }, Value.int IntKind.i64 p.n] 39))
        | (refine app_part p hO1 (by simp) hll rfl _ _ rfl rfl rfl ?_; intro v2 w2 hO2 hb2 _))
      · exact ⟨⟨r, l ++ [p], rfl, hO2, he.out.1, he.out.2.1, ((hb.trans (hb1.mono hb.size)).alloc (Nat.le_trans hb.size hb1.size) _).trans hb2⟩, by simp only [szOf, str_size]; exact he.out.2.2⟩
      · go_ret2
        exact ⟨HB _ hno, (hb.trans (hb1.mono hb.size)).alloc (Nat.le_trans hb.size hb1.size) _⟩
end Go.Proofs.Ytijkabnhedmimab
