/- Layer 22: lists of commands of one's own. -/
import Derived.Test.YtgbkloihclbimaaDoorWn
namespace Go.Proofs.YtgbkloihclbimaaDoor
set_option maxRecDepth 100000
set_option linter.unusedVariables false
set_option linter.unusedSimpArgs false
open Go.RowKit
/-- a command as it lies in a list: where its rows lie -/
structure Cr where
  c : Cm
  ma : Option Addr
  mc : Nat
  ka : Option Addr
  kc : Nat
abbrev Cr.mv (r : Cr) : Value := .slice r.ma r.c.st.mt.length r.mc
abbrev Cr.kv (r : Cr) : Value := .slice r.ka r.c.st.kept.length r.kc
def ccl (r : Cr) : List Value := (ccs r.c r.ma r.mc r.ka r.kc).toList
def rcl (R : List Cr) : List Value := R.flatMap ccl
theorem ccl_len (r : Cr) : (ccl r).length = 12 := rfl
theorem rcl_len (R : List Cr) : (rcl R).length = R.length * 12 := by
  unfold rcl
  induction R with
  | nil => rfl
  | cons r R ih => rw [List.flatMap_cons, List.length_append, ih, ccl_len, List.length_cons]; omega
theorem rcl_append (R S : List Cr) : rcl (R ++ S) = rcl R ++ rcl S := by unfold rcl; rw [List.flatMap_append]
/-- a list of commands of one's own, each with rows of its own -/
structure Fc (base : Nat) (w : World) (v : Value) (R : List Cr) : Prop where
  own : w.ownsRow base 36 12 v R.length (rcl R)
  le : base ≤ w.heap.size
  ow : ∀ r ∈ R, w.ownsRow base 38 2 r.mv r.c.st.mt.length (pcells r.c.st.mt)
  oi : ∀ r ∈ R, w.ownsRow base 3 1 r.kv r.c.st.kept.length (ivs r.c.st.kept)
  pm : ∀ (j k : Nat) (r s : Cr), ¬ j = k → R[j]? = some r → R[k]? = some s → ∀ b, r.mv.ownBlock = some b → s.mv.ownBlock ≠ some b
  pk : ∀ (j k : Nat) (r s : Cr), ¬ j = k → R[j]? = some r → R[k]? = some s → ∀ b, r.kv.ownBlock = some b → s.kv.ownBlock ≠ some b
def Blk (v : Value) (R : List Cr) (b : Nat) : Prop := v.ownBlock = some b ∨ ∃ r ∈ R, r.mv.ownBlock = some b ∨ r.kv.ownBlock = some b
theorem Fc.nil (base : Nat) (w : World) (h : base ≤ w.heap.size) : Fc base w (.slice none 0 0) [] := ⟨World.ownsRow_nil _ _ _ _, h, fun r q => (by cases q), fun r q => (by cases q), fun j k r s _ q => (by simp at q), fun j k r s _ q => (by simp at q)⟩
theorem Fc.lt {base : Nat} {w : World} {v : Value} {R : List Cr} (h : Fc base w v R) {b : Nat} (hb : Blk v R b) : base ≤ b ∧ b < w.heap.size := by
  rcases hb with q | ⟨r, hr, q | q⟩
  · exact h.own.lt b q
  · exact (h.ow r hr).lt b q
  · exact (h.oi r hr).lt b q
theorem Fc.same {base : Nat} {w w' : World} {v : Value} {R : List Cr} (h : Fc base w v R) (hs : w.heap.size ≤ w'.heap.size) (hb : ∀ b, Blk v R b → w'.heap[b]? = w.heap[b]?) : Fc base w' v R :=
  ⟨own_same h.own (fun g hg => hb g (.inl hg)), Nat.le_trans h.le hs, fun r hr => own_same (h.ow r hr) (fun g hg => hb g (.inr ⟨r, hr, .inl hg⟩)), fun r hr => own_same (h.oi r hr) (fun g hg => hb g (.inr ⟨r, hr, .inr hg⟩)), h.pm, h.pk⟩
theorem Fc.oth {base : Nat} {w w' : World} {v : Value} {R : List Cr} {X : Bs} (h : Fc base w v R) (ho : Oth X w w') (hx : ∀ b, X b → ¬ Blk v R b) : Fc base w' v R := h.same ho.size (fun b hb => ho.block b (h.lt hb).2 (fun q => hx b q hb))
theorem Fc.later {base : Nat} {w w' : World} {v : Value} {R : List Cr} (h : Fc base w v R) (hb : Below w.heap.size w w') : Fc base w' v R := h.oth (X := fun _ => False) (Oth.of_below hb) (fun _ q => q.elim)
theorem infoCf : (Tryd.prog.info? 36).map (fun i => (i.zero, i.size, i.bytes)) = some (some (.agg #[.int .i64 0, .int .i64 0, .int .i64 0, .int .i64 0, .string ⟨#[]⟩, .string ⟨#[]⟩, .string ⟨#[]⟩, .slice none 0 0, .int .i64 0, .int .i64 0, .slice none 0 0, .string ⟨#[]⟩]), 12, 160) := by kernel_rfl
theorem infoCx : ∃ i z, Tryd.prog.info? 36 = some i ∧ i.zero = some z ∧ z.cells.size = 12 ∧ i.size = 12 ∧ i.bytes = 160 := by
  have := infoCf
  cases hq : Tryd.prog.info? 36 with
  | none => rw [hq] at this; cases this
  | some i => rw [hq] at this; simp at this; exact ⟨i, _, rfl, this.1, rfl, this.2.1, this.2.2⟩
theorem ccl_one (r : Cr) : ∀ u ∈ ccl r, u.oneCell' = true := by
  intro u hu
  unfold ccl ccs at hu
  simp at hu
  rcases hu with rfl | rfl | rfl | rfl | rfl | rfl | rfl | rfl | rfl | rfl | rfl | rfl <;> rfl
/-- one command more -/
theorem run_cs {base : Nat} {w1 : World} {v : Value} {R : List Cr} (r : Cr) (hO : Fc base w1 v R) (hn : R.length ≤ 879609302210) {B : Nat} (hB : base ≤ B) (hr : RowsOf B w1 r.c r.ma r.mc r.ka r.kc) (hlt : ∀ b, Blk v R b → b < B) :
    ∃ va vc w', (∀ ty, (Builtin.append_ #[23, 23] ty #[v, .slice (some ⟨w1.heap.size, 0, none⟩) 1 1]).run Tryd.prog (w1.alloc (.cells (ccs r.c r.ma r.mc r.ka r.kc) 36)) = .ok (.slice va (R.length + 1) vc) w') ∧ Fc base w' (.slice va (R.length + 1) vc) (R ++ [r]) ∧ Below base w1 w' ∧ (∀ b, b < w1.heap.size → v.ownBlock ≠ some b → w'.heap[b]? = w1.heap[b]?) ∧ (∀ b, (Value.slice va (R.length + 1) vc).ownBlock = some b → v.ownBlock = some b ∨ w1.heap.size ≤ b) ∧ w1.heap.size ≤ w'.heap.size := by
  obtain ⟨i0, z0, hi0, hz0, hzs, hz1, hz2⟩ := infoCx
  have hm : maxLen = 9223372036854775807 := rfl
  have o1 := hO.own.alloc (.cells (ccs r.c r.ma r.mc r.ka r.kc) 36)
  have hle := hO.le
  obtain ⟨g, cap, w', hr', hown, hgrow, hat, hgl⟩ := run_append_lies (P := Tryd.prog) (w := w1.alloc (.cells (ccs r.c r.ma r.mc r.ka r.kc) 36)) 23 36 base 36 i0 z0 12 160 Tryd.underlying23 hi0 hz0 hz1 hz2 hzs (by omega) v R.length (rcl R) o1 ⟨w1.heap.size, 0, none⟩ 1 1 (ccl r) rfl
      (World.news_of_block (cs := ccs r.c r.ma r.mc r.ka r.kc) (t := 36) (fr := (0, 0)) (heap_alloc_new w1 _)) (ccl_one r) (by omega) (by rw [hm]; omega) (by omega) (by simp; omega) (w1.heap.size + 1) (by simp)
  have hk : ∀ b, b < w1.heap.size → v.ownBlock ≠ some b → w'.heap[b]? = w1.heap[b]? := fun b hb hne => by rw [hgrow.block b (by simp; omega) (Ne.symm hne)]; exact heap_alloc_old _ _ _ hb
  have hsz : w1.heap.size ≤ w'.heap.size := by have := hgrow.size; simp at this; omega
  have keepM : ∀ (x : Value) (n s : Nat) (xs : List Value) (t : TypeId) (b0 : Nat), t ≠ 36 → w1.ownsRow b0 t s x n xs → w'.ownsRow b0 t s x n xs := fun x n s xs t b0 ht h => own_same h fun k hk2 => hk k (h.lt k hk2).2 (fun q => by
    obtain ⟨c1, e1⟩ := own_type h hk2
    obtain ⟨c2, e2⟩ := own_type hO.own q
    rw [e1] at e2
    injection e2 with e2
    injection e2 with _ e3 _
    exact ht e3)
  refine ⟨some ⟨g, 0, none⟩, cap, w', fun ty => hr', ⟨?_, by omega, ?_, ?_, ?_, ?_⟩, ((Below.refl _ _).alloc hle _).trans (grown_below o1 (by simp; omega) hgrow), hk, ?_, hsz⟩
  · rw [rcl_append, List.length_append]
    exact hown
  · intro x hx
    rcases List.mem_append.1 hx with q | q
    · exact keepM _ _ _ _ _ _ (by decide) (hO.ow x q)
    · rw [List.mem_singleton.1 q]; exact own_base (keepM _ _ _ _ _ _ (by decide) hr.ow) hB
  · intro x hx
    rcases List.mem_append.1 hx with q | q
    · exact keepM _ _ _ _ _ _ (by decide) (hO.oi x q)
    · rw [List.mem_singleton.1 q]; exact own_base (keepM _ _ _ _ _ _ (by decide) hr.oi) hB
  · intro j k x y hjk hj hk2 b hb
    by_cases hj1 : j < R.length
    · rw [List.getElem?_append_left hj1] at hj
      by_cases hk1 : k < R.length
      · rw [List.getElem?_append_left hk1] at hk2
        exact hO.pm j k x y hjk hj hk2 b hb
      · have hkl := (List.getElem?_eq_some_iff.1 hk2).1
        simp at hkl
        obtain rfl : k = R.length := by omega
        rw [List.getElem?_append_right (Nat.le_refl _)] at hk2
        simp at hk2
        subst hk2
        intro q
        have h1 := hlt b (.inr ⟨x, List.mem_of_getElem? hj, .inl hb⟩)
        have h2 := (hr.ow.lt b q).1
        omega
    · have hjl := (List.getElem?_eq_some_iff.1 hj).1
      simp at hjl
      obtain rfl : j = R.length := by omega
      rw [List.getElem?_append_right (Nat.le_refl _)] at hj
      simp at hj
      subst hj
      have hk1 : k < R.length := by
        have hkl := (List.getElem?_eq_some_iff.1 hk2).1
        simp at hkl; omega
      rw [List.getElem?_append_left hk1] at hk2
      intro q
      have h1 := hlt b (.inr ⟨y, List.mem_of_getElem? hk2, .inl q⟩)
      have h2 := (hr.ow.lt b hb).1
      omega
  · intro j k x y hjk hj hk2 b hb
    by_cases hj1 : j < R.length
    · rw [List.getElem?_append_left hj1] at hj
      by_cases hk1 : k < R.length
      · rw [List.getElem?_append_left hk1] at hk2
        exact hO.pk j k x y hjk hj hk2 b hb
      · have hkl := (List.getElem?_eq_some_iff.1 hk2).1
        simp at hkl
        obtain rfl : k = R.length := by omega
        rw [List.getElem?_append_right (Nat.le_refl _)] at hk2
        simp at hk2
        subst hk2
        intro q
        have h1 := hlt b (.inr ⟨x, List.mem_of_getElem? hj, .inr hb⟩)
        have h2 := (hr.oi.lt b q).1
        omega
    · have hjl := (List.getElem?_eq_some_iff.1 hj).1
      simp at hjl
      obtain rfl : j = R.length := by omega
      rw [List.getElem?_append_right (Nat.le_refl _)] at hj
      simp at hj
      subst hj
      have hk1 : k < R.length := by
        have hkl := (List.getElem?_eq_some_iff.1 hk2).1
        simp at hkl; omega
      rw [List.getElem?_append_left hk1] at hk2
      intro q
      have h1 := hlt b (.inr ⟨y, List.mem_of_getElem? hk2, .inr q⟩)
      have h2 := (hr.oi.lt b hb).1
      omega
  · intro b hb
    simp [Value.ownBlock] at hb
    subst hb
    rcases hat with q | q
    · exact .inl q
    · right; omega
end Go.Proofs.YtgbkloihclbimaaDoor
