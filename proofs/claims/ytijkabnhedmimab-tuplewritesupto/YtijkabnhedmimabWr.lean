/- Write: the text of a list. -/
import Derived.Test.YtijkabnhedmimabNum
namespace Go.Proofs.Ytijkabnhedmimab
set_option linter.unusedVariables false
set_option linter.unusedSimpArgs false
open Go.RowKit
/-- the list that a slice holds -/
structure PIn (w : World) (a : Option Addr) (l : List Pt) : Prop where
  get : ∀ k p, l[k]? = some p → ∃ b off, a = some ⟨b, off, none⟩ ∧ b < w.heap.size ∧ w.cell? ⟨b, off + k * 3, none⟩ = some (.int .i64 p.kind) ∧ w.cell? ⟨b, off + k * 3 + 1, none⟩ = some (str p.text) ∧ w.cell? ⟨b, off + k * 3 + 2, none⟩ = some (.int .i64 p.n)
theorem PIn.later {w w' : World} {a : Option Addr} {l : List Pt} (h : PIn w a l) (hb : Below w.heap.size w w') : PIn w' a l := by
  refine ⟨fun k p hk => ?_⟩
  obtain ⟨b, off, h1, h2, h3, h4, h5⟩ := h.get k p hk
  exact ⟨b, off, h1, Nat.lt_of_lt_of_le h2 hb.size, by rw [hb.cell (p := ⟨b, _, none⟩) h2]; exact h3, by rw [hb.cell (p := ⟨b, _, none⟩) h2]; exact h4, by rw [hb.cell (p := ⟨b, _, none⟩) h2]; exact h5⟩
/-- what Write answers -/
def wrote (l : List Pt) : Value := .tuple #[str (if l.all isP then wt l else []), .int .i64 (if l.all isP then 0 else 1)]
theorem wrote_ok {l : List Pt} (h : l.all isP = true) : wrote l = .tuple #[str (wt l), .int .i64 0] := by simp [wrote, h]
theorem wrote_bad {l : List Pt} (h : l.all isP = false) : wrote l = .tuple #[str [], .int .i64 1] := by simp [wrote, h]
/-- numbers of 64 bits -/
def N64 (l : List Pt) : Prop := ∀ p ∈ l, -9223372036854775808 ≤ p.n ∧ p.n ≤ 9223372036854775807
def bulk (l : List Pt) : Nat := (l.map fun p => 10 + 9 * ngr p.text.length).sum
theorem wt_bulk (l : List Pt) : (wt l).length ≤ bulk l := by
  induction l with
  | nil => simp [wt, bulk]
  | cons p l ih =>
    rw [wt_cons, List.length_append, ptx_length]
    simp only [bulk, List.map_cons, List.sum_cons] at ih ⊢
    split <;> omega
theorem bulk_append (a b : List Pt) : bulk (a ++ b) = bulk a + bulk b := by simp [bulk]
theorem bulk_len (l : List Pt) : l.length ≤ bulk l := by
  induction l with
  | nil => simp
  | cons p l ih => simp [bulk] at ih ⊢; omega
theorem ok_of {p : Pt} (h : isP p = true) (h1 : -9223372036854775808 ≤ p.n) (h2 : p.n ≤ 9223372036854775807) : p.ok := by
  refine ⟨h1, h2, ?_⟩
  simp [isP] at h
  exact h
theorem isP_of {p : Pt} (h : p.ok) : isP p = true := by
  have := h.is
  simp [isP]
  exact this
theorem new3 {w w1 : World} {a b c : Value} {t : TypeId} (h : Below (w.alloc (.cells #[a, b, c] t)).heap.size (w.alloc (.cells #[a, b, c] t)) w1) :
    w1.cell? ⟨w.heap.size, 0, none⟩ = some a ∧ w1.cell? ⟨w.heap.size, 1, none⟩ = some b ∧ w1.cell? ⟨w.heap.size, 2, none⟩ = some c := by
  have hr : w1.heap[w.heap.size]? = some (.cells #[a, b, c] t (0, 0)) := by rw [h.block _ (by simp)]; exact heap_alloc_new _ _
  exact ⟨by rw [cell_of_row _ _ _ _ _ _ hr]; rfl, by rw [cell_of_row _ _ _ _ _ _ hr]; rfl, by rw [cell_of_row _ _ _ _ _ _ hr]; rfl⟩
theorem take_succ' {l : List Pt} {k : Nat} {p : Pt} (h : l[k]? = some p) : l.take (k + 1) = l.take k ++ [p] := by rw [List.take_add_one, h]; rfl
theorem wt_take {l : List Pt} {k : Nat} {p : Pt} (h : l[k]? = some p) : wt (l.take (k + 1)) = wt (l.take k) ++ ptx p := by
  rw [take_succ' h, wt_append, wt_cons, wt_nil, List.append_nil]
theorem bulk_take (l : List Pt) {k : Nat} {p : Pt} (h : l[k]? = some p) : (wt (l.take k)).length + 9 * ngr p.text.length + 10 ≤ bulk l := by
  have e : l = l.take k ++ (p :: l.drop (k + 1)) := by
    obtain ⟨hk, he⟩ := List.getElem?_eq_some_iff.1 h
    rw [← he, List.getElem_cons_drop]
    simp
  have h1 := wt_bulk (l.take k)
  have h2 : bulk l = bulk (l.take k) + bulk (p :: l.drop (k + 1)) := by rw [← bulk_append, ← e]
  have h3 : bulk (p :: l.drop (k + 1)) = 10 + 9 * ngr p.text.length + bulk (l.drop (k + 1)) := by simp [bulk]
  omega
attribute [local go_sem ↓] Go.wp_at_zero Go.wp_at_succ
attribute [local go_sem ↓] sl9 ix9
set_option maxHeartbeats 2000000 in
theorem write_any (l : List Pt) (w : World) (a : Option Addr) (cap : Nat) (hP : PIn w a l) (hN : N64 l) (hB : bulk l ≤ 199999999990000) :
    Calls Try.prog 9 #[.slice a l.length cap] w fun e w' => e = .returned (wrote l) ∧ Below w.heap.size w w' := by
  have hlen : l.length ≤ 199999999990000 := Nat.le_trans (bulk_len l) hB
  go_enter Try.func9, Try.ntmps9
  go_wp2_with fail
  go_loopw [4, 9] (fun b i wr => ∃ k : Nat, k ≤ l.length ∧ i = .int .i64 (k : Int) ∧ Ob w.heap.size wr b (wt (l.take k)) ∧ (l.take k).all isP = true ∧ Below w.heap.size w wr) (fun _ i _ => l.length - (intOf i).toNat)
  case atStart => exact ⟨0, by omega, rfl, Ob.nil _ _ (Nat.le_refl _), rfl, Below.refl _ _⟩
  case round =>
    obtain ⟨k, hk, rfl, hO, hall, hb⟩ := hrel
    by_cases hlt : k < l.length
    · have hd : decide ((k : Int) < (l.length : Int)) = true := decide_eq_true (by omega)
      obtain ⟨p, hp⟩ : ∃ p, l[k]? = some p := ⟨l[k], List.getElem?_eq_getElem hlt⟩
      obtain ⟨b, off, rfl, hbl, c0, c1, c2⟩ := (hP.later hb).get k p hp
      have hpm : p ∈ l := List.mem_of_getElem? hp
      obtain ⟨n1, n2⟩ := hN p hpm
      have hbl2 := bulk_take l hp
      by_cases hi : isP p = true
      · have hip := fun w => isPart_any p w
        rw [hi] at hip
        have hok := ok_of hi n1 n2
        have hO1 := hO.alloc (.cells #[Value.int IntKind.i64 p.kind, Value.string ⟨p.text.toArray⟩, Value.int IntKind.i64 p.n] 39)
        have HT : Hid ((l.take (k + 1)).all isP = true ∧ wt (l.take (k + 1)) = wt (l.take k) ++ ptx p) := ⟨by rw [take_succ' hp, List.all_append, hall]; simp [hi], wt_take hp⟩
        go_wp2_with (first
          | (go_at_call 18; refine (hip _).mono ?_; rintro e w1 ⟨rfl, hb1⟩; obtain ⟨d0, d1, d2⟩ := new3 hb1)
          | (go_at_call 19; refine (appendPart_any p hok (hO1.later hb1) (by omega)).mono ?_; rintro e w2 ⟨v2, rfl, hO2, hb2⟩))
        exact ⟨⟨k + 1, by omega, by go_num, by rw [HT.out.2]; exact hO2, HT.out.1, ((hb.alloc hb.size _).trans (hb1.mono (by have := hb.size; simp; omega))).trans hb2⟩, by simp [intOf]; omega⟩
      · have hip := fun w => isPart_any p w
        have hi' : isP p = false := by simpa using hi
        rw [hi'] at hip
        have HA : Hid (l.all isP = false) := by
          constructor
          rw [Bool.eq_false_iff]
          intro h
          rw [List.all_eq_true] at h
          exact hi (h p hpm)
        clear hi hi'
        go_wp2_with (go_at_call 18; refine (hip _).mono ?_; rintro e w1 ⟨rfl, hb1⟩)
        go_ret2
        exact ⟨by rw [wrote_bad HA.out]; rfl, (hb.alloc hb.size _).trans (hb1.mono (by have := hb.size; simp; omega))⟩
    · obtain rfl : k = l.length := by omega
      rw [List.take_length] at hO hall
      have hd : decide ((l.length : Int) < (l.length : Int)) = false := decide_eq_false (by omega)
      have hcv := conv_own hO
      have HA : Hid (l.all isP = true) := ⟨hall⟩
      clear hall
      go_wp2_with fail
      go_ret2
      exact ⟨by rw [wrote_ok HA.out]; rfl, hb⟩
end Go.Proofs.Ytijkabnhedmimab
