/- begins; beginnings and limits: the words. -/
import Derived.Test.YtijkabnhedmimaaPar
namespace Go.Proofs.Ytijkabnhedmimaa
set_option linter.unusedVariables false
set_option linter.unusedSimpArgs false
open Go.RowKit
theorem pre_wt {A B : List Pt} (ha : okL A) (hb : okL B) (h : ¬ ∃ R, A = B ++ R) : ((wt A).length < (wt B).length ∨ (wt A).take (wt B).length ≠ wt B) ∧ (bcmp (wt A) (wt B) = -1 ∨ bcmp (wt A) (wt B ++ [255]) ≠ -1) := by
  rcases triL A B ha hb with ⟨rfl, _⟩ | ⟨h1, r, hr, rfl⟩ | ⟨h1, r, hr, rfl⟩ | ⟨h1, hs⟩ | ⟨h1, hs⟩
  · exact absurd ⟨[], by simp⟩ h
  · have hne : wt r ≠ [] := wt_ne hr
    have hp : 0 < (wt r).length := List.length_pos_iff.2 hne
    rw [wt_append]
    exact ⟨Or.inl (by rw [List.length_append]; omega), Or.inl (bcmp_longer _ hne).1⟩
  · exact absurd ⟨r, rfl⟩ h
  · refine ⟨Or.inr fun e => ?_, Or.inl (bcmp_sep hs).1⟩
    have e2 : wt A = wt B ++ (wt A).drop (wt B).length := by
      conv => lhs; rw [← List.take_append_drop (wt B).length (wt A), e]
    rw [e2] at hs
    exact not_sep_pre.2 hs
  · refine ⟨Or.inr fun e => ?_, Or.inr ?_⟩
    · have e2 : wt A = wt B ++ (wt A).drop (wt B).length := by
        conv => lhs; rw [← List.take_append_drop (wt B).length (wt A), e]
      rw [e2] at hs
      exact not_sep_pre.1 hs
    · have := (bcmp_sep (hs.app [255] [])).2
      rw [List.append_nil] at this
      rw [this]
      decide
theorem in_wt {B R : List Pt} (hr : okL R) : (wt (B ++ R)).take (wt B).length = wt B ∧ (wt B).length ≤ (wt (B ++ R)).length ∧ bcmp (wt (B ++ R)) (wt B) ≠ -1 ∧ bcmp (wt (B ++ R)) (wt B ++ [255]) = -1 := by
  rw [wt_append]
  refine ⟨by simp, by simp, ?_, ?_⟩
  · by_cases h : wt R = []
    · rw [h, List.append_nil, bcmp_self]; decide
    · rw [(bcmp_longer _ h).2]; decide
  · rw [bcmp_pre]
    cases R with
    | nil => rfl
    | cons p R =>
      obtain ⟨r, hr2⟩ := ptx_head hr.head
      rw [wt_cons, hr2, List.cons_append]
      have hk := ofKind hr.head
      unfold bcmp
      have : (UInt8.ofNat p.kind.toNat).toNat < (255 : UInt8).toNat := by rcases hk with h | h | h <;> rw [h] <;> decide
      rw [if_pos this]
/-- does the list begin so, as a test -/
noncomputable def beg (A B : List Pt) : Bool := by classical exact decide (∃ R, A = B ++ R)
theorem beg_true {A B : List Pt} (h : ∃ R, A = B ++ R) : beg A B = true := by unfold beg; simp [h]
theorem beg_false {A B : List Pt} (h : ¬ ∃ R, A = B ++ R) : beg A B = false := by unfold beg; simpa using h
theorem take_beg {A B : List Pt} : A.take B.length = B ↔ ∃ R, A = B ++ R := by
  constructor
  · intro h
    exact ⟨A.drop B.length, by conv => lhs; rw [← List.take_append_drop B.length A, h]⟩
  · rintro ⟨R, rfl⟩
    simp
theorem PIn.take {w : World} {a : Option Addr} {l : List Pt} (h : PIn w a l) (n : Nat) : PIn w a (l.take n) := ⟨fun k p hk => h.get k p (by
  by_cases hkn : k < n
  · rw [List.getElem?_take_of_lt hkn] at hk; exact hk
  · rw [List.getElem?_eq_none (by rw [List.length_take]; omega)] at hk; cases hk)⟩
noncomputable def slP (v : Value) (a b c : Option Value) : Sem Value := Instr.slice 28 v a b c
theorem slPe (v : Value) (a b c : Option Value) : Instr.slice 28 v a b c = slP v a b c := rfl
theorem run_slP (a : Option Addr) (len cap n : Nat) (h1 : n ≤ len) (h2 : len ≤ cap) (h3 : cap ≤ 9223372036854775807) (hn : a = none → cap = 0) (w : World) : (slP (.slice a len cap) none (some (.int .i64 (n : Int))) none).run Try.prog w = .ok (.slice a n cap) w := by
  unfold slP
  cases a with
  | none =>
    obtain rfl := hn rfl
    obtain rfl : len = 0 := by omega
    obtain rfl : n = 0 := by omega
    simp [Instr.slice, Try.underlying28, go_sem]
  | some ad =>
    simp [Instr.slice, Try.underlying28, go_sem]
    intro hc
    omega
/-- a slice as it is told: where, how long, how much room -/
structure Sl (w : World) (a : Option Addr) (cap : Nat) (l : List Pt) : Prop where
  at' : PIn w a l
  le : l.length ≤ cap
  max : cap ≤ 9223372036854775807
  nil : a = none → cap = 0
theorem Sl.later {w w' : World} {a : Option Addr} {cap : Nat} {l : List Pt} (h : Sl w a cap l) (hb : Below w.heap.size w w') : Sl w' a cap l := ⟨h.at'.later hb, h.le, h.max, h.nil⟩
theorem Sl.take {w : World} {a : Option Addr} {cap : Nat} {l : List Pt} (h : Sl w a cap l) (n : Nat) : Sl w a cap (l.take n) := ⟨h.at'.take n, Nat.le_trans (by rw [List.length_take]; omega) h.le, h.max, h.nil⟩
theorem Ow.sl {base : Nat} {w : World} {v : Value} {l : List Pt} (h : Ow base w v l) : ∃ a cap, v = .slice a l.length cap ∧ Sl w a cap l := by
  obtain ⟨a, cap, rfl, hP⟩ := h.slice
  refine ⟨a, cap, rfl, hP, ?_, ?_, ?_⟩
  all_goals rcases h.own.2 with ⟨e, h0⟩ | ⟨g, cap', cur, e, _, _, h1, h2, _⟩
  all_goals injection e with e1 e2 e3
  all_goals subst e1 e3
  · omega
  · exact h1
  · omega
  · exact h2
  · intro _; rfl
  · intro h; cases h
attribute [local go_sem ↓] Go.wp_at_zero Go.wp_at_succ
attribute [local go_sem ↓] slPe
theorem begins_any (A B : List Pt) (w : World) (pa pb : Option Addr) (ca cb : Nat) (hA : Sl w pa ca A) (hB : Sl w pb cb B) (la : A.length ≤ 1000000000000) (lb : B.length ≤ 1000000000000) :
    Calls Try.prog 15 #[.slice pa A.length ca, .slice pb B.length cb] w fun e w' => e = .returned (.bool (beg A B)) ∧ Below w.heap.size w w' := by
  by_cases hl : B.length ≤ A.length
  · have d : decide ((B.length : Int) ≤ (A.length : Int)) = true := decide_eq_true (by omega)
    have hlt : (A.take B.length).length = B.length := by rw [List.length_take]; omega
    have hs := run_slP pa A.length ca B.length hl hA.le hA.max hA.nil
    have he := fun w h1 h2 => equal_any (A.take B.length) B w pa pb ca cb h1 h2 (by omega) lb
    rw [hlt] at he
    have hbe : same (A.take B.length) B = beg A B := by
      by_cases h : A.take B.length = B
      · rw [same_true h, beg_true (take_beg.1 h)]
      · rw [same_false h, beg_false (fun q => h (take_beg.2 q))]
    rw [hbe] at he
    go_enter Try.func15, Try.ntmps15
    go_wp2_with (go_at_call 13; refine (he _ (hA.at'.take _) hB.at').mono ?_; rintro e w1 ⟨rfl, hb1⟩)
    go_ret
    exact ⟨rfl, hb1⟩
  · have d : decide ((B.length : Int) ≤ (A.length : Int)) = false := decide_eq_false (by omega)
    have hbe : Hid (beg A B = false) := ⟨beg_false (by rintro ⟨R, rfl⟩; simp at hl)⟩
    go_enter Try.func15, Try.ntmps15
    go_wp2_with fail
    go_ret
    exact ⟨by rw [hbe.out]; rfl, Below.refl _ _⟩
end Go.Proofs.Ytijkabnhedmimaa
