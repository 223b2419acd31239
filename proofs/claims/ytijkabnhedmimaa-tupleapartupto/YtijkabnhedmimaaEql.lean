/- The laws' own looks at lists: equal. -/
import Derived.Test.YtijkabnhedmimaaWr
namespace Go.Proofs.Ytijkabnhedmimaa
set_option linter.unusedVariables false
set_option linter.unusedSimpArgs false
open Go.RowKit
theorem below_dN {B : Nat} {a w : World} (h : Below B a w) (n : Nat) : Below B a (w.drewN n) := ⟨h.os, h.tape, h.output, h.size, h.block⟩
/-- alike, as a test -/
noncomputable def same (a b : List Pt) : Bool := by classical exact decide (a = b)
theorem same_true {a b : List Pt} (h : a = b) : same a b = true := by unfold same; simp [h]
theorem same_false {a b : List Pt} (h : ¬ a = b) : same a b = false := by unfold same; simp [h]
theorem same_iff {a b : List Pt} : same a b = true ↔ a = b := by unfold same; simp
theorem take_ne {a b : List Pt} {k : Nat} {p q : Pt} (hp : a[k]? = some p) (hq : b[k]? = some q) (h : ¬ p = q) : ¬ a = b := by
  intro e
  subst e
  rw [hp] at hq
  exact h (Option.some.inj hq)
theorem take_next {a b : List Pt} {k : Nat} {p : Pt} (hp : a[k]? = some p) (hq : b[k]? = some p) (h : a.take k = b.take k) : a.take (k + 1) = b.take (k + 1) := by
  rw [List.take_add_one, List.take_add_one, hp, hq, h]
/-- a test on two parts -/
def peq (p q : Pt) : Bool := p.kind == q.kind && (p.text == q.text && p.n == q.n)
theorem peq_true (p : Pt) : peq p p = true := by simp [peq]
theorem peq_iff {p q : Pt} : peq p q = true ↔ p = q := by
  constructor
  · intro h
    simp [peq] at h
    exact Pt.ext' h.1 h.2.1 h.2.2
  · rintro rfl
    exact peq_true _
attribute [local go_sem ↓] Go.wp_at_zero Go.wp_at_succ
set_option maxHeartbeats 1000000 in
theorem equal_any (a b : List Pt) (w : World) (pa pb : Option Addr) (ca cb : Nat) (hA : PIn w pa a) (hB : PIn w pb b) (la : a.length ≤ 1000000000000) (lb : b.length ≤ 1000000000000) :
    Calls Try.prog 13 #[.slice pa a.length ca, .slice pb b.length cb] w fun e w' => e = .returned (.bool (same a b)) ∧ Below w.heap.size w w' := by
  by_cases hl : a.length = b.length
  · have d0 : ((a.length : Int) != (b.length : Int)) = false := by rw [bne_eq_false_iff_eq]; omega
    go_enter Try.func13, Try.ntmps13
    have HL : Hid (a.length = b.length) := ⟨hl⟩
    clear hl
    go_wp2_with fail
    go_loopw [5] (fun i wr => ∃ k : Nat, k ≤ a.length ∧ i = .int .i64 (k : Int) ∧ a.take k = b.take k ∧ Below w.heap.size w wr) (fun i _ => a.length - (intOf i).toNat)
    case atStart => exact ⟨0, by omega, rfl, by simp, Below.refl _ _⟩
    case round =>
      obtain ⟨k, hk, rfl, hab, hb⟩ := hrel
      by_cases h1 : k < a.length
      · have d1 : decide ((k : Int) < (a.length : Int)) = true := decide_eq_true (by omega)
        have h2 : k < b.length := by rw [← HL.out]; exact h1
        have k2 : (k : Int) < (b.length : Int) := by omega
        obtain ⟨p, hp⟩ : ∃ p, a[k]? = some p := ⟨a[k], List.getElem?_eq_getElem h1⟩
        obtain ⟨b1, off1, rfl, hbl, c0, c1, c2⟩ := (hA.later hb).get k p hp
        obtain ⟨q, hq⟩ : ∃ q, b[k]? = some q := ⟨b[k], List.getElem?_eq_getElem h2⟩
        obtain ⟨b2, off2, rfl, hbl2, e0, e1, e2⟩ := (hB.later hb).get k q hq
        by_cases hpq : p = q
        · subst hpq
          have HT : Hid (a.take (k + 1) = b.take (k + 1)) := ⟨take_next hp hq hab⟩
          clear hab
          go_wp2_with fail
          go_quiet (fail)
          go_wp2_with fail
          exact ⟨⟨k + 1, by omega, by go_num, HT.out, below_dN hb nq⟩, by simp [intOf]; omega⟩
        · have HS : Hid (same a b = false) := ⟨same_false (take_ne hp hq hpq)⟩
          clear hab
          obtain ⟨pk, pt, pn⟩ := p
          obtain ⟨qk, qt, qn⟩ := q
          dsimp only at *
          by_cases h3 : pk = qk
          · subst h3
            by_cases h4 : pt = qt
            · subst h4
              have d5 : (pn == qn) = false := by rw [beq_eq_false_iff_ne]; rintro rfl; exact hpq rfl
              clear hpq
              go_wp2_with fail
              go_quiet (fail)
              go_wp2_with fail
              go_ret
              exact ⟨by rw [HS.out]; rfl, below_dN hb nq⟩
            · have d5 : (pt == qt) = false := by rw [beq_eq_false_iff_ne]; exact h4
              clear hpq
              go_wp2_with fail
              go_quiet (fail)
              go_wp2_with fail
              go_ret
              exact ⟨by rw [HS.out]; rfl, below_dN hb nq⟩
          · have d5 : (pk == qk) = false := by rw [beq_eq_false_iff_ne]; exact h3
            clear hpq
            go_wp2_with fail
            go_quiet (fail)
            go_wp2_with fail
            go_ret
            exact ⟨by rw [HS.out]; rfl, below_dN hb nq⟩
      · obtain rfl : k = a.length := by omega
        have d1 : decide ((a.length : Int) < (a.length : Int)) = false := decide_eq_false (by omega)
        have HS : Hid (same a b = true) := ⟨same_true (by have e := HL.out; rw [List.take_length] at hab; rw [hab, e, List.take_length])⟩
        clear hab
        go_wp2_with fail
        go_ret
        exact ⟨by rw [HS.out]; rfl, hb⟩
  · have d0 : ((a.length : Int) != (b.length : Int)) = true := by rw [bne_iff_ne]; omega
    have HS : Hid (same a b = false) := ⟨same_false (fun e => hl (by rw [e]))⟩
    go_enter Try.func13, Try.ntmps13
    go_wp2_with fail
    go_ret
    exact ⟨by rw [HS.out]; rfl, Below.refl _ _⟩
end Go.Proofs.Ytijkabnhedmimaa
