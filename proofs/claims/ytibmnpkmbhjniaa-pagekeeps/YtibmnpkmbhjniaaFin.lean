/- Find: the search by halves. -/
import Derived.Test.YtibmnpkmbhjniaaSiz
import Derived.RegionCalls
import Derived.Deep.RegionHeld3
namespace Go.Proofs.Ytibmnpkmbhjniaa
set_option linter.unusedVariables false
set_option linter.unusedSimpArgs false
open Go.RowKit
attribute [local go_sem ↓] Go.wp_at_zero Go.wp_at_succ
/-- what Find answers -/
def found (l : List En) (k : List UInt8) : Value := .tuple #[.int .i64 (fnd l k : Int), .bool (hit l k)]
set_option maxHeartbeats 1000000 in
theorem bsearch_any (l : List En) (k : List UInt8) (hs : Srt l) (w : World) (a : Option Addr) (cap : Nat) (hP : PIn w a l) (hl : l.length ≤ 1000000000000) :
    Calls Try.prog 40 #[.slice a l.length cap, str k, .func (.func 41) #[] #[]] w fun e w' => e = .returned (found l k) ∧ Below w.heap.size w w' := by
  have HE : Hid (∀ i : Nat, i ≤ l.length → (∀ j e, j < i → l[j]? = some e → lt e.key k) → (∀ j e, i ≤ j → l[j]? = some e → ¬ lt e.key k) → i = fnd l k) := ⟨fun i h0 h1 h2 => fnd_is h0 h1 h2⟩
  go_enter Try.func40, Try.ntmps40
  go_wp2_with fail
  go_loopw [9, 10] (fun iv jv wr => ∃ i j : Nat, i ≤ j ∧ j ≤ l.length ∧ iv = .int .i64 (i : Int) ∧ jv = .int .i64 (j : Int) ∧ Hid ((∀ q e, q < i → l[q]? = some e → lt e.key k) ∧ (∀ q e, j ≤ q → l[q]? = some e → ¬ lt e.key k)) ∧ Below w.heap.size w wr) (fun iv jv _ => (intOf jv).toNat - (intOf iv).toNat)
  case atStart => exact ⟨0, l.length, by omega, Nat.le_refl _, rfl, rfl, ⟨fun q e h => by omega, fun q e h he => by rw [List.getElem?_eq_none h] at he; cases he⟩, Below.refl _ _⟩
  case round =>
    obtain ⟨i, j, hij, hj, rfl, rfl, HI, hb⟩ := hrel
    by_cases h1 : i < j
    · have d1 : decide ((i : Int) < (j : Int)) = true := decide_eq_true (by omega)
      obtain ⟨p, hp⟩ : ∃ p, l[(i + j) / 2]? = some p := ⟨l[(i + j) / 2]'(by omega), List.getElem?_eq_getElem (by omega)⟩
      have h2 : i ≤ (i + j) / 2 ∧ (i + j) / 2 < j := by omega
      generalize hh : (i + j) / 2 = h at *
      obtain ⟨b, off, rfl, hbl, c0, c1⟩ := (hP.later hb).get h p hp
      have hc := fun w => cmpE_any p k w
      by_cases h3 : lt p.key k
      · rw [h3] at hc
        have HN : Hid ((∀ q e, q < h + 1 → l[q]? = some e → lt e.key k) ∧ (∀ q e, j ≤ q → l[q]? = some e → ¬ lt e.key k)) := ⟨fun q e hq he => by
          rcases Nat.lt_or_ge q h with h4 | h4
          · exact bcmp_trans (hs.get h4 he hp) h3
          · have : q = h := by omega
            subst this; rw [hp] at he; cases he; exact h3, HI.out.2⟩
        have hneg : decide ((-1 : Int) < 0) = true := by decide
        go_wp2_with (go_at_call 41; refine (hc _).mono ?_; rintro e w1 ⟨rfl, hb1⟩)
        exact ⟨⟨h + 1, j, by omega, hj, by rw [← hh]; go_num, rfl, HN, hb.trans (hb1.mono hb.size)⟩, by simp [intOf]; omega⟩
      · have HN : Hid ((∀ q e, q < i → l[q]? = some e → lt e.key k) ∧ (∀ q e, h ≤ q → l[q]? = some e → ¬ lt e.key k)) := ⟨HI.out.1, fun q e hq he h5 => by
          rcases Nat.lt_or_ge h q with h4 | h4
          · exact h3 (bcmp_trans (hs.get h4 hp he) h5)
          · have : q = h := by omega
            subst this; rw [hp] at he; cases he; exact h3 h5⟩
        have hneg : decide (bcmp p.key k < 0) = false := by rcases bcmp_cases p.key k with q | q | q <;> first | exact absurd q h3 | (rw [q]; decide)
        clear h3
        generalize bcmp p.key k = C at *
        go_wp2_with (go_at_call 41; refine (hc _).mono ?_; rintro e w1 ⟨rfl, hb1⟩)
        exact ⟨⟨i, h, by omega, by omega, rfl, by rw [← hh]; go_num, HN, hb.trans (hb1.mono hb.size)⟩, by simp [intOf]; omega⟩
    · obtain rfl : i = j := by omega
      have d1 : decide ((i : Int) < (i : Int)) = false := decide_eq_false (by omega)
      have HF := Hid.mk (HE.out i hj HI.out.1 HI.out.2)
      by_cases h2 : i < l.length
      · have d2 : decide ((i : Int) < (l.length : Int)) = true := decide_eq_true (by omega)
        have k2 : (i : Int) < (l.length : Int) := by omega
        obtain ⟨p, hp⟩ : ∃ p, l[i]? = some p := ⟨l[i], List.getElem?_eq_getElem h2⟩
        obtain ⟨b, off, rfl, hbl, c0, c1⟩ := (hP.later hb).get i p hp
        have hc := fun w => cmpE_any p k w
        have HH : Hid (hit l k = (p.key == k)) := ⟨hit_some (by rw [← HF.out]; exact hp)⟩
        by_cases h3 : p.key = k
        · have e0 : bcmp p.key k = 0 := by rw [h3, bcmp_self]
          rw [e0] at hc
          have HV : Hid (found l k = .tuple #[.int .i64 (i : Int), .bool true]) := ⟨by unfold found; rw [HH.out, ← HF.out, h3]; simp⟩
          clear h3 e0
          go_wp2_with (go_at_call 41; refine (hc _).mono ?_; rintro e w1 ⟨rfl, hb1⟩)
          go_ret2
          exact ⟨by rw [HV.out]; rfl, hb.trans (hb1.mono hb.size)⟩
        · have e0 : (bcmp p.key k == 0) = false := by rw [beq_eq_false_iff_ne]; exact fun q => h3 (bcmp_zero q)
          have HV : Hid (found l k = .tuple #[.int .i64 (i : Int), .bool false]) := ⟨by unfold found; rw [HH.out, ← HF.out, beq_eq_false_iff_ne.2 h3]⟩
          clear h3
          generalize bcmp p.key k = C at *
          go_wp2_with (go_at_call 41; refine (hc _).mono ?_; rintro e w1 ⟨rfl, hb1⟩)
          go_ret2
          exact ⟨by rw [HV.out]; rfl, hb.trans (hb1.mono hb.size)⟩
      · have d2 : decide ((i : Int) < (l.length : Int)) = false := decide_eq_false (by omega)
        have HV : Hid (found l k = .tuple #[.int .i64 (i : Int), .bool false]) := ⟨by unfold found; rw [← HF.out, hit_none (by have := HF.out; omega)]⟩
        go_wp2_with fail
        go_ret2
        exact ⟨by rw [HV.out]; rfl, hb⟩
theorem find_any (l : List En) (k : List UInt8) (hs : Srt l) (w : World) (a : Option Addr) (cap : Nat) (hP : PIn w a l) (hl : l.length ≤ 1000000000000) :
    Calls Try.prog 18 #[.slice a l.length cap, str k] w fun e w' => e = .returned (found l k) ∧ Below w.heap.size w w' := by
  have hb := bsearch_any l k hs w a cap hP hl
  unfold found at hb ⊢
  go_enter Try.func18, Try.ntmps18
  go_wp2_with (go_at_call 40; refine hb.mono ?_; rintro e w1 ⟨rfl, hb1⟩)
  go_ret2
  exact ⟨rfl, hb1⟩
end Go.Proofs.Ytibmnpkmbhjniaa
