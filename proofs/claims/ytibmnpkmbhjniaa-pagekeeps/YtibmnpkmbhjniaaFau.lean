/- fault: may a page be so. -/
import Derived.Test.YtibmnpkmbhjniaaSiz
namespace Go.Proofs.Ytibmnpkmbhjniaa
set_option linter.unusedVariables false
set_option linter.unusedSimpArgs false
open Go.RowKit
attribute [local go_sem ↓] Go.wp_at_zero Go.wp_at_succ
theorem isLong_any (p : En) (w : World) : Calls Try.prog 47 #[pv p] w fun e w' => e = .returned (.bool (lng p)) ∧ Below w.heap.size w w' := by
  obtain ⟨a, b⟩ := p
  have h1 : lng ⟨a, b⟩ = (decide ((100 : Int) < (a.length : Int)) || decide ((150 : Int) < (b.length : Int))) := by
    unfold lng
    have e1 : decide ((100 : Int) < (a.length : Int)) = decide (100 < a.length) := by simp; omega
    have e2 : decide ((150 : Int) < (b.length : Int)) = decide (150 < b.length) := by simp; omega
    rw [e1, e2]
  rw [h1]
  by_cases h : (100 : Int) < (a.length : Int)
  · have d := decide_eq_true h
    go_enter Try.func47, Try.ntmps47
    go_wp2
    go_ret
    exact ⟨by simp [h], (Below.refl _ _).alloc (Nat.le_refl _) _⟩
  · have d := decide_eq_false h
    go_enter Try.func47, Try.ntmps47
    go_wp2
    go_ret
    exact ⟨by simp [h], (Below.refl _ _).alloc (Nat.le_refl _) _⟩
theorem indexFunc_any (l : List En) (w : World) (a : Option Addr) (cap : Nat) (hP : PIn w a l) (hl : l.length ≤ 1000000000000) :
    Calls Try.prog 52 #[.slice a l.length cap, .func (.func 47) #[] #[]] w fun e w' => ∃ z : Int, e = .returned (.int .i64 z) ∧ decide (0 ≤ z) = l.any lng ∧ Below w.heap.size w w' := by
  go_enter Try.func52, Try.ntmps52
  go_wp2_with fail
  go_loopw [8] (fun i wr => ∃ k : Nat, k ≤ l.length ∧ i = .int .i64 (k : Int) ∧ (l.take k).any lng = false ∧ Below w.heap.size w wr) (fun i _ => l.length - (intOf i).toNat)
  case atStart => exact ⟨0, by omega, rfl, rfl, Below.refl _ _⟩
  case round =>
    obtain ⟨k, hk, rfl, ha, hb⟩ := hrel
    by_cases h1 : k < l.length
    · have d1 : decide ((k : Int) < (l.length : Int)) = true := decide_eq_true (by omega)
      have k2 : (k : Int) < (l.length : Int) := by omega
      obtain ⟨p, hp⟩ : ∃ p, l[k]? = some p := ⟨l[k], List.getElem?_eq_getElem h1⟩
      obtain ⟨b, off, rfl, hbl, c0, c1⟩ := (hP.later hb).get k p hp
      have hi := fun w => isLong_any p w
      by_cases hg : lng p = true
      · rw [hg] at hi
        have HA : Hid (l.any lng = true) := ⟨by rw [List.any_eq_true]; exact ⟨p, List.mem_of_getElem? hp, hg⟩⟩
        clear hg ha
        go_wp2_with (go_at_call 47; refine (hi _).mono ?_; rintro e w1 ⟨rfl, hb1⟩)
        go_ret
        exact ⟨_, rfl, by rw [HA.out]; exact decide_eq_true (by omega), hb.trans (hb1.mono hb.size)⟩
      · have hg' : lng p = false := by simpa using hg
        rw [hg'] at hi
        have HA : Hid ((l.take (k + 1)).any lng = false) := ⟨by rw [take_succ' hp, List.any_append, ha]; simp [hg']⟩
        clear hg hg' ha
        go_wp2_with (go_at_call 47; refine (hi _).mono ?_; rintro e w1 ⟨rfl, hb1⟩)
        exact ⟨⟨k + 1, by omega, by go_num, HA.out, hb.trans (hb1.mono hb.size)⟩, by simp [intOf]; omega⟩
    · obtain rfl : k = l.length := by omega
      have d1 : decide ((l.length : Int) < (l.length : Int)) = false := decide_eq_false (by omega)
      rw [List.take_length] at ha
      have HA := Hid.mk ha
      clear ha
      go_wp2_with fail
      go_ret
      exact ⟨_, rfl, by rw [HA.out]; decide, hb⟩
theorem containsFunc_any (l : List En) (w : World) (a : Option Addr) (cap : Nat) (hP : PIn w a l) (hl : l.length ≤ 1000000000000) :
    Calls Try.prog 46 #[.slice a l.length cap, .func (.func 47) #[] #[]] w fun e w' => e = .returned (.bool (l.any lng)) ∧ Below w.heap.size w w' := by
  have hi := indexFunc_any l w a cap hP hl
  go_enter Try.func46, Try.ntmps46
  go_wp2_with (go_at_call 52; refine hi.mono ?_; rintro e w1 ⟨z, rfl, hz, hb1⟩)
  go_ret
  exact ⟨by rw [← hz]; rfl, hb1⟩
noncomputable def srtb (l : List En) : Bool := by classical exact decide (Srt l)
theorem srtb_true {l : List En} (h : Srt l) : srtb l = true := by unfold srtb; simp [h]
theorem srtb_false {l : List En} (h : ¬ Srt l) : srtb l = false := by unfold srtb; simp [h]
set_option maxHeartbeats 1000000 in
theorem isSorted_any (l : List En) (w : World) (a : Option Addr) (cap : Nat) (hP : PIn w a l) (hl : l.length ≤ 1000000000000) :
    Calls Try.prog 48 #[.slice a l.length cap] w fun e w' => e = .returned (.bool (srtb l)) ∧ Below w.heap.size w w' := by
  go_enter Try.func48, Try.ntmps48
  go_wp2_with fail
  go_loopw [3] (fun i wr => ∃ k : Nat, 1 ≤ k ∧ k ≤ l.length + 1 ∧ i = .int .i64 (k : Int) ∧ Hid (∀ q x y, q + 1 < k → l[q]? = some x → l[q + 1]? = some y → lt x.key y.key) ∧ Below w.heap.size w wr) (fun i _ => l.length + 1 - (intOf i).toNat)
  case atStart => exact ⟨1, by omega, by omega, rfl, ⟨fun q x y h => by omega⟩, Below.refl _ _⟩
  case round =>
    obtain ⟨k, hk0, hk, rfl, HI, hb⟩ := hrel
    by_cases h1 : k < l.length
    · have d1 : decide ((k : Int) < (l.length : Int)) = true := decide_eq_true (by omega)
      have k2 : (k : Int) < (l.length : Int) := by omega
      have k3 : (k : Int) - 1 < (l.length : Int) := by omega
      obtain ⟨p, hp⟩ : ∃ p, l[k - 1]? = some p := ⟨l[k - 1]'(by omega), List.getElem?_eq_getElem (by omega)⟩
      obtain ⟨q, hq⟩ : ∃ p, l[k]? = some p := ⟨l[k], List.getElem?_eq_getElem h1⟩
      obtain ⟨b, off, rfl, hbl, c0, c1⟩ := (hP.later hb).get (k - 1) p hp
      obtain ⟨b2, off2, e2, _, f0, f1⟩ := (hP.later hb).get k q hq
      injection e2 with e2
      injection e2 with e3 e4
      subst e3 e4
      by_cases h2 : lt p.key q.key
      · have HN : Hid (∀ q x y, q + 1 < k + 1 → l[q]? = some x → l[q + 1]? = some y → lt x.key y.key) := ⟨fun j x y hj hx hy => by
          rcases Nat.lt_or_ge (j + 1) k with h3 | h3
          · exact HI.out j x y h3 hx hy
          · have : j = k - 1 := by omega
            subst this
            rw [hp] at hx; rw [show k - 1 + 1 = k by omega, hq] at hy
            cases hx; cases hy; exact h2⟩
        have d2 : Go.Op.bytesLess p.key q.key = true := by rw [bytesLess_eq]; exact decide_eq_true h2
        clear h2
        go_wp2_with fail
        go_quiet (fail)
        go_wp2_with fail
        exact ⟨⟨k + 1, by omega, by omega, by go_num, HN, below_dN hb nq⟩, by simp [intOf]; omega⟩
      · have HS : Hid (srtb l = false) := ⟨srtb_false fun hs => h2 (hs.get (by omega) hp hq)⟩
        have d2 : Go.Op.bytesLess p.key q.key = false := by rw [bytesLess_eq]; exact decide_eq_false h2
        clear h2
        go_wp2_with fail
        go_quiet (fail)
        go_wp2_with fail
        go_ret
        exact ⟨by rw [HS.out]; rfl, below_dN hb nq⟩
    · have d1 : decide ((k : Int) < (l.length : Int)) = false := decide_eq_false (by omega)
      have HS : Hid (srtb l = true) := ⟨srtb_true (srt_of fun i x y hx hy => HI.out i x y (by have := (List.getElem?_eq_some_iff.1 hy).1; omega) hx hy)⟩
      go_wp2_with fail
      go_ret
      exact ⟨by rw [HS.out]; rfl, hb⟩
/-- what is wrong with a page -/
noncomputable def flt (kind link : Int) (l : List En) : Int := if kind < 0 ∨ 255 < kind ∨ link < 0 ∨ 65535 < link then 1 else if l.any lng = true ∨ 507 < tot l then 3 else if srtb l = true then 0 else 4
abbrev pgv (kind link : Int) (s : Value) : Value := .agg #[.int .i64 kind, .int .i64 link, s]
theorem new3 {w w1 : World} {a b c : Value} {t : TypeId} (h : Below (w.alloc (.cells #[a, b, c] t)).heap.size (w.alloc (.cells #[a, b, c] t)) w1) :
    w1.cell? ⟨w.heap.size, 0, none⟩ = some a ∧ w1.cell? ⟨w.heap.size, 1, none⟩ = some b ∧ w1.cell? ⟨w.heap.size, 2, none⟩ = some c := by
  have hr : w1.heap[w.heap.size]? = some (.cells #[a, b, c] t (0, 0)) := by rw [h.block _ (by simp)]; exact heap_alloc_new _ _
  exact ⟨by rw [cell_of_row _ _ _ _ _ _ hr]; rfl, by rw [cell_of_row _ _ _ _ _ _ hr]; rfl, by rw [cell_of_row _ _ _ _ _ _ hr]; rfl⟩
theorem any_false {l : List En} (h : l.any lng = false) : ∀ e ∈ l, lng e = false := by
  intro e he
  rw [List.any_eq_false] at h
  simpa using h e he
set_option maxHeartbeats 2000000 in
theorem fault_any (kind link : Int) (l : List En) (w : World) (a : Option Addr) (cap : Nat) (hP : PIn w a l) (hl : l.length ≤ 1000000000000) :
    Calls Try.prog 33 #[pgv kind link (.slice a l.length cap)] w fun e w' => e = .returned (.int .i64 (flt kind link l)) ∧ Below w.heap.size w w' := by
  by_cases h0 : kind < 0 ∨ 255 < kind ∨ link < 0 ∨ 65535 < link
  · have HV : Hid (flt kind link l = 1) := ⟨by unfold flt; rw [if_pos h0]⟩
    generalize flt kind link l = FF at *
    obtain ⟨rfl⟩ := HV
    rcases Int.lt_or_le kind 0 with q1 | q1
    · have d1 := decide_eq_true q1
      go_enter Try.func33, Try.ntmps33
      go_wp2_with fail
      go_ret
      exact ⟨rfl, (Below.refl _ _).alloc (Nat.le_refl _) _⟩
    · have d1 : decide (kind < 0) = false := decide_eq_false (by omega)
      rcases Int.lt_or_le 255 kind with q2 | q2
      · have d2 := decide_eq_true q2
        go_enter Try.func33, Try.ntmps33
        go_wp2_with fail
        go_ret
        exact ⟨rfl, (Below.refl _ _).alloc (Nat.le_refl _) _⟩
      · have d2 : decide (255 < kind) = false := decide_eq_false (by omega)
        rcases Int.lt_or_le link 0 with q3 | q3
        · have d3 := decide_eq_true q3
          go_enter Try.func33, Try.ntmps33
          go_wp2_with fail
          go_ret
          exact ⟨rfl, (Below.refl _ _).alloc (Nat.le_refl _) _⟩
        · have d3 : decide (link < 0) = false := decide_eq_false (by omega)
          have d4 : decide (65535 < link) = true := decide_eq_true (by omega)
          go_enter Try.func33, Try.ntmps33
          go_wp2_with fail
          go_ret
          exact ⟨rfl, (Below.refl _ _).alloc (Nat.le_refl _) _⟩
  · have d1 : decide (kind < 0) = false := decide_eq_false (by omega)
    have d2 : decide (255 < kind) = false := decide_eq_false (by omega)
    have d3 : decide (link < 0) = false := decide_eq_false (by omega)
    have d4 : decide (65535 < link) = false := decide_eq_false (by omega)
    have hc := fun w h => containsFunc_any l w a cap h hl
    have hz := fun w h => Size_any l w a cap h (by omega)
    have hi := fun w h => isSorted_any l w a cap h hl
    by_cases h1 : l.any lng = true
    · have HV : Hid (flt kind link l = 3) := ⟨by unfold flt; rw [if_neg h0, if_pos (Or.inl h1)]⟩
      rw [h1] at hc
      generalize flt kind link l = FF at *
      obtain ⟨rfl⟩ := HV
      clear h0 h1
      go_enter Try.func33, Try.ntmps33
      go_wp2_with (go_at_call 46; refine (hc _ (hP.later ((Below.refl _ _).alloc (Nat.le_refl _) _))).mono ?_; rintro e w1 ⟨rfl, hb1⟩; obtain ⟨e0, e1, e2⟩ := new3 hb1)
      go_ret
      exact ⟨rfl, ((Below.refl _ _).alloc (Nat.le_refl _) _).trans (hb1.mono (by simp))⟩
    · have h1' : l.any lng = false := by simpa using h1
      rw [h1'] at hc
      have ht := tot_short (any_false h1')
      have htw : totw l = (tot l : Int) := wrap_small (by omega) (by omega)
      rw [htw] at hz
      by_cases h2 : 507 < tot l
      · have HV : Hid (flt kind link l = 3) := ⟨by unfold flt; rw [if_neg h0, if_pos (Or.inr h2)]⟩
        have d5 : decide ((507 : Int) < (tot l : Int)) = true := decide_eq_true (by omega)
        generalize flt kind link l = FF at *
        obtain ⟨rfl⟩ := HV
        generalize tot l = TT at *
        clear h0 h1 h1' h2 htw
        go_enter Try.func33, Try.ntmps33
        go_wp2_with (first
          | (go_at_call 46; refine (hc _ (hP.later ((Below.refl _ _).alloc (Nat.le_refl _) _))).mono ?_; rintro e w1 ⟨rfl, hb1⟩; obtain ⟨e0, e1, e2⟩ := new3 hb1)
          | (go_at_call 14; refine (hz _ ((hP.later ((Below.refl _ _).alloc (Nat.le_refl _) _)).later hb1)).mono ?_; rintro e w2 ⟨rfl, hb2⟩; obtain ⟨f0, f1, f2⟩ := new3 (below_seq hb1 hb2)))
        go_ret
        exact ⟨rfl, ((Below.refl _ _).alloc (Nat.le_refl _) _).trans ((below_seq hb1 hb2).mono (by simp))⟩
      · have d5 : decide ((507 : Int) < (tot l : Int)) = false := decide_eq_false (by omega)
        have HV : Hid (flt kind link l = if srtb l = true then 0 else 4) := ⟨by unfold flt; rw [if_neg h0, if_neg (by rw [h1']; simp; omega)]⟩
        generalize flt kind link l = FF at *
        obtain ⟨rfl⟩ := HV
        generalize tot l = TT at *
        clear h0 h1 h1' h2 htw
        generalize srtb l = BB at *
        cases BB
        all_goals go_enter Try.func33, Try.ntmps33
        all_goals go_wp2_with (first
          | (go_at_call 46; refine (hc _ (hP.later ((Below.refl _ _).alloc (Nat.le_refl _) _))).mono ?_; rintro e w1 ⟨rfl, hb1⟩; obtain ⟨e0, e1, e2⟩ := new3 hb1)
          | (go_at_call 14; refine (hz _ ((hP.later ((Below.refl _ _).alloc (Nat.le_refl _) _)).later hb1)).mono ?_; rintro e w2 ⟨rfl, hb2⟩; obtain ⟨f0, f1, f2⟩ := new3 (below_seq hb1 hb2))
          | (go_at_call 48; refine (hi _ ((hP.later ((Below.refl _ _).alloc (Nat.le_refl _) _)).later (below_seq hb1 hb2))).mono ?_; rintro e w3 ⟨rfl, hb3⟩))
        all_goals go_ret
        all_goals exact ⟨rfl, ((Below.refl _ _).alloc (Nat.le_refl _) _).trans ((below_seq (below_seq hb1 hb2) hb3).mono (by simp))⟩
end Go.Proofs.Ytibmnpkmbhjniaa
