import Derived.Test.YthbdaadhcheggaaBkp
import Derived.Test.YthbdaadhcheggaaBq
import Derived.Deep.RegionWith
/- canonical, and whether a list stands in order. -/
namespace Go.Proofs.Ythbdaadhcheggaa
set_option linter.unusedVariables false
set_option linter.unusedSimpArgs false
open Go.RowKit
attribute [local go_sem ↓] Go.wp_at_zero Go.wp_at_succ
def icmp (x y : Int) : Int := if x < y then -1 else if y < x then 1 else 0
theorem cmpI_any (x y : Int) (w : World) : Calls Try.prog 40 #[.int .i64 x, .int .i64 y] w fun e w' => e = .returned (.int .i64 (icmp x y)) ∧ w' = w := by
  unfold icmp
  by_cases h : x < y
  · rw [if_pos h]
    have d1 : decide (x < y) = true := decide_eq_true h
    clear h
    go_enter Try.func40, Try.ntmps40
    go_wp2
    go_ret
    exact ⟨rfl, rfl⟩
  · rw [if_neg h]
    have d1 : decide (x < y) = false := decide_eq_false h
    by_cases h2 : y < x
    · rw [if_pos h2]
      have d2 : decide (y < x) = true := decide_eq_true h2
      clear h h2
      go_enter Try.func40, Try.ntmps40
      go_wp2
      go_ret
      exact ⟨rfl, rfl⟩
    · rw [if_neg h2]
      have d2 : decide (y < x) = false := decide_eq_false h2
      clear h h2
      go_enter Try.func40, Try.ntmps40
      go_wp2
      go_ret
      exact ⟨rfl, rfl⟩
def orI (x y : Int) : Int := if x = 0 then y else x
theorem cmpOr_any (x y : Int) (w : World) (g : Nat) (h0 : w.cell? ⟨g, 0, none⟩ = some (.int .i64 x)) (h1 : w.cell? ⟨g, 1, none⟩ = some (.int .i64 y)) :
    Calls Try.prog 38 #[.slice (some ⟨g, 0, none⟩) 2 2] w fun e w' => e = .returned (.int .i64 (orI x y)) ∧ w' = w := by
  go_enter Try.func38, Try.ntmps38
  go_wp2_with fail
  go_loopw [8] (fun i wr => (i = .int .i64 0 ∨ (i = .int .i64 1 ∧ x = 0) ∨ (i = .int .i64 2 ∧ x = 0 ∧ y = 0)) ∧ wr = w) (fun i _ => 2 - (intOf i).toNat)
  case atStart => exact ⟨Or.inl rfl, rfl⟩
  case round =>
    obtain ⟨h, rfl⟩ := hrel
    rcases h with rfl | ⟨rfl, hx⟩ | ⟨rfl, hx, hy⟩
    · by_cases hx : x = 0
      · subst hx
        go_wp2_with fail
        exact ⟨⟨Or.inr (Or.inl ⟨rfl, trivial⟩), trivial⟩, by simp [intOf]⟩
      · have d1 : (x == 0) = false := beq_eq_false_iff_ne.2 hx
        have HO : Hid (orI x y = x) := ⟨by unfold orI; rw [if_neg hx]⟩
        clear hx
        go_wp2_with fail
        go_ret
        exact ⟨by rw [HO.out]; rfl, rfl⟩
    · subst hx
      by_cases hy : y = 0
      · subst hy
        go_wp2_with fail
        exact ⟨⟨Or.inr (Or.inr ⟨rfl, trivial, trivial⟩), trivial⟩, by simp [intOf]⟩
      · have d1 : (y == 0) = false := beq_eq_false_iff_ne.2 hy
        clear hy
        go_wp2_with fail
        go_ret
        exact ⟨rfl, rfl⟩
    · subst hx hy
      go_wp2_with fail
      go_ret
      exact ⟨rfl, rfl⟩
/-- canonical's answer -/
def cpV (a b : Vs) : Int := orI (bcmp a.key b.key) (icmp a.seq b.seq)
theorem cpV_neg {a b : Vs} : cpV a b < 0 ↔ ltv a b := by
  unfold cpV orI icmp ltv
  rcases tri a.key b.key with h | h | h
  · have : bcmp a.key b.key = -1 := h
    rw [this]; simp; exact .inl h
  · have : bcmp a.key b.key = 0 := by rw [h, bcmp_self]
    rw [this]
    simp only [↓reduceIte, h, true_and]
    by_cases q : a.seq < b.seq
    · simp [q]
    · by_cases q2 : b.seq < a.seq <;> simp [q, q2, lt_irrefl]
  · have e : bcmp a.key b.key = 1 := by rw [bcmp_neg b.key a.key, h]; rfl
    rw [e]
    have hn : ¬ a.key = b.key := fun q => by rw [q] at h; exact lt_irrefl h
    simp [hn, e]
set_option maxRecDepth 100000 in
set_option maxHeartbeats 4000000 in
theorem canonical_any (u v : Vs) (w : World) (a : Option Addr) (n c : Nat) (a' : Option Addr) (n' c' : Nat) :
    Calls Try.prog 43 #[vv u.key u.seq u.mkr u.data a n c, vv v.key v.seq v.mkr v.data a' n' c'] w fun e w' => e = .returned (.int .i64 (cpV u v)) ∧ Below w.heap.size w w' := by
  have h1 := fun w => cmpS_any u.key v.key w
  have h2 := fun w => cmpI_any u.seq v.seq w
  have h3 : ∀ w : World, Calls Try.prog 38 #[.slice (some ⟨w.heap.size, 0, none⟩) 2 2] (w.alloc (.cells #[.int .i64 (bcmp u.key v.key), .int .i64 (icmp u.seq v.seq)] 3)).drew fun e w' => e = .returned (.int .i64 (cpV u v)) ∧ w' = (w.alloc (.cells #[.int .i64 (bcmp u.key v.key), .int .i64 (icmp u.seq v.seq)] 3)).drew := fun w => cmpOr_any _ _ _ _ (by show (w.alloc _).cell? _ = _; rw [cell_of_row _ _ _ _ _ _ (heap_alloc_new w _)]; rfl) (by show (w.alloc _).cell? _ = _; rw [cell_of_row _ _ _ _ _ _ (heap_alloc_new w _)]; rfl)
  generalize cpV u v = CP at *
  generalize bcmp u.key v.key = X at *
  generalize icmp u.seq v.seq = Y at *
  have b1 := (Below.refl w.heap.size w).alloc (Nat.le_refl _) (.cells #[str u.key, .int .i64 u.seq, .bool u.mkr, str u.data, .slice a n c] 41)
  have b2 := b1.alloc b1.size (.cells #[str v.key, .int .i64 v.seq, .bool v.mkr, str v.data, .slice a' n' c'] 41)
  have hsz : ((w.alloc (.cells #[str u.key, .int .i64 u.seq, .bool u.mkr, str u.data, .slice a n c] 41)).alloc (.cells #[str v.key, .int .i64 v.seq, .bool v.mkr, str v.data, .slice a' n' c'] 41)).heap.size = w.heap.size + 2 := by simp
  have x0 : Bv ((w.alloc (.cells #[str u.key, .int .i64 u.seq, .bool u.mkr, str u.data, .slice a n c] 41)).alloc (.cells #[str v.key, .int .i64 v.seq, .bool v.mkr, str v.data, .slice a' n' c'] 41)) w.heap.size (str u.key) (.int .i64 u.seq) (.bool u.mkr) (str u.data) (.slice a n c) := (Bv.new w _ _ _ _ _).later ((Below.refl _ _).alloc (Nat.le_refl _) _)
  have y0 : Bv ((w.alloc (.cells #[str u.key, .int .i64 u.seq, .bool u.mkr, str u.data, .slice a n c] 41)).alloc (.cells #[str v.key, .int .i64 v.seq, .bool v.mkr, str v.data, .slice a' n' c'] 41)) (w.heap.size + 1) (str v.key) (.int .i64 v.seq) (.bool v.mkr) (str v.data) (.slice a' n' c') := by
    have := Bv.new (w.alloc (.cells #[str u.key, .int .i64 u.seq, .bool u.mkr, str u.data, .slice a n c] 41)) (str v.key) (.int .i64 v.seq) (.bool v.mkr) (str v.data) (.slice a' n' c')
    rwa [World.size_alloc] at this
  go_enter Try.func43, Try.ntmps43
  go_wp2_with fail
  generalize (w.alloc (.cells #[str u.key, .int .i64 u.seq, .bool u.mkr, str u.data, .slice a n c] 41)).alloc (.cells #[str v.key, .int .i64 v.seq, .bool v.mkr, str v.data, .slice a' n' c'] 41) = W2 at *
  have HS : Hid (∀ w', Below (w.heap.size + 2) W2 w' → Below (w.heap.size + 2) W2 w' ∧ w'.cell? ⟨w.heap.size, 0, none⟩ = some (str u.key) ∧ w'.cell? ⟨w.heap.size, 1, none⟩ = some (.int .i64 u.seq) ∧ w'.cell? ⟨w.heap.size + 1, 0, none⟩ = some (str v.key) ∧ w'.cell? ⟨w.heap.size + 1, 1, none⟩ = some (.int .i64 v.seq)) := ⟨fun w' h => by
    rw [← hsz] at h
    obtain ⟨g0, g1, _⟩ := (x0.later h).cells
    obtain ⟨t0, t1, _⟩ := (y0.later h).cells
    rw [hsz] at h
    exact ⟨h, g0, g1, t0, t1⟩⟩
  have HZ : Hid (∀ w', Below (w.heap.size + 2) W2 w' → w.heap.size + 2 ≤ w'.heap.size) := ⟨fun w' h => by rw [← hsz]; exact h.size⟩
  clear x0 y0 hsz b1
  go_region_held3 (fun w' => Below (w.heap.size + 2) W2 w' ∧ w'.cell? ⟨w.heap.size, 0, none⟩ = some (str u.key) ∧ w'.cell? ⟨w.heap.size, 1, none⟩ = some (.int .i64 u.seq) ∧ w'.cell? ⟨w.heap.size + 1, 0, none⟩ = some (str v.key) ∧ w'.cell? ⟨w.heap.size + 1, 1, none⟩ = some (.int .i64 v.seq)) (first
    | exact HS.out _ (Below.refl _ _).drew
    | assumption
    | exact HS.out _ (Below.alloc (And.left (by assumption)) (HZ.out _ (And.left (by assumption))) _)) (first
    | (go_at_call 39; with_reducible refine Calls.mono (h1 _) ?_; rintro e w3 ⟨rfl, rfl⟩)
    | (go_at_call 40; with_reducible refine Calls.mono (h2 _) ?_; rintro e w4 ⟨rfl, rfl⟩)
    | (go_at_call 38; with_reducible refine Calls.mono (h3 _) ?_; rintro e w5 ⟨rfl, rfl⟩))
  all_goals (
    have hbw : Below (w.heap.size + 2) W2 (W2.alloc (.cells #[.int .i64 X, .int .i64 Y] 3)).drew := And.left (by assumption)
    go_wp2_with fail
    go_ret
    exact ⟨rfl, b2.trans (hbw.mono (by omega))⟩)
end Go.Proofs.Ythbdaadhcheggaa

/- IsSortedFunc. -/
namespace Go.Proofs.Ythbdaadhcheggaa
set_option linter.unusedVariables false
set_option linter.unusedSimpArgs false
open Go.RowKit
attribute [local go_sem ↓] Go.wp_at_zero Go.wp_at_succ
/-- no version stands ahead of the one before it -/
def Asc (L : List Vs) : Prop := ∀ (i : Nat) (a b : Vs), L[i]? = some a → L[i + 1]? = some b → ¬ ltv b a
set_option maxRecDepth 100000 in
set_option maxHeartbeats 4000000 in
theorem isSorted_any (L : List Vs) (w : World) (a : Option Addr) (n cap : Nat) (hn : L.length = n) (hS : LIn w a L) (hl : L.length ≤ 1954687338300) :
    Calls Try.prog 42 #[.slice a n cap, .func (.func 43) #[] #[]] w fun e w' => (∃ t : Bool, e = .returned (.bool t) ∧ (t = true ↔ Asc L)) ∧ Below w.heap.size w w' := by
  subst hn
  go_enter Try.func42, Try.ntmps42
  go_wp2_with fail
  go_loopw [5] (fun o wr => ((L.length = 0 ∧ o = .int .i64 (-1)) ∨ ∃ m : Nat, m < L.length ∧ o = .int .i64 (m : Int) ∧ Hid (∀ (j : Nat) (x y : Vs), m ≤ j → L[j]? = some x → L[j + 1]? = some y → ¬ ltv y x)) ∧ Below w.heap.size w wr) (fun o _ => (intOf o).toNat)
  case atStart =>
    refine ⟨?_, Below.refl _ _⟩
    by_cases h0 : L.length = 0
    · left
      refine ⟨h0, ?_⟩
      rw [h0]; first | rfl | (congr 1)
    · right
      refine ⟨L.length - 1, by omega, ?_, ⟨fun j x y hj hx hy => ?_⟩⟩
      · congr 1
        first | omega | (unfold wrap64; omega)
      · have := (List.getElem?_eq_some_iff.1 hy).1
        omega
  case round =>
    obtain ⟨h, hb⟩ := hrel
    rcases h with ⟨h0, rfl⟩ | ⟨m, hm, rfl, HM⟩
    · have HA : Hid (Asc L) := ⟨fun i a b ha => by have := (List.getElem?_eq_some_iff.1 ha).1; omega⟩
      go_wp2_with fail
      go_ret
      exact ⟨⟨true, rfl, fun _ => HA.out, fun _ => rfl⟩, hb⟩
    · by_cases h1 : 0 < m
      · have d1 : decide ((0 : Int) < (m : Int)) = true := decide_eq_true (by omega)
        obtain ⟨u, hu⟩ : ∃ u, L[m]? = some u := ⟨L[m], List.getElem?_eq_getElem hm⟩
        obtain ⟨p, hp⟩ : ∃ p : Nat, p + 1 = m := ⟨m - 1, by omega⟩
        obtain ⟨v, hv⟩ : ∃ v, L[p]? = some v := ⟨L[p]'(by omega), List.getElem?_eq_getElem (by omega)⟩
        obtain ⟨b, off, ma, mc, rfl, hbl, c0, c1, c2, c3, c4, hsl⟩ := (hS.later hb).get m u hu
        obtain ⟨b', off', ma', mc', e', hbl', c0', c1', c2', c3', c4', hsl'⟩ := (hS.later hb).get p v hv
        injection e' with e'
        injection e' with e1 e2 e3
        subst e1 e2
        have hw1 : wrap64 ((m : Int) - 1) = (p : Int) := by unfold wrap64; omega
        have hw2 : IntKind.i64.wrap ((m : Int) - 1) = (p : Int) := by rw [IntKind.wrap_i64]; omega
        have k2 : (m : Int) < (L.length : Int) := by omega
        have k3 : (p : Int) < (L.length : Int) := by omega
        have hc := fun w => canonical_any u v w ma u.l.length mc ma' v.l.length mc'
        by_cases hq : ltv u v
        · have d2 : decide (cpV u v < 0) = true := decide_eq_true (cpV_neg.2 hq)
          have HA : Hid (¬ Asc L) := ⟨fun h => h p v u hv (by rw [hp]; exact hu) hq⟩
          clear hq HM hu hv hsl hsl' hS hp
          generalize cpV u v = C at *
          go_wp2_with fail
          go_region_with (go_at_call 43; refine (hc _).mono ?_; rintro e w1 ⟨rfl, b1⟩)
          all_goals (
            go_wp2_with fail
            go_ret
            exact ⟨⟨false, rfl, by simp [HA.out]⟩, hb.trans (Below.trans (Below.refl _ _).drew (b1.mono hb.size))⟩)
        · have d2 : decide (cpV u v < 0) = false := decide_eq_false (fun h => hq (cpV_neg.1 h))
          have HN : Hid (∀ (j : Nat) (x y : Vs), p ≤ j → L[j]? = some x → L[j + 1]? = some y → ¬ ltv y x) := ⟨fun j x y hj hx hy => by
            by_cases e : j = p
            · subst e
              rw [hv] at hx
              rw [hp, hu] at hy
              cases hx; cases hy
              exact hq
            · exact HM.out j x y (by omega) hx hy⟩
          clear hq HM hu hv hsl hsl' hS
          generalize cpV u v = C at *
          go_wp2_with fail
          go_region_with (go_at_call 43; refine (hc _).mono ?_; rintro e w1 ⟨rfl, b1⟩)
          all_goals (
            clear hc
            have hb3 := hb.trans (Below.trans (Below.refl _ _).drew (b1.mono hb.size))
            clear b1 c0 c1 c2 c3 c4 c0' c1' c2' c3' c4'
            go_wp2_with fail
            exact ⟨⟨Or.inr ⟨p, by omega, by first | rfl | (rw [hw1]; done) | go_num, HN⟩, hb3⟩, by first | (rw [hw1]; simp [intOf]; omega) | (simp [intOf]; omega)⟩)
      · obtain rfl : m = 0 := by omega
        have HA : Hid (Asc L) := ⟨fun i a b ha hb' => HM.out i a b (Nat.zero_le _) ha hb'⟩
        go_wp2_with fail
        go_ret
        exact ⟨⟨true, rfl, fun _ => HA.out, fun _ => rfl⟩, hb⟩
end Go.Proofs.Ythbdaadhcheggaa
