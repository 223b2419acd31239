/- The reference: the order of parts and of lists. -/
import Derived.Test.YtijkabnhedmimabWrL
namespace Go.Proofs.Ytijkabnhedmimab
set_option linter.unusedVariables false
set_option linter.unusedSimpArgs false
open Go.RowKit
theorem below2 (w w' : World) (o1 o2 : Obj) (h : Below ((w.alloc o1).alloc o2).heap.size ((w.alloc o1).alloc o2) w') : Below w.heap.size w w' :=
  (((Below.refl _ _).alloc (Nat.le_refl _) o1).alloc (by simp) o2).trans (h.mono (by simp; omega))
theorem cells3 (w w' : World) (a0 a1 a2 b0 b1 b2 : Value) (t : TypeId) (h : Below ((w.alloc (.cells #[a0, a1, a2] t)).alloc (.cells #[b0, b1, b2] t)).heap.size ((w.alloc (.cells #[a0, a1, a2] t)).alloc (.cells #[b0, b1, b2] t)) w') :
    w'.cell? ⟨w.heap.size, 0, none⟩ = some a0 ∧ w'.cell? ⟨w.heap.size, 2, none⟩ = some a2 ∧ w'.cell? ⟨w.heap.size + 1, 0, none⟩ = some b0 ∧ w'.cell? ⟨w.heap.size + 1, 2, none⟩ = some b2 := by
  have h1 : w'.heap[w.heap.size]? = some (.cells #[a0, a1, a2] t (0, 0)) := by rw [h.block _ (by simp; omega), heap_alloc_old _ _ (by simp), heap_alloc_new]
  have h2 : w'.heap[w.heap.size + 1]? = some (.cells #[b0, b1, b2] t (0, 0)) := by rw [h.block _ (by simp)]; exact heap_alloc2_new _ _ _
  exact ⟨by rw [cell_of_row _ _ _ _ _ _ h1]; rfl, by rw [cell_of_row _ _ _ _ _ _ h1]; rfl, by rw [cell_of_row _ _ _ _ _ _ h2]; rfl, by rw [cell_of_row _ _ _ _ _ _ h2]; rfl⟩
attribute [local go_sem ↓] Go.wp_at_zero Go.wp_at_succ
set_option maxHeartbeats 2000000 in
theorem refParts_any (p q : Pt) (w : World) (lp : p.text.length ≤ 1000000000) (lq : q.text.length ≤ 1000000000) : Calls Try.prog 16 #[pv p, pv q] w fun e w' => e = .returned (.int .i64 (cmpP p q)) ∧ Below w.heap.size w w' := by
  have hk := fun w => refNumbers_any p.kind q.kind w
  have ho := fun w => refOrder_any p.text q.text w lp lq
  have hn1 := fun w => refNumbers_any p.n q.n w
  have hn2 := fun w => refNumbers_any q.n p.n w
  have hc : cmpP p q = if icmp p.kind q.kind ≠ 0 then icmp p.kind q.kind else if bcmp p.text q.text ≠ 0 then bcmp p.text q.text else if p.kind = 3 then icmp q.n p.n else icmp p.n q.n := rfl
  rw [hc]
  have hkk := icmp_cases p.kind q.kind
  obtain ⟨pk, pt, pn⟩ := p
  obtain ⟨qk, qt, qn⟩ := q
  dsimp only at *
  clear hc
  by_cases h1 : pk = qk
  · subst h1
    have hz : icmp pk pk = 0 := by unfold icmp; simp
    rw [hz] at *
    rw [if_neg (by simp)]
    by_cases h2 : bcmp pt qt = 0
    · rw [if_neg (by simpa using h2)]
      rw [h2] at ho
      by_cases h3 : pk = 3
      · rw [if_pos h3]
        have d3 : (pk == 3) = true := by rw [beq_iff_eq]; exact h3
        clear hkk hk hn1 h3 h2 hz
        generalize icmp qn pn = N at *
        go_enter Try.func16, Try.ntmps16
        go_wp2_with (first
          | (go_at_call 26; refine (ho _).mono ?_; rintro e w1 ⟨rfl, hb1⟩; obtain ⟨x0, x2, y0, y2⟩ := cells3 _ _ _ _ _ _ _ _ _ hb1)
          | (go_at_call 17; refine (hn2 _).mono ?_; rintro e w2 ⟨rfl, rfl⟩))
        go_ret
        exact ⟨rfl, below2 _ _ _ _ hb1⟩
      · rw [if_neg h3]
        have d3 : (pk == 3) = false := by rw [beq_eq_false_iff_ne]; exact h3
        clear hkk hk hn2 h3 h2 hz
        generalize icmp pn qn = N at *
        go_enter Try.func16, Try.ntmps16
        go_wp2_with (first
          | (go_at_call 26; refine (ho _).mono ?_; rintro e w1 ⟨rfl, hb1⟩; obtain ⟨x0, x2, y0, y2⟩ := cells3 _ _ _ _ _ _ _ _ _ hb1)
          | (go_at_call 17; refine (hn1 _).mono ?_; rintro e w2 ⟨rfl, rfl⟩))
        go_ret
        exact ⟨rfl, below2 _ _ _ _ hb1⟩
    · rw [if_pos h2]
      have d2 : (bcmp pt qt != 0) = true := by rw [bne_iff_ne]; exact h2
      clear hkk hk hn1 hn2 h2 hz
      generalize bcmp pt qt = C at *
      go_enter Try.func16, Try.ntmps16
      go_wp2_with (go_at_call 26; refine (ho _).mono ?_; rintro e w1 ⟨rfl, hb1⟩)
      go_ret
      exact ⟨rfl, below2 _ _ _ _ hb1⟩
  · have hz : icmp pk qk ≠ 0 := by rcases hkk with h | h | h <;> omega
    rw [if_pos hz]
    have d1 : (pk == qk) = false := by rw [beq_eq_false_iff_ne]; exact h1
    have d1' : (pk != qk) = true := by rw [bne_iff_ne]; exact h1
    clear hkk hn1 hn2 ho hz
    generalize icmp pk qk = C at *
    go_enter Try.func16, Try.ntmps16
    go_wp2_with (go_at_call 17; refine (hk _).mono ?_; rintro e w2 ⟨rfl, rfl⟩)
    go_ret
    exact ⟨rfl, ((Below.refl _ _).alloc (Nat.le_refl _) _).alloc (by simp) _⟩
set_option maxHeartbeats 2000000 in
theorem refCompare_any (a b : List Pt) (w : World) (pa pb : Option Addr) (ca cb : Nat) (hA : PIn w pa a) (hB : PIn w pb b) (ba : bulk a ≤ 100000000) (bb : bulk b ≤ 100000000) :
    Calls Try.prog 7 #[.slice pa a.length ca, .slice pb b.length cb] w fun e w' => e = .returned (.int .i64 (cmpL a b)) ∧ Below w.heap.size w w' := by
  have la : a.length ≤ 100000000 := Nat.le_trans (bulk_len a) ba
  have lb : b.length ≤ 100000000 := Nat.le_trans (bulk_len b) bb
  go_enter Try.func7, Try.ntmps7
  go_wp2_with fail
  go_loopw [5] (fun i wr => ∃ k : Nat, k ≤ a.length ∧ k ≤ b.length ∧ i = .int .i64 (k : Int) ∧ a.take k = b.take k ∧ Below w.heap.size w wr) (fun i _ => a.length - (intOf i).toNat)
  case atStart => exact ⟨0, by omega, by omega, rfl, by simp, Below.refl _ _⟩
  case round =>
    obtain ⟨k, hk1, hk2, rfl, hab, hb⟩ := hrel
    have HL : Hid (cmpL a b = cmpL (a.drop k) (b.drop k)) := ⟨cmpL_drop a b k hab hk1 hk2⟩
    have hnm := fun w => refNumbers_any (a.length : Int) (b.length : Int) w
    by_cases h1 : k < a.length
    · have d1 : decide ((k : Int) < (a.length : Int)) = true := decide_eq_true (by omega)
      have k1 : (k : Int) < (a.length : Int) := by omega
      obtain ⟨p, hp⟩ : ∃ p, a[k]? = some p := ⟨a[k], List.getElem?_eq_getElem h1⟩
      obtain ⟨b1, off1, rfl, hbl, c0, c1, c2⟩ := (hA.later hb).get k p hp
      by_cases h2 : k < b.length
      · have d2 : decide ((k : Int) < (b.length : Int)) = true := decide_eq_true (by omega)
        have k2 : (k : Int) < (b.length : Int) := by omega
        obtain ⟨q, hq⟩ : ∃ q, b[k]? = some q := ⟨b[k], List.getElem?_eq_getElem h2⟩
        obtain ⟨b2, off2, rfl, hbl2, e0, e1, e2⟩ := (hB.later hb).get k q hq
        have lp : p.text.length ≤ 1000000000 := by have := bulk_take a hp; have : p.text.length ≤ 8 * ngr p.text.length := (by unfold ngr; split <;> omega); omega
        have lq : q.text.length ≤ 1000000000 := by have := bulk_take b hq; have : q.text.length ≤ 8 * ngr q.text.length := (by unfold ngr; split <;> omega); omega
        have hc := fun w => refParts_any p q w lp lq
        have hcs : ∀ w', Below wr.heap.size wr w' → w'.cell? ⟨b1, off1 + k * 3, none⟩ = some (.int .i64 p.kind) ∧ w'.cell? ⟨b1, off1 + k * 3 + 1, none⟩ = some (str p.text) ∧ w'.cell? ⟨b1, off1 + k * 3 + 2, none⟩ = some (.int .i64 p.n) ∧ w'.cell? ⟨b2, off2 + k * 3, none⟩ = some (.int .i64 q.kind) ∧ w'.cell? ⟨b2, off2 + k * 3 + 1, none⟩ = some (str q.text) ∧ w'.cell? ⟨b2, off2 + k * 3 + 2, none⟩ = some (.int .i64 q.n) := fun w' h =>
          ⟨by rw [h.cell (p := ⟨b1, _, none⟩) hbl]; exact c0, by rw [h.cell (p := ⟨b1, _, none⟩) hbl]; exact c1, by rw [h.cell (p := ⟨b1, _, none⟩) hbl]; exact c2, by rw [h.cell (p := ⟨b2, _, none⟩) hbl2]; exact e0, by rw [h.cell (p := ⟨b2, _, none⟩) hbl2]; exact e1, by rw [h.cell (p := ⟨b2, _, none⟩) hbl2]; exact e2⟩
        by_cases hpq : cmpP p q = 0
        · rw [hpq] at hc
          have hpq' := cmpP_zero hpq
          have HT : Hid (a.take (k + 1) = b.take (k + 1)) := ⟨by rw [List.take_add_one, List.take_add_one, hp, hq, hab, hpq']⟩
          clear hpq hpq' hab
          go_wp2_with fail
          go_region_held3 (fun w' => Below wr.heap.size wr w' ∧ w'.cell? ⟨b1, off1 + k * 3, none⟩ = some (.int .i64 p.kind) ∧ w'.cell? ⟨b1, off1 + k * 3 + 1, none⟩ = some (str p.text) ∧ w'.cell? ⟨b1, off1 + k * 3 + 2, none⟩ = some (.int .i64 p.n) ∧ w'.cell? ⟨b2, off2 + k * 3, none⟩ = some (.int .i64 q.kind) ∧ w'.cell? ⟨b2, off2 + k * 3 + 1, none⟩ = some (str q.text) ∧ w'.cell? ⟨b2, off2 + k * 3 + 2, none⟩ = some (.int .i64 q.n)) (first | exact ⟨(Below.refl _ _).drew, hcs _ (Below.refl _ _).drew⟩ | exact ⟨below_seq (And.left (by assumption)) bq, hcs _ (below_seq (And.left (by assumption)) bq)⟩) ((go_at_call 16; refine Calls.mono (hc _) ?_; rintro e w' ⟨rfl, bq⟩))
          rename_i hH
          go_wp2_with fail
          exact ⟨⟨k + 1, by omega, by omega, by go_num, HT.out, hb.trans (hH.1.mono hb.size)⟩, by simp [intOf]; omega⟩
        · have HN : Hid (cmpL a b = cmpP p q) := ⟨by rw [HL.out, drop_cons hp, drop_cons hq]; simp [cmpL, hpq]⟩
          have d3 : (cmpP p q != 0) = true := by rw [bne_iff_ne]; exact hpq
          clear hpq hab
          generalize cmpP p q = C at *
          go_wp2_with fail
          go_region_held3 (fun w' => Below wr.heap.size wr w' ∧ w'.cell? ⟨b1, off1 + k * 3, none⟩ = some (.int .i64 p.kind) ∧ w'.cell? ⟨b1, off1 + k * 3 + 1, none⟩ = some (str p.text) ∧ w'.cell? ⟨b1, off1 + k * 3 + 2, none⟩ = some (.int .i64 p.n) ∧ w'.cell? ⟨b2, off2 + k * 3, none⟩ = some (.int .i64 q.kind) ∧ w'.cell? ⟨b2, off2 + k * 3 + 1, none⟩ = some (str q.text) ∧ w'.cell? ⟨b2, off2 + k * 3 + 2, none⟩ = some (.int .i64 q.n)) (first | exact ⟨(Below.refl _ _).drew, hcs _ (Below.refl _ _).drew⟩ | exact ⟨below_seq (And.left (by assumption)) bq, hcs _ (below_seq (And.left (by assumption)) bq)⟩) ((go_at_call 16; refine Calls.mono (hc _) ?_; rintro e w' ⟨rfl, bq⟩))
          rename_i hH
          go_wp2_with fail
          go_ret
          exact ⟨by rw [HN.out]; rfl, hb.trans (hH.1.mono hb.size)⟩
      · obtain rfl : k = b.length := by omega
        have d2 : decide ((b.length : Int) < (b.length : Int)) = false := decide_eq_false (by omega)
        have HN : Hid (cmpL a b = icmp (a.length : Int) (b.length : Int)) := ⟨by
          rw [HL.out, drop_cons hp, List.drop_length]
          rcases icmp_cases (a.length : Int) (b.length : Int) with ⟨_, h⟩ | ⟨_, h⟩ | ⟨h, _⟩
          · omega
          · omega
          · rw [h]; rfl⟩
        clear hab
        go_wp2_with (go_at_call 17; refine (hnm _).mono ?_; rintro e w2 ⟨rfl, rfl⟩)
        go_ret
        exact ⟨by rw [HN.out]; rfl, hb⟩
    · obtain rfl : k = a.length := by omega
      have d1 : decide ((a.length : Int) < (a.length : Int)) = false := decide_eq_false (by omega)
      have HN : Hid (cmpL a b = icmp (a.length : Int) (b.length : Int)) := ⟨by
        rw [HL.out, List.drop_length]
        by_cases h2 : a.length < b.length
        · obtain ⟨q, hq⟩ : ∃ q, b[a.length]? = some q := ⟨b[a.length], List.getElem?_eq_getElem h2⟩
          rw [drop_cons hq]
          rcases icmp_cases (a.length : Int) (b.length : Int) with ⟨h, _⟩ | ⟨_, h⟩ | ⟨_, h⟩
          · rw [h]; rfl
          · omega
          · omega
        · rw [List.drop_of_length_le (by omega)]
          rcases icmp_cases (a.length : Int) (b.length : Int) with ⟨_, h⟩ | ⟨h, _⟩ | ⟨_, h⟩
          · omega
          · rw [h]; rfl
          · omega⟩
      clear hab
      go_wp2_with (go_at_call 17; refine (hnm _).mono ?_; rintro e w2 ⟨rfl, rfl⟩)
      go_ret
      exact ⟨by rw [HN.out]; rfl, hb⟩
end Go.Proofs.Ytijkabnhedmimab
