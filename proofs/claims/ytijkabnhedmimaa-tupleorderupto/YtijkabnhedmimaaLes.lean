/- The laws' own order: less, order. -/
import Derived.Test.YtijkabnhedmimaaEql
namespace Go.Proofs.Ytijkabnhedmimaa
set_option linter.unusedVariables false
set_option linter.unusedSimpArgs false
open Go.RowKit
/-- less, as the law asks it -/
noncomputable def les (a b : List Pt) : Bool := by classical exact decide (cmpL a b = -1)
theorem les_eq (a b : List Pt) : les a b = decide (cmpL a b = -1) := by unfold les; congr
theorem cmpL_self (a : List Pt) : cmpL a a = 0 := by
  induction a with
  | nil => rfl
  | cons p a ih => simp [cmpL, cmpP_self, ih]
theorem cmpL_drop' : ∀ (a b : List Pt) (k : Nat), a.take k = b.take k → k ≤ a.length → k ≤ b.length → cmpL a b = cmpL (a.drop k) (b.drop k)
  | a, b, 0, _, _, _ => by simp
  | p :: a, q :: b, k + 1, h, h1, h2 => by
    simp at h h1 h2
    obtain ⟨rfl, h⟩ := h
    simp [cmpL, cmpP_self]
    exact cmpL_drop' a b k h h1 h2
  | [], _, k + 1, _, h1, _ => by simp at h1
  | _ :: _, [], k + 1, _, _, h2 => by simp at h2
theorem drop_cons' {l : List Pt} {k : Nat} {p : Pt} (h : l[k]? = some p) : l.drop k = p :: l.drop (k + 1) := by
  obtain ⟨hk, he⟩ := List.getElem?_eq_some_iff.1 h
  rw [← he]
  exact List.drop_eq_getElem_cons hk
/-- the order of two texts, as a test answers it -/
theorem order_any (a b : List UInt8) (w : World) : Calls Try.prog 17 #[str a, str b] w fun e w' => e = .returned (.int .i64 (bcmp a b)) ∧ w' = w := by
  have h1 := bytesLess_eq a b
  have h2 := bytesLess_eq b a
  rw [bcmp_neg a b] at h2
  rcases bcmp_cases a b with h | h | h
  · rw [h] at h1 h2 ⊢
    have h1' : Go.Op.bytesLess a b = true := h1
    go_enter Try.func17, Try.ntmps17
    go_wp2_with fail
    go_ret
    exact ⟨rfl, rfl⟩
  · rw [h] at h1 h2 ⊢
    have h1' : Go.Op.bytesLess a b = false := h1
    have h2' : Go.Op.bytesLess b a = false := h2
    have he : (a == b) = true := by rw [bcmp_zero h]; exact beq_self_eq_true _
    have hab := bcmp_zero h
    subst hab
    go_enter Try.func17, Try.ntmps17
    go_wp2_with fail
    go_ret
    exact ⟨rfl, rfl⟩
  · rw [h] at h1 h2 ⊢
    have h1' : Go.Op.bytesLess a b = false := h1
    have h2' : Go.Op.bytesLess b a = true := h2
    have hne : (a == b) = false := by
      rw [beq_eq_false_iff_ne]
      rintro rfl
      rw [bcmp_self] at h
      cases h
    go_enter Try.func17, Try.ntmps17
    go_wp2_with fail
    go_ret
    exact ⟨rfl, rfl⟩
attribute [local go_sem ↓] Go.wp_at_zero Go.wp_at_succ
set_option maxHeartbeats 2000000 in
theorem less_any (a b : List Pt) (w : World) (pa pb : Option Addr) (ca cb : Nat) (hA : PIn w pa a) (hB : PIn w pb b) (oa : okL a) (ob : okL b) (la : a.length ≤ 1000000000000) (lb : b.length ≤ 1000000000000) :
    Calls Try.prog 16 #[.slice pa a.length ca, .slice pb b.length cb] w fun e w' => e = .returned (.bool (les a b)) ∧ Below w.heap.size w w' := by
  go_enter Try.func16, Try.ntmps16
  go_wp2_with fail
  go_loopw [5] (fun i wr => ∃ k : Nat, k ≤ a.length ∧ k ≤ b.length ∧ i = .int .i64 (k : Int) ∧ a.take k = b.take k ∧ Below w.heap.size w wr) (fun i _ => a.length - (intOf i).toNat)
  case atStart => exact ⟨0, by omega, by omega, rfl, by simp, Below.refl _ _⟩
  case round =>
    obtain ⟨k, hk1, hk2, rfl, hab, hb⟩ := hrel
    have HL : Hid (cmpL a b = cmpL (a.drop k) (b.drop k)) := ⟨cmpL_drop' a b k hab hk1 hk2⟩
    by_cases h1 : k < a.length
    · have d1 : decide ((k : Int) < (a.length : Int)) = true := decide_eq_true (by omega)
      have k1 : (k : Int) < (a.length : Int) := by omega
      obtain ⟨p, hp⟩ : ∃ p, a[k]? = some p := ⟨a[k], List.getElem?_eq_getElem h1⟩
      obtain ⟨b1, off1, rfl, hbl, c0, c1, c2⟩ := (hA.later hb).get k p hp
      by_cases h2 : k < b.length
      · have d2 : decide ((k : Int) < (b.length : Int)) = true := decide_eq_true (by omega)
        have k2 : (k : Int) < (b.length : Int) := by omega
        obtain ⟨q, hq⟩ : ∃ q, b[k]? = some q := ⟨b[k], List.getElem?_eq_getElem h2⟩
        obtain ⟨b2, off2, rfl, hbl2, e0, e1, e2⟩ := (hB.later hb).get k q hq
        have f0 : ∀ o, (wr.alloc o).cell? ⟨b2, off2 + k * 3, none⟩ = some (.int .i64 q.kind) := fun o => by rw [((Below.refl wr.heap.size wr).alloc (Nat.le_refl _) o).cell (p := ⟨b2, _, none⟩) hbl2]; exact e0
        have f1 : ∀ o, (wr.alloc o).cell? ⟨b2, off2 + k * 3 + 1, none⟩ = some (str q.text) := fun o => by rw [((Below.refl wr.heap.size wr).alloc (Nat.le_refl _) o).cell (p := ⟨b2, _, none⟩) hbl2]; exact e1
        have f2 : ∀ o, (wr.alloc o).cell? ⟨b2, off2 + k * 3 + 2, none⟩ = some (.int .i64 q.n) := fun o => by rw [((Below.refl wr.heap.size wr).alloc (Nat.le_refl _) o).cell (p := ⟨b2, _, none⟩) hbl2]; exact e2
        by_cases hpq : p = q
        · subst hpq
          have HT : Hid (a.take (k + 1) = b.take (k + 1)) := ⟨take_next hp hq hab⟩
          clear hab
          go_wp2_with fail
          exact ⟨⟨k + 1, by omega, by omega, by go_num, HT.out, hb.trans (((Below.refl _ _).alloc hb.size _).alloc (by have := hb.size; simp; omega) _)⟩, by simp [intOf]; omega⟩
        · have HC : cmpL a b = cmpP p q := by
            have hne : cmpP p q ≠ 0 := fun h => hpq (cmpP_zero h)
            rw [HL.out, drop_cons' hp, drop_cons' hq]
            simp [cmpL, hne]
          have hpo : p.ok := oa p (List.mem_of_getElem? hp)
          have hqo : q.ok := ob q (List.mem_of_getElem? hq)
          obtain ⟨pk, pt, pn⟩ := p
          obtain ⟨qk, qt, qn⟩ := q
          have his := hpo.is
          have hiq := hqo.is
          clear hpo hqo
          dsimp only at *
          by_cases h3 : pk = qk
          · subst h3
            have hcc : cmpP ⟨pk, pt, pn⟩ ⟨pk, qt, qn⟩ = if bcmp pt qt ≠ 0 then bcmp pt qt else if pk = 3 then icmp qn pn else icmp pn qn := by
              have : icmp pk pk = 0 := by unfold icmp; simp
              unfold cmpP
              simp [this]
            rw [hcc] at HC
            clear hcc
            by_cases e1 : pk = 1
            · subst e1
              have hn1 : pn = 0 := by rcases his with h | h <;> omega
              have hn2 : qn = 0 := by rcases hiq with h | h <;> omega
              subst hn1 hn2
              have ht : ¬ pt = qt := fun h => hpq (by rw [h])
              have hbn : bcmp pt qt ≠ 0 := fun h => ht (bcmp_zero h)
              rw [if_pos hbn] at HC
              have HN : Hid (les a b = Go.Op.bytesLess pt qt) := ⟨by rw [les_eq, HC, bytesLess_eq]⟩
              have d5 : (pt == qt) = false := by rw [beq_eq_false_iff_ne]; exact ht
              clear his hiq hbn
              clear hpq hab oa ob HC
              go_wp2_with fail
              go_ret
              exact ⟨by rw [HN.out]; rfl, hb.trans (((Below.refl _ _).alloc hb.size _).alloc (by have := hb.size; simp; omega) _)⟩
            · have ht1 : pt = [] := by rcases his with h | h
                                       · exact absurd h.1 e1
                                       · exact h.2
              have ht2 : qt = [] := by rcases hiq with h | h
                                       · exact absurd h.1 e1
                                       · exact h.2
              subst ht1 ht2
              have hnn : ¬ pn = qn := fun h => hpq (by rw [h])
              have d5 : (pn == qn) = false := by rw [beq_eq_false_iff_ne]; exact hnn
              rw [if_neg (by simp [bcmp])] at HC
              by_cases e2 : pk = 2
              · subst e2
                rw [if_neg (by decide)] at HC
                have HN : Hid (les a b = decide (pn < qn)) := ⟨by
                  rw [les_eq, HC]
                  rcases icmp_cases pn qn with ⟨h, h'⟩ | ⟨h, h'⟩ | ⟨h, h'⟩
                  · rw [h]; simp [h']
                  · exact absurd h' hnn
                  · rw [h]; simp; omega⟩
                clear his hiq e1
                clear hpq hab oa ob HC
                go_wp2_with fail
                go_ret
                exact ⟨by rw [HN.out]; rfl, hb.trans (((Below.refl _ _).alloc hb.size _).alloc (by have := hb.size; simp; omega) _)⟩
              · have e3 : pk = 3 := by rcases his with h | h <;> omega
                subst e3
                rw [if_pos rfl] at HC
                have HN : Hid (les a b = decide (qn < pn)) := ⟨by
                  rw [les_eq, HC]
                  rcases icmp_cases qn pn with ⟨h, h'⟩ | ⟨h, h'⟩ | ⟨h, h'⟩
                  · rw [h]; simp [h']
                  · exact absurd h'.symm hnn
                  · rw [h]; simp; omega⟩
                clear his hiq e1 e2
                clear hpq hab oa ob HC
                go_wp2_with fail
                go_ret
                exact ⟨by rw [HN.out]; rfl, hb.trans (((Below.refl _ _).alloc hb.size _).alloc (by have := hb.size; simp; omega) _)⟩
          · have d5 : (pk == qk) = false := by rw [beq_eq_false_iff_ne]; exact h3
            have HN : Hid (les a b = decide (pk < qk)) := ⟨by
              rw [les_eq, HC]
              unfold cmpP
              dsimp only
              rcases icmp_cases pk qk with ⟨h, h'⟩ | ⟨h, h'⟩ | ⟨h, h'⟩
              · rw [h]; simp [h']
              · exact absurd h' h3
              · rw [h]; simp; omega⟩
            clear his hiq
            clear hpq hab oa ob HC
            go_wp2_with fail
            go_ret
            exact ⟨by rw [HN.out]; rfl, hb.trans (((Below.refl _ _).alloc hb.size _).alloc (by have := hb.size; simp; omega) _)⟩
      · obtain rfl : k = b.length := by omega
        have d2 : decide ((b.length : Int) < (b.length : Int)) = false := decide_eq_false (by omega)
        have d3 : decide ((a.length : Int) < (b.length : Int)) = false := decide_eq_false (by omega)
        have HN : Hid (les a b = false) := ⟨by rw [les_eq, HL.out, drop_cons' hp, List.drop_length]; simp [cmpL]⟩
        clear hab
        go_wp2_with fail
        go_ret
        exact ⟨by rw [HN.out]; show Ending.returned (.bool (decide (a.length < b.length))) = _; rw [decide_eq_false (by omega)], hb⟩
    · obtain rfl : k = a.length := by omega
      have d1 : decide ((a.length : Int) < (a.length : Int)) = false := decide_eq_false (by omega)
      by_cases h2 : a.length < b.length
      · have d2 : decide ((a.length : Int) < (b.length : Int)) = true := decide_eq_true (by omega)
        have HN : Hid (les a b = true) := by
          constructor
          obtain ⟨q, hq⟩ : ∃ q, b[a.length]? = some q := ⟨b[a.length], List.getElem?_eq_getElem h2⟩
          rw [les_eq, HL.out, drop_cons' hq, List.drop_length]; simp [cmpL]
        clear hab
        go_wp2_with fail
        go_ret
        exact ⟨by rw [HN.out]; rfl, hb⟩
      · have d2 : decide ((a.length : Int) < (b.length : Int)) = false := decide_eq_false (by omega)
        have HN : Hid (les a b = false) := by
          constructor
          rw [les_eq, HL.out, List.drop_length, List.drop_of_length_le (by omega)]; simp [cmpL]
        clear hab
        go_wp2_with fail
        go_ret
        exact ⟨by rw [HN.out]; rfl, hb⟩
end Go.Proofs.Ytijkabnhedmimaa
