/- Compare: list by list. -/
import Derived.Test.YtijkabnhedmimabWr
namespace Go.Proofs.Ytijkabnhedmimab
set_option linter.unusedVariables false
set_option linter.unusedSimpArgs false
open Go.RowKit
attribute [local go_sem ↓] Go.wp_at_zero Go.wp_at_succ
def CmpC : Prop := ∀ (p q : Pt) (w : World), Calls Try.prog 21 #[pv p, pv q] w fun e w' => e = .returned (.int .i64 (cmpP p q)) ∧ Below w.heap.size w w'
/-- the lists are alike so far -/
theorem cmpL_drop : ∀ (a b : List Pt) (k : Nat), a.take k = b.take k → k ≤ a.length → k ≤ b.length → cmpL a b = cmpL (a.drop k) (b.drop k)
  | a, b, 0, _, _, _ => by simp
  | p :: a, q :: b, k + 1, h, h1, h2 => by
    simp at h h1 h2
    obtain ⟨rfl, h⟩ := h
    simp [cmpL, cmpP_self]
    exact cmpL_drop a b k h h1 h2
  | [], _, k + 1, _, h1, _ => by simp at h1
  | _ :: _, [], k + 1, _, _, h2 => by simp at h2
theorem drop_cons {l : List Pt} {k : Nat} {p : Pt} (h : l[k]? = some p) : l.drop k = p :: l.drop (k + 1) := by
  obtain ⟨hk, he⟩ := List.getElem?_eq_some_iff.1 h
  rw [← he]
  exact List.drop_eq_getElem_cons hk
theorem below_a2 {wr w1 : World} {o1 o2 : Obj} {B : Nat} (hw : B ≤ wr.heap.size) (h : Below ((wr.alloc o1).alloc o2).heap.size ((wr.alloc o1).alloc o2) w1) : Below B wr w1 :=
  (((Below.refl _ _).alloc hw o1).alloc (by simp; omega) o2).trans (h.mono (by simp; omega))
set_option maxHeartbeats 1000000 in
theorem compareFunc_of (hC : CmpC) (a b : List Pt) (w : World) (pa pb : Option Addr) (ca cb : Nat) (hA : PIn w pa a) (hB : PIn w pb b) (la : a.length ≤ 1000000000000) (lb : b.length ≤ 1000000000000) :
    Calls Try.prog 20 #[.slice pa a.length ca, .slice pb b.length cb, .func (.func 21) #[] #[]] w fun e w' => e = .returned (.int .i64 (cmpL a b)) ∧ Below w.heap.size w w' := by
  go_enter Try.func20, Try.ntmps20
  go_wp2_with fail
  go_loopw [13] (fun i wr => ∃ k : Nat, k ≤ a.length ∧ k ≤ b.length ∧ i = .int .i64 (k : Int) ∧ a.take k = b.take k ∧ Below w.heap.size w wr) (fun i _ => a.length - (intOf i).toNat)
  case atStart => exact ⟨0, by omega, by omega, rfl, by simp, Below.refl _ _⟩
  case round =>
    obtain ⟨k, hk1, hk2, rfl, hab, hb⟩ := hrel
    have HL : Hid (cmpL a b = cmpL (a.drop k) (b.drop k)) := ⟨cmpL_drop a b k hab hk1 hk2⟩
    by_cases h1 : k < a.length
    · have d1 : decide ((k : Int) < (a.length : Int)) = true := decide_eq_true (by omega)
      obtain ⟨p, hp⟩ : ∃ p, a[k]? = some p := ⟨a[k], List.getElem?_eq_getElem h1⟩
      obtain ⟨b1, off1, rfl, hbl, c0, c1, c2⟩ := (hA.later hb).get k p hp
      by_cases h2 : k < b.length
      · have d2 : decide ((b.length : Int) ≤ (k : Int)) = false := decide_eq_false (by omega)
        obtain ⟨q, hq⟩ : ∃ q, b[k]? = some q := ⟨b[k], List.getElem?_eq_getElem h2⟩
        obtain ⟨b2, off2, rfl, hbl2, e0, e1, e2⟩ := (hB.later hb).get k q hq
        have f0 : ∀ o, (wr.alloc o).cell? ⟨b2, off2 + k * 3, none⟩ = some (.int .i64 q.kind) := fun o => by rw [((Below.refl wr.heap.size wr).alloc (Nat.le_refl _) o).cell (p := ⟨b2, _, none⟩) hbl2]; exact e0
        have f1 : ∀ o, (wr.alloc o).cell? ⟨b2, off2 + k * 3 + 1, none⟩ = some (str q.text) := fun o => by rw [((Below.refl wr.heap.size wr).alloc (Nat.le_refl _) o).cell (p := ⟨b2, _, none⟩) hbl2]; exact e1
        have f2 : ∀ o, (wr.alloc o).cell? ⟨b2, off2 + k * 3 + 2, none⟩ = some (.int .i64 q.n) := fun o => by rw [((Below.refl wr.heap.size wr).alloc (Nat.le_refl _) o).cell (p := ⟨b2, _, none⟩) hbl2]; exact e2
        have k2 : (k : Int) < (b.length : Int) := by omega
        have hc := hC p q
        by_cases hpq : cmpP p q = 0
        · rw [hpq] at hc
          have hpq' := cmpP_zero hpq
          have HT : Hid (a.take (k + 1) = b.take (k + 1)) := ⟨by rw [List.take_add_one, List.take_add_one, hp, hq, hab, hpq']⟩
          clear hpq hpq' hab
          go_wp2_with (go_at_call 21; refine (hc _).mono ?_; rintro e w1 ⟨rfl, hb1⟩)
          exact ⟨⟨k + 1, by omega, by omega, by go_num, HT.out, hb.trans (below_a2 hb.size hb1)⟩, by simp [intOf]; omega⟩
        · have HN : Hid (cmpL a b = cmpP p q) := ⟨by rw [HL.out, drop_cons hp, drop_cons hq]; simp [cmpL, hpq]⟩
          have d3 : (cmpP p q != 0) = true := by rw [bne_iff_ne]; exact hpq
          clear hpq hab
          generalize cmpP p q = C at *
          go_wp2_with (go_at_call 21; refine (hc _).mono ?_; rintro e w1 ⟨rfl, hb1⟩)
          go_ret
          exact ⟨by rw [HN.out]; rfl, hb.trans (below_a2 hb.size hb1)⟩
      · obtain rfl : k = b.length := by omega
        have HN : Hid (cmpL a b = 1) := ⟨by rw [HL.out, drop_cons hp, List.drop_length]; rfl⟩
        have d2 : decide ((b.length : Int) ≤ (b.length : Int)) = true := decide_eq_true (by omega)
        clear hab
        go_wp2_with fail
        go_ret
        exact ⟨by rw [HN.out]; rfl, hb.alloc hb.size _⟩
    · obtain rfl : k = a.length := by omega
      have d1 : decide ((a.length : Int) < (a.length : Int)) = false := decide_eq_false (by omega)
      by_cases h2 : a.length < b.length
      · have d2 : decide ((a.length : Int) < (b.length : Int)) = true := decide_eq_true (by omega)
        have HN : Hid (cmpL a b = -1) := by
          constructor
          obtain ⟨q, hq⟩ : ∃ q, b[a.length]? = some q := ⟨b[a.length], List.getElem?_eq_getElem h2⟩
          rw [HL.out, drop_cons hq, List.drop_length]; rfl
        clear hab
        go_wp2_with fail
        go_ret
        exact ⟨by rw [HN.out]; rfl, hb⟩
      · have d2 : decide ((a.length : Int) < (b.length : Int)) = false := decide_eq_false (by omega)
        have HN : Hid (cmpL a b = 0) := by
          constructor
          rw [HL.out, List.drop_length, List.drop_of_length_le (by omega)]; rfl
        clear hab
        go_wp2_with fail
        go_ret
        exact ⟨by rw [HN.out]; rfl, hb⟩
theorem compare_of (hC : CmpC) (a b : List Pt) (w : World) (pa pb : Option Addr) (ca cb : Nat) (hA : PIn w pa a) (hB : PIn w pb b) (la : a.length ≤ 1000000000000) (lb : b.length ≤ 1000000000000) :
    Calls Try.prog 11 #[.slice pa a.length ca, .slice pb b.length cb] w fun e w' => e = .returned (.int .i64 (cmpL a b)) ∧ Below w.heap.size w w' := by
  go_enter Try.func11, Try.ntmps11
  go_wp2_with (go_at_call 20; refine (compareFunc_of hC a b w pa pb ca cb hA hB la lb).mono ?_; rintro e w' ⟨rfl, hb⟩)
  go_ret
  exact ⟨rfl, hb⟩
end Go.Proofs.Ytijkabnhedmimab
