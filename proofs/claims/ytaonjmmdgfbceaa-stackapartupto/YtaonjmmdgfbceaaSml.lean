/- SameList, alike: are two lists one? -/
import Derived.Test.YtaonjmmdgfbceaaSam
import Derived.Test.YtaonjmmdgfbceaaSnc
namespace Go.Proofs.Ytaonjmmdgfbceaa
set_option linter.unusedVariables false
set_option linter.unusedSimpArgs false
open Go.RowKit
attribute [local go_sem ↓] Go.wp_at_zero Go.wp_at_succ
set_option maxHeartbeats 4000000 in
theorem sameList_any (A B : List Vs) (w : World) (a : Option Addr) (n cap : Nat) (a' : Option Addr) (n' cap' : Nat) (hA : Li w A a n cap) (hB : Li w B a' n' cap') :
    Calls Try.prog 26 #[.slice a n cap, .slice a' n' cap'] w fun e w' => e = .returned (.bool (svL A B)) ∧ Below w.heap.size w w' := by
  obtain rfl := hA.n
  obtain rfl := hB.n
  have hlen := hA.l
  by_cases h5 : A.length = B.length
  · have d5 : ((A.length : Int) == (B.length : Int)) = true := by rw [beq_iff_eq]; omega
    have d6 : (A.length == B.length) = true := by rw [beq_iff_eq]; exact h5
    have HL := Hid.mk h5
    have hHS1 : A = B → svL A B = true := fun h => svL_true h
    have hHS2 : ¬ A = B → svL A B = false := fun h => svL_false h
    have HS1 := Hid.mk hHS1
    have HS2 := Hid.mk hHS2
    clear h5 hHS1 hHS2
    generalize svL A B = SV at *
    go_enter Try.func26, Try.ntmps26
    go_wp2_with fail
    have d7 : ((A.length : Int) != (B.length : Int)) = false := by rw [bne, d5]; rfl
    rw [d7]
    go_loopw [5] (fun i wr => ∃ k : Nat, k ≤ A.length ∧ i = .int .i64 (k : Int) ∧ A.take k = B.take k ∧ Below w.heap.size w wr) (fun i _ => A.length - (intOf i).toNat)
    case atStart => exact ⟨0, by omega, rfl, by simp, Below.refl _ _⟩
    case round =>
      obtain ⟨k, hk, rfl, hab, hb⟩ := hrel
      by_cases hlt : k < A.length
      · have d1 : decide ((k : Int) < (A.length : Int)) = true := decide_eq_true (by omega)
        have h2 : k < B.length := by rw [← HL.out]; exact hlt
        have k2 : (k : Int) < (B.length : Int) := by omega
        have k3 : (k : Int) < (A.length : Int) := by omega
        have hw1 : wrap64 ((k : Int) + 1) = ((k + 1 : Nat) : Int) := by unfold wrap64; omega
        obtain ⟨p, hp⟩ : ∃ p, A[k]? = some p := ⟨A[k], List.getElem?_eq_getElem hlt⟩
        obtain ⟨q, hq⟩ : ∃ q, B[k]? = some q := ⟨B[k], List.getElem?_eq_getElem h2⟩
        obtain ⟨b, off, ma, mc, rfl, hbl, c0, c1, c2, c3, c4, s1⟩ := ((hA.later hb).s.at').get k p hp
        obtain ⟨b2, off2, ma2, mc2, rfl, hbl2, e0, e1, e2, e3, e4, s2⟩ := ((hB.later hb).s.at').get k q hq
        have hzp := hA.z p (List.mem_of_getElem? hp)
        have hzq := hB.z q (List.mem_of_getElem? hq)
        have HS : Hid (∀ w', Below wr.heap.size wr w' → Below wr.heap.size wr w' ∧ w'.cell? ⟨b, off + k * 5, none⟩ = some (str p.key) ∧ w'.cell? ⟨b, off + k * 5 + 1, none⟩ = some (.int .i64 p.seq) ∧ w'.cell? ⟨b, off + k * 5 + 2, none⟩ = some (.bool p.mkr) ∧ w'.cell? ⟨b, off + k * 5 + 3, none⟩ = some (str p.data) ∧ w'.cell? ⟨b, off + k * 5 + 4, none⟩ = some (.slice ma p.l.length mc) ∧ w'.cell? ⟨b2, off2 + k * 5, none⟩ = some (str q.key) ∧ w'.cell? ⟨b2, off2 + k * 5 + 1, none⟩ = some (.int .i64 q.seq) ∧ w'.cell? ⟨b2, off2 + k * 5 + 2, none⟩ = some (.bool q.mkr) ∧ w'.cell? ⟨b2, off2 + k * 5 + 3, none⟩ = some (str q.data) ∧ w'.cell? ⟨b2, off2 + k * 5 + 4, none⟩ = some (.slice ma2 q.l.length mc2)) := ⟨fun w' hB => ⟨hB, (hB.cell (p := ⟨b, _, none⟩) hbl).trans c0, (hB.cell (p := ⟨b, _, none⟩) hbl).trans c1, (hB.cell (p := ⟨b, _, none⟩) hbl).trans c2, (hB.cell (p := ⟨b, _, none⟩) hbl).trans c3, (hB.cell (p := ⟨b, _, none⟩) hbl).trans c4, (hB.cell (p := ⟨b2, _, none⟩) hbl2).trans e0, (hB.cell (p := ⟨b2, _, none⟩) hbl2).trans e1, (hB.cell (p := ⟨b2, _, none⟩) hbl2).trans e2, (hB.cell (p := ⟨b2, _, none⟩) hbl2).trans e3, (hB.cell (p := ⟨b2, _, none⟩) hbl2).trans e4⟩⟩
        have hc : ∀ w', Below wr.heap.size wr w' → Calls Try.prog 27 #[vv p.key p.seq p.mkr p.data ma p.l.length mc, vv q.key q.seq q.mkr q.data ma2 q.l.length mc2] w' fun e w'' => e = .returned (.bool (sv p q)) ∧ Below w'.heap.size w' w'' := fun w' hB => rSame_any p q w' ma p.l.length mc rfl (s1.later hB).at' (by omega) ma2 q.l.length mc2 rfl (s2.later hB).at' (by omega)
        by_cases hpq : p = q
        · have HT : Hid (A.take (k + 1) = B.take (k + 1)) := ⟨take_nextV hp (by rw [hpq]; exact hq) hab⟩
          rw [sv_true hpq] at hc
          clear hab hp hq hA hB HS1 HS2 s1 s2 hzp hzq hpq
          go_wp2_with fail
          go_region_held3 (fun w' => Below wr.heap.size wr w' ∧ w'.cell? ⟨b, off + k * 5, none⟩ = some (str p.key) ∧ w'.cell? ⟨b, off + k * 5 + 1, none⟩ = some (.int .i64 p.seq) ∧ w'.cell? ⟨b, off + k * 5 + 2, none⟩ = some (.bool p.mkr) ∧ w'.cell? ⟨b, off + k * 5 + 3, none⟩ = some (str p.data) ∧ w'.cell? ⟨b, off + k * 5 + 4, none⟩ = some (.slice ma p.l.length mc) ∧ w'.cell? ⟨b2, off2 + k * 5, none⟩ = some (str q.key) ∧ w'.cell? ⟨b2, off2 + k * 5 + 1, none⟩ = some (.int .i64 q.seq) ∧ w'.cell? ⟨b2, off2 + k * 5 + 2, none⟩ = some (.bool q.mkr) ∧ w'.cell? ⟨b2, off2 + k * 5 + 3, none⟩ = some (str q.data) ∧ w'.cell? ⟨b2, off2 + k * 5 + 4, none⟩ = some (.slice ma2 q.l.length mc2)) (first
            | exact HS.out _ (Below.refl _ _).drew
            | exact HS.out _ (below_seq (And.left (by assumption)) b5)) (
            (go_at_call 27; with_reducible refine Calls.mono (hc _ (And.left (by assumption))) ?_; rintro e w5 ⟨rfl, b5⟩))
          have B5 : Below wr.heap.size wr w5 := And.left (by assumption)
          clear HS c0 c1 c2 c3 c4 e0 e1 e2 e3 e4
          go_wp2_with fail
          exact ⟨⟨k + 1, by omega, by go_num, HT.out, hb.trans (B5.mono hb.size)⟩, by first | (rw [hw1]; exact lss_meas hlt) | exact meas1 hlt⟩
        · have HF : Hid (SV = false) := ⟨HS2.out (take_neV hp hq hpq)⟩
          rw [sv_false hpq] at hc
          clear hab hp hq hA hB HS1 HS2 s1 s2 hzp hzq hpq
          go_wp2_with fail
          go_region_held3 (fun w' => Below wr.heap.size wr w' ∧ w'.cell? ⟨b, off + k * 5, none⟩ = some (str p.key) ∧ w'.cell? ⟨b, off + k * 5 + 1, none⟩ = some (.int .i64 p.seq) ∧ w'.cell? ⟨b, off + k * 5 + 2, none⟩ = some (.bool p.mkr) ∧ w'.cell? ⟨b, off + k * 5 + 3, none⟩ = some (str p.data) ∧ w'.cell? ⟨b, off + k * 5 + 4, none⟩ = some (.slice ma p.l.length mc) ∧ w'.cell? ⟨b2, off2 + k * 5, none⟩ = some (str q.key) ∧ w'.cell? ⟨b2, off2 + k * 5 + 1, none⟩ = some (.int .i64 q.seq) ∧ w'.cell? ⟨b2, off2 + k * 5 + 2, none⟩ = some (.bool q.mkr) ∧ w'.cell? ⟨b2, off2 + k * 5 + 3, none⟩ = some (str q.data) ∧ w'.cell? ⟨b2, off2 + k * 5 + 4, none⟩ = some (.slice ma2 q.l.length mc2)) (first
            | exact HS.out _ (Below.refl _ _).drew
            | exact HS.out _ (below_seq (And.left (by assumption)) b5)) (
            (go_at_call 27; with_reducible refine Calls.mono (hc _ (And.left (by assumption))) ?_; rintro e w5 ⟨rfl, b5⟩))
          have B5 : Below wr.heap.size wr w5 := And.left (by assumption)
          clear HS c0 c1 c2 c3 c4 e0 e1 e2 e3 e4
          go_wp2_with fail
          go_ret
          exact ⟨by rw [HF.out]; rfl, hb.trans (B5.mono hb.size)⟩
      · obtain rfl : k = A.length := by omega
        have d1 : decide ((A.length : Int) < (A.length : Int)) = false := decide_eq_false (by omega)
        have HF : Hid (SV = true) := ⟨HS1.out (by
          have e := hab
          rw [List.take_length] at e
          rw [HL.out, List.take_length] at e
          exact e)⟩
        clear hab hA hB HS1 HS2
        go_wp2_with fail
        go_ret
        exact ⟨by rw [HF.out]; rfl, hb⟩
  · have d5 : ((A.length : Int) == (B.length : Int)) = false := by rw [beq_eq_false_iff_ne]; omega
    have d6 : (A.length == B.length) = false := by rw [beq_eq_false_iff_ne]; exact h5
    have HF : Hid (svL A B = false) := ⟨svL_false (by rintro rfl; exact h5 rfl)⟩
    clear h5 hA hB
    generalize svL A B = SV at *
    go_enter Try.func26, Try.ntmps26
    go_wp2_with fail
    go_ret
    exact ⟨by rw [HF.out]; rfl, Below.refl _ _⟩
set_option maxHeartbeats 4000000 in
theorem alike_any (A B : List Vs) (w : World) (a : Option Addr) (n cap : Nat) (a' : Option Addr) (n' cap' : Nat) (hA : Li w A a n cap) (hB : Li w B a' n' cap') :
    Calls Try.prog 11 #[.slice a n cap, .slice a' n' cap'] w fun e w' => e = .returned (.bool (svL A B)) ∧ Below w.heap.size w w' := by
  obtain rfl := hA.n
  obtain rfl := hB.n
  have hlen := hA.l
  by_cases h5 : A.length = B.length
  · have d5 : ((A.length : Int) == (B.length : Int)) = true := by rw [beq_iff_eq]; omega
    have d6 : (A.length == B.length) = true := by rw [beq_iff_eq]; exact h5
    have HL := Hid.mk h5
    have hHS1 : A = B → svL A B = true := fun h => svL_true h
    have hHS2 : ¬ A = B → svL A B = false := fun h => svL_false h
    have HS1 := Hid.mk hHS1
    have HS2 := Hid.mk hHS2
    clear h5 hHS1 hHS2
    generalize svL A B = SV at *
    go_enter Try.func11, Try.ntmps11
    go_wp2_with fail
    have d7 : ((A.length : Int) != (B.length : Int)) = false := by rw [bne, d5]; rfl
    rw [d7]
    go_loopw [5] (fun i wr => ∃ k : Nat, k ≤ A.length ∧ i = .int .i64 (k : Int) ∧ A.take k = B.take k ∧ Below w.heap.size w wr) (fun i _ => A.length - (intOf i).toNat)
    case atStart => exact ⟨0, by omega, rfl, by simp, Below.refl _ _⟩
    case round =>
      obtain ⟨k, hk, rfl, hab, hb⟩ := hrel
      by_cases hlt : k < A.length
      · have d1 : decide ((k : Int) < (A.length : Int)) = true := decide_eq_true (by omega)
        have h2 : k < B.length := by rw [← HL.out]; exact hlt
        have k2 : (k : Int) < (B.length : Int) := by omega
        have k3 : (k : Int) < (A.length : Int) := by omega
        have hw1 : wrap64 ((k : Int) + 1) = ((k + 1 : Nat) : Int) := by unfold wrap64; omega
        obtain ⟨p, hp⟩ : ∃ p, A[k]? = some p := ⟨A[k], List.getElem?_eq_getElem hlt⟩
        obtain ⟨q, hq⟩ : ∃ q, B[k]? = some q := ⟨B[k], List.getElem?_eq_getElem h2⟩
        obtain ⟨b, off, ma, mc, rfl, hbl, c0, c1, c2, c3, c4, s1⟩ := ((hA.later hb).s.at').get k p hp
        obtain ⟨b2, off2, ma2, mc2, rfl, hbl2, e0, e1, e2, e3, e4, s2⟩ := ((hB.later hb).s.at').get k q hq
        have hzp := hA.z p (List.mem_of_getElem? hp)
        have hzq := hB.z q (List.mem_of_getElem? hq)
        have HS : Hid (∀ w', Below wr.heap.size wr w' → Below wr.heap.size wr w' ∧ w'.cell? ⟨b, off + k * 5, none⟩ = some (str p.key) ∧ w'.cell? ⟨b, off + k * 5 + 1, none⟩ = some (.int .i64 p.seq) ∧ w'.cell? ⟨b, off + k * 5 + 2, none⟩ = some (.bool p.mkr) ∧ w'.cell? ⟨b, off + k * 5 + 3, none⟩ = some (str p.data) ∧ w'.cell? ⟨b, off + k * 5 + 4, none⟩ = some (.slice ma p.l.length mc) ∧ w'.cell? ⟨b2, off2 + k * 5, none⟩ = some (str q.key) ∧ w'.cell? ⟨b2, off2 + k * 5 + 1, none⟩ = some (.int .i64 q.seq) ∧ w'.cell? ⟨b2, off2 + k * 5 + 2, none⟩ = some (.bool q.mkr) ∧ w'.cell? ⟨b2, off2 + k * 5 + 3, none⟩ = some (str q.data) ∧ w'.cell? ⟨b2, off2 + k * 5 + 4, none⟩ = some (.slice ma2 q.l.length mc2)) := ⟨fun w' hB => ⟨hB, (hB.cell (p := ⟨b, _, none⟩) hbl).trans c0, (hB.cell (p := ⟨b, _, none⟩) hbl).trans c1, (hB.cell (p := ⟨b, _, none⟩) hbl).trans c2, (hB.cell (p := ⟨b, _, none⟩) hbl).trans c3, (hB.cell (p := ⟨b, _, none⟩) hbl).trans c4, (hB.cell (p := ⟨b2, _, none⟩) hbl2).trans e0, (hB.cell (p := ⟨b2, _, none⟩) hbl2).trans e1, (hB.cell (p := ⟨b2, _, none⟩) hbl2).trans e2, (hB.cell (p := ⟨b2, _, none⟩) hbl2).trans e3, (hB.cell (p := ⟨b2, _, none⟩) hbl2).trans e4⟩⟩
        have hc : ∀ w', Below wr.heap.size wr w' → Calls Try.prog 17 #[vv p.key p.seq p.mkr p.data ma p.l.length mc, vv q.key q.seq q.mkr q.data ma2 q.l.length mc2] w' fun e w'' => e = .returned (.bool (sv p q)) ∧ Below w'.heap.size w' w'' := fun w' hB => like_any p q w' ma p.l.length mc rfl (s1.later hB).at' (by omega) ma2 q.l.length mc2 rfl (s2.later hB).at' (by omega)
        by_cases hpq : p = q
        · have HT : Hid (A.take (k + 1) = B.take (k + 1)) := ⟨take_nextV hp (by rw [hpq]; exact hq) hab⟩
          rw [sv_true hpq] at hc
          clear hab hp hq hA hB HS1 HS2 s1 s2 hzp hzq hpq
          go_wp2_with fail
          go_region_held3 (fun w' => Below wr.heap.size wr w' ∧ w'.cell? ⟨b, off + k * 5, none⟩ = some (str p.key) ∧ w'.cell? ⟨b, off + k * 5 + 1, none⟩ = some (.int .i64 p.seq) ∧ w'.cell? ⟨b, off + k * 5 + 2, none⟩ = some (.bool p.mkr) ∧ w'.cell? ⟨b, off + k * 5 + 3, none⟩ = some (str p.data) ∧ w'.cell? ⟨b, off + k * 5 + 4, none⟩ = some (.slice ma p.l.length mc) ∧ w'.cell? ⟨b2, off2 + k * 5, none⟩ = some (str q.key) ∧ w'.cell? ⟨b2, off2 + k * 5 + 1, none⟩ = some (.int .i64 q.seq) ∧ w'.cell? ⟨b2, off2 + k * 5 + 2, none⟩ = some (.bool q.mkr) ∧ w'.cell? ⟨b2, off2 + k * 5 + 3, none⟩ = some (str q.data) ∧ w'.cell? ⟨b2, off2 + k * 5 + 4, none⟩ = some (.slice ma2 q.l.length mc2)) (first
            | exact HS.out _ (Below.refl _ _).drew
            | exact HS.out _ (below_seq (And.left (by assumption)) b5)) (
            (go_at_call 17; with_reducible refine Calls.mono (hc _ (And.left (by assumption))) ?_; rintro e w5 ⟨rfl, b5⟩))
          have B5 : Below wr.heap.size wr w5 := And.left (by assumption)
          clear HS c0 c1 c2 c3 c4 e0 e1 e2 e3 e4
          go_wp2_with fail
          exact ⟨⟨k + 1, by omega, by go_num, HT.out, hb.trans (B5.mono hb.size)⟩, by first | (rw [hw1]; exact lss_meas hlt) | exact meas1 hlt⟩
        · have HF : Hid (SV = false) := ⟨HS2.out (take_neV hp hq hpq)⟩
          rw [sv_false hpq] at hc
          clear hab hp hq hA hB HS1 HS2 s1 s2 hzp hzq hpq
          go_wp2_with fail
          go_region_held3 (fun w' => Below wr.heap.size wr w' ∧ w'.cell? ⟨b, off + k * 5, none⟩ = some (str p.key) ∧ w'.cell? ⟨b, off + k * 5 + 1, none⟩ = some (.int .i64 p.seq) ∧ w'.cell? ⟨b, off + k * 5 + 2, none⟩ = some (.bool p.mkr) ∧ w'.cell? ⟨b, off + k * 5 + 3, none⟩ = some (str p.data) ∧ w'.cell? ⟨b, off + k * 5 + 4, none⟩ = some (.slice ma p.l.length mc) ∧ w'.cell? ⟨b2, off2 + k * 5, none⟩ = some (str q.key) ∧ w'.cell? ⟨b2, off2 + k * 5 + 1, none⟩ = some (.int .i64 q.seq) ∧ w'.cell? ⟨b2, off2 + k * 5 + 2, none⟩ = some (.bool q.mkr) ∧ w'.cell? ⟨b2, off2 + k * 5 + 3, none⟩ = some (str q.data) ∧ w'.cell? ⟨b2, off2 + k * 5 + 4, none⟩ = some (.slice ma2 q.l.length mc2)) (first
            | exact HS.out _ (Below.refl _ _).drew
            | exact HS.out _ (below_seq (And.left (by assumption)) b5)) (
            (go_at_call 17; with_reducible refine Calls.mono (hc _ (And.left (by assumption))) ?_; rintro e w5 ⟨rfl, b5⟩))
          have B5 : Below wr.heap.size wr w5 := And.left (by assumption)
          clear HS c0 c1 c2 c3 c4 e0 e1 e2 e3 e4
          go_wp2_with fail
          go_ret
          exact ⟨by rw [HF.out]; rfl, hb.trans (B5.mono hb.size)⟩
      · obtain rfl : k = A.length := by omega
        have d1 : decide ((A.length : Int) < (A.length : Int)) = false := decide_eq_false (by omega)
        have HF : Hid (SV = true) := ⟨HS1.out (by
          have e := hab
          rw [List.take_length] at e
          rw [HL.out, List.take_length] at e
          exact e)⟩
        clear hab hA hB HS1 HS2
        go_wp2_with fail
        go_ret
        exact ⟨by rw [HF.out]; rfl, hb⟩
  · have d5 : ((A.length : Int) == (B.length : Int)) = false := by rw [beq_eq_false_iff_ne]; omega
    have d6 : (A.length == B.length) = false := by rw [beq_eq_false_iff_ne]; exact h5
    have HF : Hid (svL A B = false) := ⟨svL_false (by rintro rfl; exact h5 rfl)⟩
    clear h5 hA hB
    generalize svL A B = SV at *
    go_enter Try.func11, Try.ntmps11
    go_wp2_with fail
    go_ret
    exact ⟨by rw [HF.out]; rfl, Below.refl _ _⟩
end Go.Proofs.Ytaonjmmdgfbceaa
