/- inside. -/
import Derived.Test.YtaibbeepgelepaaDf
namespace Go.Proofs.Ytaibbeepgelepaa
set_option linter.unusedVariables false
set_option linter.unusedSimpArgs false
open Go.RowKit
attribute [local go_sem ↓] Go.wp_at_zero Go.wp_at_succ
/-- is it among the first so many? -/
noncomputable def thr (B : List Vs) (u : Vs) (k : Nat) : Bool := by classical exact decide (u ∈ B.take k)
theorem thr_zero (B : List Vs) (u : Vs) : thr B u 0 = false := by unfold thr; simp
theorem thr_next {B : List Vs} {u x : Vs} {k : Nat} (h : B[k]? = some x) : thr B u (k + 1) = (thr B u k || sv u x) := by
  unfold thr
  rw [takeV h]
  by_cases h1 : u ∈ B.take k
  · simp [h1]
  · by_cases h2 : u = x
    · subst h2; simp [h1, sv_true rfl]
    · simp [h1, h2, sv_false h2]
theorem thr_all {B : List Vs} {u : Vs} (h : u ∈ B) : thr B u B.length = true := by unfold thr; simp [h]
set_option maxRecDepth 100000 in
set_option maxHeartbeats 4000000 in
theorem inside_any (A B : List Vs) (n1 n2 : Int) (w : World) (a : Option Addr) (c : Nat) (a' : Option Addr) (c' : Nat) (hA : Li w A a A.length c) (hB : Li w B a' B.length c') (hAB : ∀ v ∈ A, v ∈ B) (hl1 : A.length ≤ 1000) (hl2 : B.length ≤ 1000) :
    Calls Try.prog 22 #[bv n1 a A.length c, bv n2 a' B.length c'] w fun e w' => e = .returned (.bool true) ∧ Below w.heap.size w w' := by
  have b1 := bl_alloc w (.cells #[.int .i64 n1, .slice a A.length c] 24)
  have b2 := bal b1 (.cells #[.int .i64 n2, .slice a' B.length c'] 24)
  have Z1 := Hid.mk ((Bq.new w (.int .i64 n1) (.slice a A.length c)).later (bl_alloc _ (.cells #[.int .i64 n2, .slice a' B.length c'] 24)))
  have z2 := Bq.new (w.alloc (.cells #[.int .i64 n1, .slice a A.length c] 24)) (.int .i64 n2) (.slice a' B.length c')
  rw [World.size_alloc] at z2
  have Z2 := Hid.mk z2
  have HA := Hid.mk (hA.later b2)
  have HB := Hid.mk (hB.later b2)
  have HAB := Hid.mk hAB
  have BB := Hid.mk b2
  clear hA hB hAB b1 b2 z2
  go_enter Try.func22, Try.ntmps22
  go_wp2_with fail
  generalize (w.alloc (.cells #[.int .i64 n1, .slice a A.length c] 24)).alloc (.cells #[.int .i64 n2, .slice a' B.length c'] 24) = W2 at *
  go_loopw [5] (fun i wr => ∃ k : Nat, k ≤ A.length ∧ i = .int .i64 (k : Int) ∧ Hid (Below W2.heap.size W2 wr)) (fun i _ => A.length - (intOf i).toNat)
  case atStart => exact ⟨0, Nat.zero_le _, rfl, ⟨Below.refl _ _⟩⟩
  case round =>
    obtain ⟨i, hi, rfl, HW⟩ := hrel
    obtain ⟨p0, p1, _⟩ := (Z1.out.later HW.out).cells
    by_cases hlt : i < A.length
    · have d1 : decide ((i : Int) < (A.length : Int)) = true := decide_eq_true (Int.ofNat_lt.2 hlt)
      have k2 : (i : Int) < (A.length : Int) := Int.ofNat_lt.2 hlt
      have hw1 : wrap64 ((i : Int) + 1) = ((i + 1 : Nat) : Int) := by unfold wrap64; omega
      obtain ⟨u, hu⟩ : ∃ u, A[i]? = some u := ⟨A[i], List.getElem?_eq_getElem hlt⟩
      have HU := Hid.mk hu
      clear hu
      go_wp2_with fail
      clear p0 p1
      go_loopw [6, 7] (fun t j wr2 => ∃ k : Nat, k ≤ B.length ∧ j = .int .i64 (k : Int) ∧ t = .bool (thr B u k) ∧ Hid (Below W2.heap.size W2 wr2)) (fun _ j _ => B.length - (intOf j).toNat)
      case atStart => exact ⟨0, Nat.zero_le _, rfl, by rw [thr_zero], HW⟩
      case round =>
        obtain ⟨k, hk, rfl, rfl, HW2⟩ := hrel
        obtain ⟨p0, p1, _⟩ := (Z1.out.later HW2.out).cells
        obtain ⟨q0, q1, _⟩ := (Z2.out.later HW2.out).cells
        by_cases hlt2 : k < B.length
        · have d2 : decide ((k : Int) < (B.length : Int)) = true := decide_eq_true (Int.ofNat_lt.2 hlt2)
          have k3 : (k : Int) < (B.length : Int) := Int.ofNat_lt.2 hlt2
          have hw2 : wrap64 ((k : Int) + 1) = ((k + 1 : Nat) : Int) := by unfold wrap64; omega
          obtain ⟨x, hx⟩ : ∃ x, B[k]? = some x := ⟨B[k], List.getElem?_eq_getElem hlt2⟩
          obtain ⟨b, off, ma, mc, rfl, hbl, c0, c1, c2, c3, c4, hsl⟩ := (HA.out.later HW2.out).s.at'.get i u HU.out
          obtain ⟨b', off', ma', mc', rfl, hbl', e0, e1, e2, e3, e4, hsl'⟩ := (HB.out.later HW2.out).s.at'.get k x hx
          have hul := HA.out.z u (List.mem_of_getElem? HU.out)
          have hxl := HB.out.z x (List.mem_of_getElem? hx)
          have HT := Hid.mk (thr_next (u := u) hx)
          generalize thr B u k = t at *
          cases t with
          | true =>
            have HT' : Hid (true = thr B u (k + 1)) := ⟨by rw [HT.out]; rfl⟩
            clear HT hx hsl hsl'
            go_wp2_with fail
            go_quiet (fail)
            go_wp2_with fail
            exact ⟨⟨k + 1, hlt2, by first | (rw [hw2]; done) | go_num, by rw [← HT'.out], ⟨below_dN HW2.out nq⟩⟩, by first | (rw [hw2]; exact lss_meas hlt2) | (simp [intOf]; omega)⟩
          | false =>
            have HT' : Hid (sv u x = thr B u (k + 1)) := ⟨by rw [HT.out]; rfl⟩
            have hsv : ∀ w', Below wr.heap.size wr w' → Calls Try.prog 38 #[vv u.key u.seq u.mkr u.data ma u.l.length mc, vv x.key x.seq x.mkr x.data ma' x.l.length mc'] w' fun e w'' => e = .returned (.bool (sv u x)) ∧ Below w'.heap.size w' w'' := fun w' h => qSameVersion_any u x w' ma _ mc rfl (hsl.later h).at' (by omega) ma' _ mc' rfl (hsl'.later h).at' (by omega)
            have HS1 : Hid (∀ w', Below wr.heap.size wr w' → Below wr.heap.size wr w' ∧ w'.cell? ⟨w.heap.size, 1, none⟩ = some (.slice (some ⟨b, off, none⟩) A.length c) ∧ w'.cell? ⟨w.heap.size + 1, 1, none⟩ = some (.slice (some ⟨b', off', none⟩) B.length c') ∧ w'.cell? ⟨b, off + i * 5, none⟩ = some (str u.key) ∧ w'.cell? ⟨b, off + i * 5 + 1, none⟩ = some (.int .i64 u.seq) ∧ w'.cell? ⟨b, off + i * 5 + 2, none⟩ = some (.bool u.mkr) ∧ w'.cell? ⟨b, off + i * 5 + 3, none⟩ = some (str u.data) ∧ w'.cell? ⟨b, off + i * 5 + 4, none⟩ = some (.slice ma u.l.length mc) ∧ w'.cell? ⟨b', off' + k * 5, none⟩ = some (str x.key) ∧ w'.cell? ⟨b', off' + k * 5 + 1, none⟩ = some (.int .i64 x.seq) ∧ w'.cell? ⟨b', off' + k * 5 + 2, none⟩ = some (.bool x.mkr) ∧ w'.cell? ⟨b', off' + k * 5 + 3, none⟩ = some (str x.data) ∧ w'.cell? ⟨b', off' + k * 5 + 4, none⟩ = some (.slice ma' x.l.length mc')) := ⟨fun w' h => by
              obtain ⟨_, t1, _⟩ := ((Z1.out.later HW2.out).later h).cells
              obtain ⟨_, t2, _⟩ := ((Z2.out.later HW2.out).later h).cells
              exact ⟨h, t1, t2, (h.cell (p := ⟨b, _, none⟩) hbl).trans c0, (h.cell (p := ⟨b, _, none⟩) hbl).trans c1, (h.cell (p := ⟨b, _, none⟩) hbl).trans c2, (h.cell (p := ⟨b, _, none⟩) hbl).trans c3, (h.cell (p := ⟨b, _, none⟩) hbl).trans c4, (h.cell (p := ⟨b', _, none⟩) hbl').trans e0, (h.cell (p := ⟨b', _, none⟩) hbl').trans e1, (h.cell (p := ⟨b', _, none⟩) hbl').trans e2, (h.cell (p := ⟨b', _, none⟩) hbl').trans e3, (h.cell (p := ⟨b', _, none⟩) hbl').trans e4⟩⟩
            clear HT hx hsl hsl' c0 c1 c2 c3 c4 e0 e1 e2 e3 e4 hul hxl p0 p1
            generalize sv u x = T at *
            go_wp2_with fail
            go_region_held3 (fun w' => Below wr.heap.size wr w' ∧ w'.cell? ⟨w.heap.size, 1, none⟩ = some (.slice (some ⟨b, off, none⟩) A.length c) ∧ w'.cell? ⟨w.heap.size + 1, 1, none⟩ = some (.slice (some ⟨b', off', none⟩) B.length c') ∧ w'.cell? ⟨b, off + i * 5, none⟩ = some (str u.key) ∧ w'.cell? ⟨b, off + i * 5 + 1, none⟩ = some (.int .i64 u.seq) ∧ w'.cell? ⟨b, off + i * 5 + 2, none⟩ = some (.bool u.mkr) ∧ w'.cell? ⟨b, off + i * 5 + 3, none⟩ = some (str u.data) ∧ w'.cell? ⟨b, off + i * 5 + 4, none⟩ = some (.slice ma u.l.length mc) ∧ w'.cell? ⟨b', off' + k * 5, none⟩ = some (str x.key) ∧ w'.cell? ⟨b', off' + k * 5 + 1, none⟩ = some (.int .i64 x.seq) ∧ w'.cell? ⟨b', off' + k * 5 + 2, none⟩ = some (.bool x.mkr) ∧ w'.cell? ⟨b', off' + k * 5 + 3, none⟩ = some (str x.data) ∧ w'.cell? ⟨b', off' + k * 5 + 4, none⟩ = some (.slice ma' x.l.length mc')) ((refine HS1.out _ ?_; first
              | with_reducible exact (Below.refl _ _).drew
              | with_reducible exact (below_seq (And.left (by assumption)) x1))) (
              (go_at_call 38; with_reducible refine Calls.mono (hsv _ (And.left (by assumption))) ?_; rintro e w5 ⟨rfl, x1⟩))
            have hb5 : Below wr.heap.size wr w5 := And.left (by assumption)
            have HB5 := Hid.mk (HW2.out.trans (hb5.mono HW2.out.size))
            clear x1 HS1 hsv hb5 q0 q1
            go_wp2_with fail
            exact ⟨⟨k + 1, hlt2, by first | (rw [hw2]; done) | go_num, by rw [← HT'.out], HB5⟩, by first | (rw [hw2]; exact lss_meas hlt2) | (simp [intOf]; omega)⟩
        · obtain rfl : k = B.length := Nat.le_antisymm hk (Nat.le_of_not_lt hlt2)
          have d2 : decide ((B.length : Int) < (B.length : Int)) = false := decide_eq_false (fun q => Int.lt_irrefl _ q)
          rw [thr_all (HAB.out u (List.mem_of_getElem? HU.out))]
          go_wp2_with fail
          exact ⟨⟨i + 1, hlt, by first | (rw [hw1]; done) | go_num, HW2⟩, by first | (rw [hw1]; exact lss_meas hlt) | (simp [intOf]; omega)⟩
    · obtain rfl : i = A.length := Nat.le_antisymm hi (Nat.le_of_not_lt hlt)
      have d1 : decide ((A.length : Int) < (A.length : Int)) = false := decide_eq_false (fun q => Int.lt_irrefl _ q)
      have BW := Hid.mk (BB.out.trans (HW.out.mono BB.out.size))
      go_wp2_with fail
      go_ret
      exact ⟨rfl, BW.out⟩
end Go.Proofs.Ytaibbeepgelepaa
