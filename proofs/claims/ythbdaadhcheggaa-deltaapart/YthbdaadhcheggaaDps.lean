/- The document's Same, of two that are the same. -/
import Derived.Test.YthbdaadhcheggaaNsv
import Derived.Test.YthbdaadhcheggaaGb
import Derived.Deep.QuietTactic
namespace Go.Proofs.Ythbdaadhcheggaa
set_option linter.unusedVariables false
set_option linter.unusedSimpArgs false
open Go.RowKit
attribute [local go_sem ↓] Go.wp_at_zero Go.wp_at_succ
set_option maxRecDepth 100000 in
set_option maxHeartbeats 4000000 in
theorem qSame_eq (next : Int) (L : List Vs) (w : World) (a : Option Addr) (c : Nat) (a' : Option Addr) (c' : Nat) (h1 : Li w L a L.length c) (h2 : Li w L a' L.length c') (hl : L.length ≤ 1000000) :
    Calls Try.prog 11 #[bv next a L.length c, bv next a' L.length c'] w fun e w' => e = .returned (.bool true) ∧ Below w.heap.size w w' := by
  have b1 := (Below.refl w.heap.size w).alloc (Nat.le_refl _) (.cells #[.int .i64 next, .slice a L.length c] 24)
  have b2 := b1.alloc b1.size (.cells #[.int .i64 next, .slice a' L.length c'] 24)
  have z1 := (Bq.new w (.int .i64 next) (.slice a L.length c)).later ((Below.refl (w.alloc (.cells #[.int .i64 next, .slice a L.length c] 24)).heap.size _).alloc (Nat.le_refl _) (.cells #[.int .i64 next, .slice a' L.length c'] 24))
  have z2 := Bq.new (w.alloc (.cells #[.int .i64 next, .slice a L.length c] 24)) (.int .i64 next) (.slice a' L.length c')
  rw [World.size_alloc] at z2
  have H1 := Hid.mk (h1.later b2)
  have H2 := Hid.mk (h2.later b2)
  clear h1 h2 b1
  go_enter Try.func11, Try.ntmps11
  go_wp2_with fail
  have Z1 := Hid.mk z1
  have Z2 := Hid.mk z2
  clear z1 z2
  generalize (w.alloc (.cells #[.int .i64 next, .slice a L.length c] 24)).alloc (.cells #[.int .i64 next, .slice a' L.length c'] 24) = W2 at *
  go_loopw [5] (fun i wr => ∃ k : Nat, k ≤ L.length ∧ i = .int .i64 (k : Int) ∧ Hid (Below W2.heap.size W2 wr)) (fun i _ => L.length - (intOf i).toNat)
  case atStart => exact ⟨0, Nat.zero_le _, rfl, ⟨Below.refl _ _⟩⟩
  case round =>
    obtain ⟨k, hk, rfl, HB⟩ := hrel
    obtain ⟨p0, p1, _⟩ := (Z1.out.later HB.out).cells
    obtain ⟨q0, q1, _⟩ := (Z2.out.later HB.out).cells
    by_cases hlt : k < L.length
    · have d1 : decide ((k : Int) < (L.length : Int)) = true := decide_eq_true (Int.ofNat_lt.2 hlt)
      have k2 : (k : Int) < (L.length : Int) := Int.ofNat_lt.2 hlt
      have hw1 : wrap64 ((k : Int) + 1) = ((k + 1 : Nat) : Int) := by unfold wrap64; omega
      obtain ⟨u, hu⟩ : ∃ u, L[k]? = some u := ⟨L[k], List.getElem?_eq_getElem hlt⟩
      have hul := H1.out.z u (List.mem_of_getElem? hu)
      obtain ⟨b, off, ma, mc, rfl, hbl, c0, c1, c2, c3, c4, hsl⟩ := (H1.out.later HB.out).s.at'.get k u hu
      obtain ⟨b', off', ma', mc', rfl, hbl', e0, e1, e2, e3, e4, hsl'⟩ := (H2.out.later HB.out).s.at'.get k u hu
      have hsv : ∀ w', Below wr.heap.size wr w' → Calls Try.prog 25 #[vv u.key u.seq u.mkr u.data ma u.l.length mc, vv u.key u.seq u.mkr u.data ma' u.l.length mc'] w' fun e w'' => e = .returned (.bool true) ∧ Below w'.heap.size w' w'' := fun w' h => by
        have := qSameVersion_any u u w' ma _ mc rfl (hsl.later h).at' (by omega) ma' _ mc' rfl (hsl'.later h).at' (by omega)
        rw [sv_true rfl] at this
        exact this
      have HS1 : Hid (∀ w', Below wr.heap.size wr w' → Below wr.heap.size wr w' ∧ w'.cell? ⟨w.heap.size, 1, none⟩ = some (.slice (some ⟨b, off, none⟩) L.length c) ∧ w'.cell? ⟨w.heap.size + 1, 1, none⟩ = some (.slice (some ⟨b', off', none⟩) L.length c') ∧ w'.cell? ⟨b, off + k * 5, none⟩ = some (str u.key) ∧ w'.cell? ⟨b, off + k * 5 + 1, none⟩ = some (.int .i64 u.seq) ∧ w'.cell? ⟨b, off + k * 5 + 2, none⟩ = some (.bool u.mkr) ∧ w'.cell? ⟨b, off + k * 5 + 3, none⟩ = some (str u.data) ∧ w'.cell? ⟨b, off + k * 5 + 4, none⟩ = some (.slice ma u.l.length mc) ∧ w'.cell? ⟨b', off' + k * 5, none⟩ = some (str u.key) ∧ w'.cell? ⟨b', off' + k * 5 + 1, none⟩ = some (.int .i64 u.seq) ∧ w'.cell? ⟨b', off' + k * 5 + 2, none⟩ = some (.bool u.mkr) ∧ w'.cell? ⟨b', off' + k * 5 + 3, none⟩ = some (str u.data) ∧ w'.cell? ⟨b', off' + k * 5 + 4, none⟩ = some (.slice ma' u.l.length mc')) := ⟨fun w' h => by
        obtain ⟨_, t1, _⟩ := ((Z1.out.later HB.out).later h).cells
        obtain ⟨_, t2, _⟩ := ((Z2.out.later HB.out).later h).cells
        exact ⟨h, t1, t2, (h.cell (p := ⟨b, _, none⟩) hbl).trans c0, (h.cell (p := ⟨b, _, none⟩) hbl).trans c1, (h.cell (p := ⟨b, _, none⟩) hbl).trans c2, (h.cell (p := ⟨b, _, none⟩) hbl).trans c3, (h.cell (p := ⟨b, _, none⟩) hbl).trans c4, (h.cell (p := ⟨b', _, none⟩) hbl').trans e0, (h.cell (p := ⟨b', _, none⟩) hbl').trans e1, (h.cell (p := ⟨b', _, none⟩) hbl').trans e2, (h.cell (p := ⟨b', _, none⟩) hbl').trans e3, (h.cell (p := ⟨b', _, none⟩) hbl').trans e4⟩⟩
      clear hu hsl hsl' hul c0 c1 c2 c3 c4 e0 e1 e2 e3 e4 q1
      go_wp2_with fail
      go_region_held3 (fun w' => Below wr.heap.size wr w' ∧ w'.cell? ⟨w.heap.size, 1, none⟩ = some (.slice (some ⟨b, off, none⟩) L.length c) ∧ w'.cell? ⟨w.heap.size + 1, 1, none⟩ = some (.slice (some ⟨b', off', none⟩) L.length c') ∧ w'.cell? ⟨b, off + k * 5, none⟩ = some (str u.key) ∧ w'.cell? ⟨b, off + k * 5 + 1, none⟩ = some (.int .i64 u.seq) ∧ w'.cell? ⟨b, off + k * 5 + 2, none⟩ = some (.bool u.mkr) ∧ w'.cell? ⟨b, off + k * 5 + 3, none⟩ = some (str u.data) ∧ w'.cell? ⟨b, off + k * 5 + 4, none⟩ = some (.slice ma u.l.length mc) ∧ w'.cell? ⟨b', off' + k * 5, none⟩ = some (str u.key) ∧ w'.cell? ⟨b', off' + k * 5 + 1, none⟩ = some (.int .i64 u.seq) ∧ w'.cell? ⟨b', off' + k * 5 + 2, none⟩ = some (.bool u.mkr) ∧ w'.cell? ⟨b', off' + k * 5 + 3, none⟩ = some (str u.data) ∧ w'.cell? ⟨b', off' + k * 5 + 4, none⟩ = some (.slice ma' u.l.length mc')) ((refine HS1.out _ ?_; first
        | with_reducible exact (Below.refl _ _).drew
        | with_reducible exact (below_seq (And.left (by assumption)) x1))) (
        (go_at_call 25; with_reducible refine Calls.mono (hsv _ (And.left (by assumption))) ?_; rintro e w5 ⟨rfl, x1⟩))
      have hb5 : Below wr.heap.size wr w5 := And.left (by assumption)
      have HB5 := Hid.mk (HB.out.trans (hb5.mono HB.out.size))
      clear x1 HS1 hsv hb5 p0 p1 q0
      go_wp2_with fail
      exact ⟨⟨k + 1, hlt, by first | (rw [hw1]; done) | go_num, HB5⟩, by first | (rw [hw1]; exact Nat.sub_lt_sub_left hlt (Nat.lt_succ_self k)) | (simp [intOf]; omega)⟩
    · obtain rfl : k = L.length := by omega
      have d1 : decide ((L.length : Int) < (L.length : Int)) = false := decide_eq_false (by omega)
      have HW := Hid.mk (b2.trans (HB.out.mono b2.size))
      clear HB
      go_wp2_with fail
      go_ret
      exact ⟨rfl, HW.out⟩
end Go.Proofs.Ythbdaadhcheggaa
