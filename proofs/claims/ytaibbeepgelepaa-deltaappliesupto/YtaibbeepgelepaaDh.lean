/- The document's Right and Same, and number. -/
import Derived.Test.YtaibbeepgelepaaDs
import Derived.Test.YtaibbeepgelepaaDps
import Derived.Test.YtaibbeepgelepaaQrt
namespace Go.Proofs.Ytaibbeepgelepaa
set_option linter.unusedVariables false
set_option linter.unusedSimpArgs false
open Go.RowKit
attribute [local go_sem ↓] Go.wp_at_zero Go.wp_at_succ
set_option maxRecDepth 100000 in
set_option maxHeartbeats 4000000 in
theorem eSame_eq (since next : Int) (L : List Vs) (w : World) (a : Option Addr) (c : Nat) (a' : Option Addr) (c' : Nat) (h1 : Li w L a L.length c) (h2 : Li w L a' L.length c') (hl : L.length ≤ 1000000) :
    Calls Try.prog 13 #[dv since next a L.length c, dv since next a' L.length c'] w fun e w' => e = .returned (.bool true) ∧ Below w.heap.size w w' := by
  have b1 := (Below.refl w.heap.size w).alloc (Nat.le_refl _) (.cells #[.int .i64 since, .int .i64 next, .slice a L.length c] 27)
  have b2 := b1.alloc b1.size (.cells #[.int .i64 since, .int .i64 next, .slice a' L.length c'] 27)
  have hc := qSame_eq next L _ a c a' c' (h1.later b2) (h2.later b2) hl
  clear h1 h2 b1
  go_enter Try.func13, Try.ntmps13
  go_wp2_with fail
  with_reducible refine Calls.mono hc ?_
  rintro e w3 ⟨rfl, b3⟩
  dsimp only
  have B3 := Hid.mk (b2.trans (b3.mono b2.size))
  clear hc b3 b2
  go_wp2_with fail
  go_ret
  exact ⟨rfl, B3.out⟩
/-- a number from 1 to most -/
def nuof (n most : Int) : Int := wrap64 (1 + wrap64 ((IntKind.u64.wrap n).tmod most))
theorem nuof_rg (n most : Int) (h1 : 1 ≤ most) (h2 : most ≤ 1099511627777) : 1 ≤ nuof n most ∧ nuof n most ≤ most := by
  have hu := IntKind.wrap_u64 n
  have e0 : (IntKind.u64.wrap n).tmod most = (IntKind.u64.wrap n) % most := Int.tmod_eq_emod_of_nonneg (by rw [hu]; exact Int.emod_nonneg _ (by decide))
  have m0 : 0 ≤ (IntKind.u64.wrap n) % most := Int.emod_nonneg _ (by omega)
  have m1 : (IntKind.u64.wrap n) % most < most := Int.emod_lt_of_pos _ (by omega)
  unfold nuof
  rw [e0]
  generalize (IntKind.u64.wrap n) % most = X at *
  clear e0 hu
  have e1 : wrap64 X = X := by unfold wrap64; omega
  have e2 : wrap64 (1 + X) = 1 + X := by unfold wrap64; omega
  rw [e1, e2]
  omega
theorem number_any (n most : Int) (w : World) (h1 : 1 ≤ most) (h2 : most ≤ 1099511627777) : Calls Try.prog 14 #[.int .i64 n, .int .i64 most] w fun e w' => e = .returned (.int .i64 (nuof n most)) ∧ w' = w := by
  have hw : IntKind.u64.wrap most = most := by rw [IntKind.wrap_u64]; omega
  have hne : ¬ most = 0 := by omega
  go_enter Try.func14, Try.ntmps14
  go_wp2_with fail
  go_ret
  exact ⟨rfl, rfl⟩
set_option maxRecDepth 100000 in
set_option maxHeartbeats 4000000 in
theorem eRight_any (L : List Vs) (since next : Int) (w : World) (a : Option Addr) (n cap : Nat) (hL : Li w L a n cap) (hz : ∀ v ∈ L, Pz v.l) :
    Calls Try.prog 19 #[dv since next a n cap] w fun e w' => (∃ t : Bool, e = .returned (.bool t) ∧ (t = true ↔ RtD since next L)) ∧ Below w.heap.size w w' := by
  obtain rfl := hL.n
  have b0 := (Below.refl w.heap.size w).alloc (Nat.le_refl _) (.cells #[.int .i64 since, .int .i64 next, .slice a L.length cap] 27)
  have z0 := Bd.new w (.int .i64 since) (.int .i64 next) (.slice a L.length cap)
  have HL := Hid.mk (hL.later b0)
  have hl := hL.l
  clear hL
  obtain ⟨p0, p1, p2, _⟩ := z0.cells
  have hr := qRight_any L next _ a _ cap HL.out hz
  go_enter Try.func19, Try.ntmps19
  go_wp2_with fail
  have HZ := Hid.mk z0
  have HB := Hid.mk b0
  clear p0 p1 p2 z0 b0 hz
  generalize w.alloc (.cells #[.int .i64 since, .int .i64 next, .slice a L.length cap] 27) = W1 at *
  with_reducible refine Calls.mono hr ?_
  rintro e w1 ⟨⟨t, rfl, ht⟩, c1⟩
  dsimp only
  have bw1 := Hid.mk (HB.out.trans (c1.mono HB.out.size))
  have HZ1 := Hid.mk (HZ.out.later c1)
  have HL1 := Hid.mk (HL.out.later c1)
  obtain ⟨p0, p1, p2, _⟩ := HZ1.out.cells
  clear hr HZ HL HB c1
  cases t with
  | false =>
    have HN : Hid (¬ RtD since next L) := ⟨fun h => by have := ht.2 h.b; cases this⟩
    clear ht
    go_wp2_with fail
    go_ret
    exact ⟨⟨false, rfl, by simp [HN.out]⟩, bw1.out⟩
  | true =>
    have HR : Hid (RtB next L) := ⟨ht.1 rfl⟩
    clear ht
    by_cases h1 : since < 1
    · have d1 : decide (since < 1) = true := decide_eq_true h1
      have HN : Hid (¬ RtD since next L) := ⟨fun h => by have := h.s1; omega⟩
      clear h1
      go_wp2_with fail
      go_ret
      exact ⟨⟨false, rfl, by simp [HN.out]⟩, bw1.out⟩
    · have d1 : decide (since < 1) = false := decide_eq_false h1
      have H1 := Hid.mk (Int.not_lt.1 h1)
      clear h1
      by_cases h2 : next < since
      · have d2 : decide (next < since) = true := decide_eq_true h2
        have HN : Hid (¬ RtD since next L) := ⟨fun h => by have := h.s2; omega⟩
        clear h2
        go_wp2_with fail
        go_ret
        exact ⟨⟨false, rfl, by simp [HN.out]⟩, bw1.out⟩
      · have d2 : decide (next < since) = false := decide_eq_false h2
        have H2 := Hid.mk (Int.not_lt.1 h2)
        clear h2
        go_wp2_with fail
        clear d1 d2 p0 p1 p2
        go_loopw [3] (fun i wr => ∃ k : Nat, k ≤ L.length ∧ i = .int .i64 (k : Int) ∧ Hid (∀ j v, j < k → L[j]? = some v → since ≤ v.seq) ∧ Hid (Below w1.heap.size w1 wr)) (fun i _ => L.length - (intOf i).toNat)
        case atStart => exact ⟨0, Nat.zero_le _, rfl, ⟨fun j v hj => absurd hj (Nat.not_lt_zero _)⟩, ⟨Below.refl _ _⟩⟩
        case round =>
          obtain ⟨k, hk, rfl, hA, HW⟩ := hrel
          obtain ⟨p0, p1, p2, _⟩ := (HZ1.out.later HW.out).cells
          by_cases hlt : k < L.length
          · have d1 : decide ((k : Int) < (L.length : Int)) = true := decide_eq_true (Int.ofNat_lt.2 hlt)
            have k2 : (k : Int) < (L.length : Int) := Int.ofNat_lt.2 hlt
            have hw1 : wrap64 ((k : Int) + 1) = ((k + 1 : Nat) : Int) := by unfold wrap64; omega
            obtain ⟨u, hu⟩ : ∃ u, L[k]? = some u := ⟨L[k], List.getElem?_eq_getElem hlt⟩
            obtain ⟨b, off, ma, mc, rfl, hbl, c0, c1, c2, c3, c4, hsl⟩ := (HL1.out.later HW.out).s.at'.get k u hu
            by_cases hq : u.seq < since
            · have d3 : decide (u.seq < since) = true := decide_eq_true hq
              have HN : Hid (¬ RtD since next L) := ⟨fun h => by have := h.s u (List.mem_of_getElem? hu); omega⟩
              clear hu hq hA hsl
              go_wp2_with fail
              go_quiet (fail)
              go_wp2_with fail
              go_ret
              exact ⟨⟨false, rfl, by simp [HN.out]⟩, bw1.out.trans ((below_dN HW.out nq).mono bw1.out.size)⟩
            · have d3 : decide (u.seq < since) = false := decide_eq_false hq
              have HA : Hid (∀ j v, j < k + 1 → L[j]? = some v → since ≤ v.seq) := ⟨fun j v hj hv => by
                by_cases e : j = k
                · subst e
                  rw [hu] at hv
                  injection hv with hv
                  subst hv
                  exact Int.not_lt.1 hq
                · exact hA.out j v (by omega) hv⟩
              clear hu hq hA hsl
              go_wp2_with fail
              go_quiet (fail)
              go_wp2_with fail
              exact ⟨⟨k + 1, hlt, by first | (rw [hw1]; done) | go_num, HA, ⟨below_dN HW.out nq⟩⟩, by first | (rw [hw1]; exact lss_meas hlt) | (simp [intOf]; omega)⟩
          · obtain rfl : k = L.length := Nat.le_antisymm hk (Nat.le_of_not_lt hlt)
            have d1 : decide ((L.length : Int) < (L.length : Int)) = false := decide_eq_false (fun q => Int.lt_irrefl _ q)
            have HN : Hid (RtD since next L) := ⟨⟨HR.out, H1.out, H2.out, fun v hv => by
              obtain ⟨j, hj, e⟩ := List.getElem_of_mem hv
              exact hA.out j v hj (by rw [List.getElem?_eq_getElem hj, e])⟩⟩
            clear hA
            go_wp2_with fail
            go_ret
            exact ⟨⟨true, rfl, by simp [HN.out]⟩, bw1.out.trans (HW.out.mono bw1.out.size)⟩
end Go.Proofs.Ytaibbeepgelepaa
