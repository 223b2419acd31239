/- Right. -/
import Derived.Test.YthbdaadhcheggaaDs
import Derived.Test.YthbdaadhcheggaaRgb
namespace Go.Proofs.Ythbdaadhcheggaa
set_option linter.unusedVariables false
set_option linter.unusedSimpArgs false
open Go.RowKit
attribute [local go_sem ↓] Go.wp_at_zero Go.wp_at_succ
theorem older_any (u : Vs) (since : Int) (w : World) (a : Option Addr) (n c g : Nat) (hg : w.cell? ⟨g, 0, none⟩ = some (.int .i64 since)) (hgl : g < w.heap.size) :
    Calls Try.prog 29 #[vv u.key u.seq u.mkr u.data a n c, .pointer (some ⟨g, 0, none⟩)] w fun e w' => e = .returned (.bool (decide (u.seq < since))) ∧ Below w.heap.size w w' := by
  have b1 := (Below.refl w.heap.size w).alloc (Nat.le_refl _) (.cells #[str u.key, .int .i64 u.seq, .bool u.mkr, str u.data, .slice a n c] 41)
  have h1 := (b1.cell (p := ⟨g, 0, none⟩) hgl).trans hg
  clear hg
  go_enter Try.func29, Try.ntmps29
  go_wp2_with fail
  go_ret
  exact ⟨rfl, b1⟩
set_option maxHeartbeats 2000000 in
theorem indexO_any (L : List Vs) (since : Int) (w : World) (a : Option Addr) (n cap g : Nat) (hn : L.length = n) (hS : LIn w a L) (hL : L.length ≤ 1954687338300) (hg : w.cell? ⟨g, 0, none⟩ = some (.int .i64 since)) (hgl : g < w.heap.size) :
    Calls Try.prog 45 #[.slice a n cap, .func (.func 29) #[] #[.pointer (some ⟨g, 0, none⟩)]] w fun e w' => (∃ i : Int, e = .returned (.int .i64 i) ∧ (0 ≤ i ↔ ∃ v ∈ L, v.seq < since)) ∧ Below w.heap.size w w' := by
  subst hn
  go_enter Try.func45, Try.ntmps45
  go_wp2_with fail
  go_loopw [8] (fun i wr => ∃ k : Nat, k ≤ L.length ∧ i = .int .i64 (k : Int) ∧ Hid (∀ j v, j < k → L[j]? = some v → since ≤ v.seq) ∧ Below w.heap.size w wr) (fun i _ => L.length - (intOf i).toNat)
  case atStart => exact ⟨0, by omega, rfl, ⟨fun j v hj => by omega⟩, Below.refl _ _⟩
  case round =>
    obtain ⟨k, hk, rfl, hA, hb⟩ := hrel
    by_cases hlt : k < L.length
    · have d1 : decide ((k : Int) < (L.length : Int)) = true := decide_eq_true (by omega)
      have k2 : (k : Int) < (L.length : Int) := by omega
      obtain ⟨u, hu⟩ : ∃ u, L[k]? = some u := ⟨L[k], List.getElem?_eq_getElem hlt⟩
      obtain ⟨b, off, ma, mc, rfl, hbl, c0, c1, c2, c3, c4, hsl⟩ := (hS.later hb).get k u hu
      have hc := older_any u since wr ma u.l.length mc g ((hb.cell (p := ⟨g, 0, none⟩) hgl).trans hg) (Nat.lt_of_lt_of_le hgl hb.size)
      have hw1 : wrap64 ((k : Int) + 1) = ((k + 1 : Nat) : Int) := by unfold wrap64; omega
      by_cases hq : u.seq < since
      · have HP : Hid (0 ≤ (k : Int) ↔ ∃ v ∈ L, v.seq < since) := ⟨⟨fun _ => ⟨u, List.mem_of_getElem? hu, hq⟩, fun _ => by omega⟩⟩
        rw [decide_eq_true hq] at hc
        clear hu hS hL hq hg hA
        go_wp2_with (go_at_call 29; refine hc.mono ?_; rintro e w1 ⟨rfl, b1⟩)
        go_ret
        exact ⟨⟨_, rfl, HP.out⟩, hb.trans (b1.mono hb.size)⟩
      · have HA : Hid (∀ j v, j < k + 1 → L[j]? = some v → since ≤ v.seq) := ⟨fun j v hj hv => by
          by_cases e : j = k
          · subst e
            rw [hu] at hv
            injection hv with hv
            subst hv
            exact Int.not_lt.1 hq
          · exact hA.out j v (by omega) hv⟩
        rw [decide_eq_false hq] at hc
        clear hu hS hL hq hg hA
        go_wp2_with (go_at_call 29; refine hc.mono ?_; rintro e w1 ⟨rfl, b1⟩)
        exact ⟨⟨k + 1, by omega, by go_num, HA, hb.trans (b1.mono hb.size)⟩, by rw [hw1]; exact lss_meas hlt⟩
    · obtain rfl : k = L.length := by omega
      have d1 : decide ((L.length : Int) < (L.length : Int)) = false := decide_eq_false (by omega)
      have HP : Hid (0 ≤ (-1 : Int) ↔ ∃ v ∈ L, v.seq < since) := ⟨⟨fun h => by omega, fun ⟨v, hv, h⟩ => by
        obtain ⟨j, hj, e⟩ := List.getElem_of_mem hv
        exact absurd h (Int.not_lt.2 (hA.out j v hj (by rw [List.getElem?_eq_getElem hj, e])))⟩⟩
      go_wp2_with fail
      go_ret
      exact ⟨⟨-1, rfl, HP.out⟩, hb⟩
set_option maxHeartbeats 2000000 in
theorem contains_any (L : List Vs) (since : Int) (w : World) (a : Option Addr) (n cap g : Nat) (hn : L.length = n) (hS : LIn w a L) (hL : L.length ≤ 1954687338300) (hg : w.cell? ⟨g, 0, none⟩ = some (.int .i64 since)) (hgl : g < w.heap.size) :
    Calls Try.prog 31 #[.slice a n cap, .func (.func 29) #[] #[.pointer (some ⟨g, 0, none⟩)]] w fun e w' => (∃ t : Bool, e = .returned (.bool t) ∧ (t = true ↔ ∃ v ∈ L, v.seq < since)) ∧ Below w.heap.size w w' := by
  have hc := indexO_any L since w a n cap g hn hS hL hg hgl
  clear hS hg
  go_enter Try.func31, Try.ntmps31
  go_wp2_with (go_at_call 45; refine hc.mono ?_; rintro e w1 ⟨⟨i, rfl, hi⟩, b1⟩; have HI := Hid.mk hi; clear hi)
  go_ret
  exact ⟨⟨_, rfl, by rw [← HI.out]; simp⟩, b1⟩
set_option maxRecDepth 100000 in
set_option maxHeartbeats 4000000 in
theorem dRight_any (L : List Vs) (since next : Int) (w : World) (a : Option Addr) (n cap : Nat) (hL : Li w L a n cap) :
    Calls Try.prog 19 #[dv since next a n cap] w fun e w' => (∃ t : Bool, e = .returned (.bool t) ∧ (t = true ↔ RtD since next L)) ∧ Below w.heap.size w w' := by
  obtain rfl := hL.n
  have b0 := (Below.refl w.heap.size w).alloc (Nat.le_refl _) (.cells #[.int .i64 since, .int .i64 next, .slice a L.length cap] 31)
  have z0 := Bd.new w (.int .i64 since) (.int .i64 next) (.slice a L.length cap)
  have HL := Hid.mk (hL.later b0)
  have hl := hL.l
  clear hL
  obtain ⟨p0, p1, p2, _⟩ := z0.cells
  have hr := bRight_any L next _ a _ cap HL.out
  go_enter Try.func19, Try.ntmps19
  go_wp2_with fail
  have HZ := Hid.mk z0
  have HB := Hid.mk b0
  clear p0 p1 p2 z0 b0
  generalize w.alloc (.cells #[.int .i64 since, .int .i64 next, .slice a L.length cap] 31) = W1 at *
  with_reducible refine Calls.mono hr ?_
  rintro e w1 ⟨⟨t, rfl, ht⟩, c1⟩
  dsimp only
  have bw1 := Hid.mk (HB.out.trans (c1.mono HB.out.size))
  obtain ⟨p0, p1, p2, _⟩ := (HZ.out.later c1).cells
  clear hr
  cases t with
  | false =>
    have HN : Hid (¬ RtD since next L) := ⟨fun h => by have := ht.2 h.b; cases this⟩
    clear ht
    go_wp2_with fail
    go_ret
    exact ⟨⟨false, rfl, by simp [HN.out]⟩, bw1.out⟩
  | true =>
    have HR : Hid (RtB next L) := ⟨ht.1 rfl⟩
    clear ht
    by_cases h1 : 1 ≤ since
    · have d1 : decide (1 ≤ since) = true := decide_eq_true h1
      have d1' : decide (since < 1) = false := decide_eq_false (Int.not_lt.2 h1)
      have H1 := Hid.mk h1
      clear h1
      by_cases h2 : since ≤ next
      · have d2 : decide (since ≤ next) = true := decide_eq_true h2
        have d2' : decide (next < since) = false := decide_eq_false (Int.not_lt.2 h2)
        have H2 := Hid.mk h2
        clear h2
        have hc := contains_any L since w1 a L.length cap w.heap.size rfl (HL.out.later c1).s.at' (by omega) p0 (HZ.out.later c1).lt
        go_wp2_with fail
        with_reducible refine Calls.mono hc ?_
        rintro e w2 ⟨⟨t, rfl, ht⟩, c2⟩
        dsimp only
        have bw2 := Hid.mk (bw1.out.trans (c2.mono bw1.out.size))
        have HT : Hid (t = false ↔ RtD since next L) := ⟨⟨fun h => ⟨HR.out, H1.out, H2.out, fun v hv => by
          rcases Int.lt_or_le v.seq since with q | q
          · have := ht.2 ⟨v, hv, q⟩
            rw [h] at this; cases this
          · exact q⟩, fun h => by
          cases t with
          | false => rfl
          | true =>
            obtain ⟨v, hv, q⟩ := ht.1 rfl
            have := h.s v hv
            omega⟩⟩
        clear ht hc c2
        go_wp2_with fail
        go_ret
        exact ⟨⟨_, rfl, by rw [← HT.out]; cases t <;> simp⟩, bw2.out⟩
      · have d2 : decide (since ≤ next) = false := decide_eq_false h2
        have d2' : decide (next < since) = true := decide_eq_true (Int.not_le.1 h2)
        have HN : Hid (¬ RtD since next L) := ⟨fun h => h2 h.s2⟩
        clear h2
        go_wp2_with fail
        go_ret
        exact ⟨⟨false, rfl, by simp [HN.out]⟩, bw1.out⟩
    · have d1 : decide (1 ≤ since) = false := decide_eq_false h1
      have d1' : decide (since < 1) = true := decide_eq_true (Int.not_le.1 h1)
      have HN : Hid (¬ RtD since next L) := ⟨fun h => h1 h.s1⟩
      clear h1
      go_wp2_with fail
      go_ret
      exact ⟨⟨false, rfl, by simp [HN.out]⟩, bw1.out⟩
end Go.Proofs.Ythbdaadhcheggaa
