/- place: where the version with a number stands. -/
import Derived.Test.YtgcdnanfnbdjjaaGreatGq
namespace Go.Proofs.YtgcdnanfnbdjjaaGreat
set_option linter.unusedVariables false
set_option linter.unusedSimpArgs false
open Go.RowKit
attribute [local go_sem ↓] Go.wp_at_zero Go.wp_at_succ
attribute [local go_sem ↓] slPe
theorem fn_any (u : Vs) (s : Int) (w : World) (a : Option Addr) (n c g : Nat) (hg : w.cell? ⟨g, 0, none⟩ = some (.int .i64 s)) (hgl : g < w.heap.size) :
    Calls Tryz.prog 92 #[vv u.key u.seq u.mkr u.data a n c, .pointer (some ⟨g, 0, none⟩)] w fun e w' => e = .returned (.bool (u.seq == s)) ∧ Below w.heap.size w w' := by
  have b1 := (Below.refl w.heap.size w).alloc (Nat.le_refl _) (.cells #[str u.key, .int .i64 u.seq, .bool u.mkr, str u.data, .slice a n c] 39)
  have h1 := (b1.cell (p := ⟨g, 0, none⟩) hgl).trans hg
  clear hg
  go_enter Tryz.func92, Tryz.ntmps92
  go_wp2_with fail
  go_ret
  exact ⟨rfl, b1⟩
theorem plc_step {L : List Vs} {s : Int} {k : Nat} {u : Vs} (hu : L[k]? = some u) (hne : ¬ u.seq = s) (h : ∀ j v, j < k → L[j]? = some v → ¬ v.seq = s) : ∀ j v, j < k + 1 → L[j]? = some v → ¬ v.seq = s := fun j v hj hv => by
  by_cases e : j = k
  · subst e
    rw [hu] at hv
    injection hv with hv
    subst hv
    exact hne
  · exact h j v (by omega) hv
theorem plc_all {L : List Vs} {s : Int} (h : ∀ j v, j < L.length → L[j]? = some v → ¬ v.seq = s) : plc L s = none := plc_no fun v hv => by
  obtain ⟨j, hj, e⟩ := List.getElem_of_mem hv
  exact h j v hj (by rw [List.getElem?_eq_getElem hj, e])
theorem lss_meas {n k : Nat} (h : k < n) : n - (k + 1) < n - k := Nat.sub_lt_sub_left h (Nat.lt_succ_self k)
set_option maxHeartbeats 2000000 in
theorem index_any (L : List Vs) (s : Int) (w : World) (a : Option Addr) (n cap g : Nat) (hn : L.length = n) (hS : LIn w a L) (hL : L.length ≤ 1954687338300) (hg : w.cell? ⟨g, 0, none⟩ = some (.int .i64 s)) (hgl : g < w.heap.size) :
    Calls Tryz.prog 90 #[.slice a n cap, .func (.func 92) #[] #[.pointer (some ⟨g, 0, none⟩)]] w fun e w' => e = .returned (.int .i64 (plcI L s)) ∧ Below w.heap.size w w' := by
  subst hn
  go_enter Tryz.func90, Tryz.ntmps90
  go_wp2_with fail
  go_loopw [8] (fun i wr => ∃ k : Nat, k ≤ L.length ∧ i = .int .i64 (k : Int) ∧ Hid (∀ j v, j < k → L[j]? = some v → ¬ v.seq = s) ∧ Below w.heap.size w wr) (fun i _ => L.length - (intOf i).toNat)
  case atStart => exact ⟨0, by omega, rfl, ⟨fun j v hj => by omega⟩, Below.refl _ _⟩
  case round =>
    obtain ⟨k, hk, rfl, hA, hb⟩ := hrel
    by_cases hlt : k < L.length
    · have d1 : decide ((k : Int) < (L.length : Int)) = true := decide_eq_true (by omega)
      have k2 : (k : Int) < (L.length : Int) := by omega
      obtain ⟨u, hu⟩ : ∃ u, L[k]? = some u := ⟨L[k], List.getElem?_eq_getElem hlt⟩
      obtain ⟨b, off, ma, mc, rfl, hbl, c0, c1, c2, c3, c4, hsl⟩ := (hS.later hb).get k u hu
      have hc := fn_any u s wr ma u.l.length mc g ((hb.cell (p := ⟨g, 0, none⟩) hgl).trans hg) (Nat.lt_of_lt_of_le hgl hb.size)
      have hw1 : wrap64 ((k : Int) + 1) = ((k + 1 : Nat) : Int) := by unfold wrap64; omega
      by_cases hq : u.seq = s
      · have HP : Hid (plcI L s = (k : Int)) := ⟨plcI_some (plc_at hu hq hA.out)⟩
        have dq : (u.seq == s) = true := by rw [beq_iff_eq]; exact hq
        rw [dq] at hc
        clear hu hS hL hq hg hA
        go_wp2_with (go_at_call 92; refine hc.mono ?_; rintro e w1 ⟨rfl, b1⟩)
        go_ret
        exact ⟨by rw [HP.out]; rfl, hb.trans (b1.mono hb.size)⟩
      · have HA : Hid (∀ j v, j < k + 1 → L[j]? = some v → ¬ v.seq = s) := ⟨plc_step hu hq hA.out⟩
        have dq : (u.seq == s) = false := by rw [beq_eq_false_iff_ne]; exact hq
        rw [dq] at hc
        clear hu hS hL hq hg hA
        go_wp2_with (go_at_call 92; refine hc.mono ?_; rintro e w1 ⟨rfl, b1⟩)
        exact ⟨⟨k + 1, by omega, by go_num, HA, hb.trans (b1.mono hb.size)⟩, by rw [hw1]; exact lss_meas hlt⟩
    · obtain rfl : k = L.length := by omega
      have d1 : decide ((L.length : Int) < (L.length : Int)) = false := decide_eq_false (by omega)
      have HP : Hid (plcI L s = -1) := ⟨plcI_none (plc_all hA.out)⟩
      go_wp2_with fail
      go_ret
      exact ⟨by rw [HP.out]; rfl, hb⟩
theorem place_any (L : List Vs) (s : Int) (w : World) (a : Option Addr) (n cap : Nat) (hn : L.length = n) (hS : LIn w a L) (hL : L.length ≤ 1954687338300) :
    Calls Tryz.prog 79 #[.slice a n cap, .int .i64 s] w fun e w' => e = .returned (.int .i64 (plcI L s)) ∧ Below w.heap.size w w' := by
  have b1 := (Below.refl w.heap.size w).alloc (Nat.le_refl _) (.cells #[.int .i64 s] 2)
  have h1 : (w.alloc (.cells #[.int .i64 s] 2)).cell? ⟨w.heap.size, 0, none⟩ = some (.int .i64 s) := by rw [cell_of_row _ _ _ _ _ _ (heap_alloc_new w _)]; rfl
  have hc := index_any L s (w.alloc (.cells #[.int .i64 s] 2)) a n cap w.heap.size hn (hS.later b1) hL h1 (by simp)
  generalize plcI L s = P at *
  clear hS h1
  go_enter Tryz.func79, Tryz.ntmps79
  go_wp2_with (go_at_call 90; refine hc.mono ?_; rintro e w1 ⟨rfl, b2⟩)
  go_ret
  exact ⟨rfl, b1.trans (b2.mono b1.size)⟩
end Go.Proofs.YtgcdnanfnbdjjaaGreat
