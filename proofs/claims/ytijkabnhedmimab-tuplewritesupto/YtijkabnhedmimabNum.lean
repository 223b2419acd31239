/- A number's bytes, a part's text, put behind a row. -/
import Derived.Test.YtijkabnhedmimabGrp
namespace Go.Proofs.Ytijkabnhedmimab
set_option linter.unusedVariables false
set_option linter.unusedSimpArgs false
open Go.RowKit
attribute [local go_sem ↓] Go.wp_at_zero Go.wp_at_succ
attribute [local go_sem ↓] sl9 ix9
theorem bek_step (n k : Nat) (hk : k < 8) : bek (k + 1) (n / 256 ^ (8 - (k + 1))) = bek k (n / 256 ^ (8 - k)) ++ [UInt8.ofNat (n / 256 ^ (7 - k))] := by
  rw [bek, Nat.div_div_eq_div_mul, ← Nat.pow_succ, show 8 - (k + 1) = 7 - k by omega, show (7 - k).succ = 8 - k by omega]
theorem appendNumber_any {base : Nat} {w : World} {v : Value} {L : List UInt8} (n : Nat) (h64 : n < 18446744073709551616) (hO : Ob base w v L) (hn : L.length ≤ 199999999999990) :
    Calls Try.prog 28 #[v, .int .u64 (n : Int)] w fun e w' => ∃ v', e = .returned v' ∧ Ob base w' v' (L ++ bek 8 n) ∧ Below base w w' := by
  go_enter Try.func28, Try.ntmps28
  go_wp2_with fail
  go_loopw [0, 6] (fun b i wr => ∃ k : Nat, k ≤ 8 ∧ i = .int .i64 (k : Int) ∧ Ob base wr b (L ++ bek k (n / 256 ^ (8 - k))) ∧ Below base w wr) (fun _ i _ => 8 - (intOf i).toNat)
  case atStart => exact ⟨0, by omega, rfl, by simpa [bek] using hO, Below.refl _ _⟩
  case round =>
    obtain ⟨k, hk, rfl, hO', hb⟩ := hrel
    by_cases hlt : k < 8
    · have hd : decide ((k : Int) < 8) = true := decide_eq_true (by omega)
      have hl : (L ++ bek k (n / 256 ^ (8 - k))).length ≤ 200000000000000 := by rw [List.length_append, bek_length]; omega
      have hC : Hid ((n : Int) / 2 ^ (8 * (7 - k)) % 256 = ((UInt8.ofNat (n / 256 ^ (7 - k))).toNat : Int)) := by
        constructor
        rw [UInt8.toNat_ofNat', show (256 : Nat) ^ (7 - k) = 2 ^ (8 * (7 - k)) by rw [Nat.pow_mul], Int.natCast_emod, Int.natCast_ediv, Int.natCast_pow]
        rfl
      have HS : Hid (∀ v3 w3, Ob base w3 v3 (L ++ bek k (n / 256 ^ (8 - k)) ++ [UInt8.ofNat (n / 256 ^ (7 - k))]) → Ob base w3 v3 (L ++ bek (k + 1) (n / 256 ^ (8 - (k + 1))))) :=
        ⟨fun v3 w3 h => by rw [bek_step n k hlt, ← List.append_assoc]; exact h⟩
      go_wp2_with (refine app_byte _ hO' hl hC.out rfl _ _ rfl rfl rfl ?_; intro v3 w3 hO3 hb3)
      exact ⟨⟨k + 1, by omega, by go_num, HS.out _ _ hO3, hb.trans hb3⟩, by simp [intOf]; omega⟩
    · obtain rfl : k = 8 := by omega
      have hd : decide ((8 : Int) < 8) = false := by decide
      go_wp2_with fail
      go_ret
      exact ⟨_, rfl, by simpa using hO', hb⟩
theorem trn_tv {k n : Int} (h1 : -9223372036854775808 ≤ n) (h2 : n ≤ 9223372036854775807) : trn k (n % 18446744073709551616).toNat = tv k n := by
  unfold trn tv
  split <;> omega
theorem tv_lt {k n : Int} (h1 : -9223372036854775808 ≤ n) (h2 : n ≤ 9223372036854775807) : tv k n < 18446744073709551616 := by
  unfold tv
  split <;> omega
/-- how long a part's text is -/
theorem ptx_length (p : Pt) : (ptx p).length = if p.kind = 1 then 1 + 9 * ngr p.text.length else 9 := by
  unfold ptx
  split
  · rw [List.length_cons, grp_length]; omega
  · rw [List.length_cons, bek_length]
set_option maxHeartbeats 2000000 in
theorem appendPart_any {base : Nat} {w : World} {v : Value} {L : List UInt8} (p : Pt) (hp : p.ok) (hO : Ob base w v L) (hn : L.length + 9 * ngr p.text.length ≤ 199999999999900) :
    Calls Try.prog 19 #[v, pv p] w fun e w' => ∃ v', e = .returned v' ∧ Ob base w' v' (L ++ ptx p) ∧ Below base w w' := by
  obtain ⟨k, t, n⟩ := p
  have hlo := hp.lo; have hhi := hp.hi; have his := hp.is
  dsimp only at hlo hhi his hn
  obtain ⟨W, hW, hO1, hb0, hB, hrow, hne⟩ : ∃ W, W = w.alloc (Obj.cells #[Value.int IntKind.i64 k, str t, Value.int IntKind.i64 n] 39) ∧ Ob base W v L ∧ Below base w W ∧ W.heap.size = w.heap.size + 1 ∧
      W.heap[w.heap.size]? = some (.cells #[Value.int IntKind.i64 k, str t, Value.int IntKind.i64 n] 39 (0, 0)) ∧ v.ownBlock ≠ some w.heap.size :=
    ⟨_, rfl, hO.alloc _, (Below.refl _ _).alloc hO.le _, by simp, heap_alloc_new _ _, fun h => by have := (hO.own.lt _ h).2; omega⟩
  have hl : L.length ≤ 200000000000000 := by omega
  have cells : ∀ w3 : World, (∀ k, k < W.heap.size → v.ownBlock ≠ some k → w3.heap[k]? = W.heap[k]?) → w3.cell? ⟨w.heap.size, 0, none⟩ = some (.int .i64 k) ∧ w3.cell? ⟨w.heap.size, 1, none⟩ = some (str t) ∧ w3.cell? ⟨w.heap.size, 2, none⟩ = some (.int .i64 n) := by
    intro w3 hk
    have hr : w3.heap[w.heap.size]? = some (.cells #[Value.int IntKind.i64 k, str t, Value.int IntKind.i64 n] 39 (0, 0)) := by rw [hk _ (by omega) hne]; exact hrow
    exact ⟨by rw [cell_of_row _ _ _ _ _ _ hr]; rfl, by rw [cell_of_row _ _ _ _ _ _ hr]; rfl, by rw [cell_of_row _ _ _ _ _ _ hr]; rfl⟩
  have hc0 : W.cell? ⟨w.heap.size, 0, none⟩ = some (.int .i64 k) := (cells W (fun _ _ _ => rfl)).1
  generalize hG : w.heap.size = G at *
  by_cases h1 : k = 1
  · subst h1
    have hl2 : (L ++ [1]).length + 9 * ngr t.length ≤ 200000000000000 := by rw [List.length_append]; simp only [List.length_cons, List.length_nil]; omega
    have hpt : Hid (L ++ ptx ⟨1, t, n⟩ = L ++ [1] ++ grp t) := ⟨by simp [ptx]⟩
    go_enter Try.func19, Try.ntmps19
    go_wp2_with (first
      | (rw [← hW]; refine app_bytek 1 hO1 hB.symm hl rfl rfl _ _ rfl rfl rfl ?_; intro v3 w3 hO3 hb3 hk3; obtain ⟨d0, d1, d2⟩ := cells w3 hk3)
      | (go_at_call 27; refine (appendGroups_any t hO3 hl2).mono ?_; rintro e w' ⟨v4, rfl, hO4, hb4⟩))
    go_ret
    exact ⟨_, rfl, by rw [hpt.out]; exact hO4, (hb0.trans hb3).trans hb4⟩
  · have hk23 : k = 2 ∨ k = 3 := by rcases his with ⟨a, _⟩ | ⟨a, _⟩
                                    · exact absurd a h1
                                    · exact a
    have ct : ∀ w, Calls Try.prog 29 #[.int .i64 k, .int .u64 (n % 18446744073709551616)] w fun e w' => e = .returned (.int .u64 (tv k n : Int)) ∧ w' = w := by
      intro w
      have := turned_any k (n % 18446744073709551616).toNat (by omega) w
      rw [trn_tv hlo hhi, show ((n % 18446744073709551616).toNat : Int) = n % 18446744073709551616 by omega] at this
      exact this
    have htv := tv_lt (k := k) hlo hhi
    clear his h1
    rcases hk23 with rfl | rfl
    · have hl2 : (L ++ [2]).length ≤ 199999999999990 := by rw [List.length_append]; simp only [List.length_cons, List.length_nil]; omega
      have hpt : Hid (L ++ ptx ⟨2, t, n⟩ = L ++ [2] ++ bek 8 (tv 2 n)) := ⟨by simp [ptx]⟩
      generalize tv 2 n = T at *
      go_enter Try.func19, Try.ntmps19
      go_wp2_with (first
        | (rw [← hW]; refine app_bytek 2 hO1 hB.symm hl rfl rfl _ _ rfl rfl rfl ?_; intro v3 w3 hO3 hb3 hk3; obtain ⟨d0, d1, d2⟩ := cells w3 hk3)
        | (go_at_call 29; refine (ct _).mono ?_; rintro e w' ⟨rfl, rfl⟩)
        | (go_at_call 28; refine (appendNumber_any T htv hO3 hl2).mono ?_; rintro e w' ⟨v4, rfl, hO4, hb4⟩))
      go_ret
      exact ⟨_, rfl, by rw [hpt.out]; exact hO4, (hb0.trans hb3).trans hb4⟩
    · have hl2 : (L ++ [3]).length ≤ 199999999999990 := by rw [List.length_append]; simp only [List.length_cons, List.length_nil]; omega
      have hpt : Hid (L ++ ptx ⟨3, t, n⟩ = L ++ [3] ++ bek 8 (tv 3 n)) := ⟨by simp [ptx]⟩
      generalize tv 3 n = T at *
      go_enter Try.func19, Try.ntmps19
      go_wp2_with (first
        | (rw [← hW]; refine app_bytek 3 hO1 hB.symm hl rfl rfl _ _ rfl rfl rfl ?_; intro v3 w3 hO3 hb3 hk3; obtain ⟨d0, d1, d2⟩ := cells w3 hk3)
        | (go_at_call 29; refine (ct _).mono ?_; rintro e w' ⟨rfl, rfl⟩)
        | (go_at_call 28; refine (appendNumber_any T htv hO3 hl2).mono ?_; rintro e w' ⟨v4, rfl, hO4, hb4⟩))
      go_ret
      exact ⟨_, rfl, by rw [hpt.out]; exact hO4, (hb0.trans hb3).trans hb4⟩
end Go.Proofs.Ytijkabnhedmimab
