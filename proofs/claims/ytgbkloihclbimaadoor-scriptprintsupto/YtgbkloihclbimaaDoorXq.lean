/- Layer 22: texts in quotes. -/
import Derived.Test.YtgbkloihclbimaaDoorXa
import Derived.Deep.RegionHeld3
import Derived.Deep.DeepCutAuto
namespace Go.Proofs.YtgbkloihclbimaaDoor
set_option maxRecDepth 100000
set_option linter.unusedVariables false
set_option linter.unusedSimpArgs false
open Go.RowKit
theorem idxdig : ∀ n : Nat, n < 16 → ∀ w, (ixS (.string ⟨#[48, 49, 50, 51, 52, 53, 54, 55, 56, 57, 97, 98, 99, 100, 101, 102]⟩) (.int .u8 (n : Int))).run Tryd.prog w = .ok (.int .u8 ((hxd n).toNat : Int)) w := by
  intro n h w
  have hall : n = 0 ∨ n = 1 ∨ n = 2 ∨ n = 3 ∨ n = 4 ∨ n = 5 ∨ n = 6 ∨ n = 7 ∨ n = 8 ∨ n = 9 ∨ n = 10 ∨ n = 11 ∨ n = 12 ∨ n = 13 ∨ n = 14 ∨ n = 15 := by omega
  rcases hall with rfl | rfl | rfl | rfl | rfl | rfl | rfl | rfl | rfl | rfl | rfl | rfl | rfl | rfl | rfl | rfl <;> (rw [← ix9, run_index_string _ _ _ _ _ Tryd.underlying9]; rfl)
theorem and15_u8 (x : UInt8) : bits BinOp.and IntKind.u8 (x.toNat : Int) 15 = ((x.toNat % 16 : Nat) : Int) := by
  have h : ∀ n : Fin 256, bits BinOp.and IntKind.u8 ((n.val : Nat) : Int) 15 = ((n.val % 16 : Nat) : Int) := by decide +kernel
  exact h ⟨x.toNat, x.toNat_lt⟩
attribute [local go_sem ↓] Go.wp_at_zero Go.wp_at_succ sl9 ix9
theorem take_succ {α : Type} {s : List α} {k : Nat} {c : α} (h : s[k]? = some c) : s.take (k + 1) = s.take k ++ [c] := by
  rw [List.take_add_one, h]; rfl
theorem qbs_le (s : By) : (s.flatMap qb).length ≤ 4 * s.length := by
  induction s with
  | nil => simp
  | cons c s ih =>
    rw [List.flatMap_cons, List.length_append, List.length_cons]
    have : (qb c).length ≤ 4 := by
      unfold qb
      split
      · simp
      · split <;> simp
    omega
set_option maxHeartbeats 1000000 in
theorem appendQuoted_any (s : By) (L : By) (v : Value) (base : Nat) (w : World) (hO : Ob base w v L) (hn : L.length + 4 * s.length ≤ 10000000000000) :
    Calls Tryd.prog 22 #[v, str s] w fun e w' => ∃ v', e = .returned v' ∧ AppP base w w' v' (L ++ quo s) := by
  go_enter Tryd.func22, Tryd.ntmps22
  go_wp2_with (refine app_bs rfl _ _ rfl [34] _ rfl (by decide) rfl hO rfl (by omega) rfl rfl rfl ?_; intro v1 w1 o1 b1 k1)
  go_loopw [0, 12] (fun b i wr => ∃ k : Nat, k ≤ s.length ∧ i = .int .i64 k ∧ AppP base w wr b (L ++ 34 :: (s.take k).flatMap qb)) (fun _ i _ => s.length - (intOf i).toNat)
  case atStart => exact ⟨0, by omega, rfl, ⟨by simpa using o1, b1, k1⟩⟩
  case round =>
    clear o1 b1 k1
    obtain ⟨k, hk, rfl, hA⟩ := hrel
    have hA := Hid.mk hA
    by_cases hlt : k < s.length
    · have hc : s[k]? = some (s.getD k 0) := by rw [List.getD_eq_getElem?_getD, List.getElem?_eq_getElem hlt]; rfl
      have ht := take_succ hc
      have hql := qbs_le (s.take k)
      rw [List.length_take] at hql
      have hix := run_ix s k hlt
      generalize hcc : s.getD k 0 = c at *
      have hlen : (L ++ 34 :: (s.take k).flatMap qb).length ≤ 100000000000000 := by
        rw [List.length_append, List.length_cons]; omega
      have d1 : decide ((k : Int) < (s.length : Int)) = true := decide_eq_true (by omega)
      have hw1 : wrap64 ((k : Int) + 1) = ((k + 1 : Nat) : Int) := by unfold wrap64; omega
      have hc8 : c.toNat < 256 := c.toNat_lt
      have HN : Hid (∀ b wr, AppP base w wr b ((L ++ 34 :: (s.take k).flatMap qb) ++ qb c) → AppP base w wr b (L ++ 34 :: (s.take (k + 1)).flatMap qb)) := ⟨fun b wr h => by rw [ht, List.flatMap_append]; simpa using h⟩
      clear ht hql hcc hc
      by_cases h34 : c = 34
      · have hq : Hid (qb c = [92, c]) := ⟨by unfold qb; rw [if_pos (.inl h34)]⟩
        subst h34
        have t1 : (((34 : UInt8).toNat : Int) == 34) = true := rfl
        go_wp2_with (refine app_bs rfl _ _ rfl [92, 34] _ rfl (by decide) rfl hA.out.ob rfl hlen rfl rfl rfl ?_; intro v2 w2 o2 b2 k2)
        go_roundw
        case rel => exact ⟨k + 1, by omega, by first | rfl | rw [hw1], HN.out _ _ (by rw [hq.out]; exact hA.out.seq ⟨o2, b2, k2⟩)⟩
        case measure => simp [intOf]; omega
      by_cases h92 : c = 92
      · have hq : Hid (qb c = [92, c]) := ⟨by unfold qb; rw [if_pos (.inr h92)]⟩
        subst h92
        have t1 : (((92 : UInt8).toNat : Int) == 34) = false := rfl
        have t2 : (((92 : UInt8).toNat : Int) == 92) = true := rfl
        go_wp2_with (refine app_bs rfl _ _ rfl [92, 92] _ rfl (by decide) rfl hA.out.ob rfl hlen rfl rfl rfl ?_; intro v2 w2 o2 b2 k2)
        go_roundw
        case rel => exact ⟨k + 1, by omega, by first | rfl | rw [hw1], HN.out _ _ (by rw [hq.out]; exact hA.out.seq ⟨o2, b2, k2⟩)⟩
        case measure => simp [intOf]; omega
      have t1 : ((c.toNat : Int) == 34) = false := beq_eq_false_iff_ne.2 (fun q => h34 (UInt8.toNat.inj (by show c.toNat = 34; omega)))
      have t2 : ((c.toNat : Int) == 92) = false := beq_eq_false_iff_ne.2 (fun q => h92 (UInt8.toNat.inj (by show c.toNat = 92; omega)))
      by_cases hh : c < 32 ∨ 126 < c
      · have hq : Hid (qb c = [92, 120, hxd (c.toNat / 16), hxd (c.toNat % 16)]) := ⟨by unfold qb; rw [if_neg (by rintro (q | q); exact h34 q; exact h92 q), if_pos hh]⟩
        obtain ⟨hi, hhi, ehi⟩ : ∃ hi : Nat, hi = c.toNat / 16 ∧ (c.toNat : Int) / 16 = (hi : Int) := ⟨c.toNat / 16, rfl, by omega⟩
        obtain ⟨lo, hlo, elo⟩ : ∃ lo : Nat, lo = c.toNat % 16 ∧ bits BinOp.and IntKind.u8 (c.toNat : Int) 15 = (lo : Int) := ⟨c.toNat % 16, rfl, and15_u8 _⟩
        have dhi := idxdig hi (by omega)
        have dlo := idxdig lo (by omega)
        rw [← hhi, ← hlo] at hq
        obtain ⟨v2, w2, hr, o2, b2, k2⟩ := run_bs (w1 := wr.drew) [92, 120, hxd hi, hxd lo] #[.int .u8 92, .int .u8 120, .int .u8 (hxd hi).toNat, .int .u8 (hxd lo).toNat] rfl (by simp) hA.out.ob.drew hlen
        have HF : Hid (AppP base w w2 v2 (L ++ 34 :: (s.take (k + 1)).flatMap qb)) := ⟨HN.out _ _ (by rw [hq.out]; exact hA.out.seq ⟨o2, (Below.refl _ _).drew.trans b2, k2⟩)⟩
        have t3 : ∃ t, decide ((c.toNat : Int) < 32) = t ∧ (t = false → decide (126 < (c.toNat : Int)) = true ∧ decide ((c.toNat : Int) > 126) = true) := ⟨_, rfl, fun q => by
          have q := of_decide_eq_false q
          have : 126 < c.toNat := by
            rcases hh with z | z
            · have := UInt8.lt_iff_toNat_lt.1 z
              have e : (32 : UInt8).toNat = 32 := rfl
              omega
            · exact UInt8.lt_iff_toNat_lt.1 z
          exact ⟨decide_eq_true (by omega), decide_eq_true (by omega)⟩⟩
        clear hhi hlo HN hq o2 b2 k2 hh
        obtain ⟨t, t3, t4⟩ := t3
        cases t with
        | true =>
          clear t4
          go_wp2_with fail
          go_region_law (refine step_run rfl _ _ rfl rfl rfl (hr _) ?_)
          all_goals go_wp2_with fail
          all_goals exact ⟨⟨k + 1, by omega, rfl, HF.out⟩, by simp [intOf]; omega⟩
        | false =>
          obtain ⟨t4, t5⟩ := t4 rfl
          go_wp2_with fail
          go_region_law (refine step_run rfl _ _ rfl rfl rfl (hr _) ?_)
          all_goals go_wp2_with fail
          all_goals exact ⟨⟨k + 1, by omega, rfl, HF.out⟩, by simp [intOf]; omega⟩
      · have hq : Hid (qb c = [c]) := ⟨by unfold qb; rw [if_neg (by rintro (q | q); exact h34 q; exact h92 q), if_neg hh]⟩
        have g1 : ¬ c.toNat < 32 := fun q => hh (.inl (UInt8.lt_iff_toNat_lt.2 q))
        have g2 : ¬ 126 < c.toNat := fun q => hh (.inr (UInt8.lt_iff_toNat_lt.2 q))
        have t3 : decide ((c.toNat : Int) < 32) = false := decide_eq_false (by omega)
        have t4 : decide ((c.toNat : Int) > 126) = false := decide_eq_false (by omega)
        have t5 : decide (126 < (c.toNat : Int)) = false := decide_eq_false (by omega)
        go_wp2_with (refine app_bs rfl _ _ rfl [c] _ rfl (by simp) rfl hA.out.ob rfl hlen rfl rfl rfl ?_; intro v2 w2 o2 b2 k2)
        go_roundw
        case rel => exact ⟨k + 1, by omega, by first | rfl | rw [hw1], HN.out _ _ (by rw [hq.out]; exact hA.out.seq ⟨o2, b2, k2⟩)⟩
        case measure => simp [intOf]; omega
    · have d1 : decide ((k : Int) < (s.length : Int)) = false := decide_eq_false (by omega)
      have hks : Hid (k = s.length) := ⟨by omega⟩
      have hql := qbs_le (s.take k)
      rw [List.length_take] at hql
      have hlen : (L ++ 34 :: (s.take k).flatMap qb).length ≤ 100000000000000 := by
        rw [List.length_append, List.length_cons]; omega
      clear hql
      go_wp2_with (refine app_bs rfl _ _ rfl [34] _ rfl (by decide) rfl hA.out.ob rfl hlen rfl rfl rfl ?_; intro v2 w2 o2 b2 k2)
      go_ret
      refine ⟨_, rfl, ?_⟩
      have := hA.out.seq ⟨o2, b2, k2⟩
      rw [hks.out, List.take_length] at this
      unfold quo
      simpa using this
theorem quote_any (s : By) (w : World) (hn : s.length ≤ 1000000000000) :
    Calls Tryd.prog 9 #[str s] w fun e w' => e = .returned (str (quo s)) ∧ Below w.heap.size w w' := by
  have hq := appendQuoted_any s [] (.slice none 0 0) w.heap.size w (Ob.nil _ _ (Nat.le_refl _)) (by simp; omega)
  go_enter Tryd.func9, Tryd.ntmps9
  go_wp2_with fail
  with_reducible refine Calls.mono hq ?_
  rintro e w1 ⟨v, rfl, hA⟩
  dsimp only
  have hc := conv_own hA.ob
  go_wp2_with fail
  go_ret
  exact ⟨rfl, hA.bel⟩
end Go.Proofs.YtgbkloihclbimaaDoor
