/- Layer 22: the words of a line. -/
import Derived.Test.YtgbkloihclbimaaDoorXt
import Derived.Deep.RegionHeld3
import Derived.Deep.DeepCutAuto
namespace Go.Proofs.YtgbkloihclbimaaDoor
set_option maxRecDepth 100000
set_option linter.unusedVariables false
set_option linter.unusedSimpArgs false
open Go.RowKit
attribute [local go_sem ↓] Go.wp_at_zero Go.wp_at_succ sl9 ix9
/-- behind k bytes of a line -/
def Wz (s : By) (k : Nat) (q : Bool) : Prop := min k s.length + wsz q (s.drop k) = wsz false s
theorem drop_at {s : By} {k : Nat} {c : UInt8} (h : s[k]? = some c) : s.drop k = c :: s.drop (k + 1) := by
  obtain ⟨hk, e⟩ := List.getElem?_eq_some_iff.1 h
  rw [← e, List.getElem_cons_drop]
theorem wz_esc {s : By} {k : Nat} {q : Bool} (h : Wz s k q) (hc : s[k]? = some 92) : Wz s (k + 2) q := by
  have hk := (List.getElem?_eq_some_iff.1 hc).1
  unfold Wz at h ⊢
  generalize wsz false s = Z at *
  rw [drop_at hc] at h
  unfold wsz at h
  rw [if_pos rfl] at h
  by_cases h1 : k + 1 < s.length
  · have hd : s[k + 1]? = some (s[k + 1]) := List.getElem?_eq_getElem h1
    rw [drop_at hd] at h
    simp only at h
    rw [Nat.min_eq_left (by omega)] at h ⊢
    rw [show k + 1 + 1 = k + 2 from rfl] at h
    rw [← h]
    omega
  · rw [List.drop_of_length_le (by omega : s.length ≤ k + 1)] at h
    simp only at h
    rw [List.drop_of_length_le (by omega : s.length ≤ k + 2), wsz_nil, ← h]
    omega
theorem wz_quo {s : By} {k : Nat} {q : Bool} (h : Wz s k q) (hc : s[k]? = some 34) : Wz s (k + 1) (!q) := by
  have hk := (List.getElem?_eq_some_iff.1 hc).1
  unfold Wz at h ⊢
  generalize wsz false s = Z at *
  rw [drop_at hc] at h
  unfold wsz at h
  rw [if_neg (by decide), if_pos rfl] at h
  rw [← h]; omega
theorem wz_end {s : By} {k : Nat} (h : Wz s k false) (hc : s[k]? = some 32) : wsz false s = k := by
  have hk := (List.getElem?_eq_some_iff.1 hc).1
  unfold Wz at h
  generalize wsz false s = Z at *
  rw [drop_at hc, wsz_blank] at h
  omega
theorem wz_step {s : By} {k : Nat} {q : Bool} {c : UInt8} (h : Wz s k q) (hc : s[k]? = some c) (h1 : c ≠ 92) (h2 : c ≠ 34) (h3 : ¬ (c = 32 ∧ q = false)) : Wz s (k + 1) q := by
  have hk := (List.getElem?_eq_some_iff.1 hc).1
  unfold Wz at h ⊢
  generalize wsz false s = Z at *
  rw [drop_at hc] at h
  unfold wsz at h
  rw [if_neg h1, if_neg h2, if_neg h3] at h
  rw [← h]; omega
theorem wz_all {s : By} {k : Nat} {q : Bool} (h : Wz s k q) (hk : s.length ≤ k) : wsz false s = s.length := by
  unfold Wz at h
  rw [List.drop_of_length_le hk, wsz_nil] at h
  omega
def boolOf : Value → Bool
  | .bool b => b
  | _ => false
set_option maxHeartbeats 1000000 in
theorem wordSize_any (s : By) (hs : s.length ≤ 1000000000000) (w : World) :
    Calls Tryd.prog 51 #[str s] w fun e w' => e = .returned (.int .i64 (wsz false s : Nat)) ∧ w' = w := by
  go_enter Tryd.func51, Tryd.ntmps51
  go_wp2_with fail
  go_step3
  go_wp2_with fail
  go_step3
  go_wp2_with fail
  go_loopw [3, 4] (fun a b wr => ∃ (k : Nat) (q : Bool), a = .int .i64 k ∧ b = .bool q ∧ k ≤ s.length + 1 ∧ wr = w ∧ Hid (Wz s k q)) (fun a _ _ => s.length + 1 - (intOf a).toNat)
  case atStart => exact ⟨0, false, rfl, rfl, by omega, rfl, ⟨by unfold Wz; simp⟩⟩
  case round =>
    obtain ⟨k, q, rfl, rfl, hk, rfl, hW⟩ := hrel
    by_cases hlt : k < s.length
    · have d1 : decide ((k : Int) < (s.length : Int)) = true := decide_eq_true (by omega)
      have hc : s[k]? = some (s.getD k 0) := by rw [List.getD_eq_getElem?_getD, List.getElem?_eq_getElem hlt]; rfl
      have hix := run_ix s k hlt
      generalize s.getD k 0 = c at *
      have HC := Hid.mk hc
      clear hc
      by_cases h92 : c = 92
      · subst h92
        have HN := Hid.mk (wz_esc hW.out HC.out)
        go_wp2_with fail
        go_roundw
        case rel => exact ⟨k + 2, q, by first | rfl | (congr 1; omega), rfl, by omega, by first | trivial | rfl, HN⟩
        case measure => simp [intOf]; omega
      have t92 : ((c.toNat : Int) == 92) = false := beq_eq_false_iff_ne.2 (fun q => h92 (UInt8.toNat.inj (by show c.toNat = 92; omega)))
      by_cases h34 : c = 34
      · subst h34
        have HN := Hid.mk (wz_quo hW.out HC.out)
        go_wp2_with fail
        go_roundw
        case rel => exact ⟨k + 1, !q, rfl, rfl, by omega, by first | trivial | rfl, HN⟩
        case measure => simp [intOf]; omega
      have t34 : ((c.toNat : Int) == 34) = false := beq_eq_false_iff_ne.2 (fun q => h34 (UInt8.toNat.inj (by show c.toNat = 34; omega)))
      by_cases h32 : c = 32
      · subst h32
        cases q with
        | false =>
          have HN := Hid.mk (wz_end hW.out HC.out)
          have m1 : ¬ ((s.length : Int) < (k : Int)) := by omega
          have m2 : (k : Int) < (s.length : Int) := by omega
          go_wp2_with fail
          go_ret
          refine ⟨?_, rfl⟩
          show Ending.returned (.int .i64 (min (k : Int) (s.length : Int))) = _
          rw [HN.out, Int.min_eq_left (by omega)]
        | true =>
          have HN := Hid.mk (wz_step hW.out HC.out (by decide) (by decide) (fun q => Bool.noConfusion q.2))
          go_wp2_with fail
          go_roundw
          case rel => exact ⟨k + 1, true, rfl, rfl, by omega, by first | trivial | rfl, HN⟩
          case measure => simp [intOf]; omega
      have t32 : ((c.toNat : Int) == 32) = false := beq_eq_false_iff_ne.2 (fun q => h32 (UInt8.toNat.inj (by show c.toNat = 32; omega)))
      have HN := Hid.mk (wz_step hW.out HC.out h92 h34 (fun q => h32 q.1))
      go_wp2_with fail
      go_roundw
      case rel => exact ⟨k + 1, q, rfl, rfl, by omega, by first | trivial | rfl, HN⟩
      case measure => simp [intOf]; omega
    · have d1 : decide ((k : Int) < (s.length : Int)) = false := decide_eq_false (by omega)
      have HE := Hid.mk (wz_all hW.out (by omega))
      have m1 : ¬ ((k : Int) < (s.length : Int)) := by omega
      go_wp2_with fail
      go_ret
      refine ⟨?_, rfl⟩
      show Ending.returned (.int .i64 (min (k : Int) (s.length : Int))) = _
      rw [HE.out, Int.min_eq_right (by omega)]
def szOf : Value → Nat
  | .string s => s.size
  | _ => 0
theorem wds_le : ∀ (n : Nat) (l : By), l.length ≤ n → (wds l).length ≤ l.length + 1
  | n, l, h => by
    by_cases h1 : wsz false l = l.length
    · rw [wds_all h1]; simp
    · have hle := wsz_le' false l
      rw [wds_cut h1, List.length_cons]
      cases n with
      | zero => omega
      | succ n =>
        have := wds_le n (l.drop (wsz false l + 1)) (by rw [List.length_drop]; omega)
        rw [List.length_drop] at this
        omega
set_option maxHeartbeats 1000000 in
theorem wordsOf_any (s : By) (hs : s.length ≤ 1000000000) (w : World) :
    Calls Tryd.prog 37 #[str s] w fun e w' => ∃ v, e = .returned v ∧ So w.heap.size w' v (wds s) ∧ Below w.heap.size w w' := by
  go_enter Tryd.func37, Tryd.ntmps37
  go_wp2_with fail
  go_loopw [0, 3] (fun x v wr => ∃ (l : By) (ws : List By), x = str l ∧ l.length ≤ s.length ∧ Hid (So w.heap.size wr v ws) ∧ Hid (wds s = ws ++ wds l) ∧ Hid (Below w.heap.size w wr)) (fun x _ _ => szOf x)
  case atStart => exact ⟨s, [], rfl, by omega, ⟨So.nil _ _ (Nat.le_refl _)⟩, ⟨rfl⟩, ⟨Below.refl _ _⟩⟩
  case round =>
    obtain ⟨l, ws, rfl, hl, HS, HE, HB⟩ := hrel
    have hz := wordSize_any l (by omega) wr
    have hle := wsz_le' false l
    have hlen : ws.length ≤ 4500000000000 := by
      have h1 := congrArg List.length HE.out
      have h2 := wds_le _ s (Nat.le_refl _)
      rw [List.length_append] at h1
      omega
    have hall := @wds_all l
    have hcut := @wds_cut l
    generalize wsz false l = n at *
    have HA := Hid.mk hall
    have HC := Hid.mk hcut
    clear hall hcut
    have hsl := run_hi l n hle (by omega)
    go_wp2_with fail
    with_reducible refine Calls.mono hz ?_
    rintro e w1 ⟨rfl, rfl⟩
    dsimp only
    by_cases h : n = l.length
    · have h1 : ((n : Int) == (l.length : Int)) = true := by rw [h]; simp
      have HF := Hid.mk (HA.out h)
      have HH := Hid.mk h
      clear h
      go_wp2_with (refine app_s rfl _ _ rfl [l.take n] (by simp) rfl HS.out rfl hlen rfl rfl ?_; intro v2 w2 o2 b2)
      go_ret
      refine ⟨_, rfl, ?_, HB.out.trans b2⟩
      rw [HE.out, HF.out]
      rw [HH.out, List.take_length] at o2
      exact o2
    · have h1 : ((n : Int) == (l.length : Int)) = false := beq_eq_false_iff_ne.2 (by omega)
      have HF := Hid.mk (HC.out h)
      have hi1 : wrap64 ((n : Int) + 1) = ((n + 1 : Nat) : Int) := by unfold wrap64; omega
      have hsl2 : ∀ w, (slS (str l) (some (.int .i64 ((n : Int) + 1))) none none).run Tryd.prog w = .ok (str (l.drop (n + 1))) w := run_lo l (n + 1) (by omega) (by omega)
      go_wp2_with (refine app_s rfl _ _ rfl [l.take n] (by simp) rfl HS.out rfl hlen rfl rfl ?_; intro v2 w2 o2 b2)
      go_roundw
      case rel => exact ⟨l.drop (n + 1), ws ++ [l.take n], rfl, by rw [List.length_drop]; omega, ⟨o2⟩, ⟨by rw [HE.out, HF.out]; simp⟩, ⟨HB.out.trans b2⟩⟩
      case measure =>
        show (⟨(l.drop (n + 1)).toArray⟩ : ByteArray).size < (⟨l.toArray⟩ : ByteArray).size
        rw [str_size, str_size, List.length_drop]
        omega
end Go.Proofs.YtgbkloihclbimaaDoor
