/- The reference: the number that a text begins with; Read. -/
import Derived.Test.YtokkoacfmdnmaaaDoorRead
namespace Go.Proofs.YtokkoacfmdnmaaaDoor
set_option linter.unusedVariables false
set_option linter.unusedSimpArgs false
open Go.RowKit
/-- What the reference's number tells: the first digits, at most eight of them. -/
structure Nm (l : List UInt8) (k : Nat) : Prop where
  le : k ≤ 8
  len : k ≤ l.length
  dg : digs l k
  stop : k = l.length ∨ k = 8 ∨ ¬ isDig (l.getD k 0)
theorem Nm.of_rd {l x y : List UInt8} {k : Nat} (h : Nm l k) (r : Rd l x y) : l.take k = Lib.decDigits (LEN (nn x y)) ∧ k = dig (nn x y) := by
  obtain ⟨a, b, c, d, e, f⟩ := r.ld.parts
  have hd : (Lib.decDigits (LEN (nn x y))).length = dig (nn x y) := by rw [Lib.decDigits_length, nDigits_LEN]
  rw [hd] at a b c d e
  have h7 := dig_seven r.small
  have hk : k = dig (nn x y) := by
    rcases Nat.lt_trichotomy k (dig (nn x y)) with g | g | g
    · rcases h.stop with s | s | s
      · omega
      · omega
      · exact absurd (e k g) s
    · exact g
    · have := h.dg _ g; rw [c] at this; exact absurd this not_dig_32
  exact ⟨by rw [hk, d], hk⟩
attribute [local go_sem ↓] Go.wp_at_zero Go.wp_at_succ
attribute [local go_sem ↓] sl9 ix9
theorem val_lt (l : List UInt8) (hd : ∀ c ∈ l, isDig c) : val l < 10 ^ l.length := by
  have : ∀ (m : Nat) (l : List UInt8), l.length = m → (∀ c ∈ l, isDig c) → val l < 10 ^ l.length := by
    intro m
    induction m with
    | zero => intro l h _; rw [List.length_eq_zero_iff.1 h]; decide
    | succ m ih =>
      intro l h hd
      have hn : l ≠ [] := fun e => by rw [e] at h; simp at h
      obtain ⟨q, c, rfl⟩ : ∃ q c, l = q ++ [c] := ⟨l.dropLast, l.getLast hn, (List.dropLast_concat_getLast hn).symm⟩
      have h1 := ih q (by simp at h; omega) (fun x hx => hd x (by simp [hx]))
      have h2 := hd c (by simp)
      obtain ⟨c1, c2⟩ := h2
      rw [val_snoc, List.length_append, List.length_singleton, Nat.pow_succ]
      omega
  exact this _ l rfl hd
theorem digs_take {l : List UInt8} {k : Nat} (hk : k ≤ l.length) (h : digs l k) : ∀ c ∈ l.take k, isDig c := fun c hc => by
  obtain ⟨j, hj, e⟩ := mem_getD hc
  rw [List.length_take] at hj
  rw [← e, List.getD_eq_getElem?_getD, List.getElem?_take_of_lt (by omega), ← List.getD_eq_getElem?_getD]
  exact h j (by omega)
theorem val_small {l : List UInt8} {k : Nat} (hk : k ≤ l.length) (h8 : k ≤ 8) (h : digs l k) : val (l.take k) < 100000000 := by
  have h1 := val_lt _ (digs_take hk h)
  rw [List.length_take, Nat.min_eq_left hk] at h1
  exact Nat.lt_of_lt_of_le h1 (Nat.pow_le_pow_right (by decide) h8)
theorem number_any (s : ByteArray) (hs : s.size ≤ 4611686018427387904) (w : World) :
    Calls Tryd.prog 24 #[.string s] w fun e w' => ∃ k, Nm s.data.toList k ∧ e = .returned (.tuple #[.int .i64 (val (s.data.toList.take k)), .int .i64 k]) ∧ w' = w := by
  obtain ⟨l, hl⟩ : ∃ l, l = s.data.toList := ⟨_, rfl⟩
  have hlen := getD_of hl
  have hix : ∀ (p : Nat) (h : p < s.size) (w : World), (ixS (.string s) (.int .i64 (p : Int))).run Tryd.prog w = .ok (.int .u8 ((l.getD p 0).toNat : Int)) w := idxs s l hl
  rw [← hl]
  clear hl
  go_enter Tryd.func24, Tryd.ntmps24
  go_wp2_with fail
  go_loop [4, 5] (fun v i => ∃ k : Nat, v = .int .i64 (val (l.take k)) ∧ i = .int .i64 k ∧ k ≤ s.size ∧ k ≤ 8 ∧ digs l k) (fun _ i => 8 - (intOf i).toNat)
  case atStart => exact ⟨0, rfl, rfl, Nat.zero_le _, Nat.zero_le _, fun j hj => by omega⟩
  case round =>
    obtain ⟨k, rfl, rfl, hk, hk8, hb⟩ := hrel
    by_cases h1 : k < s.size
    · have d1 : decide ((k : Int) < (s.size : Int)) = true := decide_eq_true (by omega)
      by_cases h2 : k < 8
      · have d2 : decide ((k : Int) < 8) = true := decide_eq_true (by omega)
        have hx := hix k h1
        have hvt : Hid (val (l.take (k + 1)) = val (l.take k) * 10 + ((l.getD k 0).toNat - 48)) := ⟨val_take l k (by omega)⟩
        obtain ⟨c, hc⟩ : ∃ c, c = l.getD k 0 := ⟨_, rfl⟩
        rw [← hc] at hx hvt
        have HC : Hid (c = l.getD k 0) := ⟨hc⟩
        clear hc hix
        by_cases h5 : 48 ≤ c.toNat
        · have d5 : decide ((48 : Int) ≤ (c.toNat : Int)) = true := decide_eq_true (by omega)
          by_cases h6 : c.toNat ≤ 57
          · have d6 : decide ((c.toNat : Int) ≤ 57) = true := decide_eq_true (by omega)
            have hb1 : Hid (digs l (k + 1)) := ⟨fun j hj => by
              by_cases e : j = k
              · subst e; rw [← HC.out]; exact ⟨h5, h6⟩
              · exact hb j (by omega)⟩
            have hv := val_small (by omega) hk8 hb
            obtain ⟨m, hm⟩ : ∃ m, m = val (l.take k) := ⟨_, rfl⟩
            have hmm : Hid ((val (l.take (k + 1)) : Int) = 10 * (m : Int) + ((c.toNat : Int) - 48)) := ⟨by rw [hvt.out, ← hm]; omega⟩
            rw [← hm] at hv ⊢
            clear hm hvt
            go_wp2_with fail
            go_round
            case rel => exact ⟨k + 1, by rw [hmm.out], by go_num, h1, by omega, hb1.out⟩
            case measure => simp [intOf]; omega
          · have d6 : decide ((c.toNat : Int) ≤ 57) = false := decide_eq_false (by omega)
            have hN : Hid (Nm l k) := ⟨⟨hk8, by omega, hb, Or.inr (Or.inr (by rw [← HC.out]; exact fun h => h6 h.2))⟩⟩
            go_wp2_with fail
            go_ret2
            exact ⟨k, hN.out, rfl, rfl⟩
        · have d5 : decide ((48 : Int) ≤ (c.toNat : Int)) = false := decide_eq_false (by omega)
          have hN : Hid (Nm l k) := ⟨⟨hk8, by omega, hb, Or.inr (Or.inr (by rw [← HC.out]; exact fun h => h5 h.1))⟩⟩
          go_wp2_with fail
          go_ret2
          exact ⟨k, hN.out, rfl, rfl⟩
      · have d2 : decide ((k : Int) < 8) = false := decide_eq_false (by omega)
        have hN : Hid (Nm l k) := ⟨⟨hk8, by omega, hb, Or.inr (Or.inl (by omega))⟩⟩
        clear hix
        go_wp2_with fail
        go_ret2
        exact ⟨k, hN.out, rfl, rfl⟩
    · have d1 : decide ((k : Int) < (s.size : Int)) = false := decide_eq_false (by omega)
      have hN : Hid (Nm l k) := ⟨⟨hk8, by omega, hb, Or.inl (by omega)⟩⟩
      clear hix
      go_wp2_with fail
      go_ret2
      exact ⟨k, hN.out, rfl, rfl⟩
end Go.Proofs.YtokkoacfmdnmaaaDoor
