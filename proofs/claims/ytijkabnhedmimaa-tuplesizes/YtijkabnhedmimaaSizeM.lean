/- Where the bytes of a part's text stand: no model here. -/
import Derived.Test.YtijkabnhedmimaaMath
namespace Go.Proofs.Ytijkabnhedmimaa
set_option linter.unusedVariables false
set_option linter.unusedSimpArgs false
theorem getD_app_l {a b : List UInt8} {i : Nat} (h : i < a.length) : (a ++ b).getD i 0 = a.getD i 0 := by
  rw [List.getD_eq_getElem?_getD, List.getD_eq_getElem?_getD, List.getElem?_append_left h]
theorem getD_app_r {a b : List UInt8} {i : Nat} (h : a.length ≤ i) : (a ++ b).getD i 0 = b.getD (i - a.length) 0 := by
  rw [List.getD_eq_getElem?_getD, List.getD_eq_getElem?_getD, List.getElem?_append_right h]
theorem grp_first (t : List UInt8) (i : Nat) (hi : i < 8) : (grp t).getD i 0 = t.getD i 0 := by
  obtain ⟨r, hr⟩ := grp_head t
  rw [hr, List.append_assoc]
  have hl : (t.take 8 ++ List.replicate (8 - (t.take 8).length) (0 : UInt8)).length = 8 := by simp; omega
  rw [getD_app_l (by omega)]
  by_cases h : i < (t.take 8).length
  · rw [getD_app_l h, List.getD_eq_getElem?_getD, List.getElem?_take_of_lt hi, ← List.getD_eq_getElem?_getD]
  · rw [getD_app_r (by omega)]
    have hi2 : t.length ≤ i := by rw [List.length_take] at h; omega
    rw [List.getD_eq_getElem?_getD, List.getElem?_replicate, List.getD_eq_getElem?_getD, List.getElem?_eq_none hi2]
    split <;> rfl
theorem grp_ninth (t : List UInt8) : (grp t).getD 8 0 = nin t := by
  obtain ⟨r, hr⟩ := grp_head t
  rw [hr]
  have hl : (t.take 8 ++ List.replicate (8 - (t.take 8).length) (0 : UInt8)).length = 8 := by simp; omega
  rw [List.append_assoc, getD_app_r (by omega), hl]
  rfl
theorem drop_getD (t : List UInt8) (k i : Nat) : (t.drop k).getD i 0 = t.getD (k + i) 0 := by
  rw [List.getD_eq_getElem?_getD, List.getD_eq_getElem?_getD, List.getElem?_drop]
theorem grp_at : ∀ (g : Nat) (t : List UInt8), g < ngr t.length → (∀ i, i < 8 → (grp t).getD (9 * g + i) 0 = t.getD (8 * g + i) 0) ∧ (grp t).getD (9 * g + 8) 0 = if g + 1 = ngr t.length then UInt8.ofNat (t.length - 8 * g) else 9
  | 0, t, h => by
    refine ⟨fun i hi => by simpa using grp_first t i hi, ?_⟩
    rw [show 9 * 0 + 8 = 8 from rfl, grp_ninth]
    unfold nin ngr
    by_cases h0 : t.length = 0
    · simp [h0]
    · rw [if_neg h0]
      by_cases h8 : t.length ≤ 8
      · rw [if_pos h8, if_pos (by omega), Nat.mul_zero, Nat.sub_zero]
      · rw [if_neg h8, if_neg (by omega)]
  | g + 1, t, h => by
    have h8 : 8 < t.length := by
      unfold ngr at h
      split at h <;> omega
    have hd : (t.drop 8).length = t.length - 8 := List.length_drop
    have hn : ngr t.length = ngr (t.drop 8).length + 1 := by
      rw [hd]; unfold ngr; rw [if_neg (by omega), if_neg (by omega)]; omega
    have ih := grp_at g (t.drop 8) (by omega)
    have hl8 : (t.take 8).length = 8 := by rw [List.length_take]; omega
    have key : ∀ j, (grp t).getD (9 + j) 0 = (grp (t.drop 8)).getD j 0 := by
      intro j
      rw [grp_long h8, getD_app_r (by omega), hl8, show 9 + j - 8 = j + 1 by omega]
      rfl
    refine ⟨fun i hi => ?_, ?_⟩
    · rw [show 9 * (g + 1) + i = 9 + (9 * g + i) by omega, key, ih.1 i hi, drop_getD, show 8 + (8 * g + i) = 8 * (g + 1) + i by omega]
    · rw [show 9 * (g + 1) + 8 = 9 + (9 * g + 8) by omega, key, ih.2, hn, hd]
      by_cases e : g + 1 = ngr (t.length - 8)
      · rw [if_pos e, if_pos (by omega), show t.length - 8 - 8 * g = t.length - 8 * (g + 1) by omega]
      · rw [if_neg e, if_neg (by omega)]
/-- the bytes of the number turned over -/
theorem bek_not : ∀ (k v i : Nat), v < 256 ^ k → i < k → ((bek k v).getD i 0).toNat + ((bek k (256 ^ k - 1 - v)).getD i 0).toNat = 255
  | 0, _, _, _, h => by omega
  | k + 1, v, i, hv, hi => by
    have hp : 256 ^ (k + 1) = 256 ^ k * 256 := Nat.pow_succ ..
    have hpos : 0 < 256 ^ k := Nat.pow_pos (by decide)
    have e : (256 ^ (k + 1) - 1 - v) / 256 = 256 ^ k - 1 - v / 256 := by rw [hp]; rw [hp] at hv; omega
    rw [bek, bek, e]
    by_cases h : i < k
    · rw [getD_app_l (by rw [bek_length]; exact h), getD_app_l (by rw [bek_length]; exact h)]
      exact bek_not k (v / 256) i (by rw [hp] at hv; omega) h
    · have : i = k := by omega
      subst this
      rw [getD_app_r (by rw [bek_length]; omega), getD_app_r (by rw [bek_length]; omega), bek_length, bek_length, Nat.sub_self]
      show (UInt8.ofNat v).toNat + (UInt8.ofNat _).toNat = 255
      rw [UInt8.toNat_ofNat', UInt8.toNat_ofNat']
      rw [hp] at hv ⊢
      omega
end Go.Proofs.Ytijkabnhedmimaa
