/- The answers that each law asks first of all. -/
import Derived.Test.YtokkoacfmdnmaaaDoorRead
namespace Go.Proofs.YtokkoacfmdnmaaaDoor
set_option linter.unusedVariables false
set_option linter.unusedSimpArgs false
open Go.RowKit
theorem LEN8 : LEN (nn [115, 105, 122, 101] [53]) = 9 := by decide
theorem LEN9 : LEN (nn [115, 105, 122, 101, 115] [53]) = 11 := by decide
theorem LEN5 : LEN (nn [97] [98]) = 6 := by decide
theorem dec9 : Lib.decDigits 9 = [57] := by rw [D_small (by decide)]; rfl
theorem dec6 : Lib.decDigits 6 = [54] := by rw [D_small (by decide)]; rfl
theorem dec11 : Lib.decDigits 11 = [49, 49] := by rw [D_big (by decide), D_small (by decide)]; rfl
theorem ex1 : wrote [115, 105, 122, 101] [53] = [57, 32, 115, 105, 122, 101, 61, 53, 10] ∧ werr [115, 105, 122, 101] [53] = 0 := by
  unfold wrote werr recd
  rw [LEN8, dec9]
  exact ⟨by decide, by decide⟩
theorem ex2 : wrote [115, 105, 122, 101, 115] [53] = [49, 49, 32, 115, 105, 122, 101, 115, 61, 53, 10] ∧ werr [115, 105, 122, 101, 115] [53] = 0 := by
  unfold wrote werr recd
  rw [LEN9, dec11]
  exact ⟨by decide, by decide⟩
theorem ex3 : wrote [97, 61] [] = [] ∧ werr [97, 61] [] = 1 := by
  unfold wrote werr
  exact ⟨by rw [if_pos (by decide)], by rw [if_pos (by decide)]⟩
theorem ex4 {k v : List UInt8} {n er : Int} (h : RdAt [120, 54, 32, 97, 61, 98, 10] 1 k v n er) : k = [97] ∧ v = [98] ∧ n = 7 ∧ er = 0 := by
  have hR : Rd ([120, 54, 32, 97, 61, 98, 10].drop (1 : Int).toNat) [97] [98] := ⟨by decide, by rw [LEN5]; decide, ⟨[], by rw [recd, LEN5, dec6]; rfl⟩⟩
  rcases h.at' (by decide) (by decide) with ⟨e, r, n⟩ | ⟨_, _, _, _, no⟩
  · obtain ⟨a, b⟩ := r.uniq hR
    subst a b
    rw [LEN5] at n
    exact ⟨rfl, rfl, n, e⟩
  · exact absurd hR (no _ _)
theorem ex5 {k v : List UInt8} {n er : Int} (h : RdAt [48, 54, 32, 97, 61, 98, 10] 0 k v n er) : er = 4 := by
  rcases h.at' (by decide) (by decide) with ⟨e, r, n⟩ | ⟨e, _⟩
  · exact absurd rfl r.ld.parts.2.2.2.2.2
  · exact e
theorem ba_eq {k : ByteArray} {l : List UInt8} (h : k.data.toList = l) : k = ⟨l.toArray⟩ := by
  apply ByteArray.ext; rw [← h]
attribute [local go_sem ↓] Go.wp_at_zero Go.wp_at_succ
theorem head_any (w : World) (hT : TB w) : Calls Tryd.prog 8 #[] w fun e w' => e = .returned (.bool true) ∧ Below w.heap.size w w' := by
  have c1 := fun w ht => write_any ⟨#[115, 105, 122, 101]⟩ ⟨#[53]⟩ (by decide) (by decide) w ht
  have c2 := fun w ht => write_any ⟨#[115, 105, 122, 101, 115]⟩ ⟨#[53]⟩ (by decide) (by decide) w ht
  have c3 := fun w ht => write_any ⟨#[97, 61]⟩ ⟨#[]⟩ (by decide) (by decide) w ht
  have c4 := fun w ht => read_any ⟨#[120, 54, 32, 97, 61, 98, 10]⟩ 1 (by decide) (by decide) w ht
  have c5 := fun w ht => read_any ⟨#[48, 54, 32, 97, 61, 98, 10]⟩ 0 (by decide) (by decide) w ht
  simp only [ex1.1, ex1.2] at c1
  simp only [ex2.1, ex2.2] at c2
  simp only [ex3.1, ex3.2] at c3
  go_enter Tryd.func8, Tryd.ntmps8
  go_wp2_with fail
  refine (c1 _ hT).mono ?_
  rintro e w1 ⟨rfl, b1⟩
  dsimp only
  go_wp2_with fail
  refine (c2 _ (hT.below b1)).mono ?_
  rintro e w2 ⟨rfl, b2⟩
  replace b2 := below_seq b1 b2
  dsimp only
  go_wp2_with fail
  refine (c3 _ (hT.below b2)).mono ?_
  rintro e w3 ⟨rfl, b3⟩
  replace b3 := below_seq b2 b3
  dsimp only
  go_wp2_with fail
  refine (c4 _ (hT.below b3)).mono ?_
  rintro e w4 ⟨k, v, n, er, rfl, hR, b4⟩
  obtain ⟨r1, r2, rfl, rfl⟩ := ex4 hR
  obtain rfl := ba_eq r1
  obtain rfl := ba_eq r2
  replace b4 := below_seq b3 b4
  dsimp only
  go_wp2_with fail
  refine (c5 _ (hT.below b4)).mono ?_
  rintro e w5 ⟨k, v, n, er, rfl, hR5, b5⟩
  obtain rfl := ex5 hR5
  replace b5 := below_seq b4 b5
  dsimp only
  go_wp2_with fail
  go_ret
  exact ⟨rfl, b5⟩
end Go.Proofs.YtokkoacfmdnmaaaDoor
