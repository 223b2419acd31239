/- TxnPlays: ends. -/
import Derived.Test.YtlgpodcoiioefaaGreatPg
namespace Go.Proofs.YtlgpodcoiioefaaGreat
set_option linter.unusedVariables false
set_option linter.unusedSimpArgs false
open Go.RowKit Go.Maps
variable {X : Th → Prop} {q g bx m p s n : Nat} {T R : Sf} {B C : List ByteArray} {k : Nat} {z y : Sl} {w0 w w' : World}
/-- the two transactions of a number say the same -/
def Sy : Option Sl → Option Sl → Prop
  | none, none => True
  | some z, some y => y.o = z.o ∧ z.W = if z.o then [] else y.W
  | _, _ => False
theorem sy_upd (h : ∀ j, Sy (T j) (R j)) (k : Nat) {z y : Sl} (hk : Sy (some z) (some y)) : ∀ j, Sy (upd T k z j) (upd R k y j) := fun j => by
  by_cases e : j = k
  · subst e; rw [upd_at, upd_at]; exact hk
  · rw [upd_ne T z e, upd_ne R y e]; exact h j
abbrev mos (s : Nat) : Int := (((s - 2) / 2 : Nat) : Int)
def PS (w0 w : World) (q p s n g bx : Nat) : Prop := ∃ X T R B, PG X w0 w q p s n g bx (mos s) T R B B ∧ ∀ j, Sy (T j) (R j)
theorem PG.tv' {mo : Int} (h : PG X w0 w q p s n g bx mo T R B C) (hk : k < 3) (hz : T k = some z) : w.cell? ⟨bx, 2 + k, none⟩ = some (pt z.x) := by rw [h.tv hk, hz]; rfl
theorem PG.rv' {mo : Int} (h : PG X w0 w q p s n g bx mo T R B C) (hk : k < 3) (hz : R k = some z) : w.cell? ⟨bx, 5 + k, none⟩ = some (pt z.x) := by rw [h.rv hk, hz]; rfl
set_option maxRecDepth 100000 in
set_option maxHeartbeats 1000000 in
theorem ends_over (h : PG X w0 w q p s n g bx (mos s) T R B B) (hs : ∀ j, Sy (T j) (R j)) (hk : k < 3) (hz : T k = some z) (hy : R k = some y) (ho : z.o = true) : Calls Tryz.prog 25 #[pt bx, .int .i64 (k : Int)] w fun e w' => e = .returned (.bool true) ∧ PS w0 w' q p s n g bx := by
  obtain ⟨s1, s2⟩ : y.o = z.o ∧ z.W = if z.o then [] else y.W := by have := hs k; rw [hz, hy] at this; exact this
  rw [ho] at s1 s2
  rw [if_pos rfl] at s2
  have q1 := h.rdirty hy
  rw [s1, if_pos rfl] at q1
  have q2 : Hid (∀ w', PG X w0 w' q p s n g bx (mos s) T R B B → Calls Tryz.prog 17 #[pt z.x] w' fun e w2 => e = .returned (.int .i64 8) ∧ PG X w0 w2 q p s n g bx (mos s) T R B B) := ⟨fun w' h' => by
    have := h'.tcommit hz (fun _ => s2)
    have e1 : (⟨z.x, z.i, [], true⟩ : Sl) = z := by cases z; simp only at ho s2; subst ho s2; rfl
    unfold cc cb at this
    rw [ho, if_pos rfl, if_pos rfl, e1, upd_self hz] at this
    exact this⟩
  have q3 : Hid (∀ w', PG X w0 w' q p s n g bx (mos s) T R B B → Calls Tryz.prog 37 #[pt y.x] w' fun e w2 => e = .returned (.int .i64 8) ∧ PG X w0 w2 q p s n g bx (mos s) T R B B) := ⟨fun w' h' => by
    have := h'.rcommit hy
    have e1 : (⟨y.x, y.i, y.W, true⟩ : Sl) = y := by cases y; simp only at s1; subst s1; rfl
    rw [s1, if_pos rfl, if_pos rfl, e1, upd_self hy] at this
    exact this⟩
  have HS : Hid (∀ j, Sy (T j) (R j)) := ⟨hs⟩
  have H : Hid (PG X w0 w q p s n g bx (mos s) T R B B) := ⟨h⟩
  have HT : Hid (T k = some z) := ⟨hz⟩
  have HR : Hid (R k = some y) := ⟨hy⟩
  have c5 := h.rv' hk hy
  have hki : (k : Int) < 3 := by omega
  clear h hs hz hy s1 s2 ho
  go_enter Tryz.func25, Tryz.ntmps25
  go_wp2_with fail
  refine q1.mono ?_
  rintro e w1 ⟨rfl, m1, rfl⟩
  have c2 := (H.out.drewN m1).tv' hk HT.out
  have Q2 := q2.out _ (H.out.drewN m1)
  dsimp only
  clear c5 q1 q2
  go_wp2_with fail
  refine Q2.mono ?_
  rintro e w2 ⟨rfl, h2⟩
  have c5 := h2.rv' hk HR.out
  have Q3 := q3.out _ h2
  dsimp only
  clear Q2 q3 c2 h2
  go_wp2_with fail
  refine Q3.mono ?_
  rintro e w3 ⟨rfl, h3⟩
  have H3 : Hid (PS w0 w3 q p s n g bx) := ⟨⟨X, T, R, B, h3, HS.out⟩⟩
  dsimp only
  clear Q3 h3
  go_wp2
  go_ret
  exact ⟨rfl, H3.out⟩
theorem fits_most {s N : Nat} (h4 : 4 ≤ s) (h : fitsB s N = false) : (s - 2) / 2 < N := by
  unfold fitsB at h
  have := of_decide_eq_false h
  omega
set_option maxRecDepth 100000 in
set_option maxHeartbeats 1000000 in
theorem ends_fit (h : PG X w0 w q p s n g bx (mos s) T R B B) (hs : ∀ j, Sy (T j) (R j)) (hk : k < 3) (hz : T k = some z) (hy : R k = some y) (ho : z.o = false) (hf : z.W = [] ∨ fitsB s z.W.length = true) : Calls Tryz.prog 25 #[pt bx, .int .i64 (k : Int)] w fun e w' => e = .returned (.bool true) ∧ PS w0 w' q p s n g bx := by
  obtain ⟨s1, s2⟩ : y.o = z.o ∧ z.W = if z.o then [] else y.W := by have := hs k; rw [hz, hy] at this; exact this
  rw [ho] at s1 s2
  rw [if_neg Bool.false_ne_true] at s2
  obtain ⟨N, hN⟩ : ∃ N : Int, (if y.o then 0 else (y.W.length : Int)) = N := ⟨_, rfl⟩
  have q1 := h.rdirty hy
  rw [hN] at q1
  have q2 : Hid (∀ w', PG X w0 w' q p s n g bx (mos s) T R B B → Calls Tryz.prog 17 #[pt z.x] w' fun e w2 => e = .returned (.int .i64 0) ∧ PG X w0 w2 q p s n g bx (mos s) (upd T k ⟨z.x, z.i, [], true⟩) R (lay B z.W) B) := ⟨fun w' h' => by
    have := h'.tcommit hz (fun e => by rw [ho] at e; cases e)
    unfold cc cb at this
    rw [ho, if_neg Bool.false_ne_true, if_neg Bool.false_ne_true, if_pos hf, if_pos hf] at this
    exact this⟩
  have q3 : Hid (∀ w', PG X w0 w' q p s n g bx (mos s) (upd T k ⟨z.x, z.i, [], true⟩) R (lay B z.W) B → Calls Tryz.prog 37 #[pt y.x] w' fun e w2 => e = .returned (.int .i64 0) ∧ PS w0 w2 q p s n g bx) := ⟨fun w' h' => by
    have := h'.rcommit hy
    rw [s1, if_neg Bool.false_ne_true, if_neg Bool.false_ne_true, ← s2] at this
    refine this.mono ?_
    rintro e w2 ⟨rfl, h2⟩
    exact ⟨rfl, _, _, _, _, h2, sy_upd hs k ⟨rfl, rfl⟩⟩⟩
  have H : Hid (PG X w0 w q p s n g bx (mos s) T R B B) := ⟨h⟩
  have HT : Hid (T k = some z) := ⟨hz⟩
  have HR : Hid (R k = some y) := ⟨hy⟩
  have c5 := h.rv' hk hy
  have hki : (k : Int) < 3 := by omega
  clear h hs hz hy s1 s2 ho hf hN
  go_enter Tryz.func25, Tryz.ntmps25
  go_wp2_with fail
  refine q1.mono ?_
  rintro e w1 ⟨rfl, m1, rfl⟩
  have c2 := (H.out.drewN m1).tv' hk HT.out
  have Q2 := q2.out _ (H.out.drewN m1)
  dsimp only
  clear c5 q1 q2
  go_wp2_with fail
  refine Q2.mono ?_
  rintro e w2 ⟨rfl, h2⟩
  have c5 := h2.rv' hk HR.out
  have Q3 := q3.out _ h2
  dsimp only
  clear Q2 q3 c2 h2
  go_wp2_with fail
  refine Q3.mono ?_
  rintro e w3 ⟨rfl, h3⟩
  have H3 : Hid (PS w0 w3 q p s n g bx) := ⟨h3⟩
  dsimp only
  clear Q3 h3
  go_wp2
  go_ret
  exact ⟨rfl, H3.out⟩
set_option maxRecDepth 100000 in
set_option maxHeartbeats 1000000 in
theorem ends_full (h : PG X w0 w q p s n g bx (mos s) T R B B) (hs : ∀ j, Sy (T j) (R j)) (hk : k < 3) (hz : T k = some z) (hy : R k = some y) (ho : z.o = false) (hf : ¬ (z.W = [] ∨ fitsB s z.W.length = true)) : Calls Tryz.prog 25 #[pt bx, .int .i64 (k : Int)] w fun e w' => e = .returned (.bool true) ∧ PS w0 w' q p s n g bx := by
  obtain ⟨s1, s2⟩ : y.o = z.o ∧ z.W = if z.o then [] else y.W := by have := hs k; rw [hz, hy] at this; exact this
  rw [ho] at s1 s2
  rw [if_neg Bool.false_ne_true] at s2
  have h4 : 4 ≤ s := by obtain ⟨_, _, _, F, _⟩ := h; exact F.2.2.1
  have hmo : mos s < (y.W.length : Int) := by
    have := fits_most h4 (N := z.W.length) (by cases e : fitsB s z.W.length; rfl; exact absurd (.inr e) hf)
    rw [s2] at this
    unfold mos; omega
  have q1 := h.rdirty hy
  rw [s1, if_neg Bool.false_ne_true] at q1
  obtain ⟨MO, hMO⟩ : ∃ MO, mos s = MO := ⟨_, rfl⟩
  have q2 : Hid (∀ w', PG X w0 w' q p s n g bx (mos s) T R B B → Calls Tryz.prog 17 #[pt z.x] w' fun e w2 => e = .returned (.int .i64 41) ∧ PG X w0 w2 q p s n g bx (mos s) (upd T k ⟨z.x, z.i, [], true⟩) R B B) := ⟨fun w' h' => by
    have := h'.tcommit hz (fun e => by rw [ho] at e; cases e)
    unfold cc cb at this
    rw [ho, if_neg Bool.false_ne_true, if_neg Bool.false_ne_true, if_neg hf, if_neg hf] at this
    exact this⟩
  have q3 : Hid (∀ w', PG X w0 w' q p s n g bx (mos s) (upd T k ⟨z.x, z.i, [], true⟩) R B B → Calls Tryz.prog 27 #[pt y.x] w' fun e w2 => e = .returned (.tuple #[]) ∧ PS w0 w2 q p s n g bx) := ⟨fun w' h' => by
    refine (h'.rabort hy).mono ?_
    rintro e w2 ⟨rfl, h2⟩
    exact ⟨rfl, _, _, _, _, h2, sy_upd hs k ⟨rfl, rfl⟩⟩⟩
  have H : Hid (PG X w0 w q p s n g bx (mos s) T R B B) := ⟨h⟩
  have HT : Hid (T k = some z) := ⟨hz⟩
  have HR : Hid (R k = some y) := ⟨hy⟩
  have c5 := h.rv' hk hy
  have hki : (k : Int) < 3 := by omega
  have c8 : Hid (∀ {w'} {T' : Sf} {B' : List ByteArray}, PG X w0 w' q p s n g bx (mos s) T' R B' B → w'.cell? ⟨bx, 8, none⟩ = some (.int .i64 MO)) := ⟨fun h' => by rw [h'.cell]; unfold bvs; rw [hMO]; rfl⟩
  rw [hMO] at hmo
  clear h hs hz hy s1 s2 ho hf hMO h4
  go_enter Tryz.func25, Tryz.ntmps25
  go_wp2_with fail
  refine q1.mono ?_
  rintro e w1 ⟨rfl, m1, rfl⟩
  have c2 := (H.out.drewN m1).tv' hk HT.out
  have Q2 := q2.out _ (H.out.drewN m1)
  dsimp only
  clear c5 q1 q2
  go_wp2_with fail
  refine Q2.mono ?_
  rintro e w2 ⟨rfl, h2⟩
  have c5 := h2.rv' hk HR.out
  have c88 := c8.out h2
  have Q3 := q3.out _ h2
  dsimp only
  clear Q2 q3 c2 h2 c8
  go_wp2_with fail
  refine Q3.mono ?_
  rintro e w3 ⟨rfl, h3⟩
  have H3 : Hid (PS w0 w3 q p s n g bx) := ⟨h3⟩
  dsimp only
  clear Q3 h3
  go_wp2
  go_ret
  exact ⟨rfl, H3.out⟩
theorem ends_any (h : PG X w0 w q p s n g bx (mos s) T R B B) (hs : ∀ j, Sy (T j) (R j)) (hk : k < 3) (hz : T k = some z) (hy : R k = some y) : Calls Tryz.prog 25 #[pt bx, .int .i64 (k : Int)] w fun e w' => e = .returned (.bool true) ∧ PS w0 w' q p s n g bx := by
  cases ho : z.o with
  | true => exact ends_over h hs hk hz hy ho
  | false =>
    by_cases hf : z.W = [] ∨ fitsB s z.W.length = true
    · exact ends_fit h hs hk hz hy ho hf
    · exact ends_full h hs hk hz hy ho hf
end Go.Proofs.YtlgpodcoiioefaaGreat
