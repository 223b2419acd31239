/- What every law asks first. -/
import Derived.Test.YtijkabnhedmimabRd
import Derived.Test.YtijkabnhedmimabCmf
namespace Go.Proofs.Ytijkabnhedmimab
set_option linter.unusedVariables false
set_option linter.unusedSimpArgs false
open Go.RowKit
theorem PIn.new (w : World) (l : List Pt) : PIn (w.alloc (.cells (pcells l).toArray 39)) (some ⟨w.heap.size, 0, none⟩) l := by
  refine ⟨fun k p hk => ⟨w.heap.size, 0, rfl, by simp, ?_, ?_, ?_⟩⟩
  all_goals
    obtain ⟨c0, c1, c2⟩ := pcells_get hk
    have hr : (w.alloc (.cells (pcells l).toArray 39)).heap[w.heap.size]? = some (.cells (pcells l).toArray 39 (0, 0)) := heap_alloc_new _ _
    rw [cell_of_row _ _ _ _ _ _ hr, Nat.zero_add]
    simpa using (by assumption)
theorem n64_of {l : List Pt} (h : ∀ p ∈ l, p.n = 0 ∨ p.n = 1) : N64 l := fun p hp => by rcases h p hp with h | h <;> omega
theorem tx1 : wt [⟨1, [97], 0⟩, ⟨3, [], 1⟩] = [1, 97, 0, 0, 0, 0, 0, 0, 0, 1, 3, 127, 255, 255, 255, 255, 255, 255, 254] := by
  rw [wt_cons, wt_cons, wt_nil]
  have e1 : ptx ⟨1, [97], 0⟩ = [1, 97, 0, 0, 0, 0, 0, 0, 0, 1] := by
    show (1 : UInt8) :: grp [97] = _
    rw [grp_short (by decide)]; decide
  have e2 : ptx ⟨3, [], 1⟩ = [3, 127, 255, 255, 255, 255, 255, 255, 254] := by decide
  rw [e1, e2]; rfl
theorem tx2 : wt [⟨1, [97, 0], 0⟩] = [1, 97, 0, 0, 0, 0, 0, 0, 0, 2] := by
  rw [wt_cons, wt_nil]
  show (1 : UInt8) :: grp [97, 0] ++ [] = _
  rw [grp_short (by decide)]; decide
theorem tx3 : wt [⟨2, [], 0⟩] = [2, 128, 0, 0, 0, 0, 0, 0, 0] := by decide
theorem tx4 : ∀ l, okL l → ([1, 97, 98, 0, 0, 0, 0, 0, 0, 1] : List UInt8) ≠ wt l := by
  intro l hl e
  cases l with
  | nil => cases e
  | cons p l =>
    rw [wt_cons] at e
    exact head_no_text ((GI.start [97, 98, 0, 0, 0, 0, 0, 0, 1]).unfilled (c := 1) rfl (by decide) (by decide)) p _ hl.head e
theorem cW1 (w : World) : Calls Try.prog 9 #[.slice (some ⟨w.heap.size, 0, none⟩) 2 2] (w.alloc (.cells #[.int .i64 1, .string ⟨#[97]⟩, .int .i64 0, .int .i64 3, .string ⟨#[]⟩, .int .i64 1] 39))
    fun e w' => e = .returned (.tuple #[.string ⟨#[1, 97, 0, 0, 0, 0, 0, 0, 0, 1, 3, 127, 255, 255, 255, 255, 255, 255, 254]⟩, .int .i64 0]) ∧ Below w.heap.size w w' := by
  refine (write_any [⟨1, [97], 0⟩, ⟨3, [], 1⟩] _ _ 2 (PIn.new w _) (n64_of (by simp)) (by decide)).mono ?_
  rintro e w' ⟨rfl, hb⟩
  exact ⟨by rw [wrote_ok (by decide), tx1], ((Below.refl _ _).alloc (Nat.le_refl _) _).trans (hb.mono (by simp))⟩
theorem cW2 (w : World) : Calls Try.prog 9 #[.slice (some ⟨w.heap.size, 0, none⟩) 1 1] (w.alloc (.cells #[.int .i64 4, .string ⟨#[]⟩, .int .i64 0] 39))
    fun e w' => e = .returned (.tuple #[.string ⟨#[]⟩, .int .i64 1]) ∧ Below w.heap.size w w' := by
  refine (write_any [⟨4, [], 0⟩] _ _ 1 (PIn.new w _) (n64_of (by simp)) (by decide)).mono ?_
  rintro e w' ⟨rfl, hb⟩
  exact ⟨by rw [wrote_bad (by decide)], ((Below.refl _ _).alloc (Nat.le_refl _) _).trans (hb.mono (by simp))⟩
theorem cL1 (w : World) : Calls Try.prog 10 #[.slice (some ⟨w.heap.size, 0, none⟩) 1 1] (w.alloc (.cells #[.int .i64 2, .string ⟨#[]⟩, .int .i64 0] 39))
    fun e w' => e = .returned (.tuple #[.string ⟨#[2, 128, 0, 0, 0, 0, 0, 0, 0]⟩, .string ⟨#[2, 128, 0, 0, 0, 0, 0, 0, 0, 255]⟩, .int .i64 0]) ∧ Below w.heap.size w w' := by
  refine (limits_any [⟨2, [], 0⟩] _ _ 1 (PIn.new w _) (n64_of (by simp)) (by decide)).mono ?_
  rintro e w' ⟨rfl, hb⟩
  exact ⟨by rw [limited_ok (by decide), tx3]; rfl, ((Below.refl _ _).alloc (Nat.le_refl _) _).trans (hb.mono (by simp))⟩
theorem cR1 (w : World) : Calls Try.prog 13 #[.string ⟨#[1, 97, 0, 0, 0, 0, 0, 0, 0, 2]⟩] w fun e w' => ∃ a cap, e = .returned (.tuple #[.slice a 1 cap, .int .i64 0]) ∧ PIn w' a [⟨1, [97, 0], 0⟩] ∧ Below w.heap.size w w' := by
  refine (read_any [1, 97, 0, 0, 0, 0, 0, 0, 0, 2] w (by decide)).mono ?_
  rintro e w' ⟨h, hb⟩
  rcases h with ⟨v, l, hl, he, rfl, hO⟩ | ⟨hno, _⟩
  · have : l = [⟨1, [97, 0], 0⟩] := wt_inj hl (fun p hp => by simp at hp; subst hp; exact ⟨by decide, by decide, Or.inl ⟨rfl, rfl⟩⟩) (by rw [← he, tx2])
    subst this
    obtain ⟨a, cap, rfl, hP⟩ := hO.slice
    exact ⟨a, cap, rfl, hP, hb⟩
  · exact absurd tx2.symm (hno [⟨1, [97, 0], 0⟩] (fun p hp => by simp at hp; subst hp; exact ⟨by decide, by decide, Or.inl ⟨rfl, rfl⟩⟩))
theorem cR2 (w : World) : Calls Try.prog 13 #[.string ⟨#[1, 97, 98, 0, 0, 0, 0, 0, 0, 1]⟩] w fun e w' => e = .returned (.tuple #[.slice none 0 0, .int .i64 4]) ∧ Below w.heap.size w w' := by
  refine (read_any [1, 97, 98, 0, 0, 0, 0, 0, 0, 1] w (by decide)).mono ?_
  rintro e w' ⟨h, hb⟩
  rcases h with ⟨v, l, hl, he, rfl, hO⟩ | ⟨_, rfl⟩
  · exact absurd he (tx4 l hl)
  · exact ⟨rfl, hb⟩
attribute [local go_sem ↓] Go.wp_at_zero Go.wp_at_succ
set_option maxHeartbeats 1000000 in
theorem head_of (hC : CmpC) (w : World) : Calls Try.prog 4 #[] w fun e w' => e = .returned (.bool true) ∧ Below w.heap.size w w' := by
  go_enter Try.func4, Try.ntmps4
  go_wp2_with fail
  refine (cW1 _).mono ?_
  rintro e w1 ⟨rfl, hb1⟩
  dsimp only
  go_wp2_with fail
  refine (cR1 _).mono ?_
  rintro e w2 ⟨ad, cap, rfl, hP2, hb2⟩
  dsimp only
  go_wp2_with fail
  refine (cR2 _).mono ?_
  rintro e w3 ⟨rfl, hb3⟩
  dsimp only
  go_wp2_with fail
  refine (cW2 _).mono ?_
  rintro e w4 ⟨rfl, hb4⟩
  dsimp only
  go_wp2_with fail
  refine (cL1 _).mono ?_
  rintro e w5 ⟨rfl, hb5⟩
  dsimp only
  have hP5 := ((hP2.later hb3).later hb4).later hb5
  obtain ⟨b, off, rfl, hbl, c0, c1, c2⟩ := hP5.get 0 _ rfl
  simp only [Nat.zero_mul, Nat.add_zero] at c0 c1 c2
  have cC : Calls Try.prog 11 #[.slice none 0 0, .slice (some ⟨b, off, none⟩) 1 cap] w5 fun e w' => e = .returned (.int .i64 (-1)) ∧ Below w5.heap.size w5 w' :=
    compare_of hC [] [⟨1, [97, 0], 0⟩] w5 none (some ⟨b, off, none⟩) 0 cap ⟨fun k p hk => by simp at hk⟩ hP5 (by decide) (by decide)
  have HB : Below w.heap.size w w5 := below_seq (below_seq (below_seq (below_seq hb1 hb2) hb3) hb4) hb5
  have hcat : (⟨#[2, 128, 0, 0, 0, 0, 0, 0, 0]⟩ ++ ⟨#[255]⟩ : ByteArray).toList = [2, 128, 0, 0, 0, 0, 0, 0, 0, 255] := by
    have e : (⟨#[2, 128, 0, 0, 0, 0, 0, 0, 0]⟩ ++ ⟨#[255]⟩ : ByteArray) = ⟨#[2, 128, 0, 0, 0, 0, 0, 0, 0, 255]⟩ := cat_str [2, 128, 0, 0, 0, 0, 0, 0, 0] [255]
    rw [e]; exact str_toList _
  clear hP5 hP2 hb1 hb2 hb3 hb4 hb5
  go_wp2_with (go_at_call 11; refine cC.mono ?_; rintro e w6 ⟨rfl, hb6⟩)
  go_ret
  exact ⟨rfl, below_seq HB hb6⟩
end Go.Proofs.Ytijkabnhedmimab
