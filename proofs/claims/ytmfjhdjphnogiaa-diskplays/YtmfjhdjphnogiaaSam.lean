/- same: all sectors and looks of the two. -/
import Derived.Test.YtmfjhdjphnogiaaRefN
namespace Go.Proofs.Ytmfjhdjphnogiaa
set_option linter.unusedVariables false
set_option linter.unusedSimpArgs false
open Go.RowKit
theorem RefAt.below {w w' : World} {R : Rk} {st : St} (h : RefAt w R st) (b : Below w.heap.size w w') : RefAt w' R st := ⟨h.wf, h.raw.below b⟩
set_option maxRecDepth 100000 in
theorem same_any (D : Dk) (R : Rk) (st : St) (w : World) (hd : DiskAt w D st) (hr : RefAt w R st) (hpl : st.pend.length ≤ 9000000000000) : Calls Try.prog 26 #[pt D.p, pt R.p] w fun e w' => e = .returned (.bool true) ∧ Below w.heap.size w w' := by
  have H : Hid (DiskAt w D st ∧ RefAt w R st) := ⟨hd, hr⟩
  have HW : Hid (st.safe.length ≤ 8192) := ⟨hd.wf.hi⟩
  clear hd hr
  go_enter Try.func26, Try.ntmps26
  go_wp2_with (first
    | (go_at_call 18; refine (off_any D st _ H.out.1).mono ?_; rintro e w' ⟨rfl, hw⟩; subst w')
    | (go_at_call 43; refine (rOff_any R st _ H.out.2).mono ?_; rintro e w' ⟨rfl, hw⟩; subst w')
    | (go_at_call 20; refine (pending_any D st _ H.out.1).mono ?_; rintro e w' ⟨rfl, hw⟩; subst w')
    | (go_at_call 44; refine (rPending_any R st _ H.out.2).mono ?_; rintro e w' ⟨rfl, hw⟩; subst w')
    | (go_at_call 27; refine (sectors_any D st _ H.out.1).mono ?_; rintro e w' ⟨rfl, hw⟩; subst w')
    | (go_at_call 45; refine (rSectors_any R st _ H.out.2).mono ?_; rintro e w' ⟨rfl, hw⟩; subst w'))
  go_loopw [5] (fun i wr => ∃ k : Nat, k ≤ st.safe.length + 2 ∧ i = .int .i64 ((k : Int) - 1) ∧ Hid ((DiskAt wr D st ∧ RefAt wr R st) ∧ Below w.heap.size w wr)) (fun i _ => st.safe.length + 2 - (intOf i + 1).toNat)
  case atStart => exact ⟨0, Nat.zero_le _, by go_num, ⟨H.out, Below.refl _ _⟩⟩
  case round =>
    obtain ⟨k, hk, rfl, Q⟩ := hrel
    have hhi : st.safe.length ≤ 8192 := HW.out
    obtain ⟨i, hi0⟩ : ∃ i : Int, i = (k : Int) - 1 := ⟨_, rfl⟩
    rw [← hi0]
    have HI : Hid (i = (k : Int) - 1) := ⟨hi0⟩
    by_cases hlt : k < st.safe.length + 2
    · have hi : i ≤ (st.safe.length : Int) := by omega
      have hw1 : wrap64 (i + 1) = i + 1 := by unfold wrap64; omega
      clear hi0
      go_wp2_with (go_at_call 45; refine (rSectors_any R st _ Q.out.1.2).mono ?_; rintro e w' ⟨rfl, hw⟩; subst w')
      refine (read_any D st i _ Q.out.1.1).mono ?_
      rintro e w1 ⟨rfl, b1⟩
      have Q1 : Hid ((DiskAt w1 D st ∧ RefAt w1 R st) ∧ Below w.heap.size w w1) := ⟨⟨Q.out.1.1.below b1, Q.out.1.2.below b1⟩, Q.out.2.trans (b1.mono Q.out.2.size)⟩
      have rr := fun w' (h : RefAt w' R st) => rRead_any R st i w' h hpl
      generalize (st.read i).1 = t at *
      generalize (st.read i).2 = er at *
      dsimp only
      go_wp2_with (go_at_call 36; refine (rr _ Q1.out.1.2).mono ?_; rintro e w' ⟨rfl, hw⟩; subst w')
      go_roundw
      case rel => exact ⟨k + 1, by omega, by have := HI.out; congr 1; omega, Q1⟩
      case measure => have := HI.out; simp [intOf]; omega
    · have hi : ¬ (i ≤ (st.safe.length : Int)) := by omega
      clear hi0
      go_wp2_with (go_at_call 45; refine (rSectors_any R st _ Q.out.1.2).mono ?_; rintro e w' ⟨rfl, hw⟩; subst w')
      go_ret
      exact ⟨rfl, Q.out.2⟩
end Go.Proofs.Ytmfjhdjphnogiaa
