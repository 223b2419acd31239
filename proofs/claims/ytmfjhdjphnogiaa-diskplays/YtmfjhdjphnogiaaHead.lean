/- The examples that every statement asks first. -/
import Derived.Test.YtmfjhdjphnogiaaEnv
namespace Go.Proofs.Ytmfjhdjphnogiaa
set_option linter.unusedVariables false
set_option linter.unusedSimpArgs false
open Go.RowKit
def st1 : St := fresh 4
def st2 : St := (st1.write 1 (fl 97)).1
def st3 : St := st2.flush.1
def st4 : St := (st3.write 1 (fl 98)).1
def st5 : St := (st4.write 2 (fl 99)).1
def st6 : St := st5.crash [0, 9]
def st7 : St := st6.on
theorem e2 : st1.write 1 (fl 97) = (⟨List.replicate 4 (fl 0), [(1, fl 97)], false, false, 0⟩, 0) := by
  have h := fl_size 97
  simp [St.write, St.has, St.gone, St.went, st1, fresh, h]
theorem s2 : st2 = ⟨List.replicate 4 (fl 0), [(1, fl 97)], false, false, 0⟩ := by unfold st2; rw [e2]
theorem e3 : st2.flush = (⟨[fl 0, fl 97, fl 0, fl 0], [], false, false, 0⟩, 0) := by
  rw [s2]; simp [St.flush, St.gone, St.went, St.seen, lay, List.replicate]
theorem s3 : st3 = ⟨[fl 0, fl 97, fl 0, fl 0], [], false, false, 0⟩ := by unfold st3; rw [e3]
theorem e2a : st2.write 1 ⟨#[97]⟩ = (st2, 1) := by rw [s2]; simp [St.write, St.has, ByteArray.size]
theorem e4 : st3.write 1 (fl 98) = (⟨[fl 0, fl 97, fl 0, fl 0], [(1, fl 98)], false, false, 0⟩, 0) := by
  have h := fl_size 98
  rw [s3]; simp [St.write, St.has, St.gone, St.went, h]
theorem s4 : st4 = ⟨[fl 0, fl 97, fl 0, fl 0], [(1, fl 98)], false, false, 0⟩ := by unfold st4; rw [e4]
theorem e5 : st4.write 2 (fl 99) = (⟨[fl 0, fl 97, fl 0, fl 0], [(1, fl 98), (2, fl 99)], false, false, 0⟩, 0) := by
  have h := fl_size 99
  rw [s4]; simp [St.write, St.has, St.gone, St.went, h]
theorem s5 : st5 = ⟨[fl 0, fl 97, fl 0, fl 0], [(1, fl 98), (2, fl 99)], false, false, 0⟩ := by unfold st5; rw [e5]
theorem s6 : st6 = ⟨[fl 0, fl 98, fl 0, fl 0], [], true, false, 0⟩ := by
  unfold st6; rw [s5]; simp [St.crash, St.settle, layK]
theorem s7 : st7 = ⟨[fl 0, fl 98, fl 0, fl 0], [], false, false, 0⟩ := by
  unfold st7; rw [s6]; simp [St.on]
theorem r6 : st6.read 1 = (ByteArray.empty, 9) := by rw [s6]; simp [St.read]
theorem r71 : st7.read 1 = (fl 98, 0) := by rw [s7]; simp [St.read, St.has, St.seen, lay]
theorem r72 : st7.read 2 = (fl 0, 0) := by rw [s7]; simp [St.read, St.has, St.seen, lay]
set_option maxRecDepth 100000 in
theorem head_any (w : World) : Calls Try.prog 8 #[] w fun e w' => e = .returned (.bool true) ∧ Below w.heap.size w w' := by
  have E0 : Hid (EnvP w w []) := ⟨EnvP.nil w⟩
  have F97 : ∀ {w1 : World} {Ls : List (Th → Prop)}, EnvP w w1 Ls → Calls Try.prog 12 #[.int .u8 97] w1 fun e w' => e = .returned (.string (fl 97)) ∧ EnvP w w' Ls := fun h => full_env h 97 rfl
  have F98 : ∀ {w1 : World} {Ls : List (Th → Prop)}, EnvP w w1 Ls → Calls Try.prog 12 #[.int .u8 98] w1 fun e w' => e = .returned (.string (fl 98)) ∧ EnvP w w' Ls := fun h => full_env h 98 rfl
  have F99 : ∀ {w1 : World} {Ls : List (Th → Prop)}, EnvP w w1 Ls → Calls Try.prog 12 #[.int .u8 99] w1 fun e w' => e = .returned (.string (fl 99)) ∧ EnvP w w' Ls := fun h => full_env h 99 rfl
  have F00 : ∀ {w1 : World} {Ls : List (Th → Prop)}, EnvP w w1 Ls → Calls Try.prog 12 #[.int .u8 0] w1 fun e w' => e = .returned (.string (fl 0)) ∧ EnvP w w' Ls := fun h => full_env h 0 rfl
  have q2 : ∀ {w1 : World} {p : Nat}, EnvP w w1 [dk p st1] → Calls Try.prog 11 #[pt p, .int .i64 1, .string (fl 97)] w1 fun e w' => e = .returned (.int .i64 0) ∧ EnvP w w' [dk p st2] := fun h => write_env h 0 rfl 1 _ (by simp [st1, fresh]) (by rw [e2, s2])
  have q2a : ∀ {w1 : World} {p : Nat}, EnvP w w1 [dk p st2] → Calls Try.prog 11 #[pt p, .int .i64 1, .string ⟨#[97]⟩] w1 fun e w' => e = .returned (.int .i64 1) ∧ EnvP w w' [dk p st2] := fun h => write_env h 0 rfl 1 _ (by rw [s2]; simp) e2a
  have q3 : ∀ {w1 : World} {p : Nat}, EnvP w w1 [dk p st2] → Calls Try.prog 13 #[pt p] w1 fun e w' => e = .returned (.int .i64 0) ∧ EnvP w w' [dk p st3] := fun h => flush_env h 0 rfl (by rw [s2]; simp) (by rw [e3, s3])
  have q4 : ∀ {w1 : World} {p : Nat}, EnvP w w1 [dk p st3] → Calls Try.prog 11 #[pt p, .int .i64 1, .string (fl 98)] w1 fun e w' => e = .returned (.int .i64 0) ∧ EnvP w w' [dk p st4] := fun h => write_env h 0 rfl 1 _ (by rw [s3]; simp) (by rw [e4, s4])
  have q5 : ∀ {w1 : World} {p : Nat}, EnvP w w1 [dk p st4] → Calls Try.prog 11 #[pt p, .int .i64 2, .string (fl 99)] w1 fun e w' => e = .returned (.int .i64 0) ∧ EnvP w w' [dk p st5] := fun h => write_env h 0 rfl 2 _ (by rw [s4]; simp) (by rw [e5, s5])
  have q6 : ∀ {w1 : World} {p : Nat}, EnvP w w1 [dk p st5] → Calls Try.prog 20 #[pt p] w1 fun e w' => e = .returned (.int .i64 2) ∧ w' = w1 := fun h => pending_env h 0 rfl (by rw [s5]; rfl)
  have q7 : ∀ {w1 : World} {p : Nat}, EnvP w w1 [dk p st5] → Calls Try.prog 15 #[pt p, .slice (some ⟨w1.heap.size, 0, none⟩) 2 2] (w1.alloc (.cells #[.int .i64 0, .int .i64 9] 3)) fun e w' => e = .returned (.tuple #[]) ∧ EnvP w w' [dk p st6] := fun {w1} {p} h => crash_env (h.drop _) 0 rfl (some ⟨w1.heap.size, 0, none⟩) 2 [0, 9] (by rw [s5]; simp) (by simp) ⟨fun k z hk => by
    have hb : (w1.alloc (.cells #[.int .i64 0, .int .i64 9] 3)).heap[w1.heap.size]? = some (.cells #[.int .i64 0, .int .i64 9] 3 (0, 0)) := heap_alloc_new w1 _
    refine ⟨w1.heap.size, 0, rfl, by simp, ?_, ?_⟩
    · rw [cell_of_row _ _ _ _ _ (0, 0) hb]
      match k, hk with
      | 0, hk => simp at hk ⊢; exact hk
      | 1, hk => simp at hk ⊢; exact hk
    · match k, hk with
      | 0, hk => simp at hk; omega
      | 1, hk => simp at hk; omega⟩
  have q8 : ∀ {w1 : World} {p : Nat}, EnvP w w1 [dk p st6] → Calls Try.prog 17 #[pt p, .int .i64 1] w1 fun e w' => e = .returned (.tuple #[.string ByteArray.empty, .int .i64 9]) ∧ EnvP w w' [dk p st6] := fun h => read_env h 0 rfl 1 r6
  have q9 : ∀ {w1 : World} {p : Nat}, EnvP w w1 [dk p st6] → Calls Try.prog 18 #[pt p] w1 fun e w' => e = .returned (.bool true) ∧ w' = w1 := fun h => off_env h 0 rfl (by rw [s6])
  have q10 : ∀ {w1 : World} {p : Nat}, EnvP w w1 [dk p st6] → Calls Try.prog 16 #[pt p] w1 fun e w' => e = .returned (.tuple #[]) ∧ EnvP w w' [dk p st7] := fun h => on_env h 0 rfl (by rw [s6]; simp)
  have q11 : ∀ {w1 : World} {p : Nat}, EnvP w w1 [dk p st7] → Calls Try.prog 17 #[pt p, .int .i64 1] w1 fun e w' => e = .returned (.tuple #[.string (fl 98), .int .i64 0]) ∧ EnvP w w' [dk p st7] := fun h => read_env h 0 rfl 1 r71
  have q12 : ∀ {w1 : World} {p : Nat}, EnvP w w1 [dk p st7] → Calls Try.prog 17 #[pt p, .int .i64 2] w1 fun e w' => e = .returned (.tuple #[.string (fl 0), .int .i64 0]) ∧ EnvP w w' [dk p st7] := fun h => read_env h 0 rfl 2 r72
  have q13 : ∀ {w1 : World} {p : Nat}, EnvP w w1 [dk p st7] → Calls Try.prog 20 #[pt p] w1 fun e w' => e = .returned (.int .i64 0) ∧ w' = w1 := fun h => pending_env h 0 rfl (by rw [s7]; rfl)
  have q1 : ∀ {w1 : World} {p : Nat}, EnvP w w1 [dk p st1] → Calls Try.prog 27 #[pt p] w1 fun e w' => e = .returned (.int .i64 4) ∧ w' = w1 := fun h => sectors_env h 0 rfl (by simp [st1, fresh])
  generalize fl 97 = T97 at *
  generalize fl 98 = T98 at *
  generalize fl 99 = T99 at *
  generalize fl 0 = T0 at *
  go_enter Try.func8, Try.ntmps8
  go_wp2_with fail
  refine (new_env E0.out 4 (by omega) (by omega)).mono ?_
  rintro e w1 ⟨p, rfl, h1⟩
  have E1 : Hid (EnvP w w1 [dk p st1]) := ⟨h1⟩
  clear h1 E0
  dsimp only
  go_wp2_with fail
  refine (new_bad 0 _ (by omega)).mono ?_
  rintro e w' ⟨rfl, hw⟩
  subst w'
  dsimp only
  go_wp2_with fail
  refine (q1 E1.out).mono ?_
  rintro e w' ⟨rfl, hw⟩
  subst w'
  dsimp only
  go_wp2_with fail
  refine (F97 E1.out).mono ?_
  rintro e w2 ⟨rfl, h2⟩
  dsimp only
  go_wp2_with fail
  refine (q2 h2).mono ?_
  rintro e w3 ⟨rfl, h3⟩
  dsimp only
  go_wp2_with fail
  refine (q2a h3).mono ?_
  rintro e w4 ⟨rfl, h4⟩
  dsimp only
  go_wp2_with fail
  refine (q3 h4).mono ?_
  rintro e w5 ⟨rfl, h5⟩
  dsimp only
  go_wp2_with fail
  refine (F98 h5).mono ?_
  rintro e w6 ⟨rfl, h6⟩
  dsimp only
  go_wp2_with fail
  refine (q4 h6).mono ?_
  rintro e w7 ⟨rfl, h7⟩
  dsimp only
  go_wp2_with fail
  refine (F99 h7).mono ?_
  rintro e w8 ⟨rfl, h8⟩
  dsimp only
  go_wp2_with fail
  refine (q5 h8).mono ?_
  rintro e w9 ⟨rfl, h9⟩
  dsimp only
  go_wp2_with fail
  refine (q6 h9).mono ?_
  rintro e w' ⟨rfl, hw⟩
  subst w'
  dsimp only
  go_wp2_with fail
  refine (q7 h9).mono ?_
  rintro e w10 ⟨rfl, h10⟩
  dsimp only
  go_wp2_with fail
  refine (q8 h10).mono ?_
  rintro e w11 ⟨rfl, h11⟩
  dsimp only
  go_wp2_with fail
  refine (q9 h11).mono ?_
  rintro e w' ⟨rfl, hw⟩
  subst w'
  dsimp only
  go_wp2_with fail
  refine (q10 h11).mono ?_
  rintro e w12 ⟨rfl, h12⟩
  dsimp only
  go_wp2_with fail
  refine (q11 h12).mono ?_
  rintro e w13 ⟨rfl, h13⟩
  dsimp only
  go_wp2_with fail
  refine (q12 h13).mono ?_
  rintro e w14 ⟨rfl, h14⟩
  dsimp only
  go_wp2_with fail
  refine (F98 h14).mono ?_
  rintro e w15 ⟨rfl, h15⟩
  dsimp only
  go_wp2_with fail
  refine (F00 h15).mono ?_
  rintro e w16 ⟨rfl, h16⟩
  dsimp only
  go_wp2_with fail
  refine (q13 h16).mono ?_
  rintro e w' ⟨rfl, hw⟩
  subst w'
  dsimp only
  go_wp2
  go_ret
  exact ⟨rfl, h16.bel⟩
end Go.Proofs.Ytmfjhdjphnogiaa
