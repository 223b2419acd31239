/- The law's own: made, Zeros, wrote. -/
import Derived.Test.YtlgpodcoiioefaaGreatAll
namespace Go.Proofs.YtlgpodcoiioefaaGreat
set_option linter.unusedVariables false
set_option linter.unusedSimpArgs false
open Go.RowKit Go.Maps
variable {w0 w : World} {Ls rest : List (Th → Prop)} {q p s : Nat} {st : St}
/-- is there a log of this size on a disk of so many sectors? -/
def good (n z : Int) : Prop := n ≤ 8192 ∧ 4 ≤ z ∧ z < n
set_option maxRecDepth 100000 in
theorem made_bad (h : EnvP w0 w Ls) (n z : Int) (hg : ¬ good n z) : Calls Tryz.prog 5 #[.int .i64 n, .int .i64 z] w fun e w' => e = .returned (.tuple #[.pointer none, .pointer none]) ∧ EnvP w0 w' Ls := by
  have H : Hid (EnvP w0 w Ls) := ⟨h⟩
  by_cases h1 : n < 1 ∨ 8192 < n
  · have qN := new_bad n w h1
    clear h h1
    go_enter Tryz.func5, Tryz.ntmps5
    go_wp2_with fail
    refine qN.mono ?_
    rintro e w1 ⟨rfl, rfl⟩
    dsimp only
    go_wp2
    go_ret2
    exact ⟨rfl, H.out⟩
  · obtain ⟨N, rfl⟩ : ∃ N : Nat, n = N := ⟨n.toNat, by omega⟩
    have qN := new_env h N (by omega) (by omega)
    have qO : Hid (∀ w5 p, EnvP w0 w5 (Ls ++ [dk p (fresh N)]) → Calls Tryz.prog 20 #[pt p, .int .i64 z] w5 fun e w' => e = .returned (.tuple #[.pointer none, .int .i64 1]) ∧ EnvP w0 w' Ls) := ⟨fun w5 p h5 => by
      refine (open_bad h5.front rfl z (by rw [show (fresh N).safe.length = N by simp [fresh]]; unfold good at hg; omega)).mono ?_
      rintro e w' ⟨rfl, h6⟩
      exact ⟨rfl, h6.tail⟩⟩
    clear h h1
    go_enter Tryz.func5, Tryz.ntmps5
    go_wp2_with fail
    refine qN.mono ?_
    rintro e w1 ⟨p, rfl, h1⟩
    have E1 := qO.out w1 p h1
    clear h1
    dsimp only
    go_wp2_with fail
    refine E1.mono ?_
    rintro e w2 ⟨rfl, h2⟩
    dsimp only
    go_wp2
    go_ret2
    exact ⟨rfl, h2⟩
set_option maxRecDepth 100000 in
theorem made_good (h : EnvP w0 w Ls) (N s : Nat) (h8 : N ≤ 8192) (h4 : 4 ≤ s) (hs : s < N) : Calls Tryz.prog 5 #[.int .i64 (N : Int), .int .i64 (s : Int)] w fun e w' => ∃ q p st, e = .returned (.tuple #[pt q, pt p]) ∧ EnvP w0 w' (lg q p s false :: dk p st :: Ls) ∧ OKst NN st N s (List.replicate (N - s) (fl 0)) ∧ st.fall = 0 := by
  have H : Hid (EnvP w0 w Ls) := ⟨h⟩
  have qN := new_env h N (by omega) (by omega)
  have qO : Hid (∀ w5 p, EnvP w0 w5 (Ls ++ [dk p (fresh N)]) → Calls Tryz.prog 20 #[pt p, .int .i64 (s : Int)] w5 fun e w' => ∃ q st', e = .returned (.tuple #[pt q, .int .i64 0]) ∧ EnvP w0 w' (lg q p s false :: dk p st' :: Ls) ∧ OKst NN st' N s (List.replicate (N - s) (fl 0)) ∧ st'.fall = 0) := ⟨fun w5 p h5 => by
    refine (open_rec h5.front rfl rfl rfl h4 (n := N) (by simp [fresh]) hs (rec_fresh N s (by omega))).mono ?_
    rintro e w' (⟨q, st', rfl, h6, ok, hf⟩ | ⟨st', _, _, _, hf⟩)
    · exact ⟨q, st', rfl, h6, ok, hf rfl⟩
    · exact absurd rfl hf⟩
  have qB : Hid (∀ q p st' w5, EnvP w0 w5 (lg q p s false :: dk p st' :: Ls) → OKst NN st' N s (List.replicate (N - s) (fl 0)) → Calls Tryz.prog 7 #[pt q] w5 fun e w' => e = .returned (.int .i64 ((N - s : Nat) : Int)) ∧ ∃ k, w' = w5.drewN k) := ⟨fun q p st' w5 h5 ok => by
    have := blocks_env h5 (by rw [ok.len]; omega)
    rw [ok.len] at this
    have e : ((N - s : Nat) : Int) = (N : Int) - (s : Int) := by omega
    rw [e]; exact this⟩
  have hns : ¬ (((N - s : Nat) : Int) < 1) := by omega
  clear h
  go_enter Tryz.func5, Tryz.ntmps5
  go_wp2_with fail
  refine qN.mono ?_
  rintro e w1 ⟨p, rfl, h1⟩
  have E1 := qO.out w1 p h1
  clear h1
  dsimp only
  go_wp2_with fail
  refine E1.mono ?_
  rintro e w2 ⟨q, st', rfl, h2, ok, hf⟩
  have E2 := qB.out q p st' w2 h2 ok
  have H2 : Hid (EnvP w0 w2 (lg q p s false :: dk p st' :: Ls)) := ⟨h2⟩
  have K2 : Hid (OKst NN st' N s (List.replicate (N - s) (fl 0)) ∧ st'.fall = 0) := ⟨ok, hf⟩
  clear h2 ok hf
  generalize hNs : N - s = m at *
  dsimp only
  go_wp2_with fail
  refine E2.mono ?_
  rintro e w3 ⟨rfl, k, rfl⟩
  dsimp only
  go_wp2
  go_ret2
  exact ⟨q, p, st', rfl, H2.out.drewN k, by rw [hNs]; exact K2.out.1, K2.out.2⟩
theorem made_b (m : Nat) (w : World) (hm : m ≤ 1000) : ∃ w', (Instr.makeSlice 69 (.int .i64 (m : Int)) (.int .i64 (m : Int))).run Tryz.prog w = .ok (.slice (some ⟨w.heap.size, 0, none⟩) m m) w' ∧ (convert 69 9 (.slice (some ⟨w.heap.size, 0, none⟩) m m)).run Tryz.prog w' = .ok (.string ⟨(List.replicate m (0 : UInt8)).toArray⟩) w' ∧ Below w.heap.size w w' := by
  obtain ⟨i0, hi0, hz0, hz1, hz2⟩ := info5
  obtain ⟨w', a, b, c⟩ := run_makeSlice_full (P := Tryz.prog) w 0 69 5 i0 _ 1 Tryz.underlying69 hi0 hz0 hz1 .i64 .i64 m (by omega) (by rw [hz2]; omega) (by unfold maxLen; omega) (Nat.zero_le _)
  refine ⟨w', a, ?_, (Below.refl _ _).grown c (Nat.le_refl _) (fun k hk => by cases hk)⟩
  have e : (madeCells (Value.int .u8 0).cells (m * 1)).toList = vals (List.replicate m 0) := by
    show (madeCells #[Value.int .u8 0] (m * 1)).toList = _
    rw [toList_madeCells_one, Nat.mul_one]; simp [vals]
  rw [e] at b
  have := conv_own (base := 0) (w := w') (v := .slice (some ⟨w.heap.size, 0, none⟩) m m) (l := List.replicate m 0) (by rw [List.length_replicate]; exact b)
  exact this
set_option maxRecDepth 100000 in
theorem zeros_any (w : World) : Calls Tryz.prog 18 #[] w fun e w' => e = .returned (.string (fl 0)) ∧ Below w.heap.size w w' := by
  obtain ⟨w1, hmk, hcv, b1⟩ := made_b 512 w (by omega)
  have hmk' : (Instr.makeSlice 69 (.int .i64 512) (.int .i64 512)).run Tryz.prog w = .ok (.slice (some ⟨w.heap.size, 0, none⟩) 512 512) w1 := hmk
  have hcv' : (convert 69 9 (.slice (some ⟨w.heap.size, 0, none⟩) 512 512)).run Tryz.prog w1 = .ok (.string (fl 0)) w1 := hcv
  generalize fl 0 = F at *
  clear hmk hcv
  go_enter Tryz.func18, Tryz.ntmps18
  go_wp2
  go_ret
  exact ⟨rfl, b1⟩
end Go.Proofs.YtlgpodcoiioefaaGreat
