/- first: the chapter's examples. -/
import Derived.Test.YtehjhlaeojmciaaWid
namespace Go.Proofs.Ytehjhlaeojmciaa
set_option linter.unusedVariables false
set_option linter.unusedSimpArgs false
open Go.RowKit
attribute [local go_sem ↓] Go.wp_at_zero Go.wp_at_succ
def exL : List En := [⟨[97], [120]⟩, ⟨[97, 98], []⟩]
def exM : List En := [⟨[98], []⟩, ⟨[97], []⟩]
def exV : List En := [⟨[110], [118, 118]⟩]
theorem sl_new {w : World} (l : List En) (h : l.length ≤ 1000) : Sl (w.alloc (.cells (pcells l).toArray 27)) (some ⟨w.heap.size, 0, none⟩) l.length l := by
  have hg : (w.alloc (.cells (pcells l).toArray 27)).heap[w.heap.size]? = some (.cells (pcells l).toArray 27 (0, 0)) := heap_alloc_new _ _
  refine ⟨⟨fun k p hk => ?_⟩, Nat.le_refl _, by omega, fun q => by cases q⟩
  obtain ⟨c0, c1⟩ := pcells_get hk
  refine ⟨w.heap.size, 0, rfl, by simp, ?_, ?_⟩
  · rw [Nat.zero_add, cell_of_row _ _ _ _ _ _ hg]; simpa using c0
  · rw [Nat.zero_add, cell_of_row _ _ _ _ _ _ hg]; simpa using c1
theorem prb_t {p : En} (h : smN p.key 16 = true) (h2 : p.val.length ≤ 64) : prb p = true := by unfold prb; rw [h, decide_eq_true h2]; rfl
theorem smn_ex : smN [45, 57, 122] 32 = true ∧ smN [65] 32 = false ∧ smN [97] 16 = true ∧ smN [97, 98] 16 = true ∧ smN [98] 16 = true ∧ smN [110] 16 = true := by decide
theorem ex1 : bkt [45, 57, 122] = 0 := by unfold bkt; rw [if_pos smn_ex.1]
theorem ex2 : bkt [65] = 60 := by unfold bkt; rw [if_neg (by rw [smn_ex.2.1]; decide)]
theorem ex3 : keyE [] = 61 := by unfold keyE; rw [if_neg (by simp)]
theorem ex4 : datE [] = 0 := by unfold datE; rw [if_pos (by simp)]
theorem srt_one (p : En) : Srt [p] := List.pairwise_singleton _ _
theorem ex5 : mtE exL = 0 := by
  unfold mtE
  rw [if_pos]
  refine ⟨by decide, ?_, ?_⟩
  · intro p hp
    simp only [exL, List.mem_cons, List.not_mem_nil, or_false] at hp
    rcases hp with rfl | rfl
    · exact prb_t smn_ex.2.2.1 (by decide)
    · exact prb_t smn_ex.2.2.2.1 (by decide)
  · unfold Srt exL; simp [lt, bcmp]
theorem ex6 : mtE exM = 62 := mtE_ord (k := 1) (p := ⟨[98], []⟩) (q := ⟨[97], []⟩) (by omega) rfl rfl (by simp [lt, bcmp])
theorem ex7 : vsz [97, 98] [99] exV = 38 := by
  unfold vsz
  rw [show tt exV = 3 from rfl]
  show wrap64 38 = 38
  unfold wrap64
  omega
theorem exVm : mtE exV = 0 := by
  unfold mtE
  rw [if_pos]
  refine ⟨by decide, ?_, srt_one _⟩
  intro p hp
  simp only [exV, List.mem_cons, List.not_mem_nil, or_false] at hp
  subst hp
  exact prb_t smn_ex.2.2.2.2.2 (by decide)
theorem ex8 : vrE [97, 98] false [99] exV = 0 := by
  unfold vrE
  rw [if_neg (by unfold keyE; simp), if_neg (by unfold datE; simp), if_neg (by simp), exVm]
theorem ex9 : vrE [107] true [100] [] = 63 := by
  unfold vrE
  rw [if_neg (by unfold keyE; simp), if_pos (.inl (by simp))]
set_option maxHeartbeats 4000000 in
theorem first_any (w : World) : Calls Try.prog 9 #[] w fun e w' => e = .returned (.bool true) ∧ Below w.heap.size w w' := by
  have h1 := fun w => bucket_any [45, 57, 122] w
  have h2 := fun w => bucket_any [65] w
  have h3 := fun w => key_any [] w
  have h4 := fun w => data_any [] w
  rw [ex1] at h1
  rw [ex2] at h2
  rw [ex3] at h3
  rw [ex4] at h4
  have sL : Sl (w.alloc (.cells #[str [97], str [120], str [97, 98], str []] 27)) (some ⟨w.heap.size, 0, none⟩) 2 exL := sl_new exL (by decide)
  have sM : Sl ((w.alloc (.cells #[str [97], str [120], str [97, 98], str []] 27)).alloc (.cells #[str [98], str [], str [97], str []] 27)) (some ⟨w.heap.size + 1, 0, none⟩) 2 exM := by
    have := sl_new (w := w.alloc (.cells #[str [97], str [120], str [97, 98], str []] 27)) exM (by decide)
    rw [World.size_alloc] at this
    exact this
  have sV : Sl (((w.alloc (.cells #[str [97], str [120], str [97, 98], str []] 27)).alloc (.cells #[str [98], str [], str [97], str []] 27)).alloc (.cells #[str [110], str [118, 118]] 27)) (some ⟨w.heap.size + 1 + 1, 0, none⟩) 1 exV := by
    have := sl_new (w := (w.alloc (.cells #[str [97], str [120], str [97, 98], str []] 27)).alloc (.cells #[str [98], str [], str [97], str []] 27)) exV (by decide)
    rw [World.size_alloc, World.size_alloc] at this
    exact this
  have pL := ((sL.later ((Below.refl _ _).alloc (Nat.le_refl _) (.cells #[str [98], str [], str [97], str []] 27))).later ((Below.refl _ _).alloc (Nat.le_refl _) (.cells #[str [110], str [118, 118]] 27))).later ((Below.refl _ _).alloc (Nat.le_refl _) (.cells #[str [97, 98], .int .i64 0, .bool false, str [99], .slice (some ⟨w.heap.size + 1 + 1, 0, none⟩) 1 1] 32))
  have pM := (sM.later ((Below.refl _ _).alloc (Nat.le_refl _) (.cells #[str [110], str [118, 118]] 27))).later ((Below.refl _ _).alloc (Nat.le_refl _) (.cells #[str [97, 98], .int .i64 0, .bool false, str [99], .slice (some ⟨w.heap.size + 1 + 1, 0, none⟩) 1 1] 32))
  have pV := sV.later ((Below.refl _ _).alloc (Nat.le_refl _) (.cells #[str [97, 98], .int .i64 0, .bool false, str [99], .slice (some ⟨w.heap.size + 1 + 1, 0, none⟩) 1 1] 32))
  have xb : ∀ w1, Below ((((w.alloc (.cells #[str [97], str [120], str [97, 98], str []] 27)).alloc (.cells #[str [98], str [], str [97], str []] 27)).alloc (.cells #[str [110], str [118, 118]] 27)).alloc (.cells #[str [97, 98], .int .i64 0, .bool false, str [99], .slice (some ⟨w.heap.size + 1 + 1, 0, none⟩) 1 1] 32)).heap.size ((((w.alloc (.cells #[str [97], str [120], str [97, 98], str []] 27)).alloc (.cells #[str [98], str [], str [97], str []] 27)).alloc (.cells #[str [110], str [118, 118]] 27)).alloc (.cells #[str [97, 98], .int .i64 0, .bool false, str [99], .slice (some ⟨w.heap.size + 1 + 1, 0, none⟩) 1 1] 32)) w1 → w1.cell? ⟨w.heap.size + 1 + 1 + 1, 0, none⟩ = some (str [97, 98]) ∧ w1.cell? ⟨w.heap.size + 1 + 1 + 1, 1, none⟩ = some (.int .i64 0) ∧ w1.cell? ⟨w.heap.size + 1 + 1 + 1, 2, none⟩ = some (.bool false) ∧ w1.cell? ⟨w.heap.size + 1 + 1 + 1, 3, none⟩ = some (str [99]) ∧ w1.cell? ⟨w.heap.size + 1 + 1 + 1, 4, none⟩ = some (.slice (some ⟨w.heap.size + 1 + 1, 0, none⟩) 1 1) := fun w1 h => by
    have := box5 h
    rw [World.size_alloc, World.size_alloc, World.size_alloc] at this
    exact this
  have HB : Hid (Below w.heap.size w ((((w.alloc (.cells #[str [97], str [120], str [97, 98], str []] 27)).alloc (.cells #[str [98], str [], str [97], str []] 27)).alloc (.cells #[str [110], str [118, 118]] 27)).alloc (.cells #[str [97, 98], .int .i64 0, .bool false, str [99], .slice (some ⟨w.heap.size + 1 + 1, 0, none⟩) 1 1] 32))) := ⟨((((Below.refl _ _).alloc (Nat.le_refl _) _).alloc (by simp) _).alloc (by simp; omega) _).alloc (by simp; omega) _⟩
  clear sL sM sV
  go_enter Try.func9, Try.ntmps9
  go_wp2_with fail
  generalize (((w.alloc (.cells #[str [97], str [120], str [97, 98], str []] 27)).alloc (.cells #[str [98], str [], str [97], str []] 27)).alloc (.cells #[str [110], str [118, 118]] 27)).alloc (.cells #[str [97, 98], .int .i64 0, .bool false, str [99], .slice (some ⟨w.heap.size + 1 + 1, 0, none⟩) 1 1] 32) = W4 at *
  generalize w.heap.size + 1 + 1 + 1 = gv at *
  generalize w.heap.size + 1 + 1 = gn at *
  generalize w.heap.size + 1 = gm at *
  with_reducible refine Calls.mono (h1 _) ?_
  rintro e w1 ⟨rfl, b1⟩
  dsimp only
  go_wp2_with fail
  with_reducible refine Calls.mono (h2 _) ?_
  rintro e w2 ⟨rfl, b2⟩
  dsimp only
  have B2 := below_seq b1 b2
  go_wp2_with fail
  with_reducible refine Calls.mono (h3 _) ?_
  rintro e w3 ⟨rfl, rfl⟩
  dsimp only
  go_wp2_with fail
  with_reducible refine Calls.mono (h4 _) ?_
  rintro e w4 ⟨rfl, rfl⟩
  dsimp only
  have h5 := meta_any exL w4 (some ⟨w.heap.size, 0, none⟩) 2 2 rfl (pL.later B2).at' (by decide)
  rw [ex5] at h5
  clear b1 b2 h1 h2 h3 h4
  go_wp2_with fail
  with_reducible refine Calls.mono h5 ?_
  rintro e w5 ⟨rfl, b5⟩
  dsimp only
  have B5 := below_seq B2 b5
  have h6 := meta_any exM w5 (some ⟨gm, 0, none⟩) 2 2 rfl (pM.later B5).at' (by decide)
  rw [ex6] at h6
  clear b5 B2 h5
  go_wp2_with fail
  with_reducible refine Calls.mono h6 ?_
  rintro e w6 ⟨rfl, b6⟩
  dsimp only
  have B6 := below_seq B5 b6
  obtain ⟨x0, x1, x2, x3, x4⟩ := xb w6 B6
  have h7 := size_any [97, 98] 0 false [99] exV w6 (some ⟨gn, 0, none⟩) 1 1 rfl (pV.later B6).at' (by decide)
  rw [ex7] at h7
  clear b6 B5 h6
  go_wp2_with fail
  with_reducible refine Calls.mono h7 ?_
  rintro e w7 ⟨rfl, b7⟩
  dsimp only
  have B7 := below_seq B6 b7
  obtain ⟨y0, y1, y2, y3, y4⟩ := xb w7 B7
  have h8 := version_any [97, 98] 0 false [99] exV w7 (some ⟨gn, 0, none⟩) 1 1 rfl (pV.later B7).at' (by decide)
  rw [ex8] at h8
  clear b7 B6 h7 x0 x1 x2 x3 x4
  go_wp2_with fail
  with_reducible refine Calls.mono h8 ?_
  rintro e w8 ⟨rfl, b8⟩
  dsimp only
  have B8 := below_seq B7 b8
  have h9 := version_any [107] 0 true [100] [] w8 none 0 0 rfl ⟨fun k p hk => by simp at hk⟩ (by decide)
  rw [ex9] at h9
  clear b8 B7 h8 y0 y1 y2 y3 y4
  go_wp2_with fail
  with_reducible refine Calls.mono h9 ?_
  rintro e w9 ⟨rfl, b9⟩
  dsimp only
  go_wp2_with fail
  go_ret
  exact ⟨rfl, HB.out.trans ((below_seq B8 b9).mono HB.out.size)⟩
end Go.Proofs.Ytehjhlaeojmciaa
