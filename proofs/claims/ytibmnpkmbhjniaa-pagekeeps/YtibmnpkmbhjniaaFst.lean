/- first: the chapter's examples. -/
import Derived.Test.YtibmnpkmbhjniaaBak
import Derived.Test.YtibmnpkmbhjniaaCut
import Derived.Test.YtibmnpkmbhjniaaLawc
namespace Go.Proofs.Ytibmnpkmbhjniaa
set_option linter.unusedVariables false
set_option linter.unusedSimpArgs false
open Go.RowKit
attribute [local go_sem ↓] Go.wp_at_zero Go.wp_at_succ
attribute [local go_sem ↓] slPe sl9
def ea : En := ⟨[97], [120, 121]⟩
def l2 : List En := [⟨[97], [49]⟩, ⟨[99], [50]⟩]
def l3 : List En := [⟨[97], [49]⟩, ⟨[98], [51]⟩, ⟨[99], [50]⟩]
theorem fltA : flt 1 258 [ea] = 0 := by
  unfold flt
  rw [if_neg (by omega), if_neg (by decide), if_pos (srtb_true (List.pairwise_singleton _ _))]
theorem srt2 : Srt l2 := by unfold Srt l2; simp [lt, bcmp]
theorem fnd2 : fnd l2 [99] = 1 ∧ hit l2 [99] = true := by decide
theorem put2 : put l2 [98] [51] = l3 := by rfl
theorem del2 : del l2 [97] = [⟨[99], [50]⟩] ∧ hit l2 [97] = true := ⟨by rfl, by decide⟩
theorem cut3 : cutw l3 = 1 := by rw [cutw_cn (by decide)]; decide
theorem blkA : (blk 1 258 [ea]).take 12 = [1, 1, 2, 0, 1, 1, 2, 97, 120, 121, 0, 0] := by decide
theorem sl_new {w : World} (l : List En) (h : l.length ≤ 1000) : Sl (w.alloc (.cells (pcells l).toArray 43)) (some ⟨w.heap.size, 0, none⟩) l.length l := by
  have hg : (w.alloc (.cells (pcells l).toArray 43)).heap[w.heap.size]? = some (.cells (pcells l).toArray 43 (0, 0)) := heap_alloc_new _ _
  refine ⟨⟨fun k p hk => ?_⟩, Nat.le_refl _, by omega, fun q => by cases q⟩
  obtain ⟨c0, c1⟩ := pcells_get hk
  refine ⟨w.heap.size, 0, rfl, by simp, ?_, ?_⟩
  · rw [Nat.zero_add, cell_of_row _ _ _ _ _ _ hg]; simpa using c0
  · rw [Nat.zero_add, cell_of_row _ _ _ _ _ _ hg]; simpa using c1
theorem foundC : found l2 [99] = .tuple #[.int .i64 1, .bool true] := by unfold found; rw [fnd2.1, fnd2.2]; rfl
theorem rdA : rdv (blk 1 258 [ea]) = some (1, 258, [ea]) := rdv_blk fltA
theorem rd0 : rdv [] = none := by unfold rdv; rfl
theorem wrA : wrote 1 258 [ea] = .tuple #[str (blk 1 258 [ea]), .int .i64 0] := by unfold wrote; rw [if_pos fltA, fltA]
theorem lenA : (blk 1 258 [ea]).length = 512 := blk_length (by decide)
set_option maxHeartbeats 8000000 in
theorem first_any (w : World) : Calls Try.prog 9 #[] w fun e w' => e = .returned (.bool true) ∧ Below w.heap.size w w' := by
  have sA : Sl (w.alloc (.cells #[str [97], str [120, 121]] 43)) (some ⟨w.heap.size, 0, none⟩) 1 [ea] := sl_new [ea] (by decide)
  have hW := write_any 1 258 [ea] _ _ 1 1 rfl sA.at' (by decide)
  rw [wrA] at hW
  have hR := fun w => read_any (blk 1 258 [ea]) w (by rw [lenA]; omega)
  rw [rdA] at hR
  have hR2 := fun w => (hR w).mono (fun e w' h => show ∃ v, e = .returned (.tuple #[pgv 1 258 v, .int .i64 0]) ∧ Ow w.heap.size w' v [ea] ∧ Below w.heap.size w w' from by obtain ⟨h1, v, h2, h3⟩ := h; exact ⟨v, h2, h3, h1⟩)
  have hR0 := fun w => read_any [] w (by decide)
  rw [rd0] at hR0
  have hR3 := fun w => (hR0 w).mono (fun e w' h => show e = .returned (.tuple #[pgv 0 0 (.slice none 0 0), .int .i64 4]) ∧ Below w.heap.size w w' from ⟨h.2, h.1⟩)
  have hlen := lenA
  have htk : ∀ w, (slS (str (blk 1 258 [ea])) none (some (.int .i64 12)) none).run Try.prog w = .ok (str [1, 1, 2, 0, 1, 1, 2, 97, 120, 121, 0, 0]) w := fun w => by
    have := run_hi (blk 1 258 [ea]) 12 (by rw [lenA]; omega) (by rw [lenA]; omega) w
    rw [blkA] at this
    exact this
  generalize blk 1 258 [ea] = BA at *
  clear hR hR0
  go_enter Try.func9, Try.ntmps9
  go_wp2_with (first
    | (go_at_call 11; refine hW.mono ?_; rintro e w1 ⟨rfl, b1⟩)
    | (go_at_call 12; refine (hR2 _).mono ?_; rintro e w2 ⟨v2, rfl, o2, b2⟩; obtain ⟨a2, c2, rfl, s2⟩ := o2.sl))
  have pb0 := heap_alloc_new w2 (.cells #[.int .i64 1, .int .i64 258, .slice a2 1 c2] 29)
  have pb : ((w2.alloc (.cells #[.int .i64 1, .int .i64 258, .slice a2 1 c2] 29)).alloc (.cells #[str [97], str [49], str [99], str [50]] 43)).heap[w2.heap.size]? = some (.cells #[.int .i64 1, .int .i64 258, .slice a2 1 c2] 29 (0, 0)) := by rw [heap_alloc_old _ _ (by simp)]; exact pb0
  have sl : Sl ((w2.alloc (.cells #[.int .i64 1, .int .i64 258, .slice a2 1 c2] 29)).alloc (.cells #[str [97], str [49], str [99], str [50]] 43)) (some ⟨w2.heap.size + 1, 0, none⟩) 2 l2 := by
    have := sl_new (w := w2.alloc (.cells #[.int .i64 1, .int .i64 258, .slice a2 1 c2] 29)) l2 (by decide)
    rw [World.size_alloc] at this
    exact this
  have s2' := (s2.later ((Below.refl _ _).alloc (Nat.le_refl _) (.cells #[.int .i64 1, .int .i64 258, .slice a2 1 c2] 29))).later ((Below.refl _ _).alloc (Nat.le_refl _) (.cells #[str [97], str [49], str [99], str [50]] 43))
  have HB : Hid (Below w.heap.size w ((w2.alloc (.cells #[.int .i64 1, .int .i64 258, .slice a2 1 c2] 29)).alloc (.cells #[str [97], str [49], str [99], str [50]] 43))) := ⟨by
    have q1 := ((Below.refl w.heap.size w).alloc (Nat.le_refl _) _).trans (b1.mono (by simp))
    have q2 := q1.trans (b2.mono q1.size)
    exact (q2.alloc q2.size _).alloc (by have := q2.size; simp; omega) _⟩
  have hlp : w2.heap.size < ((w2.alloc (.cells #[.int .i64 1, .int .i64 258, .slice a2 1 c2] 29)).alloc (.cells #[str [97], str [49], str [99], str [50]] 43)).heap.size := by simp; omega
  clear pb0 s2 o2 b1 b2 sA hW
  generalize (w2.alloc (.cells #[.int .i64 1, .int .i64 258, .slice a2 1 c2] 29)).alloc (.cells #[str [97], str [49], str [99], str [50]] 43) = W3 at *
  generalize w2.heap.size + 1 = gl at *
  generalize w2.heap.size = gp at *
  have hF := find_any l2 [99] srt2 W3 (some ⟨gl, 0, none⟩) 2 sl.at' (by decide)
  rw [foundC] at hF
  have hP := fun w' (h : Below W3.heap.size W3 w') => put_any l2 [98] [51] srt2 w' (some ⟨gl, 0, none⟩) 2 2 rfl (sl.later h) (by decide)
  rw [put2] at hP
  have hD := fun w' (h : Below W3.heap.size W3 w') => (delete_any l2 [97] srt2 w' (some ⟨gl, 0, none⟩) 2 2 rfl (sl.later h) (by decide)).mono (fun e w2 (h : DelP w' l2 [97] e w2) => show ∃ v, e = .returned (.tuple #[v, .bool true]) ∧ Ow w'.heap.size w2 v [⟨[99], [50]⟩] ∧ Below w'.heap.size w' w2 from by
    obtain ⟨v, h1, h2, h3⟩ := h
    rw [del2.2] at h1
    rw [del2.1] at h2
    exact ⟨v, h1, h2, h3⟩)
  have hSp := fun w' a cap (h : Sl w' a cap l3) => (split_any l3 w' a cap h (by decide)).mono (fun e w2 (h : SplitP w' l3 (cutw l3) e w2) => show ∃ x y, e = .returned (.tuple #[x, y]) ∧ (∃ ax cx, x = .slice ax 1 cx) ∧ (∃ ay cy, y = .slice ay 2 cy) ∧ Below w'.heap.size w' w2 from by
    obtain ⟨x, y, h1, h2, h3⟩ := h
    rw [cut3] at h2
    obtain ⟨ax, cx, e1, _⟩ := h2.ox.sl
    obtain ⟨ay, cy, e2, _⟩ := h2.oy.sl
    exact ⟨x, y, h1, ⟨ax, cx, e1⟩, ⟨ay, cy, e2⟩, h3⟩)
  have hSS : ∀ x : List En, same x x = true := fun x => same_true rfl
  have sd := sl.drop 1 (by decide)
  have hdr : ∀ w, (slP (.slice (some ⟨gl, 0, none⟩) 2 2) (some (.int .i64 1)) none none).run Try.prog w = .ok (.slice (dropA (some ⟨gl, 0, none⟩) 2 1) 1 1) w := fun w => run_slP_lo (some ⟨gl, 0, none⟩) 2 2 1 (by omega) (by omega) (by omega) (fun q => by cases q) w
  generalize dropA (some ⟨gl, 0, none⟩) 2 1 = ad at *
  have sd2 : Sl W3 ad 1 [⟨[99], [50]⟩] := sd
  have hsm1 := fun w a1 c1 a2 c2 h1 h2 => same_any [ea] [ea] w a1 a2 1 1 c1 c2 rfl rfl h1 h2 (by decide) (by decide)
  have hsm2 := fun w a1 c1 a2 c2 h1 h2 => same_any [⟨[99], [50]⟩] [⟨[99], [50]⟩] w a1 a2 1 1 c1 c2 rfl rfl h1 h2 (by decide) (by decide)
  rw [hSS] at hsm1 hsm2
  clear sd
  go_wp2_with (first
    | (go_at_call 18; refine hF.mono ?_; rintro e w4 ⟨rfl, b4⟩)
    | (go_at_call 16; refine (hP _ b4).mono ?_; rintro e w5 ⟨v5, rfl, o5, b5⟩; obtain ⟨a5, c5, rfl, s5⟩ : ∃ a c, v5 = .slice a 3 c ∧ Sl w5 a c l3 := o5.sl; have B5 := below_seq b4 b5)
    | (go_at_call 17; refine (hD _ B5).mono ?_; rintro e w6 ⟨v6, rfl, o6, b6⟩; obtain ⟨a6, c6, rfl, s6⟩ : ∃ a c, v6 = .slice a 1 c ∧ Sl w6 a c [⟨[99], [50]⟩] := o6.sl; have B6 := below_seq B5 b6)
    | (go_at_call 22; refine (hSp _ _ _ (s5.later b6)).mono ?_; rintro e w7 ⟨v7, y7, rfl, ⟨a7, c7, rfl⟩, ⟨a8, c8, rfl⟩, b7⟩; have B7 := below_seq B6 b7)
    | (go_at_call 12; refine (hR3 _).mono ?_; rintro e w8 ⟨rfl, b8⟩; have B8 := below_seq B7 b8; have B58 := below_seq (below_seq b6 b7) b8; have B68 := below_seq b7 b8; obtain ⟨p0, p1, p2⟩ := box3 (w := w8.alloc (.cells #[.int .i64 0, .int .i64 0, .slice none 0 0] 29)) ((heap_alloc_old _ _ (by have := B8.size; omega)).trans ((B8.block _ hlp).trans pb)); clear hR2 hR3 hF hP hD hSp))
  have bE : Below w8.heap.size w8 ((w8.alloc (.cells #[.int .i64 0, .int .i64 0, .slice none 0 0] 29)).alloc (.cells #[str [97], str [120, 121]] 43)) := ((Below.refl _ _).alloc (Nat.le_refl _) _).alloc (by simp) _
  have hA9 := ((s2'.later B8).later bE).at'
  have hB9 : PIn ((w8.alloc (.cells #[.int .i64 0, .int .i64 0, .slice none 0 0] 29)).alloc (.cells #[str [97], str [120, 121]] 43)) (some ⟨w8.heap.size + 1, 0, none⟩) [ea] := (sl_one ea (by have := heap_alloc_new (w8.alloc (.cells #[.int .i64 0, .int .i64 0, .slice none 0 0] 29)) (.cells #[str [97], str [120, 121]] 43); rw [World.size_alloc] at this; exact this)).at'
  have hq9 := hsm1 ((w8.alloc (.cells #[.int .i64 0, .int .i64 0, .slice none 0 0] 29)).alloc (.cells #[str [97], str [120, 121]] 43)) a2 c2 _ 1 hA9 hB9
  clear hsm1 hA9 hB9
  with_reducible refine hq9.mono ?_
  rintro e w9 ⟨rfl, b9⟩
  have B9 : Below w8.heap.size w8 w9 := below_seq bE b9
  obtain ⟨bm, om, rfl, hbm, m0, m1⟩ := ((s5.later B58).later B9).at'.get 1 ⟨[98], [51]⟩ rfl
  have hq10 := hsm2 w9 a6 c6 ad 1 ((s6.later B68).later B9).at' ((sd2.later B8).later B9).at'
  have HB9 := Hid.mk (HB.out.trans ((below_seq B8 B9).mono HB.out.size))
  clear hq9 bE b9 B9 B58 B68 B8 B7 B6 B5 b4 b5 b6 b7 b8 s2' s5 s6 sd2 hsm2 sl pb p0 p1 p2
  dsimp only
  go_wp2_with fail
  with_reducible refine hq10.mono ?_
  rintro e w10 ⟨rfl, b10⟩
  dsimp only
  go_wp2_with fail
  go_ret
  exact ⟨rfl, HB9.out.trans (b10.mono HB9.out.size)⟩
end Go.Proofs.Ytibmnpkmbhjniaa
