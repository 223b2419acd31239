/- Layer 22: first. -/
import Derived.Test.YtgbkloihclbimaaDoorGe
import Derived.Test.YtgbkloihclbimaaDoorYe
namespace Go.Proofs.YtgbkloihclbimaaDoor
set_option maxRecDepth 100000
set_option linter.unusedVariables false
set_option linter.unusedSimpArgs false
open Go.RowKit
attribute [local go_sem ↓] Go.wp_at_zero Go.wp_at_succ
theorem okt_of {c : Cm} (hk : In64 c.kind) (ha : In64 c.sectors) (hb : In64 c.size) (hs : In64 c.st.kind) (hq : In64 c.st.seq) (hn : In64 c.st.n) (h0 : ∀ k ∈ c.st.kept, In64 k) (h1 : c.bucket.length ≤ 1000) (h2 : c.st.bucket.length ≤ 1000) (h3 : c.st.key.length ≤ 1000) (h4 : c.st.data.length ≤ 1000) (h5 : c.st.mt = []) (h6 : c.st.kept.length ≤ 1000) : OkT c := by
  refine ⟨⟨hk, ha, hb, hs, hq, hn, h0⟩, by omega, by omega, by omega, by omega, by rw [h5]; simp, by omega, fun e he => by rw [h5] at he; cases he⟩
theorem ft1_len : ft1.length ≤ 4611686018427387904 := by decide
theorem ft2_len : ft2.length ≤ 4611686018427387904 := by decide
theorem fd_ok : ∀ c ∈ [fd1, fd2, fd3], OkT c := by
  intro c hc
  have : c = fd1 ∨ c = fd2 ∨ c = fd3 := by simpa using hc
  rcases this with rfl | rfl | rfl <;> exact okt_of (by simp [In64]) (by simp [In64]) (by simp [In64]) (by simp [In64]) (by simp [In64]) (by simp [In64]) (fun k hk => by cases hk) (by simp) (by simp) (by simp) (by simp) rfl (by simp)
theorem cb_nil (w : World) (M : Nat) (c : Cm) (h1 : c.st.mt = []) (h2 : c.st.kept = []) : CB w M c none none := ⟨fun k p hk => by rw [h1] at hk; simp at hk, fun k n hk => by rw [h2] at hk; simp at hk⟩
theorem cl_fd (w : World) : CL (w.alloc (.cells (rcl [⟨fd1, none, 0, none, 0⟩, ⟨fd2, none, 0, none, 0⟩]).toArray 36)) (w.alloc (.cells (rcl [⟨fd1, none, 0, none, 0⟩, ⟨fd2, none, 0, none, 0⟩]).toArray 36)).heap.size (some ⟨w.heap.size, 0, none⟩) [fd1, fd2] :=
  cl_blk (R := [⟨fd1, none, 0, none, 0⟩, ⟨fd2, none, 0, none, 0⟩]) (heap_alloc_new w _) rfl (fun r hr => by
    have : r = ⟨fd1, none, 0, none, 0⟩ ∨ r = ⟨fd2, none, 0, none, 0⟩ := by simpa using hr
    rcases this with rfl | rfl
    · exact ⟨fd_ok _ (by simp), cb_nil _ _ _ rfl rfl⟩
    · exact ⟨fd_ok _ (by simp), cb_nil _ _ _ rfl rfl⟩)
theorem cl_fe (w : World) : CL (w.alloc (.cells (rcl [⟨fd3, none, 0, none, 0⟩]).toArray 36)) (w.alloc (.cells (rcl [⟨fd3, none, 0, none, 0⟩]).toArray 36)).heap.size (some ⟨w.heap.size, 0, none⟩) [fd3] :=
  cl_blk (R := [⟨fd3, none, 0, none, 0⟩]) (heap_alloc_new w _) rfl (fun r hr => by
    have : r = ⟨fd3, none, 0, none, 0⟩ := by simpa using hr
    subst this
    exact ⟨fd_ok _ (by simp), cb_nil _ _ _ rfl rfl⟩)
theorem print1 (w : World) (hS : SG w) (hT : TB w) : Calls Tryd.prog 6 #[.slice (some ⟨w.heap.size, 0, none⟩) 2 2] (w.alloc (.cells (rcl [⟨fd1, none, 0, none, 0⟩, ⟨fd2, none, 0, none, 0⟩]).toArray 36)) fun e w' => e = .returned (.tuple #[str fs1, .int .i64 0]) ∧ Below w.heap.size w w' := by
  have b0 : Below w.heap.size w (w.alloc (.cells (rcl [⟨fd1, none, 0, none, 0⟩, ⟨fd2, none, 0, none, 0⟩]).toArray 36)) := (Below.refl _ _).alloc (Nat.le_refl _) _
  refine Calls.mono (print_any [fd1, fd2] _ (some ⟨w.heap.size, 0, none⟩) 2 _ (cl_fd w) (Nat.le_refl _) (by decide) (hS.below b0) (hT.below b0)) ?_
  rintro e w' ⟨rfl, hb⟩
  rw [f_prE1, f_prT1]
  exact ⟨rfl, below_seq b0 hb⟩
theorem print2 (w : World) (hS : SG w) (hT : TB w) : Calls Tryd.prog 6 #[.slice (some ⟨w.heap.size, 0, none⟩) 1 1] (w.alloc (.cells (rcl [⟨fd3, none, 0, none, 0⟩]).toArray 36)) fun e w' => e = .returned (.tuple #[str [], .int .i64 110]) ∧ Below w.heap.size w w' := by
  have b0 : Below w.heap.size w (w.alloc (.cells (rcl [⟨fd3, none, 0, none, 0⟩]).toArray 36)) := (Below.refl _ _).alloc (Nat.le_refl _) _
  refine Calls.mono (print_any [fd3] _ (some ⟨w.heap.size, 0, none⟩) 1 _ (cl_fe w) (Nat.le_refl _) (by decide) (hS.below b0) (hT.below b0)) ?_
  rintro e w' ⟨rfl, hb⟩
  rw [f_prE2, f_prT2]
  exact ⟨rfl, below_seq b0 hb⟩
theorem quote1 (w : World) : Calls Tryd.prog 9 #[str [0, 34, 97]] w fun e w' => e = .returned (str [34, 92, 120, 48, 48, 92, 34, 97, 34]) ∧ Below w.heap.size w w' := by
  refine Calls.mono (quote_any [0, 34, 97] w (by decide)) ?_
  rintro e w' ⟨rfl, hb⟩
  rw [f_quo]
  exact ⟨rfl, hb⟩
abbrev fwL (g : Nat) : List Cr := [⟨fc1, none, 0, none, 0⟩, ⟨fc2, some ⟨g, 0, none⟩, 1, none, 0⟩, ⟨fc3, none, 0, some ⟨g + 1, 0, none⟩, 2⟩]
abbrev fwA : Obj := .cells #[.string ⟨#[116]⟩, .string ⟨#[120]⟩] 38
abbrev fwB : Obj := .cells #[.int .i64 0, .int .i64 2] 3
abbrev fwC (g : Nat) : Obj := .cells #[.int .i64 2, .int .i64 0, .int .i64 0, .int .i64 1, .string ⟨#[97]⟩, .string ⟨#[]⟩, .string ⟨#[]⟩, .slice none 0 0, .int .i64 0, .int .i64 0, .slice none 0 0, .string ⟨#[]⟩,
  .int .i64 2, .int .i64 0, .int .i64 0, .int .i64 3, .string ⟨#[97]⟩, .string ⟨#[107]⟩, .string ⟨#[100]⟩, .slice (some ⟨g, 0, none⟩) 1 1, .int .i64 0, .int .i64 0, .slice none 0 0, .string ⟨#[]⟩,
  .int .i64 2, .int .i64 0, .int .i64 0, .int .i64 18, .string ⟨#[]⟩, .string ⟨#[]⟩, .string ⟨#[]⟩, .slice none 0 0, .int .i64 0, .int .i64 3, .slice (some ⟨g + 1, 0, none⟩) 2 2, .string ⟨#[]⟩] 50
theorem fw_all (w5 : World) : ∃ W, ((w5.alloc fwA).alloc fwB).alloc (fwC w5.heap.size) = W ∧ Below w5.heap.size w5 W ∧ CT W (some ⟨w5.heap.size + 1 + 1, 0, none⟩) (fwL w5.heap.size) := by
  refine ⟨_, rfl, ?_, ?_⟩
  · exact (((Below.refl _ _).alloc (Nat.le_refl _) _).alloc (by simp) _).alloc (by simp; omega) _
  have s1 : (w5.alloc fwA).heap.size = w5.heap.size + 1 := by simp
  have s2 : ((w5.alloc fwA).alloc fwB).heap.size = w5.heap.size + 1 + 1 := by simp
  have h1 : (((w5.alloc fwA).alloc fwB).alloc (fwC w5.heap.size)).heap[w5.heap.size]? = some (.cells #[str [116], str [120]] 38 (0, 0)) := by
    rw [heap_alloc_old _ _ (by rw [s2]; omega), heap_alloc_old _ _ (by rw [s1]; omega)]
    exact heap_alloc_new w5 _
  have h2 : (((w5.alloc fwA).alloc fwB).alloc (fwC w5.heap.size)).heap[w5.heap.size + 1]? = some (.cells #[.int .i64 0, .int .i64 2] 3 (0, 0)) := by
    rw [heap_alloc_old _ _ (by rw [s2]; omega), ← s1]
    exact heap_alloc_new _ _
  have h3 := heap_alloc_new ((w5.alloc fwA).alloc fwB) (fwC w5.heap.size)
  rw [s2] at h3
  refine ct_blk h3 rfl (fun r hr => ?_)
  have h : r = ⟨fc1, none, 0, none, 0⟩ ∨ r = ⟨fc2, some ⟨w5.heap.size, 0, none⟩, 1, none, 0⟩ ∨ r = ⟨fc3, none, 0, some ⟨w5.heap.size + 1, 0, none⟩, 2⟩ := by simpa using hr
  rcases h with rfl | rfl | rfl
  · exact ⟨sl_nil _, si_nil _⟩
  · exact ⟨sl_blk (l := [⟨[116], [120]⟩]) h1 rfl (by decide), si_nil _⟩
  · exact ⟨sl_nil _, si_blk (l := [0, 2]) h2 rfl⟩
theorem fc_small : ∀ c ∈ [fc1, fc2, fc3], c.st.mt.length ≤ 10 ∧ c.st.kept.length ≤ 10 := by
  intro c hc
  have : c = fc1 ∨ c = fc2 ∨ c = fc3 := by simpa using hc
  rcases this with rfl | rfl | rfl <;> exact ⟨by decide, by decide⟩
set_option maxHeartbeats 4000000 in
theorem first_any (w : World) (hS : SG w) (hT : TB w) (hE : EG w) :
    Calls Tryd.prog 12 #[] w fun e w' => e = .returned (.bool true) ∧ Below w.heap.size w w' := by
  go_enter Tryd.func12, Tryd.ntmps12
  go_wp2_with fail
  refine Calls.mono (parse_any ft1 ft1_len w hS hT hE) ?_
  rintro e w1 ⟨b1, va, vc, R, rfl, hF, hR⟩
  rw [f_prsE1]
  rw [f_prsL1] at hR
  have hS1 := hS.below b1
  have hT1 := hT.below b1
  have hE1 := hE.below b1
  dsimp only
  go_wp2_with fail
  refine Calls.mono (parse_any ft2 ft2_len w1 hS1 hT1 hE1) ?_
  rintro e w2 ⟨b2, va2, vc2, R2, rfl, hF2, hR2⟩
  rw [f_prsE2]
  have hS2 := hS1.below b2
  have hT2 := hT1.below b2
  dsimp only
  go_wp2_with fail
  refine Calls.mono (print1 w2 hS2 hT2) ?_
  rintro e w3 ⟨rfl, b3⟩
  have hS3 := hS2.below b3
  have hT3 := hT2.below b3
  dsimp only
  go_wp2_with fail
  refine Calls.mono (print2 w3 hS3 hT3) ?_
  rintro e w4 ⟨rfl, b4⟩
  have hl : R.length = 3 := by have := congrArg List.length hR; simpa using this
  have e3 : decide (((R.length : Nat) : Int) = 3) = true := by rw [hl]; rfl
  dsimp only
  go_wp2_with fail
  refine Calls.mono (quote1 w4) ?_
  rintro e w5 ⟨rfl, b5⟩
  have B5 : Below w1.heap.size w1 w5 := below_seq (below_seq (below_seq b2 b3) b4) b5
  have B05 : Below w.heap.size w w5 := below_seq b1 B5
  have hFa := hF.later B5
  clear hS hT hE hF hS1 hT1 hE1 hF2 hR2 hS2 hT2 hS3 hT3 b1 b2 b3 b4 b5 B5 hl
  obtain ⟨W, hW, BW, CW⟩ := fw_all w5
  have hR := Hid.mk hR
  dsimp only
  go_wp2_with fail
  have hR := hR.out
  have hsm : ∀ L : List Cr, L.map (·.c) = [fc1, fc2, fc3] → ∀ r ∈ L, r.c.st.mt.length ≤ 10 ∧ r.c.st.kept.length ≤ 10 := fun L hL r hr => fc_small r.c (by rw [← hL]; exact List.mem_map.2 ⟨r, hr, rfl⟩)
  have hln : ∀ L : List Cr, L.map (·.c) = [fc1, fc2, fc3] → L.length = 3 := fun L hL => by have := congrArg List.length hL; simpa using this
  have cR := CT.ofFc (hFa.later BW)
  have tld := told_any R va vc W cR (by rw [hln R hR]; decide) (fun r hr => by have := hsm R hR r hr; omega)
  with_reducible refine Calls.mono tld ?_
  rintro e w6 ⟨vb, vd, R', rfl, hQ, hRR, b6⟩
  have hR' := hRR.trans hR
  have hl' : R'.length ≤ 4611686018427387904 := by rw [hln R' hR']; decide
  have CW6 := CW.later b6
  have B6 := below_seq B05 (below_seq BW b6)
  have sm := same_eq R' (fwL w5.heap.size) (hR'.trans rfl) vb _ vd 3 w6 (CT.ofFq hQ) CW6 hl' (fun r hr => by have := hsm R' hR' r hr; omega)
  clear tld cR hFa hQ hsm hln hR hRR hR' hl' CW6 CW
  dsimp only
  go_wp2_with fail
  with_reducible refine Calls.mono sm ?_
  rintro e w7 ⟨rfl, b7⟩
  have B7 := below_seq B6 b7
  clear sm
  dsimp only
  go_wp2_with fail
  go_ret
  exact ⟨rfl, B7⟩
end Go.Proofs.YtgbkloihclbimaaDoor
