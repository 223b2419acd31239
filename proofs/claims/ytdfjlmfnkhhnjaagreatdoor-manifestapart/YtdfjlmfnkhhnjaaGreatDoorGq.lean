import Derived.Test.YtdfjlmfnkhhnjaaGreatDoorGu
/- head's examples (no model's run). -/
namespace Go.Proofs.YtdfjlmfnkhhnjaaGreatDoor
set_option maxRecDepth 100000
set_option linter.unusedVariables false
set_option linter.unusedSimpArgs false
open Go.RowKit
open Go.Proofs.YtdfjlmfnkhhnjaaGreatDoorP (TB recd nn LEN key Rd RdAt recd_length)
open Go.Proofs.YtdfjlmfnkhhnjaaGreatDoorH (hv leaf)
abbrev m0 : Ma := ⟨0, 1, []⟩
abbrev nothing : List UInt8 := [49, 51, 32, 107, 105, 110, 100, 61, 102, 117, 108, 108, 10, 49, 57, 32, 102, 111, 114, 109, 97, 116, 61, 99, 111, 102, 102, 101, 114, 45, 49, 10, 57, 32, 110, 101, 120, 116, 61, 49, 10, 49, 49, 32, 99, 111, 117, 110, 116, 61, 48, 10, 49, 54, 32, 101, 110, 100, 61, 109, 97, 110, 105, 102, 101, 115, 116, 10]
theorem rt_m0 : RtM m0 := ⟨by decide, by decide, by decide, by decide, by decide, fun x h => by simp at h, by simp, by simp, by decide⟩
theorem mtx_m0 : mtx m0 = nothing := by
  unfold mtx m0
  kernel_rfl
theorem no_zero : ¬ RtM ⟨0, 0, []⟩ := fun h => by have := h.n1; simp at this
theorem beg_m0 : Beg (nothing ++ [120]) m0 := ⟨rt_m0, [120], by rw [mtx_m0]⟩
theorem nz_m0 : nzM m0 = m0 := rfl
theorem beg_eq {m : Ma} (h : Beg (nothing ++ [120]) m) (hz : nzM m = m) : m = m0 := by
  have e1 := h.at'
  rw [beg_m0.at', nz_m0, hz] at e1
  exact (congrArg Prod.fst e1).symm
theorem beg_short (m : Ma) : ¬ Beg [49, 51, 32, 107, 105, 110, 100, 61, 102, 117, 108, 108, 10] m := by
  rintro ⟨h, r, e⟩
  have h1 := congrArg List.length e
  have h2 : ∃ v1 R, recs m = (sKind, v1) :: (sFormat, sCoffer) :: R := ⟨_, _, rfl⟩
  obtain ⟨v1, R, h3⟩ := h2
  unfold mtx at h1
  rw [h3, txt_cons, txt_cons] at h1
  simp only [List.length_append, recd_length] at h1
  have e1 : nn sFormat sCoffer ≤ LEN (nn sFormat sCoffer) := by unfold LEN; omega
  have e2 : nn sFormat sCoffer = 17 := rfl
  simp at h1
  omega
abbrev exA : Vs := ⟨[107], 1, false, [97, 98], []⟩
abbrev exB : Vs := ⟨[107], 2, true, [], []⟩
abbrev exC : Vs := ⟨[107], 1, false, [], []⟩
theorem mt_nil : mtE [] = 0 := by unfold mtE; rw [if_pos ⟨by decide, by simp, by simp [Srt]⟩]
theorem ex_rt : rtE exA = 0 ∧ rtE exB = 0 := ⟨rtE_ok (by decide) (by decide) (by decide) (by decide) mt_nil, rtE_ok (by decide) (by decide) (by decide) (by decide) mt_nil⟩
theorem ex_of : OfR [exA, exB] 3 1 := by
  refine ⟨by decide, ?_, ?_⟩
  · intro v hv
    simp at hv
    rcases hv with rfl | rfl
    · exact ex_rt.1
    · exact ex_rt.2
  · refine ⟨by decide, by decide, by decide, by decide, by decide, ?_, ?_, ?_, ?_⟩
    · intro x hx
      simp [ofI] at hx
      rcases hx with rfl | rfl
      · exact ⟨by decide, by decide, by decide, by decide, fun h => (by cases h), fun _ => ⟨by decide, by decide, mt_nil⟩⟩
      · exact ⟨by decide, by decide, by decide, by decide, fun _ => ⟨rfl, rfl⟩, fun h => (by cases h)⟩
    · simp [ofI, bef]
    · simp [ofI]
    · simp [ofI, isum, isz]; decide
theorem ex_no : ¬ OfR [exC] 3 2 := fun h => by
  have := (h.2.2.it (itOf exC (enc exC)) (by simp [ofI])).s3
  simp at this
end Go.Proofs.YtdfjlmfnkhhnjaaGreatDoor

/- head: the examples. -/
namespace Go.Proofs.YtdfjlmfnkhhnjaaGreatDoor
set_option maxRecDepth 100000
set_option linter.unusedVariables false
set_option linter.unusedSimpArgs false
open Go.RowKit
open Go.Proofs.YtdfjlmfnkhhnjaaGreatDoorP (TB recd nn LEN key Rd RdAt)
open Go.Proofs.YtdfjlmfnkhhnjaaGreatDoorH (hv leaf KIn)
attribute [local go_sem ↓] Go.wp_at_zero Go.wp_at_succ
theorem IIt.nil (w : World) : IIt w none [] := ⟨fun k x h => by simp at h⟩
theorem sl_none (w : World) : Sl w none 0 [] := ((Ow.nil w w.heap.size (Nat.le_refl _)).asSl2)
theorem vin_ex1 (w : World) : VIn (w.alloc (.cells #[.string ⟨#[107]⟩, .int .i64 1, .bool false, .string ⟨#[97, 98]⟩, .slice none 0 0, .string ⟨#[107]⟩, .int .i64 2, .bool true, .string ⟨#[]⟩, .slice none 0 0] 62)) (some ⟨w.heap.size, 0, none⟩) [exA, exB] := by
  refine ⟨fun k v hk => ?_⟩
  have e := heap_alloc_new w (.cells #[.string ⟨#[107]⟩, .int .i64 1, .bool false, .string ⟨#[97, 98]⟩, .slice none 0 0, .string ⟨#[107]⟩, .int .i64 2, .bool true, .string ⟨#[]⟩, .slice none 0 0] 62)
  match k, hk with
  | 0, hk =>
    simp at hk; subst hk
    refine ⟨w.heap.size, 0, none, 0, rfl, by simp, ?_, ?_, ?_, ?_, ?_, sl_none _⟩ <;> (rw [cell_of_row _ _ _ _ _ _ e]; rfl)
  | 1, hk =>
    simp at hk; subst hk
    refine ⟨w.heap.size, 0, none, 0, rfl, by simp, ?_, ?_, ?_, ?_, ?_, sl_none _⟩ <;> (rw [cell_of_row _ _ _ _ _ _ e]; rfl)
  | k + 2, hk => simp at hk
theorem vin_ex2 (w : World) : VIn (w.alloc (.cells #[.string ⟨#[107]⟩, .int .i64 1, .bool false, .string ⟨#[]⟩, .slice none 0 0] 62)) (some ⟨w.heap.size, 0, none⟩) [exC] := by
  refine ⟨fun k v hk => ?_⟩
  have e := heap_alloc_new w (.cells #[.string ⟨#[107]⟩, .int .i64 1, .bool false, .string ⟨#[]⟩, .slice none 0 0] 62)
  match k, hk with
  | 0, hk =>
    simp at hk; subst hk
    refine ⟨w.heap.size, 0, none, 0, rfl, by simp, ?_, ?_, ?_, ?_, ?_, sl_none _⟩ <;> (rw [cell_of_row _ _ _ _ _ _ e]; rfl)
  | k + 1, hk => simp at hk
set_option maxHeartbeats 8000000 in
theorem head_any (w : World) (hT : TB w) (hE : EG w) (hK : KIn w) :
    Calls Tryz.prog 6 #[] w fun e w' => e = .returned (.bool true) ∧ Below w.heap.size w w' := by
  have hw1 := fun (W : World) (h : Below w.heap.size w W) => mWrite_any m0 W none 0 (IIt.nil W) (by intro x hx; simp at hx) (by simp) (hT.below h)
  have hw2 := fun (W : World) (h : Below w.heap.size w W) => mWrite_any ⟨0, 0, []⟩ W none 0 (IIt.nil W) (by intro x hx; simp at hx) (by simp) (hT.below h)
  dsimp only [m0, List.length_nil] at hw1 hw2
  have hr1 := fun (W : World) (h : Below w.heap.size w W) => mRead_any (nothing ++ [120]) W (by decide) (hT.below h) (hE.below h)
  have hr2 := fun (W : World) (h : Below w.heap.size w W) => mRead_any [49, 51, 32, 107, 105, 110, 100, 61, 102, 117, 108, 108, 10] W (by decide) (hT.below h) (hE.below h)
  have HK := Hid.mk hK
  clear hK
  go_enter Tryz.func6, Tryz.ntmps6
  go_wp2_with fail
  refine Calls.mono (hw1 _ (Below.refl _ _)) ?_
  rintro e w1 ⟨h1, b1⟩
  rcases h1 with ⟨_, rfl⟩ | ⟨h1, _⟩
  case inr => exact absurd rt_m0 h1
  rw [mtx_m0]
  dsimp only
  go_wp2_with fail
  refine Calls.mono (hr1 _ b1) ?_
  rintro e w2 ⟨h2, b2⟩
  rcases h2 with ⟨m, R, ra, rc, hb, hz, rfl, hR, _⟩ | ⟨h2, _⟩
  case inr => exact absurd beg_m0 (h2 m0)
  obtain rfl := beg_eq hb hz
  obtain rfl : R = [] := by simpa using hR
  rw [mtx_m0]
  dsimp only [m0]
  have B2 := below_seq b1 b2
  have b3 := (Below.refl w2.heap.size w2).alloc (Nat.le_refl _) (.cells #[.int .i64 0, .int .i64 1, .slice ra 0 rc] 28)
  have z3 := Bm3.new w2 0 1 (.slice ra 0 rc)
  have B3 := below_seq B2 b3
  clear hb hz hR b1 b2 b3
  go_wp2_with fail
  refine Calls.mono (hr2 _ B3) ?_
  rintro e w4 ⟨h4, b4⟩
  rcases h4 with ⟨m, R, ra, rc, hb, _⟩ | ⟨_, rfl⟩
  case inl => exact absurd hb (beg_short m)
  dsimp only
  have z4 := z3.later b4
  have B4 := below_seq B3 b4
  have b5 := (Below.refl w4.heap.size w4).alloc (Nat.le_refl _) (.cells #[.int .i64 0, .int .i64 0, .slice none 0 0] 28)
  have z5 := z4.later b5
  have B5 := below_seq B4 b5
  clear z3 z4 b4 b5 B3 B2
  go_wp2_with fail
  refine Calls.mono (hw2 _ B5) ?_
  rintro e w6 ⟨h6, b6⟩
  rcases h6 with ⟨h6, _⟩ | ⟨_, rfl⟩
  case inl => exact absurd h6 no_zero
  dsimp only
  have B6 := below_seq B5 b6
  obtain ⟨p0, p1, p2⟩ := (z5.later b6).cells
  clear b6 z5 B4 B5
  generalize w2.heap.size = g2 at *
  go_wp2_with fail
  have b7 := (Below.refl w6.heap.size w6).alloc (Nat.le_refl _) (.cells #[.string ⟨#[107]⟩, .int .i64 1, .bool false, .string ⟨#[97, 98]⟩, .slice none 0 0, .string ⟨#[107]⟩, .int .i64 2, .bool true, .string ⟨#[]⟩, .slice none 0 0] 62)
  have B7 := below_seq B6 b7
  have v7 := vin_ex1 w6
  have hof := of_any [exA, exB] 3 1 _ (some ⟨w6.heap.size, 0, none⟩) 2 2 rfl v7 (HK.out.seq B7) (by decide) (by intro v hv; simp at hv; rcases hv with rfl | rfl <;> decide)
  refine Calls.mono hof ?_
  clear hof v7
  rintro e w8 ⟨h8, b8⟩
  rcases h8 with ⟨R, ra, rc, _, rfl, hR, hF⟩ | ⟨h8, _⟩
  case inr => exact absurd ex_of h8
  have hRl : R.length = 2 := by have := congrArg List.length hR; simpa using this
  rw [hRl] at hF ⊢
  have B8 := below_seq B7 b8
  have b9 := (Below.refl w8.heap.size w8).alloc (Nat.le_refl _) (.cells #[.int .i64 1, .int .i64 3, .slice ra 2 rc] 28)
  have z9 := Bm3.new w8 1 3 (.slice ra 2 rc)
  have i9 := hF.it.later b9
  rw [hR] at i9
  have B9 := below_seq B8 b9
  clear b7 b8 b9 B7 B8 hF hR hRl p0 p1 p2
  dsimp only
  go_wp2_with fail
  have b10 := (Below.refl (w8.alloc (.cells #[.int .i64 1, .int .i64 3, .slice ra 2 rc] 28)).heap.size (w8.alloc (.cells #[.int .i64 1, .int .i64 3, .slice ra 2 rc] 28))).alloc (Nat.le_refl _) (.cells #[.string ⟨#[107]⟩, .int .i64 1, .bool false, .string ⟨#[]⟩, .slice none 0 0] 62)
  have B10 := below_seq B9 b10
  have z10 := z9.later b10
  have i10 := i9.later b10
  have v10 := vin_ex2 (w8.alloc (.cells #[.int .i64 1, .int .i64 3, .slice ra 2 rc] 28))
  rw [World.size_alloc] at v10
  have hof := of_any [exC] 3 2 _ (some ⟨w8.heap.size + 1, 0, none⟩) 1 1 rfl v10 (HK.out.seq B10) (by decide) (by intro v hv; simp at hv; subst hv; decide)
  refine Calls.mono hof ?_
  clear hof v10 b10 z9 i9 B9
  rintro e w11 ⟨h11, b11⟩
  rcases h11 with ⟨R, _, _, h11, _⟩ | ⟨_, rfl⟩
  case inl => exact absurd h11 ex_no
  have B11 := below_seq B10 b11
  obtain ⟨q0, q1, q2⟩ := (z10.later b11).cells
  have i11 := i10.later b11
  obtain ⟨ib, io, ma, mc, ea, hib, ir, _⟩ := i11.get 0 (itOf exA (enc exA)) rfl
  obtain ⟨ib', io', ma', mc', ea', hib', ir', _⟩ := i11.get 1 (itOf exB (enc exB)) rfl
  subst ea
  injection ea' with ea'
  injection ea' with ea1 ea2
  subst ea1 ea2
  have k1 := ir 3 (.int .i64 2) (ic_get _ _ _).2.2.2.1
  have k2 := ir' 2 (.bool true) (ic_get _ _ _).2.2.1
  clear b11 z10 i10 i11 ir ir' hib hib'
  dsimp only
  generalize w8.heap.size = g8 at *
  go_wp2_with fail
  go_ret
  exact ⟨rfl, B11⟩
end Go.Proofs.YtdfjlmfnkhhnjaaGreatDoor
