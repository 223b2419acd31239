import Derived.Test.YtkoaojhldcacbaaGreatDoorQe
import Derived.Deep.RegionHeld3
/- first. -/
namespace Go.Proofs.YtkoaojhldcacbaaGreatDoor
set_option maxRecDepth 100000
set_option linter.unusedVariables false
set_option linter.unusedSimpArgs false
open Go.RowKit
open Go.Proofs.YtkoaojhldcacbaaGreatDoorP (TB)
open Go.Proofs.YtkoaojhldcacbaaGreatDoorH (KIn)
open Stk (Rv Fo)
attribute [local go_sem ↓] Go.wp_at_zero Go.wp_at_succ Go.Proofs.YtkoaojhldcacbaaGreatDoorP.sl9
/-- a box with the example's value -/
structure Xb (w : World) (g : Nat) (va : Option Addr) (vc : Nat) : Prop where
  box : Bb2 w g 3 (.slice va 2 vc)
  vin : VIn w va [exA, exB]
theorem Xb.later {w w' : World} {g : Nat} {va : Option Addr} {vc : Nat} (h : Xb w g va vc) (hb : Below w.heap.size w w') : Xb w' g va vc := ⟨h.box.later hb, h.vin.later hb⟩
theorem arc_len_le {L : List Vs} {n c : Int} (h : OfR L n c) : (arc L n c).length ≤ 6010000000 := by rw [← (pk_yes h).1]; exact pk_len L n c
theorem zl_ex : ∀ v ∈ ([exA, exB] : List Vs), v.l.length ≤ 9223372036854775806 := fun v hv => by
  simp at hv
  rcases hv with rfl | rfl <;> decide
/-- of an archive Decode tells just its value -/
theorem DcP.yes {s : List UInt8} {w w' : World} {e : Ending} {L : List Vs} {n : Int} (h : DcP s w e w') (hA : Arc s L n 0) : ∃ (R : List Rv) (va : Option Addr) (vc : Nat), e = .returned (.tuple #[.agg #[.int .i64 n, .slice va L.length vc], .int .i64 0]) ∧ R.map (·.v) = L ∧ (∀ r ∈ R, r.z = []) ∧ Fo w.heap.size w' (.slice va L.length vc) R ∧ Below w.heap.size w w' := by
  obtain ⟨⟨L', n', R, va, vc, hA', rfl, hR, hz, hF⟩ | ⟨hno, _⟩, hb⟩ := h
  · obtain ⟨rfl, rfl, _⟩ := hA'.two hA
    have hl : R.length = L'.length := by rw [← hR, List.length_map]
    rw [hl] at hF ⊢
    exact ⟨R, va, vc, rfl, hR, hz, hF, hb⟩
  · exact absurd hA (hno _ _)
theorem DcP.no {s : List UInt8} {w w' : World} {e : Ending} (h : DcP s w e w') (hA : ∀ L n, ¬ Arc s L n 0) : e = .returned (.tuple #[.agg #[.int .i64 0, .slice none 0 0], .int .i64 90]) ∧ Below w.heap.size w w' := by
  obtain ⟨⟨L', n', R, va, vc, hA', _⟩ | ⟨_, he⟩, hb⟩ := h
  · exact absurd hA' (hA _ _)
  · exact ⟨he, hb⟩
theorem UnP.yes {s : List UInt8} {w w' : World} {e : Ending} {L : List Vs} {n c : Int} (h : UnP s w e w') (hA : Arc s L n c) : ∃ (R : List Rv) (va : Option Addr) (vc : Nat), e = .returned (.tuple #[.agg #[.int .i64 n, .slice va L.length vc], .int .i64 c, .int .i64 0]) ∧ R.map (·.v) = L ∧ (∀ r ∈ R, r.z = []) ∧ Fo w.heap.size w' (.slice va L.length vc) R ∧ Below w.heap.size w w' := by
  obtain ⟨⟨L', n', c', R, va, vc, hA', rfl, hR, hz, hF⟩ | ⟨hno, _⟩, hb⟩ := h
  · obtain ⟨rfl, rfl, rfl⟩ := hA'.two hA
    have hl : R.length = L'.length := by rw [← hR, List.length_map]
    rw [hl] at hF ⊢
    exact ⟨R, va, vc, rfl, hR, hz, hF, hb⟩
  · exact absurd hA (hno _ _ _)
theorem UnP.no {s : List UInt8} {w w' : World} {e : Ending} (h : UnP s w e w') (hA : ∀ L n c, ¬ Arc s L n c) : e = .returned (.tuple #[.agg #[.int .i64 0, .slice none 0 0], .int .i64 0, .int .i64 90]) ∧ Below w.heap.size w w' := by
  obtain ⟨⟨L', n', c', R, va, vc, hA', _⟩ | ⟨_, he⟩, hb⟩ := h
  · exact absurd hA' (hA _ _ _)
  · exact ⟨he, hb⟩
theorem fo_vin2 {base : Nat} {w : World} {a : Option Addr} {n c : Nat} {R : List Rv} {L : List Vs} (hR : R.map (·.v) = L) (h : Fo base w (.slice a n c) R) : VIn w a L := by rw [← hR]; exact fo_vin h
theorem s6 {A B C D E F G : Prop} (h : A ∧ B ∧ C ∧ D ∧ E ∧ F ∧ G) : F := h.2.2.2.2.2.1
theorem s7 {A B C D E F G : Prop} (h : A ∧ B ∧ C ∧ D ∧ E ∧ F ∧ G) : G := h.2.2.2.2.2.2
set_option maxRecDepth 100000 in
set_option maxHeartbeats 8000000 in
theorem first_any (w : World) (hT : TB w) (hE : EG w) (hK : KIn w) : Calls Tryz.prog 13 #[] w fun e w' => e = .returned (.bool true) ∧ Below w.heap.size w w' := by
  have HT := Hid.mk hT
  have HE := Hid.mk hE
  have HK := Hid.mk hK
  have h0 : Calls Tryz.prog 10 #[.agg #[.int .i64 1, .slice none 0 0]] w fun e w' => e = .returned (.tuple #[str (arc [] 1 0), .int .i64 0]) ∧ Below w.heap.size w w' := by
    have h := encode_any [] 1 w none 0 ⟨fun k v h => by simp at h⟩ (by simp) (fun v h => by simp at h) hT hK
    rw [(pk_yes em_of).1, (pk_yes em_of).2] at h
    exact h
  have hs13 : ∀ w, (Go.Proofs.YtkoaojhldcacbaaGreatDoorP.slS (str (arc [] 1 0)) none (some (.int .i64 13)) none).run Tryz.prog w = .ok (.string ⟨#[49, 51, 32, 107, 105, 110, 100, 61, 102, 117, 108, 108, 10]⟩) w := fun w => by
    have := run_take (arc [] 1 0) 13 (by rw [em_len]; decide) w
    rw [em_take] at this
    exact this
  have hs141 : ∀ w, (Go.Proofs.YtkoaojhldcacbaaGreatDoorP.slS (str (arc [] 1 0)) (some (.int .i64 141)) none none).run Tryz.prog w = .ok (.string ⟨#[49, 51, 32, 108, 101, 110, 103, 116, 104, 61, 54, 56, 10]⟩) w := fun w => by
    have := run_from (arc [] 1 0) 141 (by rw [em_len]; decide) w
    rw [em_drop] at this
    exact this
  have d154 : (((arc [] 1 0).length : Int) == 154) = true := by rw [em_len]; rfl
  have d154n : ((arc [] 1 0).length == 154) = true := by rw [em_len]; rfl
  obtain ⟨s0, hs0⟩ : ∃ s, s = arc [] 1 0 := ⟨_, rfl⟩
  rw [← hs0] at h0 hs13 hs141 d154 d154n
  have hEnc : Hid (∀ (g : Nat) (w' : World), VIn w' (some ⟨g, 0, none⟩) [exA, exB] → TB w' → KIn w' → Calls Tryz.prog 10 #[.agg #[.int .i64 3, .slice (some ⟨g, 0, none⟩) 2 2]] w' fun e w'' => e = .returned (.tuple #[str (arc [exA, exB] 3 0), .int .i64 0]) ∧ Below w'.heap.size w' w'') := ⟨fun g w' hv ht hk => by
    have h := encode_any [exA, exB] 3 w' (some ⟨g, 0, none⟩) 2 hv (by decide) zl_ex ht hk
    rw [(pk_yes ex_of0).1, (pk_yes ex_of0).2] at h
    exact h⟩
  have hPk1 : Hid (∀ (g : Nat) (w' : World), VIn w' (some ⟨g, 0, none⟩) [exA, exB] → TB w' → KIn w' → Calls Tryz.prog 8 #[.agg #[.int .i64 3, .slice (some ⟨g, 0, none⟩) 2 2], .int .i64 1] w' fun e w'' => e = .returned (.tuple #[str (arc [exA, exB] 3 1), .int .i64 0]) ∧ Below w'.heap.size w' w'') := ⟨fun g w' hv ht hk => by
    have h := pack_any [exA, exB] 3 1 w' (some ⟨g, 0, none⟩) 2 hv (by decide) zl_ex ht hk
    rw [(pk_yes ex_of).1, (pk_yes ex_of).2] at h
    exact h⟩
  have hPk2 : Hid (∀ (g : Nat) (w' : World), VIn w' (some ⟨g, 0, none⟩) [exA, exB] → TB w' → KIn w' → Calls Tryz.prog 8 #[.agg #[.int .i64 3, .slice (some ⟨g, 0, none⟩) 2 2], .int .i64 2] w' fun e w'' => e = .returned (.tuple #[str [], .int .i64 1]) ∧ Below w'.heap.size w' w'') := ⟨fun g w' hv ht hk => by
    have h := pack_any [exA, exB] 3 2 w' (some ⟨g, 0, none⟩) 2 hv (by decide) zl_ex ht hk
    rw [(pk_no ex_no2).1, (pk_no ex_no2).2] at h
    exact h⟩
  have HA0 : Hid (Arc (arc [exA, exB] 3 0) [exA, exB] 3 0 ∧ (arc [exA, exB] 3 0).length ≤ 6010000000) := ⟨⟨ex_of0, rfl⟩, arc_len_le ex_of0⟩
  have HA1 : Hid (Arc (arc [exA, exB] 3 1) [exA, exB] 3 1 ∧ (arc [exA, exB] 3 1).length ≤ 6010000000) := ⟨⟨ex_of, rfl⟩, arc_len_le ex_of⟩
  generalize arc [exA, exB] 3 0 = sA at *
  generalize arc [exA, exB] 3 1 = sB at *
  clear hT hE hK hs0
  go_enter Tryz.func13, Tryz.ntmps13
  go_wp2_with fail
  with_reducible refine Calls.mono h0 ?_
  rintro e w1 ⟨rfl, b1⟩
  have HB1 := Hid.mk b1
  clear h0 b1
  dsimp only
  go_wp2_with fail
  with_reducible refine Calls.mono (example_any _) ?_
  rintro e w2 ⟨g2, rfl, hv2, b2⟩
  have HB2 := Hid.mk (below_seq HB1.out b2)
  have hc := hEnc.out g2 w2 hv2 (HT.out.below HB2.out) (HK.out.seq HB2.out)
  clear hv2 b2 hEnc HB1
  dsimp only
  go_wp2_with fail
  with_reducible refine Calls.mono hc ?_
  rintro e w3 ⟨rfl, b3⟩
  have HB3 := Hid.mk (below_seq HB2.out b3)
  have hd := decode_any sA w3 (by have := HA0.out.2; omega) (HT.out.below HB3.out) (HE.out.below HB3.out) (HK.out.seq HB3.out)
  clear hc b3 HB2
  dsimp only
  go_wp2_with fail
  with_reducible refine Calls.mono hd ?_
  rintro e w4 h4
  obtain ⟨R, va, vc, rfl, hR, hz, hF, b4⟩ := h4.yes HA0.out.1
  have bx := (Below.refl w4.heap.size w4).alloc (Nat.le_refl _) (.cells #[.int .i64 3, .slice va 2 vc] 24)
  have HB4 := Hid.mk (below_seq (below_seq HB3.out b4) bx)
  have HX5 : Hid (Xb (w4.alloc (.cells #[.int .i64 3, .slice va 2 vc] 24)) w4.heap.size va vc) := ⟨⟨Bb2.new _ _ _, (fo_vin2 hR hF).later bx⟩⟩
  clear hd h4 hR hz hF b4 bx HB3 R HA0
  dsimp only [List.length_cons, List.length_nil, Nat.reduceAdd]
  go_wp2_with fail
  generalize w4.alloc (.cells #[.int .i64 3, .slice va 2 vc] 24) = w5 at *
  generalize w4.heap.size = g5 at *
  with_reducible refine Calls.mono (example_any _) ?_
  rintro e w6 ⟨g6, rfl, hv6, b6⟩
  have HB6 := Hid.mk (below_seq HB4.out b6)
  replace HX5 := Hid.mk (HX5.out.later b6)
  have hc := hPk1.out g6 w6 hv6 (HT.out.below HB6.out) (HK.out.seq HB6.out)
  clear hv6 b6 hPk1 HB4
  dsimp only
  go_wp2_with fail
  with_reducible refine Calls.mono hc ?_
  rintro e w7 ⟨rfl, b7⟩
  have HB7 := Hid.mk (below_seq HB6.out b7)
  replace HX5 := Hid.mk (HX5.out.later b7)
  have hd := unpack_any sB w7 (by have := HA1.out.2; omega) (HT.out.below HB7.out) (HE.out.below HB7.out) (HK.out.seq HB7.out)
  clear hc b7 HB6
  dsimp only
  go_wp2_with fail
  with_reducible refine Calls.mono hd ?_
  rintro e w8 h8
  obtain ⟨R, vb, vd, rfl, hR, hz, hF, b8⟩ := h8.yes HA1.out.1
  have bx := (Below.refl w8.heap.size w8).alloc (Nat.le_refl _) (.cells #[.int .i64 3, .slice vb 2 vd] 24)
  have HB8 := Hid.mk (below_seq (below_seq HB7.out b8) bx)
  have HX9 : Hid (Xb (w8.alloc (.cells #[.int .i64 3, .slice vb 2 vd] 24)) w8.heap.size vb vd) := ⟨⟨Bb2.new _ _ _, (fo_vin2 hR hF).later bx⟩⟩
  replace HX5 := Hid.mk ((HX5.out.later b8).later bx)
  clear hd h8 hR hz hF b8 bx HB7 R
  dsimp only [List.length_cons, List.length_nil, Nat.reduceAdd]
  go_wp2_with fail
  generalize w8.alloc (.cells #[.int .i64 3, .slice vb 2 vd] 24) = w9 at *
  generalize w8.heap.size = g9 at *
  have hd := decode_any sB w9 (by have := HA1.out.2; omega) (HT.out.below HB8.out) (HE.out.below HB8.out) (HK.out.seq HB8.out)
  with_reducible refine Calls.mono hd ?_
  rintro e w10 h10
  obtain ⟨rfl, b10⟩ := h10.no (fun L n hA => by have := (hA.two HA1.out.1).2.2; cases this)
  have bx := (Below.refl w10.heap.size w10).alloc (Nat.le_refl _) (.cells #[.int .i64 0, .slice none 0 0] 24)
  have b11 := below_seq b10 bx
  have HB10 := Hid.mk (below_seq HB8.out b11)
  replace HX5 := Hid.mk (HX5.out.later b11)
  replace HX9 := Hid.mk (HX9.out.later b11)
  clear hd h10 b10 bx b11 HB8 HA1
  dsimp only
  go_wp2_with fail
  generalize w10.alloc (.cells #[.int .i64 0, .slice none 0 0] 24) = w11 at *
  generalize w10.heap.size = g11 at *
  have hd : Calls Tryz.prog 16 #[.string ⟨#[]⟩] w11 (DcP [] w11) := decode_any [] w11 (by decide) (HT.out.below HB10.out) (HE.out.below HB10.out) (HK.out.seq HB10.out)
  with_reducible refine Calls.mono hd ?_
  rintro e w12 h12
  obtain ⟨rfl, b12⟩ := h12.no no_arc
  have bx := (Below.refl w12.heap.size w12).alloc (Nat.le_refl _) (.cells #[.int .i64 0, .slice none 0 0] 24)
  have b13 := below_seq b12 bx
  have HB12 := Hid.mk (below_seq HB10.out b13)
  replace HX5 := Hid.mk (HX5.out.later b13)
  replace HX9 := Hid.mk (HX9.out.later b13)
  clear hd h12 b12 bx b13 HB10
  dsimp only
  go_wp2_with fail
  generalize w12.alloc (.cells #[.int .i64 0, .slice none 0 0] 24) = w13 at *
  generalize w12.heap.size = g13 at *
  with_reducible refine Calls.mono (example_any _) ?_
  rintro e w14 ⟨g14, rfl, hv14, b14⟩
  have HB14 := Hid.mk (below_seq HB12.out b14)
  replace HX5 := Hid.mk (HX5.out.later b14)
  replace HX9 := Hid.mk (HX9.out.later b14)
  have hc := hPk2.out g14 w14 hv14 (HT.out.below HB14.out) (HK.out.seq HB14.out)
  clear hv14 b14 hPk2 HB12
  dsimp only
  go_wp2_with fail
  with_reducible refine Calls.mono hc ?_
  rintro e w15 ⟨rfl, b15⟩
  have HB15 := Hid.mk (below_seq HB14.out b15)
  replace HX5 := Hid.mk (HX5.out.later b15)
  replace HX9 := Hid.mk (HX9.out.later b15)
  clear hc b15 HB14 HT HE HK
  dsimp only
  go_upto_region 9 with fail
  have hex := fun w' => example_any w'
  have hsa := fun (w' : World) (va : Option Addr) (vc g : Nat) (h1 : VIn w' va [exA, exB]) (h2 : VIn w' (some ⟨g, 0, none⟩) [exA, exB]) => (asame_any 3 3 [exA, exB] [exA, exB] w' va (some ⟨g, 0, none⟩) vc 2 h1 h2 (by decide) zl_ex zl_ex).mono (R' := fun e w'' => e = .returned (.bool true) ∧ Below w'.heap.size w' w'') (by
    rintro e w'' ⟨rfl, hb⟩
    exact ⟨by rw [svB_true ⟨rfl, rfl⟩], hb⟩)
  have HSC : Hid (∀ w', Below w15.heap.size w15 w' → Below w15.heap.size w15 w' ∧ w'.cell? ⟨g5, 0, none⟩ = some (.int .i64 3) ∧ w'.cell? ⟨g5, 1, none⟩ = some (.slice va 2 vc) ∧ w'.cell? ⟨g9, 0, none⟩ = some (.int .i64 3) ∧ w'.cell? ⟨g9, 1, none⟩ = some (.slice vb 2 vd) ∧ VIn w' va [exA, exB] ∧ VIn w' vb [exA, exB]) := ⟨fun w' h => by
    obtain ⟨a0, a1⟩ := (HX5.out.later h).box.cells
    obtain ⟨c0, c1⟩ := (HX9.out.later h).box.cells
    exact ⟨h, a0, a1, c0, c1, (HX5.out.later h).vin, (HX9.out.later h).vin⟩⟩
  clear HX5 HX9
  go_region_held3 (fun w' => Below w15.heap.size w15 w' ∧ w'.cell? ⟨g5, 0, none⟩ = some (.int .i64 3) ∧ w'.cell? ⟨g5, 1, none⟩ = some (.slice va 2 vc) ∧ w'.cell? ⟨g9, 0, none⟩ = some (.int .i64 3) ∧ w'.cell? ⟨g9, 1, none⟩ = some (.slice vb 2 vd) ∧ VIn w' va [exA, exB] ∧ VIn w' vb [exA, exB]) ((refine HSC.out _ ?_; first
    | with_reducible exact (Below.refl _ _).drew
    | with_reducible assumption)) (first
    | (go_at_call 39; with_reducible refine Calls.mono (hex _) ?_; rintro e w20 ⟨g20, rfl, hv20, y1⟩; have B1 := below_seq (And.left (by assumption)) y1; clear y1)
    | (go_at_call 18; with_reducible refine Calls.mono (hsa _ _ _ _ (s6 (by assumption)) (by assumption)) ?_; rintro e w20 ⟨rfl, y1⟩; have B1 := below_seq (And.left (by assumption)) y1; clear y1)
    | (go_at_call 18; with_reducible refine Calls.mono (hsa _ _ _ _ (s7 (by assumption)) (by assumption)) ?_; rintro e w20 ⟨rfl, y1⟩; have B1 := below_seq (And.left (by assumption)) y1; clear y1))
  all_goals (go_wp2_with fail)
  all_goals go_ret
  all_goals (exact ⟨by first | rfl | (simp [*]; done), below_seq HB15.out (by first | assumption | (exact (Below.refl _ _).drew))⟩)
end Go.Proofs.YtkoaojhldcacbaaGreatDoor
