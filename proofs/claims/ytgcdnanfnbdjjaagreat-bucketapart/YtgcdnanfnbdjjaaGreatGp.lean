import Derived.Test.YtgcdnanfnbdjjaaGreatGo
import Derived.Test.YtgcdnanfnbdjjaaGreatRwW
import Derived.Deep.CutRange
/- looked. -/
namespace Go.Proofs.YtgcdnanfnbdjjaaGreat
set_option linter.unusedVariables false
set_option linter.unusedSimpArgs false
open Go.RowKit
attribute [local go_sem ↓] Go.wp_at_zero Go.wp_at_succ
theorem bList_r (L : List Vs) (next : Int) (k : List UInt8) (most : Int) (w : World) (a : Option Addr) (cap : Nat) (hs : SrtV L) (hL : Li w L a L.length cap) : Calls Tryz.prog 24 #[bv next a L.length cap, str k, .int .i64 most] w fun e w' => ∃ xa xc, e = .returned (.slice xa ((byK nw1 (L.drop (fndV L k))).take (msN most)).length xc) ∧ WIn w' xa ((byK nw1 (L.drop (fndV L k))).take (msN most)) ∧ Below w.heap.size w w' := by
  refine (bList_any L next k most w a _ cap hL).mono ?_
  rintro e w' ⟨i, hi, h, v, rfl, ho, b⟩
  obtain rfl := h hs
  rw [evl_take _ _ _ _ (Nat.le_refl _)] at ho
  simp only [List.nil_append, List.length_nil, Int.natCast_zero, Int.sub_zero] at ho
  obtain ⟨xa, xc, rfl, hw⟩ := ho.sl
  exact ⟨xa, xc, rfl, hw, b⟩
theorem bVersions_r (L : List Vs) (next : Int) (k : List UInt8) (most : Int) (w : World) (a : Option Addr) (cap : Nat) (hs : SrtV L) (hL : Li w L a L.length cap) : Calls Tryz.prog 25 #[bv next a L.length cap, str k, .int .i64 most] w fun e w' => ∃ xa xc, e = .returned (.slice xa ((byK rwsL (L.drop (fndV L k))).take (msN most)).length xc) ∧ WIn w' xa ((byK rwsL (L.drop (fndV L k))).take (msN most)) ∧ Below w.heap.size w w' := by
  refine (bVersions_any L next k most w a _ cap hL).mono ?_
  rintro e w' ⟨i, hi, h, v, rfl, ho, b⟩
  obtain rfl := h hs
  rw [evv_take _ _ _ _ (Nat.le_refl _)] at ho
  simp only [List.nil_append, List.length_nil, Int.natCast_zero, Int.sub_zero] at ho
  obtain ⟨xa, xc, rfl, hw⟩ := ho.sl
  exact ⟨xa, xc, rfl, hw, b⟩
theorem qList_s (L : List Vs) (next : Int) (k : List UInt8) (most : Int) (w : World) (a : Option Addr) (cap : Nat) (hR : RtB next L) (hL : Li w L a L.length cap) : Calls Tryz.prog 42 #[bv next a L.length cap, str k, .int .i64 most] w fun e w' => ∃ xa xc, e = .returned (.slice xa ((byK nw1 (L.drop (fndV L k))).take (msN most)).length xc) ∧ WIn w' xa ((byK nw1 (L.drop (fndV L k))).take (msN most)) ∧ Below w.heap.size w w' := by
  refine (qList_r L next k most w a cap hR hL).mono ?_
  rintro e w' ⟨v, rfl, ho, b⟩
  obtain ⟨xa, xc, rfl, hw⟩ := ho.sl
  exact ⟨xa, xc, rfl, hw, b⟩
theorem qVersions_s (L : List Vs) (next : Int) (k : List UInt8) (most : Int) (w : World) (a : Option Addr) (cap : Nat) (hR : RtB next L) (hL : Li w L a L.length cap) : Calls Tryz.prog 43 #[bv next a L.length cap, str k, .int .i64 most] w fun e w' => ∃ xa xc, e = .returned (.slice xa ((byK rwsL (L.drop (fndV L k))).take (msN most)).length xc) ∧ WIn w' xa ((byK rwsL (L.drop (fndV L k))).take (msN most)) ∧ Below w.heap.size w w' := by
  refine (qVersions_r L next k most w a cap hR hL).mono ?_
  rintro e w' ⟨v, rfl, ho, b⟩
  obtain ⟨xa, xc, rfl, hw⟩ := ho.sl
  exact ⟨xa, xc, rfl, hw, b⟩
theorem bRight_r {next : Int} {L : List Vs} (h : RtB next L) (w : World) (a : Option Addr) (c : Nat) (hL : Li w L a L.length c) : Calls Tryz.prog 6 #[bv next a L.length c] w fun e w' => e = .returned (.bool true) ∧ Below w.heap.size w w' := by
  refine (bRight_any L next w a _ c hL).mono ?_
  rintro e w' ⟨⟨t, rfl, ht⟩, b⟩
  exact ⟨by rw [ht.2 h], b⟩
/-- a version in a box -/
structure Vb (w : World) (g : Nat) (v : Vs) (a : Option Addr) (c : Nat) : Prop where
  z : Bv w g (str v.key) (.int .i64 v.seq) (.bool v.mkr) (str v.data) (.slice a v.l.length c)
  p : PIn w a v.l
theorem Vb.later {w w' : World} {g : Nat} {v : Vs} {a : Option Addr} {c : Nat} (h : Vb w g v a c) (hb : Below w.heap.size w w') : Vb w' g v a c := ⟨h.z.later hb, h.p.later hb⟩
structure KL (W w : World) (g0 g1 g2 : Nat) (next : Int) (L : List Vs) (a : Option Addr) (c : Nat) (a' : Option Addr) (c' : Nat) (o : Op1) (ma : Option Addr) (mc : Nat) : Prop where
  b : Below W.heap.size W w
  zb : Bq w g0 (.int .i64 next) (.slice a L.length c)
  zr : Bq w g1 (.int .i64 next) (.slice a' L.length c')
  zo : Bo w g2 (.int .i64 o.kind) (str o.key) (str o.data) (.slice ma o.l.length mc) (.int .i64 o.seq) (.int .i64 o.most)
  lb : Li w L a L.length c
  lr : Li w L a' L.length c'
theorem KL.later {W w w' : World} {g0 g1 g2 : Nat} {next : Int} {L : List Vs} {a : Option Addr} {c : Nat} {a' : Option Addr} {c' : Nat} {o : Op1} {ma : Option Addr} {mc : Nat} (h : KL W w g0 g1 g2 next L a c a' c' o ma mc) (hb : Below w.heap.size w w') : KL W w' g0 g1 g2 next L a c a' c' o ma mc :=
  ⟨h.b.trans (hb.mono h.b.size), h.zb.later hb, h.zr.later hb, h.zo.later hb, h.lb.later hb, h.lr.later hb⟩
theorem gvV_len {next : Int} {L : List Vs} (h : RtB next L) (k : List UInt8) (s : Int) : (gvV L k s).l.length ≤ 1000000 := by
  unfold gvV
  split
  · unfold geV
    split
    · simp [vs0]
    · rename_i j hj
      obtain ⟨⟨v, hv, _⟩, _⟩ := plc_some hj
      rw [List.getD_eq_getElem?_getD, hv]
      have hm := List.mem_of_getElem? hv
      rw [gp_filter h.srt] at hm
      have := rt_vl h (List.mem_filter.1 hm).1
      have h3 := (vrV_iff.1 (h.ok _ (List.mem_filter.1 hm).1).2.2).1.2.2
      unfold mtE at h3
      split at h3
      · rename_i z; simp; omega
      · omega
  · simp [vs0]
set_option maxRecDepth 100000 in
set_option maxHeartbeats 8000000 in
theorem looked_any (next : Int) (L : List Vs) (hR : RtB next L) (o : Op1) (ma : Option Addr) (mc : Nat) (w : World) (a : Option Addr) (c : Nat) (a' : Option Addr) (c' : Nat) (hL : Li w L a L.length c) (hL' : Li w L a' L.length c') :
    Calls Tryz.prog 38 #[bv next a L.length c, bv next a' L.length c', .agg #[.int .i64 o.kind, str o.key, str o.data, .slice ma o.l.length mc, .int .i64 o.seq, .int .i64 o.most]] w fun e w' => e = .returned (.bool true) ∧ Below w.heap.size w w' := by
  have b0 := (Below.refl w.heap.size w).alloc (Nat.le_refl _) (.cells #[.int .i64 next, .slice a L.length c] 24)
  have b1 := b0.alloc b0.size (.cells #[.int .i64 next, .slice a' L.length c'] 24)
  have b2 := b1.alloc b1.size (.cells #[.int .i64 o.kind, str o.key, str o.data, .slice ma o.l.length mc, .int .i64 o.seq, .int .i64 o.most] 34)
  have z1 := (Bq.new w (.int .i64 next) (.slice a L.length c)).later ((Below.refl (w.alloc (.cells #[.int .i64 next, .slice a L.length c] 24)).heap.size _).alloc (Nat.le_refl _) (.cells #[.int .i64 next, .slice a' L.length c'] 24))
  have z2 := Bq.new (w.alloc (.cells #[.int .i64 next, .slice a L.length c] 24)) (.int .i64 next) (.slice a' L.length c')
  have z3 := Bo.new ((w.alloc (.cells #[.int .i64 next, .slice a L.length c] 24)).alloc (.cells #[.int .i64 next, .slice a' L.length c'] 24)) (.int .i64 o.kind) (str o.key) (str o.data) (.slice ma o.l.length mc) (.int .i64 o.seq) (.int .i64 o.most)
  have bz := (Below.refl ((w.alloc (.cells #[.int .i64 next, .slice a L.length c] 24)).alloc (.cells #[.int .i64 next, .slice a' L.length c'] 24)).heap.size _).alloc (Nat.le_refl _) (.cells #[.int .i64 o.kind, str o.key, str o.data, .slice ma o.l.length mc, .int .i64 o.seq, .int .i64 o.most] 34)
  have K : Hid (KL w (((w.alloc (.cells #[.int .i64 next, .slice a L.length c] 24)).alloc (.cells #[.int .i64 next, .slice a' L.length c'] 24)).alloc (.cells #[.int .i64 o.kind, str o.key, str o.data, .slice ma o.l.length mc, .int .i64 o.seq, .int .i64 o.most] 34)) w.heap.size (w.heap.size + 1) (w.heap.size + 2) next L a c a' c' o ma mc) := ⟨⟨b2, z1.later bz, by have := z2.later bz; rwa [World.size_alloc] at this, by rwa [World.size_alloc, World.size_alloc] at z3, hL.later b2, hL'.later b2⟩⟩
  have HR := Hid.mk hR
  have hvl := gtV_len hR o.key
  have hxl := gvV_len hR o.key o.seq
  have Hg1 := Hid.mk (fun w (h : Li w L a L.length c) => get_r L next o.key w a c HR.out.srt h)
  have Hg2 := Hid.mk (fun w (h : Li w L a' L.length c') => qGet_r L next o.key w a' c' HR.out h)
  have Hg3 := Hid.mk (fun w (h : Li w L a L.length c) => gvn_r L next o.key o.seq w a c HR.out.srt h)
  have Hg4 := Hid.mk (fun w (h : Li w L a' L.length c') => qGetVersion_r L next o.key o.seq w a' c' HR.out h)
  clear b0 b1 b2 z1 z2 z3 bz hL hL' hR
  generalize gtV L o.key = v at *
  generalize gtE L o.key = ve at *
  generalize gvV L o.key o.seq = x at *
  generalize gvE L o.key o.seq = xe at *
  obtain ⟨g1, hg1⟩ : ∃ g, g = w.heap.size + 1 := ⟨_, rfl⟩
  obtain ⟨g2, hg2⟩ : ∃ g, g = w.heap.size + 2 := ⟨_, rfl⟩
  go_enter Tryz.func38, Tryz.ntmps38
  go_wp2_with fail
  generalize ((w.alloc (.cells #[.int .i64 next, .slice a L.length c] 24)).alloc (.cells #[.int .i64 next, .slice a' L.length c'] 24)).alloc (.cells #[.int .i64 o.kind, str o.key, str o.data, .slice ma o.l.length mc, .int .i64 o.seq, .int .i64 o.most] 34) = w1 at *
  with_reducible refine Calls.mono (Hg1.out _ K.out.lb) ?_
  rintro e w10 ⟨xa1, xc1, rfl, xo, b1⟩
  dsimp only
  have bx := (Below.refl w10.heap.size w10).alloc (Nat.le_refl _) (.cells #[str v.key, .int .i64 v.seq, .bool v.mkr, str v.data, .slice xa1 v.l.length xc1] 39)
  have b2 := below_seq b1 bx
  have K := Hid.mk (K.out.later b2)
  have V1 : Hid (Vb (w10.alloc (.cells #[str v.key, .int .i64 v.seq, .bool v.mkr, str v.data, .slice xa1 v.l.length xc1] 39)) w10.heap.size v xa1 xc1) := ⟨⟨Bv.new w10 _ _ _ _ _, (ow_pin xo).later bx⟩⟩
  obtain ⟨p0, p1, _⟩ := K.out.zb.cells
  obtain ⟨r0, r1, _⟩ := K.out.zr.cells
  obtain ⟨q0, q1, q2, q3, q4, q5⟩ := K.out.zo.cells
  clear b1 bx b2 xo
  go_wp2_with fail
  generalize w10.alloc (.cells #[str v.key, .int .i64 v.seq, .bool v.mkr, str v.data, .slice xa1 v.l.length xc1] 39) = u0 at *
  generalize w10.heap.size = h1 at *
  with_reducible refine Calls.mono (Hg2.out _ K.out.lr) ?_
  rintro e w11 ⟨xa2, xc2, rfl, xo, b1⟩
  dsimp only
  clear p0 p1 r0 r1 q0 q1 q2 q3 q4 q5
  have bx := (Below.refl w11.heap.size w11).alloc (Nat.le_refl _) (.cells #[str v.key, .int .i64 v.seq, .bool v.mkr, str v.data, .slice xa2 v.l.length xc2] 39)
  have b2 := below_seq b1 bx
  have K := Hid.mk (K.out.later b2)
  have V1 := Hid.mk (V1.out.later b2)
  have V2 : Hid (Vb (w11.alloc (.cells #[str v.key, .int .i64 v.seq, .bool v.mkr, str v.data, .slice xa2 v.l.length xc2] 39)) w11.heap.size v xa2 xc2) := ⟨⟨Bv.new w11 _ _ _ _ _, (ow_pin xo).later bx⟩⟩
  obtain ⟨p0, p1, _⟩ := K.out.zb.cells
  obtain ⟨r0, r1, _⟩ := K.out.zr.cells
  obtain ⟨q0, q1, q2, q3, q4, q5⟩ := K.out.zo.cells
  clear b1 bx b2 xo
  go_wp2_with fail
  generalize w11.alloc (.cells #[str v.key, .int .i64 v.seq, .bool v.mkr, str v.data, .slice xa2 v.l.length xc2] 39) = u1 at *
  generalize w11.heap.size = h2 at *
  with_reducible refine Calls.mono (Hg3.out _ K.out.lb) ?_
  rintro e w12 ⟨xa3, xc3, rfl, xo, b1⟩
  dsimp only
  clear p0 p1 r0 r1 q0 q1 q2 q3 q4 q5
  have bx := (Below.refl w12.heap.size w12).alloc (Nat.le_refl _) (.cells #[str x.key, .int .i64 x.seq, .bool x.mkr, str x.data, .slice xa3 x.l.length xc3] 39)
  have b2 := below_seq b1 bx
  have K := Hid.mk (K.out.later b2)
  have V1 := Hid.mk (V1.out.later b2)
  have V2 := Hid.mk (V2.out.later b2)
  have V3 : Hid (Vb (w12.alloc (.cells #[str x.key, .int .i64 x.seq, .bool x.mkr, str x.data, .slice xa3 x.l.length xc3] 39)) w12.heap.size x xa3 xc3) := ⟨⟨Bv.new w12 _ _ _ _ _, (ow_pin xo).later bx⟩⟩
  obtain ⟨p0, p1, _⟩ := K.out.zb.cells
  obtain ⟨r0, r1, _⟩ := K.out.zr.cells
  obtain ⟨q0, q1, q2, q3, q4, q5⟩ := K.out.zo.cells
  clear b1 bx b2 xo
  go_wp2_with fail
  generalize w12.alloc (.cells #[str x.key, .int .i64 x.seq, .bool x.mkr, str x.data, .slice xa3 x.l.length xc3] 39) = u2 at *
  generalize w12.heap.size = h3 at *
  with_reducible refine Calls.mono (Hg4.out _ K.out.lr) ?_
  rintro e w13 ⟨xa4, xc4, rfl, xo, b1⟩
  dsimp only
  clear p0 p1 r0 r1 q0 q1 q2 q3 q4 q5
  have bx := (Below.refl w13.heap.size w13).alloc (Nat.le_refl _) (.cells #[str x.key, .int .i64 x.seq, .bool x.mkr, str x.data, .slice xa4 x.l.length xc4] 39)
  have b2 := below_seq b1 bx
  have K := Hid.mk (K.out.later b2)
  have V1 := Hid.mk (V1.out.later b2)
  have V2 := Hid.mk (V2.out.later b2)
  have V3 := Hid.mk (V3.out.later b2)
  have V4 : Hid (Vb (w13.alloc (.cells #[str x.key, .int .i64 x.seq, .bool x.mkr, str x.data, .slice xa4 x.l.length xc4] 39)) w13.heap.size x xa4 xc4) := ⟨⟨Bv.new w13 _ _ _ _ _, (ow_pin xo).later bx⟩⟩
  obtain ⟨p0, p1, _⟩ := K.out.zb.cells
  obtain ⟨r0, r1, _⟩ := K.out.zr.cells
  obtain ⟨q0, q1, q2, q3, q4, q5⟩ := K.out.zo.cells
  clear b1 bx b2 xo
  obtain ⟨s10, s11, s12, s13, s14, _⟩ := V1.out.z.cells
  obtain ⟨s20, s21, s22, s23, s24, _⟩ := V2.out.z.cells
  obtain ⟨s30, s31, s32, s33, s34, _⟩ := V3.out.z.cells
  obtain ⟨s40, s41, s42, s43, s44, _⟩ := V4.out.z.cells
  go_wp2_with fail
  generalize w13.alloc (.cells #[str x.key, .int .i64 x.seq, .bool x.mkr, str x.data, .slice xa4 x.l.length xc4] 39) = u3 at *
  generalize w13.heap.size = h4 at *
  have hs1 := qSameVersion_any v v u3 xa1 _ xc1 rfl V1.out.p (by omega) xa2 _ xc2 rfl V2.out.p (by omega)
  rw [sv_true rfl] at hs1
  with_reducible refine Calls.mono hs1 ?_
  rintro e w14 ⟨rfl, b1⟩
  dsimp only
  have K := Hid.mk (K.out.later b1)
  have V3 := Hid.mk (V3.out.later b1)
  have V4 := Hid.mk (V4.out.later b1)
  clear hs1 b1 V1 V2 p0 p1 r0 r1 q0 q1 q2 q3 q4 q5 s10 s11 s12 s13 s14 s20 s21 s22 s23 s24 s30 s31 s32 s33 s34 s40 s41 s42 s43 s44
  obtain ⟨s30, s31, s32, s33, s34, _⟩ := V3.out.z.cells
  obtain ⟨s40, s41, s42, s43, s44, _⟩ := V4.out.z.cells
  go_wp2_with fail
  have hs1 := qSameVersion_any x x w14 xa3 _ xc3 rfl V3.out.p (by omega) xa4 _ xc4 rfl V4.out.p (by omega)
  rw [sv_true rfl] at hs1
  with_reducible refine Calls.mono hs1 ?_
  rintro e w15 ⟨rfl, b1⟩
  dsimp only
  have K := Hid.mk (K.out.later b1)
  clear hs1 b1 V3 V4 s30 s31 s32 s33 s34 s40 s41 s42 s43 s44
  have HS1 : Hid (∀ w', Below w15.heap.size w15 w' → Below w15.heap.size w15 w' ∧ w'.cell? ⟨w.heap.size, 0, none⟩ = some (.int .i64 next) ∧ w'.cell? ⟨w.heap.size, 1, none⟩ = some (.slice a L.length c) ∧ w'.cell? ⟨w.heap.size + 1, 0, none⟩ = some (.int .i64 next) ∧ w'.cell? ⟨w.heap.size + 1, 1, none⟩ = some (.slice a' L.length c') ∧ w'.cell? ⟨w.heap.size + 2, 1, none⟩ = some (str o.key) ∧ w'.cell? ⟨w.heap.size + 2, 5, none⟩ = some (.int .i64 o.most)) := ⟨fun w' h => by
    obtain ⟨t0, t1, _⟩ := (K.out.zb.later h).cells
    obtain ⟨y0, y1, _⟩ := (K.out.zr.later h).cells
    obtain ⟨_, f1, _, _, _, f5⟩ := (K.out.zo.later h).cells
    exact ⟨h, t0, t1, y0, y1, f1, f5⟩⟩
  have hLb := fun w' (h : Below w15.heap.size w15 w') => K.out.lb.later h
  have hLr := fun w' (h : Below w15.heap.size w15 w') => K.out.lr.later h
  have c1 := fun w' h => bRight_r HR.out w' a c (hLb w' h)
  have c2 := fun w' h => right_r HR.out w' a' c' (hLr w' h)
  have c3 := fun w' h => bBytes_any L next w' a _ c (hLb w' h)
  have c4 := fun w' h => qBytes_any L next w' a' _ c' (hLr w' h)
  have c5 := fun w' h => bList_r L next o.key o.most w' a c HR.out.srt (hLb w' h)
  have c6 := fun w' h => qList_s L next o.key o.most w' a' c' HR.out (hLr w' h)
  have c7 := fun w' h => bVersions_r L next o.key o.most w' a c HR.out.srt (hLb w' h)
  have c8 := fun w' h => qVersions_s L next o.key o.most w' a' c' HR.out (hLr w' h)
  have hM := ms_le o.most
  have hx1 : ((byK nw1 (L.drop (fndV L o.key))).take (msN o.most)).length ≤ 1000000 := by rw [List.length_take]; omega
  have hx2 : ((byK rwsL (L.drop (fndV L o.key))).take (msN o.most)).length ≤ 1000000 := by rw [List.length_take]; omega
  generalize (byK nw1 (L.drop (fndV L o.key))).take (msN o.most) = X at *
  generalize (byK rwsL (L.drop (fndV L o.key))).take (msN o.most) = Y at *
  generalize bw L = BL at *
  have c9 := fun w' xa xc xa' xc' h1 h2 => qSameRows_eq X w' xa xc xa' xc' h1 h2 hx1
  have c10 := fun w' xa xc xa' xc' h1 h2 => qSameRows_eq Y w' xa xc xa' xc' h1 h2 hx2
  have HB := Hid.mk K.out.b
  clear hLb hLr hM Hg1 Hg2 Hg3 Hg4 HR hx1 hx2 K
  generalize hXL : X.length = XL at *
  generalize hYL : Y.length = YL at *
  clear hXL hYL
  go_wp2_with fail
  go_region_held3 (fun w' => Below w15.heap.size w15 w' ∧ w'.cell? ⟨w.heap.size, 0, none⟩ = some (.int .i64 next) ∧ w'.cell? ⟨w.heap.size, 1, none⟩ = some (.slice a L.length c) ∧ w'.cell? ⟨w.heap.size + 1, 0, none⟩ = some (.int .i64 next) ∧ w'.cell? ⟨w.heap.size + 1, 1, none⟩ = some (.slice a' L.length c') ∧ w'.cell? ⟨w.heap.size + 2, 1, none⟩ = some (str o.key) ∧ w'.cell? ⟨w.heap.size + 2, 5, none⟩ = some (.int .i64 o.most)) ((refine HS1.out _ ?_; first
    | with_reducible exact (Below.refl _ _).drew
    | with_reducible exact below_seq (And.left (by assumption)) e1
    | with_reducible exact below_seq (And.left (by assumption)) e2
    | with_reducible exact below_seq (And.left (by assumption)) e3
    | with_reducible exact below_seq (And.left (by assumption)) e4
    | with_reducible exact below_seq (And.left (by assumption)) e5
    | with_reducible exact below_seq (And.left (by assumption)) e6
    | with_reducible exact below_seq (And.left (by assumption)) e7
    | with_reducible exact below_seq (And.left (by assumption)) e8
    | with_reducible exact below_seq (And.left (by assumption)) e9
    | with_reducible exact below_seq (And.left (by assumption)) e10)) (first
    | (go_at_call 6; with_reducible refine Calls.mono (c1 _ (And.left (by assumption))) ?_; rintro e w21 ⟨rfl, e1⟩)
    | (go_at_call 8; with_reducible refine Calls.mono (c2 _ (And.left (by assumption))) ?_; rintro e w22 ⟨rfl, e2⟩)
    | (go_at_call 26; with_reducible refine Calls.mono (c3 _ (And.left (by assumption))) ?_; rintro e w23 ⟨rfl, e3⟩)
    | (go_at_call 34; with_reducible refine Calls.mono (c4 _ (And.left (by assumption))) ?_; rintro e w24 ⟨rfl, e4⟩)
    | (go_at_call 24; with_reducible refine Calls.mono (c5 _ (And.left (by assumption))) ?_; rintro e w25 ⟨xa5, xc5, rfl, wi5, e5⟩)
    | (go_at_call 42; with_reducible refine Calls.mono (c6 _ (And.left (by assumption))) ?_; rintro e w26 ⟨xa6, xc6, rfl, wi6, e6⟩)
    | (go_at_call 44; with_reducible refine Calls.mono (c9 _ xa5 xc5 xa6 xc6 (wi5.later e6) wi6) ?_; rintro e w27 ⟨rfl, e7⟩)
    | (go_at_call 25; with_reducible refine Calls.mono (c7 _ (And.left (by assumption))) ?_; rintro e w28 ⟨xa8, xc8, rfl, wi8, e8⟩)
    | (go_at_call 43; with_reducible refine Calls.mono (c8 _ (And.left (by assumption))) ?_; rintro e w29 ⟨xa9, xc9, rfl, wi9, e9⟩)
    | (go_at_call 44; with_reducible refine Calls.mono (c10 _ xa8 xc8 xa9 xc9 (wi8.later e9) wi9) ?_; rintro e w30 ⟨rfl, e10⟩))
  have hbw : Below w15.heap.size w15 w30 := And.left (by assumption)
  go_wp2_with fail
  go_ret
  exact ⟨rfl, HB.out.trans (hbw.mono HB.out.size)⟩
end Go.Proofs.YtgcdnanfnbdjjaaGreat

/- done. -/
namespace Go.Proofs.YtgcdnanfnbdjjaaGreat
set_option linter.unusedVariables false
set_option linter.unusedSimpArgs false
open Go.RowKit
attribute [local go_sem ↓] Go.wp_at_zero Go.wp_at_succ
theorem results_cct {fn : Func} {p q t : Tmp} {ty ty' : TypeId} (h : fn.results = #[.cell p ty, .cell q ty', .tmp t]) (tmps : Array Value) (P : Program) (w : World) :
    (results fn tmps).run P w = ((asAddr (tmps.getD p undef)).run P w).andThen fun a w₁ => ((loadVar ty a).run P w₁).andThen fun v w₂ => ((asAddr (tmps.getD q undef)).run P w₂).andThen fun a' w₃ => ((loadVar ty' a').run P w₃).andThen fun v' w₄ => .ok (.tuple #[v, v', tmps.getD t undef]) w₄ := by
  simp only [results, h]
  simp [Sem.run_bind, Result.andThen]
/-- the seven boxes of done -/
structure KD (W w : World) (next : Int) (L : List Vs) (a : Option Addr) (c : Nat) (a' : Option Addr) (c' : Nat) (o : Op1) (ma : Option Addr) (mc : Nat) (x3 y3 x4 y4 x5 y5 x6 y6 : Value) : Prop where
  b : Below W.heap.size W w
  zb : Bq w W.heap.size (.int .i64 next) (.slice a L.length c)
  zr : Bq w (W.heap.size + 1) (.int .i64 next) (.slice a' L.length c')
  zo : Bo w (W.heap.size + 2) (.int .i64 o.kind) (str o.key) (str o.data) (.slice ma o.l.length mc) (.int .i64 o.seq) (.int .i64 o.most)
  z3 : Bq w (W.heap.size + 3) x3 y3
  z4 : Bq w (W.heap.size + 4) x4 y4
  z5 : Bq w (W.heap.size + 5) x5 y5
  z6 : Bq w (W.heap.size + 6) x6 y6
  sz : W.heap.size + 7 ≤ w.heap.size
theorem KD.later {W w w' : World} {next : Int} {L : List Vs} {a : Option Addr} {c : Nat} {a' : Option Addr} {c' : Nat} {o : Op1} {ma : Option Addr} {mc : Nat} {x3 y3 x4 y4 x5 y5 x6 y6 : Value} (h : KD W w next L a c a' c' o ma mc x3 y3 x4 y4 x5 y5 x6 y6) (hb : Below w.heap.size w w') : KD W w' next L a c a' c' o ma mc x3 y3 x4 y4 x5 y5 x6 y6 :=
  ⟨h.b.trans (hb.mono h.b.size), h.zb.later hb, h.zr.later hb, h.zo.later hb, h.z3.later hb, h.z4.later hb, h.z5.later hb, h.z6.later hb, Nat.le_trans h.sz hb.size⟩
theorem Bq.out {w : World} {g : Nat} {x y : Value} (h : Bq w g x y) {g2 j : Nat} (hg : ¬ g = g2) (c : Value) : Bq (w.setCell ⟨g2, j, none⟩ c) g x y := by
  unfold Bq
  rw [heap_setCell_other _ _ _ _ (by first | exact hg | exact fun q => hg q.symm)]; exact h
theorem Bo.out {w : World} {g : Nat} {a b c d e f : Value} (h : Bo w g a b c d e f) {g2 j : Nat} (hg : ¬ g = g2) (v : Value) : Bo (w.setCell ⟨g2, j, none⟩ v) g a b c d e f := by
  unfold Bo
  rw [heap_setCell_other _ _ _ _ (by first | exact hg | exact fun q => hg q.symm)]; exact h
/-- two cells of a box set -/
def st2 (w : World) (g : Nat) (x y : Value) : World := (w.setCell ⟨g, 0, none⟩ x).setCell ⟨g, 1, none⟩ y
theorem st2_eq (w : World) (g : Nat) (x y : Value) : (w.setCell ⟨g, 0, none⟩ x).setCell ⟨g, 1, none⟩ y = st2 w g x y := rfl
theorem st2_size (w : World) (g : Nat) (x y : Value) : (st2 w g x y).heap.size = w.heap.size := by unfold st2; simp
theorem Bq.s2 {w : World} {g : Nat} {x y : Value} (h : Bq w g x y) (x' y' : Value) : Bq (st2 w g x' y') g x' y' := (h.set0 x').set1 y'
theorem Bq.o2 {w : World} {g : Nat} {x y : Value} (h : Bq w g x y) {g2 : Nat} (hg : ¬ g = g2) (x' y' : Value) : Bq (st2 w g2 x' y') g x y := (h.out hg x').out hg y'
theorem Bo.o2 {w : World} {g : Nat} {a b c d e f : Value} (h : Bo w g a b c d e f) {g2 : Nat} (hg : ¬ g = g2) (x' y' : Value) : Bo (st2 w g2 x' y') g a b c d e f := (h.out hg x').out hg y'
theorem below_s2 {B : Nat} {w w' : World} (h : Below B w w') {g : Nat} (hg : B ≤ g) (x y : Value) : Below B w (st2 w' g x y) := (h.setCell (p := ⟨g, 0, none⟩) hg x).setCell (p := ⟨g, 1, none⟩) hg y
section
variable {W w : World} {next : Int} {L : List Vs} {a : Option Addr} {c : Nat} {a' : Option Addr} {c' : Nat} {o : Op1} {ma : Option Addr} {mc : Nat} {x3 y3 x4 y4 x5 y5 x6 y6 : Value}
theorem KD.set5 (h : KD W w next L a c a' c' o ma mc x3 y3 x4 y4 x5 y5 x6 y6) (x y : Value) : KD W (st2 w (W.heap.size + 5) x y) next L a c a' c' o ma mc x3 y3 x4 y4 x y x6 y6 :=
  ⟨below_s2 h.b (by omega) x y, h.zb.o2 (by omega) x y, h.zr.o2 (by omega) x y, h.zo.o2 (by omega) x y, h.z3.o2 (by omega) x y, h.z4.o2 (by omega) x y, h.z5.s2 x y, h.z6.o2 (by omega) x y, by rw [st2_size]; exact h.sz⟩
theorem KD.set6 (h : KD W w next L a c a' c' o ma mc x3 y3 x4 y4 x5 y5 x6 y6) (x y : Value) : KD W (st2 w (W.heap.size + 6) x y) next L a c a' c' o ma mc x3 y3 x4 y4 x5 y5 x y :=
  ⟨below_s2 h.b (by omega) x y, h.zb.o2 (by omega) x y, h.zr.o2 (by omega) x y, h.zo.o2 (by omega) x y, h.z3.o2 (by omega) x y, h.z4.o2 (by omega) x y, h.z5.o2 (by omega) x y, h.z6.s2 x y, by rw [st2_size]; exact h.sz⟩
theorem KD.set34 (h : KD W w next L a c a' c' o ma mc x3 y3 x4 y4 x5 y5 x6 y6) (x y x' y' : Value) : KD W (st2 (st2 w (W.heap.size + 3) x y) (W.heap.size + 4) x' y') next L a c a' c' o ma mc x y x' y' x5 y5 x6 y6 :=
  ⟨below_s2 (below_s2 h.b (by omega) x y) (by omega) x' y', (h.zb.o2 (by omega) x y).o2 (by omega) x' y', (h.zr.o2 (by omega) x y).o2 (by omega) x' y', (h.zo.o2 (by omega) x y).o2 (by omega) x' y', (h.z3.s2 x y).o2 (by omega) x' y', (h.z4.o2 (by omega) x y).s2 x' y', (h.z5.o2 (by omega) x y).o2 (by omega) x' y', (h.z6.o2 (by omega) x y).o2 (by omega) x' y', by rw [st2_size, st2_size]; exact h.sz⟩
end
theorem below_al {w w' : World} (h : Below w.heap.size w w') (o : Obj) : Below w.heap.size w (w'.alloc o) := h.alloc h.size o
theorem kd_new (w : World) (next : Int) (L : List Vs) (a : Option Addr) (c : Nat) (a' : Option Addr) (c' : Nat) (o : Op1) (ma : Option Addr) (mc : Nat) : KD w (((((((w.alloc (.cells #[.int .i64 next, .slice a L.length c] 24)).alloc (.cells #[.int .i64 next, .slice a' L.length c'] 24)).alloc (.cells #[.int .i64 o.kind, str o.key, str o.data, .slice ma o.l.length mc, .int .i64 o.seq, .int .i64 o.most] 34)).alloc (.cells #[.int .i64 0, .slice none 0 0] 24)).alloc (.cells #[.int .i64 0, .slice none 0 0] 24)).alloc (.cells #[.int .i64 0, .slice none 0 0] 24)).alloc (.cells #[.int .i64 0, .slice none 0 0] 24)) next L a c a' c' o ma mc (.int .i64 0) (.slice none 0 0) (.int .i64 0) (.slice none 0 0) (.int .i64 0) (.slice none 0 0) (.int .i64 0) (.slice none 0 0) := by
  have al := fun (w : World) (o : Obj) => (Below.refl w.heap.size w).alloc (Nat.le_refl _) o
  have e1 : ∀ (w : World) (o : Obj), (w.alloc o).heap.size = w.heap.size + 1 := fun w o => by simp
  refine ⟨?_, ?_, ?_, ?_, ?_, ?_, ?_, ?_, ?_⟩
  · exact below_al (below_al (below_al (below_al (below_al (below_al (below_al (Below.refl _ _) _) _) _) _) _) _) _
  · exact ((((((Bq.new w _ _).later (al _ _)).later (al _ _)).later (al _ _)).later (al _ _)).later (al _ _)).later (al _ _)
  · have h := (((((Bq.new (w.alloc (.cells #[.int .i64 next, .slice a L.length c] 24)) (.int .i64 next) (.slice a' L.length c')).later (al _ (.cells #[.int .i64 o.kind, str o.key, str o.data, .slice ma o.l.length mc, .int .i64 o.seq, .int .i64 o.most] 34))).later (al _ (.cells #[.int .i64 0, .slice none 0 0] 24))).later (al _ (.cells #[.int .i64 0, .slice none 0 0] 24))).later (al _ (.cells #[.int .i64 0, .slice none 0 0] 24))).later (al _ (.cells #[.int .i64 0, .slice none 0 0] 24))
    rw [e1] at h
    exact h
  · have h := ((((Bo.new ((w.alloc (.cells #[.int .i64 next, .slice a L.length c] 24)).alloc (.cells #[.int .i64 next, .slice a' L.length c'] 24)) (.int .i64 o.kind) (str o.key) (str o.data) (.slice ma o.l.length mc) (.int .i64 o.seq) (.int .i64 o.most)).later (al _ (.cells #[.int .i64 0, .slice none 0 0] 24))).later (al _ (.cells #[.int .i64 0, .slice none 0 0] 24))).later (al _ (.cells #[.int .i64 0, .slice none 0 0] 24))).later (al _ (.cells #[.int .i64 0, .slice none 0 0] 24))
    rw [e1, e1] at h
    exact h
  · have h := (((Bq.new (((w.alloc (.cells #[.int .i64 next, .slice a L.length c] 24)).alloc (.cells #[.int .i64 next, .slice a' L.length c'] 24)).alloc (.cells #[.int .i64 o.kind, str o.key, str o.data, .slice ma o.l.length mc, .int .i64 o.seq, .int .i64 o.most] 34)) (.int .i64 0) (.slice none 0 0)).later (al _ (.cells #[.int .i64 0, .slice none 0 0] 24))).later (al _ (.cells #[.int .i64 0, .slice none 0 0] 24))).later (al _ (.cells #[.int .i64 0, .slice none 0 0] 24))
    rw [e1, e1, e1] at h
    exact h
  · have h := ((Bq.new ((((w.alloc (.cells #[.int .i64 next, .slice a L.length c] 24)).alloc (.cells #[.int .i64 next, .slice a' L.length c'] 24)).alloc (.cells #[.int .i64 o.kind, str o.key, str o.data, .slice ma o.l.length mc, .int .i64 o.seq, .int .i64 o.most] 34)).alloc (.cells #[.int .i64 0, .slice none 0 0] 24)) (.int .i64 0) (.slice none 0 0)).later (al _ (.cells #[.int .i64 0, .slice none 0 0] 24))).later (al _ (.cells #[.int .i64 0, .slice none 0 0] 24))
    rw [e1, e1, e1, e1] at h
    exact h
  · have h := (Bq.new (((((w.alloc (.cells #[.int .i64 next, .slice a L.length c] 24)).alloc (.cells #[.int .i64 next, .slice a' L.length c'] 24)).alloc (.cells #[.int .i64 o.kind, str o.key, str o.data, .slice ma o.l.length mc, .int .i64 o.seq, .int .i64 o.most] 34)).alloc (.cells #[.int .i64 0, .slice none 0 0] 24)).alloc (.cells #[.int .i64 0, .slice none 0 0] 24)) (.int .i64 0) (.slice none 0 0)).later (al _ (.cells #[.int .i64 0, .slice none 0 0] 24))
    rw [e1, e1, e1, e1, e1] at h
    exact h
  · have h := Bq.new ((((((w.alloc (.cells #[.int .i64 next, .slice a L.length c] 24)).alloc (.cells #[.int .i64 next, .slice a' L.length c'] 24)).alloc (.cells #[.int .i64 o.kind, str o.key, str o.data, .slice ma o.l.length mc, .int .i64 o.seq, .int .i64 o.most] 34)).alloc (.cells #[.int .i64 0, .slice none 0 0] 24)).alloc (.cells #[.int .i64 0, .slice none 0 0] 24)).alloc (.cells #[.int .i64 0, .slice none 0 0] 24)) (.int .i64 0) (.slice none 0 0)
    rw [e1, e1, e1, e1, e1, e1] at h
    exact h
  · rw [e1, e1, e1, e1, e1, e1, e1]; exact Nat.le_refl _
/-- what done answers -/
def DnP (w w' : World) (e : Ending) : Prop := ∃ n1 X a1 c1 a2 c2, e = .returned (.tuple #[bv n1 a1 X.length c1, bv n1 a2 X.length c2, .bool true]) ∧ RtB n1 X ∧ Li w' X a1 X.length c1 ∧ Li w' X a2 X.length c2 ∧ Below w.heap.size w w'
theorem bd_seq {B : Nat} {w1 wx w5 : World} (h : Below B w1 wx) (e : Below wx.heap.size wx w5) (hB : B ≤ w1.heap.size) : Below B w1 w5 := h.trans (e.mono (Nat.le_trans hB h.size))
/-- two boxes, whatever is written into the two behind o -/
structure PD (W w1 w : World) (x5 y5 x6 y6 : Value) : Prop where
  b : Below (W.heap.size + 3) w1 w
  z5 : Bq w (W.heap.size + 5) x5 y5
  z6 : Bq w (W.heap.size + 6) x6 y6
theorem PD.later {W w1 w w' : World} {x5 y5 x6 y6 : Value} (h : PD W w1 w x5 y5 x6 y6) (hb : Below w.heap.size w w') : PD W w1 w' x5 y5 x6 y6 :=
  ⟨h.b.trans (hb.mono (by have := h.z6.lt; omega)), h.z5.later hb, h.z6.later hb⟩
theorem PD.set3 {W w1 w : World} {x5 y5 x6 y6 : Value} (h : PD W w1 w x5 y5 x6 y6) (j : Nat) (v : Value) : PD W w1 (w.setCell ⟨W.heap.size + 3, j, none⟩ v) x5 y5 x6 y6 :=
  ⟨h.b.setCell (p := ⟨W.heap.size + 3, j, none⟩) (Nat.le_refl _) v, h.z5.out (by omega) v, h.z6.out (by omega) v⟩
theorem PD.set4 {W w1 w : World} {x5 y5 x6 y6 : Value} (h : PD W w1 w x5 y5 x6 y6) (j : Nat) (v : Value) : PD W w1 (w.setCell ⟨W.heap.size + 4, j, none⟩ v) x5 y5 x6 y6 :=
  ⟨h.b.setCell (p := ⟨W.heap.size + 4, j, none⟩) (by show W.heap.size + 3 ≤ W.heap.size + 4; omega) v, h.z5.out (by omega) v, h.z6.out (by omega) v⟩
theorem Cp.st2 {base : Nat} {w : World} {v : Value} {X : List Vs} (h : Cp base w v X) {g : Nat} (hg : g < base) (x y : Value) : Cp base (st2 w g x y) v X := (h.low hg x).low hg y
theorem li_x {n1 : Int} {X : List Vs} {ce : Int} (h : (¬ ce = 0 ∧ X = []) ∨ (ce = 0 ∧ RtB n1 X)) {base : Nat} {w : World} {xa : Option Addr} {xc : Nat} (hC : Cp base w (.slice xa X.length xc) X) : Li w X xa X.length xc := by
  obtain ⟨a, cap, e, s⟩ := hC.ls
  injection e with e1 e2 e3
  subst e1 e3
  rcases h with ⟨_, rfl⟩ | ⟨_, hR⟩
  · exact ⟨rfl, s, by simp, fun u hu => by simp at hu⟩
  · exact ⟨rfl, s, by have := hR.len; omega, fun u hu => rt_vl hR hu⟩
theorem li_len {n1 : Int} {X : List Vs} {ce : Int} (h : (¬ ce = 0 ∧ X = []) ∨ (ce = 0 ∧ RtB n1 X)) : X.length ≤ 1000000 := by
  rcases h with ⟨_, rfl⟩ | ⟨_, hR⟩
  · simp
  · have := hR.len; omega
theorem both_put {next : Int} {L : List Vs} (hR : RtB next L) (k d : List UInt8) (l : List En) (hz : l.length ≤ 4398046510976) (hpz : Pz l) : ∃ n1 X s ce, (∀ w a c ma mc, Li w L a L.length c → Sl w ma mc l → Calls Tryz.prog 19 #[bv next a L.length c, str k, str d, .slice ma l.length mc] w fun e w' => RC w w' e n1 X s ce) ∧ (∀ w a c ma mc, Li w L a L.length c → Sl w ma mc l → Calls Tryz.prog 35 #[bv next a L.length c, str k, str d, .slice ma l.length mc] w fun e w' => RC w w' e n1 X s ce) ∧ ((¬ ce = 0 ∧ X = []) ∨ (ce = 0 ∧ RtB n1 X)) := by
  by_cases hr : rfE next L ⟨k, next, false, d, l⟩ = 0
  · refine ⟨next + 1, putX L ⟨k, next, false, d, l⟩, next, 0, fun w a c ma mc hL hS => (put_r hR k d l w a c ma mc hL hS hz).mono ?_, fun w a c ma mc hL hS => (qPut_r L next k d l w a c ma mc hR hL hS hz hpz).mono ?_, .inr ⟨rfl, (put_own hR hr rfl).1⟩⟩
    · rintro e w' (⟨h, _⟩ | ⟨_, h⟩)
      · exact absurd hr h
      · exact h
    · rintro e w' (⟨h, _⟩ | ⟨_, h⟩)
      · exact absurd hr h
      · exact h
  · refine ⟨0, [], 0, rfE next L ⟨k, next, false, d, l⟩, fun w a c ma mc hL hS => (put_r hR k d l w a c ma mc hL hS hz).mono ?_, fun w a c ma mc hL hS => (qPut_r L next k d l w a c ma mc hR hL hS hz hpz).mono ?_, .inl ⟨hr, rfl⟩⟩
    · rintro e w' (⟨_, h⟩ | ⟨h, _⟩)
      · exact h
      · exact absurd h hr
    · rintro e w' (⟨_, h⟩ | ⟨h, _⟩)
      · exact h
      · exact absurd h hr
theorem both_del {next : Int} {L : List Vs} (hR : RtB next L) (k : List UInt8) : ∃ n1 X s ce, (∀ w a c, Li w L a L.length c → Calls Tryz.prog 22 #[bv next a L.length c, str k] w fun e w' => RC w w' e n1 X s ce) ∧ (∀ w a c, Li w L a L.length c → Calls Tryz.prog 36 #[bv next a L.length c, str k] w fun e w' => RC w w' e n1 X s ce) ∧ ((¬ ce = 0 ∧ X = []) ∨ (ce = 0 ∧ RtB n1 X)) := by
  by_cases hr : rfE next L ⟨k, next, true, [], []⟩ = 0
  · refine ⟨next + 1, putX L ⟨k, next, true, [], []⟩, next, 0, fun w a c hL => (del_r hR k w a c hL).mono ?_, fun w a c hL => (qDelete_r L next k w a c hR hL).mono ?_, .inr ⟨rfl, (put_own hR hr rfl).1⟩⟩
    · rintro e w' (⟨h, _⟩ | ⟨_, h⟩)
      · exact absurd hr h
      · exact h
    · rintro e w' (⟨h, _⟩ | ⟨_, h⟩)
      · exact absurd hr h
      · exact h
  · refine ⟨0, [], 0, rfE next L ⟨k, next, true, [], []⟩, fun w a c hL => (del_r hR k w a c hL).mono ?_, fun w a c hL => (qDelete_r L next k w a c hR hL).mono ?_, .inl ⟨hr, rfl⟩⟩
    · rintro e w' (⟨_, h⟩ | ⟨h, _⟩)
      · exact h
      · exact absurd h hr
    · rintro e w' (⟨_, h⟩ | ⟨h, _⟩)
      · exact h
      · exact absurd h hr
theorem both_rem {next : Int} {L : List Vs} (hR : RtB next L) (k : List UInt8) (sq : Int) : ∃ n1 X ce, (∀ w a c, Li w L a L.length c → Calls Tryz.prog 23 #[bv next a L.length c, str k, .int .i64 sq] w fun e w' => RB w w' e n1 X ce) ∧ (∀ w a c, Li w L a L.length c → Calls Tryz.prog 37 #[bv next a L.length c, str k, .int .i64 sq] w fun e w' => RB w w' e n1 X ce) ∧ ((¬ ce = 0 ∧ X = []) ∨ (ce = 0 ∧ RtB n1 X)) := by
  by_cases hr : gvE L k sq = 0
  · refine ⟨next, remX L k sq, 0, fun w a c hL => (rem_r hR k sq w a c hL).mono ?_, fun w a c hL => (qDeleteVersion_r L next k sq w a c hR hL).mono ?_, .inr ⟨rfl, rem_rt hR k sq⟩⟩
    · rintro e w' (⟨h, _⟩ | ⟨_, h⟩)
      · exact absurd hr h
      · exact h
    · rintro e w' (⟨h, _⟩ | ⟨_, h⟩)
      · exact absurd hr h
      · exact h
  · refine ⟨0, [], gvE L k sq, fun w a c hL => (rem_r hR k sq w a c hL).mono ?_, fun w a c hL => (qDeleteVersion_r L next k sq w a c hR hL).mono ?_, .inl ⟨hr, rfl⟩⟩
    · rintro e w' (⟨_, h⟩ | ⟨h, _⟩)
      · exact h
      · exact absurd h hr
    · rintro e w' (⟨_, h⟩ | ⟨h, _⟩)
      · exact h
      · exact absurd h hr
set_option maxRecDepth 100000 in
set_option maxHeartbeats 8000000 in
theorem done_any (next : Int) (L : List Vs) (hR : RtB next L) (o : Op1) (ma : Option Addr) (mc : Nat) (w : World) (a : Option Addr) (c : Nat) (a' : Option Addr) (c' : Nat) (hL : Li w L a L.length c) (hL' : Li w L a' L.length c') (hS : Sl w ma mc o.l) (hz : o.l.length ≤ 4398046510976) (hpz : Pz o.l) :
    Calls Tryz.prog 11 #[bv next a L.length c, bv next a' L.length c', .agg #[.int .i64 o.kind, str o.key, str o.data, .slice ma o.l.length mc, .int .i64 o.seq, .int .i64 o.most]] w fun e w' => DnP w w' e := by
  have K := Hid.mk (kd_new w next L a c a' c' o ma mc)
  have HLb := Hid.mk hL
  have HLr := Hid.mk hL'
  have HSs := Hid.mk hS
  have HR := Hid.mk hR
  clear hL hL' hS hR
  by_cases g1 : o.kind = 1
  · have ff : (o.kind == 1) = true := by rw [g1]; rfl
    obtain ⟨n1, X, s, ce, hp1, hp2, hcase⟩ := both_put HR.out o.key o.data o.l hz hpz
    have HC := Hid.mk hcase
    have Hp1 := Hid.mk hp1
    have Hp2 := Hid.mk hp2
    clear hcase hp1 hp2 g1
    obtain ⟨p0, p1, _⟩ := K.out.zb.cells
    obtain ⟨q0, q1, q2, q3, q4, q5⟩ := K.out.zo.cells
    go_enter Tryz.func11, Tryz.ntmps11
    go_wp2_with fail
    generalize (((((((w.alloc (.cells #[.int .i64 next, .slice a L.length c] 24)).alloc (.cells #[.int .i64 next, .slice a' L.length c'] 24)).alloc (.cells #[.int .i64 o.kind, str o.key, str o.data, .slice ma o.l.length mc, .int .i64 o.seq, .int .i64 o.most] 34)).alloc (.cells #[.int .i64 0, .slice none 0 0] 24)).alloc (.cells #[.int .i64 0, .slice none 0 0] 24)).alloc (.cells #[.int .i64 0, .slice none 0 0] 24)).alloc (.cells #[.int .i64 0, .slice none 0 0] 24)) = w1 at *
    with_reducible refine Calls.mono (Hp1.out w1 a c ma mc (HLb.out.later K.out.b) (HSs.out.later K.out.b)) ?_
    rintro e w2 ⟨rv, rfl, kr, b2⟩
    obtain ⟨xa, xc, rfl, _⟩ := kr.ls
    dsimp only
    have K2 := K.out.later b2
    have hsz := K.out.sz
    have K3 : Hid (KD w ((w2.setCell ⟨w.heap.size + 1 + 1 + 1 + 1 + 1, 0, none⟩ (.int .i64 n1)).setCell ⟨w.heap.size + 1 + 1 + 1 + 1 + 1, 1, none⟩ (.slice xa X.length xc)) next L a c a' c' o ma mc (.int .i64 0) (.slice none 0 0) (.int .i64 0) (.slice none 0 0) (.int .i64 n1) (.slice xa X.length xc) (.int .i64 0) (.slice none 0 0)) := ⟨K2.set5 _ _⟩
    have C1 : Hid (Cp (w.heap.size + 7) ((w2.setCell ⟨w.heap.size + 1 + 1 + 1 + 1 + 1, 0, none⟩ (.int .i64 n1)).setCell ⟨w.heap.size + 1 + 1 + 1 + 1 + 1, 1, none⟩ (.slice xa X.length xc)) (.slice xa X.length xc) X) := ⟨(kr.st2 (g := w.heap.size + 5) (by omega) _ _).base (by omega)⟩
    clear p0 p1 q0 q1 q2 q3 q4 q5
    obtain ⟨u0, u1, uf⟩ := K2.z5.cells
    have uf0 := uf 0
    have uf1 := uf 1
    obtain ⟨r0, r1, _⟩ := K3.out.zr.cells
    obtain ⟨q0, q1, q2, q3, q4, q5⟩ := K3.out.zo.cells
    clear uf K K2 kr b2 Hp1 hsz
    go_wp2_with fail
    generalize hW3 : (w2.setCell ⟨w.heap.size + 1 + 1 + 1 + 1 + 1, 0, none⟩ (.int .i64 n1)).setCell ⟨w.heap.size + 1 + 1 + 1 + 1 + 1, 1, none⟩ (.slice xa X.length xc) = w3 at *
    clear hW3 u0 u1 uf0 uf1
    with_reducible refine Calls.mono (Hp2.out w3 a' c' ma mc (HLr.out.later K3.out.b) (HSs.out.later K3.out.b)) ?_
    rintro e w4 ⟨rv, rfl, kr, b4⟩
    obtain ⟨ya, yc, rfl, _⟩ := kr.ls
    dsimp only
    have K4 := K3.out.later b4
    have hsz := K3.out.sz
    have K5 : Hid (KD w ((w4.setCell ⟨w.heap.size + 1 + 1 + 1 + 1 + 1 + 1, 0, none⟩ (.int .i64 n1)).setCell ⟨w.heap.size + 1 + 1 + 1 + 1 + 1 + 1, 1, none⟩ (.slice ya X.length yc)) next L a c a' c' o ma mc (.int .i64 0) (.slice none 0 0) (.int .i64 0) (.slice none 0 0) (.int .i64 n1) (.slice xa X.length xc) (.int .i64 n1) (.slice ya X.length yc)) := ⟨K4.set6 _ _⟩
    have C1b : Hid (Cp (w.heap.size + 7) ((w4.setCell ⟨w.heap.size + 1 + 1 + 1 + 1 + 1 + 1, 0, none⟩ (.int .i64 n1)).setCell ⟨w.heap.size + 1 + 1 + 1 + 1 + 1 + 1, 1, none⟩ (.slice ya X.length yc)) (.slice xa X.length xc) X) := ⟨(C1.out.later b4).st2 (g := w.heap.size + 6) (by omega) _ _⟩
    have C2 : Hid (Cp (w.heap.size + 7) ((w4.setCell ⟨w.heap.size + 1 + 1 + 1 + 1 + 1 + 1, 0, none⟩ (.int .i64 n1)).setCell ⟨w.heap.size + 1 + 1 + 1 + 1 + 1 + 1, 1, none⟩ (.slice ya X.length yc)) (.slice ya X.length yc) X) := ⟨(kr.st2 (g := w.heap.size + 6) (by omega) _ _).base (by omega)⟩
    clear r0 r1 q0 q1 q2 q3 q4 q5
    obtain ⟨u0, u1, uf⟩ := K4.z6.cells
    have uf0 := uf 0
    have uf1 := uf 1
    obtain ⟨r0, r1, _⟩ := K5.out.z5.cells
    obtain ⟨q0, q1, _⟩ := K5.out.z6.cells
    clear uf K3 K4 kr b4 Hp2 hsz C1
    go_wp2_with fail
    generalize hW5 : (w4.setCell ⟨w.heap.size + 1 + 1 + 1 + 1 + 1 + 1, 0, none⟩ (.int .i64 n1)).setCell ⟨w.heap.size + 1 + 1 + 1 + 1 + 1 + 1, 1, none⟩ (.slice ya X.length yc) = w5 at *
    clear hW5 u0 u1 uf0 uf1 r0 r1 q0 q1
    with_reducible refine Calls.mono (qSame_eq n1 X w5 xa xc ya yc (li_x HC.out C1b.out) (li_x HC.out C2.out) (li_len HC.out)) ?_
    rintro e w6 ⟨rfl, b6⟩
    dsimp only
    have K6 := Hid.mk (K5.out.later b6)
    have C1 := Hid.mk (C1b.out.later b6)
    have C2 := Hid.mk (C2.out.later b6)
    clear K5 C1b b6
    rcases HC.out with ⟨hce, _⟩ | ⟨rfl, hXR⟩
    · have dce : (ce == 0) = false := beq_eq_false_iff_ne.2 hce
      have dce' : (ce != 0) = true := bne_iff_ne.2 hce
      obtain ⟨p0, p1, _⟩ := K6.out.zb.cells
      obtain ⟨r0, r1, _⟩ := K6.out.zr.cells
      obtain ⟨v0, v1, vf⟩ := K6.out.z3.cells
      obtain ⟨v4, v5, wf⟩ := K6.out.z4.cells
      have v2 := vf 0
      have v3 := vf 1
      have v6 := wf 0
      have v7 := wf 1
      clear vf wf hce HC C1 C2
      go_wp2_with fail
      go_region
      have K9 : Hid (KD w ((((w6.setCell ⟨w.heap.size + 1 + 1 + 1, 0, none⟩ (.int .i64 next)).setCell ⟨w.heap.size + 1 + 1 + 1, 1, none⟩ (.slice a L.length c)).setCell ⟨w.heap.size + 1 + 1 + 1 + 1, 0, none⟩ (.int .i64 next)).setCell ⟨w.heap.size + 1 + 1 + 1 + 1, 1, none⟩ (.slice a' L.length c')) next L a c a' c' o ma mc (.int .i64 next) (.slice a L.length c) (.int .i64 next) (.slice a' L.length c') (.int .i64 n1) (.slice xa X.length xc) (.int .i64 n1) (.slice ya X.length yc)) := ⟨K6.out.set34 _ _ _ _⟩
      clear K6 p0 p1 r0 r1 v0 v1 v2 v3 v4 v5 v6 v7 dce dce'
      go_wp2_with fail
      have K9 := Hid.mk (K9.out.later (Below.refl _ _).drew)
      generalize hW9 : ((((w6.setCell ⟨w.heap.size + 1 + 1 + 1, 0, none⟩ (.int .i64 next)).setCell ⟨w.heap.size + 1 + 1 + 1, 1, none⟩ (.slice a L.length c)).setCell ⟨w.heap.size + 1 + 1 + 1 + 1, 0, none⟩ (.int .i64 next)).setCell ⟨w.heap.size + 1 + 1 + 1 + 1, 1, none⟩ (.slice a' L.length c')).drew = W9 at *
      clear hW9
      obtain ⟨k0, k1, _⟩ := K9.out.z3.cells
      obtain ⟨k2, k3, _⟩ := K9.out.z4.cells
      refine bodyPost_ret (v := .tuple #[bv next a L.length c, bv next a' L.length c', .bool true]) ?_ rfl ⟨next, L, a, c, a', c', rfl, HR.out, HLb.out.later K9.out.b, HLr.out.later K9.out.b, K9.out.b⟩
      rw [results_cct rfl]
      go_simp
    · have HXR := Hid.mk hXR
      clear hXR HC
      have hlk := looked_any n1 X HXR.out o ma mc w6.drew xa xc ya yc ((li_x (ce := 0) (.inr ⟨rfl, HXR.out⟩) C1.out).later (Below.refl _ _).drew) ((li_x (ce := 0) (.inr ⟨rfl, HXR.out⟩) C2.out).later (Below.refl _ _).drew)
      have HP0 : Hid (PD w w6 w6.drew (.int .i64 n1) (.slice xa X.length xc) (.int .i64 n1) (.slice ya X.length yc)) := ⟨⟨(Below.refl _ _).drew, K6.out.z5, K6.out.z6⟩⟩
      have HS1 : Hid (∀ w', PD w w6 w' (.int .i64 n1) (.slice xa X.length xc) (.int .i64 n1) (.slice ya X.length yc) → PD w w6 w' (.int .i64 n1) (.slice xa X.length xc) (.int .i64 n1) (.slice ya X.length yc) ∧ w'.cell? ⟨w.heap.size + 5, 0, none⟩ = some (.int .i64 n1) ∧ w'.cell? ⟨w.heap.size + 5, 1, none⟩ = some (.slice xa X.length xc) ∧ w'.cell? ⟨w.heap.size + 6, 0, none⟩ = some (.int .i64 n1) ∧ w'.cell? ⟨w.heap.size + 6, 1, none⟩ = some (.slice ya X.length yc) ∧ w'.cell? ⟨w.heap.size + 2, 0, none⟩ = some (.int .i64 o.kind) ∧ w'.cell? ⟨w.heap.size + 2, 1, none⟩ = some (str o.key) ∧ w'.cell? ⟨w.heap.size + 2, 2, none⟩ = some (str o.data) ∧ w'.cell? ⟨w.heap.size + 2, 3, none⟩ = some (.slice ma o.l.length mc) ∧ w'.cell? ⟨w.heap.size + 2, 4, none⟩ = some (.int .i64 o.seq) ∧ w'.cell? ⟨w.heap.size + 2, 5, none⟩ = some (.int .i64 o.most)) := ⟨fun w' h => by
        have zo : Bo w' (w.heap.size + 2) (.int .i64 o.kind) (str o.key) (str o.data) (.slice ma o.l.length mc) (.int .i64 o.seq) (.int .i64 o.most) := by
          have e := h.b.block (w.heap.size + 2) (by omega)
          have z := K6.out.zo
          unfold Bo at z ⊢
          rw [e]; exact z
        exact ⟨h, h.z5.cells.1, h.z5.cells.2.1, h.z6.cells.1, h.z6.cells.2.1, zo.cells⟩⟩
      go_wp2_with fail
      go_region_held3 (fun w' => PD w w6 w' (.int .i64 n1) (.slice xa X.length xc) (.int .i64 n1) (.slice ya X.length yc) ∧ w'.cell? ⟨w.heap.size + 5, 0, none⟩ = some (.int .i64 n1) ∧ w'.cell? ⟨w.heap.size + 5, 1, none⟩ = some (.slice xa X.length xc) ∧ w'.cell? ⟨w.heap.size + 6, 0, none⟩ = some (.int .i64 n1) ∧ w'.cell? ⟨w.heap.size + 6, 1, none⟩ = some (.slice ya X.length yc) ∧ w'.cell? ⟨w.heap.size + 2, 0, none⟩ = some (.int .i64 o.kind) ∧ w'.cell? ⟨w.heap.size + 2, 1, none⟩ = some (str o.key) ∧ w'.cell? ⟨w.heap.size + 2, 2, none⟩ = some (str o.data) ∧ w'.cell? ⟨w.heap.size + 2, 3, none⟩ = some (.slice ma o.l.length mc) ∧ w'.cell? ⟨w.heap.size + 2, 4, none⟩ = some (.int .i64 o.seq) ∧ w'.cell? ⟨w.heap.size + 2, 5, none⟩ = some (.int .i64 o.most)) ((refine HS1.out _ ?_; first
        | with_reducible exact HP0.out
        | with_reducible exact pB
        | with_reducible exact pB.set3 0 _
        | with_reducible exact (pB.set3 0 _).set3 1 _
        | with_reducible exact ((pB.set3 0 _).set3 1 _).set4 0 _
        | with_reducible exact (((pB.set3 0 _).set3 1 _).set4 0 _).set4 1 _)) (
        (go_at_call 38; with_reducible refine Calls.mono hlk ?_; rintro e w7 ⟨rfl, e1⟩; have b5 := below_seq (Below.refl w6.heap.size w6).drew e1; have K5 := K6.out.later b5; have pB := HP0.out.later e1; have v0 := K5.z3.cells.1; have v1 := K5.z3.cells.2.1; have v2 := K5.z3.cells.2.2 0; have v3 := K5.z3.cells.2.2 1; have v4 := K5.z4.cells.1; have v5 := K5.z4.cells.2.1; have v6 := K5.z4.cells.2.2 0; have v7 := K5.z4.cells.2.2 1))
      have hsz := K6.out.sz
      have D1 : Hid (Cp (w.heap.size + 7) ((((w7.setCell ⟨w.heap.size + 1 + 1 + 1, 0, none⟩ (.int .i64 n1)).setCell ⟨w.heap.size + 1 + 1 + 1, 1, none⟩ (.slice xa X.length xc)).setCell ⟨w.heap.size + 1 + 1 + 1 + 1, 0, none⟩ (.int .i64 n1)).setCell ⟨w.heap.size + 1 + 1 + 1 + 1, 1, none⟩ (.slice ya X.length yc)) (.slice xa X.length xc) X) := ⟨((C1.out.later b5).st2 (g := w.heap.size + 3) (by omega) _ _).st2 (g := w.heap.size + 4) (by omega) _ _⟩
      have D2 : Hid (Cp (w.heap.size + 7) ((((w7.setCell ⟨w.heap.size + 1 + 1 + 1, 0, none⟩ (.int .i64 n1)).setCell ⟨w.heap.size + 1 + 1 + 1, 1, none⟩ (.slice xa X.length xc)).setCell ⟨w.heap.size + 1 + 1 + 1 + 1, 0, none⟩ (.int .i64 n1)).setCell ⟨w.heap.size + 1 + 1 + 1 + 1, 1, none⟩ (.slice ya X.length yc)) (.slice ya X.length yc) X) := ⟨((C2.out.later b5).st2 (g := w.heap.size + 3) (by omega) _ _).st2 (g := w.heap.size + 4) (by omega) _ _⟩
      have K9 : Hid (KD w ((((w7.setCell ⟨w.heap.size + 1 + 1 + 1, 0, none⟩ (.int .i64 n1)).setCell ⟨w.heap.size + 1 + 1 + 1, 1, none⟩ (.slice xa X.length xc)).setCell ⟨w.heap.size + 1 + 1 + 1 + 1, 0, none⟩ (.int .i64 n1)).setCell ⟨w.heap.size + 1 + 1 + 1 + 1, 1, none⟩ (.slice ya X.length yc)) next L a c a' c' o ma mc (.int .i64 n1) (.slice xa X.length xc) (.int .i64 n1) (.slice ya X.length yc) (.int .i64 n1) (.slice xa X.length xc) (.int .i64 n1) (.slice ya X.length yc)) := ⟨K5.set34 _ _ _ _⟩
      clear K6 HS1 HP0 hlk e1 b5 pB v0 v1 v2 v3 v4 v5 v6 v7 hsz C1 C2
      go_wp2_with fail
      generalize hW9 : (((w7.setCell ⟨w.heap.size + 1 + 1 + 1, 0, none⟩ (.int .i64 n1)).setCell ⟨w.heap.size + 1 + 1 + 1, 1, none⟩ (.slice xa X.length xc)).setCell ⟨w.heap.size + 1 + 1 + 1 + 1, 0, none⟩ (.int .i64 n1)).setCell ⟨w.heap.size + 1 + 1 + 1 + 1, 1, none⟩ (.slice ya X.length yc) = W9 at *
      clear hW9
      obtain ⟨k0, k1, _⟩ := K9.out.z3.cells
      obtain ⟨k2, k3, _⟩ := K9.out.z4.cells
      refine bodyPost_ret (v := .tuple #[bv n1 xa X.length xc, bv n1 ya X.length yc, .bool true]) ?_ rfl ⟨n1, X, xa, xc, ya, yc, rfl, HXR.out, li_x (ce := 0) (.inr ⟨rfl, HXR.out⟩) D1.out, li_x (ce := 0) (.inr ⟨rfl, HXR.out⟩) D2.out, K9.out.b⟩
      rw [results_cct rfl]
      go_simp
  · have f1 : (o.kind == 1) = false := beq_eq_false_iff_ne.2 g1
    by_cases g2 : o.kind = 2
    · have ff : (o.kind == 2) = true := by rw [g2]; rfl
      obtain ⟨n1, X, s, ce, hp1, hp2, hcase⟩ := both_del HR.out o.key
      have HC := Hid.mk hcase
      have Hp1 := Hid.mk hp1
      have Hp2 := Hid.mk hp2
      clear hcase hp1 hp2 g1 g2
      obtain ⟨p0, p1, _⟩ := K.out.zb.cells
      obtain ⟨q0, q1, q2, q3, q4, q5⟩ := K.out.zo.cells
      go_enter Tryz.func11, Tryz.ntmps11
      go_wp2_with fail
      generalize (((((((w.alloc (.cells #[.int .i64 next, .slice a L.length c] 24)).alloc (.cells #[.int .i64 next, .slice a' L.length c'] 24)).alloc (.cells #[.int .i64 o.kind, str o.key, str o.data, .slice ma o.l.length mc, .int .i64 o.seq, .int .i64 o.most] 34)).alloc (.cells #[.int .i64 0, .slice none 0 0] 24)).alloc (.cells #[.int .i64 0, .slice none 0 0] 24)).alloc (.cells #[.int .i64 0, .slice none 0 0] 24)).alloc (.cells #[.int .i64 0, .slice none 0 0] 24)) = w1 at *
      with_reducible refine Calls.mono (Hp1.out w1 a c (HLb.out.later K.out.b)) ?_
      rintro e w2 ⟨rv, rfl, kr, b2⟩
      obtain ⟨xa, xc, rfl, _⟩ := kr.ls
      dsimp only
      have K2 := K.out.later b2
      have hsz := K.out.sz
      have K3 : Hid (KD w ((w2.setCell ⟨w.heap.size + 1 + 1 + 1 + 1 + 1, 0, none⟩ (.int .i64 n1)).setCell ⟨w.heap.size + 1 + 1 + 1 + 1 + 1, 1, none⟩ (.slice xa X.length xc)) next L a c a' c' o ma mc (.int .i64 0) (.slice none 0 0) (.int .i64 0) (.slice none 0 0) (.int .i64 n1) (.slice xa X.length xc) (.int .i64 0) (.slice none 0 0)) := ⟨K2.set5 _ _⟩
      have C1 : Hid (Cp (w.heap.size + 7) ((w2.setCell ⟨w.heap.size + 1 + 1 + 1 + 1 + 1, 0, none⟩ (.int .i64 n1)).setCell ⟨w.heap.size + 1 + 1 + 1 + 1 + 1, 1, none⟩ (.slice xa X.length xc)) (.slice xa X.length xc) X) := ⟨(kr.st2 (g := w.heap.size + 5) (by omega) _ _).base (by omega)⟩
      clear p0 p1 q0 q1 q2 q3 q4 q5
      obtain ⟨u0, u1, uf⟩ := K2.z5.cells
      have uf0 := uf 0
      have uf1 := uf 1
      obtain ⟨r0, r1, _⟩ := K3.out.zr.cells
      obtain ⟨q0, q1, q2, q3, q4, q5⟩ := K3.out.zo.cells
      clear uf K K2 kr b2 Hp1 hsz
      go_wp2_with fail
      generalize hW3 : (w2.setCell ⟨w.heap.size + 1 + 1 + 1 + 1 + 1, 0, none⟩ (.int .i64 n1)).setCell ⟨w.heap.size + 1 + 1 + 1 + 1 + 1, 1, none⟩ (.slice xa X.length xc) = w3 at *
      clear hW3 u0 u1 uf0 uf1
      with_reducible refine Calls.mono (Hp2.out w3 a' c' (HLr.out.later K3.out.b)) ?_
      rintro e w4 ⟨rv, rfl, kr, b4⟩
      obtain ⟨ya, yc, rfl, _⟩ := kr.ls
      dsimp only
      have K4 := K3.out.later b4
      have hsz := K3.out.sz
      have K5 : Hid (KD w ((w4.setCell ⟨w.heap.size + 1 + 1 + 1 + 1 + 1 + 1, 0, none⟩ (.int .i64 n1)).setCell ⟨w.heap.size + 1 + 1 + 1 + 1 + 1 + 1, 1, none⟩ (.slice ya X.length yc)) next L a c a' c' o ma mc (.int .i64 0) (.slice none 0 0) (.int .i64 0) (.slice none 0 0) (.int .i64 n1) (.slice xa X.length xc) (.int .i64 n1) (.slice ya X.length yc)) := ⟨K4.set6 _ _⟩
      have C1b : Hid (Cp (w.heap.size + 7) ((w4.setCell ⟨w.heap.size + 1 + 1 + 1 + 1 + 1 + 1, 0, none⟩ (.int .i64 n1)).setCell ⟨w.heap.size + 1 + 1 + 1 + 1 + 1 + 1, 1, none⟩ (.slice ya X.length yc)) (.slice xa X.length xc) X) := ⟨(C1.out.later b4).st2 (g := w.heap.size + 6) (by omega) _ _⟩
      have C2 : Hid (Cp (w.heap.size + 7) ((w4.setCell ⟨w.heap.size + 1 + 1 + 1 + 1 + 1 + 1, 0, none⟩ (.int .i64 n1)).setCell ⟨w.heap.size + 1 + 1 + 1 + 1 + 1 + 1, 1, none⟩ (.slice ya X.length yc)) (.slice ya X.length yc) X) := ⟨(kr.st2 (g := w.heap.size + 6) (by omega) _ _).base (by omega)⟩
      clear r0 r1 q0 q1 q2 q3 q4 q5
      obtain ⟨u0, u1, uf⟩ := K4.z6.cells
      have uf0 := uf 0
      have uf1 := uf 1
      obtain ⟨r0, r1, _⟩ := K5.out.z5.cells
      obtain ⟨q0, q1, _⟩ := K5.out.z6.cells
      clear uf K3 K4 kr b4 Hp2 hsz C1
      go_wp2_with fail
      generalize hW5 : (w4.setCell ⟨w.heap.size + 1 + 1 + 1 + 1 + 1 + 1, 0, none⟩ (.int .i64 n1)).setCell ⟨w.heap.size + 1 + 1 + 1 + 1 + 1 + 1, 1, none⟩ (.slice ya X.length yc) = w5 at *
      clear hW5 u0 u1 uf0 uf1 r0 r1 q0 q1
      with_reducible refine Calls.mono (qSame_eq n1 X w5 xa xc ya yc (li_x HC.out C1b.out) (li_x HC.out C2.out) (li_len HC.out)) ?_
      rintro e w6 ⟨rfl, b6⟩
      dsimp only
      have K6 := Hid.mk (K5.out.later b6)
      have C1 := Hid.mk (C1b.out.later b6)
      have C2 := Hid.mk (C2.out.later b6)
      clear K5 C1b b6
      rcases HC.out with ⟨hce, _⟩ | ⟨rfl, hXR⟩
      · have dce : (ce == 0) = false := beq_eq_false_iff_ne.2 hce
        have dce' : (ce != 0) = true := bne_iff_ne.2 hce
        obtain ⟨p0, p1, _⟩ := K6.out.zb.cells
        obtain ⟨r0, r1, _⟩ := K6.out.zr.cells
        obtain ⟨v0, v1, vf⟩ := K6.out.z3.cells
        obtain ⟨v4, v5, wf⟩ := K6.out.z4.cells
        have v2 := vf 0
        have v3 := vf 1
        have v6 := wf 0
        have v7 := wf 1
        clear vf wf hce HC C1 C2
        go_wp2_with fail
        go_region
        have K9 : Hid (KD w ((((w6.setCell ⟨w.heap.size + 1 + 1 + 1, 0, none⟩ (.int .i64 next)).setCell ⟨w.heap.size + 1 + 1 + 1, 1, none⟩ (.slice a L.length c)).setCell ⟨w.heap.size + 1 + 1 + 1 + 1, 0, none⟩ (.int .i64 next)).setCell ⟨w.heap.size + 1 + 1 + 1 + 1, 1, none⟩ (.slice a' L.length c')) next L a c a' c' o ma mc (.int .i64 next) (.slice a L.length c) (.int .i64 next) (.slice a' L.length c') (.int .i64 n1) (.slice xa X.length xc) (.int .i64 n1) (.slice ya X.length yc)) := ⟨K6.out.set34 _ _ _ _⟩
        clear K6 p0 p1 r0 r1 v0 v1 v2 v3 v4 v5 v6 v7 dce dce'
        go_wp2_with fail
        have K9 := Hid.mk (K9.out.later (Below.refl _ _).drew)
        generalize hW9 : ((((w6.setCell ⟨w.heap.size + 1 + 1 + 1, 0, none⟩ (.int .i64 next)).setCell ⟨w.heap.size + 1 + 1 + 1, 1, none⟩ (.slice a L.length c)).setCell ⟨w.heap.size + 1 + 1 + 1 + 1, 0, none⟩ (.int .i64 next)).setCell ⟨w.heap.size + 1 + 1 + 1 + 1, 1, none⟩ (.slice a' L.length c')).drew = W9 at *
        clear hW9
        obtain ⟨k0, k1, _⟩ := K9.out.z3.cells
        obtain ⟨k2, k3, _⟩ := K9.out.z4.cells
        refine bodyPost_ret (v := .tuple #[bv next a L.length c, bv next a' L.length c', .bool true]) ?_ rfl ⟨next, L, a, c, a', c', rfl, HR.out, HLb.out.later K9.out.b, HLr.out.later K9.out.b, K9.out.b⟩
        rw [results_cct rfl]
        go_simp
      · have HXR := Hid.mk hXR
        clear hXR HC
        have hlk := looked_any n1 X HXR.out o ma mc w6.drew xa xc ya yc ((li_x (ce := 0) (.inr ⟨rfl, HXR.out⟩) C1.out).later (Below.refl _ _).drew) ((li_x (ce := 0) (.inr ⟨rfl, HXR.out⟩) C2.out).later (Below.refl _ _).drew)
        have HP0 : Hid (PD w w6 w6.drew (.int .i64 n1) (.slice xa X.length xc) (.int .i64 n1) (.slice ya X.length yc)) := ⟨⟨(Below.refl _ _).drew, K6.out.z5, K6.out.z6⟩⟩
        have HS1 : Hid (∀ w', PD w w6 w' (.int .i64 n1) (.slice xa X.length xc) (.int .i64 n1) (.slice ya X.length yc) → PD w w6 w' (.int .i64 n1) (.slice xa X.length xc) (.int .i64 n1) (.slice ya X.length yc) ∧ w'.cell? ⟨w.heap.size + 5, 0, none⟩ = some (.int .i64 n1) ∧ w'.cell? ⟨w.heap.size + 5, 1, none⟩ = some (.slice xa X.length xc) ∧ w'.cell? ⟨w.heap.size + 6, 0, none⟩ = some (.int .i64 n1) ∧ w'.cell? ⟨w.heap.size + 6, 1, none⟩ = some (.slice ya X.length yc) ∧ w'.cell? ⟨w.heap.size + 2, 0, none⟩ = some (.int .i64 o.kind) ∧ w'.cell? ⟨w.heap.size + 2, 1, none⟩ = some (str o.key) ∧ w'.cell? ⟨w.heap.size + 2, 2, none⟩ = some (str o.data) ∧ w'.cell? ⟨w.heap.size + 2, 3, none⟩ = some (.slice ma o.l.length mc) ∧ w'.cell? ⟨w.heap.size + 2, 4, none⟩ = some (.int .i64 o.seq) ∧ w'.cell? ⟨w.heap.size + 2, 5, none⟩ = some (.int .i64 o.most)) := ⟨fun w' h => by
          have zo : Bo w' (w.heap.size + 2) (.int .i64 o.kind) (str o.key) (str o.data) (.slice ma o.l.length mc) (.int .i64 o.seq) (.int .i64 o.most) := by
            have e := h.b.block (w.heap.size + 2) (by omega)
            have z := K6.out.zo
            unfold Bo at z ⊢
            rw [e]; exact z
          exact ⟨h, h.z5.cells.1, h.z5.cells.2.1, h.z6.cells.1, h.z6.cells.2.1, zo.cells⟩⟩
        go_wp2_with fail
        go_region_held3 (fun w' => PD w w6 w' (.int .i64 n1) (.slice xa X.length xc) (.int .i64 n1) (.slice ya X.length yc) ∧ w'.cell? ⟨w.heap.size + 5, 0, none⟩ = some (.int .i64 n1) ∧ w'.cell? ⟨w.heap.size + 5, 1, none⟩ = some (.slice xa X.length xc) ∧ w'.cell? ⟨w.heap.size + 6, 0, none⟩ = some (.int .i64 n1) ∧ w'.cell? ⟨w.heap.size + 6, 1, none⟩ = some (.slice ya X.length yc) ∧ w'.cell? ⟨w.heap.size + 2, 0, none⟩ = some (.int .i64 o.kind) ∧ w'.cell? ⟨w.heap.size + 2, 1, none⟩ = some (str o.key) ∧ w'.cell? ⟨w.heap.size + 2, 2, none⟩ = some (str o.data) ∧ w'.cell? ⟨w.heap.size + 2, 3, none⟩ = some (.slice ma o.l.length mc) ∧ w'.cell? ⟨w.heap.size + 2, 4, none⟩ = some (.int .i64 o.seq) ∧ w'.cell? ⟨w.heap.size + 2, 5, none⟩ = some (.int .i64 o.most)) ((refine HS1.out _ ?_; first
          | with_reducible exact HP0.out
          | with_reducible exact pB
          | with_reducible exact pB.set3 0 _
          | with_reducible exact (pB.set3 0 _).set3 1 _
          | with_reducible exact ((pB.set3 0 _).set3 1 _).set4 0 _
          | with_reducible exact (((pB.set3 0 _).set3 1 _).set4 0 _).set4 1 _)) (
          (go_at_call 38; with_reducible refine Calls.mono hlk ?_; rintro e w7 ⟨rfl, e1⟩; have b5 := below_seq (Below.refl w6.heap.size w6).drew e1; have K5 := K6.out.later b5; have pB := HP0.out.later e1; have v0 := K5.z3.cells.1; have v1 := K5.z3.cells.2.1; have v2 := K5.z3.cells.2.2 0; have v3 := K5.z3.cells.2.2 1; have v4 := K5.z4.cells.1; have v5 := K5.z4.cells.2.1; have v6 := K5.z4.cells.2.2 0; have v7 := K5.z4.cells.2.2 1))
        have hsz := K6.out.sz
        have D1 : Hid (Cp (w.heap.size + 7) ((((w7.setCell ⟨w.heap.size + 1 + 1 + 1, 0, none⟩ (.int .i64 n1)).setCell ⟨w.heap.size + 1 + 1 + 1, 1, none⟩ (.slice xa X.length xc)).setCell ⟨w.heap.size + 1 + 1 + 1 + 1, 0, none⟩ (.int .i64 n1)).setCell ⟨w.heap.size + 1 + 1 + 1 + 1, 1, none⟩ (.slice ya X.length yc)) (.slice xa X.length xc) X) := ⟨((C1.out.later b5).st2 (g := w.heap.size + 3) (by omega) _ _).st2 (g := w.heap.size + 4) (by omega) _ _⟩
        have D2 : Hid (Cp (w.heap.size + 7) ((((w7.setCell ⟨w.heap.size + 1 + 1 + 1, 0, none⟩ (.int .i64 n1)).setCell ⟨w.heap.size + 1 + 1 + 1, 1, none⟩ (.slice xa X.length xc)).setCell ⟨w.heap.size + 1 + 1 + 1 + 1, 0, none⟩ (.int .i64 n1)).setCell ⟨w.heap.size + 1 + 1 + 1 + 1, 1, none⟩ (.slice ya X.length yc)) (.slice ya X.length yc) X) := ⟨((C2.out.later b5).st2 (g := w.heap.size + 3) (by omega) _ _).st2 (g := w.heap.size + 4) (by omega) _ _⟩
        have K9 : Hid (KD w ((((w7.setCell ⟨w.heap.size + 1 + 1 + 1, 0, none⟩ (.int .i64 n1)).setCell ⟨w.heap.size + 1 + 1 + 1, 1, none⟩ (.slice xa X.length xc)).setCell ⟨w.heap.size + 1 + 1 + 1 + 1, 0, none⟩ (.int .i64 n1)).setCell ⟨w.heap.size + 1 + 1 + 1 + 1, 1, none⟩ (.slice ya X.length yc)) next L a c a' c' o ma mc (.int .i64 n1) (.slice xa X.length xc) (.int .i64 n1) (.slice ya X.length yc) (.int .i64 n1) (.slice xa X.length xc) (.int .i64 n1) (.slice ya X.length yc)) := ⟨K5.set34 _ _ _ _⟩
        clear K6 HS1 HP0 hlk e1 b5 pB v0 v1 v2 v3 v4 v5 v6 v7 hsz C1 C2
        go_wp2_with fail
        generalize hW9 : (((w7.setCell ⟨w.heap.size + 1 + 1 + 1, 0, none⟩ (.int .i64 n1)).setCell ⟨w.heap.size + 1 + 1 + 1, 1, none⟩ (.slice xa X.length xc)).setCell ⟨w.heap.size + 1 + 1 + 1 + 1, 0, none⟩ (.int .i64 n1)).setCell ⟨w.heap.size + 1 + 1 + 1 + 1, 1, none⟩ (.slice ya X.length yc) = W9 at *
        clear hW9
        obtain ⟨k0, k1, _⟩ := K9.out.z3.cells
        obtain ⟨k2, k3, _⟩ := K9.out.z4.cells
        refine bodyPost_ret (v := .tuple #[bv n1 xa X.length xc, bv n1 ya X.length yc, .bool true]) ?_ rfl ⟨n1, X, xa, xc, ya, yc, rfl, HXR.out, li_x (ce := 0) (.inr ⟨rfl, HXR.out⟩) D1.out, li_x (ce := 0) (.inr ⟨rfl, HXR.out⟩) D2.out, K9.out.b⟩
        rw [results_cct rfl]
        go_simp
    · have f2 : (o.kind == 2) = false := beq_eq_false_iff_ne.2 g2
      by_cases g3 : o.kind = 3
      · have ff : (o.kind == 3) = true := by rw [g3]; rfl
        obtain ⟨n1, X, ce, hp1, hp2, hcase⟩ := both_rem HR.out o.key o.seq
        have HC := Hid.mk hcase
        have Hp1 := Hid.mk hp1
        have Hp2 := Hid.mk hp2
        clear hcase hp1 hp2 g1 g2 g3
        obtain ⟨p0, p1, _⟩ := K.out.zb.cells
        obtain ⟨q0, q1, q2, q3, q4, q5⟩ := K.out.zo.cells
        go_enter Tryz.func11, Tryz.ntmps11
        go_wp2_with fail
        generalize (((((((w.alloc (.cells #[.int .i64 next, .slice a L.length c] 24)).alloc (.cells #[.int .i64 next, .slice a' L.length c'] 24)).alloc (.cells #[.int .i64 o.kind, str o.key, str o.data, .slice ma o.l.length mc, .int .i64 o.seq, .int .i64 o.most] 34)).alloc (.cells #[.int .i64 0, .slice none 0 0] 24)).alloc (.cells #[.int .i64 0, .slice none 0 0] 24)).alloc (.cells #[.int .i64 0, .slice none 0 0] 24)).alloc (.cells #[.int .i64 0, .slice none 0 0] 24)) = w1 at *
        with_reducible refine Calls.mono (Hp1.out w1 a c (HLb.out.later K.out.b)) ?_
        rintro e w2 ⟨rv, rfl, kr, b2⟩
        obtain ⟨xa, xc, rfl, _⟩ := kr.ls
        dsimp only
        have K2 := K.out.later b2
        have hsz := K.out.sz
        have K3 : Hid (KD w ((w2.setCell ⟨w.heap.size + 1 + 1 + 1 + 1 + 1, 0, none⟩ (.int .i64 n1)).setCell ⟨w.heap.size + 1 + 1 + 1 + 1 + 1, 1, none⟩ (.slice xa X.length xc)) next L a c a' c' o ma mc (.int .i64 0) (.slice none 0 0) (.int .i64 0) (.slice none 0 0) (.int .i64 n1) (.slice xa X.length xc) (.int .i64 0) (.slice none 0 0)) := ⟨K2.set5 _ _⟩
        have C1 : Hid (Cp (w.heap.size + 7) ((w2.setCell ⟨w.heap.size + 1 + 1 + 1 + 1 + 1, 0, none⟩ (.int .i64 n1)).setCell ⟨w.heap.size + 1 + 1 + 1 + 1 + 1, 1, none⟩ (.slice xa X.length xc)) (.slice xa X.length xc) X) := ⟨(kr.st2 (g := w.heap.size + 5) (by omega) _ _).base (by omega)⟩
        clear p0 p1 q0 q1 q2 q3 q4 q5
        obtain ⟨u0, u1, uf⟩ := K2.z5.cells
        have uf0 := uf 0
        have uf1 := uf 1
        obtain ⟨r0, r1, _⟩ := K3.out.zr.cells
        obtain ⟨q0, q1, q2, q3, q4, q5⟩ := K3.out.zo.cells
        clear uf K K2 kr b2 Hp1 hsz
        go_wp2_with fail
        generalize hW3 : (w2.setCell ⟨w.heap.size + 1 + 1 + 1 + 1 + 1, 0, none⟩ (.int .i64 n1)).setCell ⟨w.heap.size + 1 + 1 + 1 + 1 + 1, 1, none⟩ (.slice xa X.length xc) = w3 at *
        clear hW3 u0 u1 uf0 uf1
        with_reducible refine Calls.mono (Hp2.out w3 a' c' (HLr.out.later K3.out.b)) ?_
        rintro e w4 ⟨rv, rfl, kr, b4⟩
        obtain ⟨ya, yc, rfl, _⟩ := kr.ls
        dsimp only
        have K4 := K3.out.later b4
        have hsz := K3.out.sz
        have K5 : Hid (KD w ((w4.setCell ⟨w.heap.size + 1 + 1 + 1 + 1 + 1 + 1, 0, none⟩ (.int .i64 n1)).setCell ⟨w.heap.size + 1 + 1 + 1 + 1 + 1 + 1, 1, none⟩ (.slice ya X.length yc)) next L a c a' c' o ma mc (.int .i64 0) (.slice none 0 0) (.int .i64 0) (.slice none 0 0) (.int .i64 n1) (.slice xa X.length xc) (.int .i64 n1) (.slice ya X.length yc)) := ⟨K4.set6 _ _⟩
        have C1b : Hid (Cp (w.heap.size + 7) ((w4.setCell ⟨w.heap.size + 1 + 1 + 1 + 1 + 1 + 1, 0, none⟩ (.int .i64 n1)).setCell ⟨w.heap.size + 1 + 1 + 1 + 1 + 1 + 1, 1, none⟩ (.slice ya X.length yc)) (.slice xa X.length xc) X) := ⟨(C1.out.later b4).st2 (g := w.heap.size + 6) (by omega) _ _⟩
        have C2 : Hid (Cp (w.heap.size + 7) ((w4.setCell ⟨w.heap.size + 1 + 1 + 1 + 1 + 1 + 1, 0, none⟩ (.int .i64 n1)).setCell ⟨w.heap.size + 1 + 1 + 1 + 1 + 1 + 1, 1, none⟩ (.slice ya X.length yc)) (.slice ya X.length yc) X) := ⟨(kr.st2 (g := w.heap.size + 6) (by omega) _ _).base (by omega)⟩
        clear r0 r1 q0 q1 q2 q3 q4 q5
        obtain ⟨u0, u1, uf⟩ := K4.z6.cells
        have uf0 := uf 0
        have uf1 := uf 1
        obtain ⟨r0, r1, _⟩ := K5.out.z5.cells
        obtain ⟨q0, q1, _⟩ := K5.out.z6.cells
        clear uf K3 K4 kr b4 Hp2 hsz C1
        go_wp2_with fail
        generalize hW5 : (w4.setCell ⟨w.heap.size + 1 + 1 + 1 + 1 + 1 + 1, 0, none⟩ (.int .i64 n1)).setCell ⟨w.heap.size + 1 + 1 + 1 + 1 + 1 + 1, 1, none⟩ (.slice ya X.length yc) = w5 at *
        clear hW5 u0 u1 uf0 uf1 r0 r1 q0 q1
        with_reducible refine Calls.mono (qSame_eq n1 X w5 xa xc ya yc (li_x HC.out C1b.out) (li_x HC.out C2.out) (li_len HC.out)) ?_
        rintro e w6 ⟨rfl, b6⟩
        dsimp only
        have K6 := Hid.mk (K5.out.later b6)
        have C1 := Hid.mk (C1b.out.later b6)
        have C2 := Hid.mk (C2.out.later b6)
        clear K5 C1b b6
        rcases HC.out with ⟨hce, _⟩ | ⟨rfl, hXR⟩
        · have dce : (ce == 0) = false := beq_eq_false_iff_ne.2 hce
          have dce' : (ce != 0) = true := bne_iff_ne.2 hce
          obtain ⟨p0, p1, _⟩ := K6.out.zb.cells
          obtain ⟨r0, r1, _⟩ := K6.out.zr.cells
          obtain ⟨v0, v1, vf⟩ := K6.out.z3.cells
          obtain ⟨v4, v5, wf⟩ := K6.out.z4.cells
          have v2 := vf 0
          have v3 := vf 1
          have v6 := wf 0
          have v7 := wf 1
          clear vf wf hce HC C1 C2
          go_wp2_with fail
          go_region
          have K9 : Hid (KD w ((((w6.setCell ⟨w.heap.size + 1 + 1 + 1, 0, none⟩ (.int .i64 next)).setCell ⟨w.heap.size + 1 + 1 + 1, 1, none⟩ (.slice a L.length c)).setCell ⟨w.heap.size + 1 + 1 + 1 + 1, 0, none⟩ (.int .i64 next)).setCell ⟨w.heap.size + 1 + 1 + 1 + 1, 1, none⟩ (.slice a' L.length c')) next L a c a' c' o ma mc (.int .i64 next) (.slice a L.length c) (.int .i64 next) (.slice a' L.length c') (.int .i64 n1) (.slice xa X.length xc) (.int .i64 n1) (.slice ya X.length yc)) := ⟨K6.out.set34 _ _ _ _⟩
          clear K6 p0 p1 r0 r1 v0 v1 v2 v3 v4 v5 v6 v7 dce dce'
          go_wp2_with fail
          have K9 := Hid.mk (K9.out.later (Below.refl _ _).drew)
          generalize hW9 : ((((w6.setCell ⟨w.heap.size + 1 + 1 + 1, 0, none⟩ (.int .i64 next)).setCell ⟨w.heap.size + 1 + 1 + 1, 1, none⟩ (.slice a L.length c)).setCell ⟨w.heap.size + 1 + 1 + 1 + 1, 0, none⟩ (.int .i64 next)).setCell ⟨w.heap.size + 1 + 1 + 1 + 1, 1, none⟩ (.slice a' L.length c')).drew = W9 at *
          clear hW9
          obtain ⟨k0, k1, _⟩ := K9.out.z3.cells
          obtain ⟨k2, k3, _⟩ := K9.out.z4.cells
          refine bodyPost_ret (v := .tuple #[bv next a L.length c, bv next a' L.length c', .bool true]) ?_ rfl ⟨next, L, a, c, a', c', rfl, HR.out, HLb.out.later K9.out.b, HLr.out.later K9.out.b, K9.out.b⟩
          rw [results_cct rfl]
          go_simp
        · have HXR := Hid.mk hXR
          clear hXR HC
          have hlk := looked_any n1 X HXR.out o ma mc w6.drew xa xc ya yc ((li_x (ce := 0) (.inr ⟨rfl, HXR.out⟩) C1.out).later (Below.refl _ _).drew) ((li_x (ce := 0) (.inr ⟨rfl, HXR.out⟩) C2.out).later (Below.refl _ _).drew)
          have HP0 : Hid (PD w w6 w6.drew (.int .i64 n1) (.slice xa X.length xc) (.int .i64 n1) (.slice ya X.length yc)) := ⟨⟨(Below.refl _ _).drew, K6.out.z5, K6.out.z6⟩⟩
          have HS1 : Hid (∀ w', PD w w6 w' (.int .i64 n1) (.slice xa X.length xc) (.int .i64 n1) (.slice ya X.length yc) → PD w w6 w' (.int .i64 n1) (.slice xa X.length xc) (.int .i64 n1) (.slice ya X.length yc) ∧ w'.cell? ⟨w.heap.size + 5, 0, none⟩ = some (.int .i64 n1) ∧ w'.cell? ⟨w.heap.size + 5, 1, none⟩ = some (.slice xa X.length xc) ∧ w'.cell? ⟨w.heap.size + 6, 0, none⟩ = some (.int .i64 n1) ∧ w'.cell? ⟨w.heap.size + 6, 1, none⟩ = some (.slice ya X.length yc) ∧ w'.cell? ⟨w.heap.size + 2, 0, none⟩ = some (.int .i64 o.kind) ∧ w'.cell? ⟨w.heap.size + 2, 1, none⟩ = some (str o.key) ∧ w'.cell? ⟨w.heap.size + 2, 2, none⟩ = some (str o.data) ∧ w'.cell? ⟨w.heap.size + 2, 3, none⟩ = some (.slice ma o.l.length mc) ∧ w'.cell? ⟨w.heap.size + 2, 4, none⟩ = some (.int .i64 o.seq) ∧ w'.cell? ⟨w.heap.size + 2, 5, none⟩ = some (.int .i64 o.most)) := ⟨fun w' h => by
            have zo : Bo w' (w.heap.size + 2) (.int .i64 o.kind) (str o.key) (str o.data) (.slice ma o.l.length mc) (.int .i64 o.seq) (.int .i64 o.most) := by
              have e := h.b.block (w.heap.size + 2) (by omega)
              have z := K6.out.zo
              unfold Bo at z ⊢
              rw [e]; exact z
            exact ⟨h, h.z5.cells.1, h.z5.cells.2.1, h.z6.cells.1, h.z6.cells.2.1, zo.cells⟩⟩
          go_wp2_with fail
          go_region_held3 (fun w' => PD w w6 w' (.int .i64 n1) (.slice xa X.length xc) (.int .i64 n1) (.slice ya X.length yc) ∧ w'.cell? ⟨w.heap.size + 5, 0, none⟩ = some (.int .i64 n1) ∧ w'.cell? ⟨w.heap.size + 5, 1, none⟩ = some (.slice xa X.length xc) ∧ w'.cell? ⟨w.heap.size + 6, 0, none⟩ = some (.int .i64 n1) ∧ w'.cell? ⟨w.heap.size + 6, 1, none⟩ = some (.slice ya X.length yc) ∧ w'.cell? ⟨w.heap.size + 2, 0, none⟩ = some (.int .i64 o.kind) ∧ w'.cell? ⟨w.heap.size + 2, 1, none⟩ = some (str o.key) ∧ w'.cell? ⟨w.heap.size + 2, 2, none⟩ = some (str o.data) ∧ w'.cell? ⟨w.heap.size + 2, 3, none⟩ = some (.slice ma o.l.length mc) ∧ w'.cell? ⟨w.heap.size + 2, 4, none⟩ = some (.int .i64 o.seq) ∧ w'.cell? ⟨w.heap.size + 2, 5, none⟩ = some (.int .i64 o.most)) ((refine HS1.out _ ?_; first
            | with_reducible exact HP0.out
            | with_reducible exact pB
            | with_reducible exact pB.set3 0 _
            | with_reducible exact (pB.set3 0 _).set3 1 _
            | with_reducible exact ((pB.set3 0 _).set3 1 _).set4 0 _
            | with_reducible exact (((pB.set3 0 _).set3 1 _).set4 0 _).set4 1 _)) (
            (go_at_call 38; with_reducible refine Calls.mono hlk ?_; rintro e w7 ⟨rfl, e1⟩; have b5 := below_seq (Below.refl w6.heap.size w6).drew e1; have K5 := K6.out.later b5; have pB := HP0.out.later e1; have v0 := K5.z3.cells.1; have v1 := K5.z3.cells.2.1; have v2 := K5.z3.cells.2.2 0; have v3 := K5.z3.cells.2.2 1; have v4 := K5.z4.cells.1; have v5 := K5.z4.cells.2.1; have v6 := K5.z4.cells.2.2 0; have v7 := K5.z4.cells.2.2 1))
          have hsz := K6.out.sz
          have D1 : Hid (Cp (w.heap.size + 7) ((((w7.setCell ⟨w.heap.size + 1 + 1 + 1, 0, none⟩ (.int .i64 n1)).setCell ⟨w.heap.size + 1 + 1 + 1, 1, none⟩ (.slice xa X.length xc)).setCell ⟨w.heap.size + 1 + 1 + 1 + 1, 0, none⟩ (.int .i64 n1)).setCell ⟨w.heap.size + 1 + 1 + 1 + 1, 1, none⟩ (.slice ya X.length yc)) (.slice xa X.length xc) X) := ⟨((C1.out.later b5).st2 (g := w.heap.size + 3) (by omega) _ _).st2 (g := w.heap.size + 4) (by omega) _ _⟩
          have D2 : Hid (Cp (w.heap.size + 7) ((((w7.setCell ⟨w.heap.size + 1 + 1 + 1, 0, none⟩ (.int .i64 n1)).setCell ⟨w.heap.size + 1 + 1 + 1, 1, none⟩ (.slice xa X.length xc)).setCell ⟨w.heap.size + 1 + 1 + 1 + 1, 0, none⟩ (.int .i64 n1)).setCell ⟨w.heap.size + 1 + 1 + 1 + 1, 1, none⟩ (.slice ya X.length yc)) (.slice ya X.length yc) X) := ⟨((C2.out.later b5).st2 (g := w.heap.size + 3) (by omega) _ _).st2 (g := w.heap.size + 4) (by omega) _ _⟩
          have K9 : Hid (KD w ((((w7.setCell ⟨w.heap.size + 1 + 1 + 1, 0, none⟩ (.int .i64 n1)).setCell ⟨w.heap.size + 1 + 1 + 1, 1, none⟩ (.slice xa X.length xc)).setCell ⟨w.heap.size + 1 + 1 + 1 + 1, 0, none⟩ (.int .i64 n1)).setCell ⟨w.heap.size + 1 + 1 + 1 + 1, 1, none⟩ (.slice ya X.length yc)) next L a c a' c' o ma mc (.int .i64 n1) (.slice xa X.length xc) (.int .i64 n1) (.slice ya X.length yc) (.int .i64 n1) (.slice xa X.length xc) (.int .i64 n1) (.slice ya X.length yc)) := ⟨K5.set34 _ _ _ _⟩
          clear K6 HS1 HP0 hlk e1 b5 pB v0 v1 v2 v3 v4 v5 v6 v7 hsz C1 C2
          go_wp2_with fail
          generalize hW9 : (((w7.setCell ⟨w.heap.size + 1 + 1 + 1, 0, none⟩ (.int .i64 n1)).setCell ⟨w.heap.size + 1 + 1 + 1, 1, none⟩ (.slice xa X.length xc)).setCell ⟨w.heap.size + 1 + 1 + 1 + 1, 0, none⟩ (.int .i64 n1)).setCell ⟨w.heap.size + 1 + 1 + 1 + 1, 1, none⟩ (.slice ya X.length yc) = W9 at *
          clear hW9
          obtain ⟨k0, k1, _⟩ := K9.out.z3.cells
          obtain ⟨k2, k3, _⟩ := K9.out.z4.cells
          refine bodyPost_ret (v := .tuple #[bv n1 xa X.length xc, bv n1 ya X.length yc, .bool true]) ?_ rfl ⟨n1, X, xa, xc, ya, yc, rfl, HXR.out, li_x (ce := 0) (.inr ⟨rfl, HXR.out⟩) D1.out, li_x (ce := 0) (.inr ⟨rfl, HXR.out⟩) D2.out, K9.out.b⟩
          rw [results_cct rfl]
          go_simp
      · have f3 : (o.kind == 3) = false := beq_eq_false_iff_ne.2 g3
        clear g1 g2 g3
        go_enter Tryz.func11, Tryz.ntmps11
        go_wp2_with fail
        generalize (((((((w.alloc (.cells #[.int .i64 next, .slice a L.length c] 24)).alloc (.cells #[.int .i64 next, .slice a' L.length c'] 24)).alloc (.cells #[.int .i64 o.kind, str o.key, str o.data, .slice ma o.l.length mc, .int .i64 o.seq, .int .i64 o.most] 34)).alloc (.cells #[.int .i64 0, .slice none 0 0] 24)).alloc (.cells #[.int .i64 0, .slice none 0 0] 24)).alloc (.cells #[.int .i64 0, .slice none 0 0] 24)).alloc (.cells #[.int .i64 0, .slice none 0 0] 24)) = w1 at *
        have hlk := looked_any next L HR.out o ma mc w1.drew a c a' c' ((HLb.out.later K.out.b).later (Below.refl _ _).drew) ((HLr.out.later K.out.b).later (Below.refl _ _).drew)
        have HS1 : Hid (∀ w', Below (w.heap.size + 3) w1 w' → Below (w.heap.size + 3) w1 w' ∧ w'.cell? ⟨w.heap.size, 0, none⟩ = some (.int .i64 next) ∧ w'.cell? ⟨w.heap.size, 1, none⟩ = some (.slice a L.length c) ∧ w'.cell? ⟨w.heap.size + 1, 0, none⟩ = some (.int .i64 next) ∧ w'.cell? ⟨w.heap.size + 1, 1, none⟩ = some (.slice a' L.length c') ∧ w'.cell? ⟨w.heap.size + 2, 0, none⟩ = some (.int .i64 o.kind) ∧ w'.cell? ⟨w.heap.size + 2, 1, none⟩ = some (str o.key) ∧ w'.cell? ⟨w.heap.size + 2, 2, none⟩ = some (str o.data) ∧ w'.cell? ⟨w.heap.size + 2, 3, none⟩ = some (.slice ma o.l.length mc) ∧ w'.cell? ⟨w.heap.size + 2, 4, none⟩ = some (.int .i64 o.seq) ∧ w'.cell? ⟨w.heap.size + 2, 5, none⟩ = some (.int .i64 o.most)) := ⟨fun w' h => by
          have zo : Bo w' (w.heap.size + 2) (.int .i64 o.kind) (str o.key) (str o.data) (.slice ma o.l.length mc) (.int .i64 o.seq) (.int .i64 o.most) := by
            have e := h.block (w.heap.size + 2) (by omega)
            have z := K.out.zo
            unfold Bo at z ⊢
            rw [e]; exact z
          have zb := K.out.zb.low (by omega) h
          have zr := K.out.zr.low (by omega) h
          exact ⟨h, zb.cells.1, zb.cells.2.1, zr.cells.1, zr.cells.2.1, zo.cells⟩⟩
        go_region_held3 (fun w' => Below (w.heap.size + 3) w1 w' ∧ w'.cell? ⟨w.heap.size, 0, none⟩ = some (.int .i64 next) ∧ w'.cell? ⟨w.heap.size, 1, none⟩ = some (.slice a L.length c) ∧ w'.cell? ⟨w.heap.size + 1, 0, none⟩ = some (.int .i64 next) ∧ w'.cell? ⟨w.heap.size + 1, 1, none⟩ = some (.slice a' L.length c') ∧ w'.cell? ⟨w.heap.size + 2, 0, none⟩ = some (.int .i64 o.kind) ∧ w'.cell? ⟨w.heap.size + 2, 1, none⟩ = some (str o.key) ∧ w'.cell? ⟨w.heap.size + 2, 2, none⟩ = some (str o.data) ∧ w'.cell? ⟨w.heap.size + 2, 3, none⟩ = some (.slice ma o.l.length mc) ∧ w'.cell? ⟨w.heap.size + 2, 4, none⟩ = some (.int .i64 o.seq) ∧ w'.cell? ⟨w.heap.size + 2, 5, none⟩ = some (.int .i64 o.most)) ((refine HS1.out _ ?_; first
          | with_reducible exact (Below.refl _ _).drew
          | with_reducible exact pB
          | with_reducible exact pB.setCell (p := ⟨w.heap.size + 3, 0, none⟩) (Nat.le_refl _) _
          | with_reducible exact (pB.setCell (p := ⟨w.heap.size + 3, 0, none⟩) (Nat.le_refl _) _).setCell (p := ⟨w.heap.size + 3, 1, none⟩) (Nat.le_refl _) _
          | with_reducible exact ((pB.setCell (p := ⟨w.heap.size + 3, 0, none⟩) (Nat.le_refl _) _).setCell (p := ⟨w.heap.size + 3, 1, none⟩) (Nat.le_refl _) _).setCell (p := ⟨w.heap.size + 4, 0, none⟩) (Nat.le_succ _) _
          | with_reducible exact (((pB.setCell (p := ⟨w.heap.size + 3, 0, none⟩) (Nat.le_refl _) _).setCell (p := ⟨w.heap.size + 3, 1, none⟩) (Nat.le_refl _) _).setCell (p := ⟨w.heap.size + 4, 0, none⟩) (Nat.le_succ _) _).setCell (p := ⟨w.heap.size + 4, 1, none⟩) (Nat.le_succ _) _)) (
          (go_at_call 38; with_reducible refine Calls.mono hlk ?_; rintro e w5 ⟨rfl, e1⟩; have b5 := below_seq (Below.refl w1.heap.size w1).drew e1; have K5 := K.out.later b5; have pB : Below (w.heap.size + 3) w1 w5 := b5.mono (by have := K.out.sz; omega); have v0 := K5.z3.cells.1; have v1 := K5.z3.cells.2.1; have v2 := K5.z3.cells.2.2 0; have v3 := K5.z3.cells.2.2 1; have v4 := K5.z4.cells.1; have v5 := K5.z4.cells.2.1; have v6 := K5.z4.cells.2.2 0; have v7 := K5.z4.cells.2.2 1))
        have K9 : Hid (KD w ((((w5.setCell ⟨w.heap.size + 1 + 1 + 1, 0, none⟩ (.int .i64 next)).setCell ⟨w.heap.size + 1 + 1 + 1, 1, none⟩ (.slice a L.length c)).setCell ⟨w.heap.size + 1 + 1 + 1 + 1, 0, none⟩ (.int .i64 next)).setCell ⟨w.heap.size + 1 + 1 + 1 + 1, 1, none⟩ (.slice a' L.length c')) next L a c a' c' o ma mc (.int .i64 next) (.slice a L.length c) (.int .i64 next) (.slice a' L.length c') (.int .i64 0) (.slice none 0 0) (.int .i64 0) (.slice none 0 0)) := ⟨K5.set34 _ _ _ _⟩
        clear K HS1 hlk e1 b5 pB v0 v1 v2 v3 v4 v5 v6 v7
        go_wp2_with fail
        generalize hW9 : (((w5.setCell ⟨w.heap.size + 1 + 1 + 1, 0, none⟩ (.int .i64 next)).setCell ⟨w.heap.size + 1 + 1 + 1, 1, none⟩ (.slice a L.length c)).setCell ⟨w.heap.size + 1 + 1 + 1 + 1, 0, none⟩ (.int .i64 next)).setCell ⟨w.heap.size + 1 + 1 + 1 + 1, 1, none⟩ (.slice a' L.length c') = W9 at *
        clear hW9
        obtain ⟨k0, k1, _⟩ := K9.out.z3.cells
        obtain ⟨k2, k3, _⟩ := K9.out.z4.cells
        refine bodyPost_ret (v := .tuple #[bv next a L.length c, bv next a' L.length c', .bool true]) ?_ rfl ⟨next, L, a, c, a', c', rfl, HR.out, HLb.out.later K9.out.b, HLr.out.later K9.out.b, K9.out.b⟩
        rw [results_cct rfl]
        go_simp
end Go.Proofs.YtgcdnanfnbdjjaaGreat

/- BucketPlays: the walk. -/
namespace Go.Proofs.YtgcdnanfnbdjjaaGreat
set_option linter.unusedVariables false
set_option linter.unusedSimpArgs false
open Go.RowKit
attribute [local go_sem ↓] Go.wp_at_zero Go.wp_at_succ
/-- no text stands in a bucket's box -/
theorem bq_str {w : World} {g : Nat} {x : Int} {sa : Option Addr} {sn sc : Nat} (hz : Bq w g (.int .i64 x) (.slice sa sn sc)) {b i : Nat} {s : List UInt8} (h : w.cell? ⟨b, i, none⟩ = some (str s)) : ¬ b = g := by
  rintro rfl
  unfold Bq at hz
  rw [cell_of_row _ _ _ _ _ _ hz] at h
  rcases i with _ | _ | i
  · cases h
  · cases h
  · simp at h
theorem cell_set {w : World} {g j : Nat} {v : Value} {b i : Nat} (h : ¬ b = g) : (w.setCell ⟨g, j, none⟩ v).cell? ⟨b, i, none⟩ = w.cell? ⟨b, i, none⟩ := by
  have e := heap_setCell_other w ⟨g, j, none⟩ b v (by first | exact h | exact fun q => h q.symm)
  unfold World.cell?
  simp only [e]
theorem pin_set {w : World} {a : Option Addr} {l : List En} (h : PIn w a l) {g : Nat} {x : Int} {sa : Option Addr} {sn sc : Nat} (hz : Bq w g (.int .i64 x) (.slice sa sn sc)) (j : Nat) (v : Value) : PIn (w.setCell ⟨g, j, none⟩ v) a l := by
  refine ⟨fun k p hp => ?_⟩
  obtain ⟨b, off, e, hb, c0, c1⟩ := h.get k p hp
  have hne := bq_str hz c0
  exact ⟨b, off, e, by simpa using hb, (cell_set hne).trans c0, (cell_set hne).trans c1⟩
theorem sl_set {w : World} {a : Option Addr} {c : Nat} {l : List En} (h : Sl w a c l) {g : Nat} {x : Int} {sa : Option Addr} {sn sc : Nat} (hz : Bq w g (.int .i64 x) (.slice sa sn sc)) (j : Nat) (v : Value) : Sl (w.setCell ⟨g, j, none⟩ v) a c l := ⟨pin_set h.at' hz j v, h.le, h.max, h.nil⟩
theorem li_set {w : World} {L : List Vs} {a : Option Addr} {n c : Nat} (h : Li w L a n c) {g : Nat} {x : Int} {sa : Option Addr} {sn sc : Nat} (hz : Bq w g (.int .i64 x) (.slice sa sn sc)) (j : Nat) (v : Value) : Li (w.setCell ⟨g, j, none⟩ v) L a n c := by
  refine ⟨h.n, ⟨⟨fun k u hu => ?_⟩, h.s.le, h.s.max, h.s.nil⟩, h.l, h.z⟩
  obtain ⟨b, off, ma, mc, e, hb, c0, c1, c2, c3, c4, s⟩ := h.s.at'.get k u hu
  have hne := bq_str hz c0
  exact ⟨b, off, ma, mc, e, by simpa using hb, (cell_set hne).trans c0, (cell_set hne).trans c1, (cell_set hne).trans c2, (cell_set hne).trans c3, (cell_set hne).trans c4, sl_set s hz j v⟩
/-- the two boxes between the steps -/
structure KP (W w : World) (gc gr : Nat) (n1 : Int) (X : List Vs) (a1 : Option Addr) (c1 : Nat) (a2 : Option Addr) (c2 : Nat) : Prop where
  b : Below W.heap.size W w
  lgc : W.heap.size ≤ gc
  lgr : W.heap.size ≤ gr
  ne : ¬ gc = gr
  zc : Bq w gc (.int .i64 n1) (.slice a1 X.length c1)
  zr : Bq w gr (.int .i64 n1) (.slice a2 X.length c2)
  lc : Li w X a1 X.length c1
  lr : Li w X a2 X.length c2
  r : RtB n1 X
theorem KP.later {W w w' : World} {gc gr : Nat} {n1 : Int} {X : List Vs} {a1 : Option Addr} {c1 : Nat} {a2 : Option Addr} {c2 : Nat} (h : KP W w gc gr n1 X a1 c1 a2 c2) (hb : Below w.heap.size w w') : KP W w' gc gr n1 X a1 c1 a2 c2 :=
  ⟨h.b.trans (hb.mono h.b.size), h.lgc, h.lgr, h.ne, h.zc.later hb, h.zr.later hb, h.lc.later hb, h.lr.later hb, h.r⟩
/-- both set -/
theorem KP.set {W w : World} {gc gr : Nat} {n1 : Int} {X : List Vs} {a1 : Option Addr} {c1 : Nat} {a2 : Option Addr} {c2 : Nat} (h : KP W w gc gr n1 X a1 c1 a2 c2) {n2 : Int} {Y : List Vs} {a3 : Option Addr} {c3 : Nat} {a4 : Option Addr} {c4 : Nat} (hR : RtB n2 Y) (h3 : Li w Y a3 Y.length c3) (h4 : Li w Y a4 Y.length c4) :
    KP W ((((w.setCell ⟨gc, 0, none⟩ (.int .i64 n2)).setCell ⟨gc, 1, none⟩ (.slice a3 Y.length c3)).setCell ⟨gr, 0, none⟩ (.int .i64 n2)).setCell ⟨gr, 1, none⟩ (.slice a4 Y.length c4)) gc gr n2 Y a3 c3 a4 c4 := by
  have hne := h.ne
  have hne' : ¬ gr = gc := fun q => hne q.symm
  have z1 := h.zc.set0 (.int .i64 n2)
  have z2 := z1.set1 (.slice a3 Y.length c3)
  have y1 := h.zr.out hne' (g2 := gc) (j := 0) (.int .i64 n2)
  have y2 := y1.out hne' (g2 := gc) (j := 1) (.slice a3 Y.length c3)
  have y3 := y2.set0 (.int .i64 n2)
  refine ⟨(((h.b.setCell (p := ⟨gc, 0, none⟩) h.lgc _).setCell (p := ⟨gc, 1, none⟩) h.lgc _).setCell (p := ⟨gr, 0, none⟩) h.lgr _).setCell (p := ⟨gr, 1, none⟩) h.lgr _, h.lgc, h.lgr, hne, (z2.out hne _).out hne _, y3.set1 _, ?_, ?_, hR⟩
  · exact li_set (li_set (li_set (li_set h3 h.zc 0 _) z1 1 _) y2 0 _) y3 1 _
  · exact li_set (li_set (li_set (li_set h4 h.zc 0 _) z1 1 _) y2 0 _) y3 1 _
/-- what done's answers leave in their boxes -/
structure EnP (wr wz : World) (gx gy : Nat) (n2 : Int) (Y : List Vs) (a3 : Option Addr) (c3 : Nat) (a4 : Option Addr) (c4 : Nat) : Prop where
  zx : Bq wz gx (.int .i64 n2) (.slice a3 Y.length c3)
  zy : Bq wz gy (.int .i64 n2) (.slice a4 Y.length c4)
  b : Below wr.heap.size wr wz
  l3 : Li wz Y a3 Y.length c3
  l4 : Li wz Y a4 Y.length c4
  hx : wr.heap.size ≤ gx
  hy : wr.heap.size ≤ gy
theorem below_c {w w' : World} (h : Below w.heap.size w w') {g j : Nat} (hg : w.heap.size ≤ g) {v : Value} : Below w.heap.size w (w'.setCell ⟨g, j, none⟩ v) := h.setCell (p := ⟨g, j, none⟩) hg v
section
variable {wr w5 : World} {n2 : Int} {Y : List Vs} {a3 : Option Addr} {c3 : Nat} {a4 : Option Addr} {c4 : Nat}
theorem en1 (bB : Below wr.heap.size wr w5) (l3 : Li w5 Y a3 Y.length c3) (l4 : Li w5 Y a4 Y.length c4) : EnP wr ((w5.alloc (.cells #[.int .i64 n2, .slice a3 Y.length c3] 24)).alloc (.cells #[.int .i64 n2, .slice a4 Y.length c4] 24)) w5.heap.size (w5.heap.size + 1) n2 Y a3 c3 a4 c4 := by
  have b1 := below_al (below_al (Below.refl w5.heap.size w5) (.cells #[.int .i64 n2, .slice a3 Y.length c3] 24)) (.cells #[.int .i64 n2, .slice a4 Y.length c4] 24)
  refine ⟨(Bq.new w5 _ _).later ((Below.refl _ _).alloc (Nat.le_refl _) _), ?_, below_al (below_al bB _) _, l3.later b1, l4.later b1, bB.size, Nat.le_succ_of_le bB.size⟩
  have := Bq.new (w5.alloc (.cells #[.int .i64 n2, .slice a3 Y.length c3] 24)) (.int .i64 n2) (.slice a4 Y.length c4)
  rwa [World.size_alloc] at this
theorem EnP.swap {wz : World} {gx gy : Nat} (h : EnP wr wz gx gy n2 Y a3 c3 a4 c4) : EnP wr wz gy gx n2 Y a4 c4 a3 c3 := ⟨h.zy, h.zx, h.b, h.l4, h.l3, h.hy, h.hx⟩
theorem en3 (bB : Below wr.heap.size wr w5) {g : Nat} (hg : wr.heap.size ≤ g) (hz : Bq w5 g (.int .i64 0) (.slice none 0 0)) (l3 : Li w5 Y a3 Y.length c3) (l4 : Li w5 Y a4 Y.length c4) : EnP wr (((w5.setCell ⟨g, 0, none⟩ (.int .i64 n2)).setCell ⟨g, 1, none⟩ (.slice a3 Y.length c3)).alloc (.cells #[.int .i64 n2, .slice a4 Y.length c4] 24)) g w5.heap.size n2 Y a3 c3 a4 c4 := by
  have z1 := hz.set0 (.int .i64 n2)
  have al := (Below.refl ((w5.setCell ⟨g, 0, none⟩ (.int .i64 n2)).setCell ⟨g, 1, none⟩ (.slice a3 Y.length c3)).heap.size _).alloc (Nat.le_refl _) (.cells #[.int .i64 n2, .slice a4 Y.length c4] 24)
  refine ⟨(z1.set1 _).later al, ?_, below_al (below_c (below_c bB hg) hg) _, (li_set (li_set l3 hz 0 _) z1 1 _).later al, (li_set (li_set l4 hz 0 _) z1 1 _).later al, hg, bB.size⟩
  have := Bq.new ((w5.setCell ⟨g, 0, none⟩ (.int .i64 n2)).setCell ⟨g, 1, none⟩ (.slice a3 Y.length c3)) (.int .i64 n2) (.slice a4 Y.length c4)
  have e : ((w5.setCell ⟨g, 0, none⟩ (.int .i64 n2)).setCell ⟨g, 1, none⟩ (.slice a3 Y.length c3)).heap.size = w5.heap.size := by simp
  rwa [e] at this
theorem en4 (bB : Below wr.heap.size wr w5) {g g' : Nat} (hg : wr.heap.size ≤ g) (hg' : wr.heap.size ≤ g') (hn : ¬ g = g') (hz : Bq w5 g (.int .i64 0) (.slice none 0 0)) (hz' : Bq w5 g' (.int .i64 0) (.slice none 0 0)) (l3 : Li w5 Y a3 Y.length c3) (l4 : Li w5 Y a4 Y.length c4) : EnP wr ((((w5.setCell ⟨g, 0, none⟩ (.int .i64 n2)).setCell ⟨g, 1, none⟩ (.slice a3 Y.length c3)).setCell ⟨g', 0, none⟩ (.int .i64 n2)).setCell ⟨g', 1, none⟩ (.slice a4 Y.length c4)) g g' n2 Y a3 c3 a4 c4 := by
  have hn' : ¬ g' = g := fun q => hn q.symm
  have z1 := hz.set0 (.int .i64 n2)
  have z2 := z1.set1 (.slice a3 Y.length c3)
  have y2 := (hz'.out hn' (g2 := g) (j := 0) (.int .i64 n2)).out hn' (g2 := g) (j := 1) (.slice a3 Y.length c3)
  have y3 := y2.set0 (.int .i64 n2)
  exact ⟨(z2.out hn _).out hn _, y3.set1 _, below_c (below_c (below_c (below_c bB hg) hg) hg') hg', li_set (li_set (li_set (li_set l3 hz 0 _) z1 1 _) y2 0 _) y3 1 _, li_set (li_set (li_set (li_set l4 hz 0 _) z1 1 _) y2 0 _) y3 1 _, hg, hg'⟩
end
theorem bqz1 {w2 w3 : World} {a b : Value} (bA : Below (w2.alloc (.cells #[a, b] 24)).drew.heap.size (w2.alloc (.cells #[a, b] 24)).drew w3) : Bq w3 w2.heap.size a b := by
  unfold Bq; rw [bA.block _ (by simp)]; exact heap_alloc_new w2 _
theorem bqz2a {w2 w3 : World} {a b c d : Value} (bA : Below ((w2.alloc (.cells #[a, b] 24)).alloc (.cells #[c, d] 24)).drew.heap.size ((w2.alloc (.cells #[a, b] 24)).alloc (.cells #[c, d] 24)).drew w3) : Bq w3 w2.heap.size a b := by
  have h := (Bq.new w2 a b).later ((Below.refl (w2.alloc (.cells #[a, b] 24)).heap.size _).alloc (Nat.le_refl _) (.cells #[c, d] 24))
  exact Bq.later (w := ((w2.alloc (.cells #[a, b] 24)).alloc (.cells #[c, d] 24)).drew) h bA
theorem bqz2b {w2 w3 : World} {a b c d : Value} (bA : Below ((w2.alloc (.cells #[a, b] 24)).alloc (.cells #[c, d] 24)).drew.heap.size ((w2.alloc (.cells #[a, b] 24)).alloc (.cells #[c, d] 24)).drew w3) : Bq w3 (w2.heap.size + 1) c d := by
  have h := Bq.new (w2.alloc (.cells #[a, b] 24)) c d
  rw [World.size_alloc] at h
  exact Bq.later (w := ((w2.alloc (.cells #[a, b] 24)).alloc (.cells #[c, d] 24)).drew) h bA
set_option maxRecDepth 100000 in
set_option maxHeartbeats 8000000 in
theorem bucketPlays_walk (next : Int) (L : List Vs) (a : Option Addr) (cap : Nat) (S : List Op1) (sa : Option Addr) (sc : Nat) (W : World) (hL : Li W L a L.length cap) (hP : ∀ u ∈ L, Pz u.l) (hS : OIn W sa S) (hSz : ∀ (k : Nat) (e : Op1), S[k]? = some e → Pz e.l) (hl : S.length ≤ 1759218604390) :
    Calls Tryz.prog 3 #[bv next a L.length cap, .slice sa S.length sc] W fun e W' => e = .returned (.bool true) ∧ Below W.heap.size W W' := by
  have b0 := (Below.refl W.heap.size W).alloc (Nat.le_refl _) (.cells #[.int .i64 next, .slice a L.length cap] 24)
  have z0 := Bq.new W (.int .i64 next) (.slice a L.length cap)
  have HL := Hid.mk hL
  have HS := Hid.mk hS
  have HSz := Hid.mk hSz
  have HP := Hid.mk hP
  have HB0 := Hid.mk b0
  have HZ := Hid.mk z0
  have hsW : (W.alloc (.cells #[.int .i64 next, .slice a L.length cap] 24)).heap.size = W.heap.size + 1 := by simp
  clear hL hS hSz hP b0 z0
  obtain ⟨t, hbt, hqt, hRt⟩ : ∃ t : Bool, (∀ w a c, Li w L a L.length c → Calls Tryz.prog 6 #[bv next a L.length c] w fun e w' => e = .returned (.bool t) ∧ Below w.heap.size w w') ∧ (∀ w a c, Li w L a L.length c → Calls Tryz.prog 8 #[bv next a L.length c] w fun e w' => e = .returned (.bool t) ∧ Below w.heap.size w w') ∧ (t = true → RtB next L) := by
    by_cases hr : RtB next L
    · refine ⟨true, fun w a c h => bRight_r hr w a c h, fun w a c h => right_r hr w a c h, fun _ => hr⟩
    · refine ⟨false, fun w a c h => (bRight_any L next w a _ c h).mono ?_, fun w a c h => (qRight_any L next w a _ c h HP.out).mono ?_, fun h => by cases h⟩
      · rintro e w' ⟨⟨t, rfl, ht⟩, b⟩
        refine ⟨?_, b⟩
        cases t with
        | false => rfl
        | true => exact absurd (ht.1 rfl) hr
      · rintro e w' ⟨⟨t, rfl, ht⟩, b⟩
        refine ⟨?_, b⟩
        cases t with
        | false => rfl
        | true => exact absurd (ht.1 rfl) hr
  have HRt := Hid.mk hRt
  have Hqt := Hid.mk hqt
  clear hRt
  have hcp : ∀ w, Below W.heap.size W w → Calls Tryz.prog 7 #[bv next a L.length cap] w fun e w' => ∃ xa xc, e = .returned (.agg #[.int .i64 next, .slice xa L.length xc]) ∧ Li w' L xa L.length xc ∧ Below w.heap.size w w' := fun w h => by
    have hLw := HL.out.later h
    refine (qCopy_any L next w a _ cap rfl hLw.s hLw.l hLw.z).mono ?_
    rintro e w' ⟨rv, rfl, kr, b⟩
    obtain ⟨xa, xc, rfl, li⟩ := kr.lis hLw.l hLw.z
    exact ⟨xa, xc, rfl, li, b⟩
  have Hcp := Hid.mk hcp
  have HS1 : Hid (∀ w', Below (W.heap.size + 1) (W.alloc (.cells #[.int .i64 next, .slice a L.length cap] 24)) w' → Below (W.heap.size + 1) (W.alloc (.cells #[.int .i64 next, .slice a L.length cap] 24)) w' ∧ w'.cell? ⟨W.heap.size, 0, none⟩ = some (.int .i64 next) ∧ w'.cell? ⟨W.heap.size, 1, none⟩ = some (.slice a L.length cap)) := ⟨fun w' h => by
    have z := HZ.out.low (by omega) h
    exact ⟨h, z.cells.1, z.cells.2.1⟩⟩
  have HW0 : Hid (∀ w', Below (W.heap.size + 1) (W.alloc (.cells #[.int .i64 next, .slice a L.length cap] 24)) w' → Below W.heap.size W w') := ⟨fun w' h => HB0.out.trans (h.mono (Nat.le_succ _))⟩
  go_enter Tryz.func3, Tryz.ntmps3
  go_wp2_with fail
  generalize W.alloc (.cells #[.int .i64 next, .slice a L.length cap] 24) = W1 at *
  go_region_held3 (fun w' => Below (W.heap.size + 1) W1 w' ∧ w'.cell? ⟨W.heap.size, 0, none⟩ = some (.int .i64 next) ∧ w'.cell? ⟨W.heap.size, 1, none⟩ = some (.slice a L.length cap)) ((refine HS1.out _ ?_; first
    | with_reducible exact (Below.refl _ _).drew
    | with_reducible exact bd_seq (And.left (by assumption)) e1 (by omega)
    | with_reducible exact bd_seq (And.left (by assumption)) e2 (by omega)
    | with_reducible exact bd_seq (And.left (by assumption)) e3 (by omega)
    | with_reducible exact bd_seq (And.left (by assumption)) e4 (by omega))) (first
    | (go_at_call 5; with_reducible refine Calls.mono (fixed_any _) ?_; rintro e w2 ⟨rfl, e1⟩)
    | (go_at_call 7; with_reducible refine Calls.mono (hcp _ (HW0.out _ (And.left (by assumption)))) ?_; rintro e w3 ⟨xa, xc, rfl, li3, e2⟩)
    | (go_at_call 6; with_reducible refine Calls.mono (hbt _ xa xc li3) ?_; rintro e w4 ⟨rfl, e3⟩)
    | (go_at_call 8; with_reducible refine Calls.mono (hqt _ a cap (HL.out.later (HW0.out _ (And.left (by assumption))))) ?_; rintro e w5 ⟨rfl, e4⟩))
  have hB5 : Below (W.heap.size + 1) W1 w5 := And.left (by assumption)
  clear e1 e2 e3 e4 li3 hcp hbt hqt
  go_wp2_with fail
  with_reducible refine Calls.mono (bNew_any _) ?_
  rintro e w6 ⟨rfl, b6⟩
  dsimp only
  go_wp2_with fail
  with_reducible refine Calls.mono (qNew_any _) ?_
  rintro e w7 ⟨rfl, b7⟩
  dsimp only
  have hB7 := bd_seq (bd_seq hB5 b6 (by omega)) b7 (by omega)
  have hs7 : W.heap.size + 1 ≤ w7.heap.size := by have := hB7.size; omega
  have al := fun (w : World) (o : Obj) => (Below.refl w.heap.size w).alloc (Nat.le_refl _) o
  have b8 := below_al (below_al (Below.refl w7.heap.size w7) (.cells #[.int .i64 1, .slice none 0 0] 24)) (.cells #[.int .i64 1, .slice none 0 0] 24)
  have hB8 := bd_seq hB7 b8 (by omega)
  have zc := (Bq.new w7 (.int .i64 1) (.slice none 0 0)).later (al _ (.cells #[.int .i64 1, .slice none 0 0] 24))
  have zr := Bq.new (w7.alloc (.cells #[.int .i64 1, .slice none 0 0] 24)) (.int .i64 1) (.slice none 0 0)
  rw [World.size_alloc] at zr
  have K8 : Hid (KP W ((w7.alloc (.cells #[.int .i64 1, .slice none 0 0] 24)).alloc (.cells #[.int .i64 1, .slice none 0 0] 24)) w7.heap.size (w7.heap.size + 1) 1 [] none 0 none 0) := ⟨⟨HW0.out _ hB8, by omega, by omega, by omega, zc, zr, li_nil _, li_nil _, rtb_new⟩⟩
  obtain ⟨_, p0, p1⟩ := HS1.out _ hB8
  clear al zc zr b6 b7 b8 hB5
  go_wp2_with fail
  have hs8 : ((w7.alloc (.cells #[.int .i64 1, .slice none 0 0] 24)).alloc (.cells #[.int .i64 1, .slice none 0 0] 24)).heap.size = w7.heap.size + 2 := by simp
  generalize (w7.alloc (.cells #[.int .i64 1, .slice none 0 0] 24)).alloc (.cells #[.int .i64 1, .slice none 0 0] 24) = w8 at *
  generalize w7.heap.size = gc at *
  with_reducible refine Calls.mono (Hqt.out _ a cap (HL.out.later (HW0.out _ hB8))) ?_
  rintro e w9 ⟨rfl, b9⟩
  dsimp only
  have K9 := Hid.mk (K8.out.later b9)
  have hB9 := bd_seq hB8 b9 (by omega)
  have hs9 : gc + 2 ≤ w9.heap.size := by have := b9.size; omega
  clear K8 b9 hB8 p0 p1 hB7
  obtain ⟨_, p0, p1⟩ := HS1.out _ hB9
  go_upto_if 24 with fail
  go_cut [7] from 7 (fun v wx => ∃ n1 X a1 c1 a2 c2, Hid (KP W wx gc (gc + 1) n1 X a1 c1 a2 c2))
  case first =>
    cases t with
    | false =>
      go_wp2_with fail
      go_meet
      case rel => exact ⟨_, _, _, _, _, _, K9⟩
    | true =>
      have hR := HRt.out rfl
      have hc9 := Hcp.out w9.drew ((HW0.out _ hB9).drew)
      have HS2 : Hid (∀ w', Below gc w9 w' → Below gc w9 w' ∧ w'.cell? ⟨W.heap.size, 0, none⟩ = some (.int .i64 next) ∧ w'.cell? ⟨W.heap.size, 1, none⟩ = some (.slice a L.length cap)) := ⟨fun w' h => by
        have h2 : Below (W.heap.size + 1) W1 w' := hB9.trans (h.mono hs7)
        exact ⟨h, (HS1.out _ h2).2⟩⟩
      go_wp2_with fail
      go_region_held3 (fun w' => Below gc w9 w' ∧ w'.cell? ⟨W.heap.size, 0, none⟩ = some (.int .i64 next) ∧ w'.cell? ⟨W.heap.size, 1, none⟩ = some (.slice a L.length cap)) ((refine HS2.out _ ?_; first
        | with_reducible exact (Below.refl _ _).drew
        | with_reducible exact pB
        | with_reducible exact pB.setCell (p := ⟨gc, 0, none⟩) (Nat.le_refl _) _
        | with_reducible exact (pB.setCell (p := ⟨gc, 0, none⟩) (Nat.le_refl _) _).setCell (p := ⟨gc, 1, none⟩) (Nat.le_refl _) _
        | with_reducible exact ((pB.setCell (p := ⟨gc, 0, none⟩) (Nat.le_refl _) _).setCell (p := ⟨gc, 1, none⟩) (Nat.le_refl _) _).setCell (p := ⟨gc + 1, 0, none⟩) (Nat.le_succ _) _
        | with_reducible exact (((pB.setCell (p := ⟨gc, 0, none⟩) (Nat.le_refl _) _).setCell (p := ⟨gc, 1, none⟩) (Nat.le_refl _) _).setCell (p := ⟨gc + 1, 0, none⟩) (Nat.le_succ _) _).setCell (p := ⟨gc + 1, 1, none⟩) (Nat.le_succ _) _)) (
        (go_at_call 7; with_reducible refine Calls.mono hc9 ?_; rintro e w10 ⟨xa, xc, rfl, li, e1⟩; have b10 := below_seq (Below.refl w9.heap.size w9).drew e1; have K10 := K9.out.later b10; have pB : Below gc w9 w10 := b10.mono (by omega); have v0 := K10.zc.cells.1; have v1 := K10.zc.cells.2.1; have v2 := K10.zc.cells.2.2 0; have v3 := K10.zc.cells.2.2 1; have v4 := K10.zr.cells.1; have v5 := K10.zr.cells.2.1; have v6 := K10.zr.cells.2.2 0; have v7 := K10.zr.cells.2.2 1))
      have K11 : Hid (KP W ((((w10.setCell ⟨gc, 0, none⟩ (.int .i64 next)).setCell ⟨gc, 1, none⟩ (.slice xa L.length xc)).setCell ⟨gc + 1, 0, none⟩ (.int .i64 next)).setCell ⟨gc + 1, 1, none⟩ (.slice a L.length cap)) gc (gc + 1) next L xa xc a cap) := ⟨K10.set hR li (HL.out.later K10.b)⟩
      clear K9 hc9 HS2 e1 b10 K10 pB v0 v1 v2 v3 v4 v5 v6 v7 li
      go_wp2_with fail
      go_meet
      case rel => exact ⟨_, _, _, _, _, _, K11⟩
  case rest =>
    obtain ⟨n0, X0, a10, c10, a20, c20, K0⟩ := hcut
    clear K9 hB9 p0 p1 HRt Hqt Hcp HS1 HL HP HB0 HZ hsW hs7 hs8 hs9
    go_wp2_with fail
    go_loopw [7] (fun i wr => ∃ (m : Nat), m ≤ S.length ∧ i = .int .i64 (m : Int) ∧ Hid (∃ n1 X a1 c1 a2 c2, KP W wr gc (gc + 1) n1 X a1 c1 a2 c2)) (fun i _ => S.length - (intOf i).toNat)
    case atStart => exact ⟨0, Nat.zero_le _, rfl, ⟨_, _, _, _, _, _, K0.out⟩⟩
    case round =>
      clear K0
      obtain ⟨m, hm, rfl, HK⟩ := hrel
      obtain ⟨n1, X, a1, c1, a2, c2, K⟩ := HK.out
      have HK1 := Hid.mk K
      clear HK K
      obtain ⟨p0, p1, _⟩ := HK1.out.zc.cells
      obtain ⟨r0, r1, _⟩ := HK1.out.zr.cells
      by_cases hlt : m < S.length
      · have d1 : decide ((m : Int) < (S.length : Int)) = true := decide_eq_true (Int.ofNat_lt.2 hlt)
        have k2 : (m : Int) < (S.length : Int) := Int.ofNat_lt.2 hlt
        have hw1 : wrap64 ((m : Int) + 1) = ((m + 1 : Nat) : Int) := by unfold wrap64; omega
        obtain ⟨o, ho⟩ : ∃ o, S[m]? = some o := ⟨S[m], List.getElem?_eq_getElem hlt⟩
        have hoz := HSz.out m o ho
        obtain ⟨b, off, ma, mc, rfl, hbl, q0, q1, q2, q3, q4, q5, hsl, hol⟩ := (HS.out.later HK1.out.b).get m o ho
        have hdn : ∀ w', Below wr.heap.size wr w' → Calls Tryz.prog 11 #[bv n1 a1 X.length c1, bv n1 a2 X.length c2, .agg #[.int .i64 o.kind, str o.key, str o.data, .slice ma o.l.length mc, .int .i64 o.seq, .int .i64 o.most]] w' fun e w'' => ∃ n2 Y a3 c3 a4 c4, e = .returned (.tuple #[bv n2 a3 Y.length c3, bv n2 a4 Y.length c4, .bool true]) ∧ RtB n2 Y ∧ Li w'' Y a3 Y.length c3 ∧ Li w'' Y a4 Y.length c4 ∧ Below w'.heap.size w' w'' := fun w' h => done_any n1 X HK1.out.r o ma mc w' a1 c1 a2 c2 (HK1.out.lc.later h) (HK1.out.lr.later h) (hsl.later h) hol hoz
        have HS2 : Hid (∀ w', Below wr.heap.size wr w' → Below wr.heap.size wr w' ∧ w'.cell? ⟨gc, 0, none⟩ = some (.int .i64 n1) ∧ w'.cell? ⟨gc, 1, none⟩ = some (.slice a1 X.length c1) ∧ w'.cell? ⟨gc + 1, 0, none⟩ = some (.int .i64 n1) ∧ w'.cell? ⟨gc + 1, 1, none⟩ = some (.slice a2 X.length c2) ∧ w'.cell? ⟨b, off + m * 6, none⟩ = some (.int .i64 o.kind) ∧ w'.cell? ⟨b, off + m * 6 + 1, none⟩ = some (str o.key) ∧ w'.cell? ⟨b, off + m * 6 + 2, none⟩ = some (str o.data) ∧ w'.cell? ⟨b, off + m * 6 + 3, none⟩ = some (.slice ma o.l.length mc) ∧ w'.cell? ⟨b, off + m * 6 + 4, none⟩ = some (.int .i64 o.seq) ∧ w'.cell? ⟨b, off + m * 6 + 5, none⟩ = some (.int .i64 o.most)) := ⟨fun w' h => by
          obtain ⟨t0, t1, _⟩ := (HK1.out.zc.later h).cells
          obtain ⟨y0, y1, _⟩ := (HK1.out.zr.later h).cells
          exact ⟨h, t0, t1, y0, y1, (h.cell (p := ⟨b, _, none⟩) hbl).trans q0, (h.cell (p := ⟨b, _, none⟩) hbl).trans q1, (h.cell (p := ⟨b, _, none⟩) hbl).trans q2, (h.cell (p := ⟨b, _, none⟩) hbl).trans q3, (h.cell (p := ⟨b, _, none⟩) hbl).trans q4, (h.cell (p := ⟨b, _, none⟩) hbl).trans q5⟩⟩
        clear ho hoz hsl hol hl
        go_wp2_with fail
        go_region_held3 (fun w' => Below wr.heap.size wr w' ∧ w'.cell? ⟨gc, 0, none⟩ = some (.int .i64 n1) ∧ w'.cell? ⟨gc, 1, none⟩ = some (.slice a1 X.length c1) ∧ w'.cell? ⟨gc + 1, 0, none⟩ = some (.int .i64 n1) ∧ w'.cell? ⟨gc + 1, 1, none⟩ = some (.slice a2 X.length c2) ∧ w'.cell? ⟨b, off + m * 6, none⟩ = some (.int .i64 o.kind) ∧ w'.cell? ⟨b, off + m * 6 + 1, none⟩ = some (str o.key) ∧ w'.cell? ⟨b, off + m * 6 + 2, none⟩ = some (str o.data) ∧ w'.cell? ⟨b, off + m * 6 + 3, none⟩ = some (.slice ma o.l.length mc) ∧ w'.cell? ⟨b, off + m * 6 + 4, none⟩ = some (.int .i64 o.seq) ∧ w'.cell? ⟨b, off + m * 6 + 5, none⟩ = some (.int .i64 o.most)) ((refine HS2.out _ ?_; first
          | with_reducible exact (Below.refl _ _).drew
          | with_reducible exact bB
          | with_reducible exact below_al bB _
          | with_reducible exact below_al (below_al bB _) _
          | with_reducible exact (below_al (Below.refl _ _) _).drew
          | with_reducible exact (below_al (below_al (Below.refl _ _) _) _).drew
          | with_reducible exact below_c (below_c bB (Nat.le_refl _)) (Nat.le_refl _)
          | with_reducible exact below_al (below_c (below_c bB (Nat.le_refl _)) (Nat.le_refl _)) _
          | with_reducible exact below_c (below_c bB (Nat.le_succ _)) (Nat.le_succ _)
          | with_reducible exact below_c (below_c (below_c (below_c bB (Nat.le_refl _)) (Nat.le_refl _)) (Nat.le_succ _)) (Nat.le_succ _)
          | with_reducible exact below_c (below_c (below_c (below_c bB (Nat.le_succ _)) (Nat.le_succ _)) (Nat.le_refl _)) (Nat.le_refl _))) (
          (go_at_call 11; with_reducible refine Calls.mono (hdn _ (And.left (by assumption))) ?_; rintro e w5 ⟨n2, Y, a3, c3, a4, c4, rfl, hYR, l3, l4, e1⟩; first
            | (with_reducible have bB := below_seq (Below.refl wr.heap.size wr).drew e1; have tag0 := True.intro; clear e1)
            | (with_reducible have bB := below_seq ((Below.refl wr.heap.size wr).alloc (Nat.le_refl _) _).drew e1; with_reducible have hzx := bqz1 e1; have x0 := hzx.cells.1; have x1 := hzx.cells.2.1; have x2 := hzx.cells.2.2 0; have x3 := hzx.cells.2.2 1; have hlx := hzx.lt; have hlx2 := Nat.ne_of_lt hzx.lt; have HZX := Hid.mk hzx; clear hzx e1)
            | (with_reducible have bB := below_seq (below_al ((Below.refl wr.heap.size wr).alloc (Nat.le_refl _) _) _).drew e1; with_reducible have hzx := bqz2a e1; with_reducible have hzy := bqz2b e1; have x0 := hzx.cells.1; have x1 := hzx.cells.2.1; have x2 := hzx.cells.2.2 0; have x3 := hzx.cells.2.2 1; have y0 := hzy.cells.1; have y1 := hzy.cells.2.1; have y2 := hzy.cells.2.2 0; have y3 := hzy.cells.2.2 1; have hlx := hzx.lt; have hlx2 := Nat.ne_of_lt hzx.lt; have hly := hzy.lt; have hly2 := Nat.ne_of_lt hzy.lt; have HZX := Hid.mk hzx; have HZY := Hid.mk hzy; clear hzx hzy e1)))
        · have E : Hid (EnP wr ((w5.alloc (.cells #[.int .i64 n2, .slice a3 Y.length c3] 24)).alloc (.cells #[.int .i64 n2, .slice a4 Y.length c4] 24)) (w5.heap.size) (w5.heap.size + 1) n2 Y a3 c3 a4 c4) := ⟨en1 bB l3 l4⟩
          clear hdn HS2 p0 p1 r0 r1 q0 q1 q2 q3 q4 q5
          generalize hwz : (w5.alloc (.cells #[.int .i64 n2, .slice a3 Y.length c3] 24)).alloc (.cells #[.int .i64 n2, .slice a4 Y.length c4] 24) = wz at *
          clear hwz
          obtain ⟨gx, hgx⟩ : ∃ g, g = w5.heap.size := ⟨_, rfl⟩
          obtain ⟨gy, hgy⟩ : ∃ g, g = w5.heap.size + 1 := ⟨_, rfl⟩
          rw [← hgy] at E ⊢
          rw [← hgx] at E ⊢
          clear hgx hgy
          have K5 := HK1.out.later E.out.b
          have K6 : Hid (KP W ((((wz.setCell ⟨gc, 0, none⟩ (.int .i64 n2)).setCell ⟨gc, 1, none⟩ (.slice a3 Y.length c3)).setCell ⟨gc + 1, 0, none⟩ (.int .i64 n2)).setCell ⟨gc + 1, 1, none⟩ (.slice a4 Y.length c4)) gc (gc + 1) n2 Y a3 c3 a4 c4) := ⟨K5.set hYR E.out.l3 E.out.l4⟩
          obtain ⟨v0, v1, vf⟩ := K5.zc.cells
          have v2 := vf 0
          have v3 := vf 1
          obtain ⟨v4, v5, wf⟩ := K5.zr.cells
          have v6 := wf 0
          have v7 := wf 1
          obtain ⟨x0, x1, _⟩ := E.out.zx.cells
          obtain ⟨y0, y1, _⟩ := E.out.zy.cells
          have h1 := HK1.out.zc.lt
          have h2 := HK1.out.zr.lt
          have h3 := E.out.hx
          have h4 := E.out.hy
          have n1a : ¬ gx = gc := by omega
          have n1b : ¬ gy = gc := by omega
          have n1c : ¬ gx = gc + 1 := by omega
          have n1d : ¬ gy = gc + 1 := by omega
          have n2a : ¬ gc = gx := by omega
          have n2b : ¬ gc = gy := by omega
          have n2c : ¬ gc + 1 = gx := by omega
          have n2d : ¬ gc + 1 = gy := by omega
          clear vf wf K5 E HK1 bB l3 l4 hYR h1 h2 h3 h4
          generalize hYl : Y.length = YL at *
          clear hYl
          go_wp2_with fail
          refine ⟨?_, by first | (rw [hw1]; exact Nat.sub_lt_sub_left hlt (Nat.lt_succ_self m)) | (simp [intOf]; omega)⟩
          first
            | exact ⟨m + 1, hlt, by first | (rw [hw1]; done) | go_num, ⟨_, _, _, _, _, _, K6.out⟩⟩
            | ((repeat apply Exists.intro); exact ⟨⟨m + 1, hlt, by first | (rw [hw1]; done) | go_num, ⟨_, _, _, _, _, _, K6.out⟩⟩, rfl⟩)
        · have E : Hid (EnP wr ((w5.alloc (.cells #[.int .i64 n2, .slice a4 Y.length c4] 24)).alloc (.cells #[.int .i64 n2, .slice a3 Y.length c3] 24)) (w5.heap.size + 1) (w5.heap.size) n2 Y a3 c3 a4 c4) := ⟨(en1 bB l4 l3).swap⟩
          clear hdn HS2 p0 p1 r0 r1 q0 q1 q2 q3 q4 q5
          generalize hwz : (w5.alloc (.cells #[.int .i64 n2, .slice a4 Y.length c4] 24)).alloc (.cells #[.int .i64 n2, .slice a3 Y.length c3] 24) = wz at *
          clear hwz
          obtain ⟨gx, hgx⟩ : ∃ g, g = w5.heap.size + 1 := ⟨_, rfl⟩
          obtain ⟨gy, hgy⟩ : ∃ g, g = w5.heap.size := ⟨_, rfl⟩
          rw [← hgx] at E ⊢
          rw [← hgy] at E ⊢
          clear hgx hgy
          have K5 := HK1.out.later E.out.b
          have K6 : Hid (KP W ((((wz.setCell ⟨gc, 0, none⟩ (.int .i64 n2)).setCell ⟨gc, 1, none⟩ (.slice a3 Y.length c3)).setCell ⟨gc + 1, 0, none⟩ (.int .i64 n2)).setCell ⟨gc + 1, 1, none⟩ (.slice a4 Y.length c4)) gc (gc + 1) n2 Y a3 c3 a4 c4) := ⟨K5.set hYR E.out.l3 E.out.l4⟩
          obtain ⟨v0, v1, vf⟩ := K5.zc.cells
          have v2 := vf 0
          have v3 := vf 1
          obtain ⟨v4, v5, wf⟩ := K5.zr.cells
          have v6 := wf 0
          have v7 := wf 1
          obtain ⟨x0, x1, _⟩ := E.out.zx.cells
          obtain ⟨y0, y1, _⟩ := E.out.zy.cells
          have h1 := HK1.out.zc.lt
          have h2 := HK1.out.zr.lt
          have h3 := E.out.hx
          have h4 := E.out.hy
          have n1a : ¬ gx = gc := by omega
          have n1b : ¬ gy = gc := by omega
          have n1c : ¬ gx = gc + 1 := by omega
          have n1d : ¬ gy = gc + 1 := by omega
          have n2a : ¬ gc = gx := by omega
          have n2b : ¬ gc = gy := by omega
          have n2c : ¬ gc + 1 = gx := by omega
          have n2d : ¬ gc + 1 = gy := by omega
          clear vf wf K5 E HK1 bB l3 l4 hYR h1 h2 h3 h4
          generalize hYl : Y.length = YL at *
          clear hYl
          go_wp2_with fail
          refine ⟨?_, by first | (rw [hw1]; exact Nat.sub_lt_sub_left hlt (Nat.lt_succ_self m)) | (simp [intOf]; omega)⟩
          first
            | exact ⟨m + 1, hlt, by first | (rw [hw1]; done) | go_num, ⟨_, _, _, _, _, _, K6.out⟩⟩
            | ((repeat apply Exists.intro); exact ⟨⟨m + 1, hlt, by first | (rw [hw1]; done) | go_num, ⟨_, _, _, _, _, _, K6.out⟩⟩, rfl⟩)
        · have E : Hid (EnP wr (((w5.setCell ⟨wr.heap.size, 0, none⟩ (.int .i64 n2)).setCell ⟨wr.heap.size, 1, none⟩ (.slice a3 Y.length c3)).alloc (.cells #[.int .i64 n2, .slice a4 Y.length c4] 24)) (wr.heap.size) (w5.heap.size) n2 Y a3 c3 a4 c4) := ⟨en3 bB (Nat.le_refl _) HZX.out l3 l4⟩
          clear hdn HS2 p0 p1 r0 r1 q0 q1 q2 q3 q4 q5 x0 x1 x2 x3
          generalize hwz : ((w5.setCell ⟨wr.heap.size, 0, none⟩ (.int .i64 n2)).setCell ⟨wr.heap.size, 1, none⟩ (.slice a3 Y.length c3)).alloc (.cells #[.int .i64 n2, .slice a4 Y.length c4] 24) = wz at *
          clear hwz
          obtain ⟨gx, hgx⟩ : ∃ g, g = wr.heap.size := ⟨_, rfl⟩
          obtain ⟨gy, hgy⟩ : ∃ g, g = w5.heap.size := ⟨_, rfl⟩
          rw [← hgy] at E ⊢
          rw [← hgx] at E ⊢
          clear hgx hgy
          have K5 := HK1.out.later E.out.b
          have K6 : Hid (KP W ((((wz.setCell ⟨gc, 0, none⟩ (.int .i64 n2)).setCell ⟨gc, 1, none⟩ (.slice a3 Y.length c3)).setCell ⟨gc + 1, 0, none⟩ (.int .i64 n2)).setCell ⟨gc + 1, 1, none⟩ (.slice a4 Y.length c4)) gc (gc + 1) n2 Y a3 c3 a4 c4) := ⟨K5.set hYR E.out.l3 E.out.l4⟩
          obtain ⟨v0, v1, vf⟩ := K5.zc.cells
          have v2 := vf 0
          have v3 := vf 1
          obtain ⟨v4, v5, wf⟩ := K5.zr.cells
          have v6 := wf 0
          have v7 := wf 1
          obtain ⟨x0, x1, _⟩ := E.out.zx.cells
          obtain ⟨y0, y1, _⟩ := E.out.zy.cells
          have h1 := HK1.out.zc.lt
          have h2 := HK1.out.zr.lt
          have h3 := E.out.hx
          have h4 := E.out.hy
          have n1a : ¬ gx = gc := by omega
          have n1b : ¬ gy = gc := by omega
          have n1c : ¬ gx = gc + 1 := by omega
          have n1d : ¬ gy = gc + 1 := by omega
          have n2a : ¬ gc = gx := by omega
          have n2b : ¬ gc = gy := by omega
          have n2c : ¬ gc + 1 = gx := by omega
          have n2d : ¬ gc + 1 = gy := by omega
          clear vf wf K5 E HK1 bB l3 l4 hYR h1 h2 h3 h4
          generalize hYl : Y.length = YL at *
          clear hYl
          go_wp2_with fail
          refine ⟨?_, by first | (rw [hw1]; exact Nat.sub_lt_sub_left hlt (Nat.lt_succ_self m)) | (simp [intOf]; omega)⟩
          first
            | exact ⟨m + 1, hlt, by first | (rw [hw1]; done) | go_num, ⟨_, _, _, _, _, _, K6.out⟩⟩
            | ((repeat apply Exists.intro); exact ⟨⟨m + 1, hlt, by first | (rw [hw1]; done) | go_num, ⟨_, _, _, _, _, _, K6.out⟩⟩, rfl⟩)
        · have E : Hid (EnP wr ((((w5.setCell ⟨wr.heap.size, 0, none⟩ (.int .i64 n2)).setCell ⟨wr.heap.size, 1, none⟩ (.slice a3 Y.length c3)).setCell ⟨wr.heap.size + 1, 0, none⟩ (.int .i64 n2)).setCell ⟨wr.heap.size + 1, 1, none⟩ (.slice a4 Y.length c4)) (wr.heap.size) (wr.heap.size + 1) n2 Y a3 c3 a4 c4) := ⟨en4 bB (Nat.le_refl _) (Nat.le_succ _) (by omega) HZX.out HZY.out l3 l4⟩
          clear hdn HS2 p0 p1 r0 r1 q0 q1 q2 q3 q4 q5 x0 x1 x2 x3
          clear y0 y1 y2 y3
          generalize hwz : (((w5.setCell ⟨wr.heap.size, 0, none⟩ (.int .i64 n2)).setCell ⟨wr.heap.size, 1, none⟩ (.slice a3 Y.length c3)).setCell ⟨wr.heap.size + 1, 0, none⟩ (.int .i64 n2)).setCell ⟨wr.heap.size + 1, 1, none⟩ (.slice a4 Y.length c4) = wz at *
          clear hwz
          obtain ⟨gx, hgx⟩ : ∃ g, g = wr.heap.size := ⟨_, rfl⟩
          obtain ⟨gy, hgy⟩ : ∃ g, g = wr.heap.size + 1 := ⟨_, rfl⟩
          rw [← hgy] at E ⊢
          rw [← hgx] at E ⊢
          clear hgx hgy
          have K5 := HK1.out.later E.out.b
          have K6 : Hid (KP W ((((wz.setCell ⟨gc, 0, none⟩ (.int .i64 n2)).setCell ⟨gc, 1, none⟩ (.slice a3 Y.length c3)).setCell ⟨gc + 1, 0, none⟩ (.int .i64 n2)).setCell ⟨gc + 1, 1, none⟩ (.slice a4 Y.length c4)) gc (gc + 1) n2 Y a3 c3 a4 c4) := ⟨K5.set hYR E.out.l3 E.out.l4⟩
          obtain ⟨v0, v1, vf⟩ := K5.zc.cells
          have v2 := vf 0
          have v3 := vf 1
          obtain ⟨v4, v5, wf⟩ := K5.zr.cells
          have v6 := wf 0
          have v7 := wf 1
          obtain ⟨x0, x1, _⟩ := E.out.zx.cells
          obtain ⟨y0, y1, _⟩ := E.out.zy.cells
          have h1 := HK1.out.zc.lt
          have h2 := HK1.out.zr.lt
          have h3 := E.out.hx
          have h4 := E.out.hy
          have n1a : ¬ gx = gc := by omega
          have n1b : ¬ gy = gc := by omega
          have n1c : ¬ gx = gc + 1 := by omega
          have n1d : ¬ gy = gc + 1 := by omega
          have n2a : ¬ gc = gx := by omega
          have n2b : ¬ gc = gy := by omega
          have n2c : ¬ gc + 1 = gx := by omega
          have n2d : ¬ gc + 1 = gy := by omega
          clear vf wf K5 E HK1 bB l3 l4 hYR h1 h2 h3 h4
          generalize hYl : Y.length = YL at *
          clear hYl
          go_wp2_with fail
          refine ⟨?_, by first | (rw [hw1]; exact Nat.sub_lt_sub_left hlt (Nat.lt_succ_self m)) | (simp [intOf]; omega)⟩
          first
            | exact ⟨m + 1, hlt, by first | (rw [hw1]; done) | go_num, ⟨_, _, _, _, _, _, K6.out⟩⟩
            | ((repeat apply Exists.intro); exact ⟨⟨m + 1, hlt, by first | (rw [hw1]; done) | go_num, ⟨_, _, _, _, _, _, K6.out⟩⟩, rfl⟩)
        · have E : Hid (EnP wr (((w5.setCell ⟨wr.heap.size, 0, none⟩ (.int .i64 n2)).setCell ⟨wr.heap.size, 1, none⟩ (.slice a4 Y.length c4)).alloc (.cells #[.int .i64 n2, .slice a3 Y.length c3] 24)) (w5.heap.size) (wr.heap.size) n2 Y a3 c3 a4 c4) := ⟨(en3 bB (Nat.le_refl _) HZX.out l4 l3).swap⟩
          clear hdn HS2 p0 p1 r0 r1 q0 q1 q2 q3 q4 q5 x0 x1 x2 x3
          generalize hwz : ((w5.setCell ⟨wr.heap.size, 0, none⟩ (.int .i64 n2)).setCell ⟨wr.heap.size, 1, none⟩ (.slice a4 Y.length c4)).alloc (.cells #[.int .i64 n2, .slice a3 Y.length c3] 24) = wz at *
          clear hwz
          obtain ⟨gx, hgx⟩ : ∃ g, g = w5.heap.size := ⟨_, rfl⟩
          obtain ⟨gy, hgy⟩ : ∃ g, g = wr.heap.size := ⟨_, rfl⟩
          rw [← hgy] at E ⊢
          rw [← hgx] at E ⊢
          clear hgx hgy
          have K5 := HK1.out.later E.out.b
          have K6 : Hid (KP W ((((wz.setCell ⟨gc, 0, none⟩ (.int .i64 n2)).setCell ⟨gc, 1, none⟩ (.slice a3 Y.length c3)).setCell ⟨gc + 1, 0, none⟩ (.int .i64 n2)).setCell ⟨gc + 1, 1, none⟩ (.slice a4 Y.length c4)) gc (gc + 1) n2 Y a3 c3 a4 c4) := ⟨K5.set hYR E.out.l3 E.out.l4⟩
          obtain ⟨v0, v1, vf⟩ := K5.zc.cells
          have v2 := vf 0
          have v3 := vf 1
          obtain ⟨v4, v5, wf⟩ := K5.zr.cells
          have v6 := wf 0
          have v7 := wf 1
          obtain ⟨x0, x1, _⟩ := E.out.zx.cells
          obtain ⟨y0, y1, _⟩ := E.out.zy.cells
          have h1 := HK1.out.zc.lt
          have h2 := HK1.out.zr.lt
          have h3 := E.out.hx
          have h4 := E.out.hy
          have n1a : ¬ gx = gc := by omega
          have n1b : ¬ gy = gc := by omega
          have n1c : ¬ gx = gc + 1 := by omega
          have n1d : ¬ gy = gc + 1 := by omega
          have n2a : ¬ gc = gx := by omega
          have n2b : ¬ gc = gy := by omega
          have n2c : ¬ gc + 1 = gx := by omega
          have n2d : ¬ gc + 1 = gy := by omega
          clear vf wf K5 E HK1 bB l3 l4 hYR h1 h2 h3 h4
          generalize hYl : Y.length = YL at *
          clear hYl
          go_wp2_with fail
          refine ⟨?_, by first | (rw [hw1]; exact Nat.sub_lt_sub_left hlt (Nat.lt_succ_self m)) | (simp [intOf]; omega)⟩
          first
            | exact ⟨m + 1, hlt, by first | (rw [hw1]; done) | go_num, ⟨_, _, _, _, _, _, K6.out⟩⟩
            | ((repeat apply Exists.intro); exact ⟨⟨m + 1, hlt, by first | (rw [hw1]; done) | go_num, ⟨_, _, _, _, _, _, K6.out⟩⟩, rfl⟩)
        · have E : Hid (EnP wr ((((w5.setCell ⟨wr.heap.size + 1, 0, none⟩ (.int .i64 n2)).setCell ⟨wr.heap.size + 1, 1, none⟩ (.slice a3 Y.length c3)).setCell ⟨wr.heap.size, 0, none⟩ (.int .i64 n2)).setCell ⟨wr.heap.size, 1, none⟩ (.slice a4 Y.length c4)) (wr.heap.size + 1) (wr.heap.size) n2 Y a3 c3 a4 c4) := ⟨en4 bB (Nat.le_succ _) (Nat.le_refl _) (by omega) HZY.out HZX.out l3 l4⟩
          clear hdn HS2 p0 p1 r0 r1 q0 q1 q2 q3 q4 q5 x0 x1 x2 x3
          clear y0 y1 y2 y3
          generalize hwz : (((w5.setCell ⟨wr.heap.size + 1, 0, none⟩ (.int .i64 n2)).setCell ⟨wr.heap.size + 1, 1, none⟩ (.slice a3 Y.length c3)).setCell ⟨wr.heap.size, 0, none⟩ (.int .i64 n2)).setCell ⟨wr.heap.size, 1, none⟩ (.slice a4 Y.length c4) = wz at *
          clear hwz
          obtain ⟨gx, hgx⟩ : ∃ g, g = wr.heap.size + 1 := ⟨_, rfl⟩
          obtain ⟨gy, hgy⟩ : ∃ g, g = wr.heap.size := ⟨_, rfl⟩
          rw [← hgx] at E ⊢
          rw [← hgy] at E ⊢
          clear hgx hgy
          have K5 := HK1.out.later E.out.b
          have K6 : Hid (KP W ((((wz.setCell ⟨gc, 0, none⟩ (.int .i64 n2)).setCell ⟨gc, 1, none⟩ (.slice a3 Y.length c3)).setCell ⟨gc + 1, 0, none⟩ (.int .i64 n2)).setCell ⟨gc + 1, 1, none⟩ (.slice a4 Y.length c4)) gc (gc + 1) n2 Y a3 c3 a4 c4) := ⟨K5.set hYR E.out.l3 E.out.l4⟩
          obtain ⟨v0, v1, vf⟩ := K5.zc.cells
          have v2 := vf 0
          have v3 := vf 1
          obtain ⟨v4, v5, wf⟩ := K5.zr.cells
          have v6 := wf 0
          have v7 := wf 1
          obtain ⟨x0, x1, _⟩ := E.out.zx.cells
          obtain ⟨y0, y1, _⟩ := E.out.zy.cells
          have h1 := HK1.out.zc.lt
          have h2 := HK1.out.zr.lt
          have h3 := E.out.hx
          have h4 := E.out.hy
          have n1a : ¬ gx = gc := by omega
          have n1b : ¬ gy = gc := by omega
          have n1c : ¬ gx = gc + 1 := by omega
          have n1d : ¬ gy = gc + 1 := by omega
          have n2a : ¬ gc = gx := by omega
          have n2b : ¬ gc = gy := by omega
          have n2c : ¬ gc + 1 = gx := by omega
          have n2d : ¬ gc + 1 = gy := by omega
          clear vf wf K5 E HK1 bB l3 l4 hYR h1 h2 h3 h4
          generalize hYl : Y.length = YL at *
          clear hYl
          go_wp2_with fail
          refine ⟨?_, by first | (rw [hw1]; exact Nat.sub_lt_sub_left hlt (Nat.lt_succ_self m)) | (simp [intOf]; omega)⟩
          first
            | exact ⟨m + 1, hlt, by first | (rw [hw1]; done) | go_num, ⟨_, _, _, _, _, _, K6.out⟩⟩
            | ((repeat apply Exists.intro); exact ⟨⟨m + 1, hlt, by first | (rw [hw1]; done) | go_num, ⟨_, _, _, _, _, _, K6.out⟩⟩, rfl⟩)
      · obtain rfl : m = S.length := by omega
        have d1 : decide ((S.length : Int) < (S.length : Int)) = false := decide_eq_false (by omega)
        have hsm := qSame_eq n1 X wr a1 c1 a2 c2 HK1.out.lc HK1.out.lr (by have := HK1.out.r.len; omega)
        have HBw := Hid.mk HK1.out.b
        clear HK1 HS HSz HW0
        go_wp2_with fail
        with_reducible refine Calls.mono hsm ?_
        rintro e w5 ⟨rfl, e1⟩
        dsimp only
        clear hsm p0 p1 r0 r1
        go_wp2_with fail
        go_ret
        exact ⟨rfl, HBw.out.trans (e1.mono HBw.out.size)⟩
end Go.Proofs.YtgcdnanfnbdjjaaGreat
