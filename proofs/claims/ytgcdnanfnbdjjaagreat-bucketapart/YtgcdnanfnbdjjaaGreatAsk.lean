/- asked. -/
import Derived.Test.YtgcdnanfnbdjjaaGreatGu
namespace Go.Proofs.YtgcdnanfnbdjjaaGreat
set_option linter.unusedVariables false
set_option linter.unusedSimpArgs false
open Go.RowKit
attribute [local go_sem ↓] Go.wp_at_zero Go.wp_at_succ
set_option maxRecDepth 100000 in
set_option maxHeartbeats 8000000 in
theorem asked_any (next : Int) (L : List Vs) (hR : RtB next L) (o : Op1) (hz : o.l.length ≤ 4398046510976) (hpz : Pz o.l) (B W : List Bt) (X Y : List Xt) (M N : List Mt') (hlen : B.length ≤ 100 ∧ W.length ≤ 100 ∧ X.length ≤ 100 ∧ Y.length ≤ 100 ∧ M.length ≤ 100 ∧ N.length ≤ 100)
    (w0 w : World) (ma : Option Addr) (mc : Nat) (a : Option Addr) (c : Nat) (m2 : Option Addr) (mc2 : Nat) (a0 : Option Addr) (c0 : Nat) (a1 : Option Addr) (c1 : Nat) (a2 : Option Addr) (c2 : Nat) (a3 : Option Addr) (c3 : Nat) (a4 : Option Addr) (c4 : Nat) (a5 : Option Addr) (c5 : Nat) (hL : Li w0 L a L.length c) (hS : Sl w0 ma mc o.l) (hS2 : Sl w0 m2 mc2 o.l)
    (E : EnvF w0 w (TF (bookL [] (.slice a0 B.length c0) (.slice a1 W.length c1) (.slice a2 X.length c2) (.slice a3 Y.length c3) (.slice a4 M.length c4) (.slice a5 N.length c5) B W X Y M N))) :
    Calls Tryz.prog 14 #[.agg #[.slice a0 B.length c0, .slice a1 W.length c1, .slice a2 X.length c2, .slice a3 Y.length c3, .slice a4 M.length c4, .slice a5 N.length c5], bv next a L.length c, .agg #[.int .i64 o.kind, str o.key, str o.data, .slice ma o.l.length mc, .int .i64 o.seq, .int .i64 o.most], .slice m2 o.l.length mc2] w fun e w' => ∃ x0 x1 x2 x3 x4 x5 B' W' X' Y' M' N', e = .returned (.agg #[x0, x1, x2, x3, x4, x5]) ∧ EnvF w0 w' (TF (bookL [] x0 x1 x2 x3 x4 x5 (B ++ B') (W ++ W') (X ++ X') (Y ++ Y') (M ++ M') (N ++ N'))) ∧
      B'.map bval = W'.map bval ∧ B'.length = 3 ∧ (∀ t ∈ B', GB t) ∧ (∀ t ∈ W', GB t) ∧ X'.map (·.2) = Y'.map (·.2) ∧ X'.length = 2 ∧ (∀ t ∈ X', t.2.length ≤ 1000000) ∧ M'.map (·.1) = N'.map (·.1) ∧ M'.length = 2 ∧ (∀ t ∈ M', t.1.l.length ≤ 1000000) := by
  have e1 := E.tAlloc 0 (by decide : 0 < 8) #[.slice a0 B.length c0, .slice a1 W.length c1, .slice a2 X.length c2, .slice a3 Y.length c3, .slice a4 M.length c4, .slice a5 N.length c5] 45
  have e2 := e1.tAlloc 0 (by decide : 0 < 8) #[.int .i64 next, .slice a L.length c] 24
  have e3 := e2.tAlloc 0 (by decide : 0 < 8) #[.int .i64 o.kind, str o.key, str o.data, .slice ma o.l.length mc, .int .i64 o.seq, .int .i64 o.most] 34
  have e4 := e3.tAlloc 0 (by decide : 0 < 8) #[.slice none 0 0, .slice none 0 0, .slice none 0 0, .slice none 0 0, .slice none 0 0, .slice none 0 0] 45
  simp only [World.size_alloc] at e4
  have HL := Hid.mk hL
  have HS := Hid.mk hS
  have HS2 := Hid.mk hS2
  have hvl := gtV_len hR o.key
  have hxl := gvV_len hR o.key o.seq
  have hgt1 := Hid.mk (fun w (h : Li w L a L.length c) => get_r L next o.key w a c hR.srt h)
  have hgt2 := Hid.mk (fun w (h : Li w L a L.length c) => qGet_r L next o.key w a c hR h)
  have hgv1 := Hid.mk (fun w (h : Li w L a L.length c) => gvn_r L next o.key o.seq w a c hR.srt h)
  have hgv2 := Hid.mk (fun w (h : Li w L a L.length c) => qGetVersion_r L next o.key o.seq w a c hR h)
  obtain ⟨n1, X1, s1, ce1, P1, Q1, F1⟩ := both_put hR o.key o.data o.l hz hpz
  obtain ⟨n2, X2, s2, ce2, P2, Q2, F2⟩ := both_del hR o.key
  obtain ⟨n3, X3, ce3, P3, Q3, F3⟩ := both_rem hR o.key o.seq
  have hl1 := Hid.mk (fun w (h : Li w L a L.length c) => bList_w L next [] 256 w a c hR.srt h)
  have hl2 := Hid.mk (fun w (h : Li w L a L.length c) => bVersions_w L next [] 256 w a c hR.srt h)
  have hl3 := Hid.mk (fun w (h : Li w L a L.length c) => qList_r L next [] 256 w a c hR h)
  have hl4 := Hid.mk (fun w (h : Li w L a L.length c) => qVersions_r L next [] 256 w a c hR h)
  have hy1 : Hid (((byK nw1 (L.drop (fndV L []))).take (msN 256)).length ≤ 1000000) := ⟨by have := ms_le 256; rw [List.length_take]; omega⟩
  have hy2 : Hid (((byK rwsL (L.drop (fndV L []))).take (msN 256)).length ≤ 1000000) := ⟨by have := ms_le 256; rw [List.length_take]; omega⟩
  generalize (byK nw1 (L.drop (fndV L []))).take (msN 256) = y1 at *
  generalize (byK rwsL (L.drop (fndV L []))).take (msN 256) = y2 at *
  have hP1 := Hid.mk P1
  have hQ1 := Hid.mk Q1
  have hP2 := Hid.mk P2
  have hQ2 := Hid.mk Q2
  have hP3 := Hid.mk P3
  have hQ3 := Hid.mk Q3
  have F1 := Hid.mk F1
  have F2 := Hid.mk F2
  have F3 := Hid.mk F3
  have HR := Hid.mk hR
  have Hlen := Hid.mk hlen
  have Hvl := Hid.mk hvl
  have Hxl := Hid.mk hxl
  clear P1 Q1 P2 Q2 P3 Q3 hL hS hS2 hR hlen hvl hxl
  generalize gtV L o.key = v at *
  generalize gtE L o.key = ve at *
  generalize gvV L o.key o.seq = x at *
  generalize gvE L o.key o.seq = xe at *
  have E0 : Hid (EnvF w0 ((((w.alloc (.cells #[.slice a0 B.length c0, .slice a1 W.length c1, .slice a2 X.length c2, .slice a3 Y.length c3, .slice a4 M.length c4, .slice a5 N.length c5] 45)).alloc (.cells #[.int .i64 next, .slice a L.length c] 24)).alloc (.cells #[.int .i64 o.kind, str o.key, str o.data, .slice ma o.l.length mc, .int .i64 o.seq, .int .i64 o.most] 34)).alloc (.cells #[.slice none 0 0, .slice none 0 0, .slice none 0 0, .slice none 0 0, .slice none 0 0, .slice none 0 0] 45)) (TF [[obTh (w.heap.size) #[.slice a0 B.length c0, .slice a1 W.length c1, .slice a2 X.length c2, .slice a3 Y.length c3, .slice a4 M.length c4, .slice a5 N.length c5] 45, obTh (w.heap.size + 1) #[.int .i64 next, .slice a L.length c] 24, obTh (w.heap.size + 1 + 1) #[.int .i64 o.kind, str o.key, str o.data, .slice ma o.l.length mc, .int .i64 o.seq, .int .i64 o.most] 34, obTh (w.heap.size + 1 + 1 + 1) #[.slice none 0 0, .slice none 0 0, .slice none 0 0, .slice none 0 0, .slice none 0 0, .slice none 0 0] 45], [rwTh 24 2 (.slice a0 B.length c0) B.length (bcl B), rwTh 24 2 (.slice a1 W.length c1) W.length (bcl W), rwTh 58 1 (.slice a2 X.length c2) X.length (xcl X), rwTh 58 1 (.slice a3 Y.length c3) Y.length (xcl Y), rwTh 39 5 (.slice a4 M.length c4) M.length (mcl M), rwTh 39 5 (.slice a5 N.length c5) N.length (mcl N)], B.map foB, W.map foB, X.map woX, Y.map woX, M.map meM, N.map meM])) := ⟨e4⟩
  clear e1 e2 e3 e4
  go_enter Tryz.func14, Tryz.ntmps14
  go_wp2_with fail
  generalize (((w.alloc (.cells #[.slice a0 B.length c0, .slice a1 W.length c1, .slice a2 X.length c2, .slice a3 Y.length c3, .slice a4 M.length c4, .slice a5 N.length c5] 45)).alloc (.cells #[.int .i64 next, .slice a L.length c] 24)).alloc (.cells #[.int .i64 o.kind, str o.key, str o.data, .slice ma o.l.length mc, .int .i64 o.seq, .int .i64 o.most] 34)).alloc (.cells #[.slice none 0 0, .slice none 0 0, .slice none 0 0, .slice none 0 0, .slice none 0 0, .slice none 0 0] 45) = w1 at *
  with_reducible refine Calls.mono (hP1.out _ a c m2 mc2 (HL.out.later E0.out.bel) (HS2.out.later E0.out.bel)) ?_
  rintro e w11 ⟨v0, rfl, ⟨R1, fo, hv1, hz1⟩, b1⟩
  obtain ⟨xa1, xc1, rfl⟩ := fo_sl fo
  dsimp only
  have G1 := Hid.mk (gb_of F1.out hv1 hz1 n1 xa1 xc1)
  have Hv1 := Hid.mk hv1
  have ex := (E0.out.tFo 2 (by decide : 2 < 8) b1 fo).tAlloc 0 (by decide : 0 < 8) #[.int .i64 n1, .slice xa1 R1.length xc1] 24
  obtain ⟨h1, hh1⟩ : ∃ h, h = w11.heap.size := ⟨_, rfl⟩
  rw [← hh1] at ex
  replace E0 : Hid (EnvF w0 (w11.alloc (.cells #[.int .i64 n1, .slice xa1 R1.length xc1] 24)) (TF [[obTh (w.heap.size) #[.slice a0 B.length c0, .slice a1 W.length c1, .slice a2 X.length c2, .slice a3 Y.length c3, .slice a4 M.length c4, .slice a5 N.length c5] 45, obTh (w.heap.size + 1) #[.int .i64 next, .slice a L.length c] 24, obTh (w.heap.size + 1 + 1) #[.int .i64 o.kind, str o.key, str o.data, .slice ma o.l.length mc, .int .i64 o.seq, .int .i64 o.most] 34, obTh (w.heap.size + 1 + 1 + 1) #[.slice none 0 0, .slice none 0 0, .slice none 0 0, .slice none 0 0, .slice none 0 0, .slice none 0 0] 45, obTh h1 #[.int .i64 n1, .slice xa1 R1.length xc1] 24], [rwTh 24 2 (.slice a0 B.length c0) B.length (bcl B), rwTh 24 2 (.slice a1 W.length c1) W.length (bcl W), rwTh 58 1 (.slice a2 X.length c2) X.length (xcl X), rwTh 58 1 (.slice a3 Y.length c3) Y.length (xcl Y), rwTh 39 5 (.slice a4 M.length c4) M.length (mcl M), rwTh 39 5 (.slice a5 N.length c5) N.length (mcl N)], B.map foB ++ [foTh (.slice xa1 R1.length xc1) R1], W.map foB, X.map woX, Y.map woX, M.map meM, N.map meM])) := ⟨ex⟩
  clear ex b1 fo hv1 hz1
  have p0 := E0.out.cell (0, 1) rfl 0
  have p1 := E0.out.cell (0, 1) rfl 1
  have q0 := E0.out.cell (0, 2) rfl 0
  have q1 := E0.out.cell (0, 2) rfl 1
  have q2 := E0.out.cell (0, 2) rfl 2
  have q3 := E0.out.cell (0, 2) rfl 3
  have q4 := E0.out.cell (0, 2) rfl 4
  have q5 := E0.out.cell (0, 2) rfl 5
  replace p0 : (_ : Option Value) = some (.int .i64 next) := p0
  replace p1 : (_ : Option Value) = some (.slice a L.length c) := p1
  replace q0 : (_ : Option Value) = some (.int .i64 o.kind) := q0
  replace q1 : (_ : Option Value) = some (str o.key) := q1
  replace q2 : (_ : Option Value) = some (str o.data) := q2
  replace q3 : (_ : Option Value) = some (.slice ma o.l.length mc) := q3
  replace q4 : (_ : Option Value) = some (.int .i64 o.seq) := q4
  replace q5 : (_ : Option Value) = some (.int .i64 o.most) := q5
  go_wp2_with fail
  generalize w11.alloc (.cells #[.int .i64 n1, .slice xa1 R1.length xc1] 24) = u1 at *
  rw [← hh1]
  clear hh1
  with_reducible refine Calls.mono (hQ1.out _ a c ma mc (HL.out.later E0.out.bel) (HS.out.later E0.out.bel)) ?_
  rintro e w12 ⟨v0, rfl, ⟨R2, fo, hv2, hz2⟩, b1⟩
  obtain ⟨xa2, xc2, rfl⟩ := fo_sl fo
  dsimp only
  have G2 := Hid.mk (gb_of F1.out hv2 hz2 n1 xa2 xc2)
  have Hv2 := Hid.mk hv2
  have ex := (E0.out.tFo 3 (by decide : 3 < 8) b1 fo).tAlloc 0 (by decide : 0 < 8) #[.int .i64 n1, .slice xa2 R2.length xc2] 24
  clear p0 p1 q0 q1 q2 q3 q4 q5
  obtain ⟨h2, hh2⟩ : ∃ h, h = w12.heap.size := ⟨_, rfl⟩
  rw [← hh2] at ex
  replace E0 : Hid (EnvF w0 (w12.alloc (.cells #[.int .i64 n1, .slice xa2 R2.length xc2] 24)) (TF [[obTh (w.heap.size) #[.slice a0 B.length c0, .slice a1 W.length c1, .slice a2 X.length c2, .slice a3 Y.length c3, .slice a4 M.length c4, .slice a5 N.length c5] 45, obTh (w.heap.size + 1) #[.int .i64 next, .slice a L.length c] 24, obTh (w.heap.size + 1 + 1) #[.int .i64 o.kind, str o.key, str o.data, .slice ma o.l.length mc, .int .i64 o.seq, .int .i64 o.most] 34, obTh (w.heap.size + 1 + 1 + 1) #[.slice none 0 0, .slice none 0 0, .slice none 0 0, .slice none 0 0, .slice none 0 0, .slice none 0 0] 45, obTh h1 #[.int .i64 n1, .slice xa1 R1.length xc1] 24, obTh h2 #[.int .i64 n1, .slice xa2 R2.length xc2] 24], [rwTh 24 2 (.slice a0 B.length c0) B.length (bcl B), rwTh 24 2 (.slice a1 W.length c1) W.length (bcl W), rwTh 58 1 (.slice a2 X.length c2) X.length (xcl X), rwTh 58 1 (.slice a3 Y.length c3) Y.length (xcl Y), rwTh 39 5 (.slice a4 M.length c4) M.length (mcl M), rwTh 39 5 (.slice a5 N.length c5) N.length (mcl N)], B.map foB ++ [foTh (.slice xa1 R1.length xc1) R1], W.map foB ++ [foTh (.slice xa2 R2.length xc2) R2], X.map woX, Y.map woX, M.map meM, N.map meM])) := ⟨ex⟩
  clear ex b1 fo hv2 hz2
  have p0 := E0.out.cell (0, 1) rfl 0
  have p1 := E0.out.cell (0, 1) rfl 1
  have q0 := E0.out.cell (0, 2) rfl 0
  have q1 := E0.out.cell (0, 2) rfl 1
  have q2 := E0.out.cell (0, 2) rfl 2
  have q3 := E0.out.cell (0, 2) rfl 3
  have q4 := E0.out.cell (0, 2) rfl 4
  have q5 := E0.out.cell (0, 2) rfl 5
  replace p0 : (_ : Option Value) = some (.int .i64 next) := p0
  replace p1 : (_ : Option Value) = some (.slice a L.length c) := p1
  replace q0 : (_ : Option Value) = some (.int .i64 o.kind) := q0
  replace q1 : (_ : Option Value) = some (str o.key) := q1
  replace q2 : (_ : Option Value) = some (str o.data) := q2
  replace q3 : (_ : Option Value) = some (.slice ma o.l.length mc) := q3
  replace q4 : (_ : Option Value) = some (.int .i64 o.seq) := q4
  replace q5 : (_ : Option Value) = some (.int .i64 o.most) := q5
  go_wp2_with fail
  generalize w12.alloc (.cells #[.int .i64 n1, .slice xa2 R2.length xc2] 24) = u2 at *
  rw [← hh2]
  clear hh2
  with_reducible refine Calls.mono (hP2.out _ a c (HL.out.later E0.out.bel)) ?_
  rintro e w13 ⟨v0, rfl, ⟨R3, fo, hv3, hz3⟩, b1⟩
  obtain ⟨xa3, xc3, rfl⟩ := fo_sl fo
  dsimp only
  have G3 := Hid.mk (gb_of F2.out hv3 hz3 n2 xa3 xc3)
  have Hv3 := Hid.mk hv3
  have ex := (E0.out.tFo 2 (by decide : 2 < 8) b1 fo).tAlloc 0 (by decide : 0 < 8) #[.int .i64 n2, .slice xa3 R3.length xc3] 24
  clear p0 p1 q0 q1 q2 q3 q4 q5
  obtain ⟨h3, hh3⟩ : ∃ h, h = w13.heap.size := ⟨_, rfl⟩
  rw [← hh3] at ex
  replace E0 : Hid (EnvF w0 (w13.alloc (.cells #[.int .i64 n2, .slice xa3 R3.length xc3] 24)) (TF [[obTh (w.heap.size) #[.slice a0 B.length c0, .slice a1 W.length c1, .slice a2 X.length c2, .slice a3 Y.length c3, .slice a4 M.length c4, .slice a5 N.length c5] 45, obTh (w.heap.size + 1) #[.int .i64 next, .slice a L.length c] 24, obTh (w.heap.size + 1 + 1) #[.int .i64 o.kind, str o.key, str o.data, .slice ma o.l.length mc, .int .i64 o.seq, .int .i64 o.most] 34, obTh (w.heap.size + 1 + 1 + 1) #[.slice none 0 0, .slice none 0 0, .slice none 0 0, .slice none 0 0, .slice none 0 0, .slice none 0 0] 45, obTh h1 #[.int .i64 n1, .slice xa1 R1.length xc1] 24, obTh h2 #[.int .i64 n1, .slice xa2 R2.length xc2] 24, obTh h3 #[.int .i64 n2, .slice xa3 R3.length xc3] 24], [rwTh 24 2 (.slice a0 B.length c0) B.length (bcl B), rwTh 24 2 (.slice a1 W.length c1) W.length (bcl W), rwTh 58 1 (.slice a2 X.length c2) X.length (xcl X), rwTh 58 1 (.slice a3 Y.length c3) Y.length (xcl Y), rwTh 39 5 (.slice a4 M.length c4) M.length (mcl M), rwTh 39 5 (.slice a5 N.length c5) N.length (mcl N)], B.map foB ++ [foTh (.slice xa1 R1.length xc1) R1] ++ [foTh (.slice xa3 R3.length xc3) R3], W.map foB ++ [foTh (.slice xa2 R2.length xc2) R2], X.map woX, Y.map woX, M.map meM, N.map meM])) := ⟨ex⟩
  clear ex b1 fo hv3 hz3
  have p0 := E0.out.cell (0, 1) rfl 0
  have p1 := E0.out.cell (0, 1) rfl 1
  have q0 := E0.out.cell (0, 2) rfl 0
  have q1 := E0.out.cell (0, 2) rfl 1
  have q2 := E0.out.cell (0, 2) rfl 2
  have q3 := E0.out.cell (0, 2) rfl 3
  have q4 := E0.out.cell (0, 2) rfl 4
  have q5 := E0.out.cell (0, 2) rfl 5
  replace p0 : (_ : Option Value) = some (.int .i64 next) := p0
  replace p1 : (_ : Option Value) = some (.slice a L.length c) := p1
  replace q0 : (_ : Option Value) = some (.int .i64 o.kind) := q0
  replace q1 : (_ : Option Value) = some (str o.key) := q1
  replace q2 : (_ : Option Value) = some (str o.data) := q2
  replace q3 : (_ : Option Value) = some (.slice ma o.l.length mc) := q3
  replace q4 : (_ : Option Value) = some (.int .i64 o.seq) := q4
  replace q5 : (_ : Option Value) = some (.int .i64 o.most) := q5
  go_wp2_with fail
  generalize w13.alloc (.cells #[.int .i64 n2, .slice xa3 R3.length xc3] 24) = u3 at *
  rw [← hh3]
  clear hh3
  with_reducible refine Calls.mono (hQ2.out _ a c (HL.out.later E0.out.bel)) ?_
  rintro e w14 ⟨v0, rfl, ⟨R4, fo, hv4, hz4⟩, b1⟩
  obtain ⟨xa4, xc4, rfl⟩ := fo_sl fo
  dsimp only
  have G4 := Hid.mk (gb_of F2.out hv4 hz4 n2 xa4 xc4)
  have Hv4 := Hid.mk hv4
  have ex := (E0.out.tFo 3 (by decide : 3 < 8) b1 fo).tAlloc 0 (by decide : 0 < 8) #[.int .i64 n2, .slice xa4 R4.length xc4] 24
  clear p0 p1 q0 q1 q2 q3 q4 q5
  obtain ⟨h4, hh4⟩ : ∃ h, h = w14.heap.size := ⟨_, rfl⟩
  rw [← hh4] at ex
  replace E0 : Hid (EnvF w0 (w14.alloc (.cells #[.int .i64 n2, .slice xa4 R4.length xc4] 24)) (TF [[obTh (w.heap.size) #[.slice a0 B.length c0, .slice a1 W.length c1, .slice a2 X.length c2, .slice a3 Y.length c3, .slice a4 M.length c4, .slice a5 N.length c5] 45, obTh (w.heap.size + 1) #[.int .i64 next, .slice a L.length c] 24, obTh (w.heap.size + 1 + 1) #[.int .i64 o.kind, str o.key, str o.data, .slice ma o.l.length mc, .int .i64 o.seq, .int .i64 o.most] 34, obTh (w.heap.size + 1 + 1 + 1) #[.slice none 0 0, .slice none 0 0, .slice none 0 0, .slice none 0 0, .slice none 0 0, .slice none 0 0] 45, obTh h1 #[.int .i64 n1, .slice xa1 R1.length xc1] 24, obTh h2 #[.int .i64 n1, .slice xa2 R2.length xc2] 24, obTh h3 #[.int .i64 n2, .slice xa3 R3.length xc3] 24, obTh h4 #[.int .i64 n2, .slice xa4 R4.length xc4] 24], [rwTh 24 2 (.slice a0 B.length c0) B.length (bcl B), rwTh 24 2 (.slice a1 W.length c1) W.length (bcl W), rwTh 58 1 (.slice a2 X.length c2) X.length (xcl X), rwTh 58 1 (.slice a3 Y.length c3) Y.length (xcl Y), rwTh 39 5 (.slice a4 M.length c4) M.length (mcl M), rwTh 39 5 (.slice a5 N.length c5) N.length (mcl N)], B.map foB ++ [foTh (.slice xa1 R1.length xc1) R1] ++ [foTh (.slice xa3 R3.length xc3) R3], W.map foB ++ [foTh (.slice xa2 R2.length xc2) R2] ++ [foTh (.slice xa4 R4.length xc4) R4], X.map woX, Y.map woX, M.map meM, N.map meM])) := ⟨ex⟩
  clear ex b1 fo hv4 hz4
  have p0 := E0.out.cell (0, 1) rfl 0
  have p1 := E0.out.cell (0, 1) rfl 1
  have q0 := E0.out.cell (0, 2) rfl 0
  have q1 := E0.out.cell (0, 2) rfl 1
  have q2 := E0.out.cell (0, 2) rfl 2
  have q3 := E0.out.cell (0, 2) rfl 3
  have q4 := E0.out.cell (0, 2) rfl 4
  have q5 := E0.out.cell (0, 2) rfl 5
  replace p0 : (_ : Option Value) = some (.int .i64 next) := p0
  replace p1 : (_ : Option Value) = some (.slice a L.length c) := p1
  replace q0 : (_ : Option Value) = some (.int .i64 o.kind) := q0
  replace q1 : (_ : Option Value) = some (str o.key) := q1
  replace q2 : (_ : Option Value) = some (str o.data) := q2
  replace q3 : (_ : Option Value) = some (.slice ma o.l.length mc) := q3
  replace q4 : (_ : Option Value) = some (.int .i64 o.seq) := q4
  replace q5 : (_ : Option Value) = some (.int .i64 o.most) := q5
  go_wp2_with fail
  generalize w14.alloc (.cells #[.int .i64 n2, .slice xa4 R4.length xc4] 24) = u4 at *
  rw [← hh4]
  clear hh4
  with_reducible refine Calls.mono (hP3.out _ a c (HL.out.later E0.out.bel)) ?_
  rintro e w15 ⟨v0, rfl, ⟨R5, fo, hv5, hz5⟩, b1⟩
  obtain ⟨xa5, xc5, rfl⟩ := fo_sl fo
  dsimp only
  have G5 := Hid.mk (gb_of F3.out hv5 hz5 n3 xa5 xc5)
  have Hv5 := Hid.mk hv5
  have ex := (E0.out.tFo 2 (by decide : 2 < 8) b1 fo).tAlloc 0 (by decide : 0 < 8) #[.int .i64 n3, .slice xa5 R5.length xc5] 24
  clear p0 p1 q0 q1 q2 q3 q4 q5
  obtain ⟨h5, hh5⟩ : ∃ h, h = w15.heap.size := ⟨_, rfl⟩
  rw [← hh5] at ex
  replace E0 : Hid (EnvF w0 (w15.alloc (.cells #[.int .i64 n3, .slice xa5 R5.length xc5] 24)) (TF [[obTh (w.heap.size) #[.slice a0 B.length c0, .slice a1 W.length c1, .slice a2 X.length c2, .slice a3 Y.length c3, .slice a4 M.length c4, .slice a5 N.length c5] 45, obTh (w.heap.size + 1) #[.int .i64 next, .slice a L.length c] 24, obTh (w.heap.size + 1 + 1) #[.int .i64 o.kind, str o.key, str o.data, .slice ma o.l.length mc, .int .i64 o.seq, .int .i64 o.most] 34, obTh (w.heap.size + 1 + 1 + 1) #[.slice none 0 0, .slice none 0 0, .slice none 0 0, .slice none 0 0, .slice none 0 0, .slice none 0 0] 45, obTh h1 #[.int .i64 n1, .slice xa1 R1.length xc1] 24, obTh h2 #[.int .i64 n1, .slice xa2 R2.length xc2] 24, obTh h3 #[.int .i64 n2, .slice xa3 R3.length xc3] 24, obTh h4 #[.int .i64 n2, .slice xa4 R4.length xc4] 24, obTh h5 #[.int .i64 n3, .slice xa5 R5.length xc5] 24], [rwTh 24 2 (.slice a0 B.length c0) B.length (bcl B), rwTh 24 2 (.slice a1 W.length c1) W.length (bcl W), rwTh 58 1 (.slice a2 X.length c2) X.length (xcl X), rwTh 58 1 (.slice a3 Y.length c3) Y.length (xcl Y), rwTh 39 5 (.slice a4 M.length c4) M.length (mcl M), rwTh 39 5 (.slice a5 N.length c5) N.length (mcl N)], B.map foB ++ [foTh (.slice xa1 R1.length xc1) R1] ++ [foTh (.slice xa3 R3.length xc3) R3] ++ [foTh (.slice xa5 R5.length xc5) R5], W.map foB ++ [foTh (.slice xa2 R2.length xc2) R2] ++ [foTh (.slice xa4 R4.length xc4) R4], X.map woX, Y.map woX, M.map meM, N.map meM])) := ⟨ex⟩
  clear ex b1 fo hv5 hz5
  have p0 := E0.out.cell (0, 1) rfl 0
  have p1 := E0.out.cell (0, 1) rfl 1
  have q0 := E0.out.cell (0, 2) rfl 0
  have q1 := E0.out.cell (0, 2) rfl 1
  have q2 := E0.out.cell (0, 2) rfl 2
  have q3 := E0.out.cell (0, 2) rfl 3
  have q4 := E0.out.cell (0, 2) rfl 4
  have q5 := E0.out.cell (0, 2) rfl 5
  replace p0 : (_ : Option Value) = some (.int .i64 next) := p0
  replace p1 : (_ : Option Value) = some (.slice a L.length c) := p1
  replace q0 : (_ : Option Value) = some (.int .i64 o.kind) := q0
  replace q1 : (_ : Option Value) = some (str o.key) := q1
  replace q2 : (_ : Option Value) = some (str o.data) := q2
  replace q3 : (_ : Option Value) = some (.slice ma o.l.length mc) := q3
  replace q4 : (_ : Option Value) = some (.int .i64 o.seq) := q4
  replace q5 : (_ : Option Value) = some (.int .i64 o.most) := q5
  go_wp2_with fail
  generalize w15.alloc (.cells #[.int .i64 n3, .slice xa5 R5.length xc5] 24) = u5 at *
  rw [← hh5]
  clear hh5
  with_reducible refine Calls.mono (hQ3.out _ a c (HL.out.later E0.out.bel)) ?_
  rintro e w16 ⟨v0, rfl, ⟨R6, fo, hv6, hz6⟩, b1⟩
  obtain ⟨xa6, xc6, rfl⟩ := fo_sl fo
  dsimp only
  have G6 := Hid.mk (gb_of F3.out hv6 hz6 n3 xa6 xc6)
  have Hv6 := Hid.mk hv6
  have ex := (E0.out.tFo 3 (by decide : 3 < 8) b1 fo).tAlloc 0 (by decide : 0 < 8) #[.int .i64 n3, .slice xa6 R6.length xc6] 24
  clear p0 p1 q0 q1 q2 q3 q4 q5
  obtain ⟨h6, hh6⟩ : ∃ h, h = w16.heap.size := ⟨_, rfl⟩
  rw [← hh6] at ex
  replace E0 : Hid (EnvF w0 (w16.alloc (.cells #[.int .i64 n3, .slice xa6 R6.length xc6] 24)) (TF [[obTh (w.heap.size) #[.slice a0 B.length c0, .slice a1 W.length c1, .slice a2 X.length c2, .slice a3 Y.length c3, .slice a4 M.length c4, .slice a5 N.length c5] 45, obTh (w.heap.size + 1) #[.int .i64 next, .slice a L.length c] 24, obTh (w.heap.size + 1 + 1) #[.int .i64 o.kind, str o.key, str o.data, .slice ma o.l.length mc, .int .i64 o.seq, .int .i64 o.most] 34, obTh (w.heap.size + 1 + 1 + 1) #[.slice none 0 0, .slice none 0 0, .slice none 0 0, .slice none 0 0, .slice none 0 0, .slice none 0 0] 45, obTh h1 #[.int .i64 n1, .slice xa1 R1.length xc1] 24, obTh h2 #[.int .i64 n1, .slice xa2 R2.length xc2] 24, obTh h3 #[.int .i64 n2, .slice xa3 R3.length xc3] 24, obTh h4 #[.int .i64 n2, .slice xa4 R4.length xc4] 24, obTh h5 #[.int .i64 n3, .slice xa5 R5.length xc5] 24, obTh h6 #[.int .i64 n3, .slice xa6 R6.length xc6] 24], [rwTh 24 2 (.slice a0 B.length c0) B.length (bcl B), rwTh 24 2 (.slice a1 W.length c1) W.length (bcl W), rwTh 58 1 (.slice a2 X.length c2) X.length (xcl X), rwTh 58 1 (.slice a3 Y.length c3) Y.length (xcl Y), rwTh 39 5 (.slice a4 M.length c4) M.length (mcl M), rwTh 39 5 (.slice a5 N.length c5) N.length (mcl N)], B.map foB ++ [foTh (.slice xa1 R1.length xc1) R1] ++ [foTh (.slice xa3 R3.length xc3) R3] ++ [foTh (.slice xa5 R5.length xc5) R5], W.map foB ++ [foTh (.slice xa2 R2.length xc2) R2] ++ [foTh (.slice xa4 R4.length xc4) R4] ++ [foTh (.slice xa6 R6.length xc6) R6], X.map woX, Y.map woX, M.map meM, N.map meM])) := ⟨ex⟩
  clear ex b1 fo hv6 hz6
  have p0 := E0.out.cell (0, 1) rfl 0
  have p1 := E0.out.cell (0, 1) rfl 1
  have q0 := E0.out.cell (0, 2) rfl 0
  have q1 := E0.out.cell (0, 2) rfl 1
  have q2 := E0.out.cell (0, 2) rfl 2
  have q3 := E0.out.cell (0, 2) rfl 3
  have q4 := E0.out.cell (0, 2) rfl 4
  have q5 := E0.out.cell (0, 2) rfl 5
  replace p0 : (_ : Option Value) = some (.int .i64 next) := p0
  replace p1 : (_ : Option Value) = some (.slice a L.length c) := p1
  replace q0 : (_ : Option Value) = some (.int .i64 o.kind) := q0
  replace q1 : (_ : Option Value) = some (str o.key) := q1
  replace q2 : (_ : Option Value) = some (str o.data) := q2
  replace q3 : (_ : Option Value) = some (.slice ma o.l.length mc) := q3
  replace q4 : (_ : Option Value) = some (.int .i64 o.seq) := q4
  replace q5 : (_ : Option Value) = some (.int .i64 o.most) := q5
  go_wp2_with fail
  generalize w16.alloc (.cells #[.int .i64 n3, .slice xa6 R6.length xc6] 24) = u6 at *
  rw [← hh6]
  clear hh6
  with_reducible refine Calls.mono (hgt1.out _ (HL.out.later E0.out.bel)) ?_
  rintro e w17 ⟨xa7, xc7, rfl, xo, b1⟩
  dsimp only
  have ex := (E0.out.tRw 6 (by decide : 6 < 8) b1 xo.own).tAlloc 0 (by decide : 0 < 8) #[str v.key, .int .i64 v.seq, .bool v.mkr, str v.data, .slice xa7 v.l.length xc7] 39
  clear p0 p1 q0 q1 q2 q3 q4 q5
  obtain ⟨h7, hh7⟩ : ∃ h, h = w17.heap.size := ⟨_, rfl⟩
  rw [← hh7] at ex
  replace E0 : Hid (EnvF w0 (w17.alloc (.cells #[str v.key, .int .i64 v.seq, .bool v.mkr, str v.data, .slice xa7 v.l.length xc7] 39)) (TF [[obTh (w.heap.size) #[.slice a0 B.length c0, .slice a1 W.length c1, .slice a2 X.length c2, .slice a3 Y.length c3, .slice a4 M.length c4, .slice a5 N.length c5] 45, obTh (w.heap.size + 1) #[.int .i64 next, .slice a L.length c] 24, obTh (w.heap.size + 1 + 1) #[.int .i64 o.kind, str o.key, str o.data, .slice ma o.l.length mc, .int .i64 o.seq, .int .i64 o.most] 34, obTh (w.heap.size + 1 + 1 + 1) #[.slice none 0 0, .slice none 0 0, .slice none 0 0, .slice none 0 0, .slice none 0 0, .slice none 0 0] 45, obTh h1 #[.int .i64 n1, .slice xa1 R1.length xc1] 24, obTh h2 #[.int .i64 n1, .slice xa2 R2.length xc2] 24, obTh h3 #[.int .i64 n2, .slice xa3 R3.length xc3] 24, obTh h4 #[.int .i64 n2, .slice xa4 R4.length xc4] 24, obTh h5 #[.int .i64 n3, .slice xa5 R5.length xc5] 24, obTh h6 #[.int .i64 n3, .slice xa6 R6.length xc6] 24, obTh h7 #[str v.key, .int .i64 v.seq, .bool v.mkr, str v.data, .slice xa7 v.l.length xc7] 39], [rwTh 24 2 (.slice a0 B.length c0) B.length (bcl B), rwTh 24 2 (.slice a1 W.length c1) W.length (bcl W), rwTh 58 1 (.slice a2 X.length c2) X.length (xcl X), rwTh 58 1 (.slice a3 Y.length c3) Y.length (xcl Y), rwTh 39 5 (.slice a4 M.length c4) M.length (mcl M), rwTh 39 5 (.slice a5 N.length c5) N.length (mcl N)], B.map foB ++ [foTh (.slice xa1 R1.length xc1) R1] ++ [foTh (.slice xa3 R3.length xc3) R3] ++ [foTh (.slice xa5 R5.length xc5) R5], W.map foB ++ [foTh (.slice xa2 R2.length xc2) R2] ++ [foTh (.slice xa4 R4.length xc4) R4] ++ [foTh (.slice xa6 R6.length xc6) R6], X.map woX, Y.map woX, M.map meM ++ [rwTh 41 2 (.slice xa7 v.l.length xc7) v.l.length (pcells v.l)], N.map meM])) := ⟨ex⟩
  clear ex b1 xo
  have p0 := E0.out.cell (0, 1) rfl 0
  have p1 := E0.out.cell (0, 1) rfl 1
  have q0 := E0.out.cell (0, 2) rfl 0
  have q1 := E0.out.cell (0, 2) rfl 1
  have q2 := E0.out.cell (0, 2) rfl 2
  have q3 := E0.out.cell (0, 2) rfl 3
  have q4 := E0.out.cell (0, 2) rfl 4
  have q5 := E0.out.cell (0, 2) rfl 5
  replace p0 : (_ : Option Value) = some (.int .i64 next) := p0
  replace p1 : (_ : Option Value) = some (.slice a L.length c) := p1
  replace q0 : (_ : Option Value) = some (.int .i64 o.kind) := q0
  replace q1 : (_ : Option Value) = some (str o.key) := q1
  replace q2 : (_ : Option Value) = some (str o.data) := q2
  replace q3 : (_ : Option Value) = some (.slice ma o.l.length mc) := q3
  replace q4 : (_ : Option Value) = some (.int .i64 o.seq) := q4
  replace q5 : (_ : Option Value) = some (.int .i64 o.most) := q5
  go_wp2_with fail
  generalize w17.alloc (.cells #[str v.key, .int .i64 v.seq, .bool v.mkr, str v.data, .slice xa7 v.l.length xc7] 39) = u7 at *
  rw [← hh7]
  clear hh7
  with_reducible refine Calls.mono (hgt2.out _ (HL.out.later E0.out.bel)) ?_
  rintro e w18 ⟨xa8, xc8, rfl, xo, b1⟩
  dsimp only
  have ex := (E0.out.tRw 7 (by decide : 7 < 8) b1 xo.own).tAlloc 0 (by decide : 0 < 8) #[str v.key, .int .i64 v.seq, .bool v.mkr, str v.data, .slice xa8 v.l.length xc8] 39
  clear p0 p1 q0 q1 q2 q3 q4 q5
  obtain ⟨h8, hh8⟩ : ∃ h, h = w18.heap.size := ⟨_, rfl⟩
  rw [← hh8] at ex
  replace E0 : Hid (EnvF w0 (w18.alloc (.cells #[str v.key, .int .i64 v.seq, .bool v.mkr, str v.data, .slice xa8 v.l.length xc8] 39)) (TF [[obTh (w.heap.size) #[.slice a0 B.length c0, .slice a1 W.length c1, .slice a2 X.length c2, .slice a3 Y.length c3, .slice a4 M.length c4, .slice a5 N.length c5] 45, obTh (w.heap.size + 1) #[.int .i64 next, .slice a L.length c] 24, obTh (w.heap.size + 1 + 1) #[.int .i64 o.kind, str o.key, str o.data, .slice ma o.l.length mc, .int .i64 o.seq, .int .i64 o.most] 34, obTh (w.heap.size + 1 + 1 + 1) #[.slice none 0 0, .slice none 0 0, .slice none 0 0, .slice none 0 0, .slice none 0 0, .slice none 0 0] 45, obTh h1 #[.int .i64 n1, .slice xa1 R1.length xc1] 24, obTh h2 #[.int .i64 n1, .slice xa2 R2.length xc2] 24, obTh h3 #[.int .i64 n2, .slice xa3 R3.length xc3] 24, obTh h4 #[.int .i64 n2, .slice xa4 R4.length xc4] 24, obTh h5 #[.int .i64 n3, .slice xa5 R5.length xc5] 24, obTh h6 #[.int .i64 n3, .slice xa6 R6.length xc6] 24, obTh h7 #[str v.key, .int .i64 v.seq, .bool v.mkr, str v.data, .slice xa7 v.l.length xc7] 39, obTh h8 #[str v.key, .int .i64 v.seq, .bool v.mkr, str v.data, .slice xa8 v.l.length xc8] 39], [rwTh 24 2 (.slice a0 B.length c0) B.length (bcl B), rwTh 24 2 (.slice a1 W.length c1) W.length (bcl W), rwTh 58 1 (.slice a2 X.length c2) X.length (xcl X), rwTh 58 1 (.slice a3 Y.length c3) Y.length (xcl Y), rwTh 39 5 (.slice a4 M.length c4) M.length (mcl M), rwTh 39 5 (.slice a5 N.length c5) N.length (mcl N)], B.map foB ++ [foTh (.slice xa1 R1.length xc1) R1] ++ [foTh (.slice xa3 R3.length xc3) R3] ++ [foTh (.slice xa5 R5.length xc5) R5], W.map foB ++ [foTh (.slice xa2 R2.length xc2) R2] ++ [foTh (.slice xa4 R4.length xc4) R4] ++ [foTh (.slice xa6 R6.length xc6) R6], X.map woX, Y.map woX, M.map meM ++ [rwTh 41 2 (.slice xa7 v.l.length xc7) v.l.length (pcells v.l)], N.map meM ++ [rwTh 41 2 (.slice xa8 v.l.length xc8) v.l.length (pcells v.l)]])) := ⟨ex⟩
  clear ex b1 xo
  have p0 := E0.out.cell (0, 1) rfl 0
  have p1 := E0.out.cell (0, 1) rfl 1
  have q0 := E0.out.cell (0, 2) rfl 0
  have q1 := E0.out.cell (0, 2) rfl 1
  have q2 := E0.out.cell (0, 2) rfl 2
  have q3 := E0.out.cell (0, 2) rfl 3
  have q4 := E0.out.cell (0, 2) rfl 4
  have q5 := E0.out.cell (0, 2) rfl 5
  replace p0 : (_ : Option Value) = some (.int .i64 next) := p0
  replace p1 : (_ : Option Value) = some (.slice a L.length c) := p1
  replace q0 : (_ : Option Value) = some (.int .i64 o.kind) := q0
  replace q1 : (_ : Option Value) = some (str o.key) := q1
  replace q2 : (_ : Option Value) = some (str o.data) := q2
  replace q3 : (_ : Option Value) = some (.slice ma o.l.length mc) := q3
  replace q4 : (_ : Option Value) = some (.int .i64 o.seq) := q4
  replace q5 : (_ : Option Value) = some (.int .i64 o.most) := q5
  go_wp2_with fail
  generalize w18.alloc (.cells #[str v.key, .int .i64 v.seq, .bool v.mkr, str v.data, .slice xa8 v.l.length xc8] 39) = u8 at *
  rw [← hh8]
  clear hh8
  with_reducible refine Calls.mono (hgv1.out _ (HL.out.later E0.out.bel)) ?_
  rintro e w19 ⟨xa9, xc9, rfl, xo, b1⟩
  dsimp only
  have ex := (E0.out.tRw 6 (by decide : 6 < 8) b1 xo.own).tAlloc 0 (by decide : 0 < 8) #[str x.key, .int .i64 x.seq, .bool x.mkr, str x.data, .slice xa9 x.l.length xc9] 39
  clear p0 p1 q0 q1 q2 q3 q4 q5
  obtain ⟨h9, hh9⟩ : ∃ h, h = w19.heap.size := ⟨_, rfl⟩
  rw [← hh9] at ex
  replace E0 : Hid (EnvF w0 (w19.alloc (.cells #[str x.key, .int .i64 x.seq, .bool x.mkr, str x.data, .slice xa9 x.l.length xc9] 39)) (TF [[obTh (w.heap.size) #[.slice a0 B.length c0, .slice a1 W.length c1, .slice a2 X.length c2, .slice a3 Y.length c3, .slice a4 M.length c4, .slice a5 N.length c5] 45, obTh (w.heap.size + 1) #[.int .i64 next, .slice a L.length c] 24, obTh (w.heap.size + 1 + 1) #[.int .i64 o.kind, str o.key, str o.data, .slice ma o.l.length mc, .int .i64 o.seq, .int .i64 o.most] 34, obTh (w.heap.size + 1 + 1 + 1) #[.slice none 0 0, .slice none 0 0, .slice none 0 0, .slice none 0 0, .slice none 0 0, .slice none 0 0] 45, obTh h1 #[.int .i64 n1, .slice xa1 R1.length xc1] 24, obTh h2 #[.int .i64 n1, .slice xa2 R2.length xc2] 24, obTh h3 #[.int .i64 n2, .slice xa3 R3.length xc3] 24, obTh h4 #[.int .i64 n2, .slice xa4 R4.length xc4] 24, obTh h5 #[.int .i64 n3, .slice xa5 R5.length xc5] 24, obTh h6 #[.int .i64 n3, .slice xa6 R6.length xc6] 24, obTh h7 #[str v.key, .int .i64 v.seq, .bool v.mkr, str v.data, .slice xa7 v.l.length xc7] 39, obTh h8 #[str v.key, .int .i64 v.seq, .bool v.mkr, str v.data, .slice xa8 v.l.length xc8] 39, obTh h9 #[str x.key, .int .i64 x.seq, .bool x.mkr, str x.data, .slice xa9 x.l.length xc9] 39], [rwTh 24 2 (.slice a0 B.length c0) B.length (bcl B), rwTh 24 2 (.slice a1 W.length c1) W.length (bcl W), rwTh 58 1 (.slice a2 X.length c2) X.length (xcl X), rwTh 58 1 (.slice a3 Y.length c3) Y.length (xcl Y), rwTh 39 5 (.slice a4 M.length c4) M.length (mcl M), rwTh 39 5 (.slice a5 N.length c5) N.length (mcl N)], B.map foB ++ [foTh (.slice xa1 R1.length xc1) R1] ++ [foTh (.slice xa3 R3.length xc3) R3] ++ [foTh (.slice xa5 R5.length xc5) R5], W.map foB ++ [foTh (.slice xa2 R2.length xc2) R2] ++ [foTh (.slice xa4 R4.length xc4) R4] ++ [foTh (.slice xa6 R6.length xc6) R6], X.map woX, Y.map woX, M.map meM ++ [rwTh 41 2 (.slice xa7 v.l.length xc7) v.l.length (pcells v.l)] ++ [rwTh 41 2 (.slice xa9 x.l.length xc9) x.l.length (pcells x.l)], N.map meM ++ [rwTh 41 2 (.slice xa8 v.l.length xc8) v.l.length (pcells v.l)]])) := ⟨ex⟩
  clear ex b1 xo
  have p0 := E0.out.cell (0, 1) rfl 0
  have p1 := E0.out.cell (0, 1) rfl 1
  have q0 := E0.out.cell (0, 2) rfl 0
  have q1 := E0.out.cell (0, 2) rfl 1
  have q2 := E0.out.cell (0, 2) rfl 2
  have q3 := E0.out.cell (0, 2) rfl 3
  have q4 := E0.out.cell (0, 2) rfl 4
  have q5 := E0.out.cell (0, 2) rfl 5
  replace p0 : (_ : Option Value) = some (.int .i64 next) := p0
  replace p1 : (_ : Option Value) = some (.slice a L.length c) := p1
  replace q0 : (_ : Option Value) = some (.int .i64 o.kind) := q0
  replace q1 : (_ : Option Value) = some (str o.key) := q1
  replace q2 : (_ : Option Value) = some (str o.data) := q2
  replace q3 : (_ : Option Value) = some (.slice ma o.l.length mc) := q3
  replace q4 : (_ : Option Value) = some (.int .i64 o.seq) := q4
  replace q5 : (_ : Option Value) = some (.int .i64 o.most) := q5
  go_wp2_with fail
  generalize w19.alloc (.cells #[str x.key, .int .i64 x.seq, .bool x.mkr, str x.data, .slice xa9 x.l.length xc9] 39) = u9 at *
  rw [← hh9]
  clear hh9
  with_reducible refine Calls.mono (hgv2.out _ (HL.out.later E0.out.bel)) ?_
  rintro e w20 ⟨xa10, xc10, rfl, xo, b1⟩
  dsimp only
  have ex := (E0.out.tRw 7 (by decide : 7 < 8) b1 xo.own).tAlloc 0 (by decide : 0 < 8) #[str x.key, .int .i64 x.seq, .bool x.mkr, str x.data, .slice xa10 x.l.length xc10] 39
  clear p0 p1 q0 q1 q2 q3 q4 q5
  obtain ⟨h10, hh10⟩ : ∃ h, h = w20.heap.size := ⟨_, rfl⟩
  rw [← hh10] at ex
  replace E0 : Hid (EnvF w0 (w20.alloc (.cells #[str x.key, .int .i64 x.seq, .bool x.mkr, str x.data, .slice xa10 x.l.length xc10] 39)) (TF [[obTh (w.heap.size) #[.slice a0 B.length c0, .slice a1 W.length c1, .slice a2 X.length c2, .slice a3 Y.length c3, .slice a4 M.length c4, .slice a5 N.length c5] 45, obTh (w.heap.size + 1) #[.int .i64 next, .slice a L.length c] 24, obTh (w.heap.size + 1 + 1) #[.int .i64 o.kind, str o.key, str o.data, .slice ma o.l.length mc, .int .i64 o.seq, .int .i64 o.most] 34, obTh (w.heap.size + 1 + 1 + 1) #[.slice none 0 0, .slice none 0 0, .slice none 0 0, .slice none 0 0, .slice none 0 0, .slice none 0 0] 45, obTh h1 #[.int .i64 n1, .slice xa1 R1.length xc1] 24, obTh h2 #[.int .i64 n1, .slice xa2 R2.length xc2] 24, obTh h3 #[.int .i64 n2, .slice xa3 R3.length xc3] 24, obTh h4 #[.int .i64 n2, .slice xa4 R4.length xc4] 24, obTh h5 #[.int .i64 n3, .slice xa5 R5.length xc5] 24, obTh h6 #[.int .i64 n3, .slice xa6 R6.length xc6] 24, obTh h7 #[str v.key, .int .i64 v.seq, .bool v.mkr, str v.data, .slice xa7 v.l.length xc7] 39, obTh h8 #[str v.key, .int .i64 v.seq, .bool v.mkr, str v.data, .slice xa8 v.l.length xc8] 39, obTh h9 #[str x.key, .int .i64 x.seq, .bool x.mkr, str x.data, .slice xa9 x.l.length xc9] 39, obTh h10 #[str x.key, .int .i64 x.seq, .bool x.mkr, str x.data, .slice xa10 x.l.length xc10] 39], [rwTh 24 2 (.slice a0 B.length c0) B.length (bcl B), rwTh 24 2 (.slice a1 W.length c1) W.length (bcl W), rwTh 58 1 (.slice a2 X.length c2) X.length (xcl X), rwTh 58 1 (.slice a3 Y.length c3) Y.length (xcl Y), rwTh 39 5 (.slice a4 M.length c4) M.length (mcl M), rwTh 39 5 (.slice a5 N.length c5) N.length (mcl N)], B.map foB ++ [foTh (.slice xa1 R1.length xc1) R1] ++ [foTh (.slice xa3 R3.length xc3) R3] ++ [foTh (.slice xa5 R5.length xc5) R5], W.map foB ++ [foTh (.slice xa2 R2.length xc2) R2] ++ [foTh (.slice xa4 R4.length xc4) R4] ++ [foTh (.slice xa6 R6.length xc6) R6], X.map woX, Y.map woX, M.map meM ++ [rwTh 41 2 (.slice xa7 v.l.length xc7) v.l.length (pcells v.l)] ++ [rwTh 41 2 (.slice xa9 x.l.length xc9) x.l.length (pcells x.l)], N.map meM ++ [rwTh 41 2 (.slice xa8 v.l.length xc8) v.l.length (pcells v.l)] ++ [rwTh 41 2 (.slice xa10 x.l.length xc10) x.l.length (pcells x.l)]])) := ⟨ex⟩
  clear ex b1 xo
  have p0 := E0.out.cell (0, 1) rfl 0
  have p1 := E0.out.cell (0, 1) rfl 1
  have q0 := E0.out.cell (0, 2) rfl 0
  have q1 := E0.out.cell (0, 2) rfl 1
  have q2 := E0.out.cell (0, 2) rfl 2
  have q3 := E0.out.cell (0, 2) rfl 3
  have q4 := E0.out.cell (0, 2) rfl 4
  have q5 := E0.out.cell (0, 2) rfl 5
  replace p0 : (_ : Option Value) = some (.int .i64 next) := p0
  replace p1 : (_ : Option Value) = some (.slice a L.length c) := p1
  replace q0 : (_ : Option Value) = some (.int .i64 o.kind) := q0
  replace q1 : (_ : Option Value) = some (str o.key) := q1
  replace q2 : (_ : Option Value) = some (str o.data) := q2
  replace q3 : (_ : Option Value) = some (.slice ma o.l.length mc) := q3
  replace q4 : (_ : Option Value) = some (.int .i64 o.seq) := q4
  replace q5 : (_ : Option Value) = some (.int .i64 o.most) := q5
  go_upto_region 11 with fail
  generalize w20.alloc (.cells #[str x.key, .int .i64 x.seq, .bool x.mkr, str x.data, .slice xa10 x.l.length xc10] 39) = u10 at *
  rw [← hh10]
  clear hh10
  have s10 : (_ : Option Value) = some (.int .i64 n1) := E0.out.cell (0, 4) rfl 0
  have s11 : (_ : Option Value) = some (.slice xa1 R1.length xc1) := E0.out.cell (0, 4) rfl 1
  have s30 : (_ : Option Value) = some (.int .i64 n2) := E0.out.cell (0, 6) rfl 0
  have s31 : (_ : Option Value) = some (.slice xa3 R3.length xc3) := E0.out.cell (0, 6) rfl 1
  have s50 : (_ : Option Value) = some (.int .i64 n3) := E0.out.cell (0, 8) rfl 0
  have s51 : (_ : Option Value) = some (.slice xa5 R5.length xc5) := E0.out.cell (0, 8) rfl 1
  have t0 : (_ : Option Value) = some (.slice a0 B.length c0) := E0.out.cell (0, 0) rfl 0
  go_upto_region 12 with (with_reducible refine at_app rfl ?_; refine app_rw (v := .slice a0 B.length c0) (n := B.length) (m := 3) (xs := bcl B) rfl _ _ 42 rfl Tryz.underlying42 infoB rfl (by decide) (by decide) E0.out 1 0 rfl [.int .i64 n1, .slice xa1 R1.length xc1, .int .i64 n2, .slice xa3 R3.length xc3, .int .i64 n3, .slice xa5 R5.length xc5] rfl rfl (by simp [Value.oneCell']) (by decide) (by have := Hlen.out; omega) rfl rfl rfl ?_; intro g11 cp11 w311 E1; have t1 : (_ : Option Value) = some (.slice a0 B.length c0) := E1.cell (0, 0) rfl 0; have t2 := E1.frozen (0, 0) rfl 0)
  replace E0 : Hid (EnvF w0 (w311.setCell ⟨w.heap.size, 0, none⟩ (.slice (some ⟨g11, 0, none⟩) (B.length + 3) cp11)) (TF [[obTh (w.heap.size) #[.slice (some ⟨g11, 0, none⟩) (B.length + 3) cp11, .slice a1 W.length c1, .slice a2 X.length c2, .slice a3 Y.length c3, .slice a4 M.length c4, .slice a5 N.length c5] 45, obTh (w.heap.size + 1) #[.int .i64 next, .slice a L.length c] 24, obTh (w.heap.size + 1 + 1) #[.int .i64 o.kind, str o.key, str o.data, .slice ma o.l.length mc, .int .i64 o.seq, .int .i64 o.most] 34, obTh (w.heap.size + 1 + 1 + 1) #[.slice none 0 0, .slice none 0 0, .slice none 0 0, .slice none 0 0, .slice none 0 0, .slice none 0 0] 45, obTh h1 #[.int .i64 n1, .slice xa1 R1.length xc1] 24, obTh h2 #[.int .i64 n1, .slice xa2 R2.length xc2] 24, obTh h3 #[.int .i64 n2, .slice xa3 R3.length xc3] 24, obTh h4 #[.int .i64 n2, .slice xa4 R4.length xc4] 24, obTh h5 #[.int .i64 n3, .slice xa5 R5.length xc5] 24, obTh h6 #[.int .i64 n3, .slice xa6 R6.length xc6] 24, obTh h7 #[str v.key, .int .i64 v.seq, .bool v.mkr, str v.data, .slice xa7 v.l.length xc7] 39, obTh h8 #[str v.key, .int .i64 v.seq, .bool v.mkr, str v.data, .slice xa8 v.l.length xc8] 39, obTh h9 #[str x.key, .int .i64 x.seq, .bool x.mkr, str x.data, .slice xa9 x.l.length xc9] 39, obTh h10 #[str x.key, .int .i64 x.seq, .bool x.mkr, str x.data, .slice xa10 x.l.length xc10] 39], [rwTh 24 2 (.slice (some ⟨g11, 0, none⟩) (B.length + 3) cp11) (B.length + 3) (bcl B ++ [.int .i64 n1, .slice xa1 R1.length xc1, .int .i64 n2, .slice xa3 R3.length xc3, .int .i64 n3, .slice xa5 R5.length xc5]), rwTh 24 2 (.slice a1 W.length c1) W.length (bcl W), rwTh 58 1 (.slice a2 X.length c2) X.length (xcl X), rwTh 58 1 (.slice a3 Y.length c3) Y.length (xcl Y), rwTh 39 5 (.slice a4 M.length c4) M.length (mcl M), rwTh 39 5 (.slice a5 N.length c5) N.length (mcl N)], B.map foB ++ [foTh (.slice xa1 R1.length xc1) R1] ++ [foTh (.slice xa3 R3.length xc3) R3] ++ [foTh (.slice xa5 R5.length xc5) R5], W.map foB ++ [foTh (.slice xa2 R2.length xc2) R2] ++ [foTh (.slice xa4 R4.length xc4) R4] ++ [foTh (.slice xa6 R6.length xc6) R6], X.map woX, Y.map woX, M.map meM ++ [rwTh 41 2 (.slice xa7 v.l.length xc7) v.l.length (pcells v.l)] ++ [rwTh 41 2 (.slice xa9 x.l.length xc9) x.l.length (pcells x.l)], N.map meM ++ [rwTh 41 2 (.slice xa8 v.l.length xc8) v.l.length (pcells v.l)] ++ [rwTh 41 2 (.slice xa10 x.l.length xc10) x.l.length (pcells x.l)]])) := ⟨E1.tCell 0 0 rfl 0 (.slice (some ⟨g11, 0, none⟩) (B.length + 3) cp11)⟩
  clear E1 t1 t2 s10 s11 s30 s31 s50 s51 t0
  generalize w311.setCell ⟨w.heap.size, 0, none⟩ (.slice (some ⟨g11, 0, none⟩) (B.length + 3) cp11) = u11 at *
  have s20 : (_ : Option Value) = some (.int .i64 n1) := E0.out.cell (0, 5) rfl 0
  have s21 : (_ : Option Value) = some (.slice xa2 R2.length xc2) := E0.out.cell (0, 5) rfl 1
  have s40 : (_ : Option Value) = some (.int .i64 n2) := E0.out.cell (0, 7) rfl 0
  have s41 : (_ : Option Value) = some (.slice xa4 R4.length xc4) := E0.out.cell (0, 7) rfl 1
  have s60 : (_ : Option Value) = some (.int .i64 n3) := E0.out.cell (0, 9) rfl 0
  have s61 : (_ : Option Value) = some (.slice xa6 R6.length xc6) := E0.out.cell (0, 9) rfl 1
  have t0 : (_ : Option Value) = some (.slice a1 W.length c1) := E0.out.cell (0, 0) rfl 1
  go_upto_region 13 with (with_reducible refine at_app rfl ?_; refine app_rw (v := .slice a1 W.length c1) (n := W.length) (m := 3) (xs := bcl W) rfl _ _ 42 rfl Tryz.underlying42 infoB rfl (by decide) (by decide) E0.out 1 1 rfl [.int .i64 n1, .slice xa2 R2.length xc2, .int .i64 n2, .slice xa4 R4.length xc4, .int .i64 n3, .slice xa6 R6.length xc6] rfl rfl (by simp [Value.oneCell']) (by decide) (by have := Hlen.out; omega) rfl rfl rfl ?_; intro g12 cp12 w312 E1; have t1 : (_ : Option Value) = some (.slice a1 W.length c1) := E1.cell (0, 0) rfl 1; have t2 := E1.frozen (0, 0) rfl 1)
  replace E0 : Hid (EnvF w0 (w312.setCell ⟨w.heap.size, 1, none⟩ (.slice (some ⟨g12, 0, none⟩) (W.length + 3) cp12)) (TF [[obTh (w.heap.size) #[.slice (some ⟨g11, 0, none⟩) (B.length + 3) cp11, .slice (some ⟨g12, 0, none⟩) (W.length + 3) cp12, .slice a2 X.length c2, .slice a3 Y.length c3, .slice a4 M.length c4, .slice a5 N.length c5] 45, obTh (w.heap.size + 1) #[.int .i64 next, .slice a L.length c] 24, obTh (w.heap.size + 1 + 1) #[.int .i64 o.kind, str o.key, str o.data, .slice ma o.l.length mc, .int .i64 o.seq, .int .i64 o.most] 34, obTh (w.heap.size + 1 + 1 + 1) #[.slice none 0 0, .slice none 0 0, .slice none 0 0, .slice none 0 0, .slice none 0 0, .slice none 0 0] 45, obTh h1 #[.int .i64 n1, .slice xa1 R1.length xc1] 24, obTh h2 #[.int .i64 n1, .slice xa2 R2.length xc2] 24, obTh h3 #[.int .i64 n2, .slice xa3 R3.length xc3] 24, obTh h4 #[.int .i64 n2, .slice xa4 R4.length xc4] 24, obTh h5 #[.int .i64 n3, .slice xa5 R5.length xc5] 24, obTh h6 #[.int .i64 n3, .slice xa6 R6.length xc6] 24, obTh h7 #[str v.key, .int .i64 v.seq, .bool v.mkr, str v.data, .slice xa7 v.l.length xc7] 39, obTh h8 #[str v.key, .int .i64 v.seq, .bool v.mkr, str v.data, .slice xa8 v.l.length xc8] 39, obTh h9 #[str x.key, .int .i64 x.seq, .bool x.mkr, str x.data, .slice xa9 x.l.length xc9] 39, obTh h10 #[str x.key, .int .i64 x.seq, .bool x.mkr, str x.data, .slice xa10 x.l.length xc10] 39], [rwTh 24 2 (.slice (some ⟨g11, 0, none⟩) (B.length + 3) cp11) (B.length + 3) (bcl B ++ [.int .i64 n1, .slice xa1 R1.length xc1, .int .i64 n2, .slice xa3 R3.length xc3, .int .i64 n3, .slice xa5 R5.length xc5]), rwTh 24 2 (.slice (some ⟨g12, 0, none⟩) (W.length + 3) cp12) (W.length + 3) (bcl W ++ [.int .i64 n1, .slice xa2 R2.length xc2, .int .i64 n2, .slice xa4 R4.length xc4, .int .i64 n3, .slice xa6 R6.length xc6]), rwTh 58 1 (.slice a2 X.length c2) X.length (xcl X), rwTh 58 1 (.slice a3 Y.length c3) Y.length (xcl Y), rwTh 39 5 (.slice a4 M.length c4) M.length (mcl M), rwTh 39 5 (.slice a5 N.length c5) N.length (mcl N)], B.map foB ++ [foTh (.slice xa1 R1.length xc1) R1] ++ [foTh (.slice xa3 R3.length xc3) R3] ++ [foTh (.slice xa5 R5.length xc5) R5], W.map foB ++ [foTh (.slice xa2 R2.length xc2) R2] ++ [foTh (.slice xa4 R4.length xc4) R4] ++ [foTh (.slice xa6 R6.length xc6) R6], X.map woX, Y.map woX, M.map meM ++ [rwTh 41 2 (.slice xa7 v.l.length xc7) v.l.length (pcells v.l)] ++ [rwTh 41 2 (.slice xa9 x.l.length xc9) x.l.length (pcells x.l)], N.map meM ++ [rwTh 41 2 (.slice xa8 v.l.length xc8) v.l.length (pcells v.l)] ++ [rwTh 41 2 (.slice xa10 x.l.length xc10) x.l.length (pcells x.l)]])) := ⟨E1.tCell 0 0 rfl 1 (.slice (some ⟨g12, 0, none⟩) (W.length + 3) cp12)⟩
  clear E1 t1 t2 s20 s21 s40 s41 s60 s61 t0
  generalize w312.setCell ⟨w.heap.size, 1, none⟩ (.slice (some ⟨g12, 0, none⟩) (W.length + 3) cp12) = u12 at *
  have s70 : (_ : Option Value) = some (str v.key) := E0.out.cell (0, 10) rfl 0
  have s71 : (_ : Option Value) = some (.int .i64 v.seq) := E0.out.cell (0, 10) rfl 1
  have s72 : (_ : Option Value) = some (.bool v.mkr) := E0.out.cell (0, 10) rfl 2
  have s73 : (_ : Option Value) = some (str v.data) := E0.out.cell (0, 10) rfl 3
  have s74 : (_ : Option Value) = some (.slice xa7 v.l.length xc7) := E0.out.cell (0, 10) rfl 4
  have s90 : (_ : Option Value) = some (str x.key) := E0.out.cell (0, 12) rfl 0
  have s91 : (_ : Option Value) = some (.int .i64 x.seq) := E0.out.cell (0, 12) rfl 1
  have s92 : (_ : Option Value) = some (.bool x.mkr) := E0.out.cell (0, 12) rfl 2
  have s93 : (_ : Option Value) = some (str x.data) := E0.out.cell (0, 12) rfl 3
  have s94 : (_ : Option Value) = some (.slice xa9 x.l.length xc9) := E0.out.cell (0, 12) rfl 4
  have t0 : (_ : Option Value) = some (.slice a4 M.length c4) := E0.out.cell (0, 0) rfl 4
  go_upto_region 14 with (with_reducible refine at_app rfl ?_; refine app_rw (v := .slice a4 M.length c4) (n := M.length) (m := 2) (xs := mcl M) rfl _ _ 22 rfl Tryz.underlying22 infoV rfl (by decide) (by decide) E0.out 1 4 rfl [str v.key, .int .i64 v.seq, .bool v.mkr, str v.data, .slice xa7 v.l.length xc7, str x.key, .int .i64 x.seq, .bool x.mkr, str x.data, .slice xa9 x.l.length xc9] rfl rfl (by simp [Value.oneCell']) (by decide) (by have := Hlen.out; omega) rfl rfl rfl ?_; intro g13 cp13 w313 E1; have t1 : (_ : Option Value) = some (.slice a4 M.length c4) := E1.cell (0, 0) rfl 4; have t2 := E1.frozen (0, 0) rfl 4)
  replace E0 : Hid (EnvF w0 (w313.setCell ⟨w.heap.size, 4, none⟩ (.slice (some ⟨g13, 0, none⟩) (M.length + 2) cp13)) (TF [[obTh (w.heap.size) #[.slice (some ⟨g11, 0, none⟩) (B.length + 3) cp11, .slice (some ⟨g12, 0, none⟩) (W.length + 3) cp12, .slice a2 X.length c2, .slice a3 Y.length c3, .slice (some ⟨g13, 0, none⟩) (M.length + 2) cp13, .slice a5 N.length c5] 45, obTh (w.heap.size + 1) #[.int .i64 next, .slice a L.length c] 24, obTh (w.heap.size + 1 + 1) #[.int .i64 o.kind, str o.key, str o.data, .slice ma o.l.length mc, .int .i64 o.seq, .int .i64 o.most] 34, obTh (w.heap.size + 1 + 1 + 1) #[.slice none 0 0, .slice none 0 0, .slice none 0 0, .slice none 0 0, .slice none 0 0, .slice none 0 0] 45, obTh h1 #[.int .i64 n1, .slice xa1 R1.length xc1] 24, obTh h2 #[.int .i64 n1, .slice xa2 R2.length xc2] 24, obTh h3 #[.int .i64 n2, .slice xa3 R3.length xc3] 24, obTh h4 #[.int .i64 n2, .slice xa4 R4.length xc4] 24, obTh h5 #[.int .i64 n3, .slice xa5 R5.length xc5] 24, obTh h6 #[.int .i64 n3, .slice xa6 R6.length xc6] 24, obTh h7 #[str v.key, .int .i64 v.seq, .bool v.mkr, str v.data, .slice xa7 v.l.length xc7] 39, obTh h8 #[str v.key, .int .i64 v.seq, .bool v.mkr, str v.data, .slice xa8 v.l.length xc8] 39, obTh h9 #[str x.key, .int .i64 x.seq, .bool x.mkr, str x.data, .slice xa9 x.l.length xc9] 39, obTh h10 #[str x.key, .int .i64 x.seq, .bool x.mkr, str x.data, .slice xa10 x.l.length xc10] 39], [rwTh 24 2 (.slice (some ⟨g11, 0, none⟩) (B.length + 3) cp11) (B.length + 3) (bcl B ++ [.int .i64 n1, .slice xa1 R1.length xc1, .int .i64 n2, .slice xa3 R3.length xc3, .int .i64 n3, .slice xa5 R5.length xc5]), rwTh 24 2 (.slice (some ⟨g12, 0, none⟩) (W.length + 3) cp12) (W.length + 3) (bcl W ++ [.int .i64 n1, .slice xa2 R2.length xc2, .int .i64 n2, .slice xa4 R4.length xc4, .int .i64 n3, .slice xa6 R6.length xc6]), rwTh 58 1 (.slice a2 X.length c2) X.length (xcl X), rwTh 58 1 (.slice a3 Y.length c3) Y.length (xcl Y), rwTh 39 5 (.slice (some ⟨g13, 0, none⟩) (M.length + 2) cp13) (M.length + 2) (mcl M ++ [str v.key, .int .i64 v.seq, .bool v.mkr, str v.data, .slice xa7 v.l.length xc7, str x.key, .int .i64 x.seq, .bool x.mkr, str x.data, .slice xa9 x.l.length xc9]), rwTh 39 5 (.slice a5 N.length c5) N.length (mcl N)], B.map foB ++ [foTh (.slice xa1 R1.length xc1) R1] ++ [foTh (.slice xa3 R3.length xc3) R3] ++ [foTh (.slice xa5 R5.length xc5) R5], W.map foB ++ [foTh (.slice xa2 R2.length xc2) R2] ++ [foTh (.slice xa4 R4.length xc4) R4] ++ [foTh (.slice xa6 R6.length xc6) R6], X.map woX, Y.map woX, M.map meM ++ [rwTh 41 2 (.slice xa7 v.l.length xc7) v.l.length (pcells v.l)] ++ [rwTh 41 2 (.slice xa9 x.l.length xc9) x.l.length (pcells x.l)], N.map meM ++ [rwTh 41 2 (.slice xa8 v.l.length xc8) v.l.length (pcells v.l)] ++ [rwTh 41 2 (.slice xa10 x.l.length xc10) x.l.length (pcells x.l)]])) := ⟨E1.tCell 0 0 rfl 4 (.slice (some ⟨g13, 0, none⟩) (M.length + 2) cp13)⟩
  clear E1 t1 t2 s70 s71 s72 s73 s74 s90 s91 s92 s93 s94 t0
  generalize w313.setCell ⟨w.heap.size, 4, none⟩ (.slice (some ⟨g13, 0, none⟩) (M.length + 2) cp13) = u13 at *
  have s80 : (_ : Option Value) = some (str v.key) := E0.out.cell (0, 11) rfl 0
  have s81 : (_ : Option Value) = some (.int .i64 v.seq) := E0.out.cell (0, 11) rfl 1
  have s82 : (_ : Option Value) = some (.bool v.mkr) := E0.out.cell (0, 11) rfl 2
  have s83 : (_ : Option Value) = some (str v.data) := E0.out.cell (0, 11) rfl 3
  have s84 : (_ : Option Value) = some (.slice xa8 v.l.length xc8) := E0.out.cell (0, 11) rfl 4
  have s100 : (_ : Option Value) = some (str x.key) := E0.out.cell (0, 13) rfl 0
  have s101 : (_ : Option Value) = some (.int .i64 x.seq) := E0.out.cell (0, 13) rfl 1
  have s102 : (_ : Option Value) = some (.bool x.mkr) := E0.out.cell (0, 13) rfl 2
  have s103 : (_ : Option Value) = some (str x.data) := E0.out.cell (0, 13) rfl 3
  have s104 : (_ : Option Value) = some (.slice xa10 x.l.length xc10) := E0.out.cell (0, 13) rfl 4
  have t0 : (_ : Option Value) = some (.slice a5 N.length c5) := E0.out.cell (0, 0) rfl 5
  go_upto_region 15 with (with_reducible refine at_app rfl ?_; refine app_rw (v := .slice a5 N.length c5) (n := N.length) (m := 2) (xs := mcl N) rfl _ _ 22 rfl Tryz.underlying22 infoV rfl (by decide) (by decide) E0.out 1 5 rfl [str v.key, .int .i64 v.seq, .bool v.mkr, str v.data, .slice xa8 v.l.length xc8, str x.key, .int .i64 x.seq, .bool x.mkr, str x.data, .slice xa10 x.l.length xc10] rfl rfl (by simp [Value.oneCell']) (by decide) (by have := Hlen.out; omega) rfl rfl rfl ?_; intro g14 cp14 w314 E1; have t1 : (_ : Option Value) = some (.slice a5 N.length c5) := E1.cell (0, 0) rfl 5; have t2 := E1.frozen (0, 0) rfl 5)
  replace E0 : Hid (EnvF w0 (w314.setCell ⟨w.heap.size, 5, none⟩ (.slice (some ⟨g14, 0, none⟩) (N.length + 2) cp14)) (TF [[obTh (w.heap.size) #[.slice (some ⟨g11, 0, none⟩) (B.length + 3) cp11, .slice (some ⟨g12, 0, none⟩) (W.length + 3) cp12, .slice a2 X.length c2, .slice a3 Y.length c3, .slice (some ⟨g13, 0, none⟩) (M.length + 2) cp13, .slice (some ⟨g14, 0, none⟩) (N.length + 2) cp14] 45, obTh (w.heap.size + 1) #[.int .i64 next, .slice a L.length c] 24, obTh (w.heap.size + 1 + 1) #[.int .i64 o.kind, str o.key, str o.data, .slice ma o.l.length mc, .int .i64 o.seq, .int .i64 o.most] 34, obTh (w.heap.size + 1 + 1 + 1) #[.slice none 0 0, .slice none 0 0, .slice none 0 0, .slice none 0 0, .slice none 0 0, .slice none 0 0] 45, obTh h1 #[.int .i64 n1, .slice xa1 R1.length xc1] 24, obTh h2 #[.int .i64 n1, .slice xa2 R2.length xc2] 24, obTh h3 #[.int .i64 n2, .slice xa3 R3.length xc3] 24, obTh h4 #[.int .i64 n2, .slice xa4 R4.length xc4] 24, obTh h5 #[.int .i64 n3, .slice xa5 R5.length xc5] 24, obTh h6 #[.int .i64 n3, .slice xa6 R6.length xc6] 24, obTh h7 #[str v.key, .int .i64 v.seq, .bool v.mkr, str v.data, .slice xa7 v.l.length xc7] 39, obTh h8 #[str v.key, .int .i64 v.seq, .bool v.mkr, str v.data, .slice xa8 v.l.length xc8] 39, obTh h9 #[str x.key, .int .i64 x.seq, .bool x.mkr, str x.data, .slice xa9 x.l.length xc9] 39, obTh h10 #[str x.key, .int .i64 x.seq, .bool x.mkr, str x.data, .slice xa10 x.l.length xc10] 39], [rwTh 24 2 (.slice (some ⟨g11, 0, none⟩) (B.length + 3) cp11) (B.length + 3) (bcl B ++ [.int .i64 n1, .slice xa1 R1.length xc1, .int .i64 n2, .slice xa3 R3.length xc3, .int .i64 n3, .slice xa5 R5.length xc5]), rwTh 24 2 (.slice (some ⟨g12, 0, none⟩) (W.length + 3) cp12) (W.length + 3) (bcl W ++ [.int .i64 n1, .slice xa2 R2.length xc2, .int .i64 n2, .slice xa4 R4.length xc4, .int .i64 n3, .slice xa6 R6.length xc6]), rwTh 58 1 (.slice a2 X.length c2) X.length (xcl X), rwTh 58 1 (.slice a3 Y.length c3) Y.length (xcl Y), rwTh 39 5 (.slice (some ⟨g13, 0, none⟩) (M.length + 2) cp13) (M.length + 2) (mcl M ++ [str v.key, .int .i64 v.seq, .bool v.mkr, str v.data, .slice xa7 v.l.length xc7, str x.key, .int .i64 x.seq, .bool x.mkr, str x.data, .slice xa9 x.l.length xc9]), rwTh 39 5 (.slice (some ⟨g14, 0, none⟩) (N.length + 2) cp14) (N.length + 2) (mcl N ++ [str v.key, .int .i64 v.seq, .bool v.mkr, str v.data, .slice xa8 v.l.length xc8, str x.key, .int .i64 x.seq, .bool x.mkr, str x.data, .slice xa10 x.l.length xc10])], B.map foB ++ [foTh (.slice xa1 R1.length xc1) R1] ++ [foTh (.slice xa3 R3.length xc3) R3] ++ [foTh (.slice xa5 R5.length xc5) R5], W.map foB ++ [foTh (.slice xa2 R2.length xc2) R2] ++ [foTh (.slice xa4 R4.length xc4) R4] ++ [foTh (.slice xa6 R6.length xc6) R6], X.map woX, Y.map woX, M.map meM ++ [rwTh 41 2 (.slice xa7 v.l.length xc7) v.l.length (pcells v.l)] ++ [rwTh 41 2 (.slice xa9 x.l.length xc9) x.l.length (pcells x.l)], N.map meM ++ [rwTh 41 2 (.slice xa8 v.l.length xc8) v.l.length (pcells v.l)] ++ [rwTh 41 2 (.slice xa10 x.l.length xc10) x.l.length (pcells x.l)]])) := ⟨E1.tCell 0 0 rfl 5 (.slice (some ⟨g14, 0, none⟩) (N.length + 2) cp14)⟩
  clear E1 t1 t2 s80 s81 s82 s83 s84 s100 s101 s102 s103 s104 t0
  generalize w314.setCell ⟨w.heap.size, 5, none⟩ (.slice (some ⟨g14, 0, none⟩) (N.length + 2) cp14) = u14 at *
  go_cut [] from 34 (fun wx => ∃ g15 cp15 xa11 xc11 xa12 xc12, Hid (EnvF w0 wx (TF [[obTh (w.heap.size) #[.slice (some ⟨g11, 0, none⟩) (B.length + 3) cp11, .slice (some ⟨g12, 0, none⟩) (W.length + 3) cp12, .slice (some ⟨g15, 0, none⟩) (X.length + 2) cp15, .slice a3 Y.length c3, .slice (some ⟨g13, 0, none⟩) (M.length + 2) cp13, .slice (some ⟨g14, 0, none⟩) (N.length + 2) cp14] 45, obTh (w.heap.size + 1) #[.int .i64 next, .slice a L.length c] 24, obTh (w.heap.size + 1 + 1) #[.int .i64 o.kind, str o.key, str o.data, .slice ma o.l.length mc, .int .i64 o.seq, .int .i64 o.most] 34, obTh (w.heap.size + 1 + 1 + 1) #[.slice none 0 0, .slice none 0 0, .slice none 0 0, .slice none 0 0, .slice none 0 0, .slice none 0 0] 45, obTh h1 #[.int .i64 n1, .slice xa1 R1.length xc1] 24, obTh h2 #[.int .i64 n1, .slice xa2 R2.length xc2] 24, obTh h3 #[.int .i64 n2, .slice xa3 R3.length xc3] 24, obTh h4 #[.int .i64 n2, .slice xa4 R4.length xc4] 24, obTh h5 #[.int .i64 n3, .slice xa5 R5.length xc5] 24, obTh h6 #[.int .i64 n3, .slice xa6 R6.length xc6] 24, obTh h7 #[str v.key, .int .i64 v.seq, .bool v.mkr, str v.data, .slice xa7 v.l.length xc7] 39, obTh h8 #[str v.key, .int .i64 v.seq, .bool v.mkr, str v.data, .slice xa8 v.l.length xc8] 39, obTh h9 #[str x.key, .int .i64 x.seq, .bool x.mkr, str x.data, .slice xa9 x.l.length xc9] 39, obTh h10 #[str x.key, .int .i64 x.seq, .bool x.mkr, str x.data, .slice xa10 x.l.length xc10] 39], [rwTh 24 2 (.slice (some ⟨g11, 0, none⟩) (B.length + 3) cp11) (B.length + 3) (bcl B ++ [.int .i64 n1, .slice xa1 R1.length xc1, .int .i64 n2, .slice xa3 R3.length xc3, .int .i64 n3, .slice xa5 R5.length xc5]), rwTh 24 2 (.slice (some ⟨g12, 0, none⟩) (W.length + 3) cp12) (W.length + 3) (bcl W ++ [.int .i64 n1, .slice xa2 R2.length xc2, .int .i64 n2, .slice xa4 R4.length xc4, .int .i64 n3, .slice xa6 R6.length xc6]), rwTh 58 1 (.slice (some ⟨g15, 0, none⟩) (X.length + 2) cp15) (X.length + 2) (xcl X ++ [.slice xa11 y1.length xc11, .slice xa12 y2.length xc12]), rwTh 58 1 (.slice a3 Y.length c3) Y.length (xcl Y), rwTh 39 5 (.slice (some ⟨g13, 0, none⟩) (M.length + 2) cp13) (M.length + 2) (mcl M ++ [str v.key, .int .i64 v.seq, .bool v.mkr, str v.data, .slice xa7 v.l.length xc7, str x.key, .int .i64 x.seq, .bool x.mkr, str x.data, .slice xa9 x.l.length xc9]), rwTh 39 5 (.slice (some ⟨g14, 0, none⟩) (N.length + 2) cp14) (N.length + 2) (mcl N ++ [str v.key, .int .i64 v.seq, .bool v.mkr, str v.data, .slice xa8 v.l.length xc8, str x.key, .int .i64 x.seq, .bool x.mkr, str x.data, .slice xa10 x.l.length xc10])], B.map foB ++ [foTh (.slice xa1 R1.length xc1) R1] ++ [foTh (.slice xa3 R3.length xc3) R3] ++ [foTh (.slice xa5 R5.length xc5) R5], W.map foB ++ [foTh (.slice xa2 R2.length xc2) R2] ++ [foTh (.slice xa4 R4.length xc4) R4] ++ [foTh (.slice xa6 R6.length xc6) R6], X.map woX ++ [rwTh 73 4 (.slice xa11 y1.length xc11) y1.length (wcells y1)] ++ [rwTh 73 4 (.slice xa12 y2.length xc12) y2.length (wcells y2)], Y.map woX, M.map meM ++ [rwTh 41 2 (.slice xa7 v.l.length xc7) v.l.length (pcells v.l)] ++ [rwTh 41 2 (.slice xa9 x.l.length xc9) x.l.length (pcells x.l)], N.map meM ++ [rwTh 41 2 (.slice xa8 v.l.length xc8) v.l.length (pcells v.l)] ++ [rwTh 41 2 (.slice xa10 x.l.length xc10) x.l.length (pcells x.l)]])))
  case first =>
   as_aux_lemma =>
    have ED := E0.out.drew
    have td : (_ : Option Value) = some (.slice a2 X.length c2) := ED.cell (0, 0) rfl 2
    have tp : (_ : Option Value) = some (.int .i64 next) := ED.cell (0, 1) rfl 0
    have tq : (_ : Option Value) = some (.slice a L.length c) := ED.cell (0, 1) rfl 1
    go_region_law (first
      | (with_reducible refine at_sta rfl ?_; refine step_rw (v := .slice a2 X.length c2) (n := X.length) (m := 2) (xs := xcl X) rfl _ _ 43 rfl Tryz.underlying43 infoR rfl (by decide) (by decide) E2 1 2 rfl [.slice xa11 y1.length xc11, .slice xa12 y2.length xc12] rfl rfl (by simp [Value.oneCell']) (by decide) (by have := Hlen.out; omega) rfl rfl rfl ?_; intro g15 cp15 w43 E3; have t1 : (_ : Option Value) = some (.slice a2 X.length c2) := E3.cell (0, 0) rfl 2; have t2 := E3.frozen (0, 0) rfl 2)
      | (go_simp; go_at_call 24; refine Calls.mono (hl1.out _ (HL.out.later ED.bel)) ?_; rintro e w41 ⟨v0, rfl, wo, b1⟩; obtain ⟨xa11, xc11, rfl⟩ := wo_sl wo; have E1 := ED.tRw 4 (by decide : 4 < 8) b1 wo.own; have te : (_ : Option Value) = some (.slice a2 X.length c2) := E1.cell (0, 0) rfl 2; have tp1 : (_ : Option Value) = some (.int .i64 next) := E1.cell (0, 1) rfl 0; have tq1 : (_ : Option Value) = some (.slice a L.length c) := E1.cell (0, 1) rfl 1)
      | (go_simp; go_at_call 25; refine Calls.mono (hl2.out _ (HL.out.later E1.bel)) ?_; rintro e w42 ⟨v1, rfl, wo2, b2⟩; obtain ⟨xa12, xc12, rfl⟩ := wo_sl wo2; have E2 := E1.tRw 4 (by decide : 4 < 8) b2 wo2.own; have tf : (_ : Option Value) = some (.slice a2 X.length c2) := E2.cell (0, 0) rfl 2; have tg : ∀ o, (w42.alloc o).cell? ⟨w.heap.size, 2, none⟩ = some (.slice a2 X.length c2) := fun o => (E2.below ((Below.refl _ _).alloc (Nat.le_refl _) o)).cell (0, 0) rfl 2))
    all_goals (go_wp2_with fail)
    all_goals go_meet
    all_goals exact ⟨g15, cp15, xa11, xc11, xa12, xc12, ⟨E3.tCell 0 0 rfl 2 (.slice (some ⟨g15, 0, none⟩) (X.length + 2) cp15)⟩⟩
  obtain ⟨g15, cp15, xa11, xc11, xa12, xc12, E1⟩ := hcut
  replace E0 := E1
  clear E1
  go_upto_region 16 with fail
  go_cut [] from 34 (fun wx => ∃ g16 cp16 xa13 xc13 xa14 xc14, Hid (EnvF w0 wx (TF [[obTh (w.heap.size) #[.slice (some ⟨g11, 0, none⟩) (B.length + 3) cp11, .slice (some ⟨g12, 0, none⟩) (W.length + 3) cp12, .slice (some ⟨g15, 0, none⟩) (X.length + 2) cp15, .slice (some ⟨g16, 0, none⟩) (Y.length + 2) cp16, .slice (some ⟨g13, 0, none⟩) (M.length + 2) cp13, .slice (some ⟨g14, 0, none⟩) (N.length + 2) cp14] 45, obTh (w.heap.size + 1) #[.int .i64 next, .slice a L.length c] 24, obTh (w.heap.size + 1 + 1) #[.int .i64 o.kind, str o.key, str o.data, .slice ma o.l.length mc, .int .i64 o.seq, .int .i64 o.most] 34, obTh (w.heap.size + 1 + 1 + 1) #[.slice none 0 0, .slice none 0 0, .slice none 0 0, .slice none 0 0, .slice none 0 0, .slice none 0 0] 45, obTh h1 #[.int .i64 n1, .slice xa1 R1.length xc1] 24, obTh h2 #[.int .i64 n1, .slice xa2 R2.length xc2] 24, obTh h3 #[.int .i64 n2, .slice xa3 R3.length xc3] 24, obTh h4 #[.int .i64 n2, .slice xa4 R4.length xc4] 24, obTh h5 #[.int .i64 n3, .slice xa5 R5.length xc5] 24, obTh h6 #[.int .i64 n3, .slice xa6 R6.length xc6] 24, obTh h7 #[str v.key, .int .i64 v.seq, .bool v.mkr, str v.data, .slice xa7 v.l.length xc7] 39, obTh h8 #[str v.key, .int .i64 v.seq, .bool v.mkr, str v.data, .slice xa8 v.l.length xc8] 39, obTh h9 #[str x.key, .int .i64 x.seq, .bool x.mkr, str x.data, .slice xa9 x.l.length xc9] 39, obTh h10 #[str x.key, .int .i64 x.seq, .bool x.mkr, str x.data, .slice xa10 x.l.length xc10] 39], [rwTh 24 2 (.slice (some ⟨g11, 0, none⟩) (B.length + 3) cp11) (B.length + 3) (bcl B ++ [.int .i64 n1, .slice xa1 R1.length xc1, .int .i64 n2, .slice xa3 R3.length xc3, .int .i64 n3, .slice xa5 R5.length xc5]), rwTh 24 2 (.slice (some ⟨g12, 0, none⟩) (W.length + 3) cp12) (W.length + 3) (bcl W ++ [.int .i64 n1, .slice xa2 R2.length xc2, .int .i64 n2, .slice xa4 R4.length xc4, .int .i64 n3, .slice xa6 R6.length xc6]), rwTh 58 1 (.slice (some ⟨g15, 0, none⟩) (X.length + 2) cp15) (X.length + 2) (xcl X ++ [.slice xa11 y1.length xc11, .slice xa12 y2.length xc12]), rwTh 58 1 (.slice (some ⟨g16, 0, none⟩) (Y.length + 2) cp16) (Y.length + 2) (xcl Y ++ [.slice xa13 y1.length xc13, .slice xa14 y2.length xc14]), rwTh 39 5 (.slice (some ⟨g13, 0, none⟩) (M.length + 2) cp13) (M.length + 2) (mcl M ++ [str v.key, .int .i64 v.seq, .bool v.mkr, str v.data, .slice xa7 v.l.length xc7, str x.key, .int .i64 x.seq, .bool x.mkr, str x.data, .slice xa9 x.l.length xc9]), rwTh 39 5 (.slice (some ⟨g14, 0, none⟩) (N.length + 2) cp14) (N.length + 2) (mcl N ++ [str v.key, .int .i64 v.seq, .bool v.mkr, str v.data, .slice xa8 v.l.length xc8, str x.key, .int .i64 x.seq, .bool x.mkr, str x.data, .slice xa10 x.l.length xc10])], B.map foB ++ [foTh (.slice xa1 R1.length xc1) R1] ++ [foTh (.slice xa3 R3.length xc3) R3] ++ [foTh (.slice xa5 R5.length xc5) R5], W.map foB ++ [foTh (.slice xa2 R2.length xc2) R2] ++ [foTh (.slice xa4 R4.length xc4) R4] ++ [foTh (.slice xa6 R6.length xc6) R6], X.map woX ++ [rwTh 73 4 (.slice xa11 y1.length xc11) y1.length (wcells y1)] ++ [rwTh 73 4 (.slice xa12 y2.length xc12) y2.length (wcells y2)], Y.map woX ++ [rwTh 73 4 (.slice xa13 y1.length xc13) y1.length (wcells y1)] ++ [rwTh 73 4 (.slice xa14 y2.length xc14) y2.length (wcells y2)], M.map meM ++ [rwTh 41 2 (.slice xa7 v.l.length xc7) v.l.length (pcells v.l)] ++ [rwTh 41 2 (.slice xa9 x.l.length xc9) x.l.length (pcells x.l)], N.map meM ++ [rwTh 41 2 (.slice xa8 v.l.length xc8) v.l.length (pcells v.l)] ++ [rwTh 41 2 (.slice xa10 x.l.length xc10) x.l.length (pcells x.l)]])))
  case first =>
   as_aux_lemma =>
    have ED := E0.out.drew
    have td : (_ : Option Value) = some (.slice a3 Y.length c3) := ED.cell (0, 0) rfl 3
    have tp : (_ : Option Value) = some (.int .i64 next) := ED.cell (0, 1) rfl 0
    have tq : (_ : Option Value) = some (.slice a L.length c) := ED.cell (0, 1) rfl 1
    go_region_law (first
      | (with_reducible refine at_sta rfl ?_; refine step_rw (v := .slice a3 Y.length c3) (n := Y.length) (m := 2) (xs := xcl Y) rfl _ _ 43 rfl Tryz.underlying43 infoR rfl (by decide) (by decide) E2 1 3 rfl [.slice xa13 y1.length xc13, .slice xa14 y2.length xc14] rfl rfl (by simp [Value.oneCell']) (by decide) (by have := Hlen.out; omega) rfl rfl rfl ?_; intro g16 cp16 w43 E3; have t1 : (_ : Option Value) = some (.slice a3 Y.length c3) := E3.cell (0, 0) rfl 3; have t2 := E3.frozen (0, 0) rfl 3)
      | (go_simp; go_at_call 42; refine Calls.mono (hl3.out _ (HL.out.later ED.bel)) ?_; rintro e w41 ⟨v0, rfl, wo, b1⟩; obtain ⟨xa13, xc13, rfl⟩ := wo_sl wo; have E1 := ED.tRw 5 (by decide : 5 < 8) b1 wo.own; have te : (_ : Option Value) = some (.slice a3 Y.length c3) := E1.cell (0, 0) rfl 3; have tp1 : (_ : Option Value) = some (.int .i64 next) := E1.cell (0, 1) rfl 0; have tq1 : (_ : Option Value) = some (.slice a L.length c) := E1.cell (0, 1) rfl 1)
      | (go_simp; go_at_call 43; refine Calls.mono (hl4.out _ (HL.out.later E1.bel)) ?_; rintro e w42 ⟨v1, rfl, wo2, b2⟩; obtain ⟨xa14, xc14, rfl⟩ := wo_sl wo2; have E2 := E1.tRw 5 (by decide : 5 < 8) b2 wo2.own; have tf : (_ : Option Value) = some (.slice a3 Y.length c3) := E2.cell (0, 0) rfl 3; have tg : ∀ o, (w42.alloc o).cell? ⟨w.heap.size, 3, none⟩ = some (.slice a3 Y.length c3) := fun o => (E2.below ((Below.refl _ _).alloc (Nat.le_refl _) o)).cell (0, 0) rfl 3))
    all_goals (go_wp2_with fail)
    all_goals go_meet
    all_goals exact ⟨g16, cp16, xa13, xc13, xa14, xc14, ⟨E3.tCell 0 0 rfl 3 (.slice (some ⟨g16, 0, none⟩) (Y.length + 2) cp16)⟩⟩
  obtain ⟨g16, cp16, xa13, xc13, xa14, xc14, E1⟩ := hcut
  replace E0 := E1
  clear E1
  have t0 : (_ : Option Value) = some (.slice (some ⟨g11, 0, none⟩) (B.length + 3) cp11) := E0.out.cell (0, 0) rfl 0
  have y10 : (_ : Option Value) = some (.slice none 0 0) := E0.out.cell (0, 3) rfl 0
  have f0 := E0.out.frozen (0, 3) rfl 0
  have t1 : (_ : Option Value) = some (.slice (some ⟨g12, 0, none⟩) (W.length + 3) cp12) := E0.out.cell (0, 0) rfl 1
  have y11 : (_ : Option Value) = some (.slice none 0 0) := E0.out.cell (0, 3) rfl 1
  have f1 := E0.out.frozen (0, 3) rfl 1
  have t2 : (_ : Option Value) = some (.slice (some ⟨g15, 0, none⟩) (X.length + 2) cp15) := E0.out.cell (0, 0) rfl 2
  have y12 : (_ : Option Value) = some (.slice none 0 0) := E0.out.cell (0, 3) rfl 2
  have f2 := E0.out.frozen (0, 3) rfl 2
  have t3 : (_ : Option Value) = some (.slice (some ⟨g16, 0, none⟩) (Y.length + 2) cp16) := E0.out.cell (0, 0) rfl 3
  have y13 : (_ : Option Value) = some (.slice none 0 0) := E0.out.cell (0, 3) rfl 3
  have f3 := E0.out.frozen (0, 3) rfl 3
  have t4 : (_ : Option Value) = some (.slice (some ⟨g13, 0, none⟩) (M.length + 2) cp13) := E0.out.cell (0, 0) rfl 4
  have y14 : (_ : Option Value) = some (.slice none 0 0) := E0.out.cell (0, 3) rfl 4
  have f4 := E0.out.frozen (0, 3) rfl 4
  have t5 : (_ : Option Value) = some (.slice (some ⟨g14, 0, none⟩) (N.length + 2) cp14) := E0.out.cell (0, 0) rfl 5
  have y15 : (_ : Option Value) = some (.slice none 0 0) := E0.out.cell (0, 3) rfl 5
  have f5 := E0.out.frozen (0, 3) rfl 5
  go_wp2_with fail
  refine bodyPost_ret (v := .agg #[.slice (some ⟨g11, 0, none⟩) (B.length + 3) cp11, .slice (some ⟨g12, 0, none⟩) (W.length + 3) cp12, .slice (some ⟨g15, 0, none⟩) (X.length + 2) cp15, .slice (some ⟨g16, 0, none⟩) (Y.length + 2) cp16, .slice (some ⟨g13, 0, none⟩) (M.length + 2) cp13, .slice (some ⟨g14, 0, none⟩) (N.length + 2) cp14]) ?_ rfl ?_
  · rw [results_cell1 rfl]
    go_simp
  · refine ⟨_, _, _, _, _, _, [(n1, .slice xa1 R1.length xc1, R1), (n2, .slice xa3 R3.length xc3, R3), (n3, .slice xa5 R5.length xc5, R5)], [(n1, .slice xa2 R2.length xc2, R2), (n2, .slice xa4 R4.length xc4, R4), (n3, .slice xa6 R6.length xc6, R6)], [(.slice xa11 y1.length xc11, y1), (.slice xa12 y2.length xc12, y2)], [(.slice xa13 y1.length xc13, y1), (.slice xa14 y2.length xc14, y2)], [(v, xa7, xc7), (x, xa9, xc9)], [(v, xa8, xc8), (x, xa10, xc10)], rfl, ?_, ?_, rfl, ?_, ?_, rfl, rfl, ?_, rfl, rfl, ?_⟩
    · refine EnvF.is (EnvF.noK ((((((E0.out.tCell 0 3 rfl 0 (.slice (some ⟨g11, 0, none⟩) (B.length + 3) cp11)).tCell 0 3 rfl 1 (.slice (some ⟨g12, 0, none⟩) (W.length + 3) cp12)).tCell 0 3 rfl 2 (.slice (some ⟨g15, 0, none⟩) (X.length + 2) cp15)).tCell 0 3 rfl 3 (.slice (some ⟨g16, 0, none⟩) (Y.length + 2) cp16)).tCell 0 3 rfl 4 (.slice (some ⟨g13, 0, none⟩) (M.length + 2) cp13)).tCell 0 3 rfl 5 (.slice (some ⟨g14, 0, none⟩) (N.length + 2) cp14))) ?_
      simp [bookL, bcl, xcl, mcl, foB, woX, meM]
    · simp [bval, Hv1.out, Hv2.out, Hv3.out, Hv4.out, Hv5.out, Hv6.out]
    · intro t ht
      simp at ht
      rcases ht with rfl | rfl | rfl
      · exact G1.out
      · exact G3.out
      · exact G5.out
    · intro t ht
      simp at ht
      rcases ht with rfl | rfl | rfl
      · exact G2.out
      · exact G4.out
      · exact G6.out
    · intro t ht
      simp at ht
      rcases ht with rfl | rfl
      · exact hy1.out
      · exact hy2.out
    · intro t ht
      simp at ht
      rcases ht with rfl | rfl
      · exact Hvl.out
      · exact Hxl.out
end Go.Proofs.YtgcdnanfnbdjjaaGreat
