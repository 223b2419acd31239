/- head: the chapter's examples. -/
import Derived.Test.YtaonjmmdgfbceaaSty
namespace Go.Proofs.Ytaonjmmdgfbceaa
set_option linter.unusedVariables false
set_option linter.unusedSimpArgs false
open Go.RowKit
attribute [local go_sem ↓] Go.wp_at_zero Go.wp_at_succ
theorem Cp.li {base : Nat} {w : World} {v : Value} {L : List Vs} (h : Cp base w v L) (hl : L.length ≤ 1954687338240) (hz : ∀ u ∈ L, u.l.length ≤ 4398046510976) : ∃ a c, v = .slice a L.length c ∧ Li w L a L.length c := by
  obtain ⟨a, c, e, s⟩ := h.ls
  exact ⟨a, c, e, rfl, s, hl, hz⟩
def e1v : Vs := ⟨[107], 1, false, [111, 110, 101], []⟩
def e5v : Vs := ⟨[107], 5, true, [], []⟩
def e5w : Vs := ⟨[107], 5, false, [], []⟩
def ejv : Vs := ⟨[106], 1, false, [], []⟩
theorem vi0 (w : World) {v : Vs} (h : v.l = []) : Vi w v none 0 0 := ⟨by rw [h]; rfl, by rw [h]; exact ⟨⟨fun k p hk => by simp at hk⟩, Nat.le_refl _, by omega, fun _ => rfl⟩, by rw [h]; simp⟩
theorem li0 (w : World) : Li w [] none 0 0 := ⟨rfl, Ls.none w, by simp, by simp⟩
theorem one_any (s : Int) (d : List UInt8) (w : World) : Calls Try.prog 34 #[.int .i64 s, str d] w fun e w' => e = .returned (vv [107] s false d none 0 0) ∧ Below w.heap.size w w' := by
  have b0 := (Below.refl w.heap.size w).alloc (Nat.le_refl _) (.cells #[str [107], .int .i64 s, .bool false, str d, .slice none 0 0] 33)
  obtain ⟨g0, g1, g2, g3, g4, _⟩ := (Bv.new w (str [107]) (.int .i64 s) (.bool false) (str d) (.slice none 0 0)).cells
  go_enter Try.func34, Try.ntmps34
  go_wp2_with fail
  refine bodyPost_ret (v := vv [107] s false d none 0 0) ?_ rfl ⟨rfl, b0⟩
  rw [results_cell1 rfl]
  go_simp
/-- a Push of the examples -/
theorem pu_ok (L : List Vs) (v : Vs) (hv : v.l = []) (hL : L.length ≤ 5) (hz : ∀ u ∈ L, u.l = []) (h : puE L v = 0) (w : World) (a : Option Addr) (c : Nat) (hl : Li w L a L.length c) :
    Calls Try.prog 15 #[.slice a L.length c, vv v.key v.seq v.mkr v.data none 0 0] w fun e w' => ∃ a' c', e = .returned (.tuple #[.slice a' (L.length + 1) c', .int .i64 0]) ∧ Li w' (L ++ [v]) a' (L.length + 1) c' ∧ Below w.heap.size w w' := by
  refine (push_any L v w a _ c none 0 0 hl (vi0 w hv)).mono ?_
  rintro e w' ⟨r, rfl, hc, hb⟩
  rw [puL_ok h] at hc
  obtain ⟨a', c', rfl, hi⟩ := hc.li (by simp; omega) (fun u hu => by
    rcases List.mem_append.1 hu with q | q
    · rw [hz u q]; simp
    · simp at q; subst q; rw [hv]; simp)
  rw [List.length_append] at hi
  exact ⟨a', c', by rw [h, List.length_append]; rfl, hi, hb⟩
theorem pu_no (L : List Vs) (v : Vs) (hv : v.l = []) {n : Int} (h : puE L v = n) (w : World) (a : Option Addr) (c : Nat) (hl : Li w L a L.length c) :
    Calls Try.prog 15 #[.slice a L.length c, vv v.key v.seq v.mkr v.data none 0 0] w fun e w' => ∃ r, e = .returned (.tuple #[r, .int .i64 n]) ∧ Below w.heap.size w w' := by
  refine (push_any L v w a _ c none 0 0 hl (vi0 w hv)).mono ?_
  rintro e w' ⟨r, rfl, hc, hb⟩
  exact ⟨r, by rw [h], hb⟩
theorem hx1 : puE [] e1v = 0 := puE_nil0 (by decide)
theorem hx2 : puE [e1v] e5v = 0 := puE_ok (u := e1v) rfl rfl (by decide)
theorem hx3 : puE [e1v, e5v] e5w = 74 := puE_seq (u := e5v) rfl rfl (by decide)
theorem hx4 : puE [e1v] ejv = 61 := puE_key (u := e1v) rfl (by decide)
theorem hx5 : toE [e1v] = 0 ∧ toV [e1v] = e1v := ⟨toE_ok (u := e1v) rfl rfl, toV_ok (u := e1v) rfl rfl⟩
theorem hx6 : toE [e1v, e5v] = 73 ∧ toV [e1v, e5v] = vs0 := ⟨toE_mk (u := e5v) rfl rfl, toV_mk (u := e5v) rfl rfl⟩
theorem hx7 : geE [e1v, e5v] 5 = 0 ∧ rmL [e1v, e5v] 5 = [e1v] := ⟨by decide, by simp [rmL, plc, e1v, e5v]⟩
theorem hx8 : snc [e1v, e5v] 2 = [e5v] := by simp [snc, e1v, e5v]
theorem hx9 : rwsL [e1v, e5v] = [⟨[107], 5, true, 0⟩, ⟨[107], 1, false, 3⟩] := rfl
set_option maxHeartbeats 4000000 in
theorem head_any (w : World) : Calls Try.prog 8 #[] w fun e w' => e = .returned (.bool true) ∧ Below w.heap.size w w' := by
  have p1 : ∀ w, Calls Try.prog 15 #[.slice none 0 0, vv [107] 1 false [111, 110, 101] none 0 0] w fun e w' => ∃ a' c', e = .returned (.tuple #[.slice a' 1 c', .int .i64 0]) ∧ Li w' [e1v] a' 1 c' ∧ Below w.heap.size w w' := fun w => pu_ok [] e1v rfl (by simp) (by simp) hx1 w none 0 (li0 w)
  have p2 : ∀ w a c, Li w [e1v] a 1 c → Calls Try.prog 15 #[.slice a 1 c, vv [107] 5 true [] none 0 0] w fun e w' => ∃ a' c', e = .returned (.tuple #[.slice a' 2 c', .int .i64 0]) ∧ Li w' [e1v, e5v] a' 2 c' ∧ Below w.heap.size w w' := fun w a c h => pu_ok [e1v] e5v rfl (by simp) (by simp [e1v]) hx2 w a c h
  have p3 : ∀ w a c, Li w [e1v, e5v] a 2 c → Calls Try.prog 15 #[.slice a 2 c, vv [107] 5 false [] none 0 0] w fun e w' => ∃ r, e = .returned (.tuple #[r, .int .i64 74]) ∧ Below w.heap.size w w' := fun w a c h => pu_no [e1v, e5v] e5w rfl hx3 w a c h
  have p4 : ∀ w a c, Li w [e1v] a 1 c → Calls Try.prog 15 #[.slice a 1 c, vv [106] 1 false [] none 0 0] w fun e w' => ∃ r, e = .returned (.tuple #[r, .int .i64 61]) ∧ Below w.heap.size w w' := fun w a c h => pu_no [e1v] ejv rfl hx4 w a c h
  have t1 : ∀ w a c, Li w [e1v] a 1 c → Calls Try.prog 25 #[.slice a 1 c] w fun e w' => ∃ a' c', e = .returned (.tuple #[vv [107] 1 false [111, 110, 101] a' 0 c', .int .i64 0]) ∧ Below w.heap.size w w' := fun w a c h => by
    refine (top_any [e1v] w a 1 c h).mono ?_
    rintro e w' ⟨a', c', rfl, _, hb⟩
    rw [hx5.1, hx5.2]
    exact ⟨a', c', rfl, hb⟩
  have t2 : ∀ w a c, Li w [e1v, e5v] a 2 c → Calls Try.prog 25 #[.slice a 2 c] w fun e w' => ∃ a' c', e = .returned (.tuple #[vv [] 0 false [] a' 0 c', .int .i64 73]) ∧ Below w.heap.size w w' := fun w a c h => by
    refine (top_any [e1v, e5v] w a 2 c h).mono ?_
    rintro e w' ⟨a', c', rfl, _, hb⟩
    rw [hx6.1, hx6.2]
    exact ⟨a', c', rfl, hb⟩
  have t3 : ∀ w, Calls Try.prog 25 #[.slice none 0 0] w fun e w' => ∃ a' c', e = .returned (.tuple #[vv [] 0 false [] a' 0 c', .int .i64 72]) ∧ Below w.heap.size w w' := fun w => by
    refine (top_any [] w none 0 0 (li0 w)).mono ?_
    rintro e w' ⟨a', c', rfl, _, hb⟩
    exact ⟨a', c', rfl, hb⟩
  have r1 : ∀ w a c, Li w [e1v, e5v] a 2 c → Calls Try.prog 10 #[.slice a 2 c, .int .i64 5] w fun e w' => ∃ a' c', e = .returned (.tuple #[.slice a' 1 c', .int .i64 0]) ∧ Below w.heap.size w w' := fun w a c h => by
    refine (remove_any [e1v, e5v] 5 w a 2 c h).mono ?_
    rintro e w' ⟨r, rfl, hc, hb⟩
    rw [hx7.2] at hc
    obtain ⟨a', c', rfl, _⟩ := hc.ls
    exact ⟨a', c', by rw [hx7.1]; rfl, hb⟩
  have s1 : ∀ w a c, Li w [e1v, e5v] a 2 c → Calls Try.prog 13 #[.slice a 2 c, .int .i64 2] w fun e w' => ∃ a' c', e = .returned (.slice a' 1 c') ∧ Below w.heap.size w w' := fun w a c h => by
    refine (since_any [e1v, e5v] 2 w a 2 c h).mono ?_
    rintro e w' ⟨r, rfl, hc, hb⟩
    rw [hx8] at hc
    obtain ⟨a', c', rfl, _⟩ := hc.ls
    exact ⟨a', c', rfl, hb⟩
  have rw1 : ∀ w a c, Li w [e1v, e5v] a 2 c → Calls Try.prog 14 #[.slice a 2 c] w fun e w' => ∃ b' off c', e = .returned (.slice (some ⟨b', off, none⟩) 2 c') ∧ b' < w'.heap.size ∧ w'.cell? ⟨b', off, none⟩ = some (.string ⟨#[107]⟩) ∧ w'.cell? ⟨b', off + 1, none⟩ = some (.int .i64 5) ∧ w'.cell? ⟨b', off + 2, none⟩ = some (.bool true) ∧ w'.cell? ⟨b', off + 3, none⟩ = some (.int .i64 0) ∧ w'.cell? ⟨b', off + 4 + 3, none⟩ = some (.int .i64 3) ∧ Below w.heap.size w w' := fun w a c h => by
    refine (rows_any [e1v, e5v] w a 2 c h).mono ?_
    rintro e w' ⟨r, rfl, hc, hb⟩
    rw [hx9] at hc
    obtain ⟨a', c', rfl, hi⟩ := hc.sl
    obtain ⟨b', off, rfl, hb', c0, c1, c2, c3⟩ := hi.get 0 _ rfl
    obtain ⟨b2, off2, e2, _, d0, d1, d2, d3⟩ := hi.get 1 _ rfl
    injection e2 with e2
    injection e2 with e2 e3
    subst e2 e3
    exact ⟨b', off, c', rfl, hb', c0, c1, c2, c3, d3, hb⟩
  go_enter Try.func8, Try.ntmps8
  go_wp2_with fail
  with_reducible refine Calls.mono (one_any 1 [111, 110, 101] w) ?_
  rintro e w1 ⟨rfl, b1⟩
  dsimp only
  go_wp2_with fail
  with_reducible refine Calls.mono (p1 w1) ?_
  rintro e w2 ⟨a2, c2, rfl, i2, b2⟩
  dsimp only
  have B2 := below_seq b1 b2
  clear b1 b2 p1
  go_wp2_with fail
  with_reducible refine Calls.mono (p2 w2 _ _ i2) ?_
  rintro e w3 ⟨a3, c3, rfl, i3, b3⟩
  dsimp only
  have B3 := below_seq B2 b3
  have i2' := i2.later b3
  clear B2 b3 p2 i2
  go_wp2_with fail
  with_reducible refine Calls.mono (one_any 5 [] w3) ?_
  rintro e w4 ⟨rfl, b4⟩
  dsimp only
  have B4 := below_seq B3 b4
  have i3' := i3.later b4
  have i2'' := i2'.later b4
  clear B3 b4 i3 i2'
  go_wp2_with fail
  with_reducible refine Calls.mono (p3 w4 _ _ i3') ?_
  rintro e w5 ⟨r5, rfl, b5⟩
  dsimp only
  have B5 := below_seq B4 b5
  have i3 := i3'.later b5
  have i2 := i2''.later b5
  clear B4 b5 i3' i2'' p3
  go_wp2_with fail
  with_reducible refine Calls.mono (p4 w5 _ _ i2) ?_
  rintro e w6 ⟨r6, rfl, b6⟩
  dsimp only
  have B6 := below_seq B5 b6
  have i3' := i3.later b6
  have i2' := i2.later b6
  clear B5 b6 i3 i2 p4
  go_wp2_with fail
  with_reducible refine Calls.mono (t1 w6 _ _ i2') ?_
  rintro e w7 ⟨a7, c7, rfl, b7⟩
  dsimp only
  have B7 := below_seq B6 b7
  have i3 := i3'.later b7
  have z7 := Bv.new w7 (str [107]) (.int .i64 1) (.bool false) (str [111, 110, 101]) (.slice a7 0 c7)
  have bz := (Below.refl w7.heap.size w7).alloc (Nat.le_refl _) (.cells #[str [107], .int .i64 1, .bool false, str [111, 110, 101], .slice a7 0 c7] 33)
  have B8 := below_seq B7 bz
  have i8 := i3.later bz
  clear B6 B7 b7 i3' i2' t1 i3 bz
  go_wp2_with fail
  generalize w7.alloc (.cells #[str [107], .int .i64 1, .bool false, str [111, 110, 101], .slice a7 0 c7] 33) = w8 at *
  with_reducible refine Calls.mono (t2 w8 _ _ i8) ?_
  rintro e w9 ⟨a9, c9, rfl, b9⟩
  dsimp only
  have B9 := below_seq B8 b9
  have i9 := i8.later b9
  have z9 := z7.later b9
  clear B8 b9 i8 z7 t2
  go_wp2_with fail
  with_reducible refine Calls.mono (t3 w9) ?_
  rintro e w10 ⟨a10, c10, rfl, b10⟩
  dsimp only
  have B10 := below_seq B9 b10
  have i10 := i9.later b10
  have z10 := z9.later b10
  clear B9 b10 i9 z9 t3
  go_wp2_with fail
  with_reducible refine Calls.mono (r1 w10 _ _ i10) ?_
  rintro e w11 ⟨a11, c11, rfl, b11⟩
  dsimp only
  have B11 := below_seq B10 b11
  have i11 := i10.later b11
  have z11 := z10.later b11
  clear B10 b11 i10 z10 r1
  go_wp2_with fail
  with_reducible refine Calls.mono (rw1 w11 _ _ i11) ?_
  rintro e w12 ⟨b', off, c', rfl, hb', k0, k1, k2, k3, k4, b12⟩
  dsimp only
  have B12 := below_seq B11 b12
  have i12 := i11.later b12
  have z12 := z11.later b12
  obtain ⟨_, _, _, y3, _, _⟩ := z12.cells
  clear B11 b12 i11 z11 rw1 z12
  go_wp2_with fail
  with_reducible refine Calls.mono (s1 w12 _ _ i12) ?_
  rintro e w13 ⟨a13, c13, rfl, b13⟩
  dsimp only
  have B13 := below_seq B12 b13
  clear b13 i12 s1 k0 k1 k2 k3 k4 y3
  go_wp2_with fail
  go_ret
  exact ⟨rfl, B13⟩
end Go.Proofs.Ytaonjmmdgfbceaa
