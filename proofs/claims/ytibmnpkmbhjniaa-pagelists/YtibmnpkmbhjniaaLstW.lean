/- PageLists: the walk. -/
import Derived.Test.YtibmnpkmbhjniaaRsp
namespace Go.Proofs.Ytibmnpkmbhjniaa
set_option linter.unusedVariables false
set_option linter.unusedSimpArgs false
open Go.RowKit
attribute [local go_sem ↓] Go.wp_at_zero Go.wp_at_succ
attribute [local go_sem ↓] slPe sl9
theorem tot_bound {l : List En} {M : Nat} (h : ∀ e ∈ l, sz e ≤ M) : tot l ≤ l.length * M := by
  induction l with
  | nil => simp [tot_nil]
  | cons e l ih =>
    have h1 := h e List.mem_cons_self
    have h2 := ih fun x hx => h x (List.mem_cons_of_mem _ hx)
    rw [tot_cons, List.length_cons, Nat.add_mul]
    omega
set_option maxHeartbeats 8000000 in
theorem pageLists_walk (raw : List En) (a : Option Addr) (cap : Nat) (key value : List UInt8) (W : World) (hP : PIn W a raw) (hz : ∀ (k : Nat) (e : En), raw[k]? = some e → e.key.length ≤ 140737488351232 ∧ e.val.length ≤ 140737488351232) (hl : raw.length ≤ 4398046510976)
    (hsl : raw.length ≤ cap ∧ cap ≤ 9223372036854775807 ∧ (a = none → cap = 0)) (hk : key.length ≤ 140737488351232) (hv : value.length ≤ 140737488351232) :
    Calls Try.prog 8 #[.slice a raw.length cap, str key, str value] W fun e W' => e = .returned (.bool true) ∧ Below W.heap.size W W' := by
  have hzm : ∀ e ∈ raw, sz e ≤ 300000000000000 := fun e he => by
    obtain ⟨k, hk, rfl⟩ := List.mem_iff_getElem.1 he
    have := hz k raw[k] (List.getElem?_eq_getElem hk)
    unfold sz; omega
  have htL : tot (srtd raw) ≤ 4000000000000000000 := by
    have h1 := tot_bound (l := srtd raw) (M := 300000000000000) fun e he => hzm e (srtd_mem he)
    have h2 := srtd_len raw
    have h3 : (srtd raw).length * 300000000000000 ≤ 200 * 300000000000000 := Nat.mul_le_mul_right _ h2
    omega
  have htR : tot (raw.take 200) ≤ 4000000000000000000 := by
    have h1 := tot_bound (l := raw.take 200) (M := 300000000000000) fun e he => hzm e (List.mem_of_mem_take he)
    have h2 : (raw.take 200).length ≤ 200 := by rw [List.length_take]; omega
    have h3 : (raw.take 200).length * 300000000000000 ≤ 200 * 300000000000000 := Nat.mul_le_mul_right _ h2
    omega
  have hLs := srtd_srt raw
  have hLl := srtd_len raw
  have hso := fun w h => sorted_any raw w a raw.length cap rfl h (by omega)
  have hSR : ∀ w, PIn w a raw → Sl w a cap raw := fun w h => ⟨h, hsl.1, hsl.2.1, hsl.2.2⟩
  clear hzm
  generalize srtd raw = L at *
  have hfi := fun w a cap h => find_any L key hLs w a cap h (by omega)
  have hrf := fun w a cap h => rFind_any L key w a cap h (by omega)
  have hpu := fun w a n cap hn h => put_any L key value hLs w a n cap hn h (by omega)
  have hrp := fun w a n cap hn h => rPut_any L key value w a n cap hn h (by omega)
  have hde := fun w a n cap hn h => delete_any L key hLs w a n cap hn h (by omega)
  have hrd := fun w a n cap hn h => rDelete_any L key w a n cap hn h (by omega)
  have hsp := fun w a cap h => split_any L w a cap h (by omega)
  have hrs := fun w a n cap hn h => rSplit_any L w a n cap hn h (by omega) htL
  have hpl : (put L key value).length ≤ 201 := by rw [put_len]; split <;> omega
  have hdl : (del L key).length ≤ 200 := by rw [del_len]; omega
  have hcl := cutw_le L
  have hsX : ∀ (X : List En), X.length ≤ 1000 → ∀ w pa pb na nb ca cb, X.length = na → X.length = nb → PIn w pa X → PIn w pb X → Calls Try.prog 13 #[.slice pa na ca, .slice pb nb cb] w fun e w' => e = .returned (.bool true) ∧ Below w.heap.size w w' := fun X hX w pa pb na nb ca cb e1 e2 h1 h2 => by
    have := same_any X X w pa pb na nb ca cb e1 e2 h1 h2 (by omega) (by omega)
    rw [same_true rfl] at this
    exact this
  have hat : (L.take (cutw L)).length ≤ 1000 := by rw [List.length_take]; omega
  have hbt : (L.drop (cutw L)).length ≤ 1000 := by rw [List.length_drop]; omega
  unfold found at hfi hrf
  generalize put L key value = PL at *
  generalize fnd L key = f at *
  go_enter Try.func8, Try.ntmps8
  go_wp2_with fail
  refine (hso _ hP).mono ?_
  rintro e w1 ⟨v1, rfl, o1, b1⟩
  dsimp only
  obtain ⟨a1, c1, rfl, s1⟩ := o1.sl
  clear o1 hso
  go_wp2_with fail
  refine (lent_any L w1 a1 L.length c1 rfl s1 (by omega)).mono ?_
  rintro e w2 ⟨a2, c2, rfl, o2, b2⟩
  dsimp only
  have s2 : Sl w2 a2 c2 (L ++ [mk]) := by
    obtain ⟨a', c', e', s'⟩ := o2.sl
    injection e' with e1 e2 e3
    subst e1 e3
    exact s'
  have S1 := s1.later b2
  have B2 := below_seq b1 b2
  clear o2 s1 b1 b2
  go_wp2_with fail
  refine (hfi _ _ _ s2.head.at').mono ?_
  rintro e w3 ⟨rfl, b3⟩
  dsimp only
  go_wp2_with fail
  refine (hrf _ _ _ (S1.later b3).at').mono ?_
  rintro e w4 ⟨rfl, b4⟩
  dsimp only
  have q4 := below_seq b3 b4
  clear b3 b4 hfi hrf
  go_wp2_with fail
  refine (hpu _ _ _ _ rfl (s2.later q4).head).mono ?_
  rintro e w5 ⟨v5, rfl, o5, b5⟩
  dsimp only
  obtain ⟨a5, c5, rfl, s5⟩ := o5.sl
  have q5 := below_seq q4 b5
  clear o5 b5 q4 hpu
  go_wp2_with fail
  refine (hde _ _ _ _ rfl (s2.later q5).head).mono ?_
  rintro e w6 ⟨v6, rfl, o6, b6⟩
  dsimp only
  obtain ⟨a6, c6, rfl, s6⟩ := o6.sl
  have q6 := below_seq q5 b6
  have s5b := s5.later b6
  clear o6 b6 q5 hde s5
  go_wp2_with fail
  refine (hrd _ _ _ _ rfl (S1.later q6)).mono ?_
  rintro e w7 ⟨v7, rfl, o7, b7⟩
  dsimp only
  obtain ⟨a7, c7, rfl, s7⟩ := o7.sl
  have q7 := below_seq q6 b7
  have s5c := s5b.later b7
  have s6c := s6.later b7
  clear o7 b7 q6 hrd s5b s6
  go_wp2_with fail
  refine (hsp _ _ _ (s2.later q7).head).mono ?_
  rintro e w8 ⟨v8, y8, rfl, t8, b8⟩
  dsimp only
  obtain ⟨a8, c8, rfl, s8⟩ := t8.ox.sl
  obtain ⟨a9, c9, rfl, s9⟩ := t8.oy.sl
  have q8 := below_seq q7 b8
  have s5d := s5c.later b8
  have s6d := s6c.later b8
  have s7d := s7.later b8
  clear t8 b8 q7 hsp s5c s6c s7
  go_wp2_with fail
  refine (hrs _ _ _ _ rfl (S1.later q8)).mono ?_
  rintro e w9 ⟨v9, y9, rfl, t9, b9⟩
  dsimp only
  obtain ⟨a10, c10, rfl, s10⟩ := t9.ox.sl
  obtain ⟨a11, c11, rfl, s11⟩ := t9.oy.sl
  have q9 := below_seq q8 b9
  have s5e := s5d.later b9
  have s6e := s6d.later b9
  have s7e := s7d.later b9
  have s8e := s8.later b9
  have s9e := s9.later b9
  clear t9 b9 q8 hrs s5d s6d s7d s8 s9
  have hbb : (hit L key != hit L key) = false := by simp
  generalize hit L key = hb at *
  go_wp2_with fail
  refine (hrp _ _ _ _ rfl (S1.later q9)).mono ?_
  rintro e w10 ⟨v10, rfl, o10, b10⟩
  dsimp only
  obtain ⟨a12, c12, rfl, s12⟩ := o10.sl
  have q10 := below_seq q9 b10
  have s5f := s5e.later b10
  have s6f := s6e.later b10
  have s7f := s7e.later b10
  have s8f := s8e.later b10
  have s9f := s9e.later b10
  have s10f := s10.later b10
  have s11f := s11.later b10
  clear o10 b10 q9 hrp s5e s6e s7e s8e s9e s10 s11
  generalize del L key = DL at *
  have lx : (L.take (cutw L)).length = cutw L := by rw [List.length_take]; omega
  have ly : (L.drop (cutw L)).length = L.length - cutw L := List.length_drop
  generalize L.take (cutw L) = X at *
  generalize L.drop (cutw L) = Y at *
  generalize hcw : cutw L = cw at *
  go_wp2_with fail
  with_reducible refine Calls.mono (hsX PL (by omega) w10 a5 a12 _ _ c5 c12 rfl rfl s5f.at' s12.at') ?_
  rintro e w11 ⟨rfl, b⟩
  dsimp only
  have p11 : Below w10.heap.size w10 w11 := b
  clear b
  go_wp2_with fail
  with_reducible refine Calls.mono (hsX DL (by omega) w11 a6 a7 _ _ c6 c7 rfl rfl (s6f.later p11).at' (s7f.later p11).at') ?_
  rintro e w12 ⟨rfl, b⟩
  dsimp only
  have p12 := below_seq p11 b
  clear b p11
  go_wp2_with fail
  with_reducible refine Calls.mono (hsX X hat w12 a8 a10 _ _ c8 c10 lx lx (s8f.later p12).at' (s10f.later p12).at') ?_
  rintro e w13 ⟨rfl, b⟩
  dsimp only
  have p13 := below_seq p12 b
  clear b p12
  go_wp2_with fail
  with_reducible refine Calls.mono (hsX Y hbt w13 a9 a11 _ _ c9 c11 ly ly (s9f.later p13).at' (s11f.later p13).at') ?_
  rintro e w14 ⟨rfl, b⟩
  dsimp only
  have p14 := below_seq p13 b
  clear b p13 s5f s6f s7f s8f s9f s10f s11f s12
  have k2 := (s2.later q10).later p14
  have k1 := (S1.later q10).later p14
  have B14 := B2.trans ((below_seq q10 p14).mono B2.size)
  have hP14 := hP.later B14
  clear s2 S1 q10 p14 B2 hP
  go_wp2_with fail
  with_reducible refine Calls.mono (kept_any L w14 a2 a1 L.length c2 c1 rfl k2 k1.at' (by omega)) ?_
  rintro e w15 ⟨rfl, b15⟩
  dsimp only
  have hP15 := hSR _ (hP14.later b15)
  have B15 := below_seq B14 b15
  clear k1 k2 b15 B14 hP14 hSR hsl
  have hcR := cutw_le (raw.take 200)
  have hsp2 := fun w a cap h => split_any (raw.take 200) w a cap h (by rw [List.length_take]; omega)
  have hrs2 := fun w a n cap hn h => rSplit_any (raw.take 200) w a n cap hn h (by rw [List.length_take]; omega) htR
  by_cases h2 : 200 < raw.length
  · have d2 : decide ((200 : Int) < (raw.length : Int)) = true := decide_eq_true (by omega)
    have r2 : ∀ w, (slP (.slice a raw.length cap) none (some (.int .i64 200)) none).run Try.prog w = .ok (.slice a 200 cap) w := fun w => run_slP a raw.length cap 200 (by have := hP15.le; omega) hP15.max hP15.nil w
    have S15 := hP15.take 200
    have hRn : (raw.take 200).length = 200 := by rw [List.length_take]; omega
    clear hP15
    go_wp2_with fail
    generalize hRR : raw.take 200 = R at *
    have hRl : R.length ≤ 200 := by rw [← hRR, List.length_take]; omega
    have lx2 : (R.take (cutw R)).length = cutw R := by rw [List.length_take]; omega
    have ly2 : (R.drop (cutw R)).length = R.length - cutw R := List.length_drop
    rw [hRn] at ly2
    have hat2 : (R.take (cutw R)).length ≤ 1000 := by rw [List.length_take]; omega
    have hbt2 : (R.drop (cutw R)).length ≤ 1000 := by rw [List.length_drop]; omega
    with_reducible refine Calls.mono (lent_any R w15 a 200 cap hRn S15 (by omega)) ?_
    rintro e w16 ⟨a16, c16, rfl, o16, b16⟩
    dsimp only
    have s16 : Sl w16 a16 c16 (R ++ [mk]) := by
      obtain ⟨a', c', e', s'⟩ := o16.sl
      injection e' with e1 e2 e3
      subst e1 e3
      exact s'
    have S16 := S15.later b16
    have B16 := below_seq B15 b16
    clear o16 b16 B15 S15
    go_wp2_with fail
    have hsp3 : ∀ w a cap, Sl w a cap R → Calls Try.prog 22 #[.slice a 200 cap] w (SplitP w R (cutw R)) := fun w a cap h => by
      have := hsp2 w a cap h
      rw [hRn] at this
      exact this
    with_reducible refine Calls.mono (hsp3 _ _ _ s16.head) ?_
    rintro e w17 ⟨v17, y17, rfl, t17, b17⟩
    dsimp only
    obtain ⟨a17, c17, rfl, s17⟩ : ∃ a cp, v17 = .slice a (cutw R) cp ∧ Sl w17 a cp (R.take (cutw R)) := by have := t17.ox.sl; rw [lx2] at this; exact this
    obtain ⟨a18, c18, rfl, s18⟩ : ∃ a cp, y17 = .slice a (200 - cutw R) cp ∧ Sl w17 a cp (R.drop (cutw R)) := by have := t17.oy.sl; rw [ly2] at this; exact this
    clear t17 hsp2 hsp3
    go_wp2_with fail
    with_reducible refine Calls.mono (hrs2 _ _ _ _ hRn (S16.later b17)) ?_
    rintro e w19 ⟨v19, y19, rfl, t19, b19⟩
    dsimp only
    obtain ⟨a19, c19, rfl, s19⟩ : ∃ a cp, v19 = .slice a (cutw R) cp ∧ Sl w19 a cp (R.take (cutw R)) := by have := t19.ox.sl; rw [lx2] at this; exact this
    obtain ⟨a20, c20, rfl, s20⟩ : ∃ a cp, y19 = .slice a (200 - cutw R) cp ∧ Sl w19 a cp (R.drop (cutw R)) := by have := t19.oy.sl; rw [ly2] at this; exact this
    have q19 := below_seq b17 b19
    have s17b := s17.later b19
    have s18b := s18.later b19
    clear t19 hrs2 b17 b19 s17 s18
    generalize R.take (cutw R) = X2 at *
    generalize R.drop (cutw R) = Y2 at *
    generalize hcw2 : cutw R = cw2 at *
    go_wp2_with fail
    with_reducible refine Calls.mono (hsX X2 hat2 w19 a17 a19 _ _ c17 c19 lx2 lx2 s17b.at' s19.at') ?_
    rintro e w20 ⟨rfl, b⟩
    dsimp only
    have p20 : Below w19.heap.size w19 w20 := b
    clear b
    go_wp2_with fail
    with_reducible refine Calls.mono (hsX Y2 hbt2 w20 a18 a20 _ _ c18 c20 ly2 ly2 (s18b.later p20).at' (s20.later p20).at') ?_
    rintro e w21 ⟨rfl, b⟩
    dsimp only
    have p21 := below_seq q19 (below_seq p20 b)
    clear b p20 q19 s17b s18b s19 s20
    go_wp2_with fail
    with_reducible refine Calls.mono (kept_any R w21 a16 a 200 c16 cap hRn (s16.later p21) (S16.later p21).at' (by omega)) ?_
    rintro e w22 ⟨rfl, b22⟩
    dsimp only
    have B22 := below_seq (below_seq B16 p21) b22
    clear b22 p21 B16 s16 S16
    go_wp2_with fail
    refine (first_any _).mono ?_
    rintro e w23 ⟨rfl, b23⟩
    dsimp only
    go_wp2_with fail
    go_ret
    exact ⟨rfl, below_seq B22 b23⟩
  · have d2 : decide ((200 : Int) < (raw.length : Int)) = false := decide_eq_false (by omega)
    have hR0 : raw.take 200 = raw := List.take_of_length_le (by omega)
    have S15 : Sl w15 a cap (raw.take 200) := by rw [hR0]; exact hP15
    have hRn : (raw.take 200).length = raw.length := by rw [hR0]
    clear hP15 hR0
    go_wp2_with fail
    generalize hRR : raw.take 200 = R at *
    have hRl : R.length ≤ 200 := by rw [← hRR, List.length_take]; omega
    have lx2 : (R.take (cutw R)).length = cutw R := by rw [List.length_take]; omega
    have ly2 : (R.drop (cutw R)).length = R.length - cutw R := List.length_drop
    rw [hRn] at ly2
    have hat2 : (R.take (cutw R)).length ≤ 1000 := by rw [List.length_take]; omega
    have hbt2 : (R.drop (cutw R)).length ≤ 1000 := by rw [List.length_drop]; omega
    with_reducible refine Calls.mono (lent_any R w15 a raw.length cap hRn S15 (by omega)) ?_
    rintro e w16 ⟨a16, c16, rfl, o16, b16⟩
    dsimp only
    have s16 : Sl w16 a16 c16 (R ++ [mk]) := by
      obtain ⟨a', c', e', s'⟩ := o16.sl
      injection e' with e1 e2 e3
      subst e1 e3
      exact s'
    have S16 := S15.later b16
    have B16 := below_seq B15 b16
    clear o16 b16 B15 S15
    go_wp2_with fail
    have hsp3 : ∀ w a cap, Sl w a cap R → Calls Try.prog 22 #[.slice a raw.length cap] w (SplitP w R (cutw R)) := fun w a cap h => by
      have := hsp2 w a cap h
      rw [hRn] at this
      exact this
    with_reducible refine Calls.mono (hsp3 _ _ _ s16.head) ?_
    rintro e w17 ⟨v17, y17, rfl, t17, b17⟩
    dsimp only
    obtain ⟨a17, c17, rfl, s17⟩ : ∃ a cp, v17 = .slice a (cutw R) cp ∧ Sl w17 a cp (R.take (cutw R)) := by have := t17.ox.sl; rw [lx2] at this; exact this
    obtain ⟨a18, c18, rfl, s18⟩ : ∃ a cp, y17 = .slice a (raw.length - cutw R) cp ∧ Sl w17 a cp (R.drop (cutw R)) := by have := t17.oy.sl; rw [ly2] at this; exact this
    clear t17 hsp2 hsp3
    go_wp2_with fail
    with_reducible refine Calls.mono (hrs2 _ _ _ _ hRn (S16.later b17)) ?_
    rintro e w19 ⟨v19, y19, rfl, t19, b19⟩
    dsimp only
    obtain ⟨a19, c19, rfl, s19⟩ : ∃ a cp, v19 = .slice a (cutw R) cp ∧ Sl w19 a cp (R.take (cutw R)) := by have := t19.ox.sl; rw [lx2] at this; exact this
    obtain ⟨a20, c20, rfl, s20⟩ : ∃ a cp, y19 = .slice a (raw.length - cutw R) cp ∧ Sl w19 a cp (R.drop (cutw R)) := by have := t19.oy.sl; rw [ly2] at this; exact this
    have q19 := below_seq b17 b19
    have s17b := s17.later b19
    have s18b := s18.later b19
    clear t19 hrs2 b17 b19 s17 s18
    generalize R.take (cutw R) = X2 at *
    generalize R.drop (cutw R) = Y2 at *
    generalize hcw2 : cutw R = cw2 at *
    go_wp2_with fail
    with_reducible refine Calls.mono (hsX X2 hat2 w19 a17 a19 _ _ c17 c19 lx2 lx2 s17b.at' s19.at') ?_
    rintro e w20 ⟨rfl, b⟩
    dsimp only
    have p20 : Below w19.heap.size w19 w20 := b
    clear b
    go_wp2_with fail
    with_reducible refine Calls.mono (hsX Y2 hbt2 w20 a18 a20 _ _ c18 c20 ly2 ly2 (s18b.later p20).at' (s20.later p20).at') ?_
    rintro e w21 ⟨rfl, b⟩
    dsimp only
    have p21 := below_seq q19 (below_seq p20 b)
    clear b p20 q19 s17b s18b s19 s20
    go_wp2_with fail
    with_reducible refine Calls.mono (kept_any R w21 a16 a raw.length c16 cap hRn (s16.later p21) (S16.later p21).at' (by omega)) ?_
    rintro e w22 ⟨rfl, b22⟩
    dsimp only
    have B22 := below_seq (below_seq B16 p21) b22
    clear b22 p21 B16 s16 S16
    go_wp2_with fail
    refine (first_any _).mono ?_
    rintro e w23 ⟨rfl, b23⟩
    dsimp only
    go_wp2_with fail
    go_ret
    exact ⟨rfl, below_seq B22 b23⟩
end Go.Proofs.Ytibmnpkmbhjniaa
