/- The document's disk: Write, Flush. -/
import Derived.Test.YtmfjhdjphnogiaaRefA
namespace Go.Proofs.Ytmfjhdjphnogiaa
set_option linter.unusedVariables false
set_option linter.unusedSimpArgs false
open Go.RowKit
theorem rWrite_off (R : Rk) (st : St) (n : Int) (t : ByteArray) (w : World) (h : RefAt w R st) (ho : st.off = true) : Calls Try.prog 38 #[pt R.p, .int .i64 n, .string t] w fun e w' => e = .returned (.int .i64 9) ∧ w' = w := by
  have c3 := h.c2
  rw [ho] at c3
  clear h ho
  go_enter Try.func38, Try.ntmps38
  go_wp2
  go_ret
  exact ⟨rfl, rfl⟩
theorem rWrite_arg (R : Rk) (st : St) (n : Int) (t : ByteArray) (w : World) (h : RefAt w R st) (ho : st.off = false) (hn : (st.has n && t.size == 512) = false) : Calls Try.prog 38 #[pt R.p, .int .i64 n, .string t] w fun e w' => e = .returned (.int .i64 1) ∧ w' = w := by
  have c3 := h.c2
  rw [ho] at c3
  have H : Hid (RefAt w R st) := ⟨h⟩
  clear h ho
  cases hb : st.has n with
  | false =>
    clear hn
    have hb2 : (!st.has n) = true := by rw [hb]; rfl
    go_enter Try.func38, Try.ntmps38
    go_wp2_with (go_at_call 54; refine (none_any R st _ _ H.out).mono ?_; rintro e w' ⟨rfl, hw⟩; subst w'; rw [hb2])
    go_ret
    exact ⟨rfl, rfl⟩
  | true =>
    rw [hb] at hn
    have hb2 : (!st.has n) = false := by rw [hb]; rfl
    have hs : ¬ ((t.size : Int) = 512) := by simp at hn; omega
    have hs' : ((t.size : Int) != 512) = true := by simp [bne]; exact hs
    clear hn
    go_enter Try.func38, Try.ntmps38
    go_wp2_with (go_at_call 54; refine (none_any R st _ _ H.out).mono ?_; rintro e w' ⟨rfl, hw⟩; subst w'; rw [hb2])
    all_goals go_ret
    all_goals exact ⟨rfl, rfl⟩
theorem rWrite_gone (R : Rk) (st : St) (n : Int) (t : ByteArray) (w : World) (h : RefAt w R st) (ho : st.off = false) (hn : st.has n = true) (ht : t.size = 512) (hg : st.gone = true) :
    Calls Try.prog 38 #[pt R.p, .int .i64 n, .string t] w fun e w' => e = .returned (.int .i64 9) ∧ RefAt w' R st.went ∧ RStp w R w' R := by
  have c3 := h.c2
  rw [ho] at c3
  have H : Hid (RefAt w R st) := ⟨h⟩
  have hb2 : (!st.has n) = false := by rw [hn]; rfl
  clear h ho
  go_enter Try.func38, Try.ntmps38
  go_wp2_with (first
    | (go_at_call 54; refine (none_any R st _ _ H.out).mono ?_; rintro e w' ⟨rfl, hw⟩; subst w'; rw [hb2])
    | (go_at_call 55; refine (falls_any R st _ H.out).mono ?_; rintro e w' ⟨rfl, d1, s1⟩; rw [hg]))
  go_ret
  exact ⟨rfl, d1, s1⟩
set_option maxRecDepth 100000 in
theorem rWrite_done (R : Rk) (st : St) (j : Nat) (t : ByteArray) (w : World) (h : RefAt w R st) (ho : st.off = false) (hn : j < st.safe.length) (ht : t.size = 512) (hg : st.gone = false) (hp : st.pend.length < 9000000000000) :
    Calls Try.prog 38 #[pt R.p, .int .i64 (j : Int), .string t] w fun e w' => e = .returned (.int .i64 0) ∧ ∃ R', RRaw w' R' st.safe (st.pend ++ [(j, t)]) st.went.off st.went.opn st.went.fall ∧ RStp w R w' R' := by
  have c3 := h.c2
  rw [ho] at c3
  have hb : (!st.has (j : Int)) = false := by simp [St.has]; omega
  have H : Hid (RefAt w R st) := ⟨h⟩
  clear h ho
  go_enter Try.func38, Try.ntmps38
  go_wp2_with (go_at_call 54; refine (none_any R st _ _ H.out).mono ?_; rintro e w' ⟨rfl, hw⟩; subst w'; rw [hb])
  refine (falls_any R st _ H.out).mono ?_
  rintro e w1 ⟨rfl, d1, s1⟩
  rw [hg]
  obtain ⟨wf, r1⟩ := d1
  rw [St.went_safe, St.went_pend] at r1
  have R1 : Hid (RRaw w1 R st.safe st.pend st.went.off st.went.opn st.went.fall ∧ RStp w R w1 R) := ⟨r1, s1⟩
  have c1 : w1.cell? ⟨R.p, 1, none⟩ = some R.v2 := r1.cell 1
  have f1 : w1.frozen? ⟨R.p, 1, none⟩ = false := r1.frozen 1
  clear r1 s1 wf H
  dsimp only
  go_wp2_with (at_builtin; refine app_write (g := w1.heap.size) j rfl rfl rfl R1.out.1.pend hp rfl _ _ rfl rfl rfl ?_; intro y cap w4 q1 q2 q3; have c4 := q2.cell (R1.out.1.cell 1) (by intro e; exact R1.out.1.a2 e.symm); have f4 : w4.frozen? ⟨R.p, 1, none⟩ = false := (q2.frozen_far ⟨R.p, 1, none⟩ (R1.out.1.lt _ (.inl rfl)) (by intro e; exact R1.out.1.a2 e.symm)).trans (R1.out.1.frozen 1))
  go_ret
  have r3 := R1.out.1
  have nf : ∀ k, k = y → k = R.p ∨ R.v1.ownBlock = some k → False := fun k hk hd => by
    subst hk
    rcases q3 with h1 | h1
    · rcases hd with rfl | hd
      · exact r3.a2 h1
      · exact r3.a3 _ hd h1
    · have h2 : R.foot k := by rcases hd with h | h; exact .inl h; exact .inr (.inl h)
      have := r3.lt k h2
      omega
  have fr4 : Fr (fun k => R.v2.ownBlock = some k) w1 w4 := Fr.of_grown q2 (fun k hk => hk)
  have b4 := fr4.heap r3.blk r3.a2
  have rf : w4.ownsRow 0 9 1 R.v1 st.safe.length (strv st.safe) := fr4.own r3.safe (fun k hk e => r3.a3 k hk e)
  refine ⟨rfl, { R with v2 := rw_ y (st.pend.length + 1) cap }, ?_, ?_⟩
  · have fr5 : Fr (fun k => k = R.p) w4 (w4.setCell ⟨R.p, 1, none⟩ (rw_ y (st.pend.length + 1) cap)) := fr_set w4 _ 1 _ rfl
    exact ⟨by rw [cell_set _ _ _ _ _ _ b4]; rfl, fr5.own rf (fun k hk e => r3.a1 (by rw [← e]; exact hk)), by rw [List.length_append]; exact fr5.own q1 (fun k hk e => by cases hk; exact nf _ rfl (.inl e)), r3.a1, fun e => by cases e; exact nf _ rfl (.inl rfl), fun k hk e => by cases e; exact nf _ rfl (.inr hk)⟩
  · have hfr : Fr R.foot w1 w4 := Fr.of_grown q2 (fun k hk => .inr (.inr hk))
    refine ⟨rfl, (R1.out.2.fr.trans hfr (fun i _ h => h)).setCell _ _ _ (.inl (.inl rfl)), ?_⟩
    rintro k (h | h | h)
    · exact .inl (.inl h)
    · exact .inl (.inr (.inl h))
    · cases h
      rcases q3 with h1 | h1
      · exact .inl (.inr (.inr h1))
      · exact .inr (Nat.le_trans R1.out.2.fr.size h1)
theorem rWrite_any (R : Rk) (st : St) (n : Int) (t : ByteArray) (w : World) (h : RefAt w R st) (hp : st.pend.length < 9000000000000) :
    Calls Try.prog 38 #[pt R.p, .int .i64 n, .string t] w fun e w' => e = .returned (.int .i64 (st.write n t).2) ∧ ∃ R', RefAt w' R' (st.write n t).1 ∧ RStp w R w' R' := by
  have hwf := h.wf.write n t
  unfold St.write at hwf ⊢
  by_cases ho : st.off = true
  · rw [if_pos ho]
    refine (rWrite_off R st n t w h ho).mono ?_
    rintro e w' ⟨rfl, rfl⟩
    exact ⟨rfl, R, h, RStp.refl _ _⟩
  · rw [if_neg ho] at hwf ⊢
    by_cases hn : (st.has n && t.size == 512) = true
    · rw [if_pos hn] at hwf ⊢
      have hn1 : st.has n = true ∧ t.size = 512 := by simpa using hn
      by_cases hg : st.gone = true
      · rw [if_pos hg]
        refine (rWrite_gone R st n t w h (by simpa using ho) hn1.1 hn1.2 hg).mono ?_
        rintro e w' ⟨rfl, d, s⟩
        exact ⟨rfl, R, d, s⟩
      · rw [if_neg hg] at hwf ⊢
        have hr : 0 ≤ n ∧ n < st.safe.length := by simpa [St.has] using hn1.1
        obtain ⟨j, rfl⟩ : ∃ j : Nat, n = j := ⟨n.toNat, by omega⟩
        refine (rWrite_done R st j t w h (by simpa using ho) (by omega) hn1.2 (by simpa using hg) hp).mono ?_
        rintro e w' ⟨rfl, R', r, s⟩
        refine ⟨rfl, R', ⟨hwf, ?_⟩, s⟩
        simp only [St.went_safe, Int.toNat_natCast] at r ⊢
        exact r
    · rw [if_neg hn]
      refine (rWrite_arg R st n t w h (by simpa using ho) (by simpa using hn)).mono ?_
      rintro e w' ⟨rfl, rfl⟩
      exact ⟨rfl, R, h, RStp.refl _ _⟩
end Go.Proofs.Ytmfjhdjphnogiaa
