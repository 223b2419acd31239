/- Read and Write. -/
import Derived.Test.YtghdgddpdamhcaaGreatApp
namespace Go.Proofs.YtghdgddpdamhcaaGreat
set_option linter.unusedVariables false
set_option linter.unusedSimpArgs false
open Go.RowKit
theorem sClone_any (s : ByteArray) (w : World) (hs : s.size = 512) : Calls Tryz.prog 97 #[.string s] w fun e w' => e = .returned (.string s) ∧ Below w.heap.size w w' := by
  go_enter Tryz.func97, Tryz.ntmps97
  go_wp2_with (go_at_call 124; refine (Tryz.stringslite_Clone s _ (by omega)).mono ?_; rintro e w' ⟨rfl, bq⟩)
  go_ret
  exact ⟨rfl, bq⟩
theorem St.WF.seenAt {st : St} (h : st.WF) (j : Nat) (hj : j < st.safe.length) : (st.seen.getD j ByteArray.empty).size = 512 := by
  have hl := st.seen_length
  rw [List.getD_eq_getElem?_getD, List.getElem?_eq_getElem (by omega)]
  exact h.seen _ (List.getElem_mem _)
theorem read_any (D : Dk) (st : St) (n : Int) (w : World) (h : DiskAt w D st) : Calls Tryz.prog 73 #[pt D.p, .int .i64 n] w fun e w' => e = .returned (.tuple #[.string (st.read n).1, .int .i64 (st.read n).2]) ∧ Below w.heap.size w w' := by
  have c3 := h.c3
  have c0 := h.c0
  have H : Hid (DiskAt w D st) := ⟨h⟩
  by_cases ho : st.off = true
  · rw [ho] at c3
    have e1 : st.read n = (ByteArray.empty, 9) := by unfold St.read; rw [if_pos ho]
    rw [e1]
    go_enter Tryz.func73, Tryz.ntmps73
    go_wp2
    go_ret2
    exact ⟨rfl, Below.refl _ _⟩
  · have ho' : st.off = false := by simpa using ho
    rw [ho'] at c3
    by_cases hn : st.has n = true
    · have hr : 0 ≤ n ∧ n < st.safe.length := by simpa [St.has] using hn
      obtain ⟨j, rfl⟩ : ∃ j : Nat, n = j := ⟨n.toNat, by omega⟩
      have hj : j < st.safe.length := by omega
      have cs := h.raw.seenAt j hj
      have sz := h.wf.seenAt j hj
      have e1 : st.read j = (st.seen.getD j ByteArray.empty, 0) := by unfold St.read; rw [if_neg ho, if_pos hn]; simp
      rw [e1]
      generalize st.seen.getD j ByteArray.empty = t at *
      clear e1 hr
      go_enter Tryz.func73, Tryz.ntmps73
      go_wp2_with (first
        | (go_at_call 96; refine (has_any D st _ _ H.out).mono ?_; rintro e w' ⟨rfl, hw⟩; subst w'; rw [hn])
        | (go_at_call 97; refine (sClone_any t _ sz).mono ?_; rintro e w' ⟨rfl, bq⟩))
      go_ret2
      exact ⟨rfl, bq⟩
    · have hn' : st.has n = false := by simpa using hn
      have e1 : st.read n = (ByteArray.empty, 1) := by unfold St.read; rw [if_neg ho, if_neg hn]
      rw [e1]
      go_enter Tryz.func73, Tryz.ntmps73
      go_wp2_with (go_at_call 96; refine (has_any D st _ _ H.out).mono ?_; rintro e w' ⟨rfl, hw⟩; subst w'; rw [hn'])
      go_ret2
      exact ⟨rfl, Below.refl _ _⟩
theorem write_off (D : Dk) (st : St) (n : Int) (t : ByteArray) (w : World) (h : DiskAt w D st) (ho : st.off = true) : Calls Tryz.prog 125 #[pt D.p, .int .i64 n, .string t] w fun e w' => e = .returned (.int .i64 9) ∧ w' = w := by
  have c3 := h.c3
  rw [ho] at c3
  clear h ho
  go_enter Tryz.func125, Tryz.ntmps125
  go_wp2
  go_ret
  exact ⟨rfl, rfl⟩
theorem write_arg (D : Dk) (st : St) (n : Int) (t : ByteArray) (w : World) (h : DiskAt w D st) (ho : st.off = false) (hn : (st.has n && t.size == 512) = false) : Calls Tryz.prog 125 #[pt D.p, .int .i64 n, .string t] w fun e w' => e = .returned (.int .i64 1) ∧ w' = w := by
  have c3 := h.c3
  rw [ho] at c3
  have H : Hid (DiskAt w D st) := ⟨h⟩
  clear h ho
  cases hb : st.has n with
  | false =>
    clear hn
    go_enter Tryz.func125, Tryz.ntmps125
    go_wp2_with (go_at_call 96; refine (has_any D st _ _ H.out).mono ?_; rintro e w' ⟨rfl, hw⟩; subst w'; rw [hb])
    go_ret
    exact ⟨rfl, rfl⟩
  | true =>
    rw [hb] at hn
    have hs : ¬ ((t.size : Int) = 512) := by simp at hn; omega
    have hs' : ((t.size : Int) != 512) = true := by simp [bne]; exact hs
    clear hn
    go_enter Tryz.func125, Tryz.ntmps125
    go_wp2_with (go_at_call 96; refine (has_any D st _ _ H.out).mono ?_; rintro e w' ⟨rfl, hw⟩; subst w'; rw [hb])
    all_goals go_ret
    all_goals exact ⟨rfl, rfl⟩
theorem write_gone (D : Dk) (st : St) (n : Int) (t : ByteArray) (w : World) (h : DiskAt w D st) (ho : st.off = false) (hn : st.has n = true) (ht : t.size = 512) (hg : st.gone = true) :
    Calls Tryz.prog 125 #[pt D.p, .int .i64 n, .string t] w fun e w' => e = .returned (.int .i64 9) ∧ DiskAt w' D st.went ∧ Stp w D w' D := by
  have c3 := h.c3
  rw [ho] at c3
  have H : Hid (DiskAt w D st) := ⟨h⟩
  have HT : Hid (t.size = 512) := ⟨ht⟩
  have e1 : (Value.int .i64 (t.size : Int)) = .int .i64 512 := by rw [ht]; rfl
  clear h ho
  go_enter Tryz.func125, Tryz.ntmps125
  go_wp2_with (first
    | (go_at_call 96; refine (has_any D st _ _ H.out).mono ?_; rintro e w' ⟨rfl, hw⟩; subst w'; rw [hn])
    | (go_at_call 107; refine (goes_any D st _ H.out).mono ?_; rintro e w' ⟨rfl, d1, s1⟩; rw [hg]))
  go_ret
  exact ⟨rfl, d1, s1⟩
set_option maxRecDepth 100000 in
theorem write_done (D : Dk) (st : St) (j : Nat) (t : ByteArray) (w : World) (h : DiskAt w D st) (ho : st.off = false) (hn : j < st.safe.length) (ht : t.size = 512) (hg : st.gone = false) (hp : st.pend.length < 9000000000000) :
    Calls Tryz.prog 125 #[pt D.p, .int .i64 (j : Int), .string t] w fun e w' => e = .returned (.int .i64 0) ∧ ∃ D', Raw w' D' st.safe.length (st.seen.set j t) st.safe (st.pend ++ [(j, t)]) st.went.off st.went.opn st.went.fall ∧ Stp w D w' D' := by
  have c3 := h.c3
  rw [ho] at c3
  have hb : st.has (j : Int) = true := by simp [St.has]; omega
  have H : Hid (DiskAt w D st) := ⟨h⟩
  have a1 := h.raw.a1
  have a1' := h.raw.a1.symm
  clear h ho
  go_enter Tryz.func125, Tryz.ntmps125
  go_wp2_with (go_at_call 96; refine (has_any D st _ _ H.out).mono ?_; rintro e w' ⟨rfl, hw⟩; subst w'; rw [hb])
  refine (goes_any D st _ H.out).mono ?_
  rintro e w1 ⟨rfl, d1, s1⟩
  rw [hg]
  obtain ⟨wf, r1⟩ := d1
  rw [St.went_safe, St.went_seen, St.went_pend] at r1
  have R1 : Hid (Raw w1 D st.safe.length st.seen st.safe st.pend st.went.off st.went.opn st.went.fall ∧ Stp w D w1 D) := ⟨r1, s1⟩
  clear r1 s1 wf
  dsimp only
  go_wp2_with fail
  refine (sClone_any t _ ht).mono ?_
  rintro e w2 ⟨rfl, bq⟩
  have R2 : Hid (Raw w2 D st.safe.length st.seen st.safe st.pend st.went.off st.went.opn st.went.fall ∧ Stp w D w2 D) := ⟨R1.out.1.below bq, R1.out.2.trans ⟨rfl, Fr.of_below bq, fun _ h => .inl h⟩⟩
  have c0 : w2.cell? ⟨D.p, 0, none⟩ = some (rw_ D.g1 st.safe.length D.c1) := R2.out.1.cell 0
  have c2 : w2.cell? ⟨D.p, 2, none⟩ = some D.v3 := R2.out.1.cell 2
  have f2 : w2.frozen? ⟨D.p, 2, none⟩ = false := R2.out.1.frozen 2
  have cs := R2.out.1.seenAt j hn
  have fs := R2.out.1.seen.frozenAt j
  have R3 : Hid (Raw (w2.setCell ⟨D.g1, j, none⟩ (.string t)) D st.safe.length (st.seen.set j t) st.safe st.pend st.went.off st.went.opn st.went.fall ∧ Stp w D (w2.setCell ⟨D.g1, j, none⟩ (.string t)) D) := ⟨R2.out.1.setSeen j t, ⟨rfl, R2.out.2.fr.setCell _ _ _ (.inl (.inr (.inl rfl))), R2.out.2.nw⟩⟩
  generalize st.seen.getD j ByteArray.empty = old at *
  clear R1 R2 H bq
  dsimp only
  go_wp2_with (at_builtin; refine app_write (g := w2.heap.size) j rfl rfl (by simp [World.setCell]) R3.out.1.pend hp rfl _ _ rfl rfl rfl ?_; intro y cap w4 q1 q2 q3; have c4 := q2.cell (R3.out.1.cell 2) (by intro e; exact R3.out.1.a4 e.symm); have f4 : w4.frozen? ⟨D.p, 2, none⟩ = false := (q2.frozen_far ⟨D.p, 2, none⟩ (R3.out.1.lt _ (.inl rfl)) (by intro e; exact R3.out.1.a4 e.symm)).trans (R3.out.1.frozen 2))
  go_ret
  have hfr : Fr D.foot (w2.setCell ⟨D.g1, j, none⟩ (.string t)) w4 := Fr.of_grown q2 (fun k hk => .inr (.inr (.inr hk)))
  have nf : ∀ k, k = y → k = D.p ∨ k = D.g1 ∨ k = D.g2 → False := fun k hk hd => by
    subst hk
    rcases q3 with h1 | h1
    · rcases hd with rfl | rfl | rfl
      · exact R3.out.1.a4 h1
      · exact R3.out.1.a5 h1
      · exact R3.out.1.a6 h1
    · have h2 : D.foot k := by rcases hd with h | h | h; exact .inl h; exact .inr (.inl h); exact .inr (.inr (.inl h))
      have := R3.out.1.lt k h2
      omega
  have fr4 : Fr (fun k => D.v3.ownBlock = some k) (w2.setCell ⟨D.g1, j, none⟩ (.string t)) w4 := Fr.of_grown q2 (fun k hk => hk)
  have r3 := R3.out.1
  have b4 := fr4.heap r3.blk r3.a4
  have rs : w4.ownsRow 0 9 1 (rw_ D.g1 st.safe.length D.c1) st.safe.length (strv (st.seen.set j t)) := fr4.own r3.seen (fun k hk e => by cases hk; exact r3.a5 e)
  have rf : w4.ownsRow 0 9 1 (rw_ D.g2 st.safe.length D.c2) st.safe.length (strv st.safe) := fr4.own r3.safe (fun k hk e => by cases hk; exact r3.a6 e)
  refine ⟨rfl, { D with v3 := rw_ y (st.pend.length + 1) cap }, ?_, ?_⟩
  · have fr5 : Fr (fun k => k = D.p) w4 (w4.setCell ⟨D.p, 2, none⟩ (rw_ y (st.pend.length + 1) cap)) := fr_set w4 _ 2 _ rfl
    refine ⟨by rw [cell_set _ _ _ _ _ _ b4]; rfl, fr5.own rs (fun k hk e => ?_), fr5.own rf (fun k hk e => ?_), by rw [List.length_append]; exact fr5.own q1 (fun k hk e => by cases hk; exact nf _ rfl (.inl e)), r3.a1, r3.a2, r3.a3, fun e => by cases e; exact nf _ rfl (.inl rfl), fun e => by cases e; exact nf _ rfl (.inr (.inl rfl)), fun e => by cases e; exact nf _ rfl (.inr (.inr rfl))⟩
    · cases hk; exact r3.a1 e.symm
    · cases hk; exact r3.a2 e.symm
  · refine ⟨rfl, (R3.out.2.fr.trans hfr (fun i _ h => h)).setCell _ _ _ (.inl (.inl rfl)), ?_⟩
    rintro k (h | h | h | h)
    · exact .inl (.inl h)
    · exact .inl (.inr (.inl h))
    · exact .inl (.inr (.inr (.inl h)))
    · cases h
      rcases q3 with h1 | h1
      · exact .inl (.inr (.inr (.inr h1)))
      · exact .inr (Nat.le_trans R3.out.2.fr.size h1)
theorem write_any (D : Dk) (st : St) (n : Int) (t : ByteArray) (w : World) (h : DiskAt w D st) (hp : st.pend.length < 9000000000000) :
    Calls Tryz.prog 125 #[pt D.p, .int .i64 n, .string t] w fun e w' => e = .returned (.int .i64 (st.write n t).2) ∧ ∃ D', DiskAt w' D' (st.write n t).1 ∧ Stp w D w' D' := by
  have hwf := h.wf.write n t
  unfold St.write at hwf ⊢
  by_cases ho : st.off = true
  · rw [if_pos ho]
    refine (write_off D st n t w h ho).mono ?_
    rintro e w' ⟨rfl, rfl⟩
    exact ⟨rfl, D, h, Stp.refl _ _⟩
  · rw [if_neg ho] at hwf ⊢
    by_cases hn : (st.has n && t.size == 512) = true
    · rw [if_pos hn] at hwf ⊢
      have hn1 : st.has n = true ∧ t.size = 512 := by simpa using hn
      by_cases hg : st.gone = true
      · rw [if_pos hg]
        refine (write_gone D st n t w h (by simpa using ho) hn1.1 hn1.2 hg).mono ?_
        rintro e w' ⟨rfl, d, s⟩
        exact ⟨rfl, D, d, s⟩
      · rw [if_neg hg] at hwf ⊢
        have hr : 0 ≤ n ∧ n < st.safe.length := by simpa [St.has] using hn1.1
        obtain ⟨j, rfl⟩ : ∃ j : Nat, n = j := ⟨n.toNat, by omega⟩
        refine (write_done D st j t w h (by simpa using ho) (by omega) hn1.2 (by simpa using hg) hp).mono ?_
        rintro e w' ⟨rfl, D', r, s⟩
        refine ⟨rfl, D', ⟨hwf, ?_⟩, s⟩
        simp only [St.seen, St.went_safe, Int.toNat_natCast] at r ⊢
        rw [lay_snoc]
        exact r
    · rw [if_neg hn]
      refine (write_arg D st n t w h (by simpa using ho) (by simpa using hn)).mono ?_
      rintro e w' ⟨rfl, rfl⟩
      exact ⟨rfl, D, h, Stp.refl _ _⟩
end Go.Proofs.YtghdgddpdamhcaaGreat
