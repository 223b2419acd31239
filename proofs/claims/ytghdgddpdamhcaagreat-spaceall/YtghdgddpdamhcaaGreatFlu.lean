/- Flush. -/
import Derived.Test.YtghdgddpdamhcaaGreatWri
import Derived.Deep.RegionHeld3
namespace Go.Proofs.YtghdgddpdamhcaaGreat
set_option linter.unusedVariables false
set_option linter.unusedSimpArgs false
open Go.RowKit
section
variable {w : World} {D : Dk} {n : Nat} {seen safe : List ByteArray} {pend : List (Nat × ByteArray)} {off opn : Bool} {fall : Nat}
/-- a pending write in memory -/
theorem Raw.pendAt (h : Raw w D n seen safe pend off opn fall) {a : Option Addr} {m c : Nat} (e : D.v3 = .slice a m c) (k : Nat) (p : Nat × ByteArray) (hk : pend[k]? = some p) : ∃ y, a = some ⟨y, 0, none⟩ ∧ D.foot y ∧ w.cell? ⟨y, k * 2, none⟩ = some (.int .i64 (p.1 : Int)) ∧ w.cell? ⟨y, k * 2 + 1, none⟩ = some (.string p.2) := by
  have hkl : k < pend.length := (List.getElem?_eq_some_iff.1 hk).1
  rcases h.pend.2 with ⟨_, h0⟩ | ⟨y, cap, cur, hv, _⟩
  · omega
  · have e2 : some (⟨y, 0, none⟩ : Addr) = a := by rw [hv] at e; injection e
    have ho := h.pend
    rw [hv] at ho
    refine ⟨y, e2.symm, .inr (.inr (.inr (by rw [hv]; rfl))), ?_, ?_⟩
    · rw [ho.cellAt (k * 2) (by omega)]; exact (wcs_at _ _ _ hk).1
    · rw [ho.cellAt (k * 2 + 1) (by omega)]; exact (wcs_at _ _ _ hk).2
end
theorem take_step {α : Type} (l : List α) (k : Nat) (p : α) (h : l[k]? = some p) : l.take (k + 1) = l.take k ++ [p] := by rw [List.take_add_one, h]; rfl
theorem flush_off (D : Dk) (st : St) (w : World) (h : DiskAt w D st) (ho : st.off = true) : Calls Tryz.prog 83 #[pt D.p] w fun e w' => e = .returned (.int .i64 9) ∧ w' = w := by
  have c3 := h.c3
  rw [ho] at c3
  clear h ho
  go_enter Tryz.func83, Tryz.ntmps83
  go_wp2
  go_ret
  exact ⟨rfl, rfl⟩
theorem flush_gone (D : Dk) (st : St) (w : World) (h : DiskAt w D st) (ho : st.off = false) (hg : st.gone = true) : Calls Tryz.prog 83 #[pt D.p] w fun e w' => e = .returned (.int .i64 9) ∧ DiskAt w' D st.went ∧ Stp w D w' D := by
  have c3 := h.c3
  rw [ho] at c3
  have H : Hid (DiskAt w D st) := ⟨h⟩
  clear h ho
  go_enter Tryz.func83, Tryz.ntmps83
  go_wp2_with (go_at_call 107; refine (goes_any D st _ H.out).mono ?_; rintro e w' ⟨rfl, d1, s1⟩; rw [hg])
  go_ret
  exact ⟨rfl, d1, s1⟩
set_option maxRecDepth 100000 in
theorem flush_done (D : Dk) (st : St) (w : World) (h : DiskAt w D st) (ho : st.off = false) (hg : st.gone = false) (hpl : st.pend.length ≤ 9000000000000) :
    Calls Tryz.prog 83 #[pt D.p] w fun e w' => e = .returned (.int .i64 0) ∧ ∃ D', Raw w' D' st.safe.length st.seen st.seen [] st.went.off st.went.opn st.went.fall ∧ Stp w D w' D' := by
  have c3 := h.c3
  rw [ho] at c3
  have H : Hid (DiskAt w D st) := ⟨h⟩
  have hcp : cpy st.seen st.safe st.pend = st.seen := cpy_full _ _ _ (by rw [st.seen_length]) (fun n hn => (lay_get _ _ _ hn).symm)
  have HC : Hid (cpy st.seen st.safe st.pend = st.seen) := ⟨hcp⟩
  have hwf := h.wf
  have HW : Hid (st.WF) := ⟨h.wf⟩
  have HP : Hid (st.pend.length ≤ 9223372036854775806) := ⟨by omega⟩
  clear h ho hcp hwf hpl
  go_enter Tryz.func83, Tryz.ntmps83
  go_wp2_with fail
  refine (goes_any D st _ H.out).mono ?_
  rintro e w1 ⟨rfl, d1, s1⟩
  rw [hg]
  obtain ⟨a, c, ev⟩ := d1.v3
  obtain ⟨wf, r1⟩ := d1
  rw [St.went_pend] at ev
  rw [St.went_safe, St.went_seen, St.went_pend] at r1
  have c2 : w1.cell? ⟨D.p, 2, none⟩ = some (.slice a st.pend.length c) := by rw [← ev]; exact r1.cell 2
  have EV : Hid (D.v3 = .slice a st.pend.length c) := ⟨ev⟩
  have R1 : Hid (Raw w1 D st.safe.length st.seen st.safe st.pend st.went.off st.went.opn st.went.fall ∧ Stp w D w1 D) := ⟨r1, s1⟩
  clear r1 s1 wf ev H
  dsimp only
  go_wp2
  go_loopw [18] (fun i wr => ∃ k : Nat, k ≤ st.pend.length ∧ i = .int .i64 k ∧ Hid (Raw wr D st.safe.length st.seen (cpy st.seen st.safe (st.pend.take k)) st.pend st.went.off st.went.opn st.went.fall ∧ Stp w D wr D)) (fun i _ => st.pend.length - (intOf i).toNat)
  case atStart => exact ⟨0, Nat.zero_le _, rfl, R1⟩
  case round =>
    obtain ⟨k, hk, rfl, R⟩ := hrel
    by_cases hlt : k < st.pend.length
    · obtain ⟨p, hp⟩ : ∃ p, st.pend[k]? = some p := ⟨_, List.getElem?_eq_getElem hlt⟩
      obtain ⟨y, rfl, hy, cN, cT⟩ := R.out.1.pendAt EV.out k p hp
      have hN := HW.out.pd p (List.mem_of_getElem? hp)
      obtain ⟨N, T⟩ := p
      simp only at cN cT hN
      have hi : (k : Int) < st.pend.length := by omega
      have hpl : st.pend.length ≤ 9223372036854775806 := HP.out
      have c0 : wr.cell? ⟨D.p, 0, none⟩ = some (rw_ D.g1 st.safe.length D.c1) := R.out.1.cell 0
      have c1 : wr.cell? ⟨D.p, 1, none⟩ = some (rw_ D.g2 st.safe.length D.c2) := R.out.1.cell 1
      have cs := R.out.1.seenAt N hN.1
      have cf := R.out.1.safeAt N hN.1
      have ff := R.out.1.safe.frozenAt N
      have R5 : Hid (Raw (wr.alloc (.cells #[.int .i64 (N : Int), .string T] 95)) D st.safe.length st.seen (cpy st.seen st.safe (st.pend.take k)) st.pend st.went.off st.went.opn st.went.fall ∧ Stp w D (wr.alloc (.cells #[.int .i64 (N : Int), .string T] 95)) D) := ⟨R.out.1.alloc _, ⟨rfl, R.out.2.fr.alloc _, R.out.2.nw⟩⟩
      have b5 : (wr.alloc (.cells #[.int .i64 (N : Int), .string T] 95)).heap[wr.heap.size]? = some (.cells #[.int .i64 (N : Int), .string T] 95 (0, 0)) := heap_alloc_new wr _
      go_wp2
      generalize wr.alloc (.cells #[.int .i64 (N : Int), .string T] 95) = W5 at *
      have c50 : W5.cell? ⟨D.p, 0, none⟩ = some (rw_ D.g1 st.safe.length D.c1) := R5.out.1.cell 0
      have c51 : W5.cell? ⟨D.p, 1, none⟩ = some (rw_ D.g2 st.safe.length D.c2) := R5.out.1.cell 1
      have c5s := R5.out.1.seenAt N hN.1
      have c5f := R5.out.1.safeAt N hN.1
      have f5f := R5.out.1.safe.frozenAt N
      have n0 : W5.cell? ⟨wr.heap.size, 0, none⟩ = some (.int .i64 (N : Int)) := cell_of_row W5 _ 0 _ _ (0, 0) b5
      have n1 : W5.cell? ⟨wr.heap.size, 1, none⟩ = some (.string T) := cell_of_row W5 _ 1 _ _ (0, 0) b5
      clear c0 c1 cs cf ff cN cT R b5
      have hset := R5.out.1.setSafe N (st.seen.getD N ByteArray.empty)
      have hsn : (cpy st.seen st.safe (st.pend.take k)).set N (st.seen.getD N ByteArray.empty) = cpy st.seen st.safe (st.pend.take (k + 1)) := by rw [take_step _ _ _ hp, cpy_snoc]
      rw [hsn] at hset
      have R6 : Hid (Raw (W5.setCell ⟨D.g2, N, none⟩ (.string (st.seen.getD N ByteArray.empty))) D st.safe.length st.seen (cpy st.seen st.safe (st.pend.take (k + 1))) st.pend st.went.off st.went.opn st.went.fall ∧ Stp w D (W5.setCell ⟨D.g2, N, none⟩ (.string (st.seen.getD N ByteArray.empty))) D) := ⟨hset, ⟨rfl, R5.out.2.fr.setCell _ _ _ (.inl (.inr (.inr (.inl rfl)))), R5.out.2.nw⟩⟩
      generalize st.seen.getD N ByteArray.empty = tN at *
      generalize (cpy st.seen st.safe (st.pend.take k)).getD N ByteArray.empty = oN at *
      clear hset hsn R5
      have hN1 : (N : Int) < st.safe.length := by omega
      have hw1 : wrap64 ((k : Int) + 1) = ((k + 1 : Nat) : Int) := by unfold wrap64; omega
      go_region
      go_wp2
      go_roundw
      case rel => exact ⟨k + 1, by omega, by go_num, ⟨R6.out.1.drew, ⟨rfl, R6.out.2.fr.drew, R6.out.2.nw⟩⟩⟩
      case measure => simp [intOf]; omega
    · have hke : k = st.pend.length := by omega
      subst hke
      have hi : ¬ ((st.pend.length : Int) < st.pend.length) := by omega
      rw [List.take_length, HC.out] at R
      have c2r : wr.cell? ⟨D.p, 2, none⟩ = some D.v3 := R.out.1.cell 2
      have f2r := R.out.1.frozen 2
      go_wp2
      go_ret
      refine ⟨rfl, { D with v3 := .slice none 0 0 }, R.out.1.noPend, ⟨rfl, R.out.2.fr.setCell _ _ _ (.inl (.inl rfl)), ?_⟩⟩
      rintro q (h | h | h | h)
      · exact .inl (.inl h)
      · exact .inl (.inr (.inl h))
      · exact .inl (.inr (.inr (.inl h)))
      · simp [Value.ownBlock] at h
theorem flush_any (D : Dk) (st : St) (w : World) (h : DiskAt w D st) (hpl : st.pend.length ≤ 9000000000000) : Calls Tryz.prog 83 #[pt D.p] w fun e w' => e = .returned (.int .i64 st.flush.2) ∧ ∃ D', DiskAt w' D' st.flush.1 ∧ Stp w D w' D' := by
  have hwf := h.wf.flush
  unfold St.flush at hwf ⊢
  by_cases ho : st.off = true
  · rw [if_pos ho]
    refine (flush_off D st w h ho).mono ?_
    rintro e w' ⟨rfl, rfl⟩
    exact ⟨rfl, D, h, Stp.refl _ _⟩
  · rw [if_neg ho] at hwf ⊢
    by_cases hg : st.gone = true
    · rw [if_pos hg]
      refine (flush_gone D st w h (by simpa using ho) hg).mono ?_
      rintro e w' ⟨rfl, d, s⟩
      exact ⟨rfl, D, d, s⟩
    · rw [if_neg hg] at hwf ⊢
      refine (flush_done D st w h (by simpa using ho) (by simpa using hg) hpl).mono ?_
      rintro e w' ⟨rfl, D', r, s⟩
      refine ⟨rfl, D', ⟨hwf, ?_⟩, s⟩
      show Raw w' D' st.seen.length st.seen st.seen [] _ _ _
      rw [st.seen_length]
      exact r
end Go.Proofs.YtghdgddpdamhcaaGreat
