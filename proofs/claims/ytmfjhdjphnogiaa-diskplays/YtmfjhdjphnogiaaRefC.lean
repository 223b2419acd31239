/- The document's disk: Flush. -/
import Derived.Test.YtmfjhdjphnogiaaRefB
namespace Go.Proofs.Ytmfjhdjphnogiaa
set_option linter.unusedVariables false
set_option linter.unusedSimpArgs false
open Go.RowKit
theorem rFlush_off (R : Rk) (st : St) (w : World) (h : RefAt w R st) (ho : st.off = true) : Calls Try.prog 39 #[pt R.p] w fun e w' => e = .returned (.int .i64 9) ∧ w' = w := by
  have c3 := h.c2
  rw [ho] at c3
  clear h ho
  go_enter Try.func39, Try.ntmps39
  go_wp2
  go_ret
  exact ⟨rfl, rfl⟩
theorem rFlush_gone (R : Rk) (st : St) (w : World) (h : RefAt w R st) (ho : st.off = false) (hg : st.gone = true) : Calls Try.prog 39 #[pt R.p] w fun e w' => e = .returned (.int .i64 9) ∧ RefAt w' R st.went ∧ RStp w R w' R := by
  have c3 := h.c2
  rw [ho] at c3
  have H : Hid (RefAt w R st) := ⟨h⟩
  clear h ho
  go_enter Try.func39, Try.ntmps39
  go_wp2_with (go_at_call 55; refine (falls_any R st _ H.out).mono ?_; rintro e w' ⟨rfl, d1, s1⟩; rw [hg])
  go_ret
  exact ⟨rfl, d1, s1⟩
theorem RStp.setSafe {w w' : World} {R : Rk} (h : RStp w R w' R) {g n c : Nat} (e : R.v1 = rw_ g n c) (j : Nat) (v : Value) : RStp w R (w'.setCell ⟨g, j, none⟩ v) R := ⟨rfl, h.fr.setCell _ _ _ (.inl (.inr (.inl (by rw [e]; rfl)))), h.nw⟩
theorem RStp.drew {w w' : World} {R R' : Rk} (h : RStp w R w' R') : RStp w R w'.drew R' := ⟨h.p, h.fr.drew, h.nw⟩
theorem RRaw.safeAt2 {w : World} {R : Rk} {safe : List ByteArray} {pend : List (Nat × ByteArray)} {off opn : Bool} {fall : Nat} (h : RRaw w R safe pend off opn fall) {g n c : Nat} (e : R.v1 = rw_ g n c) (j : Nat) (hj : j < safe.length) : w.cell? ⟨g, j, none⟩ = some (.string (safe.getD j ByteArray.empty)) ∧ w.frozen? ⟨g, j, none⟩ = false := h.safeAt e j hj
set_option maxRecDepth 100000 in
theorem rFlush_done (R : Rk) (st : St) (w : World) (h : RefAt w R st) (ho : st.off = false) (hg : st.gone = false) (hpl : st.pend.length ≤ 9000000000000) :
    Calls Try.prog 39 #[pt R.p] w fun e w' => e = .returned (.int .i64 0) ∧ ∃ R', RRaw w' R' st.seen [] st.went.off st.went.opn st.went.fall ∧ RStp w R w' R' := by
  have c3 := h.c2
  rw [ho] at c3
  have H : Hid (RefAt w R st) := ⟨h⟩
  have HW : Hid (st.WF) := ⟨h.wf⟩
  obtain ⟨g, c, e1⟩ := h.raw.v1 h.wf.lo
  obtain ⟨av, cv, e2⟩ := h.raw.v2
  have EV : Hid (R.v1 = rw_ g st.safe.length c ∧ R.v2 = .slice av st.pend.length cv) := ⟨e1, e2⟩
  have HP : Hid (st.pend.length ≤ 9223372036854775806) := ⟨by omega⟩
  clear h ho hpl e1 e2
  go_enter Try.func39, Try.ntmps39
  go_wp2_with fail
  refine (falls_any R st _ H.out).mono ?_
  rintro e w1 ⟨rfl, d1, s1⟩
  rw [hg]
  obtain ⟨wf, r1⟩ := d1
  rw [St.went_safe, St.went_pend] at r1
  have R1 : Hid (RRaw w1 R st.safe st.pend st.went.off st.went.opn st.went.fall ∧ RStp w R w1 R) := ⟨r1, s1⟩
  clear r1 s1 wf H
  dsimp only
  go_wp2
  go_loopw [3] (fun i wr => ∃ k : Nat, k ≤ st.pend.length ∧ i = .int .i64 k ∧ Hid (RRaw wr R (lay st.safe (st.pend.take k)) st.pend st.went.off st.went.opn st.went.fall ∧ RStp w R wr R)) (fun i _ => st.pend.length - (intOf i).toNat)
  case atStart => exact ⟨0, Nat.zero_le _, rfl, R1⟩
  case round =>
    obtain ⟨k, hk, rfl, R2⟩ := hrel
    have c1 : wr.cell? ⟨R.p, 1, none⟩ = some (.slice av st.pend.length cv) := by rw [← EV.out.2]; exact R2.out.1.cell 1
    by_cases hlt : k < st.pend.length
    · obtain ⟨p, hp⟩ : ∃ p, st.pend[k]? = some p := ⟨_, List.getElem?_eq_getElem hlt⟩
      obtain ⟨y, rfl, hy, cN, cT⟩ := R2.out.1.pendAt EV.out.2 k p hp
      have hN := HW.out.pd p (List.mem_of_getElem? hp)
      obtain ⟨N, T⟩ := p
      simp only at cN cT hN
      have hi : (k : Int) < st.pend.length := by omega
      have hpl : st.pend.length ≤ 9223372036854775806 := HP.out
      have c0 : wr.cell? ⟨R.p, 0, none⟩ = some (rw_ g st.safe.length c) := by rw [← EV.out.1]; exact R2.out.1.cell 0
      have hls : (lay st.safe (st.pend.take k)).length = st.safe.length := lay_length _ _
      obtain ⟨cs, fs⟩ := R2.out.1.safeAt EV.out.1 N (by omega)
      have hset := R2.out.1.setSafe EV.out.1 (by have := HW.out.lo; omega) N T
      have hsn : (lay st.safe (st.pend.take k)).set N T = lay st.safe (st.pend.take (k + 1)) := by rw [take_step _ _ _ hp, lay_snoc]
      rw [hsn] at hset
      have R6 : Hid (RRaw (wr.setCell ⟨g, N, none⟩ (.string T)) R (lay st.safe (st.pend.take (k + 1))) st.pend st.went.off st.went.opn st.went.fall ∧ RStp w R (wr.setCell ⟨g, N, none⟩ (.string T)) R) := ⟨hset, R2.out.2.setSafe EV.out.1 _ _⟩
      generalize (lay st.safe (st.pend.take k)).getD N ByteArray.empty = oN at *
      clear hset hsn R2 hls
      have hN1 : (N : Int) < st.safe.length := by omega
      have hw1 : wrap64 ((k : Int) + 1) = ((k + 1 : Nat) : Int) := by unfold wrap64; omega
      go_wp2
      go_region
      go_wp2
      go_roundw
      case rel => exact ⟨k + 1, by omega, by go_num, ⟨R6.out.1.drew, R6.out.2.drew⟩⟩
      case measure => simp [intOf]; omega
    · have hke : k = st.pend.length := by omega
      subst hke
      have hi : ¬ ((st.pend.length : Int) < st.pend.length) := by omega
      rw [List.take_length] at R2
      have f1 := R2.out.1.frozen 1
      go_wp2
      go_ret
      refine ⟨rfl, { R with v2 := .slice none 0 0 }, R2.out.1.noPend, ⟨rfl, R2.out.2.fr.setCell _ _ _ (.inl (.inl rfl)), ?_⟩⟩
      rintro q (h | h | h)
      · exact .inl (.inl h)
      · exact .inl (.inr (.inl h))
      · simp [Value.ownBlock] at h
theorem rFlush_any (R : Rk) (st : St) (w : World) (h : RefAt w R st) (hpl : st.pend.length ≤ 9000000000000) : Calls Try.prog 39 #[pt R.p] w fun e w' => e = .returned (.int .i64 st.flush.2) ∧ ∃ R', RefAt w' R' st.flush.1 ∧ RStp w R w' R' := by
  have hwf := h.wf.flush
  unfold St.flush at hwf ⊢
  by_cases ho : st.off = true
  · rw [if_pos ho]
    refine (rFlush_off R st w h ho).mono ?_
    rintro e w' ⟨rfl, rfl⟩
    exact ⟨rfl, R, h, RStp.refl _ _⟩
  · rw [if_neg ho] at hwf ⊢
    by_cases hg : st.gone = true
    · rw [if_pos hg]
      refine (rFlush_gone R st w h (by simpa using ho) hg).mono ?_
      rintro e w' ⟨rfl, d, s⟩
      exact ⟨rfl, R, d, s⟩
    · rw [if_neg hg] at hwf ⊢
      refine (rFlush_done R st w h (by simpa using ho) (by simpa using hg) hpl).mono ?_
      rintro e w' ⟨rfl, R', r, s⟩
      exact ⟨rfl, R', ⟨hwf, r⟩, s⟩
end Go.Proofs.Ytmfjhdjphnogiaa
