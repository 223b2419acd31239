/- settle, Crash and On. -/
import Derived.Test.YtmcdohpeibipkaaNum
namespace Go.Proofs.Ytmcdohpeibipkaa
set_option linter.unusedVariables false
set_option linter.unusedSimpArgs false
open Go.RowKit Go.Maps
/-- the set stays while the disk's blocks turn -/
theorem set_kept {w w' : World} {S : Nat → Prop} {B n m : Nat} {zs : List Int} (h : SetAt w B n m zs) (fr : Fr S w w') (hB : ¬ S B) : SetAt w' B n m zs := by
  have hl := h.lt
  unfold SetAt World.ownsMap at *
  rw [fr.block B hl hB]
  exact h
structure SI (w : World) (D : Dk) (st : St) (off opn : Bool) (fall : Nat) (B : Nat) (zs : List Int) (seen safe : List ByteArray) (wr : World) : Prop where
  raw : Raw wr D st.safe.length seen safe st.pend off opn fall
  stp : Stp w D wr D
  set : SetAt wr B zs.length st.pend.length zs
  nf : ¬ D.foot B
theorem SI.alloc {w : World} {D : Dk} {st : St} {off opn : Bool} {fall B : Nat} {zs : List Int} {seen safe : List ByteArray} {wr : World} (h : SI w D st off opn fall B zs seen safe wr) (o : Obj) : SI w D st off opn fall B zs seen safe (wr.alloc o) := ⟨h.raw.alloc o, ⟨rfl, h.stp.fr.alloc o, h.stp.nw⟩, h.set.alloc o, h.nf⟩
theorem SI.drew {w : World} {D : Dk} {st : St} {off opn : Bool} {fall B : Nat} {zs : List Int} {seen safe : List ByteArray} {wr : World} (h : SI w D st off opn fall B zs seen safe wr) : SI w D st off opn fall B zs seen safe wr.drew := ⟨h.raw.drew, ⟨rfl, h.stp.fr.drew, h.stp.nw⟩, h.set.drew, h.nf⟩
theorem SI.setSafe {w : World} {D : Dk} {st : St} {off opn : Bool} {fall B : Nat} {zs : List Int} {seen safe : List ByteArray} {wr : World} (h : SI w D st off opn fall B zs seen safe wr) (j : Nat) (t : ByteArray) : SI w D st off opn fall B zs seen (safe.set j t) (wr.setCell ⟨D.g2, j, none⟩ (.string t)) :=
  ⟨h.raw.setSafe j t, ⟨rfl, h.stp.fr.setCell _ _ _ (.inl (.inr (.inr (.inl rfl)))), h.stp.nw⟩, set_kept h.set (fr_set (S := fun k => k = D.g2) wr _ j _ rfl) (fun e => h.nf (.inr (.inr (.inl e)))), h.nf⟩
theorem SI.setSeen {w : World} {D : Dk} {st : St} {off opn : Bool} {fall B : Nat} {zs : List Int} {seen safe : List ByteArray} {wr : World} (h : SI w D st off opn fall B zs seen safe wr) (j : Nat) (t : ByteArray) : SI w D st off opn fall B zs (seen.set j t) safe (wr.setCell ⟨D.g1, j, none⟩ (.string t)) :=
  ⟨h.raw.setSeen j t, ⟨rfl, h.stp.fr.setCell _ _ _ (.inl (.inr (.inl rfl))), h.stp.nw⟩, set_kept h.set (fr_set (S := fun k => k = D.g1) wr _ j _ rfl) (fun e => h.nf (.inr (.inl e))), h.nf⟩
set_option maxRecDepth 100000 in
theorem settle_any (D : Dk) (st : St) (a : Option Addr) (cap : Nat) (zs : List Int) (w : World) (h : DiskAt w D st) (hpl : st.pend.length ≤ 9000000000000) (hl : zs.length ≤ 20000000000000) (hz : IIn w a zs) :
    Calls Try.prog 41 #[pt D.p, .slice a zs.length cap] w fun e w' => e = .returned (.tuple #[]) ∧ ∃ D', DiskAt w' D' (st.settle zs) ∧ Stp w D w' D' := by
  have H : Hid (DiskAt w D st) := ⟨h⟩
  obtain ⟨av, cv, ev⟩ := h.v3
  have c2 : w.cell? ⟨D.p, 2, none⟩ = some (.slice av st.pend.length cv) := by rw [← ev]; exact h.c2
  have EV : Hid (D.v3 = .slice av st.pend.length cv) := ⟨ev⟩
  have HP : Hid (st.pend.length ≤ 9223372036854775806) := ⟨by omega⟩
  clear h ev
  go_enter Try.func41, Try.ntmps41
  go_wp2_with fail
  refine (below_any st.pend.length a cap zs _ hpl hl hz).mono ?_
  rintro e w1 ⟨rfl, hs1, bq⟩
  have R1 : Hid (SI w D st st.off st.opn st.fall w.heap.size zs st.seen st.safe w1) := ⟨⟨H.out.raw.below bq, ⟨rfl, Fr.of_below bq, fun _ h => .inl h⟩, hs1, fun e => by have := H.out.lt _ e; omega⟩⟩
  have c21 : w1.cell? ⟨D.p, 2, none⟩ = some (.slice av st.pend.length cv) := by rw [← EV.out]; exact R1.out.raw.cell 2
  clear hs1 bq c2 hz hl
  dsimp only
  go_wp2
  go_loopw [23] (fun i wr => ∃ k : Nat, k ≤ st.pend.length ∧ i = .int .i64 k ∧ Hid (SI w D st st.off st.opn st.fall w.heap.size zs st.seen (layK zs 0 st.safe (st.pend.take k)) wr)) (fun i _ => st.pend.length - (intOf i).toNat)
  case atStart => exact ⟨0, Nat.zero_le _, rfl, R1⟩
  case round =>
    obtain ⟨k, hk, rfl, R⟩ := hrel
    by_cases hlt : k < st.pend.length
    · obtain ⟨p, hp⟩ : ∃ p, st.pend[k]? = some p := ⟨_, List.getElem?_eq_getElem hlt⟩
      obtain ⟨y, rfl, hy, cN, cT⟩ := R.out.raw.pendAt EV.out k p hp
      have hN := H.out.wf.pd p (List.mem_of_getElem? hp)
      obtain ⟨N, T⟩ := p
      simp only at cN cT hN
      have hi : (k : Int) < st.pend.length := by omega
      have hpl : st.pend.length ≤ 9223372036854775806 := HP.out
      have hw1 : wrap64 ((k : Int) + 1) = ((k + 1 : Nat) : Int) := by unfold wrap64; omega
      have R5 : Hid (SI w D st st.off st.opn st.fall w.heap.size zs st.seen (layK zs 0 st.safe (st.pend.take k)) (wr.alloc (.cells #[.int .i64 (N : Int), .string T] 33))) := ⟨R.out.alloc _⟩
      have R6 : Hid (SI w D st st.off st.opn st.fall w.heap.size zs st.seen (layK zs 0 st.safe (st.pend.take k)) ((wr.alloc (.cells #[.int .i64 (N : Int), .string T] 33)).alloc (.cells #[] 104))) := ⟨R5.out.alloc _⟩
      have hkey : keyOf Try.prog 3 (.int .i64 (k : Int)) = some (.int .i64 (k : Int)) := keyOf_int_mk Try.underlying3 (WalkArith.wf_i64 ⟨by omega, by omega⟩)
      have hhas := has_numD st.pend.length zs k hlt
      by_cases hin : (k : Int) ∈ zs
      · rw [decide_eq_true hin] at hhas
        go_wp2_with (first
          | (at_lookup; refine wpList_lookup_own_unit _ rfl _ _ 103 rfl 3 104 law3 Try.underlying103 (zeroU _) w.heap.size zs.length _ rfl R5.out.set _ _ rfl hkey ?_; rw [hhas])
          | go_in)
        have b5 : ((wr.alloc (.cells #[.int .i64 (N : Int), .string T] 33)).alloc (.cells #[] 104)).heap[wr.heap.size]? = some (.cells #[.int .i64 (N : Int), .string T] 33 (0, 0)) := by
          rw [Below.heap_alloc _ _ _ (by simp)]; exact heap_alloc_new wr _
        generalize (wr.alloc (.cells #[.int .i64 (N : Int), .string T] 33)).alloc (.cells #[] 104) = W5 at *
        have c51 : W5.cell? ⟨D.p, 1, none⟩ = some (rw_ D.g2 st.safe.length D.c2) := R6.out.raw.cell 1
        have c5f := R6.out.raw.safeAt N hN.1
        have f5f := R6.out.raw.safe.frozenAt N
        have n0 : W5.cell? ⟨wr.heap.size, 0, none⟩ = some (.int .i64 (N : Int)) := cell_of_row W5 _ 0 _ _ (0, 0) b5
        have n1 : W5.cell? ⟨wr.heap.size, 1, none⟩ = some (.string T) := cell_of_row W5 _ 1 _ _ (0, 0) b5
        have hsn : (layK zs 0 st.safe (st.pend.take k)).set N T = layK zs 0 st.safe (st.pend.take (k + 1)) := by
          rw [take_step _ _ _ hp, layK_snoc, List.length_take, Nat.min_eq_left hk, Nat.zero_add, if_pos hin]
        have hset := R6.out.setSafe N T
        rw [hsn] at hset
        have R7 : Hid (SI w D st st.off st.opn st.fall w.heap.size zs st.seen (layK zs 0 st.safe (st.pend.take (k + 1))) (W5.setCell ⟨D.g2, N, none⟩ (.string T))) := ⟨hset⟩
        generalize (layK zs 0 st.safe (st.pend.take k)).getD N ByteArray.empty = oN at *
        clear hset hsn R5 R6 R cN cT b5
        have hN1 : (N : Int) < st.safe.length := by omega
        go_region
        go_wp2
        go_roundw
        case rel => exact ⟨k + 1, by omega, by go_num, ⟨R7.out.drew⟩⟩
        case measure => simp [intOf]; omega
      · rw [decide_eq_false hin] at hhas
        have hsn : layK zs 0 st.safe (st.pend.take k) = layK zs 0 st.safe (st.pend.take (k + 1)) := by
          rw [take_step _ _ _ hp, layK_snoc, List.length_take, Nat.min_eq_left hk, Nat.zero_add, if_neg hin]
        rw [hsn] at R6
        clear hsn
        go_wp2_with (first
          | (at_lookup; refine wpList_lookup_own_unit _ rfl _ _ 103 rfl 3 104 law3 Try.underlying103 (zeroU _) w.heap.size zs.length _ rfl R5.out.set _ _ rfl hkey ?_; rw [hhas])
          | go_in)
        go_roundw
        case rel => exact ⟨k + 1, by omega, by go_num, R6⟩
        case measure => simp [intOf]; omega
    · have hke : k = st.pend.length := by omega
      subst hke
      have hi : ¬ ((st.pend.length : Int) < st.pend.length) := by omega
      rw [List.take_length] at R
      have c22 : wr.cell? ⟨D.p, 2, none⟩ = some (.slice av st.pend.length cv) := by rw [← EV.out]; exact R.out.raw.cell 2
      have hcp : cpy (layK zs 0 st.safe st.pend) st.seen st.pend = layK zs 0 st.safe st.pend := cpy_full _ _ _ (by rw [st.seen_length, layK_length]) (fun n hn => (lay_get _ _ _ hn).trans (layK_get _ _ _ _ _ hn).symm)
      have HC : Hid (cpy (layK zs 0 st.safe st.pend) st.seen st.pend = layK zs 0 st.safe st.pend) := ⟨hcp⟩
      clear R1 hcp c21
      go_wp2
      go_loopw [50] (fun i wr => ∃ k : Nat, k ≤ st.pend.length ∧ i = .int .i64 k ∧ Hid (SI w D st st.off st.opn st.fall w.heap.size zs (cpy (layK zs 0 st.safe st.pend) st.seen (st.pend.take k)) (layK zs 0 st.safe st.pend) wr)) (fun i _ => st.pend.length - (intOf i).toNat)
      case atStart => exact ⟨0, Nat.zero_le _, rfl, R⟩
      case round =>
        obtain ⟨k, hk, rfl, R⟩ := hrel
        by_cases hlt : k < st.pend.length
        · obtain ⟨p, hp⟩ : ∃ p, st.pend[k]? = some p := ⟨_, List.getElem?_eq_getElem hlt⟩
          obtain ⟨y, rfl, hy, cN, cT⟩ := R.out.raw.pendAt EV.out k p hp
          have hN := H.out.wf.pd p (List.mem_of_getElem? hp)
          obtain ⟨N, T⟩ := p
          simp only at cN cT hN
          have hi : (k : Int) < st.pend.length := by omega
          have hpl : st.pend.length ≤ 9223372036854775806 := HP.out
          have hw1 : wrap64 ((k : Int) + 1) = ((k + 1 : Nat) : Int) := by unfold wrap64; omega
          have R5 : Hid (SI w D st st.off st.opn st.fall w.heap.size zs (cpy (layK zs 0 st.safe st.pend) st.seen (st.pend.take k)) (layK zs 0 st.safe st.pend) (wr.alloc (.cells #[.int .i64 (N : Int), .string T] 33))) := ⟨R.out.alloc _⟩
          have b5 : (wr.alloc (.cells #[.int .i64 (N : Int), .string T] 33)).heap[wr.heap.size]? = some (.cells #[.int .i64 (N : Int), .string T] 33 (0, 0)) := heap_alloc_new wr _
          go_wp2
          generalize wr.alloc (.cells #[.int .i64 (N : Int), .string T] 33) = W5 at *
          have c50 : W5.cell? ⟨D.p, 0, none⟩ = some (rw_ D.g1 st.safe.length D.c1) := R5.out.raw.cell 0
          have c51 : W5.cell? ⟨D.p, 1, none⟩ = some (rw_ D.g2 st.safe.length D.c2) := R5.out.raw.cell 1
          have c5s := R5.out.raw.seenAt N hN.1
          have c5f := R5.out.raw.safeAt N hN.1
          have f5f := R5.out.raw.seen.frozenAt N
          have n0 : W5.cell? ⟨wr.heap.size, 0, none⟩ = some (.int .i64 (N : Int)) := cell_of_row W5 _ 0 _ _ (0, 0) b5
          have n1 : W5.cell? ⟨wr.heap.size, 1, none⟩ = some (.string T) := cell_of_row W5 _ 1 _ _ (0, 0) b5
          have hset := R5.out.setSeen N ((layK zs 0 st.safe st.pend).getD N ByteArray.empty)
          have hsn : (cpy (layK zs 0 st.safe st.pend) st.seen (st.pend.take k)).set N ((layK zs 0 st.safe st.pend).getD N ByteArray.empty) = cpy (layK zs 0 st.safe st.pend) st.seen (st.pend.take (k + 1)) := by rw [take_step _ _ _ hp, cpy_snoc]
          rw [hsn] at hset
          have R7 : Hid (SI w D st st.off st.opn st.fall w.heap.size zs (cpy (layK zs 0 st.safe st.pend) st.seen (st.pend.take (k + 1))) (layK zs 0 st.safe st.pend) (W5.setCell ⟨D.g1, N, none⟩ (.string ((layK zs 0 st.safe st.pend).getD N ByteArray.empty)))) := ⟨hset⟩
          generalize (layK zs 0 st.safe st.pend).getD N ByteArray.empty = tN at *
          generalize (cpy (layK zs 0 st.safe st.pend) st.seen (st.pend.take k)).getD N ByteArray.empty = oN at *
          clear hset hsn R5 R cN cT b5 c22
          have hN1 : (N : Int) < st.safe.length := by omega
          go_region
          go_wp2
          go_roundw
          case rel => exact ⟨k + 1, by omega, by go_num, ⟨R7.out.drew⟩⟩
          case measure => simp [intOf]; omega
        · have hke : k = st.pend.length := by omega
          subst hke
          have hi : ¬ ((st.pend.length : Int) < st.pend.length) := by omega
          rw [List.take_length, HC.out] at R
          have c2r : wr.cell? ⟨D.p, 2, none⟩ = some D.v3 := R.out.raw.cell 2
          have f2r := R.out.raw.frozen 2
          have c4r : wr.cell? ⟨D.p, 4, none⟩ = some (.bool st.opn) := R.out.raw.cell 4
          have f4r := R.out.raw.frozen 4
          have c5r : wr.cell? ⟨D.p, 5, none⟩ = some (.int .i64 (st.fall : Int)) := R.out.raw.cell 5
          have f5r := R.out.raw.frozen 5
          go_wp2
          all_goals (first | go_end0 | refine bodyPost_ret (results_none rfl _ _ _) rfl ?_)
          have r3 := ((R.out.raw.noPend.setOpn false).setFall 0 rfl)
          refine ⟨rfl, { D with v3 := .slice none 0 0 }, ⟨H.out.wf.settle zs, ?_⟩, ⟨rfl, ((R.out.stp.fr.setCell _ _ _ (.inl (.inl rfl))).setCell _ _ _ (.inl (.inl rfl))).setCell _ _ _ (.inl (.inl rfl)), ?_⟩⟩
          · show Raw _ _ (layK zs 0 st.safe st.pend).length (layK zs 0 st.safe st.pend) (layK zs 0 st.safe st.pend) [] st.off false 0
            rw [layK_length]
            exact r3
          · rintro q (h | h | h | h)
            · exact .inl (.inl h)
            · exact .inl (.inr (.inl h))
            · exact .inl (.inr (.inr (.inl h)))
            · simp [Value.ownBlock] at h
end Go.Proofs.Ytmcdohpeibipkaa
