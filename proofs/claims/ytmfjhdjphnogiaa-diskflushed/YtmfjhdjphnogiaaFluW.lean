/- DiskFlushed: the walk. -/
import Derived.Test.YtmfjhdjphnogiaaPut
namespace Go.Proofs.Ytmfjhdjphnogiaa
set_option linter.unusedVariables false
set_option linter.unusedSimpArgs false
open Go.RowKit
/-- sectors that nothing was written to hold what was flushed -/
structure Kst (st : St) (want : List UInt8) (t : List Bool) (k : Nat) : Prop where
  len : st.safe.length = 16
  wl : want.length = 16
  tl : t.length = 16
  pend : st.pend.length ≤ k
  kept : ∀ i : Nat, i < 16 → t.getD i false = false → st.safe[i]? = some (fl (want.getD i 0)) ∧ ∀ p ∈ st.pend, p.1 ≠ i
theorem Kst.write {st : St} {want : List UInt8} {t : List Bool} {k : Nat} (h : Kst st want t k) (j : Nat) (hj : j < 16) (x : ByteArray) : Kst (st.write (j : Int) x).1 want (t.set j true) (k + 1) := by
  have gd : ∀ i : Nat, i < 16 → (t.set j true).getD i false = false → t.getD i false = false ∧ i ≠ j := fun i hi hs => by
    rw [List.getD_eq_getElem?_getD, List.getElem?_set] at hs
    by_cases e : j = i
    · subst e; rw [if_pos rfl, if_pos (by rw [h.tl]; exact hj)] at hs; simp at hs
    · rw [if_neg e] at hs; exact ⟨by rw [List.getD_eq_getElem?_getD]; exact hs, fun q => e q.symm⟩
  unfold St.write
  split
  · exact ⟨h.len, h.wl, by simpa using h.tl, Nat.le_succ_of_le h.pend, fun i hi hs => h.kept i hi (gd i hi hs).1⟩
  · split
    · split
      · exact ⟨by rw [St.went_safe]; exact h.len, h.wl, by simpa using h.tl, by rw [St.went_pend]; exact Nat.le_succ_of_le h.pend, fun i hi hs => by rw [St.went_safe, St.went_pend]; exact h.kept i hi (gd i hi hs).1⟩
      · refine ⟨by simp only [St.went_safe]; exact h.len, h.wl, by simpa using h.tl, by simp; exact h.pend, fun i hi hs => ?_⟩
        simp only [St.went_safe]
        refine ⟨(h.kept i hi (gd i hi hs).1).1, fun p hp => ?_⟩
        rcases List.mem_append.1 hp with hp | hp
        · exact (h.kept i hi (gd i hi hs).1).2 p hp
        · simp at hp; subst hp; simp; exact fun q => (gd i hi hs).2 q.symm
    · exact ⟨h.len, h.wl, by simpa using h.tl, Nat.le_succ_of_le h.pend, fun i hi hs => h.kept i hi (gd i hi hs).1⟩
theorem Kst.settle {st : St} {want : List UInt8} {t : List Bool} {k : Nat} (h : Kst st want t k) (zs : List Int) : Kst (st.settle zs) want t k :=
  ⟨by simp [St.settle, layK_length]; exact h.len, h.wl, h.tl, by simp [St.settle], fun i hi hs => ⟨(layK_get _ _ _ _ _ (h.kept i hi hs).2).trans (h.kept i hi hs).1, by simp [St.settle]⟩⟩
theorem Kst.crash {st : St} {want : List UInt8} {t : List Bool} {k : Nat} (h : Kst st want t k) (zs : List Int) : Kst (st.crash zs) want t k := by
  unfold St.crash
  split
  · exact h
  · have := h.settle zs; exact ⟨this.len, this.wl, this.tl, this.pend, this.kept⟩
theorem Kst.on {st : St} {want : List UInt8} {t : List Bool} {k : Nat} (h : Kst st want t k) : Kst st.on want t k := by
  unfold St.on
  have : Kst (if st.opn then st.settle [] else st) want t k := by split; exact h.settle []; exact h
  exact ⟨this.len, this.wl, this.tl, this.pend, this.kept⟩
theorem Kst.read {st : St} {want : List UInt8} {t : List Bool} {k : Nat} (h : Kst st want t k) (ho : st.off = false) (i : Nat) (hi : i < 16) : ∃ x, st.read (i : Int) = (x, 0) ∧ (t.getD i false = false → x = fl (want.getD i 0)) := by
  refine ⟨st.seen.getD i ByteArray.empty, ?_, fun hs => ?_⟩
  · unfold St.read
    rw [if_neg (by rw [ho]; simp), if_pos (by simp [St.has, h.len]; omega)]
    simp
  · obtain ⟨h1, h2⟩ := h.kept i hi hs
    rw [List.getD_eq_getElem?_getD]
    show ((lay st.safe st.pend)[i]?).getD _ = _
    rw [lay_get _ _ _ h2, h1]; rfl
set_option maxRecDepth 100000 in
theorem diskFlushed_walk (L1 : List (Int × UInt8)) (a1 : Option Addr) (cap1 : Nat) (L2 : List (Int × UInt8)) (a2 : Option Addr) (cap2 : Nat) (zs : List Int) (a3 : Option Addr) (cap3 : Nat) (fall : Int) (w : World)
    (i1 : PIn w a1 L1) (l1 : L1.length ≤ 8796093021952) (i2 : PIn w a2 L2) (l2 : L2.length ≤ 8796093021952) (i3 : IIn w a3 zs) (l3 : zs.length ≤ 20000000000000) (f1 : -9223372036854775808 ≤ fall) (f2 : fall ≤ 9223372036854775807) :
    Calls Try.prog 3 #[.slice a1 L1.length cap1, .slice a2 L2.length cap2, .slice a3 zs.length cap3, .int .i64 fall] w fun e w' => e = .returned (.bool true) ∧ Below w.heap.size w w' := by
  have I : Hid (PIn w a1 L1 ∧ PIn w a2 L2 ∧ IIn w a3 zs) := ⟨i1, i2, i3⟩
  clear i1 i2 i3
  go_enter Try.func3, Try.ntmps3
  go_wp2_with fail
  refine (head_any _).mono ?_
  rintro e w1 ⟨rfl, b1⟩
  dsimp only
  go_wp2_with fail
  refine (made_env ((EnvP.nil w).below b1) 16 (by omega) (by omega)).mono ?_
  rintro e w2 ⟨p, rfl, h2⟩
  have E2 : Hid (EnvP w w2 [dk p (fresh 16)]) := ⟨h2⟩
  clear h2 b1
  dsimp only
  have E3 : Hid (EnvP w (w2.alloc (.cells #[.int .u8 0, .int .u8 0, .int .u8 0, .int .u8 0, .int .u8 0, .int .u8 0, .int .u8 0, .int .u8 0, .int .u8 0, .int .u8 0, .int .u8 0, .int .u8 0, .int .u8 0, .int .u8 0, .int .u8 0, .int .u8 0] 27)) [dk p (fresh 16), ob w2.heap.size (lcs (List.replicate 16 0)) 27]) := ⟨E2.out.alloc _ _⟩
  clear E2
  go_wp2
  generalize w2.alloc _ = w3 at *
  generalize w2.heap.size = O at *
  go_loopw [11] (fun i wr => ∃ k : Nat, k ≤ L1.length ∧ i = .int .i64 k ∧ ∃ st want, Hid (EnvP w wr [dk p st, ob O (lcs want) 27] ∧ Wst 16 st want k)) (fun i _ => L1.length - (intOf i).toNat)
  case atStart => exact ⟨0, Nat.zero_le _, rfl, _, _, ⟨E3.out, Wst.start 16⟩⟩
  case round =>
    obtain ⟨k, hk, rfl, st, want, R⟩ := hrel
    by_cases hlt : k < L1.length
    · obtain ⟨⟨N, C⟩, hp⟩ : ∃ q, L1[k]? = some q := ⟨_, List.getElem?_eq_getElem hlt⟩
      have hi : (k : Int) < L1.length := by omega
      have hw1 : wrap64 ((k : Int) + 1) = ((k + 1 : Nat) : Int) := by unfold wrap64; omega
      obtain ⟨b, off, rfl, hb, cN, cC, hN1, hN2⟩ := (I.out.1.below R.out.1.bel).get k _ hp
      simp only at cN cC hN1 hN2
      have HP : Hid (L1[k]? = some (N, C)) := ⟨hp⟩
      clear hp
      go_wp2_with fail
      refine (least_any N 16 _ (by omega) (by omega) hN1 hN2).mono ?_
      rintro e w' ⟨rfl, hw⟩
      subst w'
      have hj := lst_lt N 16 (by omega)
      generalize lst N 16 = j at *
      have cO : wr.cell? ⟨O, j, none⟩ = some (.int .u8 ((want.getD j 0).toNat : Int)) := (R.out.1.cell 1 rfl j).trans (lcs_get _ _ (by rw [R.out.2.wl]; exact hj))
      have fO := R.out.1.frozen 1 rfl j
      have hji : (j : Int) < 16 := by omega
      have R1 := R.out.1.setCell 1 rfl j (.int .u8 (C.toNat : Int))
      rw [lcs_set] at R1
      have cC1 := (I.out.1.two R1.bel k _ HP.out).2
      simp only at cC1
      have R2 : Hid (EnvP w (wr.setCell ⟨O, j, none⟩ (.int .u8 (C.toNat : Int))) [dk p st, ob O (lcs (want.set j C)) 27]) := ⟨R1⟩
      clear R1
      dsimp only
      go_wp2_with fail
      refine (full_env R2.out C rfl).mono ?_
      rintro e w5 ⟨rfl, h5⟩
      obtain ⟨st', hst, hW⟩ := R.out.2.write j hj C
      have hpl : st.pend.length < 9000000000000 := by rw [R.out.2.pend]; omega
      have q6 : Calls Try.prog 11 #[pt p, .int .i64 (j : Int), .string (fl C)] w5 fun e w' => e = .returned (.int .i64 0) ∧ EnvP w w' [dk p st', ob O (lcs (want.set j C)) 27] := write_env h5 0 rfl (j : Int) (fl C) hpl hst
      generalize fl C = T at *
      dsimp only
      go_wp2_with fail
      refine q6.mono ?_
      rintro e w6 ⟨rfl, h6⟩
      have R6 : Hid (EnvP w w6 [dk p st', ob O (lcs (want.set j C)) 27] ∧ Wst 16 st' (want.set j C) (k + 1)) := ⟨h6, hW⟩
      clear q6 h6 h5 hst hW
      dsimp only
      go_wp2
      go_roundw
      case rel => exact ⟨k + 1, by omega, by go_num, st', _, R6⟩
      case measure => simp [intOf]; omega
    · have hke : k = L1.length := by omega
      subst hke
      have hi : ¬ ((L1.length : Int) < L1.length) := by omega
      obtain ⟨st3, hst3, hW3, hs3, hp3⟩ := R.out.2.flush
      have q7 : Calls Try.prog 13 #[pt p] wr fun e w' => e = .returned (.int .i64 0) ∧ EnvP w w' [dk p st3, ob O (lcs want) 27] := flush_env R.out.1 0 rfl (by rw [R.out.2.pend]; omega) hst3
      have K3 : Hid (Kst (st3.fallTo fall) want (List.replicate 16 false) 0) := ⟨⟨hW3.len, hW3.wl, by simp, by rw [show (st3.fallTo fall).pend = st3.pend from rfl, hp3]; simp, fun i hi _ => ⟨by
        rw [show (st3.fallTo fall).safe = st3.safe from rfl, hs3, List.getElem?_map, List.getElem?_eq_getElem (by rw [hW3.wl]; exact hi), List.getD_eq_getElem?_getD, List.getElem?_eq_getElem (by rw [hW3.wl]; exact hi)]
        rfl, by rw [show (st3.fallTo fall).pend = st3.pend from rfl, hp3]; simp⟩⟩⟩
      clear hst3 hW3 hs3 hp3
      go_wp2_with fail
      refine q7.mono ?_
      rintro e w7 ⟨rfl, h7⟩
      have q8 : Calls Try.prog 14 #[pt p, .int .i64 fall] w7 fun e w' => e = .returned (.tuple #[]) ∧ EnvP w w' [dk p (st3.fallTo fall), ob O (lcs want) 27] := fall_env h7 0 rfl fall f2
      generalize st3.fallTo fall = st4 at *
      dsimp only
      go_wp2_with fail
      refine q8.mono ?_
      rintro e w8 ⟨rfl, h8⟩
      have E9 : Hid (EnvP w (w8.alloc (.cells #[.bool false, .bool false, .bool false, .bool false, .bool false, .bool false, .bool false, .bool false, .bool false, .bool false, .bool false, .bool false, .bool false, .bool false, .bool false, .bool false] 36)) [dk p st4, ob O (lcs want) 27, ob w8.heap.size (bcs (List.replicate 16 false)) 36]) := ⟨h8.alloc _ _⟩
      clear q7 q8 h7 h8 R
      dsimp only
      go_wp2
      generalize w8.alloc _ = w9 at *
      generalize w8.heap.size = O2 at *
      go_loopw [14] (fun i wr => ∃ k : Nat, k ≤ L2.length ∧ i = .int .i64 k ∧ ∃ st t, Hid (EnvP w wr [dk p st, ob O (lcs want) 27, ob O2 (bcs t) 36] ∧ Kst st want t k)) (fun i _ => L2.length - (intOf i).toNat)
      case atStart => exact ⟨0, Nat.zero_le _, rfl, _, _, ⟨E9.out, K3.out⟩⟩
      case round =>
        obtain ⟨k, hk, rfl, st, t, R⟩ := hrel
        by_cases hlt : k < L2.length
        · obtain ⟨⟨N, C⟩, hp⟩ : ∃ q, L2[k]? = some q := ⟨_, List.getElem?_eq_getElem hlt⟩
          have hi : (k : Int) < L2.length := by omega
          have hw1 : wrap64 ((k : Int) + 1) = ((k + 1 : Nat) : Int) := by unfold wrap64; omega
          obtain ⟨b, off, rfl, hb, cN, cC, hN1, hN2⟩ := (I.out.2.1.below R.out.1.bel).get k _ hp
          simp only at cN cC hN1 hN2
          have HP : Hid (L2[k]? = some (N, C)) := ⟨hp⟩
          clear hp
          go_wp2_with fail
          refine (least_any N 16 _ (by omega) (by omega) hN1 hN2).mono ?_
          rintro e w' ⟨rfl, hw⟩
          subst w'
          have hj := lst_lt N 16 (by omega)
          generalize lst N 16 = j at *
          have cO : wr.cell? ⟨O2, j, none⟩ = some (.bool (t.getD j false)) := (R.out.1.cell 2 rfl j).trans (bcs_get _ _ (by rw [R.out.2.tl]; exact hj))
          have fO := R.out.1.frozen 2 rfl j
          have hji : (j : Int) < 16 := by omega
          have R1 := R.out.1.setCell 2 rfl j (.bool true)
          rw [bcs_set] at R1
          have cC1 := (I.out.2.1.two R1.bel k _ HP.out).2
          simp only at cC1
          have R2 : Hid (EnvP w (wr.setCell ⟨O2, j, none⟩ (.bool true)) [dk p st, ob O (lcs want) 27, ob O2 (bcs (t.set j true)) 36]) := ⟨R1⟩
          clear R1
          dsimp only
          go_wp2_with fail
          refine (full_env R2.out C rfl).mono ?_
          rintro e w5 ⟨rfl, h5⟩
          have hpl : st.pend.length < 9000000000000 := by have := R.out.2.pend; omega
          have q6 : Calls Try.prog 11 #[pt p, .int .i64 (j : Int), .string (fl C)] w5 fun e w' => e = .returned (.int .i64 (st.write (j : Int) (fl C)).2) ∧ EnvP w w' [dk p (st.write (j : Int) (fl C)).1, ob O (lcs want) 27, ob O2 (bcs (t.set j true)) 36] := write_env h5 0 rfl (j : Int) (fl C) hpl rfl
          have K6 := R.out.2.write j hj (fl C)
          generalize (st.write (j : Int) (fl C)).2 = r at *
          generalize (st.write (j : Int) (fl C)).1 = st' at *
          generalize fl C = T at *
          dsimp only
          go_wp2_with fail
          refine q6.mono ?_
          rintro e w6 ⟨rfl, h6⟩
          have R6 : Hid (EnvP w w6 [dk p st', ob O (lcs want) 27, ob O2 (bcs (t.set j true)) 36] ∧ Kst st' want (t.set j true) (k + 1)) := ⟨h6, K6⟩
          clear q6 h6 h5 K6
          dsimp only
          go_wp2
          go_roundw
          case rel => exact ⟨k + 1, by omega, by go_num, st', _, R6⟩
          case measure => simp [intOf]; omega
        · have hke : k = L2.length := by omega
          subst hke
          have hi : ¬ ((L2.length : Int) < L2.length) := by omega
          have q7 : Calls Try.prog 15 #[pt p, .slice a3 zs.length cap3] wr fun e w' => e = .returned (.tuple #[]) ∧ EnvP w w' [dk p (st.crash zs), ob O (lcs want) 27, ob O2 (bcs t) 36] := crash_env R.out.1 0 rfl a3 cap3 zs (by have := R.out.2.pend; omega) l3 (I.out.2.2.later R.out.1.bel)
          have K7 := R.out.2.crash zs
          generalize st.crash zs = st7 at *
          go_wp2_with fail
          refine q7.mono ?_
          rintro e w7 ⟨rfl, h7⟩
          have q8 : Calls Try.prog 16 #[pt p] w7 fun e w' => e = .returned (.tuple #[]) ∧ EnvP w w' [dk p st7.on, ob O (lcs want) 27, ob O2 (bcs t) 36] := on_env h7 0 rfl (by have := K7.pend; omega)
          have K8 := K7.on
          have ho8 : st7.on.off = false := rfl
          generalize st7.on = st8 at *
          dsimp only
          go_wp2_with fail
          refine q8.mono ?_
          rintro e w8 ⟨rfl, h8⟩
          have E8 : Hid (EnvP w w8 [dk p st8, ob O (lcs want) 27, ob O2 (bcs t) 36] ∧ Kst st8 want t L2.length ∧ st8.off = false) := ⟨h8, K8, ho8⟩
          clear q7 q8 h7 h8 K7 K8 ho8 R
          dsimp only
          go_wp2
          go_loopw [16] (fun i wr => ∃ k : Nat, k ≤ 16 ∧ i = .int .i64 k ∧ Hid (EnvP w wr [dk p st8, ob O (lcs want) 27, ob O2 (bcs t) 36])) (fun i _ => 16 - (intOf i).toNat)
          case atStart => exact ⟨0, Nat.zero_le _, rfl, ⟨E8.out.1⟩⟩
          case round =>
            obtain ⟨k, hk, rfl, R⟩ := hrel
            by_cases hlt : k < 16
            · have hi : (k : Int) < 16 := by omega
              have hw1 : wrap64 ((k : Int) + 1) = ((k + 1 : Nat) : Int) := by unfold wrap64; omega
              obtain ⟨x, hx, hx2⟩ := E8.out.2.1.read E8.out.2.2 k hlt
              have q1 : Calls Try.prog 17 #[pt p, .int .i64 (k : Int)] wr fun e w' => e = .returned (.tuple #[.string x, .int .i64 0]) ∧ EnvP w w' [dk p st8, ob O (lcs want) 27, ob O2 (bcs t) 36] := read_env R.out 0 rfl (k : Int) hx
              go_wp2_with fail
              refine q1.mono ?_
              rintro e w9 ⟨rfl, h9⟩
              have cT : w9.cell? ⟨O2, k, none⟩ = some (.bool (t.getD k false)) := (h9.cell 2 rfl k).trans (bcs_get _ _ (by rw [E8.out.2.1.tl]; exact hlt))
              have cW : w9.cell? ⟨O, k, none⟩ = some (.int .u8 ((want.getD k 0).toNat : Int)) := (h9.cell 1 rfl k).trans (lcs_get _ _ (by rw [E8.out.2.1.wl]; exact hlt))
              have R9 : Hid (EnvP w w9 [dk p st8, ob O (lcs want) 27, ob O2 (bcs t) 36]) := ⟨h9⟩
              clear q1 h9 hx
              generalize t.getD k false = tk at *
              cases tk with
              | true =>
                clear hx2
                dsimp only
                go_wp2
                go_roundw
                case rel => exact ⟨k + 1, by omega, by go_num, R9⟩
                case measure => simp [intOf]; omega
              | false =>
                have hxe := hx2 rfl
                have F : Hid (Calls Try.prog 12 #[.int .u8 ((want.getD k 0).toNat : Int)] w9 fun e w' => e = .returned (.string x) ∧ EnvP w w' [dk p st8, ob O (lcs want) 27, ob O2 (bcs t) 36]) := ⟨by rw [hxe]; exact full_env R9.out _ rfl⟩
                clear hxe hx2
                generalize ((want.getD k 0).toNat : Int) = wk at *
                dsimp only
                go_wp2_with fail
                refine F.out.mono ?_
                rintro e w10 ⟨rfl, h10⟩
                have R10 : Hid (EnvP w w10 [dk p st8, ob O (lcs want) 27, ob O2 (bcs t) 36]) := ⟨h10⟩
                clear h10 F
                dsimp only
                go_wp2
                go_roundw
                case rel => exact ⟨k + 1, by omega, by go_num, R10⟩
                case measure => simp [intOf]; omega
            · have hke : k = 16 := by omega
              subst hke
              have hi : ¬ (((16 : Nat) : Int) < 16) := by omega
              go_wp2
              go_ret
              exact ⟨rfl, R.out.bel⟩
end Go.Proofs.Ytmfjhdjphnogiaa
