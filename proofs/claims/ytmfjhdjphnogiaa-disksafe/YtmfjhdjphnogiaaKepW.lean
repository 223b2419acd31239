/- DiskKept: the walk. -/
import Derived.Test.YtmfjhdjphnogiaaPut
namespace Go.Proofs.Ytmfjhdjphnogiaa
set_option linter.unusedVariables false
set_option linter.unusedSimpArgs false
open Go.RowKit
/-- on, no fall; with the kept ones laid there would be these letters -/
structure Pst (zs : List Int) (st : St) (want : List UInt8) (k : Nat) : Prop where
  off : st.off = false
  fall : st.fall = 0
  len : st.safe.length = 8
  wl : want.length = 8
  lay : layK zs 0 st.safe st.pend = want.map fl
  pend : st.pend.length = k
theorem Pst.write {zs : List Int} {st : St} {want : List UInt8} {k : Nat} (h : Pst zs st want k) (j : Nat) (hj : j < 8) (c : UInt8) : ∃ st', st.write (j : Int) (fl c) = (st', 0) ∧ Pst zs st' (if (k : Int) ∈ zs then want.set j c else want) (k + 1) := by
  have hh : (st.has (j : Int) && (fl c).size == 512) = true := by simp [St.has, fl_size, h.len]; omega
  have hg : st.gone = false := by simp [St.gone, h.fall]
  have hw : st.went = st := by unfold St.went; rw [if_pos h.fall]
  refine ⟨{ st with pend := st.pend ++ [(j, fl c)] }, ?_, ⟨h.off, h.fall, h.len, by split <;> simp [h.wl], ?_, by simp [h.pend]⟩⟩
  · unfold St.write
    rw [if_neg (by rw [h.off]; simp), if_pos hh, if_neg (by rw [hg]; simp), hw]
    simp
  · show layK zs 0 st.safe (st.pend ++ [(j, fl c)]) = _
    rw [layK_snoc, Nat.zero_add, h.pend, h.lay]
    split
    · rw [List.map_set]
    · rfl
/-- what both are in the end -/
def fin (st : St) (zs : List Int) : St := ⟨layK zs 0 st.safe st.pend, [], false, false, 0⟩
def mid (st : St) (zs : List Int) : St := ⟨layK zs 0 st.safe st.pend, [], true, false, 0⟩
theorem crash_mid (st : St) (zs : List Int) (h : (st.off && !st.opn) = false) : st.crash zs = mid st zs := by unfold St.crash; rw [if_neg (by rw [h]; simp)]; rfl
theorem mid_crash (st : St) (zs l : List Int) : (mid st zs).crash l = mid st zs := by unfold St.crash; rw [if_pos (by simp [mid])]
theorem mid_on (st : St) (zs : List Int) : (mid st zs).on = fin st zs := rfl
theorem fin_read {zs : List Int} {st : St} {want : List UInt8} {k : Nat} (h : Pst zs st want k) (i : Nat) (hi : i < 8) : (fin st zs).read (i : Int) = (fl (want.getD i 0), 0) := by
  have hs : (fin st zs).seen = want.map fl := h.lay
  unfold St.read
  rw [if_neg (by simp [fin]), if_pos (by simp [St.has, fin, layK_length, h.len]; omega), hs]
  simp only [Int.toNat_natCast, List.getD_eq_getElem?_getD, List.getElem?_map, List.getElem?_eq_getElem (show i < want.length by rw [h.wl]; exact hi)]
  rfl
def fell (st : St) : St := { st with fall := 0, off := true, opn := true }
theorem flush_fell {zs : List Int} {st : St} {want : List UInt8} {k : Nat} (h : Pst zs st want k) : (st.fallTo 1).flush = (fell st, 9) := by
  unfold St.flush
  rw [if_neg (by show ¬ st.off = true; rw [h.off]; simp), if_pos (by rfl)]
  rfl
theorem least_b (n : Int) (m : Nat) (w : World) (hm : 0 < m) (hm2 : m ≤ 100) (h1 : -9223372036854775808 ≤ n) (h2 : n ≤ 9223372036854775807) {j : Nat} (hj : lst n m = j) : Calls Try.prog 10 #[.int .i64 n, .int .i64 (m : Int)] w fun e w' => e = .returned (.int .i64 (j : Int)) ∧ w' = w := by
  subst hj; exact least_any n m w hm hm2 h1 h2
set_option maxRecDepth 100000 in
theorem diskKept_walk (L1 : List (Int × UInt8)) (a1 : Option Addr) (cap1 : Nat) (L2 : List (Int × UInt8)) (a2 : Option Addr) (cap2 : Nat) (zs : List Int) (a3 : Option Addr) (cap3 : Nat) (fall : Bool) (w : World)
    (i1 : PIn w a1 L1) (l1 : L1.length ≤ 8796093021952) (i2 : PIn w a2 L2) (l2 : L2.length ≤ 8796093021952) (i3 : IIn w a3 zs) (l3 : zs.length ≤ 20000000000000) :
    Calls Try.prog 6 #[.slice a1 L1.length cap1, .slice a2 L2.length cap2, .slice a3 zs.length cap3, .bool fall] w fun e w' => e = .returned (.bool true) ∧ Below w.heap.size w w' := by
  have I : Hid (PIn w a1 L1 ∧ PIn w a2 L2 ∧ IIn w a3 zs) := ⟨i1, i2, i3⟩
  clear i1 i2 i3
  go_enter Try.func6, Try.ntmps6
  go_wp2_with fail
  refine (head_any _).mono ?_
  rintro e w1 ⟨rfl, b1⟩
  dsimp only
  go_wp2_with fail
  refine (made_env ((EnvP.nil w).below b1) 8 (by omega) (by omega)).mono ?_
  rintro e w2 ⟨p, rfl, h2⟩
  have E2 : Hid (EnvP w w2 [dk p (fresh 8)]) := ⟨h2⟩
  clear h2 b1
  dsimp only
  have E3 : Hid (EnvP w (w2.alloc (.cells #[.int .u8 0, .int .u8 0, .int .u8 0, .int .u8 0, .int .u8 0, .int .u8 0, .int .u8 0, .int .u8 0] 46)) [dk p (fresh 8), ob w2.heap.size (lcs (List.replicate 8 0)) 46]) := ⟨E2.out.alloc _ _⟩
  clear E2
  go_wp2
  generalize w2.alloc _ = w3 at *
  generalize w2.heap.size = O at *
  have HO : w.heap.size ≤ O := E3.out.ge 1 rfl
  go_loopw [11] (fun i wr => ∃ k : Nat, k ≤ L1.length ∧ i = .int .i64 k ∧ ∃ st want, Hid (EnvP w wr [dk p st, ob O (lcs want) 46] ∧ Wst 8 st want k)) (fun i _ => L1.length - (intOf i).toNat)
  case atStart => exact ⟨0, Nat.zero_le _, rfl, _, _, ⟨E3.out, Wst.start 8⟩⟩
  case round =>
    obtain ⟨k, hk, rfl, st, want, R⟩ := hrel
    by_cases hlt : k < L1.length
    · obtain ⟨⟨N, C⟩, hp⟩ : ∃ q, L1[k]? = some q := ⟨_, List.getElem?_eq_getElem hlt⟩
      have hi : (k : Int) < L1.length := by omega
      have hw1 : wrap64 ((k : Int) + 1) = ((k + 1 : Nat) : Int) := by unfold wrap64; omega
      obtain ⟨b, off, rfl, hb, _, _, hN1, hN2⟩ := I.out.1.get k _ hp
      simp only at hN1 hN2
      have cS : ∀ {w' : World} {Ls : List (Th → Prop)}, EnvP w w' Ls → w'.cell? ⟨b, off + k * 2, none⟩ = some (.int .i64 N) ∧ w'.cell? ⟨b, off + k * 2 + 1, none⟩ = some (.int .u8 (C.toNat : Int)) := fun h => I.out.1.two h.bel k _ hp
      have CS : Hid (∀ {w' : World} {Ls : List (Th → Prop)}, EnvP w w' Ls → w'.cell? ⟨b, off + k * 2, none⟩ = some (.int .i64 N) ∧ w'.cell? ⟨b, off + k * 2 + 1, none⟩ = some (.int .u8 (C.toNat : Int))) := ⟨cS⟩
      clear hp cS
      obtain ⟨j, hje⟩ : ∃ j, lst N 8 = j := ⟨_, rfl⟩
      have hj : j < 8 := by rw [← hje]; exact lst_lt N 8 (by omega)
      have LE : Hid (lst N 8 = j) := ⟨hje⟩
      clear hje
      have hji : (j : Int) < 8 := by omega
      have hbO : O ≠ b := by omega
      have cO : wr.cell? ⟨O, j, none⟩ = some (.int .u8 ((want.getD j 0).toNat : Int)) := (R.out.1.cell 1 rfl j).trans (lcs_get _ _ (by rw [R.out.2.wl]; exact hj))
      have fO := R.out.1.frozen 1 rfl j
      have R1 := R.out.1.setCell 1 rfl j (.int .u8 (C.toNat : Int))
      rw [lcs_set] at R1
      have R2 : Hid (EnvP w (wr.setCell ⟨O, j, none⟩ (.int .u8 (C.toNat : Int))) [dk p st, ob O (lcs (want.set j C)) 46]) := ⟨R1⟩
      have cN := (CS.out R.out.1).1
      have cC := (CS.out R.out.1).2
      clear R1
      go_wp2_with fail
      go_region_held3 (fun w' => w'.cell? ⟨b, off + k * 2, none⟩ = some (.int .i64 N) ∧ w'.cell? ⟨b, off + k * 2 + 1, none⟩ = some (.int .u8 (C.toNat : Int))) (first | exact ⟨cN, cC⟩ | (go_keep; done))
        ((go_at_call 10; refine (least_b N 8 _ (by omega) (by omega) hN1 hN2 LE.out).mono ?_; rintro e w' ⟨rfl, hw⟩; subst w'))
      have E6 := R2.out.drew
      clear R2 cN cC cO fO
      go_wp2_with fail
      generalize (wr.setCell ⟨O, j, none⟩ (.int .u8 (C.toNat : Int))).drew = W6 at *
      have E7 := E6.drew
      obtain ⟨st', hst, hW⟩ := R.out.2.write j hj C
      have hpl : st.pend.length < 9000000000000 := by rw [R.out.2.pend]; omega
      have qW : Hid (∀ {w5 : World}, EnvP w w5 [dk p st, ob O (lcs (want.set j C)) 46] → Calls Try.prog 11 #[pt p, .int .i64 (j : Int), .string (fl C)] w5 fun e w' => e = .returned (.int .i64 0) ∧ EnvP w w' [dk p st', ob O (lcs (want.set j C)) 46]) := ⟨fun h5 => write_env h5 0 rfl (j : Int) (fl C) hpl hst⟩
      have qF : Hid (∀ {w5 : World}, EnvP w w5 [dk p st, ob O (lcs (want.set j C)) 46] → Calls Try.prog 12 #[.int .u8 (C.toNat : Int)] w5 fun e w' => e = .returned (.string (fl C)) ∧ EnvP w w' [dk p st, ob O (lcs (want.set j C)) 46]) := ⟨fun h5 => full_env h5 C rfl⟩
      have HW2 : Hid (Wst 8 st' (want.set j C) (k + 1)) := ⟨hW⟩
      clear hst hW R E6
      generalize fl C = T at *
      generalize (C.toNat : Int) = CI at *
      go_region_held3 (fun w' => w'.cell? ⟨b, off + k * 2, none⟩ = some (.int .i64 N) ∧ w'.cell? ⟨b, off + k * 2 + 1, none⟩ = some (.int .u8 CI)) (first | exact CS.out E7 | exact CS.out h5 | exact CS.out h6 | assumption)
        ((first
          | (go_at_call 10; refine (least_b N 8 _ (by omega) (by omega) hN1 hN2 LE.out).mono ?_; rintro e w' ⟨rfl, hw⟩; subst w')
          | (go_at_call 12; refine (qF.out (by assumption)).mono ?_; rintro e w5 ⟨rfl, h5⟩)
          | (go_at_call 11; refine (qW.out (by assumption)).mono ?_; rintro e w6 ⟨rfl, h6⟩)))
      have R8 : Hid (EnvP w w6 [dk p st', ob O (lcs (want.set j C)) 46] ∧ Wst 8 st' (want.set j C) (k + 1)) := ⟨h6, HW2.out⟩
      clear h6 h5 E7 qW qF HW2
      go_wp2
      go_roundw
      case rel => exact ⟨k + 1, by omega, by go_num, st', _, R8⟩
      case measure => simp [intOf]; omega
    · have hke : k = L1.length := by omega
      subst hke
      have hi : ¬ ((L1.length : Int) < L1.length) := by omega
      obtain ⟨st3, hst3, hW3, hs3, hp3⟩ := R.out.2.flush
      have q7 : Calls Try.prog 13 #[pt p] wr fun e w' => e = .returned (.int .i64 0) ∧ EnvP w w' [dk p st3, ob O (lcs want) 46] := flush_env R.out.1 0 rfl (by rw [R.out.2.pend]; omega) hst3
      have K3 : Hid (Pst zs st3 want 0) := ⟨⟨hW3.off, hW3.fall, hW3.len, hW3.wl, by rw [hp3]; exact hs3, by rw [hp3]; rfl⟩⟩
      clear hst3 hW3 hs3 hp3
      go_wp2_with fail
      refine q7.mono ?_
      rintro e w7 ⟨rfl, h7⟩
      have E7 : Hid (EnvP w w7 [dk p st3, ob O (lcs want) 46]) := ⟨h7⟩
      clear q7 h7 R
      dsimp only
      go_wp2
      go_loopw [12] (fun i wr => ∃ k : Nat, k ≤ L2.length ∧ i = .int .i64 k ∧ ∃ st want, Hid (EnvP w wr [dk p st, ob O (lcs want) 46] ∧ Pst zs st want k)) (fun i _ => L2.length - (intOf i).toNat)
      case atStart => exact ⟨0, Nat.zero_le _, rfl, _, _, ⟨E7.out, K3.out⟩⟩
      case round =>
        clear K3
        obtain ⟨k, hk, rfl, st, want, R⟩ := hrel
        by_cases hlt : k < L2.length
        · obtain ⟨⟨N, C⟩, hp⟩ : ∃ q, L2[k]? = some q := ⟨_, List.getElem?_eq_getElem hlt⟩
          have hi : (k : Int) < L2.length := by omega
          have hw1 : wrap64 ((k : Int) + 1) = ((k + 1 : Nat) : Int) := by unfold wrap64; omega
          obtain ⟨b, off, rfl, hb, _, _, hN1, hN2⟩ := I.out.2.1.get k _ hp
          simp only at hN1 hN2
          have CS : Hid (∀ {w' : World} {Ls : List (Th → Prop)}, EnvP w w' Ls → w'.cell? ⟨b, off + k * 2, none⟩ = some (.int .i64 N) ∧ w'.cell? ⟨b, off + k * 2 + 1, none⟩ = some (.int .u8 (C.toNat : Int))) := ⟨fun h => I.out.2.1.two h.bel k _ hp⟩
          clear hp
          have cN := (CS.out R.out.1).1
          have cC := (CS.out R.out.1).2
          go_wp2_with fail
          refine (least_any N 8 _ (by omega) (by omega) hN1 hN2).mono ?_
          rintro e w' ⟨rfl, hw⟩
          subst w'
          have hj := lst_lt N 8 (by omega)
          generalize lst N 8 = j at *
          have hji : (j : Int) < 8 := by omega
          dsimp only
          go_wp2_with fail
          refine (full_env R.out.1 C rfl).mono ?_
          rintro e w5 ⟨rfl, h5⟩
          obtain ⟨st', hst, hW⟩ := R.out.2.write j hj C
          have hpl : st.pend.length < 9000000000000 := by rw [R.out.2.pend]; omega
          have q6 : Calls Try.prog 11 #[pt p, .int .i64 (j : Int), .string (fl C)] w5 fun e w' => e = .returned (.int .i64 0) ∧ EnvP w w' [dk p st', ob O (lcs want) 46] := write_env h5 0 rfl (j : Int) (fl C) hpl hst
          generalize fl C = T at *
          dsimp only
          go_wp2_with fail
          refine q6.mono ?_
          rintro e w6 ⟨rfl, h6⟩
          dsimp only
          go_wp2_with fail
          refine (pending_env h6 0 rfl (show (st'.pend.length : Int) = ((k + 1 : Nat) : Int) by rw [hW.pend])).mono ?_
          rintro e w' ⟨rfl, hw⟩
          subst w'
          dsimp only
          go_wp2_with fail
          refine (isIn_any a3 cap3 zs (k : Int) _ l3 (I.out.2.2.later h6.bel)).mono ?_
          rintro e w' ⟨rfl, hw⟩
          subst w'
          by_cases hin : (k : Int) ∈ zs
          · rw [decide_eq_true hin]
            rw [if_pos hin] at hW
            have cO : w6.cell? ⟨O, j, none⟩ = some (.int .u8 ((want.getD j 0).toNat : Int)) := (h6.cell 1 rfl j).trans (lcs_get _ _ (by rw [R.out.2.wl]; exact hj))
            have fO := h6.frozen 1 rfl j
            have cC6 := (CS.out h6).2
            have R1 := h6.setCell 1 rfl j (.int .u8 (C.toNat : Int))
            rw [lcs_set] at R1
            have R2 : Hid (EnvP w (w6.setCell ⟨O, j, none⟩ (.int .u8 (C.toNat : Int))) [dk p st', ob O (lcs (want.set j C)) 46] ∧ Pst zs st' (want.set j C) (k + 1)) := ⟨R1, hW⟩
            clear R1 hW h6 h5 q6 hst CS cN cC R
            dsimp only
            go_wp2
            go_roundw
            case rel => exact ⟨k + 1, by omega, by go_num, st', _, R2⟩
            case measure => simp [intOf]; omega
          · rw [decide_eq_false hin]
            rw [if_neg hin] at hW
            have R2 : Hid (EnvP w w6 [dk p st', ob O (lcs want) 46] ∧ Pst zs st' want (k + 1)) := ⟨h6, hW⟩
            clear hW h6 h5 q6 hst CS cN cC R
            dsimp only
            go_wp2
            go_roundw
            case rel => exact ⟨k + 1, by omega, by go_num, st', _, R2⟩
            case measure => simp [intOf]; omega
        · have hke : k = L2.length := by omega
          subst hke
          have hi : ¬ ((L2.length : Int) < L2.length) := by omega
          have HPs : Hid (Pst zs st want L2.length) := ⟨R.out.2⟩
          have hpl : st.pend.length ≤ 9000000000000 := by rw [R.out.2.pend]; omega
          have E0 := R.out.1
          clear R E7
          cases fall with
          | false =>
            go_wp2_with fail
            refine (copy_env E0 0 rfl (by omega)).mono ?_
            rintro e x1 ⟨q, rfl, g1⟩
            dsimp only
            go_wp2_with fail
            have hcm : st.crash zs = mid st zs := crash_mid _ _ (by rw [HPs.out.off]; rfl)
            have q1 : Calls Try.prog 15 #[pt p, .slice a3 zs.length cap3] x1 fun e w' => e = .returned (.tuple #[]) ∧ EnvP w w' [dk p (mid st zs), ob O (lcs want) 46, dk q st] := by rw [← hcm]; exact crash_env g1 0 rfl a3 cap3 zs (by omega) l3 (I.out.2.2.later g1.bel)
            refine q1.mono ?_
            rintro e x2 ⟨rfl, g2⟩
            dsimp only
            go_wp2_with fail
            have q2 : Calls Try.prog 15 #[pt p, .slice none 0 0] x2 fun e w' => e = .returned (.tuple #[]) ∧ EnvP w w' [dk p (mid st zs), ob O (lcs want) 46, dk q st] := by
              have h := crash_env g2 0 rfl none 0 [] (by simp [mid]) (by simp) (IIn.nil _ _)
              rw [mid_crash] at h
              exact h
            refine q2.mono ?_
            rintro e x3 ⟨rfl, g3⟩
            dsimp only
            go_wp2_with fail
            have q3 : Calls Try.prog 16 #[pt p] x3 fun e w' => e = .returned (.tuple #[]) ∧ EnvP w w' [dk p (fin st zs), ob O (lcs want) 46, dk q st] := on_env g3 0 rfl (by simp [mid])
            refine q3.mono ?_
            rintro e x4 ⟨rfl, g4⟩
            dsimp only
            go_wp2_with fail
            have q4 : Calls Try.prog 15 #[pt q, .slice a3 zs.length cap3] x4 fun e w' => e = .returned (.tuple #[]) ∧ EnvP w w' [dk p (fin st zs), ob O (lcs want) 46, dk q (mid st zs)] := by rw [← hcm]; exact crash_env g4 2 rfl a3 cap3 zs (by omega) l3 (I.out.2.2.later g4.bel)
            refine q4.mono ?_
            rintro e x5 ⟨rfl, g5⟩
            dsimp only
            go_wp2_with fail
            have q5 : Calls Try.prog 16 #[pt q] x5 fun e w' => e = .returned (.tuple #[]) ∧ EnvP w w' [dk p (fin st zs), ob O (lcs want) 46, dk q (fin st zs)] := on_env g5 2 rfl (by simp [mid])
            refine q5.mono ?_
            rintro e x6 ⟨rfl, g6⟩
            have RD : Hid (∀ i : Nat, i < 8 → (fin st zs).read (i : Int) = (fl (want.getD i 0), 0)) := ⟨fun i hi => fin_read HPs.out i hi⟩
            have fo : (fin st zs).off = false := rfl
            have fp : ((fin st zs).pend.length : Int) = 0 := rfl
            generalize fin st zs = fn at *
            clear q1 q2 q3 q4 q5 g1 g2 g3 g4 g5 hcm
            dsimp only
            go_wp2_with fail
            refine (off_env g6 0 rfl fo).mono ?_
            rintro e w' ⟨rfl, hw⟩
            subst w'
            dsimp only
            go_wp2_with fail
            refine (off_env g6 2 rfl fo).mono ?_
            rintro e w' ⟨rfl, hw⟩
            subst w'
            dsimp only
            go_wp2_with fail
            refine (pending_env g6 0 rfl fp).mono ?_
            rintro e w' ⟨rfl, hw⟩
            subst w'
            dsimp only
            go_wp2_with fail
            refine (pending_env g6 2 rfl fp).mono ?_
            rintro e w' ⟨rfl, hw⟩
            subst w'
            have E9 : Hid (EnvP w x6 [dk p fn, ob O (lcs want) 46, dk q fn]) := ⟨g6⟩
            clear g6 fo fp E0
            dsimp only
            go_wp2
            go_loopw [15] (fun i wr => ∃ k : Nat, k ≤ 8 ∧ i = .int .i64 k ∧ Hid (EnvP w wr [dk p fn, ob O (lcs want) 46, dk q fn])) (fun i _ => 8 - (intOf i).toNat)
            case atStart => exact ⟨0, Nat.zero_le _, rfl, E9⟩
            case round =>
              obtain ⟨k, hk, rfl, R⟩ := hrel
              by_cases hlt : k < 8
              · have hi : (k : Int) < 8 := by omega
                have hw1 : wrap64 ((k : Int) + 1) = ((k + 1 : Nat) : Int) := by unfold wrap64; omega
                have hx := RD.out k hlt
                have F : Hid (∀ {w9 : World}, EnvP w w9 [dk p fn, ob O (lcs want) 46, dk q fn] → Calls Try.prog 12 #[.int .u8 ((want.getD k 0).toNat : Int)] w9 fun e w' => e = .returned (.string (fl (want.getD k 0))) ∧ EnvP w w' [dk p fn, ob O (lcs want) 46, dk q fn]) := ⟨fun h => full_env h _ rfl⟩
                have CW : Hid (∀ {w9 : World}, EnvP w w9 [dk p fn, ob O (lcs want) 46, dk q fn] → w9.cell? ⟨O, k, none⟩ = some (.int .u8 ((want.getD k 0).toNat : Int))) := ⟨fun h => (h.cell 1 rfl k).trans (lcs_get _ _ (by rw [HPs.out.wl]; exact hlt))⟩
                generalize fl (want.getD k 0) = x at *
                generalize ((want.getD k 0).toNat : Int) = wk at *
                have r1 : Calls Try.prog 17 #[pt p, .int .i64 (k : Int)] wr fun e w' => e = .returned (.tuple #[.string x, .int .i64 0]) ∧ EnvP w w' [dk p fn, ob O (lcs want) 46, dk q fn] := read_env R.out 0 rfl (k : Int) hx
                go_wp2_with fail
                refine r1.mono ?_
                rintro e y1 ⟨rfl, g1⟩
                have r2 : Calls Try.prog 17 #[pt q, .int .i64 (k : Int)] y1 fun e w' => e = .returned (.tuple #[.string x, .int .i64 0]) ∧ EnvP w w' [dk p fn, ob O (lcs want) 46, dk q fn] := read_env g1 2 rfl (k : Int) hx
                dsimp only
                go_wp2_with fail
                refine r2.mono ?_
                rintro e y2 ⟨rfl, g2⟩
                have cW := CW.out g2
                clear r1 r2 hx R g1
                dsimp only
                go_wp2_with fail
                refine (F.out g2).mono ?_
                rintro e y3 ⟨rfl, g3⟩
                have R3 : Hid (EnvP w y3 [dk p fn, ob O (lcs want) 46, dk q fn]) := ⟨g3⟩
                clear g3 g2 F CW
                dsimp only
                go_wp2
                go_roundw
                case rel => exact ⟨k + 1, by omega, by go_num, R3⟩
                case measure => simp [intOf]; omega
              · have hke : k = 8 := by omega
                subst hke
                have hi : ¬ (((8 : Nat) : Int) < 8) := by omega
                go_wp2
                go_ret
                exact ⟨rfl, R.out.bel⟩
          | true =>
            have q8 : Calls Try.prog 14 #[pt p, .int .i64 1] wr fun e w' => e = .returned (.tuple #[]) ∧ EnvP w w' [dk p (st.fallTo 1), ob O (lcs want) 46] := fall_env E0 0 rfl 1 (by omega)
            clear E0
            go_wp2_with fail
            refine q8.mono ?_
            rintro e z1 ⟨rfl, E1⟩
            dsimp only
            go_wp2_with fail
            have q9 : Calls Try.prog 13 #[pt p] z1 fun e w' => e = .returned (.int .i64 9) ∧ EnvP w w' [dk p (fell st), ob O (lcs want) 46] := flush_env E1 0 rfl hpl (flush_fell HPs.out)
            refine q9.mono ?_
            rintro e z2 ⟨rfl, E0⟩
            have hfp : ((fell st).pend.length : Int) = (L2.length : Int) := by show ((st.pend.length : Nat) : Int) = _; rw [HPs.out.pend]
            clear q8 q9 E1
            dsimp only
            go_wp2_with fail
            refine (off_env E0 0 rfl (show (fell st).off = true from rfl)).mono ?_
            rintro e w' ⟨rfl, hw⟩
            subst w'
            dsimp only
            go_wp2_with fail
            refine (pending_env E0 0 rfl hfp).mono ?_
            rintro e w' ⟨rfl, hw⟩
            subst w'
            have hfl : (fell st).pend.length ≤ 9000000000000 := hpl
            dsimp only
            go_wp2_with fail
            refine (copy_env E0 0 rfl (by omega)).mono ?_
            rintro e x1 ⟨q, rfl, g1⟩
            dsimp only
            go_wp2_with fail
            have hcm : (fell st).crash zs = mid (fell st) zs := crash_mid _ _ rfl
            have q1 : Calls Try.prog 15 #[pt p, .slice a3 zs.length cap3] x1 fun e w' => e = .returned (.tuple #[]) ∧ EnvP w w' [dk p (mid (fell st) zs), ob O (lcs want) 46, dk q (fell st)] := by rw [← hcm]; exact crash_env g1 0 rfl a3 cap3 zs (by omega) l3 (I.out.2.2.later g1.bel)
            refine q1.mono ?_
            rintro e x2 ⟨rfl, g2⟩
            dsimp only
            go_wp2_with fail
            have q2 : Calls Try.prog 15 #[pt p, .slice none 0 0] x2 fun e w' => e = .returned (.tuple #[]) ∧ EnvP w w' [dk p (mid (fell st) zs), ob O (lcs want) 46, dk q (fell st)] := by
              have h := crash_env g2 0 rfl none 0 [] (by simp [mid]) (by simp) (IIn.nil _ _)
              rw [mid_crash] at h
              exact h
            refine q2.mono ?_
            rintro e x3 ⟨rfl, g3⟩
            dsimp only
            go_wp2_with fail
            have q3 : Calls Try.prog 16 #[pt p] x3 fun e w' => e = .returned (.tuple #[]) ∧ EnvP w w' [dk p (fin (fell st) zs), ob O (lcs want) 46, dk q (fell st)] := on_env g3 0 rfl (by simp [mid])
            refine q3.mono ?_
            rintro e x4 ⟨rfl, g4⟩
            dsimp only
            go_wp2_with fail
            have q4 : Calls Try.prog 15 #[pt q, .slice a3 zs.length cap3] x4 fun e w' => e = .returned (.tuple #[]) ∧ EnvP w w' [dk p (fin (fell st) zs), ob O (lcs want) 46, dk q (mid (fell st) zs)] := by rw [← hcm]; exact crash_env g4 2 rfl a3 cap3 zs (by omega) l3 (I.out.2.2.later g4.bel)
            refine q4.mono ?_
            rintro e x5 ⟨rfl, g5⟩
            dsimp only
            go_wp2_with fail
            have q5 : Calls Try.prog 16 #[pt q] x5 fun e w' => e = .returned (.tuple #[]) ∧ EnvP w w' [dk p (fin (fell st) zs), ob O (lcs want) 46, dk q (fin (fell st) zs)] := on_env g5 2 rfl (by simp [mid])
            refine q5.mono ?_
            rintro e x6 ⟨rfl, g6⟩
            have RD : Hid (∀ i : Nat, i < 8 → (fin (fell st) zs).read (i : Int) = (fl (want.getD i 0), 0)) := ⟨fun i hi => (show (fin st zs).read (i : Int) = _ from fin_read HPs.out i hi)⟩
            have fo : (fin (fell st) zs).off = false := rfl
            have fp : ((fin (fell st) zs).pend.length : Int) = 0 := rfl
            generalize fin (fell st) zs = fn at *
            clear q1 q2 q3 q4 q5 g1 g2 g3 g4 g5 hcm
            dsimp only
            go_wp2_with fail
            refine (off_env g6 0 rfl fo).mono ?_
            rintro e w' ⟨rfl, hw⟩
            subst w'
            dsimp only
            go_wp2_with fail
            refine (off_env g6 2 rfl fo).mono ?_
            rintro e w' ⟨rfl, hw⟩
            subst w'
            dsimp only
            go_wp2_with fail
            refine (pending_env g6 0 rfl fp).mono ?_
            rintro e w' ⟨rfl, hw⟩
            subst w'
            dsimp only
            go_wp2_with fail
            refine (pending_env g6 2 rfl fp).mono ?_
            rintro e w' ⟨rfl, hw⟩
            subst w'
            have E9 : Hid (EnvP w x6 [dk p fn, ob O (lcs want) 46, dk q fn]) := ⟨g6⟩
            clear g6 fo fp E0
            dsimp only
            go_wp2
            go_loopw [15] (fun i wr => ∃ k : Nat, k ≤ 8 ∧ i = .int .i64 k ∧ Hid (EnvP w wr [dk p fn, ob O (lcs want) 46, dk q fn])) (fun i _ => 8 - (intOf i).toNat)
            case atStart => exact ⟨0, Nat.zero_le _, rfl, E9⟩
            case round =>
              obtain ⟨k, hk, rfl, R⟩ := hrel
              by_cases hlt : k < 8
              · have hi : (k : Int) < 8 := by omega
                have hw1 : wrap64 ((k : Int) + 1) = ((k + 1 : Nat) : Int) := by unfold wrap64; omega
                have hx := RD.out k hlt
                have F : Hid (∀ {w9 : World}, EnvP w w9 [dk p fn, ob O (lcs want) 46, dk q fn] → Calls Try.prog 12 #[.int .u8 ((want.getD k 0).toNat : Int)] w9 fun e w' => e = .returned (.string (fl (want.getD k 0))) ∧ EnvP w w' [dk p fn, ob O (lcs want) 46, dk q fn]) := ⟨fun h => full_env h _ rfl⟩
                have CW : Hid (∀ {w9 : World}, EnvP w w9 [dk p fn, ob O (lcs want) 46, dk q fn] → w9.cell? ⟨O, k, none⟩ = some (.int .u8 ((want.getD k 0).toNat : Int))) := ⟨fun h => (h.cell 1 rfl k).trans (lcs_get _ _ (by rw [HPs.out.wl]; exact hlt))⟩
                generalize fl (want.getD k 0) = x at *
                generalize ((want.getD k 0).toNat : Int) = wk at *
                have r1 : Calls Try.prog 17 #[pt p, .int .i64 (k : Int)] wr fun e w' => e = .returned (.tuple #[.string x, .int .i64 0]) ∧ EnvP w w' [dk p fn, ob O (lcs want) 46, dk q fn] := read_env R.out 0 rfl (k : Int) hx
                go_wp2_with fail
                refine r1.mono ?_
                rintro e y1 ⟨rfl, g1⟩
                have r2 : Calls Try.prog 17 #[pt q, .int .i64 (k : Int)] y1 fun e w' => e = .returned (.tuple #[.string x, .int .i64 0]) ∧ EnvP w w' [dk p fn, ob O (lcs want) 46, dk q fn] := read_env g1 2 rfl (k : Int) hx
                dsimp only
                go_wp2_with fail
                refine r2.mono ?_
                rintro e y2 ⟨rfl, g2⟩
                have cW := CW.out g2
                clear r1 r2 hx R g1
                dsimp only
                go_wp2_with fail
                refine (F.out g2).mono ?_
                rintro e y3 ⟨rfl, g3⟩
                have R3 : Hid (EnvP w y3 [dk p fn, ob O (lcs want) 46, dk q fn]) := ⟨g3⟩
                clear g3 g2 F CW
                dsimp only
                go_wp2
                go_roundw
                case rel => exact ⟨k + 1, by omega, by go_num, R3⟩
                case measure => simp [intOf]; omega
              · have hke : k = 8 := by omega
                subst hke
                have hi : ¬ (((8 : Nat) : Int) < 8) := by omega
                go_wp2
                go_ret
                exact ⟨rfl, R.out.bel⟩
end Go.Proofs.Ytmfjhdjphnogiaa
