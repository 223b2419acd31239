/- DiskSafe: the walk. -/
import Derived.Test.YtmfjhdjphnogiaaKepW
namespace Go.Proofs.Ytmfjhdjphnogiaa
set_option linter.unusedVariables false
set_option linter.unusedSimpArgs false
open Go.RowKit
/-- on, no fall -/
structure Sst (st : St) (k : Nat) : Prop where
  off : st.off = false
  fall : st.fall = 0
  len : st.safe.length = 4
  pend : st.pend.length ≤ k
theorem Sst.start : Sst (fresh 4) 0 := ⟨rfl, rfl, by simp [fresh], by simp [fresh]⟩
theorem Sst.write {st : St} {k : Nat} (h : Sst st k) (j : Nat) (hj : j < 4) (c : UInt8) : ∃ st', st.write (j : Int) (fl c) = (st', 0) ∧ Sst st' (k + 1) := by
  have hh : (st.has (j : Int) && (fl c).size == 512) = true := by simp [St.has, fl_size, h.len]; omega
  have hg : st.gone = false := by simp [St.gone, h.fall]
  have hw : st.went = st := by unfold St.went; rw [if_pos h.fall]
  refine ⟨{ st with pend := st.pend ++ [(j, fl c)] }, ?_, ⟨h.off, h.fall, h.len, by simp; exact h.pend⟩⟩
  unfold St.write
  rw [if_neg (by rw [h.off]; simp), if_pos hh, if_neg (by rw [hg]; simp), hw]
  simp
theorem Sst.flush {st : St} {k : Nat} (h : Sst st k) : ∃ st', st.flush = (st', 0) ∧ Sst st' k := by
  have hg : st.gone = false := by simp [St.gone, h.fall]
  have hw : st.went = st := by unfold St.went; rw [if_pos h.fall]
  refine ⟨{ st with safe := st.seen, pend := [] }, ?_, ⟨h.off, h.fall, by rw [St.seen_length]; exact h.len, by simp⟩⟩
  unfold St.flush
  rw [if_neg (by rw [h.off]; simp), if_neg (by rw [hg]; simp), hw]
theorem Sst.bad {st : St} {k : Nat} (h : Sst st k) (o : Int) (ho : ¬ (0 ≤ o ∧ o < 4)) (t : ByteArray) : st.write o t = (st, 1) := by
  unfold St.write
  rw [if_neg (by rw [h.off]; simp), if_neg (by simp [St.has, h.len]; omega)]
theorem Sst.badr {st : St} {k : Nat} (h : Sst st k) (o : Int) (ho : ¬ (0 ≤ o ∧ o < 4)) : st.read o = (ByteArray.empty, 1) := by
  unfold St.read
  rw [if_neg (by rw [h.off]; simp), if_neg (by simp [St.has, h.len]; omega)]
theorem Sst.short {st : St} {k : Nat} (h : Sst st k) (t : ByteArray) (ht : t.size ≠ 512) : st.write 0 t = (st, 1) := by
  unfold St.write
  rw [if_neg (by rw [h.off]; simp), if_neg (by simp [ht])]
theorem on_read (st : St) (h1 : st.off = false) (h2 : st.safe.length = 4) (i : Nat) (hi : i < 4) : ∃ x, st.read (i : Int) = (x, 0) := by
  refine ⟨st.seen.getD i ByteArray.empty, ?_⟩
  unfold St.read
  rw [if_neg (by rw [h1]; simp), if_pos (by simp [St.has, h2]; omega)]
  simp
theorem mid_write (st : St) (zs : List Int) (n : Int) (t : ByteArray) : (mid st zs).write n t = (mid st zs, 9) := by unfold St.write; rw [if_pos (show (mid st zs).off = true from rfl)]
theorem mid_flush (st : St) (zs : List Int) : (mid st zs).flush = (mid st zs, 9) := by unfold St.flush; rw [if_pos (show (mid st zs).off = true from rfl)]
set_option maxHeartbeats 4000000 in
set_option maxRecDepth 100000 in
theorem diskSafe_walk (L1 : List (Int × UInt8)) (a1 : Option Addr) (cap1 : Nat) (fa : Int) (n : Int) (text : ByteArray) (w : World)
    (i1 : PIn w a1 L1) (l1 : L1.length ≤ 8796093021952) (f1 : -9223372036854775808 ≤ fa) (f2 : fa ≤ 9223372036854775807) (n1 : -9223372036854775808 ≤ n) (n2 : n ≤ 9223372036854775807) (hts : text.size ≤ 140737488351232) :
    Calls Try.prog 5 #[.slice a1 L1.length cap1, .int .i64 fa, .int .i64 n, .string text] w fun e w' => e = .returned (.bool true) ∧ Below w.heap.size w w' := by
  have I : Hid (PIn w a1 L1) := ⟨i1⟩
  clear i1
  go_enter Try.func5, Try.ntmps5
  go_wp2_with fail
  refine (head_any _).mono ?_
  rintro e w1 ⟨rfl, b1⟩
  dsimp only
  go_wp2_with fail
  refine (made_env ((EnvP.nil w).below b1) 4 (by omega) (by omega)).mono ?_
  rintro e w2 ⟨p, rfl, h2⟩
  have E2 : Hid (EnvP w w2 [dk p (fresh 4)]) := ⟨h2⟩
  clear h2 b1
  dsimp only
  go_wp2
  go_loopw [10] (fun i wr => ∃ k : Nat, k ≤ L1.length ∧ i = .int .i64 k ∧ ∃ st, Hid (EnvP w wr [dk p st] ∧ Sst st k)) (fun i _ => L1.length - (intOf i).toNat)
  case atStart => exact ⟨0, Nat.zero_le _, rfl, _, ⟨E2.out, Sst.start⟩⟩
  case round =>
    clear E2
    obtain ⟨k, hk, rfl, st, R⟩ := hrel
    by_cases hlt : k < L1.length
    · obtain ⟨⟨N, C⟩, hp⟩ : ∃ q, L1[k]? = some q := ⟨_, List.getElem?_eq_getElem hlt⟩
      have hi : (k : Int) < L1.length := by omega
      have hw1 : wrap64 ((k : Int) + 1) = ((k + 1 : Nat) : Int) := by unfold wrap64; omega
      obtain ⟨b, off, rfl, hb, _, _, hN1, hN2⟩ := I.out.get k _ hp
      simp only at hN1 hN2
      have CS : Hid (∀ {w' : World} {Ls : List (Th → Prop)}, EnvP w w' Ls → w'.cell? ⟨b, off + k * 2, none⟩ = some (.int .i64 N) ∧ w'.cell? ⟨b, off + k * 2 + 1, none⟩ = some (.int .u8 (C.toNat : Int))) := ⟨fun h => I.out.two h.bel k _ hp⟩
      clear hp
      obtain ⟨j, hje⟩ : ∃ j, lst N 4 = j := ⟨_, rfl⟩
      have hj : j < 4 := by rw [← hje]; exact lst_lt N 4 (by omega)
      have LE : Hid (lst N 4 = j) := ⟨hje⟩
      clear hje
      by_cases hfe : (k : Int) = fa
      · have hfd : ((k : Int) == fa) = true := by rw [beq_iff_eq]; exact hfe
        clear hfe
        obtain ⟨st1, hs1, hS1⟩ := R.out.2.flush
        have q1 : Calls Try.prog 13 #[pt p] wr fun e w' => e = .returned (.int .i64 0) ∧ EnvP w w' [dk p st1] := flush_env R.out.1 0 rfl (by have := R.out.2.pend; omega) hs1
        clear hs1
        go_wp2_with fail
        refine q1.mono ?_
        rintro e W6 ⟨rfl, E6⟩
        obtain ⟨st', hst, hW⟩ := hS1.write j hj C
        have hpl : st1.pend.length < 9000000000000 := by have := hS1.pend; omega
        clear q1 R
        dsimp only
        go_wp2_with fail
        have E7 := E6.drew
        have qW : Hid (∀ {w5 : World}, EnvP w w5 [dk p st1] → Calls Try.prog 11 #[pt p, .int .i64 (j : Int), .string (fl C)] w5 fun e w' => e = .returned (.int .i64 0) ∧ EnvP w w' [dk p st']) := ⟨fun h5 => write_env h5 0 rfl (j : Int) (fl C) hpl hst⟩
        have qF : Hid (∀ {w5 : World}, EnvP w w5 [dk p st1] → Calls Try.prog 12 #[.int .u8 (C.toNat : Int)] w5 fun e w' => e = .returned (.string (fl C)) ∧ EnvP w w' [dk p st1]) := ⟨fun h5 => full_env h5 C rfl⟩
        have HW2 : Hid (Sst st' (k + 1)) := ⟨hW⟩
        clear hst hW E6
        generalize fl C = T at *
        generalize (C.toNat : Int) = CI at *
        go_region_held3 (fun w' => w'.cell? ⟨b, off + k * 2, none⟩ = some (.int .i64 N) ∧ w'.cell? ⟨b, off + k * 2 + 1, none⟩ = some (.int .u8 CI)) (first | exact CS.out E7 | exact CS.out h5 | exact CS.out h6 | assumption)
          ((first
            | (go_at_call 10; refine (least_b N 4 _ (by omega) (by omega) hN1 hN2 LE.out).mono ?_; rintro e w' ⟨rfl, hw⟩; subst w')
            | (go_at_call 12; refine (qF.out (by assumption)).mono ?_; rintro e w5 ⟨rfl, h5⟩)
            | (go_at_call 11; refine (qW.out (by assumption)).mono ?_; rintro e w6 ⟨rfl, h6⟩)))
        have R8 : Hid (EnvP w w6 [dk p st'] ∧ Sst st' (k + 1)) := ⟨h6, HW2.out⟩
        clear h6 h5 E7 qW qF HW2
        go_wp2
        go_roundw
        case rel => exact ⟨k + 1, by omega, by go_num, st', R8⟩
        case measure => simp [intOf]; omega
      · have hfd : ((k : Int) == fa) = false := by rw [beq_eq_false_iff_ne]; exact hfe
        clear hfe
        have E6 := R.out.1
        obtain ⟨st', hst, hW⟩ := R.out.2.write j hj C
        have hpl : st.pend.length < 9000000000000 := by have := R.out.2.pend; omega
        clear R
        go_wp2_with fail
        have E7 := E6.drew
        have qW : Hid (∀ {w5 : World}, EnvP w w5 [dk p st] → Calls Try.prog 11 #[pt p, .int .i64 (j : Int), .string (fl C)] w5 fun e w' => e = .returned (.int .i64 0) ∧ EnvP w w' [dk p st']) := ⟨fun h5 => write_env h5 0 rfl (j : Int) (fl C) hpl hst⟩
        have qF : Hid (∀ {w5 : World}, EnvP w w5 [dk p st] → Calls Try.prog 12 #[.int .u8 (C.toNat : Int)] w5 fun e w' => e = .returned (.string (fl C)) ∧ EnvP w w' [dk p st]) := ⟨fun h5 => full_env h5 C rfl⟩
        have HW2 : Hid (Sst st' (k + 1)) := ⟨hW⟩
        clear hst hW E6
        generalize fl C = T at *
        generalize (C.toNat : Int) = CI at *
        go_region_held3 (fun w' => w'.cell? ⟨b, off + k * 2, none⟩ = some (.int .i64 N) ∧ w'.cell? ⟨b, off + k * 2 + 1, none⟩ = some (.int .u8 CI)) (first | exact CS.out E7 | exact CS.out h5 | exact CS.out h6 | assumption)
          ((first
            | (go_at_call 10; refine (least_b N 4 _ (by omega) (by omega) hN1 hN2 LE.out).mono ?_; rintro e w' ⟨rfl, hw⟩; subst w')
            | (go_at_call 12; refine (qF.out (by assumption)).mono ?_; rintro e w5 ⟨rfl, h5⟩)
            | (go_at_call 11; refine (qW.out (by assumption)).mono ?_; rintro e w6 ⟨rfl, h6⟩)))
        have R8 : Hid (EnvP w w6 [dk p st'] ∧ Sst st' (k + 1)) := ⟨h6, HW2.out⟩
        clear h6 h5 E7 qW qF HW2
        go_wp2
        go_roundw
        case rel => exact ⟨k + 1, by omega, by go_num, st', R8⟩
        case measure => simp [intOf]; omega
    · have hke : k = L1.length := by omega
      subst hke
      have hi : ¬ ((L1.length : Int) < L1.length) := by omega
      have HS : Hid (Sst st L1.length) := ⟨R.out.2⟩
      have hpl : st.pend.length < 9000000000000 := by have := R.out.2.pend; omega
      have E0 := R.out.1
      clear R
      go_wp2_with fail
      refine (copy_env E0 0 rfl (by omega)).mono ?_
      rintro e x1 ⟨q, rfl, g1⟩
      have G1 : Hid (EnvP w x1 [dk p st, dk q st]) := ⟨g1⟩
      clear g1 E0
      dsimp only
      by_cases hn : 0 ≤ n ∧ n < 4
      · have hn1 := hn.1
        have hn2 := hn.2
        have hw4 : wrap64 (n + 4) = n + 4 := by unfold wrap64; omega
        have ho : ¬ (0 ≤ n + 4 ∧ n + 4 < 4) := by omega
        by_cases ht : text.size = 512
        · have hti : ((text.size : Int) == 512) = true := by rw [beq_iff_eq]; omega
          have htn : (text ++ ⟨#[120]⟩).size ≠ 512 := by rw [ByteArray.size_append, ht]; decide
          have htm : ¬ 9223372036854775807 < text.size + (⟨#[120]⟩ : ByteArray).size := by rw [ht]; decide
          have HT : Hid (text.size = 512) := ⟨ht⟩
          clear ht
          have hs1 := HS.out.badr (n + 4) ho
          have hs2 := HS.out.bad (n + 4) ho (fl 120)
          have hs3 := HS.out.short (text ++ ⟨#[120]⟩) htn
          have qF1 : Hid (∀ {w5 : World} {Ls : List (Th → Prop)}, EnvP w w5 Ls → Calls Try.prog 12 #[.int .u8 120] w5 fun e w' => e = .returned (.string (fl 120)) ∧ EnvP w w' Ls) := ⟨fun h5 => full_env h5 120 rfl⟩
          have qB1 : Hid (∀ {w5 : World}, EnvP w w5 [dk p st, dk q st] → Calls Try.prog 11 #[pt p, .int .i64 (n + 4), .string (fl 120)] w5 fun e w' => e = .returned (.int .i64 1) ∧ EnvP w w' [dk p st, dk q st]) := ⟨fun h5 => write_env h5 0 rfl _ _ hpl hs2⟩
          have qB2 : Hid (∀ {w5 : World}, EnvP w w5 [dk p st, dk q st] → Calls Try.prog 11 #[pt p, .int .i64 0, .string (text ++ ⟨#[120]⟩)] w5 fun e w' => e = .returned (.int .i64 1) ∧ EnvP w w' [dk p st, dk q st]) := ⟨fun h5 => write_env h5 0 rfl _ _ hpl hs3⟩
          have qR1 : Hid (∀ {w5 : World}, EnvP w w5 [dk p st, dk q st] → Calls Try.prog 17 #[pt p, .int .i64 (n + 4)] w5 fun e w' => e = .returned (.tuple #[.string ByteArray.empty, .int .i64 1]) ∧ EnvP w w' [dk p st, dk q st]) := ⟨fun h5 => read_env h5 0 rfl _ hs1⟩
          have qM1 : Hid (∀ {w5 : World}, EnvP w w5 [dk p (mid st []), dk q (mid st [])] → Calls Try.prog 11 #[pt p, .int .i64 0, .string (fl 120)] w5 fun e w' => e = .returned (.int .i64 9) ∧ EnvP w w' [dk p (mid st []), dk q (mid st [])]) := ⟨fun h5 => write_env h5 0 rfl _ _ (by simp [mid]) (mid_write _ _ _ _)⟩
          have qM2 : Hid (∀ {w5 : World}, EnvP w w5 [dk p (mid st []), dk q (mid st [])] → Calls Try.prog 13 #[pt p] w5 fun e w' => e = .returned (.int .i64 9) ∧ EnvP w w' [dk p (mid st []), dk q (mid st [])]) := ⟨fun h5 => flush_env h5 0 rfl (by simp [mid]) (mid_flush _ _)⟩
          clear hs1 hs2 hs3
          generalize fl 120 = T120 at *
          go_wp2_with fail
          refine (qR1.out G1.out).mono ?_
          rintro e x2 ⟨rfl, g2⟩
          dsimp only
          go_wp2_with fail
          refine (qF1.out g2).mono ?_
          rintro e x3 ⟨rfl, g3⟩
          dsimp only
          go_wp2_with fail
          refine (qB1.out g3).mono ?_
          rintro e x4 ⟨rfl, g4⟩
          dsimp only
          go_wp2_with fail
          refine (qB2.out g4).mono ?_
          rintro e x5 ⟨rfl, g5⟩
          dsimp only
          go_wp2_with fail
          refine (pending_env g5 0 rfl (rfl : (st.pend.length : Int) = (st.pend.length : Int))).mono ?_
          rintro e w' ⟨rfl, hw⟩
          subst w'
          dsimp only
          go_wp2_with fail
          refine (pending_env g5 1 rfl (rfl : (st.pend.length : Int) = (st.pend.length : Int))).mono ?_
          rintro e w' ⟨rfl, hw⟩
          subst w'
          have EZ : Hid (EnvP w x5 [dk p st, dk q st]) := ⟨g5⟩
          have HON : Hid (st.off = false ∧ st.safe.length = 4) := ⟨HS.out.off, HS.out.len⟩
          clear g2 g3 g4 g5 G1 qR1 qB1 qB2
          dsimp only
          go_wp2
          go_loopw [15] (fun i wr => ∃ k : Nat, k ≤ 4 ∧ i = .int .i64 k ∧ Hid (EnvP w wr [dk p st, dk q st])) (fun i _ => 4 - (intOf i).toNat)
          case atStart => exact ⟨0, Nat.zero_le _, rfl, EZ⟩
          case round =>
            clear EZ
            obtain ⟨k, hk, rfl, R⟩ := hrel
            by_cases hlt : k < 4
            · have hi : (k : Int) < 4 := by omega
              have hw1 : wrap64 ((k : Int) + 1) = ((k + 1 : Nat) : Int) := by unfold wrap64; omega
              obtain ⟨x, hx⟩ := on_read st HON.out.1 HON.out.2 k hlt
              have r1 : Calls Try.prog 17 #[pt p, .int .i64 (k : Int)] wr fun e w' => e = .returned (.tuple #[.string x, .int .i64 0]) ∧ EnvP w w' [dk p st, dk q st] := read_env R.out 0 rfl (k : Int) hx
              go_wp2_with fail
              refine r1.mono ?_
              rintro e y1 ⟨rfl, k1⟩
              have r2 : Calls Try.prog 17 #[pt q, .int .i64 (k : Int)] y1 fun e w' => e = .returned (.tuple #[.string x, .int .i64 0]) ∧ EnvP w w' [dk p st, dk q st] := read_env k1 1 rfl (k : Int) hx
              dsimp only
              go_wp2_with fail
              refine r2.mono ?_
              rintro e y2 ⟨rfl, k2⟩
              have R3 : Hid (EnvP w y2 [dk p st, dk q st]) := ⟨k2⟩
              clear r1 r2 hx R k1 k2
              dsimp only
              go_wp2
              go_roundw
              case rel => exact ⟨k + 1, by omega, by go_num, R3⟩
              case measure => simp [intOf]; omega
            · have hke : k = 4 := by omega
              subst hke
              have hi : ¬ (((4 : Nat) : Int) < 4) := by omega
              clear HON
              have hcm : st.crash [] = mid st [] := crash_mid _ _ (by rw [HS.out.off]; rfl)
              have c1 : Calls Try.prog 15 #[pt p, .slice none 0 0] wr fun e w' => e = .returned (.tuple #[]) ∧ EnvP w w' [dk p (mid st []), dk q st] := by rw [← hcm]; exact crash_env R.out 0 rfl none 0 [] (by omega) (by simp) (IIn.nil _ _)
              go_wp2_with fail
              refine c1.mono ?_
              rintro e y1 ⟨rfl, k1⟩
              dsimp only
              go_wp2_with fail
              have c2 : Calls Try.prog 15 #[pt q, .slice none 0 0] y1 fun e w' => e = .returned (.tuple #[]) ∧ EnvP w w' [dk p (mid st []), dk q (mid st [])] := by rw [← hcm]; rw [← hcm] at k1; exact crash_env k1 1 rfl none 0 [] (by omega) (by simp) (IIn.nil _ _)
              refine c2.mono ?_
              rintro e y2 ⟨rfl, k2⟩
              dsimp only
              go_wp2_with fail
              refine (qF1.out k2).mono ?_
              rintro e y3 ⟨rfl, k3⟩
              dsimp only
              go_wp2_with fail
              refine (qM1.out k3).mono ?_
              rintro e y4 ⟨rfl, k4⟩
              dsimp only
              go_wp2_with fail
              refine (qM2.out k4).mono ?_
              rintro e y5 ⟨rfl, k5⟩
              dsimp only
              go_wp2_with fail
              have c3 : Calls Try.prog 16 #[pt p] y5 fun e w' => e = .returned (.tuple #[]) ∧ EnvP w w' [dk p (fin st []), dk q (mid st [])] := on_env k5 0 rfl (by simp [mid])
              refine c3.mono ?_
              rintro e y6 ⟨rfl, k6⟩
              dsimp only
              go_wp2_with fail
              have c4 : Calls Try.prog 16 #[pt q] y6 fun e w' => e = .returned (.tuple #[]) ∧ EnvP w w' [dk p (fin st []), dk q (fin st [])] := on_env k6 1 rfl (by simp [mid])
              refine c4.mono ?_
              rintro e y7 ⟨rfl, k7⟩
              have EZ : Hid (EnvP w y7 [dk p (fin st []), dk q (fin st [])]) := ⟨k7⟩
              have HON : Hid ((fin st []).off = false ∧ (fin st []).safe.length = 4) := ⟨rfl, by simp [fin, layK_length, HS.out.len]⟩
              generalize fin st [] = fz at *
              clear c1 c2 c3 c4 k1 k2 k3 k4 k5 k6 k7 R qM1 qM2 qF1 hcm
              dsimp only
              go_wp2
              go_loopw [20] (fun i wr => ∃ k : Nat, k ≤ 4 ∧ i = .int .i64 k ∧ Hid (EnvP w wr [dk p fz, dk q fz])) (fun i _ => 4 - (intOf i).toNat)
              case atStart => exact ⟨0, Nat.zero_le _, rfl, EZ⟩
              case round =>
                clear EZ
                obtain ⟨k, hk, rfl, R⟩ := hrel
                by_cases hlt : k < 4
                · have hi : (k : Int) < 4 := by omega
                  have hw1 : wrap64 ((k : Int) + 1) = ((k + 1 : Nat) : Int) := by unfold wrap64; omega
                  obtain ⟨x, hx⟩ := on_read fz HON.out.1 HON.out.2 k hlt
                  have r1 : Calls Try.prog 17 #[pt p, .int .i64 (k : Int)] wr fun e w' => e = .returned (.tuple #[.string x, .int .i64 0]) ∧ EnvP w w' [dk p fz, dk q fz] := read_env R.out 0 rfl (k : Int) hx
                  go_wp2_with fail
                  refine r1.mono ?_
                  rintro e y1 ⟨rfl, k1⟩
                  have r2 : Calls Try.prog 17 #[pt q, .int .i64 (k : Int)] y1 fun e w' => e = .returned (.tuple #[.string x, .int .i64 0]) ∧ EnvP w w' [dk p fz, dk q fz] := read_env k1 1 rfl (k : Int) hx
                  dsimp only
                  go_wp2_with fail
                  refine r2.mono ?_
                  rintro e y2 ⟨rfl, k2⟩
                  have R3 : Hid (EnvP w y2 [dk p fz, dk q fz]) := ⟨k2⟩
                  clear r1 r2 hx R k1 k2
                  dsimp only
                  go_wp2
                  go_roundw
                  case rel => exact ⟨k + 1, by omega, by go_num, R3⟩
                  case measure => simp [intOf]; omega
                · have hke : k = 4 := by omega
                  subst hke
                  have hi : ¬ (((4 : Nat) : Int) < 4) := by omega
                  go_wp2
                  go_ret
                  exact ⟨rfl, R.out.bel⟩
        · have hti : ((text.size : Int) == 512) = false := by rw [beq_eq_false_iff_ne]; omega
          have htn : text.size ≠ 512 := ht
          clear ht
          have hs1 := HS.out.badr (n + 4) ho
          have hs2 := HS.out.bad (n + 4) ho (fl 120)
          have hs3 := HS.out.short (text) htn
          have qF1 : Hid (∀ {w5 : World} {Ls : List (Th → Prop)}, EnvP w w5 Ls → Calls Try.prog 12 #[.int .u8 120] w5 fun e w' => e = .returned (.string (fl 120)) ∧ EnvP w w' Ls) := ⟨fun h5 => full_env h5 120 rfl⟩
          have qB1 : Hid (∀ {w5 : World}, EnvP w w5 [dk p st, dk q st] → Calls Try.prog 11 #[pt p, .int .i64 (n + 4), .string (fl 120)] w5 fun e w' => e = .returned (.int .i64 1) ∧ EnvP w w' [dk p st, dk q st]) := ⟨fun h5 => write_env h5 0 rfl _ _ hpl hs2⟩
          have qB2 : Hid (∀ {w5 : World}, EnvP w w5 [dk p st, dk q st] → Calls Try.prog 11 #[pt p, .int .i64 0, .string (text)] w5 fun e w' => e = .returned (.int .i64 1) ∧ EnvP w w' [dk p st, dk q st]) := ⟨fun h5 => write_env h5 0 rfl _ _ hpl hs3⟩
          have qR1 : Hid (∀ {w5 : World}, EnvP w w5 [dk p st, dk q st] → Calls Try.prog 17 #[pt p, .int .i64 (n + 4)] w5 fun e w' => e = .returned (.tuple #[.string ByteArray.empty, .int .i64 1]) ∧ EnvP w w' [dk p st, dk q st]) := ⟨fun h5 => read_env h5 0 rfl _ hs1⟩
          have qM1 : Hid (∀ {w5 : World}, EnvP w w5 [dk p (mid st []), dk q (mid st [])] → Calls Try.prog 11 #[pt p, .int .i64 0, .string (fl 120)] w5 fun e w' => e = .returned (.int .i64 9) ∧ EnvP w w' [dk p (mid st []), dk q (mid st [])]) := ⟨fun h5 => write_env h5 0 rfl _ _ (by simp [mid]) (mid_write _ _ _ _)⟩
          have qM2 : Hid (∀ {w5 : World}, EnvP w w5 [dk p (mid st []), dk q (mid st [])] → Calls Try.prog 13 #[pt p] w5 fun e w' => e = .returned (.int .i64 9) ∧ EnvP w w' [dk p (mid st []), dk q (mid st [])]) := ⟨fun h5 => flush_env h5 0 rfl (by simp [mid]) (mid_flush _ _)⟩
          clear hs1 hs2 hs3
          generalize fl 120 = T120 at *
          go_wp2_with fail
          refine (qR1.out G1.out).mono ?_
          rintro e x2 ⟨rfl, g2⟩
          dsimp only
          go_wp2_with fail
          refine (qF1.out g2).mono ?_
          rintro e x3 ⟨rfl, g3⟩
          dsimp only
          go_wp2_with fail
          refine (qB1.out g3).mono ?_
          rintro e x4 ⟨rfl, g4⟩
          dsimp only
          go_wp2_with fail
          refine (qB2.out g4).mono ?_
          rintro e x5 ⟨rfl, g5⟩
          dsimp only
          go_wp2_with fail
          refine (pending_env g5 0 rfl (rfl : (st.pend.length : Int) = (st.pend.length : Int))).mono ?_
          rintro e w' ⟨rfl, hw⟩
          subst w'
          dsimp only
          go_wp2_with fail
          refine (pending_env g5 1 rfl (rfl : (st.pend.length : Int) = (st.pend.length : Int))).mono ?_
          rintro e w' ⟨rfl, hw⟩
          subst w'
          have EZ : Hid (EnvP w x5 [dk p st, dk q st]) := ⟨g5⟩
          have HON : Hid (st.off = false ∧ st.safe.length = 4) := ⟨HS.out.off, HS.out.len⟩
          clear g2 g3 g4 g5 G1 qR1 qB1 qB2
          dsimp only
          go_wp2
          go_loopw [15] (fun i wr => ∃ k : Nat, k ≤ 4 ∧ i = .int .i64 k ∧ Hid (EnvP w wr [dk p st, dk q st])) (fun i _ => 4 - (intOf i).toNat)
          case atStart => exact ⟨0, Nat.zero_le _, rfl, EZ⟩
          case round =>
            clear EZ
            obtain ⟨k, hk, rfl, R⟩ := hrel
            by_cases hlt : k < 4
            · have hi : (k : Int) < 4 := by omega
              have hw1 : wrap64 ((k : Int) + 1) = ((k + 1 : Nat) : Int) := by unfold wrap64; omega
              obtain ⟨x, hx⟩ := on_read st HON.out.1 HON.out.2 k hlt
              have r1 : Calls Try.prog 17 #[pt p, .int .i64 (k : Int)] wr fun e w' => e = .returned (.tuple #[.string x, .int .i64 0]) ∧ EnvP w w' [dk p st, dk q st] := read_env R.out 0 rfl (k : Int) hx
              go_wp2_with fail
              refine r1.mono ?_
              rintro e y1 ⟨rfl, k1⟩
              have r2 : Calls Try.prog 17 #[pt q, .int .i64 (k : Int)] y1 fun e w' => e = .returned (.tuple #[.string x, .int .i64 0]) ∧ EnvP w w' [dk p st, dk q st] := read_env k1 1 rfl (k : Int) hx
              dsimp only
              go_wp2_with fail
              refine r2.mono ?_
              rintro e y2 ⟨rfl, k2⟩
              have R3 : Hid (EnvP w y2 [dk p st, dk q st]) := ⟨k2⟩
              clear r1 r2 hx R k1 k2
              dsimp only
              go_wp2
              go_roundw
              case rel => exact ⟨k + 1, by omega, by go_num, R3⟩
              case measure => simp [intOf]; omega
            · have hke : k = 4 := by omega
              subst hke
              have hi : ¬ (((4 : Nat) : Int) < 4) := by omega
              clear HON
              have hcm : st.crash [] = mid st [] := crash_mid _ _ (by rw [HS.out.off]; rfl)
              have c1 : Calls Try.prog 15 #[pt p, .slice none 0 0] wr fun e w' => e = .returned (.tuple #[]) ∧ EnvP w w' [dk p (mid st []), dk q st] := by rw [← hcm]; exact crash_env R.out 0 rfl none 0 [] (by omega) (by simp) (IIn.nil _ _)
              go_wp2_with fail
              refine c1.mono ?_
              rintro e y1 ⟨rfl, k1⟩
              dsimp only
              go_wp2_with fail
              have c2 : Calls Try.prog 15 #[pt q, .slice none 0 0] y1 fun e w' => e = .returned (.tuple #[]) ∧ EnvP w w' [dk p (mid st []), dk q (mid st [])] := by rw [← hcm]; rw [← hcm] at k1; exact crash_env k1 1 rfl none 0 [] (by omega) (by simp) (IIn.nil _ _)
              refine c2.mono ?_
              rintro e y2 ⟨rfl, k2⟩
              dsimp only
              go_wp2_with fail
              refine (qF1.out k2).mono ?_
              rintro e y3 ⟨rfl, k3⟩
              dsimp only
              go_wp2_with fail
              refine (qM1.out k3).mono ?_
              rintro e y4 ⟨rfl, k4⟩
              dsimp only
              go_wp2_with fail
              refine (qM2.out k4).mono ?_
              rintro e y5 ⟨rfl, k5⟩
              dsimp only
              go_wp2_with fail
              have c3 : Calls Try.prog 16 #[pt p] y5 fun e w' => e = .returned (.tuple #[]) ∧ EnvP w w' [dk p (fin st []), dk q (mid st [])] := on_env k5 0 rfl (by simp [mid])
              refine c3.mono ?_
              rintro e y6 ⟨rfl, k6⟩
              dsimp only
              go_wp2_with fail
              have c4 : Calls Try.prog 16 #[pt q] y6 fun e w' => e = .returned (.tuple #[]) ∧ EnvP w w' [dk p (fin st []), dk q (fin st [])] := on_env k6 1 rfl (by simp [mid])
              refine c4.mono ?_
              rintro e y7 ⟨rfl, k7⟩
              have EZ : Hid (EnvP w y7 [dk p (fin st []), dk q (fin st [])]) := ⟨k7⟩
              have HON : Hid ((fin st []).off = false ∧ (fin st []).safe.length = 4) := ⟨rfl, by simp [fin, layK_length, HS.out.len]⟩
              generalize fin st [] = fz at *
              clear c1 c2 c3 c4 k1 k2 k3 k4 k5 k6 k7 R qM1 qM2 qF1 hcm
              dsimp only
              go_wp2
              go_loopw [20] (fun i wr => ∃ k : Nat, k ≤ 4 ∧ i = .int .i64 k ∧ Hid (EnvP w wr [dk p fz, dk q fz])) (fun i _ => 4 - (intOf i).toNat)
              case atStart => exact ⟨0, Nat.zero_le _, rfl, EZ⟩
              case round =>
                clear EZ
                obtain ⟨k, hk, rfl, R⟩ := hrel
                by_cases hlt : k < 4
                · have hi : (k : Int) < 4 := by omega
                  have hw1 : wrap64 ((k : Int) + 1) = ((k + 1 : Nat) : Int) := by unfold wrap64; omega
                  obtain ⟨x, hx⟩ := on_read fz HON.out.1 HON.out.2 k hlt
                  have r1 : Calls Try.prog 17 #[pt p, .int .i64 (k : Int)] wr fun e w' => e = .returned (.tuple #[.string x, .int .i64 0]) ∧ EnvP w w' [dk p fz, dk q fz] := read_env R.out 0 rfl (k : Int) hx
                  go_wp2_with fail
                  refine r1.mono ?_
                  rintro e y1 ⟨rfl, k1⟩
                  have r2 : Calls Try.prog 17 #[pt q, .int .i64 (k : Int)] y1 fun e w' => e = .returned (.tuple #[.string x, .int .i64 0]) ∧ EnvP w w' [dk p fz, dk q fz] := read_env k1 1 rfl (k : Int) hx
                  dsimp only
                  go_wp2_with fail
                  refine r2.mono ?_
                  rintro e y2 ⟨rfl, k2⟩
                  have R3 : Hid (EnvP w y2 [dk p fz, dk q fz]) := ⟨k2⟩
                  clear r1 r2 hx R k1 k2
                  dsimp only
                  go_wp2
                  go_roundw
                  case rel => exact ⟨k + 1, by omega, by go_num, R3⟩
                  case measure => simp [intOf]; omega
                · have hke : k = 4 := by omega
                  subst hke
                  have hi : ¬ (((4 : Nat) : Int) < 4) := by omega
                  go_wp2
                  go_ret
                  exact ⟨rfl, R.out.bel⟩
      · have ho : ¬ (0 ≤ n ∧ n < 4) := hn
        rcases (show n < 0 ∨ 4 ≤ n by omega) with hneg | hbig
        · have hn0 : ¬ (0 ≤ n) := by omega
          by_cases ht : text.size = 512
          · have hti : ((text.size : Int) == 512) = true := by rw [beq_iff_eq]; omega
            have htn : (text ++ ⟨#[120]⟩).size ≠ 512 := by rw [ByteArray.size_append, ht]; decide
            have htm : ¬ 9223372036854775807 < text.size + (⟨#[120]⟩ : ByteArray).size := by rw [ht]; decide
            have HT : Hid (text.size = 512) := ⟨ht⟩
            clear ht
            have hs1 := HS.out.badr (n) ho
            have hs2 := HS.out.bad (n) ho (fl 120)
            have hs3 := HS.out.short (text ++ ⟨#[120]⟩) htn
            have qF1 : Hid (∀ {w5 : World} {Ls : List (Th → Prop)}, EnvP w w5 Ls → Calls Try.prog 12 #[.int .u8 120] w5 fun e w' => e = .returned (.string (fl 120)) ∧ EnvP w w' Ls) := ⟨fun h5 => full_env h5 120 rfl⟩
            have qB1 : Hid (∀ {w5 : World}, EnvP w w5 [dk p st, dk q st] → Calls Try.prog 11 #[pt p, .int .i64 (n), .string (fl 120)] w5 fun e w' => e = .returned (.int .i64 1) ∧ EnvP w w' [dk p st, dk q st]) := ⟨fun h5 => write_env h5 0 rfl _ _ hpl hs2⟩
            have qB2 : Hid (∀ {w5 : World}, EnvP w w5 [dk p st, dk q st] → Calls Try.prog 11 #[pt p, .int .i64 0, .string (text ++ ⟨#[120]⟩)] w5 fun e w' => e = .returned (.int .i64 1) ∧ EnvP w w' [dk p st, dk q st]) := ⟨fun h5 => write_env h5 0 rfl _ _ hpl hs3⟩
            have qR1 : Hid (∀ {w5 : World}, EnvP w w5 [dk p st, dk q st] → Calls Try.prog 17 #[pt p, .int .i64 (n)] w5 fun e w' => e = .returned (.tuple #[.string ByteArray.empty, .int .i64 1]) ∧ EnvP w w' [dk p st, dk q st]) := ⟨fun h5 => read_env h5 0 rfl _ hs1⟩
            have qM1 : Hid (∀ {w5 : World}, EnvP w w5 [dk p (mid st []), dk q (mid st [])] → Calls Try.prog 11 #[pt p, .int .i64 0, .string (fl 120)] w5 fun e w' => e = .returned (.int .i64 9) ∧ EnvP w w' [dk p (mid st []), dk q (mid st [])]) := ⟨fun h5 => write_env h5 0 rfl _ _ (by simp [mid]) (mid_write _ _ _ _)⟩
            have qM2 : Hid (∀ {w5 : World}, EnvP w w5 [dk p (mid st []), dk q (mid st [])] → Calls Try.prog 13 #[pt p] w5 fun e w' => e = .returned (.int .i64 9) ∧ EnvP w w' [dk p (mid st []), dk q (mid st [])]) := ⟨fun h5 => flush_env h5 0 rfl (by simp [mid]) (mid_flush _ _)⟩
            clear hs1 hs2 hs3
            generalize fl 120 = T120 at *
            go_wp2_with fail
            refine (qR1.out G1.out).mono ?_
            rintro e x2 ⟨rfl, g2⟩
            dsimp only
            go_wp2_with fail
            refine (qF1.out g2).mono ?_
            rintro e x3 ⟨rfl, g3⟩
            dsimp only
            go_wp2_with fail
            refine (qB1.out g3).mono ?_
            rintro e x4 ⟨rfl, g4⟩
            dsimp only
            go_wp2_with fail
            refine (qB2.out g4).mono ?_
            rintro e x5 ⟨rfl, g5⟩
            dsimp only
            go_wp2_with fail
            refine (pending_env g5 0 rfl (rfl : (st.pend.length : Int) = (st.pend.length : Int))).mono ?_
            rintro e w' ⟨rfl, hw⟩
            subst w'
            dsimp only
            go_wp2_with fail
            refine (pending_env g5 1 rfl (rfl : (st.pend.length : Int) = (st.pend.length : Int))).mono ?_
            rintro e w' ⟨rfl, hw⟩
            subst w'
            have EZ : Hid (EnvP w x5 [dk p st, dk q st]) := ⟨g5⟩
            have HON : Hid (st.off = false ∧ st.safe.length = 4) := ⟨HS.out.off, HS.out.len⟩
            clear g2 g3 g4 g5 G1 qR1 qB1 qB2
            dsimp only
            go_wp2
            go_loopw [15] (fun i wr => ∃ k : Nat, k ≤ 4 ∧ i = .int .i64 k ∧ Hid (EnvP w wr [dk p st, dk q st])) (fun i _ => 4 - (intOf i).toNat)
            case atStart => exact ⟨0, Nat.zero_le _, rfl, EZ⟩
            case round =>
              clear EZ
              obtain ⟨k, hk, rfl, R⟩ := hrel
              by_cases hlt : k < 4
              · have hi : (k : Int) < 4 := by omega
                have hw1 : wrap64 ((k : Int) + 1) = ((k + 1 : Nat) : Int) := by unfold wrap64; omega
                obtain ⟨x, hx⟩ := on_read st HON.out.1 HON.out.2 k hlt
                have r1 : Calls Try.prog 17 #[pt p, .int .i64 (k : Int)] wr fun e w' => e = .returned (.tuple #[.string x, .int .i64 0]) ∧ EnvP w w' [dk p st, dk q st] := read_env R.out 0 rfl (k : Int) hx
                go_wp2_with fail
                refine r1.mono ?_
                rintro e y1 ⟨rfl, k1⟩
                have r2 : Calls Try.prog 17 #[pt q, .int .i64 (k : Int)] y1 fun e w' => e = .returned (.tuple #[.string x, .int .i64 0]) ∧ EnvP w w' [dk p st, dk q st] := read_env k1 1 rfl (k : Int) hx
                dsimp only
                go_wp2_with fail
                refine r2.mono ?_
                rintro e y2 ⟨rfl, k2⟩
                have R3 : Hid (EnvP w y2 [dk p st, dk q st]) := ⟨k2⟩
                clear r1 r2 hx R k1 k2
                dsimp only
                go_wp2
                go_roundw
                case rel => exact ⟨k + 1, by omega, by go_num, R3⟩
                case measure => simp [intOf]; omega
              · have hke : k = 4 := by omega
                subst hke
                have hi : ¬ (((4 : Nat) : Int) < 4) := by omega
                clear HON
                have hcm : st.crash [] = mid st [] := crash_mid _ _ (by rw [HS.out.off]; rfl)
                have c1 : Calls Try.prog 15 #[pt p, .slice none 0 0] wr fun e w' => e = .returned (.tuple #[]) ∧ EnvP w w' [dk p (mid st []), dk q st] := by rw [← hcm]; exact crash_env R.out 0 rfl none 0 [] (by omega) (by simp) (IIn.nil _ _)
                go_wp2_with fail
                refine c1.mono ?_
                rintro e y1 ⟨rfl, k1⟩
                dsimp only
                go_wp2_with fail
                have c2 : Calls Try.prog 15 #[pt q, .slice none 0 0] y1 fun e w' => e = .returned (.tuple #[]) ∧ EnvP w w' [dk p (mid st []), dk q (mid st [])] := by rw [← hcm]; rw [← hcm] at k1; exact crash_env k1 1 rfl none 0 [] (by omega) (by simp) (IIn.nil _ _)
                refine c2.mono ?_
                rintro e y2 ⟨rfl, k2⟩
                dsimp only
                go_wp2_with fail
                refine (qF1.out k2).mono ?_
                rintro e y3 ⟨rfl, k3⟩
                dsimp only
                go_wp2_with fail
                refine (qM1.out k3).mono ?_
                rintro e y4 ⟨rfl, k4⟩
                dsimp only
                go_wp2_with fail
                refine (qM2.out k4).mono ?_
                rintro e y5 ⟨rfl, k5⟩
                dsimp only
                go_wp2_with fail
                have c3 : Calls Try.prog 16 #[pt p] y5 fun e w' => e = .returned (.tuple #[]) ∧ EnvP w w' [dk p (fin st []), dk q (mid st [])] := on_env k5 0 rfl (by simp [mid])
                refine c3.mono ?_
                rintro e y6 ⟨rfl, k6⟩
                dsimp only
                go_wp2_with fail
                have c4 : Calls Try.prog 16 #[pt q] y6 fun e w' => e = .returned (.tuple #[]) ∧ EnvP w w' [dk p (fin st []), dk q (fin st [])] := on_env k6 1 rfl (by simp [mid])
                refine c4.mono ?_
                rintro e y7 ⟨rfl, k7⟩
                have EZ : Hid (EnvP w y7 [dk p (fin st []), dk q (fin st [])]) := ⟨k7⟩
                have HON : Hid ((fin st []).off = false ∧ (fin st []).safe.length = 4) := ⟨rfl, by simp [fin, layK_length, HS.out.len]⟩
                generalize fin st [] = fz at *
                clear c1 c2 c3 c4 k1 k2 k3 k4 k5 k6 k7 R qM1 qM2 qF1 hcm
                dsimp only
                go_wp2
                go_loopw [20] (fun i wr => ∃ k : Nat, k ≤ 4 ∧ i = .int .i64 k ∧ Hid (EnvP w wr [dk p fz, dk q fz])) (fun i _ => 4 - (intOf i).toNat)
                case atStart => exact ⟨0, Nat.zero_le _, rfl, EZ⟩
                case round =>
                  clear EZ
                  obtain ⟨k, hk, rfl, R⟩ := hrel
                  by_cases hlt : k < 4
                  · have hi : (k : Int) < 4 := by omega
                    have hw1 : wrap64 ((k : Int) + 1) = ((k + 1 : Nat) : Int) := by unfold wrap64; omega
                    obtain ⟨x, hx⟩ := on_read fz HON.out.1 HON.out.2 k hlt
                    have r1 : Calls Try.prog 17 #[pt p, .int .i64 (k : Int)] wr fun e w' => e = .returned (.tuple #[.string x, .int .i64 0]) ∧ EnvP w w' [dk p fz, dk q fz] := read_env R.out 0 rfl (k : Int) hx
                    go_wp2_with fail
                    refine r1.mono ?_
                    rintro e y1 ⟨rfl, k1⟩
                    have r2 : Calls Try.prog 17 #[pt q, .int .i64 (k : Int)] y1 fun e w' => e = .returned (.tuple #[.string x, .int .i64 0]) ∧ EnvP w w' [dk p fz, dk q fz] := read_env k1 1 rfl (k : Int) hx
                    dsimp only
                    go_wp2_with fail
                    refine r2.mono ?_
                    rintro e y2 ⟨rfl, k2⟩
                    have R3 : Hid (EnvP w y2 [dk p fz, dk q fz]) := ⟨k2⟩
                    clear r1 r2 hx R k1 k2
                    dsimp only
                    go_wp2
                    go_roundw
                    case rel => exact ⟨k + 1, by omega, by go_num, R3⟩
                    case measure => simp [intOf]; omega
                  · have hke : k = 4 := by omega
                    subst hke
                    have hi : ¬ (((4 : Nat) : Int) < 4) := by omega
                    go_wp2
                    go_ret
                    exact ⟨rfl, R.out.bel⟩
          · have hti : ((text.size : Int) == 512) = false := by rw [beq_eq_false_iff_ne]; omega
            have htn : text.size ≠ 512 := ht
            clear ht
            have hs1 := HS.out.badr (n) ho
            have hs2 := HS.out.bad (n) ho (fl 120)
            have hs3 := HS.out.short (text) htn
            have qF1 : Hid (∀ {w5 : World} {Ls : List (Th → Prop)}, EnvP w w5 Ls → Calls Try.prog 12 #[.int .u8 120] w5 fun e w' => e = .returned (.string (fl 120)) ∧ EnvP w w' Ls) := ⟨fun h5 => full_env h5 120 rfl⟩
            have qB1 : Hid (∀ {w5 : World}, EnvP w w5 [dk p st, dk q st] → Calls Try.prog 11 #[pt p, .int .i64 (n), .string (fl 120)] w5 fun e w' => e = .returned (.int .i64 1) ∧ EnvP w w' [dk p st, dk q st]) := ⟨fun h5 => write_env h5 0 rfl _ _ hpl hs2⟩
            have qB2 : Hid (∀ {w5 : World}, EnvP w w5 [dk p st, dk q st] → Calls Try.prog 11 #[pt p, .int .i64 0, .string (text)] w5 fun e w' => e = .returned (.int .i64 1) ∧ EnvP w w' [dk p st, dk q st]) := ⟨fun h5 => write_env h5 0 rfl _ _ hpl hs3⟩
            have qR1 : Hid (∀ {w5 : World}, EnvP w w5 [dk p st, dk q st] → Calls Try.prog 17 #[pt p, .int .i64 (n)] w5 fun e w' => e = .returned (.tuple #[.string ByteArray.empty, .int .i64 1]) ∧ EnvP w w' [dk p st, dk q st]) := ⟨fun h5 => read_env h5 0 rfl _ hs1⟩
            have qM1 : Hid (∀ {w5 : World}, EnvP w w5 [dk p (mid st []), dk q (mid st [])] → Calls Try.prog 11 #[pt p, .int .i64 0, .string (fl 120)] w5 fun e w' => e = .returned (.int .i64 9) ∧ EnvP w w' [dk p (mid st []), dk q (mid st [])]) := ⟨fun h5 => write_env h5 0 rfl _ _ (by simp [mid]) (mid_write _ _ _ _)⟩
            have qM2 : Hid (∀ {w5 : World}, EnvP w w5 [dk p (mid st []), dk q (mid st [])] → Calls Try.prog 13 #[pt p] w5 fun e w' => e = .returned (.int .i64 9) ∧ EnvP w w' [dk p (mid st []), dk q (mid st [])]) := ⟨fun h5 => flush_env h5 0 rfl (by simp [mid]) (mid_flush _ _)⟩
            clear hs1 hs2 hs3
            generalize fl 120 = T120 at *
            go_wp2_with fail
            refine (qR1.out G1.out).mono ?_
            rintro e x2 ⟨rfl, g2⟩
            dsimp only
            go_wp2_with fail
            refine (qF1.out g2).mono ?_
            rintro e x3 ⟨rfl, g3⟩
            dsimp only
            go_wp2_with fail
            refine (qB1.out g3).mono ?_
            rintro e x4 ⟨rfl, g4⟩
            dsimp only
            go_wp2_with fail
            refine (qB2.out g4).mono ?_
            rintro e x5 ⟨rfl, g5⟩
            dsimp only
            go_wp2_with fail
            refine (pending_env g5 0 rfl (rfl : (st.pend.length : Int) = (st.pend.length : Int))).mono ?_
            rintro e w' ⟨rfl, hw⟩
            subst w'
            dsimp only
            go_wp2_with fail
            refine (pending_env g5 1 rfl (rfl : (st.pend.length : Int) = (st.pend.length : Int))).mono ?_
            rintro e w' ⟨rfl, hw⟩
            subst w'
            have EZ : Hid (EnvP w x5 [dk p st, dk q st]) := ⟨g5⟩
            have HON : Hid (st.off = false ∧ st.safe.length = 4) := ⟨HS.out.off, HS.out.len⟩
            clear g2 g3 g4 g5 G1 qR1 qB1 qB2
            dsimp only
            go_wp2
            go_loopw [15] (fun i wr => ∃ k : Nat, k ≤ 4 ∧ i = .int .i64 k ∧ Hid (EnvP w wr [dk p st, dk q st])) (fun i _ => 4 - (intOf i).toNat)
            case atStart => exact ⟨0, Nat.zero_le _, rfl, EZ⟩
            case round =>
              clear EZ
              obtain ⟨k, hk, rfl, R⟩ := hrel
              by_cases hlt : k < 4
              · have hi : (k : Int) < 4 := by omega
                have hw1 : wrap64 ((k : Int) + 1) = ((k + 1 : Nat) : Int) := by unfold wrap64; omega
                obtain ⟨x, hx⟩ := on_read st HON.out.1 HON.out.2 k hlt
                have r1 : Calls Try.prog 17 #[pt p, .int .i64 (k : Int)] wr fun e w' => e = .returned (.tuple #[.string x, .int .i64 0]) ∧ EnvP w w' [dk p st, dk q st] := read_env R.out 0 rfl (k : Int) hx
                go_wp2_with fail
                refine r1.mono ?_
                rintro e y1 ⟨rfl, k1⟩
                have r2 : Calls Try.prog 17 #[pt q, .int .i64 (k : Int)] y1 fun e w' => e = .returned (.tuple #[.string x, .int .i64 0]) ∧ EnvP w w' [dk p st, dk q st] := read_env k1 1 rfl (k : Int) hx
                dsimp only
                go_wp2_with fail
                refine r2.mono ?_
                rintro e y2 ⟨rfl, k2⟩
                have R3 : Hid (EnvP w y2 [dk p st, dk q st]) := ⟨k2⟩
                clear r1 r2 hx R k1 k2
                dsimp only
                go_wp2
                go_roundw
                case rel => exact ⟨k + 1, by omega, by go_num, R3⟩
                case measure => simp [intOf]; omega
              · have hke : k = 4 := by omega
                subst hke
                have hi : ¬ (((4 : Nat) : Int) < 4) := by omega
                clear HON
                have hcm : st.crash [] = mid st [] := crash_mid _ _ (by rw [HS.out.off]; rfl)
                have c1 : Calls Try.prog 15 #[pt p, .slice none 0 0] wr fun e w' => e = .returned (.tuple #[]) ∧ EnvP w w' [dk p (mid st []), dk q st] := by rw [← hcm]; exact crash_env R.out 0 rfl none 0 [] (by omega) (by simp) (IIn.nil _ _)
                go_wp2_with fail
                refine c1.mono ?_
                rintro e y1 ⟨rfl, k1⟩
                dsimp only
                go_wp2_with fail
                have c2 : Calls Try.prog 15 #[pt q, .slice none 0 0] y1 fun e w' => e = .returned (.tuple #[]) ∧ EnvP w w' [dk p (mid st []), dk q (mid st [])] := by rw [← hcm]; rw [← hcm] at k1; exact crash_env k1 1 rfl none 0 [] (by omega) (by simp) (IIn.nil _ _)
                refine c2.mono ?_
                rintro e y2 ⟨rfl, k2⟩
                dsimp only
                go_wp2_with fail
                refine (qF1.out k2).mono ?_
                rintro e y3 ⟨rfl, k3⟩
                dsimp only
                go_wp2_with fail
                refine (qM1.out k3).mono ?_
                rintro e y4 ⟨rfl, k4⟩
                dsimp only
                go_wp2_with fail
                refine (qM2.out k4).mono ?_
                rintro e y5 ⟨rfl, k5⟩
                dsimp only
                go_wp2_with fail
                have c3 : Calls Try.prog 16 #[pt p] y5 fun e w' => e = .returned (.tuple #[]) ∧ EnvP w w' [dk p (fin st []), dk q (mid st [])] := on_env k5 0 rfl (by simp [mid])
                refine c3.mono ?_
                rintro e y6 ⟨rfl, k6⟩
                dsimp only
                go_wp2_with fail
                have c4 : Calls Try.prog 16 #[pt q] y6 fun e w' => e = .returned (.tuple #[]) ∧ EnvP w w' [dk p (fin st []), dk q (fin st [])] := on_env k6 1 rfl (by simp [mid])
                refine c4.mono ?_
                rintro e y7 ⟨rfl, k7⟩
                have EZ : Hid (EnvP w y7 [dk p (fin st []), dk q (fin st [])]) := ⟨k7⟩
                have HON : Hid ((fin st []).off = false ∧ (fin st []).safe.length = 4) := ⟨rfl, by simp [fin, layK_length, HS.out.len]⟩
                generalize fin st [] = fz at *
                clear c1 c2 c3 c4 k1 k2 k3 k4 k5 k6 k7 R qM1 qM2 qF1 hcm
                dsimp only
                go_wp2
                go_loopw [20] (fun i wr => ∃ k : Nat, k ≤ 4 ∧ i = .int .i64 k ∧ Hid (EnvP w wr [dk p fz, dk q fz])) (fun i _ => 4 - (intOf i).toNat)
                case atStart => exact ⟨0, Nat.zero_le _, rfl, EZ⟩
                case round =>
                  clear EZ
                  obtain ⟨k, hk, rfl, R⟩ := hrel
                  by_cases hlt : k < 4
                  · have hi : (k : Int) < 4 := by omega
                    have hw1 : wrap64 ((k : Int) + 1) = ((k + 1 : Nat) : Int) := by unfold wrap64; omega
                    obtain ⟨x, hx⟩ := on_read fz HON.out.1 HON.out.2 k hlt
                    have r1 : Calls Try.prog 17 #[pt p, .int .i64 (k : Int)] wr fun e w' => e = .returned (.tuple #[.string x, .int .i64 0]) ∧ EnvP w w' [dk p fz, dk q fz] := read_env R.out 0 rfl (k : Int) hx
                    go_wp2_with fail
                    refine r1.mono ?_
                    rintro e y1 ⟨rfl, k1⟩
                    have r2 : Calls Try.prog 17 #[pt q, .int .i64 (k : Int)] y1 fun e w' => e = .returned (.tuple #[.string x, .int .i64 0]) ∧ EnvP w w' [dk p fz, dk q fz] := read_env k1 1 rfl (k : Int) hx
                    dsimp only
                    go_wp2_with fail
                    refine r2.mono ?_
                    rintro e y2 ⟨rfl, k2⟩
                    have R3 : Hid (EnvP w y2 [dk p fz, dk q fz]) := ⟨k2⟩
                    clear r1 r2 hx R k1 k2
                    dsimp only
                    go_wp2
                    go_roundw
                    case rel => exact ⟨k + 1, by omega, by go_num, R3⟩
                    case measure => simp [intOf]; omega
                  · have hke : k = 4 := by omega
                    subst hke
                    have hi : ¬ (((4 : Nat) : Int) < 4) := by omega
                    go_wp2
                    go_ret
                    exact ⟨rfl, R.out.bel⟩
        · have hn0 : 0 ≤ n := by omega
          have hn4 : ¬ (n < 4) := by omega
          by_cases ht : text.size = 512
          · have hti : ((text.size : Int) == 512) = true := by rw [beq_iff_eq]; omega
            have htn : (text ++ ⟨#[120]⟩).size ≠ 512 := by rw [ByteArray.size_append, ht]; decide
            have htm : ¬ 9223372036854775807 < text.size + (⟨#[120]⟩ : ByteArray).size := by rw [ht]; decide
            have HT : Hid (text.size = 512) := ⟨ht⟩
            clear ht
            have hs1 := HS.out.badr (n) ho
            have hs2 := HS.out.bad (n) ho (fl 120)
            have hs3 := HS.out.short (text ++ ⟨#[120]⟩) htn
            have qF1 : Hid (∀ {w5 : World} {Ls : List (Th → Prop)}, EnvP w w5 Ls → Calls Try.prog 12 #[.int .u8 120] w5 fun e w' => e = .returned (.string (fl 120)) ∧ EnvP w w' Ls) := ⟨fun h5 => full_env h5 120 rfl⟩
            have qB1 : Hid (∀ {w5 : World}, EnvP w w5 [dk p st, dk q st] → Calls Try.prog 11 #[pt p, .int .i64 (n), .string (fl 120)] w5 fun e w' => e = .returned (.int .i64 1) ∧ EnvP w w' [dk p st, dk q st]) := ⟨fun h5 => write_env h5 0 rfl _ _ hpl hs2⟩
            have qB2 : Hid (∀ {w5 : World}, EnvP w w5 [dk p st, dk q st] → Calls Try.prog 11 #[pt p, .int .i64 0, .string (text ++ ⟨#[120]⟩)] w5 fun e w' => e = .returned (.int .i64 1) ∧ EnvP w w' [dk p st, dk q st]) := ⟨fun h5 => write_env h5 0 rfl _ _ hpl hs3⟩
            have qR1 : Hid (∀ {w5 : World}, EnvP w w5 [dk p st, dk q st] → Calls Try.prog 17 #[pt p, .int .i64 (n)] w5 fun e w' => e = .returned (.tuple #[.string ByteArray.empty, .int .i64 1]) ∧ EnvP w w' [dk p st, dk q st]) := ⟨fun h5 => read_env h5 0 rfl _ hs1⟩
            have qM1 : Hid (∀ {w5 : World}, EnvP w w5 [dk p (mid st []), dk q (mid st [])] → Calls Try.prog 11 #[pt p, .int .i64 0, .string (fl 120)] w5 fun e w' => e = .returned (.int .i64 9) ∧ EnvP w w' [dk p (mid st []), dk q (mid st [])]) := ⟨fun h5 => write_env h5 0 rfl _ _ (by simp [mid]) (mid_write _ _ _ _)⟩
            have qM2 : Hid (∀ {w5 : World}, EnvP w w5 [dk p (mid st []), dk q (mid st [])] → Calls Try.prog 13 #[pt p] w5 fun e w' => e = .returned (.int .i64 9) ∧ EnvP w w' [dk p (mid st []), dk q (mid st [])]) := ⟨fun h5 => flush_env h5 0 rfl (by simp [mid]) (mid_flush _ _)⟩
            clear hs1 hs2 hs3
            generalize fl 120 = T120 at *
            go_wp2_with fail
            refine (qR1.out G1.out).mono ?_
            rintro e x2 ⟨rfl, g2⟩
            dsimp only
            go_wp2_with fail
            refine (qF1.out g2).mono ?_
            rintro e x3 ⟨rfl, g3⟩
            dsimp only
            go_wp2_with fail
            refine (qB1.out g3).mono ?_
            rintro e x4 ⟨rfl, g4⟩
            dsimp only
            go_wp2_with fail
            refine (qB2.out g4).mono ?_
            rintro e x5 ⟨rfl, g5⟩
            dsimp only
            go_wp2_with fail
            refine (pending_env g5 0 rfl (rfl : (st.pend.length : Int) = (st.pend.length : Int))).mono ?_
            rintro e w' ⟨rfl, hw⟩
            subst w'
            dsimp only
            go_wp2_with fail
            refine (pending_env g5 1 rfl (rfl : (st.pend.length : Int) = (st.pend.length : Int))).mono ?_
            rintro e w' ⟨rfl, hw⟩
            subst w'
            have EZ : Hid (EnvP w x5 [dk p st, dk q st]) := ⟨g5⟩
            have HON : Hid (st.off = false ∧ st.safe.length = 4) := ⟨HS.out.off, HS.out.len⟩
            clear g2 g3 g4 g5 G1 qR1 qB1 qB2
            dsimp only
            go_wp2
            go_loopw [15] (fun i wr => ∃ k : Nat, k ≤ 4 ∧ i = .int .i64 k ∧ Hid (EnvP w wr [dk p st, dk q st])) (fun i _ => 4 - (intOf i).toNat)
            case atStart => exact ⟨0, Nat.zero_le _, rfl, EZ⟩
            case round =>
              clear EZ
              obtain ⟨k, hk, rfl, R⟩ := hrel
              by_cases hlt : k < 4
              · have hi : (k : Int) < 4 := by omega
                have hw1 : wrap64 ((k : Int) + 1) = ((k + 1 : Nat) : Int) := by unfold wrap64; omega
                obtain ⟨x, hx⟩ := on_read st HON.out.1 HON.out.2 k hlt
                have r1 : Calls Try.prog 17 #[pt p, .int .i64 (k : Int)] wr fun e w' => e = .returned (.tuple #[.string x, .int .i64 0]) ∧ EnvP w w' [dk p st, dk q st] := read_env R.out 0 rfl (k : Int) hx
                go_wp2_with fail
                refine r1.mono ?_
                rintro e y1 ⟨rfl, k1⟩
                have r2 : Calls Try.prog 17 #[pt q, .int .i64 (k : Int)] y1 fun e w' => e = .returned (.tuple #[.string x, .int .i64 0]) ∧ EnvP w w' [dk p st, dk q st] := read_env k1 1 rfl (k : Int) hx
                dsimp only
                go_wp2_with fail
                refine r2.mono ?_
                rintro e y2 ⟨rfl, k2⟩
                have R3 : Hid (EnvP w y2 [dk p st, dk q st]) := ⟨k2⟩
                clear r1 r2 hx R k1 k2
                dsimp only
                go_wp2
                go_roundw
                case rel => exact ⟨k + 1, by omega, by go_num, R3⟩
                case measure => simp [intOf]; omega
              · have hke : k = 4 := by omega
                subst hke
                have hi : ¬ (((4 : Nat) : Int) < 4) := by omega
                clear HON
                have hcm : st.crash [] = mid st [] := crash_mid _ _ (by rw [HS.out.off]; rfl)
                have c1 : Calls Try.prog 15 #[pt p, .slice none 0 0] wr fun e w' => e = .returned (.tuple #[]) ∧ EnvP w w' [dk p (mid st []), dk q st] := by rw [← hcm]; exact crash_env R.out 0 rfl none 0 [] (by omega) (by simp) (IIn.nil _ _)
                go_wp2_with fail
                refine c1.mono ?_
                rintro e y1 ⟨rfl, k1⟩
                dsimp only
                go_wp2_with fail
                have c2 : Calls Try.prog 15 #[pt q, .slice none 0 0] y1 fun e w' => e = .returned (.tuple #[]) ∧ EnvP w w' [dk p (mid st []), dk q (mid st [])] := by rw [← hcm]; rw [← hcm] at k1; exact crash_env k1 1 rfl none 0 [] (by omega) (by simp) (IIn.nil _ _)
                refine c2.mono ?_
                rintro e y2 ⟨rfl, k2⟩
                dsimp only
                go_wp2_with fail
                refine (qF1.out k2).mono ?_
                rintro e y3 ⟨rfl, k3⟩
                dsimp only
                go_wp2_with fail
                refine (qM1.out k3).mono ?_
                rintro e y4 ⟨rfl, k4⟩
                dsimp only
                go_wp2_with fail
                refine (qM2.out k4).mono ?_
                rintro e y5 ⟨rfl, k5⟩
                dsimp only
                go_wp2_with fail
                have c3 : Calls Try.prog 16 #[pt p] y5 fun e w' => e = .returned (.tuple #[]) ∧ EnvP w w' [dk p (fin st []), dk q (mid st [])] := on_env k5 0 rfl (by simp [mid])
                refine c3.mono ?_
                rintro e y6 ⟨rfl, k6⟩
                dsimp only
                go_wp2_with fail
                have c4 : Calls Try.prog 16 #[pt q] y6 fun e w' => e = .returned (.tuple #[]) ∧ EnvP w w' [dk p (fin st []), dk q (fin st [])] := on_env k6 1 rfl (by simp [mid])
                refine c4.mono ?_
                rintro e y7 ⟨rfl, k7⟩
                have EZ : Hid (EnvP w y7 [dk p (fin st []), dk q (fin st [])]) := ⟨k7⟩
                have HON : Hid ((fin st []).off = false ∧ (fin st []).safe.length = 4) := ⟨rfl, by simp [fin, layK_length, HS.out.len]⟩
                generalize fin st [] = fz at *
                clear c1 c2 c3 c4 k1 k2 k3 k4 k5 k6 k7 R qM1 qM2 qF1 hcm
                dsimp only
                go_wp2
                go_loopw [20] (fun i wr => ∃ k : Nat, k ≤ 4 ∧ i = .int .i64 k ∧ Hid (EnvP w wr [dk p fz, dk q fz])) (fun i _ => 4 - (intOf i).toNat)
                case atStart => exact ⟨0, Nat.zero_le _, rfl, EZ⟩
                case round =>
                  clear EZ
                  obtain ⟨k, hk, rfl, R⟩ := hrel
                  by_cases hlt : k < 4
                  · have hi : (k : Int) < 4 := by omega
                    have hw1 : wrap64 ((k : Int) + 1) = ((k + 1 : Nat) : Int) := by unfold wrap64; omega
                    obtain ⟨x, hx⟩ := on_read fz HON.out.1 HON.out.2 k hlt
                    have r1 : Calls Try.prog 17 #[pt p, .int .i64 (k : Int)] wr fun e w' => e = .returned (.tuple #[.string x, .int .i64 0]) ∧ EnvP w w' [dk p fz, dk q fz] := read_env R.out 0 rfl (k : Int) hx
                    go_wp2_with fail
                    refine r1.mono ?_
                    rintro e y1 ⟨rfl, k1⟩
                    have r2 : Calls Try.prog 17 #[pt q, .int .i64 (k : Int)] y1 fun e w' => e = .returned (.tuple #[.string x, .int .i64 0]) ∧ EnvP w w' [dk p fz, dk q fz] := read_env k1 1 rfl (k : Int) hx
                    dsimp only
                    go_wp2_with fail
                    refine r2.mono ?_
                    rintro e y2 ⟨rfl, k2⟩
                    have R3 : Hid (EnvP w y2 [dk p fz, dk q fz]) := ⟨k2⟩
                    clear r1 r2 hx R k1 k2
                    dsimp only
                    go_wp2
                    go_roundw
                    case rel => exact ⟨k + 1, by omega, by go_num, R3⟩
                    case measure => simp [intOf]; omega
                  · have hke : k = 4 := by omega
                    subst hke
                    have hi : ¬ (((4 : Nat) : Int) < 4) := by omega
                    go_wp2
                    go_ret
                    exact ⟨rfl, R.out.bel⟩
          · have hti : ((text.size : Int) == 512) = false := by rw [beq_eq_false_iff_ne]; omega
            have htn : text.size ≠ 512 := ht
            clear ht
            have hs1 := HS.out.badr (n) ho
            have hs2 := HS.out.bad (n) ho (fl 120)
            have hs3 := HS.out.short (text) htn
            have qF1 : Hid (∀ {w5 : World} {Ls : List (Th → Prop)}, EnvP w w5 Ls → Calls Try.prog 12 #[.int .u8 120] w5 fun e w' => e = .returned (.string (fl 120)) ∧ EnvP w w' Ls) := ⟨fun h5 => full_env h5 120 rfl⟩
            have qB1 : Hid (∀ {w5 : World}, EnvP w w5 [dk p st, dk q st] → Calls Try.prog 11 #[pt p, .int .i64 (n), .string (fl 120)] w5 fun e w' => e = .returned (.int .i64 1) ∧ EnvP w w' [dk p st, dk q st]) := ⟨fun h5 => write_env h5 0 rfl _ _ hpl hs2⟩
            have qB2 : Hid (∀ {w5 : World}, EnvP w w5 [dk p st, dk q st] → Calls Try.prog 11 #[pt p, .int .i64 0, .string (text)] w5 fun e w' => e = .returned (.int .i64 1) ∧ EnvP w w' [dk p st, dk q st]) := ⟨fun h5 => write_env h5 0 rfl _ _ hpl hs3⟩
            have qR1 : Hid (∀ {w5 : World}, EnvP w w5 [dk p st, dk q st] → Calls Try.prog 17 #[pt p, .int .i64 (n)] w5 fun e w' => e = .returned (.tuple #[.string ByteArray.empty, .int .i64 1]) ∧ EnvP w w' [dk p st, dk q st]) := ⟨fun h5 => read_env h5 0 rfl _ hs1⟩
            have qM1 : Hid (∀ {w5 : World}, EnvP w w5 [dk p (mid st []), dk q (mid st [])] → Calls Try.prog 11 #[pt p, .int .i64 0, .string (fl 120)] w5 fun e w' => e = .returned (.int .i64 9) ∧ EnvP w w' [dk p (mid st []), dk q (mid st [])]) := ⟨fun h5 => write_env h5 0 rfl _ _ (by simp [mid]) (mid_write _ _ _ _)⟩
            have qM2 : Hid (∀ {w5 : World}, EnvP w w5 [dk p (mid st []), dk q (mid st [])] → Calls Try.prog 13 #[pt p] w5 fun e w' => e = .returned (.int .i64 9) ∧ EnvP w w' [dk p (mid st []), dk q (mid st [])]) := ⟨fun h5 => flush_env h5 0 rfl (by simp [mid]) (mid_flush _ _)⟩
            clear hs1 hs2 hs3
            generalize fl 120 = T120 at *
            go_wp2_with fail
            refine (qR1.out G1.out).mono ?_
            rintro e x2 ⟨rfl, g2⟩
            dsimp only
            go_wp2_with fail
            refine (qF1.out g2).mono ?_
            rintro e x3 ⟨rfl, g3⟩
            dsimp only
            go_wp2_with fail
            refine (qB1.out g3).mono ?_
            rintro e x4 ⟨rfl, g4⟩
            dsimp only
            go_wp2_with fail
            refine (qB2.out g4).mono ?_
            rintro e x5 ⟨rfl, g5⟩
            dsimp only
            go_wp2_with fail
            refine (pending_env g5 0 rfl (rfl : (st.pend.length : Int) = (st.pend.length : Int))).mono ?_
            rintro e w' ⟨rfl, hw⟩
            subst w'
            dsimp only
            go_wp2_with fail
            refine (pending_env g5 1 rfl (rfl : (st.pend.length : Int) = (st.pend.length : Int))).mono ?_
            rintro e w' ⟨rfl, hw⟩
            subst w'
            have EZ : Hid (EnvP w x5 [dk p st, dk q st]) := ⟨g5⟩
            have HON : Hid (st.off = false ∧ st.safe.length = 4) := ⟨HS.out.off, HS.out.len⟩
            clear g2 g3 g4 g5 G1 qR1 qB1 qB2
            dsimp only
            go_wp2
            go_loopw [15] (fun i wr => ∃ k : Nat, k ≤ 4 ∧ i = .int .i64 k ∧ Hid (EnvP w wr [dk p st, dk q st])) (fun i _ => 4 - (intOf i).toNat)
            case atStart => exact ⟨0, Nat.zero_le _, rfl, EZ⟩
            case round =>
              clear EZ
              obtain ⟨k, hk, rfl, R⟩ := hrel
              by_cases hlt : k < 4
              · have hi : (k : Int) < 4 := by omega
                have hw1 : wrap64 ((k : Int) + 1) = ((k + 1 : Nat) : Int) := by unfold wrap64; omega
                obtain ⟨x, hx⟩ := on_read st HON.out.1 HON.out.2 k hlt
                have r1 : Calls Try.prog 17 #[pt p, .int .i64 (k : Int)] wr fun e w' => e = .returned (.tuple #[.string x, .int .i64 0]) ∧ EnvP w w' [dk p st, dk q st] := read_env R.out 0 rfl (k : Int) hx
                go_wp2_with fail
                refine r1.mono ?_
                rintro e y1 ⟨rfl, k1⟩
                have r2 : Calls Try.prog 17 #[pt q, .int .i64 (k : Int)] y1 fun e w' => e = .returned (.tuple #[.string x, .int .i64 0]) ∧ EnvP w w' [dk p st, dk q st] := read_env k1 1 rfl (k : Int) hx
                dsimp only
                go_wp2_with fail
                refine r2.mono ?_
                rintro e y2 ⟨rfl, k2⟩
                have R3 : Hid (EnvP w y2 [dk p st, dk q st]) := ⟨k2⟩
                clear r1 r2 hx R k1 k2
                dsimp only
                go_wp2
                go_roundw
                case rel => exact ⟨k + 1, by omega, by go_num, R3⟩
                case measure => simp [intOf]; omega
              · have hke : k = 4 := by omega
                subst hke
                have hi : ¬ (((4 : Nat) : Int) < 4) := by omega
                clear HON
                have hcm : st.crash [] = mid st [] := crash_mid _ _ (by rw [HS.out.off]; rfl)
                have c1 : Calls Try.prog 15 #[pt p, .slice none 0 0] wr fun e w' => e = .returned (.tuple #[]) ∧ EnvP w w' [dk p (mid st []), dk q st] := by rw [← hcm]; exact crash_env R.out 0 rfl none 0 [] (by omega) (by simp) (IIn.nil _ _)
                go_wp2_with fail
                refine c1.mono ?_
                rintro e y1 ⟨rfl, k1⟩
                dsimp only
                go_wp2_with fail
                have c2 : Calls Try.prog 15 #[pt q, .slice none 0 0] y1 fun e w' => e = .returned (.tuple #[]) ∧ EnvP w w' [dk p (mid st []), dk q (mid st [])] := by rw [← hcm]; rw [← hcm] at k1; exact crash_env k1 1 rfl none 0 [] (by omega) (by simp) (IIn.nil _ _)
                refine c2.mono ?_
                rintro e y2 ⟨rfl, k2⟩
                dsimp only
                go_wp2_with fail
                refine (qF1.out k2).mono ?_
                rintro e y3 ⟨rfl, k3⟩
                dsimp only
                go_wp2_with fail
                refine (qM1.out k3).mono ?_
                rintro e y4 ⟨rfl, k4⟩
                dsimp only
                go_wp2_with fail
                refine (qM2.out k4).mono ?_
                rintro e y5 ⟨rfl, k5⟩
                dsimp only
                go_wp2_with fail
                have c3 : Calls Try.prog 16 #[pt p] y5 fun e w' => e = .returned (.tuple #[]) ∧ EnvP w w' [dk p (fin st []), dk q (mid st [])] := on_env k5 0 rfl (by simp [mid])
                refine c3.mono ?_
                rintro e y6 ⟨rfl, k6⟩
                dsimp only
                go_wp2_with fail
                have c4 : Calls Try.prog 16 #[pt q] y6 fun e w' => e = .returned (.tuple #[]) ∧ EnvP w w' [dk p (fin st []), dk q (fin st [])] := on_env k6 1 rfl (by simp [mid])
                refine c4.mono ?_
                rintro e y7 ⟨rfl, k7⟩
                have EZ : Hid (EnvP w y7 [dk p (fin st []), dk q (fin st [])]) := ⟨k7⟩
                have HON : Hid ((fin st []).off = false ∧ (fin st []).safe.length = 4) := ⟨rfl, by simp [fin, layK_length, HS.out.len]⟩
                generalize fin st [] = fz at *
                clear c1 c2 c3 c4 k1 k2 k3 k4 k5 k6 k7 R qM1 qM2 qF1 hcm
                dsimp only
                go_wp2
                go_loopw [20] (fun i wr => ∃ k : Nat, k ≤ 4 ∧ i = .int .i64 k ∧ Hid (EnvP w wr [dk p fz, dk q fz])) (fun i _ => 4 - (intOf i).toNat)
                case atStart => exact ⟨0, Nat.zero_le _, rfl, EZ⟩
                case round =>
                  clear EZ
                  obtain ⟨k, hk, rfl, R⟩ := hrel
                  by_cases hlt : k < 4
                  · have hi : (k : Int) < 4 := by omega
                    have hw1 : wrap64 ((k : Int) + 1) = ((k + 1 : Nat) : Int) := by unfold wrap64; omega
                    obtain ⟨x, hx⟩ := on_read fz HON.out.1 HON.out.2 k hlt
                    have r1 : Calls Try.prog 17 #[pt p, .int .i64 (k : Int)] wr fun e w' => e = .returned (.tuple #[.string x, .int .i64 0]) ∧ EnvP w w' [dk p fz, dk q fz] := read_env R.out 0 rfl (k : Int) hx
                    go_wp2_with fail
                    refine r1.mono ?_
                    rintro e y1 ⟨rfl, k1⟩
                    have r2 : Calls Try.prog 17 #[pt q, .int .i64 (k : Int)] y1 fun e w' => e = .returned (.tuple #[.string x, .int .i64 0]) ∧ EnvP w w' [dk p fz, dk q fz] := read_env k1 1 rfl (k : Int) hx
                    dsimp only
                    go_wp2_with fail
                    refine r2.mono ?_
                    rintro e y2 ⟨rfl, k2⟩
                    have R3 : Hid (EnvP w y2 [dk p fz, dk q fz]) := ⟨k2⟩
                    clear r1 r2 hx R k1 k2
                    dsimp only
                    go_wp2
                    go_roundw
                    case rel => exact ⟨k + 1, by omega, by go_num, R3⟩
                    case measure => simp [intOf]; omega
                  · have hke : k = 4 := by omega
                    subst hke
                    have hi : ¬ (((4 : Nat) : Int) < 4) := by omega
                    go_wp2
                    go_ret
                    exact ⟨rfl, R.out.bel⟩
end Go.Proofs.Ytmfjhdjphnogiaa
