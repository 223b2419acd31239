/- DiskFalls: the walk. -/
import Derived.Test.YtmfjhdjphnogiaaOpn
namespace Go.Proofs.Ytmfjhdjphnogiaa
set_option linter.unusedVariables false
set_option linter.unusedSimpArgs false
open Go.RowKit
/-- does the power go at call i or ahead of it -/
def Gon (m i : Nat) : Prop := 0 < m ∧ m ≤ i
structure Fst (m : Nat) (st : St) (i : Nat) : Prop where
  len : st.safe.length = 4
  pend : st.pend.length ≤ i
  on : ¬ Gon m i → st.off = false ∧ st.fall = m - i
  gone : Gon m i → st.off = true ∧ st.opn = true
theorem Fst.start (m : Nat) (n : Int) : Fst m (((fresh 4).fallTo n).fallTo (m : Int)) 0 := ⟨by simp [St.fallTo, fresh], by simp [St.fallTo, fresh], fun _ => ⟨rfl, by simp [St.fallTo]⟩, fun h => by unfold Gon at h; omega⟩
theorem Fst.flush {m : Nat} {st : St} {i : Nat} (h : Fst m st i) : ∃ st', (Gon m (i + 1) → st.flush = (st', 9)) ∧ (¬ Gon m (i + 1) → st.flush = (st', 0)) ∧ Fst m st' (i + 1) := by
  by_cases h0 : Gon m i
  · have ho' := h.gone h0
    have ho := ho'.1
    have h1 : Gon m (i + 1) := by unfold Gon at *; omega
    exact ⟨st, fun _ => by unfold St.flush; rw [if_pos ho], fun q => absurd h1 q, ⟨h.len, Nat.le_succ_of_le h.pend, fun q => absurd h1 q, fun _ => ho'⟩⟩
  · obtain ⟨ho, hf⟩ := h.on h0
    have e0 : st.flush = if st.gone then (st.went, 9) else ({ st.went with safe := st.seen, pend := [] }, 0) := by unfold St.flush; rw [if_neg (by rw [ho]; simp)]
    by_cases h1 : Gon m (i + 1)
    · have hf1 : st.fall = 1 := by unfold Gon at *; omega
      have hg : st.gone = true := by simp [St.gone, hf1]
      refine ⟨st.went, fun _ => by rw [e0, if_pos hg], fun q => absurd h1 q, ⟨by rw [St.went_safe]; exact h.len, by rw [St.went_pend]; exact Nat.le_succ_of_le h.pend, fun q => absurd h1 q, fun _ => ?_⟩⟩
      unfold St.went
      rw [if_neg (by omega), if_pos hf1]
      exact ⟨rfl, rfl⟩
    · have hf1 : st.fall ≠ 1 := by unfold Gon at *; omega
      have hg : ¬ st.gone = true := by simp [St.gone, hf1]
      refine ⟨{ st.went with safe := st.seen, pend := [] }, fun q => absurd q h1, fun _ => by rw [e0, if_neg hg], ⟨by simp [St.seen_length, h.len], by simp, fun _ => ?_, fun q => absurd q h1⟩⟩
      show st.went.off = false ∧ st.went.fall = m - (i + 1)
      unfold St.went
      split
      · exact ⟨ho, by omega⟩
      · exact ⟨ho, by show st.fall - 1 = _; omega⟩
theorem Fst.write {m : Nat} {st : St} {i : Nat} (h : Fst m st i) (j : Nat) (hj : j < 4) (c : UInt8) : ∃ st', (Gon m (i + 1) → st.write (j : Int) (fl c) = (st', 9)) ∧ (¬ Gon m (i + 1) → st.write (j : Int) (fl c) = (st', 0)) ∧ Fst m st' (i + 1) := by
  have hh : (st.has (j : Int) && (fl c).size == 512) = true := by simp [St.has, fl_size, h.len]; omega
  by_cases h0 : Gon m i
  · have ho' := h.gone h0
    have ho := ho'.1
    have h1 : Gon m (i + 1) := by unfold Gon at *; omega
    exact ⟨st, fun _ => by unfold St.write; rw [if_pos ho], fun q => absurd h1 q, ⟨h.len, Nat.le_succ_of_le h.pend, fun q => absurd h1 q, fun _ => ho'⟩⟩
  · obtain ⟨ho, hf⟩ := h.on h0
    have e0 : st.write (j : Int) (fl c) = if st.gone then (st.went, 9) else ({ st.went with pend := st.pend ++ [((j : Int).toNat, fl c)] }, 0) := by unfold St.write; rw [if_neg (by rw [ho]; simp), if_pos hh]
    by_cases h1 : Gon m (i + 1)
    · have hf1 : st.fall = 1 := by unfold Gon at *; omega
      have hg : st.gone = true := by simp [St.gone, hf1]
      refine ⟨st.went, fun _ => by rw [e0, if_pos hg], fun q => absurd h1 q, ⟨by rw [St.went_safe]; exact h.len, by rw [St.went_pend]; exact Nat.le_succ_of_le h.pend, fun q => absurd h1 q, fun _ => ?_⟩⟩
      unfold St.went
      rw [if_neg (by omega), if_pos hf1]
      exact ⟨rfl, rfl⟩
    · have hf1 : st.fall ≠ 1 := by unfold Gon at *; omega
      have hg : ¬ st.gone = true := by simp [St.gone, hf1]
      refine ⟨{ st.went with pend := st.pend ++ [((j : Int).toNat, fl c)] }, fun q => absurd q h1, fun _ => by rw [e0, if_neg hg], ⟨by simp only [St.went_safe]; exact h.len, by simp; exact h.pend, fun _ => ?_, fun q => absurd q h1⟩⟩
      show st.went.off = false ∧ st.went.fall = m - (i + 1)
      unfold St.went
      split
      · exact ⟨ho, by omega⟩
      · exact ⟨ho, by show st.fall - 1 = _; omega⟩
theorem Fst.bad {m : Nat} {st : St} {i : Nat} (h : Fst m st i) (h0 : ¬ Gon m i) (t : ByteArray) : st.write 4 t = (st, 1) := by
  obtain ⟨ho, _⟩ := h.on h0
  unfold St.write
  rw [if_neg (by rw [ho]; simp), if_neg (by simp [St.has, h.len])]
theorem Fst.short {m : Nat} {st : St} {i : Nat} (h : Fst m st i) (h0 : ¬ Gon m i) : st.write 0 ⟨#[120]⟩ = (st, 1) := by
  obtain ⟨ho, _⟩ := h.on h0
  unfold St.write
  rw [if_neg (by rw [ho]; simp), if_neg (by simp [ByteArray.size])]
theorem last_ok (st : St) (hl : st.safe.length = 4) (hc : (st.off && !st.opn) = false) : ∃ st1 st2, ((st.crash []).on).write 0 (fl 97) = (st1, 0) ∧ st1.flush = (st2, 0) ∧ st1.pend.length ≤ 1 := by
  have key : ∀ s : St, s.off = false → s.safe.length = 4 → s.fall = 0 → ∃ st1 st2, s.write 0 (fl 97) = (st1, 0) ∧ st1.flush = (st2, 0) ∧ st1.pend.length ≤ 1 + s.pend.length := fun s h1 h2 h3 => by
    have hg : ¬ s.gone = true := by simp [St.gone, h3]
    have hw : s.went = s := by unfold St.went; rw [if_pos h3]
    refine ⟨{ s with pend := s.pend ++ [(0, fl 97)] }, { s with safe := ({ s with pend := s.pend ++ [(0, fl 97)] } : St).seen, pend := [] }, ?_, ?_, by simp; omega⟩
    · unfold St.write
      rw [if_neg (by rw [h1]; simp), if_pos (by simp [St.has, fl_size, h2]), if_neg hg, hw]
      rfl
    · unfold St.flush
      rw [if_neg (by show ¬ s.off = true; rw [h1]; simp), if_neg (by show ¬ (s.fall == 1) = true; rw [h3]; simp)]
      have : St.went { s with pend := s.pend ++ [(0, fl 97)] } = { s with pend := s.pend ++ [(0, fl 97)] } := by unfold St.went; rw [if_pos h3]
      rw [this]
  have e : (st.crash []).on = ⟨layK [] 0 st.safe st.pend, [], false, false, 0⟩ := by unfold St.crash; rw [if_neg (by rw [hc]; simp)]; rfl
  rw [e]
  obtain ⟨s1, s2, h1, h2, h3⟩ := key ⟨layK [] 0 st.safe st.pend, [], false, false, 0⟩ rfl (by simp [layK_length, hl]) rfl
  exact ⟨s1, s2, h1, h2, by simpa using h3⟩
theorem Fst.cond {m : Nat} {st : St} {i : Nat} (h : Fst m st i) : (st.off && !st.opn) = false := by
  by_cases h0 : Gon m i
  · rw [(h.gone h0).2]; simp
  · rw [(h.on h0).1]; rfl
set_option maxHeartbeats 4000000 in
set_option maxRecDepth 100000 in
theorem diskFalls_walk (n : Int) (L : List Bool) (a : Option Addr) (cap : Nat) (w : World) (n1 : -9223372036854775808 ≤ n) (n2 : n ≤ 9223372036854775807) (i1 : BIn w a L) (l1 : L.length ≤ 1048576) :
    Calls Try.prog 4 #[.int .i64 n, .slice a L.length cap] w fun e w' => e = .returned (.bool true) ∧ Below w.heap.size w w' := by
  have I : Hid (BIn w a L) := ⟨i1⟩
  clear i1
  go_enter Try.func4, Try.ntmps4
  go_wp2_with fail
  refine (head_any _).mono ?_
  rintro e w1 ⟨rfl, b1⟩
  (try dsimp only)
  go_wp2_with fail
  refine (made_env ((EnvP.nil w).below b1) 4 (by omega) (by omega)).mono ?_
  rintro e w2 ⟨p, rfl, h2⟩
  (try dsimp only)
  go_wp2_with fail
  refine (least_any n 20 _ (by omega) (by omega) n1 n2).mono ?_
  rintro e w' ⟨rfl, hw⟩
  subst w'
  have hm := lst_lt n 20 (by omega)
  generalize lst n 20 = m at *
  have hw40 : wrap64 ((m : Int) + 40) = (m : Int) + 40 := by unfold wrap64; omega
  (try dsimp only)
  go_wp2_with fail
  have q3 : Calls Try.prog 14 #[pt p, .int .i64 ((m : Int) + 40)] w2 fun e w' => e = .returned (.tuple #[]) ∧ EnvP w w' [dk p ((fresh 4).fallTo ((m : Int) + 40))] := fall_env h2 0 rfl _ (by omega)
  refine q3.mono ?_
  rintro e w3 ⟨rfl, h3⟩
  (try dsimp only)
  go_wp2_with fail
  have q4 : Calls Try.prog 14 #[pt p, .int .i64 (m : Int)] w3 fun e w' => e = .returned (.tuple #[]) ∧ EnvP w w' [dk p (((fresh 4).fallTo ((m : Int) + 40)).fallTo (m : Int))] := fall_env h3 0 rfl _ (by omega)
  refine q4.mono ?_
  rintro e w4 ⟨rfl, h4⟩
  have E4 : Hid (EnvP w w4 [dk p (((fresh 4).fallTo ((m : Int) + 40)).fallTo (m : Int))]) := ⟨h4⟩
  clear q3 q4 h2 h3 h4 b1
  (try dsimp only)
  go_wp2
  go_loopw [7] (fun i wr => ∃ k : Nat, k ≤ L.length ∧ i = .int .i64 k ∧ ∃ st, Hid (EnvP w wr [dk p st] ∧ Fst m st k)) (fun i _ => L.length - (intOf i).toNat)
  case atStart => exact ⟨0, Nat.zero_le _, rfl, _, ⟨E4.out, Fst.start m _⟩⟩
  case round =>
    clear E4
    obtain ⟨k, hk, rfl, st, R⟩ := hrel
    by_cases hlt : k < L.length
    · obtain ⟨f, hf⟩ : ∃ q, L[k]? = some q := ⟨_, List.getElem?_eq_getElem hlt⟩
      have hi : (k : Int) < L.length := by omega
      have hw1 : wrap64 ((k : Int) + 1) = ((k + 1 : Nat) : Int) := by unfold wrap64; omega
      have CF : Hid (∀ {w' : World} {Ls : List (Th → Prop)}, EnvP w w' Ls → ∃ b off, a = some ⟨b, off, none⟩ ∧ w'.cell? ⟨b, off + k, none⟩ = some (.bool f)) := ⟨fun h => by obtain ⟨b, off, e1, _, e2⟩ := (I.out.below h.bel).get k f hf; exact ⟨b, off, e1, e2⟩⟩
      obtain ⟨b, off, rfl, _, _⟩ := I.out.get k f hf
      have CF : Hid (∀ {w' : World} {Ls : List (Th → Prop)}, EnvP w w' Ls → w'.cell? ⟨b, off + k, none⟩ = some (.bool f)) := ⟨fun h => by obtain ⟨b', off', e1, e2⟩ := CF.out h; injection e1 with e1; injection e1 with q1 q2; subst q1 q2; exact e2⟩
      clear hf
      have hrem : (k : Int).tmod 4 = ((k % 4 : Nat) : Int) := by rw [Int.tmod_eq_emod_of_nonneg (by omega)]; omega
      have hby : IntKind.u8.wrap (k : Int) = ((UInt8.ofNat k).toNat : Int) := by
        rw [UInt8.toNat_ofNat']; show IntKind.wrap _ _ = _; rw [IntKind.wrap_u8]; omega
      have hj4 : k % 4 < 4 := by omega
      by_cases hg : Gon m (k + 1)
      · have hA0 : 0 < m ∧ m ≤ k + 1 := hg
        have hA1 : ¬ ((k : Int) + 1 < m) := by omega
        have hA2 : ((m : Int) == 0) = false := by rw [beq_eq_false_iff_ne]; omega
        have hA3 : (0 : Int) < m := by omega
        have hA4 : (m : Int) ≤ (k : Int) + 1 := by omega
        have cF := CF.out R.out.1
        cases f with
        | true =>
          obtain ⟨st', hf9, hf0, hF⟩ := R.out.2.flush
          have hpl : st.pend.length ≤ 9000000000000 := by have := R.out.2.pend; omega
          have q1 : Calls Try.prog 13 #[pt p] wr fun e w' => e = .returned (.int .i64 9) ∧ EnvP w w' [dk p st'] := flush_env R.out.1 0 rfl hpl (hf9 hg)
          (try dsimp only)
          go_wp2_with fail
          refine q1.mono ?_
          rintro e x9 ⟨rfl, g9⟩
          have ho : st'.off = true := (hF.gone hg).1
          (try dsimp only)
          go_wp2_with fail
          refine (off_env g9 0 rfl ho).mono ?_
          rintro e w' ⟨rfl, hw⟩
          subst w'
          have R9 : Hid (EnvP w x9 [dk p st'] ∧ Fst m st' (k + 1)) := ⟨g9, hF⟩
          clear g9 hF q1 hf9 hf0 R
          (try dsimp only)
          go_wp2
          go_roundw
          case rel => exact ⟨k + 1, by omega, by go_num, st', R9⟩
          case measure => simp [intOf]; omega
        | false =>
          obtain ⟨st', hf9, hf0, hF⟩ := R.out.2.write (k % 4) hj4 (UInt8.ofNat k)
          have hpl : st.pend.length < 9000000000000 := by have := R.out.2.pend; omega
          have qF : Hid (∀ {w5 : World}, EnvP w w5 [dk p st] → Calls Try.prog 12 #[.int .u8 ((UInt8.ofNat k).toNat : Int)] w5 fun e w' => e = .returned (.string (fl (UInt8.ofNat k))) ∧ EnvP w w' [dk p st]) := ⟨fun h5 => full_env h5 _ rfl⟩
          have qW : Hid (∀ {w5 : World}, EnvP w w5 [dk p st] → Calls Try.prog 11 #[pt p, .int .i64 ((k % 4 : Nat) : Int), .string (fl (UInt8.ofNat k))] w5 fun e w' => e = .returned (.int .i64 9) ∧ EnvP w w' [dk p st']) := ⟨fun h5 => write_env h5 0 rfl _ _ hpl (hf9 hg)⟩
          clear hf9 hf0
          generalize fl (UInt8.ofNat k) = T at *
          generalize ((UInt8.ofNat k).toNat : Int) = cb at *
          generalize k % 4 = j4 at *
          have gX := R.out.1
          (try dsimp only)
          go_wp2_with fail
          refine (qF.out gX).mono ?_
          rintro e x7 ⟨rfl, g7⟩
          (try dsimp only)
          go_wp2_with fail
          refine (qW.out g7).mono ?_
          rintro e x9 ⟨rfl, g9⟩
          have ho : st'.off = true := (hF.gone hg).1
          (try dsimp only)
          go_wp2_with fail
          refine (off_env g9 0 rfl ho).mono ?_
          rintro e w' ⟨rfl, hw⟩
          subst w'
          have R9 : Hid (EnvP w x9 [dk p st'] ∧ Fst m st' (k + 1)) := ⟨g9, hF⟩
          clear g9 g7 hF qF qW R gX
          (try dsimp only)
          go_wp2
          go_roundw
          case rel => exact ⟨k + 1, by omega, by go_num, st', R9⟩
          case measure => simp [intOf]; omega
      · have hA0 : m = 0 ∨ k + 1 < m := by unfold Gon at hg; omega
        have hgk : ¬ Gon m k := by unfold Gon at *; omega
        have hb1 := R.out.2.bad hgk (fl 120)
        have hb2 := R.out.2.short hgk
        have qF1 : Hid (∀ {w5 : World}, EnvP w w5 [dk p st] → Calls Try.prog 12 #[.int .u8 120] w5 fun e w' => e = .returned (.string (fl 120)) ∧ EnvP w w' [dk p st]) := ⟨fun h5 => full_env h5 120 rfl⟩
        have hpl0 : st.pend.length < 9000000000000 := by have := R.out.2.pend; omega
        have qB1 : Hid (∀ {w5 : World}, EnvP w w5 [dk p st] → Calls Try.prog 11 #[pt p, .int .i64 4, .string (fl 120)] w5 fun e w' => e = .returned (.int .i64 1) ∧ EnvP w w' [dk p st]) := ⟨fun h5 => write_env h5 0 rfl _ _ hpl0 hb1⟩
        have qB2 : Hid (∀ {w5 : World}, EnvP w w5 [dk p st] → Calls Try.prog 11 #[pt p, .int .i64 0, .string ⟨#[120]⟩] w5 fun e w' => e = .returned (.int .i64 1) ∧ EnvP w w' [dk p st]) := ⟨fun h5 => write_env h5 0 rfl _ _ hpl0 hb2⟩
        clear hb1 hb2
        generalize fl 120 = T120 at *
        rcases hA0 with hm0 | hmk
        · have hA1 : ¬ ((k : Int) + 1 < (m : Int)) := by omega
          have hA2 : ((m : Int) == 0) = true := by rw [beq_iff_eq]; omega
          have hA3 : ¬ ((0 : Int) < m) := by omega
          clear hm0
          go_wp2_with fail
          refine (qF1.out R.out.1).mono ?_
          rintro e w1y ⟨rfl, x1⟩
          (try dsimp only)
          go_wp2_with fail
          refine (qB1.out x1).mono ?_
          rintro e w2y ⟨rfl, x2⟩
          (try dsimp only)
          go_wp2_with fail
          refine (qB2.out x2).mono ?_
          rintro e w3y ⟨rfl, x3⟩
          clear x1 x2 qF1 qB1 qB2
          have cF := CF.out x3
          cases f with
          | true =>
            obtain ⟨st', hf9, hf0, hF⟩ := R.out.2.flush
            have hpl : st.pend.length ≤ 9000000000000 := by have := R.out.2.pend; omega
            have q1 : Calls Try.prog 13 #[pt p] w3y fun e w' => e = .returned (.int .i64 0) ∧ EnvP w w' [dk p st'] := flush_env x3 0 rfl hpl (hf0 hg)
            (try dsimp only)
            go_wp2_with fail
            refine q1.mono ?_
            rintro e x9 ⟨rfl, g9⟩
            have ho : st'.off = false := (hF.on hg).1
            (try dsimp only)
            go_wp2_with fail
            refine (off_env g9 0 rfl ho).mono ?_
            rintro e w' ⟨rfl, hw⟩
            subst w'
            have R9 : Hid (EnvP w x9 [dk p st'] ∧ Fst m st' (k + 1)) := ⟨g9, hF⟩
            clear g9 hF q1 hf9 hf0 R
            (try dsimp only)
            go_wp2
            go_roundw
            case rel => exact ⟨k + 1, by omega, by go_num, st', R9⟩
            case measure => simp [intOf]; omega
          | false =>
            obtain ⟨st', hf9, hf0, hF⟩ := R.out.2.write (k % 4) hj4 (UInt8.ofNat k)
            have hpl : st.pend.length < 9000000000000 := by have := R.out.2.pend; omega
            have qF : Hid (∀ {w5 : World}, EnvP w w5 [dk p st] → Calls Try.prog 12 #[.int .u8 ((UInt8.ofNat k).toNat : Int)] w5 fun e w' => e = .returned (.string (fl (UInt8.ofNat k))) ∧ EnvP w w' [dk p st]) := ⟨fun h5 => full_env h5 _ rfl⟩
            have qW : Hid (∀ {w5 : World}, EnvP w w5 [dk p st] → Calls Try.prog 11 #[pt p, .int .i64 ((k % 4 : Nat) : Int), .string (fl (UInt8.ofNat k))] w5 fun e w' => e = .returned (.int .i64 0) ∧ EnvP w w' [dk p st']) := ⟨fun h5 => write_env h5 0 rfl _ _ hpl (hf0 hg)⟩
            clear hf9 hf0
            generalize fl (UInt8.ofNat k) = T at *
            generalize ((UInt8.ofNat k).toNat : Int) = cb at *
            generalize k % 4 = j4 at *
            have gX := x3
            (try dsimp only)
            go_wp2_with fail
            refine (qF.out gX).mono ?_
            rintro e x7 ⟨rfl, g7⟩
            (try dsimp only)
            go_wp2_with fail
            refine (qW.out g7).mono ?_
            rintro e x9 ⟨rfl, g9⟩
            have ho : st'.off = false := (hF.on hg).1
            (try dsimp only)
            go_wp2_with fail
            refine (off_env g9 0 rfl ho).mono ?_
            rintro e w' ⟨rfl, hw⟩
            subst w'
            have R9 : Hid (EnvP w x9 [dk p st'] ∧ Fst m st' (k + 1)) := ⟨g9, hF⟩
            clear g9 g7 hF qF qW R gX
            (try dsimp only)
            go_wp2
            go_roundw
            case rel => exact ⟨k + 1, by omega, by go_num, st', R9⟩
            case measure => simp [intOf]; omega
        · have hA1 : (k : Int) + 1 < m := by omega
          have hA2 : ((m : Int) == 0) = false := by rw [beq_eq_false_iff_ne]; omega
          have hA3 : (0 : Int) < m := by omega
          have hA4 : ¬ ((m : Int) ≤ (k : Int) + 1) := by omega
          go_wp2_with fail
          refine (qF1.out R.out.1).mono ?_
          rintro e w1y ⟨rfl, x1⟩
          (try dsimp only)
          go_wp2_with fail
          refine (qB1.out x1).mono ?_
          rintro e w2y ⟨rfl, x2⟩
          (try dsimp only)
          go_wp2_with fail
          refine (qB2.out x2).mono ?_
          rintro e w3y ⟨rfl, x3⟩
          clear x1 x2 qF1 qB1 qB2
          have cF := CF.out x3
          cases f with
          | true =>
            obtain ⟨st', hf9, hf0, hF⟩ := R.out.2.flush
            have hpl : st.pend.length ≤ 9000000000000 := by have := R.out.2.pend; omega
            have q1 : Calls Try.prog 13 #[pt p] w3y fun e w' => e = .returned (.int .i64 0) ∧ EnvP w w' [dk p st'] := flush_env x3 0 rfl hpl (hf0 hg)
            (try dsimp only)
            go_wp2_with fail
            refine q1.mono ?_
            rintro e x9 ⟨rfl, g9⟩
            have ho : st'.off = false := (hF.on hg).1
            (try dsimp only)
            go_wp2_with fail
            refine (off_env g9 0 rfl ho).mono ?_
            rintro e w' ⟨rfl, hw⟩
            subst w'
            have R9 : Hid (EnvP w x9 [dk p st'] ∧ Fst m st' (k + 1)) := ⟨g9, hF⟩
            clear g9 hF q1 hf9 hf0 R
            (try dsimp only)
            go_wp2
            go_roundw
            case rel => exact ⟨k + 1, by omega, by go_num, st', R9⟩
            case measure => simp [intOf]; omega
          | false =>
            obtain ⟨st', hf9, hf0, hF⟩ := R.out.2.write (k % 4) hj4 (UInt8.ofNat k)
            have hpl : st.pend.length < 9000000000000 := by have := R.out.2.pend; omega
            have qF : Hid (∀ {w5 : World}, EnvP w w5 [dk p st] → Calls Try.prog 12 #[.int .u8 ((UInt8.ofNat k).toNat : Int)] w5 fun e w' => e = .returned (.string (fl (UInt8.ofNat k))) ∧ EnvP w w' [dk p st]) := ⟨fun h5 => full_env h5 _ rfl⟩
            have qW : Hid (∀ {w5 : World}, EnvP w w5 [dk p st] → Calls Try.prog 11 #[pt p, .int .i64 ((k % 4 : Nat) : Int), .string (fl (UInt8.ofNat k))] w5 fun e w' => e = .returned (.int .i64 0) ∧ EnvP w w' [dk p st']) := ⟨fun h5 => write_env h5 0 rfl _ _ hpl (hf0 hg)⟩
            clear hf9 hf0
            generalize fl (UInt8.ofNat k) = T at *
            generalize ((UInt8.ofNat k).toNat : Int) = cb at *
            generalize k % 4 = j4 at *
            have gX := x3
            (try dsimp only)
            go_wp2_with fail
            refine (qF.out gX).mono ?_
            rintro e x7 ⟨rfl, g7⟩
            (try dsimp only)
            go_wp2_with fail
            refine (qW.out g7).mono ?_
            rintro e x9 ⟨rfl, g9⟩
            have ho : st'.off = false := (hF.on hg).1
            (try dsimp only)
            go_wp2_with fail
            refine (off_env g9 0 rfl ho).mono ?_
            rintro e w' ⟨rfl, hw⟩
            subst w'
            have R9 : Hid (EnvP w x9 [dk p st'] ∧ Fst m st' (k + 1)) := ⟨g9, hF⟩
            clear g9 g7 hF qF qW R gX
            (try dsimp only)
            go_wp2
            go_roundw
            case rel => exact ⟨k + 1, by omega, by go_num, st', R9⟩
            case measure => simp [intOf]; omega
    · have hke : k = L.length := by omega
      subst hke
      have hi : ¬ ((L.length : Int) < L.length) := by omega
      obtain ⟨s1, s2, e1, e2, e3⟩ := last_ok st R.out.2.len R.out.2.cond
      have hpl0 : st.pend.length ≤ 9000000000000 := by have := R.out.2.pend; omega
      have E0 := R.out.1
      have hpc : (st.crash []).pend.length ≤ 9000000000000 := by unfold St.crash; split; exact hpl0; simp [St.settle]
      have hpo : (st.crash []).on.pend.length < 9000000000000 := by
        have : (st.crash []) = { st.settle [] with off := true } := by unfold St.crash; rw [if_neg (by rw [R.out.2.cond]; simp)]
        rw [this]; simp [St.on, St.settle]
      clear R
      go_wp2_with fail
      have q1 : Calls Try.prog 15 #[pt p, .slice none 0 0] wr fun e w' => e = .returned (.tuple #[]) ∧ EnvP w w' [dk p (st.crash [])] := crash_env E0 0 rfl none 0 [] hpl0 (by simp) (IIn.nil _ _)
      refine q1.mono ?_
      rintro e x1 ⟨rfl, g1⟩
      (try dsimp only)
      go_wp2_with fail
      have q2 : Calls Try.prog 16 #[pt p] x1 fun e w' => e = .returned (.tuple #[]) ∧ EnvP w w' [dk p (st.crash []).on] := on_env g1 0 rfl hpc
      refine q2.mono ?_
      rintro e x2 ⟨rfl, g2⟩
      have qF1 : Calls Try.prog 12 #[.int .u8 97] x2 fun e w' => e = .returned (.string (fl 97)) ∧ EnvP w w' [dk p (st.crash []).on] := full_env g2 97 rfl
      have qW1 : ∀ {w5 : World}, EnvP w w5 [dk p (st.crash []).on] → Calls Try.prog 11 #[pt p, .int .i64 0, .string (fl 97)] w5 fun e w' => e = .returned (.int .i64 0) ∧ EnvP w w' [dk p s1] := fun h5 => write_env h5 0 rfl _ _ hpo e1
      have qL1 : ∀ {w5 : World}, EnvP w w5 [dk p s1] → Calls Try.prog 13 #[pt p] w5 fun e w' => e = .returned (.int .i64 0) ∧ EnvP w w' [dk p s2] := fun h5 => flush_env h5 0 rfl (by omega) e2
      clear e1 e2
      generalize fl 97 = T97 at *
      (try dsimp only)
      go_wp2_with fail
      refine qF1.mono ?_
      rintro e x3 ⟨rfl, g3⟩
      (try dsimp only)
      go_wp2_with fail
      refine (qW1 g3).mono ?_
      rintro e x4 ⟨rfl, g4⟩
      (try dsimp only)
      go_wp2_with fail
      refine (qL1 g4).mono ?_
      rintro e x5 ⟨rfl, g5⟩
      (try dsimp only)
      go_wp2
      go_ret
      exact ⟨rfl, g5.bel⟩
end Go.Proofs.Ytmfjhdjphnogiaa
