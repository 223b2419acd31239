/- TupleBack: the walk. -/
import Derived.Test.YtijkabnhedmimaaLift
import Derived.Test.YtijkabnhedmimaaOpn
import Derived.Test.YtijkabnhedmimaaBeg
namespace Go.Proofs.Ytijkabnhedmimaa
set_option linter.unusedVariables false
set_option linter.unusedSimpArgs false
open Go.RowKit
theorem bulk_wt {l : List Pt} (h : okL l) : bulk l ≤ 3 * (wt l).length := by
  induction l with
  | nil => simp [bulk]
  | cons p l ih =>
    have := ih h.tail
    rw [wt_cons, List.length_append, ptx_length]
    simp only [bulk, List.map_cons, List.sum_cons] at this ⊢
    have hn : 1 ≤ ngr p.text.length := by unfold ngr; split <;> omega
    rcases h.head.is with ⟨k1, _⟩ | ⟨k1, t0⟩
    · rw [if_pos k1]; omega
    · have : ngr p.text.length = 1 := by rw [t0]; rfl
      rw [if_neg (by omega)]; omega
/-- Read of a text that is one -/
theorem read_is {l : List Pt} (hl : okL l) (w : World) (hs : (wt l).length ≤ 1000000000000) :
    Calls Try.prog 12 #[str (wt l)] w fun e w' => ∃ a cap, e = .returned (.tuple #[.slice a l.length cap, .int .i64 0]) ∧ Sl w' a cap l ∧ Below w.heap.size w w' := by
  refine (read_any (wt l) w hs).mono ?_
  rintro e w' ⟨h, hb⟩
  rcases h with ⟨v, m, hm, he, rfl, hO⟩ | ⟨hno, _⟩
  · have := wt_inj hl hm he
    subst this
    obtain ⟨a, cap, rfl, hS⟩ := hO.sl
    exact ⟨a, cap, rfl, hS, hb⟩
  · exact absurd rfl (hno l hl)
/-- Read of a text, one or none -/
theorem read_or (b : List UInt8) (w : World) (hs : b.length ≤ 1000000000000) :
    Calls Try.prog 12 #[str b] w fun e w' => ((∃ l a cap, okL l ∧ Hid (b = wt l) ∧ e = .returned (.tuple #[.slice a l.length cap, .int .i64 0]) ∧ Sl w' a cap l) ∨ e = .returned (.tuple #[.slice none 0 0, .int .i64 4])) ∧ Below w.heap.size w w' := by
  refine (read_any b w hs).mono ?_
  rintro e w' ⟨h, hb⟩
  refine ⟨?_, hb⟩
  rcases h with ⟨v, m, hm, he, rfl, hO⟩ | ⟨hno, rfl⟩
  · obtain ⟨a, cap, rfl, hS⟩ := hO.sl
    exact Or.inl ⟨m, a, cap, hm, ⟨he⟩, rfl, hS⟩
  · exact Or.inr rfl
theorem cut_list {M Y : List Pt} {k : Nat} (hM : okL M) (hY : okL Y) (hk : k < (wt M).length) (h : (wt M).take k = wt Y) : Y.length < M.length ∧ M.take Y.length = Y := by
  have e : wt Y ++ (wt M).drop k = wt M := by rw [← h, List.take_append_drop]
  obtain ⟨m', h1, h2⟩ := wt_split hY hM e
  have hne : m' ≠ [] := by
    rintro rfl
    have := congrArg List.length h2
    rw [List.length_drop, wt_nil, List.length_nil] at this
    omega
  have hp : 0 < m'.length := List.length_pos_iff.2 hne
  subst h1
  exact ⟨by rw [List.length_append]; omega, by simp⟩
theorem wt_pre (M : List Pt) (i : Nat) : (wt M).take (wt (M.take i)).length = wt (M.take i) := by
  have : wt M = wt (M.take i) ++ wt (M.drop i) := by rw [← wt_append, List.take_append_drop]
  conv => lhs; rw [this]
  simp
attribute [local go_sem ↓] Go.wp_at_zero Go.wp_at_succ
attribute [local go_sem ↓] sl9 ix9 slPe
set_option maxHeartbeats 4000000 in
theorem tupleBack_walk (l : List Pt) (a : Option Addr) (ca : Nat) (n : Int) (b : List UInt8) (W : World) (hP : PIn W a l) (hN : N64 l) (hB : bulk l ≤ 20971520) (n1 : -9223372036854775808 ≤ n) (n2 : n ≤ 9223372036854775807) (hbl : b.length ≤ 1048576) :
    Calls Try.prog 4 #[.slice a l.length ca, .int .i64 n, str b] W fun e w' => e = .returned (.bool true) ∧ Below W.heap.size W w' := by
  go_enter Try.func4, Try.ntmps4
  go_wp2_with fail
  refine (head_of cmpC _).mono ?_
  rintro e w1 ⟨rfl, hb1⟩
  dsimp only
  go_wp2_with fail
  refine (parts_any l w1 a ca (hP.later hb1) (Nat.le_trans (bulk_len l) (by omega))).mono ?_
  rintro e w2 ⟨va, rfl, hOa, hb2⟩
  dsimp only
  have hA := fixL_ok hN
  have bA : bulk (l.map fix) ≤ 20971520 := Nat.le_trans (bulk_fix l) hB
  generalize l.map fix = A at *
  obtain ⟨aa, caa, rfl, sA⟩ := hOa.sl
  have lA : A.length ≤ 20971520 := Nat.le_trans (bulk_len A) bA
  have lwA : (wt A).length ≤ 20971520 := Nat.le_trans (wt_bulk A) bA
  have hw1 := write_any A w2 aa caa sA.at' (okL_n64 hA) (by omega)
  rw [wrote_ok (okL_all hA)] at hw1
  go_wp2_with fail
  refine hw1.mono ?_
  rintro e w3 ⟨rfl, hb3⟩
  dsimp only
  go_wp2_with fail
  refine (read_is hA w3 (by omega)).mono ?_
  rintro e w4 ⟨ax, cax, rfl, sX, hb4⟩
  dsimp only
  have b24 := below_seq hb3 hb4
  have hq := equal_any A A w4 ax aa cax caa sX.at' (sA.at'.later b24) (by omega) (by omega)
  rw [same_true rfl] at hq
  have HB : Below W.heap.size W w4 := below_seq (below_seq hb1 hb2) b24
  have sA4 := sA.later b24
  clear hw1 hb1 hb2 hb3 hb4 sA hOa hP sX b24 hB hN
  by_cases hz : wt A = []
  · have hze : (wt A).isEmpty = true := by rw [hz]; rfl
    clear hz
    generalize wt A = S at *
    go_wp2_with (go_at_call 13; refine hq.mono ?_; rintro e w5 ⟨rfl, hb5⟩)
    have HX := below_seq HB hb5
    refine (read_or b _ (by omega)).mono ?_
    rintro e w9 ⟨(⟨Y2, ay2, cy2, hY2, hbY, rfl, sY2⟩ | rfl), hb9⟩
    · dsimp only
      have hbk : bulk Y2 ≤ 199999999990000 := by
        have h1 := bulk_wt hY2
        rw [← hbY.out] at h1
        omega
      have hw9 := write_any Y2 w9 ay2 cy2 sY2.at' (okL_n64 hY2) hbk
      rw [wrote_ok (okL_all hY2), ← hbY.out] at hw9
      go_wp2_with (go_at_call 10; refine hw9.mono ?_; rintro e w10 ⟨rfl, hb10⟩)
      go_ret
      exact ⟨rfl, below_seq (below_seq HX hb9) hb10⟩
    · dsimp only
      go_wp2_with fail
      go_ret
      exact ⟨rfl, below_seq HX hb9⟩
  · have hze : (wt A).isEmpty = false := by
      cases hw : wt A with
      | nil => exact absurd hw hz
      | cons _ _ => rfl
    have hpos : 0 < (wt A).length := List.length_pos_iff.2 hz
    have hne0 : ¬ ((wt A).length : Int) = 0 := by omega
    clear hz
    have hmod := Int.tmod_lt_of_pos n (b := ((wt A).length : Int)) (by omega)
    have hmod2 : -((wt A).length : Int) < n.tmod ((wt A).length : Int) := by
      have := Int.lt_tmod_of_pos n (b := ((wt A).length : Int)) (by omega)
      exact this
    by_cases hsg : n.tmod ((wt A).length : Int) < 0
    · obtain ⟨k, hkk, hk⟩ : ∃ k : Nat, - n.tmod ((wt A).length : Int) = (k : Int) ∧ k < (wt A).length := ⟨(- n.tmod ((wt A).length : Int)).toNat, by omega, by omega⟩
      have hwr : wrap64 (- n.tmod ((wt A).length : Int)) = (k : Int) := by rw [hkk]; unfold wrap64; omega
      have hng : decide (n.tmod ((wt A).length : Int) < 0) = true := decide_eq_true hsg
      clear hkk hmod hmod2 hsg
      have hs := run_hi (wt A) k (by omega) (by omega)
      have hlC : ((wt A).take k).length ≤ 1000000000000 := by rw [List.length_take]; omega
      have hcl := fun Y (hY : okL Y) (h : (wt A).take k = wt Y) => cut_list hA hY hk h
      obtain ⟨C, hC⟩ : ∃ C, C = (wt A).take k := ⟨_, rfl⟩
      rw [← hC] at hs hlC hcl
      have HC : Hid (C = (wt A).take k) := ⟨hC⟩
      clear hC
      go_wp2_with (go_at_call 13; refine hq.mono ?_; rintro e w5 ⟨rfl, hb5⟩)
      have HB5 := below_seq HB hb5
      have sA5 := sA4.later hb5
      clear HB sA4 hb5 hq
      refine (read_or C w5 hlC).mono ?_
      rintro e w6 ⟨(⟨Y, ay, cy, hY, hbY, rfl, sY⟩ | rfl), hb6⟩
      · dsimp only
        obtain ⟨ly, ty⟩ := hcl Y hY hbY.out
        have d3 : decide ((A.length : Int) ≤ (Y.length : Int)) = false := decide_eq_false (by omega)
        have d3n : decide (A.length ≤ Y.length) = false := decide_eq_false (by omega)
        have hsy := run_slP aa A.length caa Y.length (by omega) sA5.le sA5.max sA5.nil
        have hqy := equal_any Y Y w6 ay aa cy caa sY.at' (by have := ((sA5.later hb6).take Y.length).at'; rw [ty] at this; exact this) (by omega) (by omega)
        rw [same_true rfl] at hqy
        have HX6 := below_seq HB5 hb6
        have sAX6 := sA5.later hb6
        rw [HC.out] at hs
        clear HC hcl hlC hbY ty hb6 HB5 sA5
        go_wp2_with (go_at_call 13; refine hqy.mono ?_; rintro e w7 ⟨rfl, hb7⟩)
        try rw [d3n]
        have HX := below_seq HX6 hb7
        have sAX := sAX6.later hb7
        clear HX6 sAX6 hb7
        have hpreA := wt_pre A
        have HPA : Hid (∀ i, (wt A).take (wt (A.take i)).length = wt (A.take i)) := ⟨hpreA⟩
        clear hpreA
        generalize wt A = S at *
        first | rw [hwr] | rw [hkk] | skip
        go_loopw [15] (fun i wr => ∃ j : Nat, j ≤ A.length ∧ i = .int .i64 (j : Int) ∧ Below W.heap.size W wr ∧ Sl wr aa caa A) (fun i _ => A.length - (intOf i).toNat)
        case atStart => exact ⟨0, by omega, rfl, HX, sAX⟩
        case round =>
          clear HX sAX
          obtain ⟨j, hj, rfl, HX, sAX⟩ := hrel
          by_cases hjl : j < A.length
          · have d1 : decide ((j : Int) < (A.length : Int)) = true := decide_eq_true (by omega)
            have hsj := run_slP aa A.length caa j hj sAX.le sAX.max sAX.nil
            have lj : (A.take j).length = j := by rw [List.length_take]; omega
            have hoj : okL (A.take j) := fun q hq => hA q (List.mem_of_mem_take hq)
            have bj : bulk (A.take j) ≤ 20971520 := by
              have : bulk A = bulk (A.take j) + bulk (A.drop j) := by rw [← bulk_append, List.take_append_drop]
              omega
            have hwj := write_any (A.take j) wr aa caa (sAX.take j).at' (okL_n64 hoj) (by omega)
            rw [wrote_ok (okL_all hoj), lj] at hwj
            by_cases hkl : (wt (A.take j)).length = k
            · have hkp := HPA.out j
              rw [hkl] at hkp
              rw [hkp] at hs
              have d2 : (((wt (A.take j)).length : Int) == (k : Int)) = true := by rw [beq_iff_eq]; omega
              clear hkp hkl
              clear HPA
              generalize wt (A.take j) = T at *
              go_wp2_with (go_at_call 10; refine hwj.mono ?_; rintro e w8 ⟨rfl, hb8⟩)
              go_roundw
              case rel => exact ⟨j + 1, by omega, by go_num, below_seq HX hb8, sAX.later hb8⟩
              case measure => simp [intOf]; omega
            · have d2 : (((wt (A.take j)).length : Int) == (k : Int)) = false := by rw [beq_eq_false_iff_ne]; omega
              clear hkl
              clear HPA
              generalize wt (A.take j) = T at *
              go_wp2_with (go_at_call 10; refine hwj.mono ?_; rintro e w8 ⟨rfl, hb8⟩)
              go_roundw
              case rel => exact ⟨j + 1, by omega, by go_num, below_seq HX hb8, sAX.later hb8⟩
              case measure => simp [intOf]; omega
          · obtain rfl : j = A.length := by omega
            have d1 : decide ((A.length : Int) < (A.length : Int)) = false := decide_eq_false (by omega)
            go_wp2_with fail
            refine (read_or b _ (by omega)).mono ?_
            rintro e w9 ⟨(⟨Y2, ay2, cy2, hY2, hbY, rfl, sY2⟩ | rfl), hb9⟩
            · dsimp only
              have hbk : bulk Y2 ≤ 199999999990000 := by
                have h1 := bulk_wt hY2
                rw [← hbY.out] at h1
                omega
              have hw9 := write_any Y2 w9 ay2 cy2 sY2.at' (okL_n64 hY2) hbk
              rw [wrote_ok (okL_all hY2), ← hbY.out] at hw9
              go_wp2_with (go_at_call 10; refine hw9.mono ?_; rintro e w10 ⟨rfl, hb10⟩)
              go_ret
              exact ⟨rfl, below_seq (below_seq HX hb9) hb10⟩
            · dsimp only
              go_wp2_with fail
              go_ret
              exact ⟨rfl, below_seq HX hb9⟩
      · dsimp only
        have HX := below_seq HB5 hb6
        have sAX := sA5.later hb6
        rw [HC.out] at hs
        clear HC hcl hlC hb6 HB5 sA5
        go_wp2_with fail
        have hpreA := wt_pre A
        have HPA : Hid (∀ i, (wt A).take (wt (A.take i)).length = wt (A.take i)) := ⟨hpreA⟩
        clear hpreA
        generalize wt A = S at *
        first | rw [hwr] | rw [hkk] | skip
        go_loopw [15] (fun i wr => ∃ j : Nat, j ≤ A.length ∧ i = .int .i64 (j : Int) ∧ Below W.heap.size W wr ∧ Sl wr aa caa A) (fun i _ => A.length - (intOf i).toNat)
        case atStart => exact ⟨0, by omega, rfl, HX, sAX⟩
        case round =>
          clear HX sAX
          obtain ⟨j, hj, rfl, HX, sAX⟩ := hrel
          by_cases hjl : j < A.length
          · have d1 : decide ((j : Int) < (A.length : Int)) = true := decide_eq_true (by omega)
            have hsj := run_slP aa A.length caa j hj sAX.le sAX.max sAX.nil
            have lj : (A.take j).length = j := by rw [List.length_take]; omega
            have hoj : okL (A.take j) := fun q hq => hA q (List.mem_of_mem_take hq)
            have bj : bulk (A.take j) ≤ 20971520 := by
              have : bulk A = bulk (A.take j) + bulk (A.drop j) := by rw [← bulk_append, List.take_append_drop]
              omega
            have hwj := write_any (A.take j) wr aa caa (sAX.take j).at' (okL_n64 hoj) (by omega)
            rw [wrote_ok (okL_all hoj), lj] at hwj
            by_cases hkl : (wt (A.take j)).length = k
            · have hkp := HPA.out j
              rw [hkl] at hkp
              rw [hkp] at hs
              have d2 : (((wt (A.take j)).length : Int) == (k : Int)) = true := by rw [beq_iff_eq]; omega
              clear hkp hkl
              clear HPA
              generalize wt (A.take j) = T at *
              go_wp2_with (go_at_call 10; refine hwj.mono ?_; rintro e w8 ⟨rfl, hb8⟩)
              go_roundw
              case rel => exact ⟨j + 1, by omega, by go_num, below_seq HX hb8, sAX.later hb8⟩
              case measure => simp [intOf]; omega
            · have d2 : (((wt (A.take j)).length : Int) == (k : Int)) = false := by rw [beq_eq_false_iff_ne]; omega
              clear hkl
              clear HPA
              generalize wt (A.take j) = T at *
              go_wp2_with (go_at_call 10; refine hwj.mono ?_; rintro e w8 ⟨rfl, hb8⟩)
              go_roundw
              case rel => exact ⟨j + 1, by omega, by go_num, below_seq HX hb8, sAX.later hb8⟩
              case measure => simp [intOf]; omega
          · obtain rfl : j = A.length := by omega
            have d1 : decide ((A.length : Int) < (A.length : Int)) = false := decide_eq_false (by omega)
            go_wp2_with fail
            refine (read_or b _ (by omega)).mono ?_
            rintro e w9 ⟨(⟨Y2, ay2, cy2, hY2, hbY, rfl, sY2⟩ | rfl), hb9⟩
            · dsimp only
              have hbk : bulk Y2 ≤ 199999999990000 := by
                have h1 := bulk_wt hY2
                rw [← hbY.out] at h1
                omega
              have hw9 := write_any Y2 w9 ay2 cy2 sY2.at' (okL_n64 hY2) hbk
              rw [wrote_ok (okL_all hY2), ← hbY.out] at hw9
              go_wp2_with (go_at_call 10; refine hw9.mono ?_; rintro e w10 ⟨rfl, hb10⟩)
              go_ret
              exact ⟨rfl, below_seq (below_seq HX hb9) hb10⟩
            · dsimp only
              go_wp2_with fail
              go_ret
              exact ⟨rfl, below_seq HX hb9⟩
    · obtain ⟨k, hkk, hk⟩ : ∃ k : Nat, n.tmod ((wt A).length : Int) = (k : Int) ∧ k < (wt A).length := ⟨(n.tmod ((wt A).length : Int)).toNat, by omega, by omega⟩
      have hng : decide ((k : Int) < 0) = false := decide_eq_false (by omega)
      clear hmod hmod2 hsg
      have hs := run_hi (wt A) k (by omega) (by omega)
      have hlC : ((wt A).take k).length ≤ 1000000000000 := by rw [List.length_take]; omega
      have hcl := fun Y (hY : okL Y) (h : (wt A).take k = wt Y) => cut_list hA hY hk h
      obtain ⟨C, hC⟩ : ∃ C, C = (wt A).take k := ⟨_, rfl⟩
      rw [← hC] at hs hlC hcl
      have HC : Hid (C = (wt A).take k) := ⟨hC⟩
      clear hC
      go_wp2_with (go_at_call 13; refine hq.mono ?_; rintro e w5 ⟨rfl, hb5⟩)
      have HB5 := below_seq HB hb5
      have sA5 := sA4.later hb5
      clear HB sA4 hb5 hq
      refine (read_or C w5 hlC).mono ?_
      rintro e w6 ⟨(⟨Y, ay, cy, hY, hbY, rfl, sY⟩ | rfl), hb6⟩
      · dsimp only
        obtain ⟨ly, ty⟩ := hcl Y hY hbY.out
        have d3 : decide ((A.length : Int) ≤ (Y.length : Int)) = false := decide_eq_false (by omega)
        have d3n : decide (A.length ≤ Y.length) = false := decide_eq_false (by omega)
        have hsy := run_slP aa A.length caa Y.length (by omega) sA5.le sA5.max sA5.nil
        have hqy := equal_any Y Y w6 ay aa cy caa sY.at' (by have := ((sA5.later hb6).take Y.length).at'; rw [ty] at this; exact this) (by omega) (by omega)
        rw [same_true rfl] at hqy
        have HX6 := below_seq HB5 hb6
        have sAX6 := sA5.later hb6
        rw [HC.out] at hs
        clear HC hcl hlC hbY ty hb6 HB5 sA5
        go_wp2_with (go_at_call 13; refine hqy.mono ?_; rintro e w7 ⟨rfl, hb7⟩)
        try rw [d3n]
        have HX := below_seq HX6 hb7
        have sAX := sAX6.later hb7
        clear HX6 sAX6 hb7
        have hpreA := wt_pre A
        have HPA : Hid (∀ i, (wt A).take (wt (A.take i)).length = wt (A.take i)) := ⟨hpreA⟩
        clear hpreA
        generalize wt A = S at *
        first | rw [hwr] | rw [hkk] | skip
        go_loopw [15] (fun i wr => ∃ j : Nat, j ≤ A.length ∧ i = .int .i64 (j : Int) ∧ Below W.heap.size W wr ∧ Sl wr aa caa A) (fun i _ => A.length - (intOf i).toNat)
        case atStart => exact ⟨0, by omega, rfl, HX, sAX⟩
        case round =>
          clear HX sAX
          obtain ⟨j, hj, rfl, HX, sAX⟩ := hrel
          by_cases hjl : j < A.length
          · have d1 : decide ((j : Int) < (A.length : Int)) = true := decide_eq_true (by omega)
            have hsj := run_slP aa A.length caa j hj sAX.le sAX.max sAX.nil
            have lj : (A.take j).length = j := by rw [List.length_take]; omega
            have hoj : okL (A.take j) := fun q hq => hA q (List.mem_of_mem_take hq)
            have bj : bulk (A.take j) ≤ 20971520 := by
              have : bulk A = bulk (A.take j) + bulk (A.drop j) := by rw [← bulk_append, List.take_append_drop]
              omega
            have hwj := write_any (A.take j) wr aa caa (sAX.take j).at' (okL_n64 hoj) (by omega)
            rw [wrote_ok (okL_all hoj), lj] at hwj
            by_cases hkl : (wt (A.take j)).length = k
            · have hkp := HPA.out j
              rw [hkl] at hkp
              rw [hkp] at hs
              have d2 : (((wt (A.take j)).length : Int) == (k : Int)) = true := by rw [beq_iff_eq]; omega
              clear hkp hkl
              clear HPA
              generalize wt (A.take j) = T at *
              go_wp2_with (go_at_call 10; refine hwj.mono ?_; rintro e w8 ⟨rfl, hb8⟩)
              go_roundw
              case rel => exact ⟨j + 1, by omega, by go_num, below_seq HX hb8, sAX.later hb8⟩
              case measure => simp [intOf]; omega
            · have d2 : (((wt (A.take j)).length : Int) == (k : Int)) = false := by rw [beq_eq_false_iff_ne]; omega
              clear hkl
              clear HPA
              generalize wt (A.take j) = T at *
              go_wp2_with (go_at_call 10; refine hwj.mono ?_; rintro e w8 ⟨rfl, hb8⟩)
              go_roundw
              case rel => exact ⟨j + 1, by omega, by go_num, below_seq HX hb8, sAX.later hb8⟩
              case measure => simp [intOf]; omega
          · obtain rfl : j = A.length := by omega
            have d1 : decide ((A.length : Int) < (A.length : Int)) = false := decide_eq_false (by omega)
            go_wp2_with fail
            refine (read_or b _ (by omega)).mono ?_
            rintro e w9 ⟨(⟨Y2, ay2, cy2, hY2, hbY, rfl, sY2⟩ | rfl), hb9⟩
            · dsimp only
              have hbk : bulk Y2 ≤ 199999999990000 := by
                have h1 := bulk_wt hY2
                rw [← hbY.out] at h1
                omega
              have hw9 := write_any Y2 w9 ay2 cy2 sY2.at' (okL_n64 hY2) hbk
              rw [wrote_ok (okL_all hY2), ← hbY.out] at hw9
              go_wp2_with (go_at_call 10; refine hw9.mono ?_; rintro e w10 ⟨rfl, hb10⟩)
              go_ret
              exact ⟨rfl, below_seq (below_seq HX hb9) hb10⟩
            · dsimp only
              go_wp2_with fail
              go_ret
              exact ⟨rfl, below_seq HX hb9⟩
      · dsimp only
        have HX := below_seq HB5 hb6
        have sAX := sA5.later hb6
        rw [HC.out] at hs
        clear HC hcl hlC hb6 HB5 sA5
        go_wp2_with fail
        have hpreA := wt_pre A
        have HPA : Hid (∀ i, (wt A).take (wt (A.take i)).length = wt (A.take i)) := ⟨hpreA⟩
        clear hpreA
        generalize wt A = S at *
        first | rw [hwr] | rw [hkk] | skip
        go_loopw [15] (fun i wr => ∃ j : Nat, j ≤ A.length ∧ i = .int .i64 (j : Int) ∧ Below W.heap.size W wr ∧ Sl wr aa caa A) (fun i _ => A.length - (intOf i).toNat)
        case atStart => exact ⟨0, by omega, rfl, HX, sAX⟩
        case round =>
          clear HX sAX
          obtain ⟨j, hj, rfl, HX, sAX⟩ := hrel
          by_cases hjl : j < A.length
          · have d1 : decide ((j : Int) < (A.length : Int)) = true := decide_eq_true (by omega)
            have hsj := run_slP aa A.length caa j hj sAX.le sAX.max sAX.nil
            have lj : (A.take j).length = j := by rw [List.length_take]; omega
            have hoj : okL (A.take j) := fun q hq => hA q (List.mem_of_mem_take hq)
            have bj : bulk (A.take j) ≤ 20971520 := by
              have : bulk A = bulk (A.take j) + bulk (A.drop j) := by rw [← bulk_append, List.take_append_drop]
              omega
            have hwj := write_any (A.take j) wr aa caa (sAX.take j).at' (okL_n64 hoj) (by omega)
            rw [wrote_ok (okL_all hoj), lj] at hwj
            by_cases hkl : (wt (A.take j)).length = k
            · have hkp := HPA.out j
              rw [hkl] at hkp
              rw [hkp] at hs
              have d2 : (((wt (A.take j)).length : Int) == (k : Int)) = true := by rw [beq_iff_eq]; omega
              clear hkp hkl
              clear HPA
              generalize wt (A.take j) = T at *
              go_wp2_with (go_at_call 10; refine hwj.mono ?_; rintro e w8 ⟨rfl, hb8⟩)
              go_roundw
              case rel => exact ⟨j + 1, by omega, by go_num, below_seq HX hb8, sAX.later hb8⟩
              case measure => simp [intOf]; omega
            · have d2 : (((wt (A.take j)).length : Int) == (k : Int)) = false := by rw [beq_eq_false_iff_ne]; omega
              clear hkl
              clear HPA
              generalize wt (A.take j) = T at *
              go_wp2_with (go_at_call 10; refine hwj.mono ?_; rintro e w8 ⟨rfl, hb8⟩)
              go_roundw
              case rel => exact ⟨j + 1, by omega, by go_num, below_seq HX hb8, sAX.later hb8⟩
              case measure => simp [intOf]; omega
          · obtain rfl : j = A.length := by omega
            have d1 : decide ((A.length : Int) < (A.length : Int)) = false := decide_eq_false (by omega)
            go_wp2_with fail
            refine (read_or b _ (by omega)).mono ?_
            rintro e w9 ⟨(⟨Y2, ay2, cy2, hY2, hbY, rfl, sY2⟩ | rfl), hb9⟩
            · dsimp only
              have hbk : bulk Y2 ≤ 199999999990000 := by
                have h1 := bulk_wt hY2
                rw [← hbY.out] at h1
                omega
              have hw9 := write_any Y2 w9 ay2 cy2 sY2.at' (okL_n64 hY2) hbk
              rw [wrote_ok (okL_all hY2), ← hbY.out] at hw9
              go_wp2_with (go_at_call 10; refine hw9.mono ?_; rintro e w10 ⟨rfl, hb10⟩)
              go_ret
              exact ⟨rfl, below_seq (below_seq HX hb9) hb10⟩
            · dsimp only
              go_wp2_with fail
              go_ret
              exact ⟨rfl, below_seq HX hb9⟩
end Go.Proofs.Ytijkabnhedmimaa
