/- The reference: Write, Limits, Compare. -/
import Derived.Test.YtijkabnhedmimabWrR
import Derived.Test.YtijkabnhedmimabLim
import Derived.Test.YtijkabnhedmimabCmf
namespace Go.Proofs.Ytijkabnhedmimab
set_option linter.unusedVariables false
set_option linter.unusedSimpArgs false
open Go.RowKit
attribute [local go_sem ↓] Go.wp_at_zero Go.wp_at_succ
attribute [local go_sem ↓] sl9 ix9
set_option maxHeartbeats 2000000 in
theorem refWrite_any (l : List Pt) (w : World) (a : Option Addr) (cap : Nat) (hP : PIn w a l) (hN : N64 l) (hB : bulk l ≤ 100000000) :
    Calls Try.prog 5 #[.slice a l.length cap] w fun e w' => e = .returned (wrote l) ∧ Below w.heap.size w w' := by
  have hlen : l.length ≤ 100000000 := Nat.le_trans (bulk_len l) hB
  go_enter Try.func5, Try.ntmps5
  go_wp2_with fail
  go_loopw [4, 5] (fun b i wr => ∃ k : Nat, k ≤ l.length ∧ i = .int .i64 (k : Int) ∧ b = str (wt (l.take k)) ∧ (l.take k).all isP = true ∧ Below w.heap.size w wr) (fun _ i _ => l.length - (intOf i).toNat)
  case atStart => exact ⟨0, by omega, rfl, rfl, rfl, Below.refl _ _⟩
  case round =>
    obtain ⟨k, hk, rfl, rfl, hall, hb⟩ := hrel
    by_cases hlt : k < l.length
    · have hd : decide ((k : Int) < (l.length : Int)) = true := decide_eq_true (by omega)
      have k2 : (k : Int) < (l.length : Int) := by omega
      obtain ⟨p, hp⟩ : ∃ p, l[k]? = some p := ⟨l[k], List.getElem?_eq_getElem hlt⟩
      obtain ⟨b, off, rfl, hbl, c0, c1, c2⟩ := (hP.later hb).get k p hp
      have hpm : p ∈ l := List.mem_of_getElem? hp
      obtain ⟨n1, n2⟩ := hN p hpm
      have hbl2 := bulk_take l hp
      have hcs : ∀ w', Below wr.heap.size wr w' → w'.cell? ⟨b, off + k * 3, none⟩ = some (.int .i64 p.kind) ∧ w'.cell? ⟨b, off + k * 3 + 1, none⟩ = some (str p.text) ∧ w'.cell? ⟨b, off + k * 3 + 2, none⟩ = some (.int .i64 p.n) := fun w' h => ⟨by rw [h.cell (p := ⟨b, _, none⟩) hbl]; exact c0, by rw [h.cell (p := ⟨b, _, none⟩) hbl]; exact c1, by rw [h.cell (p := ⟨b, _, none⟩) hbl]; exact c2⟩
      by_cases hi : isP p = true
      · have hip := fun w => refRight_any p w
        rw [hi] at hip
        have hok := ok_of hi n1 n2
        have hng : p.text.length ≤ 8 * ngr p.text.length := by unfold ngr; split <;> omega
        have hone := fun w => refOne_any p hok w (by omega)
        have HT : Hid ((l.take (k + 1)).all isP = true ∧ (⟨(wt (l.take k)).toArray⟩ ++ ⟨(ptx p).toArray⟩ : ByteArray) = ⟨(wt (l.take (k + 1))).toArray⟩) := ⟨by rw [take_succ' hp, List.all_append, hall]; simp [hi], by rw [cat_str, wt_take hp]⟩
        have hsz : (wt (l.take k)).length + (ptx p).length ≤ 1000000000 := by rw [ptx_length]; split <;> omega
        generalize wt (l.take k) = S at *
        generalize ptx p = E at *
        go_wp2_with (first
          | (go_at_call 14; refine (hip _).mono ?_; rintro e w1 ⟨rfl, hb1⟩; obtain ⟨d0, d1, d2⟩ := hcs w1 hb1)
          | (go_at_call 15; refine (hone _).mono ?_; rintro e w2 ⟨rfl, hb2⟩))
        exact ⟨⟨k + 1, by omega, by go_num, congrArg Value.string HT.out.2, HT.out.1, (hb.trans (hb1.mono hb.size)).trans (hb2.mono (Nat.le_trans hb.size hb1.size))⟩, by simp [intOf]; omega⟩
      · have hip := fun w => refRight_any p w
        have hi' : isP p = false := by simpa using hi
        rw [hi'] at hip
        have HA : Hid (l.all isP = false) := by
          constructor
          rw [Bool.eq_false_iff]
          intro h
          rw [List.all_eq_true] at h
          exact hi (h p hpm)
        clear hi hi'
        go_wp2_with (go_at_call 14; refine (hip _).mono ?_; rintro e w1 ⟨rfl, hb1⟩)
        go_ret2
        exact ⟨by rw [wrote_bad HA.out]; rfl, hb.trans (hb1.mono hb.size)⟩
    · obtain rfl : k = l.length := by omega
      rw [List.take_length] at hall
      have hd : decide ((l.length : Int) < (l.length : Int)) = false := decide_eq_false (by omega)
      have HA : Hid (l.all isP = true) := ⟨hall⟩
      clear hall
      go_wp2_with fail
      go_ret2
      exact ⟨by rw [wrote_ok HA.out, List.take_length]; rfl, hb⟩
theorem refLimits_any (l : List Pt) (w : World) (a : Option Addr) (cap : Nat) (hP : PIn w a l) (hN : N64 l) (hB : bulk l ≤ 100000000) :
    Calls Try.prog 6 #[.slice a l.length cap] w fun e w' => e = .returned (limited l) ∧ Below w.heap.size w w' := by
  have hw := refWrite_any l w a cap hP hN hB
  have hlw : (wt l).length ≤ 100000000 := Nat.le_trans (wt_bulk l) hB
  cases hA : l.all isP
  · rw [wrote_bad hA] at hw
    rw [limited_bad hA]
    go_enter Try.func6, Try.ntmps6
    go_wp2_with (go_at_call 5; refine hw.mono ?_; rintro e w1 ⟨rfl, hb1⟩)
    go_ret3
    exact ⟨rfl, hb1⟩
  · rw [wrote_ok hA] at hw
    rw [limited_ok hA, show str (wt l ++ [255]) = .string (⟨(wt l).toArray⟩ ++ ⟨#[255]⟩) from congrArg Value.string (cat_str _ _).symm]
    have hs : (⟨(wt l).toArray⟩ : ByteArray).size ≤ 199999999990000 := by rw [str_size]; omega
    have hn : ¬ 9223372036854775807 < (wt l).length + 1 := by omega
    generalize wt l = T at *
    go_enter Try.func6, Try.ntmps6
    go_wp2_with (go_at_call 5; refine hw.mono ?_; rintro e w1 ⟨rfl, hb1⟩)
    go_ret3
    exact ⟨rfl, hb1⟩
theorem bcmp_drop : ∀ (a b : List UInt8) (k : Nat), a.take k = b.take k → k ≤ a.length → k ≤ b.length → bcmp a b = bcmp (a.drop k) (b.drop k)
  | a, b, 0, _, _, _ => by simp
  | x :: a, y :: b, k + 1, h, h1, h2 => by
    simp at h h1 h2
    obtain ⟨rfl, h⟩ := h
    simp [bcmp]
    exact bcmp_drop a b k h h1 h2
  | [], _, k + 1, _, h1, _ => by simp at h1
  | _ :: _, [], k + 1, _, _, h2 => by simp at h2
theorem drop_getD (l : List UInt8) (k : Nat) (h : k < l.length) : l.drop k = l.getD k 0 :: l.drop (k + 1) := by
  rw [List.getD_eq_getElem?_getD, List.getElem?_eq_getElem h]
  exact List.drop_eq_getElem_cons h
set_option maxHeartbeats 1000000 in
theorem refOrder_any (a b : List UInt8) (w : World) (la : a.length ≤ 1000000000) (lb : b.length ≤ 1000000000) : Calls Try.prog 26 #[str a, str b] w fun e w' => e = .returned (.int .i64 (bcmp a b)) ∧ Below w.heap.size w w' := by
  go_enter Try.func26, Try.ntmps26
  go_wp2_with fail
  go_loopw [5] (fun i wr => ∃ k : Nat, k ≤ a.length ∧ k ≤ b.length ∧ i = .int .i64 (k : Int) ∧ a.take k = b.take k ∧ Below w.heap.size w wr) (fun i _ => a.length - (intOf i).toNat)
  case atStart => exact ⟨0, by omega, by omega, rfl, by simp, Below.refl _ _⟩
  case round =>
    obtain ⟨k, h1, h2, rfl, hab, hb⟩ := hrel
    have HL : Hid (bcmp a b = bcmp (a.drop k) (b.drop k)) := ⟨bcmp_drop a b k hab h1 h2⟩
    by_cases k1 : k < a.length
    · have d1 : decide ((k : Int) < (a.length : Int)) = true := decide_eq_true (by omega)
      have ga := run_ix a k k1
      by_cases k2 : k < b.length
      · have d2 : decide ((k : Int) < (b.length : Int)) = true := decide_eq_true (by omega)
        have gb := run_ix b k k2
        have HD : Hid (bcmp a b = if (a.getD k 0).toNat < (b.getD k 0).toNat then -1 else if (b.getD k 0).toNat < (a.getD k 0).toNat then 1 else bcmp (a.drop (k + 1)) (b.drop (k + 1))) := ⟨by rw [HL.out, drop_getD a k k1, drop_getD b k k2]; rfl⟩
        by_cases he : (a.getD k 0).toNat = (b.getD k 0).toNat
        · have HT : Hid (a.take (k + 1) = b.take (k + 1)) := ⟨by rw [take_one k1, take_one k2, hab, UInt8.toNat.inj he]⟩
          rw [he] at ga
          have HE : Hid ((a.getD k 0).toNat = (b.getD k 0).toNat) := ⟨he⟩
          clear hab he HD
          generalize b.getD k 0 = c at *
          go_wp2_with fail
          go_quiet (fail)
          go_wp2_with fail
          exact ⟨⟨k + 1, by omega, by omega, by go_num, HT.out, below_drewN hb nq⟩, by simp [intOf]; omega⟩
        · have hne : (((a.getD k 0).toNat : Int) != ((b.getD k 0).toNat : Int)) = true := by rw [bne_iff_ne]; omega
          by_cases hlt : (a.getD k 0).toNat < (b.getD k 0).toNat
          · have HN : Hid (bcmp a b = -1) := ⟨by rw [HD.out, if_pos hlt]⟩
            have d3 : decide (((a.getD k 0).toNat : Int) < ((b.getD k 0).toNat : Int)) = true := decide_eq_true (by omega)
            clear HD HL hab
            generalize a.getD k 0 = c at *
            generalize b.getD k 0 = d at *
            go_wp2_with fail
            go_quiet (fail)
            go_wp2_with fail
            try (go_quiet (fail); go_wp2_with fail)
            go_ret
            exact ⟨by rw [HN.out]; rfl, by first | exact below_drewN (below_drewN hb _) _ | exact below_drewN hb _⟩
          · have HN : Hid (bcmp a b = 1) := ⟨by rw [HD.out, if_neg hlt, if_pos (by omega)]⟩
            have d3 : decide (((a.getD k 0).toNat : Int) < ((b.getD k 0).toNat : Int)) = false := decide_eq_false (by omega)
            clear HD HL hab
            generalize a.getD k 0 = c at *
            generalize b.getD k 0 = d at *
            go_wp2_with fail
            go_quiet (fail)
            go_wp2_with fail
            try (go_quiet (fail); go_wp2_with fail)
            go_ret
            exact ⟨by rw [HN.out]; rfl, by first | exact below_drewN (below_drewN hb _) _ | exact below_drewN hb _⟩
      · obtain rfl : k = b.length := by omega
        have d2 : decide ((b.length : Int) < (b.length : Int)) = false := decide_eq_false (by omega)
        have d3 : decide ((a.length : Int) < (b.length : Int)) = false := decide_eq_false (by omega)
        have d4 : decide ((b.length : Int) < (a.length : Int)) = true := decide_eq_true (by omega)
        have HN : Hid (bcmp a b = 1) := ⟨by rw [HL.out, drop_getD a _ k1, List.drop_length]; rfl⟩
        clear hab
        go_wp2_with fail
        go_ret
        exact ⟨by rw [HN.out]; rfl, hb⟩
    · obtain rfl : k = a.length := by omega
      have d1 : decide ((a.length : Int) < (a.length : Int)) = false := decide_eq_false (by omega)
      by_cases k2 : a.length < b.length
      · have d2 : decide ((a.length : Int) < (b.length : Int)) = true := decide_eq_true (by omega)
        have HN : Hid (bcmp a b = -1) := ⟨by rw [HL.out, drop_getD b _ k2, List.drop_length]; rfl⟩
        clear hab
        go_wp2_with fail
        go_ret
        exact ⟨by rw [HN.out]; rfl, hb⟩
      · have d2 : decide ((a.length : Int) < (b.length : Int)) = false := decide_eq_false (by omega)
        have d4 : decide ((b.length : Int) < (a.length : Int)) = false := decide_eq_false (by omega)
        have HN : Hid (bcmp a b = 0) := ⟨by rw [HL.out, List.drop_length, List.drop_of_length_le (by omega)]; rfl⟩
        clear hab
        go_wp2_with fail
        go_ret
        exact ⟨by rw [HN.out]; rfl, hb⟩
end Go.Proofs.Ytijkabnhedmimab
