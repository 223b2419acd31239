/- Layer 22: the lines of a text. -/
import Derived.Test.YtgbkloihclbimaaDoorWl
namespace Go.Proofs.YtgbkloihclbimaaDoor
set_option maxRecDepth 100000
set_option linter.unusedVariables false
set_option linter.unusedSimpArgs false
open Go.RowKit Go.Shelf
attribute [local go_sem] Oper.semAt_some
attribute [local go_sem ↓] sl9 ix9
/-- the lines of a text, with what ends them -/
def lnsF : Nat → By → List By
  | 0, _ => []
  | n + 1, s => if s = [] then [] else if 0 ≤ Lib.indexByte s 10 then s.take ((Lib.indexByte s 10).toNat + 1) :: lnsF n (s.drop ((Lib.indexByte s 10).toNat + 1)) else [s]
def lnsE (s : By) : List By := lnsF s.length s
theorem lnsMore : ∀ (n m : Nat) (s : By), s.length ≤ n → s.length ≤ m → lnsF n s = lnsF m s
  | 0, 0, _, _, _ => rfl
  | 0, m + 1, s, h, _ => by
    have : s = [] := List.eq_nil_of_length_eq_zero (by omega)
    subst this; rfl
  | n + 1, 0, s, _, h => by
    have : s = [] := List.eq_nil_of_length_eq_zero (by omega)
    subst this; rfl
  | n + 1, m + 1, s, h1, h2 => by
    unfold lnsF
    split
    · rfl
    · rename_i hne
      have : 0 < s.length := List.length_pos_iff.2 hne
      split
      · rw [lnsMore n m _ (by rw [List.length_drop]; omega) (by rw [List.length_drop]; omega)]
      · rfl
theorem ixb : ∀ (s : By), (Lib.indexByte s 10 = -1 ∧ (10 : UInt8) ∉ s) ∨ ∃ a t, s = a ++ 10 :: t ∧ (10 : UInt8) ∉ a ∧ Lib.indexByte s 10 = (a.length : Int)
  | [] => .inl ⟨rfl, by simp⟩
  | c :: s => by
    unfold Lib.indexByte
    by_cases hc : c = 10
    · subst hc
      exact .inr ⟨[], s, rfl, by simp, by simp⟩
    · have h1 : (c == 10) = false := beq_eq_false_iff_ne.2 hc
      rw [h1]
      rcases ixb s with ⟨h2, h3⟩ | ⟨a, t, h2, h3, h4⟩
      · left
        rw [h2]
        refine ⟨rfl, ?_⟩
        intro q
        rcases List.mem_cons.1 q with e | e
        · exact hc e.symm
        · exact h3 e
      · right
        refine ⟨c :: a, t, by rw [h2]; rfl, ?_, ?_⟩
        · intro q
          rcases List.mem_cons.1 q with e | e
          · exact hc e.symm
          · exact h3 e
        · rw [h4]
          have h5 : (((a.length : Nat) : Int) == -1) = false := beq_eq_false_iff_ne.2 (by omega)
          rw [h5]
          simp
theorem lns_nil : lnsE [] = [] := rfl
theorem lns_last {s : By} (h : s ≠ []) (hi : Lib.indexByte s 10 = -1) : lnsE s = [s] := by
  unfold lnsE
  cases hn : s.length with
  | zero => exact absurd (List.eq_nil_of_length_eq_zero hn) h
  | succ n => unfold lnsF; rw [if_neg h, if_neg (by rw [hi]; decide)]
theorem lns_more {a t : By} (ha : Lib.indexByte (a ++ 10 :: t) 10 = (a.length : Int)) : lnsE (a ++ 10 :: t) = (a ++ [10]) :: lnsE t := by
  unfold lnsE
  have hl : (a ++ 10 :: t).length = (a.length + t.length) + 1 := by simp; omega
  rw [hl]
  conv => lhs; unfold lnsF
  rw [if_neg (by simp), if_pos (by rw [ha]; omega), ha]
  simp only [Int.toNat_natCast]
  rw [lnsMore (a.length + t.length) t.length _ (by rw [List.length_drop, hl]; omega) (by rw [List.length_drop, hl]; omega)]
  congr 1
  · rw [List.take_append, List.take_of_length_le (by omega)]; simp
  · rw [List.drop_append, List.drop_of_length_le (by omega)]; simp
def wo (l : By) : By := Lib.trimSuffix l [10]
theorem wo_end (a : By) : wo (a ++ [10]) = a := by
  unfold wo Lib.trimSuffix Lib.hasSuffix
  rw [if_pos (by simp)]
  simp
theorem wo_no {a : By} (h : (10 : UInt8) ∉ a) : wo a = a := by
  unfold wo Lib.trimSuffix Lib.hasSuffix
  rw [if_neg]
  intro q
  have q := List.isSuffixOf_iff_suffix.1 q
  obtain ⟨t, e⟩ := q
  exact h (by rw [← e]; simp)
theorem lnl_lns : ∀ (n : Nat) (s : By), s.length ≤ n → lnl s = (lnsE s).map wo
  | n, [], _ => rfl
  | 0, c :: s, h => by simp at h
  | n + 1, c :: s, h => by
    rcases ixb (c :: s) with ⟨h2, h3⟩ | ⟨a, t, h2, h3, h4⟩
    · rw [lns_last (by simp) h2, lnl_last _ h3 (by simp)]
      simp [wo_no h3]
    · have hl := congrArg List.length h2
      rw [h2] at h4 ⊢
      rw [lns_more h4, lnl_cons _ _ h3, lnl_lns n t (by rw [List.length_append, List.length_cons] at hl; simp at h hl; omega)]
      simp [wo_end]
theorem lnl_eq (s : By) : lnl s = (lnsE s).map wo := lnl_lns _ s (Nat.le_refl _)
def boxLen (w : World) (b : Nat) : Nat := match w.cell? ⟨b, 0, none⟩ with
  | some (.string s) => s.size
  | _ => 0
theorem boxLen_eq {w : World} {b : Nat} {r : By} (h : w.heap[b]? = some (.cells #[str r] 9 (0, 0))) : boxLen w b = r.length := by
  unfold boxLen
  rw [cell_of_row _ _ _ _ _ _ h]
  exact str_size r
set_option maxHeartbeats 2000000 in
theorem lines1_tells (s : By) (Bs' : Nat) (hs : s.length ≤ 100000000) : TellsS Tryd.prog 33 #[.pointer (some ⟨Bs', 0, none⟩)] (lnsE s) (fun b => b = Bs') (fun W => W.heap[Bs']? = some (.cells #[str s] 9 (0, 0))) := by
  intro m l J Jx W hJ hJx hY hS h0
  refine callsIn_of_wp Tryd.func33 rfl trivial ?_ rfl
  simp only [Tryd.ntmps33, List.size_toArray, List.length_cons, List.length_nil, Nat.reduceAdd, Nat.reduceSub, Array.replicate_succ, Array.replicate_zero, List.push_toArray, List.append_toArray, List.nil_append, List.cons_append]
  gi_wp2
  gi_loopw [] (fun wr => ∃ (k : Nat) (r : By), wr.heap[Bs']? = some (.cells #[str r] 9 (0, 0)) ∧ Hid (r.length ≤ s.length ∧ (lnsE s).drop k = lnsE r ∧ k ≤ (lnsE s).length) ∧ Hid (J k wr (fun b => b = Bs'))) (fun wr => boxLen wr Bs')
  case atStart => exact ⟨0, s, hS, ⟨Nat.le_refl _, rfl, Nat.zero_le _⟩, ⟨h0⟩⟩
  case round =>
    clear hS h0
    obtain ⟨k, r, hbx, HD, HJ⟩ := hrel
    have hc0 : wr.cell? ⟨Bs', 0, none⟩ = some (str r) := by rw [cell_of_row _ _ _ _ _ _ hbx]; rfl
    have hf0 : wr.frozen? ⟨Bs', 0, none⟩ = false := frozen_of_row _ _ _ _ _ hbx
    have hml := Hid.mk (boxLen_eq hbx)
    cases r with
    | nil =>
      have HE : Hid (J (lnsE s).length wr (fun b => b = Bs')) := ⟨by
        obtain ⟨_, h1, h2⟩ := HD.out
        rw [lns_nil] at h1
        have h3 := congrArg List.length h1
        rw [List.length_drop] at h3
        simp at h3
        have e : k = (lnsE s).length := by omega
        rw [← e]; exact HJ.out⟩
      gi_wp2
      go_end0
      exact ⟨⟨_, rfl⟩, .inl HE.out⟩
    | cons c r =>
      have hne : (c :: r : By) ≠ [] := by simp
      have hlp : (0 : Int) < ((c :: r).length : Int) := by simp
      generalize hq : (c :: r : By) = q at *
      clear hq
      have hib := Tryd.strings_IndexByte ⟨q.toArray⟩ 10 wr
      have hql : q.length ≤ 100000000 := Nat.le_trans HD.out.1 hs
      have d0 : decide ((0 : Int) < (q.length : Int)) = true := decide_eq_true hlp
      have d00 : decide (0 < q.length) = true := decide_eq_true (by omega)
      have d01 : 0 < q.length := by omega
      have step : ∀ (p t : By) (W3 : World), lnsE q = p :: lnsE t → t.length < q.length → W3.heap[Bs']? = some (.cells #[str t] 9 (0, 0)) → Oth (fun b => b = Bs') wr W3 → ∀ m, YieldAt Fence.wide m Tryd.prog l #[str p] W3 fun e W' => (e = .returned (.bool true) ∧ (∃ (k : Nat) (r : By), W'.heap[Bs']? = some (.cells #[str r] 9 (0, 0)) ∧ Hid (r.length ≤ s.length ∧ (lnsE s).drop k = lnsE r ∧ k ≤ (lnsE s).length) ∧ Hid (J k W' (fun b => b = Bs'))) ∧ boxLen W' Bs' < boxLen wr Bs') ∨ (e = .returned (.bool false) ∧ ∃ k, Jx k W' (fun b => b = Bs')) := fun p t W3 h1 h2 h3 h4 m => by
        obtain ⟨g1, g2, g3⟩ := HD.out
        rw [h1] at g2
        have hget : (lnsE s)[k]? = some p := by
          have := congrArg (fun x => x[0]?) g2
          simpa using this
        have hlt : k < (lnsE s).length := (List.getElem?_eq_some_iff.1 hget).1
        have hj3 := hJ k wr _ W3 (fun b => b = Bs') HJ.out h4 (fun b hb => .inl hb)
        obtain ⟨fn, tmps, assign, body, hy, hR⟩ := hY k p W3 _ hget hj3 m
        refine ⟨fn, tmps, assign, body, hy, hR.mono ?_⟩
        rintro e W' (⟨rfl, hj, hst⟩ | ⟨rfl, hj⟩)
        · refine .inl ⟨rfl, ⟨k + 1, t, (hst Bs' rfl (lt_of_block h3)).trans h3, ⟨by omega, ?_, by omega⟩, ⟨hj⟩⟩, ?_⟩
          · have := congrArg List.tail g2
            rw [List.tail_drop] at this
            exact this
          · rw [boxLen_eq ((hst Bs' rfl (lt_of_block h3)).trans h3), hml.out]; exact h2
        · exact .inr ⟨rfl, k, hj⟩
      have HS := Hid.mk step
      clear step
      rcases ixb q with ⟨h2, h3⟩ | ⟨a, t, h2, h3, h4⟩
      · have hib : Calls Tryd.prog 34 #[str q, .int .u8 10] wr fun e w' => e = .returned (.int .i64 (-1)) ∧ w' = wr := by
          have := hib
          simp only [show (10 : Int).toNat.toUInt8 = 10 from rfl] at this
          rw [h2] at this
          exact this
        obtain ⟨⟨fn, tmps, assign, body, hy, hR⟩⟩ : Hid (YieldAt Fence.wide (m - 1) Tryd.prog l #[str q] (wr.setCell ⟨Bs', 0, none⟩ (.string ⟨#[]⟩)) _) := ⟨HS.out q [] (wr.setCell ⟨Bs', 0, none⟩ (.string ⟨#[]⟩)) (by rw [lns_last hne h2]; rfl) (List.length_pos_iff.2 hne) (by rw [heap_setCell_same _ _ _ _ _ _ hbx]; rfl) ((Oth.refl _ _).set rfl) (m - 1)⟩
        clear HS h2 h3 hne hlp
        gi_wp2
        refine ⟨trivial, fun h => (by cases h), (callsIn_wide.2 hib).mono ?_⟩
        rintro e wr ⟨rfl, rfl⟩
        gi_wp2
        refine ⟨fun h => (by cases h), hR.mono ?_⟩
        rintro e W3 (⟨rfl, h5, h6⟩ | ⟨rfl, kx, h5⟩)
        · gi_wp2
          go_roundw
          case rel => exact h5
          case measure => exact h6
        · gi_wp2
          refine bodyPost_ret (results_none rfl _ _ _) rfl ?_
          exact ⟨⟨_, rfl⟩, .inr ⟨kx, h5⟩⟩
      · have hib : Calls Tryd.prog 34 #[str q, .int .u8 10] wr fun e w' => e = .returned (.int .i64 (a.length : Int)) ∧ w' = wr := by
          have := hib
          simp only [show (10 : Int).toNat.toUInt8 = 10 from rfl] at this
          rw [h4] at this
          exact this
        have hla : a.length + 1 ≤ q.length := by rw [h2]; simp
        have htk : q.take (a.length + 1) = a ++ [10] := by rw [h2, List.take_append, List.take_of_length_le (by omega)]; simp
        have hdr : q.drop (a.length + 1) = t := by rw [h2, List.drop_append, List.drop_of_length_le (by omega)]; simp
        have htl : t.length < q.length := by rw [h2]; simp; omega
        have hw1 : wrap64 ((a.length : Int) + 1) = ((a.length + 1 : Nat) : Int) := by unfold wrap64; omega
        have hi1 : IntKind.i64.wrap ((a.length : Int) + 1) = ((a.length + 1 : Nat) : Int) := by rw [IntKind.wrap_i64]; omega
        have s1 : ∀ w, (slS (str q) none (some (.int .i64 ((a.length : Int) + 1))) none).run Tryd.prog w = .ok (str (a ++ [10])) w := by rw [← htk]; exact run_hi q (a.length + 1) hla (by omega)
        have s2 : ∀ w, (slS (str q) (some (.int .i64 ((a.length : Int) + 1))) none none).run Tryd.prog w = .ok (str t) w := by
          have := run_lo q (a.length + 1) hla (by omega)
          rw [hdr] at this
          exact this
        have s3 : ∀ w, (slS (str q) none (some (.int .i64 ((a.length + 1 : Nat) : Int))) none).run Tryd.prog w = .ok (str (a ++ [10])) w := s1
        have s4 : ∀ w, (slS (str q) (some (.int .i64 ((a.length + 1 : Nat) : Int))) none none).run Tryd.prog w = .ok (str t) w := s2
        have d2 : decide ((0 : Int) ≤ (a.length : Int)) = true := decide_eq_true (by omega)
        have HY := fun W3 h6 h7 => HS.out (a ++ [10]) t W3 (by rw [h2] at h4 ⊢; exact lns_more h4) htl h6 h7 (m - 1)
        have HY := Hid.mk HY
        clear HS h2 h3 h4 hne hlp htk hdr htl hla
        generalize a ++ [10] = ln at *
        generalize a.length = n at *
        gi_wp2
        refine ⟨trivial, fun h => (by cases h), (callsIn_wide.2 hib).mono ?_⟩
        rintro e wr ⟨rfl, rfl⟩
        gi_wp2
        obtain ⟨⟨fn, tmps, assign, body, hy, hR⟩⟩ : Hid (YieldAt Fence.wide (m - 1) Tryd.prog l #[str ln] (wr.setCell ⟨Bs', 0, none⟩ (str t)).drew _) := ⟨HY.out (wr.setCell ⟨Bs', 0, none⟩ (str t)).drew (show (wr.setCell ⟨Bs', 0, none⟩ (str t)).heap[Bs']? = _ by rw [heap_setCell_same _ _ _ _ _ _ hbx]; rfl) (by
          have o1 : Oth (fun b => b = Bs') wr (wr.setCell ⟨Bs', 0, none⟩ (str t)) := (Oth.refl _ _).set rfl
          exact o1.trans (Oth.of_below (Below.refl _ _).drew))⟩
        clear HY
        gi_region
        all_goals gi_wp2
        all_goals refine ⟨fun h => (by cases h), hR.mono ?_⟩
        all_goals rintro e W3 (⟨rfl, h5, h6⟩ | ⟨rfl, kx, h5⟩)
        · gi_wp2
          go_roundw
          case rel => exact h5
          case measure => exact h6
        · gi_wp2
          refine bodyPost_ret (results_none rfl _ _ _) rfl ?_
          exact ⟨⟨_, rfl⟩, .inr ⟨kx, h5⟩⟩
theorem lines_any (s : By) (w : World) : Calls Tryd.prog 23 #[str s] w fun e w' => e = .returned (.func (.func 33) #[] #[.pointer (some ⟨w.heap.size, 0, none⟩)]) ∧ w' = w.alloc (.cells #[str s] 9) := by
  go_enter Tryd.func23, Tryd.ntmps23
  go_wp2_with fail
  go_ret
  exact ⟨rfl, rfl⟩
theorem withoutEnd_any (s : By) (hs : s.length ≤ 9223372036854775807) (w : World) : Calls Tryd.prog 24 #[str s] w fun e w' => e = .returned (str (wo s)) ∧ w' = w := by
  have ht := Tryd.strings_TrimSuffix ⟨s.toArray⟩ ⟨#[10]⟩ w (by rw [str_size]; exact hs)
  go_enter Tryd.func24, Tryd.ntmps24
  go_wp2_with fail
  refine Calls.mono ht ?_
  rintro e w1 ⟨rfl, rfl⟩
  dsimp only
  go_wp2_with fail
  go_ret
  exact ⟨rfl, rfl⟩
theorem saysNothing_any (s : By) (w : World) : Calls Tryd.prog 25 #[str s] w fun e w' => e = .returned (.bool (says0 s)) ∧ w' = w := by
  have ht := Tryd.strings_HasPrefix ⟨s.toArray⟩ ⟨#[35]⟩ w
  cases s with
  | nil =>
    go_enter Tryd.func25, Tryd.ntmps25
    go_wp2_with fail
    go_ret
    exact ⟨rfl, rfl⟩
  | cons c r =>
    have hV : Hid (says0 (c :: r) = Lib.hasPrefix (c :: r) [35]) := ⟨by
      unfold says0 Lib.hasPrefix
      by_cases h : c = 35
      · subst h; rfl
      · have e1 : ((35 : UInt8) == c) = false := beq_eq_false_iff_ne.2 (fun e => h e.symm)
        have e2 : ((c :: r : By).head? == some 35) = false := by simp [h]
        rw [e2]
        show false = ((35 : UInt8) == c && _)
        rw [e1]; rfl⟩
    have d1 : ((c :: r : By) == []) = false := rfl
    generalize (c :: r : By) = q at *
    go_enter Tryd.func25, Tryd.ntmps25
    go_wp2_with fail
    refine Calls.mono ht ?_
    rintro e w1 ⟨rfl, rfl⟩
    dsimp only
    go_wp2_with fail
    go_ret
    exact ⟨by rw [hV.out]; rfl, rfl⟩
end Go.Proofs.YtgbkloihclbimaaDoor
