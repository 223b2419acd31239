/- The number that a text begins with. -/
import Derived.Test.YtokkoacfmdnmaaaDoorBase
namespace Go.Proofs.YtokkoacfmdnmaaaDoor
set_option linter.unusedVariables false
set_option linter.unusedSimpArgs false
open Go.RowKit
def digs (l : List UInt8) (k : Nat) : Prop := ∀ j, j < k → isDig (l.getD j 0)
theorem take_snoc (l : List UInt8) (k : Nat) (h : k < l.length) : l.take (k + 1) = l.take k ++ [l.getD k 0] := by
  rw [List.take_add_one, List.getD_eq_getElem?_getD, List.getElem?_eq_getElem h]; rfl
theorem val_take (l : List UInt8) (k : Nat) (h : k < l.length) : val (l.take (k + 1)) = val (l.take k) * 10 + ((l.getD k 0).toNat - 48) := by
  rw [take_snoc l k h, val_snoc]
theorem Ld.parts {l ds : List UInt8} (h : Ld l ds) : 0 < ds.length ∧ ds.length < l.length ∧ l.getD ds.length 0 = 32 ∧ l.take ds.length = ds ∧ digs l ds.length ∧ l.getD 0 0 ≠ 48 := by
  obtain ⟨r, e⟩ := h.pre
  have h0 : 0 < ds.length := List.length_pos_iff.2 h.ne
  have gl : ∀ j, j < ds.length → l.getD j 0 = ds.getD j 0 := fun j hj => by
    rw [e, List.getD_eq_getElem?_getD, List.getElem?_append_left hj, ← List.getD_eq_getElem?_getD]
  refine ⟨h0, by rw [e]; simp, ?_, by rw [e]; simp, fun j hj => ?_, ?_⟩
  · rw [e, List.getD_eq_getElem?_getD, List.getElem?_append_right (Nat.le_refl _)]; simp
  · rw [gl j hj]; exact h.dg _ (getD_mem hj)
  · rw [gl 0 h0]
    intro e0
    refine h.hd ?_
    cases ds with
    | nil => exact absurd rfl h.ne
    | cons a ds => simpa using e0
theorem ld_here {l : List UInt8} {k : Nat} (h0 : 0 < k) (h1 : k < l.length) (h2 : l.getD k 0 = 32) (h3 : digs l k) (h4 : val (l.take k) ≤ 1048576) (h5 : l.getD 0 0 ≠ 48) : Ld l (l.take k) ∧ (l.take k).length = k := by
  have hl : (l.take k).length = k := by rw [List.length_take]; omega
  refine ⟨⟨fun e => ?_, fun c hc => ?_, fun e => ?_, h4, ⟨l.drop (k + 1), ?_⟩⟩, hl⟩
  · rw [e] at hl; simp at hl; omega
  · obtain ⟨j, hj, e⟩ := mem_getD hc
    rw [hl] at hj
    rw [← e, List.getD_eq_getElem?_getD, List.getElem?_take_of_lt hj, ← List.getD_eq_getElem?_getD]
    exact h3 j hj
  · refine h5 ?_
    cases l with
    | nil => simp at h1
    | cons a l =>
      rw [show k = (k - 1) + 1 by omega] at e
      simpa using e
  · have e1 : l[k] = 32 := by
      rw [List.getD_eq_getElem?_getD, List.getElem?_eq_getElem h1] at h2; exact h2
    rw [← e1, List.getElem_cons_drop, List.take_append_drop]
theorem ld_zero {l : List UInt8} (h : l.getD 0 0 = 48) (ds : List UInt8) : ¬ Ld l ds := fun g => g.parts.2.2.2.2.2 h
theorem not_dig_32 : ¬ isDig 32 := fun h => by have := h.1; simp at this
theorem ld_bad {l : List UInt8} {k : Nat} (h1 : digs l k) (h2 : ¬ isDig (l.getD k 0)) (h3 : l.getD k 0 = 32 → k = 0) (ds : List UInt8) : ¬ Ld l ds := fun g => by
  obtain ⟨a, b, c, d, e, f⟩ := g.parts
  rcases Nat.lt_trichotomy ds.length k with h | h | h
  · have := h1 _ h; rw [c] at this; exact not_dig_32 this
  · subst h; have := h3 c; omega
  · exact h2 (e k h)
theorem ld_big {l : List UInt8} {k : Nat} (h1 : digs l k) (h2 : 1048576 < val (l.take k)) (ds : List UInt8) : ¬ Ld l ds := fun g => by
  obtain ⟨a, b, c, d, e, f⟩ := g.parts
  by_cases h : ds.length < k
  · have := h1 _ h; rw [c] at this; exact not_dig_32 this
  · have h4 : l.take ds.length = l.take k ++ (l.take ds.length).drop k := by
      have := (List.take_append_drop k (l.take ds.length)).symm
      rwa [List.take_take, Nat.min_eq_left (by omega)] at this
    have h3 := val_le_append (l.take k) ((l.take ds.length).drop k)
    rw [← h4, d] at h3
    have := g.le
    omega
theorem ld_end {l : List UInt8} (h1 : digs l l.length) (ds : List UInt8) : ¬ Ld l ds := fun g => by
  obtain ⟨a, b, c, d, e, f⟩ := g.parts
  have := h1 _ b; rw [c] at this; exact not_dig_32 this
attribute [local go_sem ↓] Go.wp_at_zero Go.wp_at_succ
theorem leading_any (s : ByteArray) (h0 : 0 < s.size) (hs : s.size ≤ 9223372036854775807) (w : World) :
    Calls Tryd.prog 27 #[.string s] w fun e w' => ((∃ ds, Ld s.data.toList ds ∧ e = .returned (.tuple #[.int .i64 (val ds), .int .i64 (ds.length + 1)])) ∨ (e = gone ∧ ∀ ds, ¬ Ld s.data.toList ds)) ∧ w' = w := by
  obtain ⟨l, hl⟩ : ∃ l, l = s.data.toList := ⟨_, rfl⟩
  have hlen := getD_of hl
  have hix := idxs s l hl
  rw [← hl]
  have HL : Hid (l = s.data.toList) := ⟨hl⟩
  clear hl
  have hx0 : ∀ w, (Instr.index 9 (.string s) (.int .i64 0)).run Tryd.prog w = .ok (.int .u8 ((l.getD 0 0).toNat : Int)) w := hix 0 h0
  go_enter Tryd.func27, Tryd.ntmps27
  by_cases h1 : l.getD 0 0 = 48
  · have hno : Hid (∀ ds, ¬ Ld l ds) := ⟨ld_zero h1⟩
    rw [h1] at hx0
    clear h1
    go_wp2_with (first | (go_at_call 28; refine (must_false _).mono ?_; rintro e w' ⟨rfl, rfl⟩))
    exact ⟨rfl, Or.inr ⟨rfl, hno.out⟩, rfl⟩
  · have d1 : (((l.getD 0 0).toNat : Int) == 48) = false := by simpa using fun e => h1 (UInt8.toNat_inj.1 (Int.ofNat.inj e))
    have H1 : Hid (l.getD 0 0 ≠ 48) := ⟨h1⟩
    clear h1
    generalize l.getD 0 0 = c0 at hx0 d1
    have d1' : ((c0.toNat : Int) != 48) = true := by rw [bne, d1]; rfl
    go_wp2_with (first | (go_at_call 28; refine (must_true _).mono ?_; rintro e w' ⟨rfl, rfl⟩))
    go_loop [2, 12] (fun v i => ∃ k : Nat, v = .int .i64 (val (l.take k)) ∧ i = .int .i64 k ∧ k ≤ s.size ∧ digs l k ∧ val (l.take k) ≤ 1048576) (fun _ i => s.size - (intOf i).toNat)
    case atStart => exact ⟨0, rfl, rfl, Nat.zero_le _, fun j hj => by omega, by simp [val]⟩
    case round =>
      obtain ⟨k, rfl, rfl, hk, hb, hv⟩ := hrel
      clear hx0 d1 d1'
      by_cases h2 : k < s.size
      · have d2 : decide ((k : Int) < (s.size : Int)) = true := decide_eq_true (by omega)
        have hx := hix k h2
        have hvt : Hid (val (l.take (k + 1)) = val (l.take k) * 10 + ((l.getD k 0).toNat - 48)) := ⟨val_take l k (by omega)⟩
        obtain ⟨c, hc⟩ : ∃ c, c = l.getD k 0 := ⟨_, rfl⟩
        rw [← hc] at hx hvt
        have HC : Hid (c = l.getD k 0) := ⟨hc⟩
        clear hc hix
        by_cases h3 : c = 32 ∧ 0 < k
        · obtain ⟨h3, h4⟩ := h3
          have hH : Hid (Ld l (l.take k) ∧ (l.take k).length = k) := ⟨ld_here h4 (by omega) (HC.out ▸ h3) hb hv H1.out⟩
          subst h3
          have d4 : decide ((0 : Int) < (k : Int)) = true := decide_eq_true (by omega)
          go_wp2_with fail
          go_ret2
          refine ⟨Or.inl ⟨l.take k, hH.out.1, ?_⟩, rfl⟩
          rw [hH.out.2]
          rfl
        · by_cases h4 : c = 32
          · have hk0 : k = 0 := by
              by_cases e : k = 0
              · exact e
              · exact absurd ⟨h4, by omega⟩ h3
            have hno : Hid (∀ ds, ¬ Ld l ds) := ⟨ld_bad hb (by rw [← HC.out, h4]; exact not_dig_32) (fun _ => hk0)⟩
            clear h3
            subst h4
            have d4 : decide ((0 : Int) < (k : Int)) = false := decide_eq_false (by omega)
            have d5 : ¬ 0 < k := by omega
            clear hk0
            go_wp2_with (first | (go_at_call 28; refine (must_false _).mono ?_; rintro e w' ⟨rfl, rfl⟩))
            exact ⟨rfl, Or.inr ⟨rfl, hno.out⟩, rfl⟩
          · have d4 : ((c.toNat : Int) == 32) = false := by simpa using fun e => h4 (UInt8.toNat_inj.1 (Int.ofNat.inj e))
            clear h3
            by_cases h5 : 48 ≤ c.toNat
            · have d5 : decide ((48 : Int) ≤ (c.toNat : Int)) = true := decide_eq_true (by omega)
              by_cases h6 : c.toNat ≤ 57
              · have d6 : decide ((c.toNat : Int) ≤ 57) = true := decide_eq_true (by omega)
                have hb1 : Hid (digs l (k + 1)) := ⟨fun j hj => by
                  by_cases e : j = k
                  · subst e; rw [← HC.out]; exact ⟨h5, h6⟩
                  · exact hb j (by omega)⟩
                obtain ⟨m, hm⟩ : ∃ m, m = val (l.take k) := ⟨_, rfl⟩
                obtain ⟨m1, hm1⟩ : ∃ m1, m1 = val (l.take (k + 1)) := ⟨_, rfl⟩
                have hmm : Hid (m1 = m * 10 + (c.toNat - 48)) := ⟨by rw [hm, hm1]; exact hvt.out⟩
                have HM1 : Hid (m1 = val (l.take (k + 1))) := ⟨hm1⟩
                rw [← hm] at hv ⊢
                clear hm hm1 hvt
                have e2 : Hid ((m : Int) * 10 + ((c.toNat : Int) - 48) = (m1 : Int)) := ⟨by have := hmm.out; omega⟩
                by_cases h7 : m1 ≤ 1048576
                · have d7 : decide ((m : Int) * 10 + ((c.toNat : Int) - 48) ≤ 1048576) = true := decide_eq_true (by rw [e2.out]; omega)
                  go_wp2_with (first | (go_at_call 28; refine (must_true _).mono ?_; rintro e w' ⟨rfl, rfl⟩))
                  go_round
                  case rel => exact ⟨k + 1, by rw [e2.out, HM1.out], by go_num, h2, hb1.out, by rw [← HM1.out]; exact h7⟩
                  case measure => simp [intOf]; omega
                · have d7 : decide ((m : Int) * 10 + ((c.toNat : Int) - 48) ≤ 1048576) = false := decide_eq_false (by rw [e2.out]; omega)
                  have hno : Hid (∀ ds, ¬ Ld l ds) := ⟨ld_big hb1.out (by rw [← HM1.out]; omega)⟩
                  go_wp2_with (first | (go_at_call 28; first | (refine (must_true _).mono ?_; rintro e w' ⟨rfl, rfl⟩) | (refine (must_false _).mono ?_; rintro e w' ⟨rfl, rfl⟩)))
                  exact ⟨rfl, Or.inr ⟨rfl, hno.out⟩, rfl⟩
              · have d6 : decide ((c.toNat : Int) ≤ 57) = false := decide_eq_false (by omega)
                have hno : Hid (∀ ds, ¬ Ld l ds) := ⟨ld_bad hb (by rw [← HC.out]; exact fun h => h6 h.2) (fun h => absurd (HC.out.trans h) h4)⟩
                go_wp2_with (first | (go_at_call 28; refine (must_false _).mono ?_; rintro e w' ⟨rfl, rfl⟩))
                exact ⟨rfl, Or.inr ⟨rfl, hno.out⟩, rfl⟩
            · have d5 : decide ((48 : Int) ≤ (c.toNat : Int)) = false := decide_eq_false (by omega)
              have hno : Hid (∀ ds, ¬ Ld l ds) := ⟨ld_bad hb (by rw [← HC.out]; exact fun h => h5 h.1) (fun h => absurd (HC.out.trans h) h4)⟩
              go_wp2_with (first | (go_at_call 28; refine (must_false _).mono ?_; rintro e w' ⟨rfl, rfl⟩))
              exact ⟨rfl, Or.inr ⟨rfl, hno.out⟩, rfl⟩
      · have d2 : decide ((k : Int) < (s.size : Int)) = false := decide_eq_false (by omega)
        have hno : Hid (∀ ds, ¬ Ld l ds) := ⟨ld_end (by rw [hlen, show s.size = k by omega]; exact hb)⟩
        go_wp2_with fail
        exact ⟨rfl, Or.inr ⟨rfl, hno.out⟩, rfl⟩
end Go.Proofs.YtokkoacfmdnmaaaDoor
