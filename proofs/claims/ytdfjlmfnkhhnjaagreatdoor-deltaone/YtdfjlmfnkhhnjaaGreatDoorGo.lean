import Derived.Test.YtdfjlmfnkhhnjaaGreatDoorGh
import Derived.Laws.Concat
import Derived.Deep.RegionHeld3
import Derived.RegionCalls
import Derived.Lib.ConvBytes
import Derived.Deep.QuietTactic
import Derived.Deep.DeepCutAuto
/- What VersionBack needs: joining texts; bytes that are no version's. -/
namespace Go.Proofs.YtdfjlmfnkhhnjaaGreatDoor
set_option maxRecDepth 100000
set_option linter.unusedVariables false
set_option linter.unusedSimpArgs false
open Go.RowKit
noncomputable def adS (v x : Value) : Sem Value := binOp BinOp.add 9 v x
theorem ad9 (v x : Value) : binOp BinOp.add 9 v x = adS v x := rfl
theorem run_ad (x y : List UInt8) (h : x.length + y.length ≤ 9223372036854775807) (w : World) : (adS (str x) (str y)).run Tryz.prog w = .ok (str (x ++ y)) w := by
  have hr := run_string_add_sum (P := Tryz.prog) w ⟨x.toArray⟩ ⟨y.toArray⟩ (by rw [str_size, str_size]; exact h)
  have e : (⟨x.toArray⟩ : ByteArray) ++ ⟨y.toArray⟩ = ⟨(x ++ y).toArray⟩ := by
    apply ByteArray.ext
    simp
  unfold adS
  rw [e] at hr
  simpa [binOp] using hr
theorem datE_ok {s : List UInt8} (h : s.length ≤ 1024) : datE s = 0 := by unfold datE; rw [if_pos h]
theorem mtE_nil : mtE [] = 0 := by
  unfold mtE
  rw [if_pos ⟨by simp, ⟨fun p hp => absurd hp (List.not_mem_nil), List.Pairwise.nil⟩⟩]
theorem write_some {v : Vs} (h : rtE v = 0) (w : World) (a : Option Addr) (n cap : Nat) (hn : v.l.length = n) (hP : PIn w a v.l) :
    Calls Tryz.prog 22 #[vv v.key v.seq v.mkr v.data a n cap] w fun e w' => e = .returned (.tuple #[str (enc v), .int .i64 0]) ∧ Below w.heap.size w w' := by
  have := write_any v w a n cap hn hP (by have := (rt_of h).n; omega)
  rw [wro_ok h] at this
  exact this
theorem write_none {v : Vs} (h : ¬ rtE v = 0) (w : World) (a : Option Addr) (n cap : Nat) (hn : v.l.length = n) (hP : PIn w a v.l) (hz : v.l.length ≤ 9223372036854775806) :
    Calls Tryz.prog 22 #[vv v.key v.seq v.mkr v.data a n cap] w fun e w' => e = .returned (.tuple #[str [], .int .i64 (rtE v)]) ∧ Below w.heap.size w w' := by
  have := write_any v w a n cap hn hP hz
  rw [wro_no h] at this
  exact this
end Go.Proofs.YtdfjlmfnkhhnjaaGreatDoor

/- The document's Right, short, Write. -/
namespace Go.Proofs.YtdfjlmfnkhhnjaaGreatDoor
set_option maxRecDepth 100000
set_option linter.unusedVariables false
set_option linter.unusedSimpArgs false
open Go.RowKit
attribute [local go_sem ↓] Go.wp_at_zero Go.wp_at_succ
attribute [local go_sem ↓] ad9
set_option maxHeartbeats 2000000 in
theorem qRight_any (v : Vs) (w : World) (a : Option Addr) (n cap : Nat) (hn : v.l.length = n) (hP : PIn w a v.l) (hs : ∀ (k : Nat) (e : En), v.l[k]? = some e → e.key.length ≤ 9223372036854775806 ∧ e.val.length ≤ 9223372036854775806) (hz : v.l.length ≤ 9223372036854775806) :
    Calls Tryz.prog 125 #[vv v.key v.seq v.mkr v.data a n cap] w fun e w' => e = .returned (.int .i64 (rtE v)) ∧ Below w.heap.size w w' := by
  obtain ⟨key, seq, mk, data, l⟩ := v
  simp only at hn hP hz hs ⊢
  have hbx : Below w.heap.size w (w.alloc (.cells #[str key, .int .i64 seq, .bool mk, str data, .slice a n cap] 62)) := (Below.refl _ _).alloc (Nat.le_refl _) _
  have hk := fun w => rKey_any key w
  have hd := fun w => rData_any data w
  have hm := rMeta_any l _ a n cap hn (hP.later hbx) hs hz
  by_cases h1 : seq < 1
  · have HV : Hid (rtE ⟨key, seq, mk, data, l⟩ = 1) := ⟨by unfold rtE; rw [if_pos (.inl h1)]⟩
    have d1 : decide (seq < 1) = true := decide_eq_true h1
    generalize rtE ⟨key, seq, mk, data, l⟩ = E at *
    go_enter Tryz.func125, Tryz.ntmps125
    go_wp2_with fail
    go_ret
    exact ⟨by rw [HV.out]; rfl, hbx⟩
  · have d1 : decide (seq < 1) = false := decide_eq_false h1
    by_cases h2 : 1099511627776 < seq
    · have HV : Hid (rtE ⟨key, seq, mk, data, l⟩ = 1) := ⟨by unfold rtE; rw [if_pos (.inr h2)]⟩
      have d2 : decide (1099511627776 < seq) = true := decide_eq_true h2
      generalize rtE ⟨key, seq, mk, data, l⟩ = E at *
      go_enter Tryz.func125, Tryz.ntmps125
      go_wp2_with fail
      go_ret
      exact ⟨by rw [HV.out]; rfl, hbx⟩
    · have HV : Hid (rtE ⟨key, seq, mk, data, l⟩ = vrE key mk data l) := ⟨by unfold rtE; rw [if_neg (by simp only; omega)]⟩
      have d2 : decide (1099511627776 < seq) = false := decide_eq_false h2
      generalize rtE ⟨key, seq, mk, data, l⟩ = E at *
      rcases keyE_or key with k1 | k1
      · rw [k1] at hk
        cases mk with
        | true =>
          by_cases hd0 : data = []
          · subst hd0
            by_cases hl0 : 1 ≤ l.length
            · have HE : Hid (vrE key true [] l = 62) := ⟨by unfold vrE; rw [if_neg (by rw [k1]; simp), if_neg (by rw [datE_ok (by simp)]; simp), if_pos ⟨rfl, hl0⟩]⟩
              have d3 : decide ((0 : Int) < (n : Int)) = true := decide_eq_true (by omega)
              have d4 : decide (0 < n) = true := decide_eq_true (by omega)
              clear k1 hl0 hm hd
              generalize vrE key true [] l = E2 at *
              go_enter Tryz.func125, Tryz.ntmps125
              go_wp2_with (go_at_call 115; refine (hk _).mono ?_; rintro e w1 ⟨rfl, rfl⟩)
              go_ret
              exact ⟨by rw [HV.out, HE.out]; rfl, hbx⟩
            · have hl : l = [] := List.eq_nil_of_length_eq_zero (by omega)
              have HE : Hid (vrE key true [] l = 0) := ⟨by unfold vrE; rw [if_neg (by rw [k1]; simp), if_neg (by rw [datE_ok (by simp)]; simp), if_neg (fun q => hl0 q.2), hl]; exact mtE_nil⟩
              have d3 : decide ((0 : Int) < (n : Int)) = false := decide_eq_false (by omega)
              have d4 : decide (0 < n) = false := decide_eq_false (by omega)
              clear k1 hl0 hm hd hl
              generalize vrE key true [] l = E2 at *
              go_enter Tryz.func125, Tryz.ntmps125
              go_wp2_with (go_at_call 115; refine (hk _).mono ?_; rintro e w1 ⟨rfl, rfl⟩)
              go_ret
              exact ⟨by rw [HV.out, HE.out]; rfl, hbx⟩
          · have HE : Hid (vrE key true data l = 63) := ⟨by unfold vrE; rw [if_neg (by rw [k1]; simp), if_pos (.inl ⟨rfl, hd0⟩)]⟩
            have d3 : (data == []) = false := by rw [beq_eq_false_iff_ne]; exact hd0
            clear k1 hm hd hd0
            generalize vrE key true data l = E2 at *
            go_enter Tryz.func125, Tryz.ntmps125
            go_wp2_with (go_at_call 115; refine (hk _).mono ?_; rintro e w1 ⟨rfl, rfl⟩)
            go_ret
            exact ⟨by rw [HV.out, HE.out]; rfl, hbx⟩
        | false =>
          rcases datE_or data with k2 | k2
          · rw [k2] at hd
            have HE : Hid (vrE key false data l = mtE l) := ⟨by unfold vrE; rw [if_neg (by rw [k1]; simp), if_neg (by rw [k2]; simp), if_neg (by simp)]⟩
            clear k1 k2
            generalize vrE key false data l = E2 at *
            generalize mtE l = E3 at *
            go_enter Tryz.func125, Tryz.ntmps125
            go_wp2_with (first | (go_at_call 115; refine (hk _).mono ?_; rintro e w1 ⟨rfl, rfl⟩) | (go_at_call 116; refine (hd _).mono ?_; rintro e w1 ⟨rfl, rfl⟩) | (go_at_call 117; refine hm.mono ?_; rintro e w1 ⟨rfl, b1⟩))
            go_ret
            exact ⟨by rw [HV.out, HE.out]; rfl, hbx.trans (b1.mono (by simp))⟩
          · rw [k2] at hd
            have HE : Hid (vrE key false data l = 63) := ⟨by unfold vrE; rw [if_neg (by rw [k1]; simp), if_pos (.inr (by rw [k2]; decide))]⟩
            clear k1 k2 hm
            generalize vrE key false data l = E2 at *
            go_enter Tryz.func125, Tryz.ntmps125
            go_wp2_with (first | (go_at_call 115; refine (hk _).mono ?_; rintro e w1 ⟨rfl, rfl⟩) | (go_at_call 116; refine (hd _).mono ?_; rintro e w1 ⟨rfl, rfl⟩))
            go_ret
            exact ⟨by rw [HV.out, HE.out]; rfl, hbx⟩
      · rw [k1] at hk
        have HE : Hid (vrE key mk data l = 61) := ⟨by unfold vrE; rw [if_pos (by rw [k1]; decide)]⟩
        clear k1 hm
        generalize vrE key mk data l = E2 at *
        go_enter Tryz.func125, Tryz.ntmps125
        go_wp2_with (go_at_call 115; refine (hk _).mono ?_; rintro e w1 ⟨rfl, rfl⟩)
        go_ret
        exact ⟨by rw [HV.out, HE.out]; rfl, hbx⟩
theorem conv_one {w : World} (c : Nat) : (convert 47 9 (.slice (some ⟨w.heap.size, 0, none⟩) 1 1)).run Tryz.prog (w.alloc (.cells #[.int .u8 ((c : Int) % 256)] 5)) = .ok (str [UInt8.ofNat c]) (w.alloc (.cells #[.int .u8 ((c : Int) % 256)] 5)) := by
  rw [← byte_of c]
  exact conv_own (base := 0) (l := [UInt8.ofNat c]) ⟨⟨rfl, Or.inr ⟨w.heap.size, 1, _, rfl, Nat.zero_le _, heap_alloc_new _ _, Nat.le_refl _, by decide, rfl, rfl⟩⟩, Nat.zero_le _⟩
end Go.Proofs.YtdfjlmfnkhhnjaaGreatDoor
