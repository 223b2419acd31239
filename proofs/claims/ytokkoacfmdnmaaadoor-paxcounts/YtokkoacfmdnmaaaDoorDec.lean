/- The reference's digits. -/
import Derived.Test.YtokkoacfmdnmaaaDoorKey
namespace Go.Proofs.YtokkoacfmdnmaaaDoor
set_option linter.unusedVariables false
set_option linter.unusedSimpArgs false
open Go.RowKit
attribute [local go_sem ↓] Go.wp_at_zero Go.wp_at_succ
theorem conv_one (c : UInt8) (wr : World) : (convert 32 9 (.slice (some ⟨wr.heap.size, 0, none⟩) 1 1)).run Tryd.prog (wr.alloc (.cells #[.int .u8 (c.toNat : Int)] 5)) = .ok (.string ⟨#[c]⟩) (wr.alloc (.cells #[.int .u8 (c.toNat : Int)] 5)) := by
  refine run_convert_bytes_back _ 32 9 5 ⟨wr.heap.size, 0, none⟩ 1 [c] Tryd.underlying32 Tryd.underlying5 Tryd.underlying9 ?_
  intro j hj
  have hj0 : j = 0 := by simpa using hj
  subst hj0
  have hadd : (⟨wr.heap.size, 0, none⟩ : Addr).add 0 = ⟨wr.heap.size, 0, none⟩ := by unfold Addr.add; split <;> simp_all
  rw [hadd, World.cell?_alloc_new]
  rfl
def dgc (m : Nat) : UInt8 := UInt8.ofNat (48 + m % 10)
theorem dec_small {m : Nat} (h : m < 10) : Lib.decDigits m = [dgc m] := by rw [D_small h]; unfold dgc; rw [Nat.mod_eq_of_lt h]
theorem dec_big {m : Nat} (h : ¬ m < 10) : Lib.decDigits m = Lib.decDigits (m / 10) ++ [dgc m] := D_big h
theorem conv_dig (m : Nat) (wr : World) : (convert 32 9 (.slice (some ⟨wr.heap.size, 0, none⟩) 1 1)).run Tryd.prog (wr.alloc (.cells #[.int .u8 (48 + (m : Int) % 10)] 5)) = .ok (.string ⟨#[dgc m]⟩) (wr.alloc (.cells #[.int .u8 (48 + (m : Int) % 10)] 5)) := by
  have := conv_one (dgc m) wr
  unfold dgc at this
  rw [toNat_dig _ (by omega), show ((48 + m % 10 : Nat) : Int) = 48 + (m : Int) % 10 by omega] at this
  exact this
theorem cat_one (c : UInt8) (l : List UInt8) : (⟨#[c]⟩ : ByteArray) ++ ⟨l.toArray⟩ = ⟨(c :: l).toArray⟩ := by
  apply ByteArray.ext
  rw [ByteArray.data_append]
  simp
theorem nDigits_int {n : Nat} (hn : n ≤ 9223372036854775807) : Lib.nDigits n ≤ 19 := nDigits_le (by decide) (by omega)
theorem refDec_any (n : Nat) (hn : n ≤ 9223372036854775807) (w : World) :
    Calls Tryd.prog 23 #[.int .i64 (n : Int)] w fun e w' => e = .returned (str (Lib.decDigits n)) ∧ Below w.heap.size w w' := by
  go_enter Tryd.func23, Tryd.ntmps23
  go_wp2_with fail
  go_loopw [0, 3] (fun v q wr => ∃ (m : Nat) (l : List UInt8), v = .int .i64 m ∧ q = .string ⟨l.toArray⟩ ∧ m ≤ n ∧ Lib.decDigits n = Lib.decDigits m ++ l ∧ Below w.heap.size w wr) (fun v _ _ => (intOf v).toNat)
  case atStart => exact ⟨n, [], rfl, rfl, Nat.le_refl _, by simp, Below.refl _ _⟩
  case round =>
    obtain ⟨m, l, rfl, rfl, hm, hD, hb⟩ := hrel
    have HD : Hid (Lib.decDigits n = Lib.decDigits m ++ l) := ⟨hD⟩
    clear hD
    have hlen : l.length ≤ 19 := by
      have := congrArg List.length HD.out
      rw [List.length_append, Lib.decDigits_length] at this
      have := nDigits_int hn
      omega
    have hcv := conv_dig m wr
    have hct : Hid ((⟨#[dgc m]⟩ : ByteArray) ++ ⟨l.toArray⟩ = ⟨(dgc m :: l).toArray⟩) := ⟨cat_one (dgc m) l⟩
    have hsz : (⟨l.toArray⟩ : ByteArray).size = l.length := by rfl
    have hs1 : (⟨#[dgc m]⟩ : ByteArray).size = 1 := by rfl
    have hnl : ¬ 9223372036854775807 < 1 + l.length := by omega
    have hbb := hb.alloc hb.size (Obj.cells #[Value.int .u8 (48 + (m : Int) % 10)] 5)
    by_cases h1 : m < 10
    · have d1 : (((m : Int) / 10) == 0) = true := by rw [show (m : Int) / 10 = 0 by omega]; rfl
      have hE : Hid (Lib.decDigits n = dgc m :: l) := ⟨by rw [HD.out, dec_small h1]; rfl⟩
      go_wp2_with fail
      go_ret
      refine ⟨?_, hbb⟩
      show Ending.returned (.string (_ ++ _)) = _
      rw [hct.out, hE.out]
    · have d1 : (((m : Int) / 10) == 0) = false := beq_eq_false_iff_ne.2 (by omega)
      have hE : Hid (Lib.decDigits n = Lib.decDigits (m / 10) ++ dgc m :: l) := ⟨by rw [HD.out, dec_big h1]; simp⟩
      go_wp2_with fail
      exact ⟨⟨m / 10, dgc m :: l, by simp, by rw [hct.out], by omega, hE.out, hbb⟩, by simp [intOf]; omega⟩
theorem cat_lists (x y : List UInt8) : (⟨x.toArray⟩ : ByteArray) ++ ⟨y.toArray⟩ = ⟨(x ++ y).toArray⟩ := by
  apply ByteArray.ext
  rw [ByteArray.data_append]
  simp
theorem refLen_any (n : Nat) (hn : n ≤ 4503599627370496) (w : World) :
    Calls Tryd.prog 22 #[.int .i64 (n : Int)] w fun e w' => e = .returned (.int .i64 (LEN n)) ∧ Below w.heap.size w w' := by
  have hN : n ≤ 4611686018427387904 := by omega
  go_enter Tryd.func22, Tryd.ntmps22
  go_wp2_with fail
  go_loopw [3] (fun i wr => ∃ d : Nat, i = .int .i64 d ∧ Fit n d ∧ Below w.heap.size w wr) (fun i _ => 19 - (intOf i).toNat)
  case atStart => exact ⟨1, rfl, Fit.one n, Below.refl _ _⟩
  case round =>
    obtain ⟨d, rfl, hf, hb⟩ := hrel
    have hl := hf.le
    have hi : Calls Tryd.prog 23 #[.int .i64 ((n : Int) + (d : Int))] wr fun e w' => e = .returned (.string ⟨(Lib.decDigits (n + d)).toArray⟩) ∧ Below wr.heap.size wr w' := by
      have := refDec_any (n + d) (by omega) wr
      rwa [show ((n + d : Nat) : Int) = (n : Int) + (d : Int) by omega] at this
    have hsz : (⟨(Lib.decDigits (n + d)).toArray⟩ : ByteArray).size = Lib.nDigits (n + d) := by rw [← Lib.decDigits_length]; rfl
    generalize (⟨(Lib.decDigits (n + d)).toArray⟩ : ByteArray) = q at *
    by_cases h1 : Lib.nDigits (n + d) = d
    · have hq : q.size = d := by omega
      have hL : Hid (n + d = LEN n) := ⟨hf.done h1⟩
      clear hsz h1
      have d1 : ((q.size : Int) == (d : Int)) = true := by rw [hq]; exact beq_self_eq_true _
      go_wp2_with (go_at_call 23; refine hi.mono ?_; rintro e w' ⟨rfl, hb1⟩)
      go_ret
      refine ⟨?_, below_seq hb hb1⟩
      have a2 := hL.out
      show Ending.returned (.int .i64 ((n : Int) + (d : Int))) = _
      rw [show (n : Int) + (d : Int) = ((LEN n : Nat) : Int) by omega]
    · have HF : Hid (Fit n (d + 1)) := ⟨hf.next hN h1⟩
      have hq : ¬ q.size = d := by omega
      clear hsz h1
      have d1 : ((q.size : Int) == (d : Int)) = false := beq_eq_false_iff_ne.2 (by omega)
      go_wp2_with (go_at_call 23; refine hi.mono ?_; rintro e w' ⟨rfl, hb1⟩)
      go_round
      case rel => exact ⟨d + 1, by go_num, HF.out, below_seq hb hb1⟩
      case measure => have := HF.out.le; simp [intOf]; omega
end Go.Proofs.YtokkoacfmdnmaaaDoor
