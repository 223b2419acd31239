/- bit, bits. -/
import Derived.Test.YtghdgddpdamhcaaGreatGa
import Derived.Test.YtghdgddpdamhcaaGreatSml
import Derived.Laws.BitsAllLaws
namespace Go.Proofs.YtghdgddpdamhcaaGreat
set_option linter.unusedVariables false
set_option linter.unusedSimpArgs false
open Go.RowKit
theorem and1_u8 (b : UInt8) (i : Nat) : (bits BinOp.and IntKind.u8 ((b.toNat : Int) / 2 ^ i) 1 == 1) = b.toNat.testBit i := by
  have e : ((b.toNat : Int) / 2 ^ i) = ((b.toNat / 2 ^ i : Nat) : Int) := by simp
  have hb : b.toNat / 2 ^ i < 256 := Nat.lt_of_le_of_lt (Nat.div_le_self _ _) b.toNat_lt
  rw [e]
  have := u8_and_nat (b.toNat / 2 ^ i) 1 hb (by omega)
  rw [show ((1 : Nat) : Int) = 1 from rfl] at this
  rw [this, Nat.and_one_is_mod, Nat.testBit_eq_decide_div_mod_eq]
  generalize b.toNat / 2 ^ i = n
  have : n % 2 = 0 ∨ n % 2 = 1 := by omega
  rcases this with h | h <;> rw [h] <;> rfl
set_option maxRecDepth 100000 in
theorem bit_any (t : ByteArray) (k : Nat) (w : World) (hk : k / 8 < t.size) (hk2 : k < 4096) : Calls Tryz.prog 40 #[.string t, .int .i64 (k : Int)] w fun e w' => e = .returned (.bool (bt t k)) ∧ w' = w := by
  have h1 : ((k : Int) / 8) < (t.size : Int) := by omega
  have hb : bt t k = t[k / 8].toNat.testBit (k % 8) := by
    unfold bt
    have hl : k / 8 < t.data.toList.length := by rw [Array.length_toList]; exact hk
    rw [List.getD_eq_getElem?_getD, List.getElem?_eq_getElem hl]
    rfl
  rw [hb]
  clear hb
  go_enter Tryz.func40, Tryz.ntmps40
  go_wp2
  go_ret
  refine ⟨?_, rfl⟩
  show Ending.returned (Value.bool (bits BinOp.and IntKind.u8 (↑t[k / 8].toNat / 2 ^ (k % 8)) 1 == 1)) = _
  rw [and1_u8]
set_option maxRecDepth 100000 in
theorem bits_any {J : Nat → World → Prop} {Jx : World → Prop} (t : ByteArray) (ht : t.size = 512) (g : Nat) (cb : Array Value) (eg : ∀ args w, (callFunc g args).run Tryz.prog w = .ok (.enter g args) w)
    (hf : ∀ k w, k < 4096 → J k w → Calls Tryz.prog g (#[.int .i64 (k : Int), .bool (bt t k)] ++ cb) w fun e w' => (e = .returned (.bool true) ∧ J (k + 1) w') ∨ (e = .returned (.bool false) ∧ Jx w'))
    (w : World) (h0 : J 0 w) :
    Calls Tryz.prog 64 #[.string t, .func (.func g) #[] cb] w fun e w' => (e = .returned (.bool true) ∧ J 4096 w') ∨ (e = .returned (.bool false) ∧ Jx w') := by
  have HF : Hid (∀ (k : Nat) w, k < 4096 → J k w → Calls Tryz.prog g (#[.int .i64 (k : Int), .bool (bt t k)] ++ cb) w fun e w' => (e = .returned (.bool true) ∧ J (k + 1) w') ∨ (e = .returned (.bool false) ∧ Jx w')) := ⟨hf⟩
  have H0 : Hid (J 0 w) := ⟨h0⟩
  have qB : Hid (∀ (k : Nat) w, k < 4096 → Calls Tryz.prog 40 #[.string t, .int .i64 (k : Int)] w fun e w' => e = .returned (.bool (bt t k)) ∧ w' = w) := ⟨fun k w hk => bit_any t k w (by omega) hk⟩
  clear hf h0
  go_enter Tryz.func64, Tryz.ntmps64
  go_wp2
  go_loopw [6] (fun i wr => ∃ k : Nat, k ≤ 4096 ∧ i = .int .i64 (k : Int) ∧ Hid (J k wr)) (fun i _ => 4096 - (intOf i).toNat)
  case atStart => exact ⟨0, by omega, rfl, H0⟩
  case round =>
    obtain ⟨k, hk, rfl, HJ⟩ := hrel
    by_cases hlt : k < 4096
    · have hki : (k : Int) < 4096 := by omega
      have qb := qB.out k wr hlt
      have qf := HF.out k wr hlt HJ.out
      clear HJ
      generalize bt t k = b at *
      go_wp2_with fail
      refine qb.mono ?_
      rintro e w1 ⟨rfl, rfl⟩
      dsimp only
      go_wp2_with fail
      refine qf.mono ?_
      rintro e w1 (⟨rfl, h1⟩ | ⟨rfl, h1⟩)
      · have H1 : Hid (J (k + 1) w1) := ⟨h1⟩
        clear h1
        dsimp only
        go_wp2
        go_roundw
        case rel => exact ⟨k + 1, by omega, by congr 1, H1⟩
        case measure => simp [intOf]; omega
      · dsimp only
        go_wp2
        go_ret
        exact .inr ⟨rfl, h1⟩
    · obtain rfl : k = 4096 := by omega
      clear hlt hk
      go_wp2
      go_ret
      exact .inl ⟨rfl, HJ.out⟩
end Go.Proofs.YtghdgddpdamhcaaGreat
