/- Limits. -/
import Derived.Test.YtijkabnhedmimabWr
namespace Go.Proofs.Ytijkabnhedmimab
set_option linter.unusedVariables false
set_option linter.unusedSimpArgs false
open Go.RowKit
attribute [local go_sem ↓] Go.wp_at_zero Go.wp_at_succ
theorem cat_str (a b : List UInt8) : (⟨a.toArray⟩ ++ ⟨b.toArray⟩ : ByteArray) = ⟨(a ++ b).toArray⟩ := by
  apply ByteArray.ext
  simp
/-- what Limits answers -/
def limited (l : List Pt) : Value := .tuple #[str (if l.all isP then wt l else []), str (if l.all isP then wt l ++ [255] else []), .int .i64 (if l.all isP then 0 else 1)]
theorem limited_ok {l : List Pt} (h : l.all isP = true) : limited l = .tuple #[str (wt l), str (wt l ++ [255]), .int .i64 0] := by simp [limited, h]
theorem limited_bad {l : List Pt} (h : l.all isP = false) : limited l = .tuple #[str [], str [], .int .i64 1] := by simp [limited, h]
theorem limits_any (l : List Pt) (w : World) (a : Option Addr) (cap : Nat) (hP : PIn w a l) (hN : N64 l) (hB : bulk l ≤ 199999999990000) :
    Calls Try.prog 10 #[.slice a l.length cap] w fun e w' => e = .returned (limited l) ∧ Below w.heap.size w w' := by
  have hw := write_any l w a cap hP hN hB
  have hlw : (wt l).length ≤ 199999999990000 := Nat.le_trans (wt_bulk l) hB
  cases hA : l.all isP
  · rw [wrote_bad hA] at hw
    rw [limited_bad hA]
    go_enter Try.func10, Try.ntmps10
    go_wp2_with (go_at_call 9; refine hw.mono ?_; rintro e w1 ⟨rfl, hb1⟩)
    go_ret3
    exact ⟨rfl, hb1⟩
  · rw [wrote_ok hA] at hw
    rw [limited_ok hA, show str (wt l ++ [255]) = .string (⟨(wt l).toArray⟩ ++ ⟨#[255]⟩) from congrArg Value.string (cat_str _ _).symm]
    have hs : (⟨(wt l).toArray⟩ : ByteArray).size ≤ 199999999990000 := by rw [str_size]; exact hlw
    have hn : ¬ 9223372036854775807 < (wt l).length + 1 := by omega
    generalize wt l = T at *
    go_enter Try.func10, Try.ntmps10
    go_wp2_with (go_at_call 9; refine hw.mono ?_; rintro e w1 ⟨rfl, hb1⟩)
    go_ret3
    exact ⟨rfl, hb1⟩
end Go.Proofs.Ytijkabnhedmimab
