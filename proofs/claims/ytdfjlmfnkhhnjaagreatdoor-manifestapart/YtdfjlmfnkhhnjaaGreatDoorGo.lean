import Derived.Test.YtdfjlmfnkhhnjaaGreatDoorGh
import Derived.Laws.Concat
import Derived.Deep.RegionHeld3
import Derived.RegionCalls
import Derived.Lib.ConvBytes
import Derived.Deep.QuietTactic
import Derived.Deep.DeepCutAuto
/- What VersionBack needs: joining texts; bytes that are no version's. -/
namespace Go.Proofs.YtdfjlmfnkhhnjaaGreatDoor
set_option maxRecDepth 100000
set_option linter.unusedVariables false
set_option linter.unusedSimpArgs false
open Go.RowKit
noncomputable def adS (v x : Value) : Sem Value := binOp BinOp.add 9 v x
theorem ad9 (v x : Value) : binOp BinOp.add 9 v x = adS v x := rfl
theorem run_ad (x y : List UInt8) (h : x.length + y.length ≤ 9223372036854775807) (w : World) : (adS (str x) (str y)).run Tryz.prog w = .ok (str (x ++ y)) w := by
  have hr := run_string_add_sum (P := Tryz.prog) w ⟨x.toArray⟩ ⟨y.toArray⟩ (by rw [str_size, str_size]; exact h)
  have e : (⟨x.toArray⟩ : ByteArray) ++ ⟨y.toArray⟩ = ⟨(x ++ y).toArray⟩ := by
    apply ByteArray.ext
    simp
  unfold adS
  rw [e] at hr
  simpa [binOp] using hr
theorem keyE_ok {s : List UInt8} (h : 1 ≤ s.length ∧ s.length ≤ 32) : keyE s = 0 := by unfold keyE; rw [if_pos h]
theorem datE_ok {s : List UInt8} (h : s.length ≤ 1024) : datE s = 0 := by unfold datE; rw [if_pos h]
theorem rtE_ok {key : List UInt8} {seq : Int} {mk : Bool} {data : List UInt8} {l : List En} (h1 : 1 ≤ seq ∧ seq ≤ 1099511627776) (h2 : 1 ≤ key.length ∧ key.length ≤ 32) (h3 : data.length ≤ 1024) (h4 : mk = true → data = [] ∧ l = []) (h5 : mtE l = 0) : rtE ⟨key, seq, mk, data, l⟩ = 0 := by
  unfold rtE vrE
  rw [if_neg (by simp only; omega), if_neg (by rw [keyE_ok h2]; simp), if_neg (by
    rw [datE_ok h3]
    rintro (⟨a, b⟩ | b)
    · exact b (h4 a).1
    · exact b rfl), if_neg (by
    rintro ⟨a, b⟩
    simp only at a b
    rw [(h4 a).2] at b
    simp at b)]
  exact h5
theorem write_some {v : Vs} (h : rtE v = 0) (w : World) (a : Option Addr) (n cap : Nat) (hn : v.l.length = n) (hP : PIn w a v.l) :
    Calls Tryz.prog 22 #[vv v.key v.seq v.mkr v.data a n cap] w fun e w' => e = .returned (.tuple #[str (enc v), .int .i64 0]) ∧ Below w.heap.size w w' := by
  have := write_any v w a n cap hn hP (by have := (rt_of h).n; omega)
  rw [wro_ok h] at this
  exact this
theorem write_none {v : Vs} (h : ¬ rtE v = 0) (w : World) (a : Option Addr) (n cap : Nat) (hn : v.l.length = n) (hP : PIn w a v.l) (hz : v.l.length ≤ 9223372036854775806) :
    Calls Tryz.prog 22 #[vv v.key v.seq v.mkr v.data a n cap] w fun e w' => e = .returned (.tuple #[str [], .int .i64 (rtE v)]) ∧ Below w.heap.size w w' := by
  have := write_any v w a n cap hn hP hz
  rw [wro_no h] at this
  exact this
end Go.Proofs.YtdfjlmfnkhhnjaaGreatDoor

/- The document's Right, short, Write. -/
namespace Go.Proofs.YtdfjlmfnkhhnjaaGreatDoor
set_option maxRecDepth 100000
set_option linter.unusedVariables false
set_option linter.unusedSimpArgs false
open Go.RowKit
attribute [local go_sem ↓] Go.wp_at_zero Go.wp_at_succ
attribute [local go_sem ↓] ad9
theorem conv_one {w : World} (c : Nat) : (convert 47 9 (.slice (some ⟨w.heap.size, 0, none⟩) 1 1)).run Tryz.prog (w.alloc (.cells #[.int .u8 ((c : Int) % 256)] 5)) = .ok (str [UInt8.ofNat c]) (w.alloc (.cells #[.int .u8 ((c : Int) % 256)] 5)) := by
  rw [← byte_of c]
  exact conv_own (base := 0) (l := [UInt8.ofNat c]) ⟨⟨rfl, Or.inr ⟨w.heap.size, 1, _, rfl, Nat.zero_le _, heap_alloc_new _ _, Nat.le_refl _, by decide, rfl, rfl⟩⟩, Nat.zero_le _⟩
end Go.Proofs.YtdfjlmfnkhhnjaaGreatDoor
