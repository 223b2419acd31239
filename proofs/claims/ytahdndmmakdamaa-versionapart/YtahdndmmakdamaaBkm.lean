/- What VersionBack needs: joining texts; bytes that are no version's. -/
import Derived.Test.YtahdndmmakdamaaVf
import Derived.Test.YtahdndmmakdamaaOpnV
import Derived.Laws.Concat
namespace Go.Proofs.Ytahdndmmakdamaa
set_option linter.unusedVariables false
set_option linter.unusedSimpArgs false
open Go.RowKit
noncomputable def adS (v x : Value) : Sem Value := binOp BinOp.add 9 v x
theorem ad9 (v x : Value) : binOp BinOp.add 9 v x = adS v x := rfl
theorem run_ad (x y : List UInt8) (h : x.length + y.length ≤ 9223372036854775807) (w : World) : (adS (str x) (str y)).run Try.prog w = .ok (str (x ++ y)) w := by
  have hr := run_string_add_sum (P := Try.prog) w ⟨x.toArray⟩ ⟨y.toArray⟩ (by rw [str_size, str_size]; exact h)
  have e : (⟨x.toArray⟩ : ByteArray) ++ ⟨y.toArray⟩ = ⟨(x ++ y).toArray⟩ := by
    apply ByteArray.ext
    simp
  unfold adS
  rw [e] at hr
  simpa [binOp] using hr
theorem rdV_more {v : Vs} (h : rtE v = 0) (c : UInt8) (z : List UInt8) : rdV (enc v ++ c :: z) = none := rdV_none fun u hu q => by
  have := (enc_inj (rt_of hu) (rt_of h) (z := []) (y := c :: z) (by rw [List.append_nil]; exact q)).2
  cases this
theorem rdV_fewer {v : Vs} (h : rtE v = 0) {k : Nat} (hk : k < (enc v).length) : rdV ((enc v).take k) = none := rdV_none fun u hu q => by
  have e : enc u ++ (enc v).drop k = enc v ++ [] := by rw [q, List.append_nil, List.take_append_drop]
  have := (enc_inj (rt_of hu) (rt_of h) e).2
  rw [List.drop_eq_nil_iff] at this
  omega
theorem enc_pre {v u : Vs} (h : rtE v = 0) (hu : rtE u = 0) (hne : ¬ v = u) (hl : (enc v).length ≤ (enc u).length) : ¬ (enc u).take (enc v).length = enc v := fun q => by
  have e : enc v ++ (enc u).drop (enc v).length = enc u ++ [] := by
    conv => lhs; lhs; rw [← q]
    rw [List.append_nil, List.take_append_drop]
  exact hne (enc_inj (rt_of h) (rt_of hu) e).1
/-- what is told of a right text -/
theorem read_some {b : List UInt8} {v : Vs} (h : rdV b = some v) (hb : b.length ≤ 9223372036854775807) (w : World) :
    Calls Try.prog 10 #[str b] w fun e w' => ∃ a cap, e = .returned (.tuple #[vv v.key v.seq v.mkr v.data a v.l.length cap, .int .i64 0]) ∧ Ow w.heap.size w' (.slice a v.l.length cap) v.l ∧ Below w.heap.size w w' := by
  have := read_any b w hb
  rw [h] at this
  refine this.mono ?_
  rintro e w' ⟨hB, a, n, cap, he, hn, ho⟩
  subst hn
  exact ⟨a, cap, he, ho, hB⟩
theorem read_none {b : List UInt8} (h : rdV b = none) (hb : b.length ≤ 9223372036854775807) (w : World) :
    Calls Try.prog 10 #[str b] w fun e w' => e = .returned (.tuple #[vv [] 0 false [] none 0 0, .int .i64 4]) ∧ Below w.heap.size w w' := by
  have := read_any b w hb
  rw [h] at this
  refine this.mono ?_
  rintro e w' ⟨hB, he⟩
  exact ⟨he, hB⟩
theorem write_some {v : Vs} (h : rtE v = 0) (w : World) (a : Option Addr) (n cap : Nat) (hn : v.l.length = n) (hP : PIn w a v.l) :
    Calls Try.prog 8 #[vv v.key v.seq v.mkr v.data a n cap] w fun e w' => e = .returned (.tuple #[str (enc v), .int .i64 0]) ∧ Below w.heap.size w w' := by
  have := write_any v w a n cap hn hP (by have := (rt_of h).n; omega)
  rw [wro_ok h] at this
  exact this
theorem write_none {v : Vs} (h : ¬ rtE v = 0) (w : World) (a : Option Addr) (n cap : Nat) (hn : v.l.length = n) (hP : PIn w a v.l) (hz : v.l.length ≤ 9223372036854775806) :
    Calls Try.prog 8 #[vv v.key v.seq v.mkr v.data a n cap] w fun e w' => e = .returned (.tuple #[str [], .int .i64 (rtE v)]) ∧ Below w.heap.size w w' := by
  have := write_any v w a n cap hn hP hz
  rw [wro_no h] at this
  exact this
end Go.Proofs.Ytahdndmmakdamaa
