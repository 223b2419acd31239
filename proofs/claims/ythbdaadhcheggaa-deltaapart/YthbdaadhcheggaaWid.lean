/- Long lists; lend, kept; the document's Version and Size. -/
import Derived.Test.YthbdaadhcheggaaVer
namespace Go.Proofs.Ythbdaadhcheggaa
set_option linter.unusedVariables false
set_option linter.unusedSimpArgs false
open Go.RowKit
attribute [local go_sem ↓] Go.wp_at_zero Go.wp_at_succ
attribute [local go_sem ↓] slPe
set_option maxHeartbeats 2000000 in
theorem rSize_any (key : List UInt8) (seq : Int) (mk : Bool) (data : List UInt8) (l : List En) (w : World) (a : Option Addr) (n cap : Nat) (hn : l.length = n) (hP : PIn w a l) (hz : l.length ≤ 9223372036854775806) :
    Calls Try.prog 35 #[vv key seq mk data a n cap] w fun e w' => e = .returned (.int .i64 (vsz key data l)) ∧ Below w.heap.size w w' := by
  subst hn
  have hbx : Below w.heap.size w (w.alloc (.cells #[str key, .int .i64 seq, .bool mk, str data, .slice a l.length cap] 41)) := (Below.refl _ _).alloc (Nat.le_refl _) _
  have HZ := Hid.mk (vsz_zero key data l)
  go_enter Try.func35, Try.ntmps35
  go_wp2_with fail
  go_loopw [3, 4] (fun s i wr => ∃ k : Nat, k ≤ l.length ∧ i = .int .i64 (k : Int) ∧ s = .int .i64 (vsz key data (l.take k)) ∧ Below (w.alloc (.cells #[str key, .int .i64 seq, .bool mk, str data, .slice a l.length cap] 41)).heap.size (w.alloc (.cells #[str key, .int .i64 seq, .bool mk, str data, .slice a l.length cap] 41)) wr) (fun _ i _ => l.length - (intOf i).toNat)
  case atStart => exact ⟨0, by omega, rfl, by rw [← HZ.out], Below.refl _ _⟩
  case round =>
    obtain ⟨k, hk, rfl, rfl, hb⟩ := hrel
    obtain ⟨x0, x1, x2, x3, x4⟩ := box5 hb
    have hB : Below w.heap.size w wr := hbx.trans (hb.mono (by simp))
    by_cases hlt : k < l.length
    · have d1 : decide ((k : Int) < (l.length : Int)) = true := decide_eq_true (by omega)
      have k2 : (k : Int) < (l.length : Int) := by omega
      obtain ⟨p, hp⟩ : ∃ p, l[k]? = some p := ⟨l[k], List.getElem?_eq_getElem hlt⟩
      obtain ⟨b, off, rfl, hbl, c0, c1⟩ := (hP.later hB).get k p hp
      have HX := Hid.mk (vsz_next (key := key) (data := data) hp).2
      generalize vsz key data (l.take k) = A at *
      have Hb := Hid.mk hb
      clear hb
      go_wp2_with fail
      go_quiet (fail)
      go_wp2_with fail
      exact ⟨⟨k + 1, by omega, by go_num, by rw [← HX.out], below_dN Hb.out nq⟩, by simp [intOf]; omega⟩
    · obtain rfl : k = l.length := by omega
      have d1 : decide ((l.length : Int) < (l.length : Int)) = false := decide_eq_false (by omega)
      rw [List.take_length]
      have Hb := Hid.mk hb
      clear hb
      go_wp2_with fail
      go_ret
      exact ⟨rfl, hB⟩
end Go.Proofs.Ythbdaadhcheggaa
