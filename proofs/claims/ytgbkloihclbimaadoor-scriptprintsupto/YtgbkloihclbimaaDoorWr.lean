/- Layer 22: write, the parts of a line. -/
import Derived.Test.YtgbkloihclbimaaDoorWq
namespace Go.Proofs.YtgbkloihclbimaaDoor
set_option maxRecDepth 100000
set_option linter.unusedVariables false
set_option linter.unusedSimpArgs false
open Go.RowKit
attribute [local go_sem ↓] Go.wp_at_zero Go.wp_at_succ sl9 ix9
/-- the numbers that a slice holds -/
def IIn (w : World) (a : Option Addr) (l : List Int) : Prop := ∀ k n, l[k]? = some n → ∃ b off, a = some ⟨b, off, none⟩ ∧ b < w.heap.size ∧ w.cell? ⟨b, off + k, none⟩ = some (.int .i64 n)
/-- texts that are no longer than any may be -/
structure OkT (c : Cm) : Prop where
  ok : OkC c
  b : c.bucket.length ≤ 4611686018427387904
  sb : c.st.bucket.length ≤ 4611686018427387904
  sk : c.st.key.length ≤ 4611686018427387904
  sd : c.st.data.length ≤ 4611686018427387904
  ml : c.st.mt.length ≤ 4611686018427387904
  kl : c.st.kept.length ≤ 4611686018427387904
  mt : ∀ e ∈ c.st.mt, e.key.length ≤ 4611686018427387904 ∧ e.val.length ≤ 4611686018427387904
/-- a command in a box beside a writer; its rows lie below -/
structure WC (w : World) (B M gc gw : Nat) (c : Cm) (ma : Option Addr) (mc : Nat) (ka : Option Addr) (kc : Nat) (T ln : By) (v : Value) : Prop where
  bc : Bc w gc c ma mc ka kc
  mt : ∀ k p, c.st.mt[k]? = some p → ∃ b off, ma = some ⟨b, off, none⟩ ∧ b < M ∧ w.cell? ⟨b, off + k * 2, none⟩ = some (str p.key) ∧ w.cell? ⟨b, off + k * 2 + 1, none⟩ = some (str p.val)
  kp : ∀ k n, c.st.kept[k]? = some n → ∃ b off, ka = some ⟨b, off, none⟩ ∧ b < M ∧ w.cell? ⟨b, off + k, none⟩ = some (.int .i64 n)
  wx : Wx w B gw T ln v
  ne : gc ≠ gw
  MB : M ≤ B
theorem WC.next {w w' : World} {B M gc gw : Nat} {c : Cm} {ma : Option Addr} {mc : Nat} {ka : Option Addr} {kc : Nat} {T ln ln' : By} {v : Value} (h : WC w B M gc gw c ma mc ka kc T ln v) (hs : WS B gw T ln' w w') : ∃ v', WC w' B M gc gw c ma mc ka kc T ln' v' := by
  obtain ⟨v', hx⟩ := hs.wx
  have hMB := h.MB
  refine ⟨v', hs.kw gc _ h.bc h.ne (fun cs fz q => by injection q with _ q _; revert q; decide), fun k p hk => ?_, fun k n hk => ?_, hx, h.ne, h.MB⟩
  · obtain ⟨b, off, e, hb, c1, c2⟩ := h.mt k p hk
    exact ⟨b, off, e, hb, by rw [hs.bel.cell (p := ⟨b, off + k * 2, none⟩) (show b < B by omega)]; exact c1, by rw [hs.bel.cell (p := ⟨b, off + k * 2 + 1, none⟩) (show b < B by omega)]; exact c2⟩
  · obtain ⟨b, off, e, hb, c1⟩ := h.kp k n hk
    exact ⟨b, off, e, hb, by rw [hs.bel.cell (p := ⟨b, off + k, none⟩) (show b < B by omega)]; exact c1⟩
theorem WS.trans {B gw : Nat} {T ln ln' : By} {w w1 w2 : World} (h : WS B gw T ln w w1) (h2 : WS B gw T ln' w1 w2) : WS B gw T ln' w w2 := ⟨h2.wx, h.bel.trans h2.bel, h.kw.trans h2.kw⟩
def wcuts (ln : By) (ds : List Wd) : By := ds.foldl wcut ln
theorem write83 (B M gc gw : Nat) (c : Cm) (ok : OkT c) (ma : Option Addr) (mc : Nat) (ka : Option Addr) (kc : Nat) (T ln : By) (v : Value) (w0 w : World) (h : WC w B M gc gw c ma mc ka kc T ln v) (hl : T.length + ln.length ≤ 1000000000000) (hT : TB w0) (hB : Below w0.heap.size w0 w) (hb : w0.heap.size ≤ B) :
    Calls Tryd.prog 29 #[.pointer (some ⟨gc, 0, none⟩), .int .u8 83, .pointer (some ⟨gw, 0, none⟩)] w fun e w' => e = .returned (.tuple #[]) ∧ WS B gw T (wcuts ln (pw c 83)) w w' := by
  have hn := wnumber_any B gw T ln v c.sectors ok.ok.a w0 w h.wx hl hT hB hb
  obtain ⟨q0, _⟩ := h.bc.cell (j := 1) rfl
  go_enter Tryd.func29, Tryd.ntmps29
  go_wp2_with fail
  with_reducible refine Calls.mono hn ?_
  rintro e w1 ⟨rfl, r1⟩
  dsimp only
  have HQ := Hid.mk r1
  clear hn r1 h q0
  go_wp2_with fail
  go_end0
  exact ⟨rfl, HQ.out⟩
theorem write90 (B M gc gw : Nat) (c : Cm) (ok : OkT c) (ma : Option Addr) (mc : Nat) (ka : Option Addr) (kc : Nat) (T ln : By) (v : Value) (w0 w : World) (h : WC w B M gc gw c ma mc ka kc T ln v) (hl : T.length + ln.length ≤ 1000000000000) (hT : TB w0) (hB : Below w0.heap.size w0 w) (hb : w0.heap.size ≤ B) :
    Calls Tryd.prog 29 #[.pointer (some ⟨gc, 0, none⟩), .int .u8 90, .pointer (some ⟨gw, 0, none⟩)] w fun e w' => e = .returned (.tuple #[]) ∧ WS B gw T (wcuts ln (pw c 90)) w w' := by
  have hn := wnumber_any B gw T ln v c.size ok.ok.b w0 w h.wx hl hT hB hb
  obtain ⟨q0, _⟩ := h.bc.cell (j := 2) rfl
  go_enter Tryd.func29, Tryd.ntmps29
  go_wp2_with fail
  with_reducible refine Calls.mono hn ?_
  rintro e w1 ⟨rfl, r1⟩
  dsimp only
  have HQ := Hid.mk r1
  clear hn r1 h q0
  go_wp2_with fail
  go_end0
  exact ⟨rfl, HQ.out⟩
theorem write66 (B M gc gw : Nat) (c : Cm) (ok : OkT c) (ma : Option Addr) (mc : Nat) (ka : Option Addr) (kc : Nat) (T ln : By) (v : Value) (w0 w : World) (h : WC w B M gc gw c ma mc ka kc T ln v) (hl : T.length + ln.length ≤ 1000000000000) (hT : TB w0) (hB : Below w0.heap.size w0 w) (hb : w0.heap.size ≤ B) :
    Calls Tryd.prog 29 #[.pointer (some ⟨gc, 0, none⟩), .int .u8 66, .pointer (some ⟨gw, 0, none⟩)] w fun e w' => e = .returned (.tuple #[]) ∧ WS B gw T (wcuts ln (pw c 66)) w w' := by
  have hn := wtext_any B gw T ln v c.bucket ok.b w h.wx hl
  obtain ⟨q0, _⟩ := h.bc.cell (j := 11) rfl
  go_enter Tryd.func29, Tryd.ntmps29
  go_wp2_with fail
  with_reducible refine Calls.mono hn ?_
  rintro e w1 ⟨rfl, r1⟩
  dsimp only
  have HQ := Hid.mk r1
  clear hn r1 h q0
  go_wp2_with fail
  go_end0
  exact ⟨rfl, HQ.out⟩
theorem write98 (B M gc gw : Nat) (c : Cm) (ok : OkT c) (ma : Option Addr) (mc : Nat) (ka : Option Addr) (kc : Nat) (T ln : By) (v : Value) (w0 w : World) (h : WC w B M gc gw c ma mc ka kc T ln v) (hl : T.length + ln.length ≤ 1000000000000) (hT : TB w0) (hB : Below w0.heap.size w0 w) (hb : w0.heap.size ≤ B) :
    Calls Tryd.prog 29 #[.pointer (some ⟨gc, 0, none⟩), .int .u8 98, .pointer (some ⟨gw, 0, none⟩)] w fun e w' => e = .returned (.tuple #[]) ∧ WS B gw T (wcuts ln (pw c 98)) w w' := by
  have hn := wtext_any B gw T ln v c.st.bucket ok.sb w h.wx hl
  obtain ⟨q0, _⟩ := h.bc.cell (j := 4) rfl
  go_enter Tryd.func29, Tryd.ntmps29
  go_wp2_with fail
  with_reducible refine Calls.mono hn ?_
  rintro e w1 ⟨rfl, r1⟩
  dsimp only
  have HQ := Hid.mk r1
  clear hn r1 h q0
  go_wp2_with fail
  go_end0
  exact ⟨rfl, HQ.out⟩
theorem write107 (B M gc gw : Nat) (c : Cm) (ok : OkT c) (ma : Option Addr) (mc : Nat) (ka : Option Addr) (kc : Nat) (T ln : By) (v : Value) (w0 w : World) (h : WC w B M gc gw c ma mc ka kc T ln v) (hl : T.length + ln.length ≤ 1000000000000) (hT : TB w0) (hB : Below w0.heap.size w0 w) (hb : w0.heap.size ≤ B) :
    Calls Tryd.prog 29 #[.pointer (some ⟨gc, 0, none⟩), .int .u8 107, .pointer (some ⟨gw, 0, none⟩)] w fun e w' => e = .returned (.tuple #[]) ∧ WS B gw T (wcuts ln (pw c 107)) w w' := by
  have hn := wtext_any B gw T ln v c.st.key ok.sk w h.wx hl
  obtain ⟨q0, _⟩ := h.bc.cell (j := 5) rfl
  go_enter Tryd.func29, Tryd.ntmps29
  go_wp2_with fail
  with_reducible refine Calls.mono hn ?_
  rintro e w1 ⟨rfl, r1⟩
  dsimp only
  have HQ := Hid.mk r1
  clear hn r1 h q0
  go_wp2_with fail
  go_end0
  exact ⟨rfl, HQ.out⟩
theorem write100 (B M gc gw : Nat) (c : Cm) (ok : OkT c) (ma : Option Addr) (mc : Nat) (ka : Option Addr) (kc : Nat) (T ln : By) (v : Value) (w0 w : World) (h : WC w B M gc gw c ma mc ka kc T ln v) (hl : T.length + ln.length ≤ 1000000000000) (hT : TB w0) (hB : Below w0.heap.size w0 w) (hb : w0.heap.size ≤ B) :
    Calls Tryd.prog 29 #[.pointer (some ⟨gc, 0, none⟩), .int .u8 100, .pointer (some ⟨gw, 0, none⟩)] w fun e w' => e = .returned (.tuple #[]) ∧ WS B gw T (wcuts ln (pw c 100)) w w' := by
  have hn := wtext_any B gw T ln v c.st.data ok.sd w h.wx hl
  obtain ⟨q0, _⟩ := h.bc.cell (j := 6) rfl
  go_enter Tryd.func29, Tryd.ntmps29
  go_wp2_with fail
  with_reducible refine Calls.mono hn ?_
  rintro e w1 ⟨rfl, r1⟩
  dsimp only
  have HQ := Hid.mk r1
  clear hn r1 h q0
  go_wp2_with fail
  go_end0
  exact ⟨rfl, HQ.out⟩
theorem write113 (B M gc gw : Nat) (c : Cm) (ok : OkT c) (ma : Option Addr) (mc : Nat) (ka : Option Addr) (kc : Nat) (T ln : By) (v : Value) (w0 w : World) (h : WC w B M gc gw c ma mc ka kc T ln v) (hl : T.length + ln.length ≤ 1000000000000) (hT : TB w0) (hB : Below w0.heap.size w0 w) (hb : w0.heap.size ≤ B) :
    Calls Tryd.prog 29 #[.pointer (some ⟨gc, 0, none⟩), .int .u8 113, .pointer (some ⟨gw, 0, none⟩)] w fun e w' => e = .returned (.tuple #[]) ∧ WS B gw T (wcuts ln (pw c 113)) w w' := by
  have hn := wnumber_any B gw T ln v c.st.seq ok.ok.q w0 w h.wx hl hT hB hb
  obtain ⟨q0, _⟩ := h.bc.cell (j := 8) rfl
  go_enter Tryd.func29, Tryd.ntmps29
  go_wp2_with fail
  with_reducible refine Calls.mono hn ?_
  rintro e w1 ⟨rfl, r1⟩
  dsimp only
  have HQ := Hid.mk r1
  clear hn r1 h q0
  go_wp2_with fail
  go_end0
  exact ⟨rfl, HQ.out⟩
theorem write110 (B M gc gw : Nat) (c : Cm) (ok : OkT c) (ma : Option Addr) (mc : Nat) (ka : Option Addr) (kc : Nat) (T ln : By) (v : Value) (w0 w : World) (h : WC w B M gc gw c ma mc ka kc T ln v) (hl : T.length + ln.length ≤ 1000000000000) (hT : TB w0) (hB : Below w0.heap.size w0 w) (hb : w0.heap.size ≤ B) :
    Calls Tryd.prog 29 #[.pointer (some ⟨gc, 0, none⟩), .int .u8 110, .pointer (some ⟨gw, 0, none⟩)] w fun e w' => e = .returned (.tuple #[]) ∧ WS B gw T (wcuts ln (pw c 110)) w w' := by
  have hn := wnumber_any B gw T ln v c.st.n ok.ok.n w0 w h.wx hl hT hB hb
  obtain ⟨q0, _⟩ := h.bc.cell (j := 9) rfl
  go_enter Tryd.func29, Tryd.ntmps29
  go_wp2_with fail
  with_reducible refine Calls.mono hn ?_
  rintro e w1 ⟨rfl, r1⟩
  dsimp only
  have HQ := Hid.mk r1
  clear hn r1 h q0
  go_wp2_with fail
  go_end0
  exact ⟨rfl, HQ.out⟩
end Go.Proofs.YtgbkloihclbimaaDoor
