/- Layer 22: write, pairs and kept numbers. -/
import Derived.Test.YtgbkloihclbimaaDoorWr
namespace Go.Proofs.YtgbkloihclbimaaDoor
set_option maxRecDepth 100000
set_option linter.unusedVariables false
set_option linter.unusedSimpArgs false
open Go.RowKit
attribute [local go_sem ↓] Go.wp_at_zero Go.wp_at_succ sl9 ix9
theorem wr_succ {k : Nat} (h : k ≤ 4611686018427387904) : wrap64 ((k : Int) + 1) = ((k + 1 : Nat) : Int) := by unfold wrap64; omega
theorem meas_succ {k n : Nat} (h : k < n) : n - (intOf (.int .i64 ((k + 1 : Nat) : Int))).toNat < n - (intOf (.int .i64 (k : Int))).toNat := by simp [intOf]; omega
theorem wcuts_app (ln : By) (a b : List Wd) : wcuts ln (a ++ b) = wcuts (wcuts ln a) b := by unfold wcuts; rw [List.foldl_append]
theorem itoa_le {n : Int} (h : In64 n) : (Lib.itoa n).length ≤ 21 := Lib.itoa_length_le n h.1 h.2
theorem quo_le (s : By) : (quo s).length ≤ 4 * s.length + 2 := by
  unfold quo
  have := qbs_le s
  simp only [List.length_cons, List.length_append, List.length_nil]; omega
/-- a line under way is never much too long -/
theorem wcut_le {ln : By} {d : Wd} (h : ln.length ≤ 50000) (hd : ∀ n, d = .n n → In64 n) : (wcut ln d).length ≤ 50000 := by
  unfold wcut
  split
  · exact h
  · rename_i q
    rw [List.length_append, List.length_cons]
    cases d with
    | n i =>
      have := itoa_le (hd i rfl)
      simp only [cutW, wtx]; omega
    | t s =>
      have h1 := quo_le (s.take 8192)
      rw [List.length_take] at h1
      simp only [cutW, wtx]; omega
theorem wcuts_le : ∀ (ds : List Wd) (ln : By), ln.length ≤ 50000 → (∀ d ∈ ds, ∀ n, d = .n n → In64 n) → (wcuts ln ds).length ≤ 50000
  | [], ln, h, _ => h
  | d :: ds, ln, h, hd => wcuts_le ds (wcut ln d) (wcut_le h (hd d (by simp))) (fun x hx => hd x (by simp [hx]))
set_option maxHeartbeats 2000000 in
theorem write99 (B M gc gw : Nat) (c : Cm) (ok : OkT c) (ma : Option Addr) (mc : Nat) (ka : Option Addr) (kc : Nat) (T ln : By) (v : Value) (w0 w : World) (h : WC w B M gc gw c ma mc ka kc T ln v) (hl : T.length ≤ 100000000) (hln : ln.length ≤ 50000) (hT : TB w0) (hB : Below w0.heap.size w0 w) (hb : w0.heap.size ≤ B) :
    Calls Tryd.prog 29 #[.pointer (some ⟨gc, 0, none⟩), .int .u8 99, .pointer (some ⟨gw, 0, none⟩)] w fun e w' => e = .returned (.tuple #[]) ∧ WS B gw T (wcuts ln (pw c 99)) w w' := by
  obtain ⟨q0, _⟩ := h.bc.cell (j := 10) rfl
  have hpw : Hid (pw c 99 = c.st.kept.map .n) := ⟨rfl⟩
  have hkl := Hid.mk ok.kl
  have HL := Hid.mk hl
  clear hl
  have HI : Hid (∃ v', WC w B M gc gw c ma mc ka kc T (wcuts ln []) v' ∧ WS B gw T (wcuts ln []) w w) := ⟨v, h, ⟨v, h.wx⟩, Below.refl _ _, KW.refl _ _⟩
  have q0 : w.cell? ⟨gc, 10, none⟩ = some (.slice ka c.st.kept.length kc) := q0
  clear h
  go_enter Tryd.func29, Tryd.ntmps29
  go_wp2_with fail
  go_loopw [9, 109] (fun x i wr => ∃ k : Nat, i = .int .i64 k ∧ k ≤ c.st.kept.length ∧ Hid (∃ v', WC wr B M gc gw c ma mc ka kc T (wcuts ln ((c.st.kept.take k).map .n)) v' ∧ WS B gw T (wcuts ln ((c.st.kept.take k).map .n)) w wr)) (fun _ i _ => c.st.kept.length - (intOf i).toNat)
  case atStart => exact ⟨0, rfl, Nat.zero_le _, HI⟩
  case round =>
    clear HI q0
    obtain ⟨k, rfl, hk, HK⟩ := hrel
    obtain ⟨v', hwc, hws⟩ := HK.out
    by_cases hlt : k < c.st.kept.length
    · have d1 : decide ((k : Int) < (c.st.kept.length : Int)) = true := decide_eq_true (by omega)
      have hget : c.st.kept[k]? = some (c.st.kept.getD k 0) := by rw [List.getD_eq_getElem?_getD, List.getElem?_eq_getElem hlt]; rfl
      have hin := ok.ok.kp _ (List.mem_of_getElem? hget)
      have ht := take_succ hget
      obtain ⟨b, off, ea, hbM, hc⟩ := hwc.kp k _ hget
      generalize c.st.kept.getD k 0 = n at *
      have hll := wcuts_le ((c.st.kept.take k).map .n) ln hln (fun d hd m e => by
        obtain ⟨y, hy, rfl⟩ := List.mem_map.1 hd
        injection e with e
        rw [← e]; exact ok.ok.kp y (List.mem_of_mem_take hy))
      have hnx : Hid (wcuts ln ((c.st.kept.take (k + 1)).map .n) = wcut (wcuts ln ((c.st.kept.take k).map .n)) (.n n)) := ⟨by rw [ht, List.map_append, wcuts_app]; rfl⟩
      generalize wcuts ln ((c.st.kept.take k).map .n) = lk at *
      have hn := wnumber_any B gw T lk v' n hin w0 wr hwc.wx (by have := HL.out; omega) hT (hB.trans (hws.bel.mono hb)) hb
      have hw1 : wrap64 ((k : Int) + 1) = ((k + 1 : Nat) : Int) := wr_succ (Nat.le_trans hk hkl.out)
      have k0 : (0 : Int) ≤ (k : Int) := by omega
      have k1 : (k : Int) < (c.st.kept.length : Int) := by omega
      have HW := Hid.mk hwc
      have HS := Hid.mk hws
      subst ea
      clear hget ht hwc hws hll
      go_wp2_with fail
      with_reducible refine Calls.mono hn ?_
      rintro e w1 ⟨rfl, r1⟩
      dsimp only
      have H1 := Hid.mk r1
      clear hn r1 hc
      go_wp2_with fail
      go_roundw
      case rel => exact ⟨k + 1, by first | rfl | rw [hw1], by omega, ⟨by
        rw [hnx.out]
        obtain ⟨v2, h2⟩ := HW.out.next H1.out
        exact ⟨v2, h2, HS.out.trans H1.out⟩⟩⟩
      case measure => first | exact meas_succ hlt | (rw [hw1]; exact meas_succ hlt)
    · have d1 : decide ((k : Int) < (c.st.kept.length : Int)) = false := decide_eq_false (by omega)
      have hkk : Hid (k = c.st.kept.length) := ⟨by omega⟩
      have HS := Hid.mk hws
      clear hwc hws
      go_wp2_with fail
      go_end0
      refine ⟨rfl, ?_⟩
      have := HS.out
      rw [hkk.out, List.take_length] at this
      rw [hpw.out]; exact this
end Go.Proofs.YtgbkloihclbimaaDoor
