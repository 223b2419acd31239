/- Layer 22: write, pairs. -/
import Derived.Test.YtgbkloihclbimaaDoorWs
namespace Go.Proofs.YtgbkloihclbimaaDoor
set_option maxRecDepth 100000
set_option linter.unusedVariables false
set_option linter.unusedSimpArgs false
open Go.RowKit
attribute [local go_sem ↓] Go.wp_at_zero Go.wp_at_succ sl9 ix9
set_option maxHeartbeats 2000000 in
theorem write109 (B M gc gw : Nat) (c : Cm) (ok : OkT c) (ma : Option Addr) (mc : Nat) (ka : Option Addr) (kc : Nat) (T ln : By) (v : Value) (w : World) (h : WC w B M gc gw c ma mc ka kc T ln v) (hl : T.length ≤ 100000000) (hln : ln.length ≤ 50000) :
    Calls Tryd.prog 29 #[.pointer (some ⟨gc, 0, none⟩), .int .u8 109, .pointer (some ⟨gw, 0, none⟩)] w fun e w' => e = .returned (.tuple #[]) ∧ WS B gw T (wcuts ln (pw c 109)) w w' := by
  obtain ⟨q0, _⟩ := h.bc.cell (j := 7) rfl
  have hpw : Hid (pw c 109 = c.st.mt.flatMap (fun e => [Wd.t e.key, Wd.t e.val])) := ⟨rfl⟩
  have hkl := Hid.mk ok.ml
  have HL := Hid.mk hl
  clear hl
  have HI : Hid (∃ v', WC w B M gc gw c ma mc ka kc T (wcuts ln []) v' ∧ WS B gw T (wcuts ln []) w w) := ⟨v, h, ⟨v, h.wx⟩, Below.refl _ _, KW.refl _ _⟩
  have q0 : w.cell? ⟨gc, 7, none⟩ = some (.slice ma c.st.mt.length mc) := q0
  clear h
  go_enter Tryd.func29, Tryd.ntmps29
  go_wp2_with fail
  go_loopw [7, 88] (fun x i wr => ∃ k : Nat, i = .int .i64 k ∧ k ≤ c.st.mt.length ∧ Hid (∃ v', WC wr B M gc gw c ma mc ka kc T (wcuts ln ((c.st.mt.take k).flatMap (fun e => [Wd.t e.key, Wd.t e.val]))) v' ∧ WS B gw T (wcuts ln ((c.st.mt.take k).flatMap (fun e => [Wd.t e.key, Wd.t e.val]))) w wr)) (fun _ i _ => c.st.mt.length - (intOf i).toNat)
  case atStart => exact ⟨0, rfl, Nat.zero_le _, HI⟩
  case round =>
    clear HI q0
    obtain ⟨k, rfl, hk, HK⟩ := hrel
    obtain ⟨v', hwc, hws⟩ := HK.out
    by_cases hlt : k < c.st.mt.length
    · have d1 : decide ((k : Int) < (c.st.mt.length : Int)) = true := decide_eq_true (by omega)
      obtain ⟨p, hget⟩ : ∃ p, c.st.mt[k]? = some p := ⟨_, List.getElem?_eq_getElem hlt⟩
      have hin := ok.mt _ (List.mem_of_getElem? hget)
      have ht := take_succ hget
      obtain ⟨b, off, ea, hbM, hc, hc2⟩ := hwc.mt k _ hget
      have hll := wcuts_le ((c.st.mt.take k).flatMap (fun e => [Wd.t e.key, Wd.t e.val])) ln hln (fun d hd m e => by
        obtain ⟨y, hy, h2⟩ := List.mem_flatMap.1 hd
        subst e
        simp at h2)
      have hnx : Hid (wcuts ln ((c.st.mt.take (k + 1)).flatMap (fun e => [Wd.t e.key, Wd.t e.val])) = wcut (wcut (wcuts ln ((c.st.mt.take k).flatMap (fun e => [Wd.t e.key, Wd.t e.val]))) (.t p.key)) (.t p.val)) := ⟨by rw [ht, List.flatMap_append, wcuts_app]; rfl⟩
      generalize wcuts ln ((c.st.mt.take k).flatMap (fun e => [Wd.t e.key, Wd.t e.val])) = lk at *
      have hll2 := wcut_le (d := .t p.key) hll (fun n e => by cases e)
      -- the pair's box
      obtain ⟨wa, hwa⟩ : ∃ wa, wa = wr.alloc (.cells #[str p.key, str p.val] 38) := ⟨_, rfl⟩
      have ba : Below wr.heap.size wr wa := by rw [hwa]; exact (Below.refl _ _).alloc (Nat.le_refl _) _
      have ya : wa.heap[wr.heap.size]? = some (.cells #[str p.key, str p.val] 38 (0, 0)) := by rw [hwa]; exact heap_alloc_new _ _
      have hlw : wr.heap.size ≥ B := hwc.wx.ob.le
      have wsa : WS B gw T lk wr wa := ⟨⟨v', by
        have hx := hwc.wx
        exact ⟨by rw [ba.block _ (lt_of_block hx.box)]; exact hx.box, hx.ob.later ba, hx.ge⟩⟩, ba.mono hlw, KW.k5 (k5_below ba)⟩
      obtain ⟨va, hwca⟩ := hwc.next wsa
      have hn := wtext_any B gw T lk va p.key hin.1 wa hwca.wx (Nat.le_trans (Nat.add_le_add HL.out hll) (by decide))
      have pc0 : wa.cell? ⟨wr.heap.size, 0, none⟩ = some (str p.key) := by rw [cell_of_row _ _ _ _ _ _ ya]; rfl
      have hw1 : wrap64 ((k : Int) + 1) = ((k + 1 : Nat) : Int) := wr_succ (Nat.le_trans hk hkl.out)
      have k0 : (0 : Int) ≤ (k : Int) := Int.natCast_nonneg k
      have k1 : (k : Int) < (c.st.mt.length : Int) := Int.ofNat_lt.2 hlt
      have HW := Hid.mk hwca
      have HS := Hid.mk (hws.trans wsa)
      have hgw : wr.heap.size ≠ gw := fun e => Nat.lt_irrefl _ (e ▸ lt_of_block hwc.wx.box)
      have HY := Hid.mk ya
      have HG := Hid.mk hgw
      subst ea
      clear hget ht hwc hws hwca wsa ba ya hgw
      subst hwa
      go_wp2_with fail
      with_reducible refine Calls.mono hn ?_
      rintro e w1 ⟨rfl, r1⟩
      dsimp only
      obtain ⟨v1, h1⟩ := HW.out.next r1
      have y1 := r1.kw _ _ HY.out HG.out (fun cs fz q => by injection q with _ q _; revert q; decide)
      have pc1 : w1.cell? ⟨wr.heap.size, 1, none⟩ = some (str p.val) := by rw [cell_of_row _ _ _ _ _ _ y1]; rfl
      have hn2 := wtext_any B gw T (wcut lk (.t p.key)) v1 p.val hin.2 w1 h1.wx (Nat.le_trans (Nat.add_le_add HL.out hll2) (by decide))
      have H1 := Hid.mk r1
      have HW1 := Hid.mk h1
      clear hn r1 hc hc2 h1 y1 pc0
      go_wp2_with fail
      with_reducible refine Calls.mono hn2 ?_
      rintro e w2 ⟨rfl, r2⟩
      dsimp only
      have H2 := Hid.mk r2
      clear hn2 r2 pc1
      go_wp2_with fail
      go_roundw
      case rel => exact ⟨k + 1, by first | rfl | rw [hw1], hlt, ⟨by
        rw [hnx.out]
        obtain ⟨v2, h2⟩ := HW1.out.next H2.out
        exact ⟨v2, h2, (HS.out.trans H1.out).trans H2.out⟩⟩⟩
      case measure => first | exact meas_succ hlt | (rw [hw1]; exact meas_succ hlt)
    · have d1 : decide ((k : Int) < (c.st.mt.length : Int)) = false := decide_eq_false (by omega)
      have hkk : Hid (k = c.st.mt.length) := ⟨by omega⟩
      have HS := Hid.mk hws
      clear hwc hws
      go_wp2_with fail
      go_end0
      refine ⟨rfl, ?_⟩
      have := HS.out
      rw [hkk.out, List.take_length] at this
      rw [hpw.out]; exact this
end Go.Proofs.YtgbkloihclbimaaDoor
