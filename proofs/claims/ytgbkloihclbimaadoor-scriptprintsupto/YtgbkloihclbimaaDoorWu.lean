/- Layer 22: appendLine. -/
import Derived.Test.YtgbkloihclbimaaDoorWt
namespace Go.Proofs.YtgbkloihclbimaaDoor
set_option maxRecDepth 100000
set_option linter.unusedVariables false
set_option linter.unusedSimpArgs false
open Go.RowKit
attribute [local go_sem ↓] Go.wp_at_zero Go.wp_at_succ sl9 ix9 ldCe
theorem write_any (p : UInt8) (hp : p ∈ letters) (B M gc gw : Nat) (c : Cm) (ok : OkT c) (ma : Option Addr) (mc : Nat) (ka : Option Addr) (kc : Nat) (T ln : By) (v : Value) (w0 w : World) (h : WC w B M gc gw c ma mc ka kc T ln v) (hl : T.length ≤ 100000000) (hln : ln.length ≤ 50000) (hT : TB w0) (hB : Below w0.heap.size w0 w) (hb : w0.heap.size ≤ B) :
    Calls Tryd.prog 29 #[.pointer (some ⟨gc, 0, none⟩), .int .u8 (p.toNat : Int), .pointer (some ⟨gw, 0, none⟩)] w fun e w' => e = .returned (.tuple #[]) ∧ WS B gw T (wcuts ln (pw c p)) w w' := by
  have hl2 : T.length + ln.length ≤ 1000000000000 := Nat.le_trans (Nat.add_le_add hl hln) (by decide)
  simp only [letters, List.mem_cons, List.not_mem_nil, or_false] at hp
  rcases hp with rfl | rfl | rfl | rfl | rfl | rfl | rfl | rfl | rfl | rfl
  · exact write83 B M gc gw c ok ma mc ka kc T ln v w0 w h hl2 hT hB hb
  · exact write90 B M gc gw c ok ma mc ka kc T ln v w0 w h hl2 hT hB hb
  · exact write66 B M gc gw c ok ma mc ka kc T ln v w0 w h hl2 hT hB hb
  · exact write98 B M gc gw c ok ma mc ka kc T ln v w0 w h hl2 hT hB hb
  · exact write107 B M gc gw c ok ma mc ka kc T ln v w0 w h hl2 hT hB hb
  · exact write100 B M gc gw c ok ma mc ka kc T ln v w0 w h hl2 hT hB hb
  · exact write113 B M gc gw c ok ma mc ka kc T ln v w0 w h hl2 hT hB hb
  · exact write110 B M gc gw c ok ma mc ka kc T ln v w0 w h hl2 hT hB hb
  · exact write109 B M gc gw c ok ma mc ka kc T ln v w h hl hln
  · exact write99 B M gc gw c ok ma mc ka kc T ln v w0 w h hl hln hT hB hb
theorem pw_in64 {c : Cm} (ok : OkC c) {p : UInt8} : ∀ d ∈ pw c p, ∀ n, d = .n n → In64 n := by
  intro d hd n e
  subst e
  unfold pw at hd
  repeat' split at hd
  all_goals first
    | (simp at hd; done)
    | (simp at hd; rw [hd]; first | exact ok.a | exact ok.b | exact ok.q | exact ok.n)
    | (obtain ⟨y, hy, h2⟩ := List.mem_flatMap.1 hd; simp at h2; done)
    | (obtain ⟨y, hy, h2⟩ := List.mem_map.1 hd; injection h2 with h2; rw [← h2]; exact ok.kp y hy)
theorem pws_in64 {c : Cm} (ok : OkC c) (ps : By) : ∀ d ∈ ps.flatMap (pw c), ∀ n, d = .n n → In64 n := by
  intro d hd n e
  obtain ⟨p, _, h2⟩ := List.mem_flatMap.1 hd
  exact pw_in64 ok d h2 n e
theorem shps_nlen : ∀ s ∈ shps, s.name.length ≤ 8 := by decide +kernel
/-- a command whose rows lie below M -/
structure CB (w : World) (M : Nat) (c : Cm) (ma ka : Option Addr) : Prop where
  mt : ∀ k p, c.st.mt[k]? = some p → ∃ b off, ma = some ⟨b, off, none⟩ ∧ b < M ∧ w.cell? ⟨b, off + k * 2, none⟩ = some (str p.key) ∧ w.cell? ⟨b, off + k * 2 + 1, none⟩ = some (str p.val)
  kp : ∀ k n, c.st.kept[k]? = some n → ∃ b off, ka = some ⟨b, off, none⟩ ∧ b < M ∧ w.cell? ⟨b, off + k, none⟩ = some (.int .i64 n)
theorem CB.low {w w' : World} {M : Nat} {c : Cm} {ma ka : Option Addr} (h : CB w M c ma ka) (hb : Below M w w') : CB w' M c ma ka := by
  refine ⟨fun k p hk => ?_, fun k n hk => ?_⟩
  · obtain ⟨b, off, e, hb2, c1, c2⟩ := h.mt k p hk
    exact ⟨b, off, e, hb2, by rw [hb.cell (p := ⟨b, off + k * 2, none⟩) hb2]; exact c1, by rw [hb.cell (p := ⟨b, off + k * 2 + 1, none⟩) hb2]; exact c2⟩
  · obtain ⟨b, off, e, hb2, c1⟩ := h.kp k n hk
    exact ⟨b, off, e, hb2, by rw [hb.cell (p := ⟨b, off + k, none⟩) hb2]; exact c1⟩
theorem Bs4.part {w : World} {g : Nat} {s : Shp} (h : Bs4 w g s) : ∀ o, (w.alloc o).cell? ⟨g, 3, none⟩ = some (str s.parts) := fun o => (((Below.refl _ _).alloc (Nat.le_refl _) o).cell (p := ⟨g, 3, none⟩) (lt_of_block h)).trans h.cells.2.2.2.1
set_option maxHeartbeats 4000000 in
theorem appendLine_any (B M : Nat) (c : Cm) (ok : OkT c) (s : Shp) (hsh : shpOf c = some s) (ma : Option Addr) (mc : Nat) (ka : Option Addr) (kc : Nat) (T : By) (v : Value) (w0 w : World) (hO : Ob B w v T) (hC : CB w M c ma ka) (hMB : M ≤ B) (hl : T.length ≤ 100000000) (hS : SG w0) (hT : TB w0) (hB : Below w0.heap.size w0 w) (hb : w0.heap.size ≤ B) :
    Calls Tryd.prog 17 #[v, cV c ma mc ka kc] w fun e w' => ∃ v', e = .returned v' ∧ AppP B w w' v' (T ++ lineP s c) := by
  obtain ⟨va, vc, rfl⟩ := ob_slice hO
  have hmem : s ∈ shps := List.mem_of_find?_eq_some hsh
  have hlet := shps_letters s hmem
  have hnl := shps_nlen s hmem
  have hpl := shps_plen s hmem
  obtain ⟨w1, hw1⟩ : ∃ w1, w1 = w.alloc (.cells (ccs c ma mc ka kc) 36) := ⟨_, rfl⟩
  have b1 : Below w.heap.size w w1 := by rw [hw1]; exact (Below.refl _ _).alloc (Nat.le_refl _) _
  have y1 : Bc w1 w.heap.size c ma mc ka kc := by rw [hw1]; exact heap_alloc_new _ _
  have hld := run_ldC y1.range
  have hso' := shapeOf_any c ma mc ka kc w1 (hS.below (hB.trans (b1.mono hB.size)))
  rw [hsh] at hso'
  simp only [Option.getD_some, Option.isSome_some] at hso'
  have hle := hO.le
  subst hw1
  go_enter Tryd.func17, Tryd.ntmps17
  go_wp2_with fail
  with_reducible refine Calls.mono hso' ?_
  rintro e w2 ⟨rfl, b2⟩
  dsimp only
  have b12 := below_seq b1 b2
  have hg1 := lt_of_block y1
  have y2 : Bc w2 w.heap.size c ma mc ka kc := by unfold Bc; rw [b2.block _ hg1]; exact y1
  obtain ⟨w3, hw3⟩ : ∃ w3, w2.alloc (.cells #[str s.name, .int .i64 s.kind, .int .i64 s.step, str s.parts] 52) = w3 := ⟨_, rfl⟩
  have b3 : Below w2.heap.size w2 w3 := by rw [← hw3]; exact (Below.refl _ _).alloc (Nat.le_refl _) _
  have z3 : Bs4 w3 w2.heap.size s := by rw [← hw3]; exact heap_alloc_new _ _
  have b13 := below_seq b12 b3
  have y3 : Bc w3 w.heap.size c ma mc ka kc := by unfold Bc; rw [b3.block _ (lt_of_block y2)]; exact y2
  have O3 := hO.later b13
  obtain ⟨p0, p1, p2, p3, pf⟩ := z3.cells
  have hg2 : w.heap.size < w2.heap.size := lt_of_block y2
  clear hld hso' y1 y2 b1 b2 b3 p1 p2 pf
  have hlA : T.length + s.name.length ≤ 100000000000000 := Nat.le_trans (Nat.add_le_add hl hnl) (by decide)
  have hwT : wrap64 ((T.length : Int) + 8192) = (T.length : Int) + 8192 := by unfold wrap64; omega
  have HL := Hid.mk hl
  clear hl
  go_wp2_with (refine app_strk rfl _ _ rfl s.name O3 hlA rfl rfl ?_; intro v4 w4 o4 b4 k4; obtain ⟨a4, n4, c4, ev⟩ := ob_any o4; subst ev; have z4 : Bs4 w4 w2.heap.size s := kept_box z3 k4 (by decide); have q3 := Bs4.part z4)
  go_loopw [8, 25] (fun x i wr => ∃ k : Nat, i = .int .i64 k ∧ k ≤ s.parts.length ∧ Hid (∃ v', WC wr B M w.heap.size w4.heap.size c ma mc ka kc T (wcuts s.name ((s.parts.take k).flatMap (pw c))) v' ∧ WS B w4.heap.size T (wcuts s.name ((s.parts.take k).flatMap (pw c))) (w4.alloc (.cells #[.slice a4 n4 c4, .int .i64 ((T.length : Int) + 8192)] 73)) wr)) (fun _ i _ => s.parts.length - (intOf i).toNat)
  case atStart =>
    have b5 := (Below.refl w4.heap.size w4).alloc (Nat.le_refl _) (.cells #[.slice a4 n4 c4, .int .i64 ((T.length : Int) + 8192)] 73)
    have y4 : Bc w4 w.heap.size c ma mc ka kc := kept_box y3 k4 (by decide)
    have hx : Wx (w4.alloc (.cells #[.slice a4 n4 c4, .int .i64 ((T.length : Int) + 8192)] 73)) B w4.heap.size T s.name (.slice a4 n4 c4) := ⟨heap_alloc_new _ _, o4.later b5, o4.le⟩
    have hc5 : CB (w4.alloc (.cells #[.slice a4 n4 c4, .int .i64 ((T.length : Int) + 8192)] 73)) M c ma ka := ((hC.low (b13.mono (Nat.le_trans hMB hle))).low (b4.mono hMB)).low (b5.mono (Nat.le_trans hMB o4.le))
    refine ⟨0, rfl, Nat.zero_le _, ⟨.slice a4 n4 c4, ⟨by unfold Bc; rw [b5.block _ (lt_of_block y4)]; exact y4, hc5.mt, hc5.kp, hx, Nat.ne_of_lt (lt_of_block y4), hMB⟩, ⟨_, hx⟩, Below.refl _ _, KW.refl _ _⟩⟩
  case round =>
    obtain ⟨k, rfl, hk, HK⟩ := hrel
    obtain ⟨v', hwc, hws⟩ := HK.out
    have b5 := (Below.refl w4.heap.size w4).alloc (Nat.le_refl _) (.cells #[.slice a4 n4 c4, .int .i64 ((T.length : Int) + 8192)] 73)
    have z5 : Bs4 (w4.alloc (.cells #[.slice a4 n4 c4, .int .i64 ((T.length : Int) + 8192)] 73)) w2.heap.size s := by unfold Bs4; rw [b5.block _ (lt_of_block z4)]; exact z4
    have zr : Bs4 wr w2.heap.size s := hws.kw _ _ z5 (Nat.ne_of_lt (lt_of_block z4)) (fun cs fz q => by injection q with _ q _; revert q; decide)
    obtain ⟨r0, r1, r2, r3, rf⟩ := zr.cells
    clear rf r0 r1 r2 zr z5 q3 p0 p3
    by_cases hlt : k < s.parts.length
    · have d1 : decide ((k : Int) < (s.parts.length : Int)) = true := decide_eq_true (Int.ofNat_lt.2 hlt)
      have hix := run_ix s.parts k hlt
      have hget : s.parts[k]? = some (s.parts.getD k 0) := by rw [List.getD_eq_getElem?_getD, List.getElem?_eq_getElem hlt]; rfl
      have hpm := hlet _ (List.mem_of_getElem? hget)
      have ht := take_succ hget
      have hll := wcuts_le ((s.parts.take k).flatMap (pw c)) s.name (Nat.le_trans hnl (by decide)) (pws_in64 ok.ok _)
      have hnx : Hid (wcuts s.name ((s.parts.take (k + 1)).flatMap (pw c)) = wcuts (wcuts s.name ((s.parts.take k).flatMap (pw c))) (pw c (s.parts.getD k 0))) := ⟨by rw [ht, List.flatMap_append, wcuts_app]; simp⟩
      generalize wcuts s.name ((s.parts.take k).flatMap (pw c)) = lk at *
      have BR : Below w0.heap.size w0 wr := hB.trans ((b13.mono hB.size).trans ((b4.mono hb).trans ((b5.mono (Nat.le_trans hb o4.le)).trans (hws.bel.mono hb))))
      have hwr := write_any (s.parts.getD k 0) hpm B M w.heap.size w4.heap.size c ok ma mc ka kc T lk v' w0 wr hwc HL.out hll hT BR hb
      have hw1 : Hid (wrap64 ((k : Int) + 1) = ((k + 1 : Nat) : Int)) := ⟨wr_succ (Nat.le_trans hk (Nat.le_trans hpl (by decide)))⟩
      generalize s.parts.getD k 0 = p at *
      have HW := Hid.mk hwc
      have HS := Hid.mk hws
      have HPL := Hid.mk hpl
      clear hget ht hwc hws hll b5 hpm BR hpl hnl hlA
      go_wp2_with fail
      with_reducible refine Calls.mono hwr ?_
      rintro e w6 ⟨rfl, h6⟩
      dsimp only
      have H6 := Hid.mk h6
      clear hwr h6
      go_wp2_with fail
      go_roundw
      case rel => exact ⟨k + 1, by rw [hw1.out], hlt, ⟨by
        rw [hnx.out]
        obtain ⟨v2, h2⟩ := HW.out.next H6.out
        exact ⟨v2, h2, HS.out.trans H6.out⟩⟩⟩
      case measure => rw [hw1.out]; exact meas_succ hlt
    · have d1 : decide ((k : Int) < (s.parts.length : Int)) = false := decide_eq_false (fun q => hlt (Int.ofNat_lt.1 q))
      have hkk : k = s.parts.length := Nat.le_antisymm hk (Nat.le_of_not_lt hlt)
      have hx : wcuts s.name ((s.parts.take k).flatMap (pw c)) = lineP s c := by rw [hkk, List.take_length]; rfl
      rw [hx] at hwc hws
      obtain ⟨u0, u1, uf⟩ := hwc.wx.cells
      have hfin : Hid (AppP B w wr v' (T ++ lineP s c)) := ⟨hwc.wx.ob, (b13.mono hle).trans (b4.trans ((b5.mono o4.le).trans hws.bel)), fun j o hj _ hno => by
        have hjl := (Array.getElem?_eq_some_iff.1 hj).1
        have h3 := (b13.block j hjl).trans hj
        have h4 := k4 j o h3 (by simp) hno
        have h5 := (b5.block j (Array.getElem?_eq_some_iff.1 h4).1).trans h4
        exact hws.kw j o h5 (Nat.ne_of_lt (Array.getElem?_eq_some_iff.1 h4).1) hno⟩
      obtain ⟨a9, n9, c9, rfl⟩ := ob_any hwc.wx.ob
      clear hwc hws hkk hx b5 u1 uf
      go_wp2_with fail
      go_ret
      exact ⟨_, rfl, hfin.out⟩
end Go.Proofs.YtgbkloihclbimaaDoor
