/- ManifestApart: the walk. -/
import Derived.Test.YtdfjlmfnkhhnjaaGreatDoorMb
import Derived.Test.YtdfjlmfnkhhnjaaGreatDoorGq
import Derived.Test.YtdfjlmfnkhhnjaaGreatDoorHc
import Derived.Deep.RegionHeld3
import Derived.BigRegion
namespace Go.Proofs.YtdfjlmfnkhhnjaaGreatDoor
set_option maxRecDepth 100000
set_option linter.unusedVariables false
set_option linter.unusedSimpArgs false
open Go.RowKit
open Go.Proofs.YtdfjlmfnkhhnjaaGreatDoorP (TB)
open Go.Proofs.YtdfjlmfnkhhnjaaGreatDoorH (KIn)
open Stk (Ot)
attribute [local go_sem ↓] Go.wp_at_zero Go.wp_at_succ ad9 Go.Proofs.YtdfjlmfnkhhnjaaGreatDoorP.sl9 bdI9e bsIe
attribute [local go_sem] run_bdI9 run_bsI
attribute [-go_sem] Go.Builtin.append_
theorem rt_pairs8 {m : Ma} (h : RtM m) {x : It} (hx : x ∈ m.items) : x.l.length ≤ 8 := by
  have h1 := h.it x hx
  cases hm : x.mkr with
  | true => rw [(h1.mk1 hm).2]; simp
  | false => exact (mtE_iff (h1.mk0 hm).2.2).1
set_option maxRecDepth 100000 in
set_option maxHeartbeats 8000000 in
theorem mapart_walk (L : List Vs) (next : Int) (w : World) (a : Option Addr) (cap : Nat) (hL : VIn w a L) (hl : L.length ≤ 1954687338211) (hz : ∀ v ∈ L, v.l.length ≤ 4398046510976) (hT : TB w) (hE : EG w) (hK : KIn w) :
    Calls Tryz.prog 3 #[.agg #[.int .i64 next, .slice a L.length cap]] w fun e w' => e = .returned (.bool true) ∧ Below w.heap.size w w' := by
  have HT := Hid.mk hT
  have HE := Hid.mk hE
  have HK := Hid.mk hK
  have HL := Hid.mk hL
  have HZ := Hid.mk hz
  have b1 := (Below.refl w.heap.size w).alloc (Nat.le_refl _) (.cells #[.int .i64 next, .slice a L.length cap] 24)
  have HBx := Hid.mk (Bb4.new w next (.slice a L.length cap))
  have HBw := Hid.mk b1
  have hhd := head_any _ (hT.below b1) (hE.below b1) (hK.seq b1)
  have HOF : Hid (∀ w', Below w.heap.size w w' → Calls Tryz.prog 7 #[.agg #[.int .i64 next, .slice a L.length cap], .int .i64 0] w' (OfP L next 0 w')) := ⟨fun w' h => of_any L next 0 w' a L.length cap rfl (hL.later h) (hK.seq h) (by omega) (fun v hv => Nat.le_trans (hz v hv) (by decide))⟩
  clear hT hE hK b1 hL hz
  go_enter Tryz.func3, Tryz.ntmps3
  go_wp2_with fail
  generalize w.alloc (.cells #[.int .i64 next, .slice a L.length cap] 24) = w1 at *
  obtain ⟨g1, hg1⟩ : ∃ g, g = w.heap.size := ⟨_, rfl⟩
  rw [← hg1] at HBx ⊢
  have HG1 := Hid.mk hg1
  clear hg1
  with_reducible refine Calls.mono hhd ?_
  rintro e w2 ⟨rfl, cx⟩
  clear hhd
  replace HBx := Hid.mk (HBx.out.later cx)
  replace HBw := Hid.mk (below_seq HBw.out cx)
  have HS2 : Hid (w.heap.size ≤ w2.heap.size ∧ g1 < w2.heap.size) := ⟨HBw.out.size, HBx.out.lt⟩
  clear cx
  dsimp only
  obtain ⟨p0, p1⟩ := HBx.out.cells
  have hc := HOF.out _ HBw.out
  go_wp2_with fail
  clear p0 p1
  with_reducible refine Calls.mono hc ?_
  rintro e w3 ⟨h3, cx⟩
  clear hc
  replace HBx := Hid.mk (HBx.out.later cx)
  replace HBw := Hid.mk (below_seq HBw.out cx)
  have HS23 := Hid.mk cx.size
  clear cx
  rcases h3 with ⟨R1, a1, c1, hOf, rfl, hR1, hF1⟩ | ⟨hOf, rfl⟩
  case inr =>
    have cx := (Below.refl w3.heap.size w3).alloc (Nat.le_refl _) (.cells #[.int .i64 0, .int .i64 0, .slice none 0 0] 28)
    have z4 := Bm3.new w3 0 0 (.slice none 0 0)
    obtain ⟨q0, q1, q2⟩ := z4.cells
    have HBy := Hid.mk (below_seq HBw.out cx)
    clear cx z4
    dsimp only
    go_wp2_with fail
    go_ret
    exact ⟨rfl, HBy.out⟩
  have HOk := Hid.mk hOf
  have HL1 := Hid.mk (Lw.new hF1 rfl)
  have HR1 := Hid.mk hR1
  have hn1 : R1.length = L.length := by have := congrArg List.length hR1; simpa [ofI] using this
  rw [hn1]
  obtain ⟨m, hm⟩ : ∃ m : Ma, m = ⟨0, next, ofI L⟩ := ⟨_, rfl⟩
  have HM : Hid (m.since = 0 ∧ m.next = next ∧ m.items.length = L.length ∧ m.items = ofI L ∧ L.length ≤ 256 ∧ RtM m) := ⟨by subst hm; exact ⟨rfl, rfl, by simp [ofI], rfl, hOf.1, hOf.2.2⟩⟩
  have cx := (Below.refl w3.heap.size w3).alloc (Nat.le_refl _) (.cells #[.int .i64 0, .int .i64 next, .slice a1 L.length c1] 28)
  have HZ1 := Hid.mk (Bm3.new w3 0 next (.slice a1 L.length c1))
  have HS33 := Hid.mk cx.size
  replace HBx := Hid.mk (HBx.out.later cx)
  replace HL1 := Hid.mk (HL1.out.later cx)
  replace HBw := Hid.mk (below_seq HBw.out cx)
  clear cx hOf hF1 hR1 hn1 hm
  dsimp only
  have hc := mWrite_any m (w3.alloc (.cells #[.int .i64 0, .int .i64 next, .slice a1 L.length c1] 28)) a1 c1 (HL1.out.it (HR1.out.trans HM.out.2.2.2.1.symm)) (fun x hx => by have := rt_pairs8 HM.out.2.2.2.2.2 hx; omega) (by have := HM.out; omega) (HT.out.below HBw.out)
  rw [HM.out.1, HM.out.2.1, HM.out.2.2.1] at hc
  obtain ⟨p0, p1, p2⟩ := HZ1.out.cells
  go_wp2_with fail
  clear p0 p1 p2
  generalize w3.alloc (.cells #[.int .i64 0, .int .i64 next, .slice a1 L.length c1] 28) = w4 at *
  obtain ⟨g3, hg3⟩ : ∃ g, g = w3.heap.size := ⟨_, rfl⟩
  rw [← hg3] at HZ1 ⊢
  have HG3 := Hid.mk hg3
  clear hg3
  with_reducible refine Calls.mono hc ?_
  rintro e w5 ⟨h5, cx⟩
  clear hc
  rcases h5 with ⟨_, rfl⟩ | ⟨hno, _⟩
  case inr => exact absurd HM.out.2.2.2.2.2 hno
  replace HBx := Hid.mk (HBx.out.later cx)
  replace HL1 := Hid.mk (HL1.out.later cx)
  replace HZ1 := Hid.mk (HZ1.out.later cx)
  replace HBw := Hid.mk (below_seq HBw.out cx)
  have HS45 := Hid.mk cx.size
  clear cx
  dsimp only
  have HRD : Hid (∀ w', Below w.heap.size w w' → Calls Tryz.prog 9 #[str (mtx m)] w' fun e w'' => ∃ (R : List Ri) (ad : Option Addr) (c : Nat), e = .returned (.tuple #[.agg #[.int .i64 0, .int .i64 next, .slice ad L.length c], .int .i64 ((mtx m).length : Int), .int .i64 0]) ∧ R.map (·.1) = (nzM m).items ∧ R.length = L.length ∧ Fi w'.heap.size w'' (.slice ad L.length c) R ∧ Below w'.heap.size w' w'') := ⟨fun w' h => by
    obtain ⟨e0, e1, e2, e3, e4, hr⟩ := HM.out
    have hmle := mtx_le hr
    refine (mRead_any (mtx m) w' (by omega) (HT.out.below h) (HE.out.below h)).mono ?_
    rintro e w'' ⟨h6, b6⟩
    have hbm : Beg (mtx m) m := ⟨hr, [], by simp⟩
    rcases h6 with ⟨n, R', ra', rc', hbg, hnz, rfl, hR', hF'⟩ | ⟨h6, _⟩
    case inr => exact absurd hbm (h6 m)
    obtain rfl : n = nzM m := by rw [← hnz]; exact (hbg.two hbm).1
    have hl' : R'.length = L.length := by have := congrArg List.length hR'; simp [nzM] at this; omega
    rw [hl'] at hF' ⊢
    refine ⟨R', ra', rc', ?_, hR', hl', hF', b6⟩
    rw [mtx_nz, ← e0, ← e1]
    rfl⟩
  have hc := HRD.out _ HBw.out
  go_wp2_with fail
  with_reducible refine Calls.mono hc ?_
  rintro e w6 ⟨R2, a2, c2, rfl, hR, hn, hF, cx⟩
  clear hc
  replace HBx := Hid.mk (HBx.out.later cx)
  replace HL1 := Hid.mk (HL1.out.later cx)
  replace HZ1 := Hid.mk (HZ1.out.later cx)
  replace HBw := Hid.mk (below_seq HBw.out cx)
  have HSw5 := Hid.mk cx.size
  have HL2 := Hid.mk (Lw.new hF hn)
  have HR2 := Hid.mk (And.intro hR hn)
  clear cx hR hn hF
  dsimp only
  have cx := (Below.refl w6.heap.size w6).alloc (Nat.le_refl _) (.cells #[.int .i64 0, .int .i64 next, .slice a2 L.length c2] 28)
  have HZ2 := Hid.mk (Bm3.new w6 0 next (.slice a2 L.length c2))
  have HSw6 := Hid.mk cx.size
  replace HBx := Hid.mk (HBx.out.later cx)
  replace HL1 := Hid.mk (HL1.out.later cx)
  replace HZ1 := Hid.mk (HZ1.out.later cx)
  replace HL2 := Hid.mk (HL2.out.later cx)
  replace HBw := Hid.mk (below_seq HBw.out cx)
  clear cx
  have hc := HRD.out _ HBw.out
  go_wp2_with fail
  generalize w6.alloc (.cells #[.int .i64 0, .int .i64 next, .slice a2 L.length c2] 28) = w7 at *
  obtain ⟨g7, hg⟩ : ∃ g, g = w6.heap.size := ⟨_, rfl⟩
  rw [← hg] at HZ2 ⊢
  clear hg
  with_reducible refine Calls.mono hc ?_
  rintro e w8 ⟨R3, a3, c3, rfl, hR, hn, hF, cx⟩
  clear hc
  replace HBx := Hid.mk (HBx.out.later cx)
  replace HL1 := Hid.mk (HL1.out.later cx)
  replace HZ1 := Hid.mk (HZ1.out.later cx)
  replace HL2 := Hid.mk (HL2.out.later cx)
  replace HZ2 := Hid.mk (HZ2.out.later cx)
  replace HBw := Hid.mk (below_seq HBw.out cx)
  have HSw7 := Hid.mk cx.size
  have HL3 := Hid.mk (Lw.new hF hn)
  have HR3 := Hid.mk (And.intro hR hn)
  clear cx hR hn hF
  dsimp only
  have cx := (Below.refl w8.heap.size w8).alloc (Nat.le_refl _) (.cells #[.int .i64 0, .int .i64 next, .slice a3 L.length c3] 28)
  have HZ3 := Hid.mk (Bm3.new w8 0 next (.slice a3 L.length c3))
  have HSw8 := Hid.mk cx.size
  replace HBx := Hid.mk (HBx.out.later cx)
  replace HL1 := Hid.mk (HL1.out.later cx)
  replace HZ1 := Hid.mk (HZ1.out.later cx)
  replace HL2 := Hid.mk (HL2.out.later cx)
  replace HZ2 := Hid.mk (HZ2.out.later cx)
  replace HL3 := Hid.mk (HL3.out.later cx)
  replace HBw := Hid.mk (below_seq HBw.out cx)
  clear cx
  have hc := HOF.out _ HBw.out
  obtain ⟨p0, p1⟩ := HBx.out.cells
  go_wp2_with fail
  clear p0 p1
  generalize w8.alloc (.cells #[.int .i64 0, .int .i64 next, .slice a3 L.length c3] 28) = w9 at *
  obtain ⟨g10, hg⟩ : ∃ g, g = w8.heap.size := ⟨_, rfl⟩
  rw [← hg] at HZ3 ⊢
  clear hg
  with_reducible refine Calls.mono hc ?_
  rintro e w10 ⟨h10, cx⟩
  clear hc
  rcases h10 with ⟨R4, a4, c4, _, rfl, hR, hF⟩ | ⟨hOf, _⟩
  case inr => exact absurd HOk.out hOf
  have hn : R4.length = L.length := by have := congrArg List.length hR; simpa [ofI] using this
  rw [hn] at hF ⊢
  replace HBx := Hid.mk (HBx.out.later cx)
  replace HL1 := Hid.mk (HL1.out.later cx)
  replace HZ1 := Hid.mk (HZ1.out.later cx)
  replace HL2 := Hid.mk (HL2.out.later cx)
  replace HZ2 := Hid.mk (HZ2.out.later cx)
  replace HL3 := Hid.mk (HL3.out.later cx)
  replace HZ3 := Hid.mk (HZ3.out.later cx)
  replace HBw := Hid.mk (below_seq HBw.out cx)
  have HSw9 := Hid.mk cx.size
  have HL4 := Hid.mk (Lw.new hF hn)
  have HR4 := Hid.mk (And.intro hR hn)
  clear cx hR hn hF
  dsimp only
  have cx := (Below.refl w10.heap.size w10).alloc (Nat.le_refl _) (.cells #[.int .i64 0, .int .i64 next, .slice a4 L.length c4] 28)
  have HZ4 := Hid.mk (Bm3.new w10 0 next (.slice a4 L.length c4))
  have HSw10 := Hid.mk cx.size
  replace HBx := Hid.mk (HBx.out.later cx)
  replace HL1 := Hid.mk (HL1.out.later cx)
  replace HZ1 := Hid.mk (HZ1.out.later cx)
  replace HL2 := Hid.mk (HL2.out.later cx)
  replace HZ2 := Hid.mk (HZ2.out.later cx)
  replace HL3 := Hid.mk (HL3.out.later cx)
  replace HZ3 := Hid.mk (HZ3.out.later cx)
  replace HL4 := Hid.mk (HL4.out.later cx)
  replace HBw := Hid.mk (below_seq HBw.out cx)
  clear cx
  have hc := copied_any m (w10.alloc (.cells #[.int .i64 0, .int .i64 next, .slice a4 L.length c4] 28)) a1 c1 (HL1.out.it (HR1.out.trans HM.out.2.2.2.1.symm)) (by have := HM.out; omega) (fun x hx => by have := rt_pairs8 HM.out.2.2.2.2.2 hx; omega)
  rw [HM.out.1, HM.out.2.1, HM.out.2.2.1] at hc
  obtain ⟨p0, p1, p2⟩ := HZ1.out.cells
  go_wp2_with fail
  clear p0 p1 p2
  generalize w10.alloc (.cells #[.int .i64 0, .int .i64 next, .slice a4 L.length c4] 28) = w11 at *
  obtain ⟨g13, hg⟩ : ∃ g, g = w10.heap.size := ⟨_, rfl⟩
  rw [← hg] at HZ4 ⊢
  clear hg
  with_reducible refine Calls.mono hc ?_
  rintro e w12 ⟨R5, a5, c5, rfl, hR, hF, cx⟩
  clear hc
  replace HBx := Hid.mk (HBx.out.later cx)
  replace HL1 := Hid.mk (HL1.out.later cx)
  replace HZ1 := Hid.mk (HZ1.out.later cx)
  replace HL2 := Hid.mk (HL2.out.later cx)
  replace HZ2 := Hid.mk (HZ2.out.later cx)
  replace HL3 := Hid.mk (HL3.out.later cx)
  replace HZ3 := Hid.mk (HZ3.out.later cx)
  replace HL4 := Hid.mk (HL4.out.later cx)
  replace HZ4 := Hid.mk (HZ4.out.later cx)
  replace HBw := Hid.mk (below_seq HBw.out cx)
  have HSw11 := Hid.mk cx.size
  have HR5 : Hid (R5.map (·.1) = m.items ∧ R5.length = L.length) := ⟨hR, by rw [← HM.out.2.2.1, ← hR, List.length_map]⟩
  have HF5 := Hid.mk hF
  clear cx hR hF
  dsimp only
  have hc := docR_any m R5 HR5.out.1 w12 a5 c5 HF5.out.iir (by have := HM.out; omega)
  rw [HM.out.1, HM.out.2.1, HM.out.2.2.1] at hc
  go_wp2_with fail
  with_reducible refine Calls.mono hc ?_
  rintro e w13 ⟨a6, c6, rfl, hO, cx⟩
  clear hc
  replace HBx := Hid.mk (HBx.out.later cx)
  replace HL1 := Hid.mk (HL1.out.later cx)
  replace HZ1 := Hid.mk (HZ1.out.later cx)
  replace HL2 := Hid.mk (HL2.out.later cx)
  replace HZ2 := Hid.mk (HZ2.out.later cx)
  replace HL3 := Hid.mk (HL3.out.later cx)
  replace HZ3 := Hid.mk (HZ3.out.later cx)
  replace HL4 := Hid.mk (HL4.out.later cx)
  replace HZ4 := Hid.mk (HZ4.out.later cx)
  replace HBw := Hid.mk (below_seq HBw.out cx)
  have HSw12 := Hid.mk cx.size
  have HWt : Hid (Wt w11.heap.size w13 a6 c6 R5) := ⟨by
    obtain ⟨e1, e2⟩ := HR5.out
    refine ⟨?_, fun k r hk => (HF5.out.met k r hk).later cx⟩
    rw [e2]
    exact own_base hO HSw11.out⟩
  clear cx hO HF5
  dsimp only
  have cx := (Below.refl w13.heap.size w13).alloc (Nat.le_refl _) (.cells #[.int .i64 0, .int .i64 next, .slice a6 L.length c6] 38)
  have HZ5 := Hid.mk (Bn3.new w13 0 next (.slice a6 L.length c6))
  have HSw13 := Hid.mk cx.size
  replace HBx := Hid.mk (HBx.out.later cx)
  replace HL1 := Hid.mk (HL1.out.later cx)
  replace HZ1 := Hid.mk (HZ1.out.later cx)
  replace HL2 := Hid.mk (HL2.out.later cx)
  replace HZ2 := Hid.mk (HZ2.out.later cx)
  replace HL3 := Hid.mk (HL3.out.later cx)
  replace HZ3 := Hid.mk (HZ3.out.later cx)
  replace HL4 := Hid.mk (HL4.out.later cx)
  replace HZ4 := Hid.mk (HZ4.out.later cx)
  replace HWt := Hid.mk (HWt.out.later cx)
  replace HBw := Hid.mk (below_seq HBw.out cx)
  clear cx
  go_wp2_with fail
  generalize w13.alloc (.cells #[.int .i64 0, .int .i64 next, .slice a6 L.length c6] 38) = w14 at *
  obtain ⟨g15, hg⟩ : ∃ g, g = w13.heap.size := ⟨_, rfl⟩
  have HG15 := Hid.mk hg
  rw [← hg] at HZ5 ⊢
  clear hg
  have HD : Hid (∀ (w' : World) (ad : Option Addr) (c : Nat) (l : List It), IIt w' ad l → l.length = L.length → Calls Tryz.prog 10 #[.agg #[.int .i64 0, .int .i64 next, .slice ad L.length c]] w' fun e w'' => ∃ da dc, e = .returned (.agg #[.int .i64 0, .int .i64 next, .slice da L.length dc]) ∧ IIt w'' da l ∧ Below w'.heap.size w' w'') := ⟨fun w' ad c l hi hn => by
    have := doc_any ⟨0, next, l⟩ w' ad c hi (by have := HM.out; show l.length ≤ _; omega)
    dsimp only at this
    rw [hn] at this
    refine this.mono ?_
    rintro e w'' ⟨da, dc, rfl, hi', b9⟩
    exact ⟨da, dc, by dsimp only; rw [hn], hi', b9⟩⟩
  have HSm : Hid (∀ (w' W' : World) (da : Option Addr) (dc : Nat) (l : List It), Wt w11.heap.size w' a6 c6 R5 → IIt w' da l → l.length = L.length → SaM ⟨0, next, l⟩ m → (∀ x ∈ l, x.l.length ≤ 8) → Calls Tryz.prog 12 #[.agg #[.int .i64 0, .int .i64 next, .slice da L.length dc], .agg #[.int .i64 0, .int .i64 next, .slice a6 L.length c6]] w' fun e w'' => e = .returned (.bool true) ∧ Below w'.heap.size w' w'') := ⟨fun w' _ da dc l hw hi hn hs h8 => by
    obtain ⟨e0, e1, e2, _, e4, _⟩ := HM.out
    have := qSame_any ⟨0, next, l⟩ m w' da a6 dc c6 hi (hw.it HR5.out.1) (fun x hx => by have := h8 x hx; omega) (by show l.length ≤ _; omega)
    dsimp only at this
    rw [hn, e0, e1, e2] at this
    refine this.mono ?_
    rintro e w'' ⟨t, rfl, ht, b9⟩
    exact ⟨by rw [ht.2 hs], b9⟩⟩
  have HN2 : Hid ((nzM m).items.length = L.length ∧ SaM ⟨0, next, (nzM m).items⟩ m ∧ ∀ x ∈ (nzM m).items, x.l.length ≤ 8) := ⟨by
    obtain ⟨e0, e1, e2, _, e4, hr⟩ := HM.out
    refine ⟨by simp [nzM, e2], ?_, fun x hx => ?_⟩
    · have := sam_nz m
      rw [show nzM m = ⟨0, next, (nzM m).items⟩ by rw [← e0, ← e1]; rfl] at this
      exact this
    · exact rt_pairs8 (rtm_nz hr) hx⟩
  have HN4 : Hid ((ofI L).length = L.length ∧ SaM ⟨0, next, ofI L⟩ m ∧ ∀ x ∈ ofI L, x.l.length ≤ 8) := ⟨by
    obtain ⟨e0, e1, e2, e3, e4, hr⟩ := HM.out
    refine ⟨by rw [← e3, e2], ?_, fun x hx => ?_⟩
    · have := sam_refl m
      rw [show m = ⟨0, next, ofI L⟩ by rw [← e0, ← e1, ← e3]] at this ⊢
      exact this
    · rw [← e3] at hx
      exact rt_pairs8 hr hx⟩
  have XC : Hid (∀ w', Below w14.heap.size w14 w' → Below w14.heap.size w14 w' ∧ w'.cell? ⟨g7, 0, none⟩ = some (.int .i64 0) ∧ w'.cell? ⟨g7, 1, none⟩ = some (.int .i64 next) ∧ w'.cell? ⟨g7, 2, none⟩ = some (.slice a2 L.length c2) ∧ w'.cell? ⟨g10, 0, none⟩ = some (.int .i64 0) ∧ w'.cell? ⟨g10, 1, none⟩ = some (.int .i64 next) ∧ w'.cell? ⟨g10, 2, none⟩ = some (.slice a3 L.length c3) ∧ w'.cell? ⟨g13, 0, none⟩ = some (.int .i64 0) ∧ w'.cell? ⟨g13, 1, none⟩ = some (.int .i64 next) ∧ w'.cell? ⟨g13, 2, none⟩ = some (.slice a4 L.length c4) ∧ w'.cell? ⟨g15, 0, none⟩ = some (.int .i64 0) ∧ w'.cell? ⟨g15, 1, none⟩ = some (.int .i64 next) ∧ w'.cell? ⟨g15, 2, none⟩ = some (.slice a6 L.length c6)) := ⟨fun w' h => by
    obtain ⟨x0, x1, x2⟩ := (HZ2.out.later h).cells
    obtain ⟨y0, y1, y2⟩ := (HZ3.out.later h).cells
    obtain ⟨u0, u1, u2⟩ := (HZ4.out.later h).cells
    obtain ⟨v0, v1, v2⟩ := (HZ5.out.later h).cells
    exact ⟨h, x0, x1, x2, y0, y1, y2, u0, u1, u2, v0, v1, v2⟩⟩
  have hcc : Below w14.heap.size w14 w14.drew := (Below.refl _ _).drew
  go_region_held3 (fun w' => Below w14.heap.size w14 w' ∧ w'.cell? ⟨g7, 0, none⟩ = some (.int .i64 0) ∧ w'.cell? ⟨g7, 1, none⟩ = some (.int .i64 next) ∧ w'.cell? ⟨g7, 2, none⟩ = some (.slice a2 L.length c2) ∧ w'.cell? ⟨g10, 0, none⟩ = some (.int .i64 0) ∧ w'.cell? ⟨g10, 1, none⟩ = some (.int .i64 next) ∧ w'.cell? ⟨g10, 2, none⟩ = some (.slice a3 L.length c3) ∧ w'.cell? ⟨g13, 0, none⟩ = some (.int .i64 0) ∧ w'.cell? ⟨g13, 1, none⟩ = some (.int .i64 next) ∧ w'.cell? ⟨g13, 2, none⟩ = some (.slice a4 L.length c4) ∧ w'.cell? ⟨g15, 0, none⟩ = some (.int .i64 0) ∧ w'.cell? ⟨g15, 1, none⟩ = some (.int .i64 next) ∧ w'.cell? ⟨g15, 2, none⟩ = some (.slice a6 L.length c6)) (first
    | with_reducible exact XC.out _ hcc) (first
    | (go_at_call 10; with_reducible refine Calls.mono (HD.out _ a2 c2 _ ((HL2.out.later hcc).it HR2.out.1) HN2.out.1) ?_; rintro e w9a ⟨da, dc, rfl, di, b9⟩; replace hcc := below_seq hcc b9; have hsm := HSm.out _ w14 da dc _ (HWt.out.later hcc) di HN2.out.1 HN2.out.2.1 HN2.out.2.2)
    | (go_at_call 10; with_reducible refine Calls.mono (HD.out _ a3 c3 _ ((HL3.out.later hcc).it HR3.out.1) HN2.out.1) ?_; rintro e w9a ⟨da, dc, rfl, di, b9⟩; replace hcc := below_seq hcc b9; have hsm := HSm.out _ w14 da dc _ (HWt.out.later hcc) di HN2.out.1 HN2.out.2.1 HN2.out.2.2)
    | (go_at_call 10; with_reducible refine Calls.mono (HD.out _ a4 c4 _ ((HL4.out.later hcc).it HR4.out.1) HN4.out.1) ?_; rintro e w9a ⟨da, dc, rfl, di, b9⟩; replace hcc := below_seq hcc b9; have hsm := HSm.out _ w14 da dc _ (HWt.out.later hcc) di HN4.out.1 HN4.out.2.1 HN4.out.2.2)
    | (go_at_call 12; with_reducible refine Calls.mono hsm ?_; rintro e w10a ⟨rfl, b10⟩; replace hcc := below_seq hcc b10; clear hsm di b9 b10))
  rename_i hHeld
  clear hHeld XC
  replace HBx := Hid.mk (HBx.out.later hcc)
  replace HL1 := Hid.mk (HL1.out.later hcc)
  replace HZ1 := Hid.mk (HZ1.out.later hcc)
  replace HL2 := Hid.mk (HL2.out.later hcc)
  replace HZ2 := Hid.mk (HZ2.out.later hcc)
  replace HL3 := Hid.mk (HL3.out.later hcc)
  replace HZ3 := Hid.mk (HZ3.out.later hcc)
  replace HL4 := Hid.mk (HL4.out.later hcc)
  replace HZ4 := Hid.mk (HZ4.out.later hcc)
  replace HWt := Hid.mk (HWt.out.later hcc)
  replace HZ5 := Hid.mk (HZ5.out.later hcc)
  replace HBw := Hid.mk (below_seq HBw.out hcc)
  clear hcc
  have p1 := HZ1.out.cells.2.2
  have p2 := HZ2.out.cells.2.2
  have p3 := HZ3.out.cells.2.2
  have p4 := HZ4.out.cells.2.2
  clear HZ1 HZ2 HZ3 HZ4
  generalize w10a = w15 at *
  go_wp2_with fail
  have cx := (Below.refl w15.heap.size w15).alloc (Nat.le_refl _) (.cells #[.slice a1 L.length c1, .slice a2 L.length c2, .slice a3 L.length c3, .slice a4 L.length c4] 42)
  have HO15 : Hid (w2.heap.size ≤ w3.heap.size ∧ w3.heap.size ≤ w5.heap.size ∧ w5.heap.size ≤ w6.heap.size ∧ w6.heap.size ≤ w7.heap.size ∧ w7.heap.size ≤ w8.heap.size ∧ w8.heap.size ≤ w9.heap.size ∧ w9.heap.size ≤ w10.heap.size ∧ w10.heap.size ≤ w11.heap.size ∧ w11.heap.size ≤ g15 ∧ g15 < w15.heap.size) := ⟨by
    have h1 := HS23.out; have h2 := HS33.out; have h3 := HS45.out; have h4 := HSw5.out; have h5 := HSw6.out; have h6 := HSw7.out; have h7 := HSw8.out; have h8 := HSw9.out; have h9 := HSw10.out; have h10 := HSw11.out; have h11 := HSw12.out; have h12 := HG15.out; have h13 := HZ5.out.lt
    omega⟩
  have HF0 : Hid (F4 w2.heap.size w10.heap.size w15.heap.size (w15.alloc (.cells #[.slice a1 L.length c1, .slice a2 L.length c2, .slice a3 L.length c3, .slice a4 L.length c4] 42)) (w15.alloc (.cells #[.slice a1 L.length c1, .slice a2 L.length c2, .slice a3 L.length c3, .slice a4 L.length c4] 42)) [⟨a1, c1, R1⟩, ⟨a2, c2, R2⟩, ⟨a3, c3, R3⟩, ⟨a4, c4, R4⟩] ∧ SA L.length 0 0 [⟨a1, c1, R1⟩, ⟨a2, c2, R2⟩, ⟨a3, c3, R3⟩, ⟨a4, c4, R4⟩]) := ⟨by
    have ho := HO15.out
    have hn1 : R1.length = L.length := by have := congrArg List.length HR1.out; simpa [ofI] using this
    refine ⟨F4.start (HL1.out.later cx) (HL2.out.later cx) (HL3.out.later cx) (HL4.out.later cx) ⟨by omega, by omega⟩ ⟨by omega, by omega⟩ ⟨by omega, by omega⟩ (by omega) ?_ (by omega), SA.start ⟨hn1, len8 HR1.out HN4.out.2.2⟩ ⟨HR2.out.2, len8 HR2.out.1 HN2.out.2.2⟩ ⟨HR3.out.2, len8 HR3.out.1 HN2.out.2.2⟩ ⟨HR4.out.2, len8 HR4.out.1 HN4.out.2.2⟩⟩
    have := heap_alloc_new w15 (.cells #[.slice a1 L.length c1, .slice a2 L.length c2, .slice a3 L.length c3, .slice a4 L.length c4] 42)
    unfold A4
    simp only [List.map_cons, List.map_nil, Ls.v, hn1, HR2.out.2, HR3.out.2, HR4.out.2]
    exact this⟩
  have Hcx := Hid.mk cx
  have HLn : Hid (L.length ≤ 256) := ⟨HM.out.2.2.2.2.1⟩
  clear cx p1 p2 p3 p4 HN2 HL1 HL2 HL3 HL4 HS23 HS33 HS45 HSw5 HSw6 HSw7 HSw8 HSw9 HSw10 HSw11 HSw12 HSw13 HRD HR1 HR2 HR3 HR4 HG3
  generalize w15.alloc (.cells #[.slice a1 L.length c1, .slice a2 L.length c2, .slice a3 L.length c3, .slice a4 L.length c4] 42) = W at *
  obtain ⟨ga, hga⟩ : ∃ g, g = w15.heap.size := ⟨_, rfl⟩
  have HGa := Hid.mk hga
  rw [← hga] at HF0 ⊢
  clear hga
  obtain ⟨M0, hM0⟩ : ∃ M, M = [(⟨a1, c1, R1⟩ : Ls), ⟨a2, c2, R2⟩, ⟨a3, c3, R3⟩, ⟨a4, c4, R4⟩] := ⟨_, rfl⟩
  rw [← hM0] at HF0
  clear hM0
  -- marked
  go_loopw [17, 18, 19] (fun v17 _ _ wr => ∃ (k : Nat) (M : List Ls), v17 = .int .i64 (k : Int) ∧ k ≤ 4 ∧ Hid (F4 w2.heap.size w10.heap.size ga W wr M ∧ SA L.length k 0 M)) (fun v17 _ _ _ => 4 - (intOf v17).toNat)
  case atStart => exact ⟨0, M0, rfl, Nat.zero_le _, HF0⟩
  case round =>
    clear HF0 M0
    obtain ⟨k, M, rfl, hk, HF⟩ := hrel
    by_cases hlk : k < 4
    · have d1 : decide ((k : Int) < 4) = true := decide_eq_true (by omega)
      have HWk : Hid (wrap64 ((k : Int) + 1) = ((k + 1 : Nat) : Int) ∧ k < 4) := ⟨by unfold wrap64; omega, hlk⟩
      go_wp2_with fail
      go_loopw [18, 19] (fun v18 _ wr2 => ∃ (i : Nat) (M : List Ls), v18 = .int .i64 (i : Int) ∧ i ≤ L.length ∧ Hid (F4 w2.heap.size w10.heap.size ga W wr2 M ∧ SA L.length k i M)) (fun v18 _ _ => L.length - (intOf v18).toNat)
      case atStart => exact ⟨0, M, rfl, Nat.zero_le _, HF⟩
      case round =>
        clear HF M d1 hk hlk
        obtain ⟨i, M, rfl, hi, HF⟩ := hrel
        obtain ⟨x, hx⟩ : ∃ x, M[k]? = some x := ⟨_, List.getElem?_eq_getElem (by rw [HF.out.1.len]; exact HWk.out.2)⟩
        have harr := HF.out.1.arr hx
        rw [(HF.out.2 k x hx).1] at harr
        have k0 : (0 : Int) ≤ (k : Int) := Int.natCast_nonneg k
        have k4 : (k : Int) < 4 := by have := HWk.out.2; omega
        by_cases hli : i < L.length
        · have d2 : decide ((i : Int) < (L.length : Int)) = true := decide_eq_true (Int.ofNat_lt.2 hli)
          have i0 : (0 : Int) ≤ (i : Int) := Int.natCast_nonneg i
          have i2 : (i : Int) < (L.length : Int) := Int.ofNat_lt.2 hli
          obtain ⟨r, hr⟩ : ∃ r, x.R[i]? = some r := ⟨_, List.getElem?_eq_getElem (by rw [(HF.out.2 k x hx).1]; exact hli)⟩
          obtain ⟨g, hg, hcell, hfz⟩ := HF.out.1.row hx hr
          rw [hg] at harr
          have c3 : wr.cell? ⟨g, i * 37 + 3, none⟩ = some (.int .i64 r.1.size) := hcell 3 _ (by unfold ri ic; rfl)
          have f3 := hfz (i * 37 + 3)
          have hws : wrap64 (-1 - (k : Int)) = -1 - (k : Int) := by unfold wrap64; omega
          have HWi : Hid (wrap64 ((i : Int) + 1) = ((i + 1 : Nat) : Int) ∧ i < L.length) := ⟨by have := HLn.out; unfold wrap64; omega, hli⟩
          have HN : Hid (F4 w2.heap.size w10.heap.size ga W (wr.setCell ⟨g, i * 37 + 3, none⟩ (.int .i64 (-1 - (k : Int)))) (M.set k ⟨x.a, x.c, x.R.set i ({ r.1 with size := -1 - (k : Int) }, r.2.1, r.2.2)⟩) ∧ SA L.length k i (M.set k ⟨x.a, x.c, x.R.set i ({ r.1 with size := -1 - (k : Int) }, r.2.1, r.2.2)⟩) ∧ Mi k i 0 r.1.l.length (M.set k ⟨x.a, x.c, x.R.set i ({ r.1 with size := -1 - (k : Int) }, r.2.1, r.2.2)⟩)) := ⟨HF.out.1.size hx hr hg _, HF.out.2.keep hx (((HF.out.2 k x hx).2 i r hr).1), Mi.start hx hr⟩
          have HL299 : Hid (r.1.l.length ≤ 299) := ⟨((HF.out.2 k x hx).2 i r hr).1⟩
          obtain ⟨N, hN⟩ : ∃ N, N = r.1.l.length := ⟨_, rfl⟩
          rw [← hN] at HN HL299
          generalize M.set k ⟨x.a, x.c, x.R.set i ({ r.1 with size := -1 - (k : Int) }, r.2.1, r.2.2)⟩ = M3 at *
          clear hx hr hg hcell hfz HF hi hli hN
          go_wp2_with fail
          generalize wr.setCell ⟨g, i * 37 + 3, none⟩ (.int .i64 (-1 - (k : Int))) = wq at *
          clear harr c3 f3 hws d2
          go_loopw [19] (fun v19 wr3 => ∃ (q : Nat) (M : List Ls), v19 = .int .i64 (q : Int) ∧ q ≤ N ∧ Hid (F4 w2.heap.size w10.heap.size ga W wr3 M ∧ SA L.length k i M ∧ Mi k i q N M)) (fun v19 _ => N - (intOf v19).toNat)
          case atStart => exact ⟨0, M3, rfl, Nat.zero_le _, HN⟩
          case round =>
            clear HN M3 M
            obtain ⟨q, M, rfl, hq, HG⟩ := hrel
            have HG2 := Hid.mk HG.out.2.2
            obtain ⟨x, r, hx, hr, hs, hl, hqp⟩ := HG2.out
            have harr := HG.out.1.arr hx
            rw [(HG.out.2.1 k x hx).1] at harr
            obtain ⟨g, hg, hcell, hfz⟩ := HG.out.1.row hx hr
            rw [hg] at harr
            have c4 : wr.cell? ⟨g, i * 37 + 4, none⟩ = some (.slice r.2.1 N r.2.2) := by have := hcell 4 _ (by unfold ri ic; rfl); rw [hl] at this; exact this
            by_cases hlq : q < N
            · have d3 : decide ((q : Int) < (N : Int)) = true := decide_eq_true (Int.ofNat_lt.2 hlq)
              have q0 : (0 : Int) ≤ (q : Int) := Int.natCast_nonneg q
              have q2 : (q : Int) < (N : Int) := Int.ofNat_lt.2 hlq
              have HWq : Hid (wrap64 ((q : Int) + 1) = ((q + 1 : Nat) : Int) ∧ q < N) := ⟨by have := HL299.out; unfold wrap64; omega, hlq⟩
              obtain ⟨ch, hch⟩ : ∃ c, c = chA k := ⟨_, rfl⟩
              have hn := chA_n HWk.out.2
              rw [← hch] at hn
              have e8 : IntKind.u8.wrap (48 + (k : Int)) = ((ch.toNat : Nat) : Int) := by rw [hn, IntKind.wrap_u8]; omega
              have e8' : IntKind.u8.wrap ((ch.toNat : Nat) : Int) = ((ch.toNat : Nat) : Int) := by rw [hn, IntKind.wrap_u8]; omega
              have e48 : wrap64 (48 + (k : Int)) = ((ch.toNat : Nat) : Int) := by rw [hn]; unfold wrap64; omega
              have e48' : IntKind.i64.wrap (48 + (k : Int)) = ((ch.toNat : Nat) : Int) := by rw [i64w]; exact e48
              have hcv := Go.Proofs.YtdfjlmfnkhhnjaaGreatDoorP.conv_one ch wr
              have bX : Below wr.heap.size wr ((wr.alloc (.cells #[.int .u8 ((ch.toNat : Nat) : Int)] 5)).drew) := ((Below.refl _ _).alloc (Nat.le_refl _) _).drew
              have hcvd : (convert 47 9 (.slice (some ⟨wr.heap.size, 0, none⟩) 1 1)).run Tryz.prog ((wr.alloc (.cells #[.int .u8 ((ch.toNat : Nat) : Int)] 5)).drew) = .ok (.string ⟨#[ch]⟩) ((wr.alloc (.cells #[.int .u8 ((ch.toNat : Nat) : Int)] 5)).drew) := by
                have := Go.Proofs.YtdfjlmfnkhhnjaaGreatDoorP.conv_one ch wr.drew
                exact this
              have hFX := HG.out.1.later bX
              obtain ⟨mb, hm, ⟨u0, u1, k0', k1'⟩, hfm⟩ := hFX.pr hx hr (q := q) (by rw [hl]; exact hlq)
              have harrX := hFX.arr hx
              rw [(HG.out.2.1 k x hx).1, hg] at harrX
              obtain ⟨gX, hgX, hcellX, _⟩ := hFX.row hx hr
              rw [hg] at hgX
              injection hgX with hgX
              injection hgX with hgX
              subst hgX
              have c4X : ((wr.alloc (.cells #[.int .u8 ((ch.toNat : Nat) : Int)] 5)).drew).cell? ⟨g, i * 37 + 4, none⟩ = some (.slice r.2.1 N r.2.2) := by have := hcellX 4 _ (by unfold ri ic; rfl); rw [hl] at this; exact this
              have fm0 := hfm (q * 2)
              have fm1 := hfm (q * 2 + 1)
              have k0 : (wr.alloc (.cells #[.int .u8 ((ch.toNat : Nat) : Int)] 5)).cell? ⟨mb, q * 2, none⟩ = some u0 := k0'
              have k1 : (wr.alloc (.cells #[.int .u8 ((ch.toNat : Nat) : Int)] 5)).cell? ⟨mb, q * 2 + 1, none⟩ = some u1 := k1'
              have fn0 : (wr.alloc (.cells #[.int .u8 ((ch.toNat : Nat) : Int)] 5)).frozen? ⟨mb, q * 2, none⟩ = false := fm0
              have fn1 : (wr.alloc (.cells #[.int .u8 ((ch.toNat : Nat) : Int)] 5)).frozen? ⟨mb, q * 2 + 1, none⟩ = false := fm1
              have HN : Hid (F4 w2.heap.size w10.heap.size ga W ((((wr.alloc (.cells #[.int .u8 ((ch.toNat : Nat) : Int)] 5)).drew).setCell ⟨mb, q * 2, none⟩ (.string ⟨#[109]⟩)).setCell ⟨mb, q * 2 + 1, none⟩ (.string ⟨#[ch]⟩)) (M.set k ⟨x.a, x.c, x.R.set i ({ r.1 with l := r.1.l.set q (prM k) }, r.2.1, r.2.2)⟩) ∧ SA L.length k i (M.set k ⟨x.a, x.c, x.R.set i ({ r.1 with l := r.1.l.set q (prM k) }, r.2.1, r.2.2)⟩) ∧ Mi k i (q + 1) N (M.set k ⟨x.a, x.c, x.R.set i ({ r.1 with l := r.1.l.set q (prM k) }, r.2.1, r.2.2)⟩)) := ⟨by
                have := hFX.pair hx hr hm (q := q) (by rw [hl]; exact hlq) (prM k)
                rw [hch]
                rw [hch] at this
                exact this, HG.out.2.1.keep hx (by show (r.1.l.set q (prM k)).length ≤ 299; rw [List.length_set, hl]; exact HL299.out), Mi.next hx hr hs hl hqp⟩
              rw [hm] at c4 c4X
              generalize M.set k ⟨x.a, x.c, x.R.set i ({ r.1 with l := r.1.l.set q (prM k) }, r.2.1, r.2.2)⟩ = M3 at *
              clear hx hr hg hcell hfz hcellX hfm hFX hch hn hs hl hqp HG HG2 hq hlq bX hm
              go_wp2_with fail
              go_region
              all_goals (go_wp2_with fail)
              all_goals exact ⟨⟨q + 1, M3, by first | (rw [HWq.out.1]; done) | rfl | go_num, HWq.out.2, HN⟩, by first | (rw [HWq.out.1]; exact Nat.sub_lt_sub_left HWq.out.2 (Nat.lt_succ_self q)) | (have := HWq.out.2; simp [intOf]; omega)⟩
            · obtain rfl : q = N := Nat.le_antisymm hq (Nat.le_of_not_lt hlq)
              have d3 : decide ((q : Int) < (q : Int)) = false := decide_eq_false (fun h => Int.lt_irrefl _ h)
              have HN : Hid (F4 w2.heap.size w10.heap.size ga W wr M ∧ SA L.length k (i + 1) M) := ⟨HG.out.1, HG2.out.dm (n := L.length) HG.out.2.1⟩
              clear hx hr hg hcell hfz hs hl hqp HG HG2 hq hlq
              go_wp2_with fail
              exact ⟨⟨i + 1, M, by first | (rw [HWi.out.1]; done) | rfl | go_num, HWi.out.2, HN⟩, by first | (rw [HWi.out.1]; exact Nat.sub_lt_sub_left HWi.out.2 (Nat.lt_succ_self i)) | (have := HWi.out.2; simp [intOf]; omega)⟩
        · obtain rfl : i = L.length := Nat.le_antisymm hi (Nat.le_of_not_lt hli)
          have d2 : decide ((L.length : Int) < (L.length : Int)) = false := decide_eq_false (fun h => Int.lt_irrefl _ h)
          have HN : Hid (F4 w2.heap.size w10.heap.size ga W wr M ∧ SA L.length (k + 1) 0 M) := ⟨HF.out.1, HF.out.2.next⟩
          clear hx HF hi hli
          go_wp2_with fail
          exact ⟨⟨k + 1, M, by first | (rw [HWk.out.1]; done) | rfl | go_num, HWk.out.2, HN⟩, by first | (rw [HWk.out.1]; exact Nat.sub_lt_sub_left HWk.out.2 (Nat.lt_succ_self k)) | (have := HWk.out.2; simp [intOf]; omega)⟩
    · have hk4 : k = 4 := by omega
      have d1 : decide ((k : Int) < 4) = false := decide_eq_false (by omega)
      have HN : Hid (F4 w2.heap.size w10.heap.size ga W wr M ∧ SB L.length 0 0 0 M) := ⟨HF.out.1, by have h := HF.out.2; rw [hk4] at h; exact h.sb HF.out.1.len⟩
      clear HF hk hlk hk4
      go_wp2_with fail
      -- grown
      go_loopw [20, 21, 22] (fun v20 _ _ wr => ∃ (k : Nat) (M : List Ls), v20 = .int .i64 (k : Int) ∧ k ≤ 4 ∧ Hid (F4 w2.heap.size w10.heap.size ga W wr M ∧ SB L.length k 0 0 M)) (fun v20 _ _ _ => 4 - (intOf v20).toNat)
      case atStart => exact ⟨0, M, rfl, Nat.zero_le _, HN⟩
      case round =>
        clear HN M
        obtain ⟨k, M, rfl, hk, HF⟩ := hrel
        by_cases hlk : k < 4
        · have d1 : decide ((k : Int) < 4) = true := decide_eq_true (by omega)
          have HWk : Hid (wrap64 ((k : Int) + 1) = ((k + 1 : Nat) : Int) ∧ k < 4) := ⟨by unfold wrap64; omega, hlk⟩
          go_wp2_with fail
          go_loopw [21] (fun v21 wr2 => ∃ (i : Nat) (M : List Ls), v21 = .int .i64 (i : Int) ∧ i ≤ L.length ∧ Hid (F4 w2.heap.size w10.heap.size ga W wr2 M ∧ SB L.length k i 0 M)) (fun v21 _ => L.length - (intOf v21).toNat)
          case atStart => exact ⟨0, M, rfl, Nat.zero_le _, HF⟩
          case round =>
            clear HF M d1 hk hlk
            obtain ⟨i, M, rfl, hi, HF⟩ := hrel
            obtain ⟨x, hx⟩ : ∃ x, M[k]? = some x := ⟨_, List.getElem?_eq_getElem (by rw [HF.out.1.len]; exact HWk.out.2)⟩
            have harr := HF.out.1.arr hx
            have hxl := HF.out.2.at' hx
            rw [Nat.add_zero] at hxl
            rw [hxl] at harr
            have k0 : (0 : Int) ≤ (k : Int) := Int.natCast_nonneg k
            have k4 : (k : Int) < 4 := by have := HWk.out.2; omega
            by_cases hli : i < L.length
            · have d2 : decide ((i : Int) < (L.length : Int)) = true := decide_eq_true (Int.ofNat_lt.2 hli)
              have i0 : (0 : Int) ≤ (i : Int) := Int.natCast_nonneg i
              have i2 : (i : Int) < (L.length : Int) := Int.ofNat_lt.2 hli
              have HWi : Hid (wrap64 ((i : Int) + 1) = ((i + 1 : Nat) : Int) ∧ i < L.length) := ⟨by have := HLn.out; unfold wrap64; omega, hli⟩
              obtain ⟨r, hr⟩ : ∃ r, x.R[i]? = some r := ⟨_, List.getElem?_eq_getElem (by rw [hxl]; exact hli)⟩
              obtain ⟨g, hg, hcell, hfz⟩ := HF.out.1.row hx hr
              rw [hg] at harr
              have h299 : r.1.l.length ≤ 299 := (((HF.out.2 k x hx).2 i r hr).2.1 hli (by omega)).2
              obtain ⟨ch, hch⟩ : ∃ c, c = chA k := ⟨_, rfl⟩
              have hn := chA_n HWk.out.2
              rw [← hch] at hn
              have e8 : IntKind.u8.wrap (48 + (k : Int)) = ((ch.toNat : Nat) : Int) := by rw [hn, IntKind.wrap_u8]; omega
              have e8' : IntKind.u8.wrap ((ch.toNat : Nat) : Int) = ((ch.toNat : Nat) : Int) := by rw [hn, IntKind.wrap_u8]; omega
              have e48 : wrap64 (48 + (k : Int)) = ((ch.toNat : Nat) : Int) := by rw [hn]; unfold wrap64; omega
              have e48' : IntKind.i64.wrap (48 + (k : Int)) = ((ch.toNat : Nat) : Int) := by rw [i64w]; exact e48
              have hcv1 := fun W0 : World => Go.Proofs.YtdfjlmfnkhhnjaaGreatDoorP.conv_one ch W0
              have HVC : Hid (∀ W0, Below wr.heap.size wr W0 → W0.cell? ⟨ga, k, none⟩ = some (.slice (some ⟨g, 0, none⟩) L.length x.c) ∧ W0.cell? ⟨g, i * 37 + 4, none⟩ = some (.slice r.2.1 r.1.l.length r.2.2)) := ⟨fun W0 hb => by
                have h1 := (HF.out.1.later hb).arr hx
                rw [hxl, hg] at h1
                obtain ⟨gX, hgX, hcX, _⟩ := (HF.out.1.later hb).row hx hr
                rw [hg] at hgX
                injection hgX with hgX
                injection hgX with hgX
                subst hgX
                exact ⟨h1, hcX 4 _ (by unfold ri ic; rfl)⟩⟩
              have HEn : Hid (∀ W0, Below wr.heap.size wr W0 → ∃ (g' c' : Nat) (w' : World), (Builtin.append_ #[43, 43] 43 #[.slice r.2.1 r.1.l.length r.2.2, .slice (some ⟨W0.heap.size, 0, none⟩) 1 1]).run Tryz.prog (W0.alloc (.cells #[.string ⟨#[103]⟩, .string ⟨#[ch]⟩] 49)) = .ok (.slice (some ⟨g', 0, none⟩) (r.1.l.length + 1) c') w' ∧
                  w'.frozen? ⟨g, i * 37 + 4, none⟩ = false ∧ (∃ u, w'.cell? ⟨g, i * 37 + 4, none⟩ = some u) ∧ w'.cell? ⟨ga, k, none⟩ = some (.slice (some ⟨g, 0, none⟩) L.length x.c) ∧ (w'.setCell ⟨g, i * 37 + 4, none⟩ (.slice (some ⟨g', 0, none⟩) (r.1.l.length + 1) c')).cell? ⟨ga, k, none⟩ = some (.slice (some ⟨g, 0, none⟩) L.length x.c) ∧
                  ∃ M3 : List Ls, F4 w2.heap.size w10.heap.size ga W (w'.setCell ⟨g, i * 37 + 4, none⟩ (.slice (some ⟨g', 0, none⟩) (r.1.l.length + 1) c')) M3 ∧ SB L.length k (i + 1) 0 M3) := ⟨fun W0 hb => by
                have hFX := HF.out.1.later hb
                obtain ⟨g', c', w', hrun, hfw, hu, harrW, hF2⟩ := hFX.grow hx hr hg (by omega) (prG k)
                rw [hxl, hg] at harrW
                have e1 : str (prG k).val = .string ⟨#[ch]⟩ := by rw [hch]; rfl
                have e0 : str (prG k).key = .string ⟨#[103]⟩ := rfl
                rw [e0, e1] at hrun
                refine ⟨g', c', w', hrun, hfw _, hu, harrW, ?_, _, hF2, HF.out.2.set hx hli hr _ _⟩
                have hne : ga ≠ g := fun e => hFX.nga hx (by rw [e]; exact ti_own hg)
                rw [cell_of_heap (hso _ _ hne)]
                exact harrW⟩
              clear hx hr hg hcell hfz hch hn HF hi hli h299 hxl harr M
              obtain ⟨xc, hxc⟩ : ∃ c, c = x.c := ⟨_, rfl⟩
              obtain ⟨rv, hrv⟩ : ∃ v, v = Value.slice r.2.1 r.1.l.length r.2.2 := ⟨_, rfl⟩
              rw [← hxc, ← hrv] at HVC HEn
              generalize r.1.l.length = N at *
              generalize L.length = LL at *
              clear hxc hrv
              have harr := (HVC.out _ (Below.refl _ _)).1
              go_wp2_with fail
              clear harr
              refine wp_region_held (S := fun w' => w'.cell? ⟨ga, k, none⟩ = some (.slice (some ⟨g, 0, none⟩) LL xc)) (by kernel_rfl) ?_
              try (change wpAnyH _ _ _ _ _ _ _ _ (World.drew _))
              have bq0 := (Below.refl wr.heap.size wr).drew
              have hHeld := (HVC.out _ bq0).1
              generalize wr.drew = wq at *
              refine take2 0 163 (.int .i64 (k : Int)) rfl rfl (by kernel_rfl) (by kernel_rfl) (by kernel_rfl) (fun _ _ _ h => h) (by kernel_rfl) ?_ (by assumption) ?_
              · intro w' hSw
                have hSw : w'.cell? ⟨ga, k, none⟩ = some (.slice (some ⟨g, 0, none⟩) LL xc) := hSw
                go_simp
              try simp only [Act.put, List.setIfInBounds_toArray, List.set_cons_zero, List.set_cons_succ]
              refine take2 1 164 (.pointer (some ⟨ga, k, none⟩)) rfl rfl (by kernel_rfl) (by kernel_rfl) (by kernel_rfl) (fun _ _ _ h => h) (by kernel_rfl) ?_ (by assumption) ?_
              · intro w' hSw
                have hSw : w'.cell? ⟨ga, k, none⟩ = some (.slice (some ⟨g, 0, none⟩) LL xc) := hSw
                go_simp
              try simp only [Act.put, List.setIfInBounds_toArray, List.set_cons_zero, List.set_cons_succ]
              refine take2 2 165 (.slice (some ⟨g, 0, none⟩) LL xc) rfl rfl (by kernel_rfl) (by kernel_rfl) (by kernel_rfl) (fun _ _ _ h => h) (by kernel_rfl) ?_ (by assumption) ?_
              · intro w' hSw
                have hSw : w'.cell? ⟨ga, k, none⟩ = some (.slice (some ⟨g, 0, none⟩) LL xc) := hSw
                go_simp
              try simp only [Act.put, List.setIfInBounds_toArray, List.set_cons_zero, List.set_cons_succ]
              refine take2 3 166 (.int .i64 (i : Int)) rfl rfl (by kernel_rfl) (by kernel_rfl) (by kernel_rfl) (fun _ _ _ h => h) (by kernel_rfl) ?_ (by assumption) ?_
              · intro w' hSw
                have hSw : w'.cell? ⟨ga, k, none⟩ = some (.slice (some ⟨g, 0, none⟩) LL xc) := hSw
                go_simp
              try simp only [Act.put, List.setIfInBounds_toArray, List.set_cons_zero, List.set_cons_succ]
              refine take2 4 167 (.int .i64 (k : Int)) rfl rfl (by kernel_rfl) (by kernel_rfl) (by kernel_rfl) (fun _ _ _ h => h) (by kernel_rfl) ?_ (by assumption) ?_
              · intro w' hSw
                have hSw : w'.cell? ⟨ga, k, none⟩ = some (.slice (some ⟨g, 0, none⟩) LL xc) := hSw
                go_simp
              try simp only [Act.put, List.setIfInBounds_toArray, List.set_cons_zero, List.set_cons_succ]
              refine take2 5 168 (.pointer (some ⟨ga, k, none⟩)) rfl rfl (by kernel_rfl) (by kernel_rfl) (by kernel_rfl) (fun _ _ _ h => h) (by kernel_rfl) ?_ (by assumption) ?_
              · intro w' hSw
                have hSw : w'.cell? ⟨ga, k, none⟩ = some (.slice (some ⟨g, 0, none⟩) LL xc) := hSw
                go_simp
              try simp only [Act.put, List.setIfInBounds_toArray, List.set_cons_zero, List.set_cons_succ]
              refine take2 6 169 (.slice (some ⟨g, 0, none⟩) LL xc) rfl rfl (by kernel_rfl) (by kernel_rfl) (by kernel_rfl) (fun _ _ _ h => h) (by kernel_rfl) ?_ (by assumption) ?_
              · intro w' hSw
                have hSw : w'.cell? ⟨ga, k, none⟩ = some (.slice (some ⟨g, 0, none⟩) LL xc) := hSw
                go_simp
              try simp only [Act.put, List.setIfInBounds_toArray, List.set_cons_zero, List.set_cons_succ]
              refine take2 7 170 (.int .i64 (i : Int)) rfl rfl (by kernel_rfl) (by kernel_rfl) (by kernel_rfl) (fun _ _ _ h => h) (by kernel_rfl) ?_ (by assumption) ?_
              · intro w' hSw
                have hSw : w'.cell? ⟨ga, k, none⟩ = some (.slice (some ⟨g, 0, none⟩) LL xc) := hSw
                go_simp
              try simp only [Act.put, List.setIfInBounds_toArray, List.set_cons_zero, List.set_cons_succ]
              refine take2 8 171 (.pointer (some ⟨g, i * 37, none⟩)) rfl rfl (by kernel_rfl) (by kernel_rfl) (by kernel_rfl) (fun _ _ _ h => h) (by kernel_rfl) ?_ (by assumption) ?_
              · intro w' hSw
                have hSw : w'.cell? ⟨ga, k, none⟩ = some (.slice (some ⟨g, 0, none⟩) LL xc) := hSw
                go_simp
              try simp only [Act.put, List.setIfInBounds_toArray, List.set_cons_zero, List.set_cons_succ]
              refine take2 9 172 (.pointer (some ⟨g, i * 37 + 4, none⟩)) rfl rfl (by kernel_rfl) (by kernel_rfl) (by kernel_rfl) (fun _ _ _ h => h) (by kernel_rfl) ?_ (by assumption) ?_
              · intro w' hSw
                have hSw : w'.cell? ⟨ga, k, none⟩ = some (.slice (some ⟨g, 0, none⟩) LL xc) := hSw
                go_simp
              try simp only [Act.put, List.setIfInBounds_toArray, List.set_cons_zero, List.set_cons_succ]
              refine take2 11 174 (.int .i64 (k : Int)) rfl rfl (by kernel_rfl) (by kernel_rfl) (by kernel_rfl) (fun _ _ _ h => h) (by kernel_rfl) ?_ (by assumption) ?_
              · intro w' hSw
                have hSw : w'.cell? ⟨ga, k, none⟩ = some (.slice (some ⟨g, 0, none⟩) LL xc) := hSw
                go_simp
              try simp only [Act.put, List.setIfInBounds_toArray, List.set_cons_zero, List.set_cons_succ]
              refine take2 12 175 (.int .i64 ((ch.toNat : Nat) : Int)) rfl rfl (by kernel_rfl) (by kernel_rfl) (by kernel_rfl) (fun _ _ _ h => h) (by kernel_rfl) ?_ (by assumption) ?_
              · intro w' hSw
                have hSw : w'.cell? ⟨ga, k, none⟩ = some (.slice (some ⟨g, 0, none⟩) LL xc) := hSw
                go_simp
              try simp only [Act.put, List.setIfInBounds_toArray, List.set_cons_zero, List.set_cons_succ]
              refine take2 13 176 (.int .u8 ((ch.toNat : Nat) : Int)) rfl rfl (by kernel_rfl) (by kernel_rfl) (by kernel_rfl) (fun _ _ _ h => h) (by kernel_rfl) ?_ (by assumption) ?_
              · intro w' hSw
                have hSw : w'.cell? ⟨ga, k, none⟩ = some (.slice (some ⟨g, 0, none⟩) LL xc) := hSw
                go_simp
              try simp only [Act.put, List.setIfInBounds_toArray, List.set_cons_zero, List.set_cons_succ]
              refine wpAnyH_ready (rs := [10, 14]) (by kernel_rfl) (by simp) ?_
              refine AllReadyH.cons rfl (fun K hK => ?_) (AllReadyH.cons rfl (fun K hK => ?_) AllReadyH.nil)
              · skip
                rw [if_pos (by kernel_rfl)]
                have mc0 := (HVC.out _ bq0).2
                refine val_step2 (v := rv) (w2 := wq) 173 rfl ?_ ?_
                · go_simp
                clear mc0
                refine hK.out _ _ ((HVC.out _ bq0).1) (fun hHeld => ?_)
                clear hK K
                try simp only [Act.put, List.setIfInBounds_toArray, List.set_cons_zero, List.set_cons_succ]
                refine wpAnyH_ready (rs := [14]) (by kernel_rfl) (by simp) ?_
                refine AllReadyH.cons rfl (fun K hK => ?_) AllReadyH.nil
                rw [if_pos (by kernel_rfl)]
                have b1 := bal2 bq0 (.cells #[.int .u8 ((ch.toNat : Nat) : Int)] 5)
                refine val_step2 (v := .slice (some ⟨wq.heap.size, 0, none⟩) 1 1) (w2 := (wq.alloc (.cells #[.int .u8 ((ch.toNat : Nat) : Int)] 5))) 177 rfl ?_ ?_
                · go_simp
                refine hK.out _ _ ((HVC.out _ b1).1) (fun hHeld => ?_)
                clear hK K
                try simp only [Act.put, List.setIfInBounds_toArray, List.set_cons_zero, List.set_cons_succ]
                refine wpAnyH_ready (rs := [15]) (by kernel_rfl) (by simp) ?_
                refine AllReadyH.cons rfl (fun K hK => ?_) AllReadyH.nil
                rw [if_pos (by kernel_rfl)]
                have hcv := hcv1 wq
                refine val_step2 (v := .string ⟨#[ch]⟩) (w2 := (wq.alloc (.cells #[.int .u8 ((ch.toNat : Nat) : Int)] 5))) 178 rfl ?_ ?_
                · go_simp
                clear hcv
                refine hK.out _ _ ((HVC.out _ b1).1) (fun hHeld => ?_)
                clear hK K
                try simp only [Act.put, List.setIfInBounds_toArray, List.set_cons_zero, List.set_cons_succ]
                refine take2 16 179 (.agg #[.string ⟨#[103]⟩, .string ⟨#[ch]⟩]) rfl rfl (by kernel_rfl) (by kernel_rfl) (by kernel_rfl) (fun _ _ _ h => h) (by kernel_rfl) ?_ (by assumption) ?_
                · intro w' hSw
                  have hSw : w'.cell? ⟨ga, k, none⟩ = some (.slice (some ⟨g, 0, none⟩) LL xc) := hSw
                  go_simp
                try simp only [Act.put, List.setIfInBounds_toArray, List.set_cons_zero, List.set_cons_succ]
                refine wpAnyH_ready (rs := [17]) (by kernel_rfl) (by simp) ?_
                refine AllReadyH.cons rfl (fun K hK => ?_) AllReadyH.nil
                rw [if_pos (by kernel_rfl)]
                have b2 := bal2 b1 (.cells #[.string ⟨#[103]⟩, .string ⟨#[ch]⟩] 49)
                refine val_step2 (v := .slice (some ⟨(wq.alloc (.cells #[.int .u8 ((ch.toNat : Nat) : Int)] 5)).heap.size, 0, none⟩) 1 1) (w2 := ((wq.alloc (.cells #[.int .u8 ((ch.toNat : Nat) : Int)] 5)).alloc (.cells #[.string ⟨#[103]⟩, .string ⟨#[ch]⟩] 49))) 180 rfl ?_ ?_
                · go_simp
                refine hK.out _ _ ((HVC.out _ b2).1) (fun hHeld => ?_)
                clear hK K
                try simp only [Act.put, List.setIfInBounds_toArray, List.set_cons_zero, List.set_cons_succ]
                obtain ⟨gn3, cn4, wn5, hr, hfr, ⟨u, hu⟩, hga, hgs, M3, hF3⟩ := HEn.out (wq.alloc (.cells #[.int .u8 ((ch.toNat : Nat) : Int)] 5)) b1
                simp only [World.size_alloc] at hr
                refine wpAnyH_ready (rs := [18]) (by kernel_rfl) (by simp) ?_
                refine AllReadyH.cons rfl (fun K hK => ?_) AllReadyH.nil
                rw [if_pos (by kernel_rfl)]
                refine val_step2 (v := .slice (some ⟨gn3, 0, none⟩) (N + 1) cn4) (w2 := wn5) 181 rfl ?_ ?_
                · go_simp
                refine hK.out _ _ (hga) (fun hHeld => ?_)
                clear hK K
                try simp only [Act.put, List.setIfInBounds_toArray, List.set_cons_zero, List.set_cons_succ]
                refine take2 19 182 (.pointer (some ⟨g, i * 37, none⟩)) rfl rfl (by kernel_rfl) (by kernel_rfl) (by kernel_rfl) (fun _ _ _ h => h) (by kernel_rfl) ?_ (by assumption) ?_
                · intro w' hSw
                  have hSw : w'.cell? ⟨ga, k, none⟩ = some (.slice (some ⟨g, 0, none⟩) LL xc) := hSw
                  go_simp
                try simp only [Act.put, List.setIfInBounds_toArray, List.set_cons_zero, List.set_cons_succ]
                refine take2 20 183 (.pointer (some ⟨g, i * 37 + 4, none⟩)) rfl rfl (by kernel_rfl) (by kernel_rfl) (by kernel_rfl) (fun _ _ _ h => h) (by kernel_rfl) ?_ (by assumption) ?_
                · intro w' hSw
                  have hSw : w'.cell? ⟨ga, k, none⟩ = some (.slice (some ⟨g, 0, none⟩) LL xc) := hSw
                  go_simp
                try simp only [Act.put, List.setIfInBounds_toArray, List.set_cons_zero, List.set_cons_succ]
                refine wpAnyH_ready (rs := [21]) (by kernel_rfl) (by simp) ?_
                refine AllReadyH.cons rfl (fun K hK => ?_) AllReadyH.nil
                rw [if_pos (by kernel_rfl)]
                go_simp
                refine hK.out _ _ (hgs) (fun hHeld => ?_)
                clear hK K
                try simp only [Act.put, List.setIfInBounds_toArray, List.set_cons_zero, List.set_cons_succ]
                refine wpAnyH_done (by kernel_rfl) ?_ _
                have HN := Hid.mk hF3
                clear hHeld hr hfr hu hga hgs hF3
                go_wp2_with fail
                exact ⟨⟨i + 1, M3, by first | (rw [HWi.out.1]; done) | rfl | go_num, HWi.out.2, HN⟩, by first | (rw [HWi.out.1]; exact Nat.sub_lt_sub_left HWi.out.2 (Nat.lt_succ_self i)) | (have := HWi.out.2; simp [intOf]; omega)⟩
              · skip
                rw [if_pos (by kernel_rfl)]
                have b6 := bal2 bq0 (.cells #[.int .u8 ((ch.toNat : Nat) : Int)] 5)
                refine val_step2 (v := .slice (some ⟨wq.heap.size, 0, none⟩) 1 1) (w2 := (wq.alloc (.cells #[.int .u8 ((ch.toNat : Nat) : Int)] 5))) 177 rfl ?_ ?_
                · go_simp
                refine hK.out _ _ ((HVC.out _ b6).1) (fun hHeld => ?_)
                clear hK K
                try simp only [Act.put, List.setIfInBounds_toArray, List.set_cons_zero, List.set_cons_succ]
                refine wpAnyH_ready (rs := [10, 15]) (by kernel_rfl) (by simp) ?_
                refine AllReadyH.cons rfl (fun K hK => ?_) (AllReadyH.cons rfl (fun K hK => ?_) AllReadyH.nil)
                · skip
                  rw [if_pos (by kernel_rfl)]
                  have mc0 := (HVC.out _ b6).2
                  refine val_step2 (v := rv) (w2 := (wq.alloc (.cells #[.int .u8 ((ch.toNat : Nat) : Int)] 5))) 173 rfl ?_ ?_
                  · go_simp
                  clear mc0
                  refine hK.out _ _ ((HVC.out _ b6).1) (fun hHeld => ?_)
                  clear hK K
                  try simp only [Act.put, List.setIfInBounds_toArray, List.set_cons_zero, List.set_cons_succ]
                  refine wpAnyH_ready (rs := [15]) (by kernel_rfl) (by simp) ?_
                  refine AllReadyH.cons rfl (fun K hK => ?_) AllReadyH.nil
                  rw [if_pos (by kernel_rfl)]
                  have hcv := hcv1 wq
                  refine val_step2 (v := .string ⟨#[ch]⟩) (w2 := (wq.alloc (.cells #[.int .u8 ((ch.toNat : Nat) : Int)] 5))) 178 rfl ?_ ?_
                  · go_simp
                  clear hcv
                  refine hK.out _ _ ((HVC.out _ b6).1) (fun hHeld => ?_)
                  clear hK K
                  try simp only [Act.put, List.setIfInBounds_toArray, List.set_cons_zero, List.set_cons_succ]
                  refine take2 16 179 (.agg #[.string ⟨#[103]⟩, .string ⟨#[ch]⟩]) rfl rfl (by kernel_rfl) (by kernel_rfl) (by kernel_rfl) (fun _ _ _ h => h) (by kernel_rfl) ?_ (by assumption) ?_
                  · intro w' hSw
                    have hSw : w'.cell? ⟨ga, k, none⟩ = some (.slice (some ⟨g, 0, none⟩) LL xc) := hSw
                    go_simp
                  try simp only [Act.put, List.setIfInBounds_toArray, List.set_cons_zero, List.set_cons_succ]
                  refine wpAnyH_ready (rs := [17]) (by kernel_rfl) (by simp) ?_
                  refine AllReadyH.cons rfl (fun K hK => ?_) AllReadyH.nil
                  rw [if_pos (by kernel_rfl)]
                  have b7 := bal2 b6 (.cells #[.string ⟨#[103]⟩, .string ⟨#[ch]⟩] 49)
                  refine val_step2 (v := .slice (some ⟨(wq.alloc (.cells #[.int .u8 ((ch.toNat : Nat) : Int)] 5)).heap.size, 0, none⟩) 1 1) (w2 := ((wq.alloc (.cells #[.int .u8 ((ch.toNat : Nat) : Int)] 5)).alloc (.cells #[.string ⟨#[103]⟩, .string ⟨#[ch]⟩] 49))) 180 rfl ?_ ?_
                  · go_simp
                  refine hK.out _ _ ((HVC.out _ b7).1) (fun hHeld => ?_)
                  clear hK K
                  try simp only [Act.put, List.setIfInBounds_toArray, List.set_cons_zero, List.set_cons_succ]
                  obtain ⟨gn8, cn9, wn10, hr, hfr, ⟨u, hu⟩, hga, hgs, M3, hF3⟩ := HEn.out (wq.alloc (.cells #[.int .u8 ((ch.toNat : Nat) : Int)] 5)) b6
                  simp only [World.size_alloc] at hr
                  refine wpAnyH_ready (rs := [18]) (by kernel_rfl) (by simp) ?_
                  refine AllReadyH.cons rfl (fun K hK => ?_) AllReadyH.nil
                  rw [if_pos (by kernel_rfl)]
                  refine val_step2 (v := .slice (some ⟨gn8, 0, none⟩) (N + 1) cn9) (w2 := wn10) 181 rfl ?_ ?_
                  · go_simp
                  refine hK.out _ _ (hga) (fun hHeld => ?_)
                  clear hK K
                  try simp only [Act.put, List.setIfInBounds_toArray, List.set_cons_zero, List.set_cons_succ]
                  refine take2 19 182 (.pointer (some ⟨g, i * 37, none⟩)) rfl rfl (by kernel_rfl) (by kernel_rfl) (by kernel_rfl) (fun _ _ _ h => h) (by kernel_rfl) ?_ (by assumption) ?_
                  · intro w' hSw
                    have hSw : w'.cell? ⟨ga, k, none⟩ = some (.slice (some ⟨g, 0, none⟩) LL xc) := hSw
                    go_simp
                  try simp only [Act.put, List.setIfInBounds_toArray, List.set_cons_zero, List.set_cons_succ]
                  refine take2 20 183 (.pointer (some ⟨g, i * 37 + 4, none⟩)) rfl rfl (by kernel_rfl) (by kernel_rfl) (by kernel_rfl) (fun _ _ _ h => h) (by kernel_rfl) ?_ (by assumption) ?_
                  · intro w' hSw
                    have hSw : w'.cell? ⟨ga, k, none⟩ = some (.slice (some ⟨g, 0, none⟩) LL xc) := hSw
                    go_simp
                  try simp only [Act.put, List.setIfInBounds_toArray, List.set_cons_zero, List.set_cons_succ]
                  refine wpAnyH_ready (rs := [21]) (by kernel_rfl) (by simp) ?_
                  refine AllReadyH.cons rfl (fun K hK => ?_) AllReadyH.nil
                  rw [if_pos (by kernel_rfl)]
                  go_simp
                  refine hK.out _ _ (hgs) (fun hHeld => ?_)
                  clear hK K
                  try simp only [Act.put, List.setIfInBounds_toArray, List.set_cons_zero, List.set_cons_succ]
                  refine wpAnyH_done (by kernel_rfl) ?_ _
                  have HN := Hid.mk hF3
                  clear hHeld hr hfr hu hga hgs hF3
                  go_wp2_with fail
                  exact ⟨⟨i + 1, M3, by first | (rw [HWi.out.1]; done) | rfl | go_num, HWi.out.2, HN⟩, by first | (rw [HWi.out.1]; exact Nat.sub_lt_sub_left HWi.out.2 (Nat.lt_succ_self i)) | (have := HWi.out.2; simp [intOf]; omega)⟩
                · skip
                  rw [if_pos (by kernel_rfl)]
                  have hcv := hcv1 wq
                  refine val_step2 (v := .string ⟨#[ch]⟩) (w2 := (wq.alloc (.cells #[.int .u8 ((ch.toNat : Nat) : Int)] 5))) 178 rfl ?_ ?_
                  · go_simp
                  clear hcv
                  refine hK.out _ _ ((HVC.out _ b6).1) (fun hHeld => ?_)
                  clear hK K
                  try simp only [Act.put, List.setIfInBounds_toArray, List.set_cons_zero, List.set_cons_succ]
                  refine take2 16 179 (.agg #[.string ⟨#[103]⟩, .string ⟨#[ch]⟩]) rfl rfl (by kernel_rfl) (by kernel_rfl) (by kernel_rfl) (fun _ _ _ h => h) (by kernel_rfl) ?_ (by assumption) ?_
                  · intro w' hSw
                    have hSw : w'.cell? ⟨ga, k, none⟩ = some (.slice (some ⟨g, 0, none⟩) LL xc) := hSw
                    go_simp
                  try simp only [Act.put, List.setIfInBounds_toArray, List.set_cons_zero, List.set_cons_succ]
                  refine wpAnyH_ready (rs := [10, 17]) (by kernel_rfl) (by simp) ?_
                  refine AllReadyH.cons rfl (fun K hK => ?_) (AllReadyH.cons rfl (fun K hK => ?_) AllReadyH.nil)
                  · skip
                    rw [if_pos (by kernel_rfl)]
                    have mc0 := (HVC.out _ b6).2
                    refine val_step2 (v := rv) (w2 := (wq.alloc (.cells #[.int .u8 ((ch.toNat : Nat) : Int)] 5))) 173 rfl ?_ ?_
                    · go_simp
                    clear mc0
                    refine hK.out _ _ ((HVC.out _ b6).1) (fun hHeld => ?_)
                    clear hK K
                    try simp only [Act.put, List.setIfInBounds_toArray, List.set_cons_zero, List.set_cons_succ]
                    refine wpAnyH_ready (rs := [17]) (by kernel_rfl) (by simp) ?_
                    refine AllReadyH.cons rfl (fun K hK => ?_) AllReadyH.nil
                    rw [if_pos (by kernel_rfl)]
                    have b11 := bal2 b6 (.cells #[.string ⟨#[103]⟩, .string ⟨#[ch]⟩] 49)
                    refine val_step2 (v := .slice (some ⟨(wq.alloc (.cells #[.int .u8 ((ch.toNat : Nat) : Int)] 5)).heap.size, 0, none⟩) 1 1) (w2 := ((wq.alloc (.cells #[.int .u8 ((ch.toNat : Nat) : Int)] 5)).alloc (.cells #[.string ⟨#[103]⟩, .string ⟨#[ch]⟩] 49))) 180 rfl ?_ ?_
                    · go_simp
                    refine hK.out _ _ ((HVC.out _ b11).1) (fun hHeld => ?_)
                    clear hK K
                    try simp only [Act.put, List.setIfInBounds_toArray, List.set_cons_zero, List.set_cons_succ]
                    obtain ⟨gn12, cn13, wn14, hr, hfr, ⟨u, hu⟩, hga, hgs, M3, hF3⟩ := HEn.out (wq.alloc (.cells #[.int .u8 ((ch.toNat : Nat) : Int)] 5)) b6
                    simp only [World.size_alloc] at hr
                    refine wpAnyH_ready (rs := [18]) (by kernel_rfl) (by simp) ?_
                    refine AllReadyH.cons rfl (fun K hK => ?_) AllReadyH.nil
                    rw [if_pos (by kernel_rfl)]
                    refine val_step2 (v := .slice (some ⟨gn12, 0, none⟩) (N + 1) cn13) (w2 := wn14) 181 rfl ?_ ?_
                    · go_simp
                    refine hK.out _ _ (hga) (fun hHeld => ?_)
                    clear hK K
                    try simp only [Act.put, List.setIfInBounds_toArray, List.set_cons_zero, List.set_cons_succ]
                    refine take2 19 182 (.pointer (some ⟨g, i * 37, none⟩)) rfl rfl (by kernel_rfl) (by kernel_rfl) (by kernel_rfl) (fun _ _ _ h => h) (by kernel_rfl) ?_ (by assumption) ?_
                    · intro w' hSw
                      have hSw : w'.cell? ⟨ga, k, none⟩ = some (.slice (some ⟨g, 0, none⟩) LL xc) := hSw
                      go_simp
                    try simp only [Act.put, List.setIfInBounds_toArray, List.set_cons_zero, List.set_cons_succ]
                    refine take2 20 183 (.pointer (some ⟨g, i * 37 + 4, none⟩)) rfl rfl (by kernel_rfl) (by kernel_rfl) (by kernel_rfl) (fun _ _ _ h => h) (by kernel_rfl) ?_ (by assumption) ?_
                    · intro w' hSw
                      have hSw : w'.cell? ⟨ga, k, none⟩ = some (.slice (some ⟨g, 0, none⟩) LL xc) := hSw
                      go_simp
                    try simp only [Act.put, List.setIfInBounds_toArray, List.set_cons_zero, List.set_cons_succ]
                    refine wpAnyH_ready (rs := [21]) (by kernel_rfl) (by simp) ?_
                    refine AllReadyH.cons rfl (fun K hK => ?_) AllReadyH.nil
                    rw [if_pos (by kernel_rfl)]
                    go_simp
                    refine hK.out _ _ (hgs) (fun hHeld => ?_)
                    clear hK K
                    try simp only [Act.put, List.setIfInBounds_toArray, List.set_cons_zero, List.set_cons_succ]
                    refine wpAnyH_done (by kernel_rfl) ?_ _
                    have HN := Hid.mk hF3
                    clear hHeld hr hfr hu hga hgs hF3
                    go_wp2_with fail
                    exact ⟨⟨i + 1, M3, by first | (rw [HWi.out.1]; done) | rfl | go_num, HWi.out.2, HN⟩, by first | (rw [HWi.out.1]; exact Nat.sub_lt_sub_left HWi.out.2 (Nat.lt_succ_self i)) | (have := HWi.out.2; simp [intOf]; omega)⟩
                  · skip
                    rw [if_pos (by kernel_rfl)]
                    have b15 := bal2 b6 (.cells #[.string ⟨#[103]⟩, .string ⟨#[ch]⟩] 49)
                    refine val_step2 (v := .slice (some ⟨(wq.alloc (.cells #[.int .u8 ((ch.toNat : Nat) : Int)] 5)).heap.size, 0, none⟩) 1 1) (w2 := ((wq.alloc (.cells #[.int .u8 ((ch.toNat : Nat) : Int)] 5)).alloc (.cells #[.string ⟨#[103]⟩, .string ⟨#[ch]⟩] 49))) 180 rfl ?_ ?_
                    · go_simp
                    refine hK.out _ _ ((HVC.out _ b15).1) (fun hHeld => ?_)
                    clear hK K
                    try simp only [Act.put, List.setIfInBounds_toArray, List.set_cons_zero, List.set_cons_succ]
                    refine wpAnyH_ready (rs := [10]) (by kernel_rfl) (by simp) ?_
                    refine AllReadyH.cons rfl (fun K hK => ?_) AllReadyH.nil
                    rw [if_pos (by kernel_rfl)]
                    have mc0 := (HVC.out _ b15).2
                    refine val_step2 (v := rv) (w2 := ((wq.alloc (.cells #[.int .u8 ((ch.toNat : Nat) : Int)] 5)).alloc (.cells #[.string ⟨#[103]⟩, .string ⟨#[ch]⟩] 49))) 173 rfl ?_ ?_
                    · go_simp
                    clear mc0
                    refine hK.out _ _ ((HVC.out _ b15).1) (fun hHeld => ?_)
                    clear hK K
                    try simp only [Act.put, List.setIfInBounds_toArray, List.set_cons_zero, List.set_cons_succ]
                    obtain ⟨gn16, cn17, wn18, hr, hfr, ⟨u, hu⟩, hga, hgs, M3, hF3⟩ := HEn.out (wq.alloc (.cells #[.int .u8 ((ch.toNat : Nat) : Int)] 5)) b6
                    simp only [World.size_alloc] at hr
                    refine wpAnyH_ready (rs := [18]) (by kernel_rfl) (by simp) ?_
                    refine AllReadyH.cons rfl (fun K hK => ?_) AllReadyH.nil
                    rw [if_pos (by kernel_rfl)]
                    refine val_step2 (v := .slice (some ⟨gn16, 0, none⟩) (N + 1) cn17) (w2 := wn18) 181 rfl ?_ ?_
                    · go_simp
                    refine hK.out _ _ (hga) (fun hHeld => ?_)
                    clear hK K
                    try simp only [Act.put, List.setIfInBounds_toArray, List.set_cons_zero, List.set_cons_succ]
                    refine take2 19 182 (.pointer (some ⟨g, i * 37, none⟩)) rfl rfl (by kernel_rfl) (by kernel_rfl) (by kernel_rfl) (fun _ _ _ h => h) (by kernel_rfl) ?_ (by assumption) ?_
                    · intro w' hSw
                      have hSw : w'.cell? ⟨ga, k, none⟩ = some (.slice (some ⟨g, 0, none⟩) LL xc) := hSw
                      go_simp
                    try simp only [Act.put, List.setIfInBounds_toArray, List.set_cons_zero, List.set_cons_succ]
                    refine take2 20 183 (.pointer (some ⟨g, i * 37 + 4, none⟩)) rfl rfl (by kernel_rfl) (by kernel_rfl) (by kernel_rfl) (fun _ _ _ h => h) (by kernel_rfl) ?_ (by assumption) ?_
                    · intro w' hSw
                      have hSw : w'.cell? ⟨ga, k, none⟩ = some (.slice (some ⟨g, 0, none⟩) LL xc) := hSw
                      go_simp
                    try simp only [Act.put, List.setIfInBounds_toArray, List.set_cons_zero, List.set_cons_succ]
                    refine wpAnyH_ready (rs := [21]) (by kernel_rfl) (by simp) ?_
                    refine AllReadyH.cons rfl (fun K hK => ?_) AllReadyH.nil
                    rw [if_pos (by kernel_rfl)]
                    go_simp
                    refine hK.out _ _ (hgs) (fun hHeld => ?_)
                    clear hK K
                    try simp only [Act.put, List.setIfInBounds_toArray, List.set_cons_zero, List.set_cons_succ]
                    refine wpAnyH_done (by kernel_rfl) ?_ _
                    have HN := Hid.mk hF3
                    clear hHeld hr hfr hu hga hgs hF3
                    go_wp2_with fail
                    exact ⟨⟨i + 1, M3, by first | (rw [HWi.out.1]; done) | rfl | go_num, HWi.out.2, HN⟩, by first | (rw [HWi.out.1]; exact Nat.sub_lt_sub_left HWi.out.2 (Nat.lt_succ_self i)) | (have := HWi.out.2; simp [intOf]; omega)⟩
            · obtain rfl : i = L.length := Nat.le_antisymm hi (Nat.le_of_not_lt hli)
              have d2 : decide ((L.length : Int) < (L.length : Int)) = false := decide_eq_false (fun h => Int.lt_irrefl _ h)
              clear hx hi hli hxl
              go_wp2_with fail
              clear harr d2
              go_loopw [22] (fun v22 wr3 => ∃ (q : Nat) (M : List Ls), v22 = .int .i64 (q : Int) ∧ q ≤ 16 ∧ Hid (F4 w2.heap.size w10.heap.size ga W wr3 M ∧ SB L.length k L.length q M)) (fun v22 _ => 16 - (intOf v22).toNat)
              case atStart => exact ⟨0, M, rfl, Nat.zero_le _, HF⟩
              case round =>
                clear HF M
                obtain ⟨q, M, rfl, hq, HG⟩ := hrel
                obtain ⟨x, hx⟩ : ∃ x, M[k]? = some x := ⟨_, List.getElem?_eq_getElem (by rw [HG.out.1.len]; exact HWk.out.2)⟩
                have hxl := HG.out.2.at' hx
                by_cases hlq : q < 16
                · have d2 : decide ((q : Int) < 16) = true := decide_eq_true (by omega)
                  have HWq : Hid (wrap64 ((q : Int) + 1) = ((q + 1 : Nat) : Int) ∧ q < 16) := ⟨by unfold wrap64; omega, hlq⟩
                  have hw9 : wrap64 (-9 - (k : Int)) = -9 - (k : Int) := by unfold wrap64; omega
                  have harr := HG.out.1.arr hx
                  obtain ⟨g', c', w', hrun, hfw, hcw, hF2⟩ := HG.out.1.more hx (by have := HLn.out; omega) (zIt (-9 - (k : Int))) rfl
                  have hrun' : (Builtin.append_ #[26, 26] 26 #[.slice x.a x.R.length x.c, .slice (some ⟨wr.heap.size, 0, none⟩) 1 1]).run Tryz.prog (wr.alloc (.cells (ic (zIt (-9 - (k : Int))) none 0).toArray 46)) = .ok (.slice (some ⟨g', 0, none⟩) (x.R.length + 1) c') w' := hrun
                  have fw := hfw k
                  have HN : Hid (F4 w2.heap.size w10.heap.size ga W (w'.setCell ⟨ga, k, none⟩ (.slice (some ⟨g', 0, none⟩) (x.R.length + 1) c')) (M.set k ⟨some ⟨g', 0, none⟩, c', x.R ++ [(zIt (-9 - (k : Int)), none, 0)]⟩) ∧ SB L.length k L.length (q + 1) (M.set k ⟨some ⟨g', 0, none⟩, c', x.R ++ [(zIt (-9 - (k : Int)), none, 0)]⟩)) := ⟨hF2, HG.out.2.app hx _ _ rfl⟩
                  generalize M.set k ⟨some ⟨g', 0, none⟩, c', x.R ++ [(zIt (-9 - (k : Int)), none, 0)]⟩ = M3 at *
                  clear hx HG hq hlq hrun hfw hF2 hxl
                  generalize x.R.length = N at *
                  go_wp2_with fail
                  exact ⟨⟨q + 1, M3, by first | (rw [HWq.out.1]; done) | rfl | go_num, HWq.out.2, HN⟩, by first | (rw [HWq.out.1]; have := HWq.out.2; simp [intOf]; omega) | (have := HWq.out.2; simp [intOf]; omega)⟩
                · obtain rfl : q = 16 := by omega
                  have HN : Hid (F4 w2.heap.size w10.heap.size ga W wr M ∧ SB L.length (k + 1) 0 0 M) := ⟨HG.out.1, HG.out.2.next⟩
                  clear hx HG hq hlq hxl
                  go_wp2_with fail
                  exact ⟨⟨k + 1, M, by first | (rw [HWk.out.1]; done) | rfl | go_num, HWk.out.2, HN⟩, by first | (rw [HWk.out.1]; exact Nat.sub_lt_sub_left HWk.out.2 (Nat.lt_succ_self k)) | (have := HWk.out.2; simp [intOf]; omega)⟩
        · have hk4 : k = 4 := by omega
          have d1 : decide ((k : Int) < 4) = false := decide_eq_false (by omega)
          have HN : Hid (F4 w2.heap.size w10.heap.size ga W wr M ∧ SB L.length 4 0 0 M) := ⟨HF.out.1, by have h := HF.out.2; rw [hk4] at h; exact h⟩
          clear HF hk hlk hk4
          go_wp2_with fail
          go_loopw [23] (fun v23 wr => ∃ (k : Nat), v23 = .int .i64 (k : Int) ∧ k ≤ 4 ∧ Hid (F4 w2.heap.size w10.heap.size ga W wr M ∧ SB L.length 4 0 0 M)) (fun v23 _ => 4 - (intOf v23).toNat)
          case atStart => exact ⟨0, rfl, Nat.zero_le _, HN⟩
          case round =>
            clear HN d1
            obtain ⟨k, rfl, hk, HF⟩ := hrel
            by_cases hlk : k < 4
            · have d1 : decide ((k : Int) < 4) = true := decide_eq_true (by omega)
              have HWk : Hid (wrap64 ((k : Int) + 1) = ((k + 1 : Nat) : Int) ∧ k < 4) := ⟨by unfold wrap64; omega, hlk⟩
              have k0 : (0 : Int) ≤ (k : Int) := Int.natCast_nonneg k
              have k4 : (k : Int) < 4 := by omega
              obtain ⟨x, hx⟩ : ∃ x, M[k]? = some x := ⟨_, List.getElem?_eq_getElem (by rw [HF.out.1.len]; exact hlk)⟩
              have harr := HF.out.1.arr hx
              have hfin := HF.out.2.fin HF.out.1.len (by have := HLn.out; omega) hx
              have hmk := marked_any k hlk (x.R.map (·.1)) wr x.a x.c (Fi.it (show Fi w2.heap.size wr (.slice x.a x.R.length x.c) x.R from HF.out.1.fi k x hx)) hfin.1
              rw [List.length_map] at hmk
              generalize x.R.length = N at *
              clear hx hfin hk hlk
              go_wp2_with fail
              with_reducible refine Calls.mono hmk ?_
              rintro e wm ⟨rfl, bm⟩
              dsimp only
              have HN : Hid (F4 w2.heap.size w10.heap.size ga W wm M ∧ SB L.length 4 0 0 M) := ⟨HF.out.1.later bm, HF.out.2⟩
              clear HF bm hmk harr
              go_wp2_with fail
              exact ⟨⟨k + 1, by first | (rw [HWk.out.1]; done) | rfl | go_num, HWk.out.2, HN⟩, by first | (rw [HWk.out.1]; exact Nat.sub_lt_sub_left HWk.out.2 (Nat.lt_succ_self k)) | (have := HWk.out.2; simp [intOf]; omega)⟩
            · have hk4 : k = 4 := by omega
              have d1 : decide ((k : Int) < 4) = false := decide_eq_false (by omega)
              have HFl : Hid (Below w.heap.size w wr ∧ Bb4 wr g1 next (.slice a L.length cap) ∧ Wt w11.heap.size wr a6 c6 R5 ∧ Bn3 wr g15 0 next (.slice a6 L.length c6)) := ⟨by
                have hb := HF.out.1.bel (by have := HO15.out; omega)
                have ho := HF.out.1.ot
                rw [HGa.out] at ho
                exact ⟨(below_seq HBw.out Hcx.out).trans (hb.mono HS2.out.1), (hb.block g1 HS2.out.2).trans (HBx.out.later Hcx.out), HWt.out.ot Hcx.out ho (by have := HO15.out; omega), HZ5.out.ot Hcx.out ho (by have := HO15.out; omega)⟩⟩
              clear HF hk hlk hk4 HBw HBx HWt HZ5 HO15 Hcx HGa
              have HBw := Hid.mk HFl.out.1
              have HBx := Hid.mk HFl.out.2.1
              have HWt := Hid.mk HFl.out.2.2.1
              have HZ5 := Hid.mk HFl.out.2.2.2
              clear HFl
              have hc := HOF.out _ HBw.out
              obtain ⟨p0, p1⟩ := HBx.out.cells
              go_wp2_with fail
              clear p0 p1
              with_reducible refine Calls.mono hc ?_
              rintro e w16 ⟨h16, cx⟩
              clear hc
              rcases h16 with ⟨R6, a7, c7, _, rfl, hR, hF⟩ | ⟨hOf, _⟩
              case inr => exact absurd HOk.out hOf
              have hn : R6.length = L.length := by have := congrArg List.length hR; simpa [ofI] using this
              rw [hn] at hF ⊢
              have cx2 := (Below.refl w16.heap.size w16).alloc (Nat.le_refl _) (.cells #[.int .i64 0, .int .i64 next, .slice a7 L.length c7] 28)
              have HZ6 := Hid.mk (Bm3.new w16 0 next (.slice a7 L.length c7))
              have HL6 := Hid.mk ((Lw.new hF hn).later cx2)
              have HR6 := Hid.mk hR
              replace HWt := Hid.mk ((HWt.out.later cx).later cx2)
              replace HZ5 := Hid.mk ((HZ5.out.later cx).later cx2)
              replace HBw := Hid.mk (below_seq (below_seq HBw.out cx) cx2)
              clear cx cx2 hR hF hn d1
              dsimp only
              go_wp2_with fail
              generalize w16.alloc (.cells #[.int .i64 0, .int .i64 next, .slice a7 L.length c7] 28) = w17 at *
              obtain ⟨g24, hg⟩ : ∃ g, g = w16.heap.size := ⟨_, rfl⟩
              rw [← hg] at HZ6 ⊢
              clear hg
              have XC6 : Hid (∀ w', Below w17.heap.size w17 w' → Below w17.heap.size w17 w' ∧ w'.cell? ⟨g24, 0, none⟩ = some (.int .i64 0) ∧ w'.cell? ⟨g24, 1, none⟩ = some (.int .i64 next) ∧ w'.cell? ⟨g24, 2, none⟩ = some (.slice a7 L.length c7) ∧ w'.cell? ⟨g15, 0, none⟩ = some (.int .i64 0) ∧ w'.cell? ⟨g15, 1, none⟩ = some (.int .i64 next) ∧ w'.cell? ⟨g15, 2, none⟩ = some (.slice a6 L.length c6)) := ⟨fun w' h => by
                obtain ⟨x0, x1, x2⟩ := (HZ6.out.later h).cells
                obtain ⟨v0, v1, v2⟩ := (HZ5.out.later h).cells
                exact ⟨h, x0, x1, x2, v0, v1, v2⟩⟩
              have hcc : Below w17.heap.size w17 w17.drew := (Below.refl _ _).drew
              go_region_held3 (fun w' => Below w17.heap.size w17 w' ∧ w'.cell? ⟨g24, 0, none⟩ = some (.int .i64 0) ∧ w'.cell? ⟨g24, 1, none⟩ = some (.int .i64 next) ∧ w'.cell? ⟨g24, 2, none⟩ = some (.slice a7 L.length c7) ∧ w'.cell? ⟨g15, 0, none⟩ = some (.int .i64 0) ∧ w'.cell? ⟨g15, 1, none⟩ = some (.int .i64 next) ∧ w'.cell? ⟨g15, 2, none⟩ = some (.slice a6 L.length c6)) (first
                | with_reducible exact XC6.out _ hcc) (first
                | (go_at_call 10; with_reducible refine Calls.mono (HD.out _ a7 c7 _ ((HL6.out.later hcc).it HR6.out) HN4.out.1) ?_; rintro e w9a ⟨da, dc, rfl, di, b9⟩; replace hcc := below_seq hcc b9; have hsm := HSm.out _ w17 da dc _ (HWt.out.later hcc) di HN4.out.1 HN4.out.2.1 HN4.out.2.2)
                | (go_at_call 12; with_reducible refine Calls.mono hsm ?_; rintro e w10a ⟨rfl, b10⟩; replace hcc := below_seq hcc b10; clear hsm di b9 b10))
              rename_i hHeld
              clear hHeld XC6
              have HE := Hid.mk (below_seq HBw.out hcc)
              clear hcc
              go_wp2_with fail
              go_ret
              exact ⟨rfl, HE.out⟩
end Go.Proofs.YtdfjlmfnkhhnjaaGreatDoor
