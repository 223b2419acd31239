import Derived.Test.YtdfjlmfnkhhnjaaGreatDoorGp
import Derived.Test.YtdfjlmfnkhhnjaaGreatDoorGn
import Derived.Test.YtdfjlmfnkhhnjaaGreatDoorMRx
import Derived.Deep.RegionHeld3
import Derived.Deep.DeepAppendWide
/- doc, its rows known. -/
namespace Go.Proofs.YtdfjlmfnkhhnjaaGreatDoor
set_option maxRecDepth 100000
set_option linter.unusedVariables false
set_option linter.unusedSimpArgs false
open Go.RowKit
open Go.Proofs.YtdfjlmfnkhhnjaaGreatDoorH (hv hv_length hv_one hv_eq)
attribute [local go_sem ↓] Go.wp_at_zero Go.wp_at_succ bsQe bdQe ldHe ldIe stIe
attribute [local go_sem] run_bsQ
/-- items at a, where their pairs lie known -/
def IIr (w : World) (a : Option Addr) (R : List Ri) : Prop := ∀ (k : Nat) (r : Ri), R[k]? = some r → ∃ b off, a = some ⟨b, off, none⟩ ∧ b < w.heap.size ∧ (∀ (j : Nat) (v : Value), (ic r.1 r.2.1 r.2.2)[j]? = some v → w.cell? ⟨b, off + k * 37 + j, none⟩ = some v) ∧ Sl w r.2.1 r.2.2 r.1.l
theorem Fi.iir {base : Nat} {w : World} {a : Option Addr} {n cap : Nat} {R : List Ri} (h : Fi base w (.slice a n cap) R) : IIr w a R := fun k r hq => by
  have hkl := (List.getElem?_eq_some_iff.1 hq).1
  rcases h.own.2 with ⟨e, h0⟩ | ⟨g, cap', cur, e, hbg, hg, _⟩
  · omega
  · injection e with e1 e2 e3
    subst e1 e2
    refine ⟨g, 0, rfl, lt_of_block hg, fun j v hj => ?_, (h.met k r hq).asSl2⟩
    have hj2 : j < 37 := by have := (List.getElem?_eq_some_iff.1 hj).1; rw [ic_length] at this; exact this
    have hl := rics_len R
    rw [Nat.zero_add, h.own.cellAt _ (by omega), rics_get R k r hq j hj2]
    exact hj
/-- what doc answers -/
def DoR (since next : Int) (R0 : List Ri) (n : Nat) (w : World) (e : Ending) (w' : World) : Prop := ∃ a' c', e = .returned (.agg #[.int .i64 since, .int .i64 next, .slice a' n c']) ∧ w'.ownsRow w.heap.size 81 37 (.slice a' n c') n (rics R0) ∧ Below w.heap.size w w'
theorem own_base {w : World} {B B' n s : Nat} {v : Value} {xs : List Value} {t : TypeId} (h : w.ownsRow B t s v n xs) (hb : B' ≤ B) : w.ownsRow B' t s v n xs := by
  refine ⟨h.1, ?_⟩
  rcases h.2 with e | ⟨g, cap, cur, e1, e2, e3⟩
  · exact Or.inl e
  · exact Or.inr ⟨g, cap, cur, e1, Nat.le_trans hb e2, e3⟩
set_option maxHeartbeats 8000000 in
theorem docR_any (m : Ma) (R0 : List Ri) (hR0 : R0.map (·.1) = m.items) (w : World) (a : Option Addr) (cap : Nat) (hL : IIr w a R0) (hl : m.items.length ≤ 1466015503658) :
    Calls Tryz.prog 10 #[.agg #[.int .i64 m.since, .int .i64 m.next, .slice a m.items.length cap]] w (DoR m.since m.next R0 m.items.length w) := by
  have b0 := (Below.refl w.heap.size w).alloc (Nat.le_refl _) (.cells #[.int .i64 m.since, .int .i64 m.next, .slice a m.items.length cap] 28)
  have b1 := b0.alloc b0.size (.cells #[.int .i64 0, .int .i64 0, .slice none 0 0] 38)
  have b2 := b1.alloc b1.size (.cells #[.int .i64 m.since, .int .i64 m.next, .slice none 0 0] 38)
  have HK0 : Hid (Dk w (((w.alloc (.cells #[.int .i64 m.since, .int .i64 m.next, .slice a m.items.length cap] 28)).alloc (.cells #[.int .i64 0, .int .i64 0, .slice none 0 0] 38)).alloc (.cells #[.int .i64 m.since, .int .i64 m.next, .slice none 0 0] 38)) m a cap (.slice none 0 0) []) := ⟨by
    refine ⟨?_, ?_, ?_, World.ownsRow_nil _ _ _ _, by simp, fun k r h => by simp at h, b2⟩
    · unfold Bm3; rw [heap_alloc_old _ _ _ (by simp; omega), heap_alloc_old _ _ _ (by simp)]; exact heap_alloc_new _ _
    · have := Bn3.new (w.alloc (.cells #[.int .i64 m.since, .int .i64 m.next, .slice a m.items.length cap] 28)) 0 0 (.slice none 0 0)
      rw [World.size_alloc] at this
      exact this.oth (heap_alloc_old _ _ _ (by simp))
    · have := Bn3.new ((w.alloc (.cells #[.int .i64 m.since, .int .i64 m.next, .slice a m.items.length cap] 28)).alloc (.cells #[.int .i64 0, .int .i64 0, .slice none 0 0] 38)) m.since m.next (.slice none 0 0)
      rw [World.size_alloc, World.size_alloc] at this
      exact this⟩
  have HL := Hid.mk hL
  have HR0 := Hid.mk hR0
  clear hL b0 b1 b2 hR0
  obtain ⟨since, next, items⟩ := m
  dsimp only at *
  go_enter Tryz.func10, Tryz.ntmps10
  go_wp2_with fail
  go_loopw [4] (fun i wr => ∃ (k : Nat) (R : List Ri) (ra : Option Addr) (rc : Nat), k ≤ items.length ∧ i = .int .i64 (k : Int) ∧ Hid (R.length = k) ∧ Hid (Dk w wr ⟨since, next, items⟩ a cap (.slice ra R.length rc) R) ∧ Hid (R = R0.take k)) (fun i _ => items.length - (intOf i).toNat)
  case atStart => exact ⟨0, [], none, 0, Nat.zero_le _, rfl, ⟨rfl⟩, HK0, ⟨rfl⟩⟩
  case round =>
    obtain ⟨k, R, ra, rc, hk, rfl, hRk, HO, HR⟩ := hrel
    obtain ⟨p0, p1, p2⟩ := HO.out.g0.cells
    dsimp only at p0 p1 p2
    by_cases hlt : k < items.length
    · have d3 : decide ((k : Int) < (items.length : Int)) = true := decide_eq_true (by omega)
      have k2 : (k : Int) < (items.length : Int) := by omega
      have hw1 : wrap64 ((k : Int) + 1) = ((k + 1 : Nat) : Int) := by unfold wrap64; omega
      have hkR : k < R0.length := by have := congrArg List.length HR0.out; rw [List.length_map] at this; omega
      obtain ⟨⟨x, ma, mc⟩, hx⟩ : ∃ r, R0[k]? = some r := ⟨R0[k], List.getElem?_eq_getElem hkR⟩
      obtain ⟨b, off, hab, hbl, hra, hsl⟩ := HL.out k (x, ma, mc) hx
      subst hab
      have l1 := run_ldI (range_later hra hbl HO.out.bel)
      have s1 := run_stI wr x ma mc
      have bx := (Below.refl wr.heap.size wr).alloc (Nat.le_refl _) (.cells (ic x ma mc).toArray 46)
      have z1 := Bi.new wr x ma mc
      have h1 := HO.out.later bx
      generalize hW1 : wr.alloc (.cells (ic x ma mc).toArray 46) = W1 at *
      obtain ⟨c0, c1, c2, c3, c4⟩ := z1.cells
      obtain ⟨t0, t1, t2⟩ := h1.g2.cells
      have hld := run_ldH2 z1
      have hbd := fun w => run_bdQ x ma mc w
      obtain ⟨g', c', w6, hr6, o6, s6, b6⟩ := run_rq (x, ma, mc) h1.own h1.le (by have := hRk.out; omega)
      have hr : ∀ ty, (Builtin.append_ #[36, 36] ty #[.slice ra R.length rc, .slice (some ⟨W1.heap.size, 0, none⟩) 1 1]).run Tryz.prog (W1.alloc (.cells (ic x ma mc).toArray 81)) = .ok (.slice (some ⟨g', 0, none⟩) (R.length + 1) c') w6 := hr6
      have hg2 : Bn3 w6 (w.heap.size + 1 + 1) since next (.slice ra R.length rc) := h1.g2.oth (b6.block _ (by omega))
      obtain ⟨y0, y1, y2⟩ := hg2.cells
      have y3 := hg2.fz 2
      have HF : Hid (Dk w (w6.setCell ⟨w.heap.size + 1 + 1, 2, none⟩ (.slice (some ⟨g', 0, none⟩) (R.length + 1) c')) ⟨since, next, items⟩ (some ⟨b, off, none⟩) cap (.slice (some ⟨g', 0, none⟩) (R.length + 1) c') (R ++ [(x, ma, mc)])) := ⟨h1.more (x, ma, mc) hsl o6 s6 b6⟩
      have HTk : Hid (R0.take (k + 1) = R0.take k ++ [(x, ma, mc)]) := ⟨by rw [List.take_add_one, hx]; rfl⟩
      clear hr6 o6 s6 b6 bx h1 hg2 hra hsl hx hW1 y0 y1 z1 hkR
      go_wp2_with (refine app_run rfl _ _ rfl rfl rfl (hr _) ?_)
      refine ⟨⟨k + 1, R ++ [(x, ma, mc)], _, _, hlt, by first | (rw [hw1]; done) | rfl | go_num, ⟨by simp [hRk.out]⟩, ⟨by rw [List.length_append]; exact HF.out⟩, ⟨by rw [HR.out, HTk.out]⟩⟩, by first | (rw [hw1]; exact Nat.sub_lt_sub_left hlt (Nat.lt_succ_self k)) | (simp [intOf]; omega)⟩
    · obtain rfl : k = items.length := Nat.le_antisymm hk (Nat.le_of_not_lt hlt)
      have d3 : decide ((items.length : Int) < (items.length : Int)) = false := decide_eq_false (fun q => Int.lt_irrefl _ q)
      have HR1 : R = R0 := by
        have h1 := HR.out
        have h2 := congrArg List.length HR0.out
        rw [List.length_map] at h2
        rwa [← h2, List.take_length] at h1
      obtain ⟨y0, y1, y2⟩ := HO.out.g1.cells
      obtain ⟨t0, t1, t2⟩ := HO.out.g2.cells
      have f0 := HO.out.g1.fz 0
      have f1 := HO.out.g1.fz 1
      have f2 := HO.out.g1.fz 2
      have hB := below3 (r := w.heap.size + 1) HO.out.bel (Nat.le_succ _) (.int .i64 since) (.int .i64 next) (.slice ra R.length rc)
      have hG := HO.out.g1.set3 since next (.slice ra R.length rc)
      have hI := own_keep (w' := ((wr.setCell ⟨w.heap.size + 1, 0, none⟩ (.int .i64 since)).setCell ⟨w.heap.size + 1, 1, none⟩ (.int .i64 next)).setCell ⟨w.heap.size + 1, 2, none⟩ (.slice ra R.length rc)) HO.out.own (fun g hg => by have := (HO.out.own.lt g hg).1; rw [hso _ _ (by omega), hso _ _ (by omega), hso _ _ (by omega)])
      have hI := own_base hI (show w.heap.size ≤ w.heap.size + 3 by omega)
      have HI := Hid.mk (show _ ∧ R = R0 from ⟨hI, HR1⟩)
      clear hI HR1 HK0
      go_wp2_with fail
      generalize ((wr.setCell ⟨w.heap.size + 1, 0, none⟩ (.int .i64 since)).setCell ⟨w.heap.size + 1, 1, none⟩ (.int .i64 next)).setCell ⟨w.heap.size + 1, 2, none⟩ (.slice ra R.length rc) = W8 at *
      obtain ⟨q0, q1, q2⟩ := hG.cells
      refine bodyPost_ret (v := .agg #[.int .i64 since, .int .i64 next, .slice ra R.length rc]) ?_ rfl ⟨ra, rc, by rw [hRk.out], by have h1 := HI.out.1; rw [HI.out.2] at h1; rw [← HI.out.2, hRk.out, HI.out.2] at h1; exact h1, hB⟩
      rw [results_c1 rfl]
      go_simp
end Go.Proofs.YtdfjlmfnkhhnjaaGreatDoor

/- ManifestApart: marked. -/
namespace Go.Proofs.YtdfjlmfnkhhnjaaGreatDoor
set_option maxRecDepth 100000
set_option linter.unusedVariables false
set_option linter.unusedSimpArgs false
open Go.RowKit
attribute [local go_sem ↓] Go.wp_at_zero Go.wp_at_succ
def chA (a : Nat) : UInt8 := UInt8.ofNat (48 + a)
theorem chA_n {a : Nat} (h : a < 4) : (chA a).toNat = 48 + a := by unfold chA; simp; omega
def prM (a : Nat) : En := ⟨[109], [chA a]⟩
def prG (a : Nat) : En := ⟨[103], [chA a]⟩
/-- what is written into the a-th list -/
structure MkL (a : Nat) (l : List It) : Prop where
  ge : 16 ≤ l.length
  le : l.length ≤ 300
  hd : ∀ (k : Nat) (x : It), l[k]? = some x → k + 16 < l.length → x.size = -1 - (a : Int) ∧ ∃ m, m ≤ 300 ∧ x.l = List.replicate m (prM a) ++ [prG a]
  tl : ∀ (k : Nat) (x : It), l[k]? = some x → l.length ≤ k + 16 → x.seq = -9 - (a : Int)
theorem ma_nums {a n k : Nat} (ha : a < 4) (hn : n ≤ 300) (h16 : 16 ≤ n) :
    wrap64 ((n : Int) - 16) = ((n - 16 : Nat) : Int) ∧ wrap64 (-9 - (a : Int)) = -9 - (a : Int) ∧ wrap64 (-1 - (a : Int)) = -1 - (a : Int) ∧ wrap64 (48 + (a : Int)) = (((chA a).toNat : Nat) : Int) ∧ IntKind.u8.wrap (((chA a).toNat : Nat) : Int) = (((chA a).toNat : Nat) : Int) := by
  have e := chA_n ha
  refine ⟨?_, ?_, ?_, ?_, ?_⟩
  · unfold wrap64; omega
  · unfold wrap64; omega
  · unfold wrap64; omega
  · rw [e]; unfold wrap64; omega
  · rw [e, IntKind.wrap_u8]; omega
theorem wN {m : Nat} (h : m ≤ 300) : wrap64 (m : Int) = (m : Int) ∧ wrap64 ((m : Int) + 1) = ((m + 1 : Nat) : Int) ∧ (m : Int) < (m : Int) + 1 ∧ ¬ ((m : Int) + 1 = 0) := by
  refine ⟨?_, ?_, by omega, by omega⟩ <;> (unfold wrap64; omega)
theorem wL {q m : Nat} (h : q < m) : (q : Int) + 1 < (m : Int) + 1 ∧ (q : Int) < (m : Int) ∧ (q : Int) < (m : Int) + 1 := by omega
set_option maxRecDepth 100000 in
set_option maxHeartbeats 8000000 in
theorem marked_any (a : Nat) (ha : a < 4) (l : List It) (w : World) (la : Option Addr) (cap : Nat) (hL : IIt w la l) (hM : MkL a l) :
    Calls Tryz.prog 13 #[.slice la l.length cap, .int .i64 (a : Int)] w fun e w' => e = .returned (.bool true) ∧ Below w.heap.size w w' := by
  have b1 := (Below.refl w.heap.size w).alloc (Nat.le_refl _) (.cells #[.int .u8 (48 + (a : Int))] 5)
  obtain ⟨e16, e9, e1, e48, e8⟩ := ma_nums (k := 0) ha hM.le hM.ge
  have hcv := Go.Proofs.YtdfjlmfnkhhnjaaGreatDoorP.conv_one (chA a) w
  rw [chA_n ha, show ((48 + a : Nat) : Int) = 48 + (a : Int) by omega] at hcv
  have HL := Hid.mk (hL.later b1)
  have HM := Hid.mk hM
  have HB := Hid.mk b1
  have HE := Hid.mk (And.intro e16 (And.intro e9 e1))
  have HHd : Hid (∀ (k : Nat) (x : It), l[k]? = some x → k + 16 < l.length → x.size = -1 - (a : Int) ∧ ∃ m, m ≤ 300 ∧ x.l = List.replicate m (⟨[109], [chA a]⟩ : En) ++ [⟨[103], [chA a]⟩]) := ⟨hM.hd⟩
  generalize chA a = ch at *
  clear hL hM b1 e16 e9 e1
  go_enter Tryz.func13, Tryz.ntmps13
  go_wp2_with fail
  generalize w.alloc (.cells #[.int .u8 (48 + (a : Int))] 5) = W1 at *
  clear hcv e48 e8
  go_loopw [6, 7, 8] (fun v6 _ _ wr => ∃ k : Nat, v6 = .int .i64 (k : Int) ∧ k ≤ l.length ∧ Hid (wr = W1)) (fun v6 _ _ _ => l.length - (intOf v6).toNat)
  case atStart => exact ⟨0, rfl, Nat.zero_le _, ⟨rfl⟩⟩
  case round =>
    obtain ⟨k, rfl, hk, HW⟩ := hrel
    have hwr := HW.out
    subst hwr
    by_cases hlt : k < l.length
    · have d1 : decide ((k : Int) < (l.length : Int)) = true := decide_eq_true (Int.ofNat_lt.2 hlt)
      have k0 : (0 : Int) ≤ (k : Int) := Int.natCast_nonneg k
      have k2 : (k : Int) < (l.length : Int) := Int.ofNat_lt.2 hlt
      have hw1 : wrap64 ((k : Int) + 1) = ((k + 1 : Nat) : Int) := by unfold wrap64; have := HM.out.le; omega
      obtain ⟨x, hx⟩ : ∃ x, l[k]? = some x := ⟨_, List.getElem?_eq_getElem hlt⟩
      obtain ⟨b, off, ma, mc, rfl, hbl, hr, hsl⟩ := HL.out.get k x hx
      have c1 : wr.cell? ⟨b, off + k * 37 + 1, none⟩ = some (.int .i64 x.seq) := hr 1 _ (by unfold ic; rfl)
      have c3 : wr.cell? ⟨b, off + k * 37 + 3, none⟩ = some (.int .i64 x.size) := hr 3 _ (by unfold ic; rfl)
      have c4 : wr.cell? ⟨b, off + k * 37 + 4, none⟩ = some (.slice ma x.l.length mc) := hr 4 _ (by unfold ic; rfl)
      have HLt := Hid.mk hlt
      obtain ⟨e16, e9, e1⟩ := HE.out
      by_cases ht : l.length ≤ k + 16
      · have hs := HM.out.tl k x hx ht
        rw [hs] at c1
        have d2 : decide (((l.length - 16 : Nat) : Int) ≤ (k : Int)) = true := decide_eq_true (by omega)
        have d2' : decide (l.length - 16 ≤ k) = true := decide_eq_true (by omega)
        have d3 : decide (l.length ≤ k + 16) = true := decide_eq_true ht
        have d3' : decide ((l.length : Int) ≤ (k : Int) + 16) = true := decide_eq_true (by omega)
        clear hx hr hsl hs ht hlt hk c3 c4 hbl e1
        go_wp2_with fail
        exact ⟨⟨k + 1, by first | (rw [hw1]; done) | rfl | go_num, HLt.out, ⟨by first | trivial | rfl⟩⟩, by first | (rw [hw1]; exact Nat.sub_lt_sub_left HLt.out (Nat.lt_succ_self k)) | (have := HLt.out; simp [intOf]; omega)⟩
      · have d2 : decide (((l.length - 16 : Nat) : Int) ≤ (k : Int)) = false := decide_eq_false (by omega)
        have d2' : decide (l.length - 16 ≤ k) = false := decide_eq_false (by omega)
        have d3 : decide (l.length ≤ k + 16) = false := decide_eq_false ht
        have d3' : decide ((l.length : Int) ≤ (k : Int) + 16) = false := decide_eq_false (by omega)
        obtain ⟨hsz, m, hm, hxl⟩ := HHd.out k x hx (by omega)
        rw [hsz] at c3
        rw [hxl, List.length_append, List.length_replicate] at c4
        rw [hxl] at hsl
        obtain ⟨pb, po, rfl, hpb, g0, g1⟩ := hsl.at'.get m ⟨[103], [ch]⟩ (by simp)
        have HMs : Hid (∀ q, q < m → wr.cell? ⟨pb, po + q * 2, none⟩ = some (.string ⟨#[109]⟩) ∧ wr.cell? ⟨pb, po + q * 2 + 1, none⟩ = some (.string ⟨#[ch]⟩)) := ⟨fun q hq => by
          obtain ⟨pb', po', e, _, h0, h1⟩ := hsl.at'.get q ⟨[109], [ch]⟩ (by rw [List.getElem?_append_left (by simpa using hq), List.getElem?_replicate, if_pos hq])
          injection e with e
          injection e with e2 e3
          subst e2 e3
          exact ⟨h0, h1⟩⟩
        have g0 : wr.cell? ⟨pb, po + m * 2, none⟩ = some (.string ⟨#[103]⟩) := g0
        have g1 : wr.cell? ⟨pb, po + m * 2 + 1, none⟩ = some (.string ⟨#[ch]⟩) := g1
        have c4 : wr.cell? ⟨b, off + k * 37 + 4, none⟩ = some (.slice (some ⟨pb, po, none⟩) (m + 1) mc) := c4
        have m0 : (0 : Int) ≤ (m : Int) := Int.natCast_nonneg m
        have m2 : (m : Int) < ((m + 1 : Nat) : Int) := (wN hm).2.2.1
        have hwm : wrap64 (m : Int) = (m : Int) := (wN hm).1
        have m2' : (m : Int) < (m : Int) + 1 := (wN hm).2.2.1
        have mne : ¬ ((m : Int) + 1 = 0) := (wN hm).2.2.2
        have mne' : (((m : Int) + 1) == 0) = false := beq_eq_false_iff_ne.2 mne
        have HMm := Hid.mk hm
        clear hx hr hsl hsz hxl ht hlt hk c1 hbl hpb hm e9
        have ca : ((-1 - (a : Int)) != (-1 - (a : Int))) = false := by simp
        go_wp2_with fail
        clear c3 g0 g1 hwm m0 m2 m2' mne mne' d2 d2' d3 d3' ca e16
        go_loopw [8] (fun v8 wr2 => ∃ q : Nat, v8 = .int .i64 (q : Int) ∧ q ≤ m ∧ Hid (wr2 = wr)) (fun v8 _ => m - (intOf v8).toNat)
        case atStart => exact ⟨0, rfl, Nat.zero_le _, ⟨rfl⟩⟩
        case round =>
          obtain ⟨q, rfl, hq, HW2⟩ := hrel
          have hwr2 := HW2.out
          subst hwr2
          have hq1 : wrap64 ((q : Int) + 1) = ((q + 1 : Nat) : Int) := (wN (Nat.le_trans hq HMm.out)).2.1
          by_cases hlq : q < m
          · have d2 : decide (((q + 1 : Nat) : Int) < (m : Int) + 1) = true := decide_eq_true (by omega)
            have d3 : decide ((q : Int) + 1 < (m : Int) + 1) = true := decide_eq_true (by omega)
            have d4 : decide ((q : Int) < (m : Int)) = true := decide_eq_true (by omega)
            have d5 : decide (q < m) = true := decide_eq_true hlq
            have q0 : (0 : Int) ≤ (q : Int) := Int.natCast_nonneg q
            have q2 : (q : Int) < (m : Int) + 1 := (wL hlq).2.2
            have q3 : (q : Int) < ((m + 1 : Nat) : Int) := (wL hlq).2.2
            obtain ⟨h0, h1⟩ := HMs.out q hlq
            have HLq := Hid.mk hlq
            clear hq hlq
            go_wp2_with fail
            exact ⟨⟨q + 1, by first | (rw [hq1]; done) | rfl | go_num, HLq.out, ⟨by first | trivial | rfl⟩⟩, by rw [hq1]; exact Nat.sub_lt_sub_left HLq.out (Nat.lt_succ_self q)⟩
          · obtain rfl : q = m := Nat.le_antisymm hq (Nat.le_of_not_lt hlq)
            have d2 : decide (((q + 1 : Nat) : Int) < (q : Int) + 1) = false := decide_eq_false (fun h => Int.lt_irrefl _ h)
            have d3 : decide ((q : Int) + 1 < (q : Int) + 1) = false := decide_eq_false (fun h => Int.lt_irrefl _ h)
            clear hq hlq
            go_wp2_with fail
            exact ⟨⟨k + 1, by first | (rw [hw1]; done) | rfl | go_num, HLt.out, ⟨by first | trivial | rfl⟩⟩, by first | (rw [hw1]; exact Nat.sub_lt_sub_left HLt.out (Nat.lt_succ_self k)) | (have := HLt.out; simp [intOf]; omega)⟩
    · obtain rfl : k = l.length := Nat.le_antisymm hk (Nat.le_of_not_lt hlt)
      have d1 : decide ((l.length : Int) < (l.length : Int)) = false := decide_eq_false (fun h => Int.lt_irrefl _ h)
      go_wp2_with fail
      go_ret
      exact ⟨rfl, HB.out⟩
end Go.Proofs.YtdfjlmfnkhhnjaaGreatDoor

/- ManifestApart: copied. -/
namespace Go.Proofs.YtdfjlmfnkhhnjaaGreatDoor
set_option maxRecDepth 100000
set_option linter.unusedVariables false
set_option linter.unusedSimpArgs false
open Go.RowKit
attribute [local go_sem ↓] Go.wp_at_zero Go.wp_at_succ ldIe stIe bsIe
attribute [local go_sem] run_bsI
attribute [-go_sem] Go.Builtin.append_
theorem run_sliceM {w : World} {base : Nat} {v : Value} {l : List En} (ty : TypeId) {ad : Option Addr} {k c : Nat} (q : List En) (hO : Ow base w v l) (hS : Sl w ad c q) (hk : q.length = k) (hn : l.length + q.length ≤ 4500000000000) :
    ∃ v' w', (Builtin.append_ #[43, 43] ty #[v, .slice ad k c]).run Tryz.prog w = .ok v' w' ∧ Ow base w' v' (l ++ q) ∧ Below base w w' := by
  obtain ⟨i0, hi0, hz0, hz1, hz2⟩ := infoP
  have hm : maxLen = 9223372036854775807 := rfl
  subst hk
  cases ad with
  | none =>
    have hc := hS.nil rfl
    have h0 : q.length = 0 := by have := hS.le; omega
    have hq : q = [] := List.eq_nil_of_length_eq_zero h0
    subst hq hc
    exact ⟨v, w, run_append_owned_none (P := Tryz.prog) w base 43 ty 49 i0 2 Tryz.underlying43 hi0 _ l.length (pcells l) hO.own, by simpa using hO, Below.refl _ _⟩
  | some ad =>
    have hcells : ∀ j u, (pcells q)[j]? = some u → w.cell? (ad.add j) = some u := by
      rcases Nat.eq_zero_or_pos q.length with h0 | h0
      · intro j u hj
        have hq : q = [] := List.eq_nil_of_length_eq_zero h0
        subst hq
        simp [pcells] at hj
      · obtain ⟨b, off, e, _⟩ := hS.at'.get 0 q[0] (List.getElem?_eq_getElem h0)
        injection e with e
        subst e
        exact hS.at'.cells
    obtain ⟨v', w', hr, hown, hgrow, _⟩ := run_append_own_wide (P := Tryz.prog) w base 43 ty 49 i0 _ 2 32 Tryz.underlying43 hi0 hz0 hz1 hz2 rfl (by omega) v l.length (pcells l) hO.own ad q.length c (pcells q) (pcells_length q) hcells (pcells_one q) (by rw [hm]; omega) (by omega) hO.le
    refine ⟨v', w', hr, ⟨?_, ?_⟩, grown_below hO.own hO.le hgrow⟩
    · rw [pcells_append, List.length_append]; exact hown
    · have := hgrow.size; have h2 := hO.le; omega
theorem own_e0 {W : World} {g B : Nat} (h : W.heap[g]? = some (.cells #[] 49 (0, 0))) (hB : B ≤ g) : Ow B W (.slice (some ⟨g, 0, none⟩) 0 0) [] :=
  ⟨⟨rfl, .inr ⟨g, 0, #[], rfl, hB, h, Nat.le_refl _, by decide, rfl, rfl⟩⟩, Nat.le_trans hB (Nat.le_of_lt (lt_of_block h))⟩
theorem ow_form0 {base : Nat} {w : World} {v : Value} {l : List En} (h : Ow base w v l) : ∃ a c, v = .slice a l.length c := by
  rcases h.own.2 with ⟨e, h0⟩ | ⟨g, cap, cur, e, _⟩
  · exact ⟨none, 0, by rw [e, h0]⟩
  · exact ⟨_, cap, e⟩
/-- pairs laid into an empty row -/
theorem copy_into {w : World} {ma : Option Addr} {mc : Nat} {l : List En} (hS : Sl w ma mc l) (hl : l.length ≤ 4000000) :
    ∃ a2 c2 w', (Builtin.append_ #[43, 43] 43 #[.slice (some ⟨w.heap.size, 0, none⟩) 0 0, .slice ma l.length mc]).run Tryz.prog (w.alloc (.cells #[] 49)) = .ok (.slice a2 l.length c2) w' ∧ Ow w.heap.size w' (.slice a2 l.length c2) l ∧ Below w.heap.size w w' := by
  have ba := (Below.refl w.heap.size w).alloc (Nat.le_refl _) (.cells #[] 49)
  obtain ⟨v', w', hr, ho, hb⟩ := run_sliceM 43 l (own_e0 (heap_alloc_new w (.cells #[] 49)) (Nat.le_refl w.heap.size)) (hS.later ba) rfl (by simp; omega)
  rw [List.nil_append] at ho
  obtain ⟨a2, c2, e⟩ := ow_form0 ho
  subst e
  exact ⟨a2, c2, w', hr, ho, ba.trans hb⟩
theorem bm3_keep {base : Nat} {w : World} {v : Value} {R : List Ri} (h : Fi base w v R) {g : Nat} {s n : Int} {q : Value} (hb : Bm3 w g s n q) (j : Nat) (c : Value) : Fi base (w.setCell ⟨g, j, none⟩ c) v R :=
  h.stay (by simp) (fun k hk => hso _ _ (fun e => by
    subst e
    unfold Bm3 at hb
    rcases hk with q | ⟨i, r, hr, q⟩
    · obtain ⟨cs, e2⟩ := own_type h.own q
      rw [hb] at e2
      injection e2 with e2
      injection e2 with _ e2 _
      exact absurd e2 (by decide)
    · obtain ⟨cs, e2⟩ := own_type (h.met i r hr).own q
      rw [hb] at e2
      injection e2 with e2
      injection e2 with _ e2 _
      exact absurd e2 (by decide)))
set_option maxRecDepth 100000 in
set_option maxHeartbeats 8000000 in
theorem copied_any (m : Ma) (w : World) (a : Option Addr) (cap : Nat) (hL : IIt w a m.items) (hl : m.items.length ≤ 1000000) (hz : ∀ x ∈ m.items, x.l.length ≤ 4000000) :
    Calls Tryz.prog 11 #[.agg #[.int .i64 m.since, .int .i64 m.next, .slice a m.items.length cap]] w fun e w' => ∃ (R : List Ri) (a' : Option Addr) (c' : Nat), e = .returned (.agg #[.int .i64 m.since, .int .i64 m.next, .slice a' m.items.length c']) ∧ R.map (·.1) = m.items ∧ Fi w.heap.size w' (.slice a' m.items.length c') R ∧ Below w.heap.size w w' := by
  have b1 := (Below.refl w.heap.size w).alloc (Nat.le_refl _) (.cells #[.int .i64 m.since, .int .i64 m.next, .slice a m.items.length cap] 28)
  have b2 := b1.alloc b1.size (.cells #[.int .i64 0, .int .i64 0, .slice none 0 0] 28)
  have z0 : Bm3 ((w.alloc (.cells #[.int .i64 m.since, .int .i64 m.next, .slice a m.items.length cap] 28)).alloc (.cells #[.int .i64 0, .int .i64 0, .slice none 0 0] 28)) w.heap.size m.since m.next (.slice a m.items.length cap) := (Bm3.new w _ _ _).later ((Below.refl _ _).alloc (Nat.le_refl _) _)
  have z1 : Bm3 ((w.alloc (.cells #[.int .i64 m.since, .int .i64 m.next, .slice a m.items.length cap] 28)).alloc (.cells #[.int .i64 0, .int .i64 0, .slice none 0 0] 28)) (w.heap.size + 1) 0 0 (.slice none 0 0) := by
    have := Bm3.new (w.alloc (.cells #[.int .i64 m.since, .int .i64 m.next, .slice a m.items.length cap] 28)) 0 0 (.slice none 0 0)
    rw [World.size_alloc] at this
    exact this
  have HB := Hid.mk b2
  have HZ0 := Hid.mk z0
  have HZ1 := Hid.mk z1
  have HL := Hid.mk (hL.later b2)
  have HN := Hid.mk hl
  have HXz := Hid.mk hz
  clear b1 b2 z0 z1 hL hl hz
  obtain ⟨since, next, items⟩ := m
  dsimp only at *
  go_enter Tryz.func11, Tryz.ntmps11
  go_wp2_with fail
  generalize (w.alloc (.cells #[.int .i64 since, .int .i64 next, .slice a items.length cap] 28)).alloc (.cells #[.int .i64 0, .int .i64 0, .slice none 0 0] 28) = W0 at *
  have HJ0 : Hid (Fi W0.heap.size W0 (.slice none 0 0) [] ∧ Below W0.heap.size W0 W0) := ⟨Fi.nil W0 _ (Nat.le_refl _), Below.refl _ _⟩
  go_loopw [3, 4, 5] (fun v3 v4 _ wr => ∃ (k : Nat) (R : List Ri) (ra : Option Addr) (rc : Nat), v3 = .slice ra R.length rc ∧ v4 = .int .i64 (k : Int) ∧ k ≤ items.length ∧ Hid (R.length = k ∧ R.map (·.1) = items.take k) ∧ Hid (Fi W0.heap.size wr (.slice ra R.length rc) R ∧ Below W0.heap.size W0 wr)) (fun _ v4 _ _ => items.length - (intOf v4).toNat)
  case atStart => exact ⟨0, [], none, 0, rfl, rfl, Nat.zero_le _, ⟨rfl, by simp⟩, HJ0⟩
  case round =>
    clear HJ0
    obtain ⟨k, R, ra, rc, rfl, rfl, hk, HR, HJ⟩ := hrel
    obtain ⟨x0, x1, x2⟩ := (HZ0.out.later HJ.out.2).cells
    by_cases hlt : k < items.length
    · have d1 : decide ((k : Int) < (items.length : Int)) = true := decide_eq_true (Int.ofNat_lt.2 hlt)
      have k0 : (0 : Int) ≤ (k : Int) := Int.natCast_nonneg k
      have k2 : (k : Int) < (items.length : Int) := Int.ofNat_lt.2 hlt
      have hw1 : wrap64 ((k : Int) + 1) = ((k + 1 : Nat) : Int) := by unfold wrap64; have := HN.out; omega
      obtain ⟨x, hx⟩ : ∃ x, items[k]? = some x := ⟨_, List.getElem?_eq_getElem hlt⟩
      obtain ⟨b, off, ma, mc, hab, hbl, hr0, hsl⟩ := (HL.out.later HJ.out.2).get k x hx
      subst hab
      have hxl : x.l.length ≤ 4000000 := HXz.out x (List.mem_of_getElem? hx)
      have HTk : Hid (items.take (k + 1) = items.take k ++ [x]) := ⟨by rw [List.take_add_one, hx]; rfl⟩
      have l1 := run_ldI hr0
      have s1 := run_stI wr x ma mc
      have b5 := (Below.refl wr.heap.size wr).alloc (Nat.le_refl _) (.cells (ic x ma mc).toArray 46)
      have hb5 := Bi.new wr x ma mc
      have hsl5 := hsl.later b5
      have hgv : wr.heap.size < (wr.alloc (.cells (ic x ma mc).toArray 46)).heap.size := by simp
      go_upto_region 6 with fail
      generalize wr.alloc (.cells (ic x ma mc).toArray 46) = W5 at *
      generalize hgve : wr.heap.size = gv at *
      clear l1 s1
      obtain ⟨ma2, mc2, w6, hr6, ho6, b6⟩ := copy_into hsl5 hxl
      have hb6 := hb5.later b6
      obtain ⟨c0, c1, c2, c3, c4⟩ := hb5.cells
      have c4a := (hb5.later ((Below.refl W5.heap.size W5).alloc (Nat.le_refl _) (.cells #[] 49))).cells.2.2.2.2
      obtain ⟨e0, e1, e2, e3, e4⟩ := hb6.cells
      have f4 := hb6.fz 4
      have hb7 := hb6.setl x.l ma2 mc2
      have l7 := run_ldI hb7.range
      have b57 : Below gv W5 (w6.setCell ⟨gv, 4, none⟩ (.slice ma2 x.l.length mc2)) := (show Below gv W5 w6 from b6.mono (Nat.le_of_lt hgv)).setCell (p := ⟨gv, 4, none⟩) (Nat.le_refl _) _
      have bw7 : Below wr.heap.size wr (w6.setCell ⟨gv, 4, none⟩ (.slice ma2 x.l.length mc2)) := by rw [hgve]; exact b5.trans b57
      have ho7 : Ow W5.heap.size (w6.setCell ⟨gv, 4, none⟩ (.slice ma2 x.l.length mc2)) (.slice ma2 x.l.length mc2) x.l := ho6.stay (by simp) (fun g hg => hso _ _ (by have := (ho6.own.lt g hg).1; omega))
      have hF7 := HJ.out.1.later bw7
      obtain ⟨g', c', w', hrun, hF8, b8, hk8⟩ := run_ri 26 (x, ma2, mc2) hF7 (fun i p hp b hb => by have := (HJ.out.1.met i p hp).own.lt b hb; omega) (by have := HJ.out.2.size; omega) ho7 (by rw [HR.out.1]; have := HN.out; omega)
      have hrun' : (Builtin.append_ #[26, 26] 26 #[.slice ra R.length rc, .slice (some ⟨w6.heap.size, 0, none⟩) 1 1]).run Tryz.prog ((w6.setCell ⟨gv, 4, none⟩ (.slice ma2 x.l.length mc2)).alloc (.cells (ic x ma2 mc2).toArray 46)) = .ok (.slice (some ⟨g', 0, none⟩) (R.length + 1) c') w' := by
        have h0 := hrun
        rw [show (w6.setCell ⟨gv, 4, none⟩ (.slice ma2 x.l.length mc2)).heap.size = w6.heap.size by simp] at h0
        exact h0
      have hlen : (R ++ [((x, ma2, mc2) : Ri)]).length = R.length + 1 := by simp
      have HNx : Hid (Fi W0.heap.size w' (.slice (some ⟨g', 0, none⟩) (R ++ [((x, ma2, mc2) : Ri)]).length c') (R ++ [(x, ma2, mc2)]) ∧ Below W0.heap.size W0 w') := ⟨by rw [hlen]; exact hF8, (HJ.out.2.trans (bw7.mono HJ.out.2.size)).trans b8⟩
      have HRn : Hid ((R ++ [((x, ma2, mc2) : Ri)]).length = k + 1 ∧ (R ++ [((x, ma2, mc2) : Ri)]).map (·.1) = items.take (k + 1)) := ⟨by rw [hlen, HR.out.1], by rw [List.map_append, HR.out.2, HTk.out]; rfl⟩
      have HHl := Hid.mk hlen
      clear hx hbl hr0 hsl hxl b5 hb5 hsl5 hgv hgve ho6 b6 hb6 hb7 b57 bw7 ho7 hF7 hrun hF8 b8 hk8 hlen HTk x0 x1 x2 c0 c1 c2 c3 e0 e1 e2 e3
      go_wp2_with fail
      exact ⟨⟨k + 1, R ++ [(x, ma2, mc2)], _, _, by rw [HHl.out], by first | (rw [hw1]; done) | rfl | go_num, hlt, HRn, HNx⟩, by first | (rw [hw1]; exact Nat.sub_lt_sub_left hlt (Nat.lt_succ_self k)) | (simp [intOf]; omega)⟩
    · obtain rfl : k = items.length := Nat.le_antisymm hk (Nat.le_of_not_lt hlt)
      have d1 : decide ((items.length : Int) < (items.length : Int)) = false := decide_eq_false (fun h => Int.lt_irrefl _ h)
      have hRl : R.length = items.length := HR.out.1
      rw [hRl]
      have hz0 := HZ0.out.later HJ.out.2
      have hz1 := HZ1.out.later HJ.out.2
      have f2 := hz0.fz 2
      have hz0' : Bm3 (wr.setCell ⟨w.heap.size, 2, none⟩ (.slice ra items.length rc)) w.heap.size since next (.slice ra items.length rc) := by unfold Bm3; rw [heap_setCell_same _ _ _ _ _ _ hz0]; rfl
      have hz1' : Bm3 (wr.setCell ⟨w.heap.size, 2, none⟩ (.slice ra items.length rc)) (w.heap.size + 1) 0 0 (.slice none 0 0) := hz1.oth (hso _ _ (by omega))
      obtain ⟨y0, y1, y2⟩ := hz0'.cells
      obtain ⟨q0, q1, q2⟩ := hz1'.cells
      have g0 := hz1'.fz 0
      have g1 := hz1'.fz 1
      have g2 := hz1'.fz 2
      have hF := HJ.out.1
      rw [hRl] at hF
      have hF1 := bm3_keep hF hz0 2 (.slice ra items.length rc)
      have hF2 := bm3_keep hF1 hz1' 0 (.int .i64 since)
      have hz2 : Bm3 ((wr.setCell ⟨w.heap.size, 2, none⟩ (.slice ra items.length rc)).setCell ⟨w.heap.size + 1, 0, none⟩ (.int .i64 since)) (w.heap.size + 1) since 0 (.slice none 0 0) := by unfold Bm3; rw [heap_setCell_same _ _ _ _ _ _ hz1']; rfl
      have hF3 := bm3_keep hF2 hz2 1 (.int .i64 next)
      have hz3 : Bm3 (((wr.setCell ⟨w.heap.size, 2, none⟩ (.slice ra items.length rc)).setCell ⟨w.heap.size + 1, 0, none⟩ (.int .i64 since)).setCell ⟨w.heap.size + 1, 1, none⟩ (.int .i64 next)) (w.heap.size + 1) since next (.slice none 0 0) := by unfold Bm3; rw [heap_setCell_same _ _ _ _ _ _ hz2]; rfl
      have hF4 := bm3_keep hF3 hz3 2 (.slice ra items.length rc)
      have n3 := hz1'.set3 since next (.slice ra items.length rc)
      have HBe := Hid.mk (below3 (r := w.heap.size + 1) ((HB.out.trans (HJ.out.2.mono HB.out.size)).setCell (p := ⟨w.heap.size, 2, none⟩) (Nat.le_refl _) (.slice ra items.length rc)) (Nat.le_succ _) (.int .i64 since) (.int .i64 next) (.slice ra items.length rc))
      have HF4 := Hid.mk (hF4.base HB.out.size)
      have HRm : Hid (R.map (·.1) = items) := ⟨by have := HR.out.2; rwa [List.take_length] at this⟩
      clear hRl hz0 hz1 hz0' hz1' hF hF1 hF2 hF3 hF4 hz2 hz3 hlt hk HR HJ
      go_wp2_with fail
      generalize (((wr.setCell ⟨w.heap.size, 2, none⟩ (.slice ra items.length rc)).setCell ⟨w.heap.size + 1, 0, none⟩ (.int .i64 since)).setCell ⟨w.heap.size + 1, 1, none⟩ (.int .i64 next)).setCell ⟨w.heap.size + 1, 2, none⟩ (.slice ra items.length rc) = W8 at *
      obtain ⟨p0, p1, p2⟩ := n3.cells
      refine bodyPost_ret (v := .agg #[.int .i64 since, .int .i64 next, .slice ra items.length rc]) ?_ rfl ⟨R, ra, rc, rfl, HRm.out, HF4.out, HBe.out⟩
      rw [results_c1 rfl]
      go_simp
end Go.Proofs.YtdfjlmfnkhhnjaaGreatDoor
