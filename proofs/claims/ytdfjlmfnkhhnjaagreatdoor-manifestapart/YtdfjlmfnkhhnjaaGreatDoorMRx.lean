/- Read. -/
import Derived.Test.YtdfjlmfnkhhnjaaGreatDoorMMn
namespace Go.Proofs.YtdfjlmfnkhhnjaaGreatDoor
set_option maxRecDepth 100000
set_option linter.unusedVariables false
set_option linter.unusedSimpArgs false
open Go.RowKit
open Go.Proofs.YtdfjlmfnkhhnjaaGreatDoorP (TB recd nn LEN key Rd RdAt)
open Go.Proofs.YtdfjlmfnkhhnjaaGreatDoorH (hexL hx pz)
attribute [local go_sem ↓] Go.wp_at_zero Go.wp_at_succ
theorem hex_cut (f : Nat → UInt8) : hexL (cut32 f) = hexL f := by
  unfold hexL
  apply List.map_congr_left
  intro j hj
  have h64 : j < 64 := by simpa using hj
  have : j / 2 < 32 := by omega
  unfold hx cut32
  rw [if_pos this]
theorem itemR_nz (x : It) : itemR (nz x) = itemR x := by unfold itemR nz; simp only [hex_cut]
theorem recs_nz (m : Ma) : recs (nzM m) = recs m := by
  have e : (m.items.map nz).map itemR = m.items.map itemR := by rw [List.map_map]; apply List.map_congr_left; intro x _; exact itemR_nz x
  unfold recs headR nzM
  simp only [e, List.length_map]
theorem mtx_nz (m : Ma) : mtx (nzM m) = mtx m := by unfold mtx; rw [recs_nz]
theorem rtm_nz {m : Ma} (h : RtM m) : RtM (nzM m) := by
  refine ⟨h.n1, h.n2, h.c1, h.c2, by simpa [nzM] using h.len, fun x hx => ?_, ?_, ?_, ?_⟩
  · obtain ⟨y, hy, rfl⟩ := List.mem_map.1 hx
    obtain ⟨a, b, c, d, e, f⟩ := h.it y hy
    exact ⟨a, b, c, d, e, f⟩
  · show (m.items.map nz).Pairwise bef
    rw [List.pairwise_map]
    exact h.srt
  · show ((m.items.map nz).map (·.seq)).Nodup
    rw [List.map_map]
    exact h.nod
  · show isum (m.items.map nz) ≤ 65536
    have : isum (m.items.map nz) = isum m.items := by unfold isum; rw [List.map_map]; rfl
    rw [this]; exact h.byt
theorem itsFlen {b : List UInt8} : ∀ (f : Nat) (s : Rs), (itsF b f s).1.length ≤ f ∧ ∀ x ∈ (itsF b f s).1, x.l.length ≤ 8
  | 0, s => ⟨Nat.le_refl _, fun x hx => by simp [itsF] at hx⟩
  | f + 1, s => by
    unfold itsF
    split
    · exact ⟨Nat.zero_le _, fun x hx => by simp at hx⟩
    · obtain ⟨h1, h2⟩ := itsFlen f (itF b s).2
      refine ⟨by simpa using h1, fun x hx => ?_⟩
      rcases List.mem_cons.1 hx with q | q
      · rw [q]; exact itFlen
      · exact h2 x q
theorem itsFle {b : List UInt8} : ∀ (f : Nat) (s : Rs), s.1 ≤ b.length → (itsF b f s).2.1 ≤ b.length
  | 0, s, h => h
  | f + 1, s, h => by
    unfold itsF
    split
    · exact h
    · exact itsFle f _ (itFle h)
theorem maFle (b : List UInt8) : (maF b).2.1 ≤ b.length := by
  rw [maFeq]
  have h1 : (sincF b (valF b sKind (0, false)).1 (numF b sNext (valF b sFormat (valF b sKind (0, false)).2).2).2).2.1 ≤ b.length := by
    unfold sincF
    split
    · exact numFle (valFle (valFle (Nat.zero_le _)))
    · exact numFle (numFle (valFle (valFle (Nat.zero_le _))))
  exact valFle (itsFle _ _ (numFle h1))
theorem maFlen (b : List UInt8) : (maF b).1.items.length ≤ 256 ∧ ∀ x ∈ (maF b).1.items, x.l.length ≤ 8 := by
  rw [maFeq]
  obtain ⟨h1, h2⟩ := itsFlen (b := b) (min (numF b sCount (sincF b (valF b sKind (0, false)).1 (numF b sNext (valF b sFormat (valF b sKind (0, false)).2).2).2).2).1 256).toNat (numF b sCount (sincF b (valF b sKind (0, false)).1 (numF b sNext (valF b sFormat (valF b sKind (0, false)).2).2).2).2).2
  exact ⟨Nat.le_trans h1 (by omega), h2⟩
/-- a text that begins with a right manifest's -/
def Beg (b : List UInt8) (m : Ma) : Prop := RtM m ∧ ∃ r, b = mtx m ++ r
theorem Beg.at' {b : List UInt8} {m : Ma} (h : Beg b m) : maF b = (nzM m, ((mtx m).length, false)) := by
  obtain ⟨h1, r, e⟩ := h
  rw [e]; exact maFat h1 r
theorem Beg.take {b : List UInt8} {m : Ma} (h : Beg b m) : b.take (mtx m).length = mtx m := by
  obtain ⟨h1, r, e⟩ := h
  rw [e, List.take_left]
/-- which one it is -/
theorem beg_iff {b : List UInt8} : (∃ m, Beg b m) ↔ ((maF b).2.2 = false ∧ RtM (maF b).1 ∧ mtx (maF b).1 = b.take (maF b).2.1) := by
  constructor
  · rintro ⟨m, h⟩
    have e := h.at'
    rw [e]
    exact ⟨rfl, rtm_nz h.1, by rw [mtx_nz, h.take]⟩
  · rintro ⟨h1, h2, h3⟩
    exact ⟨(maF b).1, h2, b.drop (maF b).2.1, by rw [h3, List.take_append_drop]⟩
theorem beg_self {b : List UInt8} (h1 : (maF b).2.2 = false) (h2 : RtM (maF b).1) (h3 : mtx (maF b).1 = b.take (maF b).2.1) : Beg b (maF b).1 ∧ nzM (maF b).1 = (maF b).1 ∧ (maF b).2.1 = (mtx (maF b).1).length := by
  have hB : Beg b (maF b).1 := ⟨h2, b.drop (maF b).2.1, by rw [h3, List.take_append_drop]⟩
  have e := hB.at'
  exact ⟨hB, (congrArg Prod.fst e).symm, congrArg (fun p => p.2.1) e⟩
/-- what Read answers -/
def RdP (b : List UInt8) (w : World) (e : Ending) (w' : World) : Prop :=
  ((∃ (m : Ma) (R : List Ri) (a : Option Addr) (c : Nat), Beg b m ∧ nzM m = m ∧ e = .returned (.tuple #[.agg #[.int .i64 m.since, .int .i64 m.next, .slice a R.length c], .int .i64 ((mtx m).length : Int), .int .i64 0]) ∧ R.map (·.1) = m.items ∧ Fi w.heap.size w' (.slice a R.length c) R) ∨
   ((∀ m, ¬ Beg b m) ∧ e = .returned (.tuple #[.agg #[.int .i64 0, .int .i64 0, .slice none 0 0], .int .i64 0, .int .i64 90]))) ∧ Below w.heap.size w w'
theorem run_take (b : List UInt8) (j : Nat) (h : j ≤ b.length) (w : World) : (Go.Proofs.YtdfjlmfnkhhnjaaGreatDoorP.slS (str b) none (some (.int .i64 (j : Int))) none).run Tryz.prog w = .ok (str (b.take j)) w := by
  unfold Go.Proofs.YtdfjlmfnkhhnjaaGreatDoorP.slS
  have := run_slice_string_h (P := Tryz.prog) (w := w) (t := 9) (s := ⟨b.toArray⟩) Tryz.underlying9 .i64 (j : Int) (by omega) (by rw [str_size]; omega)
  rw [this, Int.toNat_natCast, ← str_data, Go.Proofs.YtdfjlmfnkhhnjaaGreatDoorP.ext_take]
attribute [local go_sem ↓] Go.Proofs.YtdfjlmfnkhhnjaaGreatDoorP.sl9
theorem results_ctt {fn : Func} {p : Tmp} {ty : TypeId} {t u : Tmp} (h : fn.results = #[.cell p ty, .tmp t, .tmp u]) (tmps : Array Value) (P : Program) (w : World) :
    (results fn tmps).run P w = ((asAddr (tmps.getD p undef)).run P w).andThen fun a w₁ => ((loadVar ty a).run P w₁).andThen fun v w₂ => .ok (.tuple #[v, tmps.getD t undef, tmps.getD u undef]) w₂ := by
  simp only [results, h]
  simp [Sem.run_bind, Result.andThen]
theorem Bm3.set3 {W : World} {r : Nat} {s n : Int} {v : Value} (h : Bm3 W r s n v) (s' n' : Int) (v' : Value) : Bm3 (((W.setCell ⟨r, 0, none⟩ (.int .i64 s')).setCell ⟨r, 1, none⟩ (.int .i64 n')).setCell ⟨r, 2, none⟩ v') r s' n' v' := by
  have e1 : Bm3 (W.setCell ⟨r, 0, none⟩ (.int .i64 s')) r s' n v := by unfold Bm3; rw [heap_setCell_same _ _ _ _ _ _ h]; rfl
  have e2 : Bm3 ((W.setCell ⟨r, 0, none⟩ (.int .i64 s')).setCell ⟨r, 1, none⟩ (.int .i64 n')) r s' n' v := by unfold Bm3; rw [heap_setCell_same _ _ _ _ _ _ e1]; rfl
  unfold Bm3; rw [heap_setCell_same _ _ _ _ _ _ e2]; rfl
theorem below3 {B : Nat} {w W : World} {r : Nat} (h : Below B w W) (hr : B ≤ r) (x y z : Value) : Below B w (((W.setCell ⟨r, 0, none⟩ x).setCell ⟨r, 1, none⟩ y).setCell ⟨r, 2, none⟩ z) := ((h.setCell (p := ⟨r, 0, none⟩) hr x).setCell (p := ⟨r, 1, none⟩) hr y).setCell (p := ⟨r, 2, none⟩) hr z
set_option maxRecDepth 100000 in
set_option maxHeartbeats 8000000 in
theorem mRead_any (b : List UInt8) (w : World) (hbl : b.length ≤ 4611686018427387904) (hT : TB w) (hE : EG w) :
    Calls Tryz.prog 9 #[str b] w (RdP b w) := by
  have b1 := (Below.refl w.heap.size w).alloc (Nat.le_refl _) (.cells #[.int .i64 0, .int .i64 0, .slice none 0 0] 28)
  have b2 := b1.alloc (by simp) (.cells #[str b, .int .i64 0, .bool false] 79)
  have e1 : Bm3 ((w.alloc (.cells #[.int .i64 0, .int .i64 0, .slice none 0 0] 28)).alloc (.cells #[str b, .int .i64 0, .bool false] 79)) w.heap.size 0 0 (.slice none 0 0) := by
    unfold Bm3; rw [heap_alloc_old _ _ _ (by simp)]; exact heap_alloc_new _ _
  have e2 : Rx ((w.alloc (.cells #[.int .i64 0, .int .i64 0, .slice none 0 0] 28)).alloc (.cells #[str b, .int .i64 0, .bool false] 79)) (w.heap.size + 1) b (0, false) := by
    have := heap_alloc_new (w.alloc (.cells #[.int .i64 0, .int .i64 0, .slice none 0 0] 28)) (.cells #[str b, .int .i64 0, .bool false] 79)
    rw [World.size_alloc] at this
    exact this
  have hc := rmani_any b (w.heap.size + 1) w _ e2 hbl b2 (by omega) hT hE
  have HB2 := Hid.mk b2
  have E1 := Hid.mk e1
  have hsz : ((w.alloc (.cells #[.int .i64 0, .int .i64 0, .slice none 0 0] 28)).alloc (.cells #[str b, .int .i64 0, .bool false] 79)).heap.size = w.heap.size + 2 := by simp
  clear b1 b2 e1 e2
  go_enter Tryz.func9, Tryz.ntmps9
  go_wp2_with fail
  generalize (w.alloc (.cells #[.int .i64 0, .int .i64 0, .slice none 0 0] 28)).alloc (.cells #[str b, .int .i64 0, .bool false] 79) = W2 at *
  refine Calls.mono hc ?_
  rintro e W3 ⟨R, a, c, rfl, hRm, hFi, hRP⟩
  dsimp only
  have hB3 := hRP.bel HB2.out (by omega)
  have e3 : Bm3 W3 w.heap.size 0 0 (.slice none 0 0) := E1.out.oth (hRP.oth.block _ E1.out.lt (by omega))
  have hlen := maFlen b
  have hle := maFle b
  have hbeg := @beg_iff b
  have hself := @beg_self b
  generalize maF b = MP at *
  obtain ⟨M, pl, bd⟩ := MP
  dsimp only at hRm hlen hle hbeg hself hRP ⊢
  have bx := (Below.refl W3.heap.size W3).alloc (Nat.le_refl _) (.cells #[.int .i64 M.since, .int .i64 M.next, .slice a R.length c] 28)
  have zm := Bm3.new W3 M.since M.next (.slice a R.length c)
  have rx4 := hRP.rx.later bx
  have e4 := e3.later bx
  have F4 := Hid.mk ((hFi.later bx).base (b' := w.heap.size) (by omega))
  have F4b := Hid.mk ((hFi.later bx).base (b' := w.heap.size + 2) (by omega))
  have B4 := Hid.mk (hB3.alloc hB3.size (.cells #[.int .i64 M.since, .int .i64 M.next, .slice a R.length c] 28))
  have HRl : Hid (R.length = M.items.length) := ⟨by rw [← hRm, List.length_map]⟩
  have x0 := rx4.cells.1
  have x1 := rx4.cells.2.1
  have x2 := rx4.cells.2.2.1
  obtain ⟨z0, z1, z2⟩ := zm.cells
  clear hFi hB3 e3
  dsimp only at x1 x2
  have HX4 := Hid.mk rx4
  have hsz3 : w.heap.size + 2 ≤ W3.heap.size := by have := hRP.oth.size; omega
  clear rx4 hRP
  cases bd with
  | true =>
    have hno : ∀ m, ¬ Beg b m := fun m h => by have := (hbeg.1 ⟨m, h⟩).1; cases this
    clear hbeg hself
    have n3 := e4.set3 0 0 (.slice none 0 0)
    have B5 := Hid.mk (below3 B4.out (Nat.le_refl _) (.int .i64 0) (.int .i64 0) (.slice none 0 0))
    obtain ⟨y0, y1, y2⟩ := e4.cells
    have f0 := e4.fz 0
    have f1 := e4.fz 1
    have f2 := e4.fz 2
    go_wp2_with fail
    generalize (((W3.alloc (.cells #[.int .i64 M.since, .int .i64 M.next, .slice a R.length c] 28)).setCell ⟨w.heap.size, 0, none⟩ (.int .i64 0)).setCell ⟨w.heap.size, 1, none⟩ (.int .i64 0)).setCell ⟨w.heap.size, 2, none⟩ (.slice none 0 0) = W9 at *
    obtain ⟨g0, g1, g2⟩ := n3.cells
    refine bodyPost_ret (v := .tuple #[.agg #[.int .i64 0, .int .i64 0, .slice none 0 0], .int .i64 0, .int .i64 90]) ?_ rfl ⟨.inr ⟨hno, rfl⟩, B5.out⟩
    rw [results_ctt rfl]
    go_simp
  | false =>
    have hw : Calls Tryz.prog 8 #[.agg #[.int .i64 M.since, .int .i64 M.next, .slice a R.length c]] (W3.alloc (.cells #[.int .i64 M.since, .int .i64 M.next, .slice a R.length c] 28)) (WrP M (W3.alloc (.cells #[.int .i64 M.since, .int .i64 M.next, .slice a R.length c] 28))) := by
      have := F4.out.it
      rw [hRm] at this
      have h2 := mWrite_any M _ a c this (fun x hx => Nat.le_trans (hlen.2 x hx) (by decide)) (Nat.le_trans hlen.1 (by decide)) (hT.below B4.out)
      rw [← HRl.out] at h2
      exact h2
    go_wp2_with fail
    generalize (W3.alloc (.cells #[.int .i64 M.since, .int .i64 M.next, .slice a R.length c] 28)) = W4 at *
    refine Calls.mono hw ?_
    rintro e W5 ⟨hwr, b5⟩
    have B5' := Hid.mk (B4.out.trans (b5.mono B4.out.size))
    have F5b := Hid.mk (F4b.out.later b5)
    have e5 := e4.later b5
    obtain ⟨z0, z1, z2⟩ := (zm.later b5).cells
    have x1 := (HX4.out.later b5).cells.2.1
    clear hw
    rcases hwr with ⟨hRt, rfl⟩ | ⟨hnR, rfl⟩
    · dsimp only
      have rt := run_take b pl hle
      by_cases hq : mtx M = b.take pl
      · obtain ⟨s1, s2, s3⟩ := hself trivial hRt hq
        have d1 : (mtx M == b.take pl) = true := by rw [hq]; simp
        have d2 : (mtx M != b.take pl) = false := by rw [bne, d1]; rfl
        have HFin := Hid.mk (And.intro s1 (And.intro s2 s3))
        clear s1 s2 s3 hq hbeg hself
        obtain ⟨tx, htx⟩ : ∃ tx, tx = mtx M := ⟨_, rfl⟩
        rw [← htx] at d1 d2 ⊢
        clear htx
        generalize b.take pl = tb at *
        have n3 := e5.set3 M.since M.next (.slice a R.length c)
        have B9 := Hid.mk (below3 B5'.out (Nat.le_refl _) (.int .i64 M.since) (.int .i64 M.next) (.slice a R.length c))
        have F9 : Hid (Fi w.heap.size (((W5.setCell ⟨w.heap.size, 0, none⟩ (.int .i64 M.since)).setCell ⟨w.heap.size, 1, none⟩ (.int .i64 M.next)).setCell ⟨w.heap.size, 2, none⟩ (.slice a R.length c)) (.slice a R.length c) R) := ⟨F5b.out.stay (by simp) (fun k hk => by have := (F5b.out.low hk).1; rw [hso _ _ (by omega), hso _ _ (by omega), hso _ _ (by omega)]) |>.base (by omega)⟩
        obtain ⟨y0, y1, y2⟩ := e5.cells
        have f0 := e5.fz 0
        have f1 := e5.fz 1
        have f2 := e5.fz 2
        go_wp2_with fail
        go_region
        all_goals (go_wp2_with fail)
        generalize ((W5.setCell ⟨w.heap.size, 0, none⟩ (.int .i64 M.since)).setCell ⟨w.heap.size, 1, none⟩ (.int .i64 M.next)).setCell ⟨w.heap.size, 2, none⟩ (.slice a R.length c) = W9 at *
        obtain ⟨g0, g1, g2⟩ := n3.cells
        refine bodyPost_ret (v := .tuple #[.agg #[.int .i64 M.since, .int .i64 M.next, .slice a R.length c], .int .i64 (pl : Int), .int .i64 0]) ?_ rfl ⟨.inl ⟨M, R, a, c, HFin.out.1, HFin.out.2.1, by rw [← HFin.out.2.2], hRm, F9.out.later (Below.refl _ _).drew⟩, B9.out.drew⟩
        rw [results_ctt rfl]
        go_simp
      · have d1 : (mtx M == b.take pl) = false := beq_eq_false_iff_ne.2 hq
        have d2 : (mtx M != b.take pl) = true := by rw [bne, d1]; rfl
        have hno : ∀ m, ¬ Beg b m := fun m h => hq (hbeg.1 ⟨m, h⟩).2.2
        clear hq hbeg hself
        generalize mtx M = tx at *
        generalize b.take pl = tb at *
        have n3 := e5.set3 0 0 (.slice none 0 0)
        have B5 := Hid.mk (below3 B5'.out (Nat.le_refl _) (.int .i64 0) (.int .i64 0) (.slice none 0 0))
        obtain ⟨y0, y1, y2⟩ := e5.cells
        have f0 := e5.fz 0
        have f1 := e5.fz 1
        have f2 := e5.fz 2
        go_wp2_with fail
        generalize ((W5.setCell ⟨w.heap.size, 0, none⟩ (.int .i64 0)).setCell ⟨w.heap.size, 1, none⟩ (.int .i64 0)).setCell ⟨w.heap.size, 2, none⟩ (.slice none 0 0) = W9 at *
        obtain ⟨g0, g1, g2⟩ := n3.cells
        refine bodyPost_ret (v := .tuple #[.agg #[.int .i64 0, .int .i64 0, .slice none 0 0], .int .i64 0, .int .i64 90]) ?_ rfl ⟨.inr ⟨hno, rfl⟩, B5.out⟩
        rw [results_ctt rfl]
        go_simp
    · dsimp only
      have hno : ∀ m, ¬ Beg b m := fun m h => hnR (hbeg.1 ⟨m, h⟩).2.1
      clear hbeg hself
      have n3 := e5.set3 0 0 (.slice none 0 0)
      have B5 := Hid.mk (below3 B5'.out (Nat.le_refl _) (.int .i64 0) (.int .i64 0) (.slice none 0 0))
      obtain ⟨y0, y1, y2⟩ := e5.cells
      have f0 := e5.fz 0
      have f1 := e5.fz 1
      have f2 := e5.fz 2
      go_wp2_with fail
      generalize ((W5.setCell ⟨w.heap.size, 0, none⟩ (.int .i64 0)).setCell ⟨w.heap.size, 1, none⟩ (.int .i64 0)).setCell ⟨w.heap.size, 2, none⟩ (.slice none 0 0) = W9 at *
      obtain ⟨g0, g1, g2⟩ := n3.cells
      refine bodyPost_ret (v := .tuple #[.agg #[.int .i64 0, .int .i64 0, .slice none 0 0], .int .i64 0, .int .i64 90]) ?_ rfl ⟨.inr ⟨hno, rfl⟩, B5.out⟩
      rw [results_ctt rfl]
      go_simp
end Go.Proofs.YtdfjlmfnkhhnjaaGreatDoor
