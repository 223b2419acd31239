import Derived.Test.YtdfjlmfnkhhnjaaGreatDoorGy
/- The reader's manifest. -/
namespace Go.Proofs.YtdfjlmfnkhhnjaaGreatDoor
set_option maxRecDepth 100000
set_option linter.unusedVariables false
set_option linter.unusedSimpArgs false
open Go.RowKit
open Go.Proofs.YtdfjlmfnkhhnjaaGreatDoorP (TB recd nn LEN key Rd RdAt)
open Go.Proofs.YtdfjlmfnkhhnjaaGreatDoorH (hv hv_length hv_one hv_eq)
attribute [local go_sem ↓] Go.wp_at_zero Go.wp_at_succ bsIe
attribute [local go_sem] run_bsI
theorem at_stp {ops : Array Oper} {o : Oper} {a : Act} {K : Act → World → Prop} {Q : Exit → Act → World → Prop} {E' : Prop} {W : World} {f : Nat} {args : Array Operand} {ts : Array TypeId} (ho : o.op = .call { callee := .value (.func f), args := args, argTypes := ts }) (h : if Region.wanted o (yielded ops a.tmps) = true then Oper.wp Tryz.prog o a W K Q else E') : if Region.wanted o (yielded ops a.tmps) = true then Oper.wp Tryz.prog o a W K Q else E' := h
theorem at_sta {ops : Array Oper} {o : Oper} {a : Act} {K : Act → World → Prop} {Q : Exit → Act → World → Prop} {E' : Prop} {W : World} {args : Array Operand} {ts : Array TypeId} (ho : o.op = .call { callee := .builtin .append, args := args, argTypes := ts }) (h : if Region.wanted o (yielded ops a.tmps) = true then Oper.wp Tryz.prog o a W K Q else E') : if Region.wanted o (yielded ops a.tmps) = true then Oper.wp Tryz.prog o a W K Q else E' := h
theorem Bm3.fz {w : World} {g : Nat} {s n : Int} {v : Value} (h : Bm3 w g s n v) (j : Nat) : w.frozen? ⟨g, j, none⟩ = false := frozen_of_row _ _ _ _ _ h
theorem Bm3.oth {w w' : World} {g : Nat} {s n : Int} {v : Value} (h : Bm3 w g s n v) (he : w'.heap[g]? = w.heap[g]?) : Bm3 w' g s n v := by unfold Bm3; rw [he]; exact h
/-- what is kept while a manifest is read -/
structure MK (b : List UInt8) (g : Nat) (w W : World) (s : Rs) (sn nx : Int) (v : Value) (R : List Ri) : Prop where
  rx : Rx W g b s
  le : s.1 ≤ b.length
  oth : Oth (fun y => y = g) w W
  g2 : Bm3 W w.heap.size 0 0 (.slice none 0 0)
  bm : Bm3 W (w.heap.size + 1) sn nx v
  fi : Fi (w.heap.size + 2) W v R
  gl : g < w.heap.size
section
variable {b : List UInt8} {g : Nat} {w0 w W W' : World} {s s' : Rs} {sn nx : Int} {v : Value} {R : List Ri}
theorem MK.step (h : MK b g w W s sn nx v R) (hr : RP g b s' W W') (hs : s'.1 ≤ b.length) : MK b g w W' s' sn nx v R := by
  have := h.gl
  exact ⟨hr.rx, hs, h.oth.trans hr.oth, h.g2.oth (hr.oth.block _ h.g2.lt (by omega)), h.bm.oth (hr.oth.block _ h.bm.lt (by omega)), h.fi.stay hr.oth.size (fun k hk => hr.oth.block k (h.fi.low hk).2 (by have := (h.fi.low hk).1; omega)), h.gl⟩
theorem MK.bel (h : MK b g w W s sn nx v R) (hb : Below w0.heap.size w0 w) (hg : w0.heap.size ≤ g) : Below w0.heap.size w0 W := h.oth.bel hb hg
theorem MK.set (h : MK b g w W s sn nx v R) {j : Nat} {c : Value} {sn' nx' : Int} (hb : Bm3 (W.setCell ⟨w.heap.size + 1, j, none⟩ c) (w.heap.size + 1) sn' nx' v) : MK b g w (W.setCell ⟨w.heap.size + 1, j, none⟩ c) s sn' nx' v R := by
  have := h.gl
  exact ⟨by unfold Rx; rw [hso _ _ (by omega)]; exact h.rx, h.le, ⟨h.oth.os, h.oth.tape, h.oth.output, by simpa using h.oth.size, fun k hk hn => by rw [hso _ _ (by omega)]; exact h.oth.block k hk hn⟩, h.g2.oth (hso _ _ (by omega)), hb, h.fi.oth (by omega) _, h.gl⟩
theorem MK.next (h : MK b g w W s sn nx v R) (n : Int) : MK b g w (W.setCell ⟨w.heap.size + 1, 1, none⟩ (.int .i64 n)) s sn n v R := h.set (by unfold Bm3; rw [heap_setCell_same _ _ _ _ _ _ h.bm]; rfl)
theorem MK.since (h : MK b g w W s sn nx v R) (n : Int) : MK b g w (W.setCell ⟨w.heap.size + 1, 0, none⟩ (.int .i64 n)) s n nx v R := h.set (by unfold Bm3; rw [heap_setCell_same _ _ _ _ _ _ h.bm]; rfl)
theorem MK.more (h : MK b g w W s sn nx v R) {W2 : World} {v' : Value} {R' : List Ri} (hb : Below (w.heap.size + 2) W W2) (hf : Fi (w.heap.size + 2) W2 v' R') : MK b g w (W2.setCell ⟨w.heap.size + 1, 2, none⟩ v') s sn nx v' R' := by
  have := h.gl
  have hbm : Bm3 W2 (w.heap.size + 1) sn nx v := h.bm.oth (hb.block _ (by omega))
  refine ⟨by unfold Rx; rw [hso _ _ (by omega), hb.block g (by omega)]; exact h.rx, h.le, ?_, h.g2.oth ((hso _ _ (by omega)).trans (hb.block _ (by omega))), by unfold Bm3; rw [heap_setCell_same _ _ _ _ _ _ hbm]; rfl, hf.oth (by omega) _, h.gl⟩
  have ho := h.oth.then hb (by omega)
  exact ⟨ho.os, ho.tape, ho.output, by simpa using ho.size, fun k hk hn => by rw [hso _ _ (by omega)]; exact ho.block k hk hn⟩
end
theorem results_c1 {fn : Func} {p : Tmp} {ty : TypeId} (h : fn.results = #[.cell p ty]) (tmps : Array Value) (P : Program) (w : World) :
    (results fn tmps).run P w = ((asAddr (tmps.getD p undef)).run P w).andThen fun a w₁ => (loadVar ty a).run P w₁ := by
  simp only [results, h]
  simp [Sem.run_bind, Result.andThen]
theorem MK.fin {b : List UInt8} {g : Nat} {w W : World} {s : Rs} {sn nx : Int} {v : Value} {R : List Ri} (h : MK b g w W s sn nx v R) :
    Bm3 (((W.setCell ⟨w.heap.size, 0, none⟩ (.int .i64 sn)).setCell ⟨w.heap.size, 1, none⟩ (.int .i64 nx)).setCell ⟨w.heap.size, 2, none⟩ v) w.heap.size sn nx v ∧ Fi (w.heap.size + 2) (((W.setCell ⟨w.heap.size, 0, none⟩ (.int .i64 sn)).setCell ⟨w.heap.size, 1, none⟩ (.int .i64 nx)).setCell ⟨w.heap.size, 2, none⟩ v) v R ∧ RP g b s w (((W.setCell ⟨w.heap.size, 0, none⟩ (.int .i64 sn)).setCell ⟨w.heap.size, 1, none⟩ (.int .i64 nx)).setCell ⟨w.heap.size, 2, none⟩ v) := by
  have := h.gl
  have e1 : Bm3 (W.setCell ⟨w.heap.size, 0, none⟩ (.int .i64 sn)) w.heap.size sn 0 (.slice none 0 0) := by unfold Bm3; rw [heap_setCell_same _ _ _ _ _ _ h.g2]; rfl
  have e2 : Bm3 ((W.setCell ⟨w.heap.size, 0, none⟩ (.int .i64 sn)).setCell ⟨w.heap.size, 1, none⟩ (.int .i64 nx)) w.heap.size sn nx (.slice none 0 0) := by unfold Bm3; rw [heap_setCell_same _ _ _ _ _ _ e1]; rfl
  refine ⟨by unfold Bm3; rw [heap_setCell_same _ _ _ _ _ _ e2]; rfl, ((h.fi.oth (by omega) _).oth (by omega) _).oth (by omega) _, ⟨by unfold Rx; rw [hso _ _ (by omega), hso _ _ (by omega), hso _ _ (by omega)]; exact h.rx, ⟨h.oth.os, h.oth.tape, h.oth.output, by simpa using h.oth.size, fun k hk hn => by rw [hso _ _ (by omega), hso _ _ (by omega), hso _ _ (by omega)]; exact h.oth.block k hk hn⟩⟩⟩
def mlen (w : World) (r : Nat) : Nat := match w.cell? ⟨r, 2, none⟩ with
  | some (.slice _ n _) => n
  | _ => 0
theorem mlen_of {w : World} {r : Nat} {s n : Int} {a : Option Addr} {k c : Nat} (h : Bm3 w r s n (.slice a k c)) : mlen w r = k := by
  unfold mlen; rw [h.cells.2.2]
theorem itFle {b : List UInt8} {s : Rs} (h : s.1 ≤ b.length) : (itF b s).2.1 ≤ b.length := by
  have e : (itF b s).2 = (if (valF b sType (numF b sSeq (valF b sKey s).2).2).1 = sMarker then (valF b sLeaf (valF b sType (numF b sSeq (valF b sKey s).2).2).2).2 else (valF b sLeaf (prs2F b (numF b sSize (valF b sType (numF b sSeq (valF b sKey s).2).2).2).2).2).2) := by
    unfold itF
    simp only
    split <;> rfl
  rw [e]
  split
  · exact valFle (valFle (numFle (valFle h)))
  · exact valFle (prs2Fle (numFle (valFle (numFle (valFle h)))))
theorem itFlen {b : List UInt8} {s : Rs} : (itF b s).1.l.length ≤ 8 := by
  have hp : ∀ (f q : Nat), (prsF b f q).1.length ≤ f := by
    intro f
    induction f with
    | zero => intro q; exact Nat.le_refl _
    | succ f ih =>
      intro q
      unfold prsF
      split
      · rename_i x n hx
        split
        · have := ih n; simp; omega
        · simp
      · simp
  have e : (itF b s).1.l = (if (valF b sType (numF b sSeq (valF b sKey s).2).2).1 = sMarker then [] else (prs2F b (numF b sSize (valF b sType (numF b sSeq (valF b sKey s).2).2).2).2).1) := by
    unfold itF
    simp only
    split <;> rfl
  rw [e]
  split
  · simp
  · unfold prs2F
    split
    · simp
    · exact hp _ _
/-- so many items read, so many left -/
structure IL (b : List UInt8) (N : Nat) (s5 : Rs) (R : List Ri) (s : Rs) : Prop where
  le : R.length ≤ N
  eq : itsF b N s5 = (R.map (·.1) ++ (itsF b (N - R.length) s).1, (itsF b (N - R.length) s).2)
theorem IL.next {b : List UInt8} {N : Nat} {s5 s : Rs} {R : List Ri} (h : IL b N s5 R s) (hl : R.length < N) (hb : s.2 = false) (a : Option Addr) (c : Nat) : IL b N s5 (R ++ [((itF b s).1, a, c)]) (itF b s).2 := by
  refine ⟨by simp; omega, ?_⟩
  rw [h.eq, show N - R.length = (N - (R ++ [((itF b s).1, a, c)]).length) + 1 by simp; omega]
  conv => lhs; unfold itsF
  rw [if_neg (by rw [hb]; decide)]
  simp
theorem IL.end {b : List UInt8} {N : Nat} {s5 s : Rs} {R : List Ri} (h : IL b N s5 R s) (hq : R.length = N ∨ s.2 = true) : itsF b N s5 = (R.map (·.1), s) := by
  rw [h.eq]
  have : itsF b (N - R.length) s = ([], s) := by
    rcases hq with q | q
    · rw [q, Nat.sub_self]; rfl
    · cases N - R.length with
      | zero => rfl
      | succ f => unfold itsF; rw [if_pos q]
  rw [this]
  simp
theorem maFeq (b : List UInt8) : maF b = (⟨(sincF b (valF b sKind (0, false)).1 (numF b sNext (valF b sFormat (valF b sKind (0, false)).2).2).2).1, (numF b sNext (valF b sFormat (valF b sKind (0, false)).2).2).1, (itsF b (min (numF b sCount (sincF b (valF b sKind (0, false)).1 (numF b sNext (valF b sFormat (valF b sKind (0, false)).2).2).2).2).1 256).toNat (numF b sCount (sincF b (valF b sKind (0, false)).1 (numF b sNext (valF b sFormat (valF b sKind (0, false)).2).2).2).2).2).1⟩, (valF b sEnd (itsF b (min (numF b sCount (sincF b (valF b sKind (0, false)).1 (numF b sNext (valF b sFormat (valF b sKind (0, false)).2).2).2).2).1 256).toNat (numF b sCount (sincF b (valF b sKind (0, false)).1 (numF b sNext (valF b sFormat (valF b sKind (0, false)).2).2).2).2).2).2).2) := rfl
/-- what manifest answers -/
def MnP (b : List UInt8) (g : Nat) (w : World) (e : Ending) (w' : World) : Prop := ∃ (R : List Ri) (a : Option Addr) (c : Nat), e = .returned (.agg #[.int .i64 (maF b).1.since, .int .i64 (maF b).1.next, .slice a R.length c]) ∧ R.map (·.1) = (maF b).1.items ∧ Fi (w.heap.size + 2) w' (.slice a R.length c) R ∧ RP g b (maF b).2 w w'
set_option maxRecDepth 100000 in
set_option maxHeartbeats 8000000 in
theorem rmani_any (b : List UInt8) (g : Nat) (w0 w : World) (hR : Rx w g b (0, false)) (hbl : b.length ≤ 4611686018427387904) (hB : Below w0.heap.size w0 w) (hg : w0.heap.size ≤ g) (hT : TB w0) (hE : EG w0) :
    Calls Tryz.prog 29 #[.pointer (some ⟨g, 0, none⟩)] w (MnP b g w) := by
  have b1 := (Below.refl w.heap.size w).alloc (Nat.le_refl _) (.cells #[.int .i64 0, .int .i64 0, .slice none 0 0] 28)
  have b2 := b1.alloc (by simp) (.cells #[.int .i64 0, .int .i64 0, .slice none 0 0] 28)
  have K0 : MK b g w ((w.alloc (.cells #[.int .i64 0, .int .i64 0, .slice none 0 0] 28)).alloc (.cells #[.int .i64 0, .int .i64 0, .slice none 0 0] 28)) (0, false) 0 0 (.slice none 0 0) [] := by
    refine ⟨hR.later b2, Nat.zero_le _, Oth.of_below b2, ?_, ?_, Fi.nil _ _ (by simp), hR.lt⟩
    · unfold Bm3; rw [hao4 _ _ _ (by simp)]; exact heap_alloc_new _ _
    · have := heap_alloc_new (w.alloc (.cells #[.int .i64 0, .int .i64 0, .slice none 0 0] 28)) (.cells #[.int .i64 0, .int .i64 0, .slice none 0 0] 28)
      rw [World.size_alloc] at this
      exact this
  have HB := Hid.mk hB
  have HM := Hid.mk (maFeq b)
  clear b1 b2 hB hR
  go_enter Tryz.func29, Tryz.ntmps29
  go_wp2_with fail
  generalize (w.alloc (.cells #[.int .i64 0, .int .i64 0, .slice none 0 0] 28)).alloc (.cells #[.int .i64 0, .int .i64 0, .slice none 0 0] 28) = W0 at *
  have hc := value_any b sKind (0, false) g w0 _ K0.rx K0.le hbl (K0.bel HB.out hg) hT
  refine Calls.mono hc ?_
  rintro e W1 ⟨rfl, pp⟩
  dsimp only
  have K1 := K0.step pp (valFle K0.le)
  generalize (valF b sKind (0, false)).1 = kd at *
  generalize (valF b sKind (0, false)).2 = s1 at *
  clear hc pp K0
  go_wp2_with fail
  have hc := value_any b sFormat s1 g w0 _ K1.rx K1.le hbl (K1.bel HB.out hg) hT
  refine Calls.mono hc ?_
  rintro e W2 ⟨rfl, pp⟩
  dsimp only
  have K2 := K1.step pp (valFle K1.le)
  generalize (valF b sFormat s1).1 = fm at *
  generalize (valF b sFormat s1).2 = s2 at *
  clear hc pp K1
  go_wp2_with fail
  have hc := number_any b sNext s2 g w0 _ K2.rx K2.le hbl (K2.bel HB.out hg) hg hT hE
  refine Calls.mono hc ?_
  rintro e W3 ⟨rfl, pp⟩
  dsimp only
  have K3 := K2.step pp (numFle K2.le)
  generalize (numF b sNext s2).1 = nx at *
  generalize (numF b sNext s2).2 = s3 at *
  clear hc pp K2
  have t1 := K3.bm.cells.2.1
  have t2 := K3.bm.fz 1
  have K4 := K3.next nx
  clear K3
  by_cases hk : kd = sFull
  · have d1 : (kd == [102, 117, 108, 108]) = true := by rw [hk]; rfl
    have d2 : (kd != [102, 117, 108, 108]) = false := by rw [bne, d1]; rfl
    rw [show sincF b kd s3 = (0, s3) from by unfold sincF; rw [if_pos hk]] at HM
    clear hk
    go_wp2_with fail
    have hc := number_any b sCount s3 g w0 _ K4.rx K4.le hbl (K4.bel HB.out hg) hg hT hE
    refine Calls.mono hc ?_
    rintro e W5 ⟨rfl, pp⟩
    dsimp only
    have K5 := K4.step pp (numFle K4.le)
    generalize (numF b sCount s3).1 = cn at *
    generalize (numF b sCount s3).2 = s5 at *
    clear hc pp K4
    obtain ⟨N, hN⟩ : ∃ N, N = (min cn 256).toNat := ⟨_, rfl⟩
    rw [← hN] at HM
    have hN256 : N ≤ 256 := by omega
    have I0 : IL b N s5 [] s5 := ⟨Nat.zero_le _, by simp⟩
    go_wp2_with fail
    go_loopw [] (fun wr => ∃ (R : List Ri) (s' : Rs) (a : Option Addr) (c : Nat), Hid (MK b g w wr s' 0 nx (.slice a R.length c) R ∧ IL b N s5 R s')) (fun wr => 257 - mlen wr (w.heap.size + 1))
    case atStart => exact ⟨[], s5, none, 0, ⟨K5, I0⟩⟩
    case round =>
      clear K5 I0
      obtain ⟨R, s', ra, rc, HK⟩ := hrel
      obtain ⟨K6, I6⟩ := HK.out
      have u2 := K6.bm.cells.2.2
      have v2 := K6.rx.cells.2.2.1
      have hRN := I6.le
      by_cases hlt : R.length < N
      · have d3 : decide ((R.length : Int) < min cn 256) = true := decide_eq_true (by omega)
        cases hbd : s'.2 with
        | true =>
          rw [hbd] at v2
          have he := I6.end (.inr hbd)
          rw [he] at HM
          have hc := value_any b sEnd s' g w0 wr K6.rx K6.le hbl (K6.bel HB.out hg) hT
          go_wp2_with fail
          refine Calls.mono hc ?_
          rintro e W7 ⟨rfl, pp⟩
          dsimp only
          have K7 := K6.step pp (valFle K6.le)
          obtain ⟨x0, x1, x2⟩ := K7.bm.cells
          obtain ⟨y0, y1, y2⟩ := K7.g2.cells
          have f0 := K7.g2.fz 0
          have f1 := K7.g2.fz 1
          have f2 := K7.g2.fz 2
          have HK7 := Hid.mk K7
          clear hc pp K6 I6 he u2 v2 HK K7
          go_wp2_with fail
          have hfin := HK7.out.fin
          generalize ((W7.setCell ⟨w.heap.size, 0, none⟩ (.int .i64 0)).setCell ⟨w.heap.size, 1, none⟩ (.int .i64 nx)).setCell ⟨w.heap.size, 2, none⟩ (.slice ra R.length rc) = W8 at *
          obtain ⟨g0, g1, g2⟩ := hfin.1.cells
          refine bodyPost_ret (v := .agg #[.int .i64 0, .int .i64 nx, .slice ra R.length rc]) ?_ rfl ⟨R, ra, rc, by rw [HM.out], by rw [HM.out], hfin.2.1, by rw [HM.out]; exact hfin.2.2⟩
          rw [results_c1 rfl]
          go_simp
        | false =>
          rw [hbd] at v2
          have hc := ritem_any b s' g w0 wr.drew (K6.rx.later (Below.refl _ _).drew) K6.le hbl ((K6.bel HB.out hg).drew) hg hT hE
          have I7 := fun a c => I6.next hlt hbd a c
          have hle7 := itFle (b := b) K6.le
          generalize (itF b s').1 = it7 at *
          generalize (itF b s').2 = s7 at *
          have HK6 := Hid.mk K6
          have HI7 := Hid.mk I7
          have h1 : Hid (∀ w', RP g b s7 wr.drew w' → MK b g w w' s7 0 nx (.slice ra R.length rc) R) := ⟨fun w' hp => (HK6.out.step (W' := wr.drew) ⟨HK6.out.rx.later (Below.refl _ _).drew, Oth.of_below (Below.refl _ _).drew⟩ HK6.out.le).step hp hle7⟩
          have c0 : wr.drew.cell? ⟨w.heap.size + 1, 2, none⟩ = some (.slice ra R.length rc) := u2
          have hlow : Hid (∀ (i : Nat) (p : Ri), R[i]? = some p → ∀ b, p.mv.ownBlock = some b → b < wr.heap.size) := ⟨fun i p hp b hb => (HK6.out.fi.low (.inr ⟨i, p, hp, hb⟩)).2⟩
          have hwb : Hid (w.heap.size + 2 ≤ wr.heap.size) := ⟨HK6.out.fi.le⟩
          have HE : Hid (∀ (w1 : World) (ia : Option Addr) (ic1 : Nat), RP g b s7 wr.drew w1 → Ow wr.drew.heap.size w1 (.slice ia it7.l.length ic1) it7.l → ∃ g' c' w2, (∀ ty, (Builtin.append_ #[26, 26] ty #[.slice ra R.length rc, .slice (some ⟨w1.heap.size, 0, none⟩) 1 1]).run Tryz.prog (w1.alloc (.cells (ic it7 ia ic1).toArray 46)) = .ok (.slice (some ⟨g', 0, none⟩) (R.length + 1) c') w2) ∧ (w2.cell? ⟨w.heap.size + 1, 2, none⟩ = some (.slice ra R.length rc) ∧ w2.frozen? ⟨w.heap.size + 1, 2, none⟩ = false) ∧ Hid (MK b g w (w2.setCell ⟨w.heap.size + 1, 2, none⟩ (.slice (some ⟨g', 0, none⟩) (R.length + 1) c')) s7 0 nx (.slice (some ⟨g', 0, none⟩) (R.length + 1) c') (R ++ [(it7, ia, ic1)]))) := ⟨fun w1 ia ic1 hp how => by
            have K8 := h1.out w1 hp
            have how : Ow wr.heap.size w1 (Ri.mv (it7, ia, ic1)) it7.l := how
            obtain ⟨g', c', w2, hr, hf, hb2, _⟩ := run_ri 26 (it7, ia, ic1) K8.fi hlow.out hwb.out how (by omega)
            have hbm : Bm3 w2 (w.heap.size + 1) 0 nx (.slice ra R.length rc) := K8.bm.oth (hb2.block _ (by omega))
            exact ⟨g', c', w2, fun ty => hr, ⟨hbm.cells.2.2, hbm.fz 2⟩, ⟨K8.more hb2 hf⟩⟩⟩
          clear K6 I6 I7
          go_wp2_with fail
          go_region_law (first
            | ((first | ((with_reducible (refine at_stp rfl ?_)); go_simp) | skip); go_at_call 61; with_reducible refine Calls.mono hc ?_; rintro e w1 ⟨ia, ic1, rfl, iow, ip⟩; have e2 := (h1.out w1 ip).bm.cells.2.2; have e3 := fun o => (((h1.out w1 ip).bm.later ((Below.refl _ w1).alloc (Nat.le_refl _) o)).cells).2.2; obtain ⟨g', c', w2, hr, ⟨st1, st2⟩, HF⟩ := HE.out w1 ia ic1 ip iow)
            | ((with_reducible (refine at_sta rfl ?_)); refine step_run rfl _ _ rfl rfl rfl (hr _) ?_))
          all_goals (
            clear st1 st2
            go_wp2_with fail
            refine ⟨⟨R ++ [(it7, ia, ic1)], s7, _, _, ⟨by rw [List.length_append]; exact HF.out, HI7.out ia ic1⟩⟩, ?_⟩
            rw [mlen_of HF.out.bm, mlen_of HK6.out.bm]
            omega)
      · have d3 : decide ((R.length : Int) < min cn 256) = false := decide_eq_false (by omega)
        have he := I6.end (.inl (by omega))
        rw [he] at HM
        have hc := value_any b sEnd s' g w0 wr K6.rx K6.le hbl (K6.bel HB.out hg) hT
        go_wp2_with fail
        refine Calls.mono hc ?_
        rintro e W7 ⟨rfl, pp⟩
        dsimp only
        have K7 := K6.step pp (valFle K6.le)
        obtain ⟨x0, x1, x2⟩ := K7.bm.cells
        obtain ⟨y0, y1, y2⟩ := K7.g2.cells
        have f0 := K7.g2.fz 0
        have f1 := K7.g2.fz 1
        have f2 := K7.g2.fz 2
        have HK7 := Hid.mk K7
        clear hc pp K6 I6 he u2 v2 HK K7
        go_wp2_with fail
        have hfin := HK7.out.fin
        generalize ((W7.setCell ⟨w.heap.size, 0, none⟩ (.int .i64 0)).setCell ⟨w.heap.size, 1, none⟩ (.int .i64 nx)).setCell ⟨w.heap.size, 2, none⟩ (.slice ra R.length rc) = W8 at *
        obtain ⟨g0, g1, g2⟩ := hfin.1.cells
        refine bodyPost_ret (v := .agg #[.int .i64 0, .int .i64 nx, .slice ra R.length rc]) ?_ rfl ⟨R, ra, rc, by rw [HM.out], by rw [HM.out], hfin.2.1, by rw [HM.out]; exact hfin.2.2⟩
        rw [results_c1 rfl]
        go_simp
  · have d1 : (kd == [102, 117, 108, 108]) = false := beq_eq_false_iff_ne.2 hk
    have d2 : (kd != [102, 117, 108, 108]) = true := by rw [bne, d1]; rfl
    rw [show sincF b kd s3 = numF b sSince s3 from by unfold sincF; rw [if_neg hk]] at HM
    clear hk
    go_wp2_with fail
    have hc := number_any b sSince s3 g w0 _ K4.rx K4.le hbl (K4.bel HB.out hg) hg hT hE
    refine Calls.mono hc ?_
    rintro e W4 ⟨rfl, pp⟩
    dsimp only
    have K4a := K4.step pp (numFle K4.le)
    generalize (numF b sSince s3).1 = sn at *
    generalize (numF b sSince s3).2 = s4 at *
    have q1 := K4a.bm.cells.1
    have q2 := K4a.bm.fz 0
    have K4b := K4a.since sn
    clear hc pp K4 K4a
    go_wp2_with fail
    have hc := number_any b sCount s4 g w0 _ K4b.rx K4b.le hbl (K4b.bel HB.out hg) hg hT hE
    refine Calls.mono hc ?_
    rintro e W5 ⟨rfl, pp⟩
    dsimp only
    have K5 := K4b.step pp (numFle K4b.le)
    generalize (numF b sCount s4).1 = cn at *
    generalize (numF b sCount s4).2 = s5 at *
    clear hc pp K4b
    obtain ⟨N, hN⟩ : ∃ N, N = (min cn 256).toNat := ⟨_, rfl⟩
    rw [← hN] at HM
    have hN256 : N ≤ 256 := by omega
    have I0 : IL b N s5 [] s5 := ⟨Nat.zero_le _, by simp⟩
    go_wp2_with fail
    go_loopw [] (fun wr => ∃ (R : List Ri) (s' : Rs) (a : Option Addr) (c : Nat), Hid (MK b g w wr s' sn nx (.slice a R.length c) R ∧ IL b N s5 R s')) (fun wr => 257 - mlen wr (w.heap.size + 1))
    case atStart => exact ⟨[], s5, none, 0, ⟨K5, I0⟩⟩
    case round =>
      clear K5 I0
      obtain ⟨R, s', ra, rc, HK⟩ := hrel
      obtain ⟨K6, I6⟩ := HK.out
      have u2 := K6.bm.cells.2.2
      have v2 := K6.rx.cells.2.2.1
      have hRN := I6.le
      by_cases hlt : R.length < N
      · have d3 : decide ((R.length : Int) < min cn 256) = true := decide_eq_true (by omega)
        cases hbd : s'.2 with
        | true =>
          rw [hbd] at v2
          have he := I6.end (.inr hbd)
          rw [he] at HM
          have hc := value_any b sEnd s' g w0 wr K6.rx K6.le hbl (K6.bel HB.out hg) hT
          go_wp2_with fail
          refine Calls.mono hc ?_
          rintro e W7 ⟨rfl, pp⟩
          dsimp only
          have K7 := K6.step pp (valFle K6.le)
          obtain ⟨x0, x1, x2⟩ := K7.bm.cells
          obtain ⟨y0, y1, y2⟩ := K7.g2.cells
          have f0 := K7.g2.fz 0
          have f1 := K7.g2.fz 1
          have f2 := K7.g2.fz 2
          have HK7 := Hid.mk K7
          clear hc pp K6 I6 he u2 v2 HK K7
          go_wp2_with fail
          have hfin := HK7.out.fin
          generalize ((W7.setCell ⟨w.heap.size, 0, none⟩ (.int .i64 sn)).setCell ⟨w.heap.size, 1, none⟩ (.int .i64 nx)).setCell ⟨w.heap.size, 2, none⟩ (.slice ra R.length rc) = W8 at *
          obtain ⟨g0, g1, g2⟩ := hfin.1.cells
          refine bodyPost_ret (v := .agg #[.int .i64 sn, .int .i64 nx, .slice ra R.length rc]) ?_ rfl ⟨R, ra, rc, by rw [HM.out], by rw [HM.out], hfin.2.1, by rw [HM.out]; exact hfin.2.2⟩
          rw [results_c1 rfl]
          go_simp
        | false =>
          rw [hbd] at v2
          have hc := ritem_any b s' g w0 wr.drew (K6.rx.later (Below.refl _ _).drew) K6.le hbl ((K6.bel HB.out hg).drew) hg hT hE
          have I7 := fun a c => I6.next hlt hbd a c
          have hle7 := itFle (b := b) K6.le
          generalize (itF b s').1 = it7 at *
          generalize (itF b s').2 = s7 at *
          have HK6 := Hid.mk K6
          have HI7 := Hid.mk I7
          have h1 : Hid (∀ w', RP g b s7 wr.drew w' → MK b g w w' s7 sn nx (.slice ra R.length rc) R) := ⟨fun w' hp => (HK6.out.step (W' := wr.drew) ⟨HK6.out.rx.later (Below.refl _ _).drew, Oth.of_below (Below.refl _ _).drew⟩ HK6.out.le).step hp hle7⟩
          have c0 : wr.drew.cell? ⟨w.heap.size + 1, 2, none⟩ = some (.slice ra R.length rc) := u2
          have hlow : Hid (∀ (i : Nat) (p : Ri), R[i]? = some p → ∀ b, p.mv.ownBlock = some b → b < wr.heap.size) := ⟨fun i p hp b hb => (HK6.out.fi.low (.inr ⟨i, p, hp, hb⟩)).2⟩
          have hwb : Hid (w.heap.size + 2 ≤ wr.heap.size) := ⟨HK6.out.fi.le⟩
          have HE : Hid (∀ (w1 : World) (ia : Option Addr) (ic1 : Nat), RP g b s7 wr.drew w1 → Ow wr.drew.heap.size w1 (.slice ia it7.l.length ic1) it7.l → ∃ g' c' w2, (∀ ty, (Builtin.append_ #[26, 26] ty #[.slice ra R.length rc, .slice (some ⟨w1.heap.size, 0, none⟩) 1 1]).run Tryz.prog (w1.alloc (.cells (ic it7 ia ic1).toArray 46)) = .ok (.slice (some ⟨g', 0, none⟩) (R.length + 1) c') w2) ∧ (w2.cell? ⟨w.heap.size + 1, 2, none⟩ = some (.slice ra R.length rc) ∧ w2.frozen? ⟨w.heap.size + 1, 2, none⟩ = false) ∧ Hid (MK b g w (w2.setCell ⟨w.heap.size + 1, 2, none⟩ (.slice (some ⟨g', 0, none⟩) (R.length + 1) c')) s7 sn nx (.slice (some ⟨g', 0, none⟩) (R.length + 1) c') (R ++ [(it7, ia, ic1)]))) := ⟨fun w1 ia ic1 hp how => by
            have K8 := h1.out w1 hp
            have how : Ow wr.heap.size w1 (Ri.mv (it7, ia, ic1)) it7.l := how
            obtain ⟨g', c', w2, hr, hf, hb2, _⟩ := run_ri 26 (it7, ia, ic1) K8.fi hlow.out hwb.out how (by omega)
            have hbm : Bm3 w2 (w.heap.size + 1) sn nx (.slice ra R.length rc) := K8.bm.oth (hb2.block _ (by omega))
            exact ⟨g', c', w2, fun ty => hr, ⟨hbm.cells.2.2, hbm.fz 2⟩, ⟨K8.more hb2 hf⟩⟩⟩
          clear K6 I6 I7
          go_wp2_with fail
          go_region_law (first
            | ((first | ((with_reducible (refine at_stp rfl ?_)); go_simp) | skip); go_at_call 61; with_reducible refine Calls.mono hc ?_; rintro e w1 ⟨ia, ic1, rfl, iow, ip⟩; have e2 := (h1.out w1 ip).bm.cells.2.2; have e3 := fun o => (((h1.out w1 ip).bm.later ((Below.refl _ w1).alloc (Nat.le_refl _) o)).cells).2.2; obtain ⟨g', c', w2, hr, ⟨st1, st2⟩, HF⟩ := HE.out w1 ia ic1 ip iow)
            | ((with_reducible (refine at_sta rfl ?_)); refine step_run rfl _ _ rfl rfl rfl (hr _) ?_))
          all_goals (
            clear st1 st2
            go_wp2_with fail
            refine ⟨⟨R ++ [(it7, ia, ic1)], s7, _, _, ⟨by rw [List.length_append]; exact HF.out, HI7.out ia ic1⟩⟩, ?_⟩
            rw [mlen_of HF.out.bm, mlen_of HK6.out.bm]
            omega)
      · have d3 : decide ((R.length : Int) < min cn 256) = false := decide_eq_false (by omega)
        have he := I6.end (.inl (by omega))
        rw [he] at HM
        have hc := value_any b sEnd s' g w0 wr K6.rx K6.le hbl (K6.bel HB.out hg) hT
        go_wp2_with fail
        refine Calls.mono hc ?_
        rintro e W7 ⟨rfl, pp⟩
        dsimp only
        have K7 := K6.step pp (valFle K6.le)
        obtain ⟨x0, x1, x2⟩ := K7.bm.cells
        obtain ⟨y0, y1, y2⟩ := K7.g2.cells
        have f0 := K7.g2.fz 0
        have f1 := K7.g2.fz 1
        have f2 := K7.g2.fz 2
        have HK7 := Hid.mk K7
        clear hc pp K6 I6 he u2 v2 HK K7
        go_wp2_with fail
        have hfin := HK7.out.fin
        generalize ((W7.setCell ⟨w.heap.size, 0, none⟩ (.int .i64 sn)).setCell ⟨w.heap.size, 1, none⟩ (.int .i64 nx)).setCell ⟨w.heap.size, 2, none⟩ (.slice ra R.length rc) = W8 at *
        obtain ⟨g0, g1, g2⟩ := hfin.1.cells
        refine bodyPost_ret (v := .agg #[.int .i64 sn, .int .i64 nx, .slice ra R.length rc]) ?_ rfl ⟨R, ra, rc, by rw [HM.out], by rw [HM.out], hfin.2.1, by rw [HM.out]; exact hfin.2.2⟩
        rw [results_c1 rfl]
        go_simp
end Go.Proofs.YtdfjlmfnkhhnjaaGreatDoor

/- Read. -/
namespace Go.Proofs.YtdfjlmfnkhhnjaaGreatDoor
set_option maxRecDepth 100000
set_option linter.unusedVariables false
set_option linter.unusedSimpArgs false
open Go.RowKit
open Go.Proofs.YtdfjlmfnkhhnjaaGreatDoorP (TB recd nn LEN key Rd RdAt)
open Go.Proofs.YtdfjlmfnkhhnjaaGreatDoorH (hexL hx pz)
attribute [local go_sem ↓] Go.wp_at_zero Go.wp_at_succ
theorem hex_cut (f : Nat → UInt8) : hexL (cut32 f) = hexL f := by
  unfold hexL
  apply List.map_congr_left
  intro j hj
  have h64 : j < 64 := by simpa using hj
  have : j / 2 < 32 := by omega
  unfold hx cut32
  rw [if_pos this]
theorem itemR_nz (x : It) : itemR (nz x) = itemR x := by unfold itemR nz; simp only [hex_cut]
theorem recs_nz (m : Ma) : recs (nzM m) = recs m := by
  have e : (m.items.map nz).map itemR = m.items.map itemR := by rw [List.map_map]; apply List.map_congr_left; intro x _; exact itemR_nz x
  unfold recs headR nzM
  simp only [e, List.length_map]
theorem mtx_nz (m : Ma) : mtx (nzM m) = mtx m := by unfold mtx; rw [recs_nz]
theorem rtm_nz {m : Ma} (h : RtM m) : RtM (nzM m) := by
  refine ⟨h.n1, h.n2, h.c1, h.c2, by simpa [nzM] using h.len, fun x hx => ?_, ?_, ?_, ?_⟩
  · obtain ⟨y, hy, rfl⟩ := List.mem_map.1 hx
    obtain ⟨a, b, c, d, e, f⟩ := h.it y hy
    exact ⟨a, b, c, d, e, f⟩
  · show (m.items.map nz).Pairwise bef
    rw [List.pairwise_map]
    exact h.srt
  · show ((m.items.map nz).map (·.seq)).Nodup
    rw [List.map_map]
    exact h.nod
  · show isum (m.items.map nz) ≤ 65536
    have : isum (m.items.map nz) = isum m.items := by unfold isum; rw [List.map_map]; rfl
    rw [this]; exact h.byt
theorem itsFlen {b : List UInt8} : ∀ (f : Nat) (s : Rs), (itsF b f s).1.length ≤ f ∧ ∀ x ∈ (itsF b f s).1, x.l.length ≤ 8
  | 0, s => ⟨Nat.le_refl _, fun x hx => by simp [itsF] at hx⟩
  | f + 1, s => by
    unfold itsF
    split
    · exact ⟨Nat.zero_le _, fun x hx => by simp at hx⟩
    · obtain ⟨h1, h2⟩ := itsFlen f (itF b s).2
      refine ⟨by simpa using h1, fun x hx => ?_⟩
      rcases List.mem_cons.1 hx with q | q
      · rw [q]; exact itFlen
      · exact h2 x q
theorem itsFle {b : List UInt8} : ∀ (f : Nat) (s : Rs), s.1 ≤ b.length → (itsF b f s).2.1 ≤ b.length
  | 0, s, h => h
  | f + 1, s, h => by
    unfold itsF
    split
    · exact h
    · exact itsFle f _ (itFle h)
theorem maFle (b : List UInt8) : (maF b).2.1 ≤ b.length := by
  rw [maFeq]
  have h1 : (sincF b (valF b sKind (0, false)).1 (numF b sNext (valF b sFormat (valF b sKind (0, false)).2).2).2).2.1 ≤ b.length := by
    unfold sincF
    split
    · exact numFle (valFle (valFle (Nat.zero_le _)))
    · exact numFle (numFle (valFle (valFle (Nat.zero_le _))))
  exact valFle (itsFle _ _ (numFle h1))
theorem maFlen (b : List UInt8) : (maF b).1.items.length ≤ 256 ∧ ∀ x ∈ (maF b).1.items, x.l.length ≤ 8 := by
  rw [maFeq]
  obtain ⟨h1, h2⟩ := itsFlen (b := b) (min (numF b sCount (sincF b (valF b sKind (0, false)).1 (numF b sNext (valF b sFormat (valF b sKind (0, false)).2).2).2).2).1 256).toNat (numF b sCount (sincF b (valF b sKind (0, false)).1 (numF b sNext (valF b sFormat (valF b sKind (0, false)).2).2).2).2).2
  exact ⟨Nat.le_trans h1 (by omega), h2⟩
/-- a text that begins with a right manifest's -/
def Beg (b : List UInt8) (m : Ma) : Prop := RtM m ∧ ∃ r, b = mtx m ++ r
theorem Beg.at' {b : List UInt8} {m : Ma} (h : Beg b m) : maF b = (nzM m, ((mtx m).length, false)) := by
  obtain ⟨h1, r, e⟩ := h
  rw [e]; exact maFat h1 r
theorem Beg.take {b : List UInt8} {m : Ma} (h : Beg b m) : b.take (mtx m).length = mtx m := by
  obtain ⟨h1, r, e⟩ := h
  rw [e, List.take_left]
/-- which one it is -/
theorem beg_iff {b : List UInt8} : (∃ m, Beg b m) ↔ ((maF b).2.2 = false ∧ RtM (maF b).1 ∧ mtx (maF b).1 = b.take (maF b).2.1) := by
  constructor
  · rintro ⟨m, h⟩
    have e := h.at'
    rw [e]
    exact ⟨rfl, rtm_nz h.1, by rw [mtx_nz, h.take]⟩
  · rintro ⟨h1, h2, h3⟩
    exact ⟨(maF b).1, h2, b.drop (maF b).2.1, by rw [h3, List.take_append_drop]⟩
theorem beg_self {b : List UInt8} (h1 : (maF b).2.2 = false) (h2 : RtM (maF b).1) (h3 : mtx (maF b).1 = b.take (maF b).2.1) : Beg b (maF b).1 ∧ nzM (maF b).1 = (maF b).1 ∧ (maF b).2.1 = (mtx (maF b).1).length := by
  have hB : Beg b (maF b).1 := ⟨h2, b.drop (maF b).2.1, by rw [h3, List.take_append_drop]⟩
  have e := hB.at'
  exact ⟨hB, (congrArg Prod.fst e).symm, congrArg (fun p => p.2.1) e⟩
/-- what Read answers -/
def RdP (b : List UInt8) (w : World) (e : Ending) (w' : World) : Prop :=
  ((∃ (m : Ma) (R : List Ri) (a : Option Addr) (c : Nat), Beg b m ∧ nzM m = m ∧ e = .returned (.tuple #[.agg #[.int .i64 m.since, .int .i64 m.next, .slice a R.length c], .int .i64 ((mtx m).length : Int), .int .i64 0]) ∧ R.map (·.1) = m.items ∧ Fi w.heap.size w' (.slice a R.length c) R) ∨
   ((∀ m, ¬ Beg b m) ∧ e = .returned (.tuple #[.agg #[.int .i64 0, .int .i64 0, .slice none 0 0], .int .i64 0, .int .i64 90]))) ∧ Below w.heap.size w w'
theorem run_take (b : List UInt8) (j : Nat) (h : j ≤ b.length) (w : World) : (Go.Proofs.YtdfjlmfnkhhnjaaGreatDoorP.slS (str b) none (some (.int .i64 (j : Int))) none).run Tryz.prog w = .ok (str (b.take j)) w := by
  unfold Go.Proofs.YtdfjlmfnkhhnjaaGreatDoorP.slS
  have := run_slice_string_h (P := Tryz.prog) (w := w) (t := 9) (s := ⟨b.toArray⟩) Tryz.underlying9 .i64 (j : Int) (by omega) (by rw [str_size]; omega)
  rw [this, Int.toNat_natCast, ← str_data, Go.Proofs.YtdfjlmfnkhhnjaaGreatDoorP.ext_take]
attribute [local go_sem ↓] Go.Proofs.YtdfjlmfnkhhnjaaGreatDoorP.sl9
theorem results_ctt {fn : Func} {p : Tmp} {ty : TypeId} {t u : Tmp} (h : fn.results = #[.cell p ty, .tmp t, .tmp u]) (tmps : Array Value) (P : Program) (w : World) :
    (results fn tmps).run P w = ((asAddr (tmps.getD p undef)).run P w).andThen fun a w₁ => ((loadVar ty a).run P w₁).andThen fun v w₂ => .ok (.tuple #[v, tmps.getD t undef, tmps.getD u undef]) w₂ := by
  simp only [results, h]
  simp [Sem.run_bind, Result.andThen]
theorem Bm3.set3 {W : World} {r : Nat} {s n : Int} {v : Value} (h : Bm3 W r s n v) (s' n' : Int) (v' : Value) : Bm3 (((W.setCell ⟨r, 0, none⟩ (.int .i64 s')).setCell ⟨r, 1, none⟩ (.int .i64 n')).setCell ⟨r, 2, none⟩ v') r s' n' v' := by
  have e1 : Bm3 (W.setCell ⟨r, 0, none⟩ (.int .i64 s')) r s' n v := by unfold Bm3; rw [heap_setCell_same _ _ _ _ _ _ h]; rfl
  have e2 : Bm3 ((W.setCell ⟨r, 0, none⟩ (.int .i64 s')).setCell ⟨r, 1, none⟩ (.int .i64 n')) r s' n' v := by unfold Bm3; rw [heap_setCell_same _ _ _ _ _ _ e1]; rfl
  unfold Bm3; rw [heap_setCell_same _ _ _ _ _ _ e2]; rfl
theorem below3 {B : Nat} {w W : World} {r : Nat} (h : Below B w W) (hr : B ≤ r) (x y z : Value) : Below B w (((W.setCell ⟨r, 0, none⟩ x).setCell ⟨r, 1, none⟩ y).setCell ⟨r, 2, none⟩ z) := ((h.setCell (p := ⟨r, 0, none⟩) hr x).setCell (p := ⟨r, 1, none⟩) hr y).setCell (p := ⟨r, 2, none⟩) hr z
set_option maxRecDepth 100000 in
set_option maxHeartbeats 8000000 in
theorem mRead_any (b : List UInt8) (w : World) (hbl : b.length ≤ 4611686018427387904) (hT : TB w) (hE : EG w) :
    Calls Tryz.prog 9 #[str b] w (RdP b w) := by
  have b1 := (Below.refl w.heap.size w).alloc (Nat.le_refl _) (.cells #[.int .i64 0, .int .i64 0, .slice none 0 0] 28)
  have b2 := b1.alloc (by simp) (.cells #[str b, .int .i64 0, .bool false] 79)
  have e1 : Bm3 ((w.alloc (.cells #[.int .i64 0, .int .i64 0, .slice none 0 0] 28)).alloc (.cells #[str b, .int .i64 0, .bool false] 79)) w.heap.size 0 0 (.slice none 0 0) := by
    unfold Bm3; rw [hao4 _ _ _ (by simp)]; exact heap_alloc_new _ _
  have e2 : Rx ((w.alloc (.cells #[.int .i64 0, .int .i64 0, .slice none 0 0] 28)).alloc (.cells #[str b, .int .i64 0, .bool false] 79)) (w.heap.size + 1) b (0, false) := by
    have := heap_alloc_new (w.alloc (.cells #[.int .i64 0, .int .i64 0, .slice none 0 0] 28)) (.cells #[str b, .int .i64 0, .bool false] 79)
    rw [World.size_alloc] at this
    exact this
  have hc := rmani_any b (w.heap.size + 1) w _ e2 hbl b2 (by omega) hT hE
  have HB2 := Hid.mk b2
  have E1 := Hid.mk e1
  have hsz : ((w.alloc (.cells #[.int .i64 0, .int .i64 0, .slice none 0 0] 28)).alloc (.cells #[str b, .int .i64 0, .bool false] 79)).heap.size = w.heap.size + 2 := by simp
  clear b1 b2 e1 e2
  go_enter Tryz.func9, Tryz.ntmps9
  go_wp2_with fail
  generalize (w.alloc (.cells #[.int .i64 0, .int .i64 0, .slice none 0 0] 28)).alloc (.cells #[str b, .int .i64 0, .bool false] 79) = W2 at *
  refine Calls.mono hc ?_
  rintro e W3 ⟨R, a, c, rfl, hRm, hFi, hRP⟩
  dsimp only
  have hB3 := hRP.bel HB2.out (by omega)
  have e3 : Bm3 W3 w.heap.size 0 0 (.slice none 0 0) := E1.out.oth (hRP.oth.block _ E1.out.lt (by omega))
  have hlen := maFlen b
  have hle := maFle b
  have hbeg := @beg_iff b
  have hself := @beg_self b
  generalize maF b = MP at *
  obtain ⟨M, pl, bd⟩ := MP
  dsimp only at hRm hlen hle hbeg hself hRP ⊢
  have bx := (Below.refl W3.heap.size W3).alloc (Nat.le_refl _) (.cells #[.int .i64 M.since, .int .i64 M.next, .slice a R.length c] 28)
  have zm := Bm3.new W3 M.since M.next (.slice a R.length c)
  have rx4 := hRP.rx.later bx
  have e4 := e3.later bx
  have F4 := Hid.mk ((hFi.later bx).base (b' := w.heap.size) (by omega))
  have F4b := Hid.mk ((hFi.later bx).base (b' := w.heap.size + 2) (by omega))
  have B4 := Hid.mk (hB3.alloc hB3.size (.cells #[.int .i64 M.since, .int .i64 M.next, .slice a R.length c] 28))
  have HRl : Hid (R.length = M.items.length) := ⟨by rw [← hRm, List.length_map]⟩
  have x0 := rx4.cells.1
  have x1 := rx4.cells.2.1
  have x2 := rx4.cells.2.2.1
  obtain ⟨z0, z1, z2⟩ := zm.cells
  clear hFi hB3 e3
  dsimp only at x1 x2
  have HX4 := Hid.mk rx4
  have hsz3 : w.heap.size + 2 ≤ W3.heap.size := by have := hRP.oth.size; omega
  clear rx4 hRP
  cases bd with
  | true =>
    have hno : ∀ m, ¬ Beg b m := fun m h => by have := (hbeg.1 ⟨m, h⟩).1; cases this
    clear hbeg hself
    have n3 := e4.set3 0 0 (.slice none 0 0)
    have B5 := Hid.mk (below3 B4.out (Nat.le_refl _) (.int .i64 0) (.int .i64 0) (.slice none 0 0))
    obtain ⟨y0, y1, y2⟩ := e4.cells
    have f0 := e4.fz 0
    have f1 := e4.fz 1
    have f2 := e4.fz 2
    go_wp2_with fail
    generalize (((W3.alloc (.cells #[.int .i64 M.since, .int .i64 M.next, .slice a R.length c] 28)).setCell ⟨w.heap.size, 0, none⟩ (.int .i64 0)).setCell ⟨w.heap.size, 1, none⟩ (.int .i64 0)).setCell ⟨w.heap.size, 2, none⟩ (.slice none 0 0) = W9 at *
    obtain ⟨g0, g1, g2⟩ := n3.cells
    refine bodyPost_ret (v := .tuple #[.agg #[.int .i64 0, .int .i64 0, .slice none 0 0], .int .i64 0, .int .i64 90]) ?_ rfl ⟨.inr ⟨hno, rfl⟩, B5.out⟩
    rw [results_ctt rfl]
    go_simp
  | false =>
    have hw : Calls Tryz.prog 8 #[.agg #[.int .i64 M.since, .int .i64 M.next, .slice a R.length c]] (W3.alloc (.cells #[.int .i64 M.since, .int .i64 M.next, .slice a R.length c] 28)) (WrP M (W3.alloc (.cells #[.int .i64 M.since, .int .i64 M.next, .slice a R.length c] 28))) := by
      have := F4.out.it
      rw [hRm] at this
      have h2 := mWrite_any M _ a c this (fun x hx => Nat.le_trans (hlen.2 x hx) (by decide)) (Nat.le_trans hlen.1 (by decide)) (hT.below B4.out)
      rw [← HRl.out] at h2
      exact h2
    go_wp2_with fail
    generalize (W3.alloc (.cells #[.int .i64 M.since, .int .i64 M.next, .slice a R.length c] 28)) = W4 at *
    refine Calls.mono hw ?_
    rintro e W5 ⟨hwr, b5⟩
    have B5' := Hid.mk (B4.out.trans (b5.mono B4.out.size))
    have F5b := Hid.mk (F4b.out.later b5)
    have e5 := e4.later b5
    obtain ⟨z0, z1, z2⟩ := (zm.later b5).cells
    have x1 := (HX4.out.later b5).cells.2.1
    clear hw
    rcases hwr with ⟨hRt, rfl⟩ | ⟨hnR, rfl⟩
    · dsimp only
      have rt := run_take b pl hle
      by_cases hq : mtx M = b.take pl
      · obtain ⟨s1, s2, s3⟩ := hself trivial hRt hq
        have d1 : (mtx M == b.take pl) = true := by rw [hq]; simp
        have d2 : (mtx M != b.take pl) = false := by rw [bne, d1]; rfl
        have HFin := Hid.mk (And.intro s1 (And.intro s2 s3))
        clear s1 s2 s3 hq hbeg hself
        obtain ⟨tx, htx⟩ : ∃ tx, tx = mtx M := ⟨_, rfl⟩
        rw [← htx] at d1 d2 ⊢
        clear htx
        generalize b.take pl = tb at *
        have n3 := e5.set3 M.since M.next (.slice a R.length c)
        have B9 := Hid.mk (below3 B5'.out (Nat.le_refl _) (.int .i64 M.since) (.int .i64 M.next) (.slice a R.length c))
        have F9 : Hid (Fi w.heap.size (((W5.setCell ⟨w.heap.size, 0, none⟩ (.int .i64 M.since)).setCell ⟨w.heap.size, 1, none⟩ (.int .i64 M.next)).setCell ⟨w.heap.size, 2, none⟩ (.slice a R.length c)) (.slice a R.length c) R) := ⟨F5b.out.stay (by simp) (fun k hk => by have := (F5b.out.low hk).1; rw [hso _ _ (by omega), hso _ _ (by omega), hso _ _ (by omega)]) |>.base (by omega)⟩
        obtain ⟨y0, y1, y2⟩ := e5.cells
        have f0 := e5.fz 0
        have f1 := e5.fz 1
        have f2 := e5.fz 2
        go_wp2_with fail
        go_region
        all_goals (go_wp2_with fail)
        generalize ((W5.setCell ⟨w.heap.size, 0, none⟩ (.int .i64 M.since)).setCell ⟨w.heap.size, 1, none⟩ (.int .i64 M.next)).setCell ⟨w.heap.size, 2, none⟩ (.slice a R.length c) = W9 at *
        obtain ⟨g0, g1, g2⟩ := n3.cells
        refine bodyPost_ret (v := .tuple #[.agg #[.int .i64 M.since, .int .i64 M.next, .slice a R.length c], .int .i64 (pl : Int), .int .i64 0]) ?_ rfl ⟨.inl ⟨M, R, a, c, HFin.out.1, HFin.out.2.1, by rw [← HFin.out.2.2], hRm, F9.out.later (Below.refl _ _).drew⟩, B9.out.drew⟩
        rw [results_ctt rfl]
        go_simp
      · have d1 : (mtx M == b.take pl) = false := beq_eq_false_iff_ne.2 hq
        have d2 : (mtx M != b.take pl) = true := by rw [bne, d1]; rfl
        have hno : ∀ m, ¬ Beg b m := fun m h => hq (hbeg.1 ⟨m, h⟩).2.2
        clear hq hbeg hself
        generalize mtx M = tx at *
        generalize b.take pl = tb at *
        have n3 := e5.set3 0 0 (.slice none 0 0)
        have B5 := Hid.mk (below3 B5'.out (Nat.le_refl _) (.int .i64 0) (.int .i64 0) (.slice none 0 0))
        obtain ⟨y0, y1, y2⟩ := e5.cells
        have f0 := e5.fz 0
        have f1 := e5.fz 1
        have f2 := e5.fz 2
        go_wp2_with fail
        generalize ((W5.setCell ⟨w.heap.size, 0, none⟩ (.int .i64 0)).setCell ⟨w.heap.size, 1, none⟩ (.int .i64 0)).setCell ⟨w.heap.size, 2, none⟩ (.slice none 0 0) = W9 at *
        obtain ⟨g0, g1, g2⟩ := n3.cells
        refine bodyPost_ret (v := .tuple #[.agg #[.int .i64 0, .int .i64 0, .slice none 0 0], .int .i64 0, .int .i64 90]) ?_ rfl ⟨.inr ⟨hno, rfl⟩, B5.out⟩
        rw [results_ctt rfl]
        go_simp
    · dsimp only
      have hno : ∀ m, ¬ Beg b m := fun m h => hnR (hbeg.1 ⟨m, h⟩).2.1
      clear hbeg hself
      have n3 := e5.set3 0 0 (.slice none 0 0)
      have B5 := Hid.mk (below3 B5'.out (Nat.le_refl _) (.int .i64 0) (.int .i64 0) (.slice none 0 0))
      obtain ⟨y0, y1, y2⟩ := e5.cells
      have f0 := e5.fz 0
      have f1 := e5.fz 1
      have f2 := e5.fz 2
      go_wp2_with fail
      generalize ((W5.setCell ⟨w.heap.size, 0, none⟩ (.int .i64 0)).setCell ⟨w.heap.size, 1, none⟩ (.int .i64 0)).setCell ⟨w.heap.size, 2, none⟩ (.slice none 0 0) = W9 at *
      obtain ⟨g0, g1, g2⟩ := n3.cells
      refine bodyPost_ret (v := .tuple #[.agg #[.int .i64 0, .int .i64 0, .slice none 0 0], .int .i64 0, .int .i64 90]) ?_ rfl ⟨.inr ⟨hno, rfl⟩, B5.out⟩
      rw [results_ctt rfl]
      go_simp
end Go.Proofs.YtdfjlmfnkhhnjaaGreatDoor
