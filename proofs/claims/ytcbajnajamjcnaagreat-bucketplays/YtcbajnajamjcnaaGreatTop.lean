/- Top, Get, and the document's. -/
import Derived.Test.YtcbajnajamjcnaaGreatPus
namespace Go.Proofs.YtcbajnajamjcnaaGreat
set_option linter.unusedVariables false
set_option linter.unusedSimpArgs false
open Go.RowKit
attribute [local go_sem ↓] Go.wp_at_zero Go.wp_at_succ
attribute [local go_sem ↓] slPe
/-- a version of one's own is answered, and a number -/
def RV (w w' : World) (e : Ending) (u : Vs) (c : Int) : Prop := ∃ a' c', e = .returned (.tuple #[vv u.key u.seq u.mkr u.data a' u.l.length c', .int .i64 c]) ∧ Ow w.heap.size w' (.slice a' u.l.length c') u.l ∧ Below w.heap.size w w'
theorem results_ct {fn : Func} {p t : Tmp} {ty : TypeId} (h : fn.results = #[.cell p ty, .tmp t]) (tmps : Array Value) (P : Program) (w : World) :
    (results fn tmps).run P w = ((asAddr (tmps.getD p undef)).run P w).andThen fun a w₁ => ((loadVar ty a).run P w₁).andThen fun v w₂ => .ok (.tuple #[v, tmps.getD t undef]) w₂ := by
  simp only [results, h]
  simp [Sem.run_bind, Result.andThen]
theorem toE_nil : toE [] = 72 := rfl
theorem toV_nil : toV [] = vs0 := rfl
theorem toE_mk {L : List Vs} {u : Vs} (h : lastV L = some u) (hm : u.mkr = true) : toE L = 73 := by unfold toE; rw [h]; simp [hm]
theorem toV_mk {L : List Vs} {u : Vs} (h : lastV L = some u) (hm : u.mkr = true) : toV L = vs0 := by unfold toV; rw [h]; simp [hm]
theorem toE_ok {L : List Vs} {u : Vs} (h : lastV L = some u) (hm : u.mkr = false) : toE L = 0 := by unfold toE; rw [h]; simp [hm]
theorem toV_ok {L : List Vs} {u : Vs} (h : lastV L = some u) (hm : u.mkr = false) : toV L = u := by unfold toV; rw [h]; simp [hm]
/-- the end of a call: the box with what is answered, and a number -/
theorem rv_zero {w W : World} {c : Int} (hB : Below w.heap.size w W) : RV w W (.returned (.tuple #[vv [] 0 false [] none 0 0, .int .i64 c])) vs0 c := ⟨none, 0, rfl, Ow.nil _ _ hB.size, hB⟩
set_option maxRecDepth 100000 in
set_option maxHeartbeats 4000000 in
theorem top_any (L : List Vs) (w : World) (a : Option Addr) (n cap : Nat) (hL : Li w L a n cap) :
    Calls Tryz.prog 49 #[.slice a n cap] w fun e w' => RV w w' e (toV L) (toE L) := by
  have b0 := (Below.refl w.heap.size w).alloc (Nat.le_refl _) (.cells z5c 39)
  have z0 := Bv.new w (.string ⟨#[]⟩) (.int .i64 0) (.bool false) (.string ⟨#[]⟩) (.slice none 0 0)
  have hnw := newest_any L _ a n cap hL.n (hL.later b0).s (by have := hL.l; omega)
  have hzz := hL.z
  go_enter Tryz.func49, Tryz.ntmps49
  go_wp2_with fail
  with_reducible refine Calls.mono hnw ?_
  rintro e w1 ⟨(⟨rfl, rfl⟩ | ⟨x, hx, hsx, rfl⟩), b1⟩
  · dsimp only
    have z1 := z0.later b1
    have B1 := b0.trans (b1.mono b0.size)
    have z2 := z1.later ((Below.refl _ _).alloc (Nat.le_refl _) (.cells z5c 39))
    have B2 := B1.alloc B1.size (.cells z5c 39)
    clear hnw b0 z0 b1 z1 B1 hL hzz
    obtain ⟨p0, p1, p2, p3, p4, pf⟩ := z2.cells
    have pf0 := pf 0
    have pf1 := pf 1
    have pf2 := pf 2
    have pf3 := pf 3
    have pf4 := pf 4
    have z9 := z2.s5 (.string ⟨#[]⟩) (.int .i64 0) (.bool false) (.string ⟨#[]⟩) (.slice none 0 0)
    have B9 := Below.s5 B2 (R := w.heap.size) (Nat.le_refl _) (.string ⟨#[]⟩) (.int .i64 0) (.bool false) (.string ⟨#[]⟩) (.slice none 0 0)
    clear pf z2
    go_wp2_with fail
    first | rw [s5_eq] | skip
    obtain ⟨g0, g1, g2, g3, g4, _⟩ := z9.cells
    generalize s5 (w1.alloc (.cells z5c 39)) w.heap.size (.string ⟨#[]⟩) (.int .i64 0) (.bool false) (.string ⟨#[]⟩) (.slice none 0 0) = W9 at *
    refine bodyPost_ret (v := .tuple #[vv [] 0 false [] none 0 0, .int .i64 72]) ?_ rfl (rv_zero B9)
    rw [results_ct rfl]
    go_simp
  · obtain ⟨⟨xk, xs, xm, xd, xl⟩, xa, xc⟩ := x
    dsimp only at hx hsx ⊢
    have z1 := z0.later b1
    have B1 := b0.trans (b1.mono b0.size)
    have bx := (Below.refl w1.heap.size w1).alloc (Nat.le_refl _) (.cells #[str xk, .int .i64 xs, .bool xm, str xd, .slice xa xl.length xc] 39)
    have z2 := z1.later bx
    have B2 := B1.alloc B1.size (.cells #[str xk, .int .i64 xs, .bool xm, str xd, .slice xa xl.length xc] 39)
    have y2 := Bv.new w1 (str xk) (.int .i64 xs) (.bool xm) (str xd) (.slice xa xl.length xc)
    have s2 := (hsx.later b1).later bx
    have hzx := hzz _ (List.mem_of_getLast? hx)
    dsimp only at hzx
    obtain ⟨q0, q1, q2, q3, q4, _⟩ := y2.cells
    clear hnw b0 z0 b1 z1 B1 y2 hL hsx hzz bx
    cases xm with
    | true =>
      have H1 := Hid.mk (toE_mk hx rfl)
      have H2 := Hid.mk (toV_mk hx rfl)
      clear s2 hx
      obtain ⟨p0, p1, p2, p3, p4, pf⟩ := z2.cells
      have pf0 := pf 0
      have pf1 := pf 1
      have pf2 := pf 2
      have pf3 := pf 3
      have pf4 := pf 4
      have z9 := z2.s5 (.string ⟨#[]⟩) (.int .i64 0) (.bool false) (.string ⟨#[]⟩) (.slice none 0 0)
      have B9 := Below.s5 B2 (R := w.heap.size) (Nat.le_refl _) (.string ⟨#[]⟩) (.int .i64 0) (.bool false) (.string ⟨#[]⟩) (.slice none 0 0)
      clear pf z2
      go_wp2_with fail
      first | rw [s5_eq] | skip
      obtain ⟨g0, g1, g2, g3, g4, _⟩ := z9.cells
      generalize s5 (w1.alloc (.cells #[str xk, .int .i64 xs, .bool true, str xd, .slice xa xl.length xc] 39)) w.heap.size (.string ⟨#[]⟩) (.int .i64 0) (.bool false) (.string ⟨#[]⟩) (.slice none 0 0) = W9 at *
      refine bodyPost_ret (v := .tuple #[vv [] 0 false [] none 0 0, .int .i64 73]) ?_ rfl (by rw [H1.out, H2.out]; exact rv_zero B9)
      rw [results_ct rfl]
      go_simp
    | false =>
      have H1 := Hid.mk (toE_ok hx rfl)
      have H2 := Hid.mk (toV_ok hx rfl)
      clear hx
      have hcd := copied_any ⟨xk, xs, false, xd, xl⟩ (w1.alloc (.cells #[str xk, .int .i64 xs, .bool false, str xd, .slice xa xl.length xc] 39)) xa _ xc rfl s2 hzx
      go_wp2_with fail
      with_reducible refine Calls.mono hcd ?_
      rintro e w6 ⟨a6, c6, rfl, o6, b6⟩
      dsimp only
      have z6 := z2.later b6
      have B6 := B2.trans (b6.mono B2.size)
      have hno : (Value.slice a6 xl.length c6).ownBlock ≠ some w.heap.size := fun q => by
        have h1 := (o6.own.lt _ q).1
        have h2 := z2.lt
        omega
      have o7 := (o6.base (b' := w.heap.size) B2.size).s5 hno (str xk) (.int .i64 xs) (.bool false) (str xd) (.slice a6 xl.length c6)
      have z9 := z6.s5 (str xk) (.int .i64 xs) (.bool false) (str xd) (.slice a6 xl.length c6)
      have B9 := Below.s5 B6 (R := w.heap.size) (Nat.le_refl _) (str xk) (.int .i64 xs) (.bool false) (str xd) (.slice a6 xl.length c6)
      obtain ⟨p0, p1, p2, p3, p4, pf⟩ := z6.cells
      have pf0 := pf 0
      have pf1 := pf 1
      have pf2 := pf 2
      have pf3 := pf 3
      have pf4 := pf 4
      clear pf hcd z2 z6 o6 b6 s2
      go_wp2_with fail
      rw [s5_eq]
      obtain ⟨g0, g1, g2, g3, g4, _⟩ := z9.cells
      generalize s5 w6 w.heap.size (str xk) (.int .i64 xs) (.bool false) (str xd) (.slice a6 xl.length c6) = W9 at *
      refine bodyPost_ret (v := .tuple #[vv xk xs false xd a6 xl.length c6, .int .i64 0]) ?_ rfl (by rw [H1.out, H2.out]; exact ⟨a6, c6, rfl, o7, B9⟩)
      rw [results_ct rfl]
      go_simp
theorem lastV_len {L : List Vs} (h : ¬ L.length = 0) : ∃ v, L[L.length - 1]? = some v ∧ lastV L = some v := lastV_at (by omega)
theorem geE_none {L : List Vs} {s : Int} (h : plc L s = none) : geE L s = 72 ∧ geV L s = vs0 := by unfold geE geV; rw [h]; exact ⟨rfl, rfl⟩
theorem geE_some {L : List Vs} {s : Int} {k : Nat} {v : Vs} (h : plc L s = some k) (hv : L[k]? = some v) : geE L s = 0 ∧ geV L s = v := by
  unfold geE geV; rw [h]
  refine ⟨rfl, ?_⟩
  show L.getD k vs0 = v
  rw [List.getD_eq_getElem?_getD, hv]; rfl
set_option maxRecDepth 100000 in
set_option maxHeartbeats 4000000 in
theorem get_any (L : List Vs) (s : Int) (w : World) (a : Option Addr) (n cap : Nat) (hL : Li w L a n cap) :
    Calls Tryz.prog 50 #[.slice a n cap, .int .i64 s] w fun e w' => RV w w' e (geV L s) (geE L s) := by
  obtain rfl := hL.n
  have b0 := (Below.refl w.heap.size w).alloc (Nat.le_refl _) (.cells z5c 39)
  have z0 := Bv.new w (.string ⟨#[]⟩) (.int .i64 0) (.bool false) (.string ⟨#[]⟩) (.slice none 0 0)
  have hpl := place_any L s _ a _ cap rfl (hL.later b0).s.at' (by have := hL.l; omega)
  cases hp : plc L s with
  | none =>
    rw [plcI_none hp] at hpl
    have H1 := Hid.mk (geE_none hp).1
    have H2 := Hid.mk (geE_none hp).2
    clear hL
    go_enter Tryz.func50, Tryz.ntmps50
    go_wp2_with fail
    with_reducible refine Calls.mono hpl ?_
    rintro e w1 ⟨rfl, b1⟩
    dsimp only
    have z2 := z0.later b1
    have B2 := b0.trans (b1.mono b0.size)
    clear hpl b0 z0 b1
    obtain ⟨p0, p1, p2, p3, p4, pf⟩ := z2.cells
    have pf0 := pf 0
    have pf1 := pf 1
    have pf2 := pf 2
    have pf3 := pf 3
    have pf4 := pf 4
    have z9 := z2.s5 (.string ⟨#[]⟩) (.int .i64 0) (.bool false) (.string ⟨#[]⟩) (.slice none 0 0)
    have B9 := Below.s5 B2 (R := w.heap.size) (Nat.le_refl _) (.string ⟨#[]⟩) (.int .i64 0) (.bool false) (.string ⟨#[]⟩) (.slice none 0 0)
    clear pf z2
    go_wp2_with fail
    first | rw [s5_eq] | skip
    obtain ⟨g0, g1, g2, g3, g4, _⟩ := z9.cells
    generalize s5 (w1) w.heap.size (.string ⟨#[]⟩) (.int .i64 0) (.bool false) (.string ⟨#[]⟩) (.slice none 0 0) = W9 at *
    refine bodyPost_ret (v := .tuple #[vv [] 0 false [] none 0 0, .int .i64 72]) ?_ rfl (by rw [H1.out, H2.out]; exact rv_zero B9)
    rw [results_ct rfl]
    go_simp
  | some k =>
    obtain ⟨u, hu1, hus⟩ := (plc_some hp).1
    clear hus
    have H1 := Hid.mk (geE_some hp hu1).1
    have H2 := Hid.mk (geE_some hp hu1).2
    rw [plcI_some hp] at hpl
    have hkl : k < L.length := (List.getElem?_eq_some_iff.1 hu1).1
    have dk : decide ((k : Int) < 0) = false := decide_eq_false (by omega)
    have k2 : (k : Int) < (L.length : Int) := by omega
    have hzx := hL.z _ (List.mem_of_getElem? hu1)
    obtain ⟨xk, xs, xm, xd, xl⟩ := u
    dsimp only at hzx
    clear hp
    go_enter Tryz.func50, Tryz.ntmps50
    go_wp2_with fail
    with_reducible refine Calls.mono hpl ?_
    rintro e w1 ⟨rfl, b1⟩
    dsimp only
    have z2 := z0.later b1
    have B2 := b0.trans (b1.mono b0.size)
    obtain ⟨b, off, xa, xc, rfl, hb1, e0, e1, e2, e3, e4, s2⟩ := ((hL.later B2).s.at').get _ _ hu1
    dsimp only at e0 e1 e2 e3 e4 s2
    clear hpl b0 z0 b1 hL hu1
    have hcd := copied_any ⟨xk, xs, xm, xd, xl⟩ (w1) xa _ xc rfl s2 hzx
    go_wp2_with fail
    with_reducible refine Calls.mono hcd ?_
    rintro e w6 ⟨a6, c6, rfl, o6, b6⟩
    dsimp only
    have z6 := z2.later b6
    have B6 := B2.trans (b6.mono B2.size)
    have hno : (Value.slice a6 xl.length c6).ownBlock ≠ some w.heap.size := fun q => by
      have h1 := (o6.own.lt _ q).1
      have h2 := z2.lt
      omega
    have o7 := (o6.base (b' := w.heap.size) B2.size).s5 hno (str xk) (.int .i64 xs) (.bool xm) (str xd) (.slice a6 xl.length c6)
    have z9 := z6.s5 (str xk) (.int .i64 xs) (.bool xm) (str xd) (.slice a6 xl.length c6)
    have B9 := Below.s5 B6 (R := w.heap.size) (Nat.le_refl _) (str xk) (.int .i64 xs) (.bool xm) (str xd) (.slice a6 xl.length c6)
    obtain ⟨p0, p1, p2, p3, p4, pf⟩ := z6.cells
    have pf0 := pf 0
    have pf1 := pf 1
    have pf2 := pf 2
    have pf3 := pf 3
    have pf4 := pf 4
    clear pf hcd z2 z6 o6 b6 s2
    go_wp2_with fail
    rw [s5_eq]
    obtain ⟨g0, g1, g2, g3, g4, _⟩ := z9.cells
    generalize s5 w6 w.heap.size (str xk) (.int .i64 xs) (.bool xm) (str xd) (.slice a6 xl.length c6) = W9 at *
    refine bodyPost_ret (v := .tuple #[vv xk xs xm xd a6 xl.length c6, .int .i64 0]) ?_ rfl (by rw [H1.out, H2.out]; exact ⟨a6, c6, rfl, o7, B9⟩)
    rw [results_ct rfl]
    go_simp
end Go.Proofs.YtcbajnajamjcnaaGreat
