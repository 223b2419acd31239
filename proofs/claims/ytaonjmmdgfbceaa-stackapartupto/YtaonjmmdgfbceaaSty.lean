/- stays: what was lent is as it was. -/
import Derived.Test.YtaonjmmdgfbceaaLnu
import Derived.Test.YtaonjmmdgfbceaaRmr
namespace Go.Proofs.Ytaonjmmdgfbceaa
set_option linter.unusedVariables false
set_option linter.unusedSimpArgs false
open Go.RowKit
attribute [local go_sem ↓] Go.wp_at_zero Go.wp_at_succ
attribute [local go_sem ↓] slPe slVe
theorem Le.later {base : Nat} {w w' : World} {v : Value} {L : List Vs} (h : Le base w v L) (hb : Below w.heap.size w w') : Le base w' v L := by
  obtain ⟨R, h1, h2, h3⟩ := h
  exact ⟨R, h1.later hb, h2, h3⟩
theorem Le.ls {base : Nat} {w : World} {v : Value} {L : List Vs} (h : Le base w v L) : ∃ a cap, v = .slice a (L.length + 2) cap ∧ Ls w a cap (L ++ [mk1, mk2]) := by
  obtain ⟨R, h1, h2, h3⟩ := h
  obtain ⟨a, cap, e, s⟩ := h1.ls
  rw [List.map_append, h2] at s
  have : R.length = L.length := by rw [← h2, List.length_map]
  exact ⟨a, cap, by rw [e, List.length_append, this]; rfl, s⟩
/-- the pairs of a version that was lent, and the mark behind them -/
theorem Le.get {base : Nat} {w : World} {a : Option Addr} {n cap : Nat} {L : List Vs} (h : Le base w (.slice a n cap) L) {k : Nat} {u : Vs} (hu : L[k]? = some u) : ∃ b off ma mc, a = some ⟨b, off, none⟩ ∧ b < w.heap.size ∧ w.cell? ⟨b, off + k * 5 + 4, none⟩ = some (.slice ma u.l.length mc) ∧ Sl w ma mc (u.l ++ [mk]) := by
  obtain ⟨R, h1, h2, h3⟩ := h
  rw [← h2, List.getElem?_map] at hu
  cases hq : R[k]? with
  | none => rw [hq] at hu; cases hu
  | some r =>
    rw [hq] at hu
    simp at hu
    subst hu
    have hq' : (R ++ [(⟨mk1, [], none, 0⟩ : Rv), ⟨mk2, [], none, 0⟩])[k]? = some r := by
      rw [List.getElem?_append_left (List.getElem?_eq_some_iff.1 hq).1]; exact hq
    rcases h1.own.2 with ⟨_, h0⟩ | ⟨g, c', cur, e, hg, hc, g1, g2, g3, g4⟩
    · simp at h0
    · injection e with e1 e2 e3
      subst e1 e2 e3
      have hkl := (List.getElem?_eq_some_iff.1 hq').1
      have hx := h1.own.cellAt (k * 5 + 4) (by omega)
      rw [rcells_get hq' 4 (by omega)] at hx
      have hm := h1.met k r hq'
      rw [h3 r (List.mem_of_getElem? hq)] at hm
      obtain ⟨a', c'', e', s'⟩ := hm.sl
      injection e' with e1' e2' e3'
      refine ⟨g, 0, r.a, r.c, rfl, (h1.own.lt g rfl).2, by rw [Nat.zero_add]; exact hx, ?_⟩
      rw [e1', e3']; exact s'
set_option maxHeartbeats 4000000 in
theorem stays_any (L : List Vs) (base : Nat) (w : World) (a1 : Option Addr) (c1 : Nat) (a : Option Addr) (n cap : Nat) (hM : Le base w (.slice a1 (L.length + 2) c1) L) (hL : Li w L a n cap) :
    Calls Try.prog 28 #[.slice a1 (L.length + 2) c1, .slice a n cap] w fun e w' => e = .returned (.bool true) ∧ Below w.heap.size w w' := by
  obtain rfl := hL.n
  have hlen := hL.l
  obtain ⟨a', c', e, sM⟩ := hM.ls
  injection e with e1 e2 e3
  subst e1 e3
  clear e2
  have hle : L.length + 2 ≤ c1 := by have := sM.le; simpa using this
  obtain ⟨b, off, m1, n1, ha, hb1, p0, p1, p2, p3, p4, _⟩ := sM.at'.get L.length mk1 (by simp)
  subst ha
  obtain ⟨b', off', m2, n2, ha2, hb2, q0, q1, q2, q3, q4, _⟩ := sM.at'.get (L.length + 1) mk2 (by rw [List.getElem?_append_right (by omega)]; simp)
  injection ha2 with ha2
  injection ha2 with ha2 ha3
  subst ha2 ha3
  have hMi : Li w L (some ⟨b, off, none⟩) L.length c1 := by
    have := sM.take L.length
    rw [List.take_left] at this
    exact ⟨rfl, this, hL.l, hL.z⟩
  have hsm := sameList_any L L w _ _ _ _ _ _ hMi hL
  rw [svL_true rfl] at hsm
  have hr := fun w => run_slV (some ⟨b, off, none⟩) (L.length + 2) c1 L.length (by omega) sM.max sM.nil w
  have k1 : (L.length : Int) < (L.length : Int) + 2 := by omega
  have k2 : (L.length : Int) + 1 < (L.length : Int) + 2 := by omega
  have hzz := hL.z
  have hMM := Hid.mk hM
  have hLL := Hid.mk hL
  have q3' : w.cell? ⟨b, off + (L.length + 1) * 5 + 3, none⟩ = some (.string ⟨#[109, 97, 114, 107]⟩) := q3
  have p0' : w.cell? ⟨b, off + L.length * 5, none⟩ = some (.string ⟨#[109, 97, 114, 107]⟩) := p0
  have p1' : w.cell? ⟨b, off + L.length * 5 + 1, none⟩ = some (.int .i64 (-77)) := p1
  clear hM hL hMi sM p0 p1 p2 p3 p4 q0 q1 q2 q3 q4
  go_enter Try.func28, Try.ntmps28
  go_wp2_with (go_at_call 26; refine hsm.mono ?_; rintro e w1 ⟨rfl, b1⟩)
  clear hsm hr p0' p1' q3' k1 k2
  go_loopw [6] (fun i wr => ∃ k : Nat, k ≤ L.length ∧ i = .int .i64 (k : Int) ∧ Below w.heap.size w wr) (fun i _ => L.length - (intOf i).toNat)
  case atStart => exact ⟨0, by omega, rfl, b1⟩
  case round =>
    clear b1
    obtain ⟨k, hk, rfl, hb⟩ := hrel
    by_cases hlt : k < L.length
    · have d1 : decide ((k : Int) < (L.length : Int)) = true := decide_eq_true (by omega)
      have k2 : (k : Int) < (L.length : Int) := by omega
      have k3 : (k : Int) < (L.length : Int) + 2 := by omega
      obtain ⟨u, hu⟩ : ∃ u, L[k]? = some u := ⟨L[k], List.getElem?_eq_getElem hlt⟩
      obtain ⟨bb, oo, ma, mc, rfl, hbl, c0, c1', c2, c3, c4, hsl⟩ := ((hLL.out.later hb).s.at').get k u hu
      obtain ⟨b4, o4, ma4, mc4, ha4, hb4, d4, s4⟩ := (hMM.out.later hb).get hu
      injection ha4 with ha4
      injection ha4 with ha4 ha5
      subst ha4 ha5
      have hzu := hzz u (List.mem_of_getElem? hu)
      have hw1 : wrap64 ((k : Int) + 1) = ((k + 1 : Nat) : Int) := by unfold wrap64; omega
      have hw2 : wrap64 ((u.l.length : Int) + 1) = ((u.l.length + 1 : Nat) : Int) := by unfold wrap64; omega
      have hs4 : u.l.length + 1 ≤ mc4 := by have := s4.le; simpa using this
      have hr4 : ∀ w, (slP (.slice ma4 u.l.length mc4) none (some (.int .i64 ((u.l.length : Int) + 1))) none).run Try.prog w = .ok (.slice ma4 (u.l.length + 1) mc4) w := fun w => run_slP ma4 u.l.length mc4 (u.l.length + 1) hs4 s4.max s4.nil w
      obtain ⟨bm, om, hma, hbm, f0, f1⟩ := s4.at'.get u.l.length mk (by simp)
      subst hma
      have f0' : wr.cell? ⟨bm, om + u.l.length * 2, none⟩ = some (.string ⟨#[109, 97, 114, 107]⟩) := f0
      have f1' : wr.cell? ⟨bm, om + u.l.length * 2 + 1, none⟩ = some (.string ⟨#[]⟩) := f1
      have k5 : (u.l.length : Int) < (u.l.length : Int) + 1 := by omega
      clear hu f0 f1 s4 hsl
      go_wp2_with fail
      exact ⟨⟨k + 1, by omega, by go_num, hb⟩, by first | (rw [hw1]; exact lss_meas hlt) | exact meas1 hlt⟩
    · obtain rfl : k = L.length := by omega
      have d1 : decide ((L.length : Int) < (L.length : Int)) = false := decide_eq_false (by omega)
      go_wp2_with fail
      go_ret
      exact ⟨rfl, hb⟩
end Go.Proofs.Ytaonjmmdgfbceaa
