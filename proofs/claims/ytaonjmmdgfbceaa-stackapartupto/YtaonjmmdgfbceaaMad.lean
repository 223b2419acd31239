/- made, right. -/
import Derived.Test.YtaonjmmdgfbceaaPrm
namespace Go.Proofs.Ytaonjmmdgfbceaa
set_option linter.unusedVariables false
set_option linter.unusedSimpArgs false
open Go.RowKit
attribute [local go_sem ↓] Go.wp_at_zero Go.wp_at_succ
attribute [local go_sem] a3_eq
set_option maxHeartbeats 2000000 in
theorem made_any (L : List Vs) (key : List UInt8) (w : World) (a : Option Addr) (n cap : Nat) (hL : Li w L a n cap) :
    Calls Try.prog 9 #[.slice a n cap, str key] w fun e w' => ∃ v, e = .returned v ∧ Cp w.heap.size w' v (md key 0 L) ∧ Below w.heap.size w w' := by
  obtain rfl := hL.n
  have hlen := hL.l
  go_enter Try.func9, Try.ntmps9
  go_wp2_with fail
  have C0 := Cp.nil w w.heap.size (Nat.le_refl _)
  go_loopw [5, 6, 7] (fun o q i wr => ∃ k : Nat, k ≤ L.length ∧ i = .int .i64 (k : Int) ∧ q = .int .i64 (mdE 0 (L.take k)) ∧ Hid (Cp w.heap.size wr o (md key 0 (L.take k))) ∧ Below w.heap.size w wr) (fun o q i _ => L.length - (intOf i).toNat)
  case atStart => exact ⟨0, by omega, rfl, rfl, ⟨by simpa [md] using C0⟩, Below.refl _ _⟩
  case round =>
    clear C0
    obtain ⟨k, hk, rfl, rfl, hO, hb⟩ := hrel
    by_cases hlt : k < L.length
    · have d1 : decide ((k : Int) < (L.length : Int)) = true := decide_eq_true (by omega)
      have k2 : (k : Int) < (L.length : Int) := by omega
      obtain ⟨u, hu⟩ : ∃ u, L[k]? = some u := ⟨L[k], List.getElem?_eq_getElem hlt⟩
      obtain ⟨b, off, ma, mc, rfl, hbl, c0, c1, c2, c3, c4, hsl⟩ := ((hL.later hb).s.at').get k u hu
      have hzu := hL.z u (List.mem_of_getElem? hu)
      have hcc := lown_any u wr ma u.l.length mc rfl hsl hzu
      have hlk : Hid ((md key 0 (L.take k)).length ≤ 1954687338260) := ⟨by rw [md_len, List.length_take]; omega⟩
      have hw1 : wrap64 ((k : Int) + 1) = ((k + 1 : Nat) : Int) := by unfold wrap64; omega
      have hT := Hid.mk (md_step key hu)
      have hE := mdE_bd 0 (L.take k)
      rw [List.length_take] at hE
      have hA := a3_bd u.seq
      generalize hG : mdE 0 (L.take k) = G at *
      have hw2 : wrap64 (wrap64 (G + 1) + a3 u.seq) = G + 1 + a3 u.seq := by unfold wrap64; omega
      have hw3 : wrap64 (G + 1 + a3 u.seq) = G + 1 + a3 u.seq := by unfold wrap64; omega
      have hw4 : wrap64 (G + 1) = G + 1 := by unfold wrap64; omega
      clear hG hu hL
      go_wp2_with (first
        | (go_at_call 16; refine hcc.mono ?_; rintro e w1 ⟨ad, c, rfl, ow, b1⟩; have b3 := b1.alloc b1.size (.cells #[str key, .int .i64 (G + 1 + a3 u.seq), .bool u.mkr, str u.data, .slice ad u.l.length c] 33); have ow3 := ow.later ((Below.refl w1.heap.size w1).alloc (Nat.le_refl _) (.cells #[str key, .int .i64 (G + 1 + a3 u.seq), .bool u.mkr, str u.data, .slice ad u.l.length c] 33)))
        | (refine app_cp rfl _ _ rfl (⟨key, G + 1 + a3 u.seq, u.mkr, u.data, u.l⟩ : Vs) rfl rfl hO.out b3 ow3 (by simp) hlk.out rfl rfl ?_; intro v2 w2 o2 b4))
      exact ⟨⟨k + 1, by omega, by go_num, by rw [hT.out.2], ⟨by rw [hT.out.1]; exact o2⟩, hb.trans b4⟩, by first | (rw [hw1]; exact lss_meas hlt) | exact meas1 hlt⟩
    · obtain rfl : k = L.length := by omega
      have d1 : decide ((L.length : Int) < (L.length : Int)) = false := decide_eq_false (by omega)
      clear hL
      go_wp2_with fail
      go_ret
      exact ⟨_, rfl, by have := hO.out; rwa [List.take_length] at this, hb⟩
set_option maxHeartbeats 2000000 in
theorem right_any (L : List Vs) (w : World) (a : Option Addr) (n cap : Nat) (hL : Li w L a n cap) (hR : Rt L) :
    Calls Try.prog 12 #[.slice a n cap] w fun e w' => e = .returned (.bool true) ∧ Below w.heap.size w w' := by
  obtain rfl := hL.n
  have hlen := hL.l
  go_enter Try.func12, Try.ntmps12
  go_wp2_with fail
  go_loopw [3] (fun i wr => ∃ k : Nat, k ≤ L.length ∧ i = .int .i64 (k : Int) ∧ Below w.heap.size w wr) (fun i _ => L.length - (intOf i).toNat)
  case atStart => exact ⟨0, by omega, rfl, Below.refl _ _⟩
  case round =>
    obtain ⟨k, hk, rfl, hb⟩ := hrel
    by_cases hlt : k < L.length
    · have d1 : decide ((k : Int) < (L.length : Int)) = true := decide_eq_true (by omega)
      have k2 : (k : Int) < (L.length : Int) := by omega
      obtain ⟨u, hu⟩ : ∃ u, L[k]? = some u := ⟨L[k], List.getElem?_eq_getElem hlt⟩
      obtain ⟨b, off, ma, mc, rfl, hbl, c0, c1, c2, c3, c4, hsl⟩ := ((hL.later hb).s.at').get k u hu
      have hw1 : wrap64 ((k : Int) + 1) = ((k + 1 : Nat) : Int) := by unfold wrap64; omega
      have e1 := hR.one u (List.mem_of_getElem? hu)
      have d2 : decide (u.seq < 1) = false := decide_eq_false (by omega)
      by_cases h0 : k = 0
      · subst h0
        have k0 : (0 : Int) < (L.length : Int) := by omega
        simp only [Nat.zero_mul, Nat.add_zero] at c0 c1
        clear hu hR hL c2 c3 c4 hsl e1
        go_wp2_with fail
        go_quiet (fail)
        go_wp2_with fail
        exact ⟨⟨1, by omega, rfl, below_dN hb nq⟩, by simp [intOf]; omega⟩
      · obtain ⟨t, ht⟩ : ∃ t, L[0]? = some t := ⟨L[0], List.getElem?_eq_getElem (by omega)⟩
        obtain ⟨b', off', ma', mc', hbb, _, y0, _⟩ := ((hL.later hb).s.at').get 0 t ht
        injection hbb with hbb
        injection hbb with hb1 hb2
        subst hb1 hb2
        simp only [Nat.zero_mul, Nat.add_zero] at y0
        have ek := hR.key u (List.mem_of_getElem? hu) t (List.mem_of_getElem? ht)
        rw [← ek] at y0
        obtain ⟨p, hp⟩ : ∃ p, L[k - 1]? = some p := ⟨L[k - 1], List.getElem?_eq_getElem (by omega)⟩
        obtain ⟨b', off', ma', mc', hbb, _, _, z1, _⟩ := ((hL.later hb).s.at').get (k - 1) p hp
        injection hbb with hbb
        injection hbb with hb1 hb2
        subst hb1 hb2
        have hpu := hR.lt (i := k - 1) (j := k) (by omega) hp hu
        have d3 : decide (u.seq ≤ p.seq) = false := decide_eq_false (by omega)
        have k0 : (0 : Int) < (L.length : Int) := by omega
        have d4 : decide ((0 : Int) < (k : Int)) = true := decide_eq_true (by omega)
        obtain ⟨m, rfl⟩ : ∃ m, k = m + 1 := ⟨k - 1, by omega⟩
        rw [show m + 1 - 1 = m by omega] at z1
        have hw2 : wrap64 (((m + 1 : Nat) : Int) - 1) = (m : Int) := by unfold wrap64; omega
        have k3 : (m : Int) < (L.length : Int) := by omega
        clear e1 ek hpu hp ht hu hR hL c2 c3 c4 hsl h0
        go_wp2_with fail
        go_quiet (fail)
        go_wp2_with fail
        exact ⟨⟨m + 1 + 1, by omega, by go_num, below_dN hb nq⟩, by first | (rw [hw1]; exact lss_meas hlt) | exact meas1 hlt⟩
    · obtain rfl : k = L.length := by omega
      have d1 : decide ((L.length : Int) < (L.length : Int)) = false := decide_eq_false (by omega)
      clear hL
      go_wp2_with fail
      go_ret
      exact ⟨rfl, hb⟩
end Go.Proofs.Ytaonjmmdgfbceaa
