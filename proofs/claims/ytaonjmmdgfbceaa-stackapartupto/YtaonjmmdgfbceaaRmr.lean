/- The document's Remove. -/
import Derived.Test.YtaonjmmdgfbceaaRem
import Derived.Test.YtaonjmmdgfbceaaSnc
namespace Go.Proofs.Ytaonjmmdgfbceaa
set_option linter.unusedVariables false
set_option linter.unusedSimpArgs false
open Go.RowKit
attribute [local go_sem ↓] Go.wp_at_zero Go.wp_at_succ
attribute [local go_sem ↓] slPe
theorem er_step {L : List Vs} {i k : Nat} {u : Vs} (hu : L[i]? = some u) (h : ¬ i = k) : (L.take (i + 1)).eraseIdx k = (L.take i).eraseIdx k ++ [u] := by
  have hi := (List.getElem?_eq_some_iff.1 hu).1
  have hl : (L.take i).length = i := by rw [List.length_take]; omega
  rw [takeV hu]
  by_cases h1 : k < i
  · rw [List.eraseIdx_append_of_lt_length (by omega)]
  · rw [List.eraseIdx_of_length_le (by rw [List.length_append, hl]; simp; omega), List.eraseIdx_of_length_le (by omega)]
theorem er_same {L : List Vs} {k : Nat} {u : Vs} (hu : L[k]? = some u) : (L.take (k + 1)).eraseIdx k = (L.take k).eraseIdx k := by
  have hi := (List.getElem?_eq_some_iff.1 hu).1
  have hl : (L.take k).length = k := by rw [List.length_take]; omega
  have e1 : (L.take k).eraseIdx k = L.take k := List.eraseIdx_of_length_le (by omega)
  rw [takeV hu, List.eraseIdx_append_of_length_le (by omega), e1, hl, Nat.sub_self]
  simp
theorem er_len (L : List Vs) (k : Nat) : (L.eraseIdx k).length ≤ L.length := by
  rw [List.length_eraseIdx]; split <;> omega
set_option maxHeartbeats 4000000 in
theorem rRemove_any (L : List Vs) (s : Int) (w : World) (a : Option Addr) (n cap : Nat) (hL : Li w L a n cap) :
    Calls Try.prog 30 #[.slice a n cap, .int .i64 s] w fun e w' => ∃ r, e = .returned (.tuple #[r, .int .i64 (geE L s)]) ∧ Cp w.heap.size w' r (rmL L s) ∧ Below w.heap.size w w' := by
  obtain rfl := hL.n
  have hpl := rplace_any L s w a _ cap rfl hL.s.at' (by have := hL.l; omega)
  cases hp : plc L s with
  | none =>
    rw [plcI_none hp] at hpl
    have H1 := Hid.mk (geE_none hp).1
    have H2 := Hid.mk (rmL_none hp)
    clear hL
    go_enter Try.func30, Try.ntmps30
    go_wp2_with (go_at_call 43; refine hpl.mono ?_; rintro e w1 ⟨rfl, b1⟩)
    go_ret2
    exact ⟨_, by rw [H1.out]; rfl, by rw [H2.out]; exact Cp.nil _ _ b1.size, b1⟩
  | some k =>
    obtain ⟨u, hu1, hus⟩ := (plc_some hp).1
    clear hus
    have hkl : k < L.length := (List.getElem?_eq_some_iff.1 hu1).1
    have hlen := hL.l
    have H1 := Hid.mk (geE_some hp hu1).1
    have H2 : Hid (rmL L s = L.eraseIdx k) := ⟨by rw [rmL_some hp, List.eraseIdx_eq_take_drop_succ]⟩
    rw [plcI_some hp] at hpl
    have dk : decide ((k : Int) < 0) = false := decide_eq_false (by omega)
    clear hp hu1 u
    go_enter Try.func30, Try.ntmps30
    go_wp2_with (go_at_call 43; refine hpl.mono ?_; rintro e w1 ⟨rfl, b1⟩)
    clear hpl
    have C0 := Cp.nil w1 w.heap.size b1.size
    go_loopw [7, 8] (fun o i wr => ∃ j : Nat, j ≤ L.length ∧ i = .int .i64 (j : Int) ∧ Hid (Cp w.heap.size wr o ((L.take j).eraseIdx k)) ∧ Below w.heap.size w wr) (fun o i _ => L.length - (intOf i).toNat)
    case atStart => exact ⟨0, by omega, rfl, ⟨by simpa using C0⟩, b1⟩
    case round =>
      clear C0
      obtain ⟨j, hj, rfl, hO, hb⟩ := hrel
      by_cases hlt : j < L.length
      · have d1 : decide ((j : Int) < (L.length : Int)) = true := decide_eq_true (by omega)
        have k2 : (j : Int) < (L.length : Int) := by omega
        obtain ⟨u, hu⟩ : ∃ u, L[j]? = some u := ⟨L[j], List.getElem?_eq_getElem hlt⟩
        have hw1 : wrap64 ((j : Int) + 1) = ((j + 1 : Nat) : Int) := by unfold wrap64; omega
        by_cases hjk : j = k
        · subst hjk
          have dj : ((j : Int) == (j : Int)) = true := by simp
          have hT := Hid.mk (er_same hu)
          clear hu hL
          go_wp2_with fail
          exact ⟨⟨j + 1, by omega, by go_num, ⟨by rw [hT.out]; exact hO.out⟩, hb⟩, by first | (rw [hw1]; exact lss_meas hlt) | exact meas1 hlt⟩
        · have dj : ((j : Int) == (k : Int)) = false := by rw [beq_eq_false_iff_ne]; omega
          have dj' : (j == k) = false := by rw [beq_eq_false_iff_ne]; exact hjk
          have dj2 : ((j : Int) != (k : Int)) = true := by rw [bne_iff_ne]; omega
          have dj3 : decide ((j : Int) = (k : Int)) = false := decide_eq_false (by omega)
          obtain ⟨b, off, ma, mc, rfl, hbl, c0, c1, c2, c3, c4, hsl⟩ := ((hL.later hb).s.at').get j u hu
          have hzu := hL.z u (List.mem_of_getElem? hu)
          have hcc := rOwn_any u wr ma u.l.length mc rfl hsl hzu
          have hlk : Hid (((L.take j).eraseIdx k).length ≤ 1954687338260) := ⟨by have := er_len (L.take j) k; rw [List.length_take] at this; omega⟩
          have hT := Hid.mk (er_step hu hjk)
          clear hu hL hjk
          go_wp2_with (first
            | (go_at_call 41; refine hcc.mono ?_; rintro e w2 ⟨ad, c, rfl, ow, b2⟩)
            | (refine app_cp rfl _ _ rfl u rfl rfl hO.out b2 ow rfl hlk.out rfl rfl ?_; intro v3 w3 o3 b3))
          exact ⟨⟨j + 1, by omega, by go_num, ⟨by rw [hT.out]; exact o3⟩, hb.trans b3⟩, by first | (rw [hw1]; exact lss_meas hlt) | exact meas1 hlt⟩
      · obtain rfl : j = L.length := by omega
        have d1 : decide ((L.length : Int) < (L.length : Int)) = false := decide_eq_false (by omega)
        clear hL
        go_wp2_with fail
        go_ret2
        exact ⟨_, by rw [H1.out]; rfl, by rw [H2.out]; have := hO.out; rwa [List.take_length] at this, hb⟩
end Go.Proofs.Ytaonjmmdgfbceaa
