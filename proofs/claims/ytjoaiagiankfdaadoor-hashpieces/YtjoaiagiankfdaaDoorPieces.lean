import Derived.Test.YtjoaiagiankfdaaDoorGrown
import Derived.Test.YtjoaiagiankfdaaDoorInts
import Derived.Test.YtjoaiagiankfdaaDoorCards
import Derived.Test.YtjoaiagiankfdaaDoorTie
import Derived.SevenTiedAt
namespace Go.Proofs.YtjoaiagiankfdaaDoor
open Go.ChangeShapes Go.WideShapes Go.ChangeAt Go.RowKit
open Go.ChangeMaps (open_string shut_string)
set_option linter.unusedVariables false
set_option linter.unusedSimpArgs false
namespace hashPieces
/-- What the region that asks two sums needs, and keeps. -/
structure SS (w : World) (G : Nat) (m : List UInt8) (w' : World) : Prop where
  kin : KIn w'
  wr : WrAt w' G m
  bel : Below w.heap.size w w'
theorem SS.next {w : World} {G : Nat} {m : List UInt8} {w2 w3 : World} (h : SS w G m w2) (q : Below w2.heap.size w2 w3) : SS w G m w3 := ⟨h.kin.seq q, h.wr.below q, below_seq h.bel q⟩
theorem SS.drew {w : World} {G : Nat} {m : List UInt8} {w2 : World} (h : SS w G m w2) : SS w G m w2.drew := h.next (Below.refl _ _).drew
theorem wsumS {w w' : World} {G : Nat} {m : List UInt8} (h : SS w G m w') (hl : m.length < 1152921504606846000) :
    Calls Tryd.prog 14 #[.pointer (some ⟨G, 0, none⟩)] w' fun e w'' => e = .returned (.agg (b32 (dg m))) ∧ Below w'.heap.size w' w'' := wsum_any G m w' h.kin h.wr hl
theorem sumS {w w' : World} {G : Nat} {m : List UInt8} (h : SS w G m w') (s : ByteArray) (hs : s.size < 1152921504606846000) (m' : List UInt8) (hm : s.data.toList = m') :
    Calls Tryd.prog 15 #[.string s] w' fun e w'' => e = .returned (.agg (b32 (dg m'))) ∧ Below w'.heap.size w' w'' := by
  subst hm; exact sum_any s w' h.kin hs
theorem ext_list (D : ByteArray) (a b : Nat) : (D.extract a b).data.toList = (D.data.toList.drop a).take (b - a) := by
  rw [ByteArray.data_extract, Array.toList_extract]
theorem take_more (l : List UInt8) (A n : Nat) : l.take A ++ (l.drop A).take n = l.take (A + n) := by
  rw [List.take_add]
theorem eqSelf (g : Nat → UInt8) (w : World) : (Op.equalIn 10000 22 (.agg (b32 g)) (.agg (b32 g))).run Tryd.prog w = .ok true w := by
  rw [eq22, eqb_self]
theorem rem200 (z : Int) : ∃ K : Nat, K < 200 ∧ (z.tmod 200 = (K : Int) ∨ (z.tmod 200 = -(K : Int) ∧ 0 < K)) := by
  have h1 : z.tmod 200 < 200 := Int.tmod_lt_of_pos z (by decide)
  have h2 : -200 < z.tmod 200 := by
    have e : (-z).tmod 200 = -(z.tmod 200) := Int.neg_tmod z 200
    have := Int.tmod_lt_of_pos (-z) (show (0 : Int) < 200 by decide)
    omega
  rcases Int.lt_or_le (z.tmod 200) 0 with h | h
  · exact ⟨(-(z.tmod 200)).toNat, by omega, Or.inr ⟨by omega, by omega⟩⟩
  · exact ⟨(z.tmod 200).toNat, by omega, Or.inl (by omega)⟩
attribute [local go_sem ↓] Go.wp_at_zero Go.wp_at_succ
set_option maxHeartbeats 2000000 in
set_option maxRecDepth 8000 in
theorem walk (s : ByteArray) (n : Int) (a : Option Addr) (len cap : Nat) (zs : s.size ≤ 140737488351232) (wn : (Lit.int .i64 n).wf = true) (w : World) (hI : IntsAt w a len) (hlm : len ≤ 9223372036854775807) (hK : KIn w) :
    Calls Tryd.prog 5 #[.string s, .int .i64 n, .slice a len cap] w fun e w' => e = .returned (.bool true) ∧ Below w.heap.size w w' := by
  have hn := bounds_i64 wn
  go_enter Tryd.func5, Tryd.ntmps5
  go_wp2_with fail
  refine (head_any w hK).mono ?_
  rintro e w1 ⟨rfl, b1⟩
  have k1 := hK.seq b1
  go_wp2_with fail
  refine (grown_any s n zs hn.2 w1).mono ?_
  rintro e w2 ⟨t, rfl, ht, rfl⟩
  go_wp2_with fail
  refine (new_any w2).mono ?_
  rintro e w3 ⟨rfl, W3, b3⟩
  have k3 := k1.seq b3
  have b03 := below_seq b1 b3
  have hG0 : 0 < w2.heap.size := k1.lt
  have hGw : w.heap.size ≤ w2.heap.size := b1.size
  clear b1 b3 k1
  generalize hG : w2.heap.size = G at *
  go_wp2_with fail
  refine (wsum_any G [] w3 k3 W3 (by decide)).mono ?_
  rintro e w4 ⟨rfl, b4⟩
  have S4 : SS w G [] w4 := (⟨k3, W3, b03⟩ : SS w G [] w3).next b4
  clear b4 W3 k3 b03
  go_wp2_with fail
  refine (sumE_any w4 S4.kin).mono ?_
  rintro e w5 ⟨rfl, b5⟩
  have S5 := S4.next b5
  have eq0 := eqSelf (dg [])
  go_wp2_with fail
  clear eq0 S4 b5
  go_loopw [9, 10, 11] (fun at_ i u wr => ∃ k A : Nat, k ≤ len ∧ A ≤ t.size ∧ i = .int .i64 k ∧ at_ = .int .i64 A ∧ SS w G (t.data.toList.take A) wr) (fun _ i _ _ => len - (intOf i).toNat)
  case atStart => exact ⟨0, 0, by omega, by omega, rfl, rfl, S5⟩
  case round =>
    clear S5
    obtain ⟨k, A, hk, hA, rfl, rfl, S⟩ := hrel
    by_cases hlt : k < len
    · obtain ⟨b, off, z, rfl, hb, hc, wz⟩ := hI k hlt
      have hc' : wr.cell? ⟨b, off + k, none⟩ = some (.int .i64 z) := by rw [S.bel.cell (p := ⟨b, off + k, none⟩) hb]; exact hc
      have hd : decide ((k : Int) < (len : Int)) = true := decide_eq_true (by omega)
      have i0 : (0 : Int) ≤ (k : Int) := by omega
      have i1 : (k : Int) < (len : Int) := by omega
      obtain ⟨K, hK200, hKs⟩ := rem200 z
      have eM : ∃ M : Nat, (t.size : Int) - (A : Int) = (M : Int) ∧ A + M = t.size := ⟨t.size - A, by omega, by omega⟩
      obtain ⟨M, eM, hM⟩ := eM
      have HM : Hid (A + M = t.size) := hM
      clear hM
      have a0 : (0 : Int) ≤ (A : Int) := by omega
      rcases hKs with hK0 | ⟨hK0, hKp⟩
      · have hKn : decide ((K : Int) < 0) = false := by simp
        by_cases hg : M < K
        · have hgd : decide ((M : Int) < (K : Int)) = true := decide_eq_true (by omega)
          obtain ⟨A2, hA2, eA2, hA2s⟩ : ∃ A2 : Nat, A2 = A + M ∧ (A : Int) + (M : Int) = (A2 : Int) ∧ A2 ≤ t.size := ⟨A + M, rfl, by omega, by have := HM.out; omega⟩
          have hAA : A ≤ A2 := by omega
          clear hA2

          have A20 : (0 : Int) ≤ (A2 : Int) := by omega
          have A21 : (A2 : Int) ≤ (t.size : Int) := by omega
          have A22 : (A : Int) ≤ (A2 : Int) := by omega
          have hL2 : (t.extract A A2).data.toList = (t.data.toList.drop A).take (A2 - A) := ext_list t A A2
          have hL3 : (t.extract 0 A2).data.toList = t.data.toList.take A2 := by rw [ext_list, List.drop_zero, Nat.sub_zero]
          have HT : Hid (t.data.toList.take A ++ (t.data.toList.drop A).take (A2 - A) = t.data.toList.take A2) := by
            show _ = _; rw [take_more, show A + (A2 - A) = A2 by omega]
          have HL2 : Hid _ := hL2
          have HL3 : Hid _ := hL3
          have z2 : (t.extract A A2).size ≤ 140737488356232 := by rw [ByteArray.size_extract]; omega
          have z3 : (t.extract 0 A2).size ≤ 140737488356232 := by rw [ByteArray.size_extract]; omega
          have zl : (t.data.toList.take A).length ≤ 140737488356232 := by rw [List.length_take, Array.length_toList]; show min A t.size ≤ _; omega
          have zl2 : (t.data.toList.take A2).length ≤ 140737488356232 := by rw [List.length_take, Array.length_toList]; show min A2 t.size ≤ _; omega
          clear hL2 hL3
          go_wp2_with fail
          refine (write_any G _ (t.extract A A2) wr S.kin (by omega) S.wr (by omega)).mono ?_
          rintro e w6 ⟨rfl, W6, t6⟩
          rw [HL2.out, HT.out] at W6
          have S6 : SS w G (t.data.toList.take A2) w6 := ⟨t6.kin S.kin (by omega), W6, S.bel.trans (t6.below S.bel.size (by omega))⟩
          clear W6 t6 zl z2
          go_wp2_with fail
          have eq6 := eqSelf (dg (t.data.toList.take A2))
          go_region_held3 (fun w' => SS w G (t.data.toList.take A2) w') (first | exact S6.drew | exact S6 | exact SS.next (by assumption) bq) (first | (go_at_call 14; refine (wsumS (w := w) (m := t.data.toList.take A2) (by assumption) (by omega)).mono ?_; rintro e w7 ⟨rfl, bq⟩) | (go_at_call 15; refine (sumS (w := w) (G := G) (m := t.data.toList.take A2) (by assumption) (t.extract 0 A2) (by omega) _ HL3.out).mono ?_; rintro e w7 ⟨rfl, bq⟩))
          go_wp2_with fail
          exact ⟨⟨k + 1, A2, by omega, hA2s, by go_num, rfl, by assumption⟩, by simp [intOf]; omega⟩
        · have hgd : decide ((M : Int) < (K : Int)) = false := decide_eq_false (by omega)
          obtain ⟨A2, hA2, eA2, hA2s⟩ : ∃ A2 : Nat, A2 = A + K ∧ (A : Int) + (K : Int) = (A2 : Int) ∧ A2 ≤ t.size := ⟨A + K, rfl, by omega, by have := HM.out; omega⟩
          have hAA : A ≤ A2 := by omega
          clear hA2

          have A20 : (0 : Int) ≤ (A2 : Int) := by omega
          have A21 : (A2 : Int) ≤ (t.size : Int) := by omega
          have A22 : (A : Int) ≤ (A2 : Int) := by omega
          have hL2 : (t.extract A A2).data.toList = (t.data.toList.drop A).take (A2 - A) := ext_list t A A2
          have hL3 : (t.extract 0 A2).data.toList = t.data.toList.take A2 := by rw [ext_list, List.drop_zero, Nat.sub_zero]
          have HT : Hid (t.data.toList.take A ++ (t.data.toList.drop A).take (A2 - A) = t.data.toList.take A2) := by
            show _ = _; rw [take_more, show A + (A2 - A) = A2 by omega]
          have HL2 : Hid _ := hL2
          have HL3 : Hid _ := hL3
          have z2 : (t.extract A A2).size ≤ 140737488356232 := by rw [ByteArray.size_extract]; omega
          have z3 : (t.extract 0 A2).size ≤ 140737488356232 := by rw [ByteArray.size_extract]; omega
          have zl : (t.data.toList.take A).length ≤ 140737488356232 := by rw [List.length_take, Array.length_toList]; show min A t.size ≤ _; omega
          have zl2 : (t.data.toList.take A2).length ≤ 140737488356232 := by rw [List.length_take, Array.length_toList]; show min A2 t.size ≤ _; omega
          clear hL2 hL3
          go_wp2_with fail
          refine (write_any G _ (t.extract A A2) wr S.kin (by omega) S.wr (by omega)).mono ?_
          rintro e w6 ⟨rfl, W6, t6⟩
          rw [HL2.out, HT.out] at W6
          have S6 : SS w G (t.data.toList.take A2) w6 := ⟨t6.kin S.kin (by omega), W6, S.bel.trans (t6.below S.bel.size (by omega))⟩
          clear W6 t6 zl z2
          go_wp2_with fail
          have eq6 := eqSelf (dg (t.data.toList.take A2))
          go_region_held3 (fun w' => SS w G (t.data.toList.take A2) w') (first | exact S6.drew | exact S6 | exact SS.next (by assumption) bq) (first | (go_at_call 14; refine (wsumS (w := w) (m := t.data.toList.take A2) (by assumption) (by omega)).mono ?_; rintro e w7 ⟨rfl, bq⟩) | (go_at_call 15; refine (sumS (w := w) (G := G) (m := t.data.toList.take A2) (by assumption) (t.extract 0 A2) (by omega) _ HL3.out).mono ?_; rintro e w7 ⟨rfl, bq⟩))
          go_wp2_with fail
          exact ⟨⟨k + 1, A2, by omega, hA2s, by go_num, rfl, by assumption⟩, by simp [intOf]; omega⟩
      · have hKn : decide (-(K : Int) < 0) = true := decide_eq_true (by omega)
        by_cases hg : M < K
        · have hgd : decide ((M : Int) < (K : Int)) = true := decide_eq_true (by omega)
          obtain ⟨A2, hA2, eA2, hA2s⟩ : ∃ A2 : Nat, A2 = A + M ∧ (A : Int) + (M : Int) = (A2 : Int) ∧ A2 ≤ t.size := ⟨A + M, rfl, by omega, by have := HM.out; omega⟩
          have hAA : A ≤ A2 := by omega
          clear hA2

          have A20 : (0 : Int) ≤ (A2 : Int) := by omega
          have A21 : (A2 : Int) ≤ (t.size : Int) := by omega
          have A22 : (A : Int) ≤ (A2 : Int) := by omega
          have hL2 : (t.extract A A2).data.toList = (t.data.toList.drop A).take (A2 - A) := ext_list t A A2
          have hL3 : (t.extract 0 A2).data.toList = t.data.toList.take A2 := by rw [ext_list, List.drop_zero, Nat.sub_zero]
          have HT : Hid (t.data.toList.take A ++ (t.data.toList.drop A).take (A2 - A) = t.data.toList.take A2) := by
            show _ = _; rw [take_more, show A + (A2 - A) = A2 by omega]
          have HL2 : Hid _ := hL2
          have HL3 : Hid _ := hL3
          have z2 : (t.extract A A2).size ≤ 140737488356232 := by rw [ByteArray.size_extract]; omega
          have z3 : (t.extract 0 A2).size ≤ 140737488356232 := by rw [ByteArray.size_extract]; omega
          have zl : (t.data.toList.take A).length ≤ 140737488356232 := by rw [List.length_take, Array.length_toList]; show min A t.size ≤ _; omega
          have zl2 : (t.data.toList.take A2).length ≤ 140737488356232 := by rw [List.length_take, Array.length_toList]; show min A2 t.size ≤ _; omega
          clear hL2 hL3
          go_wp2_with fail
          refine (write_any G _ (t.extract A A2) wr S.kin (by omega) S.wr (by omega)).mono ?_
          rintro e w6 ⟨rfl, W6, t6⟩
          rw [HL2.out, HT.out] at W6
          have S6 : SS w G (t.data.toList.take A2) w6 := ⟨t6.kin S.kin (by omega), W6, S.bel.trans (t6.below S.bel.size (by omega))⟩
          clear W6 t6 zl z2
          go_wp2_with fail
          have eq6 := eqSelf (dg (t.data.toList.take A2))
          go_region_held3 (fun w' => SS w G (t.data.toList.take A2) w') (first | exact S6.drew | exact S6 | exact SS.next (by assumption) bq) (first | (go_at_call 14; refine (wsumS (w := w) (m := t.data.toList.take A2) (by assumption) (by omega)).mono ?_; rintro e w7 ⟨rfl, bq⟩) | (go_at_call 15; refine (sumS (w := w) (G := G) (m := t.data.toList.take A2) (by assumption) (t.extract 0 A2) (by omega) _ HL3.out).mono ?_; rintro e w7 ⟨rfl, bq⟩))
          go_wp2_with fail
          exact ⟨⟨k + 1, A2, by omega, hA2s, by go_num, rfl, by assumption⟩, by simp [intOf]; omega⟩
        · have hgd : decide ((M : Int) < (K : Int)) = false := decide_eq_false (by omega)
          obtain ⟨A2, hA2, eA2, hA2s⟩ : ∃ A2 : Nat, A2 = A + K ∧ (A : Int) + (K : Int) = (A2 : Int) ∧ A2 ≤ t.size := ⟨A + K, rfl, by omega, by have := HM.out; omega⟩
          have hAA : A ≤ A2 := by omega
          clear hA2

          have A20 : (0 : Int) ≤ (A2 : Int) := by omega
          have A21 : (A2 : Int) ≤ (t.size : Int) := by omega
          have A22 : (A : Int) ≤ (A2 : Int) := by omega
          have hL2 : (t.extract A A2).data.toList = (t.data.toList.drop A).take (A2 - A) := ext_list t A A2
          have hL3 : (t.extract 0 A2).data.toList = t.data.toList.take A2 := by rw [ext_list, List.drop_zero, Nat.sub_zero]
          have HT : Hid (t.data.toList.take A ++ (t.data.toList.drop A).take (A2 - A) = t.data.toList.take A2) := by
            show _ = _; rw [take_more, show A + (A2 - A) = A2 by omega]
          have HL2 : Hid _ := hL2
          have HL3 : Hid _ := hL3
          have z2 : (t.extract A A2).size ≤ 140737488356232 := by rw [ByteArray.size_extract]; omega
          have z3 : (t.extract 0 A2).size ≤ 140737488356232 := by rw [ByteArray.size_extract]; omega
          have zl : (t.data.toList.take A).length ≤ 140737488356232 := by rw [List.length_take, Array.length_toList]; show min A t.size ≤ _; omega
          have zl2 : (t.data.toList.take A2).length ≤ 140737488356232 := by rw [List.length_take, Array.length_toList]; show min A2 t.size ≤ _; omega
          clear hL2 hL3
          go_wp2_with fail
          refine (write_any G _ (t.extract A A2) wr S.kin (by omega) S.wr (by omega)).mono ?_
          rintro e w6 ⟨rfl, W6, t6⟩
          rw [HL2.out, HT.out] at W6
          have S6 : SS w G (t.data.toList.take A2) w6 := ⟨t6.kin S.kin (by omega), W6, S.bel.trans (t6.below S.bel.size (by omega))⟩
          clear W6 t6 zl z2
          go_wp2_with fail
          have eq6 := eqSelf (dg (t.data.toList.take A2))
          go_region_held3 (fun w' => SS w G (t.data.toList.take A2) w') (first | exact S6.drew | exact S6 | exact SS.next (by assumption) bq) (first | (go_at_call 14; refine (wsumS (w := w) (m := t.data.toList.take A2) (by assumption) (by omega)).mono ?_; rintro e w7 ⟨rfl, bq⟩) | (go_at_call 15; refine (sumS (w := w) (G := G) (m := t.data.toList.take A2) (by assumption) (t.extract 0 A2) (by omega) _ HL3.out).mono ?_; rintro e w7 ⟨rfl, bq⟩))
          go_wp2_with fail
          exact ⟨⟨k + 1, A2, by omega, hA2s, by go_num, rfl, by assumption⟩, by simp [intOf]; omega⟩
    · obtain rfl : k = len := by omega
      have hd : decide ((k : Int) < (k : Int)) = false := decide_eq_false (by omega)
      have a0 : (0 : Int) ≤ (A : Int) := by omega
      have a1 : (A : Int) ≤ (t.size : Int) := by omega
      have HL2 : Hid (t.data.toList.take A ++ (t.extract A t.size).data.toList = t.data.toList) := by
        show _ = _
        rw [ext_list, take_more, show A + (t.size - A) = t.size by omega, List.take_of_length_le (by rw [Array.length_toList]; exact Nat.le_refl _)]
      have z2 : (t.extract A t.size).size ≤ 140737488356232 := by rw [ByteArray.size_extract]; omega
      have zl : (t.data.toList.take A).length ≤ 140737488356232 := by rw [List.length_take, Array.length_toList]; show min A t.size ≤ _; omega
      have zl2 : t.data.toList.length ≤ 140737488356232 := by rw [Array.length_toList]; exact ht
      go_wp2_with fail
      refine (write_any G _ (t.extract A t.size) wr S.kin (by omega) S.wr (by omega)).mono ?_
      rintro e w6 ⟨rfl, W6, t6⟩
      rw [HL2.out] at W6
      have S6 : SS w G t.data.toList w6 := ⟨t6.kin S.kin (by omega), W6, S.bel.trans (t6.below S.bel.size (by omega))⟩
      clear W6 t6 zl z2
      have eq6 := eqSelf (dg t.data.toList)
      go_wp2_with fail
      refine (wsumS S6 (by omega)).mono ?_
      rintro e w7 ⟨rfl, b7⟩
      have S7 := S6.next b7
      go_wp2_with fail
      refine (sumS S7 t (by omega) _ rfl).mono ?_
      rintro e w8 ⟨rfl, b8⟩
      have S8 := S7.next b8
      go_wp2_with fail
      refine (wsumS S8 (by omega)).mono ?_
      rintro e w9 ⟨rfl, b9⟩
      have S9 := S8.next b9
      go_wp2_with fail
      refine (sumS S9 t (by omega) _ rfl).mono ?_
      rintro e w10 ⟨rfl, b10⟩
      have S10 := S9.next b10
      go_wp2_with fail
      go_ret
      exact ⟨rfl, S10.bel⟩

set_option maxRecDepth 100000 in
theorem lifted (os : Os) (started : os.Started) (H : Type) (enc : TypeId × Value → H) :
    ReturnsInHanded {} Tryd.checked os 5 .any (fun w args => (Rows.hashPiecesSpec.pre enc Tryd.prog Tryd.f5 [] false w args ∧ laidMetH Tryd.prog laid1 w) ∧ sizedMet enc Tryd.prog Tryd.f5 (OpenSpec.ofChange Rows.hashPiecesSpec) false w args)
      (Rows.hashPiecesSpec.post enc Tryd.prog Tryd.f5 false true false false) := by
  refine returnsInHanded_of_change_and (C := Tryd.checked) (X := fun w _ => laidMetH Tryd.prog laid1 w) (fun _ _ _ hh h => h.of_heap hh) own started (by kernel_rfl) Tryd.func5
    (ChangeSpec.witness_at (enc := enc) (C := Tryd.checked) (os := os) (X := fun w _ => laidMetH Tryd.prog laid1 w) false (laidWorld os) #[.string ByteArray.empty, .int .i64 0, .slice none 0 0] 8 rfl (by kernel_rfl) (by kernel_rfl) (by kernel_rfl) (by kernel_rfl) (by kernel_rfl) (laidWorld_met os _)) ?_
  intro W base args ds gs before hval0 hW _ hsz0 hL _
  have hval : ∀ (j : Nat) t v, Tryd.f5.params[j]? = some t → args[j]? = some v → Value.okWide Tryd.prog W .any base t v := hval0
  have hsz : (DataW.weightsEach Tryd.prog (Tryd.f5.params.toList ++ Rows.hashPiecesSpec.plain.varTypes Tryd.prog) (ds ++ gs)).all (· ≤ reachBytes) = true := hsz0
  have hW' := hW
  obtain ⟨p, q, hA0, hV, rfl, hfz, hnd⟩ := hW
  have hA : DataW.TrodAll enc Tryd.prog W 0 (fun _ => true) true Tryd.f5.params.toList args.toList ds p := hA0
  rw [Tryd.params5] at hA hval hsz
  obtain ⟨v0, vs0, d0, ds0, p0, q0, hargs, rfl, rfl, h0, r0⟩ := trodAll_cons hA
  obtain ⟨v1, vs1, d1, ds1, p1, q1, rfl, rfl, rfl, h1, r1⟩ := trodAll_cons r0
  obtain ⟨v2, vs2, d2, ds2, p2, q2, rfl, rfl, rfl, h2, r2⟩ := trodAll_cons r1
  obtain ⟨rfl, rfl, rfl⟩ := trodAll_nil r2
  obtain rfl : args = #[v0, v1, v2] := by cases args; simp_all
  obtain ⟨rfl, rfl⟩ := trodVars_none hV
  obtain ⟨a0, rfl, rfl, rfl, w0⟩ := open_string Tryd.underlying9 (hval 0 9 v0 rfl rfl) h0
  have z0 : a0.size ≤ 140737488351232 := by
    have := sized_string hsz (j := 0) (t := 9) rfl rfl
    simpa [reachBytes] using this
  obtain ⟨a1, rfl, rfl, rfl, w1⟩ := open_int Tryd.underlying3 (hval 1 3 v1 rfl rfl) h1
  obtain ⟨a2, len2, cap2, rfl⟩ := okWide_slice Tryd.underlying34 (hval 2 34 v2 rfl rfl)
  have kp2 := h2
  have lt2 : ∀ x ∈ p2, x.block < W.heap.size := by obtain ⟨m, hm⟩ := kp2; exact DataW.trod_lt m _ _ _ hm
  obtain ⟨ia2, il2⟩ := ints_at h2
  refine (walk a0 a1 a2 len2 cap2 z0 w1 W ia2 il2 (kin_of_laid hL)).mono fun e W' ⟨he, bel⟩ => ?_
  subst he
  exact ⟨_, rfl, _, _, _, [], _, [], hW', trodAll_mk1 (shut_bool Tryd.underlying4 _), (trodAll_cons_mk (shut_string Tryd.underlying9 w0) (trodAll_cons_mk (shut_int Tryd.underlying3 w1) (trodAll_cons_mk (Below.trod (P := Tryd.prog) (by kernel_rfl) (by kernel_rfl) (of_decide_eq_true (by kernel_rfl)) kp2 bel lt2) trodAll_mk0))), rfl, bel.frame _, fun h => by cases h⟩

theorem over : Rows.hashPiecesRow.holds Tryd.pinned (OpenSpec.ofChange Rows.hashPiecesSpec) :=
  OpenClaim.holds_of_wide 5 Tryd.f5 rfl rfl rfl rfl rfl rfl rfl ⟨rfl, rfl, rfl, rfl, rfl⟩ rfl rfl rfl rfl rfl (by kernel_rfl) Tryd.func5 (by kernel_rfl)
    (of_decide_eq_true (by kernel_rfl)) (by unfold Func.isWrapper; first | (rw [if_pos (by decide +kernel)]; kernel_rfl) | (rw [if_neg (by decide +kernel)]; exact ⟨rfl, rfl⟩))
    (fun os started H enc _ => lifted os started H enc)
end hashPieces

theorem hashPieces_holds : Rows.HashPiecesCardSaid :=
  Claim7.holds_tied_plain_at .later [] [.data] true (true, "0faf704b421a3bfb61ae8aab87bfb717a25f9c206630b02b54ca05421e9be05e") false
    hashPieces.over (fun _ h => by cases h) (by kernel_rfl) (fun _ h => by cases h) hashPieces_row_tie rfl ⟨rfl, rfl⟩ (by kernel_rfl) rfl
    (fun f fn hf hfn => by
      obtain rfl : f = 5 := Option.some.inj ((show Tryd.prog.funcNamed "coffer/cofferlaw02.HashPieces" = some 5 by kernel_rfl).symm.trans hf) |>.symm
      obtain rfl : fn = Tryd.f5 := (Option.some.inj (Tryd.func5.symm.trans hfn)).symm
      exact ⟨by kernel_rfl, fun j t ht => by
        rw [Tryd.params5] at ht
        have h3 : t = 9 ∨ t = 3 ∨ t = 34 := by
          match j, ht with
          | 0, ht => have e : 9 = t := by simpa using ht
                     subst e; decide
          | 1, ht => have e : 3 = t := by simpa using ht
                     subst e; decide
          | 2, ht => have e : 34 = t := by simpa using ht
                     subst e; decide
          | j + 3, ht => exact absurd ht (by simp)
        rcases h3 with rfl | rfl | rfl
        all_goals (first | exact (show Tryd.prog.wantsStandIn 22 = false by kernel_rfl) | exact (show Tryd.prog.wantsStandIn 9 = false by kernel_rfl) | exact (show Tryd.prog.wantsStandIn 3 = false by kernel_rfl) | exact (show Tryd.prog.wantsStandIn 5 = false by kernel_rfl) | exact (show Tryd.prog.wantsStandIn 34 = false by kernel_rfl) | exact (show Tryd.prog.wantsStandIn 39 = false by kernel_rfl))⟩)
    (by kernel_rfl)
#print axioms hashPieces_holds
end Go.Proofs.YtjoaiagiankfdaaDoor
