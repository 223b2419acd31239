import Derived.Test.YtjoaiagiankfdaaDoorBackP
namespace Go.Proofs.YtjoaiagiankfdaaDoor
set_option linter.unusedVariables false
set_option linter.unusedSimpArgs false
open Go.RowKit
namespace hashBack
attribute [local go_sem ↓] ld22 st22
attribute [local go_sem ↓] Go.wp_at_zero Go.wp_at_succ
set_option maxHeartbeats 1000000 in
set_option maxRecDepth 8000 in
theorem walk2 (g : Nat → UInt8) (s : ByteArray) (a : Int) (cb : UInt8) (zs : s.size ≤ 140737488351232) (w : World) (hK : KIn w) (K : Nat) (hK64 : K < 64) (hKp : 0 < K) (hK0 : a.tmod 64 = -(K : Int)) :
    Calls Tryd.prog 3 #[.agg (b32 g), .string s, .int .i64 a, .int .u8 (cb.toNat : Int)] w fun e w' => e = .returned (.bool true) ∧ Below w.heap.size w w' := by
  have hKn : decide (-(K : Int) < 0) = true := decide_eq_true (by omega)
  have hKw : IntKind.i64.wrap (- -(K : Int)) = (K : Int) := by rw [IntKind.wrap_i64]; omega
  have kk0 : (0 : Int) ≤ (K : Int) := by omega
  have kk1 : (K : Int) ≤ 64 := by omega
  go_enter Tryd.func3, Tryd.ntmps3
  go_wp2_with fail
  have q0 := new22 w g
  have b0 := below_new22 w g
  have k0 := hK.seq b0
  generalize hB : w.heap.size = B at *
  generalize w.alloc (.cells (b32 g) 22) = w0 at *
  refine (head_any w0 k0).mono ?_
  rintro e w1 ⟨rfl, b1⟩
  have q1 := carry q0 b1
  have b01 : Below B w w1 := b0.trans (b1.mono (by have := b0.size; omega))
  have l1 := load22 q1
  clear q0 k0 b0 b1
  go_wp2_with fail
  refine (hex_any g w1).mono ?_
  rintro e w2 ⟨rfl, b2⟩
  have q2 := carry q1 b2
  have b02 : Below B w w2 := b01.trans (b2.mono (by have := b01.size; omega))
  clear q1 b01 b2 l1
  obtain ⟨D, hD⟩ : ∃ D : ByteArray, D = ⟨(hexL g).toArray⟩ := ⟨_, rfl⟩
  rw [← hD]
  have HD : Hid (D.data.toList = hexL g) := by show _ = _; rw [hD]
  have hDs : D.size = 64 := by rw [hD]; show (hexL g).toArray.size = 64; rw [List.size_toArray, hexL_length]
  clear hD
  go_wp2_with fail
  refine (parse2 D w2 (by omega)).mono ?_
  rintro e w3 ⟨rfl, b3⟩
  rw [HD.out, okL_hex]
  have q3 := carry q2 b3
  have b03 : Below B w w3 := b02.trans (b3.mono (by have := b02.size; omega))
  clear q2 b02 b3
  have st3 := store22b (pz (hexL g))
  have q3' := carry q3 (below_new22 w3 (pz (hexL g)))
  have r3' := new22 w3 (pz (hexL g))
  have l3 := load22 q3'
  have l3' := load22 r3'
  have e3 := eq22 (pz (hexL g)) g
  rw [back_hex] at e3
  generalize pz (hexL g) = X at *
  have b3n : Below B w (w3.alloc (.cells (b32 X) 22)) := b03.trans ((below_new22 w3 X).mono (by have := b03.size; omega))
  have h64 : ((D.size : Int) != 64) = false := by rw [hDs]; rfl
  go_wp2_with fail
  clear st3 q3' r3' l3 l3' e3 q3 b03
  generalize (w3.alloc (.cells (b32 X) 22)) = w4 at *
  refine (parse2 s w4 (by omega)).mono ?_
  rintro e w5 ⟨rfl, b5⟩
  have b05 : Below B w w5 := b3n.trans (b5.mono (by have := b3n.size; omega))
  clear b3n b5
  have st5 := store22b (pz s.data.toList)
  have r5 := new22 w5 (pz s.data.toList)
  have l5 := load22 r5
  have b5n : Below B w (w5.alloc (.cells (b32 (pz s.data.toList)) 22)) := b05.trans ((below_new22 w5 _).mono (by have := b05.size; omega))
  go_upto_region 8 with fail
  go_cut [13, 63] (fun r v wx => r = .bool (okL s.data.toList) ∧ v = .bool false ∧ Below B w wx)
  case first =>
    cases hok : okL s.data.toList
    · have e5 := eq22z
      rw [pz_no hok] at *
      go_wp2_with fail
      go_meet
      exact ⟨by rw [hok], rfl, b5n⟩
    · have hb := hex_back hok
      generalize pz s.data.toList = Y at *
      go_wp2_with fail
      clear st5 r5 l5 b05
      generalize (w5.alloc (.cells (b32 Y) 22)) = w6 at *
      refine (hex_any Y w6).mono ?_
      rintro e w7 ⟨rfl, b7⟩
      have b07 : Below B w w7 := b5n.trans (b7.mono (by have := b5n.size; omega))
      have es : (⟨(hexL Y).toArray⟩ : ByteArray) = s := by rw [hb]
      rw [es]
      go_wp2_with fail
      go_meet
      exact ⟨by rw [hok], rfl, b07⟩
  case rest =>
    obtain ⟨rfl, rfl, bx⟩ := hcut
    clear st5 r5 l5 b5n b05
    go_upto_region 13 with fail
    go_cut [15] (fun v wx => v = .bool (isdig cb) ∧ wx = wc)
    case first =>
      have hi := isdig_iff cb
      by_cases h1 : 48 ≤ cb.toNat
      · by_cases h2 : cb.toNat ≤ 57
        · have c1 : decide ((48 : Int) ≤ (cb.toNat : Int)) = true := decide_eq_true (by omega)
          have c2 : decide ((cb.toNat : Int) ≤ 57) = true := decide_eq_true (by omega)
          have HI : Hid (isdig cb = true) := by show _ = _; rw [hi]; simp [h1, h2]
          clear hi
          go_wp2_with fail
          go_meet
          exact ⟨by rw [HI.out], rfl⟩
        · by_cases h3 : 97 ≤ cb.toNat
          · by_cases h4 : cb.toNat ≤ 102
            · have c1 : decide ((48 : Int) ≤ (cb.toNat : Int)) = true := decide_eq_true (by omega)
              have c2 : decide ((cb.toNat : Int) ≤ 57) = false := decide_eq_false (by omega)
              have c3 : decide ((97 : Int) ≤ (cb.toNat : Int)) = true := decide_eq_true (by omega)
              have c4 : decide ((cb.toNat : Int) ≤ 102) = true := decide_eq_true (by omega)
              have HI : Hid (isdig cb = true) := by show _ = _; rw [hi]; simp [h1, h2, h3, h4]
              clear hi
              go_wp2_with fail
              go_meet
              exact ⟨by rw [HI.out], rfl⟩
            · have c1 : decide ((48 : Int) ≤ (cb.toNat : Int)) = true := decide_eq_true (by omega)
              have c2 : decide ((cb.toNat : Int) ≤ 57) = false := decide_eq_false (by omega)
              have c3 : decide ((97 : Int) ≤ (cb.toNat : Int)) = true := decide_eq_true (by omega)
              have c4 : decide ((cb.toNat : Int) ≤ 102) = false := decide_eq_false (by omega)
              have HI : Hid (isdig cb = false) := by show _ = _; rw [hi]; simp [h1, h2, h3, h4]
              clear hi
              go_wp2_with fail
              go_meet
              exact ⟨by rw [HI.out], rfl⟩
          · have c1 : decide ((48 : Int) ≤ (cb.toNat : Int)) = true := decide_eq_true (by omega)
            have c2 : decide ((cb.toNat : Int) ≤ 57) = false := decide_eq_false (by omega)
            have c3 : decide ((97 : Int) ≤ (cb.toNat : Int)) = false := decide_eq_false (by omega)
            have HI : Hid (isdig cb = false) := by show _ = _; rw [hi]; simp [h1, h2, h3]
            clear hi
            go_wp2_with fail
            go_meet
            exact ⟨by rw [HI.out], rfl⟩
      · have c1 : decide ((48 : Int) ≤ (cb.toNat : Int)) = false := decide_eq_false (by omega)
        have c3 : decide ((97 : Int) ≤ (cb.toNat : Int)) = false := decide_eq_false (by omega)
        have h3 : ¬ 97 ≤ cb.toNat := by omega
        have HI : Hid (isdig cb = false) := by show _ = _; rw [hi]; simp [h1, h3]
        clear hi
        go_wp2_with fail
        go_meet
        exact ⟨by rw [HI.out], rfl⟩
    case rest =>
      obtain ⟨rfl, rfl⟩ := hcut
      have hcv := conv1 cb
      have hcv2 := conv2 cb
      have hcv3 := conv3 cb
      have x1 : (D.extract 0 K).size = K := by rw [ByteArray.size_extract]; omega
      obtain ⟨K1, hK1, e1, e1', f1, f2⟩ : ∃ K1 : Nat, K1 = K + 1 ∧ (K : Int) + 1 = (K1 : Int) ∧ IntKind.i64.wrap ((K : Int) + 1) = (K1 : Int) ∧ (0 : Int) ≤ (K1 : Int) ∧ (K1 : Int) ≤ 64 := ⟨K + 1, rfl, by omega, by rw [IntKind.wrap_i64]; omega, by omega, by omega⟩
      have x2 : (D.extract K1 64).size = 63 - K := by rw [ByteArray.size_extract]; omega
      have HK1 : Hid (K1 = K + 1) := hK1
      have e1'' : IntKind.i64.wrap (K1 : Int) = (K1 : Int) := by rw [IntKind.wrap_i64]; omega
      clear hK1
      have x3 : (oneB cb).size = 1 := rfl
      have s1 : ¬ 9223372036854775807 < K + 1 := by omega
      have s2 : ¬ 9223372036854775807 < K + 1 + (63 - K) := by omega
      obtain ⟨T, hT⟩ : ∃ T : ByteArray, T = D.extract 0 K ++ oneB cb ++ D.extract K1 64 := ⟨_, rfl⟩
      have hTs : T.size ≤ 9223372036854775807 := by rw [hT, ByteArray.size_append, ByteArray.size_append, x1, x2, x3]; omega
      have hTl : T.data.toList = (hexL g).take K ++ [cb] ++ (hexL g).drop (K + 1) := by rw [hT]; exact turned_list HD.out hDs hK64 HK1.out
      have pT : ∀ W : World, Calls Tryd.prog 11 #[.string (D.extract 0 K ++ oneB cb ++ D.extract K1 64)] W fun e w' => e = .returned (.tuple #[.agg (b32 (pz T.data.toList)), .bool (isdig cb)]) ∧ Below W.heap.size W w' := fun W => by
        have := parse2 T W hTs
        rw [show okL T.data.toList = isdig cb by rw [hTl]; exact okL_turned g K hK64 cb] at this
        rw [← hT]; exact this
      have stT := store22b (pz T.data.toList)
      have hz : Hid (isdig cb = false → pz T.data.toList = fun _ => 0) := fun hc => pz_no (by rw [hTl, okL_turned g K hK64 cb]; exact hc)
      clear hTl hTs hT
      generalize pz T.data.toList = Z at *
      generalize hdc : isdig cb = dc at *
      go_upto_region 14 with fail
      go_cut [16, 17] (fun p r wx => ∃ B6 : Nat, p = .pointer (some ⟨B6, 0, none⟩) ∧ r = .bool dc ∧ wx.heap[B6]? = some (.cells (b32 Z) 22 (0, 0)) ∧ Below B w wx)
      case first =>
        go_region_with (first | (go_at_call 11; refine (pT _).mono ?_; rintro e w9 ⟨rfl, b9⟩; (first | (have hs := stC b9 Z (wc.heap.size + 1) (heap_alloc2_new wc _ _)) | (have hs := stC b9 Z wc.heap.size (heap_alloc2_old wc _ _)) | skip); have b10 : Below B w w9 := by first | exact pre2 (Nat.le_of_eq hB.symm) bx rfl b9 | exact pre1 (Nat.le_of_eq hB.symm) bx rfl b9))
        all_goals go_wp2_with fail
        all_goals go_meet
        all_goals (first
          | exact ⟨wc.heap.size + 1, rfl, rfl, setRow_heap _ _ _ _ _ _ (carry2 b9 (heap_alloc2_new wc _ _)), below_setRow b10 (by have := bx.size; omega) _⟩
          | exact ⟨wc.heap.size, rfl, rfl, setRow_heap _ _ _ _ _ _ (carry2 b9 (heap_alloc2_old wc _ _)), below_setRow b10 (by have := bx.size; omega) _⟩
          | exact ⟨w9.heap.size, rfl, rfl, new22 w9 Z, b10.trans ((below_new22 w9 Z).mono (by have := b10.size; omega))⟩)
      case rest =>
        obtain ⟨B6, rfl, rfl, r6, b6⟩ := hcut
        clear pT stT hcv hcv2 hcv3 s1 s2 x2 x3 bx
        go_wp2_with fail
        have o1 : okL (D.extract 0 K).data.toList = false := okL_len (by rw [Array.length_toList]; show (D.extract 0 K).size ≠ 64; omega)
        refine (parse2 (D.extract 0 K) wc (by omega)).mono ?_
        rintro e w10 ⟨rfl, b10⟩
        rw [o1]
        have q10 := carry r6 b10
        have b010 : Below B w w10 := b6.trans (b10.mono (by have := b6.size; omega))
        clear r6 b6 b10 o1
        have st10 := store22b (pz (D.extract 0 K).data.toList)
        have q11 := carry q10 (below_new22 w10 (pz (D.extract 0 K).data.toList))
        have b011 : Below B w (w10.alloc (.cells (b32 (pz (D.extract 0 K).data.toList)) 22)) := b010.trans ((below_new22 w10 _).mono (by have := b010.size; omega))
        generalize pz (D.extract 0 K).data.toList = Y10 at *
        have s3 : ¬ 9223372036854775807 < 64 + K := by omega
        have s4 : ¬ 9223372036854775807 < 64 + K + 1 := by omega
        go_wp2_with fail
        clear q10 b010 st10
        generalize w10.alloc (.cells (b32 Y10) 22) = w11 at *
        obtain ⟨T2, hT2⟩ : ∃ T2 : ByteArray, T2 = D ++ D.extract 0 K ++ ⟨#[48]⟩ := ⟨_, rfl⟩
        rw [← hT2]
        have hT2s : T2.size = 64 + K + 1 := by rw [hT2, ByteArray.size_append, ByteArray.size_append, hDs, x1]; rfl
        clear hT2
        have o2 : okL T2.data.toList = false := okL_len (by rw [Array.length_toList]; show T2.size ≠ 64; omega)
        refine (parse2 T2 w11 (by omega)).mono ?_
        rintro e w12 ⟨rfl, b12⟩
        rw [o2]
        have q12 := carry q11 b12
        have b012 : Below B w w12 := b011.trans (b12.mono (by have := b011.size; omega))
        clear q11 b011 b12 o2
        have st12 := store22b (pz T2.data.toList)
        have q13 := carry q12 (below_new22 w12 (pz T2.data.toList))
        have b013 : Below B w (w12.alloc (.cells (b32 (pz T2.data.toList)) 22)) := b012.trans ((below_new22 w12 _).mono (by have := b012.size; omega))
        generalize pz T2.data.toList = Y12 at *
        have l13 := load22 q13
        clear q12 b012
        cases dc
        · have hz0 := hz.out rfl
          subst hz0
          have e5 := eq22z
          go_wp2_with fail
          go_ret
          exact ⟨rfl, by subst hB; exact b013⟩
        · go_wp2_with fail
          go_ret
          exact ⟨rfl, by subst hB; exact b013⟩
end hashBack
end Go.Proofs.YtjoaiagiankfdaaDoor
