/- eachKey. -/
import Derived.Test.YtgcdnanfnbdjjaaGreatGf
import Derived.Test.YtgcdnanfnbdjjaaGreatGd
import Derived.Test.YtgcdnanfnbdjjaaGreatGc
namespace Go.Proofs.YtgcdnanfnbdjjaaGreat
set_option linter.unusedVariables false
set_option linter.unusedSimpArgs false
open Go.RowKit
attribute [local go_sem ↓] Go.wp_at_zero Go.wp_at_succ
attribute [local go_sem ↓] slVe
theorem stL_len {m : Int} {X : List Rw} {G : List Vs} (hm : m ≤ 256) (hX : X.length ≤ 256) : (stL m X G).1.length ≤ 256 := by
  unfold stL
  split
  · split
    · exact hX
    · split
      · exact hX
      · rw [List.length_append]; simp only [List.length_cons, List.length_nil]; omega
  · exact hX
theorem stV_len {m : Int} {X : List Rw} {G : List Vs} (hm : m ≤ 256) (hX : X.length ≤ 256) : (stV m X G).1.length ≤ 256 := by
  unfold stV
  simp only [List.length_append, List.length_take]
  omega
theorem gpL_get {L : List Vs} {i : Nat} {v : Vs} (h : L[i]? = some v) : 0 < ken (L.drop i) v.key := by
  have hi := (List.getElem?_eq_some_iff.1 h).1
  have e : L.drop i = v :: L.drop (i + 1) := by
    rw [List.drop_eq_getElem_cons hi]
    congr 1
    rw [List.getElem?_eq_getElem hi] at h
    exact Option.some.inj h
  rw [e]
  exact ken_pos _ _
set_option maxRecDepth 100000 in
set_option maxHeartbeats 4000000 in
theorem eachKeyL_any (L : List Vs) (k : List UInt8) (w : World) (a : Option Addr) (n cap base gr gm : Nat) (v : Value) (m : Int) (w0 : World) (hL : Li w0 L a n cap) (hb : Below w0.heap.size w0 w) (hC : Cl base w gr gm v [] m) (h0 : w0.heap.size ≤ gr) (hB : w0.heap.size ≤ base) (hm : m ≤ 256) :
    Calls Tryz.prog 53 #[.slice a n cap, str k, .func (.func 54) #[] #[.pointer (some ⟨gr, 0, none⟩), .pointer (some ⟨gm, 0, none⟩)]] w fun e w' => e = .returned (.tuple #[]) ∧ ∃ i : Nat, i ≤ L.length ∧ (SrtV L → i = fndV L k) ∧ (∃ v', Cl base w' gr gm v' (evL (stL m) [] (L.drop i)) m) ∧ Below w0.heap.size w0 w' := by
  obtain rfl := hL.n
  have hlL := hL.l
  have hp := places_any L k w a _ cap (hL.later hb)
  have HL := Hid.mk hL
  have hle := hL.s.le
  have hmax := hL.s.max
  have HN := Hid.mk hL.s.nil
  clear hL
  go_enter Tryz.func53, Tryz.ntmps53
  go_wp2_with fail
  with_reducible refine Calls.mono hp ?_
  rintro e w1 ⟨⟨i0, rfl, hi0, hs⟩, b1⟩
  obtain ⟨J0, hJ0⟩ : ∃ J : Nat, J = i0 + ken (L.drop i0) k := ⟨_, rfl⟩
  rw [← hJ0]
  dsimp only
  have C1 := Hid.mk (hC.later b1)
  have B1 := Hid.mk (hb.trans (b1.mono hb.size))
  have HS := Hid.mk hs
  clear hC hb b1 hs hJ0 hp
  go_wp2_with fail
  go_loopw [6] (fun o wr => ∃ i : Nat, i ≤ L.length ∧ o = .int .i64 (i : Int) ∧ Hid (∃ v X, Cl base wr gr gm v X m ∧ X.length ≤ 256 ∧ evL (stL m) X (L.drop i) = evL (stL m) [] (L.drop i0)) ∧ Hid (Below w0.heap.size w0 wr)) (fun o _ => L.length - (intOf o).toNat)
  case atStart => exact ⟨i0, hi0, rfl, ⟨v, [], C1.out, by simp, rfl⟩, B1⟩
  case round =>
    clear C1 B1
    obtain ⟨i, hi, rfl, HX, hb⟩ := hrel
    obtain ⟨v, X, hC, hX, hE⟩ := HX.out
    by_cases hlt : i < L.length
    · have d1 : decide ((i : Int) < (L.length : Int)) = true := decide_eq_true (by omega)
      have k2 : (i : Int) < (L.length : Int) := by omega
      obtain ⟨u, hu⟩ : ∃ u, L[i]? = some u := ⟨L[i], List.getElem?_eq_getElem hlt⟩
      have hLr := HL.out.later hb.out
      obtain ⟨b, off, ma, mc, rfl, hbl, c0, c1, c2, c3, c4, hsl⟩ := hLr.s.at'.get i u hu
      have r1 := fun w => run_slV_lo (some ⟨b, off, none⟩) L.length cap i (Nat.le_of_lt hlt) hle hmax HN.out w
      have hke := fun w' (hb' : Below wr.heap.size wr w') => keyEnd_any (L.drop i) u.key w' (dropV (some ⟨b, off, none⟩) cap i) (L.length - i) (cap - i) (by rw [List.length_drop]) ((hLr.s.drop i (by omega)).at'.later (w' := w') hb') (by rw [List.length_drop]; omega)
      have hkd := ken_drop (L := L) (i := i) (by omega) u.key
      have hkp := gpL_get hu
      obtain ⟨J, hJ⟩ : ∃ J : Nat, J = i + ken (L.drop i) u.key := ⟨_, rfl⟩
      have hJ1 : i ≤ J := by rw [hJ]; exact Nat.le_add_right _ _
      have hJ2 : J ≤ L.length := by rw [hJ]; exact hkd
      have hw1 : wrap64 ((i : Int) + (ken (L.drop i) u.key : Int)) = (J : Int) := by unfold wrap64; omega
      have hw2 : IntKind.i64.wrap ((i : Int) + (ken (L.drop i) u.key : Int)) = (J : Int) := by rw [wrap_eq]; exact hw1
      have r2 := fun w => run_slV_mid (some ⟨b, off, none⟩) L.length cap i J hJ1 hJ2 hle hmax HN.out w
      rw [show J - i = ken (L.drop i) u.key by omega] at r2
      have hLg := HL.out.gp (i := i) (by omega) u.key
      have hmo := fun w' (hb' : Below wr.heap.size wr w') => bList1_any (gpL L i u.key) w0 w' _ _ _ base gr gm v X m hLg (hb.out.trans (hb'.mono hb.out.size)) (hC.later hb') h0 hB (by omega) (by rw [gpL_len]; exact hkp)
      have hd0 : (L.drop i)[0]? = some u := by rw [List.getElem?_drop]; simpa using hu
      have hst := evL_at (st := stL m) (X := X) hd0
      rw [hE, List.drop_drop] at hst
      change _ = if (stL m X (gpL L i u.key)).2 = true then evL (stL m) (stL m X (gpL L i u.key)).1 (L.drop (i + ken (L.drop i) u.key)) else (stL m X (gpL L i u.key)).1 at hst
      rw [← hJ] at hst
      have hXl := stL_len (G := gpL L i u.key) hm hX
      have HSt := Hid.mk hst
      have HXl := Hid.mk hXl
      have hJi : i < J ∧ J ≤ L.length := ⟨by rw [hJ]; exact Nat.lt_add_of_pos_right hkp, hJ2⟩
      clear hu hsl hE hC hX HX hst hXl hd0 hLg hkd hkp hJ hLr hlL
      generalize ken (L.drop i) u.key = K at *
      have HSk : Hid (∀ w', Below wr.heap.size wr w' → Below wr.heap.size wr w' ∧ w'.cell? ⟨b, off + i * 5, none⟩ = some (str u.key)) := ⟨fun w' h => ⟨h, (h.cell (p := ⟨b, _, none⟩) hbl).trans c0⟩⟩
      go_wp2_with fail
      go_region_held3 (fun w' => Below wr.heap.size wr w' ∧ w'.cell? ⟨b, off + i * 5, none⟩ = some (str u.key)) (first
        | exact HSk.out _ (Below.refl _ _).drew
        | exact HSk.out _ (below_seq (And.left (by assumption)) e1)) (first
        | (go_at_call 76; with_reducible refine Calls.mono (hke _ (And.left (by assumption))) ?_; rintro e w3 ⟨rfl, e1⟩))
      have e2 : Below wr.heap.size wr w3 := And.left (by assumption)
      have hmo3 := hmo w3 e2
      clear c0 c1 c2 c3 c4 hke hmo r1 HSk
      go_wp2_with fail
      with_reducible refine Calls.mono hmo3 ?_
      rintro e w4 ⟨rfl, ⟨v4, C4⟩, B4⟩
      dsimp only
      clear hmo3 e1 e2
      cases hst2 : (stL m X (gpL L i u.key)).2 with
      | true =>
        have HN2 : Hid (∃ v X, Cl base w4 gr gm v X m ∧ X.length ≤ 256 ∧ evL (stL m) X (L.drop J) = evL (stL m) [] (L.drop i0)) := ⟨v4, _, C4, HXl.out, by
          have := HSt.out
          rw [if_pos hst2] at this
          exact this.symm⟩
        clear hst2 C4 HSt HXl hm
        go_wp2_with fail
        exact ⟨⟨J, hJ2, by first | rfl | go_num, HN2, ⟨B4⟩⟩, by simp [intOf]; exact Nat.sub_lt_sub_left hlt hJi.1⟩
      | false =>
        have HF : Hid (∃ v', Cl base w4 gr gm v' (evL (stL m) [] (L.drop i0)) m) := ⟨v4, by
          have := HSt.out
          rw [if_neg (by rw [hst2]; decide)] at this
          rw [this]
          exact C4⟩
        clear hst2 C4 HSt HXl hm
        go_wp2_with fail
        refine bodyPost_ret (v := .tuple #[]) ?_ rfl ⟨rfl, i0, hi0, HS.out, HF.out, B4⟩
        first | rfl | (simp [results]; done) | go_simp
    · obtain rfl : i = L.length := Nat.le_antisymm hi (Nat.le_of_not_lt hlt)
      have d1 : decide ((L.length : Int) < (L.length : Int)) = false := decide_eq_false (fun q => Int.lt_irrefl _ q)
      have HF : Hid (∃ v', Cl base wr gr gm v' (evL (stL m) [] (L.drop i0)) m) := ⟨v, by
        rw [List.drop_length, evL_nil] at hE
        rw [← hE]
        exact hC⟩
      clear hE hC hX HX hm
      go_wp2_with fail
      go_end0
      exact ⟨rfl, i0, hi0, HS.out, HF.out, hb.out⟩
set_option maxRecDepth 100000 in
set_option maxHeartbeats 4000000 in
theorem eachKeyV_any (L : List Vs) (k : List UInt8) (w : World) (a : Option Addr) (n cap base gr gm : Nat) (v : Value) (m : Int) (w0 : World) (hL : Li w0 L a n cap) (hb : Below w0.heap.size w0 w) (hC : Cl base w gr gm v [] m) (h0 : w0.heap.size ≤ gr) (hB : w0.heap.size ≤ base) (hm : m ≤ 256) :
    Calls Tryz.prog 53 #[.slice a n cap, str k, .func (.func 56) #[] #[.pointer (some ⟨gr, 0, none⟩), .pointer (some ⟨gm, 0, none⟩)]] w fun e w' => e = .returned (.tuple #[]) ∧ ∃ i : Nat, i ≤ L.length ∧ (SrtV L → i = fndV L k) ∧ (∃ v', Cl base w' gr gm v' (evL (stV m) [] (L.drop i)) m) ∧ Below w0.heap.size w0 w' := by
  obtain rfl := hL.n
  have hlL := hL.l
  have hp := places_any L k w a _ cap (hL.later hb)
  have HL := Hid.mk hL
  have hle := hL.s.le
  have hmax := hL.s.max
  have HN := Hid.mk hL.s.nil
  clear hL
  go_enter Tryz.func53, Tryz.ntmps53
  go_wp2_with fail
  with_reducible refine Calls.mono hp ?_
  rintro e w1 ⟨⟨i0, rfl, hi0, hs⟩, b1⟩
  obtain ⟨J0, hJ0⟩ : ∃ J : Nat, J = i0 + ken (L.drop i0) k := ⟨_, rfl⟩
  rw [← hJ0]
  dsimp only
  have C1 := Hid.mk (hC.later b1)
  have B1 := Hid.mk (hb.trans (b1.mono hb.size))
  have HS := Hid.mk hs
  clear hC hb b1 hs hJ0 hp
  go_wp2_with fail
  go_loopw [6] (fun o wr => ∃ i : Nat, i ≤ L.length ∧ o = .int .i64 (i : Int) ∧ Hid (∃ v X, Cl base wr gr gm v X m ∧ X.length ≤ 256 ∧ evL (stV m) X (L.drop i) = evL (stV m) [] (L.drop i0)) ∧ Hid (Below w0.heap.size w0 wr)) (fun o _ => L.length - (intOf o).toNat)
  case atStart => exact ⟨i0, hi0, rfl, ⟨v, [], C1.out, by simp, rfl⟩, B1⟩
  case round =>
    clear C1 B1
    obtain ⟨i, hi, rfl, HX, hb⟩ := hrel
    obtain ⟨v, X, hC, hX, hE⟩ := HX.out
    by_cases hlt : i < L.length
    · have d1 : decide ((i : Int) < (L.length : Int)) = true := decide_eq_true (by omega)
      have k2 : (i : Int) < (L.length : Int) := by omega
      obtain ⟨u, hu⟩ : ∃ u, L[i]? = some u := ⟨L[i], List.getElem?_eq_getElem hlt⟩
      have hLr := HL.out.later hb.out
      obtain ⟨b, off, ma, mc, rfl, hbl, c0, c1, c2, c3, c4, hsl⟩ := hLr.s.at'.get i u hu
      have r1 := fun w => run_slV_lo (some ⟨b, off, none⟩) L.length cap i (Nat.le_of_lt hlt) hle hmax HN.out w
      have hke := fun w' (hb' : Below wr.heap.size wr w') => keyEnd_any (L.drop i) u.key w' (dropV (some ⟨b, off, none⟩) cap i) (L.length - i) (cap - i) (by rw [List.length_drop]) ((hLr.s.drop i (by omega)).at'.later (w' := w') hb') (by rw [List.length_drop]; omega)
      have hkd := ken_drop (L := L) (i := i) (by omega) u.key
      have hkp := gpL_get hu
      obtain ⟨J, hJ⟩ : ∃ J : Nat, J = i + ken (L.drop i) u.key := ⟨_, rfl⟩
      have hJ1 : i ≤ J := by rw [hJ]; exact Nat.le_add_right _ _
      have hJ2 : J ≤ L.length := by rw [hJ]; exact hkd
      have hw1 : wrap64 ((i : Int) + (ken (L.drop i) u.key : Int)) = (J : Int) := by unfold wrap64; omega
      have hw2 : IntKind.i64.wrap ((i : Int) + (ken (L.drop i) u.key : Int)) = (J : Int) := by rw [wrap_eq]; exact hw1
      have r2 := fun w => run_slV_mid (some ⟨b, off, none⟩) L.length cap i J hJ1 hJ2 hle hmax HN.out w
      rw [show J - i = ken (L.drop i) u.key by omega] at r2
      have hLg := HL.out.gp (i := i) (by omega) u.key
      have hmo := fun w' (hb' : Below wr.heap.size wr w') => bVersions1_any (gpL L i u.key) w0 w' _ _ _ base gr gm v X m hLg (hb.out.trans (hb'.mono hb.out.size)) (hC.later hb') h0 hB hm (by omega) (by rw [gpL_len]; exact hkp)
      have hd0 : (L.drop i)[0]? = some u := by rw [List.getElem?_drop]; simpa using hu
      have hst := evL_at (st := stV m) (X := X) hd0
      rw [hE, List.drop_drop] at hst
      change _ = if (stV m X (gpL L i u.key)).2 = true then evL (stV m) (stV m X (gpL L i u.key)).1 (L.drop (i + ken (L.drop i) u.key)) else (stV m X (gpL L i u.key)).1 at hst
      rw [← hJ] at hst
      have hXl := stV_len (G := gpL L i u.key) hm hX
      have HSt := Hid.mk hst
      have HXl := Hid.mk hXl
      have hJi : i < J ∧ J ≤ L.length := ⟨by rw [hJ]; exact Nat.lt_add_of_pos_right hkp, hJ2⟩
      clear hu hsl hE hC hX HX hst hXl hd0 hLg hkd hkp hJ hLr hlL
      generalize ken (L.drop i) u.key = K at *
      have HSk : Hid (∀ w', Below wr.heap.size wr w' → Below wr.heap.size wr w' ∧ w'.cell? ⟨b, off + i * 5, none⟩ = some (str u.key)) := ⟨fun w' h => ⟨h, (h.cell (p := ⟨b, _, none⟩) hbl).trans c0⟩⟩
      go_wp2_with fail
      go_region_held3 (fun w' => Below wr.heap.size wr w' ∧ w'.cell? ⟨b, off + i * 5, none⟩ = some (str u.key)) (first
        | exact HSk.out _ (Below.refl _ _).drew
        | exact HSk.out _ (below_seq (And.left (by assumption)) e1)) (first
        | (go_at_call 76; with_reducible refine Calls.mono (hke _ (And.left (by assumption))) ?_; rintro e w3 ⟨rfl, e1⟩))
      have e2 : Below wr.heap.size wr w3 := And.left (by assumption)
      have hmo3 := hmo w3 e2
      clear c0 c1 c2 c3 c4 hke hmo r1 HSk
      go_wp2_with fail
      with_reducible refine Calls.mono hmo3 ?_
      rintro e w4 ⟨rfl, ⟨v4, C4⟩, B4⟩
      dsimp only
      clear hmo3 e1 e2
      cases hst2 : (stV m X (gpL L i u.key)).2 with
      | true =>
        have HN2 : Hid (∃ v X, Cl base w4 gr gm v X m ∧ X.length ≤ 256 ∧ evL (stV m) X (L.drop J) = evL (stV m) [] (L.drop i0)) := ⟨v4, _, C4, HXl.out, by
          have := HSt.out
          rw [if_pos hst2] at this
          exact this.symm⟩
        clear hst2 C4 HSt HXl hm
        go_wp2_with fail
        exact ⟨⟨J, hJ2, by first | rfl | go_num, HN2, ⟨B4⟩⟩, by simp [intOf]; exact Nat.sub_lt_sub_left hlt hJi.1⟩
      | false =>
        have HF : Hid (∃ v', Cl base w4 gr gm v' (evL (stV m) [] (L.drop i0)) m) := ⟨v4, by
          have := HSt.out
          rw [if_neg (by rw [hst2]; decide)] at this
          rw [this]
          exact C4⟩
        clear hst2 C4 HSt HXl hm
        go_wp2_with fail
        refine bodyPost_ret (v := .tuple #[]) ?_ rfl ⟨rfl, i0, hi0, HS.out, HF.out, B4⟩
        first | rfl | (simp [results]; done) | go_simp
    · obtain rfl : i = L.length := Nat.le_antisymm hi (Nat.le_of_not_lt hlt)
      have d1 : decide ((L.length : Int) < (L.length : Int)) = false := decide_eq_false (fun q => Int.lt_irrefl _ q)
      have HF : Hid (∃ v', Cl base wr gr gm v' (evL (stV m) [] (L.drop i0)) m) := ⟨v, by
        rw [List.drop_length, evL_nil] at hE
        rw [← hE]
        exact hC⟩
      clear hE hC hX HX hm
      go_wp2_with fail
      go_end0
      exact ⟨rfl, i0, hi0, HS.out, HF.out, hb.out⟩
end Go.Proofs.YtgcdnanfnbdjjaaGreat
