import Derived.Test.YtdnejpokcjiodaaGreatDoorGr
import Derived.Test.YtdnejpokcjiodaaGreatDoorAMd
import Derived.Test.YtdnejpokcjiodaaGreatDoorQf
import Derived.Deep.RegionHeld3
/- A slice of integers that came in; a byte. -/
namespace Go.Proofs.YtdnejpokcjiodaaGreatDoor
set_option maxRecDepth 100000
open Go.ChangeShapes Go.WideShapes Go.ChangeAt Go.RowKit
set_option linter.unusedVariables false
set_option linter.unusedSimpArgs false
def IntsAt (w : World) (a : Option Addr) (len : Nat) : Prop :=
  ∀ k, k < len → ∃ (b off : Nat) (z : Int), a = some ⟨b, off, none⟩ ∧ b < w.heap.size ∧ w.cell? ⟨b, off + k, none⟩ = some (.int .i64 z) ∧ (Lit.int .i64 z).wf = true
theorem IntsAt.later {w w' : World} {a : Option Addr} {n : Nat} (h : IntsAt w a n) (hb : Below w.heap.size w w') : IntsAt w' a n := fun k hk => by
  obtain ⟨b, off, z, e, h1, h2, h3⟩ := h k hk
  exact ⟨b, off, z, e, Nat.lt_of_lt_of_le h1 hb.size, (hb.cell (p := ⟨b, _, none⟩) h1).trans h2, h3⟩
theorem ints_at {H : Type} {enc : TypeId × Value → H} {W : World} {a : Option Addr} {len cap : Nat} {d : DataW H} {p : List MemPlace} (h : DataW.Trod enc Tryz.prog W 0 (fun _ => true) true 75 (.slice a len cap) d p) : IntsAt W a len ∧ len ≤ 9223372036854775807 := by
  obtain ⟨fuel, hf⟩ := h
  rcases open_ints Tryz.underlying75 Tryz.underlying3 (by kernel_rfl) hf with ⟨hcs, _⟩ | ⟨x, l, c, zs, hcs, _, hl, hm, hz, _, hcell, hwz⟩
  · simp [Value.cells] at hcs
    obtain ⟨rfl, rfl, rfl⟩ := hcs
    exact ⟨fun k hk => by omega, by omega⟩
  · simp [Value.cells] at hcs
    obtain ⟨rfl, rfl, rfl⟩ := hcs
    have hz' : zs.length = cap := by simpa using hz
    refine ⟨fun k hk => ?_, by unfold maxLen at hm; omega⟩
    obtain ⟨b, off, spot⟩ := x
    have hc := hcell k (by omega)
    have hspot : spot = none := by
      have h0 := hcell 0 (by omega)
      simpa [Addr.add] using World.cell?_spot h0
    subst hspot
    have hadd : (⟨b, off, none⟩ : Addr).add k = ⟨b, off + k, none⟩ := by unfold Addr.add; split <;> simp_all
    rw [hadd] at hc
    refine ⟨b, off, zs.getD k 0, rfl, block_lt_of_cell hc, hc, ?_⟩
    have : zs.getD k 0 = zs[k] := by rw [List.getD_eq_getElem?_getD, List.getElem?_eq_getElem (by omega)]; rfl
    rw [this]
    exact hwz _ (List.getElem_mem _)
theorem wf8o {n : Int} (h : (Lit.int .u8 n).wf = true) : 0 ≤ n ∧ n ≤ 255 := by
  simpa [Lit.wf, IntKind.min, IntKind.max, IntKind.signed, IntKind.bits] using h
end Go.Proofs.YtdnejpokcjiodaaGreatDoor

/- ArchiveSpoilt: the walk. -/
namespace Go.Proofs.YtdnejpokcjiodaaGreatDoor
set_option maxRecDepth 100000
set_option linter.unusedVariables false
set_option linter.unusedSimpArgs false
open Go.RowKit
open Go.Proofs.YtdnejpokcjiodaaGreatDoorP (TB)
open Go.Proofs.YtdnejpokcjiodaaGreatDoorH (KIn)
attribute [local go_sem ↓] Go.wp_at_zero Go.wp_at_succ ad9 Go.Proofs.YtdnejpokcjiodaaGreatDoorP.sl9
def x8 (a b : Int) : Int := bits .xor .u8 a b
theorem x8_eq (a b : Int) : bits .xor .u8 a b = x8 a b := rfl
theorem x8_at (a b : Int) : ∃ c : UInt8, x8 a b = ((c.toNat : Nat) : Int) := by
  have h : x8 a b = IntKind.u8.wrap ((BitVec.ofInt 8 a ^^^ BitVec.ofInt 8 b).toNat : Int) := rfl
  have hl := (BitVec.ofInt 8 a ^^^ BitVec.ofInt 8 b).isLt
  refine ⟨UInt8.ofNat (BitVec.ofInt 8 a ^^^ BitVec.ofInt 8 b).toNat, ?_⟩
  rw [h, IntKind.wrap_u8]
  generalize (BitVec.ofInt 8 a ^^^ BitVec.ofInt 8 b).toNat = m at *
  simp
attribute [local go_sem] x8_eq
theorem w64_nat {n : Nat} (h : n ≤ 1048576) : wrap64 (n : Int) = (n : Int) := by unfold wrap64; omega
theorem w64_nat1 {n : Nat} (h : n ≤ 1048576) : IntKind.i64.wrap ((n : Int) + 1) = (n : Int) + 1 := by rw [IntKind.wrap_i64]; omega
set_option maxRecDepth 100000 in
set_option maxHeartbeats 8000000 in
theorem spoilt_walk (L : List Vs) (n : Int) (w : World) (a : Option Addr) (cap : Nat) (ia : Option Addr) (il ic : Nat) (by0 : Int) (s : List UInt8) (hL : VIn w a L) (hz : L.length ≤ 4611686018427387904) (hI : IntsAt w ia il) (hil : il ≤ 9223372036854775807) (hby : 0 ≤ by0 ∧ by0 ≤ 255) (hs : s.length ≤ 281474976710656) (hT : TB w) (hE : EG w) (hK : KIn w) :
    Calls Tryz.prog 8 #[.agg #[.int .i64 n, .slice a L.length cap], .slice ia il ic, .int .u8 by0, str s] w fun e w' => e = .returned (.bool true) ∧ Below w.heap.size w w' := by
  obtain ⟨c2, rfl⟩ : ∃ c2 : UInt8, by0 = ((c2.toNat : Nat) : Int) := ⟨UInt8.ofNat by0.toNat, by simp; omega⟩
  have HT := Hid.mk hT
  have HE := Hid.mk hE
  have HK := Hid.mk hK
  have HI := Hid.mk hI
  have HS := Hid.mk hs
  have HIl := Hid.mk hil
  have b1 := (Below.refl w.heap.size w).alloc (Nat.le_refl _) (.cells #[.int .i64 n, .slice a L.length cap] 24)
  have z1 := Bb2.new w n (.slice a L.length cap)
  have HV := Hid.mk (hL.later b1)
  have HZ := Hid.mk z1
  have HB := Hid.mk b1
  have hf := first_any _ (hT.below b1) (hE.below b1) (hK.seq b1)
  clear hT hE hK hI hs hil b1 z1 hL
  go_enter Tryz.func8, Tryz.ntmps8
  go_wp2_with fail
  generalize w.alloc (.cells #[.int .i64 n, .slice a L.length cap] 24) = w1 at *
  with_reducible refine Calls.mono hf ?_
  rintro e w2 ⟨rfl, b2⟩
  have HB2 := Hid.mk (below_seq HB.out b2)
  obtain ⟨c0, c1⟩ := (HZ.out.later b2).cells
  have hm := made_any L n w2 a cap (HV.out.later b2) hz
  clear hf b2 HV HZ HB
  dsimp only
  go_wp2_with fail
  with_reducible refine Calls.mono hm ?_
  rintro e w3 ⟨L', n', sq, va, vc, rfl, hv3, hmd, h1, h2, b3⟩
  have hO := hmd.of h1 h2
  have HB3 := Hid.mk (below_seq HB2.out b3)
  have he := encode_any L' n' w3 va vc hv3 (by have := hmd.len; omega) (fun v hv => by have := (hmd.ok v hv).t; omega) (HT.out.below HB3.out) (HK.out.seq HB3.out)
  rw [(pk_yes hO).1, (pk_yes hO).2] at he
  obtain ⟨t, ht⟩ : ∃ t, t = arc L' n' 0 := ⟨_, rfl⟩
  have HTl : Hid (1 ≤ t.length ∧ t.length ≤ 1048576) := ⟨by
    rw [ht]
    refine ⟨?_, arc_len2 hO hmd.len⟩
    unfold arc bod
    have := mtx_pos ⟨0, n', ofI L'⟩
    simp only [List.length_append]
    omega⟩
  rw [← ht] at he
  clear hm hmd h1 h2 hO hv3 b3 c0 c1 ht hz
  dsimp only
  go_wp2_with fail
  with_reducible refine Calls.mono he ?_
  rintro e w4 ⟨rfl, b4⟩
  have HB4 := Hid.mk (below_seq HB3.out b4)
  have hw := whole_any s w4 HS.out (HT.out.below HB4.out) (HE.out.below HB4.out) (HK.out.seq HB4.out)
  clear he b4 HB2 HB3
  dsimp only
  go_wp2_with fail
  with_reducible refine Calls.mono hw ?_
  rintro e w5 ⟨rfl, b5⟩
  have HB5 := Hid.mk (below_seq HB4.out b5)
  clear hw b5 HB4
  dsimp only
  go_wp2_with fail
  go_loopw [11] (fun iv wr => ∃ i : Nat, iv = .int .i64 (i : Int) ∧ i ≤ 6 ∧ i ≤ il ∧ Hid (Below w.heap.size w wr)) (fun iv _ => 6 - (intOf iv).toNat)
  case atStart => exact ⟨0, rfl, Nat.zero_le _, Nat.zero_le _, HB5⟩
  case round =>
    clear HB5
    obtain ⟨i, rfl, hi, hil, HB⟩ := hrel
    by_cases hlt : i < il ∧ i < 6
    · have d1 : decide ((i : Int) < (il : Int)) = true := decide_eq_true (by omega)
      have d2 : decide ((i : Int) < 6) = true := decide_eq_true (by omega)
      have i0 : (0 : Int) ≤ (i : Int) := Int.natCast_nonneg i
      have i2 : (i : Int) < (il : Int) := by omega
      have hwi : wrap64 ((i : Int) + 1) = ((i + 1 : Nat) : Int) := by unfold wrap64; omega
      obtain ⟨bb, off, z, hia, hbb, cz, hwz⟩ := (HI.out.later HB.out) i hlt.1
      subst hia
      have HTn := HTl.out
      have hne : ¬ t.length = 0 := by omega
      have hne2 : ¬ ((t.length : Int) = 0) := by omega
      have hz1 : IntKind.u64.wrap ((t.length : Nat) : Int) = (t.length : Int) := by rw [IntKind.wrap_u64]; omega
      obtain ⟨K, hKm, hKl⟩ : ∃ K : Nat, (IntKind.u64.wrap z).tmod (t.length : Int) = (K : Int) ∧ K < t.length := by
        have h0 : 0 ≤ IntKind.u64.wrap z := by rw [IntKind.wrap_u64]; omega
        have h1 := Int.tmod_nonneg (t.length : Int) h0
        have h2 := Int.tmod_lt_of_pos (IntKind.u64.wrap z) (show (0 : Int) < (t.length : Int) by omega)
        exact ⟨((IntKind.u64.wrap z).tmod (t.length : Int)).toNat, by omega, by omega⟩
      have HKm := Hid.mk hKm
      clear hKm
      have HZ1 := Hid.mk hz1
      clear hz1 hne2
      have hkw : wrap64 (K : Int) = (K : Int) := w64_nat (Nat.le_trans (Nat.le_of_lt hKl) HTl.out.2)
      have hkw1 : IntKind.i64.wrap ((K : Int) + 1) = (K : Int) + 1 := w64_nat1 (Nat.le_trans (Nat.le_of_lt hKl) HTl.out.2)
      have hix := fun w => Go.Proofs.YtdnejpokcjiodaaGreatDoorP.idxs ⟨t.toArray⟩ t rfl K (by rw [str_size]; exact hKl) w
      obtain ⟨c, hc⟩ := x8_at (((t[K]?.getD 0).toNat : Nat) : Int) ((c2.toNat : Nat) : Int)
      obtain ⟨P, hP⟩ : ∃ P, P = t.take K := ⟨_, rfl⟩
      obtain ⟨Q, hQ⟩ : ∃ Q, Q = t.drop (K + 1) := ⟨_, rfl⟩
      obtain ⟨R, hR⟩ : ∃ R, R = t.drop K := ⟨_, rfl⟩
      have hPl : P.length ≤ t.length := by rw [hP, List.length_take]; omega
      have hQl : Q.length ≤ t.length := by rw [hQ, List.length_drop]; omega
      have hRl : R.length ≤ t.length := by rw [hR, List.length_drop]; omega
      have hp : ∀ w, (Go.Proofs.YtdnejpokcjiodaaGreatDoorP.slS (str t) none (some (.int .i64 (K : Int))) none).run Tryz.prog w = .ok (str P) w := fun w => by rw [hP]; exact run_take t K (Nat.le_of_lt hKl) w
      have hq : ∀ w, (Go.Proofs.YtdnejpokcjiodaaGreatDoorP.slS (str t) (some (.int .i64 ((K : Int) + 1))) none none).run Tryz.prog w = .ok (str Q) w := fun w => by rw [hQ, show ((K : Int) + 1) = ((K + 1 : Nat) : Int) from rfl]; exact run_from t (K + 1) hKl w
      have hr : ∀ w, (Go.Proofs.YtdnejpokcjiodaaGreatDoorP.slS (str t) (some (.int .i64 (K : Int))) none none).run Tryz.prog w = .ok (str R) w := fun w => by rw [hR]; exact run_from t K (Nat.le_of_lt hKl) w
      obtain ⟨X1, hX1⟩ : ∃ X, X = P ++ [c] := ⟨_, rfl⟩
      obtain ⟨X3, hX3⟩ : ∃ X, X = P ++ [c2] := ⟨_, rfl⟩
      have hX1l : X1.length = P.length + 1 := by rw [hX1]; simp
      have hX3l : X3.length = P.length + 1 := by rw [hX3]; simp
      have ad1 : ∀ w, (Go.Proofs.YtdnejpokcjiodaaGreatDoor.adS (str P) (.string ⟨#[c]⟩)).run Tryz.prog w = .ok (str X1) w := fun w => by rw [hX1]; exact run_ad P [c] (by simp; omega) w
      have ad3 : ∀ w, (Go.Proofs.YtdnejpokcjiodaaGreatDoor.adS (str P) (.string ⟨#[c2]⟩)).run Tryz.prog w = .ok (str X3) w := fun w => by rw [hX3]; exact run_ad P [c2] (by simp; omega) w
      have ad4 : ∀ w, (Go.Proofs.YtdnejpokcjiodaaGreatDoor.adS (str X1) (str Q)).run Tryz.prog w = .ok (str (X1 ++ Q)) w := fun w => run_ad X1 Q (by omega) w
      have ad5 : ∀ w, (Go.Proofs.YtdnejpokcjiodaaGreatDoor.adS (str P) (str Q)).run Tryz.prog w = .ok (str (P ++ Q)) w := fun w => run_ad P Q (by omega) w
      have ad6 : ∀ w, (Go.Proofs.YtdnejpokcjiodaaGreatDoor.adS (str X3) (str R)).run Tryz.prog w = .ok (str (X3 ++ R)) w := fun w => run_ad X3 R (by omega) w
      have HY : Hid ((X1 ++ Q).length ≤ 281474976710656 ∧ (P ++ Q).length ≤ 281474976710656 ∧ (X3 ++ R).length ≤ 281474976710656) := ⟨by simp only [List.length_append]; omega⟩
      generalize X1 ++ Q = Y1 at *
      generalize P ++ Q = Y2 at *
      generalize X3 ++ R = Y3 at *
      have HW : Hid (∀ Y : List UInt8, Y.length ≤ 281474976710656 → ∀ w', Below wr.heap.size wr w' → Calls Tryz.prog 31 #[str Y] w' fun e w'' => e = .returned (.bool true) ∧ Below w'.heap.size w' w'') := ⟨fun Y hY w' hb => by
        have hb2 := below_seq HB.out hb
        exact whole_any Y w' hY (HT.out.below hb2) (HE.out.below hb2) (HK.out.seq hb2)⟩
      have hw1 := HW.out Y1 HY.out.1
      have hw2 := HW.out Y2 HY.out.2.1
      have hw3 := HW.out Y3 HY.out.2.2
      have hcv1x : (convert 47 9 (.slice (some ⟨wr.heap.size, 0, none⟩) 1 1)).run Tryz.prog (wr.alloc (.cells #[.int .u8 ((c.toNat : Nat) : Int)] 5)).drew = .ok (.string ⟨#[c]⟩) (wr.alloc (.cells #[.int .u8 ((c.toNat : Nat) : Int)] 5)).drew := Go.Proofs.YtdnejpokcjiodaaGreatDoorP.conv_one c wr.drew
      have hcv2 := fun w' => Go.Proofs.YtdnejpokcjiodaaGreatDoorP.conv_one c2 w'
      have hi6 : i + 1 ≤ 6 := by omega
      have hil6 : i + 1 ≤ il := by omega
      have HW1 := Hid.mk hw1
      have HW2 := Hid.mk hw2
      have HW3 := Hid.mk hw3
      clear hw1 hw2 hw3 HW HY hPl hQl hRl hP hQ hR hX1 hX3 hX1l hX3l hKl HTn hlt hwz hbb
      have hKm := HKm.out
      have hz1 := HZ1.out
      have hne2 : ¬ ((t.length : Int) = 0) := fun q => hne (Int.ofNat_eq_zero.1 q)
      go_upto_region 11 with fail
      rw [hkw]
      clear hix hne hne2 hz1 hKm hkw cz
      refine wp_region_held (S := fun w' => Below wr.heap.size wr w') (by kernel_rfl) ?_
      try (change wpAnyH _ _ _ _ _ _ _ _ (World.drew _))
      have bq0 := (Below.refl wr.heap.size wr).drew
      have hHeld := bq0
      generalize wr.drew = wq at *
      refine take2 0 52 (str t) rfl rfl (by kernel_rfl) (by kernel_rfl) (by kernel_rfl) (fun _ _ _ h => h) (by kernel_rfl) ?_ (by assumption) ?_
      · intro w' hSw
        clear hSw
        go_simp
      try simp only [Act.put, List.setIfInBounds_toArray, List.set_cons_zero, List.set_cons_succ]
      refine take2 1 53 (.int .i64 (K : Int)) rfl rfl (by kernel_rfl) (by kernel_rfl) (by kernel_rfl) (fun _ _ _ h => h) (by kernel_rfl) ?_ (by assumption) ?_
      · intro w' hSw
        clear hSw
        go_simp
      try simp only [Act.put, List.setIfInBounds_toArray, List.set_cons_zero, List.set_cons_succ]
      refine take2 2 54 (str P) rfl rfl (by kernel_rfl) (by kernel_rfl) (by kernel_rfl) (fun _ _ _ h => h) (by kernel_rfl) ?_ (by assumption) ?_
      · intro w' hSw
        clear hSw
        go_simp
      try simp only [Act.put, List.setIfInBounds_toArray, List.set_cons_zero, List.set_cons_succ]
      refine take2 3 55 (.int .u8 (((t[K]?.getD 0).toNat : Nat) : Int)) rfl rfl (by kernel_rfl) (by kernel_rfl) (by kernel_rfl) (fun _ _ _ h => h) (by kernel_rfl) ?_ (by assumption) ?_
      · intro w' hSw
        clear hSw
        go_simp
      try simp only [Act.put, List.setIfInBounds_toArray, List.set_cons_zero, List.set_cons_succ]
      refine take2 4 56 (.int .u8 ((c2.toNat : Nat) : Int)) rfl rfl (by kernel_rfl) (by kernel_rfl) (by kernel_rfl) (fun _ _ _ h => h) (by kernel_rfl) ?_ (by assumption) ?_
      · intro w' hSw
        clear hSw
        go_simp
      try simp only [Act.put, List.setIfInBounds_toArray, List.set_cons_zero, List.set_cons_succ]
      refine take2 5 57 (.int .u8 ((c.toNat : Nat) : Int)) rfl rfl (by kernel_rfl) (by kernel_rfl) (by kernel_rfl) (fun _ _ _ h => h) (by kernel_rfl) ?_ (by assumption) ?_
      · intro w' hSw
        clear hSw
        go_simp
      try simp only [Act.put, List.setIfInBounds_toArray, List.set_cons_zero, List.set_cons_succ]
      refine take2 9 61 (str t) rfl rfl (by kernel_rfl) (by kernel_rfl) (by kernel_rfl) (fun _ _ _ h => h) (by kernel_rfl) ?_ (by assumption) ?_
      · intro w' hSw
        clear hSw
        go_simp
      try simp only [Act.put, List.setIfInBounds_toArray, List.set_cons_zero, List.set_cons_succ]
      refine take2 10 62 (.int .i64 (K : Int)) rfl rfl (by kernel_rfl) (by kernel_rfl) (by kernel_rfl) (fun _ _ _ h => h) (by kernel_rfl) ?_ (by assumption) ?_
      · intro w' hSw
        clear hSw
        go_simp
      try simp only [Act.put, List.setIfInBounds_toArray, List.set_cons_zero, List.set_cons_succ]
      refine take2 11 63 (.int .i64 ((K : Int) + 1)) rfl rfl (by kernel_rfl) (by kernel_rfl) (by kernel_rfl) (fun _ _ _ h => h) (by kernel_rfl) ?_ (by assumption) ?_
      · intro w' hSw
        clear hSw
        go_simp
      try simp only [Act.put, List.setIfInBounds_toArray, List.set_cons_zero, List.set_cons_succ]
      refine take2 12 64 (str Q) rfl rfl (by kernel_rfl) (by kernel_rfl) (by kernel_rfl) (fun _ _ _ h => h) (by kernel_rfl) ?_ (by assumption) ?_
      · intro w' hSw
        clear hSw
        go_simp
      try simp only [Act.put, List.setIfInBounds_toArray, List.set_cons_zero, List.set_cons_succ]
      have b1 := bal2 bq0 (.cells #[.int .u8 ((c.toNat : Nat) : Int)] 5)
      refine wpAnyH_ready (rs := [6]) (by kernel_rfl) (by simp) ?_
      refine AllReadyH.cons rfl (fun K9 hK9 => ?_) AllReadyH.nil
      rw [if_pos (by kernel_rfl)]
      refine val_step2 (v := .slice (some ⟨wq.heap.size, 0, none⟩) 1 1) (w2 := (wq.alloc (.cells #[.int .u8 ((c.toNat : Nat) : Int)] 5))) 58 rfl ?_ ?_
      · go_simp
      refine hK9.out _ _ (b1) (fun hHeld => ?_)
      clear hK9 K9
      try simp only [Act.put, List.setIfInBounds_toArray, List.set_cons_zero, List.set_cons_succ]
      refine wpAnyH_ready (rs := [7]) (by kernel_rfl) (by simp) ?_
      refine AllReadyH.cons rfl (fun K9 hK9 => ?_) AllReadyH.nil
      rw [if_pos (by kernel_rfl)]
      have hcv := Go.Proofs.YtdnejpokcjiodaaGreatDoorP.conv_one c wq
      refine val_step2 (v := .string ⟨#[c]⟩) (w2 := (wq.alloc (.cells #[.int .u8 ((c.toNat : Nat) : Int)] 5))) 59 rfl ?_ ?_
      · go_simp
      refine hK9.out _ _ (b1) (fun hHeld => ?_)
      clear hK9 K9
      try simp only [Act.put, List.setIfInBounds_toArray, List.set_cons_zero, List.set_cons_succ]
      try clear hcv
      refine take2 8 60 (str X1) rfl rfl (by kernel_rfl) (by kernel_rfl) (by kernel_rfl) (fun _ _ _ h => h) (by kernel_rfl) ?_ (by assumption) ?_
      · intro w' hSw
        clear hSw
        go_simp
      try simp only [Act.put, List.setIfInBounds_toArray, List.set_cons_zero, List.set_cons_succ]
      refine take2 13 65 (str Y1) rfl rfl (by kernel_rfl) (by kernel_rfl) (by kernel_rfl) (fun _ _ _ h => h) (by kernel_rfl) ?_ (by assumption) ?_
      · intro w' hSw
        clear hSw
        go_simp
      try simp only [Act.put, List.setIfInBounds_toArray, List.set_cons_zero, List.set_cons_succ]
      refine wpAnyH_ready (rs := [14]) (by kernel_rfl) (by simp) ?_
      refine AllReadyH.cons rfl (fun K9 hK9 => ?_) AllReadyH.nil
      rw [if_pos (by kernel_rfl)]
      refine call_step2 66 rfl (by go_simp) (HW1.out _ (b1)) ?_
      intro w20 y1
      have B1 := below_seq (b1) y1
      refine hK9.out _ _ (B1) (fun hHeld => ?_)
      clear hK9 K9
      try simp only [Act.put, List.setIfInBounds_toArray, List.set_cons_zero, List.set_cons_succ]
      refine take2 15 67 (.bool false) rfl rfl (by kernel_rfl) (by kernel_rfl) (by kernel_rfl) (fun _ _ _ h => h) (by kernel_rfl) ?_ (by assumption) ?_
      · intro w' hSw
        clear hSw
        go_simp
      try simp only [Act.put, List.setIfInBounds_toArray, List.set_cons_zero, List.set_cons_succ]
      refine take2 16 68 (.bool false) rfl rfl (by kernel_rfl) (by kernel_rfl) (by kernel_rfl) (fun _ _ _ h => h) (by kernel_rfl) ?_ (by assumption) ?_
      · intro w' hSw
        clear hSw
        go_simp
      try simp only [Act.put, List.setIfInBounds_toArray, List.set_cons_zero, List.set_cons_succ]
      refine take2 17 69 (str t) rfl rfl (by kernel_rfl) (by kernel_rfl) (by kernel_rfl) (fun _ _ _ h => h) (by kernel_rfl) ?_ (by assumption) ?_
      · intro w' hSw
        clear hSw
        go_simp
      try simp only [Act.put, List.setIfInBounds_toArray, List.set_cons_zero, List.set_cons_succ]
      refine take2 18 70 (.int .i64 (K : Int)) rfl rfl (by kernel_rfl) (by kernel_rfl) (by kernel_rfl) (fun _ _ _ h => h) (by kernel_rfl) ?_ (by assumption) ?_
      · intro w' hSw
        clear hSw
        go_simp
      try simp only [Act.put, List.setIfInBounds_toArray, List.set_cons_zero, List.set_cons_succ]
      refine take2 19 71 (str P) rfl rfl (by kernel_rfl) (by kernel_rfl) (by kernel_rfl) (fun _ _ _ h => h) (by kernel_rfl) ?_ (by assumption) ?_
      · intro w' hSw
        clear hSw
        go_simp
      try simp only [Act.put, List.setIfInBounds_toArray, List.set_cons_zero, List.set_cons_succ]
      refine take2 20 72 (str t) rfl rfl (by kernel_rfl) (by kernel_rfl) (by kernel_rfl) (fun _ _ _ h => h) (by kernel_rfl) ?_ (by assumption) ?_
      · intro w' hSw
        clear hSw
        go_simp
      try simp only [Act.put, List.setIfInBounds_toArray, List.set_cons_zero, List.set_cons_succ]
      refine take2 21 73 (.int .i64 (K : Int)) rfl rfl (by kernel_rfl) (by kernel_rfl) (by kernel_rfl) (fun _ _ _ h => h) (by kernel_rfl) ?_ (by assumption) ?_
      · intro w' hSw
        clear hSw
        go_simp
      try simp only [Act.put, List.setIfInBounds_toArray, List.set_cons_zero, List.set_cons_succ]
      refine take2 22 74 (.int .i64 ((K : Int) + 1)) rfl rfl (by kernel_rfl) (by kernel_rfl) (by kernel_rfl) (fun _ _ _ h => h) (by kernel_rfl) ?_ (by assumption) ?_
      · intro w' hSw
        clear hSw
        go_simp
      try simp only [Act.put, List.setIfInBounds_toArray, List.set_cons_zero, List.set_cons_succ]
      refine take2 23 75 (str Q) rfl rfl (by kernel_rfl) (by kernel_rfl) (by kernel_rfl) (fun _ _ _ h => h) (by kernel_rfl) ?_ (by assumption) ?_
      · intro w' hSw
        clear hSw
        go_simp
      try simp only [Act.put, List.setIfInBounds_toArray, List.set_cons_zero, List.set_cons_succ]
      refine take2 24 76 (str Y2) rfl rfl (by kernel_rfl) (by kernel_rfl) (by kernel_rfl) (fun _ _ _ h => h) (by kernel_rfl) ?_ (by assumption) ?_
      · intro w' hSw
        clear hSw
        go_simp
      try simp only [Act.put, List.setIfInBounds_toArray, List.set_cons_zero, List.set_cons_succ]
      refine wpAnyH_ready (rs := [25]) (by kernel_rfl) (by simp) ?_
      refine AllReadyH.cons rfl (fun K9 hK9 => ?_) AllReadyH.nil
      rw [if_pos (by kernel_rfl)]
      refine call_step2 77 rfl (by go_simp) (HW2.out _ (B1)) ?_
      intro w21 y2
      have B2 := below_seq (B1) y2
      refine hK9.out _ _ (B2) (fun hHeld => ?_)
      clear hK9 K9
      try simp only [Act.put, List.setIfInBounds_toArray, List.set_cons_zero, List.set_cons_succ]
      refine take2 26 78 (.bool false) rfl rfl (by kernel_rfl) (by kernel_rfl) (by kernel_rfl) (fun _ _ _ h => h) (by kernel_rfl) ?_ (by assumption) ?_
      · intro w' hSw
        clear hSw
        go_simp
      try simp only [Act.put, List.setIfInBounds_toArray, List.set_cons_zero, List.set_cons_succ]
      refine take2 27 79 (.bool false) rfl rfl (by kernel_rfl) (by kernel_rfl) (by kernel_rfl) (fun _ _ _ h => h) (by kernel_rfl) ?_ (by assumption) ?_
      · intro w' hSw
        clear hSw
        go_simp
      try simp only [Act.put, List.setIfInBounds_toArray, List.set_cons_zero, List.set_cons_succ]
      refine take2 28 80 (.bool false) rfl rfl (by kernel_rfl) (by kernel_rfl) (by kernel_rfl) (fun _ _ _ h => h) (by kernel_rfl) ?_ (by assumption) ?_
      · intro w' hSw
        clear hSw
        go_simp
      try simp only [Act.put, List.setIfInBounds_toArray, List.set_cons_zero, List.set_cons_succ]
      refine take2 29 81 (str t) rfl rfl (by kernel_rfl) (by kernel_rfl) (by kernel_rfl) (fun _ _ _ h => h) (by kernel_rfl) ?_ (by assumption) ?_
      · intro w' hSw
        clear hSw
        go_simp
      try simp only [Act.put, List.setIfInBounds_toArray, List.set_cons_zero, List.set_cons_succ]
      refine take2 30 82 (.int .i64 (K : Int)) rfl rfl (by kernel_rfl) (by kernel_rfl) (by kernel_rfl) (fun _ _ _ h => h) (by kernel_rfl) ?_ (by assumption) ?_
      · intro w' hSw
        clear hSw
        go_simp
      try simp only [Act.put, List.setIfInBounds_toArray, List.set_cons_zero, List.set_cons_succ]
      refine take2 31 83 (str P) rfl rfl (by kernel_rfl) (by kernel_rfl) (by kernel_rfl) (fun _ _ _ h => h) (by kernel_rfl) ?_ (by assumption) ?_
      · intro w' hSw
        clear hSw
        go_simp
      try simp only [Act.put, List.setIfInBounds_toArray, List.set_cons_zero, List.set_cons_succ]
      refine take2 32 84 (.int .u8 ((c2.toNat : Nat) : Int)) rfl rfl (by kernel_rfl) (by kernel_rfl) (by kernel_rfl) (fun _ _ _ h => h) (by kernel_rfl) ?_ (by assumption) ?_
      · intro w' hSw
        clear hSw
        go_simp
      try simp only [Act.put, List.setIfInBounds_toArray, List.set_cons_zero, List.set_cons_succ]
      refine take2 36 88 (str t) rfl rfl (by kernel_rfl) (by kernel_rfl) (by kernel_rfl) (fun _ _ _ h => h) (by kernel_rfl) ?_ (by assumption) ?_
      · intro w' hSw
        clear hSw
        go_simp
      try simp only [Act.put, List.setIfInBounds_toArray, List.set_cons_zero, List.set_cons_succ]
      refine take2 37 89 (.int .i64 (K : Int)) rfl rfl (by kernel_rfl) (by kernel_rfl) (by kernel_rfl) (fun _ _ _ h => h) (by kernel_rfl) ?_ (by assumption) ?_
      · intro w' hSw
        clear hSw
        go_simp
      try simp only [Act.put, List.setIfInBounds_toArray, List.set_cons_zero, List.set_cons_succ]
      refine take2 38 90 (str R) rfl rfl (by kernel_rfl) (by kernel_rfl) (by kernel_rfl) (fun _ _ _ h => h) (by kernel_rfl) ?_ (by assumption) ?_
      · intro w' hSw
        clear hSw
        go_simp
      try simp only [Act.put, List.setIfInBounds_toArray, List.set_cons_zero, List.set_cons_succ]
      have b3 := bal2 B2 (.cells #[.int .u8 ((c2.toNat : Nat) : Int)] 5)
      refine wpAnyH_ready (rs := [33]) (by kernel_rfl) (by simp) ?_
      refine AllReadyH.cons rfl (fun K9 hK9 => ?_) AllReadyH.nil
      rw [if_pos (by kernel_rfl)]
      refine val_step2 (v := .slice (some ⟨w21.heap.size, 0, none⟩) 1 1) (w2 := (w21.alloc (.cells #[.int .u8 ((c2.toNat : Nat) : Int)] 5))) 85 rfl ?_ ?_
      · go_simp
      refine hK9.out _ _ (b3) (fun hHeld => ?_)
      clear hK9 K9
      try simp only [Act.put, List.setIfInBounds_toArray, List.set_cons_zero, List.set_cons_succ]
      refine wpAnyH_ready (rs := [34]) (by kernel_rfl) (by simp) ?_
      refine AllReadyH.cons rfl (fun K9 hK9 => ?_) AllReadyH.nil
      rw [if_pos (by kernel_rfl)]
      have hcv := Go.Proofs.YtdnejpokcjiodaaGreatDoorP.conv_one c2 w21
      refine val_step2 (v := .string ⟨#[c2]⟩) (w2 := (w21.alloc (.cells #[.int .u8 ((c2.toNat : Nat) : Int)] 5))) 86 rfl ?_ ?_
      · go_simp
      refine hK9.out _ _ (b3) (fun hHeld => ?_)
      clear hK9 K9
      try simp only [Act.put, List.setIfInBounds_toArray, List.set_cons_zero, List.set_cons_succ]
      try clear hcv
      refine take2 35 87 (str X3) rfl rfl (by kernel_rfl) (by kernel_rfl) (by kernel_rfl) (fun _ _ _ h => h) (by kernel_rfl) ?_ (by assumption) ?_
      · intro w' hSw
        clear hSw
        go_simp
      try simp only [Act.put, List.setIfInBounds_toArray, List.set_cons_zero, List.set_cons_succ]
      refine take2 39 91 (str Y3) rfl rfl (by kernel_rfl) (by kernel_rfl) (by kernel_rfl) (fun _ _ _ h => h) (by kernel_rfl) ?_ (by assumption) ?_
      · intro w' hSw
        clear hSw
        go_simp
      try simp only [Act.put, List.setIfInBounds_toArray, List.set_cons_zero, List.set_cons_succ]
      refine wpAnyH_ready (rs := [40]) (by kernel_rfl) (by simp) ?_
      refine AllReadyH.cons rfl (fun K9 hK9 => ?_) AllReadyH.nil
      rw [if_pos (by kernel_rfl)]
      refine call_step2 92 rfl (by go_simp) (HW3.out _ (b3)) ?_
      intro w22 y3
      have B3 := below_seq (b3) y3
      refine hK9.out _ _ (B3) (fun hHeld => ?_)
      clear hK9 K9
      try simp only [Act.put, List.setIfInBounds_toArray, List.set_cons_zero, List.set_cons_succ]
      refine take2 41 93 (.bool false) rfl rfl (by kernel_rfl) (by kernel_rfl) (by kernel_rfl) (fun _ _ _ h => h) (by kernel_rfl) ?_ (by assumption) ?_
      · intro w' hSw
        clear hSw
        go_simp
      try simp only [Act.put, List.setIfInBounds_toArray, List.set_cons_zero, List.set_cons_succ]
      refine take2 42 94 (.bool false) rfl rfl (by kernel_rfl) (by kernel_rfl) (by kernel_rfl) (fun _ _ _ h => h) (by kernel_rfl) ?_ (by assumption) ?_
      · intro w' hSw
        clear hSw
        go_simp
      try simp only [Act.put, List.setIfInBounds_toArray, List.set_cons_zero, List.set_cons_succ]
      refine wpAnyH_done (by kernel_rfl) ?_ _
      have HB9 := Hid.mk (below_seq HB.out B3)
      clear hHeld B1 B2 B3 b1 b3
      go_wp2_with fail
      exact ⟨⟨i + 1, by first | (rw [hwi]; done) | rfl | go_num, hi6, hil6, HB9⟩, by first | (rw [hwi]; omega) | (simp [intOf]; omega)⟩
    · have HE2 : Hid (i = il ∨ (i < il ∧ i = 6)) := ⟨by omega⟩
      clear hlt
      rcases HE2.out with e | ⟨e, e2⟩
      · subst e
        have d1 : decide ((i : Int) < (i : Int)) = false := decide_eq_false (fun q => Int.lt_irrefl _ q)
        clear HE2
        go_wp2_with fail
        go_ret
        exact ⟨rfl, HB.out⟩
      · have d1 : decide ((i : Int) < (il : Int)) = true := decide_eq_true (by omega)
        subst e2
        clear HE2
        go_wp2_with fail
        go_ret
        exact ⟨rfl, HB.out⟩
end Go.Proofs.YtdnejpokcjiodaaGreatDoor
