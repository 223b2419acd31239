/- PageFits: the walk. -/
import Derived.Test.YtibmnpkmbhjniaaFst
namespace Go.Proofs.Ytibmnpkmbhjniaa
set_option linter.unusedVariables false
set_option linter.unusedSimpArgs false
open Go.RowKit
attribute [local go_sem ↓] Go.wp_at_zero Go.wp_at_succ
attribute [local go_sem ↓] slPe sl9
theorem and_low (n : Int) (k : Nat) (hk : k ≤ 16) (h1 : -9223372036854775808 ≤ n) (h2 : n ≤ 9223372036854775807) : bits BinOp.and IntKind.i64 n ((2 ^ k - 1 : Nat) : Int) = n % ((2 ^ k : Nat) : Int) := by
  have hp : 2 ^ k ≤ 65536 := Nat.pow_le_pow_right (by decide) hk
  have hp1 : 1 ≤ 2 ^ k := Nat.one_le_two_pow
  have hd : (2 ^ k : Nat) ∣ 2 ^ 64 := Nat.pow_dvd_pow 2 (by omega)
  show IntKind.i64.wrap ((BitVec.ofInt 64 n &&& BitVec.ofInt 64 ((2 ^ k - 1 : Nat) : Int)).toNat : Int) = _
  rw [BitVec.ofInt_natCast, BitVec.toNat_and, BitVec.toNat_ofNat, Nat.mod_eq_of_lt (by omega), Nat.and_two_pow_sub_one_eq_mod, BitVec.toNat_ofInt, IntKind.wrap_i64]
  have e1 : (((n % ((2 ^ 64 : Nat) : Int)).toNat % 2 ^ k : Nat) : Int) = n % ((2 ^ k : Nat) : Int) := by
    have h0 := Int.emod_nonneg n (show (((2 ^ 64 : Nat) : Int)) ≠ 0 by decide)
    rw [Int.natCast_emod, Int.toNat_of_nonneg h0]
    exact Int.emod_emod_of_dvd n (Int.natCast_dvd_natCast.2 hd)
  rw [e1]
  have h3 := Int.emod_nonneg n (show (((2 ^ k : Nat) : Int)) ≠ 0 by omega)
  have h4 := Int.emod_lt_of_pos n (show (0 : Int) < ((2 ^ k : Nat) : Int) by omega)
  omega
theorem and255 {n : Int} (h1 : -9223372036854775808 ≤ n) (h2 : n ≤ 9223372036854775807) : ∃ K : Nat, K ≤ 255 ∧ bits BinOp.and IntKind.i64 n 255 = (K : Int) := by
  have := and_low n 8 (by omega) h1 h2
  refine ⟨(n % 256).toNat, by omega, ?_⟩
  rw [show ((255 : Int)) = ((2 ^ 8 - 1 : Nat) : Int) by decide, this]
  have h0 := Int.emod_nonneg n (show (256 : Int) ≠ 0 by decide)
  show n % 256 = _
  omega
theorem and65535 {n : Int} (h1 : -9223372036854775808 ≤ n) (h2 : n ≤ 9223372036854775807) : ∃ K : Nat, K ≤ 65535 ∧ bits BinOp.and IntKind.i64 n 65535 = (K : Int) := by
  have := and_low n 16 (by omega) h1 h2
  refine ⟨(n % 65536).toNat, by omega, ?_⟩
  rw [show ((65535 : Int)) = ((2 ^ 16 - 1 : Nat) : Int) by decide, this]
  have h0 := Int.emod_nonneg n (show (65536 : Int) ≠ 0 by decide)
  show n % 65536 = _
  omega
theorem flt_ok {k j : Nat} {l : List En} (hk : k ≤ 255) (hj : j ≤ 65535) (hs : ∀ e ∈ l, lng e = false) (ht : tot l ≤ 507) (hl : Srt l) : flt (k : Int) (j : Int) l = 0 := by
  have h1 : l.any lng = false := by
    rw [List.any_eq_false]
    intro x hx
    rw [hs x hx]; decide
  unfold flt
  rw [if_neg (by omega), if_neg (by rw [h1]; simp; omega), if_pos (srtb_true hl)]
theorem wrote_good {k j : Int} {l : List En} (h : flt k j l = 0) : wrote k j l = .tuple #[str (blk k j l), .int .i64 0] := by unfold wrote; rw [if_pos h, h]
set_option maxHeartbeats 8000000 in
theorem pageFits_walk (raw : List En) (a : Option Addr) (cap : Nat) (x : En) (kind : Int) (W : World) (hP : PIn W a raw) (hz : ∀ (k : Nat) (e : En), raw[k]? = some e → e.key.length ≤ 140737488351232 ∧ e.val.length ≤ 140737488351232) (hl : raw.length ≤ 4398046510976)
    (hx : x.key.length ≤ 140737488351232 ∧ x.val.length ≤ 140737488351232) (hk1 : -9223372036854775808 ≤ kind) (hk2 : kind ≤ 9223372036854775807) :
    Calls Try.prog 5 #[.slice a raw.length cap, pv x, .int .i64 kind] W fun e W' => e = .returned (.bool true) ∧ Below W.heap.size W W' := by
  obtain ⟨K, hK, hand⟩ := and255 hk1 hk2
  have hU := fulU_inv 507 raw 300
  have hUl := fulU_len raw 300
  have hfu := fun w h => full_any raw w a cap h (by omega) (fun k e he => ⟨by have := (hz k e he).1; omega, by have := (hz k e he).2; omega⟩)
  have hlc := fun w => lcut_any x w (by omega) (by omega)
  have hsX := ctE_short x
  have hLs : Srt (put (fulL 507 raw) (ctE x).key (ctE x).val) := put_srt hU.1 _ _
  have hLg : ∀ e ∈ put (fulL 507 raw) (ctE x).key (ctE x).val, lng e = false := fun e he => by
    rcases mem_put he with rfl | q
    · exact hsX
    · exact hU.2.1 e q
  have hLt : tot (put (fulL 507 raw) (ctE x).key (ctE x).val) ≤ 759 := by
    have h1 := tot_put (fulL 507 raw) (ctE x).key (ctE x).val
    have h2 := lng_sz hsX
    have h3 := hU.2.2
    have h4 : sz ⟨(ctE x).key, (ctE x).val⟩ ≤ 252 := by show 2 + (ctE x).key.length + (ctE x).val.length ≤ 252; omega
    have h5 : tot (fulL 507 raw) ≤ 507 := h3
    omega
  have hfs : Srt (fulL 507 raw) := hU.1
  have hfl : (fulL 507 raw).length ≤ 253 := hUl
  clear hU hUl
  generalize fulL 507 raw = U at *
  generalize ctE x = X at *
  have hpu := fun w a n cap hn h => put_any U X.key X.val hfs w a n cap hn h (by omega)
  have hcf := cut_fits hLg hLt
  have hll : (put U X.key X.val).length ≤ 254 := by rw [put_len]; split <;> omega
  have hsp := fun w a cap h => split_any (put U X.key X.val) w a cap h (by omega)
  generalize put U X.key X.val = L at *
  have hcl := cutw_le L
  generalize cutw L = c at *
  have hat : (L.take c).length = c := by rw [List.length_take]; omega
  have hbt : (L.drop c).length = L.length - c := List.length_drop
  have hja : L.take c ++ L.drop c = L := List.take_append_drop c L
  have hAs : Srt (L.take c) := hLs.take c
  have hBs : Srt (L.drop c) := hLs.drop c
  have hAg : ∀ e ∈ L.take c, lng e = false := fun e he => hLg e (List.mem_of_mem_take he)
  have hBg : ∀ e ∈ L.drop c, lng e = false := fun e he => hLg e (List.mem_of_mem_drop he)
  have fA : flt (K : Int) 0 (L.take c) = 0 := flt_ok (k := K) (j := 0) hK (by omega) hAg hcf.1 hAs
  have fB : flt (K : Int) 0 (L.drop c) = 0 := flt_ok (k := K) (j := 0) hK (by omega) hBg hcf.2.1 hBs
  have tA : totw (L.take c) = (tot (L.take c) : Int) := totw_small (by omega)
  have tB : totw (L.drop c) = (tot (L.drop c) : Int) := totw_small (by omega)
  obtain ⟨c1, c2, c3⟩ := hcf
  generalize hA : L.take c = A at *
  generalize hB : L.drop c = B at *
  have hSA := fun w a cap h => Size_any A w a cap h (by omega)
  have hSB := fun w a cap h => Size_any B w a cap h (by omega)
  rw [tA] at hSA
  rw [tB] at hSB
  have hWA := fun w a n cap hn h => write_any (K : Int) 0 A w a n cap hn h (by omega)
  have hWB := fun w a n cap hn h => write_any (K : Int) 0 B w a n cap hn h (by omega)
  rw [wrote_good fA] at hWA
  rw [wrote_good fB] at hWB
  generalize blk (K : Int) 0 A = bA at *
  generalize blk (K : Int) 0 B = bB at *
  have dA : decide ((507 : Int) < (tot A : Int)) = false := decide_eq_false (by omega)
  have dB : decide ((507 : Int) < (tot B : Int)) = false := decide_eq_false (by omega)
  have hsm := fun w pa pb ca cb h1 h2 => same_any L L w pa pb L.length L.length ca cb rfl rfl h1 h2 (by omega) (by omega)
  rw [same_true rfl] at hsm
  generalize tot A = TA at *
  generalize tot B = TB at *
  clear fA fB hAg hBg hAs hBs hLg hLs hLt hsX hfs tA tB c1 c2
  go_enter Try.func5, Try.ntmps5
  go_wp2_with fail
  refine (first_any _).mono ?_
  rintro e w1 ⟨rfl, b1⟩
  dsimp only
  have B1 : Below W.heap.size W w1 := ((Below.refl _ _).alloc (Nat.le_refl _) _).trans (b1.mono (by simp))
  obtain ⟨x0, x1⟩ := new2 b1
  have hxb : W.heap.size < w1.heap.size := by have := b1.size; simp at this; omega
  go_wp2_with fail
  refine (hfu _ (hP.later B1)).mono ?_
  rintro e w2 ⟨v2, rfl, o2, b2⟩
  dsimp only
  obtain ⟨a2, cp2, rfl, s2⟩ := o2.sl
  have x20 := (Below.cell (p := ⟨W.heap.size, _, none⟩) b2 hxb).trans x0
  have x21 := (Below.cell (p := ⟨W.heap.size, _, none⟩) b2 hxb).trans x1
  clear x0 x1 o2
  go_wp2_with fail
  refine (hlc _).mono ?_
  rintro e w3 ⟨rfl, b3⟩
  dsimp only
  clear x20 x21
  have B3 : Below W.heap.size W w3 := (B1.trans (b2.mono B1.size)).trans (b3.mono (Nat.le_trans B1.size b2.size))
  have s4 := (s2.later b3).later ((Below.refl w3.heap.size w3).alloc (Nat.le_refl _) (.cells #[str X.key, str X.val] 43))
  have B4 : Below W.heap.size W (w3.alloc (.cells #[str X.key, str X.val] 43)) := B3.alloc B3.size _
  clear s2 b1 b2 b3 B1 B3 hxb hlc hfu
  go_wp2_with fail
  refine (hpu _ _ _ _ rfl s4).mono ?_
  rintro e w5 ⟨v5, rfl, o5, b5⟩
  dsimp only
  have B5 := B4.trans (b5.mono B4.size)
  obtain ⟨a5, cp5, rfl, s5⟩ := o5.sl
  clear s4 B4 b5 o5 hpu
  go_wp2_with fail
  refine (hsp _ _ _ s5).mono ?_
  rintro e w6 ⟨v6, y6, rfl, t6, b6⟩
  dsimp only
  have B6 := B5.trans (b6.mono B5.size)
  have s56 := s5.later b6
  rw [hA, hB] at t6
  obtain ⟨a6, c6, rfl, s6⟩ : ∃ a cp, v6 = .slice a c cp ∧ Sl w6 a cp A := by have := t6.ox.sl; rw [hat] at this; exact this
  obtain ⟨a7, c7, rfl, s7⟩ : ∃ a cp, y6 = .slice a (L.length - c) cp ∧ Sl w6 a cp B := by have := t6.oy.sl; rw [hbt] at this; exact this
  clear t6 s5 B5 b6 hsp
  have hAl : A.length = c := hat
  have hBl : B.length = L.length - c := hbt
  rw [hAl] at hSA
  rw [hBl] at hSB
  go_wp2_with (first
    | (refine app_slice rfl _ _ rfl A (Ow.nil _ w6.heap.size (Nat.le_refl _)) s6 hAl (by simp; omega) rfl rfl ?_; intro v8 w8 o8 b8)
    | (refine app_slice rfl _ _ rfl B o8 (s7.later b8) hBl (by simp; omega) rfl rfl ?_; intro v9 w9 o9 b9; rw [List.nil_append, hja] at o9; obtain ⟨a9, c9, rfl, s9⟩ := o9.sl; have b89 := b8.trans b9)
    | (go_at_call 13; with_reducible refine Calls.mono (hsm w9 a9 a5 c9 cp5 s9.at' (s56.later b89).at') ?_; rintro e w10 ⟨rfl, b10⟩; have b610 := b89.trans (b10.mono b89.size)))
  have s61 := s6.later b610
  have s71 := s7.later b610
  have B10 := B6.trans (b610.mono B6.size)
  clear o8 o9 b8 b9 b89 b610 s9 s56 s6 s7 B6 hsm
  with_reducible refine Calls.mono (hSA w10 a6 c6 s61.at') ?_
  rintro e w11 ⟨rfl, b11⟩
  dsimp only
  go_wp2_with fail
  with_reducible refine Calls.mono (hSB w11 a7 c7 (s71.later b11).at') ?_
  rintro e w12 ⟨rfl, b12⟩
  dsimp only
  have b1012 := below_seq b11 b12
  have s62 := s61.later b1012
  have s72 := s71.later b1012
  have B12 := B10.trans (b1012.mono B10.size)
  clear s61 s71 B10 b11 b12 b1012 hSA hSB
  have hW1 := hWA w12 a6 c c6 hAl s62.at'
  clear hWA
  by_cases q : 1 < L.length
  · have c4 := c3 q
    have d1 : decide ((1 : Int) < (L.length : Int)) = true := decide_eq_true (by omega)
    have d2 : ((c : Int) == 0) = false := by rw [beq_eq_false_iff_ne]; omega
    have d3 : (((L.length - c : Nat) : Int) == 0) = false := by rw [beq_eq_false_iff_ne]; omega
    generalize hD : L.length - c = D at *
    clear c3
    go_wp2_with fail
    with_reducible refine Calls.mono hW1 ?_
    rintro e w13 ⟨rfl, b13⟩
    dsimp only
    have hW2 := hWB w13 a7 D c7 hBl (s72.later b13).at'
    go_wp2_with fail
    with_reducible refine Calls.mono hW2 ?_
    rintro e w14 ⟨rfl, b14⟩
    dsimp only
    have B14 := (B12.trans (b13.mono B12.size)).trans (b14.mono (Nat.le_trans B12.size b13.size))
    go_wp2_with fail
    go_ret
    exact ⟨rfl, B14⟩
  · have d1 : decide ((1 : Int) < (L.length : Int)) = false := decide_eq_false (by omega)
    generalize hD : L.length - c = D at *
    clear c3
    go_wp2_with fail
    with_reducible refine Calls.mono hW1 ?_
    rintro e w13 ⟨rfl, b13⟩
    dsimp only
    have hW2 := hWB w13 a7 D c7 hBl (s72.later b13).at'
    go_wp2_with fail
    with_reducible refine Calls.mono hW2 ?_
    rintro e w14 ⟨rfl, b14⟩
    dsimp only
    have B14 := (B12.trans (b13.mono B12.size)).trans (b14.mono (Nat.le_trans B12.size b13.size))
    go_wp2_with fail
    go_ret
    exact ⟨rfl, B14⟩
end Go.Proofs.Ytibmnpkmbhjniaa
