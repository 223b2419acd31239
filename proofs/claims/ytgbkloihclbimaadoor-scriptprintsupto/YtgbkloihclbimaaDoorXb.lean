/- Layer 22: a word as a number, as a text in quotes. -/
import Derived.Test.YtgbkloihclbimaaDoorXq
import Derived.Test.YtgbkloihclbimaaDoorXw
namespace Go.Proofs.YtgbkloihclbimaaDoor
set_option maxRecDepth 100000
set_option linter.unusedVariables false
set_option linter.unusedSimpArgs false
open Go.RowKit
attribute [local go_sem ↓] Go.wp_at_zero Go.wp_at_succ sl9 ix9
/-- the table of powers of ten, and the two errors' variables -/
structure TB (w : World) : Prop where
  out : Lib.TabIs Tryd.prog w "internal/strconv.uint64pow10" .u64 Lib.pow10Tab
theorem TB.below {w w' : World} (h : TB w) (b : Below w.heap.size w w') : TB w' := ⟨Lib.tabBelow_of_tabIs h.out w' b⟩
structure EG (w : World) : Prop where
  s : ∃ t p, w.cell? ⟨5, 0, none⟩ = some (.iface t p)
  r : ∃ t p, w.cell? ⟨6, 0, none⟩ = some (.iface t p)
theorem EG.below {w w' : World} (h : EG w) (b : Below w.heap.size w w') : EG w' := by
  obtain ⟨t, p, h1⟩ := h.s
  obtain ⟨t', p', h2⟩ := h.r
  exact ⟨⟨t, p, (b.cell (p := ⟨5, 0, none⟩) (block_lt_of_cell h1)).trans h1⟩, ⟨t', p', (b.cell (p := ⟨6, 0, none⟩) (block_lt_of_cell h2)).trans h2⟩⟩
theorem fmtInt_any (n : Int) (h : In64 n) (w : World) (hT : TB w) : Calls Tryd.prog 32 #[.int .i64 n, .int .i64 10] w fun e w' => e = .returned (str (Lib.itoa n)) ∧ Below w.heap.size w w' := by
  have hf := Tryd.internal_strconv_FormatInt_10 n h.1 h.2 w hT.out
  go_enter Tryd.func32, Tryd.ntmps32
  go_wp2_with fail
  refine Calls.mono hf ?_
  rintro e w1 ⟨rfl, k, os, rfl⟩
  dsimp only
  go_wp2_with fail
  go_ret
  exact ⟨rfl, Lib.below_grow _ _ (Nat.le_refl _) _ _⟩
theorem parseInt_ok (s : By) (v : Int) (hs : s.length ≤ 1000000000000) (h : Lib.parseIntB 64 s = .ok v) (w : World) : Calls Tryd.prog 74 #[str s, .int .i64 10, .int .i64 64] w fun e w' => e = .returned (.tuple #[.int .i64 v, .nilIface]) ∧ Below w.heap.size w w' := by
  refine (Tryd.strconv_ParseInt_10_at64_ok ⟨s.toArray⟩ (by rw [str_size]; omega) v h w).mono ?_
  rintro e w' ⟨rfl, q⟩
  refine ⟨rfl, ?_⟩
  rcases q with rfl | ⟨t, rfl⟩
  · exact Below.refl _ _
  · exact Lib.bytesWorld_below _ _ _
theorem parseInt_no (s : By) (hs : s.length ≤ 1000000000000) (h : ∀ v, Lib.parseIntB 64 s ≠ .ok v) (w : World) (hE : EG w) : Calls Tryd.prog 74 #[str s, .int .i64 10, .int .i64 64] w fun e w' => ∃ n N, e = .returned (.tuple #[.int .i64 n, .iface 139 (.pointer (some ⟨N, 0, none⟩))]) ∧ Below w.heap.size w w' := by
  cases hp : Lib.parseIntB 64 s with
  | ok v => exact absurd hp (h v)
  | «syntax» =>
    obtain ⟨t, p, hc⟩ := hE.s
    refine (Tryd.strconv_ParseInt_10_at64_syntax ⟨s.toArray⟩ (by rw [str_size]; omega) hp _ w hc (.inr ⟨t, p, rfl⟩)).mono ?_
    rintro e w' ⟨N, rfl, _, _, b⟩
    exact ⟨_, _, rfl, b⟩
  | range =>
    obtain ⟨t, p, hc⟩ := hE.r
    refine (Tryd.strconv_ParseInt_10_at64_range ⟨s.toArray⟩ (by rw [str_size]; omega) hp _ w hc (.inr ⟨t, p, rfl⟩)).mono ?_
    rintro e w' ⟨N, rfl, _, _, b⟩
    exact ⟨_, _, rfl, b⟩
theorem numberOf_any (s : By) (hs : s.length ≤ 1000000000) (w : World) (hT : TB w) (hE : EG w) :
    Calls Tryd.prog 64 #[str s] w fun e w' => e = .returned (.tuple #[.int .i64 ((numO s).getD 0), .bool (numO s).isSome]) ∧ Below w.heap.size w w' := by
  by_cases hp : ∃ v, Lib.parseIntB 64 s = .ok v
  · obtain ⟨v, hp⟩ := hp
    have hb : In64 v := by
      have hb := Lib.parseIntB_bounds hp
      have hp : (2 : Nat) ^ (64 - 1) = 9223372036854775808 := by decide
      exact ⟨by omega, by omega⟩
    have hcall := parseInt_ok s v (by omega) hp w
    by_cases hq : Lib.itoa v = s
    · have hn : Hid (numO s = some v) := ⟨by unfold numO; rw [hp]; simp only; rw [if_pos hq]⟩
      have d1 : (Lib.itoa v == s) = true := by rw [hq]; simp
      have d2 : (Lib.itoa v != s) = false := by rw [bne, d1]; rfl
      clear hq hp
      go_enter Tryd.func64, Tryd.ntmps64
      go_wp2_with fail
      with_reducible refine Calls.mono hcall ?_
      rintro e w1 ⟨rfl, b1⟩
      dsimp only
      have hf := fmtInt_any v hb w1 (hT.below b1)
      go_wp2_with fail
      with_reducible refine Calls.mono hf ?_
      rintro e w2 ⟨rfl, b2⟩
      dsimp only
      go_wp2_with fail
      refine bodyPost_ret (results_tmp2 rfl _ _ _) rfl ?_
      exact ⟨by rw [hn.out]; rfl, below_seq b1 b2⟩
    · have hn : Hid (numO s = none) := ⟨by unfold numO; rw [hp]; simp only; rw [if_neg hq]⟩
      have d1 : (Lib.itoa v == s) = false := beq_eq_false_iff_ne.2 hq
      have d2 : (Lib.itoa v != s) = true := by rw [bne, d1]; rfl
      clear hq hp
      go_enter Tryd.func64, Tryd.ntmps64
      go_wp2_with fail
      with_reducible refine Calls.mono hcall ?_
      rintro e w1 ⟨rfl, b1⟩
      dsimp only
      have hf := fmtInt_any v hb w1 (hT.below b1)
      go_wp2_with fail
      with_reducible refine Calls.mono hf ?_
      rintro e w2 ⟨rfl, b2⟩
      dsimp only
      go_wp2_with fail
      refine bodyPost_ret (results_tmp2 rfl _ _ _) rfl ?_
      exact ⟨by rw [hn.out]; rfl, below_seq b1 b2⟩
  · have hn : Hid (numO s = none) := ⟨by
      unfold numO
      cases hq : Lib.parseIntB 64 s with
      | ok v => exact absurd ⟨v, hq⟩ hp
      | «syntax» => rfl
      | range => rfl⟩
    have hcall := parseInt_no s (by omega) (fun v hv => hp ⟨v, hv⟩) w hE
    go_enter Tryd.func64, Tryd.ntmps64
    go_wp2_with fail
    with_reducible refine Calls.mono hcall ?_
    rintro e w1 ⟨n, N, rfl, b1⟩
    dsimp only
    go_wp2_with fail
    refine bodyPost_ret (results_tmp2 rfl _ _ _) rfl ?_
    exact ⟨by rw [hn.out]; rfl, b1⟩
/-- the byte at the beginning of what is in quotes, and how many bytes tell it -/
def bOf : By → UInt8 × Nat
  | [] => (0, 0)
  | c :: r =>
    if c < 32 ∨ 126 < c ∨ c = 34 then (0, 0)
    else if c ≠ 92 then (c, 1)
    else match r with
      | [] => (0, 0)
      | d :: r1 =>
        if d = 34 ∨ d = 92 then (d, 2)
        else match r1 with
          | h :: l :: r2 => if d = 120 ∧ (hxv h).isSome ∧ (hxv l).isSome then (UInt8.ofNat (16 * (hxv h).getD 0 + (hxv l).getD 0), 4) else (0, 0)
          | _ => (0, 0)
theorem bOf1 {c : UInt8} {r : By} (h : c < 32 ∨ 126 < c ∨ c = 34) : bOf (c :: r) = (0, 0) := by unfold bOf; dsimp only; rw [if_pos h]
theorem bOf2 {c : UInt8} {r : By} (h : ¬ (c < 32 ∨ 126 < c ∨ c = 34)) (h2 : c ≠ 92) : bOf (c :: r) = (c, 1) := by unfold bOf; dsimp only; rw [if_neg h, if_pos h2]
theorem bOf3 : bOf [92] = (0, 0) := rfl
theorem bOf4 {d : UInt8} {r : By} (h : d = 34 ∨ d = 92) : bOf (92 :: d :: r) = (d, 2) := by
  unfold bOf; dsimp only; rw [if_neg (by decide), if_neg (by decide)]; rw [if_pos h]
theorem bOf5 {d : UInt8} (h : ¬ (d = 34 ∨ d = 92)) : bOf [92, d] = (0, 0) := by
  unfold bOf; dsimp only; rw [if_neg (by decide), if_neg (by decide)]; rw [if_neg h]
theorem bOf5b {d x : UInt8} (h : ¬ (d = 34 ∨ d = 92)) : bOf [92, d, x] = (0, 0) := by
  unfold bOf; dsimp only; rw [if_neg (by decide), if_neg (by decide)]; rw [if_neg h]
theorem bOf6 {d x y : UInt8} {r : By} (h : ¬ (d = 34 ∨ d = 92)) (h2 : d = 120 ∧ (hxv x).isSome ∧ (hxv y).isSome) : bOf (92 :: d :: x :: y :: r) = (UInt8.ofNat (16 * (hxv x).getD 0 + (hxv y).getD 0), 4) := by
  unfold bOf; dsimp only; rw [if_neg (by decide), if_neg (by decide)]; rw [if_neg h, if_pos h2]
theorem bOf7 {d x y : UInt8} {r : By} (h : ¬ (d = 34 ∨ d = 92)) (h2 : ¬ (d = 120 ∧ (hxv x).isSome ∧ (hxv y).isSome)) : bOf (92 :: d :: x :: y :: r) = (0, 0) := by
  unfold bOf; dsimp only; rw [if_neg (by decide), if_neg (by decide)]; rw [if_neg h, if_neg h2]
theorem dec_bOf (s : By) (h : s ≠ []) : decF s = if (bOf s).2 = 0 then none else (decF (s.drop (bOf s).2)).map ((bOf s).1 :: ·) := by
  cases s with
  | nil => exact absurd rfl h
  | cons c r =>
    by_cases h1 : c < 32 ∨ 126 < c ∨ c = 34
    · rw [bOf1 h1]; conv => lhs; unfold decF
      rw [if_pos h1]; rfl
    by_cases h2 : c ≠ 92
    · rw [bOf2 h1 h2]; conv => lhs; unfold decF
      rw [if_neg h1, if_pos h2]; rfl
    have h2 : c = 92 := Decidable.not_not.1 h2
    subst h2
    match r with
    | [] => rfl
    | d :: r1 =>
      by_cases h3 : d = 34 ∨ d = 92
      · rw [bOf4 h3]; conv => lhs; unfold decF
        rw [if_neg (by decide), if_neg (by decide)]; simp only; rw [if_pos h3]; rfl
      match r1 with
      | [] =>
        rw [bOf5 h3]; conv => lhs; unfold decF
        rw [if_neg (by decide), if_neg (by decide)]; simp only; rw [if_neg h3]; rfl
      | [_] =>
        rw [bOf5b h3]; conv => lhs; unfold decF
        rw [if_neg (by decide), if_neg (by decide)]; simp only; rw [if_neg h3]; rfl
      | x :: y :: r2 =>
        by_cases h4 : d = 120 ∧ (hxv x).isSome ∧ (hxv y).isSome
        · rw [bOf6 h3 h4]; conv => lhs; unfold decF
          rw [if_neg (by decide), if_neg (by decide)]; simp only; rw [if_neg h3, if_pos h4]; rfl
        · rw [bOf7 h3 h4]; conv => lhs; unfold decF
          rw [if_neg (by decide), if_neg (by decide)]; simp only; rw [if_neg h3, if_neg h4]; rfl
theorem bOf_le (s : By) : (bOf s).2 ≤ s.length := by
  unfold bOf
  split
  · simp
  · split
    · simp
    · split
      · simp
      · split
        · simp
        · split
          · simp
          · split
            · split <;> simp
            · simp
def hxi (c : UInt8) : Int := match hxv c with
  | some n => (n : Int)
  | none => -1
theorem hex_ix (c : UInt8) (w : World) : Calls Tryd.prog 34 #[.string ⟨#[48, 49, 50, 51, 52, 53, 54, 55, 56, 57, 97, 98, 99, 100, 101, 102]⟩, .int .u8 (c.toNat : Int)] w fun e w' => e = .returned (.int .i64 (hxi c)) ∧ w' = w := by
  refine (Tryd.strings_IndexByte ⟨#[48, 49, 50, 51, 52, 53, 54, 55, 56, 57, 97, 98, 99, 100, 101, 102]⟩ (c.toNat : Int) w).mono ?_
  rintro e w' ⟨rfl, rfl⟩
  refine ⟨?_, rfl⟩
  have h : ∀ n : Fin 256, Lib.indexByte [48, 49, 50, 51, 52, 53, 54, 55, 56, 57, 97, 98, 99, 100, 101, 102] (UInt8.ofNat n.val) = hxi (UInt8.ofNat n.val) := by decide +kernel
  have h2 := h ⟨c.toNat, c.toNat_lt⟩
  simp only [UInt8.ofNat_toNat] at h2
  rw [← h2]
  simp
theorem hxv_lt {c : UInt8} {n : Nat} (h : hxv c = some n) : n < 16 := by
  unfold hxv at h
  have hc := c.toNat_lt
  split at h
  · rename_i q
    have := UInt8.le_iff_toNat_le.1 q.2
    have e : (57 : UInt8).toNat = 57 := rfl
    injection h with h; omega
  · split at h
    · rename_i q
      have := UInt8.le_iff_toNat_le.1 q.2
      have e : (102 : UInt8).toNat = 102 := rfl
      injection h with h; omega
    · cases h
theorem or16 {a b : Nat} (ha : a < 16) (hb : b < 16) : bits BinOp.or IntKind.i64 ((a : Int) * 16) (b : Int) = ((16 * a + b : Nat) : Int) := by
  have h : ∀ x y : Fin 16, bits BinOp.or IntKind.i64 ((x.val : Int) * 16) (y.val : Int) = ((16 * x.val + y.val : Nat) : Int) := by decide +kernel
  exact h ⟨a, ha⟩ ⟨b, hb⟩
theorem ab256 {a b : Nat} (ha : a < 16) (hb : b < 16) : 16 * a + b < 256 := by omega
theorem mod256 {m : Nat} (h : m < 256) : (m : Int) % 256 = (m : Int) := by omega
theorem wr16 {a : Nat} (h : a < 16) : wrap64 ((a : Int) * 16) = (a : Int) * 16 := by unfold wrap64; omega
theorem u8ne {c : UInt8} {n : Nat} (hn : n < 256) (h : c ≠ UInt8.ofNat n) : ((c.toNat : Int) == (n : Int)) = false := beq_eq_false_iff_ne.2 (fun q => h (UInt8.toNat.inj (by rw [u8n hn]; omega)))
set_option maxHeartbeats 1000000 in
theorem byteOf_any (c : UInt8) (r : By) (hs : r.length ≤ 1000000000) (w : World) :
    Calls Tryd.prog 75 #[str (c :: r)] w fun e w' => e = .returned (.tuple #[.int .u8 ((bOf (c :: r)).1.toNat : Int), .int .i64 ((bOf (c :: r)).2 : Int)]) ∧ Below w.heap.size w w' := by
  have i0 : ∀ w, (ixS (str (c :: r)) (.int .i64 0)).run Tryd.prog w = .ok (.int .u8 (c.toNat : Int)) w := run_ix (c :: r) 0 (by simp)
  by_cases h1 : c < 32
  · have HV := Hid.mk (bOf1 (r := r) (.inl h1))
    have h1 := UInt8.lt_iff_toNat_lt.1 h1
    have e : (32 : UInt8).toNat = 32 := rfl
    have d1 : decide ((c.toNat : Int) < 32) = true := decide_eq_true (by omega)
    clear h1 e
    go_enter Tryd.func75, Tryd.ntmps75
    go_wp2_with fail
    refine bodyPost_ret (results_tmp2 rfl _ _ _) rfl ?_
    exact ⟨by rw [HV.out]; rfl, Below.refl _ _⟩
  have h1' : ¬ c.toNat < 32 := fun q => h1 (UInt8.lt_iff_toNat_lt.2 q)
  have d1 : decide ((c.toNat : Int) < 32) = false := decide_eq_false (by omega)
  by_cases h2 : 126 < c
  · have HV := Hid.mk (bOf1 (r := r) (.inr (.inl h2)))
    have h2 := UInt8.lt_iff_toNat_lt.1 h2
    have e : (126 : UInt8).toNat = 126 := rfl
    have d2 : decide (126 < (c.toNat : Int)) = true := decide_eq_true (by omega)
    clear h2 e h1 h1'
    go_enter Tryd.func75, Tryd.ntmps75
    go_wp2_with fail
    refine bodyPost_ret (results_tmp2 rfl _ _ _) rfl ?_
    exact ⟨by rw [HV.out]; rfl, Below.refl _ _⟩
  have h2' : ¬ 126 < c.toNat := fun q => h2 (UInt8.lt_iff_toNat_lt.2 q)
  have d2 : decide (126 < (c.toNat : Int)) = false := decide_eq_false (by omega)
  by_cases h3 : c = 34
  · have HV := Hid.mk (bOf1 (r := r) (.inr (.inr h3)))
    subst h3
    clear h1 h1' h2 h2'
    go_enter Tryd.func75, Tryd.ntmps75
    go_wp2_with fail
    refine bodyPost_ret (results_tmp2 rfl _ _ _) rfl ?_
    exact ⟨by rw [HV.out]; rfl, Below.refl _ _⟩
  have d3 : ((c.toNat : Int) == 34) = false := u8ne (n := 34) (by decide) h3
  by_cases h4 : c = 92
  · subst h4
    clear h1 h1' h2 h2' h3
    match r with
    | [] =>
      go_enter Tryd.func75, Tryd.ntmps75
      go_wp2_with fail
      refine bodyPost_ret (results_tmp2 rfl _ _ _) rfl ?_
      exact ⟨rfl, Below.refl _ _⟩
    | d :: r1 =>
      have i1 : ∀ w, (ixS (str (92 :: d :: r1)) (.int .i64 1)).run Tryd.prog w = .ok (.int .u8 (d.toNat : Int)) w := run_ix (92 :: d :: r1) 1 (by simp)
      have hlen : (92 :: d :: r1).length = r1.length + 2 := rfl
      have g1 : decide ((2 : Int) ≤ ((92 :: d :: r1).length : Int)) = true := decide_eq_true (by rw [hlen]; omega)
      by_cases h5 : d = 34
      · have HV := Hid.mk (bOf4 (r := r1) (.inl h5))
        subst h5
        go_enter Tryd.func75, Tryd.ntmps75
        go_wp2_with fail
        refine bodyPost_ret (results_tmp2 rfl _ _ _) rfl ?_
        exact ⟨by rw [HV.out]; rfl, Below.refl _ _⟩
      have e5 : ((d.toNat : Int) == 34) = false := u8ne (n := 34) (by decide) h5
      by_cases h6 : d = 92
      · have HV := Hid.mk (bOf4 (r := r1) (.inr h6))
        subst h6
        go_enter Tryd.func75, Tryd.ntmps75
        go_wp2_with fail
        refine bodyPost_ret (results_tmp2 rfl _ _ _) rfl ?_
        exact ⟨by rw [HV.out]; rfl, Below.refl _ _⟩
      have e6 : ((d.toNat : Int) == 92) = false := u8ne (n := 92) (by decide) h6
      have h56 : ¬ (d = 34 ∨ d = 92) := by rintro (q | q); exact h5 q; exact h6 q
      clear h5 h6 hlen
      match r1 with
      | [] =>
        have HV := Hid.mk (bOf5 h56)
        clear h56
        go_enter Tryd.func75, Tryd.ntmps75
        go_wp2_with fail
        refine bodyPost_ret (results_tmp2 rfl _ _ _) rfl ?_
        exact ⟨by rw [HV.out]; rfl, Below.refl _ _⟩
      | [x] =>
        have HV := Hid.mk (bOf5b (x := x) h56)
        clear h56
        go_enter Tryd.func75, Tryd.ntmps75
        go_wp2_with fail
        refine bodyPost_ret (results_tmp2 rfl _ _ _) rfl ?_
        exact ⟨by rw [HV.out]; rfl, Below.refl _ _⟩
      | x :: y :: r2 =>
        have hlen : (92 :: d :: x :: y :: r2).length = r2.length + 4 := rfl
        have g2 : decide (((92 :: d :: x :: y :: r2).length : Int) < 4) = false := decide_eq_false (by rw [hlen]; omega)
        have i2 : ∀ w, (ixS (str (92 :: d :: x :: y :: r2)) (.int .i64 2)).run Tryd.prog w = .ok (.int .u8 (x.toNat : Int)) w := run_ix (92 :: d :: x :: y :: r2) 2 (by simp)
        have i3 : ∀ w, (ixS (str (92 :: d :: x :: y :: r2)) (.int .i64 3)).run Tryd.prog w = .ok (.int .u8 (y.toNat : Int)) w := run_ix (92 :: d :: x :: y :: r2) 3 (by simp)
        have h7f := @bOf7 d x y r2 h56
        have h6f := @bOf6 d x y r2 h56
        generalize hS : (92 :: d :: x :: y :: r2 : By) = S at *
        clear hS hlen h56
        by_cases h7 : d = 120
        · have x1 := fun w => hex_ix x w
          subst h7
          cases hx : hxv x with
          | none =>
            have ex : hxi x = -1 := by unfold hxi; rw [hx]
            have HV := Hid.mk (h7f (by rintro ⟨_, q, _⟩; rw [hx] at q; exact Bool.noConfusion q))
            clear h6f h7f hx x1
            go_enter Tryd.func75, Tryd.ntmps75
            go_wp2_with fail
            go_quiet ((go_at_call 34; exact Calls.quiet_of_same (hex_ix _ _)))
            go_wp2_with fail
            refine bodyPost_ret (results_tmp2 rfl _ _ _) rfl ?_
            exact ⟨by rw [HV.out]; rfl, below_dN (Below.refl _ _) _⟩
          | some a =>
            have ex : hxi x = (a : Int) := by unfold hxi; rw [hx]
            have ha := hxv_lt hx
            have ta : decide ((a : Int) < 0) = false := by simp
            cases hy : hxv y with
            | none =>
              have ey : hxi y = -1 := by unfold hxi; rw [hy]
              have HV := Hid.mk (h7f (by rintro ⟨_, _, q⟩; rw [hy] at q; exact Bool.noConfusion q))
              clear h6f h7f hx hy x1
              go_enter Tryd.func75, Tryd.ntmps75
              go_wp2_with fail
              go_quiet ((go_at_call 34; exact Calls.quiet_of_same (hex_ix _ _)))
              go_wp2_with fail
              refine bodyPost_ret (results_tmp2 rfl _ _ _) rfl ?_
              exact ⟨by rw [HV.out]; rfl, below_dN (Below.refl _ _) _⟩
            | some b =>
              have ey : hxi y = (b : Int) := by unfold hxi; rw [hy]
              have hb := hxv_lt hy
              have tb : decide ((b : Int) < 0) = false := by simp
              have HV := Hid.mk (h6f ⟨rfl, by rw [hx]; rfl, by rw [hy]; rfl⟩)
              rw [hx, hy] at HV
              simp only [Option.getD_some] at HV
              have ho := or16 ha hb
              have HU : Hid ((((16 * a + b : Nat) : Int)) = ((UInt8.ofNat (16 * a + b)).toNat : Int)) := ⟨(congrArg (fun n : Nat => (n : Int)) (u8n (ab256 ha hb))).symm⟩
              have hw16 : wrap64 ((a : Int) * 16) = (a : Int) * 16 := wr16 ha
              have hb8 : ((16 * a + b : Nat) : Int) % 256 = ((16 * a + b : Nat) : Int) := mod256 (ab256 ha hb)
              generalize 16 * a + b = m at *
              clear h6f h7f hx hy x1
              go_enter Tryd.func75, Tryd.ntmps75
              go_wp2_with fail
              go_quiet ((go_at_call 34; exact Calls.quiet_of_same (hex_ix _ _)))
              go_wp2_with fail
              refine bodyPost_ret (results_tmp2 rfl _ _ _) rfl ?_
              refine ⟨?_, below_dN (Below.refl _ _) _⟩
              rw [HV.out]
              show Ending.returned (.tuple #[.int .u8 _, .int .i64 _]) = _
              rw [← HU.out]
              rfl
        · have HV := Hid.mk (h7f (fun q => h7 q.1))
          have e7 : ((d.toNat : Int) == 120) = false := u8ne (n := 120) (by decide) h7
          have e8 : ((d.toNat : Int) != 120) = true := by rw [bne, e7]; rfl
          clear h7 h6f h7f
          go_enter Tryd.func75, Tryd.ntmps75
          go_wp2_with fail
          refine bodyPost_ret (results_tmp2 rfl _ _ _) rfl ?_
          exact ⟨by rw [HV.out]; rfl, Below.refl _ _⟩
  · have HV := Hid.mk (bOf2 (r := r) (by rintro (q | q | q); exact h1 q; exact h2 q; exact h3 q) h4)
    have d4 : ((c.toNat : Int) == 92) = false := u8ne (n := 92) (by decide) h4
    have d5 : ((c.toNat : Int) != 92) = true := by rw [bne, d4]; rfl
    clear h1 h1' h2 h2' h3 h4
    go_enter Tryd.func75, Tryd.ntmps75
    go_wp2_with fail
    refine bodyPost_ret (results_tmp2 rfl _ _ _) rfl ?_
    exact ⟨by rw [HV.out]; rfl, Below.refl _ _⟩
end Go.Proofs.YtgbkloihclbimaaDoor
