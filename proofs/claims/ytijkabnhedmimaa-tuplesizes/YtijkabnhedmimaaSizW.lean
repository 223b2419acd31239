/- TupleSizes: the walk. -/
import Derived.Test.YtijkabnhedmimaaHead
import Derived.Test.YtijkabnhedmimaaSizeM
namespace Go.Proofs.Ytijkabnhedmimaa
set_option linter.unusedVariables false
set_option linter.unusedSimpArgs false
open Go.RowKit
theorem cText (s : List UInt8) (hs : s.length ≤ 140737488351232) (w : World) : Calls Try.prog 10 #[.slice (some ⟨w.heap.size, 0, none⟩) 1 1] (w.alloc (.cells #[.int .i64 1, str s, .int .i64 0] 27))
    fun e w' => e = .returned (.tuple #[str (1 :: grp s), .int .i64 0]) ∧ Below w.heap.size w w' := by
  have hn : ngr s.length ≤ s.length / 8 + 1 := by unfold ngr; split <;> omega
  refine (write_any [⟨1, s, 0⟩] _ _ 1 (PIn.new w _) (n64_of (by simp)) (by simp [bulk]; omega)).mono ?_
  rintro e w' ⟨rfl, hb⟩
  exact ⟨by rw [wrote_ok (by simp [isP]), wt_cons, wt_nil, List.append_nil]; rfl, ((Below.refl _ _).alloc (Nat.le_refl _) _).trans (hb.mono (by simp))⟩
theorem cNum (k : Int) (c : UInt8) (hk : k = 2 ∧ c = 2 ∨ k = 3 ∧ c = 3) (n : Int) (h1 : -9223372036854775808 ≤ n) (h2 : n ≤ 9223372036854775807) (w : World) : Calls Try.prog 10 #[.slice (some ⟨w.heap.size, 0, none⟩) 1 1] (w.alloc (.cells #[.int .i64 k, .string ⟨#[]⟩, .int .i64 n] 27))
    fun e w' => e = .returned (.tuple #[str (c :: bek 8 (tv k n)), .int .i64 0]) ∧ Below w.heap.size w w' := by
  refine (write_any [⟨k, [], n⟩] _ _ 1 (PIn.new w _) (fun p hp => by simp at hp; subst hp; exact ⟨h1, h2⟩) (by simp [bulk, ngr])).mono ?_
  rintro e w' ⟨rfl, hb⟩
  refine ⟨?_, ((Below.refl _ _).alloc (Nat.le_refl _) _).trans (hb.mono (by simp))⟩
  have hne : ¬ k = 1 := by omega
  have hcc : UInt8.ofNat k.toNat = c := by rcases hk with ⟨rfl, rfl⟩ | ⟨rfl, rfl⟩ <;> rfl
  rw [wrote_ok (by rcases hk with ⟨rfl, rfl⟩ | ⟨rfl, rfl⟩ <;> simp [isP]), wt_cons, wt_nil, List.append_nil]
  simp [ptx, hne, hcc]
theorem xor255 : ∀ a : Nat, a < 256 → a ^^^ (255 - a) = 255 := by decide +kernel
/-- the bytes of a rising number and of the same one falling -/
structure Nums (T : Nat) (X Y : List UInt8) : Prop where
  top : nval (X.drop 1 |>.take 0) = 0
  xor : ∀ j, 1 ≤ j → j < 9 → bits BinOp.xor IntKind.u8 ((X.getD j 0).toNat : Int) ((Y.getD j 0).toNat : Int) = 255
  val : ∀ j, 1 ≤ j → j < 9 → nval ((X.drop 1).take j) = nval ((X.drop 1).take (j - 1)) * 256 + (X.getD j 0).toNat
  small : ∀ j, 1 ≤ j → j < 9 → nval ((X.drop 1).take (j - 1)) < 72057594037927936
  all : nval ((X.drop 1).take 8) = T
theorem numbers (T : Nat) (h : T < 18446744073709551616) : Nums T ((2 : UInt8) :: bek 8 T) ((3 : UInt8) :: bek 8 (18446744073709551615 - T)) := by
  have hs : ∀ (c : UInt8) (l : List UInt8) (j : Nat), 1 ≤ j → (c :: l).getD j 0 = l.getD (j - 1) 0 := by
    intro c l j hj
    obtain ⟨i, rfl⟩ : ∃ i, j = i + 1 := ⟨j - 1, by omega⟩
    rfl
  refine ⟨rfl, ?_, ?_, ?_, ?_⟩
  · intro j h1 h2
    rw [hs _ _ _ h1, hs _ _ _ h1]
    have := bek_not 8 T (j - 1) h (by omega)
    have e : (256 : Nat) ^ 8 - 1 - T = 18446744073709551615 - T := rfl
    rw [e] at this
    generalize (bek 8 T).getD (j - 1) 0 = a at *
    generalize (bek 8 (18446744073709551615 - T)).getD (j - 1) 0 = b at *
    have ha := a.toNat_lt
    have hb : b.toNat = 255 - a.toNat := by omega
    rw [u8_xor_nat _ _ (by omega) (by have := b.toNat_lt; omega), hb, xor255 _ (by omega)]
    rfl
  · intro j h1 h2
    rw [hs _ _ _ h1]
    show nval ((bek 8 T).take j) = nval ((bek 8 T).take (j - 1)) * 256 + _
    have := nval_take (l := bek 8 T) (k := j - 1) (by rw [bek_length]; omega)
    rw [show j - 1 + 1 = j by omega] at this
    exact this
  · intro j h1 h2
    exact nval_small (by omega)
  · show nval ((bek 8 T).take 8) = T
    rw [List.take_of_length_le (by rw [bek_length]; omega)]
    exact nval_bek 8 T h
attribute [local go_sem ↓] Go.wp_at_zero Go.wp_at_succ
attribute [local go_sem ↓] sl9 ix9
set_option maxHeartbeats 2000000 in
set_option maxRecDepth 8000 in
theorem sizes_of (hC : CmpC) (s : List UInt8) (n : Int) (hs : s.length ≤ 140737488351232) (h1 : -9223372036854775808 ≤ n) (h2 : n ≤ 9223372036854775807) (w : World) :
    Calls Try.prog 3 #[str s, .int .i64 n] w fun e w' => e = .returned (.bool true) ∧ Below w.heap.size w w' := by
  go_enter Try.func3, Try.ntmps3
  go_wp2_with fail
  refine (head_of hC _).mono ?_
  rintro e w1 ⟨rfl, hb1⟩
  dsimp only
  go_wp2_with fail
  refine (cText s hs _).mono ?_
  rintro e w2 ⟨rfl, hb2⟩
  dsimp only
  obtain ⟨G, hG⟩ : ∃ G, G = ngr s.length := ⟨_, rfl⟩
  have hBl : (1 :: grp s).length = 1 + 9 * G := by rw [List.length_cons, grp_length, hG]; omega
  have hB0 : (1 :: grp s).getD 0 0 = 1 := rfl
  have hat : Hid (∀ g, g < G → (∀ i, i < 8 → (1 :: grp s).getD (1 + 9 * g + i) 0 = s.getD (8 * g + i) 0) ∧ (1 :: grp s).getD (9 * g + 9) 0 = if g + 1 = G then UInt8.ofNat (s.length - 8 * g) else 9) := by
    constructor
    intro g hg
    rw [hG] at hg
    obtain ⟨a1, a2⟩ := grp_at g s hg
    refine ⟨fun i hi => ?_, ?_⟩
    · rw [← a1 i hi, show 1 + 9 * g + i = (9 * g + i) + 1 by omega]; rfl
    · rw [hG, ← a2, show 9 * g + 9 = (9 * g + 8) + 1 by omega]; rfl
  have hG1 : 1 ≤ G ∧ 8 * G ≤ s.length + 8 ∧ s.length ≤ 8 * G := by rw [hG]; unfold ngr; split <;> omega
  generalize (1 :: grp s : List UInt8) = B at *
  have hx0 : ∀ w, (ixS (str B) (.int .i64 0)).run Try.prog w = .ok (.int .u8 1) w := fun w => by have := run_ix B 0 (by omega) w; rw [hB0] at this; exact this
  have HBl : Hid (B.length = 1 + 9 * G) := ⟨hBl⟩
  have HG : Hid (G = ngr s.length) := ⟨hG⟩
  have hBi : ((B.length : Nat) : Int) = 1 + 9 * (G : Int) := by omega
  by_cases h0 : s = []
  · subst h0
    have hG1' : G = 1 := by rw [hG]; rfl
    subst hG1'
    have hz : ∀ p, p < 9 → B.getD (1 + p) 0 = 0 := by
      intro p hp
      obtain ⟨a1, a2⟩ := hat.out 0 (by omega)
      by_cases h8 : p < 8
      · have := a1 p h8
        rw [show 1 + 9 * 0 + p = 1 + p by omega] at this
        rw [this]; rfl
      · have : p = 8 := by omega
        subst this
        rw [show 1 + 8 = 9 * 0 + 9 by omega, a2]; rfl
    have hxz : ∀ p : Nat, p < 9 → ∀ w, (ixS (str B) (.int .i64 (1 + (p : Int)))).run Try.prog w = .ok (.int .u8 0) w := fun p hp w => by
      have := run_ix B (1 + p) (by omega) w
      rw [hz p hp, show ((1 + p : Nat) : Int) = 1 + (p : Int) by omega] at this
      exact this
    have hx9 : ∀ w, (ixS (str B) (.int .i64 9)).run Try.prog w = .ok (.int .u8 0) w := hxz 8 (by decide)
    have HZ : Hid (∀ p : Nat, p < 9 → ∀ w, (ixS (str B) (.int .i64 (1 + (p : Int)))).run Try.prog w = .ok (.int .u8 0) w) := ⟨hxz⟩
    have hB10 : B.length = 10 := hBl
    clear hG hBl hat hz hxz hBi hB0 HG HBl hG1
    go_wp2_with fail
    clear hx0
    go_loop [8] (fun i => i = .int .i64 0 ∨ i = .int .i64 1) (fun i => 1 - (intOf i).toNat)
    case atStart => exact Or.inl rfl
    case round =>
      rcases hrel with rfl | rfl
      · go_wp2_with fail
        go_loop [9] (fun i => ∃ j : Nat, j ≤ 8 ∧ i = .int .i64 (j : Int)) (fun i => 8 - (intOf i).toNat)
        case atStart => exact ⟨0, by omega, rfl⟩
        case round =>
          obtain ⟨j, hj, rfl⟩ := hrel
          by_cases hjl : j < 8
          · have d2 : decide ((j : Int) < 8) = true := decide_eq_true (by omega)
            have d3 : decide ((j : Int) < 0) = false := decide_eq_false (by omega)
            have hxb := HZ.out j (by omega)
            go_wp2_with fail
            exact ⟨⟨j + 1, by omega, by go_num⟩, by simp [intOf]; omega⟩
          · obtain rfl : j = 8 := by omega
            have d2 : decide ((8 : Int) < 8) = false := by decide
            go_wp2_with fail
            exact ⟨Or.inr rfl, by simp [intOf]⟩
      · clear hx9 HZ
        go_wp2_with fail
        refine (cNum 2 2 (Or.inl ⟨rfl, rfl⟩) n h1 h2 _).mono ?_
        rintro e w3 ⟨rfl, hb3⟩
        dsimp only
        go_wp2_with fail
        refine (cNum 3 3 (Or.inr ⟨rfl, rfl⟩) n h1 h2 _).mono ?_
        rintro e w4 ⟨rfl, hb4⟩
        dsimp only
        have HB : Below w.heap.size w w4 := below_seq (below_seq (below_seq hb1 hb2) hb3) hb4
        clear hb1 hb2 hb3 hb4
        obtain ⟨T, hT⟩ : ∃ T, T = tv 2 n := ⟨_, rfl⟩
        have hTn : (T : Int) = n + 9223372036854775808 := by rw [hT]; unfold tv; rw [if_neg (by decide)]; omega
        have hT3 : tv 3 n = 18446744073709551615 - T := by unfold tv; rw [if_pos rfl]; omega
        have hTlt : T < 18446744073709551616 := by omega
        rw [hT3, ← hT]
        have HN := numbers T hTlt
        have x0 : ∀ w, (ixS (str ((2 : UInt8) :: bek 8 T)) (.int .i64 0)).run Try.prog w = .ok (.int .u8 2) w := run_ix ((2 : UInt8) :: bek 8 T) 0 (by simp)
        have y0 : ∀ w, (ixS (str ((3 : UInt8) :: bek 8 (18446744073709551615 - T))) (.int .i64 0)).run Try.prog w = .ok (.int .u8 3) w := run_ix ((3 : UInt8) :: bek 8 (18446744073709551615 - T)) 0 (by simp)
        have lx : ((2 : UInt8) :: bek 8 T).length = 9 := by rw [List.length_cons, bek_length]
        have ly : ((3 : UInt8) :: bek 8 (18446744073709551615 - T)).length = 9 := by rw [List.length_cons, bek_length]
        have rx := run_ix ((2 : UInt8) :: bek 8 T)
        have ry := run_ix ((3 : UInt8) :: bek 8 (18446744073709551615 - T))
        rw [lx] at rx
        rw [ly] at ry
        generalize ((2 : UInt8) :: bek 8 T) = X at *
        generalize ((3 : UInt8) :: bek 8 (18446744073709551615 - T)) = Y at *
        clear hT hT3
        have RX : Hid (∀ (p : Nat), p < 9 → ∀ (w : World), (ixS (str X) (.int .i64 (p : Int))).run Try.prog w = .ok (.int .u8 ((X.getD p 0).toNat : Int)) w) := ⟨rx⟩
        have RY : Hid (∀ (p : Nat), p < 9 → ∀ (w : World), (ixS (str Y) (.int .i64 (p : Int))).run Try.prog w = .ok (.int .u8 ((Y.getD p 0).toNat : Int)) w) := ⟨ry⟩
        clear rx ry
        go_wp2_with fail
        go_loopw [16, 17] (fun v i wr => ∃ j : Nat, 1 ≤ j ∧ j ≤ 9 ∧ i = .int .i64 (j : Int) ∧ v = .int .u64 (nval ((X.drop 1).take (j - 1)) : Int) ∧ Below w.heap.size w wr) (fun _ i _ => 9 - (intOf i).toNat)
        case atStart => exact ⟨1, by omega, by omega, rfl, rfl, HB⟩
        case round =>
          clear HB
          obtain ⟨j, j1, j9, rfl, rfl, HB⟩ := hrel
          by_cases hj : j < 9
          · have d1 : decide ((j : Int) < 9) = true := decide_eq_true (by omega)
            have q1 := RX.out j hj
            have q2 := RY.out j hj
            have q3 := HN.xor j j1 hj
            have q4 : Hid (nval ((X.drop 1).take (j + 1 - 1)) = nval ((X.drop 1).take (j - 1)) * 256 + (X.getD j 0).toNat) := ⟨HN.val j j1 hj⟩
            have q5 := HN.small j j1 hj
            generalize nval ((X.drop 1).take (j - 1)) = M at *
            have q6 : Hid (bits BinOp.or IntKind.u64 ((M * 256 : Nat) : Int) ((X.getD j 0).toNat : Int) = ((M * 256 + (X.getD j 0).toNat : Nat) : Int)) := ⟨or8 M (X.getD j 0) q5⟩
            generalize X.getD j 0 = cx at *
            generalize Y.getD j 0 = cy at *
            have hcx : cx.toNat < 256 := cx.toNat_lt
            go_wp2_with fail
            go_quiet (fail)
            go_wp2_with fail
            refine ⟨⟨j + 1, by omega, by omega, by go_num, ?_, below_drewN HB nq⟩, by simp [intOf]; omega⟩
            rw [show (M : Int) * 256 = ((M * 256 : Nat) : Int) by omega, q6.out, q4.out]
          · obtain rfl : j = 9 := by omega
            have d1 : decide ((9 : Int) < 9) = false := by decide
            have ha : Hid (nval ((X.drop 1).take (9 - 1)) = T) := ⟨HN.all⟩
            rw [ha.out]
            clear ha
            go_wp2_with fail
            go_ret
            refine ⟨?_, HB⟩
            have : (wrap64 (IntKind.u64.wrap n) == n) = true := by rw [beq_iff_eq, IntKind.wrap_u64]; unfold wrap64; omega
            show Ending.returned (.bool (wrap64 (IntKind.u64.wrap n) == n)) = _
            rw [this]
  · have hq : ((s.length : Int) + 7) / 8 = (G : Int) := by
      have : 0 < s.length := List.length_pos_iff.2 h0
      rw [hG]; unfold ngr; rw [if_neg (by omega)]; omega
    have he : s.isEmpty = false := by cases s with
      | nil => exact absurd rfl h0
      | cons _ _ => rfl
    clear hG h0 hBl
    go_wp2_with fail
    rw [hq]
    clear hq he hBi hx0 hB0
    go_loop [8] (fun i => ∃ g : Nat, g ≤ G ∧ i = .int .i64 (g : Int)) (fun i => G - (intOf i).toNat)
    case atStart => exact ⟨0, by omega, rfl⟩
    case round =>
      obtain ⟨g, hg, rfl⟩ := hrel
      by_cases hgl : g < G
      · have d1 : decide ((g : Int) < (G : Int)) = true := decide_eq_true (by omega)
        obtain ⟨a1, a2⟩ := hat.out g hgl
        have hxn : ∀ w, (ixS (str B) (.int .i64 (9 * (g : Int) + 9))).run Try.prog w = .ok (.int .u8 ((if g + 1 = G then UInt8.ofNat (s.length - 8 * g) else 9 : UInt8).toNat : Int)) w := fun w => by
          have := run_ix B (9 * g + 9) (by have := HBl.out; omega) w
          rw [a2, show ((9 * g + 9 : Nat) : Int) = 9 * (g : Int) + 9 by omega] at this
          exact this
        have hat' : Hid (∀ i, i < 8 → B.getD (1 + 9 * g + i) 0 = s.getD (8 * g + i) 0) := ⟨a1⟩
        clear a1 a2
        go_wp2_with fail
        go_loop [9] (fun i => ∃ j : Nat, j ≤ 8 ∧ i = .int .i64 (j : Int)) (fun i => 8 - (intOf i).toNat)
        case atStart => exact ⟨0, by omega, rfl⟩
        case round =>
          obtain ⟨j, hj, rfl⟩ := hrel
          by_cases hjl : j < 8
          · have d2 : decide ((j : Int) < 8) = true := decide_eq_true (by omega)
            have hxb : ∀ w, (ixS (str B) (.int .i64 (1 + 9 * (g : Int) + (j : Int)))).run Try.prog w = .ok (.int .u8 ((s.getD (8 * g + j) 0).toNat : Int)) w := fun w => by
              have := run_ix B (1 + 9 * g + j) (by have := HBl.out; omega) w
              rw [hat'.out j hjl, show ((1 + 9 * g + j : Nat) : Int) = 1 + 9 * (g : Int) + (j : Int) by omega] at this
              exact this
            by_cases hin : 8 * g + j < s.length
            · have d3 : decide (8 * (g : Int) + (j : Int) < (s.length : Int)) = true := decide_eq_true (by omega)
              have hxs : ∀ w, (ixS (str s) (.int .i64 (8 * (g : Int) + (j : Int)))).run Try.prog w = .ok (.int .u8 ((s.getD (8 * g + j) 0).toNat : Int)) w := fun w => by
                have := run_ix s (8 * g + j) hin w
                rw [show ((8 * g + j : Nat) : Int) = 8 * (g : Int) + (j : Int) by omega] at this
                exact this
              generalize s.getD (8 * g + j) 0 = c at *
              go_wp2_with fail
              exact ⟨⟨j + 1, by omega, by go_num⟩, by simp [intOf]; omega⟩
            · have d3 : decide (8 * (g : Int) + (j : Int) < (s.length : Int)) = false := decide_eq_false (by omega)
              rw [List.getD_eq_getElem?_getD, List.getElem?_eq_none (by omega)] at hxb
              have hxb' : ∀ w, (ixS (str B) (.int .i64 (1 + 9 * (g : Int) + (j : Int)))).run Try.prog w = .ok (.int .u8 0) w := hxb
              clear hxb
              go_wp2_with fail
              exact ⟨⟨j + 1, by omega, by go_num⟩, by simp [intOf]; omega⟩
          · obtain rfl : j = 8 := by omega
            have d2 : decide ((8 : Int) < 8) = false := by decide
            by_cases hlast : g + 1 = G
            · have d4 : ((g : Int) == (G : Int) - 1) = true := by rw [beq_iff_eq]; omega
              rw [if_pos hlast] at hxn
              have hcc : (s.length : Int) - 8 * (g : Int) = ((UInt8.ofNat (s.length - 8 * g)).toNat : Int) := by
                rw [UInt8.toNat_ofNat']; omega
              have hcv : ((s.length : Int) - 8 * (g : Int)) % 256 = (s.length : Int) - 8 * (g : Int) := by omega
              rw [← hcc] at hxn
              have HL : Hid (g + 1 = G) := ⟨hlast⟩
              clear hcc hlast hjl hj hat hat'
              go_wp2_with fail
              exact ⟨⟨g + 1, by omega, by go_num⟩, by simp [intOf]; omega⟩
            · have d4 : ((g : Int) == (G : Int) - 1) = false := by rw [beq_eq_false_iff_ne]; omega
              rw [if_neg hlast] at hxn
              have hxn' : ∀ w, (ixS (str B) (.int .i64 (9 * (g : Int) + 9))).run Try.prog w = .ok (.int .u8 9) w := hxn
              clear hxn hlast hjl hj hat hat'
              go_wp2_with fail
              exact ⟨⟨g + 1, by omega, by go_num⟩, by simp [intOf]; omega⟩
      · obtain rfl : g = G := by omega
        have d1 : decide ((g : Int) < (g : Int)) = false := decide_eq_false (by omega)
        clear hat hg hgl
        go_wp2_with fail
        refine (cNum 2 2 (Or.inl ⟨rfl, rfl⟩) n h1 h2 _).mono ?_
        rintro e w3 ⟨rfl, hb3⟩
        dsimp only
        go_wp2_with fail
        refine (cNum 3 3 (Or.inr ⟨rfl, rfl⟩) n h1 h2 _).mono ?_
        rintro e w4 ⟨rfl, hb4⟩
        dsimp only
        have HB : Below w.heap.size w w4 := below_seq (below_seq (below_seq hb1 hb2) hb3) hb4
        clear hb1 hb2 hb3 hb4
        obtain ⟨T, hT⟩ : ∃ T, T = tv 2 n := ⟨_, rfl⟩
        have hTn : (T : Int) = n + 9223372036854775808 := by rw [hT]; unfold tv; rw [if_neg (by decide)]; omega
        have hT3 : tv 3 n = 18446744073709551615 - T := by unfold tv; rw [if_pos rfl]; omega
        have hTlt : T < 18446744073709551616 := by omega
        rw [hT3, ← hT]
        have HN := numbers T hTlt
        have x0 : ∀ w, (ixS (str ((2 : UInt8) :: bek 8 T)) (.int .i64 0)).run Try.prog w = .ok (.int .u8 2) w := run_ix ((2 : UInt8) :: bek 8 T) 0 (by simp)
        have y0 : ∀ w, (ixS (str ((3 : UInt8) :: bek 8 (18446744073709551615 - T))) (.int .i64 0)).run Try.prog w = .ok (.int .u8 3) w := run_ix ((3 : UInt8) :: bek 8 (18446744073709551615 - T)) 0 (by simp)
        have lx : ((2 : UInt8) :: bek 8 T).length = 9 := by rw [List.length_cons, bek_length]
        have ly : ((3 : UInt8) :: bek 8 (18446744073709551615 - T)).length = 9 := by rw [List.length_cons, bek_length]
        have rx := run_ix ((2 : UInt8) :: bek 8 T)
        have ry := run_ix ((3 : UInt8) :: bek 8 (18446744073709551615 - T))
        rw [lx] at rx
        rw [ly] at ry
        generalize ((2 : UInt8) :: bek 8 T) = X at *
        generalize ((3 : UInt8) :: bek 8 (18446744073709551615 - T)) = Y at *
        clear hT hT3 d1
        have RX : Hid (∀ (p : Nat), p < 9 → ∀ (w : World), (ixS (str X) (.int .i64 (p : Int))).run Try.prog w = .ok (.int .u8 ((X.getD p 0).toNat : Int)) w) := ⟨rx⟩
        have RY : Hid (∀ (p : Nat), p < 9 → ∀ (w : World), (ixS (str Y) (.int .i64 (p : Int))).run Try.prog w = .ok (.int .u8 ((Y.getD p 0).toNat : Int)) w) := ⟨ry⟩
        clear rx ry
        go_wp2_with fail
        go_loopw [16, 17] (fun v i wr => ∃ j : Nat, 1 ≤ j ∧ j ≤ 9 ∧ i = .int .i64 (j : Int) ∧ v = .int .u64 (nval ((X.drop 1).take (j - 1)) : Int) ∧ Below w.heap.size w wr) (fun _ i _ => 9 - (intOf i).toNat)
        case atStart => exact ⟨1, by omega, by omega, rfl, rfl, HB⟩
        case round =>
          clear HB
          obtain ⟨j, j1, j9, rfl, rfl, HB⟩ := hrel
          by_cases hj : j < 9
          · have d1 : decide ((j : Int) < 9) = true := decide_eq_true (by omega)
            have q1 := RX.out j hj
            have q2 := RY.out j hj
            have q3 := HN.xor j j1 hj
            have q4 : Hid (nval ((X.drop 1).take (j + 1 - 1)) = nval ((X.drop 1).take (j - 1)) * 256 + (X.getD j 0).toNat) := ⟨HN.val j j1 hj⟩
            have q5 := HN.small j j1 hj
            generalize nval ((X.drop 1).take (j - 1)) = M at *
            have q6 : Hid (bits BinOp.or IntKind.u64 ((M * 256 : Nat) : Int) ((X.getD j 0).toNat : Int) = ((M * 256 + (X.getD j 0).toNat : Nat) : Int)) := ⟨or8 M (X.getD j 0) q5⟩
            generalize X.getD j 0 = cx at *
            generalize Y.getD j 0 = cy at *
            have hcx : cx.toNat < 256 := cx.toNat_lt
            go_wp2_with fail
            go_quiet (fail)
            go_wp2_with fail
            refine ⟨⟨j + 1, by omega, by omega, by go_num, ?_, below_drewN HB nq⟩, by simp [intOf]; omega⟩
            rw [show (M : Int) * 256 = ((M * 256 : Nat) : Int) by omega, q6.out, q4.out]
          · obtain rfl : j = 9 := by omega
            have d1 : decide ((9 : Int) < 9) = false := by decide
            have ha : Hid (nval ((X.drop 1).take (9 - 1)) = T) := ⟨HN.all⟩
            rw [ha.out]
            clear ha
            go_wp2_with fail
            go_ret
            refine ⟨?_, HB⟩
            have : (wrap64 (IntKind.u64.wrap n) == n) = true := by rw [beq_iff_eq, IntKind.wrap_u64]; unfold wrap64; omega
            show Ending.returned (.bool (wrap64 (IntKind.u64.wrap n) == n)) = _
            rw [this]
end Go.Proofs.Ytijkabnhedmimaa
