/- VersionBack: the walk. -/
import Derived.Test.YtahdndmmakdamaaBkm
namespace Go.Proofs.Ytahdndmmakdamaa
set_option linter.unusedVariables false
set_option linter.unusedSimpArgs false
open Go.RowKit
attribute [local go_sem ↓] Go.wp_at_zero Go.wp_at_succ
attribute [local go_sem ↓] sl9 ix9 ad9
set_option maxRecDepth 100000 in
set_option maxHeartbeats 8000000 in
theorem versionBack_walk (key : List UInt8) (seq : Int) (mkr : Bool) (data : List UInt8) (a : Option Addr) (cap : Nat) (l : List En) (key' : List UInt8) (seq' : Int) (mkr' : Bool) (data' : List UInt8) (a' : Option Addr) (cap' : Nat) (l' : List En) (text : List UInt8) (W : World) (hV : VIn W key data a cap l) (hU : VIn W key' data' a' cap' l') (ht : text.length ≤ 140737488351232) :
    Calls Try.prog 3 #[vv key seq mkr data a l.length cap, vv key' seq' mkr' data' a' l'.length cap', str text] W fun e W' => e = .returned (.bool true) ∧ Below W.heap.size W W' := by
  have hP := hV.p
  have hl := hV.l
  have hP' := hU.p
  have hl' := hU.l
  have b1 := (Below.refl W.heap.size W).alloc (Nat.le_refl _) (.cells #[str key, .int .i64 seq, .bool mkr, str data, .slice a l.length cap] 24)
  have v0 := Bv.new W (str key) (.int .i64 seq) (.bool mkr) (str data) (.slice a l.length cap)
  have b2 := (Below.refl (W.heap.size + 1) (W.alloc (.cells #[str key, .int .i64 seq, .bool mkr, str data, .slice a l.length cap] 24))).alloc (by simp) (.cells #[str key', .int .i64 seq', .bool mkr', str data', .slice a' l'.length cap'] 24)
  have v1 := v0.later (by rw [World.size_alloc]; exact b2)
  have u1 : Bv ((W.alloc (.cells #[str key, .int .i64 seq, .bool mkr, str data, .slice a l.length cap] 24)).alloc (.cells #[str key', .int .i64 seq', .bool mkr', str data', .slice a' l'.length cap'] 24)) (W.heap.size + 1) (str key') (.int .i64 seq') (.bool mkr') (str data') (.slice a' l'.length cap') := by
    have := Bv.new (W.alloc (.cells #[str key, .int .i64 seq, .bool mkr, str data, .slice a l.length cap] 24)) (str key') (.int .i64 seq') (.bool mkr') (str data') (.slice a' l'.length cap')
    rw [World.size_alloc] at this
    exact this
  have B1 := b1.trans (b2.mono (by omega))
  clear v0 b1 b2 hV hU
  obtain ⟨E, hE⟩ : ∃ E, E = rtE ⟨key, seq, mkr, data, l⟩ := ⟨_, rfl⟩
  obtain ⟨F, hF⟩ : ∃ F, F = rtE ⟨key', seq', mkr', data', l'⟩ := ⟨_, rfl⟩
  obtain ⟨A, hA⟩ : ∃ A, A = if rtE ⟨key, seq, mkr, data, l⟩ = 0 then enc ⟨key, seq, mkr, data, l⟩ else [] := ⟨_, rfl⟩
  obtain ⟨B, hB⟩ : ∃ B, B = if rtE ⟨key', seq', mkr', data', l'⟩ = 0 then enc ⟨key', seq', mkr', data', l'⟩ else [] := ⟨_, rfl⟩
  have hwv : ∀ w, PIn w a l → Calls Try.prog 8 #[vv key seq mkr data a l.length cap] w fun e w' => e = .returned (.tuple #[str A, .int .i64 E]) ∧ Below w.heap.size w w' := fun w h => by rw [hA, hE]; exact write_any ⟨key, seq, mkr, data, l⟩ w a l.length cap rfl h (by simp only; omega)
  have hwu : ∀ w, PIn w a' l' → Calls Try.prog 8 #[vv key' seq' mkr' data' a' l'.length cap'] w fun e w' => e = .returned (.tuple #[str B, .int .i64 F]) ∧ Below w.heap.size w w' := fun w h => by rw [hB, hF]; exact write_any ⟨key', seq', mkr', data', l'⟩ w a' l'.length cap' rfl h (by simp only; omega)
  have HA0 : Hid (¬ E = 0 → A = []) := ⟨fun h => by rw [hA, if_neg (by rw [← hE]; exact h)]⟩
  have HB0 : Hid (¬ F = 0 → B = []) := ⟨fun h => by rw [hB, if_neg (by rw [← hF]; exact h)]⟩
  have HA1 : Hid (E = 0 → rtE ⟨key, seq, mkr, data, l⟩ = 0 ∧ A = enc ⟨key, seq, mkr, data, l⟩) := ⟨fun h => by have h2 := hE.symm.trans h; exact ⟨h2, by rw [hA, if_pos h2]⟩⟩
  have HB1 : Hid (F = 0 → rtE ⟨key', seq', mkr', data', l'⟩ = 0 ∧ B = enc ⟨key', seq', mkr', data', l'⟩) := ⟨fun h => by have h2 := hF.symm.trans h; exact ⟨h2, by rw [hB, if_pos h2]⟩⟩
  clear hA hB hE hF
  have hft := fun w => first_any w
  go_enter Try.func3, Try.ntmps3
  go_wp2_with fail
  generalize (W.alloc (.cells #[str key, .int .i64 seq, .bool mkr, str data, .slice a l.length cap] 24)).alloc (.cells #[str key', .int .i64 seq', .bool mkr', str data', .slice a' l'.length cap'] 24) = W1 at *
  with_reducible refine Calls.mono (hwv _ (hP.later B1)) ?_
  rintro e w2 ⟨rfl, b2⟩
  dsimp only
  have B2 := B1.trans (b2.mono B1.size)
  have v2 := v1.later b2
  have u2 := u1.later b2
  obtain ⟨y0, y1, y2, y3, y4, _⟩ := u2.cells
  clear hwv v1 u1 b2 B1
  go_wp2_with fail
  with_reducible refine Calls.mono (hwu _ (hP'.later B2)) ?_
  rintro e w3 ⟨rfl, b3⟩
  dsimp only
  have B3 := B2.trans (b3.mono B2.size)
  have v3 := v2.later b3
  have u3 := u2.later b3
  clear hwu v2 u2 b3 B2 y0 y1 y2 y3 y4
  go_wp2_with fail
  with_reducible refine Calls.mono (hft _) ?_
  rintro e w4 ⟨rfl, b4⟩
  dsimp only
  have B4 := B3.trans (b4.mono B3.size)
  have v4 := v3.later b4
  have u4 := u3.later b4
  clear hft v3 u3 b4 B3
  by_cases hE : E = 0
  · by_cases hF : F = 0
    · obtain ⟨fr, fb⟩ := HB1.out hF
      have FR := Hid.mk fr
      have FB := Hid.mk fb
      clear fr fb
      obtain ⟨er, ea⟩ := HA1.out hE
      subst hE
      have el := enc_len (rt_of er)
      rw [← ea] at el
      obtain ⟨el1, el2⟩ := el
      have hra : ∀ w, Calls Try.prog 10 #[str A] w fun e w' => ∃ a2 cap2, e = .returned (.tuple #[vv key seq mkr data a2 l.length cap2, .int .i64 0]) ∧ Ow w.heap.size w' (.slice a2 l.length cap2) l ∧ Below w.heap.size w w' := fun w => read_some (v := ⟨key, seq, mkr, data, l⟩) (by rw [ea]; exact rdV_enc er) (by omega) w
      have hrb : ∀ w, Calls Try.prog 10 #[str (A ++ [0])] w fun e w' => e = .returned (.tuple #[vv [] 0 false [] none 0 0, .int .i64 4]) ∧ Below w.heap.size w w' := read_none (by rw [ea]; exact rdV_more er 0 []) (by rw [List.length_append]; simp; omega)
      have hrc : ∀ w, Calls Try.prog 10 #[str (A.take (A.length - 1))] w fun e w' => e = .returned (.tuple #[vv [] 0 false [] none 0 0, .int .i64 4]) ∧ Below w.heap.size w w' := read_none (by rw [ea]; rw [ea] at el1; exact rdV_fewer er (by omega)) (by rw [List.length_take]; omega)
      have had : ∀ w, (adS (str A) (.string ⟨#[0]⟩)).run Try.prog w = .ok (str (A ++ [0])) w := fun w => run_ad A [0] (by simp; omega) w
      have hsl : ∀ w, (slS (str A) none (some (.int .i64 ((A.length : Int) - 1))) none).run Try.prog w = .ok (str (A.take (A.length - 1))) w := fun w => by
        have := run_hi A (A.length - 1) (by omega) (by omega) w
        rw [show ((A.length - 1 : Nat) : Int) = (A.length : Int) - 1 by omega] at this
        exact this
      have hsx : ∀ w a2 cap2, PIn w a2 l → PIn w a l → Calls Try.prog 11 #[vv key seq mkr data a2 l.length cap2, vv key seq mkr data a l.length cap] w fun e w' => e = .returned (.bool true) ∧ Below w.heap.size w w' := fun w a2 cap2 h1 h2 => by
        have := same_any ⟨key, seq, mkr, data, l⟩ ⟨key, seq, mkr, data, l⟩ w a2 l.length cap2 rfl h1 (by simp only; omega) a l.length cap rfl h2 (by simp only; omega)
        rw [sv_true rfl] at this
        exact this
      have EA := Hid.mk ea
      have ER := Hid.mk er
      clear ea er HA0 HA1
      subst hF
      generalize A ++ [0] = A1 at *
      generalize A.take (A.length - 1) = A2 at *
      go_wp2_with fail
      with_reducible refine Calls.mono (hra _) ?_
      rintro e w5 ⟨a5, c5, rfl, o5, b5⟩
      dsimp only
      have bx := (Below.refl w5.heap.size w5).alloc (Nat.le_refl _) (.cells #[str key, .int .i64 seq, .bool mkr, str data, .slice a5 l.length c5] 24)
      have x6 := Bv.new w5 (str key) (.int .i64 seq) (.bool mkr) (str data) (.slice a5 l.length c5)
      have b46 := below_seq b5 bx
      have B6 := B4.trans (b46.mono B4.size)
      have v6 := v4.later b46
      have u6 := u4.later b46
      have p6 := o5.asSl.at'.later bx
      clear hra b5 bx b46 B4 v4 u4 o5
      go_wp2_with fail
      generalize w5.alloc (.cells #[str key, .int .i64 seq, .bool mkr, str data, .slice a5 l.length c5] 24) = W6 at *
      generalize w5.heap.size = gx at *
      with_reducible refine Calls.mono (hrb _) ?_
      rintro e w7 ⟨rfl, b7⟩
      dsimp only
      have bx := (Below.refl w7.heap.size w7).alloc (Nat.le_refl _) (.cells #[.string ⟨#[]⟩, .int .i64 0, .bool false, .string ⟨#[]⟩, .slice none 0 0] 24)
      have b68 := below_seq b7 bx
      have B8 := B6.trans (b68.mono B6.size)
      have v8 := v6.later b68
      have u8 := u6.later b68
      have x8 := x6.later b68
      have p8 := p6.later b68
      clear hrb b7 bx b68 B6 v6 u6 x6 p6
      go_wp2_with fail
      generalize w7.alloc (.cells #[.string ⟨#[]⟩, .int .i64 0, .bool false, .string ⟨#[]⟩, .slice none 0 0] 24) = W8 at *
      with_reducible refine Calls.mono (hrc _) ?_
      rintro e w9 ⟨rfl, b9⟩
      dsimp only
      have bx := (Below.refl w9.heap.size w9).alloc (Nat.le_refl _) (.cells #[.string ⟨#[]⟩, .int .i64 0, .bool false, .string ⟨#[]⟩, .slice none 0 0] 24)
      have b810 := below_seq b9 bx
      have B10 := B8.trans (b810.mono B8.size)
      have v10 := v8.later b810
      have u10 := u8.later b810
      have x10 := x8.later b810
      have p10 := p8.later b810
      clear hrc b9 bx b810 B8 v8 u8 x8 p8
      obtain ⟨x0, x1, x2, x3, x4, _⟩ := x10.cells
      obtain ⟨y0, y1, y2, y3, y4, _⟩ := v10.cells
      go_wp2_with fail
      generalize w9.alloc (.cells #[.string ⟨#[]⟩, .int .i64 0, .bool false, .string ⟨#[]⟩, .slice none 0 0] 24) = W10 at *
      with_reducible refine Calls.mono (hsx _ _ _ p10 (hP.later B10)) ?_
      rintro e w11 ⟨rfl, b11⟩
      dsimp only
      have B11 := B10.trans (b11.mono B10.size)
      have v11 := v10.later b11
      have u11 := u10.later b11
      clear hsx x0 x1 x2 x3 x4 y0 y1 y2 y3 y4 b11 B10 v10 u10 x10 p10 hsl had
      by_cases hvu : (⟨key, seq, mkr, data, l⟩ : Vs) = ⟨key', seq', mkr', data', l'⟩
      · have hsv : ∀ w, PIn w a l → PIn w a' l' → Calls Try.prog 11 #[vv key seq mkr data a l.length cap, vv key' seq' mkr' data' a' l'.length cap'] w fun e w' => e = .returned (.bool true) ∧ Below w.heap.size w w' := fun w h1 h2 => by
          have := same_any ⟨key, seq, mkr, data, l⟩ ⟨key', seq', mkr', data', l'⟩ w a l.length cap rfl h1 (by simp only; omega) a' l'.length cap' rfl h2 (by simp only; omega)
          rw [sv_true hvu] at this
          exact this
        obtain ⟨x0, x1, x2, x3, x4, _⟩ := v11.cells
        obtain ⟨y0, y1, y2, y3, y4, _⟩ := u11.cells
        go_wp2_with fail
        with_reducible refine Calls.mono (hsv _ (hP.later B11) (hP'.later B11)) ?_
        rintro e w12 ⟨rfl, b12⟩
        dsimp only
        have B12 := B11.trans (b12.mono B11.size)
        clear hsv x0 x1 x2 x3 x4 y0 y1 y2 y3 y4 b12 B11 v11 u11
        clear FR FB hvu EA ER HB0 HB1
        have hR0 : text.length ≤ 9223372036854775807 := by omega
        cases hR : rdV text with
        | none =>
          have hr1 := read_none hR hR0
          go_wp2_with fail
          with_reducible refine Calls.mono (hr1 _) ?_
          rintro e wa ⟨rfl, ba⟩
          dsimp only
          have BA := B12.trans (ba.mono B12.size)
          have xa := Bv.new wa (.string ⟨#[]⟩) (.int .i64 0) (.bool false) (.string ⟨#[]⟩) (.slice none 0 0)
          have BB := BA.alloc BA.size (.cells #[.string ⟨#[]⟩, .int .i64 0, .bool false, .string ⟨#[]⟩, .slice none 0 0] 24)
          have hsm : ∀ w, Calls Try.prog 11 #[vv [] 0 false [] none 0 0, vv [] 0 false [] none 0 0] w fun e w' => e = .returned (.bool true) ∧ Below w.heap.size w w' := fun w => by
            have := same_any ⟨[], 0, false, [], []⟩ ⟨[], 0, false, [], []⟩ w none 0 0 rfl ⟨fun k p hk => by simp at hk⟩ (by simp) none 0 0 rfl ⟨fun k p hk => by simp at hk⟩ (by simp)
            rw [sv_true rfl] at this
            exact this
          clear hr1 ba BA hR
          go_wp2_with fail
          generalize wa.alloc (.cells #[.string ⟨#[]⟩, .int .i64 0, .bool false, .string ⟨#[]⟩, .slice none 0 0] 24) = wb at *
          with_reducible refine Calls.mono (hsm _) ?_
          rintro e wc ⟨rfl, bc⟩
          dsimp only
          go_wp2_with fail
          go_ret
          exact ⟨rfl, BB.trans (bc.mono BB.size)⟩
        | some X =>
          obtain ⟨xr, xe⟩ := rdV_some hR
          have hr1 := read_some hR hR0
          obtain ⟨xk, xs, xm, xd, xl⟩ := X
          have hx : ∀ w a cap, PIn w a xl → Calls Try.prog 8 #[vv xk xs xm xd a xl.length cap] w fun e w' => e = .returned (.tuple #[str text, .int .i64 0]) ∧ Below w.heap.size w w' := fun w a cap h => by
            have := write_some xr w a xl.length cap rfl h
            rw [xe] at this
            exact this
          simp only at hr1
          clear xr xe hR
          go_wp2_with fail
          with_reducible refine Calls.mono (hr1 _) ?_
          rintro e wa ⟨aa, ca, rfl, oa, ba⟩
          dsimp only
          have BA := B12.trans (ba.mono B12.size)
          have bz := (Below.refl wa.heap.size wa).alloc (Nat.le_refl _) (.cells #[str xk, .int .i64 xs, .bool xm, str xd, .slice aa xl.length ca] 24)
          have BB := BA.trans (bz.mono BA.size)
          have pb := oa.asSl.at'.later bz
          clear hr1 ba BA oa bz
          go_wp2_with fail
          generalize wa.alloc (.cells #[str xk, .int .i64 xs, .bool xm, str xd, .slice aa xl.length ca] 24) = wb at *
          with_reducible refine Calls.mono (hx _ _ _ pb) ?_
          rintro e wc ⟨rfl, bc⟩
          dsimp only
          go_wp2_with fail
          go_ret
          exact ⟨rfl, BB.trans (bc.mono BB.size)⟩
      · have hsv : ∀ w, PIn w a l → PIn w a' l' → Calls Try.prog 11 #[vv key seq mkr data a l.length cap, vv key' seq' mkr' data' a' l'.length cap'] w fun e w' => e = .returned (.bool false) ∧ Below w.heap.size w w' := fun w h1 h2 => by
          have := same_any ⟨key, seq, mkr, data, l⟩ ⟨key', seq', mkr', data', l'⟩ w a l.length cap rfl h1 (by simp only; omega) a' l'.length cap' rfl h2 (by simp only; omega)
          rw [sv_false hvu] at this
          exact this
        obtain ⟨x0, x1, x2, x3, x4, _⟩ := v11.cells
        obtain ⟨y0, y1, y2, y3, y4, _⟩ := u11.cells
        go_wp2_with fail
        with_reducible refine Calls.mono (hsv _ (hP.later B11) (hP'.later B11)) ?_
        rintro e w12 ⟨rfl, b12⟩
        dsimp only
        have B12 := B11.trans (b12.mono B11.size)
        clear hsv x0 x1 x2 x3 x4 y0 y1 y2 y3 y4 b12 B11 v11 u11
        have hle : A.length ≤ B.length → (B.take A.length == A) = false := fun h => by
          rw [beq_eq_false_iff_ne, EA.out, FB.out]
          rw [EA.out, FB.out] at h
          exact enc_pre ER.out FR.out hvu h
        have hge : B.length ≤ A.length → (A.take B.length == B) = false := fun h => by
          rw [beq_eq_false_iff_ne, EA.out, FB.out]
          rw [EA.out, FB.out] at h
          exact enc_pre FR.out ER.out (fun q => hvu q.symm) h
        have hl3 := (enc_len (rt_of FR.out)).2
        rw [← FB.out] at hl3
        clear FR FB hvu EA ER HB0 HB1
        rcases Nat.lt_trichotomy A.length B.length with hlt | hlt | hlt
        · have q1 := hle (by omega)
          have d1 : decide ((A.length : Int) ≤ (B.length : Int)) = true := decide_eq_true (by omega)
          have e1 : decide (A.length ≤ B.length) = true := decide_eq_true (by omega)
          have d2 : decide ((B.length : Int) ≤ (A.length : Int)) = false := decide_eq_false (by omega)
          have e2 : decide (B.length ≤ A.length) = false := decide_eq_false (by omega)
          have r1 := run_hi B A.length (by omega) (by omega)
          have hlH := Hid.mk hlt
          clear hle hge hlt
          have hR0 : text.length ≤ 9223372036854775807 := by omega
          cases hR : rdV text with
          | none =>
            have hr1 := read_none hR hR0
            go_wp2_with fail
            with_reducible refine Calls.mono (hr1 _) ?_
            rintro e wa ⟨rfl, ba⟩
            dsimp only
            have BA := B12.trans (ba.mono B12.size)
            have xa := Bv.new wa (.string ⟨#[]⟩) (.int .i64 0) (.bool false) (.string ⟨#[]⟩) (.slice none 0 0)
            have BB := BA.alloc BA.size (.cells #[.string ⟨#[]⟩, .int .i64 0, .bool false, .string ⟨#[]⟩, .slice none 0 0] 24)
            have hsm : ∀ w, Calls Try.prog 11 #[vv [] 0 false [] none 0 0, vv [] 0 false [] none 0 0] w fun e w' => e = .returned (.bool true) ∧ Below w.heap.size w w' := fun w => by
              have := same_any ⟨[], 0, false, [], []⟩ ⟨[], 0, false, [], []⟩ w none 0 0 rfl ⟨fun k p hk => by simp at hk⟩ (by simp) none 0 0 rfl ⟨fun k p hk => by simp at hk⟩ (by simp)
              rw [sv_true rfl] at this
              exact this
            clear hr1 ba BA hR
            go_wp2_with fail
            generalize wa.alloc (.cells #[.string ⟨#[]⟩, .int .i64 0, .bool false, .string ⟨#[]⟩, .slice none 0 0] 24) = wb at *
            with_reducible refine Calls.mono (hsm _) ?_
            rintro e wc ⟨rfl, bc⟩
            dsimp only
            go_wp2_with fail
            go_ret
            exact ⟨rfl, BB.trans (bc.mono BB.size)⟩
          | some X =>
            obtain ⟨xr, xe⟩ := rdV_some hR
            have hr1 := read_some hR hR0
            obtain ⟨xk, xs, xm, xd, xl⟩ := X
            have hx : ∀ w a cap, PIn w a xl → Calls Try.prog 8 #[vv xk xs xm xd a xl.length cap] w fun e w' => e = .returned (.tuple #[str text, .int .i64 0]) ∧ Below w.heap.size w w' := fun w a cap h => by
              have := write_some xr w a xl.length cap rfl h
              rw [xe] at this
              exact this
            simp only at hr1
            clear xr xe hR
            go_wp2_with fail
            with_reducible refine Calls.mono (hr1 _) ?_
            rintro e wa ⟨aa, ca, rfl, oa, ba⟩
            dsimp only
            have BA := B12.trans (ba.mono B12.size)
            have bz := (Below.refl wa.heap.size wa).alloc (Nat.le_refl _) (.cells #[str xk, .int .i64 xs, .bool xm, str xd, .slice aa xl.length ca] 24)
            have BB := BA.trans (bz.mono BA.size)
            have pb := oa.asSl.at'.later bz
            clear hr1 ba BA oa bz
            go_wp2_with fail
            generalize wa.alloc (.cells #[str xk, .int .i64 xs, .bool xm, str xd, .slice aa xl.length ca] 24) = wb at *
            with_reducible refine Calls.mono (hx _ _ _ pb) ?_
            rintro e wc ⟨rfl, bc⟩
            dsimp only
            go_wp2_with fail
            go_ret
            exact ⟨rfl, BB.trans (bc.mono BB.size)⟩
        · have q1 := hle (by omega)
          have q2 := hge (by omega)
          have d1 : decide ((A.length : Int) ≤ (B.length : Int)) = true := decide_eq_true (by omega)
          have e1 : decide (A.length ≤ B.length) = true := decide_eq_true (by omega)
          have d2 : decide ((B.length : Int) ≤ (A.length : Int)) = true := decide_eq_true (by omega)
          have e2 : decide (B.length ≤ A.length) = true := decide_eq_true (by omega)
          have r1 := run_hi B A.length (by omega) (by omega)
          have r2 := run_hi A B.length (by omega) (by omega)
          have hlH := Hid.mk hlt
          clear hle hge hlt
          have hR0 : text.length ≤ 9223372036854775807 := by omega
          cases hR : rdV text with
          | none =>
            have hr1 := read_none hR hR0
            go_wp2_with fail
            with_reducible refine Calls.mono (hr1 _) ?_
            rintro e wa ⟨rfl, ba⟩
            dsimp only
            have BA := B12.trans (ba.mono B12.size)
            have xa := Bv.new wa (.string ⟨#[]⟩) (.int .i64 0) (.bool false) (.string ⟨#[]⟩) (.slice none 0 0)
            have BB := BA.alloc BA.size (.cells #[.string ⟨#[]⟩, .int .i64 0, .bool false, .string ⟨#[]⟩, .slice none 0 0] 24)
            have hsm : ∀ w, Calls Try.prog 11 #[vv [] 0 false [] none 0 0, vv [] 0 false [] none 0 0] w fun e w' => e = .returned (.bool true) ∧ Below w.heap.size w w' := fun w => by
              have := same_any ⟨[], 0, false, [], []⟩ ⟨[], 0, false, [], []⟩ w none 0 0 rfl ⟨fun k p hk => by simp at hk⟩ (by simp) none 0 0 rfl ⟨fun k p hk => by simp at hk⟩ (by simp)
              rw [sv_true rfl] at this
              exact this
            clear hr1 ba BA hR
            go_wp2_with fail
            generalize wa.alloc (.cells #[.string ⟨#[]⟩, .int .i64 0, .bool false, .string ⟨#[]⟩, .slice none 0 0] 24) = wb at *
            with_reducible refine Calls.mono (hsm _) ?_
            rintro e wc ⟨rfl, bc⟩
            dsimp only
            go_wp2_with fail
            go_ret
            exact ⟨rfl, BB.trans (bc.mono BB.size)⟩
          | some X =>
            obtain ⟨xr, xe⟩ := rdV_some hR
            have hr1 := read_some hR hR0
            obtain ⟨xk, xs, xm, xd, xl⟩ := X
            have hx : ∀ w a cap, PIn w a xl → Calls Try.prog 8 #[vv xk xs xm xd a xl.length cap] w fun e w' => e = .returned (.tuple #[str text, .int .i64 0]) ∧ Below w.heap.size w w' := fun w a cap h => by
              have := write_some xr w a xl.length cap rfl h
              rw [xe] at this
              exact this
            simp only at hr1
            clear xr xe hR
            go_wp2_with fail
            with_reducible refine Calls.mono (hr1 _) ?_
            rintro e wa ⟨aa, ca, rfl, oa, ba⟩
            dsimp only
            have BA := B12.trans (ba.mono B12.size)
            have bz := (Below.refl wa.heap.size wa).alloc (Nat.le_refl _) (.cells #[str xk, .int .i64 xs, .bool xm, str xd, .slice aa xl.length ca] 24)
            have BB := BA.trans (bz.mono BA.size)
            have pb := oa.asSl.at'.later bz
            clear hr1 ba BA oa bz
            go_wp2_with fail
            generalize wa.alloc (.cells #[str xk, .int .i64 xs, .bool xm, str xd, .slice aa xl.length ca] 24) = wb at *
            with_reducible refine Calls.mono (hx _ _ _ pb) ?_
            rintro e wc ⟨rfl, bc⟩
            dsimp only
            go_wp2_with fail
            go_ret
            exact ⟨rfl, BB.trans (bc.mono BB.size)⟩
        · have q2 := hge (by omega)
          have d1 : decide ((A.length : Int) ≤ (B.length : Int)) = false := decide_eq_false (by omega)
          have e1 : decide (A.length ≤ B.length) = false := decide_eq_false (by omega)
          have d2 : decide ((B.length : Int) ≤ (A.length : Int)) = true := decide_eq_true (by omega)
          have e2 : decide (B.length ≤ A.length) = true := decide_eq_true (by omega)
          have r2 := run_hi A B.length (by omega) (by omega)
          have hlH := Hid.mk hlt
          clear hle hge hlt
          have hR0 : text.length ≤ 9223372036854775807 := by omega
          cases hR : rdV text with
          | none =>
            have hr1 := read_none hR hR0
            go_wp2_with fail
            with_reducible refine Calls.mono (hr1 _) ?_
            rintro e wa ⟨rfl, ba⟩
            dsimp only
            have BA := B12.trans (ba.mono B12.size)
            have xa := Bv.new wa (.string ⟨#[]⟩) (.int .i64 0) (.bool false) (.string ⟨#[]⟩) (.slice none 0 0)
            have BB := BA.alloc BA.size (.cells #[.string ⟨#[]⟩, .int .i64 0, .bool false, .string ⟨#[]⟩, .slice none 0 0] 24)
            have hsm : ∀ w, Calls Try.prog 11 #[vv [] 0 false [] none 0 0, vv [] 0 false [] none 0 0] w fun e w' => e = .returned (.bool true) ∧ Below w.heap.size w w' := fun w => by
              have := same_any ⟨[], 0, false, [], []⟩ ⟨[], 0, false, [], []⟩ w none 0 0 rfl ⟨fun k p hk => by simp at hk⟩ (by simp) none 0 0 rfl ⟨fun k p hk => by simp at hk⟩ (by simp)
              rw [sv_true rfl] at this
              exact this
            clear hr1 ba BA hR
            go_wp2_with fail
            generalize wa.alloc (.cells #[.string ⟨#[]⟩, .int .i64 0, .bool false, .string ⟨#[]⟩, .slice none 0 0] 24) = wb at *
            with_reducible refine Calls.mono (hsm _) ?_
            rintro e wc ⟨rfl, bc⟩
            dsimp only
            go_wp2_with fail
            go_ret
            exact ⟨rfl, BB.trans (bc.mono BB.size)⟩
          | some X =>
            obtain ⟨xr, xe⟩ := rdV_some hR
            have hr1 := read_some hR hR0
            obtain ⟨xk, xs, xm, xd, xl⟩ := X
            have hx : ∀ w a cap, PIn w a xl → Calls Try.prog 8 #[vv xk xs xm xd a xl.length cap] w fun e w' => e = .returned (.tuple #[str text, .int .i64 0]) ∧ Below w.heap.size w w' := fun w a cap h => by
              have := write_some xr w a xl.length cap rfl h
              rw [xe] at this
              exact this
            simp only at hr1
            clear xr xe hR
            go_wp2_with fail
            with_reducible refine Calls.mono (hr1 _) ?_
            rintro e wa ⟨aa, ca, rfl, oa, ba⟩
            dsimp only
            have BA := B12.trans (ba.mono B12.size)
            have bz := (Below.refl wa.heap.size wa).alloc (Nat.le_refl _) (.cells #[str xk, .int .i64 xs, .bool xm, str xd, .slice aa xl.length ca] 24)
            have BB := BA.trans (bz.mono BA.size)
            have pb := oa.asSl.at'.later bz
            clear hr1 ba BA oa bz
            go_wp2_with fail
            generalize wa.alloc (.cells #[str xk, .int .i64 xs, .bool xm, str xd, .slice aa xl.length ca] 24) = wb at *
            with_reducible refine Calls.mono (hx _ _ _ pb) ?_
            rintro e wc ⟨rfl, bc⟩
            dsimp only
            go_wp2_with fail
            go_ret
            exact ⟨rfl, BB.trans (bc.mono BB.size)⟩
    · have hF1 : (F == 0) = false := by rw [beq_eq_false_iff_ne]; exact hF
      obtain rfl := HB0.out hF
      obtain ⟨er, ea⟩ := HA1.out hE
      subst hE
      have el := enc_len (rt_of er)
      rw [← ea] at el
      obtain ⟨el1, el2⟩ := el
      have hra : ∀ w, Calls Try.prog 10 #[str A] w fun e w' => ∃ a2 cap2, e = .returned (.tuple #[vv key seq mkr data a2 l.length cap2, .int .i64 0]) ∧ Ow w.heap.size w' (.slice a2 l.length cap2) l ∧ Below w.heap.size w w' := fun w => read_some (v := ⟨key, seq, mkr, data, l⟩) (by rw [ea]; exact rdV_enc er) (by omega) w
      have hrb : ∀ w, Calls Try.prog 10 #[str (A ++ [0])] w fun e w' => e = .returned (.tuple #[vv [] 0 false [] none 0 0, .int .i64 4]) ∧ Below w.heap.size w w' := read_none (by rw [ea]; exact rdV_more er 0 []) (by rw [List.length_append]; simp; omega)
      have hrc : ∀ w, Calls Try.prog 10 #[str (A.take (A.length - 1))] w fun e w' => e = .returned (.tuple #[vv [] 0 false [] none 0 0, .int .i64 4]) ∧ Below w.heap.size w w' := read_none (by rw [ea]; rw [ea] at el1; exact rdV_fewer er (by omega)) (by rw [List.length_take]; omega)
      have had : ∀ w, (adS (str A) (.string ⟨#[0]⟩)).run Try.prog w = .ok (str (A ++ [0])) w := fun w => run_ad A [0] (by simp; omega) w
      have hsl : ∀ w, (slS (str A) none (some (.int .i64 ((A.length : Int) - 1))) none).run Try.prog w = .ok (str (A.take (A.length - 1))) w := fun w => by
        have := run_hi A (A.length - 1) (by omega) (by omega) w
        rw [show ((A.length - 1 : Nat) : Int) = (A.length : Int) - 1 by omega] at this
        exact this
      have hsx : ∀ w a2 cap2, PIn w a2 l → PIn w a l → Calls Try.prog 11 #[vv key seq mkr data a2 l.length cap2, vv key seq mkr data a l.length cap] w fun e w' => e = .returned (.bool true) ∧ Below w.heap.size w w' := fun w a2 cap2 h1 h2 => by
        have := same_any ⟨key, seq, mkr, data, l⟩ ⟨key, seq, mkr, data, l⟩ w a2 l.length cap2 rfl h1 (by simp only; omega) a l.length cap rfl h2 (by simp only; omega)
        rw [sv_true rfl] at this
        exact this
      have EA := Hid.mk ea
      have ER := Hid.mk er
      clear ea er HA0 HA1
      generalize A ++ [0] = A1 at *
      generalize A.take (A.length - 1) = A2 at *
      go_wp2_with fail
      with_reducible refine Calls.mono (hra _) ?_
      rintro e w5 ⟨a5, c5, rfl, o5, b5⟩
      dsimp only
      have bx := (Below.refl w5.heap.size w5).alloc (Nat.le_refl _) (.cells #[str key, .int .i64 seq, .bool mkr, str data, .slice a5 l.length c5] 24)
      have x6 := Bv.new w5 (str key) (.int .i64 seq) (.bool mkr) (str data) (.slice a5 l.length c5)
      have b46 := below_seq b5 bx
      have B6 := B4.trans (b46.mono B4.size)
      have v6 := v4.later b46
      have u6 := u4.later b46
      have p6 := o5.asSl.at'.later bx
      clear hra b5 bx b46 B4 v4 u4 o5
      go_wp2_with fail
      generalize w5.alloc (.cells #[str key, .int .i64 seq, .bool mkr, str data, .slice a5 l.length c5] 24) = W6 at *
      generalize w5.heap.size = gx at *
      with_reducible refine Calls.mono (hrb _) ?_
      rintro e w7 ⟨rfl, b7⟩
      dsimp only
      have bx := (Below.refl w7.heap.size w7).alloc (Nat.le_refl _) (.cells #[.string ⟨#[]⟩, .int .i64 0, .bool false, .string ⟨#[]⟩, .slice none 0 0] 24)
      have b68 := below_seq b7 bx
      have B8 := B6.trans (b68.mono B6.size)
      have v8 := v6.later b68
      have u8 := u6.later b68
      have x8 := x6.later b68
      have p8 := p6.later b68
      clear hrb b7 bx b68 B6 v6 u6 x6 p6
      go_wp2_with fail
      generalize w7.alloc (.cells #[.string ⟨#[]⟩, .int .i64 0, .bool false, .string ⟨#[]⟩, .slice none 0 0] 24) = W8 at *
      with_reducible refine Calls.mono (hrc _) ?_
      rintro e w9 ⟨rfl, b9⟩
      dsimp only
      have bx := (Below.refl w9.heap.size w9).alloc (Nat.le_refl _) (.cells #[.string ⟨#[]⟩, .int .i64 0, .bool false, .string ⟨#[]⟩, .slice none 0 0] 24)
      have b810 := below_seq b9 bx
      have B10 := B8.trans (b810.mono B8.size)
      have v10 := v8.later b810
      have u10 := u8.later b810
      have x10 := x8.later b810
      have p10 := p8.later b810
      clear hrc b9 bx b810 B8 v8 u8 x8 p8
      obtain ⟨x0, x1, x2, x3, x4, _⟩ := x10.cells
      obtain ⟨y0, y1, y2, y3, y4, _⟩ := v10.cells
      go_wp2_with fail
      generalize w9.alloc (.cells #[.string ⟨#[]⟩, .int .i64 0, .bool false, .string ⟨#[]⟩, .slice none 0 0] 24) = W10 at *
      with_reducible refine Calls.mono (hsx _ _ _ p10 (hP.later B10)) ?_
      rintro e w11 ⟨rfl, b11⟩
      dsimp only
      have B11 := B10.trans (b11.mono B10.size)
      have v11 := v10.later b11
      have u11 := u10.later b11
      clear hsx x0 x1 x2 x3 x4 y0 y1 y2 y3 y4 b11 B10 v10 u10 x10 p10 hsl had
      clear EA ER HB0 HB1
      have hR0 : text.length ≤ 9223372036854775807 := by omega
      cases hR : rdV text with
      | none =>
        have hr1 := read_none hR hR0
        go_wp2_with fail
        with_reducible refine Calls.mono (hr1 _) ?_
        rintro e wa ⟨rfl, ba⟩
        dsimp only
        have BA := B11.trans (ba.mono B11.size)
        have xa := Bv.new wa (.string ⟨#[]⟩) (.int .i64 0) (.bool false) (.string ⟨#[]⟩) (.slice none 0 0)
        have BB := BA.alloc BA.size (.cells #[.string ⟨#[]⟩, .int .i64 0, .bool false, .string ⟨#[]⟩, .slice none 0 0] 24)
        have hsm : ∀ w, Calls Try.prog 11 #[vv [] 0 false [] none 0 0, vv [] 0 false [] none 0 0] w fun e w' => e = .returned (.bool true) ∧ Below w.heap.size w w' := fun w => by
          have := same_any ⟨[], 0, false, [], []⟩ ⟨[], 0, false, [], []⟩ w none 0 0 rfl ⟨fun k p hk => by simp at hk⟩ (by simp) none 0 0 rfl ⟨fun k p hk => by simp at hk⟩ (by simp)
          rw [sv_true rfl] at this
          exact this
        clear hr1 ba BA hR
        go_wp2_with fail
        generalize wa.alloc (.cells #[.string ⟨#[]⟩, .int .i64 0, .bool false, .string ⟨#[]⟩, .slice none 0 0] 24) = wb at *
        with_reducible refine Calls.mono (hsm _) ?_
        rintro e wc ⟨rfl, bc⟩
        dsimp only
        go_wp2_with fail
        go_ret
        exact ⟨rfl, BB.trans (bc.mono BB.size)⟩
      | some X =>
        obtain ⟨xr, xe⟩ := rdV_some hR
        have hr1 := read_some hR hR0
        obtain ⟨xk, xs, xm, xd, xl⟩ := X
        have hx : ∀ w a cap, PIn w a xl → Calls Try.prog 8 #[vv xk xs xm xd a xl.length cap] w fun e w' => e = .returned (.tuple #[str text, .int .i64 0]) ∧ Below w.heap.size w w' := fun w a cap h => by
          have := write_some xr w a xl.length cap rfl h
          rw [xe] at this
          exact this
        simp only at hr1
        clear xr xe hR
        go_wp2_with fail
        with_reducible refine Calls.mono (hr1 _) ?_
        rintro e wa ⟨aa, ca, rfl, oa, ba⟩
        dsimp only
        have BA := B11.trans (ba.mono B11.size)
        have bz := (Below.refl wa.heap.size wa).alloc (Nat.le_refl _) (.cells #[str xk, .int .i64 xs, .bool xm, str xd, .slice aa xl.length ca] 24)
        have BB := BA.trans (bz.mono BA.size)
        have pb := oa.asSl.at'.later bz
        clear hr1 ba BA oa bz
        go_wp2_with fail
        generalize wa.alloc (.cells #[str xk, .int .i64 xs, .bool xm, str xd, .slice aa xl.length ca] 24) = wb at *
        with_reducible refine Calls.mono (hx _ _ _ pb) ?_
        rintro e wc ⟨rfl, bc⟩
        dsimp only
        go_wp2_with fail
        go_ret
        exact ⟨rfl, BB.trans (bc.mono BB.size)⟩
  · have hE1 : (E == 0) = false := by rw [beq_eq_false_iff_ne]; exact hE
    obtain rfl := HA0.out hE
    by_cases hF : F = 0
    · subst hF
      have hR0 : text.length ≤ 9223372036854775807 := by omega
      cases hR : rdV text with
      | none =>
        have hr1 := read_none hR hR0
        go_wp2_with fail
        with_reducible refine Calls.mono (hr1 _) ?_
        rintro e wa ⟨rfl, ba⟩
        dsimp only
        have BA := B4.trans (ba.mono B4.size)
        have xa := Bv.new wa (.string ⟨#[]⟩) (.int .i64 0) (.bool false) (.string ⟨#[]⟩) (.slice none 0 0)
        have BB := BA.alloc BA.size (.cells #[.string ⟨#[]⟩, .int .i64 0, .bool false, .string ⟨#[]⟩, .slice none 0 0] 24)
        have hsm : ∀ w, Calls Try.prog 11 #[vv [] 0 false [] none 0 0, vv [] 0 false [] none 0 0] w fun e w' => e = .returned (.bool true) ∧ Below w.heap.size w w' := fun w => by
          have := same_any ⟨[], 0, false, [], []⟩ ⟨[], 0, false, [], []⟩ w none 0 0 rfl ⟨fun k p hk => by simp at hk⟩ (by simp) none 0 0 rfl ⟨fun k p hk => by simp at hk⟩ (by simp)
          rw [sv_true rfl] at this
          exact this
        clear hr1 ba BA hR
        go_wp2_with fail
        generalize wa.alloc (.cells #[.string ⟨#[]⟩, .int .i64 0, .bool false, .string ⟨#[]⟩, .slice none 0 0] 24) = wb at *
        with_reducible refine Calls.mono (hsm _) ?_
        rintro e wc ⟨rfl, bc⟩
        dsimp only
        go_wp2_with fail
        go_ret
        exact ⟨rfl, BB.trans (bc.mono BB.size)⟩
      | some X =>
        obtain ⟨xr, xe⟩ := rdV_some hR
        have hr1 := read_some hR hR0
        obtain ⟨xk, xs, xm, xd, xl⟩ := X
        have hx : ∀ w a cap, PIn w a xl → Calls Try.prog 8 #[vv xk xs xm xd a xl.length cap] w fun e w' => e = .returned (.tuple #[str text, .int .i64 0]) ∧ Below w.heap.size w w' := fun w a cap h => by
          have := write_some xr w a xl.length cap rfl h
          rw [xe] at this
          exact this
        simp only at hr1
        clear xr xe hR
        go_wp2_with fail
        with_reducible refine Calls.mono (hr1 _) ?_
        rintro e wa ⟨aa, ca, rfl, oa, ba⟩
        dsimp only
        have BA := B4.trans (ba.mono B4.size)
        have bz := (Below.refl wa.heap.size wa).alloc (Nat.le_refl _) (.cells #[str xk, .int .i64 xs, .bool xm, str xd, .slice aa xl.length ca] 24)
        have BB := BA.trans (bz.mono BA.size)
        have pb := oa.asSl.at'.later bz
        clear hr1 ba BA oa bz
        go_wp2_with fail
        generalize wa.alloc (.cells #[str xk, .int .i64 xs, .bool xm, str xd, .slice aa xl.length ca] 24) = wb at *
        with_reducible refine Calls.mono (hx _ _ _ pb) ?_
        rintro e wc ⟨rfl, bc⟩
        dsimp only
        go_wp2_with fail
        go_ret
        exact ⟨rfl, BB.trans (bc.mono BB.size)⟩
    · have hF1 : (F == 0) = false := by rw [beq_eq_false_iff_ne]; exact hF
      obtain rfl := HB0.out hF
      have hR0 : text.length ≤ 9223372036854775807 := by omega
      cases hR : rdV text with
      | none =>
        have hr1 := read_none hR hR0
        go_wp2_with fail
        with_reducible refine Calls.mono (hr1 _) ?_
        rintro e wa ⟨rfl, ba⟩
        dsimp only
        have BA := B4.trans (ba.mono B4.size)
        have xa := Bv.new wa (.string ⟨#[]⟩) (.int .i64 0) (.bool false) (.string ⟨#[]⟩) (.slice none 0 0)
        have BB := BA.alloc BA.size (.cells #[.string ⟨#[]⟩, .int .i64 0, .bool false, .string ⟨#[]⟩, .slice none 0 0] 24)
        have hsm : ∀ w, Calls Try.prog 11 #[vv [] 0 false [] none 0 0, vv [] 0 false [] none 0 0] w fun e w' => e = .returned (.bool true) ∧ Below w.heap.size w w' := fun w => by
          have := same_any ⟨[], 0, false, [], []⟩ ⟨[], 0, false, [], []⟩ w none 0 0 rfl ⟨fun k p hk => by simp at hk⟩ (by simp) none 0 0 rfl ⟨fun k p hk => by simp at hk⟩ (by simp)
          rw [sv_true rfl] at this
          exact this
        clear hr1 ba BA hR
        go_wp2_with fail
        generalize wa.alloc (.cells #[.string ⟨#[]⟩, .int .i64 0, .bool false, .string ⟨#[]⟩, .slice none 0 0] 24) = wb at *
        with_reducible refine Calls.mono (hsm _) ?_
        rintro e wc ⟨rfl, bc⟩
        dsimp only
        go_wp2_with fail
        go_ret
        exact ⟨rfl, BB.trans (bc.mono BB.size)⟩
      | some X =>
        obtain ⟨xr, xe⟩ := rdV_some hR
        have hr1 := read_some hR hR0
        obtain ⟨xk, xs, xm, xd, xl⟩ := X
        have hx : ∀ w a cap, PIn w a xl → Calls Try.prog 8 #[vv xk xs xm xd a xl.length cap] w fun e w' => e = .returned (.tuple #[str text, .int .i64 0]) ∧ Below w.heap.size w w' := fun w a cap h => by
          have := write_some xr w a xl.length cap rfl h
          rw [xe] at this
          exact this
        simp only at hr1
        clear xr xe hR
        go_wp2_with fail
        with_reducible refine Calls.mono (hr1 _) ?_
        rintro e wa ⟨aa, ca, rfl, oa, ba⟩
        dsimp only
        have BA := B4.trans (ba.mono B4.size)
        have bz := (Below.refl wa.heap.size wa).alloc (Nat.le_refl _) (.cells #[str xk, .int .i64 xs, .bool xm, str xd, .slice aa xl.length ca] 24)
        have BB := BA.trans (bz.mono BA.size)
        have pb := oa.asSl.at'.later bz
        clear hr1 ba BA oa bz
        go_wp2_with fail
        generalize wa.alloc (.cells #[str xk, .int .i64 xs, .bool xm, str xd, .slice aa xl.length ca] 24) = wb at *
        with_reducible refine Calls.mono (hx _ _ _ pb) ?_
        rintro e wc ⟨rfl, bc⟩
        dsimp only
        go_wp2_with fail
        go_ret
        exact ⟨rfl, BB.trans (bc.mono BB.size)⟩
end Go.Proofs.Ytahdndmmakdamaa
