/- VersionApart: the walk. -/
import Derived.Test.YtahdndmmakdamaaApt
namespace Go.Proofs.Ytahdndmmakdamaa
set_option linter.unusedVariables false
set_option linter.unusedSimpArgs false
open Go.RowKit
attribute [local go_sem ↓] Go.wp_at_zero Go.wp_at_succ
theorem Ow.atS {base : Nat} {w : World} {a : Option Addr} {n c : Nat} {l : List En} (h : Ow base w (.slice a n c) l) (hl : 0 < l.length) : ∃ g, a = some ⟨g, 0, none⟩ ∧ ∀ j, w.frozen? ⟨g, j, none⟩ = false := by
  obtain ⟨g', cp', ev', hg1, hg2, h⟩ := h.form hl
  injection ev' with ev1
  exact ⟨g', ev1, h⟩
set_option maxRecDepth 100000 in
set_option maxHeartbeats 16000000 in
theorem versionApart_walk (key : List UInt8) (seq : Int) (mkr : Bool) (data : List UInt8) (a : Option Addr) (cap : Nat) (l : List En) (key' : List UInt8) (seq' : Int) (mkr' : Bool) (data' : List UInt8) (a' : Option Addr) (cap' : Nat) (l' : List En) (W : World) (hV : VIn W key data a cap l) (hU : VIn W key' data' a' cap' l') :
    Calls Try.prog 5 #[vv key seq mkr data a l.length cap, vv key' seq' mkr' data' a' l'.length cap'] W fun e W' => e = .returned (.bool true) ∧ Below W.heap.size W W' := by
  have hP := hV.p
  have hl := hV.l
  have hP' := hU.p
  have hl' := hU.l
  have b1 := (Below.refl W.heap.size W).alloc (Nat.le_refl _) (.cells #[str key, .int .i64 seq, .bool mkr, str data, .slice a l.length cap] 24)
  have v0 := Bv.new W (str key) (.int .i64 seq) (.bool mkr) (str data) (.slice a l.length cap)
  have b2 := (Below.refl (W.heap.size + 1) (W.alloc (.cells #[str key, .int .i64 seq, .bool mkr, str data, .slice a l.length cap] 24))).alloc (by simp) (.cells #[str key', .int .i64 seq', .bool mkr', str data', .slice a' l'.length cap'] 24)
  have v1 := v0.later (by rw [World.size_alloc]; exact b2)
  have u1 : Bv ((W.alloc (.cells #[str key, .int .i64 seq, .bool mkr, str data, .slice a l.length cap] 24)).alloc (.cells #[str key', .int .i64 seq', .bool mkr', str data', .slice a' l'.length cap'] 24)) (W.heap.size + 1) (str key') (.int .i64 seq') (.bool mkr') (str data') (.slice a' l'.length cap') := by
    have := Bv.new (W.alloc (.cells #[str key, .int .i64 seq, .bool mkr, str data, .slice a l.length cap] 24)) (str key') (.int .i64 seq') (.bool mkr') (str data') (.slice a' l'.length cap')
    rw [World.size_alloc] at this
    exact this
  have B1 := b1.trans (b2.mono (by omega))
  clear v0 b1 b2 hV hU
  obtain ⟨E, hE⟩ : ∃ E, E = rtE ⟨key, seq, mkr, data, l⟩ := ⟨_, rfl⟩
  obtain ⟨F, hF⟩ : ∃ F, F = rtE ⟨key', seq', mkr', data', l'⟩ := ⟨_, rfl⟩
  obtain ⟨A, hA⟩ : ∃ A, A = if rtE ⟨key, seq, mkr, data, l⟩ = 0 then enc ⟨key, seq, mkr, data, l⟩ else [] := ⟨_, rfl⟩
  obtain ⟨B, hB⟩ : ∃ B, B = if rtE ⟨key', seq', mkr', data', l'⟩ = 0 then enc ⟨key', seq', mkr', data', l'⟩ else [] := ⟨_, rfl⟩
  have hwv : ∀ w, PIn w a l → Calls Try.prog 8 #[vv key seq mkr data a l.length cap] w fun e w' => e = .returned (.tuple #[str A, .int .i64 E]) ∧ Below w.heap.size w w' := fun w h => by rw [hA, hE]; exact write_any ⟨key, seq, mkr, data, l⟩ w a l.length cap rfl h (by simp only; omega)
  have hwu : ∀ w, PIn w a' l' → Calls Try.prog 8 #[vv key' seq' mkr' data' a' l'.length cap'] w fun e w' => e = .returned (.tuple #[str B, .int .i64 F]) ∧ Below w.heap.size w w' := fun w h => by rw [hB, hF]; exact write_any ⟨key', seq', mkr', data', l'⟩ w a' l'.length cap' rfl h (by simp only; omega)
  have HA1 : Hid (E = 0 → rtE ⟨key, seq, mkr, data, l⟩ = 0 ∧ A = enc ⟨key, seq, mkr, data, l⟩) := ⟨fun h => by have h2 := hE.symm.trans h; exact ⟨h2, by rw [hA, if_pos h2]⟩⟩
  have HB1 : Hid (F = 0 → rtE ⟨key', seq', mkr', data', l'⟩ = 0 ∧ B = enc ⟨key', seq', mkr', data', l'⟩) := ⟨fun h => by have h2 := hF.symm.trans h; exact ⟨h2, by rw [hB, if_pos h2]⟩⟩
  clear hA hB hE hF
  have hft := fun w => first_any w
  go_enter Try.func5, Try.ntmps5
  go_wp2_with fail
  generalize (W.alloc (.cells #[str key, .int .i64 seq, .bool mkr, str data, .slice a l.length cap] 24)).alloc (.cells #[str key', .int .i64 seq', .bool mkr', str data', .slice a' l'.length cap'] 24) = W1 at *
  with_reducible refine Calls.mono (hwv _ (hP.later B1)) ?_
  rintro e w2 ⟨rfl, b2⟩
  dsimp only
  have B2 := B1.trans (b2.mono B1.size)
  have v2 := v1.later b2
  have u2 := u1.later b2
  obtain ⟨y0, y1, y2, y3, y4, _⟩ := u2.cells
  clear hwv v1 u1 b2 B1
  go_wp2_with fail
  with_reducible refine Calls.mono (hwu _ (hP'.later B2)) ?_
  rintro e w3 ⟨rfl, b3⟩
  dsimp only
  have B3 := B2.trans (b3.mono B2.size)
  have v3 := v2.later b3
  have u3 := u2.later b3
  clear hwu v2 u2 b3 B2 y0 y1 y2 y3 y4
  go_wp2_with fail
  with_reducible refine Calls.mono (hft _) ?_
  rintro e w4 ⟨rfl, b4⟩
  dsimp only
  have B4 := B3.trans (b4.mono B3.size)
  have v4 := v3.later b4
  have u4 := u3.later b4
  clear hft v3 u3 b4 B3
  by_cases hE : E = 0
  · by_cases hF : F = 0
    · obtain ⟨er, ea⟩ := HA1.out hE
      obtain ⟨fr, fb⟩ := HB1.out hF
      subst hE hF
      have hl8 := (rt_of er).n
      have hl8' := (rt_of fr).n
      simp only at hl8 hl8'
      have el := (enc_len (rt_of er)).2
      have fl := (enc_len (rt_of fr)).2
      rw [← ea] at el
      rw [← fb] at fl
      have hra : ∀ w, Calls Try.prog 10 #[str A] w fun e w' => ∃ a2 cap2, e = .returned (.tuple #[vv key seq mkr data a2 l.length cap2, .int .i64 0]) ∧ Ow w.heap.size w' (.slice a2 l.length cap2) l ∧ Below w.heap.size w w' := fun w => read_some (v := ⟨key, seq, mkr, data, l⟩) (by rw [ea]; exact rdV_enc er) (by omega) w
      have hrb : ∀ w, Calls Try.prog 10 #[str B] w fun e w' => ∃ a2 cap2, e = .returned (.tuple #[vv key' seq' mkr' data' a2 l'.length cap2, .int .i64 0]) ∧ Ow w.heap.size w' (.slice a2 l'.length cap2) l' ∧ Below w.heap.size w w' := fun w => read_some (v := ⟨key', seq', mkr', data', l'⟩) (by rw [fb]; exact rdV_enc fr) (by omega) w
      have hsv : ∀ w a2 cap2, PIn w a2 l → PIn w a l → Calls Try.prog 11 #[vv key seq mkr data a2 l.length cap2, vv key seq mkr data a l.length cap] w fun e w' => e = .returned (.bool true) ∧ Below w.heap.size w w' := fun w a2 cap2 h1 h2 => by
        have := same_any ⟨key, seq, mkr, data, l⟩ ⟨key, seq, mkr, data, l⟩ w a2 l.length cap2 rfl h1 (by simp only; omega) a l.length cap rfl h2 (by simp only; omega)
        rw [sv_true rfl] at this
        exact this
      have hsu : ∀ w a2 cap2, PIn w a2 l' → PIn w a' l' → Calls Try.prog 11 #[vv key' seq' mkr' data' a2 l'.length cap2, vv key' seq' mkr' data' a' l'.length cap'] w fun e w' => e = .returned (.bool true) ∧ Below w.heap.size w w' := fun w a2 cap2 h1 h2 => by
        have := same_any ⟨key', seq', mkr', data', l'⟩ ⟨key', seq', mkr', data', l'⟩ w a2 l'.length cap2 rfl h1 (by simp only; omega) a' l'.length cap' rfl h2 (by simp only; omega)
        rw [sv_true rfl] at this
        exact this
      clear HA1 HB1 er ea fr fb
      go_wp2_with fail
      with_reducible refine Calls.mono (hra _) ?_
      rintro e w5 ⟨a5, c5, rfl, o5, b5⟩
      dsimp only
      have bx := (Below.refl w5.heap.size w5).alloc (Nat.le_refl _) (.cells #[str key, .int .i64 seq, .bool mkr, str data, .slice a5 l.length c5] 24)
      have x6 := Bv.new w5 (str key) (.int .i64 seq) (.bool mkr) (str data) (.slice a5 l.length c5)
      have b46 := below_seq b5 bx
      have B6 := B4.trans (b46.mono B4.size)
      have v6 := v4.later b46
      have u6 := u4.later b46
      have o6 := o5.later bx
      have hx1 : ∀ g, (Value.slice a5 l.length c5).ownBlock = some g → g < w5.heap.size := fun g q => (o5.own.lt g q).2
      have hw4 := u4.lt
      have hw5 := b5.size
      clear b5 bx b46 v4 u4 o5
      go_wp2_with fail
      have hs6 : (w5.alloc (.cells #[str key, .int .i64 seq, .bool mkr, str data, .slice a5 l.length c5] 24)).heap.size = w5.heap.size + 1 := by simp
      generalize w5.alloc (.cells #[str key, .int .i64 seq, .bool mkr, str data, .slice a5 l.length c5] 24) = W6 at *
      generalize w5.heap.size = gx at *
      with_reducible refine Calls.mono (hra _) ?_
      rintro e w7 ⟨a7, c7, rfl, o7, b7⟩
      dsimp only
      have bx := (Below.refl w7.heap.size w7).alloc (Nat.le_refl _) (.cells #[str key, .int .i64 seq, .bool mkr, str data, .slice a7 l.length c7] 24)
      have y8 := Bv.new w7 (str key) (.int .i64 seq) (.bool mkr) (str data) (.slice a7 l.length c7)
      have b68 := below_seq b7 bx
      have B8 := B6.trans (b68.mono B6.size)
      have v8 := v6.later b68
      have u8 := u6.later b68
      have x8 := x6.later b68
      have o8 := o6.later b68
      have p8 := o7.later bx
      have hy1 : ∀ g, (Value.slice a7 l.length c7).ownBlock = some g → g < w7.heap.size := fun g q => (o7.own.lt g q).2
      have hw7 := b7.size
      clear b7 bx b68 v6 u6 x6 o6 o7 B6
      go_wp2_with fail
      have hs8 : (w7.alloc (.cells #[str key, .int .i64 seq, .bool mkr, str data, .slice a7 l.length c7] 24)).heap.size = w7.heap.size + 1 := by simp
      generalize w7.alloc (.cells #[str key, .int .i64 seq, .bool mkr, str data, .slice a7 l.length c7] 24) = W8 at *
      generalize w7.heap.size = gy at *
      with_reducible refine Calls.mono (hrb _) ?_
      rintro e w9 ⟨a9, c9, rfl, o9, b9⟩
      dsimp only
      have bx := (Below.refl w9.heap.size w9).alloc (Nat.le_refl _) (.cells #[str key', .int .i64 seq', .bool mkr', str data', .slice a9 l'.length c9] 24)
      have z10 := Bv.new w9 (str key') (.int .i64 seq') (.bool mkr') (str data') (.slice a9 l'.length c9)
      have b810 := below_seq b9 bx
      have B10 := B8.trans (b810.mono B8.size)
      have v10 := v8.later b810
      have u10 := u8.later b810
      have x10 := x8.later b810
      have y10 := y8.later b810
      have hw9 := b9.size
      have R10 := Rs.three (o8.later b810) (p8.later b810) (o9.later bx) (by omega) (by omega) (fun g q => by have := hx1 g q; omega) (fun g q => by have := hy1 g q; omega)
      have hs10 : (w9.alloc (.cells #[str key', .int .i64 seq', .bool mkr', str data', .slice a9 l'.length c9] 24)).heap.size = w9.heap.size + 1 := by simp
      have hB4 := B4.size
      have S10 : AS W w4.heap.size ⟨key, seq, mkr, data, l⟩ ⟨key', seq', mkr', data', l'⟩ (.slice a l.length cap) (.slice a' l'.length cap') W.heap.size (W.heap.size + 1) gx gy w9.heap.size _ (.slice a5 l.length c5) (.slice a7 l.length c7) (.slice a9 l'.length c9) l l l' := ⟨v10, u10, x10, y10, z10, R10, B10, hB4⟩
      clear b9 bx b810 v8 u8 x8 y8 o8 p8 o9 B8 hx1 hy1 R10 v10 u10 x10 y10 z10 B10 B4
      obtain ⟨p0, p1, p2, p3, p4, _⟩ := S10.x.cells
      obtain ⟨q0, q1, q2, q3, q4, _⟩ := S10.v.cells
      go_wp2_with fail
      generalize w9.alloc (.cells #[str key', .int .i64 seq', .bool mkr', str data', .slice a9 l'.length c9] 24) = W10 at *
      generalize w9.heap.size = gz at *
      with_reducible refine Calls.mono (hsv _ _ _ S10.ox.asSl.at' (hP.later S10.b)) ?_
      rintro e w11 ⟨rfl, b11⟩
      dsimp only
      have S11 := S10.later b11
      clear p0 p1 p2 p3 p4 q0 q1 q2 q3 q4 S10 b11
      obtain ⟨p0, p1, p2, p3, p4, _⟩ := S11.y.cells
      obtain ⟨q0, q1, q2, q3, q4, _⟩ := S11.v.cells
      go_wp2_with fail
      with_reducible refine Calls.mono (hsv _ _ _ S11.oy.asSl.at' (hP.later S11.b)) ?_
      rintro e w12 ⟨rfl, b12⟩
      dsimp only
      have S12 := S11.later b12
      clear p0 p1 p2 p3 p4 q0 q1 q2 q3 q4 S11 b12
      obtain ⟨p0, p1, p2, p3, p4, _⟩ := S12.z.cells
      obtain ⟨q0, q1, q2, q3, q4, _⟩ := S12.u.cells
      go_wp2_with fail
      with_reducible refine Calls.mono (hsu _ _ _ S12.oz.asSl.at' (hP'.later S12.b)) ?_
      rintro e w13 ⟨rfl, b13⟩
      dsimp only
      have S13 := S12.later b13
      clear p0 p1 p2 p3 p4 q0 q1 q2 q3 q4 S12 b13 hsu hrb
      go_wp2_with fail
      have D1 : W.heap.size + 1 < w4.heap.size := hw4
      have D2 : w4.heap.size ≤ gx := hw5
      have D3 : gx < gy := by omega
      have D4 : gy < gz := by omega
      clear hw4 hw5 hw7 hw9 hs6 hs8 hs10 hB4
      generalize w4.heap.size = B0 at *
      have hdx : W.heap.size ≠ gx ∧ W.heap.size + 1 ≠ gx ∧ gy ≠ gx ∧ gz ≠ gx := by omega
      have hdz : W.heap.size ≠ gz ∧ W.heap.size + 1 ≠ gz ∧ gx ≠ gz ∧ gy ≠ gz := by omega
      have hWx : W.heap.size ≤ gx := by omega
      have hWz : W.heap.size ≤ gz := by omega
      have HD := Hid.mk hdx
      have HZ := Hid.mk hdz
      clear hdx hdz
      go_loopw [15] (fun i wr => ∃ k : Nat, k ≤ l.length ∧ i = .int .i64 (k : Int) ∧ Hid (AS W B0 ⟨key, seq, mkr, data, l⟩ ⟨key', seq', mkr', data', l'⟩ (.slice a l.length cap) (.slice a' l'.length cap') W.heap.size (W.heap.size + 1) gx gy gz wr (.slice a5 l.length c5) (.slice a7 l.length c7) (.slice a9 l'.length c9) (mkd xE l k) l l')) (fun i _ => l.length - (intOf i).toNat)
      case atStart => exact ⟨0, by omega, rfl, ⟨by rw [mkd_zero]; exact S13⟩⟩
      case round =>
        clear S13
        obtain ⟨k, hk, rfl, HS⟩ := hrel
        obtain ⟨_, _, _, _, p4, _⟩ := HS.out.x.cells
        by_cases hlt : k < l.length
        · have d1 : decide ((k : Int) < (l.length : Int)) = true := decide_eq_true (by omega)
          have k2 : (k : Int) < (l.length : Int) := by omega
          have hml := mkd_len xE l k hk
          obtain ⟨g, rfl, hf⟩ := HS.out.ox.atS (by omega)
          obtain ⟨pp, hpp⟩ : ∃ p, (mkd xE l k)[k]? = some p := ⟨(mkd xE l k)[k], List.getElem?_eq_getElem (by omega)⟩
          obtain ⟨b', off', e', _, c0, c1⟩ := HS.out.ox.asSl.at'.get k pp hpp
          injection e' with e'
          injection e' with e1 e2
          subst e1 e2
          rw [Nat.zero_add] at c0 c1
          clear hpp
          have f0 := hf (k * 2)
          have f1 := hf (k * 2 + 1)
          have S' := HS.out.setx (g := g) (cap := c5) (by rw [hml]) k (by omega) xE
          rw [mkd_set xE l k hlt] at S'
          have HS' := Hid.mk S'
          clear S' HS hml hf
          go_wp2_with fail
          exact ⟨⟨k + 1, by omega, by go_num, HS'⟩, by simp [intOf]; omega⟩
        · obtain rfl : k = l.length := by omega
          have d1 : decide ((l.length : Int) < (l.length : Int)) = false := decide_eq_false (by omega)
          have S20 := HS.out
          rw [mkd_all] at S20
          have HS20 := Hid.mk S20
          clear HS S20
          go_wp2_with fail
          go_loopw [16] (fun i wr => ∃ k : Nat, k ≤ l'.length ∧ i = .int .i64 (k : Int) ∧ Hid (AS W B0 ⟨key, seq, mkr, data, l⟩ ⟨key', seq', mkr', data', l'⟩ (.slice a l.length cap) (.slice a' l'.length cap') W.heap.size (W.heap.size + 1) gx gy gz wr (.slice a5 l.length c5) (.slice a7 l.length c7) (.slice a9 l'.length c9) (List.replicate l.length xE) l (mkd zE l' k))) (fun i _ => l'.length - (intOf i).toNat)
          case atStart => exact ⟨0, by omega, rfl, ⟨by rw [mkd_zero]; exact HS20.out⟩⟩
          case round =>
            clear HS20 p4
            obtain ⟨k, hk2, rfl, HS⟩ := hrel
            obtain ⟨_, _, _, _, p4, _⟩ := HS.out.z.cells
            by_cases hlt2 : k < l'.length
            · have d1 : decide ((k : Int) < (l'.length : Int)) = true := decide_eq_true (by omega)
              have k2 : (k : Int) < (l'.length : Int) := by omega
              have hml := mkd_len zE l' k hk2
              obtain ⟨g, rfl, hf⟩ := HS.out.oz.atS (by omega)
              obtain ⟨pp, hpp⟩ : ∃ p, (mkd zE l' k)[k]? = some p := ⟨(mkd zE l' k)[k], List.getElem?_eq_getElem (by omega)⟩
              obtain ⟨b', off', e', _, c0, c1⟩ := HS.out.oz.asSl.at'.get k pp hpp
              injection e' with e'
              injection e' with e1 e2
              subst e1 e2
              rw [Nat.zero_add] at c0 c1
              clear hpp
              have f0 := hf (k * 2)
              have f1 := hf (k * 2 + 1)
              have S' := HS.out.setz (g := g) (cap := c9) (by rw [hml]) k (by omega) zE
              rw [mkd_set zE l' k hlt2] at S'
              have HS' := Hid.mk S'
              clear S' HS hml hf
              go_wp2_with fail
              exact ⟨⟨k + 1, by omega, by go_num, HS'⟩, by simp [intOf]; omega⟩
            · obtain rfl : k = l'.length := by omega
              have d1 : decide ((l'.length : Int) < (l'.length : Int)) = false := decide_eq_false (by omega)
              have S30 := HS.out
              rw [mkd_all] at S30
              have HS30 := Hid.mk S30
              clear HS S30
              go_wp2_with fail
              go_loopw [17] (fun i wr => ∃ k : Nat, k ≤ 10 ∧ i = .int .i64 (k : Int) ∧ Hid (∃ ax cx az cz, AS W B0 ⟨key, seq, mkr, data, l⟩ ⟨key', seq', mkr', data', l'⟩ (.slice a l.length cap) (.slice a' l'.length cap') W.heap.size (W.heap.size + 1) gx gy gz wr (.slice ax (l.length + k) cx) (.slice a7 l.length c7) (.slice az (l'.length + k) cz) (List.replicate (l.length + k) xE) l (List.replicate (l'.length + k) zE))) (fun i _ => 10 - (intOf i).toNat)
              case atStart => exact ⟨0, by omega, rfl, ⟨_, _, _, _, HS30.out⟩⟩
              case round =>
                clear HS30 p4
                obtain ⟨k, hk3, rfl, ⟨ax, cx, az, cz, S⟩⟩ := hrel
                by_cases hlt3 : k < 10
                · have d1 : decide ((k : Int) < (10 : Int)) = true := decide_eq_true (by omega)
                  obtain ⟨_, _, _, _, p4, _⟩ := S.x.cells
                  have hn1 : (t3 (List.replicate (l.length + k) xE) l (List.replicate (l'.length + k) zE) 0).length = l.length + k := by rw [t3_0, List.length_replicate]
                  go_wp2_with (first
                    | (refine rs_app (i := 2) rfl _ _ rfl zE rfl S1.r (by omega) (by simp) (by rw [hn2]; omega) rfl rfl ?_; intro g2 k2 w2 r2 b2 m2; rw [hn2] at r2 ⊢; obtain ⟨S2, zz⟩ := S1.appz HZ.out hWz r2 b2 m2; obtain ⟨_, _, _, _, _, zf⟩ := zz.cells; have zf4 := zf 4; clear zf)
                    | (refine rs_app (i := 0) rfl _ _ rfl xE rfl S.r (by omega) rfl (by rw [hn1]; omega) rfl rfl ?_; intro g1 k1 w1 r1 b1 m1; rw [hn1] at r1 ⊢; obtain ⟨S1, xx⟩ := S.appx HD.out hWx r1 b1 m1; obtain ⟨_, _, _, _, _, xf⟩ := xx.cells; have xf4 := xf 4; obtain ⟨_, _, _, _, z4, _⟩ := S1.z.cells; have hn2 : (t3 (List.replicate (l.length + k) xE ++ [xE]) l (List.replicate (l'.length + k) zE) 2).length = l'.length + k := (by rw [t3_2, List.length_replicate]); clear xf))
                  have rx : List.replicate (l.length + k) xE ++ [xE] = List.replicate (l.length + (k + 1)) xE := by rw [show l.length + (k + 1) = l.length + k + 1 by omega, List.replicate_succ']
                  have rz : List.replicate (l'.length + k) zE ++ [zE] = List.replicate (l'.length + (k + 1)) zE := by rw [show l'.length + (k + 1) = l'.length + k + 1 by omega, List.replicate_succ']
                  rw [rx, rz] at S2
                  exact ⟨⟨k + 1, by omega, by go_num, ⟨_, _, _, _, S2⟩⟩, by simp [intOf]; omega⟩
                · obtain rfl : k = 10 := by omega
                  have d1 : decide (((10 : Nat) : Int) < (10 : Int)) = false := decide_eq_false (by omega)
                  obtain ⟨_, _, _, _, p4, _⟩ := S.x.cells
                  have HS := Hid.mk S
                  obtain ⟨n1, hn1⟩ : ∃ n, n = l.length + 10 := ⟨_, rfl⟩
                  obtain ⟨n2, hn2⟩ : ∃ n, n = l'.length + 10 := ⟨_, rfl⟩
                  rw [← hn1] at HS p4
                  rw [← hn2] at HS
                  have N1 := Hid.mk hn1
                  have N2 := Hid.mk hn2
                  have hb1 : n1 ≤ 20 := by omega
                  have hb2 : n2 ≤ 20 := by omega
                  clear S hn1 hn2
                  go_wp2_with fail
                  go_loopw [18] (fun i wx => ∃ k : Nat, k ≤ n1 ∧ i = .int .i64 (k : Int) ∧ wx = wr) (fun i _ => n1 - (intOf i).toNat)
                  case atStart => exact ⟨0, by omega, rfl, rfl⟩
                  case round =>
                    obtain ⟨k, hk4, rfl, rfl⟩ := hrel
                    by_cases hlt4 : k < n1
                    · have d2 : decide ((k : Int) < (n1 : Int)) = true := decide_eq_true (by omega)
                      have k2 : (k : Int) < (n1 : Int) := by omega
                      obtain ⟨b', off', rfl, _, c0, c1⟩ := HS.out.ox.asSl.at'.get k xE (by rw [List.getElem?_replicate, if_pos hlt4])
                      have c0' : wr.cell? ⟨b', off' + k * 2, none⟩ = some (.string ⟨#[120]⟩) := c0
                      clear c0 c1
                      go_wp2_with fail
                      exact ⟨⟨k + 1, by omega, by go_num, trivial⟩, by simp [intOf]; omega⟩
                    · obtain rfl : k = n1 := by omega
                      have d2 : decide ((k : Int) < (k : Int)) = false := decide_eq_false (by omega)
                      obtain ⟨_, _, _, _, q4, _⟩ := HS.out.z.cells
                      go_wp2_with fail
                      go_loopw [19] (fun i wx => ∃ k : Nat, k ≤ n2 ∧ i = .int .i64 (k : Int) ∧ wx = wr) (fun i _ => n2 - (intOf i).toNat)
                      case atStart => exact ⟨0, by omega, rfl, rfl⟩
                      case round =>
                        obtain ⟨j, hk5, rfl, rfl⟩ := hrel
                        by_cases hlt5 : j < n2
                        · have d3 : decide ((j : Int) < (n2 : Int)) = true := decide_eq_true (by omega)
                          have k2 : (j : Int) < (n2 : Int) := by omega
                          obtain ⟨b', off', rfl, _, c0, c1⟩ := HS.out.oz.asSl.at'.get j zE (by rw [List.getElem?_replicate, if_pos hlt5])
                          have c0' : wr.cell? ⟨b', off' + j * 2, none⟩ = some (.string ⟨#[122]⟩) := c0
                          clear c0 c1
                          go_wp2_with fail
                          exact ⟨⟨j + 1, by omega, by go_num, trivial⟩, by simp [intOf]; omega⟩
                        · obtain rfl : j = n2 := by omega
                          have d3 : decide ((j : Int) < (j : Int)) = false := decide_eq_false (by omega)
                          have S40 := HS.out
                          clear HS
                          go_wp2_with fail
                          with_reducible refine Calls.mono (hra _) ?_
                          rintro e w41 ⟨a41, c41, rfl, o41, b41⟩
                          dsimp only
                          have bx := (Below.refl w41.heap.size w41).alloc (Nat.le_refl _) (.cells #[str key, .int .i64 seq, .bool mkr, str data, .slice a41 l.length c41] 24)
                          have t42 := Bv.new w41 (str key) (.int .i64 seq) (.bool mkr) (str data) (.slice a41 l.length c41)
                          have S42 := S40.later (below_seq b41 bx)
                          have P42 := o41.asSl.at'.later bx
                          clear S40 b41 bx o41 p4 q4
                          obtain ⟨p0, p1, p2, p3, p4, _⟩ := S42.y.cells
                          obtain ⟨q0, q1, q2, q3, q4, _⟩ := S42.v.cells
                          go_wp2_with fail
                          generalize w41.alloc (.cells #[str key, .int .i64 seq, .bool mkr, str data, .slice a41 l.length c41] 24) = W42 at *
                          generalize w41.heap.size = gu at *
                          with_reducible refine Calls.mono (hsv _ _ _ S42.oy.asSl.at' (hP.later S42.b)) ?_
                          rintro e w43 ⟨rfl, b43⟩
                          dsimp only
                          have S43 := S42.later b43
                          have t43 := t42.later b43
                          have P43 := P42.later b43
                          clear p0 p1 p2 p3 p4 q0 q1 q2 q3 q4 S42 t42 P42 b43
                          obtain ⟨p0, p1, p2, p3, p4, _⟩ := t43.cells
                          obtain ⟨q0, q1, q2, q3, q4, _⟩ := S43.v.cells
                          go_wp2_with fail
                          with_reducible refine Calls.mono (hsv _ _ _ P43 (hP.later S43.b)) ?_
                          rintro e w44 ⟨rfl, b44⟩
                          dsimp only
                          have S44 := S43.later b44
                          clear p0 p1 p2 p3 p4 q0 q1 q2 q3 q4 S43 t43 P43 b44
                          obtain ⟨_, _, _, _, p4, _⟩ := S44.x.cells
                          obtain ⟨_, _, _, _, q4, _⟩ := S44.v.cells
                          obtain ⟨_, _, _, _, r4, _⟩ := S44.z.cells
                          obtain ⟨_, _, _, _, s4, _⟩ := S44.u.cells
                          have e1 : ((k : Int) == (l.length : Int) + 10) = true := by rw [beq_iff_eq, N1.out]; omega
                          have e2 : ((j : Int) == (l'.length : Int) + 10) = true := by rw [beq_iff_eq, N2.out]; omega
                          go_wp2_with fail
                          go_ret
                          exact ⟨rfl, S44.b⟩
    · have hF1 : (F == 0) = false := by rw [beq_eq_false_iff_ne]; exact hF
      have hF2 : (F != 0) = true := by rw [bne_iff_ne]; exact hF
      subst hE
      go_wp2_with fail
      go_ret
      exact ⟨rfl, B4⟩
  · have hE1 : (E == 0) = false := by rw [beq_eq_false_iff_ne]; exact hE
    have hE2 : (E != 0) = true := by rw [bne_iff_ne]; exact hE
    go_wp2_with fail
    go_ret
    exact ⟨rfl, B4⟩
end Go.Proofs.Ytahdndmmakdamaa
