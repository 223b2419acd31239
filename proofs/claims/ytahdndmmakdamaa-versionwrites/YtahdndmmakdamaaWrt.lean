/- VersionWrites: the walk. -/
import Derived.Test.YtahdndmmakdamaaLnt
namespace Go.Proofs.Ytahdndmmakdamaa
set_option linter.unusedVariables false
set_option linter.unusedSimpArgs false
open Go.RowKit
attribute [local go_sem ↓] Go.wp_at_zero Go.wp_at_succ
attribute [local go_sem ↓] slPe ad9
def adx (e : En) : En := ⟨e.key, e.val ++ [120]⟩
theorem Ow.at0 {base : Nat} {w : World} {a : Option Addr} {n c : Nat} {l : List En} (h : Ow base w (.slice a n c) l) (hl : 0 < l.length) : ∃ g, a = some ⟨g, 0, none⟩ ∧ base ≤ g ∧ g < w.heap.size ∧ ∀ j, w.frozen? ⟨g, j, none⟩ = false := by
  obtain ⟨g', cp', ev', hg1, hg2, h⟩ := h.form hl
  injection ev' with ev1
  exact ⟨g', ev1, hg1, hg2, h⟩
set_option maxRecDepth 100000 in
set_option maxHeartbeats 8000000 in
theorem versionWrites_walk (key : List UInt8) (seq : Int) (mkr : Bool) (data : List UInt8) (a : Option Addr) (cap : Nat) (l : List En) (W : World) (hV : VIn W key data a cap l) :
    Calls Try.prog 6 #[vv key seq mkr data a l.length cap] W fun e W' => e = .returned (.bool true) ∧ Below W.heap.size W W' := by
  have hP := hV.p
  have hl := hV.l
  have hz := hV.z
  have hS : Sl W a cap l := ⟨hV.p, hV.s.1, hV.s.2.1, hV.s.2.2⟩
  have hz2 : ∀ (k : Nat) (e : En), l[k]? = some e → e.key.length ≤ 9223372036854775806 ∧ e.val.length ≤ 9223372036854775806 := fun k e he => ⟨by have := (hz k e he).1; omega, by have := (hz k e he).2; omega⟩
  have bl := bump_len adx l l.length
  have HZ : ∀ (j : Nat) (e : En), (bump adx l l.length)[j]? = some e → e.key.length ≤ 9223372036854775806 ∧ e.val.length ≤ 9223372036854775806 := fun j e h => by
    obtain ⟨p, hp, he⟩ := bump_or h
    have := hz j p hp
    rcases he with rfl | rfl
    · omega
    · show p.key.length ≤ _ ∧ (p.val ++ [120]).length ≤ _
      rw [List.length_append]
      simp
      omega
  obtain ⟨A, hA⟩ : ∃ A, A = if rtE ⟨key, seq, mkr, data, l⟩ = 0 then enc ⟨key, seq, mkr, data, l⟩ else [] := ⟨_, rfl⟩
  obtain ⟨E, hE⟩ : ∃ E, E = rtE ⟨key, seq, mkr, data, l⟩ := ⟨_, rfl⟩
  obtain ⟨A2, hA2⟩ : ∃ A, A = if rtE ⟨key, seq, mkr, data, bump adx l l.length⟩ = 0 then enc ⟨key, seq, mkr, data, bump adx l l.length⟩ else [] := ⟨_, rfl⟩
  obtain ⟨E2, hE2⟩ : ∃ E, E = rtE ⟨key, seq, mkr, data, bump adx l l.length⟩ := ⟨_, rfl⟩
  have H1 : Hid (∀ w a2 c2, PIn w a2 l → Calls Try.prog 8 #[vv key seq mkr data a2 l.length c2] w fun e w' => e = .returned (.tuple #[str A, .int .i64 E]) ∧ Below w.heap.size w w') := ⟨fun w a2 c2 h => by rw [hA, hE]; exact write_any ⟨key, seq, mkr, data, l⟩ w a2 l.length c2 rfl h (by simp only; omega)⟩
  have HR1 : Hid (∀ w, PIn w a l → Calls Try.prog 13 #[vv key seq mkr data a l.length cap] w fun e w' => e = .returned (.tuple #[str A, .int .i64 E]) ∧ Below w.heap.size w w') := ⟨fun w h => by rw [hA, hE]; exact qWrite_any ⟨key, seq, mkr, data, l⟩ w a l.length cap rfl h hz2 (by simp only; omega)⟩
  have H2 : Hid (∀ w a2 c2, PIn w a2 (bump adx l l.length) → Calls Try.prog 8 #[vv key seq mkr data a2 l.length c2] w fun e w' => e = .returned (.tuple #[str A2, .int .i64 E2]) ∧ Below w.heap.size w w') := ⟨fun w a2 c2 h => by rw [hA2, hE2]; exact write_any ⟨key, seq, mkr, data, bump adx l l.length⟩ w a2 l.length c2 bl h (by simp only; rw [bl]; omega)⟩
  have HR2 : Hid (∀ w a2 c2, PIn w a2 (bump adx l l.length) → Calls Try.prog 13 #[vv key seq mkr data a2 l.length c2] w fun e w' => e = .returned (.tuple #[str A2, .int .i64 E2]) ∧ Below w.heap.size w w') := ⟨fun w a2 c2 h => by rw [hA2, hE2]; exact qWrite_any ⟨key, seq, mkr, data, bump adx l l.length⟩ w a2 l.length c2 bl h HZ (by simp only; rw [bl]; omega)⟩
  have hkp : Hid (∀ w ad c, Sl w ad c (l ++ [mk]) → PIn w a l → Calls Try.prog 14 #[vv key seq mkr data ad l.length c, vv key seq mkr data a l.length cap] w fun e w' => e = .returned (.bool true) ∧ Below w.heap.size w w') := ⟨fun w ad c h1 h2 => vkept_any ⟨key, seq, mkr, data, l⟩ w ad a l.length c cap rfl h1 h2 hl⟩
  clear hA hE hA2 hE2 hz2 HZ bl hV
  go_enter Try.func6, Try.ntmps6
  go_wp2_with fail
  have v0 := Bv.new W (str key) (.int .i64 seq) (.bool mkr) (str data) (.slice a l.length cap)
  have B0 : Below W.heap.size W (W.alloc (.cells #[str key, .int .i64 seq, .bool mkr, str data, .slice a l.length cap] 24)) := (Below.refl _ _).alloc (Nat.le_refl _) _
  have hW1 := B0.size
  have hlt := lent_any ⟨key, seq, mkr, data, l⟩ _ a l.length cap rfl (hS.later B0) hl
  simp only at hlt
  generalize W.alloc (.cells #[str key, .int .i64 seq, .bool mkr, str data, .slice a l.length cap] 24) = W1 at *
  with_reducible refine Calls.mono hlt ?_
  rintro e w2 ⟨ad, c, rfl, o2, b2⟩
  dsimp only
  obtain ⟨g, rfl, hg1, hg2, _⟩ := o2.at0 (by simp)
  have v2 := v0.later b2
  have B2 := B0.trans (b2.mono B0.size)
  have x3 := Bv.new w2 (str key) (.int .i64 seq) (.bool mkr) (str data) (.slice (some ⟨g, 0, none⟩) l.length c)
  have bx := (Below.refl w2.heap.size w2).alloc (Nat.le_refl _) (.cells #[str key, .int .i64 seq, .bool mkr, str data, .slice (some ⟨g, 0, none⟩) l.length c] 24)
  have v3 := v2.later bx
  have o3 := o2.later bx
  have B3 := B2.trans (bx.mono B2.size)
  have hgx : g < w2.heap.size := hg2
  clear hlt v0 B0 b2 v2 B2 o2 bx hg2
  go_wp2_with fail
  generalize w2.alloc (.cells #[str key, .int .i64 seq, .bool mkr, str data, .slice (some ⟨g, 0, none⟩) l.length c] 24) = W3 at *
  generalize w2.heap.size = gx at *
  with_reducible refine Calls.mono (H1.out W3 _ _ o3.asSl.head.at') ?_
  rintro e w4 ⟨rfl, b4⟩
  dsimp only
  have x4 := x3.later b4
  obtain ⟨q0, q1, q2, q3, q4, _⟩ := x4.cells
  go_wp2_with fail
  with_reducible refine Calls.mono (H1.out w4 _ _ (o3.later b4).asSl.head.at') ?_
  rintro e w5 ⟨rfl, b5⟩
  dsimp only
  have b35 := below_seq b4 b5
  have v5 := v3.later b35
  have x5 := x3.later b35
  have o5 := o3.later b35
  have B5 := B3.trans (b35.mono B3.size)
  clear x4 q0 q1 q2 q3 q4 b4 b5 v3 x3 o3 b35 B3
  obtain ⟨r0, r1, r2, r3, r4, _⟩ := v5.cells
  go_wp2_with fail
  with_reducible refine Calls.mono (HR1.out w5 (hP.later B5)) ?_
  rintro e w6 ⟨rfl, b6⟩
  dsimp only
  have v6 := v5.later b6
  have x6 := x5.later b6
  have o6 := o5.later b6
  have B6 := B5.trans (b6.mono B5.size)
  clear r0 r1 r2 r3 r4 v5 x5 o5 B5 b6 H1 HR1
  obtain ⟨r0, r1, r2, r3, r4, _⟩ := v6.cells
  obtain ⟨q0, q1, q2, q3, q4, _⟩ := x6.cells
  go_wp2_with fail
  with_reducible refine Calls.mono (hkp.out w6 _ _ o6.asSl (hP.later B6)) ?_
  rintro e w7 ⟨rfl, b7⟩
  dsimp only
  have x7 := x6.later b7
  have o7 := o6.later b7
  have B7 := B6.trans (b7.mono B6.size)
  clear r0 r1 r2 r3 r4 q0 q1 q2 q3 q4 v6 x6 o6 B6 b7 hkp
  go_wp2_with fail
  go_loopw [10] (fun i wr => ∃ k : Nat, k ≤ l.length ∧ i = .int .i64 (k : Int) ∧ Hid (Bv wr gx (str key) (.int .i64 seq) (.bool mkr) (str data) (.slice (some ⟨g, 0, none⟩) l.length c)) ∧ Hid (Ow W1.heap.size wr (.slice (some ⟨g, 0, none⟩) (l.length + 1) c) (bump adx l k ++ [mk])) ∧ Below W.heap.size W wr) (fun i _ => l.length - (intOf i).toNat)
  case atStart => exact ⟨0, by omega, rfl, ⟨x7⟩, ⟨by rw [bump_zero]; exact o7⟩, B7⟩
  case round =>
    clear x7 o7 B7
    obtain ⟨k, hk, rfl, HX, HO, hb⟩ := hrel
    obtain ⟨_, _, _, _, q4, _⟩ := HX.out.cells
    by_cases hlt : k < l.length
    · have d1 : decide ((k : Int) < (l.length : Int)) = true := decide_eq_true (by omega)
      have k2 : (k : Int) < (l.length : Int) := by omega
      obtain ⟨p, hp⟩ : ∃ p, l[k]? = some p := ⟨l[k], List.getElem?_eq_getElem hlt⟩
      have hbl := bump_len adx l k
      have hbg : (bump adx l k ++ [mk])[k]? = some p := by rw [List.getElem?_append_left (by omega)]; exact bump_get hp
      have hset : (bump adx l k ++ [mk]).set k ⟨p.key, p.val ++ [120]⟩ = bump adx l (k + 1) ++ [mk] := by
        rw [List.set_append_left _ _ (by omega)]
        congr 1
        exact bump_set (f := adx) hp
      have hz1 := (hz k p hp).2
      have rad : ∀ w, (adS (str p.val) (.string ⟨#[120]⟩)).run Try.prog w = .ok (str (p.val ++ [120])) w := fun w => run_ad p.val [120] (by simp; omega) w
      obtain ⟨b', off', e', hb', c0, c1⟩ := HO.out.asSl.at'.get k p hbg
      injection e' with e'
      injection e' with e1 e2
      subst e1 e2
      rw [Nat.zero_add] at c0 c1
      obtain ⟨g', hg', hgb, _, hf⟩ := HO.out.at0 (by simp)
      injection hg' with hg'
      injection hg' with hg'
      subst hg'
      have hf0 := hf (k * 2 + 1)
      have O8 := Hid.mk (HO.out.val (by simp [bump_len]) hbg (p.val ++ [120]))
      rw [hset] at O8
      have X8 := Hid.mk (HX.out.other (g2 := g) (j := k * 2 + 1) (by omega) (str (p.val ++ [120])))
      have B8 := Hid.mk (hb.setCell (p := ⟨g, k * 2 + 1, none⟩) (by show _ ≤ g; omega) (str (p.val ++ [120])))
      have hw1 : wrap64 ((k : Int) + 1) = ((k + 1 : Nat) : Int) := by unfold wrap64; omega
      clear hset hbg hp hbl HO HX hb hf c0
      go_wp2_with fail
      go_region
      go_wp2_with fail
      exact ⟨⟨k + 1, by omega, by go_num, ⟨X8.out.drew⟩, ⟨O8.out.drew⟩, B8.out.drew⟩, by simp [intOf]; omega⟩
    · obtain rfl : k = l.length := by omega
      have d1 : decide ((l.length : Int) < (l.length : Int)) = false := decide_eq_false (by omega)
      obtain ⟨q0, q1, q2, q3, _, _⟩ := HX.out.cells
      have PX := HO.out.asSl.head
      have x1 := HX.out
      clear HO HX
      generalize bump adx l l.length = M at *
      go_wp2_with fail
      with_reducible refine Calls.mono (H2.out wr _ _ PX.at') ?_
      rintro e w12 ⟨rfl, b12⟩
      dsimp only
      have x12 := x1.later b12
      have B12 := hb.trans (b12.mono hb.size)
      have P12 := PX.later b12
      clear q0 q1 q2 q3 q4 x1 PX hb b12
      obtain ⟨q0, q1, q2, q3, q4, _⟩ := x12.cells
      go_wp2_with fail
      with_reducible refine Calls.mono (HR2.out w12 _ _ P12.at') ?_
      rintro e w13 ⟨rfl, b13⟩
      dsimp only
      have B13 := B12.trans (b13.mono B12.size)
      clear q0 q1 q2 q3 q4 H2 HR2
      go_wp2_with fail
      with_reducible refine Calls.mono (first_any _) ?_
      rintro e w14 ⟨rfl, b14⟩
      dsimp only
      go_wp2_with fail
      go_ret
      exact ⟨rfl, B13.trans (b14.mono B13.size)⟩
end Go.Proofs.Ytahdndmmakdamaa
