/- NamesVersions: the walk. -/
import Derived.Test.YtehjhlaeojmciaaMetW
import Derived.Test.YtehjhlaeojmciaaOpnV
namespace Go.Proofs.Ytehjhlaeojmciaa
set_option linter.unusedVariables false
set_option linter.unusedSimpArgs false
open Go.RowKit
attribute [local go_sem ↓] Go.wp_at_zero Go.wp_at_succ
attribute [local go_sem ↓] slPe ad9
/-- a box with a version -/
def Bv (w : World) (g : Nat) (x y z u v : Value) : Prop := w.heap[g]? = some (.cells #[x, y, z, u, v] 32 (0, 0))
theorem Bv.lt {w : World} {g : Nat} {x y z u v : Value} (h : Bv w g x y z u v) : g < w.heap.size := (Array.getElem?_eq_some_iff.1 h).1
theorem Bv.cells {w : World} {g : Nat} {x y z u v : Value} (h : Bv w g x y z u v) : w.cell? ⟨g, 0, none⟩ = some x ∧ w.cell? ⟨g, 1, none⟩ = some y ∧ w.cell? ⟨g, 2, none⟩ = some z ∧ w.cell? ⟨g, 3, none⟩ = some u ∧ w.cell? ⟨g, 4, none⟩ = some v ∧ ∀ j, w.frozen? ⟨g, j, none⟩ = false := by
  refine ⟨?_, ?_, ?_, ?_, ?_, fun j => frozen_of_row _ _ _ _ _ h⟩
  all_goals rw [cell_of_row _ _ _ _ _ _ h]; rfl
theorem Bv.later {w w' : World} {g : Nat} {x y z u v : Value} (h : Bv w g x y z u v) (hb : Below w.heap.size w w') : Bv w' g x y z u v := by
  unfold Bv
  rw [hb.block g h.lt]; exact h
theorem Bv.drew {w : World} {g : Nat} {x y z u v : Value} (h : Bv w g x y z u v) : Bv w.drew g x y z u v := h
theorem Bv.new (w : World) (x y z u v : Value) : Bv (w.alloc (.cells #[x, y, z, u, v] 32)) w.heap.size x y z u v := heap_alloc_new _ _
theorem Bv.other {w : World} {g : Nat} {x y z u v : Value} (h : Bv w g x y z u v) {g2 j : Nat} (hg : g ≠ g2) (c : Value) : Bv (w.setCell ⟨g2, j, none⟩ c) g x y z u v := by
  unfold Bv
  rw [heap_setCell_other _ _ _ _ (by first | exact hg | exact hg.symm)]; exact h
theorem Bv.set4 {w : World} {g : Nat} {x y z u v : Value} (h : Bv w g x y z u v) (c : Value) : Bv (w.setCell ⟨g, 4, none⟩ c) g x y z u c := by
  unfold Bv
  rw [heap_setCell_same _ _ _ _ _ _ h]; rfl
theorem Bv.set0 {w : World} {g : Nat} {x y z u v : Value} (h : Bv w g x y z u v) (c : Value) : Bv (w.setCell ⟨g, 0, none⟩ c) g c y z u v := by
  unfold Bv
  rw [heap_setCell_same _ _ _ _ _ _ h]; rfl
theorem Bv.set3 {w : World} {g : Nat} {x y z u v : Value} (h : Bv w g x y z u v) (c : Value) : Bv (w.setCell ⟨g, 3, none⟩ c) g x y z c v := by
  unfold Bv
  rw [heap_setCell_same _ _ _ _ _ _ h]; rfl
def dash (e : En) : En := ⟨e.key ++ [45], e.val⟩
/-- a store into another block leaves the row -/
theorem Ow.other {base : Nat} {w : World} {v : Value} {l : List En} (h : Ow base w v l) {g j : Nat} (hg : v.ownBlock ≠ some g) (c : Value) : Ow base (w.setCell ⟨g, j, none⟩ c) v l :=
  ⟨ownsRow_setCell_other h.own (a := ⟨g, _, none⟩) hg _, by simpa using h.le⟩
theorem Ow.asSl {base : Nat} {w : World} {a : Option Addr} {n c : Nat} {l : List En} (h : Ow base w (.slice a n c) l) : Sl w a c l := by
  obtain ⟨a', c', e', s'⟩ := h.sl
  injection e' with e1 e2 e3
  subst e1 e3
  exact s'
theorem Ow.at0 {base : Nat} {w : World} {a : Option Addr} {n c : Nat} {l : List En} (h : Ow base w (.slice a n c) l) (hl : 0 < l.length) : ∃ g, a = some ⟨g, 0, none⟩ ∧ base ≤ g ∧ g < w.heap.size ∧ ∀ j, w.frozen? ⟨g, j, none⟩ = false := by
  obtain ⟨g', cp', ev', hg1, hg2, h⟩ := h.form hl
  injection ev' with ev1
  exact ⟨g', ev1, hg1, hg2, h⟩
set_option maxHeartbeats 4000000 in
theorem namesVersions_walk (key : List UInt8) (seq : Int) (mkr : Bool) (data : List UInt8) (a : Option Addr) (cap : Nat) (l : List En) (W : World) (hV : VIn W key data a cap l) :
    Calls Try.prog 8 #[vv key seq mkr data a l.length cap] W fun e W' => e = .returned (.bool true) ∧ Below W.heap.size W W' := by
  have hP := hV.p
  have hl := hV.l
  have hz := hV.z
  have hS : Sl W a cap l := ⟨hV.p, hV.s.1, hV.s.2.1, hV.s.2.2⟩
  have HZ : Hid (∀ (k j : Nat) (e : En), (bump dash l k)[j]? = some e → e.key.length ≤ 9223372036854775806 ∧ e.val.length ≤ 9223372036854775806) := ⟨fun k j e h => by
    obtain ⟨p, hp, he⟩ := bump_or h
    have := hz j p hp
    rcases he with rfl | rfl
    · omega
    · show (p.key ++ [45]).length ≤ _ ∧ p.val.length ≤ _
      rw [List.length_append]
      simp
      omega⟩
  have hz2 : ∀ (k : Nat) (e : En), l[k]? = some e → e.key.length ≤ 9223372036854775806 ∧ e.val.length ≤ 9223372036854775806 := fun k e he => ⟨by have := (hz k e he).1; omega, by have := (hz k e he).2; omega⟩
  have HL : Hid (∀ w a2 c2, PIn w a2 l → Calls Try.prog 13 #[vv key seq mkr data a2 l.length c2] w fun e w' => e = .returned (.int .i64 (vrE key mkr data l)) ∧ Below w.heap.size w w') := ⟨fun w a2 c2 h => version_any key seq mkr data l w a2 l.length c2 rfl h (by omega)⟩
  have HS : Hid (∀ w a2 c2, PIn w a2 l → Calls Try.prog 12 #[vv key seq mkr data a2 l.length c2] w fun e w' => e = .returned (.int .i64 (vsz key data l)) ∧ Below w.heap.size w w') := ⟨fun w a2 c2 h => size_any key seq mkr data l w a2 l.length c2 rfl h (by omega)⟩
  have HRL : Hid (∀ w, PIn w a l → Calls Try.prog 22 #[vv key seq mkr data a l.length cap] w fun e w' => e = .returned (.int .i64 (vrE key mkr data l)) ∧ Below w.heap.size w w') := ⟨fun w h => rVersion_any key seq mkr data l w a l.length cap rfl h hz2 (by omega)⟩
  have HRS : Hid (∀ w, PIn w a l → Calls Try.prog 23 #[vv key seq mkr data a l.length cap] w fun e w' => e = .returned (.int .i64 (vsz key data l)) ∧ Below w.heap.size w w') := ⟨fun w h => rSize_any key seq mkr data l w a l.length cap rfl h (by omega)⟩
  have bl := bump_len dash l l.length
  have H2 : Hid (∀ w a2 c2, PIn w a2 (bump dash l l.length) → Calls Try.prog 13 #[vv key seq mkr data a2 l.length c2] w fun e w' => e = .returned (.int .i64 (vrE key mkr data (bump dash l l.length))) ∧ Below w.heap.size w w') := ⟨fun w a2 c2 h => version_any key seq mkr data _ w a2 l.length c2 bl h (by rw [bl]; omega)⟩
  have H3 : Hid (∀ w a2 c2, PIn w a2 (bump dash l l.length) → Calls Try.prog 12 #[vv key seq mkr data a2 l.length c2] w fun e w' => e = .returned (.int .i64 (vsz key data (bump dash l l.length))) ∧ Below w.heap.size w w') := ⟨fun w a2 c2 h => size_any key seq mkr data _ w a2 l.length c2 bl h (by rw [bl]; omega)⟩
  have H4 : Hid (∀ w a2 c2, PIn w a2 (bump dash l l.length) → Calls Try.prog 22 #[vv key seq mkr data a2 l.length c2] w fun e w' => e = .returned (.int .i64 (vrE key mkr data (bump dash l l.length))) ∧ Below w.heap.size w w') := ⟨fun w a2 c2 h => rVersion_any key seq mkr data _ w a2 l.length c2 bl h (HZ.out _) (by rw [bl]; omega)⟩
  have H5 : Hid (∀ w a2 c2, PIn w a2 (bump dash l l.length) → Calls Try.prog 23 #[vv key seq mkr data a2 l.length c2] w fun e w' => e = .returned (.int .i64 (vsz key data (bump dash l l.length))) ∧ Below w.heap.size w w') := ⟨fun w a2 c2 h => rSize_any key seq mkr data _ w a2 l.length c2 bl h (by rw [bl]; omega)⟩
  have hkp := fun w ad c h1 h2 => kept_any l w ad a l.length c cap rfl h1 h2 hl
  generalize vrE key mkr data (bump dash l l.length) = V2 at *
  generalize vsz key data (bump dash l l.length) = S2 at *
  generalize vrE key mkr data l = V1 at *
  generalize vsz key data l = S1 at *
  clear hz2 bl hV
  go_enter Try.func8, Try.ntmps8
  go_wp2_with fail
  have v0 := Bv.new W (str key) (.int .i64 seq) (.bool mkr) (str data) (.slice a l.length cap)
  have B0 : Below W.heap.size W (W.alloc (.cells #[str key, .int .i64 seq, .bool mkr, str data, .slice a l.length cap] 32)) := (Below.refl _ _).alloc (Nat.le_refl _) _
  refine (first_any _).mono ?_
  rintro e w1 ⟨rfl, b1⟩
  dsimp only
  have v1 := v0.later b1
  have B1 := B0.trans (b1.mono B0.size)
  obtain ⟨p0, p1, p2, p3, p4, _⟩ := v1.cells
  have x1 := Bv.new w1 (str key) (.int .i64 seq) (.bool mkr) (str data) (.slice a l.length cap)
  have bx := (Below.refl w1.heap.size w1).alloc (Nat.le_refl _) (.cells #[str key, .int .i64 seq, .bool mkr, str data, .slice a l.length cap] 32)
  have v2 := v1.later bx
  have B2 := B1.trans (bx.mono B1.size)
  have hgv := v1.lt
  clear v0 B0 b1 v1
  go_wp2_with fail
  refine (lend_any l _ _ _ _ rfl (hS.later B2) hl).mono ?_
  rintro e w3 ⟨ad, c, rfl, o3, b3⟩
  dsimp only
  have x3 := x1.later b3
  have v3 := v2.later b3
  have B3 := B2.trans (b3.mono B2.size)
  obtain ⟨g, rfl, hg1, hg2, _⟩ := o3.at0 (by simp)
  rw [World.size_alloc] at hg1
  have hW1 := B1.size
  obtain ⟨q0, q1, q2, q3, q4, qf⟩ := x3.cells
  have qf4 := qf 4
  obtain ⟨r0, r1, r2, r3, r4, _⟩ := v3.cells
  have x4 := x3.set4 (.slice (some ⟨g, 0, none⟩) l.length c)
  have v4 := v3.other (g2 := w1.heap.size) (j := 4) (by omega) (.slice (some ⟨g, 0, none⟩) l.length c)
  have o4 := o3.other (g := w1.heap.size) (j := 4) (by show some g ≠ _; intro h; injection h with h; omega) (.slice (some ⟨g, 0, none⟩) l.length c)
  have B4 := B3.setCell (p := ⟨w1.heap.size, 4, none⟩) hW1 (.slice (some ⟨g, 0, none⟩) l.length c)
  clear x1 v2 B1 B2 bx b3 x3 v3 o3 B3 p0 p1 p2 p3 p4
  go_wp2_with fail
  generalize hw4 : w3.setCell ⟨w1.heap.size, 4, none⟩ (.slice (some ⟨g, 0, none⟩) l.length c) = w4 at *
  rw [World.size_alloc] at o4
  generalize w1.heap.size = gx at *
  clear qf qf4 q0 q1 q2 q3 q4 r0 r1 r2 r3 r4 hw4 hg2
  have s4 := o4.asSl
  with_reducible refine Calls.mono (HL.out w4 _ _ s4.head.at') ?_
  rintro e w5 ⟨rfl, b5⟩
  dsimp only
  have x5 := x4.later b5
  obtain ⟨q0, q1, q2, q3, q4, _⟩ := x5.cells
  go_wp2_with fail
  with_reducible refine Calls.mono (HS.out w5 _ _ (s4.later b5).head.at') ?_
  rintro e w6 ⟨rfl, b6⟩
  dsimp only
  have b46 := below_seq b5 b6
  have v6 := v4.later b46
  have B6 := B4.trans (b46.mono B4.size)
  clear x5 q0 q1 q2 q3 q4 b5 b6
  obtain ⟨r0, r1, r2, r3, r4, _⟩ := v6.cells
  go_wp2_with fail
  with_reducible refine Calls.mono (HRL.out w6 (hP.later B6)) ?_
  rintro e w7 ⟨rfl, b7⟩
  dsimp only
  have b47 := below_seq b46 b7
  have v7 := v4.later b47
  have B7 := B4.trans (b47.mono B4.size)
  clear v6 r0 r1 r2 r3 r4 b46 b7 B6
  obtain ⟨r0, r1, r2, r3, r4, _⟩ := v7.cells
  go_wp2_with fail
  with_reducible refine Calls.mono (HRS.out w7 (hP.later B7)) ?_
  rintro e w8 ⟨rfl, b8⟩
  dsimp only
  have b48 := below_seq b47 b8
  have v8 := v4.later b48
  have x8 := x4.later b48
  have B8 := B4.trans (b48.mono B4.size)
  have hk8 := hkp w8 _ _ (s4.later b48) (hP.later B8)
  clear v7 r0 r1 r2 r3 r4 b47 b8 B7 hkp
  obtain ⟨r0, r1, r2, r3, r4, _⟩ := v8.cells
  obtain ⟨q0, q1, q2, q3, q4, _⟩ := x8.cells
  go_wp2_with fail
  with_reducible refine Calls.mono hk8 ?_
  rintro e w9 ⟨rfl, b9⟩
  dsimp only
  have b49 := below_seq b48 b9
  have x9 := x4.later b49
  have o9 := o4.later b49
  have B9 := B4.trans (b49.mono B4.size)
  clear hk8 r0 r1 r2 r3 r4 q0 q1 q2 q3 q4 v8 x8 b48 b9 b49 B8 v4 x4 o4 s4 B4 HRL HRS HL HS
  go_wp2_with fail
  go_loopw [6] (fun i wr => ∃ k : Nat, k ≤ l.length ∧ i = .int .i64 (k : Int) ∧ Hid (Bv wr gx (str key) (.int .i64 seq) (.bool mkr) (str data) (.slice (some ⟨g, 0, none⟩) l.length c)) ∧ Hid (Ow (gx + 1) wr (.slice (some ⟨g, 0, none⟩) (l.length + 1) c) (bump dash l k ++ [mk])) ∧ Below W.heap.size W wr) (fun i _ => l.length - (intOf i).toNat)
  case atStart => exact ⟨0, by omega, rfl, ⟨x9⟩, ⟨by rw [bump_zero]; exact o9⟩, B9⟩
  case round =>
    obtain ⟨k, hk, rfl, HX, HO, hb⟩ := hrel
    obtain ⟨_, _, _, _, q4, _⟩ := HX.out.cells
    by_cases hlt : k < l.length
    · have d1 : decide ((k : Int) < (l.length : Int)) = true := decide_eq_true (by omega)
      have k2 : (k : Int) < (l.length : Int) := by omega
      obtain ⟨p, hp⟩ : ∃ p, l[k]? = some p := ⟨l[k], List.getElem?_eq_getElem hlt⟩
      have hbl := bump_len dash l k
      have hbg : (bump dash l k ++ [mk])[k]? = some p := by rw [List.getElem?_append_left (by omega)]; exact bump_get hp
      have hset : (bump dash l k ++ [mk]).set k ⟨p.key ++ [45], p.val⟩ = bump dash l (k + 1) ++ [mk] := by
        rw [List.set_append_left _ _ (by omega)]
        congr 1
        exact bump_set (f := dash) hp
      have hz1 := (hz k p hp).1
      have rad : ∀ w, (adS (str p.key) (.string ⟨#[45]⟩)).run Try.prog w = .ok (str (p.key ++ [45])) w := fun w => run_ad p.key [45] (by simp; omega) w
      obtain ⟨b', off', e', hb', c0, c1⟩ := HO.out.asSl.at'.get k p hbg
      injection e' with e'
      injection e' with e1 e2
      subst e1 e2
      rw [Nat.zero_add] at c0 c1
      obtain ⟨g', hg', hgb, _, hf⟩ := HO.out.at0 (by simp)
      injection hg' with hg'
      injection hg' with hg'
      subst hg'
      have hf0 := hf (k * 2)
      have O8 := Hid.mk (HO.out.key (by simp [bump_len]) hbg (p.key ++ [45]))
      rw [hset] at O8
      have X8 := Hid.mk (HX.out.other (g2 := g) (j := k * 2) (by omega) (str (p.key ++ [45])))
      have B8 := Hid.mk (hb.setCell (p := ⟨g, k * 2, none⟩) (by show _ ≤ g; omega) (str (p.key ++ [45])))
      have hw1 : wrap64 ((k : Int) + 1) = ((k + 1 : Nat) : Int) := by unfold wrap64; omega
      clear hset hbg hp hbl HO HX hb hf c1
      go_wp2_with fail
      go_region
      go_wp2_with fail
      exact ⟨⟨k + 1, by omega, by go_num, ⟨X8.out.drew⟩, ⟨O8.out.drew⟩, B8.out.drew⟩, by simp [intOf]; omega⟩
    · obtain rfl : k = l.length := by omega
      have d1 : decide ((l.length : Int) < (l.length : Int)) = false := decide_eq_false (by omega)
      have bl := bump_len dash l l.length
      obtain ⟨q0, q1, q2, q3, q4', _⟩ := HX.out.cells
      have x1 := HX.out
      have o1 := HO.out
      have hxl := x1.lt
      clear HX HO q4
      generalize bump dash l l.length = M at *
      have n1 := Bv.new wr (str key) (.int .i64 seq) (.bool mkr) (str data) (.slice (some ⟨g, 0, none⟩) l.length c)
      have bn := (Below.refl wr.heap.size wr).alloc (Nat.le_refl _) (.cells #[str key, .int .i64 seq, .bool mkr, str data, .slice (some ⟨g, 0, none⟩) l.length c] 32)
      have x2 := x1.later bn
      obtain ⟨y0, y1, y2, y3, y4, _⟩ := x2.cells
      have o2 := o1.later bn
      have B2 := hb.trans (bn.mono hb.size)
      generalize hWn : wr.alloc (.cells #[str key, .int .i64 seq, .bool mkr, str data, .slice (some ⟨g, 0, none⟩) l.length c] 32) = Wn at *
      have be := (Below.refl Wn.heap.size Wn).alloc (Nat.le_refl _) (.cells #[] 27)
      have x3 := x2.later be
      obtain ⟨_, _, _, _, z4, _⟩ := x3.cells
      have s3 := (o2.later be).asSl.head
      have BL := Hid.mk bl
      have hgw : g < wr.heap.size := by
        obtain ⟨g', hg', _, hlt, _⟩ := o1.at0 (by simp)
        injection hg' with hg'
        injection hg' with hg'
        rw [hg']; exact hlt
      clear bl
      go_wp2_with (refine app_sliceB rfl _ _ rfl M (Ow.empty (base := Wn.heap.size) Wn (Nat.le_refl _)) s3 BL.out (by rw [BL.out]; simp; omega) rfl rfl ?_; intro v10 w10 o10 b10; have n10 := n1.later (be.trans b10); obtain ⟨_, _, _, _, _, nf⟩ := n10.cells; have nf4 := nf 4; rw [List.nil_append] at o10; obtain ⟨a10, c10, hv10, s10⟩ := o10.sl; rw [BL.out] at hv10; subst hv10; have x11 := (x2.later (be.trans b10)).other (g2 := wr.heap.size) (j := 4) (by omega) (.slice a10 l.length c10); obtain ⟨t0, t1, t2, t3, t4, _⟩ := x11.cells)
      have B10 := B2.trans ((be.trans b10).mono B2.size)
      have o11 := (o2.later (be.trans b10)).other (g := wr.heap.size) (j := 4) (by show some g ≠ _; intro h; injection h with h; omega) (.slice a10 l.length c10)
      have n11 := n10.set4 (.slice a10 l.length c10)
      have ow11 := o10.other (g := wr.heap.size) (j := 4) (by
        intro h
        have := (o10.own.lt _ h).1
        have h2 := n1.lt
        omega) (.slice a10 l.length c10)
      have B11 := B10.setCell (p := ⟨wr.heap.size, 4, none⟩) hb.size (.slice a10 l.length c10)
      generalize hW11 : w10.setCell ⟨wr.heap.size, 4, none⟩ (.slice a10 l.length c10) = w11 at *
      generalize hgn : wr.heap.size = gn at *
      have PX := o11.asSl.head
      have PN : Sl w11 a10 c10 M := ow11.asSl
      clear t0 t1 t2 t3 t4 nf nf4 y0 y1 y2 y3 y4 z4 q0 q1 q2 q3 q4' n10 o10 b10 s10 o11 ow11 x1 x2 x3 o1 o2 s3 be bn n1 hW11
      with_reducible refine Calls.mono (H2.out w11 _ _ PX.at') ?_
      rintro e w12 ⟨rfl, b12⟩
      dsimp only
      have x12 := x11.later b12
      obtain ⟨q0, q1, q2, q3, q4, _⟩ := x12.cells
      go_wp2_with fail
      with_reducible refine Calls.mono (H3.out w12 _ _ (PX.later b12).at') ?_
      rintro e w13 ⟨rfl, b13⟩
      dsimp only
      have b1113 := below_seq b12 b13
      have n13 := n11.later b1113
      clear x12 q0 q1 q2 q3 q4 b12 b13
      obtain ⟨q0, q1, q2, q3, q4, _⟩ := n13.cells
      go_wp2_with fail
      with_reducible refine Calls.mono (H4.out w13 _ _ (PN.later b1113).at') ?_
      rintro e w14 ⟨rfl, b14⟩
      dsimp only
      have b1114 := below_seq b1113 b14
      have n14 := n11.later b1114
      clear n13 q0 q1 q2 q3 q4 b1113 b14
      obtain ⟨q0, q1, q2, q3, q4, _⟩ := n14.cells
      go_wp2_with fail
      with_reducible refine Calls.mono (H5.out w14 _ _ (PN.later b1114).at') ?_
      rintro e w15 ⟨rfl, b15⟩
      dsimp only
      go_wp2_with fail
      go_ret
      have b1115 := below_seq b1114 b15
      exact ⟨rfl, B11.trans (b1115.mono B11.size)⟩
end Go.Proofs.Ytehjhlaeojmciaa
