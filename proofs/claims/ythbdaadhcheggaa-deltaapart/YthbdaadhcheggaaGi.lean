import Derived.Test.YthbdaadhcheggaaDa
import Derived.Test.YthbdaadhcheggaaDg
import Derived.Test.YthbdaadhcheggaaDh
/- The examples. -/
namespace Go.Proofs.Ythbdaadhcheggaa
set_option linter.unusedVariables false
set_option linter.unusedSimpArgs false
open Go.RowKit
attribute [local go_sem ↓] Go.wp_at_zero Go.wp_at_succ
attribute [-go_sem] Go.Builtin.append_
def v1 : Vs := ⟨[97], 1, false, [120], []⟩
def v2 : Vs := ⟨[97], 4, true, [], []⟩
def v3 : Vs := ⟨[98], 2, false, [121], []⟩
/-- a row without pairs -/
def r0 (v : Vs) : Rv := ⟨v, [], none, 0⟩
theorem cp_lit {W : World} {g base : Nat} (L : List Vs) (hp : ∀ v ∈ L, v.l = []) (hl : L.length ≤ 100) (h : W.heap[g]? = some (.cells (rcells (L.map r0)).toArray 41 (0, 0))) (hb : base ≤ g) : Cp base W (.slice (some ⟨g, 0, none⟩) L.length L.length) L := by
  have hg : g < W.heap.size := (Array.getElem?_eq_some_iff.1 h).1
  have hlen : (L.map r0).length = L.length := List.length_map _
  have hz : ∀ (k : Nat) (r : Rv), (L.map r0)[k]? = some r → r.mv = .slice none 0 0 ∧ r.v.l ++ r.z = [] := fun k r hr => by
    rw [List.getElem?_map] at hr
    obtain ⟨v, hv, rfl⟩ := Option.map_eq_some_iff.1 hr
    have := hp v (List.mem_of_getElem? hv)
    unfold r0 Rv.mv
    simp [this]
  refine ⟨L.map r0, ⟨?_, Nat.le_of_lt (Nat.lt_of_le_of_lt hb hg), fun k r hr => ?_, fun j k r r' _ hj hk b hb2 => ?_⟩, ?_, ?_⟩
  · rw [hlen]
    refine ⟨by rw [rcells_length, hlen], Or.inr ⟨g, L.length, _, rfl, hb, h, Nat.le_refl _, by unfold maxLen; omega, by rw [List.size_toArray, rcells_length, hlen], ?_⟩⟩
    have := rcells_length (L.map r0)
    rw [hlen] at this
    simp [← this]
  · obtain ⟨e1, e2⟩ := hz k r hr
    rw [e1, e2]
    exact Ow.nil W base (Nat.le_of_lt (Nat.lt_of_le_of_lt hb hg))
  · rw [(hz j r hj).1] at hb2; cases hb2
  · rw [List.map_map]
    have : ((·.v) ∘ r0) = id := rfl
    rw [this, List.map_id]
  · intro r hr
    obtain ⟨v, _, rfl⟩ := List.mem_map.1 hr
    rfl
abbrev ex3 : List Vs := [v1, v2, v3]
set_option maxRecDepth 100000 in
theorem example_any (w : World) : Calls Try.prog 18 #[] w fun e w' => ∃ v, e = .returned (.agg #[.int .i64 5, v]) ∧ Cp w.heap.size w' v ex3 ∧ Below w.heap.size w w' := by
  have b1 := (Below.refl w.heap.size w).alloc (Nat.le_refl _) (.cells #[.int .i64 5, .slice (some ⟨w.heap.size + 1, 0, none⟩) 3 3] 24)
  have b2 := b1.alloc b1.size (.cells (rcells (ex3.map r0)).toArray 41)
  have z2 := (Bq.new w (.int .i64 5) (.slice (some ⟨w.heap.size + 1, 0, none⟩) 3 3)).later ((Below.refl _ _).alloc (Nat.le_refl _) (.cells (rcells (ex3.map r0)).toArray 41))
  have c2 := cp_lit (W := (w.alloc (.cells #[.int .i64 5, .slice (some ⟨w.heap.size + 1, 0, none⟩) 3 3] 24)).alloc (.cells (rcells (ex3.map r0)).toArray 41)) (g := w.heap.size + 1) (base := w.heap.size) ex3 (by simp [v1, v2, v3]) (by decide) (by
    have := heap_alloc_new (w.alloc (.cells #[.int .i64 5, .slice (some ⟨w.heap.size + 1, 0, none⟩) 3 3] 24)) (.cells (rcells (ex3.map r0)).toArray 41)
    rwa [World.size_alloc] at this) (Nat.le_succ _)
  go_enter Try.func18, Try.ntmps18
  go_wp2_with fail
  obtain ⟨g0, g1, _⟩ := z2.cells
  refine bodyPost_ret (v := .agg #[.int .i64 5, .slice (some ⟨w.heap.size + 1, 0, none⟩) 3 3]) ?_ rfl ⟨_, rfl, c2, b2⟩
  rw [results_cell1 rfl]
  go_simp
theorem sn36 : snL 3 ex3 = [v2] := rfl
theorem mg3 : mg [v1, v3] [v2] = ex3 := by
  rw [mg_left (by decide), mg_right (by decide), mg_nil2]
theorem ap0 : apE 3 3 [v1, v3] [v2] = 0 := by decide +kernel
theorem ap9 : apE 5 3 ex3 [v2] = 91 := by decide +kernel
theorem rt2 : RtD 3 5 [v2] := by
  refine ⟨⟨by decide, by decide, by decide, fun v hv => ?_, by decide, by decide, by decide +kernel⟩, by decide, by decide, by decide⟩
  simp at hv
  subst hv
  refine ⟨by decide, by decide, vrV_iff.2 ⟨⟨?_, ?_, ?_⟩, fun _ => ⟨rfl, rfl⟩⟩⟩
  · unfold keyE; rw [if_pos (by decide)]
  · unfold datE; rw [if_pos (by decide)]
  · unfold mtE; rw [if_pos ⟨by decide, by simp [v2], Srt.nil⟩]
theorem rt6 : ¬ RtD 6 5 ex3 := fun h => by have := h.s2; omega
theorem li_cp {base : Nat} {w : World} {a : Option Addr} {n c : Nat} {L : List Vs} (h : Cp base w (.slice a n c) L) (hl : L.length ≤ 1000) (hz : ∀ v ∈ L, v.l.length ≤ 4398046510976) : Li w L a n c ∧ n = L.length := by
  obtain ⟨a', c', e, s⟩ := h.ls
  injection e with e1 e2 e3
  subst e1 e2 e3
  exact ⟨⟨rfl, s, by omega, hz⟩, rfl⟩
theorem zz3 : ∀ v ∈ ex3, v.l.length ≤ 4398046510976 := by decide
theorem zz2 : ∀ v ∈ [v2], v.l.length ≤ 4398046510976 := by decide
theorem zz13 : ∀ v ∈ [v1, v3], v.l.length ≤ 4398046510976 := by decide
set_option maxRecDepth 100000 in
set_option maxHeartbeats 4000000 in
theorem first_any (w : World) : Calls Try.prog 4 #[] w fun e w' => e = .returned (.bool true) ∧ Below w.heap.size w w' := by
  go_enter Try.func4, Try.ntmps4
  go_wp2_with fail
  with_reducible refine Calls.mono (example_any _) ?_
  rintro e w1 ⟨a1, rfl, o1, b1⟩
  obtain ⟨xa, xc, ex, _⟩ := o1.ls
  have ex : a1 = .slice xa 3 xc := ex
  subst ex
  dsimp only
  have bx := (Below.refl w1.heap.size w1).alloc (Nat.le_refl _) (.cells #[.int .i64 5, .slice xa 3 xc] 24)
  have z1 := Bq.new w1 (.int .i64 5) (.slice xa 3 xc)
  have HL1 := Hid.mk (li_cp (o1.later bx) (by decide) zz3).1
  have HZ1 := Hid.mk z1
  have hs1 := dSince_any ex3 5 3 _ xa 3 xc HL1.out
  obtain ⟨p0, p1, _⟩ := z1.cells
  have B1 := Hid.mk (b1.trans (bx.mono b1.size))
  clear o1 b1 z1
  go_wp2_with fail
  clear p0 p1 bx
  generalize w1.alloc (.cells #[.int .i64 5, .slice xa 3 xc] 24) = w2 at *
  with_reducible refine Calls.mono hs1 ?_
  rintro e w3 ⟨hsn, c3⟩
  rcases hsn with ⟨_, _, dv3, rfl, o3⟩ | ⟨hno, _⟩
  · rw [sn36] at o3
    obtain ⟨da, dc, ed, _⟩ := o3.ls
    have ed : dv3 = .slice da 1 dc := ed
    subst ed
    dsimp only
    have by3 := (Below.refl w3.heap.size w3).alloc (Nat.le_refl _) (.cells #[.int .i64 3, .int .i64 5, .slice da 1 dc] 31)
    have HD := Hid.mk (Bd.new w3 (.int .i64 3) (.int .i64 5) (.slice da 1 dc))
    have cb := c3.trans (by3.mono c3.size)
    have HL2 := Hid.mk (HL1.out.later cb)
    have HZ2 := Hid.mk (HZ1.out.later cb)
    have HM2 := Hid.mk (li_cp (o3.later by3) (by decide) zz2).1
    have B2 := Hid.mk (B1.out.trans (cb.mono B1.out.size))
    have hs2 := dSince_any ex3 5 6 _ xa 3 xc HL2.out
    obtain ⟨p0, p1, _⟩ := HZ2.out.cells
    clear HL1 HZ1 B1 o3 c3 hs1 by3 cb
    go_wp2_with fail
    clear p0 p1
    generalize w3.alloc (.cells #[.int .i64 3, .int .i64 5, .slice da 1 dc] 31) = w4 at *
    with_reducible refine Calls.mono hs2 ?_
    rintro e w5 ⟨hsn, c5⟩
    rcases hsn with ⟨_, hno, _⟩ | ⟨_, rfl⟩
    · exact absurd hno (by decide)
    · dsimp only
      have bz := (((Below.refl w5.heap.size w5).alloc (Nat.le_refl _) (.cells #[.int .i64 0, .int .i64 0, .slice none 0 0] 31)).alloc (by simp) (.cells #[.string ⟨#[97]⟩, .int .i64 1, .bool false, .string ⟨#[120]⟩, .slice none 0 0, .string ⟨#[98]⟩, .int .i64 2, .bool false, .string ⟨#[121]⟩, .slice none 0 0] 41)).alloc (by simp; omega) (.cells #[.int .i64 3, .slice (some ⟨w5.heap.size + 1, 0, none⟩) 2 2] 24)
      have HU : Hid (Bq (((w5.alloc (.cells #[.int .i64 0, .int .i64 0, .slice none 0 0] 31)).alloc (.cells #[.string ⟨#[97]⟩, .int .i64 1, .bool false, .string ⟨#[120]⟩, .slice none 0 0, .string ⟨#[98]⟩, .int .i64 2, .bool false, .string ⟨#[121]⟩, .slice none 0 0] 41)).alloc (.cells #[.int .i64 3, .slice (some ⟨w5.heap.size + 1, 0, none⟩) 2 2] 24)) (w5.heap.size + 1 + 1) (.int .i64 3) (.slice (some ⟨w5.heap.size + 1, 0, none⟩) 2 2)) := ⟨by
        have := heap_alloc_new ((w5.alloc (.cells #[.int .i64 0, .int .i64 0, .slice none 0 0] 31)).alloc (.cells #[.string ⟨#[97]⟩, .int .i64 1, .bool false, .string ⟨#[120]⟩, .slice none 0 0, .string ⟨#[98]⟩, .int .i64 2, .bool false, .string ⟨#[121]⟩, .slice none 0 0] 41)) (.cells #[.int .i64 3, .slice (some ⟨w5.heap.size + 1, 0, none⟩) 2 2] 24)
        rw [World.size_alloc, World.size_alloc] at this
        exact this⟩
      have HUL : Hid (Li (((w5.alloc (.cells #[.int .i64 0, .int .i64 0, .slice none 0 0] 31)).alloc (.cells #[.string ⟨#[97]⟩, .int .i64 1, .bool false, .string ⟨#[120]⟩, .slice none 0 0, .string ⟨#[98]⟩, .int .i64 2, .bool false, .string ⟨#[121]⟩, .slice none 0 0] 41)).alloc (.cells #[.int .i64 3, .slice (some ⟨w5.heap.size + 1, 0, none⟩) 2 2] 24)) [v1, v3] (some ⟨w5.heap.size + 1, 0, none⟩) 2 2) := ⟨(li_cp (cp_lit (g := w5.heap.size + 1) (base := 0) [v1, v3] (by simp [v1, v3]) (by decide) (by
        have := heap_alloc_new (w5.alloc (.cells #[.int .i64 0, .int .i64 0, .slice none 0 0] 31)) (.cells #[.string ⟨#[97]⟩, .int .i64 1, .bool false, .string ⟨#[120]⟩, .slice none 0 0, .string ⟨#[98]⟩, .int .i64 2, .bool false, .string ⟨#[121]⟩, .slice none 0 0] 41)
        rw [World.size_alloc] at this
        rw [heap_alloc_old _ _ (by simp)]
        exact this) (Nat.zero_le _)) (by decide) zz13).1⟩
      have cb := c5.trans (bz.mono c5.size)
      have HL5 := Hid.mk (HL2.out.later cb)
      have HZ5 := Hid.mk (HZ2.out.later cb)
      have HD5 := Hid.mk (HD.out.later cb)
      have HM5 := Hid.mk (HM2.out.later cb)
      have B5 := Hid.mk (B2.out.trans (cb.mono B2.out.size))
      have ha1 := dApply_any [v1, v3] [v2] 3 3 5 _ (some ⟨w5.heap.size + 1, 0, none⟩) 2 2 da 1 dc HUL.out HM5.out
      obtain ⟨q0, q1, q2, _⟩ := HD5.out.cells
      obtain ⟨t0, t1, _⟩ := HU.out.cells
      clear HL2 HZ2 HD HM2 B2 hs2 bz cb c5
      go_wp2_with fail
      clear q0 q1 q2 t0 t1
      generalize ((w5.alloc (.cells #[.int .i64 0, .int .i64 0, .slice none 0 0] 31)).alloc (.cells #[.string ⟨#[97]⟩, .int .i64 1, .bool false, .string ⟨#[120]⟩, .slice none 0 0, .string ⟨#[98]⟩, .int .i64 2, .bool false, .string ⟨#[121]⟩, .slice none 0 0] 41)).alloc (.cells #[.int .i64 3, .slice (some ⟨w5.heap.size + 1, 0, none⟩) 2 2] 24) = w8 at *
      with_reducible refine Calls.mono ha1 ?_
      rintro e w9 ⟨hap, c9⟩
      rcases hap with ⟨_, av, rfl, o9⟩ | ⟨hno, _⟩
      · rw [mg3] at o9
        obtain ⟨ya, yc, ey, _⟩ := o9.ls
        have ey : av = .slice ya 3 yc := ey
        subst ey
        dsimp only
        have by9 := (Below.refl w9.heap.size w9).alloc (Nat.le_refl _) (.cells #[.int .i64 5, .slice ya 3 yc] 24)
        have HW9 := Hid.mk (Bq.new w9 (.int .i64 5) (.slice ya 3 yc))
        have cb := c9.trans (by9.mono c9.size)
        have HLW := Hid.mk (li_cp (o9.later by9) (by decide) zz3).1
        have HL9 := Hid.mk (HL5.out.later cb)
        have HZ9 := Hid.mk (HZ5.out.later cb)
        have HD9 := Hid.mk (HD5.out.later cb)
        have HM9 := Hid.mk (HM5.out.later cb)
        have B9 := Hid.mk (B5.out.trans (cb.mono B5.out.size))
        have ha2 := dApply_any ex3 [v2] 5 3 5 _ xa 3 xc da 1 dc HL9.out HM9.out
        obtain ⟨p0, p1, _⟩ := HZ9.out.cells
        obtain ⟨q0, q1, q2, _⟩ := HD9.out.cells
        clear HL5 HZ5 HD5 HM5 B5 ha1 by9 cb c9 o9 HU HUL
        go_wp2_with fail
        clear p0 p1 q0 q1 q2
        generalize w9.alloc (.cells #[.int .i64 5, .slice ya 3 yc] 24) = w10 at *
        with_reducible refine Calls.mono ha2 ?_
        rintro e w11 ⟨hap, c11⟩
        rcases hap with ⟨hno, _⟩ | ⟨_, rfl⟩
        · rw [ap9] at hno
          exact absurd hno (by decide)
        · rw [ap9]
          dsimp only
          have bz := (Below.refl w11.heap.size w11).alloc (Nat.le_refl _) (.cells #[.int .i64 0, .slice none 0 0] 24)
          have bz2 := bz.alloc bz.size (.cells #[.string ⟨#[97]⟩, .int .i64 4, .bool true, .string ⟨#[]⟩, .slice none 0 0] 41)
          have HX : Hid (Li ((w11.alloc (.cells #[.int .i64 0, .slice none 0 0] 24)).alloc (.cells #[.string ⟨#[97]⟩, .int .i64 4, .bool true, .string ⟨#[]⟩, .slice none 0 0] 41)) [v2] (some ⟨w11.heap.size + 1, 0, none⟩) 1 1) := ⟨(li_cp (cp_lit (g := w11.heap.size + 1) (base := 0) [v2] (by simp [v2]) (by decide) (by
            have := heap_alloc_new (w11.alloc (.cells #[.int .i64 0, .slice none 0 0] 24)) (.cells #[.string ⟨#[97]⟩, .int .i64 4, .bool true, .string ⟨#[]⟩, .slice none 0 0] 41)
            rw [World.size_alloc] at this
            exact this) (Nat.zero_le _)) (by decide) zz2).1⟩
          have cb := c11.trans (bz.mono c11.size)
          have cb2 := c11.trans (bz2.mono c11.size)
          obtain ⟨q0, q1, q2, _⟩ := (HD9.out.later cb).cells
          have HC : Hid (∀ w', Below ((w11.alloc (.cells #[.int .i64 0, .slice none 0 0] 24)).alloc (.cells #[.string ⟨#[97]⟩, .int .i64 4, .bool true, .string ⟨#[]⟩, .slice none 0 0] 41)).heap.size ((w11.alloc (.cells #[.int .i64 0, .slice none 0 0] 24)).alloc (.cells #[.string ⟨#[97]⟩, .int .i64 4, .bool true, .string ⟨#[]⟩, .slice none 0 0] 41)) w' → Bq w' w1.heap.size (.int .i64 5) (.slice xa 3 xc) ∧ Bq w' w9.heap.size (.int .i64 5) (.slice ya 3 yc) ∧ Bd w' w3.heap.size (.int .i64 3) (.int .i64 5) (.slice da 1 dc) ∧ Li w' ex3 xa 3 xc ∧ Li w' ex3 ya 3 yc ∧ Li w' [v2] da 1 dc ∧ Below w.heap.size w w') := ⟨fun w' h => by
            have h2 := cb2.trans (h.mono cb2.size)
            exact ⟨HZ9.out.later h2, HW9.out.later h2, HD9.out.later h2, HL9.out.later h2, HLW.out.later h2, HM9.out.later h2, B9.out.trans (h2.mono B9.out.size)⟩⟩
          have hsm := eSame_eq 3 5 [v2] _ da dc (some ⟨w11.heap.size + 1, 0, none⟩) 1 (HM9.out.later cb2) HX.out (by decide)
          clear HL9 HZ9 HD9 HM9 B9 HW9 HLW ha2 cb cb2 bz bz2 c11 HX
          go_wp2_with fail
          clear q0 q1 q2
          generalize (w11.alloc (.cells #[.int .i64 0, .slice none 0 0] 24)).alloc (.cells #[.string ⟨#[97]⟩, .int .i64 4, .bool true, .string ⟨#[]⟩, .slice none 0 0] 41) = w13 at *
          with_reducible refine Calls.mono hsm ?_
          rintro e w14 ⟨rfl, c14⟩
          dsimp only
          obtain ⟨z1, z2, z3, l1, l2, l3, bb⟩ := HC.out w14 c14
          have hq := qSame_eq 5 ex3 w14 ya yc xa xc l2 l1 (by decide)
          obtain ⟨p0, p1, _⟩ := z1.cells
          obtain ⟨t0, t1, _⟩ := z2.cells
          obtain ⟨q0, q1, q2, _⟩ := z3.cells
          clear z1 z2 z3 l1 l2 l3 bb hsm
          go_wp2_with fail
          clear p0 p1 t0 t1 q0 q1 q2
          with_reducible refine Calls.mono hq ?_
          rintro e w15 ⟨rfl, c15⟩
          dsimp only
          have c15' := c14.trans (c15.mono c14.size)
          obtain ⟨z1, z2, z3, l1, l2, l3, bb⟩ := HC.out w15 c15'
          have hr := dRight_any [v2] 3 5 w15 da 1 dc l3
          obtain ⟨p0, p1, _⟩ := z1.cells
          obtain ⟨q0, q1, q2, _⟩ := z3.cells
          clear z1 z2 z3 l1 l2 l3 bb hq c14 c15
          go_wp2_with fail
          clear p0 p1 q0 q1 q2
          with_reducible refine Calls.mono hr ?_
          rintro e w16 ⟨⟨t, rfl, ht⟩, c16⟩
          obtain rfl : t = true := ht.2 rt2
          dsimp only
          have c16' := c15'.trans (c16.mono c15'.size)
          obtain ⟨z1, z2, z3, l1, l2, l3, bb⟩ := HC.out w16 c16'
          have hr := dRight_any ex3 6 5 w16 xa 3 xc l1
          obtain ⟨p0, p1, _⟩ := z1.cells
          clear z1 z2 z3 l1 l2 l3 bb c15' c16 ht
          go_wp2_with fail
          clear p0 p1
          with_reducible refine Calls.mono hr ?_
          rintro e w17 ⟨⟨t, rfl, ht⟩, c17⟩
          obtain rfl : t = false := by
            cases t with
            | false => rfl
            | true => exact absurd (ht.1 rfl) rt6
          dsimp only
          obtain ⟨_, _, _, _, _, _, bb⟩ := HC.out w17 (c16'.trans (c17.mono c16'.size))
          go_wp2_with fail
          go_ret
          exact ⟨rfl, bb⟩
      · exact absurd ap0 hno
  · exact absurd ⟨by decide, by decide⟩ hno
end Go.Proofs.Ythbdaadhcheggaa

/- What a delta's laws stand on. -/
namespace Go.Proofs.Ythbdaadhcheggaa
set_option linter.unusedVariables false
set_option linter.unusedSimpArgs false
open Go.RowKit
theorem sN_le {next : Int} {L : List Vs} (h : RtB next L) : 0 ≤ bw L ∧ bw L ≤ 65536 := ⟨by rw [h.bws]; exact Int.natCast_nonneg _, h.byt⟩
theorem wr_sum {n1 n2 : Int} {L M : List Vs} (h1 : RtB n1 L) (h2 : RtB n2 M) : wrap64 (bw L + bw M) = bw L + bw M := by
  have a1 := sN_le h1
  have a2 := sN_le h2
  unfold wrap64
  omega
theorem ap_zero {m n1 n2 : Int} {b d : List Vs} (hb : RtB n1 b) (hd : RtB n2 d) (hl : b.length + d.length ≤ 256) (hw : bw b + bw d ≤ 65536) : apE m m b d = 0 := by
  unfold apE
  rw [if_neg (by simp), if_neg (by omega), wr_sum hb hd, if_neg (by omega)]
theorem ap_part {next m : Int} {L : List Vs} (h : RtB next L) (k : Int) : apE k k (blL m L) (snL m L) = 0 := by
  refine ap_zero (n1 := next) (n2 := next) (h.sub List.filter_sublist) (h.sub List.filter_sublist) ?_ ?_
  · rw [part_len]; exact h.len
  · rw [part_bw h]; exact h.byt
theorem ap_step {next m n : Int} {L : List Vs} (h : RtB next L) (hmn : m ≤ n) (k : Int) : apE k k (blL m L) (snL m (blL n L)) = 0 := by
  have := ap_part (m := m) (h.sub (M := blL n L) List.filter_sublist) k
  rw [bl_bl hmn] at this
  exact this
theorem sn_next {next : Int} {L : List Vs} (h : RtB next L) : snL next L = [] := by
  unfold snL
  rw [List.filter_eq_nil_iff]
  intro v hv
  have := (h.ok v hv).2.1
  simp only [decide_eq_true_eq]
  omega
theorem ap_again {next : Int} {L : List Vs} (h : RtB next L) (k : Int) : apE k k L (snL next L) = 0 := by
  rw [sn_next h]
  have hl := h.len
  have hb := sN_le h
  unfold apE
  rw [if_neg (by simp), if_neg (by simp; omega)]
  have : bw [] = 0 := rfl
  rw [this, Int.add_zero]
  have e : wrap64 (bw L) = bw L := by unfold wrap64; omega
  rw [e, if_neg (by omega)]
theorem mg_again {next : Int} {L : List Vs} (h : RtB next L) : mg L (snL next L) = L := by rw [sn_next h, mg_nil2]
theorem ap_ne {next since : Int} {L M : List Vs} (h : ¬ since = next) : apE next since L M = 91 := by unfold apE; rw [if_pos h]
/-- a bucket in its box -/
structure Bk (w : World) (g : Nat) (next : Int) (L : List Vs) (a : Option Addr) (c : Nat) : Prop where
  z : Bq w g (.int .i64 next) (.slice a L.length c)
  l : Li w L a L.length c
theorem Bk.later {w w' : World} {g : Nat} {next : Int} {L : List Vs} {a : Option Addr} {c : Nat} (h : Bk w g next L a c) (hb : Below w.heap.size w w') : Bk w' g next L a c := ⟨h.z.later hb, h.l.later hb⟩
theorem Bk.new {w : World} {next : Int} {L : List Vs} {a : Option Addr} {c : Nat} (h : Li w L a L.length c) : Bk (w.alloc (.cells #[.int .i64 next, .slice a L.length c] 24)) w.heap.size next L a c := ⟨Bq.new _ _ _, h.later ((Below.refl _ _).alloc (Nat.le_refl _) _)⟩
/-- a delta in its box -/
structure Dk (w : World) (g : Nat) (since next : Int) (L : List Vs) (a : Option Addr) (c : Nat) : Prop where
  z : Bd w g (.int .i64 since) (.int .i64 next) (.slice a L.length c)
  l : Li w L a L.length c
theorem Dk.later {w w' : World} {g : Nat} {since next : Int} {L : List Vs} {a : Option Addr} {c : Nat} (h : Dk w g since next L a c) (hb : Below w.heap.size w w') : Dk w' g since next L a c := ⟨h.z.later hb, h.l.later hb⟩
theorem Dk.new {w : World} {since next : Int} {L : List Vs} {a : Option Addr} {c : Nat} (h : Li w L a L.length c) : Dk (w.alloc (.cells #[.int .i64 since, .int .i64 next, .slice a L.length c] 31)) w.heap.size since next L a c := ⟨Bd.new _ _ _ _, h.later ((Below.refl _ _).alloc (Nat.le_refl _) _)⟩
theorem bl_alloc (w : World) (o : Obj) : Below w.heap.size w (w.alloc o) := (Below.refl _ _).alloc (Nat.le_refl _) o
theorem Cp.li {base : Nat} {w : World} {v : Value} {L : List Vs} (h : Cp base w v L) (hl : L.length ≤ 1954687338240) (hz : ∀ v ∈ L, v.l.length ≤ 4398046510976) : ∃ a c, v = .slice a L.length c ∧ Li w L a L.length c := by
  obtain ⟨a, c, e, s⟩ := h.ls
  exact ⟨a, c, e, ⟨rfl, s, hl, hz⟩⟩
theorem bal {w w' : World} (h : Below w.heap.size w w') (o : Obj) : Below w.heap.size w (w'.alloc o) := h.alloc h.size o
theorem bset {B : Nat} {w w' : World} (h : Below B w w') {g : Nat} (hg : B ≤ g) (x y : Value) : Below B w ((w'.setCell ⟨g, 0, none⟩ x).setCell ⟨g, 1, none⟩ y) := (h.setCell (p := ⟨g, 0, none⟩) hg x).setCell (p := ⟨g, 1, none⟩) hg y
theorem bk_sets {w6 : World} {g base : Nat} {nx : Int} {X : List Vs} {za : Option Addr} {zc : Nat} {x y : Value} (hz : Bq w6 g x y) (hc : Cp base w6 (.slice za X.length zc) X) (hg : g < base) (hl : X.length ≤ 1954687338240 ∧ ∀ v ∈ X, v.l.length ≤ 4398046510976) : Bk ((w6.setCell ⟨g, 0, none⟩ (.int .i64 nx)).setCell ⟨g, 1, none⟩ (.slice za X.length zc)) g nx X za zc := by
  refine ⟨(hz.set0 _).set1 _, ?_⟩
  obtain ⟨a, c, e, s⟩ := ((hc.low hg (j := 0) (.int .i64 nx)).low hg (j := 1) (.slice za X.length zc)).ls
  injection e with e1 e2 e3
  subst e1 e3
  exact ⟨rfl, s, hl.1, hl.2⟩
theorem bk_news {w6 : World} {base : Nat} {nx : Int} {X : List Vs} {za : Option Addr} {zc : Nat} (hc : Cp base w6 (.slice za X.length zc) X) (hl : X.length ≤ 1954687338240 ∧ ∀ v ∈ X, v.l.length ≤ 4398046510976) : Bk (w6.alloc (.cells #[.int .i64 nx, .slice za X.length zc] 24)) w6.heap.size nx X za zc := by
  obtain ⟨a, c, e, s⟩ := hc.ls
  injection e with e1 e2 e3
  subst e1 e3
  exact Bk.new ⟨rfl, s, hl.1, hl.2⟩
theorem zq1 {w w5 : World} (h : Below (w.alloc (.cells #[.int .i64 0, .slice none 0 0] 24)).drew.heap.size (w.alloc (.cells #[.int .i64 0, .slice none 0 0] 24)).drew w5) : Bq w5 w.heap.size (.int .i64 0) (.slice none 0 0) := Bq.later (w := (w.alloc (.cells #[.int .i64 0, .slice none 0 0] 24)).drew) (Bq.new w _ _) h
theorem zq2 {w w5 : World} (h : Below (w.alloc (.cells #[.int .i64 0, .slice none 0 0] 24)).heap.size (w.alloc (.cells #[.int .i64 0, .slice none 0 0] 24)) w5) : Bq w5 w.heap.size (.int .i64 0) (.slice none 0 0) := Bq.later (Bq.new w _ _) h
theorem Bd.other {w : World} {g : Nat} {x y z : Value} (h : Bd w g x y z) {g2 j : Nat} (hg : g ≠ g2) (c : Value) : Bd (w.setCell ⟨g2, j, none⟩ c) g x y z := by
  unfold Bd
  rw [heap_setCell_other _ _ _ _ (by first | exact hg | exact hg.symm)]; exact h
theorem ap_count {next : Int} {L M : List Vs} (h : 256 < L.length + M.length) : apE next next L M = 75 := by
  unfold apE
  rw [if_neg (by simp), if_pos h]
theorem ap_bytes {next : Int} {L M : List Vs} (h : ¬ 256 < L.length + M.length) (hb : 65536 < wrap64 (bw L + bw M)) : apE next next L M = 76 := by
  unfold apE
  rw [if_neg (by simp), if_neg h, if_pos hb]
theorem ap_ok {next : Int} {L M : List Vs} (h : ¬ 256 < L.length + M.length) (hb : ¬ 65536 < wrap64 (bw L + bw M)) : apE next next L M = 0 := by
  unfold apE
  rw [if_neg (by simp), if_neg h, if_neg hb]
/-- what Apply tells, in one form -/
def aX (next since : Int) (L M : List Vs) : List Vs := if apE next since L M = 0 then mg L M else []
def aN (next since mnext : Int) (L M : List Vs) : Int := if apE next since L M = 0 then mnext else 0
theorem aX_ok {next since : Int} {L M : List Vs} (h : apE next since L M = 0) : aX next since L M = mg L M := by unfold aX; rw [if_pos h]
theorem aX_no {next since : Int} {L M : List Vs} (h : ¬ apE next since L M = 0) : aX next since L M = [] := by unfold aX; rw [if_neg h]
theorem aN_ok {next since mnext : Int} {L M : List Vs} (h : apE next since L M = 0) : aN next since mnext L M = mnext := by unfold aN; rw [if_pos h]
theorem aN_no {next since mnext : Int} {L M : List Vs} (h : ¬ apE next since L M = 0) : aN next since mnext L M = 0 := by unfold aN; rw [if_neg h]
theorem aX_z {next since : Int} {L M : List Vs} (h1 : ∀ v ∈ L, v.l.length ≤ 4398046510976) (h2 : ∀ v ∈ M, v.l.length ≤ 4398046510976) : ∀ v ∈ aX next since L M, v.l.length ≤ 4398046510976 := fun v hv => by
  unfold aX at hv
  split at hv
  · rcases mg_mem.1 hv with q | q
    · exact h1 v q
    · exact h2 v q
  · simp at hv
theorem aX_l {next since : Int} {L M : List Vs} : (aX next since L M).length ≤ 256 := by
  unfold aX
  split
  · rename_i h
    unfold apE at h
    split at h
    · omega
    · split at h
      · omega
      · rw [mg_len]; omega
  · simp
theorem ApP.uni {next since mnext : Int} {L M : List Vs} {w w' : World} {e : Ending} (h : ApP next since mnext L M w w' e) (hb : Below w.heap.size w w') : ∃ za zc, e = .returned (.tuple #[bv (aN next since mnext L M) za (aX next since L M).length zc, .int .i64 (apE next since L M)]) ∧ Cp w.heap.size w' (.slice za (aX next since L M).length zc) (aX next since L M) := by
  rcases h with ⟨h0, v, rfl, o⟩ | ⟨h0, rfl⟩
  · rw [aX_ok h0, aN_ok h0, h0]
    obtain ⟨za, zc, rfl, _⟩ := o.ls
    exact ⟨za, zc, rfl, o⟩
  · rw [aX_no h0, aN_no h0]
    exact ⟨none, 0, rfl, Cp.nil _ _ hb.size⟩
theorem bl_z {m : Int} {L : List Vs} (h : ∀ v ∈ L, v.l.length ≤ 4398046510976) : ∀ v ∈ blL m L, v.l.length ≤ 4398046510976 := fun v hv => h v (blL_mem hv).1
theorem sn_z {m : Int} {L : List Vs} (h : ∀ v ∈ L, v.l.length ≤ 4398046510976) : ∀ v ∈ snL m L, v.l.length ≤ 4398046510976 := fun v hv => h v (snL_mem hv).1
end Go.Proofs.Ythbdaadhcheggaa
