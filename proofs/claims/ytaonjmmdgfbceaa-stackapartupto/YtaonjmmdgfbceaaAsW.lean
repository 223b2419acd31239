/- StackAsks: the walk. -/
import Derived.Test.YtaonjmmdgfbceaaPuW
import Derived.Test.YtaonjmmdgfbceaaRwr
namespace Go.Proofs.Ytaonjmmdgfbceaa
set_option linter.unusedVariables false
set_option linter.unusedSimpArgs false
open Go.RowKit
attribute [local go_sem ↓] Go.wp_at_zero Go.wp_at_succ
attribute [local go_sem ↓] slVe
theorem geV_z {L : List Vs} {s : Int} (hz : ∀ u ∈ L, u.l.length ≤ 4398046510976) : (geV L s).l.length ≤ 4398046510976 := by
  unfold geV
  split
  · simp [vs0]
  · rename_i k hk
    obtain ⟨⟨v, h1, h2⟩, _⟩ := plc_some hk
    rw [List.getD_eq_getElem?_getD, h1]
    exact hz v (List.mem_of_getElem? h1)
theorem rmL_mem {L : List Vs} {s : Int} : ∀ u ∈ rmL L s, u ∈ L := by
  intro u hu
  unfold rmL at hu
  split at hu
  · simp at hu
  · rcases List.mem_append.1 hu with q | q
    · exact List.mem_of_mem_take q
    · exact List.mem_of_mem_drop q
theorem rmL_len (L : List Vs) (s : Int) : (rmL L s).length ≤ L.length := by
  unfold rmL
  split
  · simp
  · rw [List.length_append, List.length_take, List.length_drop]; omega
theorem snc_mem {L : List Vs} {m : Int} : ∀ u ∈ snc L m, u ∈ L := fun u hu => (List.mem_filter.1 hu).1
set_option maxHeartbeats 4000000 in
theorem stackAsks_walk (L : List Vs) (a : Option Addr) (cap : Nat) (s m : Int) (W : World) (hL : Li W L a L.length cap) (hl1 : L.length ≤ 1954687338211) (hs1 : -9223372036854775808 ≤ s) (hs2 : s ≤ 9223372036854775807) (hm1 : -9223372036854775808 ≤ m) (hm2 : m ≤ 9223372036854775807) :
    Calls Try.prog 7 #[.slice a L.length cap, .int .i64 s, .int .i64 m] W fun e W' => e = .returned (.bool true) ∧ Below W.heap.size W W' := by
  have hLL := Hid.mk hL
  have hzz := hL.z
  have hvz := Hid.mk (geV_z (s := s) hzz)
  clear hL hs1 hs2 hm1 hm2
  go_enter Try.func7, Try.ntmps7
  go_wp2_with fail
  with_reducible refine Calls.mono (head_any _) ?_
  rintro e w1 ⟨rfl, B1⟩
  dsimp only
  go_wp2_with fail
  with_reducible refine Calls.mono (rGet_any L s w1 a _ cap (hLL.out.later B1)) ?_
  rintro e w2 ⟨ga, gc, rfl, go2, b2⟩
  dsimp only
  have B2 := B1.trans (b2.mono B1.size)
  go_wp2_with fail
  have bt := (Below.refl w2.heap.size w2).alloc (Nat.le_refl _) (.cells #[str (geV L s).key, .int .i64 (geV L s).seq, .bool (geV L s).mkr, str (geV L s).data, .slice ga (geV L s).l.length gc] 33)
  have t3 := Bv.new w2 (str (geV L s).key) (.int .i64 (geV L s).seq) (.bool (geV L s).mkr) (str (geV L s).data) (.slice ga (geV L s).l.length gc)
  have B3 := B2.trans (bt.mono B2.size)
  have go3 := go2.later bt
  generalize w2.alloc (.cells #[str (geV L s).key, .int .i64 (geV L s).seq, .bool (geV L s).mkr, str (geV L s).data, .slice ga (geV L s).l.length gc] 33) = w3 at *
  clear b2 bt B1 B2 go2
  with_reducible refine Calls.mono (rRemove_any L s w3 a _ cap (hLL.out.later B3)) ?_
  rintro e w4 ⟨r4, rfl, k4, b4⟩
  dsimp only
  have B4 := B3.trans (b4.mono B3.size)
  have t4 := t3.later b4
  have go4 := go3.later b4
  clear b4 B3 t3 go3
  go_wp2_with fail
  with_reducible refine Calls.mono (rSince_any L m w4 a _ cap (hLL.out.later B4)) ?_
  rintro e w5 ⟨r5, rfl, s5, b5⟩
  dsimp only
  have B5 := B4.trans (b5.mono B4.size)
  have t5 := t4.later b5
  have go5 := go4.later b5
  have k5 := k4.later b5
  clear b5 B4 t4 go4 k4
  go_wp2_with fail
  with_reducible refine Calls.mono (rRows_any L w5 a _ cap (hLL.out.later B5)) ?_
  rintro e w6 ⟨r6, rfl, d6, b6⟩
  dsimp only
  have B6 := B5.trans (b6.mono B5.size)
  have t6 := t5.later b6
  have go6 := go5.later b6
  have k6 := k5.later b6
  have s6 := s5.later b6
  clear b6 B5 t5 go5 k5 s5
  go_wp2_with fail
  with_reducible refine Calls.mono (lent_any L w6 a _ cap (hLL.out.later B6)) ?_
  rintro e w7 ⟨r7, rfl, m7, b7⟩
  obtain ⟨ma, mc, rfl, _⟩ := m7.ls
  dsimp only
  have B7 := B6.trans (b7.mono B6.size)
  have t7 := t6.later b7
  have go7 := go6.later b7
  have k7 := k6.later b7
  have s7 := s6.later b7
  have d7 := d6.later b7
  clear b7 B6 t6 go6 k6 s6 d6
  obtain ⟨M7, q1, q2, q3⟩ := m7.li (by omega) hzz
  have hr := fun w => run_slV ma (L.length + 2) mc L.length (by omega) q2 q3 w
  go_wp2_with fail
  with_reducible refine Calls.mono (get_any L s w7 ma _ mc M7) ?_
  rintro e w8 ⟨xa, xc, rfl, xo8, b8⟩
  dsimp only
  go_wp2_with fail
  have bq := (Below.refl w8.heap.size w8).alloc (Nat.le_refl _) (.cells #[str (geV L s).key, .int .i64 (geV L s).seq, .bool (geV L s).mkr, str (geV L s).data, .slice xa (geV L s).l.length xc] 33)
  have u9 := Bv.new w8 (str (geV L s).key) (.int .i64 (geV L s).seq) (.bool (geV L s).mkr) (str (geV L s).data) (.slice xa (geV L s).l.length xc)
  have xo9 := xo8.later bq
  have b9 := below_seq b8 bq
  have B9 := B7.trans (b9.mono B7.size)
  have t9 := t7.later b9
  have go9 := go7.later b9
  have k9 := k7.later b9
  have s9 := s7.later b9
  have d9 := d7.later b9
  have m9 := m7.later b9
  have M9 := M7.later b9
  generalize w8.alloc (.cells #[str (geV L s).key, .int .i64 (geV L s).seq, .bool (geV L s).mkr, str (geV L s).data, .slice xa (geV L s).l.length xc] 33) = w9 at *
  clear bq b8 b9 xo8 B7 t7 go7 k7 s7 d7 m7 M7
  with_reducible refine Calls.mono (remove_any L s w9 ma _ mc M9) ?_
  rintro e w10 ⟨y10, rfl, yk10, b10⟩
  dsimp only
  have B10 := B9.trans (b10.mono B9.size)
  have u10 := u9.later b10
  have xo10 := xo9.later b10
  have t10 := t9.later b10
  have go10 := go9.later b10
  have k10 := k9.later b10
  have s10 := s9.later b10
  have d10 := d9.later b10
  have m10 := m9.later b10
  have M10 := M9.later b10
  clear b10 B9 u9 xo9 t9 go9 k9 s9 d9 m9 M9
  go_wp2_with fail
  with_reducible refine Calls.mono (since_any L m w10 ma _ mc M10) ?_
  rintro e w11 ⟨z11, rfl, zs11, b11⟩
  dsimp only
  have B11 := B10.trans (b11.mono B10.size)
  have u11 := u10.later b11
  have xo11 := xo10.later b11
  have t11 := t10.later b11
  have go11 := go10.later b11
  have k11 := k10.later b11
  have yk11 := yk10.later b11
  have s11 := s10.later b11
  have d11 := d10.later b11
  have m11 := m10.later b11
  have M11 := M10.later b11
  clear b11 B10 u10 xo10 t10 go10 k10 s10 d10 m10 M10 yk10
  go_wp2_with fail
  with_reducible refine Calls.mono (rows_any L w11 ma _ mc M11) ?_
  rintro e w12 ⟨v12, rfl, vd12, b12⟩
  dsimp only
  have B12 := B11.trans (b12.mono B11.size)
  have u12 := u11.later b12
  have xo12 := xo11.later b12
  have t12 := t11.later b12
  have go12 := go11.later b12
  have k12 := k11.later b12
  have yk12 := yk11.later b12
  have s12 := s11.later b12
  have zs12 := zs11.later b12
  have d12 := d11.later b12
  have m12 := m11.later b12
  clear b12 B11 u11 xo11 t11 go11 k11 s11 d11 m11 M11 yk11 zs11 hr
  obtain ⟨f0, f1, f2, f3, f4, _⟩ := t12.cells
  obtain ⟨g0, g1, g2, g3, g4, _⟩ := u12.cells
  have hsa := rSame_any (geV L s) (geV L s) w12 ga _ gc rfl go12.asSl.at' (by have := hvz.out; omega) xa _ xc rfl xo12.asSl.at' (by have := hvz.out; omega)
  rw [sv_true rfl] at hsa
  go_wp2_with fail
  with_reducible refine Calls.mono hsa ?_
  rintro e w13 ⟨rfl, b13⟩
  dsimp only
  have B13 := B12.trans (b13.mono B12.size)
  have k13 := k12.later b13
  have yk13 := yk12.later b13
  have s13 := s12.later b13
  have zs13 := zs12.later b13
  have d13 := d12.later b13
  have vd13 := vd12.later b13
  have m13 := m12.later b13
  clear b13 B12 u12 xo12 t12 go12 k12 s12 d12 m12 yk12 zs12 vd12 hsa f0 f1 f2 f3 f4 g0 g1 g2 g3 g4
  go_wp2_with fail
  have hrl := rmL_len L s
  obtain ⟨pa, pc, rfl, P13⟩ := k13.li (by omega) (fun u hu => hzz u (rmL_mem u hu))
  obtain ⟨pa', pc', rfl, P13'⟩ := yk13.li (by omega) (fun u hu => hzz u (rmL_mem u hu))
  have hsm := sameList_any _ _ w13 _ _ _ _ _ _ P13 P13'
  rw [svL_true rfl] at hsm
  with_reducible refine Calls.mono hsm ?_
  rintro e w14 ⟨rfl, b14⟩
  dsimp only
  have B14 := B13.trans (b14.mono B13.size)
  have s14 := s13.later b14
  have zs14 := zs13.later b14
  have d14 := d13.later b14
  have vd14 := vd13.later b14
  have m14 := m13.later b14
  clear b14 B13 k13 yk13 s13 zs13 d13 vd13 m13 P13 P13' hsm
  go_wp2_with fail
  have hsl := snc_len L m
  obtain ⟨sa, sc, rfl, P14⟩ := s14.li (by omega) (fun u hu => hzz u (snc_mem u hu))
  obtain ⟨sa', sc', rfl, P14'⟩ := zs14.li (by omega) (fun u hu => hzz u (snc_mem u hu))
  have hsm := sameList_any _ _ w14 _ _ _ _ _ _ P14 P14'
  rw [svL_true rfl] at hsm
  with_reducible refine Calls.mono hsm ?_
  rintro e w15 ⟨rfl, b15⟩
  dsimp only
  have B15 := B14.trans (b15.mono B14.size)
  have d15 := d14.later b15
  have vd15 := vd14.later b15
  have m15 := m14.later b15
  clear b15 B14 s14 zs14 d14 vd14 m14 P14 P14' hsm
  obtain ⟨da, dc, rfl, D15⟩ := d15.sl
  obtain ⟨va, vc, rfl, V15⟩ := vd15.sl
  go_wp2_with fail
  have hrw := rwsL_len L
  with_reducible refine Calls.mono (rSameRows_same (rwsL L) w15 da _ dc va _ vc rfl rfl D15 V15 (by omega)) ?_
  rintro e w16 ⟨rfl, b16⟩
  dsimp only
  have B16 := B15.trans (b16.mono B15.size)
  have m16 := m15.later b16
  clear b16 B15 d15 vd15 m15 D15 V15
  go_wp2_with fail
  with_reducible refine Calls.mono (stays_any L _ w16 ma mc a _ cap m16 (hLL.out.later B16)) ?_
  rintro e w17 ⟨rfl, b17⟩
  dsimp only
  have B17 := B16.trans (b17.mono B16.size)
  clear b17 m16
  go_wp2_with fail
  go_ret
  exact ⟨rfl, B17⟩
end Go.Proofs.Ytaonjmmdgfbceaa
