/- DeltaForward: the walk. -/
import Derived.Test.YtaibbeepgelepaaDf
import Derived.Deep.CutRange
namespace Go.Proofs.Ytaibbeepgelepaa
set_option linter.unusedVariables false
set_option linter.unusedSimpArgs false
open Go.RowKit
attribute [local go_sem ↓] Go.wp_at_zero Go.wp_at_succ
set_option maxRecDepth 100000 in
set_option maxHeartbeats 4000000 in
theorem deltaForward_walk (next : Int) (L : List Vs) (a : Option Addr) (cap : Nat) (m n : Int) (W : World) (hL : Li W L a L.length cap) (hP : ∀ u ∈ L, Pz u.l) (hm1 : -9223372036854775808 ≤ m) (hm2 : m ≤ 9223372036854775807) (hn1 : -9223372036854775808 ≤ n) (hn2 : n ≤ 9223372036854775807) :
    Calls Try.prog 4 #[bv next a L.length cap, .int .i64 m, .int .i64 n] W fun e W' => e = .returned (.bool true) ∧ Below W.heap.size W W' := by
  have B0 := Hid.mk (bl_alloc W (.cells #[.int .i64 next, .slice a L.length cap] 24))
  have Hv := Hid.mk (Bk.new (next := next) hL)
  have hll := Hid.mk hL.l
  have hzz := Hid.mk hL.z
  have HP := Hid.mk hP
  clear hL hP hm1 hm2 hn1 hn2
  go_enter Try.func4, Try.ntmps4
  go_wp2_with fail
  generalize W.alloc (.cells #[.int .i64 next, .slice a L.length cap] 24) = W1 at *
  with_reducible refine Calls.mono (first_any _) ?_
  rintro e w1 ⟨rfl, c1⟩
  dsimp only
  have Hv1 := Hid.mk (Hv.out.later c1)
  have B1 := Hid.mk (B0.out.trans (c1.mono B0.out.size))
  have hc := qRight_any L next w1 a _ cap Hv1.out.l HP.out
  obtain ⟨p0, p1, _⟩ := Hv1.out.z.cells
  clear Hv B0 c1
  go_wp2_with fail
  clear p0 p1
  with_reducible refine Calls.mono hc ?_
  rintro e w2 ⟨⟨t, rfl, ht⟩, c2⟩
  dsimp only
  have Hv2 := Hid.mk (Hv1.out.later c2)
  have B2 := Hid.mk (B1.out.trans (c2.mono B1.out.size))
  clear hc Hv1 B1 c2
  cases t with
  | false =>
    clear ht
    go_wp2_with fail
    go_ret
    exact ⟨rfl, B2.out⟩
  | true =>
    have HR : Hid (RtB next L) := ⟨ht.1 rfl⟩
    clear ht
    have hn1 := fun w => number_any m next w HR.out.n1 HR.out.n2
    have hn2 := fun w => number_any n next w HR.out.n1 HR.out.n2
    have HM1 := Hid.mk (nuof_rg m next HR.out.n1 HR.out.n2)
    have HM2 := Hid.mk (nuof_rg n next HR.out.n1 HR.out.n2)
    obtain ⟨p0, p1, _⟩ := (Hv2.out.later (Below.refl _ _).drew).z.cells
    generalize nuof m next = m1 at *
    generalize nuof n next = n1 at *
    go_wp2_with fail
    go_region_held3 (fun w' => w'.cell? ⟨W.heap.size, 0, none⟩ = some (.int .i64 next)) (first | exact p0 | assumption) (first
      | (go_at_call 14; with_reducible refine Calls.mono (hn1 _) ?_; rintro e w3 ⟨rfl, rfl⟩)
      | (go_at_call 14; with_reducible refine Calls.mono (hn2 _) ?_; rintro e w3 ⟨rfl, rfl⟩))
    clear hn1 hn2 p0 p1
    have B3 : Hid (Below W.heap.size W w2.drew) := ⟨B2.out.trans ((Below.refl _ _).drew.mono B2.out.size)⟩
    have Hv3 := Hid.mk (Hv2.out.later (Below.refl _ _).drew)
    clear B2 Hv2
    generalize w2.drew = w3 at *
    go_upto_if 35 with fail
    go_cut [1, 2] from 33 (fun vm vn wx => ∃ m2 n2 : Int, vm = .int .i64 m2 ∧ vn = .int .i64 n2 ∧ Hid (1 ≤ m2 ∧ m2 ≤ n2 ∧ n2 ≤ next) ∧ Hid (Bk wx W.heap.size next L a cap) ∧ Hid (Below W.heap.size W wx))
    case first =>
      by_cases hmn : n1 < m1
      · have d1 : decide (n1 < m1) = true := decide_eq_true hmn
        have HF : Hid (1 ≤ n1 ∧ n1 ≤ m1 ∧ m1 ≤ next) := ⟨HM2.out.1, Int.le_of_lt hmn, HM1.out.2⟩
        clear hmn HM1 HM2
        rw [d1]
        go_wp2_with fail
        go_meet
        case rel => exact ⟨_, _, rfl, rfl, HF, Hv3, B3⟩
      · have d1 : decide (n1 < m1) = false := decide_eq_false hmn
        have HF : Hid (1 ≤ m1 ∧ m1 ≤ n1 ∧ n1 ≤ next) := ⟨HM1.out.1, Int.not_lt.1 hmn, HM2.out.2⟩
        clear hmn HM1 HM2
        rw [d1]
        go_wp2_with fail
        go_meet
        case rel => exact ⟨_, _, rfl, rfl, HF, Hv3, B3⟩
    obtain ⟨m2, n2, rfl, rfl, HMN, Hv, HB⟩ := hcut
    clear HM1 HM2 B3 Hv3
    have hc := below_any L next m2 _ a _ cap Hv.out.l
    obtain ⟨p6, p7, _⟩ := Hv.out.z.cells
    go_wp2_with fail
    clear p6 p7
    with_reducible refine Calls.mono hc ?_
    rintro e w1 ⟨vx, rfl, ox, d5⟩
    clear hc
    try dsimp only
    have Hv8 := Hid.mk (Hv.out.later d5)
    clear Hv
    have HB9 := Hid.mk (HB.out.trans (d5.mono HB.out.size))
    clear HB
    obtain ⟨a2, c3, rfl, l4⟩ := ox.li (Nat.le_trans (blL_len m2 L) hll.out) (bl_z hzz.out)
    clear ox
    have Hu11 := Hid.mk (Bk.new (next := m2) l4)
    have cb12 := bl_alloc w1 (.cells #[.int .i64 m2, .slice a2 (blL m2 L).length c3] 24)
    have Hv13 := Hid.mk (Hv8.out.later cb12)
    clear Hv8
    have HB14 := Hid.mk (HB9.out.trans (cb12.mono HB9.out.size))
    clear HB9
    clear cb12 l4
    have hc := below_any L next n2 _ a _ cap Hv13.out.l
    obtain ⟨p20, p21, _⟩ := Hv13.out.z.cells
    go_wp2_with fail
    clear p20 p21
    generalize w1.alloc (.cells #[.int .i64 m2, .slice a2 (blL m2 L).length c3] 24) = w10 at *
    with_reducible refine Calls.mono hc ?_
    rintro e w15 ⟨vx, rfl, ox, d19⟩
    clear hc
    try dsimp only
    have Hv22 := Hid.mk (Hv13.out.later d19)
    clear Hv13
    have Hu23 := Hid.mk (Hu11.out.later d19)
    clear Hu11
    have HB24 := Hid.mk (HB14.out.trans (d19.mono HB14.out.size))
    clear HB14
    obtain ⟨a16, c17, rfl, l18⟩ := ox.li (Nat.le_trans (blL_len n2 L) hll.out) (bl_z hzz.out)
    clear ox
    have Hw26 := Hid.mk (Bk.new (next := n2) l18)
    have cb27 := bl_alloc w15 (.cells #[.int .i64 n2, .slice a16 (blL n2 L).length c17] 24)
    have Hv28 := Hid.mk (Hv22.out.later cb27)
    clear Hv22
    have Hu29 := Hid.mk (Hu23.out.later cb27)
    clear Hu23
    have HB30 := Hid.mk (HB24.out.trans (cb27.mono HB24.out.size))
    clear HB24
    clear cb27 l18
    have hc := qCopy_any L next _ a _ cap rfl Hv28.out.l.s Hv28.out.l.l Hv28.out.l.z
    obtain ⟨p36, p37, _⟩ := Hv28.out.z.cells
    go_wp2_with fail
    clear p36 p37
    generalize w15.alloc (.cells #[.int .i64 n2, .slice a16 (blL n2 L).length c17] 24) = w25 at *
    with_reducible refine Calls.mono hc ?_
    rintro e w31 ⟨vx, rfl, ox, d32⟩
    clear hc
    try dsimp only
    have Hv38 := Hid.mk (Hv28.out.later d32)
    clear Hv28
    have Hu39 := Hid.mk (Hu29.out.later d32)
    clear Hu29
    have Hw40 := Hid.mk (Hw26.out.later d32)
    clear Hw26
    have HB41 := Hid.mk (HB30.out.trans (d32.mono HB30.out.size))
    clear HB30
    obtain ⟨a33, c34, rfl, l35⟩ := ox.li Hv38.out.l.l Hv38.out.l.z
    clear ox
    have hc := dSince_any L next m2 _ a33 _ c34 l35
    go_wp2_with fail
    with_reducible refine Calls.mono hc ?_
    rintro e w42 ⟨hsn, d43⟩
    clear hc
    try dsimp only
    have Hv44 := Hid.mk (Hv38.out.later d43)
    clear Hv38
    have Hu45 := Hid.mk (Hu39.out.later d43)
    clear Hu39
    have Hw46 := Hid.mk (Hw40.out.later d43)
    clear Hw40
    have HB47 := Hid.mk (HB41.out.trans (d43.mono HB41.out.size))
    clear HB41
    rcases hsn with ⟨_, _, vx, rfl, ox⟩ | ⟨hno, _⟩
    rotate_left
    · exact absurd ⟨HMN.out.1, Int.le_trans HMN.out.2.1 HMN.out.2.2⟩ hno
    obtain ⟨a48, c49, rfl, l50⟩ := ox.li (Nat.le_trans (snL_len m2 L) Hv44.out.l.l) (sn_z Hv44.out.l.z)
    clear ox l35
    try dsimp only
    have Hall52 := Hid.mk (Dk.new (since := m2) (next := next) l50)
    have cb53 := bl_alloc w42 (.cells #[.int .i64 m2, .int .i64 next, .slice a48 (snL m2 L).length c49] 27)
    have Hv54 := Hid.mk (Hv44.out.later cb53)
    clear Hv44
    have Hu55 := Hid.mk (Hu45.out.later cb53)
    clear Hu45
    have Hw56 := Hid.mk (Hw46.out.later cb53)
    clear Hw46
    have HB57 := Hid.mk (HB47.out.trans (cb53.mono HB47.out.size))
    clear HB47
    clear cb53 l50
    have hc := qCopy_any (blL n2 L) n2 _ a16 _ c17 rfl Hw56.out.l.s Hw56.out.l.l Hw56.out.l.z
    obtain ⟨p63, p64, _⟩ := Hw56.out.z.cells
    go_wp2_with fail
    clear p63 p64
    generalize w42.alloc (.cells #[.int .i64 m2, .int .i64 next, .slice a48 (snL m2 L).length c49] 27) = w51 at *
    with_reducible refine Calls.mono hc ?_
    rintro e w58 ⟨vx, rfl, ox, d59⟩
    clear hc
    try dsimp only
    have Hv65 := Hid.mk (Hv54.out.later d59)
    clear Hv54
    have Hu66 := Hid.mk (Hu55.out.later d59)
    clear Hu55
    have Hw67 := Hid.mk (Hw56.out.later d59)
    clear Hw56
    have Hall68 := Hid.mk (Hall52.out.later d59)
    clear Hall52
    have HB69 := Hid.mk (HB57.out.trans (d59.mono HB57.out.size))
    clear HB57
    obtain ⟨a60, c61, rfl, l62⟩ := ox.li Hw67.out.l.l Hw67.out.l.z
    clear ox
    have hc := dSince_any (blL n2 L) n2 m2 _ a60 _ c61 l62
    go_wp2_with fail
    with_reducible refine Calls.mono hc ?_
    rintro e w70 ⟨hsn, d71⟩
    clear hc
    try dsimp only
    have Hv72 := Hid.mk (Hv65.out.later d71)
    clear Hv65
    have Hu73 := Hid.mk (Hu66.out.later d71)
    clear Hu66
    have Hw74 := Hid.mk (Hw67.out.later d71)
    clear Hw67
    have Hall75 := Hid.mk (Hall68.out.later d71)
    clear Hall68
    have HB76 := Hid.mk (HB69.out.trans (d71.mono HB69.out.size))
    clear HB69
    rcases hsn with ⟨_, _, vx, rfl, ox⟩ | ⟨hno, _⟩
    rotate_left
    · exact absurd ⟨HMN.out.1, HMN.out.2.1⟩ hno
    obtain ⟨a77, c78, rfl, l79⟩ := ox.li (Nat.le_trans (snL_len m2 (blL n2 L)) Hw74.out.l.l) (sn_z Hw74.out.l.z)
    clear ox l62
    try dsimp only
    have Hone81 := Hid.mk (Dk.new (since := m2) (next := n2) l79)
    have cb82 := bl_alloc w70 (.cells #[.int .i64 m2, .int .i64 n2, .slice a77 (snL m2 (blL n2 L)).length c78] 27)
    have Hv83 := Hid.mk (Hv72.out.later cb82)
    clear Hv72
    have Hu84 := Hid.mk (Hu73.out.later cb82)
    clear Hu73
    have Hw85 := Hid.mk (Hw74.out.later cb82)
    clear Hw74
    have Hall86 := Hid.mk (Hall75.out.later cb82)
    clear Hall75
    have HB87 := Hid.mk (HB76.out.trans (cb82.mono HB76.out.size))
    clear HB76
    clear cb82 l79
    have hc := qCopy_any L next _ a _ cap rfl Hv83.out.l.s Hv83.out.l.l Hv83.out.l.z
    obtain ⟨p93, p94, _⟩ := Hv83.out.z.cells
    go_wp2_with fail
    clear p93 p94
    generalize w70.alloc (.cells #[.int .i64 m2, .int .i64 n2, .slice a77 (snL m2 (blL n2 L)).length c78] 27) = w80 at *
    with_reducible refine Calls.mono hc ?_
    rintro e w88 ⟨vx, rfl, ox, d89⟩
    clear hc
    try dsimp only
    have Hv95 := Hid.mk (Hv83.out.later d89)
    clear Hv83
    have Hu96 := Hid.mk (Hu84.out.later d89)
    clear Hu84
    have Hw97 := Hid.mk (Hw85.out.later d89)
    clear Hw85
    have Hall98 := Hid.mk (Hall86.out.later d89)
    clear Hall86
    have Hone99 := Hid.mk (Hone81.out.later d89)
    clear Hone81
    have HB100 := Hid.mk (HB87.out.trans (d89.mono HB87.out.size))
    clear HB87
    obtain ⟨a90, c91, rfl, l92⟩ := ox.li Hv95.out.l.l Hv95.out.l.z
    clear ox
    have hc := dSince_any L next n2 _ a90 _ c91 l92
    go_wp2_with fail
    with_reducible refine Calls.mono hc ?_
    rintro e w101 ⟨hsn, d102⟩
    clear hc
    try dsimp only
    have Hv103 := Hid.mk (Hv95.out.later d102)
    clear Hv95
    have Hu104 := Hid.mk (Hu96.out.later d102)
    clear Hu96
    have Hw105 := Hid.mk (Hw97.out.later d102)
    clear Hw97
    have Hall106 := Hid.mk (Hall98.out.later d102)
    clear Hall98
    have Hone107 := Hid.mk (Hone99.out.later d102)
    clear Hone99
    have HB108 := Hid.mk (HB100.out.trans (d102.mono HB100.out.size))
    clear HB100
    rcases hsn with ⟨_, _, vx, rfl, ox⟩ | ⟨hno, _⟩
    rotate_left
    · exact absurd ⟨Int.le_trans HMN.out.1 HMN.out.2.1, HMN.out.2.2⟩ hno
    obtain ⟨a109, c110, rfl, l111⟩ := ox.li (Nat.le_trans (snL_len n2 L) Hv103.out.l.l) (sn_z Hv103.out.l.z)
    clear ox l92
    try dsimp only
    have Htwo113 := Hid.mk (Dk.new (since := n2) (next := next) l111)
    have cb114 := bl_alloc w101 (.cells #[.int .i64 n2, .int .i64 next, .slice a109 (snL n2 L).length c110] 27)
    have Hv115 := Hid.mk (Hv103.out.later cb114)
    clear Hv103
    have Hu116 := Hid.mk (Hu104.out.later cb114)
    clear Hu104
    have Hw117 := Hid.mk (Hw105.out.later cb114)
    clear Hw105
    have Hall118 := Hid.mk (Hall106.out.later cb114)
    clear Hall106
    have Hone119 := Hid.mk (Hone107.out.later cb114)
    clear Hone107
    have HB120 := Hid.mk (HB108.out.trans (cb114.mono HB108.out.size))
    clear HB108
    clear cb114 l111
    have hc := dRight_any (snL m2 L) m2 next _ a48 _ c49 Hall118.out.l
    obtain ⟨q123, q124, q125, _⟩ := Hall118.out.z.cells
    go_wp2_with fail
    clear q123 q124 q125
    generalize w101.alloc (.cells #[.int .i64 n2, .int .i64 next, .slice a109 (snL n2 L).length c110] 27) = w112 at *
    with_reducible refine Calls.mono hc ?_
    rintro e w121 ⟨⟨t, rfl, ht⟩, d122⟩
    clear hc
    try dsimp only
    have Hv126 := Hid.mk (Hv115.out.later d122)
    clear Hv115
    have Hu127 := Hid.mk (Hu116.out.later d122)
    clear Hu116
    have Hw128 := Hid.mk (Hw117.out.later d122)
    clear Hw117
    have Hall129 := Hid.mk (Hall118.out.later d122)
    clear Hall118
    have Hone130 := Hid.mk (Hone119.out.later d122)
    clear Hone119
    have Htwo131 := Hid.mk (Htwo113.out.later d122)
    clear Htwo113
    have HB132 := Hid.mk (HB120.out.trans (d122.mono HB120.out.size))
    clear HB120
    obtain rfl : t = true := ht.2 (HR.out.since HMN.out.1 (Int.le_trans HMN.out.2.1 HMN.out.2.2))
    clear ht
    have hc := dRight_any (snL m2 (blL n2 L)) m2 n2 _ a77 _ c78 Hone130.out.l
    obtain ⟨q135, q136, q137, _⟩ := Hone130.out.z.cells
    go_wp2_with fail
    clear q135 q136 q137
    with_reducible refine Calls.mono hc ?_
    rintro e w133 ⟨⟨t, rfl, ht⟩, d134⟩
    clear hc
    try dsimp only
    have Hv138 := Hid.mk (Hv126.out.later d134)
    clear Hv126
    have Hu139 := Hid.mk (Hu127.out.later d134)
    clear Hu127
    have Hw140 := Hid.mk (Hw128.out.later d134)
    clear Hw128
    have Hall141 := Hid.mk (Hall129.out.later d134)
    clear Hall129
    have Hone142 := Hid.mk (Hone130.out.later d134)
    clear Hone130
    have Htwo143 := Hid.mk (Htwo131.out.later d134)
    clear Htwo131
    have HB144 := Hid.mk (HB132.out.trans (d134.mono HB132.out.size))
    clear HB132
    obtain rfl : t = true := ht.2 ((HR.out.below (Int.le_trans HMN.out.1 HMN.out.2.1) HMN.out.2.2).since HMN.out.1 HMN.out.2.1)
    clear ht
    have hc := dRight_any (snL n2 L) n2 next _ a109 _ c110 Htwo143.out.l
    obtain ⟨q147, q148, q149, _⟩ := Htwo143.out.z.cells
    go_wp2_with fail
    clear q147 q148 q149
    with_reducible refine Calls.mono hc ?_
    rintro e w145 ⟨⟨t, rfl, ht⟩, d146⟩
    clear hc
    try dsimp only
    have Hv150 := Hid.mk (Hv138.out.later d146)
    clear Hv138
    have Hu151 := Hid.mk (Hu139.out.later d146)
    clear Hu139
    have Hw152 := Hid.mk (Hw140.out.later d146)
    clear Hw140
    have Hall153 := Hid.mk (Hall141.out.later d146)
    clear Hall141
    have Hone154 := Hid.mk (Hone142.out.later d146)
    clear Hone142
    have Htwo155 := Hid.mk (Htwo143.out.later d146)
    clear Htwo143
    have HB156 := Hid.mk (HB144.out.trans (d146.mono HB144.out.size))
    clear HB144
    obtain rfl : t = true := ht.2 (HR.out.since (Int.le_trans HMN.out.1 HMN.out.2.1) HMN.out.2.2)
    clear ht
    go_upto_region 15 with fail
    obtain ⟨X, nX, cX, HX, hap⟩ : ∃ (X : List Vs) (nX cX : Int), Hid ((L = X ∧ next = nX ∧ 0 = cX) ∧ X.length ≤ 1954687338240 ∧ ∀ v ∈ X, v.l.length ≤ 4398046510976) ∧ ∀ w' xa xc, Below w145.heap.size w145 w' → Li w' (blL m2 L) xa (blL m2 L).length xc → Calls Try.prog 17 #[bv m2 xa (blL m2 L).length xc, dv m2 next a48 (snL m2 L).length c49] w' fun e w'' => (∃ za zc, e = .returned (.tuple #[bv nX za X.length zc, .int .i64 cX]) ∧ Cp w'.heap.size w'' (.slice za X.length zc) X) ∧ Below w'.heap.size w' w'' := ⟨L, next, 0, ⟨⟨rfl, rfl, rfl⟩, hll.out, hzz.out⟩, fun w' xa xc h lx => (dApply_any (blL m2 L) (snL m2 L) m2 m2 next w' xa _ xc a48 _ c49 lx (Hall153.out.l.later h)).mono (by
      rintro e w'' ⟨hax, hb⟩
      rcases hax with ⟨_, vx, rfl, ox⟩ | ⟨hno, _⟩
      · rw [mg_back HR.out.srt m2] at ox
        obtain ⟨za, zc, rfl, _⟩ := ox.ls
        exact ⟨⟨za, zc, rfl, ox⟩, hb⟩
      · exact absurd (ap_part HR.out _) hno)⟩
    go_cut [10, 15] from 90 (fun ve vx wx => ∃ (gx : Nat) (za : Option Addr) (zc : Nat), ve = .int .i64 cX ∧ vx = .pointer (some ⟨gx, 0, none⟩) ∧ Hid (Below w145.heap.size w145 wx ∧ Bk wx gx nX X za zc))
    case first =>
      have HS : Hid (∀ w', Below w145.heap.size w145 w' → Below w145.heap.size w145 w' ∧ w'.cell? ⟨w1.heap.size, 0, none⟩ = some (.int .i64 m2) ∧ w'.cell? ⟨w1.heap.size, 1, none⟩ = some (.slice a2 (blL m2 L).length c3) ∧ w'.cell? ⟨w42.heap.size, 0, none⟩ = some (.int .i64 m2) ∧ w'.cell? ⟨w42.heap.size, 1, none⟩ = some (.int .i64 next) ∧ w'.cell? ⟨w42.heap.size, 2, none⟩ = some (.slice a48 (snL m2 L).length c49)) := ⟨fun w' h => by
        obtain ⟨t0, t1, _⟩ := (Hu151.out.z.later h).cells
        obtain ⟨r0, r1, r2, _⟩ := (Hall153.out.z.later h).cells
        exact ⟨h, t0, t1, r0, r1, r2⟩⟩
      have hcp : ∀ w', Below w145.heap.size w145 w' → Calls Try.prog 10 #[bv m2 a2 (blL m2 L).length c3] w' fun e w'' => (∃ ya yc, e = .returned (bv m2 ya (blL m2 L).length yc) ∧ Li w'' (blL m2 L) ya (blL m2 L).length yc) ∧ Below w'.heap.size w' w'' := fun w' h => (qCopy_any (blL m2 L) m2 w' a2 _ c3 rfl (Hu151.out.l.later h).s Hu151.out.l.l Hu151.out.l.z).mono (by
        rintro e w'' ⟨vx, rfl, ox, hb⟩
        obtain ⟨ya, yc, rfl, ly⟩ := ox.li Hu151.out.l.l Hu151.out.l.z
        exact ⟨⟨ya, yc, rfl, ly⟩, hb⟩)
      clear Hv150 Hu151 Hw152 Hall153 Hone154 Htwo155 HB156
      generalize blL m2 L = G157 at *
      generalize snL m2 L = G158 at *
      go_region_held3 (fun w' => Below w145.heap.size w145 w' ∧ w'.cell? ⟨w1.heap.size, 0, none⟩ = some (.int .i64 m2) ∧ w'.cell? ⟨w1.heap.size, 1, none⟩ = some (.slice a2 G157.length c3) ∧ w'.cell? ⟨w42.heap.size, 0, none⟩ = some (.int .i64 m2) ∧ w'.cell? ⟨w42.heap.size, 1, none⟩ = some (.int .i64 next) ∧ w'.cell? ⟨w42.heap.size, 2, none⟩ = some (.slice a48 G158.length c49)) ((refine HS.out _ ?_; first
        | with_reducible exact (Below.refl _ _).drew
        | with_reducible exact bC
        | with_reducible exact bB
        | with_reducible exact bal bC _
        | with_reducible exact bal bB _
        | with_reducible exact (bal (Below.refl _ _) _).drew
        | with_reducible exact bset bC hgx _ _)) (first
        | (go_at_call 10; with_reducible refine Calls.mono (hcp _ (And.left (by assumption))) ?_; rintro e w5 ⟨⟨ya, yc, rfl, ly⟩, x1⟩; first
          | (with_reducible have bB := below_seq (Below.refl w145.heap.size w145).drew x1; clear x1)
          | (with_reducible have bB := below_seq (bal (Below.refl w145.heap.size w145) _).drew x1; with_reducible have hz5 := zq1 x1; have hlt5 := hz5.lt; clear x1))
        | (go_at_call 17; with_reducible refine Calls.mono (hap _ _ _ (And.left (by assumption)) (by first | exact ly | exact ly.later (bl_alloc _ _))) ?_; rintro e w6 ⟨⟨za, zc, rfl, oz⟩, x2⟩; first
          | (with_reducible have bC := below_seq bB x2; with_reducible have hz6 := hz5.later x2; have z0 := hz6.cells.1; have z1 := hz6.cells.2.1; have f0 := hz6.cells.2.2 0; have f1 := hz6.cells.2.2 1; have hgx := Nat.le_refl w145.heap.size; have hgo := hlt5)
          | (with_reducible have bC := below_seq (bal bB _) x2; with_reducible have hz6 := zq2 x2; have z0 := hz6.cells.1; have z1 := hz6.cells.2.1; have f0 := hz6.cells.2.2 0; have f1 := hz6.cells.2.2 1; have hgx := bB.size; have hgo := Nat.lt_succ_self w5.heap.size)
          | (with_reducible have bC := below_seq bB x2)))
      all_goals (go_wp2_with fail)
      all_goals go_meet
      all_goals (first
        | exact ⟨_, _, _, rfl, rfl, ⟨bal bC _, bk_news oz HX.out.2⟩⟩
        | exact ⟨_, _, _, rfl, rfl, ⟨bset bC hgx _ _, bk_sets hz6 oz (by first | exact hgo | simp) HX.out.2⟩⟩)
    obtain ⟨g159, a160, c161, rfl, rfl, HW162⟩ := hcut
    obtain ⟨rfl, rfl, rfl⟩ := HX.out.1
    clear hap HX
    have d163 := HW162.out.1
    have Hv164 := Hid.mk (Hv150.out.later d163)
    clear Hv150
    have Hu165 := Hid.mk (Hu151.out.later d163)
    clear Hu151
    have Hw166 := Hid.mk (Hw152.out.later d163)
    clear Hw152
    have Hall167 := Hid.mk (Hall153.out.later d163)
    clear Hall153
    have Hone168 := Hid.mk (Hone154.out.later d163)
    clear Hone154
    have Htwo169 := Hid.mk (Htwo155.out.later d163)
    clear Htwo155
    have HB170 := Hid.mk (HB156.out.trans (d163.mono HB156.out.size))
    clear HB156
    clear d163
    have Hx171 := Hid.mk HW162.out.2
    clear HW162
    go_upto_region 16 with fail
    obtain ⟨X, nX, cX, HX, hap⟩ : ∃ (X : List Vs) (nX cX : Int), Hid ((blL n2 L = X ∧ n2 = nX ∧ 0 = cX) ∧ X.length ≤ 1954687338240 ∧ ∀ v ∈ X, v.l.length ≤ 4398046510976) ∧ ∀ w' xa xc, Below wc.heap.size wc w' → Li w' (blL m2 L) xa (blL m2 L).length xc → Calls Try.prog 17 #[bv m2 xa (blL m2 L).length xc, dv m2 n2 a77 (snL m2 (blL n2 L)).length c78] w' fun e w'' => (∃ za zc, e = .returned (.tuple #[bv nX za X.length zc, .int .i64 cX]) ∧ Cp w'.heap.size w'' (.slice za X.length zc) X) ∧ Below w'.heap.size w' w'' := ⟨blL n2 L, n2, 0, ⟨⟨rfl, rfl, rfl⟩, Nat.le_trans (blL_len n2 L) hll.out, bl_z hzz.out⟩, fun w' xa xc h lx => (dApply_any (blL m2 L) (snL m2 (blL n2 L)) m2 m2 n2 w' xa _ xc a77 _ c78 lx (Hone168.out.l.later h)).mono (by
      rintro e w'' ⟨hax, hb⟩
      rcases hax with ⟨_, vx, rfl, ox⟩ | ⟨hno, _⟩
      · rw [mg_step HR.out.srt HMN.out.2.1] at ox
        obtain ⟨za, zc, rfl, _⟩ := ox.ls
        exact ⟨⟨za, zc, rfl, ox⟩, hb⟩
      · exact absurd (ap_step HR.out HMN.out.2.1 _) hno)⟩
    go_cut [12, 16] from 90 (fun ve vx wx => ∃ (gx : Nat) (za : Option Addr) (zc : Nat), ve = .int .i64 cX ∧ vx = .pointer (some ⟨gx, 0, none⟩) ∧ Hid (Below wc.heap.size wc wx ∧ Bk wx gx nX X za zc))
    case first =>
      have HS : Hid (∀ w', Below wc.heap.size wc w' → Below wc.heap.size wc w' ∧ w'.cell? ⟨w1.heap.size, 0, none⟩ = some (.int .i64 m2) ∧ w'.cell? ⟨w1.heap.size, 1, none⟩ = some (.slice a2 (blL m2 L).length c3) ∧ w'.cell? ⟨w70.heap.size, 0, none⟩ = some (.int .i64 m2) ∧ w'.cell? ⟨w70.heap.size, 1, none⟩ = some (.int .i64 n2) ∧ w'.cell? ⟨w70.heap.size, 2, none⟩ = some (.slice a77 (snL m2 (blL n2 L)).length c78)) := ⟨fun w' h => by
        obtain ⟨t0, t1, _⟩ := (Hu165.out.z.later h).cells
        obtain ⟨r0, r1, r2, _⟩ := (Hone168.out.z.later h).cells
        exact ⟨h, t0, t1, r0, r1, r2⟩⟩
      have hcp : ∀ w', Below wc.heap.size wc w' → Calls Try.prog 10 #[bv m2 a2 (blL m2 L).length c3] w' fun e w'' => (∃ ya yc, e = .returned (bv m2 ya (blL m2 L).length yc) ∧ Li w'' (blL m2 L) ya (blL m2 L).length yc) ∧ Below w'.heap.size w' w'' := fun w' h => (qCopy_any (blL m2 L) m2 w' a2 _ c3 rfl (Hu165.out.l.later h).s Hu165.out.l.l Hu165.out.l.z).mono (by
        rintro e w'' ⟨vx, rfl, ox, hb⟩
        obtain ⟨ya, yc, rfl, ly⟩ := ox.li Hu165.out.l.l Hu165.out.l.z
        exact ⟨⟨ya, yc, rfl, ly⟩, hb⟩)
      clear Hv164 Hu165 Hw166 Hall167 Hone168 Htwo169 Hx171 HB170
      generalize blL m2 L = G172 at *
      generalize snL m2 (blL n2 L) = G173 at *
      go_region_held3 (fun w' => Below wc.heap.size wc w' ∧ w'.cell? ⟨w1.heap.size, 0, none⟩ = some (.int .i64 m2) ∧ w'.cell? ⟨w1.heap.size, 1, none⟩ = some (.slice a2 G172.length c3) ∧ w'.cell? ⟨w70.heap.size, 0, none⟩ = some (.int .i64 m2) ∧ w'.cell? ⟨w70.heap.size, 1, none⟩ = some (.int .i64 n2) ∧ w'.cell? ⟨w70.heap.size, 2, none⟩ = some (.slice a77 G173.length c78)) ((refine HS.out _ ?_; first
        | with_reducible exact (Below.refl _ _).drew
        | with_reducible exact bC
        | with_reducible exact bB
        | with_reducible exact bal bC _
        | with_reducible exact bal bB _
        | with_reducible exact (bal (Below.refl _ _) _).drew
        | with_reducible exact bset bC hgx _ _)) (first
        | (go_at_call 10; with_reducible refine Calls.mono (hcp _ (And.left (by assumption))) ?_; rintro e w5 ⟨⟨ya, yc, rfl, ly⟩, x1⟩; first
          | (with_reducible have bB := below_seq (Below.refl wc.heap.size wc).drew x1; clear x1)
          | (with_reducible have bB := below_seq (bal (Below.refl wc.heap.size wc) _).drew x1; with_reducible have hz5 := zq1 x1; have hlt5 := hz5.lt; clear x1))
        | (go_at_call 17; with_reducible refine Calls.mono (hap _ _ _ (And.left (by assumption)) (by first | exact ly | exact ly.later (bl_alloc _ _))) ?_; rintro e w6 ⟨⟨za, zc, rfl, oz⟩, x2⟩; first
          | (with_reducible have bC := below_seq bB x2; with_reducible have hz6 := hz5.later x2; have z0 := hz6.cells.1; have z1 := hz6.cells.2.1; have f0 := hz6.cells.2.2 0; have f1 := hz6.cells.2.2 1; have hgx := Nat.le_refl wc.heap.size; have hgo := hlt5)
          | (with_reducible have bC := below_seq (bal bB _) x2; with_reducible have hz6 := zq2 x2; have z0 := hz6.cells.1; have z1 := hz6.cells.2.1; have f0 := hz6.cells.2.2 0; have f1 := hz6.cells.2.2 1; have hgx := bB.size; have hgo := Nat.lt_succ_self w5.heap.size)
          | (with_reducible have bC := below_seq bB x2)))
      all_goals (go_wp2_with fail)
      all_goals go_meet
      all_goals (first
        | exact ⟨_, _, _, rfl, rfl, ⟨bal bC _, bk_news oz HX.out.2⟩⟩
        | exact ⟨_, _, _, rfl, rfl, ⟨bset bC hgx _ _, bk_sets hz6 oz (by first | exact hgo | simp) HX.out.2⟩⟩)
    obtain ⟨g174, a175, c176, rfl, rfl, HW177⟩ := hcut
    obtain ⟨rfl, rfl, rfl⟩ := HX.out.1
    clear hap HX
    have d178 := HW177.out.1
    have Hv179 := Hid.mk (Hv164.out.later d178)
    clear Hv164
    have Hu180 := Hid.mk (Hu165.out.later d178)
    clear Hu165
    have Hw181 := Hid.mk (Hw166.out.later d178)
    clear Hw166
    have Hall182 := Hid.mk (Hall167.out.later d178)
    clear Hall167
    have Hone183 := Hid.mk (Hone168.out.later d178)
    clear Hone168
    have Htwo184 := Hid.mk (Htwo169.out.later d178)
    clear Htwo169
    have Hx185 := Hid.mk (Hx171.out.later d178)
    clear Hx171
    have HB186 := Hid.mk (HB170.out.trans (d178.mono HB170.out.size))
    clear HB170
    clear d178
    have Hy187 := Hid.mk HW177.out.2
    clear HW177
    have hc := qSame_eq next L _ a160 c161 a cap Hx185.out.l Hv179.out.l (Nat.le_trans HR.out.len (by decide))
    obtain ⟨p190, p191, _⟩ := Hx185.out.z.cells
    obtain ⟨p192, p193, _⟩ := Hv179.out.z.cells
    go_wp2_with fail
    clear p190 p191 p192 p193
    with_reducible refine Calls.mono hc ?_
    rintro e w188 ⟨rfl, d189⟩
    clear hc
    try dsimp only
    have Hv194 := Hid.mk (Hv179.out.later d189)
    clear Hv179
    have Hu195 := Hid.mk (Hu180.out.later d189)
    clear Hu180
    have Hw196 := Hid.mk (Hw181.out.later d189)
    clear Hw181
    have Hall197 := Hid.mk (Hall182.out.later d189)
    clear Hall182
    have Hone198 := Hid.mk (Hone183.out.later d189)
    clear Hone183
    have Htwo199 := Hid.mk (Htwo184.out.later d189)
    clear Htwo184
    have Hx200 := Hid.mk (Hx185.out.later d189)
    clear Hx185
    have Hy201 := Hid.mk (Hy187.out.later d189)
    clear Hy187
    have HB202 := Hid.mk (HB186.out.trans (d189.mono HB186.out.size))
    clear HB186
    have hc := qSame_eq n2 (blL n2 L) _ a175 c176 a16 c17 Hy201.out.l Hw196.out.l (Nat.le_trans (Nat.le_trans (blL_len n2 L) HR.out.len) (by decide))
    obtain ⟨p205, p206, _⟩ := Hy201.out.z.cells
    obtain ⟨p207, p208, _⟩ := Hw196.out.z.cells
    go_wp2_with fail
    clear p205 p206 p207 p208
    with_reducible refine Calls.mono hc ?_
    rintro e w203 ⟨rfl, d204⟩
    clear hc
    try dsimp only
    have Hv209 := Hid.mk (Hv194.out.later d204)
    clear Hv194
    have Hu210 := Hid.mk (Hu195.out.later d204)
    clear Hu195
    have Hw211 := Hid.mk (Hw196.out.later d204)
    clear Hw196
    have Hall212 := Hid.mk (Hall197.out.later d204)
    clear Hall197
    have Hone213 := Hid.mk (Hone198.out.later d204)
    clear Hone198
    have Htwo214 := Hid.mk (Htwo199.out.later d204)
    clear Htwo199
    have Hx215 := Hid.mk (Hx200.out.later d204)
    clear Hx200
    have Hy216 := Hid.mk (Hy201.out.later d204)
    clear Hy201
    have HB217 := Hid.mk (HB202.out.trans (d204.mono HB202.out.size))
    clear HB202
    have hc := dApply_any (blL n2 L) (snL n2 L) n2 n2 next _ a175 _ c176 a109 _ c110 Hy216.out.l Htwo214.out.l
    obtain ⟨p220, p221, _⟩ := Hy216.out.z.cells
    obtain ⟨q222, q223, q224, _⟩ := Htwo214.out.z.cells
    go_wp2_with fail
    clear p220 p221 q222 q223 q224
    with_reducible refine Calls.mono hc ?_
    rintro e w218 ⟨hax, d219⟩
    clear hc
    try dsimp only
    have Hv225 := Hid.mk (Hv209.out.later d219)
    clear Hv209
    have Hu226 := Hid.mk (Hu210.out.later d219)
    clear Hu210
    have Hw227 := Hid.mk (Hw211.out.later d219)
    clear Hw211
    have Hall228 := Hid.mk (Hall212.out.later d219)
    clear Hall212
    have Hone229 := Hid.mk (Hone213.out.later d219)
    clear Hone213
    have Htwo230 := Hid.mk (Htwo214.out.later d219)
    clear Htwo214
    have Hx231 := Hid.mk (Hx215.out.later d219)
    clear Hx215
    have Hy232 := Hid.mk (Hy216.out.later d219)
    clear Hy216
    have HB233 := Hid.mk (HB217.out.trans (d219.mono HB217.out.size))
    clear HB217
    rcases hax with ⟨_, vx, rfl, ox⟩ | ⟨hno, _⟩
    rotate_left
    · exact absurd (ap_part HR.out _) hno
    rw [mg_back HR.out.srt n2] at ox
    obtain ⟨a234, c235, rfl, l236⟩ := ox.li hll.out hzz.out
    clear ox
    try dsimp only
    have Hz238 := Hid.mk (Bk.new (next := next) l236)
    have cb239 := bl_alloc w218 (.cells #[.int .i64 next, .slice a234 L.length c235] 24)
    have Hv240 := Hid.mk (Hv225.out.later cb239)
    clear Hv225
    have Hu241 := Hid.mk (Hu226.out.later cb239)
    clear Hu226
    have Hw242 := Hid.mk (Hw227.out.later cb239)
    clear Hw227
    have Hall243 := Hid.mk (Hall228.out.later cb239)
    clear Hall228
    have Hone244 := Hid.mk (Hone229.out.later cb239)
    clear Hone229
    have Htwo245 := Hid.mk (Htwo230.out.later cb239)
    clear Htwo230
    have Hx246 := Hid.mk (Hx231.out.later cb239)
    clear Hx231
    have Hy247 := Hid.mk (Hy232.out.later cb239)
    clear Hy232
    have HB248 := Hid.mk (HB233.out.trans (cb239.mono HB233.out.size))
    clear HB233
    clear cb239 l236
    have hc := qSame_eq next L _ a234 c235 a cap Hz238.out.l Hv240.out.l (Nat.le_trans HR.out.len (by decide))
    obtain ⟨p251, p252, _⟩ := Hz238.out.z.cells
    obtain ⟨p253, p254, _⟩ := Hv240.out.z.cells
    go_wp2_with fail
    clear p251 p252 p253 p254
    generalize w218.alloc (.cells #[.int .i64 next, .slice a234 L.length c235] 24) = w237 at *
    with_reducible refine Calls.mono hc ?_
    rintro e w249 ⟨rfl, d250⟩
    clear hc
    try dsimp only
    have Hv255 := Hid.mk (Hv240.out.later d250)
    clear Hv240
    have Hu256 := Hid.mk (Hu241.out.later d250)
    clear Hu241
    have Hw257 := Hid.mk (Hw242.out.later d250)
    clear Hw242
    have Hall258 := Hid.mk (Hall243.out.later d250)
    clear Hall243
    have Hone259 := Hid.mk (Hone244.out.later d250)
    clear Hone244
    have Htwo260 := Hid.mk (Htwo245.out.later d250)
    clear Htwo245
    have Hx261 := Hid.mk (Hx246.out.later d250)
    clear Hx246
    have Hy262 := Hid.mk (Hy247.out.later d250)
    clear Hy247
    have Hz263 := Hid.mk (Hz238.out.later d250)
    clear Hz238
    have HB264 := Hid.mk (HB248.out.trans (d250.mono HB248.out.size))
    clear HB248
    by_cases heq : m2 = next
    · have HQ := Hid.mk heq
      have dq : (m2 == next) = true := beq_iff_eq.2 heq
      clear heq
      go_upto_region 22 with fail
      obtain ⟨X, nX, cX, HX, hap⟩ : ∃ (X : List Vs) (nX cX : Int), Hid ((L = X ∧ next = nX ∧ 0 = cX) ∧ X.length ≤ 1954687338240 ∧ ∀ v ∈ X, v.l.length ≤ 4398046510976) ∧ ∀ w' xa xc, Below w249.heap.size w249 w' → Li w' L xa L.length xc → Calls Try.prog 17 #[bv next xa L.length xc, dv m2 next a48 (snL m2 L).length c49] w' fun e w'' => (∃ za zc, e = .returned (.tuple #[bv nX za X.length zc, .int .i64 cX]) ∧ Cp w'.heap.size w'' (.slice za X.length zc) X) ∧ Below w'.heap.size w' w'' := ⟨L, next, 0, ⟨⟨rfl, rfl, rfl⟩, hll.out, hzz.out⟩, fun w' xa xc h lx => (dApply_any L (snL m2 L) next m2 next w' xa _ xc a48 _ c49 lx (Hall258.out.l.later h)).mono (by
        rintro e w'' ⟨hax, hb⟩
        rcases hax with ⟨_, vx, rfl, ox⟩ | ⟨hno, _⟩
        · rw [show mg L (snL m2 L) = L by rw [HQ.out]; exact mg_again HR.out] at ox
          obtain ⟨za, zc, rfl, _⟩ := ox.ls
          exact ⟨⟨za, zc, rfl, ox⟩, hb⟩
        · exact absurd (by rw [HQ.out]; exact ap_again HR.out _) hno)⟩
      go_cut [19, 18] from 90 (fun ve vx wx => ∃ (gx : Nat) (za : Option Addr) (zc : Nat), ve = .int .i64 cX ∧ vx = .pointer (some ⟨gx, 0, none⟩) ∧ Hid (Below w249.heap.size w249 wx ∧ Bk wx gx nX X za zc))
      case first =>
        have HS : Hid (∀ w', Below w249.heap.size w249 w' → Below w249.heap.size w249 w' ∧ w'.cell? ⟨W.heap.size, 0, none⟩ = some (.int .i64 next) ∧ w'.cell? ⟨W.heap.size, 1, none⟩ = some (.slice a L.length cap) ∧ w'.cell? ⟨w42.heap.size, 0, none⟩ = some (.int .i64 m2) ∧ w'.cell? ⟨w42.heap.size, 1, none⟩ = some (.int .i64 next) ∧ w'.cell? ⟨w42.heap.size, 2, none⟩ = some (.slice a48 (snL m2 L).length c49)) := ⟨fun w' h => by
          obtain ⟨t0, t1, _⟩ := (Hv255.out.z.later h).cells
          obtain ⟨r0, r1, r2, _⟩ := (Hall258.out.z.later h).cells
          exact ⟨h, t0, t1, r0, r1, r2⟩⟩
        have hcp : ∀ w', Below w249.heap.size w249 w' → Calls Try.prog 10 #[bv next a L.length cap] w' fun e w'' => (∃ ya yc, e = .returned (bv next ya L.length yc) ∧ Li w'' L ya L.length yc) ∧ Below w'.heap.size w' w'' := fun w' h => (qCopy_any L next w' a _ cap rfl (Hv255.out.l.later h).s Hv255.out.l.l Hv255.out.l.z).mono (by
          rintro e w'' ⟨vx, rfl, ox, hb⟩
          obtain ⟨ya, yc, rfl, ly⟩ := ox.li Hv255.out.l.l Hv255.out.l.z
          exact ⟨⟨ya, yc, rfl, ly⟩, hb⟩)
        clear Hv255 Hu256 Hw257 Hall258 Hone259 Htwo260 Hx261 Hy262 Hz263 HB264
        generalize snL m2 L = G265 at *
        go_region_held3 (fun w' => Below w249.heap.size w249 w' ∧ w'.cell? ⟨W.heap.size, 0, none⟩ = some (.int .i64 next) ∧ w'.cell? ⟨W.heap.size, 1, none⟩ = some (.slice a L.length cap) ∧ w'.cell? ⟨w42.heap.size, 0, none⟩ = some (.int .i64 m2) ∧ w'.cell? ⟨w42.heap.size, 1, none⟩ = some (.int .i64 next) ∧ w'.cell? ⟨w42.heap.size, 2, none⟩ = some (.slice a48 G265.length c49)) ((refine HS.out _ ?_; first
          | with_reducible exact (Below.refl _ _).drew
          | with_reducible exact bC
          | with_reducible exact bB
          | with_reducible exact bal bC _
          | with_reducible exact bal bB _
          | with_reducible exact (bal (Below.refl _ _) _).drew
          | with_reducible exact bset bC hgx _ _)) (first
          | (go_at_call 10; with_reducible refine Calls.mono (hcp _ (And.left (by assumption))) ?_; rintro e w5 ⟨⟨ya, yc, rfl, ly⟩, x1⟩; first
            | (with_reducible have bB := below_seq (Below.refl w249.heap.size w249).drew x1; clear x1)
            | (with_reducible have bB := below_seq (bal (Below.refl w249.heap.size w249) _).drew x1; with_reducible have hz5 := zq1 x1; have hlt5 := hz5.lt; clear x1))
          | (go_at_call 17; with_reducible refine Calls.mono (hap _ _ _ (And.left (by assumption)) (by first | exact ly | exact ly.later (bl_alloc _ _))) ?_; rintro e w6 ⟨⟨za, zc, rfl, oz⟩, x2⟩; first
            | (with_reducible have bC := below_seq bB x2; with_reducible have hz6 := hz5.later x2; have z0 := hz6.cells.1; have z1 := hz6.cells.2.1; have f0 := hz6.cells.2.2 0; have f1 := hz6.cells.2.2 1; have hgx := Nat.le_refl w249.heap.size; have hgo := hlt5)
            | (with_reducible have bC := below_seq (bal bB _) x2; with_reducible have hz6 := zq2 x2; have z0 := hz6.cells.1; have z1 := hz6.cells.2.1; have f0 := hz6.cells.2.2 0; have f1 := hz6.cells.2.2 1; have hgx := bB.size; have hgo := Nat.lt_succ_self w5.heap.size)
            | (with_reducible have bC := below_seq bB x2)))
        all_goals (go_wp2_with fail)
        all_goals go_meet
        all_goals (first
          | exact ⟨_, _, _, rfl, rfl, ⟨bal bC _, bk_news oz HX.out.2⟩⟩
          | exact ⟨_, _, _, rfl, rfl, ⟨bset bC hgx _ _, bk_sets hz6 oz (by first | exact hgo | simp) HX.out.2⟩⟩)
      obtain ⟨g266, a267, c268, rfl, rfl, HW269⟩ := hcut
      obtain ⟨rfl, rfl, rfl⟩ := HX.out.1
      clear hap HX
      have d270 := HW269.out.1
      have Hv271 := Hid.mk (Hv255.out.later d270)
      clear Hv255
      have Hu272 := Hid.mk (Hu256.out.later d270)
      clear Hu256
      have Hw273 := Hid.mk (Hw257.out.later d270)
      clear Hw257
      have Hall274 := Hid.mk (Hall258.out.later d270)
      clear Hall258
      have Hone275 := Hid.mk (Hone259.out.later d270)
      clear Hone259
      have Htwo276 := Hid.mk (Htwo260.out.later d270)
      clear Htwo260
      have Hx277 := Hid.mk (Hx261.out.later d270)
      clear Hx261
      have Hy278 := Hid.mk (Hy262.out.later d270)
      clear Hy262
      have Hz279 := Hid.mk (Hz263.out.later d270)
      clear Hz263
      have HB280 := Hid.mk (HB264.out.trans (d270.mono HB264.out.size))
      clear HB264
      clear d270
      have Hagain281 := Hid.mk HW269.out.2
      clear HW269
      have hc := qSame_eq next L _ a267 c268 a cap Hagain281.out.l Hv271.out.l (Nat.le_trans HR.out.len (by decide))
      obtain ⟨p284, p285, _⟩ := Hagain281.out.z.cells
      obtain ⟨p286, p287, _⟩ := Hv271.out.z.cells
      go_wp2_with fail
      clear p284 p285 p286 p287
      with_reducible refine Calls.mono hc ?_
      rintro e w282 ⟨rfl, d283⟩
      clear hc
      try dsimp only
      have Hv288 := Hid.mk (Hv271.out.later d283)
      clear Hv271
      have Hu289 := Hid.mk (Hu272.out.later d283)
      clear Hu272
      have Hw290 := Hid.mk (Hw273.out.later d283)
      clear Hw273
      have Hall291 := Hid.mk (Hall274.out.later d283)
      clear Hall274
      have Hone292 := Hid.mk (Hone275.out.later d283)
      clear Hone275
      have Htwo293 := Hid.mk (Htwo276.out.later d283)
      clear Htwo276
      have Hx294 := Hid.mk (Hx277.out.later d283)
      clear Hx277
      have Hy295 := Hid.mk (Hy278.out.later d283)
      clear Hy278
      have Hz296 := Hid.mk (Hz279.out.later d283)
      clear Hz279
      have Hagain297 := Hid.mk (Hagain281.out.later d283)
      clear Hagain281
      have HB298 := Hid.mk (HB280.out.trans (d283.mono HB280.out.size))
      clear HB280
      go_wp2_with fail
      go_ret
      exact ⟨rfl, HB298.out⟩
    · have HQ := Hid.mk heq
      have dq : (m2 == next) = false := beq_eq_false_iff_ne.2 heq
      clear heq
      go_upto_region 22 with fail
      obtain ⟨X, nX, cX, HX, hap⟩ : ∃ (X : List Vs) (nX cX : Int), Hid ((([] : List Vs) = X ∧ (0 : Int) = nX ∧ (91 : Int) = cX) ∧ X.length ≤ 1954687338240 ∧ ∀ v ∈ X, v.l.length ≤ 4398046510976) ∧ ∀ w' xa xc, Below w249.heap.size w249 w' → Li w' L xa L.length xc → Calls Try.prog 17 #[bv next xa L.length xc, dv m2 next a48 (snL m2 L).length c49] w' fun e w'' => (∃ za zc, e = .returned (.tuple #[bv nX za X.length zc, .int .i64 cX]) ∧ Cp w'.heap.size w'' (.slice za X.length zc) X) ∧ Below w'.heap.size w' w'' := ⟨([] : List Vs), (0 : Int), (91 : Int), ⟨⟨rfl, rfl, rfl⟩, by simp, by simp⟩, fun w' xa xc h lx => (dApply_any L (snL m2 L) next m2 next w' xa _ xc a48 _ c49 lx (Hall258.out.l.later h)).mono (by
        rintro e w'' ⟨hax, hb⟩
        rcases hax with ⟨hno, _⟩ | ⟨_, rfl⟩
        · rw [(ap_ne HQ.out)] at hno; exact absurd hno (by decide)
        · exact ⟨⟨none, 0, by rw [(ap_ne HQ.out)]; rfl, Cp.nil _ _ hb.size⟩, hb⟩)⟩
      go_cut [19, 18] from 90 (fun ve vx wx => ∃ (gx : Nat) (za : Option Addr) (zc : Nat), ve = .int .i64 cX ∧ vx = .pointer (some ⟨gx, 0, none⟩) ∧ Hid (Below w249.heap.size w249 wx ∧ Bk wx gx nX X za zc))
      case first =>
        have HS : Hid (∀ w', Below w249.heap.size w249 w' → Below w249.heap.size w249 w' ∧ w'.cell? ⟨W.heap.size, 0, none⟩ = some (.int .i64 next) ∧ w'.cell? ⟨W.heap.size, 1, none⟩ = some (.slice a L.length cap) ∧ w'.cell? ⟨w42.heap.size, 0, none⟩ = some (.int .i64 m2) ∧ w'.cell? ⟨w42.heap.size, 1, none⟩ = some (.int .i64 next) ∧ w'.cell? ⟨w42.heap.size, 2, none⟩ = some (.slice a48 (snL m2 L).length c49)) := ⟨fun w' h => by
          obtain ⟨t0, t1, _⟩ := (Hv255.out.z.later h).cells
          obtain ⟨r0, r1, r2, _⟩ := (Hall258.out.z.later h).cells
          exact ⟨h, t0, t1, r0, r1, r2⟩⟩
        have hcp : ∀ w', Below w249.heap.size w249 w' → Calls Try.prog 10 #[bv next a L.length cap] w' fun e w'' => (∃ ya yc, e = .returned (bv next ya L.length yc) ∧ Li w'' L ya L.length yc) ∧ Below w'.heap.size w' w'' := fun w' h => (qCopy_any L next w' a _ cap rfl (Hv255.out.l.later h).s Hv255.out.l.l Hv255.out.l.z).mono (by
          rintro e w'' ⟨vx, rfl, ox, hb⟩
          obtain ⟨ya, yc, rfl, ly⟩ := ox.li Hv255.out.l.l Hv255.out.l.z
          exact ⟨⟨ya, yc, rfl, ly⟩, hb⟩)
        clear Hv255 Hu256 Hw257 Hall258 Hone259 Htwo260 Hx261 Hy262 Hz263 HB264
        generalize snL m2 L = G299 at *
        go_region_held3 (fun w' => Below w249.heap.size w249 w' ∧ w'.cell? ⟨W.heap.size, 0, none⟩ = some (.int .i64 next) ∧ w'.cell? ⟨W.heap.size, 1, none⟩ = some (.slice a L.length cap) ∧ w'.cell? ⟨w42.heap.size, 0, none⟩ = some (.int .i64 m2) ∧ w'.cell? ⟨w42.heap.size, 1, none⟩ = some (.int .i64 next) ∧ w'.cell? ⟨w42.heap.size, 2, none⟩ = some (.slice a48 G299.length c49)) ((refine HS.out _ ?_; first
          | with_reducible exact (Below.refl _ _).drew
          | with_reducible exact bC
          | with_reducible exact bB
          | with_reducible exact bal bC _
          | with_reducible exact bal bB _
          | with_reducible exact (bal (Below.refl _ _) _).drew
          | with_reducible exact bset bC hgx _ _)) (first
          | (go_at_call 10; with_reducible refine Calls.mono (hcp _ (And.left (by assumption))) ?_; rintro e w5 ⟨⟨ya, yc, rfl, ly⟩, x1⟩; first
            | (with_reducible have bB := below_seq (Below.refl w249.heap.size w249).drew x1; clear x1)
            | (with_reducible have bB := below_seq (bal (Below.refl w249.heap.size w249) _).drew x1; with_reducible have hz5 := zq1 x1; have hlt5 := hz5.lt; clear x1))
          | (go_at_call 17; with_reducible refine Calls.mono (hap _ _ _ (And.left (by assumption)) (by first | exact ly | exact ly.later (bl_alloc _ _))) ?_; rintro e w6 ⟨⟨za, zc, rfl, oz⟩, x2⟩; first
            | (with_reducible have bC := below_seq bB x2; with_reducible have hz6 := hz5.later x2; have z0 := hz6.cells.1; have z1 := hz6.cells.2.1; have f0 := hz6.cells.2.2 0; have f1 := hz6.cells.2.2 1; have hgx := Nat.le_refl w249.heap.size; have hgo := hlt5)
            | (with_reducible have bC := below_seq (bal bB _) x2; with_reducible have hz6 := zq2 x2; have z0 := hz6.cells.1; have z1 := hz6.cells.2.1; have f0 := hz6.cells.2.2 0; have f1 := hz6.cells.2.2 1; have hgx := bB.size; have hgo := Nat.lt_succ_self w5.heap.size)
            | (with_reducible have bC := below_seq bB x2)))
        all_goals (go_wp2_with fail)
        all_goals go_meet
        all_goals (first
          | exact ⟨_, _, _, rfl, rfl, ⟨bal bC _, bk_news oz HX.out.2⟩⟩
          | exact ⟨_, _, _, rfl, rfl, ⟨bset bC hgx _ _, bk_sets hz6 oz (by first | exact hgo | simp) HX.out.2⟩⟩)
      obtain ⟨g300, a301, c302, rfl, rfl, HW303⟩ := hcut
      obtain ⟨rfl, rfl, rfl⟩ := HX.out.1
      clear hap HX
      have d304 := HW303.out.1
      have Hv305 := Hid.mk (Hv255.out.later d304)
      clear Hv255
      have Hu306 := Hid.mk (Hu256.out.later d304)
      clear Hu256
      have Hw307 := Hid.mk (Hw257.out.later d304)
      clear Hw257
      have Hall308 := Hid.mk (Hall258.out.later d304)
      clear Hall258
      have Hone309 := Hid.mk (Hone259.out.later d304)
      clear Hone259
      have Htwo310 := Hid.mk (Htwo260.out.later d304)
      clear Htwo260
      have Hx311 := Hid.mk (Hx261.out.later d304)
      clear Hx261
      have Hy312 := Hid.mk (Hy262.out.later d304)
      clear Hy262
      have Hz313 := Hid.mk (Hz263.out.later d304)
      clear Hz263
      have HB314 := Hid.mk (HB264.out.trans (d304.mono HB264.out.size))
      clear HB264
      clear d304
      have Hagain315 := Hid.mk HW303.out.2
      clear HW303
      have hc := qSame_eq 0 [] _ a301 c302 none 0 Hagain315.out.l ⟨rfl, Ls.none _, by simp, by simp⟩ (by simp)
      obtain ⟨p318, p319, _⟩ := Hagain315.out.z.cells
      obtain ⟨p320, p321, _⟩ := Hv305.out.z.cells
      go_wp2_with fail
      clear p318 p319 p320 p321
      with_reducible refine Calls.mono hc ?_
      rintro e w316 ⟨rfl, d317⟩
      clear hc
      try dsimp only
      have Hv322 := Hid.mk (Hv305.out.later d317)
      clear Hv305
      have Hu323 := Hid.mk (Hu306.out.later d317)
      clear Hu306
      have Hw324 := Hid.mk (Hw307.out.later d317)
      clear Hw307
      have Hall325 := Hid.mk (Hall308.out.later d317)
      clear Hall308
      have Hone326 := Hid.mk (Hone309.out.later d317)
      clear Hone309
      have Htwo327 := Hid.mk (Htwo310.out.later d317)
      clear Htwo310
      have Hx328 := Hid.mk (Hx311.out.later d317)
      clear Hx311
      have Hy329 := Hid.mk (Hy312.out.later d317)
      clear Hy312
      have Hz330 := Hid.mk (Hz313.out.later d317)
      clear Hz313
      have Hagain331 := Hid.mk (Hagain315.out.later d317)
      clear Hagain315
      have HB332 := Hid.mk (HB314.out.trans (d317.mono HB314.out.size))
      clear HB314
      go_wp2_with fail
      go_ret
      exact ⟨rfl, HB332.out⟩
end Go.Proofs.Ytaibbeepgelepaa
