import Derived.Test.YtgcdnanfnbdjjaaGreatGt
import Derived.Test.YtgcdnanfnbdjjaaGreatGz
import Derived.Test.YtgcdnanfnbdjjaaGreatBq
import Derived.Test.YtgcdnanfnbdjjaaGreatGy
import Derived.Test.YtgcdnanfnbdjjaaGreatGb
/- Get and GetVersion. -/
namespace Go.Proofs.YtgcdnanfnbdjjaaGreat
set_option linter.unusedVariables false
set_option linter.unusedSimpArgs false
open Go.RowKit
theorem run_slV_mid (a : Option Addr) (len cap i j : Nat) (h0 : i ≤ j) (h1 : j ≤ len) (h2 : len ≤ cap) (h3 : cap ≤ 9223372036854775807) (hn : a = none → cap = 0) (w : World) : (slV (.slice a len cap) (some (.int .i64 (i : Int))) (some (.int .i64 (j : Int))) none).run Tryz.prog w = .ok (.slice (dropV a cap i) (j - i) (cap - i)) w := by
  unfold slV
  cases a with
  | none =>
    obtain rfl := hn rfl
    obtain rfl : len = 0 := by omega
    obtain rfl : j = 0 := by omega
    obtain rfl : i = 0 := by omega
    simp [Instr.slice, Tryz.underlying22, go_sem, dropV]
  | some ad =>
    obtain ⟨i0, hi0, hz0, hz1, hz2⟩ := infoV
    have c : ¬ ((j : Int) < (i : Int)) := by omega
    have c2 : ¬ ((cap : Int) < (j : Int)) := by omega
    by_cases h : cap - i = 0
    · have : cap = i := by omega
      subst this
      have : j = cap := by omega
      subst this
      simp [Instr.slice, Tryz.underlying22, go_sem, dropV, c, c2, hi0, hz1, sizeOf, typeInfo]
    · have h' : cap ≠ i := by omega
      simp [Instr.slice, Tryz.underlying22, go_sem, dropV, h, h', h0, c, c2, hi0, hz1, sizeOf, typeInfo]
      intro q
      omega
attribute [local go_sem ↓] Go.wp_at_zero Go.wp_at_succ
attribute [local go_sem ↓] slVe
/-- the versions of a key that stand from a place on -/
def gpL (L : List Vs) (i : Nat) (k : List UInt8) : List Vs := (L.drop i).take (ken (L.drop i) k)
theorem ken_drop {L : List Vs} {i : Nat} (hi : i ≤ L.length) (k : List UInt8) : i + ken (L.drop i) k ≤ L.length := by
  have := ken_le (L.drop i) k
  rw [List.length_drop] at this
  omega
theorem Li.gp {w : World} {L : List Vs} {a : Option Addr} {n c : Nat} (h : Li w L a n c) {i : Nat} (hi : i ≤ n) (k : List UInt8) : Li w (gpL L i k) (dropV a c i) (ken (L.drop i) k) (c - i) := by
  have hn := h.n
  have := ken_drop (L := L) (by omega : i ≤ L.length) k
  exact (h.drop hi).take (by omega)
theorem boxBV (w : World) (x y : Value) : ∀ w', Below (w.heap.size + 2) ((w.alloc (.cells #[x, y] 24)).alloc (.cells z5c 39)) w' → Bq w' w.heap.size x y ∧ Bv w' (w.heap.size + 1) (.string ⟨#[]⟩) (.int .i64 0) (.bool false) (.string ⟨#[]⟩) (.slice none 0 0) := fun w' h => by
  refine ⟨?_, ?_⟩
  · refine Bq.low (w := (w.alloc (.cells #[x, y] 24)).alloc (.cells z5c 39)) ?_ (by omega) h
    unfold Bq; rw [heap_alloc_old _ _ (by simp)]; exact heap_alloc_new _ _
  · have := heap_alloc_new (w.alloc (.cells #[x, y] 24)) (.cells z5c 39)
    rw [World.size_alloc] at this
    unfold Bv
    rw [h.block _ (by omega)]
    exact this
set_option maxRecDepth 100000 in
set_option maxHeartbeats 4000000 in
theorem bGet_any (L : List Vs) (next : Int) (k : List UInt8) (w : World) (a : Option Addr) (n cap : Nat) (hL : Li w L a n cap) :
    Calls Tryz.prog 20 #[bv next a n cap, str k] w fun e w' => ∃ i : Nat, i ≤ L.length ∧ (SrtV L → i = fndV L k) ∧ ((¬ keyE k = 0 ∧ RV w w' e vs0 (keyE k)) ∨ (keyE k = 0 ∧ RV w w' e (toV (gpL L i k)) (toE (gpL L i k)))) := by
  obtain rfl := hL.n
  have b0 := (Below.refl w.heap.size w).alloc (Nat.le_refl _) (.cells #[.int .i64 next, .slice a L.length cap] 24)
  have b1 := b0.alloc b0.size (.cells z5c 39)
  have HB := Hid.mk (boxBV w (.int .i64 next) (.slice a L.length cap))
  have hk := fun w => key_any k w
  have hL2 := hL.later b1
  have hp := places_any L k _ a _ cap hL2
  have hle := hL.s.le
  have hmax := hL.s.max
  have hnil := hL.s.nil
  have HL := Hid.mk hL
  clear hL hL2
  by_cases hk0 : keyE k = 0
  · have HK := Hid.mk hk0
    rw [hk0] at hk
    clear hk0
    go_enter Tryz.func20, Tryz.ntmps20
    go_wp2_with (go_at_call 47; refine (hk _).mono ?_; rintro e w0 ⟨rfl, rfl⟩)
    with_reducible refine Calls.mono hp ?_
    rintro e w1 ⟨⟨i, rfl, hi, hs⟩, c1⟩
    obtain ⟨J, hJ⟩ : ∃ J : Nat, J = i + ken (L.drop i) k := ⟨_, rfl⟩
    rw [← hJ]
    dsimp only
    have HS := Hid.mk hs
    have b2 := b1.trans (c1.mono b1.size)
    have bb : Below (w.heap.size + 2) ((w.alloc (.cells #[.int .i64 next, .slice a L.length cap] 24)).alloc (.cells z5c 39)) w1 := by simpa using c1
    have hLg := (HL.out.later b2).gp (i := i) hi k
    have hkd := ken_drop hi k
    have r1 := fun w => run_slV_mid a L.length cap i J (by omega) (by omega) hle hmax hnil w
    rw [show J - i = ken (L.drop i) k by omega] at r1
    have ht := top_any (gpL L i k) w1 _ _ _ hLg
    obtain ⟨x0, _⟩ := HB.out w1 bb
    obtain ⟨p0, p1, _⟩ := x0.cells
    clear hp hs c1 hk hLg hkd b0 x0 hle hmax hnil hJ
    generalize ken (L.drop i) k = K at *
    go_wp2_with fail
    with_reducible refine Calls.mono ht ?_
    rintro e w2 ⟨ra, rc, rfl, ow, c2⟩
    dsimp only
    have b3 := b2.trans (c2.mono b2.size)
    have bb2 := bb.trans (c2.mono (by have := bb.size; simp at this; omega))
    obtain ⟨_, y0⟩ := HB.out w2 bb2
    obtain ⟨q0, q1, q2, q3, q4, qf⟩ := y0.cells
    have qf0 := qf 0
    have qf1 := qf 1
    have qf2 := qf 2
    have qf3 := qf 3
    have qf4 := qf 4
    have hno : ∀ (l : List En) (v : Value), Ow w1.heap.size w2 v l → v.ownBlock ≠ some (w.heap.size + 1) := fun l v h q => by
      have := (h.own.lt _ q).1
      have := bb.size
      simp at this
      omega
    have HN := Hid.mk hno
    have s12 := Hid.mk b2.size
    clear hno ht b2 p0 p1 HB r1 qf c2 bb
    generalize hEE : toE (gpL L i k) = EE at *
    generalize hUU : toV (gpL L i k) = UU at *
    have HEE := Hid.mk hEE
    have HUU := Hid.mk hUU
    clear hEE hUU
    have z9 := y0.s5 (str UU.key) (.int .i64 UU.seq) (.bool UU.mkr) (str UU.data) (.slice ra UU.l.length rc)
    have o9 := (ow.base (b' := w.heap.size) s12.out).s5 (HN.out _ _ ow) (str UU.key) (.int .i64 UU.seq) (.bool UU.mkr) (str UU.data) (.slice ra UU.l.length rc)
    have B9 := Below.s5 b3 (R := w.heap.size + 1) (Nat.le_succ _) (str UU.key) (.int .i64 UU.seq) (.bool UU.mkr) (str UU.data) (.slice ra UU.l.length rc)
    clear y0 ow b3 bb2 b1 HN
    go_wp2_with fail
    first | rw [s5_eq] | skip
    obtain ⟨g0, g1, g2, g3, g4, _⟩ := z9.cells
    generalize s5 w2 (w.heap.size + 1) (str UU.key) (.int .i64 UU.seq) (.bool UU.mkr) (str UU.data) (.slice ra UU.l.length rc) = W9 at *
    refine bodyPost_ret (v := .tuple #[vv UU.key UU.seq UU.mkr UU.data ra UU.l.length rc, .int .i64 EE]) ?_ rfl ⟨i, hi, HS.out, .inr ⟨HK.out, by rw [HUU.out, HEE.out]; exact ⟨ra, rc, rfl, o9, B9⟩⟩⟩
    rw [results_ct rfl]
    go_simp
  · have HK := Hid.mk hk0
    have hke : keyE k = 61 := (keyE_or k).resolve_left hk0
    rw [hke] at hk
    obtain ⟨_, y0⟩ := HB.out _ (Below.refl _ _)
    obtain ⟨q0, q1, q2, q3, q4, qf⟩ := y0.cells
    have qf0 := qf 0
    have qf1 := qf 1
    have qf2 := qf 2
    have qf3 := qf 3
    have qf4 := qf 4
    have HE := Hid.mk hke
    clear hk0 hke hp hle hmax hnil qf y0 b0 HB HL
    go_enter Tryz.func20, Tryz.ntmps20
    go_wp2_with (go_at_call 47; refine (hk _).mono ?_; rintro e w0 ⟨rfl, rfl⟩)
    refine bodyPost_ret (v := .tuple #[vv [] 0 false [] none 0 0, .int .i64 61]) ?_ rfl ⟨fndV L k, fndV_le L k, fun _ => rfl, .inl ⟨HK.out, by rw [HE.out]; exact rv_zero b1⟩⟩
    rw [results_ct rfl]
    go_simp
set_option maxRecDepth 100000 in
set_option maxHeartbeats 4000000 in
theorem bGetVersion_any (L : List Vs) (next : Int) (k : List UInt8) (sq : Int) (w : World) (a : Option Addr) (n cap : Nat) (hL : Li w L a n cap) :
    Calls Tryz.prog 21 #[bv next a n cap, str k, .int .i64 sq] w fun e w' => ∃ i : Nat, i ≤ L.length ∧ (SrtV L → i = fndV L k) ∧ ((¬ keyE k = 0 ∧ RV w w' e vs0 (keyE k)) ∨ (keyE k = 0 ∧ RV w w' e (geV (gpL L i k) sq) (geE (gpL L i k) sq))) := by
  obtain rfl := hL.n
  have b0 := (Below.refl w.heap.size w).alloc (Nat.le_refl _) (.cells #[.int .i64 next, .slice a L.length cap] 24)
  have b1 := b0.alloc b0.size (.cells z5c 39)
  have HB := Hid.mk (boxBV w (.int .i64 next) (.slice a L.length cap))
  have hk := fun w => key_any k w
  have hL2 := hL.later b1
  have hp := places_any L k _ a _ cap hL2
  have hle := hL.s.le
  have hmax := hL.s.max
  have hnil := hL.s.nil
  have HL := Hid.mk hL
  clear hL hL2
  by_cases hk0 : keyE k = 0
  · have HK := Hid.mk hk0
    rw [hk0] at hk
    clear hk0
    go_enter Tryz.func21, Tryz.ntmps21
    go_wp2_with (go_at_call 47; refine (hk _).mono ?_; rintro e w0 ⟨rfl, rfl⟩)
    with_reducible refine Calls.mono hp ?_
    rintro e w1 ⟨⟨i, rfl, hi, hs⟩, c1⟩
    obtain ⟨J, hJ⟩ : ∃ J : Nat, J = i + ken (L.drop i) k := ⟨_, rfl⟩
    rw [← hJ]
    dsimp only
    have HS := Hid.mk hs
    have b2 := b1.trans (c1.mono b1.size)
    have bb : Below (w.heap.size + 2) ((w.alloc (.cells #[.int .i64 next, .slice a L.length cap] 24)).alloc (.cells z5c 39)) w1 := by simpa using c1
    have hLg := (HL.out.later b2).gp (i := i) hi k
    have hkd := ken_drop hi k
    have r1 := fun w => run_slV_mid a L.length cap i J (by omega) (by omega) hle hmax hnil w
    rw [show J - i = ken (L.drop i) k by omega] at r1
    have ht := get_any (gpL L i k) sq w1 _ _ _ hLg
    obtain ⟨x0, _⟩ := HB.out w1 bb
    obtain ⟨p0, p1, _⟩ := x0.cells
    clear hp hs c1 hk hLg hkd b0 x0 hle hmax hnil hJ
    generalize ken (L.drop i) k = K at *
    go_wp2_with fail
    with_reducible refine Calls.mono ht ?_
    rintro e w2 ⟨ra, rc, rfl, ow, c2⟩
    dsimp only
    have b3 := b2.trans (c2.mono b2.size)
    have bb2 := bb.trans (c2.mono (by have := bb.size; simp at this; omega))
    obtain ⟨_, y0⟩ := HB.out w2 bb2
    obtain ⟨q0, q1, q2, q3, q4, qf⟩ := y0.cells
    have qf0 := qf 0
    have qf1 := qf 1
    have qf2 := qf 2
    have qf3 := qf 3
    have qf4 := qf 4
    have hno : ∀ (l : List En) (v : Value), Ow w1.heap.size w2 v l → v.ownBlock ≠ some (w.heap.size + 1) := fun l v h q => by
      have := (h.own.lt _ q).1
      have := bb.size
      simp at this
      omega
    have HN := Hid.mk hno
    have s12 := Hid.mk b2.size
    clear hno ht b2 p0 p1 HB r1 qf c2 bb
    generalize hEE : geE (gpL L i k) sq = EE at *
    generalize hUU : geV (gpL L i k) sq = UU at *
    have HEE := Hid.mk hEE
    have HUU := Hid.mk hUU
    clear hEE hUU
    have z9 := y0.s5 (str UU.key) (.int .i64 UU.seq) (.bool UU.mkr) (str UU.data) (.slice ra UU.l.length rc)
    have o9 := (ow.base (b' := w.heap.size) s12.out).s5 (HN.out _ _ ow) (str UU.key) (.int .i64 UU.seq) (.bool UU.mkr) (str UU.data) (.slice ra UU.l.length rc)
    have B9 := Below.s5 b3 (R := w.heap.size + 1) (Nat.le_succ _) (str UU.key) (.int .i64 UU.seq) (.bool UU.mkr) (str UU.data) (.slice ra UU.l.length rc)
    clear y0 ow b3 bb2 b1 HN
    go_wp2_with fail
    first | rw [s5_eq] | skip
    obtain ⟨g0, g1, g2, g3, g4, _⟩ := z9.cells
    generalize s5 w2 (w.heap.size + 1) (str UU.key) (.int .i64 UU.seq) (.bool UU.mkr) (str UU.data) (.slice ra UU.l.length rc) = W9 at *
    refine bodyPost_ret (v := .tuple #[vv UU.key UU.seq UU.mkr UU.data ra UU.l.length rc, .int .i64 EE]) ?_ rfl ⟨i, hi, HS.out, .inr ⟨HK.out, by rw [HUU.out, HEE.out]; exact ⟨ra, rc, rfl, o9, B9⟩⟩⟩
    rw [results_ct rfl]
    go_simp
  · have HK := Hid.mk hk0
    have hke : keyE k = 61 := (keyE_or k).resolve_left hk0
    rw [hke] at hk
    obtain ⟨_, y0⟩ := HB.out _ (Below.refl _ _)
    obtain ⟨q0, q1, q2, q3, q4, qf⟩ := y0.cells
    have qf0 := qf 0
    have qf1 := qf 1
    have qf2 := qf 2
    have qf3 := qf 3
    have qf4 := qf 4
    have HE := Hid.mk hke
    clear hk0 hke hp hle hmax hnil qf y0 b0 HB HL
    go_enter Tryz.func21, Tryz.ntmps21
    go_wp2_with (go_at_call 47; refine (hk _).mono ?_; rintro e w0 ⟨rfl, rfl⟩)
    refine bodyPost_ret (v := .tuple #[vv [] 0 false [] none 0 0, .int .i64 61]) ?_ rfl ⟨fndV L k, fndV_le L k, fun _ => rfl, .inl ⟨HK.out, by rw [HE.out]; exact rv_zero b1⟩⟩
    rw [results_ct rfl]
    go_simp
end Go.Proofs.YtgcdnanfnbdjjaaGreat

/- DeleteVersion. -/
namespace Go.Proofs.YtgcdnanfnbdjjaaGreat
set_option linter.unusedVariables false
set_option linter.unusedSimpArgs false
open Go.RowKit
attribute [local go_sem ↓] Go.wp_at_zero Go.wp_at_succ
attribute [local go_sem ↓] slVe
/-- a bucket of one's own is answered, and a number -/
def RB (w w' : World) (e : Ending) (next : Int) (X : List Vs) (c : Int) : Prop := ∃ v, e = .returned (.tuple #[.agg #[.int .i64 next, v], .int .i64 c]) ∧ Cp w.heap.size w' v X ∧ Below w.heap.size w w'
theorem rb_zero {w W : World} {c : Int} (hB : Below w.heap.size w W) : RB w W (.returned (.tuple #[bv 0 none 0 0, .int .i64 c])) 0 [] c := ⟨_, rfl, Cp.nil _ _ hB.size, hB⟩
theorem geE_or (L : List Vs) (s : Int) : geE L s = 0 ∨ geE L s = 72 := by unfold geE; split <;> simp
theorem gpL_len (L : List Vs) (i : Nat) (k : List UInt8) : (gpL L i k).length = ken (L.drop i) k := by
  unfold gpL
  rw [List.length_take]
  have := ken_le (L.drop i) k
  omega
theorem rmL_len (L : List Vs) (s : Int) : (rmL L s).length ≤ L.length := by
  unfold rmL
  split
  · simp
  · rw [List.length_append, List.length_take, List.length_drop]; omega
set_option maxRecDepth 100000 in
set_option maxHeartbeats 4000000 in
theorem bDeleteVersion_any (L : List Vs) (next : Int) (k : List UInt8) (sq : Int) (w : World) (a : Option Addr) (n cap : Nat) (hL : Li w L a n cap) :
    Calls Tryz.prog 23 #[bv next a n cap, str k, .int .i64 sq] w fun e w' => ∃ i : Nat, i ≤ L.length ∧ (SrtV L → i = fndV L k) ∧ ((¬ keyE k = 0 ∧ RB w w' e 0 [] (keyE k)) ∨ (keyE k = 0 ∧ geE (gpL L i k) sq = 72 ∧ RB w w' e 0 [] 72) ∨ (keyE k = 0 ∧ geE (gpL L i k) sq = 0 ∧ RB w w' e next (L.take i ++ rmL (gpL L i k) sq ++ L.drop (i + ken (L.drop i) k)) 0)) := by
  obtain rfl := hL.n
  have b0 := (Below.refl w.heap.size w).alloc (Nat.le_refl _) (.cells #[.int .i64 next, .slice a L.length cap] 24)
  have b1 := b0.alloc b0.size (.cells #[.int .i64 0, .slice none 0 0] 24)
  have HB := Hid.mk (two_boxes w (.int .i64 next) (.slice a L.length cap))
  have hk := fun w => key_any k w
  have hL2 := hL.later b1
  have hp := places_any L k _ a _ cap hL2
  have hle := hL.s.le
  have hmax := hL.s.max
  have hnil := hL.s.nil
  have HL := Hid.mk hL
  clear hL hL2
  by_cases hk0 : keyE k = 0
  · have HK := Hid.mk hk0
    rw [hk0] at hk
    clear hk0
    go_enter Tryz.func23, Tryz.ntmps23
    go_wp2_with (go_at_call 47; refine (hk _).mono ?_; rintro e w0 ⟨rfl, rfl⟩)
    with_reducible refine Calls.mono hp ?_
    rintro e w1 ⟨⟨i, rfl, hi, hs⟩, c1⟩
    obtain ⟨J, hJ⟩ : ∃ J : Nat, J = i + ken (L.drop i) k := ⟨_, rfl⟩
    rw [← hJ]
    dsimp only
    have HS := Hid.mk hs
    have b2 := b1.trans (c1.mono b1.size)
    have bb : Below (w.heap.size + 2) ((w.alloc (.cells #[.int .i64 next, .slice a L.length cap] 24)).alloc (.cells #[.int .i64 0, .slice none 0 0] 24)) w1 := by simpa using c1
    have hLg := (HL.out.later b2).gp (i := i) hi k
    have hkd := ken_drop hi k
    have r1 := fun w => run_slV_mid a L.length cap i J (by omega) (by omega) hle hmax hnil w
    rw [show J - i = ken (L.drop i) k by omega] at r1
    have ht := remove_any (gpL L i k) sq w1 _ _ _ hLg
    obtain ⟨x0, _⟩ := HB.out w1 bb
    obtain ⟨p0, p1, _⟩ := x0.cells
    have HJ := Hid.mk hJ
    clear hp hs c1 hk hLg hkd b0 x0 hle hmax hnil hJ
    generalize hK : ken (L.drop i) k = K at *
    go_wp2_with fail
    with_reducible refine Calls.mono ht ?_
    rintro e w2 ⟨rv, rfl, kr, c2⟩
    obtain ⟨ra, rc, rfl, _⟩ := kr.ls
    dsimp only
    have b3 := b2.trans (c2.mono b2.size)
    have bb2 := bb.trans (c2.mono (by have := bb.size; simp at this; omega))
    obtain ⟨x0, y0⟩ := HB.out w2 bb2
    obtain ⟨p0, p1, _⟩ := x0.cells
    obtain ⟨q0, q1, qf⟩ := y0.cells
    have qf0 := qf 0
    have qf1 := qf 1
    have HY := Hid.mk y0
    have HX0 := Hid.mk x0
    have hRsz : w.heap.size + 1 < w2.heap.size := y0.lt
    rcases geE_or (gpL L i k) sq with hg | hg
    · rw [hg]
      have HG := Hid.mk hg
      have hsum : i + (rmL (gpL L i k) sq).length + (L.length - J) ≤ 1954687338260 := by
        have h1 := rmL_len (gpL L i k) sq
        rw [gpL_len] at h1
        have h2 := HL.out.l
        have h3 := ken_drop hi k
        have h4 := HJ.out
        omega
      have hx := exchanged_any L i J (by have := HJ.out; omega) (by have := HJ.out; have := ken_drop hi k; omega) (rmL (gpL L i k) sq) w2.drew a _ cap w1.heap.size _ ((HL.out.later b3).later (Below.refl _ _).drew) (kr.later (Below.refl _ _).drew) hsum
      have HS2 : Hid (∀ w', Below (w.heap.size + 1) w2 w' → Below (w.heap.size + 1) w2 w' ∧ w'.cell? ⟨w.heap.size, 0, none⟩ = some (.int .i64 next) ∧ w'.cell? ⟨w.heap.size, 1, none⟩ = some (.slice a L.length cap)) := ⟨fun w' hb => by
        obtain ⟨g0, g1, _⟩ := (HX0.out.low (by omega) hb).cells
        exact ⟨hb, g0, g1⟩⟩
      have HC3 : Hid (∀ w3, Below w2.drew.heap.size w2.drew w3 → Below (w.heap.size + 1) w2 w3) := ⟨fun w3 h => ((Below.refl _ _).drew).trans (h.mono (by show w.heap.size + 1 ≤ w2.heap.size; omega))⟩
      have HF : Hid (∀ w3 v3 X, Cp w1.heap.size w3 v3 X → Below w2.drew.heap.size w2.drew w3 → Cp w.heap.size ((w3.setCell ⟨w.heap.size + 1, 0, none⟩ (.int .i64 next)).setCell ⟨w.heap.size + 1, 1, none⟩ v3) v3 X ∧ Below w.heap.size w ((w3.setCell ⟨w.heap.size + 1, 0, none⟩ (.int .i64 next)).setCell ⟨w.heap.size + 1, 1, none⟩ v3) ∧ Bq ((w3.setCell ⟨w.heap.size + 1, 0, none⟩ (.int .i64 next)).setCell ⟨w.heap.size + 1, 1, none⟩ v3) (w.heap.size + 1) (.int .i64 next) v3) := ⟨fun w3 v3 X hc hb => by
        have hb2 : Below w2.heap.size w2 w3 := below_seq (Below.refl _ _).drew hb
        have s1 : w.heap.size + 1 < w1.heap.size := by have := bb.size; simp at this; omega
        exact ⟨((hc.low (by omega) _).low (by omega) _).base (by omega), ((b3.trans (hb2.mono b3.size)).setCell (p := ⟨w.heap.size + 1, 0, none⟩) (Nat.le_succ _) _).setCell (p := ⟨w.heap.size + 1, 1, none⟩) (Nat.le_succ _) _, ((HY.out.later hb2).set0 _).set1 _⟩⟩
      generalize hX : L.take i ++ rmL (gpL L i k) sq ++ L.drop J = X at hx
      have HX := Hid.mk hX
      clear hX
      clear hsum hg x0 y0 HB HX0 p0 p1 q0 q1 qf qf0 qf1 bb bb2 b1 c2 ht r1 kr
      generalize (rmL (gpL L i k) sq).length = RL at *
      go_wp2_with fail
      go_region_held3 (fun w' => Below (w.heap.size + 1) w2 w' ∧ w'.cell? ⟨w.heap.size, 0, none⟩ = some (.int .i64 next) ∧ w'.cell? ⟨w.heap.size, 1, none⟩ = some (.slice a L.length cap)) (first
        | exact HS2.out _ (Below.refl _ _).drew
        | exact HS2.out _ (HC3.out _ c3)
        | exact HS2.out _ ((HC3.out _ c3).setCell (p := ⟨w.heap.size + 1, 0, none⟩) (Nat.le_refl _) _)
        | exact HS2.out _ (((HC3.out _ c3).setCell (p := ⟨w.heap.size + 1, 0, none⟩) (Nat.le_refl _) _).setCell (p := ⟨w.heap.size + 1, 1, none⟩) (Nat.le_refl _) _)) (first
        | (go_at_call 52; with_reducible refine Calls.mono hx ?_; rintro e w3 ⟨v3, rfl, k3, c3⟩; obtain ⟨va, vc, rfl, _⟩ := k3.ls; obtain ⟨t0, t1, tf⟩ := (HY.out.later (below_seq (Below.refl _ _).drew c3)).cells; have tf0 := tf 0; have tf1 := tf 1; clear tf))
      obtain ⟨o9, B9, z9⟩ := HF.out _ _ _ k3 c3
      obtain ⟨g0, g1, _⟩ := z9.cells
      clear z9 t0 t1 tf0 tf1 HF k3 c3 HY
      generalize (w3.setCell ⟨w.heap.size + 1, 0, none⟩ (.int .i64 next)).setCell ⟨w.heap.size + 1, 1, none⟩ (.slice va X.length vc) = W9 at *
      go_wp2_with fail
      refine bodyPost_ret (v := .tuple #[.agg #[.int .i64 next, .slice va X.length vc], .int .i64 0]) ?_ rfl ⟨i, hi, HS.out, .inr (.inr ⟨HK.out, HG.out, _, rfl, by rw [hK, ← HJ.out, HX.out]; exact o9, B9⟩)⟩
      rw [results_ct rfl]
      go_simp
    · rw [hg]
      have z9 := (y0.set0 (.int .i64 0)).set1 (.slice none 0 0)
      have B9 := (b3.setCell (p := ⟨w.heap.size + 1, 0, none⟩) (Nat.le_succ _) (.int .i64 0)).setCell (p := ⟨w.heap.size + 1, 1, none⟩) (Nat.le_succ _) (.slice none 0 0)
      have HG := Hid.mk hg
      clear hg HL HX0 HY x0 y0 p0 p1 bb bb2 b1 b2 b3 c2 ht r1 kr HB
      go_wp2_with fail
      obtain ⟨g0, g1, _⟩ := z9.cells
      generalize (w2.setCell ⟨w.heap.size + 1, 0, none⟩ (.int .i64 0)).setCell ⟨w.heap.size + 1, 1, none⟩ (.slice none 0 0) = W9 at *
      refine bodyPost_ret (v := .tuple #[bv 0 none 0 0, .int .i64 72]) ?_ rfl ⟨i, hi, HS.out, .inr (.inl ⟨HK.out, HG.out, rb_zero B9⟩)⟩
      rw [results_ct rfl]
      go_simp
  · have HK := Hid.mk hk0
    have hke : keyE k = 61 := (keyE_or k).resolve_left hk0
    rw [hke] at hk
    obtain ⟨_, y0⟩ := HB.out _ (Below.refl _ _)
    obtain ⟨q0, q1, qf⟩ := y0.cells
    have qf0 := qf 0
    have qf1 := qf 1
    have HE := Hid.mk hke
    clear hk0 hke hp hle hmax hnil qf y0 b0 HB HL
    go_enter Tryz.func23, Tryz.ntmps23
    go_wp2_with (go_at_call 47; refine (hk _).mono ?_; rintro e w0 ⟨rfl, rfl⟩)
    refine bodyPost_ret (v := .tuple #[bv 0 none 0 0, .int .i64 61]) ?_ rfl ⟨fndV L k, fndV_le L k, fun _ => rfl, .inl ⟨HK.out, by rw [HE.out]; exact rb_zero b1⟩⟩
    rw [results_ct rfl]
    go_simp
end Go.Proofs.YtgcdnanfnbdjjaaGreat
