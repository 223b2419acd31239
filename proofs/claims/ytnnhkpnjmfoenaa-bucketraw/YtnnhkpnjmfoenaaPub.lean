/- Put and Delete. -/
import Derived.Test.YtnnhkpnjmfoenaaAdb
namespace Go.Proofs.Ytnnhkpnjmfoenaa
set_option linter.unusedVariables false
set_option linter.unusedSimpArgs false
open Go.RowKit
attribute [local go_sem ↓] Go.wp_at_zero Go.wp_at_succ
/-- what is answered where a version is added -/
def AdP (w w' : World) (e : Ending) (next : Int) (L : List Vs) (i : Nat) (v : Vs) : Prop := (¬ rfE next L v = 0 ∧ RC w w' e 0 [] 0 (rfE next L v)) ∨ (rfE next L v = 0 ∧ ¬ puE (gpL L i v.key) v = 0 ∧ RC w w' e 0 [] 0 (puE (gpL L i v.key) v)) ∨ (rfE next L v = 0 ∧ puE (gpL L i v.key) v = 0 ∧ RC w w' e (wrap64 (next + 1)) (L.take i ++ puL (gpL L i v.key) v ++ L.drop (i + ken (L.drop i) v.key)) v.seq 0)
/-- there is one answer, in one of three ways -/
theorem AdP.out {w w' : World} {e : Ending} {next : Int} {L : List Vs} {i : Nat} {v : Vs} (h : AdP w w' e next L i v) : ∃ n1 X s c, RC w w' e n1 X s c ∧ ∀ W W' E, RC W W' E n1 X s c → AdP W W' E next L i v := by
  rcases h with ⟨h1, h2⟩ | ⟨h1, h2, h3⟩ | ⟨h1, h2, h3⟩
  · exact ⟨_, _, _, _, h2, fun _ _ _ q => .inl ⟨h1, q⟩⟩
  · exact ⟨_, _, _, _, h3, fun _ _ _ q => .inr (.inl ⟨h1, h2, q⟩)⟩
  · exact ⟨_, _, _, _, h3, fun _ _ _ q => .inr (.inr ⟨h1, h2, q⟩)⟩
set_option maxRecDepth 100000 in
set_option maxHeartbeats 4000000 in
theorem bPut_any (L : List Vs) (next : Int) (k d : List UInt8) (l : List En) (w : World) (a : Option Addr) (n cap : Nat) (va : Option Addr) (vn vc : Nat) (hL : Li w L a n cap) (hm : l.length = vn) (hS : Sl w va vc l) (hz : l.length ≤ 4398046510976) :
    Calls Try.prog 13 #[bv next a n cap, str k, str d, .slice va vn vc] w fun e w' => ∃ i : Nat, i ≤ L.length ∧ (SrtV L → i = fndV L k) ∧ AdP w w' e next L i ⟨k, next, false, d, l⟩ := by
  obtain rfl := hL.n
  subst hm
  have b0 := (Below.refl w.heap.size w).alloc (Nat.le_refl _) (.cells #[.int .i64 next, .slice a L.length cap] 26)
  have b1 := b0.alloc b0.size (.cells #[.int .i64 0, .slice none 0 0] 26)
  have HB := Hid.mk (two_boxes w (.int .i64 next) (.slice a L.length cap))
  obtain ⟨x0, _⟩ := HB.out _ (Below.refl _ _)
  obtain ⟨p0, p1, _⟩ := x0.cells
  have ha := added_any L next ⟨k, next, false, d, l⟩ _ a _ cap va _ vc (hL.later b1) ⟨rfl, hS.later b1, hz⟩
  clear hL hS b0 x0
  go_enter Try.func13, Try.ntmps13
  go_wp2_with fail
  with_reducible refine Calls.mono ha ?_
  rintro e w1 ⟨i, hi, hs, had⟩
  obtain ⟨n1, X, s, c, ⟨rv, rfl, kr, c1⟩, hout⟩ := AdP.out (v := ⟨k, next, false, d, l⟩) had
  obtain ⟨ra, rc, rfl, _⟩ := kr.ls
  dsimp only
  have b2 := b1.trans (c1.mono b1.size)
  have bb : Below (w.heap.size + 2) ((w.alloc (.cells #[.int .i64 next, .slice a L.length cap] 26)).alloc (.cells #[.int .i64 0, .slice none 0 0] 26)) w1 := by simpa using c1
  obtain ⟨_, y0⟩ := HB.out w1 bb
  obtain ⟨q0, q1, qf⟩ := y0.cells
  have qf0 := qf 0
  have qf1 := qf 1
  have z9 := (y0.set0 (.int .i64 n1)).set1 (.slice ra X.length rc)
  have o9 : Cp w.heap.size ((w1.setCell ⟨w.heap.size + 1, 0, none⟩ (.int .i64 n1)).setCell ⟨w.heap.size + 1, 1, none⟩ (.slice ra X.length rc)) (.slice ra X.length rc) X := ((kr.low (g := w.heap.size + 1) (j := 0) (by simp) (.int .i64 n1)).low (g := w.heap.size + 1) (j := 1) (by simp) (.slice ra X.length rc)).base (by simp; omega)
  have B9 := (b2.setCell (p := ⟨w.heap.size + 1, 0, none⟩) (Nat.le_succ _) (.int .i64 n1)).setCell (p := ⟨w.heap.size + 1, 1, none⟩) (Nat.le_succ _) (.slice ra X.length rc)
  have HO := Hid.mk hout
  have HS := Hid.mk hs
  clear hout hs had kr c1 b2 bb y0 qf HB b1 p0 p1 ha
  generalize X.length = XL at *
  go_wp2_with fail
  obtain ⟨g0, g1, _⟩ := z9.cells
  generalize (w1.setCell ⟨w.heap.size + 1, 0, none⟩ (.int .i64 n1)).setCell ⟨w.heap.size + 1, 1, none⟩ (.slice ra XL rc) = W9 at *
  refine bodyPost_ret (v := .tuple #[.agg #[.int .i64 n1, .slice ra XL rc], .int .i64 s, .int .i64 c]) ?_ rfl ⟨i, hi, HS.out, HO.out _ _ _ ⟨_, rfl, o9, B9⟩⟩
  rw [results_ctt rfl]
  go_simp
set_option maxRecDepth 100000 in
set_option maxHeartbeats 4000000 in
theorem bDelete_any (L : List Vs) (next : Int) (k : List UInt8) (w : World) (a : Option Addr) (n cap : Nat) (hL : Li w L a n cap) :
    Calls Try.prog 14 #[bv next a n cap, str k] w fun e w' => ∃ i : Nat, i ≤ L.length ∧ (SrtV L → i = fndV L k) ∧ AdP w w' e next L i ⟨k, next, true, [], []⟩ := by
  obtain rfl := hL.n
  have b0 := (Below.refl w.heap.size w).alloc (Nat.le_refl _) (.cells #[.int .i64 next, .slice a L.length cap] 26)
  have b1 := b0.alloc b0.size (.cells #[.int .i64 0, .slice none 0 0] 26)
  have HB := Hid.mk (two_boxes w (.int .i64 next) (.slice a L.length cap))
  obtain ⟨x0, _⟩ := HB.out _ (Below.refl _ _)
  obtain ⟨p0, p1, _⟩ := x0.cells
  have ha := added_any L next ⟨k, next, true, [], []⟩ _ a _ cap none 0 0 (hL.later b1) ⟨rfl, ⟨⟨fun k p hk => by simp at hk⟩, Nat.le_refl _, by omega, fun _ => rfl⟩, by simp⟩
  clear hL b0 x0
  go_enter Try.func14, Try.ntmps14
  go_wp2_with fail
  with_reducible refine Calls.mono ha ?_
  rintro e w1 ⟨i, hi, hs, had⟩
  obtain ⟨n1, X, s, c, ⟨rv, rfl, kr, c1⟩, hout⟩ := AdP.out (v := ⟨k, next, true, [], []⟩) had
  obtain ⟨ra, rc, rfl, _⟩ := kr.ls
  dsimp only
  have b2 := b1.trans (c1.mono b1.size)
  have bb : Below (w.heap.size + 2) ((w.alloc (.cells #[.int .i64 next, .slice a L.length cap] 26)).alloc (.cells #[.int .i64 0, .slice none 0 0] 26)) w1 := by simpa using c1
  obtain ⟨_, y0⟩ := HB.out w1 bb
  obtain ⟨q0, q1, qf⟩ := y0.cells
  have qf0 := qf 0
  have qf1 := qf 1
  have z9 := (y0.set0 (.int .i64 n1)).set1 (.slice ra X.length rc)
  have o9 : Cp w.heap.size ((w1.setCell ⟨w.heap.size + 1, 0, none⟩ (.int .i64 n1)).setCell ⟨w.heap.size + 1, 1, none⟩ (.slice ra X.length rc)) (.slice ra X.length rc) X := ((kr.low (g := w.heap.size + 1) (j := 0) (by simp) (.int .i64 n1)).low (g := w.heap.size + 1) (j := 1) (by simp) (.slice ra X.length rc)).base (by simp; omega)
  have B9 := (b2.setCell (p := ⟨w.heap.size + 1, 0, none⟩) (Nat.le_succ _) (.int .i64 n1)).setCell (p := ⟨w.heap.size + 1, 1, none⟩) (Nat.le_succ _) (.slice ra X.length rc)
  have HO := Hid.mk hout
  have HS := Hid.mk hs
  clear hout hs had kr c1 b2 bb y0 qf HB b1 p0 p1 ha
  generalize X.length = XL at *
  go_wp2_with fail
  obtain ⟨g0, g1, _⟩ := z9.cells
  generalize (w1.setCell ⟨w.heap.size + 1, 0, none⟩ (.int .i64 n1)).setCell ⟨w.heap.size + 1, 1, none⟩ (.slice ra XL rc) = W9 at *
  refine bodyPost_ret (v := .tuple #[.agg #[.int .i64 n1, .slice ra XL rc], .int .i64 s, .int .i64 c]) ?_ rfl ⟨i, hi, HS.out, HO.out _ _ _ ⟨_, rfl, o9, B9⟩⟩
  rw [results_ctt rfl]
  go_simp
end Go.Proofs.Ytnnhkpnjmfoenaa
