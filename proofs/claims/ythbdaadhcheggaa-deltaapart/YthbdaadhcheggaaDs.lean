/- Since. -/
import Derived.Test.YthbdaadhcheggaaDt
namespace Go.Proofs.Ythbdaadhcheggaa
set_option linter.unusedVariables false
set_option linter.unusedSimpArgs false
open Go.RowKit
attribute [local go_sem ↓] Go.wp_at_zero Go.wp_at_succ
attribute [local go_sem ↓] slPe
/-- a delta's value -/
abbrev dv (since next : Int) (a : Option Addr) (n cap : Nat) : Value := .agg #[.int .i64 since, .int .i64 next, .slice a n cap]
/-- a box with a delta -/
def Bd (w : World) (g : Nat) (x y z : Value) : Prop := w.heap[g]? = some (.cells #[x, y, z] 31 (0, 0))
theorem Bd.lt {w : World} {g : Nat} {x y z : Value} (h : Bd w g x y z) : g < w.heap.size := (Array.getElem?_eq_some_iff.1 h).1
theorem Bd.cells {w : World} {g : Nat} {x y z : Value} (h : Bd w g x y z) : w.cell? ⟨g, 0, none⟩ = some x ∧ w.cell? ⟨g, 1, none⟩ = some y ∧ w.cell? ⟨g, 2, none⟩ = some z ∧ ∀ j, w.frozen? ⟨g, j, none⟩ = false := by
  refine ⟨by rw [cell_of_row _ _ _ _ _ _ h]; rfl, by rw [cell_of_row _ _ _ _ _ _ h]; rfl, by rw [cell_of_row _ _ _ _ _ _ h]; rfl, fun j => ?_⟩
  exact frozen_of_row _ _ _ _ _ h
theorem Bd.later {w w' : World} {g : Nat} {x y z : Value} (h : Bd w g x y z) (hb : Below w.heap.size w w') : Bd w' g x y z := by
  have := hb.block g h.lt
  unfold Bd at h ⊢
  rw [this]; exact h
theorem Bd.low {B : Nat} {w w' : World} {g : Nat} {x y z : Value} (h : Bd w g x y z) (hg : g < B) (hb : Below B w w') : Bd w' g x y z := by
  have := hb.block g hg
  unfold Bd at h ⊢
  rw [this]; exact h
theorem Bd.new (w : World) (x y z : Value) : Bd (w.alloc (.cells #[x, y, z] 31)) w.heap.size x y z := heap_alloc_new _ _
theorem Bd.set0 {w : World} {g : Nat} {x y z : Value} (h : Bd w g x y z) (c : Value) : Bd (w.setCell ⟨g, 0, none⟩ c) g c y z := by
  unfold Bd
  rw [heap_setCell_same _ _ _ _ _ _ h]; rfl
theorem Bd.set1 {w : World} {g : Nat} {x y z : Value} (h : Bd w g x y z) (c : Value) : Bd (w.setCell ⟨g, 1, none⟩ c) g x c z := by
  unfold Bd
  rw [heap_setCell_same _ _ _ _ _ _ h]; rfl
theorem Bd.set2 {w : World} {g : Nat} {x y z : Value} (h : Bd w g x y z) (c : Value) : Bd (w.setCell ⟨g, 2, none⟩ c) g x y c := by
  unfold Bd
  rw [heap_setCell_same _ _ _ _ _ _ h]; rfl
theorem bq_bd (w : World) (x y : Value) : ∀ w', Below (w.heap.size + 2) ((w.alloc (.cells #[x, y] 24)).alloc (.cells #[.int .i64 0, .int .i64 0, .slice none 0 0] 31)) w' → Bq w' w.heap.size x y ∧ Bd w' (w.heap.size + 1) (.int .i64 0) (.int .i64 0) (.slice none 0 0) := fun w' h => by
  refine ⟨?_, ?_⟩
  · refine Bq.low (w := (w.alloc (.cells #[x, y] 24)).alloc (.cells #[.int .i64 0, .int .i64 0, .slice none 0 0] 31)) ?_ (by omega) h
    unfold Bq; rw [heap_alloc_old _ _ (by simp)]; exact heap_alloc_new _ _
  · refine Bd.low (w := (w.alloc (.cells #[x, y] 24)).alloc (.cells #[.int .i64 0, .int .i64 0, .slice none 0 0] 31)) ?_ (by omega) h
    have := heap_alloc_new (w.alloc (.cells #[x, y] 24)) (.cells #[.int .i64 0, .int .i64 0, .slice none 0 0] 31)
    rw [World.size_alloc] at this
    exact this
/-- what Since answers -/
def SnP (next m : Int) (L : List Vs) (w w' : World) (e : Ending) : Prop :=
  (1 ≤ m ∧ m ≤ next ∧ ∃ v, e = .returned (.tuple #[.agg #[.int .i64 m, .int .i64 next, v], .int .i64 0]) ∧ Cp w.heap.size w' v (snL m L)) ∨ (¬ (1 ≤ m ∧ m ≤ next) ∧ e = .returned (.tuple #[dv 0 0 none 0 0, .int .i64 1]))
theorem xl_lt {X : List Rv} {m : Int} {L : List Vs} {k : Nat} (h : X.map (·.v) = snL m (L.take k)) (hk : k < L.length) (hl : L.length ≤ 1954687338240) : X.length + 1 ≤ 1954687338260 := by
  have e1 := congrArg List.length h
  have e2 := snL_len m (L.take k)
  rw [List.length_map] at e1
  rw [List.length_take] at e2
  omega
theorem xl_le {X : List Rv} {m : Int} {L : List Vs} {k : Nat} (h : X.map (·.v) = snL m (L.take k)) (hl : L.length ≤ 1954687338240) : X.length ≤ 1954687338260 := by
  have e1 := congrArg List.length h
  have e2 := snL_len m (L.take k)
  rw [List.length_map] at e1
  rw [List.length_take] at e2
  omega
set_option maxRecDepth 100000 in
set_option maxHeartbeats 4000000 in
theorem dSince_any (L : List Vs) (next m : Int) (w : World) (a : Option Addr) (n cap : Nat) (hL : Li w L a n cap) :
    Calls Try.prog 9 #[bv next a n cap, .int .i64 m] w fun e w' => SnP next m L w w' e ∧ Below w.heap.size w w' := by
  obtain rfl := hL.n
  have b0 := (Below.refl w.heap.size w).alloc (Nat.le_refl _) (.cells #[.int .i64 next, .slice a L.length cap] 24)
  have b1 := b0.alloc b0.size (.cells #[.int .i64 0, .int .i64 0, .slice none 0 0] 31)
  have HB := Hid.mk (bq_bd w (.int .i64 next) (.slice a L.length cap))
  have hl := hL.l
  have hs2 : ((w.alloc (.cells #[.int .i64 next, .slice a L.length cap] 24)).alloc (.cells #[.int .i64 0, .int .i64 0, .slice none 0 0] 31)).heap.size = w.heap.size + 2 := by simp
  have HL := Hid.mk (hL.later b1)
  clear hL b0
  by_cases h1 : m < 1
  · have d1 : decide (m < 1) = true := decide_eq_true h1
    have HN : Hid (¬ (1 ≤ m ∧ m ≤ next)) := ⟨fun h => by omega⟩
    clear h1
    go_enter Try.func9, Try.ntmps9
    go_wp2_with fail
    obtain ⟨x0, y0⟩ := HB.out _ (Below.refl _ _)
    obtain ⟨g0, g1, g2, _⟩ := y0.cells
    refine bodyPost_ret (v := .tuple #[dv 0 0 none 0 0, .int .i64 1]) ?_ rfl ⟨.inr ⟨HN.out, rfl⟩, b1⟩
    rw [results_ct rfl]
    go_simp
  · have d1 : decide (m < 1) = false := decide_eq_false h1
    by_cases h2 : next < m
    · have d2 : decide (next < m) = true := decide_eq_true h2
      have HN : Hid (¬ (1 ≤ m ∧ m ≤ next)) := ⟨fun h => by omega⟩
      clear h1 h2
      go_enter Try.func9, Try.ntmps9
      go_wp2_with fail
      obtain ⟨x0, y0⟩ := HB.out _ (Below.refl _ _)
      obtain ⟨g0, g1, g2, _⟩ := y0.cells
      refine bodyPost_ret (v := .tuple #[dv 0 0 none 0 0, .int .i64 1]) ?_ rfl ⟨.inr ⟨HN.out, rfl⟩, b1⟩
      rw [results_ct rfl]
      go_simp
    · have d2 : decide (next < m) = false := decide_eq_false h2
      have HN : Hid (1 ≤ m ∧ m ≤ next) := ⟨by omega⟩
      clear h1 h2
      go_enter Try.func9, Try.ntmps9
      go_wp2_with fail
      generalize (w.alloc (.cells #[.int .i64 next, .slice a L.length cap] 24)).alloc (.cells #[.int .i64 0, .int .i64 0, .slice none 0 0] 31) = W2 at *
      obtain ⟨R, hRL, hRI, hRS⟩ := li_rows HL.out
      have HR := Hid.mk hRL
      have HI := Hid.mk hRI
      have HS := Hid.mk hRS
      clear hRL hRI hRS d1 d2
      go_loopw [6, 21] (fun o i wr => ∃ (k : Nat) (X : List Rv), k ≤ L.length ∧ i = .int .i64 (k : Int) ∧ Hid (Ro W2.heap.size wr o X ∧ X.map (·.v) = snL m (L.take k) ∧ ∀ r ∈ X, r ∈ R) ∧ Hid (Below W2.heap.size W2 wr)) (fun _ i _ => L.length - (intOf i).toNat)
      case atStart => exact ⟨0, [], Nat.zero_le _, rfl, ⟨Ro.nil _ _ (Nat.le_refl _), rfl, by simp⟩, ⟨Below.refl _ _⟩⟩
      case round =>
        obtain ⟨k, X, hk, rfl, HX, hb⟩ := hrel
        by_cases hlt : k < L.length
        · have d1 : decide ((k : Int) < (L.length : Int)) = true := decide_eq_true (Int.ofNat_lt.2 hlt)
          have k2 : (k : Int) < (L.length : Int) := Int.ofNat_lt.2 hlt
          have hw1 : wrap64 ((k : Int) + 1) = ((k + 1 : Nat) : Int) := by unfold wrap64; omega
          obtain ⟨r, hr⟩ : ∃ r, R[k]? = some r := ⟨R[k]'(by have := congrArg List.length HR.out; rw [List.length_map] at this; omega), List.getElem?_eq_getElem _⟩
          have hu : L[k]? = some r.v := by rw [← HR.out, List.getElem?_map, hr]; rfl
          obtain ⟨b, off, rfl, hbl, c0, c1, c2, c3, c4⟩ := (HI.out.later hb.out).get k r hr
          have bx := (Below.refl wr.heap.size wr).alloc (Nat.le_refl _) (.cells #[str r.v.key, .int .i64 r.v.seq, .bool r.v.mkr, str r.v.data, .slice r.a r.v.l.length r.c] 41)
          have z1 := Bv.new wr (str r.v.key) (.int .i64 r.v.seq) (.bool r.v.mkr) (str r.v.data) (.slice r.a r.v.l.length r.c)
          obtain ⟨y0, y1, y2, y3, y4, _⟩ := z1.cells
          by_cases hq : m ≤ r.v.seq
          · have d3 : decide (m ≤ r.v.seq) = true := decide_eq_true hq
            have d4 : decide (r.v.seq < m) = false := decide_eq_false (Int.not_lt.2 hq)
            have hXl := xl_lt HX.out.2.1 hlt hl
            obtain ⟨v3, w3, hr3, o3, b3⟩ := run_ro1 22 r (HX.out.1.later bx) hXl
            rw [World.size_alloc] at hr3
            have HF : Hid (Ro W2.heap.size w3 v3 (X ++ [r]) ∧ (X ++ [r]).map (·.v) = snL m (L.take (k + 1)) ∧ ∀ q ∈ X ++ [r], q ∈ R) := ⟨o3, by rw [snL_yes hu hq, List.map_append, HX.out.2.1]; rfl, fun q hq => by
              rcases List.mem_append.1 hq with z | z
              · exact HX.out.2.2 q z
              · simp at z; subst z; exact List.mem_of_getElem? hr⟩
            have HB3 : Hid (Below W2.heap.size W2 w3) := ⟨hb.out.trans ((bx.mono hb.out.size).trans b3)⟩
            clear hr hu hq hXl o3 HX b3 hb
            go_wp2_with (refine app_run rfl _ _ rfl rfl rfl hr3 ?_)
            exact ⟨⟨k + 1, _, hlt, by first | (rw [hw1]; done) | go_num, HF, HB3⟩, by first | (rw [hw1]; exact lss_meas hlt) | (simp [intOf]; omega)⟩
          · have d3 : decide (m ≤ r.v.seq) = false := decide_eq_false hq
            have d4 : decide (r.v.seq < m) = true := decide_eq_true (Int.not_le.1 hq)
            have HF : Hid (Ro W2.heap.size (wr.alloc (.cells #[str r.v.key, .int .i64 r.v.seq, .bool r.v.mkr, str r.v.data, .slice r.a r.v.l.length r.c] 41)) u6 X ∧ X.map (·.v) = snL m (L.take (k + 1)) ∧ ∀ q ∈ X, q ∈ R) := ⟨HX.out.1.later bx, by rw [snL_no hu hq, HX.out.2.1], HX.out.2.2⟩
            have HB3 : Hid (Below W2.heap.size W2 (wr.alloc (.cells #[str r.v.key, .int .i64 r.v.seq, .bool r.v.mkr, str r.v.data, .slice r.a r.v.l.length r.c] 41))) := ⟨hb.out.trans (bx.mono hb.out.size)⟩
            clear hr hu hq HX hb
            go_wp2_with fail
            exact ⟨⟨k + 1, _, hlt, by first | (rw [hw1]; done) | go_num, HF, HB3⟩, by first | (rw [hw1]; exact lss_meas hlt) | (simp [intOf]; omega)⟩
        · obtain rfl : k = L.length := Nat.le_antisymm hk (Nat.le_of_not_lt hlt)
          have d1 : decide ((L.length : Int) < (L.length : Int)) = false := decide_eq_false (fun q => Int.lt_irrefl _ q)
          have hXl := xl_le HX.out.2.1 hl
          have ht := takeOwn_any W2 X wr _ HX.out.1 hb.out (fun r hr => HS.out r (HX.out.2.2 r hr)) hXl
          rw [HX.out.2.1, List.take_length] at ht
          have HO := Hid.mk HX.out.1.sl
          clear HX hb hXl
          go_wp2_with fail
          with_reducible refine Calls.mono ht ?_
          rintro e w3 ⟨rfl, o3, b3⟩
          dsimp only
          rw [hs2] at o3 b3
          obtain ⟨x0, y0⟩ := HB.out w3 b3
          obtain ⟨oa, oc, rfl, oS⟩ := o3.ls
          obtain ⟨p0, p1, _⟩ := x0.cells
          obtain ⟨y1, y2, y3, yf⟩ := y0.cells
          have f0 := yf 0
          have f1 := yf 1
          have f2 := yf 2
          have hbw : Below w.heap.size w w3 := b1.trans (b3.mono (by omega))
          have z1 := ((y0.set0 (.int .i64 m)).set1 (.int .i64 next)).set2 (.slice oa (snL m L).length oc)
          have o1 := ((o3.low (g := w.heap.size + 1) (j := 0) (by omega) (.int .i64 m)).low (g := w.heap.size + 1) (j := 1) (by omega) (.int .i64 next)).low (g := w.heap.size + 1) (j := 2) (by omega) (.slice oa (snL m L).length oc)
          have B1 := ((hbw.setCell (p := ⟨w.heap.size + 1, 0, none⟩) (Nat.le_succ _) (.int .i64 m)).setCell (p := ⟨w.heap.size + 1, 1, none⟩) (Nat.le_succ _) (.int .i64 next)).setCell (p := ⟨w.heap.size + 1, 2, none⟩) (Nat.le_succ _) (.slice oa (snL m L).length oc)
          have HSN : Hid (SnP next m L w (((w3.setCell ⟨w.heap.size + 1, 0, none⟩ (.int .i64 m)).setCell ⟨w.heap.size + 1, 1, none⟩ (.int .i64 next)).setCell ⟨w.heap.size + 1, 2, none⟩ (.slice oa (snL m L).length oc)) (.returned (.tuple #[.agg #[.int .i64 m, .int .i64 next, .slice oa (snL m L).length oc], .int .i64 0]))) := ⟨.inl ⟨HN.out.1, HN.out.2, _, rfl, o1.base (by omega)⟩⟩
          clear ht HO x0 y0 yf hbw o3 o1 oS b3 HB HL HR HI HS
          generalize (snL m L).length = N at *
          go_wp2_with fail
          generalize ((w3.setCell ⟨w.heap.size + 1, 0, none⟩ (.int .i64 m)).setCell ⟨w.heap.size + 1, 1, none⟩ (.int .i64 next)).setCell ⟨w.heap.size + 1, 2, none⟩ (.slice oa N oc) = W3 at *
          obtain ⟨g0, g1, g2, _⟩ := z1.cells
          refine bodyPost_ret (v := .tuple #[.agg #[.int .i64 m, .int .i64 next, .slice oa N oc], .int .i64 0]) ?_ rfl ⟨HSN.out, B1⟩
          rw [results_ct rfl]
          go_simp
end Go.Proofs.Ythbdaadhcheggaa
