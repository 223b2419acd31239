/- TupleOrder: the walk. -/
import Derived.Test.YtijkabnhedmimaaLift
import Derived.Test.YtijkabnhedmimaaOpn
import Derived.Test.YtijkabnhedmimaaBeg
import Derived.Test.YtijkabnhedmimaaLes
import Derived.RegionCalls
import Derived.Deep.RegionHeld3
namespace Go.Proofs.Ytijkabnhedmimaa
set_option linter.unusedVariables false
set_option linter.unusedSimpArgs false
open Go.RowKit
/-- three lists in an array, their texts in another one: the first k are there -/
structure OI (w : World) (L : Nat → List Pt) (P : Nat → Option Addr) (K : Nat → Nat) (k : Nat) (wr : World) : Prop where
  below : Below w.heap.size w wr
  l : ∀ i, i < 3 → wr.cell? ⟨w.heap.size, i, none⟩ = some (.slice (P i) (L i).length (K i))
  s : ∀ i, i < 3 → wr.cell? ⟨w.heap.size + 1, i, none⟩ = some (if i < k then str (wt (L i)) else .string ⟨#[]⟩)
  f : ∀ i, wr.frozen? ⟨w.heap.size + 1, i, none⟩ = false
  sz : w.heap.size + 2 ≤ wr.heap.size
theorem OI.later {w : World} {L : Nat → List Pt} {P : Nat → Option Addr} {K : Nat → Nat} {k : Nat} {wr w' : World} (h : OI w L P K k wr) (hb : Below wr.heap.size wr w') : OI w L P K k w' := by
  have hz := h.sz
  refine ⟨h.below.trans (hb.mono h.below.size), fun i hi => ?_, fun i hi => ?_, fun i => ?_, Nat.le_trans h.sz hb.size⟩
  · rw [hb.cell (p := ⟨w.heap.size, i, none⟩) (show w.heap.size < _ by omega)]; exact h.l i hi
  · rw [hb.cell (p := ⟨w.heap.size + 1, i, none⟩) (show w.heap.size + 1 < _ by omega)]; exact h.s i hi
  · rw [World.frozen?_of_block (hb.block _ (show w.heap.size + 1 < _ by omega))]; exact h.f i
theorem OI.drew {w : World} {L : Nat → List Pt} {P : Nat → Option Addr} {K : Nat → Nat} {k : Nat} {wr : World} (h : OI w L P K k wr) : OI w L P K k wr.drew := h.later ((Below.refl _ _).drew)
theorem OI.store {w : World} {L : Nat → List Pt} {P : Nat → Option Addr} {K : Nat → Nat} {k : Nat} {wr : World} (h : OI w L P K k wr) (hk : k < 3) : OI w L P K (k + 1) (wr.setCell ⟨w.heap.size + 1, k, none⟩ (str (wt (L k)))) := by
  refine ⟨h.below.setCell (Nat.le_succ _) _, fun i hi => ?_, fun i hi => ?_, fun i => ?_, by simpa using h.sz⟩
  · rw [World.cell?_setCell_far _ _ _ _ (by show w.heap.size + 1 ≠ w.heap.size; omega)]; exact h.l i hi
  · by_cases e : i = k
    · subst e
      rw [World.cell?_setCell_same _ _ _ (h.s i hi), if_pos (by omega)]
    · rw [World.cell?_setCell_other _ _ _ _ (by intro q; injection q with _ q; exact e q.symm), h.s i hi]
      by_cases h1 : i < k
      · rw [if_pos h1, if_pos (by omega)]
      · rw [if_neg h1, if_neg (by omega)]
  · have := h.f i
    simpa [go_sem] using this
theorem OI.start (w : World) (L : Nat → List Pt) (P : Nat → Option Addr) (K : Nat → Nat) (t u : TypeId) : OI w L P K 0 ((w.alloc (.cells #[.slice (P 0) (L 0).length (K 0), .slice (P 1) (L 1).length (K 1), .slice (P 2) (L 2).length (K 2)] t)).alloc (.cells #[.string ⟨#[]⟩, .string ⟨#[]⟩, .string ⟨#[]⟩] u)) := by
  have h1 : ∀ o, ((w.alloc (.cells #[.slice (P 0) (L 0).length (K 0), .slice (P 1) (L 1).length (K 1), .slice (P 2) (L 2).length (K 2)] t)).alloc o).heap[w.heap.size]? = some (.cells #[.slice (P 0) (L 0).length (K 0), .slice (P 1) (L 1).length (K 1), .slice (P 2) (L 2).length (K 2)] t (0, 0)) := fun o => by rw [heap_alloc_old _ _ (by simp), heap_alloc_new]
  have h2 : ((w.alloc (.cells #[.slice (P 0) (L 0).length (K 0), .slice (P 1) (L 1).length (K 1), .slice (P 2) (L 2).length (K 2)] t)).alloc (.cells #[.string ⟨#[]⟩, .string ⟨#[]⟩, .string ⟨#[]⟩] u)).heap[w.heap.size + 1]? = some (.cells #[.string ⟨#[]⟩, .string ⟨#[]⟩, .string ⟨#[]⟩] u (0, 0)) := heap_alloc2_new _ _ _
  refine ⟨((Below.refl _ _).alloc (Nat.le_refl _) _).alloc (by simp) _, fun i hi => ?_, fun i hi => ?_, fun i => frozen_of_row _ _ _ _ _ h2, by simp⟩
  · rw [cell_of_row _ _ _ _ _ _ (h1 _)]
    match i, hi with
    | 0, _ => rfl
    | 1, _ => rfl
    | 2, _ => rfl
  · rw [cell_of_row _ _ _ _ _ _ h2, if_neg (by omega)]
    match i, hi with
    | 0, _ => rfl
    | 1, _ => rfl
    | 2, _ => rfl
def pick3 {α : Type} (a b c : α) : Nat → α
  | 0 => a
  | 1 => b
  | _ => c
attribute [local go_sem ↓] Go.wp_at_zero Go.wp_at_succ
attribute [local go_sem ↓] sl9 ix9 slPe
set_option maxHeartbeats 8000000 in
theorem tupleOrder_walk (l0 : List Pt) (a0 : Option Addr) (ca0 : Nat) (l1 : List Pt) (a1 : Option Addr) (ca1 : Nat) (l2 : List Pt) (a2 : Option Addr) (ca2 : Nat) (W : World)
    (hP0 : PIn W a0 l0) (hN0 : N64 l0) (hB0 : bulk l0 ≤ 20971520) (hP1 : PIn W a1 l1) (hN1 : N64 l1) (hB1 : bulk l1 ≤ 20971520) (hP2 : PIn W a2 l2) (hN2 : N64 l2) (hB2 : bulk l2 ≤ 20971520) :
    Calls Try.prog 7 #[.slice a0 l0.length ca0, .slice a1 l1.length ca1, .slice a2 l2.length ca2] W fun e w' => e = .returned (.bool true) ∧ Below W.heap.size W w' := by
  go_enter Try.func7, Try.ntmps7
  go_wp2_with fail
  refine (head_of cmpC _).mono ?_
  rintro e w1 ⟨rfl, hb1⟩
  dsimp only
  go_wp2_with fail
  refine (parts_any l0 w1 a0 ca0 (hP0.later hb1) (Nat.le_trans (bulk_len _) (by omega))).mono ?_
  rintro e w2 ⟨v0, rfl, hO0, hb2⟩
  dsimp only
  go_wp2_with fail
  refine (parts_any l1 w2 a1 ca1 (hP1.later (below_seq hb1 hb2)) (Nat.le_trans (bulk_len _) (by omega))).mono ?_
  rintro e w3 ⟨v1, rfl, hO1, hb3⟩
  dsimp only
  go_wp2_with fail
  refine (parts_any l2 w3 a2 ca2 (hP2.later (below_seq (below_seq hb1 hb2) hb3)) (Nat.le_trans (bulk_len _) (by omega))).mono ?_
  rintro e w4 ⟨v2, rfl, hO2, hb4⟩
  dsimp only
  have oA := fixL_ok hN0
  have oB := fixL_ok hN1
  have oC := fixL_ok hN2
  have bA : bulk (l0.map fix) ≤ 20971520 := Nat.le_trans (bulk_fix _) hB0
  have bB : bulk (l1.map fix) ≤ 20971520 := Nat.le_trans (bulk_fix _) hB1
  have bC : bulk (l2.map fix) ≤ 20971520 := Nat.le_trans (bulk_fix _) hB2
  have hOa := (hO0.later hb3).later hb4
  have hOb := hO1.later hb4
  have HB : Below W.heap.size W w4 := below_seq (below_seq (below_seq hb1 hb2) hb3) hb4
  clear hO0 hO1 hb1 hb2 hb3 hb4 hP0 hP1 hP2 hN0 hN1 hN2 hB0 hB1 hB2
  generalize l0.map fix = A at *
  generalize l1.map fix = B at *
  generalize l2.map fix = C at *
  obtain ⟨pa, ca, rfl, sA⟩ := hOa.sl
  obtain ⟨pb, cb, rfl, sB⟩ := hOb.sl
  obtain ⟨pc, cc, rfl, sC⟩ := hO2.sl
  clear hOa hOb hO2
  go_wp2_with fail
  obtain ⟨L, hL⟩ : ∃ L, L = pick3 A B C := ⟨_, rfl⟩
  obtain ⟨P, hP⟩ : ∃ P, P = pick3 pa pb pc := ⟨_, rfl⟩
  obtain ⟨K, hK⟩ : ∃ K, K = pick3 ca cb cc := ⟨_, rfl⟩
  have hoi := OI.start w4 L P K 42 43
  have hSl : ∀ i, i < 3 → Sl w4 (P i) (K i) (L i) := by
    intro i hi
    rw [hL, hP, hK]
    match i, hi with
    | 0, _ => exact sA
    | 1, _ => exact sB
    | 2, _ => exact sC
  have hok : ∀ i, i < 3 → okL (L i) ∧ bulk (L i) ≤ 20971520 := by
    intro i hi
    rw [hL]
    match i, hi with
    | 0, _ => exact ⟨oA, bA⟩
    | 1, _ => exact ⟨oB, bB⟩
    | 2, _ => exact ⟨oC, bC⟩
  have e1 : L 0 = A ∧ L 1 = B ∧ L 2 = C := by rw [hL]; exact ⟨rfl, rfl, rfl⟩
  have e2 : P 0 = pa ∧ P 1 = pb ∧ P 2 = pc := by rw [hP]; exact ⟨rfl, rfl, rfl⟩
  have e3 : K 0 = ca ∧ K 1 = cb ∧ K 2 = cc := by rw [hK]; exact ⟨rfl, rfl, rfl⟩
  rw [e1.1, e1.2.1, e1.2.2, e2.1, e2.2.1, e2.2.2, e3.1, e3.2.1, e3.2.2] at hoi
  clear e1 e2 e3 hL hP hK sA sB sC oA oB oC bA bB bC
  generalize ((w4.alloc (Obj.cells #[Value.slice pa A.length ca, Value.slice pb B.length cb, Value.slice pc C.length cc] 42)).alloc (Obj.cells #[Value.string { data := #[] }, Value.string { data := #[] }, Value.string { data := #[] }] 43)) = X at *
  generalize hG : w4.heap.size = G at *
  go_loopw [9] (fun i wr => ∃ k : Nat, k ≤ 3 ∧ i = .int .i64 (k : Int) ∧ OI w4 L P K k wr) (fun i _ => 3 - (intOf i).toNat)
  case atStart => exact ⟨0, by omega, rfl, hoi⟩
  case round =>
    clear hoi
    obtain ⟨k, hk, rfl, hoi⟩ := hrel
    by_cases hk3 : k < 3
    · have d1 : decide ((k : Int) < 3) = true := decide_eq_true (by omega)
      have k1 : (k : Int) < 3 := by omega
      have cl := hoi.l k hk3
      rw [hG] at cl
      obtain ⟨okk, bk⟩ := hok k hk3
      have hwk := write_any (L k) wr (P k) (K k) ((hSl k hk3).at'.later (by rw [hG]; have := hoi.below; rw [hG] at this; exact this)) (okL_n64 okk) (by omega)
      rw [wrote_ok (okL_all okk)] at hwk
      go_wp2_with (go_at_call 10; refine hwk.mono ?_; rintro e w5 ⟨rfl, hb5⟩; have hoi5 := hoi.later hb5; have g5 := hoi5.s k hk3; rw [hG, if_neg (by omega)] at g5; have f5 := hoi5.f k; rw [hG] at f5)
      refine ⟨⟨k + 1, by omega, by go_num, ?_⟩, by simp [intOf]; omega⟩
      have := hoi5.store hk3
      rw [hG] at this
      exact this
    · obtain rfl : k = 3 := by omega
      have d1 : decide ((3 : Int) < 3) = false := by decide
      go_wp2_with fail
      try simp only [show ((3 : Nat) : Int) = 3 from rfl]
      go_loopw [12] (fun i wr => ∃ x : Nat, x ≤ 3 ∧ i = .int .i64 (x : Int) ∧ OI w4 L P K 3 wr) (fun i _ => 3 - (intOf i).toNat)
      case atStart => exact ⟨0, by omega, rfl, hoi⟩
      case round =>
        clear hoi
        obtain ⟨x, hx, rfl, hoi⟩ := hrel
        by_cases hx3 : x < 3
        · have d2 : decide ((x : Int) < 3) = true := decide_eq_true (by omega)
          have x1 : (x : Int) < 3 := by omega
          go_wp2_with fail
          go_loopw [13] (fun i wr => ∃ y : Nat, y ≤ 3 ∧ i = .int .i64 (y : Int) ∧ OI w4 L P K 3 wr) (fun i _ => 3 - (intOf i).toNat)
          case atStart => exact ⟨0, by omega, rfl, hoi⟩
          case round =>
            clear hoi
            obtain ⟨y, hy, rfl, hoi⟩ := hrel
            by_cases hy3 : y < 3
            · have d3 : decide ((y : Int) < 3) = true := decide_eq_true (by omega)
              have y1 : (y : Int) < 3 := by omega
              have hfx : ∀ w, OI w4 L P K 3 w → w.cell? ⟨G, x, none⟩ = some (.slice (P x) (L x).length (K x)) ∧ w.cell? ⟨G, y, none⟩ = some (.slice (P y) (L y).length (K y)) ∧ w.cell? ⟨G + 1, x, none⟩ = some (str (wt (L x))) ∧ w.cell? ⟨G + 1, y, none⟩ = some (str (wt (L y))) := by
                intro w h
                have q1 := h.l x hx3
                have q2 := h.l y hy3
                have q3 := h.s x hx3
                have q4 := h.s y hy3
                rw [hG] at q1 q2 q3 q4
                rw [if_pos hx3] at q3
                rw [if_pos hy3] at q4
                exact ⟨q1, q2, q3, q4⟩
              obtain ⟨okx, bx⟩ := hok x hx3
              obtain ⟨oky, by'⟩ := hok y hy3
              have sx : ∀ w, OI w4 L P K 3 w → Sl w (P x) (K x) (L x) := fun w h => (hSl x hx3).later h.below
              have sy : ∀ w, OI w4 L P K 3 w → Sl w (P y) (K y) (L y) := fun w h => (hSl y hy3).later h.below
              have lx : (L x).length ≤ 1000000000000 := Nat.le_trans (bulk_len _) (by omega)
              have ly : (L y).length ≤ 1000000000000 := Nat.le_trans (bulk_len _) (by omega)
              have hl1 := fun w (h : OI w4 L P K 3 w) => less_any (L x) (L y) w (P x) (P y) (K x) (K y) (sx w h).at' (sy w h).at' okx oky lx ly
              have hl2 := fun w (h : OI w4 L P K 3 w) => less_any (L y) (L x) w (P y) (P x) (K y) (K x) (sy w h).at' (sx w h).at' oky okx ly lx
              have ho := fun w => order_any (wt (L x)) (wt (L y)) w
              have hcm := fun w (h : OI w4 L P K 3 w) => compare_of cmpC (L x) (L y) w (P x) (P y) (K x) (K y) (sx w h).at' (sy w h).at' lx ly
              have heq := fun w (h : OI w4 L P K 3 w) => equal_any (L x) (L y) w (P x) (P y) (K x) (K y) (sx w h).at' (sy w h).at' lx ly
              rw [bcmp_wt okx oky] at ho
              have ho' := fun w => (ho w).mono (R' := fun e w' => e = .returned (.int .i64 (cmpL (L x) (L y))) ∧ Below w.heap.size w w') (fun e w' h => ⟨h.1, by rw [h.2]; exact Below.refl _ _⟩)
              clear ho
              rw [les_eq] at hl1 hl2
              have hneg : cmpL (L y) (L x) = - cmpL (L x) (L y) := by rw [← bcmp_wt okx oky, ← bcmp_wt oky okx, bcmp_neg]
              rw [hneg] at hl2
              have hsm : same (L x) (L y) = decide (cmpL (L x) (L y) = 0) := by
                by_cases h : L x = L y
                · rw [same_true h, h, cmpL_self]; rfl
                · rw [same_false h, decide_eq_false]
                  intro h0
                  rw [← bcmp_wt okx oky] at h0
                  exact h (wt_inj okx oky (bcmp_zero h0))
              rw [hsm] at heq
              have hr : cmpL (L x) (L y) = -1 ∨ cmpL (L x) (L y) = 0 ∨ cmpL (L x) (L y) = 1 := by rw [← bcmp_wt okx oky]; exact bcmp_cases _ _
              generalize cmpL (L x) (L y) = r at *
              obtain ⟨q1, q2, q3, q4⟩ := hfx wr hoi
              rcases hr with rfl | rfl | rfl
              · go_wp2_with fail
                go_region_held3 (fun w' => OI w4 L P K 3 w' ∧ w'.cell? ⟨G, x, none⟩ = some (.slice (P x) (L x).length (K x)) ∧ w'.cell? ⟨G, y, none⟩ = some (.slice (P y) (L y).length (K y)) ∧ w'.cell? ⟨G + 1, x, none⟩ = some (str (wt (L x))) ∧ w'.cell? ⟨G + 1, y, none⟩ = some (str (wt (L y)))) (first | exact ⟨hoi.drew, hfx _ hoi.drew⟩ | exact ⟨OI.later (And.left (by assumption)) bq, hfx _ (OI.later (And.left (by assumption)) bq)⟩ | exact ⟨OI.drew (And.left (by assumption)), hfx _ (OI.drew (And.left (by assumption)))⟩)
                  ((go_at_call 16; refine Calls.mono (hl1 _ (And.left (by assumption))) ?_; rintro e w' ⟨rfl, bq⟩))
                rename_i hH
                replace hoi := hH.1
                clear hH q1 q2 q3 q4
                clear bq
                generalize w' = wr at *
                obtain ⟨q1, q2, q3, q4⟩ := hfx wr hoi
                go_wp2_with fail
                go_region_held3 (fun w' => OI w4 L P K 3 w' ∧ w'.cell? ⟨G, x, none⟩ = some (.slice (P x) (L x).length (K x)) ∧ w'.cell? ⟨G, y, none⟩ = some (.slice (P y) (L y).length (K y)) ∧ w'.cell? ⟨G + 1, x, none⟩ = some (str (wt (L x))) ∧ w'.cell? ⟨G + 1, y, none⟩ = some (str (wt (L y)))) (first | exact ⟨hoi.drew, hfx _ hoi.drew⟩ | exact ⟨OI.later (And.left (by assumption)) bq, hfx _ (OI.later (And.left (by assumption)) bq)⟩ | exact ⟨OI.drew (And.left (by assumption)), hfx _ (OI.drew (And.left (by assumption)))⟩)
                  ((go_at_call 16; refine Calls.mono (hl2 _ (And.left (by assumption))) ?_; rintro e w' ⟨rfl, bq⟩))
                rename_i hH
                replace hoi := hH.1
                clear hH q1 q2 q3 q4
                clear bq
                generalize w' = wr at *
                obtain ⟨q1, q2, q3, q4⟩ := hfx wr hoi
                go_wp2_with fail
                go_region_held3 (fun w' => OI w4 L P K 3 w' ∧ w'.cell? ⟨G, x, none⟩ = some (.slice (P x) (L x).length (K x)) ∧ w'.cell? ⟨G, y, none⟩ = some (.slice (P y) (L y).length (K y)) ∧ w'.cell? ⟨G + 1, x, none⟩ = some (str (wt (L x))) ∧ w'.cell? ⟨G + 1, y, none⟩ = some (str (wt (L y)))) (first | exact ⟨hoi.drew, hfx _ hoi.drew⟩ | exact ⟨OI.later (And.left (by assumption)) bq, hfx _ (OI.later (And.left (by assumption)) bq)⟩ | exact ⟨OI.drew (And.left (by assumption)), hfx _ (OI.drew (And.left (by assumption)))⟩)
                  (first | (go_at_call 17; refine Calls.mono (ho' _) ?_; rintro e w' ⟨rfl, bq⟩) | (go_at_call 18; refine Calls.mono (hcm _ (And.left (by assumption))) ?_; rintro e w' ⟨rfl, bq⟩) | (go_at_call 13; refine Calls.mono (heq _ (And.left (by assumption))) ?_; rintro e w' ⟨rfl, bq⟩))
                rename_i hH
                replace hoi := hH.1
                clear hH q1 q2 q3 q4
                clear bq
                generalize w' = wr at *
                obtain ⟨q1, q2, q3, q4⟩ := hfx wr hoi
                go_wp2_with fail
                exact ⟨⟨y + 1, by omega, by go_num, hoi⟩, by simp [intOf]; omega⟩
              · go_wp2_with fail
                go_region_held3 (fun w' => OI w4 L P K 3 w' ∧ w'.cell? ⟨G, x, none⟩ = some (.slice (P x) (L x).length (K x)) ∧ w'.cell? ⟨G, y, none⟩ = some (.slice (P y) (L y).length (K y)) ∧ w'.cell? ⟨G + 1, x, none⟩ = some (str (wt (L x))) ∧ w'.cell? ⟨G + 1, y, none⟩ = some (str (wt (L y)))) (first | exact ⟨hoi.drew, hfx _ hoi.drew⟩ | exact ⟨OI.later (And.left (by assumption)) bq, hfx _ (OI.later (And.left (by assumption)) bq)⟩ | exact ⟨OI.drew (And.left (by assumption)), hfx _ (OI.drew (And.left (by assumption)))⟩)
                  ((go_at_call 16; refine Calls.mono (hl1 _ (And.left (by assumption))) ?_; rintro e w' ⟨rfl, bq⟩))
                rename_i hH
                replace hoi := hH.1
                clear hH q1 q2 q3 q4
                clear bq
                generalize w' = wr at *
                obtain ⟨q1, q2, q3, q4⟩ := hfx wr hoi
                go_wp2_with fail
                go_region_held3 (fun w' => OI w4 L P K 3 w' ∧ w'.cell? ⟨G, x, none⟩ = some (.slice (P x) (L x).length (K x)) ∧ w'.cell? ⟨G, y, none⟩ = some (.slice (P y) (L y).length (K y)) ∧ w'.cell? ⟨G + 1, x, none⟩ = some (str (wt (L x))) ∧ w'.cell? ⟨G + 1, y, none⟩ = some (str (wt (L y)))) (first | exact ⟨hoi.drew, hfx _ hoi.drew⟩ | exact ⟨OI.later (And.left (by assumption)) bq, hfx _ (OI.later (And.left (by assumption)) bq)⟩ | exact ⟨OI.drew (And.left (by assumption)), hfx _ (OI.drew (And.left (by assumption)))⟩)
                  ((go_at_call 16; refine Calls.mono (hl2 _ (And.left (by assumption))) ?_; rintro e w' ⟨rfl, bq⟩))
                rename_i hH
                replace hoi := hH.1
                clear hH q1 q2 q3 q4
                clear bq
                generalize w' = wr at *
                obtain ⟨q1, q2, q3, q4⟩ := hfx wr hoi
                go_wp2_with fail
                go_region_held3 (fun w' => OI w4 L P K 3 w' ∧ w'.cell? ⟨G, x, none⟩ = some (.slice (P x) (L x).length (K x)) ∧ w'.cell? ⟨G, y, none⟩ = some (.slice (P y) (L y).length (K y)) ∧ w'.cell? ⟨G + 1, x, none⟩ = some (str (wt (L x))) ∧ w'.cell? ⟨G + 1, y, none⟩ = some (str (wt (L y)))) (first | exact ⟨hoi.drew, hfx _ hoi.drew⟩ | exact ⟨OI.later (And.left (by assumption)) bq, hfx _ (OI.later (And.left (by assumption)) bq)⟩ | exact ⟨OI.drew (And.left (by assumption)), hfx _ (OI.drew (And.left (by assumption)))⟩)
                  (first | (go_at_call 17; refine Calls.mono (ho' _) ?_; rintro e w' ⟨rfl, bq⟩) | (go_at_call 18; refine Calls.mono (hcm _ (And.left (by assumption))) ?_; rintro e w' ⟨rfl, bq⟩) | (go_at_call 13; refine Calls.mono (heq _ (And.left (by assumption))) ?_; rintro e w' ⟨rfl, bq⟩))
                rename_i hH
                replace hoi := hH.1
                clear hH q1 q2 q3 q4
                clear bq
                generalize w' = wr at *
                obtain ⟨q1, q2, q3, q4⟩ := hfx wr hoi
                go_wp2_with fail
                exact ⟨⟨y + 1, by omega, by go_num, hoi⟩, by simp [intOf]; omega⟩
              · go_wp2_with fail
                go_region_held3 (fun w' => OI w4 L P K 3 w' ∧ w'.cell? ⟨G, x, none⟩ = some (.slice (P x) (L x).length (K x)) ∧ w'.cell? ⟨G, y, none⟩ = some (.slice (P y) (L y).length (K y)) ∧ w'.cell? ⟨G + 1, x, none⟩ = some (str (wt (L x))) ∧ w'.cell? ⟨G + 1, y, none⟩ = some (str (wt (L y)))) (first | exact ⟨hoi.drew, hfx _ hoi.drew⟩ | exact ⟨OI.later (And.left (by assumption)) bq, hfx _ (OI.later (And.left (by assumption)) bq)⟩ | exact ⟨OI.drew (And.left (by assumption)), hfx _ (OI.drew (And.left (by assumption)))⟩)
                  ((go_at_call 16; refine Calls.mono (hl1 _ (And.left (by assumption))) ?_; rintro e w' ⟨rfl, bq⟩))
                rename_i hH
                replace hoi := hH.1
                clear hH q1 q2 q3 q4
                clear bq
                generalize w' = wr at *
                obtain ⟨q1, q2, q3, q4⟩ := hfx wr hoi
                go_wp2_with fail
                go_region_held3 (fun w' => OI w4 L P K 3 w' ∧ w'.cell? ⟨G, x, none⟩ = some (.slice (P x) (L x).length (K x)) ∧ w'.cell? ⟨G, y, none⟩ = some (.slice (P y) (L y).length (K y)) ∧ w'.cell? ⟨G + 1, x, none⟩ = some (str (wt (L x))) ∧ w'.cell? ⟨G + 1, y, none⟩ = some (str (wt (L y)))) (first | exact ⟨hoi.drew, hfx _ hoi.drew⟩ | exact ⟨OI.later (And.left (by assumption)) bq, hfx _ (OI.later (And.left (by assumption)) bq)⟩ | exact ⟨OI.drew (And.left (by assumption)), hfx _ (OI.drew (And.left (by assumption)))⟩)
                  ((go_at_call 16; refine Calls.mono (hl2 _ (And.left (by assumption))) ?_; rintro e w' ⟨rfl, bq⟩))
                rename_i hH
                replace hoi := hH.1
                clear hH q1 q2 q3 q4
                clear bq
                generalize w' = wr at *
                obtain ⟨q1, q2, q3, q4⟩ := hfx wr hoi
                go_wp2_with fail
                go_region_held3 (fun w' => OI w4 L P K 3 w' ∧ w'.cell? ⟨G, x, none⟩ = some (.slice (P x) (L x).length (K x)) ∧ w'.cell? ⟨G, y, none⟩ = some (.slice (P y) (L y).length (K y)) ∧ w'.cell? ⟨G + 1, x, none⟩ = some (str (wt (L x))) ∧ w'.cell? ⟨G + 1, y, none⟩ = some (str (wt (L y)))) (first | exact ⟨hoi.drew, hfx _ hoi.drew⟩ | exact ⟨OI.later (And.left (by assumption)) bq, hfx _ (OI.later (And.left (by assumption)) bq)⟩ | exact ⟨OI.drew (And.left (by assumption)), hfx _ (OI.drew (And.left (by assumption)))⟩)
                  (first | (go_at_call 17; refine Calls.mono (ho' _) ?_; rintro e w' ⟨rfl, bq⟩) | (go_at_call 18; refine Calls.mono (hcm _ (And.left (by assumption))) ?_; rintro e w' ⟨rfl, bq⟩) | (go_at_call 13; refine Calls.mono (heq _ (And.left (by assumption))) ?_; rintro e w' ⟨rfl, bq⟩))
                rename_i hH
                replace hoi := hH.1
                clear hH q1 q2 q3 q4
                clear bq
                generalize w' = wr at *
                obtain ⟨q1, q2, q3, q4⟩ := hfx wr hoi
                go_wp2_with fail
                exact ⟨⟨y + 1, by omega, by go_num, hoi⟩, by simp [intOf]; omega⟩
            · obtain rfl : y = 3 := by omega
              have d3 : decide ((3 : Int) < 3) = false := by decide
              go_wp2_with fail
              exact ⟨⟨x + 1, by omega, by go_num, hoi⟩, by simp [intOf]; omega⟩
        · obtain rfl : x = 3 := by omega
          have d2 : decide ((3 : Int) < 3) = false := by decide
          go_wp2_with fail
          go_ret
          exact ⟨rfl, below_seq HB hoi.below⟩
end Go.Proofs.Ytijkabnhedmimaa
