/- Apply. -/
import Derived.Test.YthbdaadhcheggaaDl
import Derived.Test.YthbdaadhcheggaaByb
namespace Go.Proofs.Ythbdaadhcheggaa
set_option linter.unusedVariables false
set_option linter.unusedSimpArgs false
open Go.RowKit
attribute [local go_sem ↓] Go.wp_at_zero Go.wp_at_succ
attribute [local go_sem ↓] slVe
/-- why it is refused -/
def apE (next since : Int) (L M : List Vs) : Int := if ¬ since = next then 91 else if 256 < L.length + M.length then 75 else if 65536 < wrap64 (bw L + bw M) then 76 else 0
/-- what Apply answers -/
def ApP (next since mnext : Int) (L M : List Vs) (w w' : World) (e : Ending) : Prop :=
  (apE next since L M = 0 ∧ ∃ v, e = .returned (.tuple #[.agg #[.int .i64 mnext, v], .int .i64 0]) ∧ Cp w.heap.size w' v (mg L M)) ∨ (¬ apE next since L M = 0 ∧ e = .returned (.tuple #[bv 0 none 0 0, .int .i64 (apE next since L M)]))
theorem bdb (w : World) (x y p q r : Value) : ∀ w', Below (w.heap.size + 3) (((w.alloc (.cells #[x, y] 24)).alloc (.cells #[p, q, r] 31)).alloc (.cells #[.int .i64 0, .slice none 0 0] 24)) w' → Bq w' w.heap.size x y ∧ Bd w' (w.heap.size + 1) p q r ∧ Bq w' (w.heap.size + 2) (.int .i64 0) (.slice none 0 0) := fun w' h => by
  refine ⟨?_, ?_, ?_⟩
  · refine Bq.low (w := ((w.alloc (.cells #[x, y] 24)).alloc (.cells #[p, q, r] 31)).alloc (.cells #[.int .i64 0, .slice none 0 0] 24)) ?_ (by omega) h
    unfold Bq; rw [heap_alloc_old _ _ (by simp; omega), heap_alloc_old _ _ (by simp)]; exact heap_alloc_new _ _
  · refine Bd.low (w := ((w.alloc (.cells #[x, y] 24)).alloc (.cells #[p, q, r] 31)).alloc (.cells #[.int .i64 0, .slice none 0 0] 24)) ?_ (by omega) h
    unfold Bd; rw [heap_alloc_old _ _ (by simp)]
    have := heap_alloc_new (w.alloc (.cells #[x, y] 24)) (.cells #[p, q, r] 31)
    rw [World.size_alloc] at this
    exact this
  · refine Bq.low (w := ((w.alloc (.cells #[x, y] 24)).alloc (.cells #[p, q, r] 31)).alloc (.cells #[.int .i64 0, .slice none 0 0] 24)) ?_ (by omega) h
    have := heap_alloc_new ((w.alloc (.cells #[x, y] 24)).alloc (.cells #[p, q, r] 31)) (.cells #[.int .i64 0, .slice none 0 0] 24)
    rw [World.size_alloc, World.size_alloc] at this
    exact this
set_option maxRecDepth 100000 in
set_option maxHeartbeats 4000000 in
theorem dApply_any (L M : List Vs) (next since mnext : Int) (w : World) (a : Option Addr) (n cap : Nat) (a' : Option Addr) (n' cap' : Nat) (hL : Li w L a n cap) (hM : Li w M a' n' cap') :
    Calls Try.prog 13 #[bv next a n cap, dv since mnext a' n' cap'] w fun e w' => ApP next since mnext L M w w' e ∧ Below w.heap.size w w' := by
  obtain rfl := hL.n
  obtain rfl := hM.n
  have b0 := (Below.refl w.heap.size w).alloc (Nat.le_refl _) (.cells #[.int .i64 next, .slice a L.length cap] 24)
  have b1 := b0.alloc b0.size (.cells #[.int .i64 since, .int .i64 mnext, .slice a' M.length cap'] 31)
  have b2 := b1.alloc b1.size (.cells #[.int .i64 0, .slice none 0 0] 24)
  have HB := Hid.mk (bdb w (.int .i64 next) (.slice a L.length cap) (.int .i64 since) (.int .i64 mnext) (.slice a' M.length cap'))
  have hs3 : (((w.alloc (.cells #[.int .i64 next, .slice a L.length cap] 24)).alloc (.cells #[.int .i64 since, .int .i64 mnext, .slice a' M.length cap'] 31)).alloc (.cells #[.int .i64 0, .slice none 0 0] 24)).heap.size = w.heap.size + 3 := by simp
  have HL := Hid.mk (hL.later b2)
  have HM := Hid.mk (hM.later b2)
  have hll := hL.l
  have hml := hM.l
  clear hL hM b0 b1
  obtain ⟨x0, y0, z0⟩ := HB.out _ (Below.refl _ _)
  obtain ⟨p0, p1, _⟩ := x0.cells
  obtain ⟨q0, q1, q2, _⟩ := y0.cells
  obtain ⟨r0, r1, _⟩ := z0.cells
  by_cases h1 : since = next
  · subst h1
    by_cases h2 : 256 < L.length + M.length
    · have d1 : decide ((256 : Int) < (L.length : Int) + (M.length : Int)) = true := decide_eq_true (by omega)
      have HA : Hid (apE since since L M = 75) := ⟨by unfold apE; rw [if_neg (by simp), if_pos h2]⟩
      clear h2
      go_enter Try.func13, Try.ntmps13
      go_wp2_with fail
      refine bodyPost_ret (v := .tuple #[bv 0 none 0 0, .int .i64 75]) ?_ rfl ⟨.inr ⟨by rw [HA.out]; decide, by rw [HA.out]⟩, b2⟩
      rw [results_ct rfl]
      go_simp
    · have d1 : decide ((256 : Int) < (L.length : Int) + (M.length : Int)) = false := decide_eq_false (by omega)
      have HA : Hid (apE since since L M = if 65536 < wrap64 (bw L + bw M) then 76 else 0) := ⟨by unfold apE; rw [if_neg (by simp), if_neg h2]⟩
      have H2 : Hid (L.length + M.length ≤ 300) := ⟨by omega⟩
      clear h2 x0 y0 z0
      go_enter Try.func13, Try.ntmps13
      go_wp2_with fail
      clear p0 p1 q0 q1 q2 r0 r1 d1
      generalize ((w.alloc (.cells #[.int .i64 since, .slice a L.length cap] 24)).alloc (.cells #[.int .i64 since, .int .i64 mnext, .slice a' M.length cap'] 31)).alloc (.cells #[.int .i64 0, .slice none 0 0] 24) = W3 at *
      have HS : Hid (∀ w', Below W3.heap.size W3 w' → Below W3.heap.size W3 w' ∧ w'.cell? ⟨w.heap.size, 0, none⟩ = some (.int .i64 since) ∧ w'.cell? ⟨w.heap.size, 1, none⟩ = some (.slice a L.length cap) ∧ w'.cell? ⟨w.heap.size + 1, 1, none⟩ = some (.int .i64 mnext) ∧ w'.cell? ⟨w.heap.size + 1, 2, none⟩ = some (.slice a' M.length cap')) := ⟨fun w' h => by
        have h' := h
        rw [hs3] at h'
        obtain ⟨x0, y0, _⟩ := HB.out w' h'
        obtain ⟨t0, t1, _⟩ := x0.cells
        obtain ⟨_, t2, t3, _⟩ := y0.cells
        exact ⟨h, t0, t1, t2, t3⟩⟩
      have hc1 := fun w' (h : Below W3.heap.size W3 w') => bBytes_any L since w' a _ cap (HL.out.later h)
      have hc2 := fun w' (h : Below W3.heap.size W3 w') => bBytes_any M mnext w' a' _ cap' (HM.out.later h)
      obtain ⟨T, hT⟩ : ∃ T, T = wrap64 (bw L + bw M) := ⟨_, rfl⟩
      have hwr : IntKind.i64.wrap (bw L + bw M) = T := by rw [hT, IntKind.wrap_i64]; unfold wrap64; omega
      rw [← hT] at HA
      clear hT
      by_cases h3 : 65536 < T
      · have d3 : decide ((65536 : Int) < T) = true := decide_eq_true h3
        have HA2 : Hid (apE since since L M = 76) := ⟨by rw [HA.out, if_pos h3]⟩
        clear HA h3
        generalize bw L = X at *
        generalize bw M = Y at *
        go_region_held3 (fun w' => Below W3.heap.size W3 w' ∧ w'.cell? ⟨w.heap.size, 0, none⟩ = some (.int .i64 since) ∧ w'.cell? ⟨w.heap.size, 1, none⟩ = some (.slice a L.length cap) ∧ w'.cell? ⟨w.heap.size + 1, 1, none⟩ = some (.int .i64 mnext) ∧ w'.cell? ⟨w.heap.size + 1, 2, none⟩ = some (.slice a' M.length cap')) ((refine HS.out _ ?_; first
          | with_reducible exact (Below.refl _ _).drew
          | with_reducible exact (below_seq (And.left (by assumption)) x2)
          | with_reducible exact (below_seq (And.left (by assumption)) x1))) (first
          | (go_at_call 26; with_reducible refine Calls.mono (hc1 _ (And.left (by assumption))) ?_; rintro e w5 ⟨rfl, x1⟩)
          | (go_at_call 26; with_reducible refine Calls.mono (hc2 _ (And.left (by assumption))) ?_; rintro e w6 ⟨rfl, x2⟩))
        all_goals (
          have hb6 : Hid (Below W3.heap.size W3 w6) := ⟨And.left (by assumption)⟩
          have hb6' := hb6.out
          rw [hs3] at hb6'
          obtain ⟨_, _, z0⟩ := HB.out w6 hb6'
          obtain ⟨r0, r1, rf⟩ := z0.cells
          have f0 := rf 0
          have f1 := rf 1
          have z1 := (z0.set0 (.int .i64 0)).set1 (.slice none 0 0)
          have B1 := ((b2.trans (hb6.out.mono b2.size)).setCell (p := ⟨w.heap.size + 2, 0, none⟩) (by simp) (.int .i64 0)).setCell (p := ⟨w.heap.size + 2, 1, none⟩) (by simp) (.slice none 0 0)
          clear z0 rf
          go_wp2_with fail
          generalize (w6.setCell ⟨w.heap.size + 2, 0, none⟩ (.int .i64 0)).setCell ⟨w.heap.size + 2, 1, none⟩ (.slice none 0 0) = W4 at *
          obtain ⟨g0, g1, _⟩ := z1.cells
          refine bodyPost_ret (v := .tuple #[bv 0 none 0 0, .int .i64 76]) ?_ rfl ⟨.inr ⟨by rw [HA2.out]; decide, by rw [HA2.out]⟩, B1⟩
          rw [results_ct rfl]
          go_simp)
      · have d3 : decide ((65536 : Int) < T) = false := decide_eq_false h3
        have HA2 : Hid (apE since since L M = 0) := ⟨by rw [HA.out, if_neg h3]⟩
        clear HA h3
        generalize bw L = X at *
        generalize bw M = Y at *
        go_region_held3 (fun w' => Below W3.heap.size W3 w' ∧ w'.cell? ⟨w.heap.size, 0, none⟩ = some (.int .i64 since) ∧ w'.cell? ⟨w.heap.size, 1, none⟩ = some (.slice a L.length cap) ∧ w'.cell? ⟨w.heap.size + 1, 1, none⟩ = some (.int .i64 mnext) ∧ w'.cell? ⟨w.heap.size + 1, 2, none⟩ = some (.slice a' M.length cap')) ((refine HS.out _ ?_; first
          | with_reducible exact (Below.refl _ _).drew
          | with_reducible exact (below_seq (And.left (by assumption)) x2)
          | with_reducible exact (below_seq (And.left (by assumption)) x1))) (first
          | (go_at_call 26; with_reducible refine Calls.mono (hc1 _ (And.left (by assumption))) ?_; rintro e w5 ⟨rfl, x1⟩)
          | (go_at_call 26; with_reducible refine Calls.mono (hc2 _ (And.left (by assumption))) ?_; rintro e w6 ⟨rfl, x2⟩))
        all_goals (
          have hb6 : Hid (Below W3.heap.size W3 w6) := ⟨And.left (by assumption)⟩
          obtain ⟨_, p0, p1, q1, q2⟩ := HS.out w6 hb6.out
          obtain ⟨RA, hA1, hA2, hA3⟩ := li_rows HL.out
          obtain ⟨RB, hB1, hB2, hB3⟩ := li_rows HM.out
          have lA : RA.length = L.length := by rw [← hA1, List.length_map]
          have lB : RB.length = M.length := by rw [← hB1, List.length_map]
          have hA : Rs w6 a cap RA := ⟨hA2.later hb6.out, HL.out.s.nil, by rw [lA]; exact HL.out.s.le, HL.out.s.max⟩
          have hB : Rs w6 a' cap' RB := ⟨hB2.later hb6.out, HM.out.s.nil, by rw [lB]; exact HM.out.s.le, HM.out.s.max⟩
          have hla := laid_any RA RB w6 a cap a' cap' hA hB (by rw [lA, lB]; exact H2.out)
          rw [lA, lB, hA1, hB1] at hla
          have HSh : Hid (∀ r, r ∈ RA ∨ r ∈ RB → Sl w6 r.a r.c r.v.l ∧ r.v.l.length ≤ 4398046510976) := ⟨fun r hr => by
            rcases hr with q | q
            · exact ⟨(hA3 r q).1.later hb6.out, (hA3 r q).2⟩
            · exact ⟨(hB3 r q).1.later hb6.out, (hB3 r q).2⟩⟩
          have HmL : Hid ((mg L M).length ≤ 300) := ⟨by rw [mg_len]; exact H2.out⟩
          clear hA1 hB1 hA2 hB2 hA3 hB3 hA hB lA lB hc1 hc2
          go_wp2_with fail
          with_reducible refine Calls.mono hla ?_
          rintro e w7 ⟨v7, rfl, R, oR, mR, sR, b7⟩
          dsimp only
          have hRl : R.length ≤ 1954687338260 := by
            have := congrArg List.length mR
            rw [List.length_map] at this
            have := HmL.out
            omega
          have hto := takeOwn_any w6 R w7 v7 oR b7 (fun r hr => HSh.out r (sR r hr)) hRl
          rw [mR] at hto
          clear hla oR mR sR hRl p0 p1 q1 q2 HmL
          go_wp2_with fail
          with_reducible refine Calls.mono hto ?_
          rintro e w8 ⟨rfl, o8, b8⟩
          dsimp only
          have b83 := hb6.out.trans (b8.mono hb6.out.size)
          obtain ⟨_, p0, p1, q1, q2⟩ := HS.out w8 b83
          have hb8' := b83
          rw [hs3] at hb8'
          obtain ⟨_, _, z0⟩ := HB.out w8 hb8'
          obtain ⟨r0, r1, rf⟩ := z0.cells
          have f0 := rf 0
          have f1 := rf 1
          obtain ⟨oa, oc, rfl, oS⟩ := o8.ls
          have hsz := hb6.out.size
          rw [hs3] at hsz
          have z1 := (z0.set0 (.int .i64 mnext)).set1 (.slice oa (mg L M).length oc)
          have o1 := (o8.low (g := w.heap.size + 2) (j := 0) (by omega) (.int .i64 mnext)).low (g := w.heap.size + 2) (j := 1) (by omega) (.slice oa (mg L M).length oc)
          have B1 := ((b2.trans (b83.mono b2.size)).setCell (p := ⟨w.heap.size + 2, 0, none⟩) (by simp) (.int .i64 mnext)).setCell (p := ⟨w.heap.size + 2, 1, none⟩) (by simp) (.slice oa (mg L M).length oc)
          have HO1 := Hid.mk (o1.base (b' := w.heap.size) (by omega))
          clear z0 rf o8 o1 oS b8 hto b83 hb8' hsz b7
          generalize (mg L M).length = N at *
          go_wp2_with fail
          generalize (w8.setCell ⟨w.heap.size + 2, 0, none⟩ (.int .i64 mnext)).setCell ⟨w.heap.size + 2, 1, none⟩ (.slice oa N oc) = W4 at *
          obtain ⟨g0, g1, _⟩ := z1.cells
          refine bodyPost_ret (v := .tuple #[.agg #[.int .i64 mnext, .slice oa N oc], .int .i64 0]) ?_ rfl ⟨.inl ⟨HA2.out, _, rfl, HO1.out⟩, B1⟩
          rw [results_ct rfl]
          go_simp)
  · have d1 : (since == next) = false := beq_eq_false_iff_ne.2 h1
    have HA : Hid (apE next since L M = 91) := ⟨by unfold apE; rw [if_pos h1]⟩
    clear h1
    go_enter Try.func13, Try.ntmps13
    go_wp2_with fail
    refine bodyPost_ret (v := .tuple #[bv 0 none 0 0, .int .i64 91]) ?_ rfl ⟨.inr ⟨by rw [HA.out]; decide, by rw [HA.out]⟩, b2⟩
    rw [results_ct rfl]
    go_simp
end Go.Proofs.Ythbdaadhcheggaa
