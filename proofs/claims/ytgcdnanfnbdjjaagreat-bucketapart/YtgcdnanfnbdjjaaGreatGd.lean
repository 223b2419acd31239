import Derived.Test.YtgcdnanfnbdjjaaGreatBq
import Derived.Test.YtgcdnanfnbdjjaaGreatGy
import Derived.Test.YtgcdnanfnbdjjaaGreatBm
import Derived.Test.YtgcdnanfnbdjjaaGreatGc
/- Bytes. -/
namespace Go.Proofs.YtgcdnanfnbdjjaaGreat
set_option linter.unusedVariables false
set_option linter.unusedSimpArgs false
open Go.RowKit
attribute [local go_sem ↓] Go.wp_at_zero Go.wp_at_succ
/-- a version's size, as it is told -/
def szV (v : Vs) : Int := vsz v.key v.data v.l
/-- all sizes together, as they are told: the sum goes round -/
def bw (L : List Vs) : Int := L.foldl (fun s v => wrap64 (s + szV v)) 0
theorem bw_step {L : List Vs} {k : Nat} {u : Vs} (h : L[k]? = some u) : bw (L.take (k + 1)) = wrap64 (bw (L.take k) + szV u) := by
  unfold bw
  rw [takeV h, List.foldl_append]
  rfl
theorem bw_zero (L : List Vs) : bw (L.take 0) = 0 := rfl
theorem bw_range (L : List Vs) : -9223372036854775808 ≤ bw L ∧ bw L ≤ 9223372036854775807 := by
  unfold bw
  rcases List.eq_nil_or_concat L with h | ⟨l, x, h⟩
  · subst h; simp
  · rw [h, List.concat_eq_append, List.foldl_append]
    simp only [List.foldl_cons, List.foldl_nil]
    unfold wrap64
    omega
set_option maxRecDepth 100000 in
set_option maxHeartbeats 4000000 in
theorem bBytes_any (L : List Vs) (next : Int) (w : World) (a : Option Addr) (n cap : Nat) (hL : Li w L a n cap) :
    Calls Tryz.prog 26 #[bv next a n cap] w fun e w' => e = .returned (.int .i64 (bw L)) ∧ Below w.heap.size w w' := by
  obtain rfl := hL.n
  have b0 := (Below.refl w.heap.size w).alloc (Nat.le_refl _) (.cells #[.int .i64 next, .slice a L.length cap] 24)
  have z0 := Bq.new w (.int .i64 next) (.slice a L.length cap)
  have hl := hL.l
  have HL := Hid.mk hL
  clear hL
  go_enter Tryz.func26, Tryz.ntmps26
  obtain ⟨p0, p1, _⟩ := z0.cells
  go_wp2_with fail
  have HB := Hid.mk b0
  have HZ := Hid.mk z0
  clear p0 p1 b0 z0
  generalize w.alloc (.cells #[.int .i64 next, .slice a L.length cap] 24) = W1 at *
  go_loopw [3, 9] (fun o i wr => ∃ k : Nat, k ≤ L.length ∧ i = .int .i64 (k : Int) ∧ o = .int .i64 (bw (L.take k)) ∧ Hid (Below W1.heap.size W1 wr)) (fun o i _ => L.length - (intOf i).toNat)
  case atStart => exact ⟨0, by omega, rfl, rfl, ⟨Below.refl _ _⟩⟩
  case round =>
    obtain ⟨k, hk, rfl, rfl, hb⟩ := hrel
    have bwr := HB.out.trans (hb.out.mono HB.out.size)
    obtain ⟨p0, p1, _⟩ := (HZ.out.later hb.out).cells
    by_cases hlt : k < L.length
    · have d1 : decide ((k : Int) < (L.length : Int)) = true := decide_eq_true (by omega)
      have k2 : (k : Int) < (L.length : Int) := by omega
      obtain ⟨u, hu⟩ : ∃ u, L[k]? = some u := ⟨L[k], List.getElem?_eq_getElem hlt⟩
      obtain ⟨b, off, ma, mc, rfl, hbl, c0, c1, c2, c3, c4, hsl⟩ := (HL.out.s.at'.later bwr).get k u hu
      have hzu := HL.out.z u (List.mem_of_getElem? hu)
      have bx := (Below.refl wr.heap.size wr).alloc (Nat.le_refl _) (.cells #[str u.key, .int .i64 u.seq, .bool u.mkr, str u.data, .slice ma u.l.length mc] 39)
      have hc := size_any u.key u.seq u.mkr u.data u.l _ ma u.l.length mc rfl (hsl.later bx).at' (by omega)
      have hT := Hid.mk (bw_step hu)
      have hw1 : wrap64 ((k : Int) + 1) = ((k + 1 : Nat) : Int) := by unfold wrap64; omega
      clear hu hsl bwr
      change Calls Tryz.prog 57 _ _ (fun e w' => e = .returned (.int .i64 (szV u)) ∧ _) at hc
      generalize bw (L.take k) = BK at *
      generalize szV u = SU at *
      go_wp2_with (go_at_call 57; refine hc.mono ?_; rintro e w1 ⟨rfl, b1⟩)
      exact ⟨⟨k + 1, by omega, by first | (rw [hw1]; done) | go_num, by rw [hT.out], ⟨below_seq hb.out (below_seq bx b1)⟩⟩, by first | (rw [hw1]; exact Nat.sub_lt_sub_left hlt (Nat.lt_succ_self k)) | (simp [intOf]; omega)⟩
    · obtain rfl : k = L.length := by omega
      have d1 : decide ((L.length : Int) < (L.length : Int)) = false := decide_eq_false (by omega)
      rw [List.take_length]
      go_wp2_with fail
      go_ret
      exact ⟨rfl, bwr⟩
set_option maxRecDepth 100000 in
set_option maxHeartbeats 4000000 in
theorem qBytes_any (L : List Vs) (next : Int) (w : World) (a : Option Addr) (n cap : Nat) (hL : Li w L a n cap) :
    Calls Tryz.prog 34 #[bv next a n cap] w fun e w' => e = .returned (.int .i64 (bw L)) ∧ Below w.heap.size w w' := by
  obtain rfl := hL.n
  have b0 := (Below.refl w.heap.size w).alloc (Nat.le_refl _) (.cells #[.int .i64 next, .slice a L.length cap] 24)
  have z0 := Bq.new w (.int .i64 next) (.slice a L.length cap)
  have hl := hL.l
  have HL := Hid.mk hL
  clear hL
  go_enter Tryz.func34, Tryz.ntmps34
  obtain ⟨p0, p1, _⟩ := z0.cells
  go_wp2_with fail
  have HB := Hid.mk b0
  have HZ := Hid.mk z0
  clear p0 p1 b0 z0
  generalize w.alloc (.cells #[.int .i64 next, .slice a L.length cap] 24) = W1 at *
  go_loopw [3, 4] (fun o i wr => ∃ k : Nat, k ≤ L.length ∧ i = .int .i64 (k : Int) ∧ o = .int .i64 (bw (L.take k)) ∧ Hid (Below W1.heap.size W1 wr)) (fun o i _ => L.length - (intOf i).toNat)
  case atStart => exact ⟨0, by omega, rfl, rfl, ⟨Below.refl _ _⟩⟩
  case round =>
    obtain ⟨k, hk, rfl, rfl, hb⟩ := hrel
    have bwr := HB.out.trans (hb.out.mono HB.out.size)
    obtain ⟨p0, p1, _⟩ := (HZ.out.later hb.out).cells
    by_cases hlt : k < L.length
    · have d1 : decide ((k : Int) < (L.length : Int)) = true := decide_eq_true (by omega)
      have k2 : (k : Int) < (L.length : Int) := by omega
      obtain ⟨u, hu⟩ : ∃ u, L[k]? = some u := ⟨L[k], List.getElem?_eq_getElem hlt⟩
      obtain ⟨b, off, ma, mc, rfl, hbl, c0, c1, c2, c3, c4, hsl⟩ := (HL.out.s.at'.later bwr).get k u hu
      have hzu := HL.out.z u (List.mem_of_getElem? hu)
      have hc := rSize_any u.key u.seq u.mkr u.data u.l wr ma u.l.length mc rfl hsl.at' (by omega)
      have hT := Hid.mk (bw_step hu)
      have hw1 : wrap64 ((k : Int) + 1) = ((k + 1 : Nat) : Int) := by unfold wrap64; omega
      clear hu hsl bwr
      change Calls Tryz.prog 68 _ _ (fun e w' => e = .returned (.int .i64 (szV u)) ∧ _) at hc
      generalize bw (L.take k) = BK at *
      generalize szV u = SU at *
      go_wp2_with (go_at_call 68; refine hc.mono ?_; rintro e w1 ⟨rfl, b1⟩)
      exact ⟨⟨k + 1, by omega, by first | (rw [hw1]; done) | go_num, by rw [hT.out], ⟨below_seq hb.out b1⟩⟩, by first | (rw [hw1]; exact Nat.sub_lt_sub_left hlt (Nat.lt_succ_self k)) | (simp [intOf]; omega)⟩
    · obtain rfl : k = L.length := by omega
      have d1 : decide ((L.length : Int) < (L.length : Int)) = false := decide_eq_false (by omega)
      rw [List.take_length]
      go_wp2_with fail
      go_ret
      exact ⟨rfl, bwr⟩
end Go.Proofs.YtgcdnanfnbdjjaaGreat

/- refused. -/
namespace Go.Proofs.YtgcdnanfnbdjjaaGreat
set_option linter.unusedVariables false
set_option linter.unusedSimpArgs false
open Go.RowKit
attribute [local go_sem ↓] Go.wp_at_zero Go.wp_at_succ
/-- what names tells of a version -/
noncomputable def vrV (v : Vs) : Int := vrE v.key v.mkr v.data v.l
/-- why a value may not get a version more -/
noncomputable def rfE (next : Int) (L : List Vs) (v : Vs) : Int := if ¬ vrV v = 0 then vrV v else if 1099511627776 < next then 74 else if 256 ≤ L.length then 75 else if 65536 < wrap64 (bw L + szV v) then 76 else 0
theorem vrV_or (v : Vs) : vrV v = 0 ∨ vrV v = 61 ∨ vrV v = 62 ∨ vrV v = 63 := by
  unfold vrV vrE
  split
  · simp
  · split
    · simp
    · split
      · simp
      · rcases mtE_or v.l with q | q <;> simp [q]
theorem boxBW (w : World) (x y : Value) (a b c d e : Value) : ∀ w', Below (w.heap.size + 2) ((w.alloc (.cells #[x, y] 24)).alloc (.cells #[a, b, c, d, e] 39)) w' → Bq w' w.heap.size x y ∧ Bv w' (w.heap.size + 1) a b c d e := fun w' h => by
  refine ⟨?_, ?_⟩
  · refine Bq.low (w := (w.alloc (.cells #[x, y] 24)).alloc (.cells #[a, b, c, d, e] 39)) ?_ (by omega) h
    unfold Bq; rw [heap_alloc_old _ _ (by simp)]; exact heap_alloc_new _ _
  · have := heap_alloc_new (w.alloc (.cells #[x, y] 24)) (.cells #[a, b, c, d, e] 39)
    rw [World.size_alloc] at this
    unfold Bv
    rw [h.block _ (by omega)]
    exact this
theorem wrap_eq (x : Int) : IntKind.i64.wrap x = wrap64 x := by rw [IntKind.wrap_i64]; unfold wrap64; omega
theorem rfE_1 {next : Int} {L : List Vs} {v : Vs} {E : Int} (h : vrV v = E) (hE : ¬ E = 0) : rfE next L v = E := by unfold rfE; rw [h, if_pos hE]
theorem rfE_2 {next : Int} {L : List Vs} {v : Vs} (h : vrV v = 0) (h2 : 1099511627776 < next) : rfE next L v = 74 := by unfold rfE; rw [h, if_neg (by simp), if_pos h2]
theorem rfE_3 {next : Int} {L : List Vs} {v : Vs} (h : vrV v = 0) (h2 : ¬ 1099511627776 < next) (h3 : 256 ≤ L.length) : rfE next L v = 75 := by unfold rfE; rw [h, if_neg (by simp), if_neg h2, if_pos h3]
theorem rfE_4 {next : Int} {L : List Vs} {v : Vs} (h : vrV v = 0) (h2 : ¬ 1099511627776 < next) (h3 : ¬ 256 ≤ L.length) (h4 : 65536 < wrap64 (bw L + szV v)) : rfE next L v = 76 := by unfold rfE; rw [h, if_neg (by simp), if_neg h2, if_neg h3, if_pos h4]
theorem rfE_5 {next : Int} {L : List Vs} {v : Vs} (h : vrV v = 0) (h2 : ¬ 1099511627776 < next) (h3 : ¬ 256 ≤ L.length) (h4 : ¬ 65536 < wrap64 (bw L + szV v)) : rfE next L v = 0 := by unfold rfE; rw [h, if_neg (by simp), if_neg h2, if_neg h3, if_neg h4]
set_option maxRecDepth 100000 in
set_option maxHeartbeats 4000000 in
theorem refused_any (L : List Vs) (next : Int) (v : Vs) (w : World) (a : Option Addr) (n cap : Nat) (va : Option Addr) (vn vc : Nat) (hL : Li w L a n cap) (hV : Vi w v va vn vc) :
    Calls Tryz.prog 72 #[bv next a n cap, vv v.key v.seq v.mkr v.data va vn vc] w fun e w' => e = .returned (.int .i64 (rfE next L v)) ∧ Below w.heap.size w w' := by
  obtain rfl := hL.n
  obtain rfl := hV.n
  have b0 := (Below.refl w.heap.size w).alloc (Nat.le_refl _) (.cells #[.int .i64 next, .slice a L.length cap] 24)
  have b1 := b0.alloc b0.size (.cells #[str v.key, .int .i64 v.seq, .bool v.mkr, str v.data, .slice va v.l.length vc] 39)
  have HB := Hid.mk (boxBW w (.int .i64 next) (.slice a L.length cap) (str v.key) (.int .i64 v.seq) (.bool v.mkr) (str v.data) (.slice va v.l.length vc))
  have hvr := version_any v.key v.seq v.mkr v.data v.l _ va _ vc rfl (hV.later b1).s.at' (by have := hV.z; omega)
  change Calls Tryz.prog 27 _ _ (fun e w' => e = .returned (.int .i64 (vrV v)) ∧ _) at hvr
  have HL := Hid.mk hL
  have HV := Hid.mk hV
  clear hL hV b0
  go_enter Tryz.func72, Tryz.ntmps72
  go_wp2_with fail
  with_reducible refine Calls.mono hvr ?_
  rintro e w1 ⟨rfl, c1⟩
  dsimp only
  have b2 := b1.trans (c1.mono b1.size)
  have bb : Below (w.heap.size + 2) ((w.alloc (.cells #[.int .i64 next, .slice a L.length cap] 24)).alloc (.cells #[str v.key, .int .i64 v.seq, .bool v.mkr, str v.data, .slice va v.l.length vc] 39)) w1 := by simpa using c1
  have hss : w.heap.size + 2 ≤ w1.heap.size := by have := bb.size; simp at this; omega
  obtain ⟨x0, y0⟩ := HB.out w1 bb
  clear hvr c1 b1
  generalize (w.alloc (.cells #[.int .i64 next, .slice a L.length cap] 24)).alloc (.cells #[str v.key, .int .i64 v.seq, .bool v.mkr, str v.data, .slice va v.l.length vc] 39) = W2 at *
  have errs : ∀ E : Int, vrV v = E → ¬ E = 0 → rfE next L v = E := fun E h1 h2 => rfE_1 h1 h2
  by_cases hv0 : vrV v = 0
  · rw [hv0]
    obtain ⟨p0, p1, _⟩ := x0.cells
    by_cases h2 : 1099511627776 < next
    · have HR := Hid.mk (rfE_2 (L := L) hv0 h2)
      have d2 : decide (1099511627776 < next) = true := decide_eq_true h2
      clear h2 hv0 errs
      go_wp2_with fail
      go_ret
      exact ⟨by rw [HR.out]; rfl, b2⟩
    · have d2 : decide (1099511627776 < next) = false := decide_eq_false h2
      by_cases h3 : 256 ≤ L.length
      · have HR := Hid.mk (rfE_3 hv0 h2 h3)
        have d3 : decide ((256 : Int) ≤ (L.length : Int)) = true := decide_eq_true (by omega)
        clear h2 hv0 h3 errs
        go_wp2_with fail
        go_ret
        exact ⟨by rw [HR.out]; rfl, b2⟩
      · have d3 : decide ((256 : Int) ≤ (L.length : Int)) = false := decide_eq_false (by omega)
        have hby := fun w' (hb : Below w1.heap.size w1 w') => bBytes_any L next w' a _ cap ((HL.out.later b2).later hb)
        have HS : Hid (∀ w', Below w1.heap.size w1 w' → Below w1.heap.size w1 w' ∧ w'.cell? ⟨w.heap.size, 0, none⟩ = some (.int .i64 next) ∧ w'.cell? ⟨w.heap.size, 1, none⟩ = some (.slice a L.length cap) ∧ w'.cell? ⟨w.heap.size + 1, 0, none⟩ = some (str v.key) ∧ w'.cell? ⟨w.heap.size + 1, 1, none⟩ = some (.int .i64 v.seq) ∧ w'.cell? ⟨w.heap.size + 1, 2, none⟩ = some (.bool v.mkr) ∧ w'.cell? ⟨w.heap.size + 1, 3, none⟩ = some (str v.data) ∧ w'.cell? ⟨w.heap.size + 1, 4, none⟩ = some (.slice va v.l.length vc)) := ⟨fun w' h => by
          obtain ⟨g0, g1, _⟩ := (x0.later h).cells
          obtain ⟨t0, t1, t2, t3, t4, _⟩ := (y0.later h).cells
          exact ⟨h, g0, g1, t0, t1, t2, t3, t4⟩⟩
        have hsz : ∀ w2, Below w1.heap.size w1 w2 → Calls Tryz.prog 57 #[vv v.key v.seq v.mkr v.data va v.l.length vc] w2 fun e w' => e = .returned (.int .i64 (szV v)) ∧ Below w2.heap.size w2 w' := fun w2 h => size_any v.key v.seq v.mkr v.data v.l w2 va _ vc rfl ((HV.out.later b2).later h).s.at' (by have := HV.out.z; omega)
        by_cases h4 : 65536 < wrap64 (bw L + szV v)
        · have HR := Hid.mk (rfE_4 hv0 h2 h3 h4)
          have d4 : decide (65536 < wrap64 (bw L + szV v)) = true := decide_eq_true h4
          have d5 : decide (65536 < IntKind.i64.wrap (bw L + szV v)) = true := by rw [wrap_eq]; exact d4
          clear h2 hv0 h3 h4 errs x0 y0 HB HL HV bb
          generalize bw L = BL at *
          generalize szV v = SV at *
          go_wp2_with fail
          go_region_held3 (fun w' => Below w1.heap.size w1 w' ∧ w'.cell? ⟨w.heap.size, 0, none⟩ = some (.int .i64 next) ∧ w'.cell? ⟨w.heap.size, 1, none⟩ = some (.slice a L.length cap) ∧ w'.cell? ⟨w.heap.size + 1, 0, none⟩ = some (str v.key) ∧ w'.cell? ⟨w.heap.size + 1, 1, none⟩ = some (.int .i64 v.seq) ∧ w'.cell? ⟨w.heap.size + 1, 2, none⟩ = some (.bool v.mkr) ∧ w'.cell? ⟨w.heap.size + 1, 3, none⟩ = some (str v.data) ∧ w'.cell? ⟨w.heap.size + 1, 4, none⟩ = some (.slice va v.l.length vc)) (first
            | exact HS.out _ (Below.refl _ _).drew
            | exact HS.out _ (below_seq (And.left (by assumption)) e1)
            | exact HS.out _ (below_seq (And.left (by assumption)) e2)) (first
            | (go_at_call 26; with_reducible refine Calls.mono (hby _ (And.left (by assumption))) ?_; rintro e w3 ⟨rfl, e1⟩)
            | (go_at_call 57; with_reducible refine Calls.mono (hsz _ (And.left (by assumption))) ?_; rintro e w4 ⟨rfl, e2⟩))
          have hbw : Below w1.heap.size w1 w4 := And.left (by assumption)
          go_wp2_with fail
          go_ret
          exact ⟨by rw [HR.out]; rfl, below_seq b2 hbw⟩
        · have HR := Hid.mk (rfE_5 hv0 h2 h3 h4)
          have d4 : decide (65536 < wrap64 (bw L + szV v)) = false := decide_eq_false h4
          have d5 : decide (65536 < IntKind.i64.wrap (bw L + szV v)) = false := by rw [wrap_eq]; exact d4
          clear h2 hv0 h3 h4 errs x0 y0 HB HL HV bb
          generalize bw L = BL at *
          generalize szV v = SV at *
          go_wp2_with fail
          go_region_held3 (fun w' => Below w1.heap.size w1 w' ∧ w'.cell? ⟨w.heap.size, 0, none⟩ = some (.int .i64 next) ∧ w'.cell? ⟨w.heap.size, 1, none⟩ = some (.slice a L.length cap) ∧ w'.cell? ⟨w.heap.size + 1, 0, none⟩ = some (str v.key) ∧ w'.cell? ⟨w.heap.size + 1, 1, none⟩ = some (.int .i64 v.seq) ∧ w'.cell? ⟨w.heap.size + 1, 2, none⟩ = some (.bool v.mkr) ∧ w'.cell? ⟨w.heap.size + 1, 3, none⟩ = some (str v.data) ∧ w'.cell? ⟨w.heap.size + 1, 4, none⟩ = some (.slice va v.l.length vc)) (first
            | exact HS.out _ (Below.refl _ _).drew
            | exact HS.out _ (below_seq (And.left (by assumption)) e1)
            | exact HS.out _ (below_seq (And.left (by assumption)) e2)) (first
            | (go_at_call 26; with_reducible refine Calls.mono (hby _ (And.left (by assumption))) ?_; rintro e w3 ⟨rfl, e1⟩)
            | (go_at_call 57; with_reducible refine Calls.mono (hsz _ (And.left (by assumption))) ?_; rintro e w4 ⟨rfl, e2⟩))
          have hbw : Below w1.heap.size w1 w4 := And.left (by assumption)
          go_wp2_with fail
          go_ret
          exact ⟨by rw [HR.out]; rfl, below_seq b2 hbw⟩
  · have HR := Hid.mk (rfE_1 (next := next) (L := L) rfl hv0)
    have d1 : (vrV v == 0) = false := beq_eq_false_iff_ne.2 hv0
    generalize vrV v = EV at *
    clear hv0 errs x0 y0
    go_wp2_with fail
    go_ret
    exact ⟨by rw [HR.out]; rfl, b2⟩
end Go.Proofs.YtgcdnanfnbdjjaaGreat
