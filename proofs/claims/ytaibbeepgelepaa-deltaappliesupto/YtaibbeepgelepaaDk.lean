/- The document's ahead and Apply. -/
import Derived.Test.YtaibbeepgelepaaDf
import Derived.Test.YtaibbeepgelepaaDb
namespace Go.Proofs.Ytaibbeepgelepaa
set_option linter.unusedVariables false
set_option linter.unusedSimpArgs false
open Go.RowKit
attribute [local go_sem ↓] Go.wp_at_zero Go.wp_at_succ
attribute [-go_sem] Go.Builtin.append_
theorem ahB_true {u v : Vs} (h : ltv u v) : ahB u v = true := by unfold ahB; simp [h]
theorem ahB_false {u v : Vs} (h : ¬ ltv u v) : ahB u v = false := by unfold ahB; simp [h]
theorem eahead_any (u v : Vs) (w : World) (a : Option Addr) (n c : Nat) (a' : Option Addr) (n' c' : Nat) :
    Calls Try.prog 39 #[vv u.key u.seq u.mkr u.data a n c, vv v.key v.seq v.mkr v.data a' n' c'] w fun e w' => e = .returned (.bool (ahB u v)) ∧ Below w.heap.size w w' := by
  have b1 := (Below.refl w.heap.size w).alloc (Nat.le_refl _) (.cells #[str u.key, .int .i64 u.seq, .bool u.mkr, str u.data, .slice a n c] 48)
  have b2 := b1.alloc b1.size (.cells #[str v.key, .int .i64 v.seq, .bool v.mkr, str v.data, .slice a' n' c'] 48)
  clear b1
  by_cases h1 : lt u.key v.key
  · have d1 := bL_lt h1
    have HA : Hid (ahB u v = true) := ⟨ahB_true (.inl h1)⟩
    clear h1
    go_enter Try.func39, Try.ntmps39
    go_wp2_with fail
    go_ret
    exact ⟨by rw [HA.out]; rfl, b2⟩
  · have d1 := bL_not h1
    by_cases hk : u.key = v.key
    · have HA : Hid (ahB u v = decide (u.seq < v.seq)) := ⟨by
        unfold ahB ltv
        simp [hk, lt_irrefl]⟩
      rw [hk] at d1 b2 ⊢
      clear h1
      go_enter Try.func39, Try.ntmps39
      go_wp2_with fail
      go_ret
      exact ⟨by rw [HA.out]; rfl, b2⟩
    · have HA : Hid (ahB u v = false) := ⟨ahB_false (fun h => by rcases h with q | ⟨q, _⟩; exact h1 q; exact hk q)⟩
      have d2 : (u.key == v.key) = false := beq_eq_false_iff_ne.2 hk
      clear h1 hk
      go_enter Try.func39, Try.ntmps39
      go_wp2_with fail
      go_ret
      exact ⟨by rw [HA.out]; rfl, b2⟩
theorem he_of {W4 wr : World} {go B : Nat} {x : Value} {oa : Option Addr} {oc : Nat} {X : List Vs} (u : Vs) (hz : Bq wr go x (.slice oa X.length oc)) (hg : go < B) (hb : Below go W4 wr) : ∀ v2 w2, Cp B w2 v2 (X ++ [u]) → Below B wr w2 → ∃ ya yc X', Hid (X' = X ++ [u]) ∧ v2 = .slice ya X'.length yc ∧ (w2.cell? ⟨go, 1, none⟩ = some (.slice oa X.length oc) ∧ w2.frozen? ⟨go, 1, none⟩ = false) ∧ Hid ((Bq (w2.setCell ⟨go, 1, none⟩ v2) go x v2 ∧ Cp B (w2.setCell ⟨go, 1, none⟩ v2) v2 X') ∧ Below go W4 (w2.setCell ⟨go, 1, none⟩ v2)) := fun v2 w2 h2 hb2 => by
  have z2 := hz.low hg hb2
  obtain ⟨_, q1, q2⟩ := z2.cells
  obtain ⟨ya, yc, e, _⟩ := h2.ls
  exact ⟨ya, yc, X ++ [u], ⟨rfl⟩, e, ⟨q1, q2 1⟩, ⟨⟨z2.set1 _, h2.low hg _⟩, (hb.trans (hb2.mono (Nat.le_of_lt hg))).setCell (p := ⟨go, 1, none⟩) (Nat.le_refl go) _⟩⟩
/-- how far it is laid together -/
structure AI (L M : List Vs) (i k : Nat) (X : List Vs) : Prop where
  m : X ++ mg (L.drop i) (M.drop k) = mg L M
  n : X.length = i + k
theorem AI.start (L M : List Vs) : AI L M 0 0 [] := ⟨rfl, rfl⟩
theorem AI.right {L M X : List Vs} {i k : Nat} {x y : Vs} (h : AI L M i k X) (hx : L[i]? = some x) (hy : M[k]? = some y) (hq : ltv y x) : AI L M i (k + 1) (X ++ [y]) := by
  obtain ⟨hi, rfl⟩ := List.getElem?_eq_some_iff.1 hx
  obtain ⟨hk, rfl⟩ := List.getElem?_eq_some_iff.1 hy
  refine ⟨?_, by rw [List.length_append, h.n]; simp; omega⟩
  have := h.m
  rw [List.drop_eq_getElem_cons hi, List.drop_eq_getElem_cons hk, mg_right hq, ← List.drop_eq_getElem_cons hi] at this
  rw [← this, List.append_assoc]
  rfl
theorem AI.left {L M X : List Vs} {i k : Nat} {x : Vs} (h : AI L M i k X) (hx : L[i]? = some x) (hq : ∀ y, M[k]? = some y → ¬ ltv y x) : AI L M (i + 1) k (X ++ [x]) := by
  obtain ⟨hi, rfl⟩ := List.getElem?_eq_some_iff.1 hx
  refine ⟨?_, by rw [List.length_append, h.n]; simp; omega⟩
  have := h.m
  by_cases hk : k < M.length
  · rw [List.drop_eq_getElem_cons hi, List.drop_eq_getElem_cons hk, mg_left (hq _ (List.getElem?_eq_getElem hk)), ← List.drop_eq_getElem_cons hk] at this
    rw [← this, List.append_assoc]
    rfl
  · rw [List.drop_eq_nil_of_le (Nat.le_of_not_lt hk), mg_nil2] at this ⊢
    rw [← this, List.append_assoc, List.drop_eq_getElem_cons hi]
    rfl
theorem AI.rest {L M X : List Vs} {k : Nat} {y : Vs} (h : AI L M L.length k X) (hy : M[k]? = some y) : AI L M L.length (k + 1) (X ++ [y]) := by
  obtain ⟨hk, rfl⟩ := List.getElem?_eq_some_iff.1 hy
  refine ⟨?_, by rw [List.length_append, h.n]; simp; omega⟩
  have := h.m
  rw [List.drop_length, mg_nil, List.drop_eq_getElem_cons hk] at this
  rw [List.drop_length, mg_nil, ← this, List.append_assoc]
  rfl
theorem AI.done {L M X : List Vs} (h : AI L M L.length M.length X) : X = mg L M := by
  have := h.m
  rw [List.drop_length, List.drop_length, mg_nil, List.append_nil] at this
  exact this
/-- what it answers -/
def eaE (L M : List Vs) : Int := if 256 < L.length + M.length then 75 else if 65536 < bw (mg L M) then 76 else 0
def eaP (next since mnext : Int) (L M : List Vs) (w w' : World) (e : Ending) : Prop :=
  (¬ since = next ∧ e = .returned (.tuple #[bv 0 none 0 0, .int .i64 91])) ∨ (since = next ∧ ¬ eaE L M = 0 ∧ e = .returned (.tuple #[bv 0 none 0 0, .int .i64 (eaE L M)])) ∨ (since = next ∧ eaE L M = 0 ∧ ∃ v, e = .returned (.tuple #[.agg #[.int .i64 mnext, v], .int .i64 0]) ∧ Cp w.heap.size w' v (mg L M))
set_option maxRecDepth 100000 in
set_option maxHeartbeats 8000000 in
theorem eApply_any (L M : List Vs) (next since mnext : Int) (w : World) (a : Option Addr) (n cap : Nat) (a' : Option Addr) (n' cap' : Nat) (hL : Li w L a n cap) (hM : Li w M a' n' cap') (hl : L.length + M.length ≤ 1954687338000) :
    Calls Try.prog 20 #[bv next a n cap, dv since mnext a' n' cap'] w fun e w' => eaP next since mnext L M w w' e ∧ Below w.heap.size w w' := by
  obtain rfl := hL.n
  obtain rfl := hM.n
  have hlL : L.length ≤ 1954687338000 := by omega
  have hlM : M.length ≤ 1954687338000 := by omega
  have HB := Hid.mk (bdb w (.int .i64 next) (.slice a L.length cap) (.int .i64 since) (.int .i64 mnext) (.slice a' M.length cap'))
  have b0 := (Below.refl w.heap.size w).alloc (Nat.le_refl _) (.cells #[.int .i64 next, .slice a L.length cap] 24)
  have b1 := b0.alloc b0.size (.cells #[.int .i64 since, .int .i64 mnext, .slice a' M.length cap'] 27)
  have b2 := b1.alloc b1.size (.cells #[.int .i64 0, .slice none 0 0] 24)
  have b3 := b2.alloc b2.size (.cells #[.int .i64 mnext, .slice none 0 0] 24)
  have hs3 : (((w.alloc (.cells #[.int .i64 next, .slice a L.length cap] 24)).alloc (.cells #[.int .i64 since, .int .i64 mnext, .slice a' M.length cap'] 27)).alloc (.cells #[.int .i64 0, .slice none 0 0] 24)).heap.size = w.heap.size + 3 := by simp
  have HL := Hid.mk hL
  have HM := Hid.mk hM
  have Hl := Hid.mk hl
  obtain ⟨x0, y0, z0⟩ := HB.out _ (Below.refl _ _)
  obtain ⟨p0, p1, _⟩ := x0.cells
  obtain ⟨q0, q1, q2, _⟩ := y0.cells
  obtain ⟨r0, r1, _⟩ := z0.cells
  clear hL hM b0 b1 hl
  by_cases h1 : since = next
  · have HQ := Hid.mk h1
    subst h1
    have hb4 := HB.out _ ((Below.refl _ _).alloc (by rw [hs3]; exact Nat.le_refl _) (.cells #[.int .i64 mnext, .slice none 0 0] 24))
    have hz4 := Bq.new (((w.alloc (.cells #[.int .i64 since, .slice a L.length cap] 24)).alloc (.cells #[.int .i64 since, .int .i64 mnext, .slice a' M.length cap'] 27)).alloc (.cells #[.int .i64 0, .slice none 0 0] 24)) (.int .i64 mnext) (.slice none 0 0)
    rw [hs3] at hz4
    have hs4 : ((((w.alloc (.cells #[.int .i64 since, .slice a L.length cap] 24)).alloc (.cells #[.int .i64 since, .int .i64 mnext, .slice a' M.length cap'] 27)).alloc (.cells #[.int .i64 0, .slice none 0 0] 24)).alloc (.cells #[.int .i64 mnext, .slice none 0 0] 24)).heap.size = w.heap.size + 4 := by simp
    clear x0 y0 z0 HB
    go_enter Try.func20, Try.ntmps20
    go_wp2_with fail
    clear p0 p1 q0 q1 q2 r0 r1 b2 hs3
    generalize (((w.alloc (.cells #[.int .i64 since, .slice a L.length cap] 24)).alloc (.cells #[.int .i64 since, .int .i64 mnext, .slice a' M.length cap'] 27)).alloc (.cells #[.int .i64 0, .slice none 0 0] 24)).alloc (.cells #[.int .i64 mnext, .slice none 0 0] 24) = W4 at *
    have HX0 := Hid.mk hb4.1
    have HY0 := Hid.mk hb4.2.1
    have HR0 := Hid.mk hb4.2.2
    have HZ0 := Hid.mk hz4
    have B4 := Hid.mk b3
    clear hb4 hz4 b3
    obtain ⟨go, hgo⟩ : ∃ go, go = w.heap.size + 1 + 1 + 1 := ⟨_, rfl⟩
    rw [← hgo]
    have HG : Hid (go = w.heap.size + 3) := ⟨hgo⟩
    clear hgo
    have hgo4 : Hid (go < w.heap.size + 4) := ⟨by rw [HG.out]; omega⟩
    go_loopw [7, 8] (fun vk vi wr => ∃ (i k : Nat) (X : List Vs) (oa : Option Addr) (oc : Nat), i ≤ L.length ∧ k ≤ M.length ∧ vi = .int .i64 (i : Int) ∧ vk = .int .i64 (k : Int) ∧ Hid (AI L M i k X) ∧ Hid (Bq wr go (.int .i64 mnext) (.slice oa X.length oc)) ∧ Hid (Cp (w.heap.size + 4) wr (.slice oa X.length oc) X) ∧ Hid (Below go W4 wr)) (fun _ vi _ => L.length - (intOf vi).toNat)
    case atStart => exact ⟨0, 0, [], none, 0, Nat.zero_le _, Nat.zero_le _, rfl, rfl, ⟨AI.start L M⟩, ⟨by rw [HG.out]; exact HZ0.out⟩, ⟨Cp.nil _ _ (by rw [hs4]; exact Nat.le_refl _)⟩, ⟨Below.refl _ _⟩⟩
    case round =>
      clear HZ0
      obtain ⟨i, k, X, oa, oc, hi, hk, rfl, rfl, HA, HZ, HC, HW⟩ := hrel
      have hWB : Below w.heap.size w wr := B4.out.trans (HW.out.mono (by rw [HG.out]; omega))
      obtain ⟨p0, p1, _⟩ := (HX0.out.low (by rw [HG.out]; omega) HW.out).cells
      by_cases hlt : i < L.length
      · have d1 : decide ((i : Int) < (L.length : Int)) = true := decide_eq_true (Int.ofNat_lt.2 hlt)
        have ki : (i : Int) < (L.length : Int) := Int.ofNat_lt.2 hlt
        have hwi : wrap64 ((i : Int) + 1) = ((i + 1 : Nat) : Int) := by unfold wrap64; omega
        obtain ⟨x, hx⟩ : ∃ x, L[i]? = some x := ⟨L[i], List.getElem?_eq_getElem hlt⟩
        have HX := Hid.mk hx
        clear hx hWB
        go_wp2_with fail
        clear p0 p1
        go_loopw [7] (fun vk wr => ∃ (k : Nat) (X : List Vs) (oa : Option Addr) (oc : Nat), k ≤ M.length ∧ vk = .int .i64 (k : Int) ∧ Hid (AI L M i k X) ∧ Hid (Bq wr go (.int .i64 mnext) (.slice oa X.length oc)) ∧ Hid (Cp (w.heap.size + 4) wr (.slice oa X.length oc) X) ∧ Hid (Below go W4 wr)) (fun vk _ => M.length - (intOf vk).toNat)
        case atStart => exact ⟨k, X, oa, oc, hk, rfl, HA, HZ, HC, HW⟩
        case round =>
          clear HA HZ HC HW hk
          obtain ⟨k, X, oa, oc, hk, rfl, HA, HZ, HC, HW⟩ := hrel
          have hWB : Below w.heap.size w wr := B4.out.trans (HW.out.mono (by rw [HG.out]; omega))
          have HX1 := Hid.mk (HX0.out.low (by rw [HG.out]; omega) HW.out)
          have HY1 := Hid.mk (HY0.out.low (by rw [HG.out]; omega) HW.out)
          have hlk : Hid (X.length ≤ 1954687338260) := ⟨by rw [HA.out.n]; have := Hl.out; omega⟩
          obtain ⟨p0, p1, _⟩ := HX1.out.cells
          obtain ⟨q0, q1, q2, _⟩ := HY1.out.cells
          by_cases hlt2 : k < M.length
          · have d2 : decide ((k : Int) < (M.length : Int)) = true := decide_eq_true (Int.ofNat_lt.2 hlt2)
            have kk : (k : Int) < (M.length : Int) := Int.ofNat_lt.2 hlt2
            have hwk : wrap64 ((k : Int) + 1) = ((k + 1 : Nat) : Int) := by unfold wrap64; omega
            obtain ⟨y, hy⟩ : ∃ y, M[k]? = some y := ⟨M[k], List.getElem?_eq_getElem hlt2⟩
            have HY := Hid.mk hy
            clear hy
            obtain ⟨b, off, ma, mc, rfl, hbl, c0, c1, c2, c3, c4, hsl⟩ := (HM.out.s.at'.later hWB).get k y HY.out
            obtain ⟨b', off', ma', mc', rfl, hbl', e0, e1, e2, e3, e4, hsl'⟩ := (HL.out.s.at'.later hWB).get i x HX.out
            have hzu := HM.out.z y (List.mem_of_getElem? HY.out)
            have hah := fun w' => eahead_any y x w' ma y.l.length mc ma' x.l.length mc'
            have HS1 : Hid (∀ w', Below wr.heap.size wr w' → Below wr.heap.size wr w' ∧ w'.cell? ⟨w.heap.size + 1, 2, none⟩ = some (.slice (some ⟨b, off, none⟩) M.length cap') ∧ w'.cell? ⟨w.heap.size, 1, none⟩ = some (.slice (some ⟨b', off', none⟩) L.length cap) ∧ w'.cell? ⟨b, off + k * 5, none⟩ = some (str y.key) ∧ w'.cell? ⟨b, off + k * 5 + 1, none⟩ = some (.int .i64 y.seq) ∧ w'.cell? ⟨b, off + k * 5 + 2, none⟩ = some (.bool y.mkr) ∧ w'.cell? ⟨b, off + k * 5 + 3, none⟩ = some (str y.data) ∧ w'.cell? ⟨b, off + k * 5 + 4, none⟩ = some (.slice ma y.l.length mc) ∧ w'.cell? ⟨b', off' + i * 5, none⟩ = some (str x.key) ∧ w'.cell? ⟨b', off' + i * 5 + 1, none⟩ = some (.int .i64 x.seq) ∧ w'.cell? ⟨b', off' + i * 5 + 2, none⟩ = some (.bool x.mkr) ∧ w'.cell? ⟨b', off' + i * 5 + 3, none⟩ = some (str x.data) ∧ w'.cell? ⟨b', off' + i * 5 + 4, none⟩ = some (.slice ma' x.l.length mc')) := ⟨fun w' h => by
              obtain ⟨_, t1, _⟩ := (HX1.out.later h).cells
              obtain ⟨_, _, t2, _⟩ := (HY1.out.later h).cells
              exact ⟨h, t2, t1, (h.cell (p := ⟨b, _, none⟩) hbl).trans c0, (h.cell (p := ⟨b, _, none⟩) hbl).trans c1, (h.cell (p := ⟨b, _, none⟩) hbl).trans c2, (h.cell (p := ⟨b, _, none⟩) hbl).trans c3, (h.cell (p := ⟨b, _, none⟩) hbl).trans c4, (h.cell (p := ⟨b', _, none⟩) hbl').trans e0, (h.cell (p := ⟨b', _, none⟩) hbl').trans e1, (h.cell (p := ⟨b', _, none⟩) hbl').trans e2, (h.cell (p := ⟨b', _, none⟩) hbl').trans e3, (h.cell (p := ⟨b', _, none⟩) hbl').trans e4⟩⟩
            by_cases hq : ltv y x
            · have HAn := Hid.mk (HA.out.right HX.out HY.out hq)
              have hah2 := fun w' => (hah w')
              rw [ahB_true hq] at hah2
              clear hah hq HA e0 e1 e2 e3 e4 c0 c1 c2 c3 c4 p0 p1 q0 q1 q2
              go_wp2_with fail
              go_region_held3 (fun w' => Below wr.heap.size wr w' ∧ w'.cell? ⟨w.heap.size + 1, 2, none⟩ = some (.slice (some ⟨b, off, none⟩) M.length cap') ∧ w'.cell? ⟨w.heap.size, 1, none⟩ = some (.slice (some ⟨b', off', none⟩) L.length cap) ∧ w'.cell? ⟨b, off + k * 5, none⟩ = some (str y.key) ∧ w'.cell? ⟨b, off + k * 5 + 1, none⟩ = some (.int .i64 y.seq) ∧ w'.cell? ⟨b, off + k * 5 + 2, none⟩ = some (.bool y.mkr) ∧ w'.cell? ⟨b, off + k * 5 + 3, none⟩ = some (str y.data) ∧ w'.cell? ⟨b, off + k * 5 + 4, none⟩ = some (.slice ma y.l.length mc) ∧ w'.cell? ⟨b', off' + i * 5, none⟩ = some (str x.key) ∧ w'.cell? ⟨b', off' + i * 5 + 1, none⟩ = some (.int .i64 x.seq) ∧ w'.cell? ⟨b', off' + i * 5 + 2, none⟩ = some (.bool x.mkr) ∧ w'.cell? ⟨b', off' + i * 5 + 3, none⟩ = some (str x.data) ∧ w'.cell? ⟨b', off' + i * 5 + 4, none⟩ = some (.slice ma' x.l.length mc')) ((refine HS1.out _ ?_; first
                | with_reducible exact (Below.refl _ _).drew
                | with_reducible exact (below_seq (And.left (by assumption)) x1))) (
                (go_at_call 39; with_reducible refine Calls.mono (hah2 _) ?_; rintro e w5 ⟨rfl, x1⟩))
              have c5 : Below wr.heap.size wr w5 := And.left (by assumption)
              obtain ⟨_, sM, sL, c0, c1, c2, c3, c4, e0, e1, e2, e3, e4⟩ := HS1.out w5 c5
              have hslY := hsl.later c5
              have hslX := hsl'.later c5
              have HZ5 := Hid.mk (HZ.out.later c5)
              have HC5 := Hid.mk (HC.out.later c5)
              have HW5 := Hid.mk (HW.out.trans (c5.mono (Nat.le_of_lt HZ.out.lt)))
              clear x1 HS1 hah2 HZ HC HW HX1 HY1 c5 hWB hsl hsl'
              have HZ := HZ5
              have HC := HC5
              have HW := HW5
              clear HZ5 HC5 HW5
              have hsl := hslY
              clear hslX hslY e0 e1 e2 e3 e4 sL
              have hc := qOwn_any y w5.drew ma y.l.length mc rfl (hsl.later (Below.refl _ _).drew) hzu
              have h1 : Hid (∀ w', Below w5.heap.size w5 w' → w'.cell? ⟨go, 1, none⟩ = some (.slice oa X.length oc) ∧ w'.frozen? ⟨go, 1, none⟩ = false) := ⟨fun w' h => by
                obtain ⟨_, q1, q2⟩ := (HZ.out.later h).cells
                exact ⟨q1, q2 1⟩⟩
              obtain ⟨t0, t1, _⟩ := HZ.out.cells
              have e1x := (h1.out _ (Below.refl w5.heap.size w5).drew).1
              have HE := Hid.mk (he_of (B := w.heap.size + 4) (W4 := W4) y HZ.out hgo4.out HW.out)
              have hbo3 : Hid (w.heap.size + 4 ≤ w5.heap.size) := ⟨HC.out.le⟩
              clear hsl hzu
              go_wp2_with fail
              go_region_law (first
                | ((first | ((with_reducible (refine at_stp rfl ?_)); go_simp) | skip); go_at_call 29; with_reducible refine Calls.mono hc ?_; rintro e w1 ⟨ad, c, rfl, ow, b1⟩; have e2x := (h1.out w1 (below_seq (Below.refl _ _).drew b1)).1; have e3x := fun o => (h1.out (w1.alloc o) ((below_seq (Below.refl _ _).drew b1).alloc (below_seq (Below.refl _ _).drew b1).size o)).1)
                | ((with_reducible (refine at_sta rfl ?_)); refine step_cp (base := w.heap.size + 4) rfl _ _ rfl y rfl HC.out (below_seq (Below.refl _ _).drew b1) ow rfl rfl hlk.out rfl rfl ?_; intro v2 w2 o2 b2'; obtain ⟨ya, yc, X', HX', ey, ⟨st1, st2⟩, HF⟩ := HE.out v2 w2 o2 (Below.trans (((below_seq (Below.refl _ _).drew b1).alloc (below_seq (Below.refl _ _).drew b1).size _).mono hbo3.out) b2'); subst ey; clear o2 b2'))
              all_goals (
                clear st1 st2 hc h1 HE e1x e2x e3x t0 t1
                go_wp2_with fail
                exact ⟨⟨k + 1, X', ya, yc, hlt2, by first | (rw [hwk]; done) | go_num, ⟨by rw [HX'.out]; exact HAn.out⟩, ⟨HF.out.1.1⟩, ⟨HF.out.1.2⟩, ⟨HF.out.2⟩⟩, by first | (rw [hwk]; exact lss_meas hlt2) | (simp [intOf]; omega)⟩)
            · have HAn := Hid.mk (HA.out.left HX.out (fun z hz => by rw [HY.out] at hz; injection hz with hz; subst hz; exact hq))
              have hah2 := fun w' => (hah w')
              rw [ahB_false hq] at hah2
              have hzx := HL.out.z x (List.mem_of_getElem? HX.out)
              clear hah hq HA e0 e1 e2 e3 e4 c0 c1 c2 c3 c4 p0 p1 q0 q1 q2 hzu
              go_wp2_with fail
              go_region_held3 (fun w' => Below wr.heap.size wr w' ∧ w'.cell? ⟨w.heap.size + 1, 2, none⟩ = some (.slice (some ⟨b, off, none⟩) M.length cap') ∧ w'.cell? ⟨w.heap.size, 1, none⟩ = some (.slice (some ⟨b', off', none⟩) L.length cap) ∧ w'.cell? ⟨b, off + k * 5, none⟩ = some (str y.key) ∧ w'.cell? ⟨b, off + k * 5 + 1, none⟩ = some (.int .i64 y.seq) ∧ w'.cell? ⟨b, off + k * 5 + 2, none⟩ = some (.bool y.mkr) ∧ w'.cell? ⟨b, off + k * 5 + 3, none⟩ = some (str y.data) ∧ w'.cell? ⟨b, off + k * 5 + 4, none⟩ = some (.slice ma y.l.length mc) ∧ w'.cell? ⟨b', off' + i * 5, none⟩ = some (str x.key) ∧ w'.cell? ⟨b', off' + i * 5 + 1, none⟩ = some (.int .i64 x.seq) ∧ w'.cell? ⟨b', off' + i * 5 + 2, none⟩ = some (.bool x.mkr) ∧ w'.cell? ⟨b', off' + i * 5 + 3, none⟩ = some (str x.data) ∧ w'.cell? ⟨b', off' + i * 5 + 4, none⟩ = some (.slice ma' x.l.length mc')) ((refine HS1.out _ ?_; first
                | with_reducible exact (Below.refl _ _).drew
                | with_reducible exact (below_seq (And.left (by assumption)) x1))) (
                (go_at_call 39; with_reducible refine Calls.mono (hah2 _) ?_; rintro e w5 ⟨rfl, x1⟩))
              have c5 : Below wr.heap.size wr w5 := And.left (by assumption)
              obtain ⟨_, sM, sL, c0, c1, c2, c3, c4, e0, e1, e2, e3, e4⟩ := HS1.out w5 c5
              have hslY := hsl.later c5
              have hslX := hsl'.later c5
              have HZ5 := Hid.mk (HZ.out.later c5)
              have HC5 := Hid.mk (HC.out.later c5)
              have HW5 := Hid.mk (HW.out.trans (c5.mono (Nat.le_of_lt HZ.out.lt)))
              clear x1 HS1 hah2 HZ HC HW HX1 HY1 c5 hWB hsl hsl'
              have HZ := HZ5
              have HC := HC5
              have HW := HW5
              clear HZ5 HC5 HW5
              have hsl := hslX
              have hzu := hzx
              clear hslX hslY hzx c0 c1 c2 c3 c4 sM
              have hc := qOwn_any x w5.drew ma' x.l.length mc' rfl (hsl.later (Below.refl _ _).drew) hzu
              have h1 : Hid (∀ w', Below w5.heap.size w5 w' → w'.cell? ⟨go, 1, none⟩ = some (.slice oa X.length oc) ∧ w'.frozen? ⟨go, 1, none⟩ = false) := ⟨fun w' h => by
                obtain ⟨_, q1, q2⟩ := (HZ.out.later h).cells
                exact ⟨q1, q2 1⟩⟩
              obtain ⟨t0, t1, _⟩ := HZ.out.cells
              have e1x := (h1.out _ (Below.refl w5.heap.size w5).drew).1
              have HE := Hid.mk (he_of (B := w.heap.size + 4) (W4 := W4) x HZ.out hgo4.out HW.out)
              have hbo3 : Hid (w.heap.size + 4 ≤ w5.heap.size) := ⟨HC.out.le⟩
              clear hsl hzu
              go_wp2_with fail
              go_region_law (first
                | ((first | ((with_reducible (refine at_stp rfl ?_)); go_simp) | skip); go_at_call 29; with_reducible refine Calls.mono hc ?_; rintro e w1 ⟨ad, c, rfl, ow, b1⟩; have e2x := (h1.out w1 (below_seq (Below.refl _ _).drew b1)).1; have e3x := fun o => (h1.out (w1.alloc o) ((below_seq (Below.refl _ _).drew b1).alloc (below_seq (Below.refl _ _).drew b1).size o)).1)
                | ((with_reducible (refine at_sta rfl ?_)); refine step_cp (base := w.heap.size + 4) rfl _ _ rfl x rfl HC.out (below_seq (Below.refl _ _).drew b1) ow rfl rfl hlk.out rfl rfl ?_; intro v2 w2 o2 b2'; obtain ⟨ya, yc, X', HX', ey, ⟨st1, st2⟩, HF⟩ := HE.out v2 w2 o2 (Below.trans (((below_seq (Below.refl _ _).drew b1).alloc (below_seq (Below.refl _ _).drew b1).size _).mono hbo3.out) b2'); subst ey; clear o2 b2'))
              all_goals (
                clear st1 st2 hc h1 HE e1x e2x e3x t0 t1
                go_wp2_with fail
                exact ⟨⟨i + 1, k, X', ya, yc, hlt, hk, by first | (rw [hwi]; done) | go_num, rfl, ⟨by rw [HX'.out]; exact HAn.out⟩, ⟨HF.out.1.1⟩, ⟨HF.out.1.2⟩, ⟨HF.out.2⟩⟩, by first | (rw [hwi]; exact lss_meas hlt) | (simp [intOf]; omega)⟩)
          · obtain rfl : k = M.length := Nat.le_antisymm hk (Nat.le_of_not_lt hlt2)
            have d2 : decide ((M.length : Int) < (M.length : Int)) = false := decide_eq_false (fun q => Int.lt_irrefl _ q)
            have HAn := Hid.mk (HA.out.left HX.out (fun z hz => by rw [List.getElem?_eq_none (Nat.le_refl _)] at hz; cases hz))
            have hzx := HL.out.z x (List.mem_of_getElem? HX.out)
            clear HA
            go_wp2_with fail
            go_quiet (fail)
            have c5 := below_dN (Below.refl wr.heap.size wr) nq
            have HZ5 := Hid.mk (HZ.out.later c5)
            have HC5 := Hid.mk (HC.out.later c5)
            have HW5 := Hid.mk (HW.out.trans (c5.mono (Nat.le_of_lt HZ.out.lt)))
            have hWB5 := hWB.trans (c5.mono hWB.size)
            have HX5 := Hid.mk (HX1.out.later c5)
            clear HZ HC HW HX1 HY1 c5 hWB p0 p1 q0 q1 q2
            generalize wr.drewN nq = w5 at *
            obtain ⟨b', off', ma', mc', rfl, hbl', e0, e1, e2, e3, e4, hsl⟩ := (HL.out.s.at'.later hWB5).get i x HX.out
            obtain ⟨p0, p1, _⟩ := HX5.out.cells
            have HZ := HZ5
            have HC := HC5
            have HW := HW5
            have hzu := hzx
            clear HZ5 HC5 HW5 HX5 hWB5 hzx
            have hc := qOwn_any x w5.drew ma' x.l.length mc' rfl (hsl.later (Below.refl _ _).drew) hzu
            have h1 : Hid (∀ w', Below w5.heap.size w5 w' → w'.cell? ⟨go, 1, none⟩ = some (.slice oa X.length oc) ∧ w'.frozen? ⟨go, 1, none⟩ = false) := ⟨fun w' h => by
              obtain ⟨_, q1, q2⟩ := (HZ.out.later h).cells
              exact ⟨q1, q2 1⟩⟩
            obtain ⟨t0, t1, _⟩ := HZ.out.cells
            have e1x := (h1.out _ (Below.refl w5.heap.size w5).drew).1
            have HE := Hid.mk (he_of (B := w.heap.size + 4) (W4 := W4) x HZ.out hgo4.out HW.out)
            have hbo3 : Hid (w.heap.size + 4 ≤ w5.heap.size) := ⟨HC.out.le⟩
            clear hsl hzu
            go_wp2_with fail
            go_region_law (first
              | ((first | ((with_reducible (refine at_stp rfl ?_)); go_simp) | skip); go_at_call 29; with_reducible refine Calls.mono hc ?_; rintro e w1 ⟨ad, c, rfl, ow, b1⟩; have e2x := (h1.out w1 (below_seq (Below.refl _ _).drew b1)).1; have e3x := fun o => (h1.out (w1.alloc o) ((below_seq (Below.refl _ _).drew b1).alloc (below_seq (Below.refl _ _).drew b1).size o)).1)
              | ((with_reducible (refine at_sta rfl ?_)); refine step_cp (base := w.heap.size + 4) rfl _ _ rfl x rfl HC.out (below_seq (Below.refl _ _).drew b1) ow rfl rfl hlk.out rfl rfl ?_; intro v2 w2 o2 b2'; obtain ⟨ya, yc, X', HX', ey, ⟨st1, st2⟩, HF⟩ := HE.out v2 w2 o2 (Below.trans (((below_seq (Below.refl _ _).drew b1).alloc (below_seq (Below.refl _ _).drew b1).size _).mono hbo3.out) b2'); subst ey; clear o2 b2'))
            all_goals (
              clear st1 st2 hc h1 HE e1x e2x e3x t0 t1
              go_wp2_with fail
              exact ⟨⟨i + 1, M.length, X', ya, yc, hlt, Nat.le_refl _, by first | (rw [hwi]; done) | go_num, rfl, ⟨by rw [HX'.out]; exact HAn.out⟩, ⟨HF.out.1.1⟩, ⟨HF.out.1.2⟩, ⟨HF.out.2⟩⟩, by first | (rw [hwi]; exact lss_meas hlt) | (simp [intOf]; omega)⟩)
      · obtain rfl : i = L.length := Nat.le_antisymm hi (Nat.le_of_not_lt hlt)
        have d1 : decide ((L.length : Int) < (L.length : Int)) = false := decide_eq_false (fun q => Int.lt_irrefl _ q)
        clear hWB
        go_wp2_with fail
        clear p0 p1
        go_loopw [7] (fun vk wr => ∃ (k : Nat) (X : List Vs) (oa : Option Addr) (oc : Nat), k ≤ M.length ∧ vk = .int .i64 (k : Int) ∧ Hid (AI L M L.length k X) ∧ Hid (Bq wr go (.int .i64 mnext) (.slice oa X.length oc)) ∧ Hid (Cp (w.heap.size + 4) wr (.slice oa X.length oc) X) ∧ Hid (Below go W4 wr)) (fun vk _ => M.length - (intOf vk).toNat)
        case atStart => exact ⟨k, X, oa, oc, hk, rfl, HA, HZ, HC, HW⟩
        case round =>
          clear HA HZ HC HW hk
          obtain ⟨k, X, oa, oc, hk, rfl, HA, HZ, HC, HW⟩ := hrel
          have hWB : Below w.heap.size w wr := B4.out.trans (HW.out.mono (by rw [HG.out]; omega))
          have HY1 := Hid.mk (HY0.out.low (by rw [HG.out]; omega) HW.out)
          have hlk : Hid (X.length ≤ 1954687338260) := ⟨by rw [HA.out.n]; have := Hl.out; omega⟩
          obtain ⟨q0, q1, q2, _⟩ := HY1.out.cells
          by_cases hlt2 : k < M.length
          · have d2 : decide ((k : Int) < (M.length : Int)) = true := decide_eq_true (Int.ofNat_lt.2 hlt2)
            have kk : (k : Int) < (M.length : Int) := Int.ofNat_lt.2 hlt2
            have hwk : wrap64 ((k : Int) + 1) = ((k + 1 : Nat) : Int) := by unfold wrap64; omega
            obtain ⟨y, hy⟩ : ∃ y, M[k]? = some y := ⟨M[k], List.getElem?_eq_getElem hlt2⟩
            have HAn := Hid.mk (HA.out.rest hy)
            obtain ⟨b, off, ma, mc, rfl, hbl, c0, c1, c2, c3, c4, hsl⟩ := (HM.out.s.at'.later hWB).get k y hy
            have hzu := HM.out.z y (List.mem_of_getElem? hy)
            clear hy HA hWB
            have hc := qOwn_any y wr.drew ma y.l.length mc rfl (hsl.later (Below.refl _ _).drew) hzu
            have h1 : Hid (∀ w', Below wr.heap.size wr w' → w'.cell? ⟨go, 1, none⟩ = some (.slice oa X.length oc) ∧ w'.frozen? ⟨go, 1, none⟩ = false) := ⟨fun w' h => by
              obtain ⟨_, q1, q2⟩ := (HZ.out.later h).cells
              exact ⟨q1, q2 1⟩⟩
            obtain ⟨t0, t1, _⟩ := HZ.out.cells
            have e1x := (h1.out _ (Below.refl wr.heap.size wr).drew).1
            have HE := Hid.mk (he_of (B := w.heap.size + 4) (W4 := W4) y HZ.out hgo4.out HW.out)
            have hbo3 : Hid (w.heap.size + 4 ≤ wr.heap.size) := ⟨HC.out.le⟩
            clear hsl hzu
            go_wp2_with fail
            go_region_law (first
              | ((first | ((with_reducible (refine at_stp rfl ?_)); go_simp) | skip); go_at_call 29; with_reducible refine Calls.mono hc ?_; rintro e w1 ⟨ad, c, rfl, ow, b1⟩; have e2x := (h1.out w1 (below_seq (Below.refl _ _).drew b1)).1; have e3x := fun o => (h1.out (w1.alloc o) ((below_seq (Below.refl _ _).drew b1).alloc (below_seq (Below.refl _ _).drew b1).size o)).1)
              | ((with_reducible (refine at_sta rfl ?_)); refine step_cp (base := w.heap.size + 4) rfl _ _ rfl y rfl HC.out (below_seq (Below.refl _ _).drew b1) ow rfl rfl hlk.out rfl rfl ?_; intro v2 w2 o2 b2'; obtain ⟨ya, yc, X', HX', ey, ⟨st1, st2⟩, HF⟩ := HE.out v2 w2 o2 (Below.trans (((below_seq (Below.refl _ _).drew b1).alloc (below_seq (Below.refl _ _).drew b1).size _).mono hbo3.out) b2'); subst ey; clear o2 b2'))
            all_goals (
              clear st1 st2 hc h1 HE e1x e2x e3x t0 t1
              go_wp2_with fail
              exact ⟨⟨k + 1, X', ya, yc, hlt2, by first | (rw [hwk]; done) | go_num, ⟨by rw [HX'.out]; exact HAn.out⟩, ⟨HF.out.1.1⟩, ⟨HF.out.1.2⟩, ⟨HF.out.2⟩⟩, by first | (rw [hwk]; exact lss_meas hlt2) | (simp [intOf]; omega)⟩)
          · obtain rfl : k = M.length := Nat.le_antisymm hk (Nat.le_of_not_lt hlt2)
            have d2 : decide ((M.length : Int) < (M.length : Int)) = false := decide_eq_false (fun q => Int.lt_irrefl _ q)
            obtain rfl : X = mg L M := HA.out.done
            have HXl : Hid ((mg L M).length = L.length + M.length) := ⟨mg_len L M⟩
            have HR1 := Hid.mk (HR0.out.low (by rw [HG.out]; omega) HW.out)
            obtain ⟨ma5, mc5, em5, lm5⟩ := HC.out.li (by rw [HXl.out]; have := Hl.out; omega) (fun v hv => by rcases mg_mem.1 hv with q | q; exact HL.out.z v q; exact HM.out.z v q)
            injection em5 with em1 em2 em3
            subst em1 em3
            have hqb := qBytes_any (mg L M) mnext wr oa _ oc lm5
            have hgN : Hid (w.heap.size + 2 < w.heap.size + 4) := ⟨by omega⟩
            have HEe : Hid (eaE L M = if 256 < (mg L M).length then 75 else if 65536 < bw (mg L M) then 76 else 0) := ⟨by unfold eaE; rw [HXl.out]⟩
            have HPs : Hid (∀ w' nx v, Bq w' (w.heap.size + 2) (.int .i64 0) (.slice none 0 0) → Below w.heap.size w w' → Bq ((w'.setCell ⟨w.heap.size + 1 + 1, 0, none⟩ (.int .i64 nx)).setCell ⟨w.heap.size + 1 + 1, 1, none⟩ v) (w.heap.size + 1 + 1) (.int .i64 nx) v ∧ Below w.heap.size w ((w'.setCell ⟨w.heap.size + 1 + 1, 0, none⟩ (.int .i64 nx)).setCell ⟨w.heap.size + 1 + 1, 1, none⟩ v)) := ⟨fun w' nx v hz hb => ⟨(hz.set0 _).set1 _, bset hb (by omega) _ _⟩⟩
            have HCq := HC
            clear hlk HA HC lm5 HXl
            obtain ⟨G, hG⟩ : ∃ G, G = mg L M := ⟨_, rfl⟩
            rw [← hG] at hqb HEe HCq HZ
            have HGG := Hid.mk hG
            clear hG
            obtain ⟨t0, t1, _⟩ := HZ.out.cells
            obtain ⟨r0, r1, rf⟩ := HR1.out.cells
            have f0 := rf 0
            have f1 := rf 1
            by_cases h2 : 256 < G.length
            · have d3 : decide ((256 : Int) < (G.length : Int)) = true := decide_eq_true (by omega)
              have He2 : Hid (eaE L M = 75) := ⟨by rw [HEe.out, if_pos h2]⟩
              obtain ⟨z1, B1⟩ := HPs.out wr 0 (.slice none 0 0) HR1.out hWB
              clear h2 HEe HPs rf
              go_wp2_with fail
              generalize (wr.setCell ⟨w.heap.size + 1 + 1, 0, none⟩ (.int .i64 0)).setCell ⟨w.heap.size + 1 + 1, 1, none⟩ (.slice none 0 0) = W5 at *
              obtain ⟨g0, g1, _⟩ := z1.cells
              refine bodyPost_ret (v := .tuple #[bv 0 none 0 0, .int .i64 75]) ?_ rfl ⟨.inr (.inl ⟨rfl, by rw [He2.out]; decide, by rw [He2.out]⟩), B1⟩
              rw [results_ct rfl]
              go_simp
            · have d3 : decide ((256 : Int) < (G.length : Int)) = false := decide_eq_false (by omega)
              have HEf : Hid (eaE L M = if 65536 < bw G then 76 else 0) := ⟨by rw [HEe.out, if_neg h2]⟩
              clear h2 HEe rf r0 r1 f0 f1
              generalize bw G = T at *
              go_wp2_with fail
              clear t0 t1
              with_reducible refine Calls.mono hqb ?_
              rintro e w6 ⟨rfl, c6⟩
              dsimp only
              have HR6 := Hid.mk (HR1.out.later c6)
              have HZ6 := Hid.mk (HZ.out.later c6)
              have hWB6 := hWB.trans (c6.mono hWB.size)
              have HC6 := Hid.mk (HCq.out.later c6)
              obtain ⟨t0, t1, _⟩ := HZ6.out.cells
              obtain ⟨r0, r1, rf⟩ := HR6.out.cells
              have f0 := rf 0
              have f1 := rf 1
              clear hqb c6 rf
              by_cases h3 : 65536 < T
              · have d4 : decide ((65536 : Int) < T) = true := decide_eq_true h3
                have He2 : Hid (eaE L M = 76) := ⟨by rw [HEf.out, if_pos h3]⟩
                obtain ⟨z1, B1⟩ := HPs.out w6 0 (.slice none 0 0) HR6.out hWB6
                clear h3 HEf HPs
                go_wp2_with fail
                generalize (w6.setCell ⟨w.heap.size + 1 + 1, 0, none⟩ (.int .i64 0)).setCell ⟨w.heap.size + 1 + 1, 1, none⟩ (.slice none 0 0) = W5 at *
                obtain ⟨g0, g1, _⟩ := z1.cells
                refine bodyPost_ret (v := .tuple #[bv 0 none 0 0, .int .i64 76]) ?_ rfl ⟨.inr (.inl ⟨rfl, by rw [He2.out]; decide, by rw [He2.out]⟩), B1⟩
                rw [results_ct rfl]
                go_simp
              · have d4 : decide ((65536 : Int) < T) = false := decide_eq_false h3
                have He2 : Hid (eaE L M = 0) := ⟨by rw [HEf.out, if_neg h3]⟩
                obtain ⟨z1, B1⟩ := HPs.out w6 mnext (.slice oa G.length oc) HR6.out hWB6
                have o1 := Hid.mk (((HC6.out.low (g := w.heap.size + 1 + 1) (j := 0) (by omega) (.int .i64 mnext)).low (g := w.heap.size + 1 + 1) (j := 1) (by omega) (.slice oa G.length oc)).base (b' := w.heap.size) (by omega))
                clear h3 HEf HPs HC6
                go_wp2_with fail
                generalize (w6.setCell ⟨w.heap.size + 1 + 1, 0, none⟩ (.int .i64 mnext)).setCell ⟨w.heap.size + 1 + 1, 1, none⟩ (.slice oa G.length oc) = W5 at *
                obtain ⟨g0, g1, _⟩ := z1.cells
                refine bodyPost_ret (v := .tuple #[bv mnext oa G.length oc, .int .i64 0]) ?_ rfl ⟨.inr (.inr ⟨rfl, He2.out, _, rfl, by first | exact o1.out | (rw [← HGG.out]; exact o1.out)⟩), B1⟩
                rw [results_ct rfl]
                go_simp

  · have d1 : (since == next) = false := beq_eq_false_iff_ne.2 h1
    have HN := Hid.mk h1
    clear h1 x0 y0 z0 HB b3
    go_enter Try.func20, Try.ntmps20
    go_wp2_with fail
    refine bodyPost_ret (v := .tuple #[bv 0 none 0 0, .int .i64 91]) ?_ rfl ⟨.inl ⟨HN.out, rfl⟩, b2⟩
    rw [results_ct rfl]
    go_simp
end Go.Proofs.Ytaibbeepgelepaa
