/- exchanged. -/
import Derived.Test.YtnnhkpnjmfoenaaCct
namespace Go.Proofs.Ytnnhkpnjmfoenaa
set_option linter.unusedVariables false
set_option linter.unusedSimpArgs false
open Go.RowKit
attribute [local go_sem ↓] Go.wp_at_zero Go.wp_at_succ
attribute [local go_sem ↓] slVe
/-- the pairs' rows of some versions: of one's own, no two of them one, within two bounds -/
structure Mt (base lo hi : Nat) (w : World) (R : List Rv) : Prop where
  met : ∀ (k : Nat) (r : Rv), R[k]? = some r → Ow base w r.mv (r.v.l ++ r.z)
  par : ∀ (j k : Nat) (r r' : Rv), ¬ j = k → R[j]? = some r → R[k]? = some r' → ∀ b, r.mv.ownBlock = some b → r'.mv.ownBlock ≠ some b
  rng : ∀ (k : Nat) (r : Rv), R[k]? = some r → ∀ b, r.mv.ownBlock = some b → lo ≤ b ∧ b < hi
theorem Fo.mt {base : Nat} {w : World} {v : Value} {R : List Rv} (h : Fo base w v R) : Mt base base w.heap.size w R := ⟨h.met, h.par, fun k r hr b hb => (h.met k r hr).own.lt b hb⟩
theorem Mt.later {base lo hi : Nat} {w w' : World} {R : List Rv} (h : Mt base lo hi w R) (hb : Below w.heap.size w w') : Mt base lo hi w' R := ⟨fun k r hr => (h.met k r hr).later hb, h.par, h.rng⟩
theorem Mt.base {b b' lo hi : Nat} {w : World} {R : List Rv} (h : Mt b lo hi w R) (hb : b' ≤ b) : Mt b' lo hi w R := ⟨fun k r hr => (h.met k r hr).base hb, h.par, h.rng⟩
theorem Mt.mono {b lo hi lo' hi' : Nat} {w : World} {R : List Rv} (h : Mt b lo hi w R) (h1 : lo' ≤ lo) (h2 : hi ≤ hi') : Mt b lo' hi' w R := ⟨h.met, h.par, fun k r hr x hx => by have := h.rng k r hr x hx; omega⟩
/-- two that lie apart, side by side -/
theorem Mt.append {base lo hi l1 h1 l2 h2 : Nat} {w : World} {X Y : List Rv} (hX : Mt base l1 h1 w X) (hY : Mt base l2 h2 w Y) (hd : h1 ≤ l2 ∨ h2 ≤ l1) (q1 : lo ≤ l1) (q2 : lo ≤ l2) (q3 : h1 ≤ hi) (q4 : h2 ≤ hi) : Mt base lo hi w (X ++ Y) := by
  have cut : ∀ (k : Nat) (r : Rv), (X ++ Y)[k]? = some r → (k < X.length ∧ X[k]? = some r) ∨ (X.length ≤ k ∧ Y[k - X.length]? = some r) := fun k r hr => by
    by_cases hk : k < X.length
    · rw [List.getElem?_append_left hk] at hr; exact .inl ⟨hk, hr⟩
    · rw [List.getElem?_append_right (by omega)] at hr; exact .inr ⟨by omega, hr⟩
  refine ⟨fun k r hr => ?_, fun j k r r' hjk hj hk b hb hb' => ?_, fun k r hr b hb => ?_⟩
  · rcases cut k r hr with ⟨_, q⟩ | ⟨_, q⟩
    · exact hX.met _ _ q
    · exact hY.met _ _ q
  · rcases cut j r hj with ⟨n1, q⟩ | ⟨n1, q⟩ <;> rcases cut k r' hk with ⟨n2, q'⟩ | ⟨n2, q'⟩
    · exact hX.par j k r r' hjk q q' b hb hb'
    · have := hX.rng _ _ q b hb; have := hY.rng _ _ q' b hb'; omega
    · have := hY.rng _ _ q b hb; have := hX.rng _ _ q' b hb'; omega
    · exact hY.par _ _ r r' (by omega) q q' b hb hb'
  · rcases cut k r hr with ⟨_, q⟩ | ⟨_, q⟩
    · have := hX.rng _ _ q b hb; omega
    · have := hY.rng _ _ q b hb; omega
theorem Ro.fo {base b2 lo hi : Nat} {w : World} {v : Value} {R : List Rv} (h : Ro base w v R) (hb : b2 ≤ base) (hm : Mt b2 lo hi w R) : Fo b2 w v R :=
  ⟨⟨h.own.1, by
    rcases h.own.2 with e | ⟨g, cap, cur, e1, e2, e3⟩
    · exact Or.inl e
    · exact Or.inr ⟨g, cap, cur, e1, Nat.le_trans hb e2, e3⟩⟩, Nat.le_trans hb h.le, hm.met, hm.par⟩
set_option maxRecDepth 100000 in
set_option maxHeartbeats 4000000 in
theorem exchanged_any (L : List Vs) (i j : Nat) (hij : i ≤ j) (hj : j ≤ L.length) (O : List Vs) (w : World) (a : Option Addr) (n cap base : Nat) (ov : Value) (hL : Li w L a n cap) (hO : Cp base w ov O) (hs : i + O.length + (L.length - j) ≤ 1954687338260) :
    Calls Try.prog 33 #[.slice a n cap, .int .i64 (i : Int), .int .i64 (j : Int), ov] w fun e w' => ∃ v, e = .returned v ∧ Cp base w' v (L.take i ++ O ++ L.drop j) ∧ Below w.heap.size w w' := by
  obtain rfl := hL.n
  obtain ⟨oa, oc, rfl, _⟩ := hO.ls
  have hl := hL.l
  have hle := hL.s.le
  have hmax := hL.s.max
  have r1 := fun w => run_slV a L.length cap i (by omega) hmax hL.s.nil w
  have r2 := fun w => run_slV_lo a L.length cap j hj hle hmax hL.s.nil w
  have hc1 := fun w' (hb : Below w.heap.size w w') => bcopies_any (L.take i) w' a i cap (by rw [List.length_take]; omega) ((hL.s.later hb).take i) (by rw [List.length_take]; omega) (fun v hv => hL.z v (List.mem_of_mem_take hv))
  have hc2 := fun w' (hb : Below w.heap.size w w') => bcopies_any (L.drop j) w' (dropV a cap j) (L.length - j) (cap - j) (by rw [List.length_drop]) ((hL.s.later hb).drop j hj) (by rw [List.length_drop]; omega) (fun v hv => hL.z v (List.mem_of_mem_drop hv))
  have HS : Hid (∀ w', Below w.heap.size w w' → Below w.heap.size w w' ∧ True) := ⟨fun w' h => ⟨h, trivial⟩⟩
  have HC : Hid (∀ (r1 r2 : Value) (w1 w2 : World), Below w.heap.size w w1 → Cp w.heap.size w1 r1 (L.take i) → Cp w1.heap.size w2 r2 (L.drop j) → Below w1.heap.size w1 w2 → Calls Try.prog 54 #[.slice (some ⟨w2.heap.size, 0, none⟩) 3 3] (w2.alloc (.cells #[r1, .slice oa O.length oc, r2] 24)) fun e w' => ∃ v, e = .returned v ∧ Cp base w' v (L.take i ++ O ++ L.drop j) ∧ Below w2.heap.size w2 w') := ⟨fun r1 r2 w1 w2 b1 c1 c2 b2 => by
    obtain ⟨X, x1, x2, x3⟩ := c1
    obtain ⟨Y, y1, y2, y3⟩ := hO
    obtain ⟨Z, z1, z2, z3⟩ := c2
    have bal := (Below.refl w2.heap.size w2).alloc (Nat.le_refl _) (.cells #[r1, .slice oa O.length oc, r2] 24)
    have s1 := b1.size
    have s2 := b2.size
    have hX : X.length = (L.take i).length := by rw [← x2, List.length_map]
    have hY : Y.length = O.length := by rw [← y2, List.length_map]
    have hZ : Z.length = (L.drop j).length := by rw [← z2, List.length_map]
    rw [List.length_take] at hX
    rw [List.length_drop] at hZ
    have hk := concat_any X Y Z (w2.alloc (.cells #[r1, .slice oa O.length oc, r2] 24)) w2.heap.size _ _ _ r1 (.slice oa O.length oc) r2 (heap_alloc_new _ _) ((x1.ro.later b2).later bal) (((y1.ro.later b1).later b2).later bal) (z1.ro.later bal) (by omega)
    refine Calls.mono hk ?_
    rintro e w' ⟨v, rfl, k, b⟩
    have b' := below_seq bal b
    refine ⟨v, rfl, ⟨X ++ Y ++ Z, ?_, by rw [List.map_append, List.map_append, x2, y2, z2], ?_⟩, b'⟩
    · have mX := ((x1.mt.later b2).later b').base y1.le
      have mY := ((y1.mt.later b1).later b2).later b'
      have mZ := (z1.mt.later b').base (Nat.le_trans y1.le s1)
      have mXY := mX.append (lo := base) (hi := w1.heap.size) mY (.inr (Nat.le_refl _)) y1.le (Nat.le_refl _) (Nat.le_refl _) s1
      exact k.fo (by simp; have := y1.le; omega) (mXY.append (lo := base) (hi := w2.heap.size) mZ (.inl (Nat.le_refl _)) (Nat.le_refl _) (Nat.le_trans y1.le s1) s2 (Nat.le_refl _))
    · intro r hr
      rcases List.mem_append.1 hr with q | q
      · rcases List.mem_append.1 q with q | q
        · exact x3 r q
        · exact y3 r q
      · exact z3 r q⟩
  clear hL hO
  generalize L.take i = A at *
  generalize L.drop j = D at *
  go_enter Try.func33, Try.ntmps33
  go_wp2_with fail
  go_region_held3 (fun w' => Below w.heap.size w w' ∧ True) (first
    | exact HS.out _ (Below.refl _ _).drew
    | exact HS.out _ (below_seq (And.left (by assumption)) b1)
    | exact HS.out _ (below_seq (And.left (by assumption)) b2)
    | exact HS.out _ (Below.alloc (And.left (by assumption)) (Below.size (w := w) (And.left (by assumption))) _)
    | exact HS.out _ (below_seq (below_seq (below_seq (Below.refl w.heap.size w).drew b1) b2) b3)) (first
    | (go_at_call 55; with_reducible refine Calls.mono (hc1 _ (And.left (by assumption))) ?_; rintro e w1 ⟨r1, rfl, c1, b1⟩; obtain ⟨a1, k1, rfl, _⟩ := c1.ls)
    | (go_at_call 55; with_reducible refine Calls.mono (hc2 _ (And.left (by assumption))) ?_; rintro e w2 ⟨r2, rfl, c2, b2⟩; obtain ⟨a2, k2, rfl, _⟩ := c2.ls)
    | (go_at_call 54; refine Calls.mono (HC.out _ _ w1 w2 (below_seq (Below.refl w.heap.size w).drew b1) c1 c2 b2) ?_; rintro e w3 ⟨v3, rfl, k3, b3⟩))
  have hbw : Below w.heap.size w w3 := And.left (by assumption)
  go_wp2_with fail
  go_ret
  exact ⟨_, rfl, k3, hbw⟩
end Go.Proofs.Ytnnhkpnjmfoenaa
