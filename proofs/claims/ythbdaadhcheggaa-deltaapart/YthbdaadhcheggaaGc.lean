import Derived.Test.YthbdaadhcheggaaCct
import Derived.Test.YthbdaadhcheggaaGtb
import Derived.Test.YthbdaadhcheggaaRfb
/- exchanged. -/
namespace Go.Proofs.Ythbdaadhcheggaa
set_option linter.unusedVariables false
set_option linter.unusedSimpArgs false
open Go.RowKit
attribute [local go_sem ↓] Go.wp_at_zero Go.wp_at_succ
attribute [local go_sem ↓] slVe
/-- the pairs' rows of some versions: of one's own, no two of them one, within two bounds -/
structure Mt (base lo hi : Nat) (w : World) (R : List Rv) : Prop where
  met : ∀ (k : Nat) (r : Rv), R[k]? = some r → Ow base w r.mv (r.v.l ++ r.z)
  par : ∀ (j k : Nat) (r r' : Rv), ¬ j = k → R[j]? = some r → R[k]? = some r' → ∀ b, r.mv.ownBlock = some b → r'.mv.ownBlock ≠ some b
  rng : ∀ (k : Nat) (r : Rv), R[k]? = some r → ∀ b, r.mv.ownBlock = some b → lo ≤ b ∧ b < hi
theorem Fo.mt {base : Nat} {w : World} {v : Value} {R : List Rv} (h : Fo base w v R) : Mt base base w.heap.size w R := ⟨h.met, h.par, fun k r hr b hb => (h.met k r hr).own.lt b hb⟩
theorem Mt.later {base lo hi : Nat} {w w' : World} {R : List Rv} (h : Mt base lo hi w R) (hb : Below w.heap.size w w') : Mt base lo hi w' R := ⟨fun k r hr => (h.met k r hr).later hb, h.par, h.rng⟩
theorem Mt.base {b b' lo hi : Nat} {w : World} {R : List Rv} (h : Mt b lo hi w R) (hb : b' ≤ b) : Mt b' lo hi w R := ⟨fun k r hr => (h.met k r hr).base hb, h.par, h.rng⟩
theorem Mt.mono {b lo hi lo' hi' : Nat} {w : World} {R : List Rv} (h : Mt b lo hi w R) (h1 : lo' ≤ lo) (h2 : hi ≤ hi') : Mt b lo' hi' w R := ⟨h.met, h.par, fun k r hr x hx => by have := h.rng k r hr x hx; omega⟩
/-- two that lie apart, side by side -/
theorem Mt.append {base lo hi l1 h1 l2 h2 : Nat} {w : World} {X Y : List Rv} (hX : Mt base l1 h1 w X) (hY : Mt base l2 h2 w Y) (hd : h1 ≤ l2 ∨ h2 ≤ l1) (q1 : lo ≤ l1) (q2 : lo ≤ l2) (q3 : h1 ≤ hi) (q4 : h2 ≤ hi) : Mt base lo hi w (X ++ Y) := by
  have cut : ∀ (k : Nat) (r : Rv), (X ++ Y)[k]? = some r → (k < X.length ∧ X[k]? = some r) ∨ (X.length ≤ k ∧ Y[k - X.length]? = some r) := fun k r hr => by
    by_cases hk : k < X.length
    · rw [List.getElem?_append_left hk] at hr; exact .inl ⟨hk, hr⟩
    · rw [List.getElem?_append_right (by omega)] at hr; exact .inr ⟨by omega, hr⟩
  refine ⟨fun k r hr => ?_, fun j k r r' hjk hj hk b hb hb' => ?_, fun k r hr b hb => ?_⟩
  · rcases cut k r hr with ⟨_, q⟩ | ⟨_, q⟩
    · exact hX.met _ _ q
    · exact hY.met _ _ q
  · rcases cut j r hj with ⟨n1, q⟩ | ⟨n1, q⟩ <;> rcases cut k r' hk with ⟨n2, q'⟩ | ⟨n2, q'⟩
    · exact hX.par j k r r' hjk q q' b hb hb'
    · have := hX.rng _ _ q b hb; have := hY.rng _ _ q' b hb'; omega
    · have := hY.rng _ _ q b hb; have := hX.rng _ _ q' b hb'; omega
    · exact hY.par _ _ r r' (by omega) q q' b hb hb'
  · rcases cut k r hr with ⟨_, q⟩ | ⟨_, q⟩
    · have := hX.rng _ _ q b hb; omega
    · have := hY.rng _ _ q b hb; omega
theorem Ro.fo {base b2 lo hi : Nat} {w : World} {v : Value} {R : List Rv} (h : Ro base w v R) (hb : b2 ≤ base) (hm : Mt b2 lo hi w R) : Fo b2 w v R :=
  ⟨⟨h.own.1, by
    rcases h.own.2 with e | ⟨g, cap, cur, e1, e2, e3⟩
    · exact Or.inl e
    · exact Or.inr ⟨g, cap, cur, e1, Nat.le_trans hb e2, e3⟩⟩, Nat.le_trans hb h.le, hm.met, hm.par⟩
end Go.Proofs.Ythbdaadhcheggaa

/- DeleteVersion. -/
namespace Go.Proofs.Ythbdaadhcheggaa
set_option linter.unusedVariables false
set_option linter.unusedSimpArgs false
open Go.RowKit
attribute [local go_sem ↓] Go.wp_at_zero Go.wp_at_succ
attribute [local go_sem ↓] slVe
/-- a bucket of one's own is answered, and a number -/
def RB (w w' : World) (e : Ending) (next : Int) (X : List Vs) (c : Int) : Prop := ∃ v, e = .returned (.tuple #[.agg #[.int .i64 next, v], .int .i64 c]) ∧ Cp w.heap.size w' v X ∧ Below w.heap.size w w'
theorem rb_zero {w W : World} {c : Int} (hB : Below w.heap.size w W) : RB w W (.returned (.tuple #[bv 0 none 0 0, .int .i64 c])) 0 [] c := ⟨_, rfl, Cp.nil _ _ hB.size, hB⟩
theorem geE_or (L : List Vs) (s : Int) : geE L s = 0 ∨ geE L s = 72 := by unfold geE; split <;> simp
theorem gpL_len (L : List Vs) (i : Nat) (k : List UInt8) : (gpL L i k).length = ken (L.drop i) k := by
  unfold gpL
  rw [List.length_take]
  have := ken_le (L.drop i) k
  omega
theorem rmL_len (L : List Vs) (s : Int) : (rmL L s).length ≤ L.length := by
  unfold rmL
  split
  · simp
  · rw [List.length_append, List.length_take, List.length_drop]; omega
end Go.Proofs.Ythbdaadhcheggaa

/- added. -/
namespace Go.Proofs.Ythbdaadhcheggaa
set_option linter.unusedVariables false
set_option linter.unusedSimpArgs false
open Go.RowKit
attribute [local go_sem ↓] Go.wp_at_zero Go.wp_at_succ
attribute [local go_sem ↓] slVe
/-- a bucket of one's own is answered, and two numbers -/
def RC (w w' : World) (e : Ending) (next : Int) (X : List Vs) (s c : Int) : Prop := ∃ v, e = .returned (.tuple #[.agg #[.int .i64 next, v], .int .i64 s, .int .i64 c]) ∧ Cp w.heap.size w' v X ∧ Below w.heap.size w w'
theorem rc_zero {w W : World} {s c : Int} (hB : Below w.heap.size w W) : RC w W (.returned (.tuple #[bv 0 none 0 0, .int .i64 s, .int .i64 c])) 0 [] s c := ⟨_, rfl, Cp.nil _ _ hB.size, hB⟩
theorem results_ctt {fn : Func} {p t u : Tmp} {ty : TypeId} (h : fn.results = #[.cell p ty, .tmp t, .tmp u]) (tmps : Array Value) (P : Program) (w : World) :
    (results fn tmps).run P w = ((asAddr (tmps.getD p undef)).run P w).andThen fun a w₁ => ((loadVar ty a).run P w₁).andThen fun v w₂ => .ok (.tuple #[v, tmps.getD t undef, tmps.getD u undef]) w₂ := by
  simp only [results, h]
  simp [Sem.run_bind, Result.andThen]
theorem box3 (w : World) (x y : Value) (a b c d e : Value) : ∀ w', Below (w.heap.size + 3) (((w.alloc (.cells #[x, y] 24)).alloc (.cells #[a, b, c, d, e] 41)).alloc (.cells #[.int .i64 0, .slice none 0 0] 24)) w' → Bq w' w.heap.size x y ∧ Bv w' (w.heap.size + 1) a b c d e ∧ Bq w' (w.heap.size + 2) (.int .i64 0) (.slice none 0 0) := fun w' h => by
  obtain ⟨h1, h2⟩ := boxBW w x y a b c d e _ (((Below.refl (w.heap.size + 2) ((w.alloc (.cells #[x, y] 24)).alloc (.cells #[a, b, c, d, e] 41))).alloc (by simp) (.cells #[.int .i64 0, .slice none 0 0] 24)))
  refine ⟨h1.low (by omega) h, ?_, ?_⟩
  · have := h.block (w.heap.size + 1) (by omega)
    unfold Bv at h2 ⊢
    rw [this]; exact h2
  · refine Bq.low (w := ((w.alloc (.cells #[x, y] 24)).alloc (.cells #[a, b, c, d, e] 41)).alloc (.cells #[.int .i64 0, .slice none 0 0] 24)) ?_ (by omega) h
    have := heap_alloc_new ((w.alloc (.cells #[x, y] 24)).alloc (.cells #[a, b, c, d, e] 41)) (.cells #[.int .i64 0, .slice none 0 0] 24)
    rw [World.size_alloc, World.size_alloc] at this
    exact this
theorem puL_len (L : List Vs) (v : Vs) : (puL L v).length ≤ L.length + 1 := by
  unfold puL
  split <;> simp
theorem rfE_zero {next : Int} {L : List Vs} {v : Vs} (h : rfE next L v = 0) : vrV v = 0 ∧ next ≤ 1099511627776 ∧ L.length < 256 ∧ wrap64 (bw L + szV v) ≤ 65536 := by
  by_cases h1 : vrV v = 0
  · by_cases h2 : 1099511627776 < next
    · rw [rfE_2 h1 h2] at h; omega
    · by_cases h3 : 256 ≤ L.length
      · rw [rfE_3 h1 h2 h3] at h; omega
      · by_cases h4 : 65536 < wrap64 (bw L + szV v)
        · rw [rfE_4 h1 h2 h3 h4] at h; omega
        · exact ⟨h1, by omega, by omega, by omega⟩
  · rw [rfE_1 rfl h1] at h
    exact absurd h h1
end Go.Proofs.Ythbdaadhcheggaa

/- Put and Delete. -/
namespace Go.Proofs.Ythbdaadhcheggaa
set_option linter.unusedVariables false
set_option linter.unusedSimpArgs false
open Go.RowKit
attribute [local go_sem ↓] Go.wp_at_zero Go.wp_at_succ
/-- what is answered where a version is added -/
def AdP (w w' : World) (e : Ending) (next : Int) (L : List Vs) (i : Nat) (v : Vs) : Prop := (¬ rfE next L v = 0 ∧ RC w w' e 0 [] 0 (rfE next L v)) ∨ (rfE next L v = 0 ∧ ¬ puE (gpL L i v.key) v = 0 ∧ RC w w' e 0 [] 0 (puE (gpL L i v.key) v)) ∨ (rfE next L v = 0 ∧ puE (gpL L i v.key) v = 0 ∧ RC w w' e (wrap64 (next + 1)) (L.take i ++ puL (gpL L i v.key) v ++ L.drop (i + ken (L.drop i) v.key)) v.seq 0)
/-- there is one answer, in one of three ways -/
theorem AdP.out {w w' : World} {e : Ending} {next : Int} {L : List Vs} {i : Nat} {v : Vs} (h : AdP w w' e next L i v) : ∃ n1 X s c, RC w w' e n1 X s c ∧ ∀ W W' E, RC W W' E n1 X s c → AdP W W' E next L i v := by
  rcases h with ⟨h1, h2⟩ | ⟨h1, h2, h3⟩ | ⟨h1, h2, h3⟩
  · exact ⟨_, _, _, _, h2, fun _ _ _ q => .inl ⟨h1, q⟩⟩
  · exact ⟨_, _, _, _, h3, fun _ _ _ q => .inr (.inl ⟨h1, h2, q⟩)⟩
  · exact ⟨_, _, _, _, h3, fun _ _ _ q => .inr (.inr ⟨h1, h2, q⟩)⟩
end Go.Proofs.Ythbdaadhcheggaa
