import Derived.Test.YtgcdnanfnbdjjaaGreatGd
import Derived.Test.YtgcdnanfnbdjjaaGreatGc
/- added. -/
namespace Go.Proofs.YtgcdnanfnbdjjaaGreat
set_option linter.unusedVariables false
set_option linter.unusedSimpArgs false
open Go.RowKit
attribute [local go_sem ↓] Go.wp_at_zero Go.wp_at_succ
attribute [local go_sem ↓] slVe
/-- a bucket of one's own is answered, and two numbers -/
def RC (w w' : World) (e : Ending) (next : Int) (X : List Vs) (s c : Int) : Prop := ∃ v, e = .returned (.tuple #[.agg #[.int .i64 next, v], .int .i64 s, .int .i64 c]) ∧ Cp w.heap.size w' v X ∧ Below w.heap.size w w'
theorem rc_zero {w W : World} {s c : Int} (hB : Below w.heap.size w W) : RC w W (.returned (.tuple #[bv 0 none 0 0, .int .i64 s, .int .i64 c])) 0 [] s c := ⟨_, rfl, Cp.nil _ _ hB.size, hB⟩
theorem results_ctt {fn : Func} {p t u : Tmp} {ty : TypeId} (h : fn.results = #[.cell p ty, .tmp t, .tmp u]) (tmps : Array Value) (P : Program) (w : World) :
    (results fn tmps).run P w = ((asAddr (tmps.getD p undef)).run P w).andThen fun a w₁ => ((loadVar ty a).run P w₁).andThen fun v w₂ => .ok (.tuple #[v, tmps.getD t undef, tmps.getD u undef]) w₂ := by
  simp only [results, h]
  simp [Sem.run_bind, Result.andThen]
theorem box3 (w : World) (x y : Value) (a b c d e : Value) : ∀ w', Below (w.heap.size + 3) (((w.alloc (.cells #[x, y] 24)).alloc (.cells #[a, b, c, d, e] 39)).alloc (.cells #[.int .i64 0, .slice none 0 0] 24)) w' → Bq w' w.heap.size x y ∧ Bv w' (w.heap.size + 1) a b c d e ∧ Bq w' (w.heap.size + 2) (.int .i64 0) (.slice none 0 0) := fun w' h => by
  obtain ⟨h1, h2⟩ := boxBW w x y a b c d e _ (((Below.refl (w.heap.size + 2) ((w.alloc (.cells #[x, y] 24)).alloc (.cells #[a, b, c, d, e] 39))).alloc (by simp) (.cells #[.int .i64 0, .slice none 0 0] 24)))
  refine ⟨h1.low (by omega) h, ?_, ?_⟩
  · have := h.block (w.heap.size + 1) (by omega)
    unfold Bv at h2 ⊢
    rw [this]; exact h2
  · refine Bq.low (w := ((w.alloc (.cells #[x, y] 24)).alloc (.cells #[a, b, c, d, e] 39)).alloc (.cells #[.int .i64 0, .slice none 0 0] 24)) ?_ (by omega) h
    have := heap_alloc_new ((w.alloc (.cells #[x, y] 24)).alloc (.cells #[a, b, c, d, e] 39)) (.cells #[.int .i64 0, .slice none 0 0] 24)
    rw [World.size_alloc, World.size_alloc] at this
    exact this
theorem puL_len (L : List Vs) (v : Vs) : (puL L v).length ≤ L.length + 1 := by
  unfold puL
  split <;> simp
theorem rfE_zero {next : Int} {L : List Vs} {v : Vs} (h : rfE next L v = 0) : vrV v = 0 ∧ next ≤ 1099511627776 ∧ L.length < 256 ∧ wrap64 (bw L + szV v) ≤ 65536 := by
  by_cases h1 : vrV v = 0
  · by_cases h2 : 1099511627776 < next
    · rw [rfE_2 h1 h2] at h; omega
    · by_cases h3 : 256 ≤ L.length
      · rw [rfE_3 h1 h2 h3] at h; omega
      · by_cases h4 : 65536 < wrap64 (bw L + szV v)
        · rw [rfE_4 h1 h2 h3 h4] at h; omega
        · exact ⟨h1, by omega, by omega, by omega⟩
  · rw [rfE_1 rfl h1] at h
    exact absurd h h1
set_option maxRecDepth 100000 in
set_option maxHeartbeats 8000000 in
theorem added_any (L : List Vs) (next : Int) (v : Vs) (w : World) (a : Option Addr) (n cap : Nat) (va : Option Addr) (vn vc : Nat) (hL : Li w L a n cap) (hV : Vi w v va vn vc) :
    Calls Tryz.prog 46 #[bv next a n cap, vv v.key v.seq v.mkr v.data va vn vc] w fun e w' => ∃ i : Nat, i ≤ L.length ∧ (SrtV L → i = fndV L v.key) ∧ ((¬ rfE next L v = 0 ∧ RC w w' e 0 [] 0 (rfE next L v)) ∨ (rfE next L v = 0 ∧ ¬ puE (gpL L i v.key) v = 0 ∧ RC w w' e 0 [] 0 (puE (gpL L i v.key) v)) ∨ (rfE next L v = 0 ∧ puE (gpL L i v.key) v = 0 ∧ RC w w' e (wrap64 (next + 1)) (L.take i ++ puL (gpL L i v.key) v ++ L.drop (i + ken (L.drop i) v.key)) v.seq 0)) := by
  obtain rfl := hL.n
  obtain rfl := hV.n
  have b0 := (Below.refl w.heap.size w).alloc (Nat.le_refl _) (.cells #[.int .i64 next, .slice a L.length cap] 24)
  have b1 := b0.alloc b0.size (.cells #[str v.key, .int .i64 v.seq, .bool v.mkr, str v.data, .slice va v.l.length vc] 39)
  have b2 := b1.alloc b1.size (.cells #[.int .i64 0, .slice none 0 0] 24)
  have HB := Hid.mk (box3 w (.int .i64 next) (.slice a L.length cap) (str v.key) (.int .i64 v.seq) (.bool v.mkr) (str v.data) (.slice va v.l.length vc))
  have hrf := refused_any L next v _ a _ cap va _ vc (hL.later b2) (hV.later b2)
  have HL := Hid.mk hL
  have HV := Hid.mk hV
  have hle := hL.s.le
  have hmax := hL.s.max
  have hnil := hL.s.nil
  clear hL hV b0 b1
  go_enter Tryz.func46, Tryz.ntmps46
  go_wp2_with fail
  with_reducible refine Calls.mono hrf ?_
  rintro e w1 ⟨rfl, c1⟩
  dsimp only
  have b3 := b2.trans (c1.mono b2.size)
  have bb : Below (w.heap.size + 3) (((w.alloc (.cells #[.int .i64 next, .slice a L.length cap] 24)).alloc (.cells #[str v.key, .int .i64 v.seq, .bool v.mkr, str v.data, .slice va v.l.length vc] 39)).alloc (.cells #[.int .i64 0, .slice none 0 0] 24)) w1 := by simpa using c1
  have hss : w.heap.size + 3 ≤ w1.heap.size := by have := bb.size; simp at this; omega
  obtain ⟨x0, y0, r0⟩ := HB.out w1 bb
  clear hrf c1 b2
  generalize (((w.alloc (.cells #[.int .i64 next, .slice a L.length cap] 24)).alloc (.cells #[str v.key, .int .i64 v.seq, .bool v.mkr, str v.data, .slice va v.l.length vc] 39)).alloc (.cells #[.int .i64 0, .slice none 0 0] 24)) = W2 at *
  by_cases hv0 : rfE next L v = 0
  · rw [hv0]
    have HR := Hid.mk hv0
    clear hv0 HB bb
    have hp := places_any L v.key w1 a _ cap (HL.out.later b3)
    obtain ⟨p0, p1, _⟩ := x0.cells
    obtain ⟨t0, t1, t2, t3, t4, _⟩ := y0.cells
    go_wp2_with fail
    with_reducible refine Calls.mono hp ?_
    rintro e w2 ⟨⟨i, rfl, hi, hs⟩, c2⟩
    obtain ⟨J, hJ⟩ : ∃ J : Nat, J = i + ken (L.drop i) v.key := ⟨_, rfl⟩
    rw [← hJ]
    dsimp only
    have HS := Hid.mk hs
    have HJ := Hid.mk hJ
    have b4 := b3.trans (c2.mono b3.size)
    have hLg := (HL.out.later b4).gp (i := i) hi v.key
    have hkd := ken_drop hi v.key
    have r1 := fun w => run_slV_mid a L.length cap i J (by omega) (by omega) hle hmax hnil w
    rw [show J - i = ken (L.drop i) v.key by omega] at r1
    have ht := push_any (gpL L i v.key) v w2.drew _ _ _ va _ vc (hLg.later (Below.refl _ _).drew) ((HV.out.later b4).later (Below.refl _ _).drew)
    have x2 := x0.later c2
    have y2 := y0.later c2
    have r2 := r0.later c2
    have hs2 : w.heap.size + 3 ≤ w2.heap.size := Nat.le_trans hss c2.size
    clear p0 p1 t0 t1 t2 t3 t4 x0 y0 r0 hp hs c2 hLg hkd hle hmax hnil hJ hss
    have HS1 : Hid (∀ w', Below w2.heap.size w2 w' → Below w2.heap.size w2 w' ∧ w'.cell? ⟨w.heap.size, 1, none⟩ = some (.slice a L.length cap) ∧ w'.cell? ⟨w.heap.size + 1, 0, none⟩ = some (str v.key) ∧ w'.cell? ⟨w.heap.size + 1, 1, none⟩ = some (.int .i64 v.seq) ∧ w'.cell? ⟨w.heap.size + 1, 2, none⟩ = some (.bool v.mkr) ∧ w'.cell? ⟨w.heap.size + 1, 3, none⟩ = some (str v.data) ∧ w'.cell? ⟨w.heap.size + 1, 4, none⟩ = some (.slice va v.l.length vc)) := ⟨fun w' h => by
      obtain ⟨_, g1, _⟩ := (x2.later h).cells
      obtain ⟨t0, t1, t2, t3, t4, _⟩ := (y2.later h).cells
      exact ⟨h, g1, t0, t1, t2, t3, t4⟩⟩
    generalize hK : ken (L.drop i) v.key = K at *
    go_wp2_with fail
    go_region_held3 (fun w' => Below w2.heap.size w2 w' ∧ w'.cell? ⟨w.heap.size, 1, none⟩ = some (.slice a L.length cap) ∧ w'.cell? ⟨w.heap.size + 1, 0, none⟩ = some (str v.key) ∧ w'.cell? ⟨w.heap.size + 1, 1, none⟩ = some (.int .i64 v.seq) ∧ w'.cell? ⟨w.heap.size + 1, 2, none⟩ = some (.bool v.mkr) ∧ w'.cell? ⟨w.heap.size + 1, 3, none⟩ = some (str v.data) ∧ w'.cell? ⟨w.heap.size + 1, 4, none⟩ = some (.slice va v.l.length vc)) (first
      | exact HS1.out _ (Below.refl _ _).drew
      | exact HS1.out _ (below_seq (Below.refl _ _).drew c3')) (first
      | (go_at_call 73; with_reducible refine Calls.mono ht ?_; rintro e w3 ⟨rv, rfl, kr, c3'⟩; obtain ⟨ra, rc, rfl, _⟩ := kr.ls))
    have c3 : Below w2.heap.size w2 w3 := And.left (by assumption)
    have kr' : Cp w2.heap.size w3 (.slice ra (puL (gpL L i v.key) v).length rc) (puL (gpL L i v.key) v) := kr
    clear kr c3'
    rename_i _hh
    have kr := kr'
    clear kr'
    have b5 := b4.trans (c3.mono b4.size)
    have x3 := x2.later c3
    have y3 := y2.later c3
    have r3 := r2.later c3
    have hs3 : w.heap.size + 3 ≤ w3.heap.size := Nat.le_trans hs2 c3.size
    clear x2 y2 r2 ht r1 HS1
    by_cases hg : puE (gpL L i v.key) v = 0
    · rw [hg]
      have HG := Hid.mk hg
      have hsum : i + (puL (gpL L i v.key) v).length + (L.length - J) ≤ 1954687338260 := by
        have h1 := puL_len (gpL L i v.key) v
        rw [gpL_len, hK] at h1
        have h2 := (rfE_zero HR.out).2.2.1
        have h3 := ken_drop hi v.key
        have h4 := HJ.out
        rw [hK] at h3
        omega
      have hx := exchanged_any L i J (by have := HJ.out; omega) (by have := HJ.out; have := ken_drop hi v.key; rw [hK] at this; omega) (puL (gpL L i v.key) v) w3.drew a _ cap w2.heap.size _ ((HL.out.later b5).later (Below.refl _ _).drew) (kr.later (Below.refl _ _).drew) hsum
      have HS2 : Hid (∀ w', Below (w.heap.size + 2) w3 w' → Below (w.heap.size + 2) w3 w' ∧ w'.cell? ⟨w.heap.size, 0, none⟩ = some (.int .i64 next) ∧ w'.cell? ⟨w.heap.size, 1, none⟩ = some (.slice a L.length cap) ∧ w'.cell? ⟨w.heap.size + 1, 1, none⟩ = some (.int .i64 v.seq)) := ⟨fun w' hb => by
        obtain ⟨g0, g1, _⟩ := (x3.low (by omega) hb).cells
        have y4 : Bv w' (w.heap.size + 1) (str v.key) (.int .i64 v.seq) (.bool v.mkr) (str v.data) (.slice va v.l.length vc) := by
          have := hb.block (w.heap.size + 1) (by omega)
          unfold Bv at y3 ⊢
          rw [this]; exact y3
        obtain ⟨_, t1, _⟩ := y4.cells
        exact ⟨hb, g0, g1, t1⟩⟩
      have HC3 : Hid (∀ w4, Below w3.drew.heap.size w3.drew w4 → Below (w.heap.size + 2) w3 w4) := ⟨fun w4 h => ((Below.refl _ _).drew).trans (h.mono (by show w.heap.size + 2 ≤ w3.heap.size; omega))⟩
      have HY := Hid.mk r3
      have HF : Hid (∀ w4 v4 X N1, Cp w2.heap.size w4 v4 X → Below w3.drew.heap.size w3.drew w4 → Cp w.heap.size ((w4.setCell ⟨w.heap.size + 2, 0, none⟩ (.int .i64 N1)).setCell ⟨w.heap.size + 2, 1, none⟩ v4) v4 X ∧ Below w.heap.size w ((w4.setCell ⟨w.heap.size + 2, 0, none⟩ (.int .i64 N1)).setCell ⟨w.heap.size + 2, 1, none⟩ v4) ∧ Bq ((w4.setCell ⟨w.heap.size + 2, 0, none⟩ (.int .i64 N1)).setCell ⟨w.heap.size + 2, 1, none⟩ v4) (w.heap.size + 2) (.int .i64 N1) v4) := ⟨fun w4 v4 X N1 hc hb => by
        have hb2 : Below w3.heap.size w3 w4 := below_seq (Below.refl _ _).drew hb
        exact ⟨((hc.low (by omega) _).low (by omega) _).base (by omega), ((b5.trans (hb2.mono b5.size)).setCell (p := ⟨w.heap.size + 2, 0, none⟩) (by show _ ≤ w.heap.size + 2; omega) _).setCell (p := ⟨w.heap.size + 2, 1, none⟩) (by show _ ≤ w.heap.size + 2; omega) _, ((HY.out.later hb2).set0 _).set1 _⟩⟩
      generalize hX : L.take i ++ puL (gpL L i v.key) v ++ L.drop J = X at hx
      have HX := Hid.mk hX
      obtain ⟨N1, hN1⟩ : ∃ N1 : Int, N1 = wrap64 (next + 1) := ⟨_, rfl⟩
      have HN1 := Hid.mk hN1
      have hn1 : wrap64 (next + 1) = N1 := hN1.symm
      have hn2 : IntKind.i64.wrap (next + 1) = N1 := by rw [wrap_eq]; exact hn1
      clear hX hN1
      clear hsum hg x3 y3 r3 kr b5 c3 b3 b4
      generalize (puL (gpL L i v.key) v).length = RL at *
      go_wp2_with fail
      go_region_held3 (fun w' => Below (w.heap.size + 2) w3 w' ∧ w'.cell? ⟨w.heap.size, 0, none⟩ = some (.int .i64 next) ∧ w'.cell? ⟨w.heap.size, 1, none⟩ = some (.slice a L.length cap) ∧ w'.cell? ⟨w.heap.size + 1, 1, none⟩ = some (.int .i64 v.seq)) (first
        | exact HS2.out _ (Below.refl _ _).drew
        | exact HS2.out _ (HC3.out _ c4)
        | exact HS2.out _ ((HC3.out _ c4).setCell (p := ⟨w.heap.size + 2, 0, none⟩) (Nat.le_refl _) _)
        | exact HS2.out _ (((HC3.out _ c4).setCell (p := ⟨w.heap.size + 2, 0, none⟩) (Nat.le_refl _) _).setCell (p := ⟨w.heap.size + 2, 1, none⟩) (Nat.le_refl _) _)) (first
        | (go_at_call 52; with_reducible refine Calls.mono hx ?_; rintro e w4 ⟨v4, rfl, k4, c4⟩; obtain ⟨va', vc', rfl, _⟩ := k4.ls; obtain ⟨t0, t1, tf⟩ := (HY.out.later (below_seq (Below.refl _ _).drew c4)).cells; have tf0 := tf 0; have tf1 := tf 1; clear tf))
      obtain ⟨o9, B9, z9⟩ := HF.out _ _ _ N1 k4 c4
      obtain ⟨g0, g1, _⟩ := z9.cells
      clear z9 t0 t1 tf0 tf1 HF k4 c4 HY hx
      generalize (w4.setCell ⟨w.heap.size + 2, 0, none⟩ (.int .i64 N1)).setCell ⟨w.heap.size + 2, 1, none⟩ (.slice va' X.length vc') = W9 at *
      go_wp2_with fail
      refine bodyPost_ret (v := .tuple #[.agg #[.int .i64 N1, .slice va' X.length vc'], .int .i64 v.seq, .int .i64 0]) ?_ rfl ⟨i, hi, HS.out, .inr (.inr ⟨HR.out, HG.out, _, by rw [hn1], by rw [hK, ← HJ.out, HX.out]; exact o9, B9⟩)⟩
      rw [results_ctt rfl]
      go_simp
    · have HG := Hid.mk hg
      have d1 : (puE (gpL L i v.key) v == 0) = false := beq_eq_false_iff_ne.2 hg
      obtain ⟨q0, q1, qf⟩ := r3.cells
      have qf0 := qf 0
      have qf1 := qf 1
      have z9 := (r3.set0 (.int .i64 0)).set1 (.slice none 0 0)
      have B9 := (b5.setCell (p := ⟨w.heap.size + 2, 0, none⟩) (by show _ ≤ w.heap.size + 2; omega) (.int .i64 0)).setCell (p := ⟨w.heap.size + 2, 1, none⟩) (by show _ ≤ w.heap.size + 2; omega) (.slice none 0 0)
      clear hg qf r3 x3 y3 kr c3 b3 b4 b5
      generalize hPE : puE (gpL L i v.key) v = PE at *
      generalize (puL (gpL L i v.key) v).length = RL at *
      have HPE := Hid.mk hPE
      clear hPE
      go_wp2_with fail
      obtain ⟨g0, g1, _⟩ := z9.cells
      generalize (w3.setCell ⟨w.heap.size + 2, 0, none⟩ (.int .i64 0)).setCell ⟨w.heap.size + 2, 1, none⟩ (.slice none 0 0) = W9 at *
      refine bodyPost_ret (v := .tuple #[bv 0 none 0 0, .int .i64 0, .int .i64 PE]) ?_ rfl ⟨i, hi, HS.out, .inr (.inl ⟨HR.out, by rw [HPE.out]; exact HG.out, by rw [HPE.out]; exact rc_zero B9⟩)⟩
      rw [results_ctt rfl]
      go_simp
  · have HR := Hid.mk hv0
    have d1 : (rfE next L v == 0) = false := beq_eq_false_iff_ne.2 hv0
    obtain ⟨q0, q1, qf⟩ := r0.cells
    have qf0 := qf 0
    have qf1 := qf 1
    have z9 := (r0.set0 (.int .i64 0)).set1 (.slice none 0 0)
    have B9 := (b3.setCell (p := ⟨w.heap.size + 2, 0, none⟩) (by show _ ≤ w.heap.size + 2; omega) (.int .i64 0)).setCell (p := ⟨w.heap.size + 2, 1, none⟩) (by show _ ≤ w.heap.size + 2; omega) (.slice none 0 0)
    clear hv0 qf r0 x0 y0 HB b3 bb HL HV hle hmax hnil
    generalize hPE : rfE next L v = PE at *
    have HPE := Hid.mk hPE
    clear hPE
    go_wp2_with fail
    obtain ⟨g0, g1, _⟩ := z9.cells
    generalize (w1.setCell ⟨w.heap.size + 2, 0, none⟩ (.int .i64 0)).setCell ⟨w.heap.size + 2, 1, none⟩ (.slice none 0 0) = W9 at *
    refine bodyPost_ret (v := .tuple #[bv 0 none 0 0, .int .i64 0, .int .i64 PE]) ?_ rfl ⟨fndV L v.key, fndV_le L v.key, fun _ => rfl, .inl ⟨by rw [HPE.out]; exact HR.out, by rw [HPE.out]; exact rc_zero B9⟩⟩
    rw [results_ctt rfl]
    go_simp
end Go.Proofs.YtgcdnanfnbdjjaaGreat

/- Put and Delete. -/
namespace Go.Proofs.YtgcdnanfnbdjjaaGreat
set_option linter.unusedVariables false
set_option linter.unusedSimpArgs false
open Go.RowKit
attribute [local go_sem ↓] Go.wp_at_zero Go.wp_at_succ
/-- what is answered where a version is added -/
def AdP (w w' : World) (e : Ending) (next : Int) (L : List Vs) (i : Nat) (v : Vs) : Prop := (¬ rfE next L v = 0 ∧ RC w w' e 0 [] 0 (rfE next L v)) ∨ (rfE next L v = 0 ∧ ¬ puE (gpL L i v.key) v = 0 ∧ RC w w' e 0 [] 0 (puE (gpL L i v.key) v)) ∨ (rfE next L v = 0 ∧ puE (gpL L i v.key) v = 0 ∧ RC w w' e (wrap64 (next + 1)) (L.take i ++ puL (gpL L i v.key) v ++ L.drop (i + ken (L.drop i) v.key)) v.seq 0)
/-- there is one answer, in one of three ways -/
theorem AdP.out {w w' : World} {e : Ending} {next : Int} {L : List Vs} {i : Nat} {v : Vs} (h : AdP w w' e next L i v) : ∃ n1 X s c, RC w w' e n1 X s c ∧ ∀ W W' E, RC W W' E n1 X s c → AdP W W' E next L i v := by
  rcases h with ⟨h1, h2⟩ | ⟨h1, h2, h3⟩ | ⟨h1, h2, h3⟩
  · exact ⟨_, _, _, _, h2, fun _ _ _ q => .inl ⟨h1, q⟩⟩
  · exact ⟨_, _, _, _, h3, fun _ _ _ q => .inr (.inl ⟨h1, h2, q⟩)⟩
  · exact ⟨_, _, _, _, h3, fun _ _ _ q => .inr (.inr ⟨h1, h2, q⟩)⟩
set_option maxRecDepth 100000 in
set_option maxHeartbeats 4000000 in
theorem bPut_any (L : List Vs) (next : Int) (k d : List UInt8) (l : List En) (w : World) (a : Option Addr) (n cap : Nat) (va : Option Addr) (vn vc : Nat) (hL : Li w L a n cap) (hm : l.length = vn) (hS : Sl w va vc l) (hz : l.length ≤ 4398046510976) :
    Calls Tryz.prog 19 #[bv next a n cap, str k, str d, .slice va vn vc] w fun e w' => ∃ i : Nat, i ≤ L.length ∧ (SrtV L → i = fndV L k) ∧ AdP w w' e next L i ⟨k, next, false, d, l⟩ := by
  obtain rfl := hL.n
  subst hm
  have b0 := (Below.refl w.heap.size w).alloc (Nat.le_refl _) (.cells #[.int .i64 next, .slice a L.length cap] 24)
  have b1 := b0.alloc b0.size (.cells #[.int .i64 0, .slice none 0 0] 24)
  have HB := Hid.mk (two_boxes w (.int .i64 next) (.slice a L.length cap))
  obtain ⟨x0, _⟩ := HB.out _ (Below.refl _ _)
  obtain ⟨p0, p1, _⟩ := x0.cells
  have ha := added_any L next ⟨k, next, false, d, l⟩ _ a _ cap va _ vc (hL.later b1) ⟨rfl, hS.later b1, hz⟩
  clear hL hS b0 x0
  go_enter Tryz.func19, Tryz.ntmps19
  go_wp2_with fail
  with_reducible refine Calls.mono ha ?_
  rintro e w1 ⟨i, hi, hs, had⟩
  obtain ⟨n1, X, s, c, ⟨rv, rfl, kr, c1⟩, hout⟩ := AdP.out (v := ⟨k, next, false, d, l⟩) had
  obtain ⟨ra, rc, rfl, _⟩ := kr.ls
  dsimp only
  have b2 := b1.trans (c1.mono b1.size)
  have bb : Below (w.heap.size + 2) ((w.alloc (.cells #[.int .i64 next, .slice a L.length cap] 24)).alloc (.cells #[.int .i64 0, .slice none 0 0] 24)) w1 := by simpa using c1
  obtain ⟨_, y0⟩ := HB.out w1 bb
  obtain ⟨q0, q1, qf⟩ := y0.cells
  have qf0 := qf 0
  have qf1 := qf 1
  have z9 := (y0.set0 (.int .i64 n1)).set1 (.slice ra X.length rc)
  have o9 : Cp w.heap.size ((w1.setCell ⟨w.heap.size + 1, 0, none⟩ (.int .i64 n1)).setCell ⟨w.heap.size + 1, 1, none⟩ (.slice ra X.length rc)) (.slice ra X.length rc) X := ((kr.low (g := w.heap.size + 1) (j := 0) (by simp) (.int .i64 n1)).low (g := w.heap.size + 1) (j := 1) (by simp) (.slice ra X.length rc)).base (by simp; omega)
  have B9 := (b2.setCell (p := ⟨w.heap.size + 1, 0, none⟩) (Nat.le_succ _) (.int .i64 n1)).setCell (p := ⟨w.heap.size + 1, 1, none⟩) (Nat.le_succ _) (.slice ra X.length rc)
  have HO := Hid.mk hout
  have HS := Hid.mk hs
  clear hout hs had kr c1 b2 bb y0 qf HB b1 p0 p1 ha
  generalize X.length = XL at *
  go_wp2_with fail
  obtain ⟨g0, g1, _⟩ := z9.cells
  generalize (w1.setCell ⟨w.heap.size + 1, 0, none⟩ (.int .i64 n1)).setCell ⟨w.heap.size + 1, 1, none⟩ (.slice ra XL rc) = W9 at *
  refine bodyPost_ret (v := .tuple #[.agg #[.int .i64 n1, .slice ra XL rc], .int .i64 s, .int .i64 c]) ?_ rfl ⟨i, hi, HS.out, HO.out _ _ _ ⟨_, rfl, o9, B9⟩⟩
  rw [results_ctt rfl]
  go_simp
set_option maxRecDepth 100000 in
set_option maxHeartbeats 4000000 in
theorem bDelete_any (L : List Vs) (next : Int) (k : List UInt8) (w : World) (a : Option Addr) (n cap : Nat) (hL : Li w L a n cap) :
    Calls Tryz.prog 22 #[bv next a n cap, str k] w fun e w' => ∃ i : Nat, i ≤ L.length ∧ (SrtV L → i = fndV L k) ∧ AdP w w' e next L i ⟨k, next, true, [], []⟩ := by
  obtain rfl := hL.n
  have b0 := (Below.refl w.heap.size w).alloc (Nat.le_refl _) (.cells #[.int .i64 next, .slice a L.length cap] 24)
  have b1 := b0.alloc b0.size (.cells #[.int .i64 0, .slice none 0 0] 24)
  have HB := Hid.mk (two_boxes w (.int .i64 next) (.slice a L.length cap))
  obtain ⟨x0, _⟩ := HB.out _ (Below.refl _ _)
  obtain ⟨p0, p1, _⟩ := x0.cells
  have ha := added_any L next ⟨k, next, true, [], []⟩ _ a _ cap none 0 0 (hL.later b1) ⟨rfl, ⟨⟨fun k p hk => by simp at hk⟩, Nat.le_refl _, by omega, fun _ => rfl⟩, by simp⟩
  clear hL b0 x0
  go_enter Tryz.func22, Tryz.ntmps22
  go_wp2_with fail
  with_reducible refine Calls.mono ha ?_
  rintro e w1 ⟨i, hi, hs, had⟩
  obtain ⟨n1, X, s, c, ⟨rv, rfl, kr, c1⟩, hout⟩ := AdP.out (v := ⟨k, next, true, [], []⟩) had
  obtain ⟨ra, rc, rfl, _⟩ := kr.ls
  dsimp only
  have b2 := b1.trans (c1.mono b1.size)
  have bb : Below (w.heap.size + 2) ((w.alloc (.cells #[.int .i64 next, .slice a L.length cap] 24)).alloc (.cells #[.int .i64 0, .slice none 0 0] 24)) w1 := by simpa using c1
  obtain ⟨_, y0⟩ := HB.out w1 bb
  obtain ⟨q0, q1, qf⟩ := y0.cells
  have qf0 := qf 0
  have qf1 := qf 1
  have z9 := (y0.set0 (.int .i64 n1)).set1 (.slice ra X.length rc)
  have o9 : Cp w.heap.size ((w1.setCell ⟨w.heap.size + 1, 0, none⟩ (.int .i64 n1)).setCell ⟨w.heap.size + 1, 1, none⟩ (.slice ra X.length rc)) (.slice ra X.length rc) X := ((kr.low (g := w.heap.size + 1) (j := 0) (by simp) (.int .i64 n1)).low (g := w.heap.size + 1) (j := 1) (by simp) (.slice ra X.length rc)).base (by simp; omega)
  have B9 := (b2.setCell (p := ⟨w.heap.size + 1, 0, none⟩) (Nat.le_succ _) (.int .i64 n1)).setCell (p := ⟨w.heap.size + 1, 1, none⟩) (Nat.le_succ _) (.slice ra X.length rc)
  have HO := Hid.mk hout
  have HS := Hid.mk hs
  clear hout hs had kr c1 b2 bb y0 qf HB b1 p0 p1 ha
  generalize X.length = XL at *
  go_wp2_with fail
  obtain ⟨g0, g1, _⟩ := z9.cells
  generalize (w1.setCell ⟨w.heap.size + 1, 0, none⟩ (.int .i64 n1)).setCell ⟨w.heap.size + 1, 1, none⟩ (.slice ra XL rc) = W9 at *
  refine bodyPost_ret (v := .tuple #[.agg #[.int .i64 n1, .slice ra XL rc], .int .i64 s, .int .i64 c]) ?_ rfl ⟨i, hi, HS.out, HO.out _ _ _ ⟨_, rfl, o9, B9⟩⟩
  rw [results_ctt rfl]
  go_simp
end Go.Proofs.YtgcdnanfnbdjjaaGreat
