/- Layer 22: the writer of a line. -/
import Derived.Test.YtgbkloihclbimaaDoorWp
namespace Go.Proofs.YtgbkloihclbimaaDoor
set_option maxRecDepth 100000
set_option linter.unusedVariables false
set_option linter.unusedSimpArgs false
open Go.RowKit
attribute [local go_sem ↓] Go.wp_at_zero Go.wp_at_succ sl9 ix9
/-- a writer: a text, and the line under way behind it -/
structure Wx (w : World) (B gw : Nat) (T ln : By) (v : Value) : Prop where
  box : w.heap[gw]? = some (.cells #[v, .int .i64 ((T.length : Int) + 8192)] 73 (0, 0))
  ob : Ob B w v (T ++ ln)
  ge : B ≤ gw
def KW (gw : Nat) (w w' : World) : Prop := ∀ k o, w.heap[k]? = some o → k ≠ gw → (∀ cs fz, o ≠ .cells cs 5 fz) → w'.heap[k]? = some o
theorem KW.refl (gw : Nat) (w : World) : KW gw w w := fun _ _ h _ _ => h
theorem KW.trans {gw : Nat} {w w1 w2 : World} (h : KW gw w w1) (h2 : KW gw w1 w2) : KW gw w w2 := fun k o a b c => h2 k o (h k o a b c) b c
theorem KW.k5 {gw : Nat} {w w' : World} (h : K5 w w') : KW gw w w' := fun k o a _ c => h k o a (by simp) c
theorem KW.set {gw : Nat} {w w' : World} (h : KW gw w w') (j : Nat) (v : Value) : KW gw w (w'.setCell ⟨gw, j, none⟩ v) := fun k o a b c => by rw [hso w' ⟨gw, j, none⟩ (k := k) b]; exact h k o a b c
/-- what a step of writing leaves -/
structure WS (B gw : Nat) (T ln : By) (w w' : World) : Prop where
  wx : ∃ v, Wx w' B gw T ln v
  bel : Below B w w'
  kw : KW gw w w'
theorem ob_slice {B : Nat} {w : World} {v : Value} {L : By} (h : Ob B w v L) : ∃ a c, v = .slice a L.length c := by
  rcases h.own.2 with ⟨e, h0⟩ | ⟨g, cap, cur, e, _⟩
  · exact ⟨none, 0, by rw [e, h0]⟩
  · exact ⟨_, _, e⟩
theorem ob_any {B : Nat} {w : World} {v : Value} {L : By} (h : Ob B w v L) : ∃ a n c, v = .slice a n c := by
  obtain ⟨a, c, e⟩ := ob_slice h
  exact ⟨_, _, _, e⟩
theorem Wx.cells {w : World} {B gw : Nat} {T ln : By} {v : Value} (h : Wx w B gw T ln v) : w.cell? ⟨gw, 0, none⟩ = some v ∧ w.cell? ⟨gw, 1, none⟩ = some (.int .i64 ((T.length : Int) + 8192)) ∧ ∀ j, w.frozen? ⟨gw, j, none⟩ = false := by
  refine ⟨?_, ?_, fun j => frozen_of_row _ _ _ _ _ h.box⟩ <;> (rw [cell_of_row _ _ _ _ _ _ h.box]; rfl)
theorem Wx.app {w w' : World} {B gw : Nat} {T ln ln' : By} {v v' : Value} (h : Wx w B gw T ln v) (ho : Ob B w' v' (T ++ ln')) (hb : Below B w w') (hk : K5 w w') : w'.cell? ⟨gw, 0, none⟩ = some v ∧ w'.frozen? ⟨gw, 0, none⟩ = false ∧ WS B gw T ln' w (w'.setCell ⟨gw, 0, none⟩ v') := by
  have hbx := kept_box h.box hk (by decide)
  refine ⟨by rw [cell_of_row _ _ _ _ _ _ hbx]; rfl, frozen_of_row _ _ _ _ _ hbx, ⟨v', ?_, ⟨own_set ho.own hbx (by decide) _, by simpa using ho.le⟩, h.ge⟩, hb.setCell (p := ⟨gw, 0, none⟩) h.ge _, (KW.k5 hk).set 0 _⟩
  rw [heap_setCell_same _ _ _ _ _ _ hbx]; rfl
theorem isFull_any (B gw : Nat) (T ln : By) (v : Value) (w : World) (h : Wx w B gw T ln v) (hT : T.length ≤ 1000000000000) : Calls Tryd.prog 56 #[.pointer (some ⟨gw, 0, none⟩)] w fun e w' => e = .returned (.bool (decide (8192 < ln.length))) ∧ ∃ q, w' = w.drewN q := by
  obtain ⟨c0, c1, cf⟩ := h.cells
  obtain ⟨a, c, rfl⟩ := ob_slice h.ob
  have d1 : Hid (decide (((T ++ ln).length : Int) > (T.length : Int) + 8192) = decide (8192 < ln.length)) := ⟨by
    rw [List.length_append]
    by_cases q : 8192 < ln.length
    · rw [decide_eq_true q, decide_eq_true (by omega)]
    · rw [decide_eq_false q, decide_eq_false (by omega)]⟩
  generalize (T ++ ln).length = n at *
  clear h
  go_enter Tryd.func56, Tryd.ntmps56
  go_wp2_with fail
  go_quiet (fail)
  go_wp2_with fail
  go_ret
  exact ⟨by rw [← d1.out]; rfl, _, rfl⟩
theorem Wx.dN {w : World} {B gw : Nat} {T ln : By} {v : Value} (h : Wx w B gw T ln v) (q : Nat) : Wx (w.drewN q) B gw T ln v := ⟨h.box, h.ob.drewN q, h.ge⟩
theorem tab_below {w0 w : World} {B : Nat} (hT : TB w0) (hB : Below w0.heap.size w0 w) (hb : w0.heap.size ≤ B) : Lib.TabBelow Tryd.prog B w "internal/strconv.uint64pow10" .u64 Lib.pow10Tab := fun w' h => Lib.tabBelow_of_tabIs hT.out w' (hB.trans (h.mono hb))
theorem wnumber_any (B gw : Nat) (T ln : By) (v : Value) (n : Int) (hn : In64 n) (w0 w : World) (h : Wx w B gw T ln v) (hl : T.length + ln.length ≤ 1000000000000) (hT : TB w0) (hB : Below w0.heap.size w0 w) (hb : w0.heap.size ≤ B) :
    Calls Tryd.prog 44 #[.pointer (some ⟨gw, 0, none⟩), .int .i64 n] w fun e w' => e = .returned (.tuple #[]) ∧ WS B gw T (wcut ln (.n n)) w w' := by
  have hf := isFull_any B gw T ln v w h (by omega)
  by_cases hq : 8192 < ln.length
  · rw [decide_eq_true hq] at hf
    have HV : Hid (wcut ln (.n n) = ln) := ⟨by unfold wcut; rw [if_pos hq]⟩
    have HW := Hid.mk h
    clear h hq
    go_enter Tryd.func44, Tryd.ntmps44
    go_wp2_with fail
    with_reducible refine Calls.mono hf ?_
    rintro e w1 ⟨rfl, q, rfl⟩
    dsimp only
    go_wp2_with fail
    go_end0
    refine ⟨rfl, ?_⟩
    rw [HV.out]
    exact ⟨⟨v, HW.out.dN q⟩, below_dN (Below.refl _ _) q, fun k o a _ _ => a⟩
  · rw [decide_eq_false hq] at hf
    have HV : Hid (wcut ln (.n n) = ln ++ 32 :: Lib.itoa n) := ⟨by unfold wcut cutW wtx; rw [if_neg hq]⟩
    have HW := Hid.mk h
    have hLl : (T ++ ln).length ≤ 100000000000000 := by rw [List.length_append]; omega
    clear h hq
    go_enter Tryd.func44, Tryd.ntmps44
    go_wp2_with fail
    with_reducible refine Calls.mono hf ?_
    rintro e w1 ⟨rfl, q, rfl⟩
    dsimp only
    have h1 := HW.out.dN q
    have hB1 := below_dN hB q
    have HK : Hid (KW gw w (w.drewN q) ∧ Below B w (w.drewN q)) := ⟨fun k o a _ _ => a, below_dN (Below.refl _ _) q⟩
    generalize w.drewN q = w1 at *
    obtain ⟨c0, c1, cf⟩ := h1.cells
    have H1 := Hid.mk h1
    have hO1 := h1.ob
    have hl2 : Hid (((T ++ ln) ++ [32]).length + 21 ≤ 140737488355328) := ⟨by rw [List.length_append]; simp only [List.length_singleton]; omega⟩
    clear c1 cf h1 hf
    go_wp2_with (refine app_bs rfl _ _ rfl [32] _ rfl (by decide) rfl hO1 rfl hLl rfl rfl rfl ?_; intro v2 w2 o2 b2 k2)
    have hai := Tryd.strconv_AppendInt_10 B ((T ++ ln) ++ [32]).length n hn.1 hn.2 v2 (vals ((T ++ ln) ++ [32])) w2 o2.own o2.le hl2.out (tab_below hT (hB1.trans (b2.mono hb)) hb)
    refine Calls.mono hai ?_
    rintro e w3 ⟨v3, rfl, o3, b3, k3⟩
    dsimp only
    have o4 : Ob B w3 v3 (T ++ (ln ++ 32 :: Lib.itoa n)) := ⟨by
      have : vals ((T ++ ln) ++ [32]) ++ Lib.byteCells (Lib.itoa n) = vals (T ++ (ln ++ 32 :: Lib.itoa n)) := by
        rw [show Lib.byteCells (Lib.itoa n) = vals (Lib.itoa n) from rfl, ← vals_append]
        simp
      rw [this] at o3
      have e : ((T ++ ln) ++ [32]).length + (Lib.itoa n).length = (T ++ (ln ++ 32 :: Lib.itoa n)).length := by simp; omega
      rw [e] at o3
      exact o3, by have := o2.le; have := b3.size; omega⟩
    obtain ⟨a3, n3, c3, rfl⟩ := ob_any o4
    obtain ⟨a9, n9, c9, rfl⟩ := ob_any hO1
    obtain ⟨f1, f2, hws⟩ := H1.out.app o4 (b2.trans b3) (k2.trans k3)
    have HWS := Hid.mk hws
    clear hai o3 o4 hws o2 b2 k2 b3 k3 c0 hO1
    go_wp2_with fail
    go_end0
    refine ⟨rfl, ?_⟩
    rw [HV.out]
    exact ⟨HWS.out.wx, HK.out.2.trans HWS.out.bel, HK.out.1.trans HWS.out.kw⟩
set_option maxHeartbeats 2000000 in
theorem wtext_any (B gw : Nat) (T ln : By) (v : Value) (s : By) (hs : s.length ≤ 4611686018427387904) (w : World) (h : Wx w B gw T ln v) (hl : T.length + ln.length ≤ 1000000000000) :
    Calls Tryd.prog 45 #[.pointer (some ⟨gw, 0, none⟩), str s] w fun e w' => e = .returned (.tuple #[]) ∧ WS B gw T (wcut ln (.t s)) w w' := by
  have hf := isFull_any B gw T ln v w h (by omega)
  by_cases hq : 8192 < ln.length
  · rw [decide_eq_true hq] at hf
    have HV : Hid (wcut ln (.t s) = ln) := ⟨by unfold wcut; rw [if_pos hq]⟩
    have HW := Hid.mk h
    clear h hq
    go_enter Tryd.func45, Tryd.ntmps45
    go_wp2_with fail
    with_reducible refine Calls.mono hf ?_
    rintro e w1 ⟨rfl, q, rfl⟩
    dsimp only
    go_wp2_with fail
    go_end0
    refine ⟨rfl, ?_⟩
    rw [HV.out]
    exact ⟨⟨v, HW.out.dN q⟩, below_dN (Below.refl _ _) q, fun k o a _ _ => a⟩
  · rw [decide_eq_false hq] at hf
    have HV : Hid (wcut ln (.t s) = ln ++ 32 :: quo (s.take 8192)) := ⟨by unfold wcut cutW wtx; rw [if_neg hq]⟩
    have HW := Hid.mk h
    have hLl : (T ++ ln).length ≤ 100000000000000 := by rw [List.length_append]; omega
    obtain ⟨m, hm1, hm2⟩ : ∃ m : Nat, min (s.length : Int) 8192 = (m : Int) ∧ m = min s.length 8192 := ⟨min s.length 8192, by omega, rfl⟩
    have hsl : ∀ w, (slS (str s) none (some (.int .i64 (m : Int))) none).run Tryd.prog w = .ok (str (s.take 8192)) w := by
      have := run_hi s m (by omega) (by omega)
      have e : s.take m = s.take 8192 := by
        rw [hm2]
        rcases Nat.le_total s.length 8192 with h | h
        · rw [Nat.min_eq_left h, List.take_length, List.take_of_length_le h]
        · rw [Nat.min_eq_right h]
      rw [e] at this
      exact this
    have hm3 : (if (8192 : Int) < (s.length : Int) then (8192 : Int) else (s.length : Int)) = (m : Int) := by split <;> omega
    have hm4 : (if (s.length : Int) < (8192 : Int) then (s.length : Int) else (8192 : Int)) = (m : Int) := by split <;> omega
    have htl : (s.take 8192).length ≤ 8192 := by rw [List.length_take]; omega
    generalize s.take 8192 = st at *
    clear h hq hm2
    go_enter Tryd.func45, Tryd.ntmps45
    go_wp2_with fail
    with_reducible refine Calls.mono hf ?_
    rintro e w1 ⟨rfl, q, rfl⟩
    dsimp only
    have h1 := HW.out.dN q
    have HK : Hid (KW gw w (w.drewN q) ∧ Below B w (w.drewN q)) := ⟨fun k o a _ _ => a, below_dN (Below.refl _ _) q⟩
    generalize w.drewN q = w1 at *
    obtain ⟨a9, n9, c9, rfl⟩ := ob_any h1.ob
    obtain ⟨c0, c1, cf⟩ := h1.cells
    obtain ⟨v2, w2, hr, o2, b2, k2⟩ := run_bs (w1 := w1.drew) [32] #[.int .u8 32] rfl (by simp) h1.ob.drew hLl
    have hq2 := appendQuoted_any st ((T ++ ln) ++ [32]) v2 B w2 o2 (by rw [List.length_append, List.length_append]; simp only [List.length_singleton]; omega)
    have HE : Hid (∀ v3 w3, AppP B w2 w3 v3 (((T ++ ln) ++ [32]) ++ quo st) → w3.cell? ⟨gw, 0, none⟩ = some (.slice a9 n9 c9) ∧ w3.frozen? ⟨gw, 0, none⟩ = false ∧ WS B gw T (ln ++ 32 :: quo st) w (w3.setCell ⟨gw, 0, none⟩ v3)) := ⟨fun v3 w3 ha => by
      have o4 : Ob B w3 v3 (T ++ (ln ++ 32 :: quo st)) := by have := ha.ob; simpa using this
      have bb : Below B w1 w3 := (Below.refl _ _).drew.trans (b2.trans ha.bel)
      have kk : K5 w1 w3 := Lib.OthersKept.trans (show K5 w1 w2 from k2) ha.k5
      obtain ⟨f1, f2, hws⟩ := h1.app o4 bb kk
      exact ⟨f1, f2, hws.wx, HK.out.2.trans hws.bel, HK.out.1.trans hws.kw⟩⟩
    have e0 : w1.drew.cell? ⟨gw, 0, none⟩ = some (.slice a9 n9 c9) := c0
    have e1 : ∀ o, (w1.alloc o).cell? ⟨gw, 0, none⟩ = some (.slice a9 n9 c9) := fun o => (((Below.refl _ _).alloc (Nat.le_refl _) o).cell (p := ⟨gw, 0, none⟩) (block_lt_of_cell c0)).trans c0
    have e2 : ∀ o, (w1.alloc o).drew.cell? ⟨gw, 0, none⟩ = some (.slice a9 n9 c9) := e1
    have e3 : ∀ o, (w1.drew.alloc o).cell? ⟨gw, 0, none⟩ = some (.slice a9 n9 c9) := e1
    clear c1 cf h1 hf
    go_wp2_with fail
    go_region_law (first
      | ((first | ((with_reducible (refine at_stp rfl ?_)); go_simp) | skip); go_at_call 22; with_reducible refine Calls.mono hq2 ?_; rintro e w3 ⟨v3, rfl, ha⟩; obtain ⟨a3, n3, c3, ev⟩ := ob_any ha.ob; subst ev; obtain ⟨f1, f2, HWS⟩ := HE.out _ w3 ha)
      | ((with_reducible (refine at_sta rfl ?_)); refine step_run rfl _ _ rfl rfl rfl (hr _) ?_))
    all_goals go_wp2_with fail
    all_goals go_end0
    all_goals (refine ⟨rfl, ?_⟩)
    all_goals (rw [HV.out]; exact HWS)
end Go.Proofs.YtgbkloihclbimaaDoor
