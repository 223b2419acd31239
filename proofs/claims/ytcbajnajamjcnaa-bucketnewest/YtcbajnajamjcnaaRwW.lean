/- BucketRaw: the walk. -/
import Derived.Test.YtcbajnajamjcnaaGa
import Derived.Test.YtcbajnajamjcnaaQrt
import Derived.Test.YtcbajnajamjcnaaMdb
namespace Go.Proofs.Ytcbajnajamjcnaa
set_option linter.unusedVariables false
set_option linter.unusedSimpArgs false
open Go.RowKit
attribute [local go_sem ↓] Go.wp_at_zero Go.wp_at_succ
def Bo (w : World) (g : Nat) (a b c d e f : Value) : Prop := w.heap[g]? = some (.cells #[a, b, c, d, e, f] 41 (0, 0))
theorem Bo.cells {w : World} {g : Nat} {a b c d e f : Value} (h : Bo w g a b c d e f) : w.cell? ⟨g, 0, none⟩ = some a ∧ w.cell? ⟨g, 1, none⟩ = some b ∧ w.cell? ⟨g, 2, none⟩ = some c ∧ w.cell? ⟨g, 3, none⟩ = some d ∧ w.cell? ⟨g, 4, none⟩ = some e ∧ w.cell? ⟨g, 5, none⟩ = some f := by
  refine ⟨?_, ?_, ?_, ?_, ?_, ?_⟩
  all_goals rw [cell_of_row _ _ _ _ _ _ h]; rfl
theorem Bo.later {w w' : World} {g : Nat} {a b c d e f : Value} (h : Bo w g a b c d e f) (hb : Below w.heap.size w w') : Bo w' g a b c d e f := by
  have := hb.block g (lt_of_block h)
  unfold Bo at h ⊢
  rw [this]; exact h
theorem Bo.new (w : World) (a b c d e f : Value) : Bo (w.alloc (.cells #[a, b, c, d, e, f] 41)) w.heap.size a b c d e f := heap_alloc_new _ _
/-- what is kept -/
structure Kr (W w : World) (g0 g1 g2 : Nat) (next : Int) (L : List Vs) (a : Option Addr) (cap : Nat) (o : Op1) (ma : Option Addr) (mc : Nat) (a' : Option Addr) (c' : Nat) : Prop where
  b : Below W.heap.size W w
  zb : Bq w g0 (.int .i64 next) (.slice a L.length cap)
  zo : Bo w g1 (.int .i64 o.kind) (str o.key) (str o.data) (.slice ma o.l.length mc) (.int .i64 o.seq) (.int .i64 o.most)
  zc : Bq w g2 (.int .i64 next) (.slice a' L.length c')
  lb : Li w L a L.length cap
  lc : Li w L a' L.length c'
  s : Sl w ma mc o.l
theorem Kr.later {W w w' : World} {g0 g1 g2 : Nat} {next : Int} {L : List Vs} {a : Option Addr} {cap : Nat} {o : Op1} {ma : Option Addr} {mc : Nat} {a' : Option Addr} {c' : Nat} (h : Kr W w g0 g1 g2 next L a cap o ma mc a' c') (hb : Below w.heap.size w w') : Kr W w' g0 g1 g2 next L a cap o ma mc a' c' :=
  ⟨h.b.trans (hb.mono h.b.size), h.zb.later hb, h.zo.later hb, h.zc.later hb, h.lb.later hb, h.lc.later hb, h.s.later hb⟩
set_option maxRecDepth 100000 in
set_option maxHeartbeats 8000000 in
theorem bucketRaw_walk (next : Int) (L : List Vs) (a : Option Addr) (cap : Nat) (o : Op1) (ma : Option Addr) (mc : Nat) (W : World) (hL : Li W L a L.length cap) (hP : ∀ u ∈ L, Pz u.l) (hS : Sl W ma mc o.l) (hz : o.l.length ≤ 4398046510976) :
    Calls Try.prog 4 #[bv next a L.length cap, .agg #[.int .i64 o.kind, str o.key, str o.data, .slice ma o.l.length mc, .int .i64 o.seq, .int .i64 o.most]] W fun e W' => e = .returned (.bool true) ∧ Below W.heap.size W W' := by
  have b0 := (Below.refl W.heap.size W).alloc (Nat.le_refl _) (.cells #[.int .i64 next, .slice a L.length cap] 26)
  have z0 := Bq.new W (.int .i64 next) (.slice a L.length cap)
  have b1 := (Below.refl _ (W.alloc (.cells #[.int .i64 next, .slice a L.length cap] 26))).alloc (Nat.le_refl _) (.cells #[.int .i64 o.kind, str o.key, str o.data, .slice ma o.l.length mc, .int .i64 o.seq, .int .i64 o.most] 41)
  have zo0 := Bo.new (W.alloc (.cells #[.int .i64 next, .slice a L.length cap] 26)) (.int .i64 o.kind) (str o.key) (str o.data) (.slice ma o.l.length mc) (.int .i64 o.seq) (.int .i64 o.most)
  rw [World.size_alloc] at zo0
  have B1 := below_seq b0 b1
  have z1 := z0.later b1
  have HL := Hid.mk hL
  have HS := Hid.mk hS
  have HP := Hid.mk hP
  clear hL hS hP
  go_enter Try.func4, Try.ntmps4
  go_wp2_with fail
  with_reducible refine Calls.mono (fixed_any _) ?_
  rintro e w1 ⟨rfl, b⟩
  dsimp only
  have zb := z1.later b
  have zo := zo0.later b
  have B2 := below_seq B1 b
  clear b0 z0 b1 zo0 B1 z1 b
  obtain ⟨p0, p1, _⟩ := zb.cells
  go_wp2_with fail
  have hLw := HL.out.later B2
  with_reducible refine Calls.mono (qCopy_any L next w1 a _ cap rfl hLw.s hLw.l hLw.z) ?_
  rintro e w2 ⟨rv, rfl, kr, b⟩
  obtain ⟨a', c', rfl, lc⟩ := kr.lis hLw.l hLw.z
  dsimp only
  have bx := (Below.refl w2.heap.size w2).alloc (Nat.le_refl _) (.cells #[.int .i64 next, .slice a' L.length c'] 26)
  have B3 := below_seq (below_seq B2 b) bx
  have K : Kr W (w2.alloc (.cells #[.int .i64 next, .slice a' L.length c'] 26)) W.heap.size (W.heap.size + 1) w2.heap.size next L a cap o ma mc a' c' := ⟨B3, (zb.later b).later bx, (zo.later b).later bx, Bq.new w2 _ _, HL.out.later B3, lc.later bx, HS.out.later B3⟩
  clear zb zo B2 hLw kr lc b bx B3 p0 p1 HL HS
  obtain ⟨p0, p1, _⟩ := K.zc.cells
  obtain ⟨q0, q1, q2, q3, q4, q5⟩ := K.zo.cells
  go_wp2_with fail
  generalize w2.alloc (.cells #[.int .i64 next, .slice a' L.length c'] 26) = w3 at *
  generalize w2.heap.size = gc at *
  with_reducible refine Calls.mono (bPut_any L next o.key o.data o.l w3 a' _ c' ma _ mc K.lc rfl K.s hz) ?_
  rintro e w4 ⟨i, hi, hs, had⟩
  obtain ⟨n1, X, s, c, ⟨rv, rfl, _, b⟩, _⟩ := AdP.out had
  dsimp only
  clear p0 p1 q0 q1 q2 q3 q4 q5
  have K := K.later b
  clear b
  obtain ⟨p0, p1, _⟩ := K.zc.cells
  obtain ⟨q0, q1, q2, q3, q4, q5⟩ := K.zo.cells
  go_wp2_with fail
  with_reducible refine Calls.mono (bDelete_any L next o.key w4 a' _ c' K.lc) ?_
  rintro e w5 ⟨i, hi, hs, had⟩
  obtain ⟨n1, X, s, c, ⟨rv, rfl, _, b⟩, _⟩ := AdP.out had
  dsimp only
  clear p0 p1 q0 q1 q2 q3 q4 q5
  have K := K.later b
  clear b
  obtain ⟨p0, p1, _⟩ := K.zc.cells
  obtain ⟨q0, q1, q2, q3, q4, q5⟩ := K.zo.cells
  go_wp2_with fail
  with_reducible refine Calls.mono (bDeleteVersion_any L next o.key o.seq w5 a' _ c' K.lc) ?_
  rintro e w6 ⟨i, hi, hs, had⟩
  obtain ⟨rv, rfl, b⟩ : ∃ rv, e = .returned rv ∧ Below w5.heap.size w5 w6 := by
    rcases had with ⟨_, v, rfl, _, b⟩ | ⟨_, _, v, rfl, _, b⟩ | ⟨_, _, v, rfl, _, b⟩ <;> exact ⟨_, rfl, b⟩
  dsimp only
  clear p0 p1 q0 q1 q2 q3 q4 q5
  have K := K.later b
  clear b
  obtain ⟨p0, p1, _⟩ := K.zc.cells
  obtain ⟨q0, q1, q2, q3, q4, q5⟩ := K.zo.cells
  go_wp2_with fail
  with_reducible refine Calls.mono (bGet_any L next o.key w6 a' _ c' K.lc) ?_
  rintro e w7 ⟨i, hi, hs, had⟩
  obtain ⟨rv, rfl, b⟩ : ∃ rv, e = .returned rv ∧ Below w6.heap.size w6 w7 := by
    rcases had with ⟨_, _, _, rfl, _, b⟩ | ⟨_, _, _, rfl, _, b⟩ <;> exact ⟨_, rfl, b⟩
  dsimp only
  clear p0 p1 q0 q1 q2 q3 q4 q5
  have K := K.later b
  clear b
  obtain ⟨p0, p1, _⟩ := K.zc.cells
  obtain ⟨q0, q1, q2, q3, q4, q5⟩ := K.zo.cells
  go_wp2_with fail
  with_reducible refine Calls.mono (bGetVersion_any L next o.key o.seq w7 a' _ c' K.lc) ?_
  rintro e w8 ⟨i, hi, hs, had⟩
  obtain ⟨rv, rfl, b⟩ : ∃ rv, e = .returned rv ∧ Below w7.heap.size w7 w8 := by
    rcases had with ⟨_, _, _, rfl, _, b⟩ | ⟨_, _, _, rfl, _, b⟩ <;> exact ⟨_, rfl, b⟩
  dsimp only
  clear p0 p1 q0 q1 q2 q3 q4 q5
  have K := K.later b
  clear b
  obtain ⟨p0, p1, _⟩ := K.zc.cells
  obtain ⟨q0, q1, q2, q3, q4, q5⟩ := K.zo.cells
  go_wp2_with fail
  with_reducible refine Calls.mono (bList_any L next o.key o.most w8 a' _ c' K.lc) ?_
  rintro e w9 ⟨i, hi, hs, rv, rfl, _, b⟩
  dsimp only
  clear p0 p1 q0 q1 q2 q3 q4 q5
  have K := K.later b
  clear b
  obtain ⟨p0, p1, _⟩ := K.zc.cells
  obtain ⟨q0, q1, q2, q3, q4, q5⟩ := K.zo.cells
  go_wp2_with fail
  with_reducible refine Calls.mono (bVersions_any L next o.key o.most w9 a' _ c' K.lc) ?_
  rintro e w10 ⟨i, hi, hs, rv, rfl, _, b⟩
  dsimp only
  clear p0 p1 q0 q1 q2 q3 q4 q5
  have K := K.later b
  clear b
  obtain ⟨p0, p1, _⟩ := K.zc.cells
  obtain ⟨q0, q1, q2, q3, q4, q5⟩ := K.zo.cells
  go_wp2_with fail
  with_reducible refine Calls.mono (bBytes_any L next w10 a' _ c' K.lc) ?_
  rintro e w11 ⟨rfl, b⟩
  dsimp only
  clear p0 p1 q0 q1 q2 q3 q4 q5
  have K := K.later b
  clear b
  obtain ⟨p0, p1, _⟩ := K.zc.cells
  obtain ⟨q0, q1, q2, q3, q4, q5⟩ := K.zo.cells
  go_wp2_with fail
  have HS1 : Hid (∀ w', Below w11.heap.size w11 w' → Below w11.heap.size w11 w' ∧ w'.cell? ⟨gc, 0, none⟩ = some (.int .i64 next) ∧ w'.cell? ⟨gc, 1, none⟩ = some (.slice a' L.length c') ∧ w'.cell? ⟨W.heap.size, 0, none⟩ = some (.int .i64 next) ∧ w'.cell? ⟨W.heap.size, 1, none⟩ = some (.slice a L.length cap)) := ⟨fun w' h => by
    obtain ⟨t0, t1, _⟩ := (K.zc.later h).cells
    obtain ⟨y0, y1, _⟩ := (K.zb.later h).cells
    exact ⟨h, t0, t1, y0, y1⟩⟩
  have HB := Hid.mk K.b
  by_cases hr : RtB next L
  · have h1 := fun w' (h : Below w11.heap.size w11 w') => (bRight_any L next w' a' _ c' (K.lc.later h)).mono (R' := fun e w'' => e = .returned (.bool true) ∧ Below w'.heap.size w' w'') (by
      rintro e w'' ⟨⟨t, rfl, ht⟩, b⟩
      exact ⟨by rw [ht.2 hr], b⟩)
    have h2 := fun w' (h : Below w11.heap.size w11 w') => (qRight_any L next w' a _ cap (K.lb.later h) HP.out).mono (R' := fun e w'' => e = .returned (.bool true) ∧ Below w'.heap.size w' w'') (by
      rintro e w'' ⟨⟨t, rfl, ht⟩, b⟩
      exact ⟨by rw [ht.2 hr], b⟩)
    clear K p0 p1 q0 q1 q2 q3 q4 q5 HP hr
    go_wp2_with fail
    go_region_held3 (fun w' => Below w11.heap.size w11 w' ∧ w'.cell? ⟨gc, 0, none⟩ = some (.int .i64 next) ∧ w'.cell? ⟨gc, 1, none⟩ = some (.slice a' L.length c') ∧ w'.cell? ⟨W.heap.size, 0, none⟩ = some (.int .i64 next) ∧ w'.cell? ⟨W.heap.size, 1, none⟩ = some (.slice a L.length cap)) (first
      | exact HS1.out _ (Below.refl _ _).drew
      | exact HS1.out _ (below_seq (And.left (by assumption)) e1)
      | exact HS1.out _ (below_seq (And.left (by assumption)) e2)) (first
      | (go_at_call 17; with_reducible refine Calls.mono (h1 _ (And.left (by assumption))) ?_; rintro e w12 ⟨rfl, e1⟩)
      | (go_at_call 18; with_reducible refine Calls.mono (h2 _ (And.left (by assumption))) ?_; rintro e w13 ⟨rfl, e2⟩))
    have hbw : Below w11.heap.size w11 w13 := And.left (by assumption)
    go_wp2_with fail
    go_ret
    exact ⟨rfl, HB.out.trans (hbw.mono HB.out.size)⟩
  · have h1 := fun w' (h : Below w11.heap.size w11 w') => (bRight_any L next w' a' _ c' (K.lc.later h)).mono (R' := fun e w'' => e = .returned (.bool false) ∧ Below w'.heap.size w' w'') (by
      rintro e w'' ⟨⟨t, rfl, ht⟩, b⟩
      refine ⟨?_, b⟩
      cases t with
      | false => rfl
      | true => exact absurd (ht.1 rfl) hr)
    have h2 := fun w' (h : Below w11.heap.size w11 w') => (qRight_any L next w' a _ cap (K.lb.later h) HP.out).mono (R' := fun e w'' => e = .returned (.bool false) ∧ Below w'.heap.size w' w'') (by
      rintro e w'' ⟨⟨t, rfl, ht⟩, b⟩
      refine ⟨?_, b⟩
      cases t with
      | false => rfl
      | true => exact absurd (ht.1 rfl) hr)
    clear K p0 p1 q0 q1 q2 q3 q4 q5 HP hr
    go_wp2_with fail
    go_region_held3 (fun w' => Below w11.heap.size w11 w' ∧ w'.cell? ⟨gc, 0, none⟩ = some (.int .i64 next) ∧ w'.cell? ⟨gc, 1, none⟩ = some (.slice a' L.length c') ∧ w'.cell? ⟨W.heap.size, 0, none⟩ = some (.int .i64 next) ∧ w'.cell? ⟨W.heap.size, 1, none⟩ = some (.slice a L.length cap)) (first
      | exact HS1.out _ (Below.refl _ _).drew
      | exact HS1.out _ (below_seq (And.left (by assumption)) e1)
      | exact HS1.out _ (below_seq (And.left (by assumption)) e2)) (first
      | (go_at_call 17; with_reducible refine Calls.mono (h1 _ (And.left (by assumption))) ?_; rintro e w12 ⟨rfl, e1⟩)
      | (go_at_call 18; with_reducible refine Calls.mono (h2 _ (And.left (by assumption))) ?_; rintro e w13 ⟨rfl, e2⟩))
    have hbw : Below w11.heap.size w11 w13 := And.left (by assumption)
    go_wp2_with fail
    go_ret
    exact ⟨rfl, HB.out.trans (hbw.mono HB.out.size)⟩
end Go.Proofs.Ytcbajnajamjcnaa
