/- told: fifteen rows that lie apart. -/
import Derived.Test.YtibmnpkmbhjniaaTol
namespace Go.Proofs.Ytibmnpkmbhjniaa
set_option linter.unusedVariables false
set_option linter.unusedSimpArgs false
open Go.RowKit
attribute [local go_sem ↓] Go.wp_at_zero Go.wp_at_succ
attribute [local go_sem ↓] slPe sl9
noncomputable def rdl (b : List UInt8) : List En := match rdv b with
  | some (_, _, l) => l
  | none => []
theorem rdl_len (b : List UInt8) : (rdl b).length ≤ 65535 := by
  unfold rdl rdv
  by_cases h : b.length = 512
  · rw [if_pos h]
    cases hr : rde (num2 b 3) (b.drop 5) with
    | none => simp
    | some L =>
      have h1 := rde_len hr
      have h2 := num2_le b 3
      dsimp only
      split
      · next h => split at h <;> simp_all <;> omega
      · simp
  · rw [if_neg h]; simp
theorem read_l (b : List UInt8) (w : World) (hb0 : b.length ≤ 9223372036854775807) :
    Calls Try.prog 12 #[str b] w fun e w' => ∃ k j a c z, e = .returned (.tuple #[pgv k j (.slice a (rdl b).length c), .int .i64 z]) ∧ Ow w.heap.size w' (.slice a (rdl b).length c) (rdl b) ∧ Below w.heap.size w w' := by
  refine (read_any b w hb0).mono ?_
  rintro e w' ⟨hb, h⟩
  unfold rdl
  cases hr : rdv b with
  | none =>
    rw [hr] at h
    exact ⟨0, 0, none, 0, 4, h, Ow.nil _ _ hb.size, hb⟩
  | some x =>
    obtain ⟨k, j, l⟩ := x
    rw [hr] at h
    obtain ⟨v, he, o⟩ := h
    obtain ⟨a, c, rfl, s⟩ := o.sl
    exact ⟨k, j, a, c, 0, he, o, hb⟩
theorem own_sl' {B : Nat} {w w' : World} {a : Option Addr} {c : Nat} {l : List En} (h : Ow B w (.slice a l.length c) l) (hb : Below w.heap.size w w') : Sl w' a c l := by
  obtain ⟨a', c', e, s⟩ := (h.later hb).sl
  injection e with e1 e2 e3
  subst e1 e3
  exact s
/-- five lists -/
def TT (P D X Y E : List En) : Nat → List En
  | 0 => P
  | 1 => D
  | 2 => X
  | 3 => Y
  | _ => E
/-- the five lists that are told -/
noncomputable def TL (l : List En) (k v b : List UInt8) : Nat → List En := TT (put l k v) (del l k) (l.take (cutw l)) (l.drop (cutw l)) (rdl b)
/-- the books' block -/
structure Bk (w : World) (R : Nat) (u : Nat → Value) : Prop where
  has : ∃ cs, w.heap[R]? = some (.cells cs 54 (0, 0)) ∧ cs.size = 15 ∧ ∀ j, j < 15 → cs[j]? = some (u j)
theorem bk_of {w : World} {R : Nat} {d : Value × List En} (D : List (Value × List En)) (hd : D.length = 15) (h : w.heap[R]? = some (.cells (D.map (·.1)).toArray 54 (0, 0))) : Bk w R (fun j => (D.getD j d).1) :=
  ⟨_, h, by simpa using hd, fun j hj => by
    rw [List.getD_eq_getElem?_getD, List.getElem?_eq_getElem (by omega)]
    simp [hd, hj]⟩
theorem bk_rl {B : Nat} {w w' : World} {R : Nat} {D : List (Value × List En)} (hr : Rl B w D) (d : Value × List En) (hd : D.length = 15) (h : w'.heap[R]? = some (.cells (D.map (·.1)).toArray 54 (0, 0))) : Bk w' R (fun j => (D.getD j d).1) := bk_of D hd h
theorem getD_map2 {d : Value × List En} {D : List (Value × List En)} {n : Nat} {g : Nat → List En} (h : D.map (·.2) = (List.range n).map g) (j : Nat) (hj : j < n) : (D.getD j d).2 = g j := by
  have e : (D.map (·.2))[j]? = some (g j) := by rw [h]; simp [hj]
  rw [List.getElem?_map] at e
  rw [List.getD_eq_getElem?_getD]
  cases hx : D[j]? with
  | none => rw [hx] at e; cases e
  | some x => rw [hx] at e; simp at e; simpa using e
theorem rs_rl {B n : Nat} {w : World} {D : List (Value × List En)} (hr : Rl B w D) (d : Value × List En) (o : Obj) (g : Nat → List En) (hd : D.length = n) (h : D.map (·.2) = (List.range n).map g) : Rs B (w.alloc o) n (fun j => (D.getD j d).1) g := by
  subst hd
  exact ((hr.rs d).alloc o).congr (fun _ _ => rfl) (fun j hj => (getD_map2 h j hj).symm)
theorem fifteen {B : Nat} {w : World} {e0 e1 e2 e3 e4 e5 e6 e7 e8 e9 e10 e11 e12 e13 e14 : Value × List En} (h : Rl B w [e0, e1, e2, e3, e4, e5, e6, e7, e8, e9, e10, e11, e12, e13, e14]) :
    Rl B w [e6, e5, e4, e14, e13, e3, e11, e9, e2, e12, e10, e1, e8, e7, e0] :=
  h.perm (perm15 (fun i => [e0, e1, e2, e3, e4, e5, e6, e7, e8, e9, e10, e11, e12, e13, e14].getD i e0) [6, 5, 4, 14, 13, 3, 11, 9, 2, 12, 10, 1, 8, 7, 0] 15 (by decide))
set_option maxHeartbeats 4000000 in
theorem told_any (l : List En) (k v b : List UInt8) (hs : Srt l) (w : World) (a : Option Addr) (n cap : Nat) (hn : l.length = n) (hS : Sl w a cap l) (hl : l.length ≤ 1000) (hb0 : b.length ≤ 9223372036854775807) :
    Calls Try.prog 23 #[.slice a n cap, str k, str v, str b] w fun e w' => ∃ R u, e = .returned (.slice (some ⟨R, 0, none⟩) 5 5) ∧ w.heap.size ≤ R ∧ Bk w' R u ∧ Rs w.heap.size w' 15 u (fun j => TL l k v b (j / 3)) ∧ Below w.heap.size w w' := by
  subst hn
  have hl1 : l.length ≤ 100000000000 := by omega
  have hl2 : l.length ≤ 1000000000000 := by omega
  have cD : ∀ w', Below w.heap.size w w' → Calls Try.prog 17 #[.slice a l.length cap, str k] w' (fun e w2 => ∃ v, e = .returned (.tuple #[v, .bool (hit l k)]) ∧ Ow w'.heap.size w2 v (del l k) ∧ Below w'.heap.size w' w2) := fun w' h => delete_any l k hs w' a _ cap rfl (hS.later h) hl1
  have cS : ∀ w', Below w.heap.size w w' → Calls Try.prog 22 #[.slice a l.length cap] w' (fun e w2 => ∃ x y, e = .returned (.tuple #[x, y]) ∧ Tw w'.heap.size w2 x (l.take (cutw l)) y (l.drop (cutw l)) ∧ Below w'.heap.size w' w2) := fun w' h => split_any l w' a cap (hS.later h) hl2
  have cR := fun w' => read_l b w' hb0
  have cP := fun w' (h : Below w.heap.size w w') => put_any l k v hs w' a _ cap rfl (hS.later h) hl1
  have lD : (del l k).length ≤ 100000000000 := by rw [del_len]; omega
  have lP : (put l k v).length ≤ 100000000000 := by rw [put_len]; split <;> omega
  have lX : (l.take (cutw l)).length ≤ 100000000000 := by rw [List.length_take]; omega
  have lY : (l.drop (cutw l)).length ≤ 100000000000 := by rw [List.length_drop]; omega
  have lE : (rdl b).length ≤ 100000000000 := Nat.le_trans (rdl_len b) (by omega)
  have HT : Hid (TL l k v b = TT (put l k v) (del l k) (l.take (cutw l)) (l.drop (cutw l)) (rdl b)) := ⟨rfl⟩
  generalize TL l k v b = TV at *
  generalize put l k v = P at *
  generalize del l k = D at *
  generalize l.take (cutw l) = X at *
  generalize l.drop (cutw l) = Y at *
  generalize rdl b = E at *
  generalize hit l k = hh at *
  clear hS
  go_enter Try.func23, Try.ntmps23
  go_wp2_with fail
  with_reducible refine Calls.mono (cD _ (Below.refl _ _)) ?_
  rintro e w1 ⟨v1, rfl, o1, b1⟩
  dsimp only
  have R1 := (Rl.nil w.heap.size w).cons (Nat.le_refl _) o1 b1
  have B1 := b1
  obtain ⟨a1, c1, rfl, s1⟩ := o1.sl
  clear o1 b1 s1
  go_wp2_with fail
  with_reducible refine Calls.mono (cD _ B1) ?_
  rintro e w2 ⟨v2, rfl, o2, b2⟩
  dsimp only
  have R2 := R1.cons B1.size o2 b2
  have B2 := below_seq B1 b2
  obtain ⟨a2, c2, rfl, s2⟩ := o2.sl
  clear R1 B1 o2 b2 s2
  go_wp2_with fail
  with_reducible refine Calls.mono (cS _ B2) ?_
  rintro e w3 ⟨v3, v4, rfl, o3, b3⟩
  dsimp only
  have R3 := R2.cons2 B2.size o3 b3
  have B3 := below_seq B2 b3
  obtain ⟨a3, c3, rfl, s3⟩ := o3.ox.sl
  obtain ⟨a4, c4, rfl, s4⟩ := o3.oy.sl
  clear R2 B2 o3 b3 s3 s4
  go_wp2_with fail
  with_reducible refine Calls.mono (cS _ B3) ?_
  rintro e w4 ⟨v5, v6, rfl, o4, b4⟩
  dsimp only
  have R4 := R3.cons2 B3.size o4 b4
  have B4 := below_seq B3 b4
  obtain ⟨a5, c5, rfl, s5⟩ := o4.ox.sl
  obtain ⟨a6, c6, rfl, s6⟩ := o4.oy.sl
  clear R3 B3 o4 b4 s5 s6
  go_wp2_with fail
  with_reducible refine Calls.mono (cR w4) ?_
  rintro e w5 ⟨k7, j7, a7, c7, z7, rfl, o7, b7⟩
  dsimp only
  have R5 := R4.cons B4.size o7 b7
  have B5 := below_seq B4 b7
  clear R4 B4 o7 b7
  go_wp2_with fail
  with_reducible refine Calls.mono (cR _) ?_
  rintro e w6 ⟨k8, j8, a8, c8, z8, rfl, o8, b8⟩
  dsimp only
  have A5 : Below w5.heap.size w5 (w5.alloc (.cells #[.int .i64 k7, .int .i64 j7, .slice a7 E.length c7] 29)) := (Below.refl _ _).alloc (Nat.le_refl _) _
  have R6 := (R5.later A5).cons (by have := B5.size; simp; omega) o8 b8
  have B6 := below_seq (below_seq B5 A5) b8
  have K5 : w6.heap[w5.heap.size]? = some (.cells #[.int .i64 k7, .int .i64 j7, .slice a7 E.length c7] 29 (0, 0)) := by rw [b8.block _ (by simp)]; exact heap_alloc_new _ _
  clear R5 B5 o8 b8 A5
  go_wp2_with fail
  have A6 : Below w6.heap.size w6 (w6.alloc (.cells #[.int .i64 k8, .int .i64 j8, .slice a8 E.length c8] 29)) := (Below.refl _ _).alloc (Nat.le_refl _) _
  have R7 := R6.later A6
  have B7 := below_seq B6 A6
  have K7 := (A6.block _ (by
    rcases Nat.lt_or_ge w5.heap.size w6.heap.size with q | q
    · exact q
    · rw [Array.getElem?_eq_none q] at K5; cases K5)).trans K5
  have K8 := heap_alloc_new w6 (.cells #[.int .i64 k8, .int .i64 j8, .slice a8 E.length c8] 29)
  have q7 : w5.heap.size < w6.heap.size := by
    rcases Nat.lt_or_ge w5.heap.size w6.heap.size with q | q
    · exact q
    · rw [Array.getElem?_eq_none q] at K5; cases K5
  have q8 : w6.heap.size < (w6.alloc (.cells #[.int .i64 k8, .int .i64 j8, .slice a8 E.length c8] 29)).heap.size := by simp
  have q9 := Nat.lt_trans q7 q8
  clear R6 B6 K5 A6 q7
  generalize w6.alloc (.cells #[.int .i64 k8, .int .i64 j8, .slice a8 E.length c8] 29) = w7 at *
  obtain ⟨_, _, m7⟩ := box3 K7
  obtain ⟨_, _, m8⟩ := box3 K8
  generalize w5.heap.size = p7 at *
  generalize w6.heap.size = p8 at *
  clear K7 K8
  have XC : Hid (∀ w', Below w7.heap.size w7 w' → Below w7.heap.size w7 w' ∧ w'.cell? ⟨p7, 2, none⟩ = some (.slice a7 E.length c7) ∧ w'.cell? ⟨p8, 2, none⟩ = some (.slice a8 E.length c8)) := ⟨fun w' h => ⟨h, (Below.cell (p := ⟨p7, _, none⟩) h q9).trans m7, (Below.cell (p := ⟨p8, _, none⟩) h q8).trans m8⟩⟩
  have g2 : ∀ w', Below w7.heap.size w7 w' → Calls Try.prog 44 #[.slice a1 D.length c1, .slice a2 D.length c2] w' _ := fun w' h => bookOf_any D w' a1 a2 D.length D.length c1 c2 rfl (own_sl' (R7.ow (.slice a2 D.length c2, D) (by simp)) h) lD
  have g3 : ∀ w', Below w7.heap.size w7 w' → Calls Try.prog 44 #[.slice a3 X.length c3, .slice a5 X.length c5] w' _ := fun w' h => bookOf_any X w' a3 a5 X.length X.length c3 c5 rfl (own_sl' (R7.ow (.slice a5 X.length c5, X) (by simp)) h) lX
  have g4 : ∀ w', Below w7.heap.size w7 w' → Calls Try.prog 44 #[.slice a4 Y.length c4, .slice a6 Y.length c6] w' _ := fun w' h => bookOf_any Y w' a4 a6 Y.length Y.length c4 c6 rfl (own_sl' (R7.ow (.slice a6 Y.length c6, Y) (by simp)) h) lY
  have g5 : ∀ w', Below w7.heap.size w7 w' → Calls Try.prog 44 #[.slice a7 E.length c7, .slice a8 E.length c8] w' _ := fun w' h => bookOf_any E w' a7 a8 E.length E.length c7 c8 rfl (own_sl' (R7.ow (.slice a8 E.length c8, E) (by simp)) h) lE
  have cP' := fun w' (h : Below w7.heap.size w7 w') => cP w' (below_seq B7 h)
  clear cD cS cR cP
  have tok : Hid True := ⟨trivial⟩
  go_region_held3 (fun w' => Below w7.heap.size w7 w' ∧ w'.cell? ⟨p7, 2, none⟩ = some (.slice a7 E.length c7) ∧ w'.cell? ⟨p8, 2, none⟩ = some (.slice a8 E.length c8)) (first
    | exact XC.out _ (Below.refl _ _).drew
    | exact XC.out _ (below_seq (And.left (by assumption)) b21)
    | exact XC.out _ (below_seq (And.left (by assumption)) b22)
    | exact XC.out _ (below_seq (And.left (by assumption)) b23)
    | exact XC.out _ (below_seq (And.left (by assumption)) b24)
    | exact XC.out _ (below_seq (And.left (by assumption)) b25)
    | exact XC.out _ (below_seq (And.left (by assumption)) b26)
    | exact XC.out _ (below_seq (And.left (by assumption)) b27)
    | exact XC.out _ (below_seq (And.left (by assumption)) ((Below.refl _ _).alloc (Nat.le_refl _) _))) (first
    | (go_at_call 16; with_reducible refine Calls.mono (cP' _ (And.left (by assumption))) ?_; clear tok; rintro e w21 ⟨v21, rfl, o21, b21⟩; obtain ⟨a21, c21, rfl, s21⟩ := o21.sl)
    | (go_at_call 16; with_reducible refine Calls.mono (cP' _ (And.left (by assumption))) ?_; rintro e w22 ⟨v22, rfl, o22, b22⟩; obtain ⟨a22, c22, rfl, s22⟩ := o22.sl)
    | (go_at_call 44; with_reducible refine Calls.mono (bookOf_any P _ a21 a22 P.length P.length c21 c22 rfl s22 lP) ?_; rintro e w23 ⟨a23, c23, rfl, o23, b23⟩)
    | (go_at_call 44; with_reducible refine Calls.mono (g2 _ (And.left (by assumption))) ?_; rintro e w24 ⟨a24, c24, rfl, o24, b24⟩)
    | (go_at_call 44; with_reducible refine Calls.mono (g3 _ (And.left (by assumption))) ?_; rintro e w25 ⟨a25, c25, rfl, o25, b25⟩)
    | (go_at_call 44; with_reducible refine Calls.mono (g4 _ (And.left (by assumption))) ?_; rintro e w26 ⟨a26, c26, rfl, o26, b26⟩)
    | (go_at_call 44; with_reducible refine Calls.mono (g5 _ (And.left (by assumption))) ?_; rintro e w27 ⟨a27, c27, rfl, o27, b27⟩))
  have R20 := R7.later (Below.refl w7.heap.size w7).drew
  have B20 := below_seq B7 (Below.refl w7.heap.size w7).drew
  have R21 := R20.cons B20.size o21 b21
  have B21 := below_seq B20 b21
  have R22 := R21.cons B21.size o22 b22
  have B22 := below_seq B21 b22
  have R23 := R22.cons B22.size o23 b23
  have B23 := below_seq B22 b23
  have R24 := R23.cons B23.size o24 b24
  have B24 := below_seq B23 b24
  have R25 := R24.cons B24.size o25 b25
  have B25 := below_seq B24 b25
  have R26 := R25.cons B25.size o26 b26
  have B26 := below_seq B25 b26
  have R27 := R26.cons B26.size o27 b27
  have B27 := below_seq B26 b27
  have RF := fifteen R27
  clear R7 B7 R20 B20 R21 B21 R22 B22 R23 B23 R24 B24 R25 B25 R26 B26 R27 o21 o22 o23 o24 o25 o26 o27 b21 b22 b23 b24 b25 b26 s21 s22 g2 g3 g4 g5 cP' XC
  go_wp2_with fail
  go_ret
  refine ⟨w27.heap.size, _, rfl, B27.size, bk_rl RF (.slice none 0 0, []) rfl (heap_alloc_new w27 _), ?_, below_seq B27 ((Below.refl _ _).alloc (Nat.le_refl _) _)⟩
  rw [HT.out]
  exact rs_rl RF (.slice none 0 0, []) _ _ rfl rfl
end Go.Proofs.Ytibmnpkmbhjniaa
