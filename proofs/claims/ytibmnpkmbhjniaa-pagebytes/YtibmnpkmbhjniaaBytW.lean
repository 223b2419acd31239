/- PageBytes: the walk. -/
import Derived.Test.YtibmnpkmbhjniaaRrg
import Derived.Test.YtibmnpkmbhjniaaApm
namespace Go.Proofs.Ytibmnpkmbhjniaa
set_option linter.unusedVariables false
set_option linter.unusedSimpArgs false
open Go.RowKit
attribute [local go_sem ↓] Go.wp_at_zero Go.wp_at_succ
attribute [local go_sem ↓] slPe sl9 ad9
noncomputable def rvl (b : List UInt8) : List En := match rdv b with
  | some (_, _, l) => l
  | none => []
theorem rvl_len (b : List UInt8) : (rvl b).length ≤ 65535 := by
  unfold rvl rdv
  by_cases h : b.length = 512
  · rw [if_pos h]
    cases hr : rde (num2 b 3) (b.drop 5) with
    | none => simp
    | some L =>
      have h1 := rde_len hr
      have h2 := num2_le b 3
      dsimp only
      split
      · next h => split at h <;> simp_all <;> omega
      · simp
  · rw [if_neg h]; simp
theorem readP_v (b : List UInt8) : ∃ k j z : Int, ∀ w e w', ReadP w (rdv b) e w' → ∃ a c, e = .returned (.tuple #[pgv k j (.slice a (rvl b).length c), .int .i64 z]) ∧ PIn w' a (rvl b) ∧ Below w.heap.size w w' := by
  unfold rvl
  cases hr : rdv b with
  | none => exact ⟨0, 0, 4, fun w e w' ⟨hb, h⟩ => ⟨none, 0, h, ⟨fun k p hk => by simp at hk⟩, hb⟩⟩
  | some x =>
    obtain ⟨k, j, l⟩ := x
    refine ⟨k, j, 0, fun w e w' ⟨hb, h⟩ => ?_⟩
    obtain ⟨v, he, o⟩ := h
    obtain ⟨a, c, rfl, s⟩ := o.sl
    exact ⟨a, c, he, s.at', hb⟩
/-- an x behind each of the first k values -/
def xx (e : En) : En := ⟨e.key, e.val ++ [120]⟩
def xd (l : List En) (k : Nat) : List En := (l.take k).map xx ++ l.drop k
theorem xd_len (l : List En) (k : Nat) : (xd l k).length = l.length := by simp [xd]; omega
theorem xd_zero (l : List En) : xd l 0 = l := by simp [xd]
theorem xd_all (l : List En) : xd l l.length = l.map xx := by simp [xd]
theorem xd_get (l : List En) (k : Nat) (e : En) (h : l[k]? = some e) : (xd l k)[k]? = some e := by
  have hk := (List.getElem?_eq_some_iff.1 h).1
  unfold xd
  rw [List.getElem?_append_right (by simp; omega), List.length_map, List.length_take, Nat.min_eq_left (by omega), Nat.sub_self, List.getElem?_drop]
  exact h
theorem xd_set (l : List En) (k : Nat) (e : En) (h : l[k]? = some e) : (xd l k).set k (xx e) = xd l (k + 1) := by
  obtain ⟨hk, he⟩ := List.getElem?_eq_some_iff.1 h
  unfold xd
  rw [List.set_append_right _ _ (by simp; omega), List.length_map, List.length_take, Nat.min_eq_left (by omega), Nat.sub_self, List.drop_eq_getElem_cons hk, List.set_cons_zero, take_succ' h, List.map_append, List.append_assoc]
  rfl
theorem pcells_setv (l : List En) (i : Nat) (p q : En) (h : l[i]? = some p) (hk : q.key = p.key) : pcells (l.set i q) = (pcells l).set (i * 2 + 1) (str q.val) := by
  have hi := (List.getElem?_eq_some_iff.1 h).1
  rw [pcells_set l i q hi, hk]
  congr 1
  apply List.ext_getElem?
  intro j
  rw [List.getElem?_set]
  by_cases e : i * 2 = j
  · subst e
    have hl := pcells_length l
    rw [if_pos rfl, if_pos (by omega), (pcells_get h).1]
  · rw [if_neg e]
/-- an x behind one value of a row of one's own -/
theorem Ow.put1 {B : Nat} {w : World} {g cap n : Nat} {l : List En} {i : Nat} {p q : En} (h : Ow B w (.slice (some ⟨g, 0, none⟩) n cap) l) (hi : l[i]? = some p) (hk : q.key = p.key) (hn : l.length = n) : Ow B (w.setCell ⟨g, i * 2 + 1, none⟩ (str q.val)) (.slice (some ⟨g, 0, none⟩) n cap) (l.set i q) := by
  subst hn
  have hlt := (List.getElem?_eq_some_iff.1 hi).1
  have hl := pcells_length l
  refine ⟨?_, by simpa using h.le⟩
  rw [pcells_setv l i p q hi hk, List.length_set]
  exact own_cell h.own (i * 2 + 1) (by omega) _
set_option maxHeartbeats 8000000 in
set_option maxRecDepth 20000 in
theorem pageBytes_walk (kind link : Int) (l : List En) (a : Option Addr) (cap : Nat) (b : List UInt8) (W : World) (hk1 : -9223372036854775808 ≤ kind) (hk2 : kind ≤ 9223372036854775807) (hl1 : -9223372036854775808 ≤ link) (hl2 : link ≤ 9223372036854775807)
    (hP : PIn W a l) (hz : ∀ (k : Nat) (e : En), l[k]? = some e → e.key.length ≤ 140737488351232 ∧ e.val.length ≤ 140737488351232) (hl : l.length ≤ 4398046510976)
    (hsl : l.length ≤ cap ∧ cap ≤ 9223372036854775807 ∧ (a = none → cap = 0)) (hb0 : b.length ≤ 140737488351232) :
    Calls Try.prog 7 #[.int .i64 kind, .int .i64 link, .slice a l.length cap, str b] W fun e W' => e = .returned (.bool true) ∧ Below W.heap.size W W' := by
  have hS : Sl W a cap l := ⟨hP, hsl.1, hsl.2.1, hsl.2.2⟩
  have hl3 : l.length ≤ 4500000000000 := by omega
  have hl4 : l.length ≤ 4400000000000 := by omega
  have hrl := rvl_len b
  obtain ⟨rk, rj, rz, hrv⟩ := readP_v b
  have cR := fun w => (read_any b w (by omega)).mono (hrv w)
  have cQ := fun w => (rRead_any b w (by omega)).mono (hrv w)
  have HWR : ∃ T z, wrote kind link l = .tuple #[str T, .int .i64 z] := ⟨_, _, rfl⟩
  obtain ⟨T, z, hwr⟩ := HWR
  have cW := fun w a n cap hn h => write_anyB kind link l w a n cap hn h hl3
  have cV := fun w a n cap hn h => rWrite_any kind link l w a n cap hn h hl3
  rw [hwr] at cW cV
  generalize rvl b = E at *
  clear hrv hwr hsl
  go_enter Try.func7, Try.ntmps7
  go_wp2_with fail
  with_reducible refine Calls.mono (lent_anyB l W a l.length cap rfl hS hl4) ?_
  rintro e w1 ⟨ad, c, rfl, o1, b1⟩
  dsimp only
  have s1 : Sl w1 ad c (l ++ [mk]) := by
    obtain ⟨a', c', e', s'⟩ := o1.sl
    injection e' with e1 e2 e3
    subst e1 e3
    exact s'
  go_wp2_with fail
  with_reducible refine Calls.mono (cW w1 ad l.length c rfl s1.head.at') ?_
  rintro e w2 ⟨rfl, b2⟩
  dsimp only
  go_wp2_with fail
  with_reducible refine Calls.mono (cW w2 ad l.length c rfl (s1.later b2).head.at') ?_
  rintro e w3 ⟨rfl, b3⟩
  dsimp only
  have q3 := below_seq b2 b3
  have Q3 := below_seq b1 q3
  clear b2 b3
  go_wp2_with fail
  with_reducible refine Calls.mono (cV w3 a l.length cap rfl (hP.later Q3)) ?_
  rintro e w4 ⟨rfl, b4⟩
  dsimp only
  have q4 := below_seq q3 b4
  have Q4 := below_seq Q3 b4
  clear q3 Q3 b4 cW cV
  go_wp2_with fail
  with_reducible refine Calls.mono (cR w4) ?_
  rintro e w5 ⟨a5, c5, rfl, p5, b5⟩
  dsimp only
  have A5 : Below w5.heap.size w5 (w5.alloc (.cells #[.int .i64 rk, .int .i64 rj, .slice a5 E.length c5] 29)) := (Below.refl _ _).alloc (Nat.le_refl _) _
  have K5 := heap_alloc_new w5 (.cells #[.int .i64 rk, .int .i64 rj, .slice a5 E.length c5] 29)
  have l5 : w5.heap.size < (w5.alloc (.cells #[.int .i64 rk, .int .i64 rj, .slice a5 E.length c5] 29)).heap.size := by simp
  go_wp2_with fail
  with_reducible refine Calls.mono (cQ _) ?_
  rintro e w6 ⟨a6, c6, rfl, p6, b6⟩
  dsimp only
  have q6 := below_seq q4 (below_seq (below_seq b5 A5) b6)
  have Q6 := below_seq Q4 (below_seq (below_seq b5 A5) b6)
  have p56 := p5.later (below_seq A5 b6)
  have K56 := (b6.block _ l5).trans K5
  have l56 := Nat.lt_of_lt_of_le l5 b6.size
  clear cR cQ q4 Q4 b5 b6 p5 K5 l5 A5
  generalize w5.heap.size = g5 at *
  have A6 : Below w6.heap.size w6 (w6.alloc (.cells #[.int .i64 rk, .int .i64 rj, .slice a6 E.length c6] 57)) := (Below.refl _ _).alloc (Nat.le_refl _) _
  have K6 := heap_alloc_new w6 (.cells #[.int .i64 rk, .int .i64 rj, .slice a6 E.length c6] 57)
  have l6 : w6.heap.size < (w6.alloc (.cells #[.int .i64 rk, .int .i64 rj, .slice a6 E.length c6] 57)).heap.size := by simp
  have q7 := below_seq q6 A6
  have Q7 := below_seq Q6 A6
  have p57 := p56.later A6
  have p67 := p6.later A6
  have K57 := (A6.block _ l56).trans K56
  have l57 := Nat.lt_of_lt_of_le l56 A6.size
  clear q6 Q6 p56 p6 K56 l56 A6
  go_wp2_with fail
  generalize w6.alloc (.cells #[.int .i64 rk, .int .i64 rj, .slice a6 E.length c6] 57) = w7 at *
  generalize w6.heap.size = g6 at *
  with_reducible refine Calls.mono (kept_anyB l w7 ad a l.length c cap rfl (s1.later q7) (hP.later Q7) hl4) ?_
  rintro e w8 ⟨rfl, b8⟩
  dsimp only
  have K58 := (b8.block _ l57).trans K57
  have K68 := (b8.block _ l6).trans K6
  obtain ⟨x0, x1, x2⟩ := box3 K58
  obtain ⟨y0, y1, y2⟩ := box3 K68
  have q8 := below_seq q7 b8
  have Q8 := below_seq Q7 b8
  have p58 := p57.later b8
  have p68 := p67.later b8
  have hsm := same_anyB E E w8 a5 a6 E.length E.length c5 c6 rfl rfl p58 p68 (by omega) (by omega)
  rw [same_true rfl] at hsm
  clear q7 Q7 p57 p67 K57 K6 l57 l6 b8 K58 K68 p58 p68
  go_wp2_with fail
  with_reducible refine Calls.mono hsm ?_
  rintro e w9 ⟨rfl, b9⟩
  dsimp only
  have q9 := below_seq q8 b9
  have Q9 := below_seq Q8 b9
  have o9 : Ow W.heap.size w9 (.slice ad (l.length + 1) c) (xd l 0 ++ [mk]) := by rw [xd_zero]; exact o1.later q9
  clear hsm q8 Q8 b9 o1 q9 x0 x1 x2 y0 y1 y2 s1 hS
  go_wp2_with fail
  go_loopw [20] (fun i wr => ∃ k : Nat, k ≤ l.length ∧ i = .int .i64 (k : Int) ∧ Ow W.heap.size wr (.slice ad (l.length + 1) c) (xd l k ++ [mk]) ∧ Below W.heap.size W wr) (fun i _ => l.length - (intOf i).toNat)
  case atStart => exact ⟨0, by omega, rfl, o9, Q9⟩
  case round =>
    clear o9 Q9
    obtain ⟨k, hk, rfl, hO, hb⟩ := hrel
    have hxl := xd_len l k
    by_cases hlt : k < l.length
    · have d1 : decide ((k : Int) < (l.length : Int)) = true := decide_eq_true (by omega)
      have k2 : (k : Int) < (l.length : Int) := by omega
      obtain ⟨p, hp⟩ : ∃ p, l[k]? = some p := ⟨_, List.getElem?_eq_getElem hlt⟩
      have hv := (hz k p hp).2
      have hg := xd_get l k p hp
      have hg2 : (xd l k ++ [mk])[k]? = some p := by rw [List.getElem?_append_left (by omega)]; exact hg
      obtain ⟨g, c', e, hg1, hgl, hfr⟩ := hO.form (by simp)
      injection e with e1 e2 e3
      subst e1 e3
      clear e2
      obtain ⟨a9, c9, e, pX⟩ := hO.slice
      injection e with e1 e2 e3
      subst e1 e3
      clear e2
      obtain ⟨b9, o9, e, _, c1, c2⟩ := pX.get k p hg2
      injection e with e
      injection e with e1 e4
      subst e1 e4
      simp only [Nat.zero_add] at c1 c2
      have ra : ∀ w, (adS (str p.val) (.string ⟨#[120]⟩)).run Try.prog w = .ok (str (p.val ++ [120])) w := fun w => run_ad p.val [120] (by simp; omega) w
      have HO2 : Hid (Ow W.heap.size (wr.setCell ⟨g, k * 2 + 1, none⟩ (str (p.val ++ [120]))) (.slice (some ⟨g, 0, none⟩) (l.length + 1) c) (xd l (k + 1) ++ [mk])) := ⟨by
        have := hO.put1 (q := xx p) hg2 rfl (by simp [hxl])
        rw [List.set_append_left _ _ (by omega), xd_set l k p hp] at this
        exact this⟩
      clear pX hO hg hg2 hp
      generalize p.val = pvl at *
      generalize pvl ++ [120] = pvx at *
      go_wp2_with fail
      exact ⟨⟨k + 1, by omega, by go_num, HO2.out, hb.setCell (p := ⟨g, k * 2 + 1, none⟩) hg1 _⟩, by simp [intOf]; omega⟩
    · obtain rfl : k = l.length := by omega
      have d1 : decide ((l.length : Int) < (l.length : Int)) = false := decide_eq_false (by omega)
      rw [xd_all] at hO
      have s9 : Sl wr ad c (l.map xx ++ [mk]) := by
        obtain ⟨a', c', e', s'⟩ := hO.sl
        injection e' with e1 e2 e3
        subst e1 e3
        exact s'
      have s10 := s9.head
      have hml : (l.map xx).length = l.length := by simp
      generalize l.map xx = M at *
      have HWR : ∃ T z, wrote kind link M = .tuple #[str T, .int .i64 z] := ⟨_, _, rfl⟩
      obtain ⟨T2, z2, hwr⟩ := HWR
      have cW := write_anyB kind link M wr ad l.length c hml s10.at' (by omega)
      have cV := fun w h => rWrite_any kind link M w ad l.length c hml h (by omega)
      have cS := fun w h => Size_any M w ad c h (by omega)
      have cT := fun w h => rSize_any M w ad l.length c hml h (by omega)
      rw [hwr] at cW cV
      rw [hml] at cS
      generalize totw M = tm at *
      clear hwr hO s9 hxl hml
      go_wp2_with fail
      with_reducible refine Calls.mono cW ?_
      rintro e w11 ⟨rfl, b11⟩
      dsimp only
      go_wp2_with fail
      with_reducible refine Calls.mono (cV w11 (s10.later b11).at') ?_
      rintro e w12 ⟨rfl, b12⟩
      dsimp only
      have q12 := below_seq b11 b12
      go_wp2_with fail
      with_reducible refine Calls.mono (cS w12 (s10.later q12).at') ?_
      rintro e w13 ⟨rfl, b13⟩
      dsimp only
      have q13 := below_seq q12 b13
      go_wp2_with fail
      with_reducible refine Calls.mono (cT w13 (s10.later q13).at') ?_
      rintro e w14 ⟨rfl, b14⟩
      dsimp only
      have q14 := below_seq q13 b14
      go_wp2_with fail
      with_reducible refine Calls.mono (first_any w14) ?_
      rintro e w15 ⟨rfl, b15⟩
      dsimp only
      go_wp2_with fail
      go_ret
      exact ⟨rfl, below_seq hb (below_seq q14 b15)⟩
end Go.Proofs.Ytibmnpkmbhjniaa
