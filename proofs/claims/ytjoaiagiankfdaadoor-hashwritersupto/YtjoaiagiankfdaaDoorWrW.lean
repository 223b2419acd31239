/- HashWriters: the walk, where the script is short. -/
import Derived.Test.YtjoaiagiankfdaaDoorOps
import Derived.Test.YtjoaiagiankfdaaDoorRSum
import Derived.Test.YtjoaiagiankfdaaDoorGrown3
namespace Go.Proofs.YtjoaiagiankfdaaDoor
open Go.ChangeShapes Go.WideShapes Go.ChangeAt Go.RowKit
set_option linter.unusedVariables false
set_option linter.unusedSimpArgs false
namespace hashWriters
def OpsIn (w : World) (a : Option Addr) (len B : Nat) : Prop :=
  ∀ k, k < len → ∃ (b off : Nat) (two : Bool) (s : ByteArray) (z : Int) (ask : Bool), a = some ⟨b, off, none⟩ ∧ b < w.heap.size ∧ w.cell? ⟨b, off + 4 * k, none⟩ = some (.bool two) ∧ w.cell? ⟨b, off + 4 * k + 1, none⟩ = some (.string s) ∧
    w.cell? ⟨b, off + 4 * k + 2, none⟩ = some (.int .i64 z) ∧ w.cell? ⟨b, off + 4 * k + 3, none⟩ = some (.bool ask) ∧ s.size ≤ B ∧ (Lit.int .i64 z).wf = true
/-- What the loop holds: two writers, and the text that each was given. -/
structure HW (w : World) (G0 G1 P n : Nat) (s0 s1 : ByteArray) (wr : World) : Prop where
  bel : Below w.heap.size w wr
  kin : KIn wr
  w0 : WrAt wr G0 s0.data.toList
  w1 : WrAt wr G1 s1.data.toList
  pp : wr.heap[P]? = some (.cells #[.pointer (some ⟨G0, 0, none⟩), .pointer (some ⟨G1, 0, none⟩)] 40 (0, 0))
  aa : wr.heap[P + 1]? = some (.cells #[.string s0, .string s1] 41 (0, 0))
  l0 : s0.size ≤ n * 1100000
  l1 : s1.size ≤ n * 1100000
theorem HW.next {w : World} {G0 G1 P n : Nat} {s0 s1 : ByteArray} {w2 w3 : World} (h : HW w G0 G1 P n s0 s1 w2) (q : Below w2.heap.size w2 w3) : HW w G0 G1 P n s0 s1 w3 :=
  ⟨below_seq h.bel q, h.kin.seq q, h.w0.below q, h.w1.below q, carry h.pp q, carry h.aa q, h.l0, h.l1⟩
/-- .. behind a Write, ahead of the text's own growth. -/
structure HW2 (w : World) (G0 G1 P n : Nat) (s0 s1 : ByteArray) (m0 m1 : List UInt8) (wr : World) : Prop where
  bel : Below w.heap.size w wr
  kin : KIn wr
  w0 : WrAt wr G0 m0
  w1 : WrAt wr G1 m1
  pp : wr.heap[P]? = some (.cells #[.pointer (some ⟨G0, 0, none⟩), .pointer (some ⟨G1, 0, none⟩)] 40 (0, 0))
  aa : wr.heap[P + 1]? = some (.cells #[.string s0, .string s1] 41 (0, 0))
  l0 : s0.size ≤ n * 1100000
  l1 : s1.size ≤ n * 1100000
theorem WrAt.but {g h : Nat} {a b : World} {m : List UInt8} (hw : WrAt a g m) (t : But h a b) (hne : g ≠ h) : WrAt b g m := by
  obtain ⟨f, hf, hh⟩ := hw
  exact ⟨f, hf, by rw [t.block g (lt_of_row2 hh) hne]; exact hh⟩
theorem HW.wrote0 {w : World} {G0 G1 P n : Nat} {s0 s1 : ByteArray} {m : List UInt8} {w5 w6 : World} (h : HW w G0 G1 P n s0 s1 w5) (W6 : WrAt w6 G0 m) (t : But G0 w5 w6) (h1 : G0 < G1) (h2 : G1 < P) (h3 : w.heap.size ≤ G0) (h4 : 0 < G0) : HW2 w G0 G1 P n s0 s1 m s1.data.toList w6 :=
  ⟨h.bel.trans (t.below h.bel.size h3), t.kin h.kin (by omega), W6, WrAt.but h.w1 t (by omega), by rw [t.block P (lt_of_row2 h.pp) (by omega)]; exact h.pp, by rw [t.block (P + 1) (lt_of_row2 h.aa) (by omega)]; exact h.aa, h.l0, h.l1⟩
theorem HW.wrote1 {w : World} {G0 G1 P n : Nat} {s0 s1 : ByteArray} {m : List UInt8} {w5 w6 : World} (h : HW w G0 G1 P n s0 s1 w5) (W6 : WrAt w6 G1 m) (t : But G1 w5 w6) (h1 : G0 < G1) (h2 : G1 < P) (h3 : w.heap.size ≤ G0) (h4 : 0 < G0) : HW2 w G0 G1 P n s0 s1 s0.data.toList m w6 :=
  ⟨h.bel.trans (t.below h.bel.size (by omega)), t.kin h.kin (by omega), WrAt.but h.w0 t (by omega), W6, by rw [t.block P (lt_of_row2 h.pp) (by omega)]; exact h.pp, by rw [t.block (P + 1) (lt_of_row2 h.aa) (by omega)]; exact h.aa, h.l0, h.l1⟩
theorem eqSelf (g : Nat → UInt8) (w : World) : (Op.equalIn 10000 22 (.agg (b32 g)) (.agg (b32 g))).run Tryd.prog w = .ok true w := by
  rw [eq22, eqb_self]
theorem app_list (a b : ByteArray) : (a ++ b).data.toList = a.data.toList ++ b.data.toList := by
  rw [ByteArray.data_append, Array.toList_append]
theorem WrAt.set {g B i : Nat} {a : World} {m : List UInt8} {v : Value} (hw : WrAt a g m) (hne : g ≠ B) : WrAt (a.setCell ⟨B, i, none⟩ v) g m := by
  obtain ⟨f, hf, hh⟩ := hw
  exact ⟨f, hf, by rw [Below.heap_setCell _ _ _ _ hne]; exact hh⟩
theorem HW2.grew0 {w : World} {G0 G1 P n : Nat} {s0 s1 t : ByteArray} {w6 : World} (h : HW2 w G0 G1 P n s0 s1 (s0.data.toList ++ t.data.toList) s1.data.toList w6) (ht : t.size ≤ 1048576) (h1 : G0 < G1) (h2 : G1 < P) (h3 : w.heap.size ≤ G0) (h4 : 0 < w.heap.size) : HW w G0 G1 P (n + 1) (s0 ++ t) s1 (w6.setCell ⟨P + 1, 0, none⟩ (.string (s0 ++ t))) := by
  have q : Below w.heap.size w6 (w6.setCell ⟨P + 1, 0, none⟩ (.string (s0 ++ t))) := (Below.refl _ _).setCell (by show w.heap.size ≤ P + 1; omega) _
  refine ⟨h.bel.trans q, h.kin.below q h4, ?_, WrAt.set h.w1 (by omega), ?_, ?_, ?_, ?_⟩
  · rw [app_list]; exact WrAt.set h.w0 (by omega)
  · rw [Below.heap_setCell _ _ _ _ (by show P ≠ P + 1; omega)]; exact h.pp
  · rw [cell_set _ _ _ _ _ _ h.aa]; rfl
  · rw [ByteArray.size_append, Nat.succ_mul]; exact Nat.add_le_add h.l0 (Nat.le_trans ht (by decide))
  · rw [Nat.succ_mul]; exact Nat.le_trans h.l1 (Nat.le_add_right _ _)
theorem HW2.grew1 {w : World} {G0 G1 P n : Nat} {s0 s1 t : ByteArray} {w6 : World} (h : HW2 w G0 G1 P n s0 s1 s0.data.toList (s1.data.toList ++ t.data.toList) w6) (ht : t.size ≤ 1048576) (h1 : G0 < G1) (h2 : G1 < P) (h3 : w.heap.size ≤ G0) (h4 : 0 < w.heap.size) : HW w G0 G1 P (n + 1) s0 (s1 ++ t) (w6.setCell ⟨P + 1, 1, none⟩ (.string (s1 ++ t))) := by
  have q : Below w.heap.size w6 (w6.setCell ⟨P + 1, 1, none⟩ (.string (s1 ++ t))) := (Below.refl _ _).setCell (by show w.heap.size ≤ P + 1; omega) _
  refine ⟨h.bel.trans q, h.kin.below q h4, WrAt.set h.w0 (by omega), ?_, ?_, ?_, ?_, ?_⟩
  · rw [app_list]; exact WrAt.set h.w1 (by omega)
  · rw [Below.heap_setCell _ _ _ _ (by show P ≠ P + 1; omega)]; exact h.pp
  · rw [cell_set _ _ _ _ _ _ h.aa]; rfl
  · rw [Nat.succ_mul]; exact Nat.le_trans h.l0 (Nat.le_add_right _ _)
  · rw [ByteArray.size_append, Nat.succ_mul]; exact Nat.add_le_add h.l1 (Nat.le_trans ht (by decide))
attribute [local go_sem ↓] Go.wp_at_zero Go.wp_at_succ
set_option maxHeartbeats 4000000 in
set_option maxRecDepth 8000 in
theorem walk (a : Option Addr) (len cap : Nat) (w : World) (hI : OpsIn w a len 1048576) (hlen : len ≤ 1048576) (hK : KIn w) :
    Calls Tryd.prog 8 #[.slice a len cap] w fun e w' => e = .returned (.bool true) ∧ Below w.heap.size w w' := by
  go_enter Tryd.func8, Tryd.ntmps8
  go_wp2_with fail
  refine (head_any w hK).mono ?_
  rintro e w1 ⟨rfl, b1⟩
  have k1 := hK.seq b1
  go_wp2_with fail
  refine (new_any _).mono ?_
  rintro e w2 ⟨rfl, W2, b2⟩
  go_wp2_with fail
  refine (new_any _).mono ?_
  rintro e w3 ⟨rfl, W3, b3⟩
  go_wp2_with fail
  obtain ⟨W4, e4, b4, r0, r1⟩ : ∃ W4, W4 = (w3.alloc (.cells #[.pointer (some ⟨w1.heap.size, 0, none⟩), .pointer (some ⟨w2.heap.size, 0, none⟩)] 40)).alloc (.cells #[.string ⟨#[]⟩, .string ⟨#[]⟩] 41) ∧ Below w3.heap.size w3 W4 ∧ W4.heap[w3.heap.size]? = some (.cells #[.pointer (some ⟨w1.heap.size, 0, none⟩), .pointer (some ⟨w2.heap.size, 0, none⟩)] 40 (0, 0)) ∧ W4.heap[w3.heap.size + 1]? = some (.cells #[.string ⟨#[]⟩, .string ⟨#[]⟩] 41 (0, 0)) :=
    ⟨_, rfl, ((Below.refl _ _).alloc (Nat.le_refl _) _).alloc (by simp) _, heap_alloc2_old _ _ _, heap_alloc2_new _ _ _⟩
  rw [← e4]
  clear e4
  have hg0 : 0 < w1.heap.size := k1.lt
  have hg1 : w1.heap.size < w2.heap.size := by obtain ⟨f, _, hh⟩ := W2; exact lt_of_row2 hh
  have hg2 : w2.heap.size < w3.heap.size := by obtain ⟨f, _, hh⟩ := W3; exact lt_of_row2 hh
  have hg3 : w.heap.size ≤ w1.heap.size := b1.size
  have S : HW w w1.heap.size w2.heap.size w3.heap.size 0 ⟨#[]⟩ ⟨#[]⟩ W4 :=
    ⟨below_seq (below_seq (below_seq b1 b2) b3) b4, ((k1.seq b2).seq b3).seq b4, (W2.below b3).below b4, W3.below b4, r0, r1, by show 0 ≤ _; omega, by show 0 ≤ _; omega⟩
  clear b1 b2 b3 b4 r0 r1 W2 W3 k1
  generalize hG0 : w1.heap.size = G0 at *
  generalize hG1 : w2.heap.size = G1 at *
  generalize hP : w3.heap.size = P at *
  go_loopw [5] (fun i wr => ∃ (k : Nat) (s0 s1 : ByteArray), k ≤ len ∧ i = .int .i64 k ∧ HW w G0 G1 P k s0 s1 wr) (fun i _ => len - (intOf i).toNat)
  case atStart => exact ⟨0, _, _, by omega, rfl, S⟩
  case round =>
    clear S
    obtain ⟨k, s0, s1, hk, rfl, S⟩ := hrel
    by_cases hlt : k < len
    · obtain ⟨b, off, two, s, z, ask, rfl, hb, c0, c1, c2, c3, hs, wz⟩ := hI k hlt
      rw [← S.bel.cell (p := ⟨b, off + 4 * k, none⟩) hb] at c0
      rw [← S.bel.cell (p := ⟨b, off + 4 * k + 1, none⟩) hb] at c1
      rw [← S.bel.cell (p := ⟨b, off + 4 * k + 2, none⟩) hb] at c2
      rw [← S.bel.cell (p := ⟨b, off + 4 * k + 3, none⟩) hb] at c3
      rw [Nat.mul_comm 4 k] at c0 c1 c2 c3
      have hd : decide ((k : Int) < (len : Int)) = true := decide_eq_true (by omega)
      have i0 : (0 : Int) ≤ (k : Int) := by omega
      have i1 : (k : Int) < (len : Int) := by omega
      cases two
      · go_wp2_with fail
        have zb := bounds_i64 wz
        refine (grown3 s z hs zb.2 _).mono ?_
        rintro e w5 ⟨t, rfl, ht, rfl⟩
        have S5 := S.next (w3 := wr.alloc (.cells #[.bool false, .string s, .int .i64 z, .bool ask] 43)) ((Below.refl _ _).alloc (Nat.le_refl _) _)
        have o5 : (wr.alloc (.cells #[.bool false, .string s, .int .i64 z, .bool ask] 43)).heap[wr.heap.size]? = some (.cells #[.bool false, .string s, .int .i64 z, .bool ask] 43 (0, 0)) := heap_alloc_new _ _
        have hO : P + 1 < wr.heap.size := lt_of_row2 S.aa
        clear c0 c1 c2 c3 S
        generalize hOO : wr.heap.size = O at *
        generalize (wr.alloc (.cells #[.bool false, .string s, .int .i64 z, .bool ask] 43)) = W5 at *
        have pc : W5.cell? ⟨P, 0, none⟩ = some (.pointer (some ⟨G0, 0, none⟩)) := by rw [cell_of_row _ _ _ _ _ _ S5.pp]; rfl
        go_wp2_with fail
        have hlw := S5.l0
        refine (write_any G0 _ t W5 S5.kin (by omega) S5.w0 (by rw [Array.length_toList]; show s0.size + t.size < _; omega)).mono ?_
        rintro e w6 ⟨rfl, W6, t6⟩
        clear pc
        have S6 : HW2 w G0 G1 P k s0 s1 (s0.data.toList ++ t.data.toList) (s1.data.toList) w6 := S5.wrote0 W6 t6 hg1 hg2 hg3 hg0
        have o6 : w6.heap[O]? = some (.cells #[.bool false, .string s, .int .i64 z, .bool ask] 43 (0, 0)) := by rw [t6.block O (lt_of_row2 o5) (by omega)]; exact o5
        clear o5 S5 W6 t6
        have ac : w6.cell? ⟨P + 1, 0, none⟩ = some (.string s0) := by rw [cell_of_row _ _ _ _ _ _ S6.aa]; rfl
        have af : w6.frozen? ⟨P + 1, 0, none⟩ = false := frozen_of_row _ _ _ _ _ S6.aa
        have az : ¬ 9223372036854775807 < s0.size + t.size := by omega
        have oc : w6.cell? ⟨O, 3, none⟩ = some (.bool ask) := by rw [cell_of_row _ _ _ _ _ _ o6]; rfl
        go_wp2_with fail
        have S7 := S6.grew0 ht hg1 hg2 hg3 hK.lt
        have o7 : (w6.setCell ⟨P + 1, 0, none⟩ (.string (s0 ++ t))).heap[O]? = some (.cells #[.bool false, .string s, .int .i64 z, .bool ask] 43 (0, 0)) := by rw [Below.heap_setCell _ _ _ _ (by show O ≠ P + 1; omega)]; exact o6
        clear S6 o6 ac af az oc
        generalize (w6.setCell ⟨P + 1, 0, none⟩ (.string (s0 ++ t))) = W7 at *
        have hl7 := S7.l0
        have hl8 : (s0 ++ t).size ≤ 140737488351232 := by omega
        clear hl7
        generalize s0 ++ t = u at *
        have oc : W7.cell? ⟨O, 3, none⟩ = some (.bool ask) := by rw [cell_of_row _ _ _ _ _ _ o7]; rfl
        cases ask
        · go_quiet (fail)
          go_wp2_with fail
          exact ⟨⟨k + 1, u, s1, by omega, by go_num, S7.next ⟨rfl, rfl, rfl, Nat.le_refl _, fun _ _ => rfl⟩⟩, by simp [intOf]; omega⟩
        · have eU := eqSelf (dg u.data.toList)
          have hpc : ∀ w', HW w G0 G1 P (k + 1) u s1 w' → w'.cell? ⟨P, 0, none⟩ = some (.pointer (some ⟨G0, 0, none⟩)) := fun w' h => by rw [cell_of_row _ _ _ _ _ _ h.pp]; rfl
          have hac : ∀ w', HW w G0 G1 P (k + 1) u s1 w' → w'.cell? ⟨P + 1, 0, none⟩ = some (.string u) := fun w' h => by rw [cell_of_row _ _ _ _ _ _ h.aa]; rfl
          have hmk : ∀ w' w'', (HW w G0 G1 P (k + 1) u s1 w' ∧ w'.heap[O]? = some (.cells #[.bool false, .string s, .int .i64 z, .bool true] 43 (0, 0))) → Below w'.heap.size w' w'' → (HW w G0 G1 P (k + 1) u s1 w'' ∧ w''.heap[O]? = some (.cells #[.bool false, .string s, .int .i64 z, .bool true] 43 (0, 0))) ∧ w''.cell? ⟨P, 0, none⟩ = some (.pointer (some ⟨G0, 0, none⟩)) ∧ w''.cell? ⟨P + 1, 0, none⟩ = some (.string u) ∧ w''.cell? ⟨O, 3, none⟩ = some (.bool true) :=
            fun w' w'' h q => ⟨⟨h.1.next q, carry h.2 q⟩, hpc _ (h.1.next q), hac _ (h.1.next q), by rw [cell_of_row _ _ _ _ _ _ (carry h.2 q)]; rfl⟩
          have hws : ∀ w', HW w G0 G1 P (k + 1) u s1 w' → Calls Tryd.prog 14 #[.pointer (some ⟨G0, 0, none⟩)] w' fun e w'' => e = .returned (.agg (b32 (dg u.data.toList))) ∧ Below w'.heap.size w' w'' := fun w' h => wsum_any G0 _ w' h.kin h.w0 (by rw [Array.length_toList]; show u.size < _; omega)
          have hrs := fun w' => refSum_any u w' hl8
          have st : (HW w G0 G1 P (k + 1) u s1 W7 ∧ W7.heap[O]? = some (.cells #[.bool false, .string s, .int .i64 z, .bool true] 43 (0, 0))) := ⟨S7, o7⟩
          clear S7 o7 oc hpc hac
          go_region_held3 (fun w' => (HW w G0 G1 P (k + 1) u s1 w' ∧ w'.heap[O]? = some (.cells #[.bool false, .string s, .int .i64 z, .bool true] 43 (0, 0))) ∧ w'.cell? ⟨P, 0, none⟩ = some (.pointer (some ⟨G0, 0, none⟩)) ∧ w'.cell? ⟨P + 1, 0, none⟩ = some (.string u) ∧ w'.cell? ⟨O, 3, none⟩ = some (.bool true))
            (first | exact hmk _ _ st (Below.refl _ _) | exact hmk _ _ st (Below.refl _ _).drew | exact hmk _ _ (And.left (by assumption)) bq)
            (first | (go_at_call 14; refine (hws _ (And.left (And.left (by assumption)))).mono ?_; rintro e w9 ⟨rfl, bq⟩) | (go_at_call 19; refine (hrs _).mono ?_; rintro e w9 ⟨rfl, bq⟩))
          all_goals go_wp2_with fail
          all_goals exact ⟨⟨k + 1, u, s1, by omega, by go_num, And.left (And.left (by assumption))⟩, by simp [intOf]; omega⟩
      · go_wp2_with fail
        have zb := bounds_i64 wz
        refine (grown3 s z hs zb.2 _).mono ?_
        rintro e w5 ⟨t, rfl, ht, rfl⟩
        have S5 := S.next (w3 := wr.alloc (.cells #[.bool true, .string s, .int .i64 z, .bool ask] 43)) ((Below.refl _ _).alloc (Nat.le_refl _) _)
        have o5 : (wr.alloc (.cells #[.bool true, .string s, .int .i64 z, .bool ask] 43)).heap[wr.heap.size]? = some (.cells #[.bool true, .string s, .int .i64 z, .bool ask] 43 (0, 0)) := heap_alloc_new _ _
        have hO : P + 1 < wr.heap.size := lt_of_row2 S.aa
        clear c0 c1 c2 c3 S
        generalize hOO : wr.heap.size = O at *
        generalize (wr.alloc (.cells #[.bool true, .string s, .int .i64 z, .bool ask] 43)) = W5 at *
        have pc : W5.cell? ⟨P, 1, none⟩ = some (.pointer (some ⟨G1, 0, none⟩)) := by rw [cell_of_row _ _ _ _ _ _ S5.pp]; rfl
        go_wp2_with fail
        have hlw := S5.l1
        refine (write_any G1 _ t W5 S5.kin (by omega) S5.w1 (by rw [Array.length_toList]; show s1.size + t.size < _; omega)).mono ?_
        rintro e w6 ⟨rfl, W6, t6⟩
        clear pc
        have S6 : HW2 w G0 G1 P k s0 s1 (s0.data.toList) (s1.data.toList ++ t.data.toList) w6 := S5.wrote1 W6 t6 hg1 hg2 hg3 hg0
        have o6 : w6.heap[O]? = some (.cells #[.bool true, .string s, .int .i64 z, .bool ask] 43 (0, 0)) := by rw [t6.block O (lt_of_row2 o5) (by omega)]; exact o5
        clear o5 S5 W6 t6
        have ac : w6.cell? ⟨P + 1, 1, none⟩ = some (.string s1) := by rw [cell_of_row _ _ _ _ _ _ S6.aa]; rfl
        have af : w6.frozen? ⟨P + 1, 1, none⟩ = false := frozen_of_row _ _ _ _ _ S6.aa
        have az : ¬ 9223372036854775807 < s1.size + t.size := by omega
        have oc : w6.cell? ⟨O, 3, none⟩ = some (.bool ask) := by rw [cell_of_row _ _ _ _ _ _ o6]; rfl
        go_wp2_with fail
        have S7 := S6.grew1 ht hg1 hg2 hg3 hK.lt
        have o7 : (w6.setCell ⟨P + 1, 1, none⟩ (.string (s1 ++ t))).heap[O]? = some (.cells #[.bool true, .string s, .int .i64 z, .bool ask] 43 (0, 0)) := by rw [Below.heap_setCell _ _ _ _ (by show O ≠ P + 1; omega)]; exact o6
        clear S6 o6 ac af az oc
        generalize (w6.setCell ⟨P + 1, 1, none⟩ (.string (s1 ++ t))) = W7 at *
        have hl7 := S7.l1
        have hl8 : (s1 ++ t).size ≤ 140737488351232 := by omega
        clear hl7
        generalize s1 ++ t = u at *
        have oc : W7.cell? ⟨O, 3, none⟩ = some (.bool ask) := by rw [cell_of_row _ _ _ _ _ _ o7]; rfl
        cases ask
        · go_quiet (fail)
          go_wp2_with fail
          exact ⟨⟨k + 1, s0, u, by omega, by go_num, S7.next ⟨rfl, rfl, rfl, Nat.le_refl _, fun _ _ => rfl⟩⟩, by simp [intOf]; omega⟩
        · have eU := eqSelf (dg u.data.toList)
          have hpc : ∀ w', HW w G0 G1 P (k + 1) s0 u w' → w'.cell? ⟨P, 1, none⟩ = some (.pointer (some ⟨G1, 0, none⟩)) := fun w' h => by rw [cell_of_row _ _ _ _ _ _ h.pp]; rfl
          have hac : ∀ w', HW w G0 G1 P (k + 1) s0 u w' → w'.cell? ⟨P + 1, 1, none⟩ = some (.string u) := fun w' h => by rw [cell_of_row _ _ _ _ _ _ h.aa]; rfl
          have hmk : ∀ w' w'', (HW w G0 G1 P (k + 1) s0 u w' ∧ w'.heap[O]? = some (.cells #[.bool true, .string s, .int .i64 z, .bool true] 43 (0, 0))) → Below w'.heap.size w' w'' → (HW w G0 G1 P (k + 1) s0 u w'' ∧ w''.heap[O]? = some (.cells #[.bool true, .string s, .int .i64 z, .bool true] 43 (0, 0))) ∧ w''.cell? ⟨P, 1, none⟩ = some (.pointer (some ⟨G1, 0, none⟩)) ∧ w''.cell? ⟨P + 1, 1, none⟩ = some (.string u) ∧ w''.cell? ⟨O, 3, none⟩ = some (.bool true) :=
            fun w' w'' h q => ⟨⟨h.1.next q, carry h.2 q⟩, hpc _ (h.1.next q), hac _ (h.1.next q), by rw [cell_of_row _ _ _ _ _ _ (carry h.2 q)]; rfl⟩
          have hws : ∀ w', HW w G0 G1 P (k + 1) s0 u w' → Calls Tryd.prog 14 #[.pointer (some ⟨G1, 0, none⟩)] w' fun e w'' => e = .returned (.agg (b32 (dg u.data.toList))) ∧ Below w'.heap.size w' w'' := fun w' h => wsum_any G1 _ w' h.kin h.w1 (by rw [Array.length_toList]; show u.size < _; omega)
          have hrs := fun w' => refSum_any u w' hl8
          have st : (HW w G0 G1 P (k + 1) s0 u W7 ∧ W7.heap[O]? = some (.cells #[.bool true, .string s, .int .i64 z, .bool true] 43 (0, 0))) := ⟨S7, o7⟩
          clear S7 o7 oc hpc hac
          go_region_held3 (fun w' => (HW w G0 G1 P (k + 1) s0 u w' ∧ w'.heap[O]? = some (.cells #[.bool true, .string s, .int .i64 z, .bool true] 43 (0, 0))) ∧ w'.cell? ⟨P, 1, none⟩ = some (.pointer (some ⟨G1, 0, none⟩)) ∧ w'.cell? ⟨P + 1, 1, none⟩ = some (.string u) ∧ w'.cell? ⟨O, 3, none⟩ = some (.bool true))
            (first | exact hmk _ _ st (Below.refl _ _) | exact hmk _ _ st (Below.refl _ _).drew | exact hmk _ _ (And.left (by assumption)) bq)
            (first | (go_at_call 14; refine (hws _ (And.left (And.left (by assumption)))).mono ?_; rintro e w9 ⟨rfl, bq⟩) | (go_at_call 19; refine (hrs _).mono ?_; rintro e w9 ⟨rfl, bq⟩))
          all_goals go_wp2_with fail
          all_goals exact ⟨⟨k + 1, s0, u, by omega, by go_num, And.left (And.left (by assumption))⟩, by simp [intOf]; omega⟩
    · have hd : decide ((k : Int) < (len : Int)) = false := decide_eq_false (by omega)
      have hl0 := S.l0
      have hl1 := S.l1
      have z0 : s0.size ≤ 140737488351232 := by omega
      have z1 : s1.size ≤ 140737488351232 := by omega
      clear hl0 hl1
      have e0 := eqSelf (dg s0.data.toList)
      have e1 := eqSelf (dg s1.data.toList)
      have hmk : ∀ w' w'', HW w G0 G1 P k s0 s1 w' → Below w'.heap.size w' w'' → HW w G0 G1 P k s0 s1 w'' ∧ w''.cell? ⟨P, 0, none⟩ = some (.pointer (some ⟨G0, 0, none⟩)) ∧ w''.cell? ⟨P, 1, none⟩ = some (.pointer (some ⟨G1, 0, none⟩)) ∧ w''.cell? ⟨P + 1, 0, none⟩ = some (.string s0) ∧ w''.cell? ⟨P + 1, 1, none⟩ = some (.string s1) :=
        fun w' w'' h q => ⟨h.next q, by rw [cell_of_row _ _ _ _ _ _ (h.next q).pp]; rfl, by rw [cell_of_row _ _ _ _ _ _ (h.next q).pp]; rfl, by rw [cell_of_row _ _ _ _ _ _ (h.next q).aa]; rfl, by rw [cell_of_row _ _ _ _ _ _ (h.next q).aa]; rfl⟩
      have hw0 : ∀ w', HW w G0 G1 P k s0 s1 w' → Calls Tryd.prog 14 #[.pointer (some ⟨G0, 0, none⟩)] w' fun e w'' => e = .returned (.agg (b32 (dg s0.data.toList))) ∧ Below w'.heap.size w' w'' := fun w' h => wsum_any G0 _ w' h.kin h.w0 (by rw [Array.length_toList]; show s0.size < _; omega)
      have hw1 : ∀ w', HW w G0 G1 P k s0 s1 w' → Calls Tryd.prog 14 #[.pointer (some ⟨G1, 0, none⟩)] w' fun e w'' => e = .returned (.agg (b32 (dg s1.data.toList))) ∧ Below w'.heap.size w' w'' := fun w' h => wsum_any G1 _ w' h.kin h.w1 (by rw [Array.length_toList]; show s1.size < _; omega)
      have hr0 := fun w' => refSum_any s0 w' z0
      have hr1 := fun w' => refSum_any s1 w' z1
      go_wp2_with fail
      go_region_held3 (fun w' => HW w G0 G1 P k s0 s1 w' ∧ w'.cell? ⟨P, 0, none⟩ = some (.pointer (some ⟨G0, 0, none⟩)) ∧ w'.cell? ⟨P, 1, none⟩ = some (.pointer (some ⟨G1, 0, none⟩)) ∧ w'.cell? ⟨P + 1, 0, none⟩ = some (.string s0) ∧ w'.cell? ⟨P + 1, 1, none⟩ = some (.string s1))
        (first | exact hmk _ _ S (Below.refl _ _) | exact hmk _ _ S (Below.refl _ _).drew | exact hmk _ _ (And.left (by assumption)) bq)
        (first
          | (go_at_call 14; with_reducible refine Calls.mono (hw0 _ (And.left (by assumption))) ?_; rintro e w9 ⟨rfl, bq⟩)
          | (go_at_call 14; with_reducible refine Calls.mono (hw1 _ (And.left (by assumption))) ?_; rintro e w9 ⟨rfl, bq⟩)
          | (go_at_call 19; with_reducible refine Calls.mono (hr0 _) ?_; rintro e w9 ⟨rfl, bq⟩)
          | (go_at_call 19; with_reducible refine Calls.mono (hr1 _) ?_; rintro e w9 ⟨rfl, bq⟩))
      go_wp2_with fail
      go_ret
      exact ⟨rfl, HW.bel (And.left (by assumption))⟩
end hashWriters
end Go.Proofs.YtjoaiagiankfdaaDoor
