/- The document's Read. -/
import Derived.Test.YtahdndmmakdamaaQm
namespace Go.Proofs.Ytahdndmmakdamaa
set_option linter.unusedVariables false
set_option linter.unusedSimpArgs false
open Go.RowKit
attribute [local go_sem ↓] Go.wp_at_zero Go.wp_at_succ
theorem sgn_small {n : Nat} (h : n < 65536) : sgn n = (n : Int) := by unfold sgn; rw [if_pos (by omega)]
theorem qtext_n (r : List UInt8) (f : Bool) (w : World) (g wd : Nat) (hw : wd ≤ 2) (hR : QB w g r f) (hr : r.length ≤ 9223372036854775807) :
    Calls Try.prog 24 #[.pointer (some ⟨g, 0, none⟩), .int .i64 (wd : Int)] w fun e w' => e = .returned (.int .i64 (vl (qv wd r f) : Int)) ∧ QB w' g (qr wd r f) (tb wd r f) ∧ Cg g w w' := by
  have := qnumber_any wd r f w g hR (by omega) hr
  rw [sgn_small (by
    have h1 := vl_lt (qv wd r f)
    have h2 := qv_len wd r f
    have h3 : (256 : Nat) ^ (qv wd r f).length ≤ 256 ^ 2 := Nat.pow_le_pow_right (by omega) (by omega)
    omega)] at this
  exact this
theorem qtext_t (r : List UInt8) (f : Bool) (w : World) (g wd : Nat) (hw : wd ≤ 2) (hR : QB w g (qr wd r f) (tb wd r f)) (hr : r.length ≤ 9223372036854775807) :
    Calls Try.prog 25 #[.pointer (some ⟨g, 0, none⟩), .int .i64 (vl (qv wd r f) : Int)] w fun e w' => e = .returned (str (qxv wd r f)) ∧ QB w' g (qxr wd r f) (qxf wd r f) ∧ Cg g w w' :=
  qtake_any (vl (qv wd r f)) (qr wd r f) (tb wd r f) w g hR (by
    have h1 := vl_lt (qv wd r f)
    have h2 := qv_len wd r f
    have h3 : (256 : Nat) ^ (qv wd r f).length ≤ 256 ^ 2 := Nat.pow_le_pow_right (by omega) (by omega)
    omega) (Nat.le_trans (qr_len _ _ _) hr)
/-- what a version's box holds is new: the rest is as it was -/
structure QS (w : World) (g gv : Nat) (wr : World) (key : List UInt8) (seq : Int) (mk : Bool) (data : List UInt8) (s : Value) (r : List UInt8) (f : Bool) : Prop where
  v : Bv wr gv (str key) (.int .i64 seq) (.bool mk) (str data) s
  z : Bv wr w.heap.size (.string ⟨#[]⟩) (.int .i64 0) (.bool false) (.string ⟨#[]⟩) (.slice none 0 0)
  q : QB wr g r f
  b : Below w.heap.size w wr
theorem QS.cg {w : World} {g gv : Nat} {wr w' : World} {key : List UInt8} {seq : Int} {mk : Bool} {data : List UInt8} {s : Value} {r r' : List UInt8} {f f' : Bool} (h : QS w g gv wr key seq mk data s r f) (h1 : w.heap.size < g) (h2 : g < gv) (hc : Cg g wr w') (hq : QB w' g r' f') : QS w g gv w' key seq mk data s r' f' :=
  ⟨h.v.cg h2 hc, by unfold Bv; rw [hc.lo.block _ h1]; exact h.z, hq, h.b.trans (hc.lo.mono (by omega))⟩
theorem QS.up {w : World} {g gv : Nat} {wr w' : World} {key : List UInt8} {seq : Int} {mk : Bool} {data : List UInt8} {s : Value} {r : List UInt8} {f : Bool} (h : QS w g gv wr key seq mk data s r f) (h1 : w.heap.size < g) (h2 : g < gv) {B : Nat} (h3 : gv < B) (hb : Below B wr w') : QS w g gv w' key seq mk data s r f :=
  ⟨by unfold Bv; rw [hb.block _ h3]; exact h.v, by unfold Bv; rw [hb.block _ (by omega)]; exact h.z, QB.up h.q (by omega) hb, h.b.trans (hb.mono (by omega))⟩
theorem QS.later {w : World} {g gv : Nat} {wr w' : World} {key : List UInt8} {seq : Int} {mk : Bool} {data : List UInt8} {s : Value} {r : List UInt8} {f : Bool} (h : QS w g gv wr key seq mk data s r f) (hb : Below wr.heap.size wr w') : QS w g gv w' key seq mk data s r f :=
  ⟨h.v.later hb, h.z.later hb, h.q.later hb, h.b.trans (hb.mono h.b.size)⟩
theorem QS.set0 {w : World} {g gv : Nat} {wr : World} {key : List UInt8} {seq : Int} {mk : Bool} {data : List UInt8} {s : Value} {r : List UInt8} {f : Bool} (h : QS w g gv wr key seq mk data s r f) (h1 : w.heap.size < g) (h2 : g < gv) (x : List UInt8) : QS w g gv (wr.setCell ⟨gv, 0, none⟩ (str x)) x seq mk data s r f :=
  ⟨h.v.set0 (str x), h.z.other (g2 := gv) (j := 0) (by omega) (str x), QB.other h.q (g2 := gv) (j := 0) (by omega) (str x), h.b.setCell (p := ⟨gv, 0, none⟩) (by show _ ≤ gv; omega) (str x)⟩
theorem QS.set1 {w : World} {g gv : Nat} {wr : World} {key : List UInt8} {seq : Int} {mk : Bool} {data : List UInt8} {s : Value} {r : List UInt8} {f : Bool} (h : QS w g gv wr key seq mk data s r f) (h1 : w.heap.size < g) (h2 : g < gv) (x : Int) : QS w g gv (wr.setCell ⟨gv, 1, none⟩ (.int .i64 x)) key x mk data s r f :=
  ⟨h.v.set1 (.int .i64 x), h.z.other (g2 := gv) (j := 1) (by omega) (.int .i64 x), QB.other h.q (g2 := gv) (j := 1) (by omega) (.int .i64 x), h.b.setCell (p := ⟨gv, 1, none⟩) (by show _ ≤ gv; omega) (.int .i64 x)⟩
theorem QS.set2 {w : World} {g gv : Nat} {wr : World} {key : List UInt8} {seq : Int} {mk : Bool} {data : List UInt8} {s : Value} {r : List UInt8} {f : Bool} (h : QS w g gv wr key seq mk data s r f) (h1 : w.heap.size < g) (h2 : g < gv) (x : Bool) : QS w g gv (wr.setCell ⟨gv, 2, none⟩ (.bool x)) key seq x data s r f :=
  ⟨h.v.set2 (.bool x), h.z.other (g2 := gv) (j := 2) (by omega) (.bool x), QB.other h.q (g2 := gv) (j := 2) (by omega) (.bool x), h.b.setCell (p := ⟨gv, 2, none⟩) (by show _ ≤ gv; omega) (.bool x)⟩
theorem QS.set3 {w : World} {g gv : Nat} {wr : World} {key : List UInt8} {seq : Int} {mk : Bool} {data : List UInt8} {s : Value} {r : List UInt8} {f : Bool} (h : QS w g gv wr key seq mk data s r f) (h1 : w.heap.size < g) (h2 : g < gv) (x : List UInt8) : QS w g gv (wr.setCell ⟨gv, 3, none⟩ (str x)) key seq mk x s r f :=
  ⟨h.v.set3 (str x), h.z.other (g2 := gv) (j := 3) (by omega) (str x), QB.other h.q (g2 := gv) (j := 3) (by omega) (str x), h.b.setCell (p := ⟨gv, 3, none⟩) (by show _ ≤ gv; omega) (str x)⟩
theorem QS.set4 {w : World} {g gv : Nat} {wr : World} {key : List UInt8} {seq : Int} {mk : Bool} {data : List UInt8} {s : Value} {r : List UInt8} {f : Bool} (h : QS w g gv wr key seq mk data s r f) (h1 : w.heap.size < g) (h2 : g < gv) (x : Value) : QS w g gv (wr.setCell ⟨gv, 4, none⟩ x) key seq mk data x r f :=
  ⟨h.v.set4 x, h.z.other (g2 := gv) (j := 4) (by omega) x, QB.other h.q (g2 := gv) (j := 4) (by omega) x, h.b.setCell (p := ⟨gv, 4, none⟩) (by show _ ≤ gv; omega) x⟩
set_option maxRecDepth 100000 in
set_option maxHeartbeats 8000000 in
theorem qRead_any (b : List UInt8) (w : World) (hb : b.length ≤ 9223372036854775807) : Calls Try.prog 15 #[str b] w (RdP w (rdV b)) := by
  have l1 : (r1 b).length ≤ 9223372036854775807 := Nat.le_trans (tr_len _ _) hb
  have l2 : (q2 b).length ≤ 9223372036854775807 := Nat.le_trans (qr_len _ _ _) l1
  have l3 : (q3 b).length ≤ 9223372036854775807 := Nat.le_trans (qxr_len _ _ _) l2
  have l4 : (q4 b).length ≤ 9223372036854775807 := Nat.le_trans (qxr_len _ _ _) l3
  have l5 : (q5 b).length ≤ 9223372036854775807 := Nat.le_trans (qr_len _ _ _) l4
  obtain ⟨g, hgd⟩ : ∃ g, g = w.heap.size + 1 := ⟨_, rfl⟩
  obtain ⟨gv, hgv⟩ : ∃ gv, gv = w.heap.size + 1 + 1 := ⟨_, rfl⟩
  have hg1 : w.heap.size < g := by omega
  have hg2 : g < gv := by omega
  have hgv3 : gv < w.heap.size + 3 := by omega
  have hg3 : g < w.heap.size + 3 := by omega
  have n1 : ∀ w, QB w g b false → Calls Try.prog 24 #[.pointer (some ⟨g, 0, none⟩), .int .i64 1] w fun e w' => e = .returned (.int .i64 (kd b : Int)) ∧ QB w' g (r1 b) (b1 b) ∧ Cg g w w' := fun w h => by
    have := qtext_n b false w g 1 (by omega) h hb
    rw [qv_f, qr_f] at this
    exact this
  have n2 : ∀ w, QB w g (r1 b) (b1 b) → Calls Try.prog 24 #[.pointer (some ⟨g, 0, none⟩), .int .i64 8] w fun e w' => e = .returned (.int .i64 (qs b)) ∧ QB w' g (q2 b) (f2 b) ∧ Cg g w w' := fun w h => qnumber_any 8 (r1 b) (b1 b) w g h (by omega) l1
  have n3 : ∀ w, QB w g (q2 b) (f2 b) → Calls Try.prog 24 #[.pointer (some ⟨g, 0, none⟩), .int .i64 1] w fun e w' => e = .returned (.int .i64 (vl (qv 1 (q2 b) (f2 b)) : Int)) ∧ QB w' g (qr 1 (q2 b) (f2 b)) (tb 1 (q2 b) (f2 b)) ∧ Cg g w w' := fun w h => qtext_n (q2 b) (f2 b) w g 1 (by omega) h l2
  have t3 : ∀ w, QB w g (qr 1 (q2 b) (f2 b)) (tb 1 (q2 b) (f2 b)) → Calls Try.prog 25 #[.pointer (some ⟨g, 0, none⟩), .int .i64 (vl (qv 1 (q2 b) (f2 b)) : Int)] w fun e w' => e = .returned (str (qk b)) ∧ QB w' g (q3 b) (f3 b) ∧ Cg g w w' := fun w h => qtext_t (q2 b) (f2 b) w g 1 (by omega) h l2
  have n4 : ∀ w, QB w g (q3 b) (f3 b) → Calls Try.prog 24 #[.pointer (some ⟨g, 0, none⟩), .int .i64 2] w fun e w' => e = .returned (.int .i64 (vl (qv 2 (q3 b) (f3 b)) : Int)) ∧ QB w' g (qr 2 (q3 b) (f3 b)) (tb 2 (q3 b) (f3 b)) ∧ Cg g w w' := fun w h => qtext_n (q3 b) (f3 b) w g 2 (by omega) h l3
  have t4 : ∀ w, QB w g (qr 2 (q3 b) (f3 b)) (tb 2 (q3 b) (f3 b)) → Calls Try.prog 25 #[.pointer (some ⟨g, 0, none⟩), .int .i64 (vl (qv 2 (q3 b) (f3 b)) : Int)] w fun e w' => e = .returned (str (qd b)) ∧ QB w' g (q4 b) (f4 b) ∧ Cg g w w' := fun w h => qtext_t (q3 b) (f3 b) w g 2 (by omega) h l3
  have n5 : ∀ w, QB w g (q4 b) (f4 b) → Calls Try.prog 24 #[.pointer (some ⟨g, 0, none⟩), .int .i64 1] w fun e w' => e = .returned (.int .i64 (qc b : Int)) ∧ QB w' g (q5 b) (f5 b) ∧ Cg g w w' := fun w h => qtext_n (q4 b) (f4 b) w g 1 (by omega) h l4
  have hk256 : kd b < 256 := vl_small (w := 1) b
  have hc256 : qc b < 256 := by
    have h1 := vl_lt (qv 1 (q4 b) (f4 b))
    have h2 := qv_len 1 (q4 b) (f4 b)
    exact Nat.lt_of_lt_of_le h1 (Nat.le_trans (Nat.pow_le_pow_right (by omega) h2) (by decide))
  have S0 : QS w g gv (((w.alloc (.cells #[.string ⟨#[]⟩, .int .i64 0, .bool false, .string ⟨#[]⟩, .slice none 0 0] 24)).alloc (.cells #[.string ⟨b.toArray⟩, .bool false] 52)).alloc (.cells #[.string ⟨#[]⟩, .int .i64 0, .bool false, .string ⟨#[]⟩, .slice none 0 0] 24)) [] 0 false [] (.slice none 0 0) b false := by
    have z0 := Bv.new w (.string ⟨#[]⟩) (.int .i64 0) (.bool false) (.string ⟨#[]⟩) (.slice none 0 0)
    have B0 := (Below.refl w.heap.size w).alloc (Nat.le_refl _) (.cells #[.string ⟨#[]⟩, .int .i64 0, .bool false, .string ⟨#[]⟩, .slice none 0 0] 24)
    have h1 : (w.alloc (.cells #[.string ⟨#[]⟩, .int .i64 0, .bool false, .string ⟨#[]⟩, .slice none 0 0] 24)).heap.size = w.heap.size + 1 := by simp
    generalize w.alloc (.cells #[.string ⟨#[]⟩, .int .i64 0, .bool false, .string ⟨#[]⟩, .slice none 0 0] 24) = W1 at *
    have q1 : QB (W1.alloc (.cells #[.string ⟨b.toArray⟩, .bool false] 52)) W1.heap.size b false := heap_alloc_new _ _
    have c1 := (Below.refl W1.heap.size W1).alloc (Nat.le_refl _) (.cells #[.string ⟨b.toArray⟩, .bool false] 52)
    have h2 : (W1.alloc (.cells #[.string ⟨b.toArray⟩, .bool false] 52)).heap.size = W1.heap.size + 1 := by simp
    generalize W1.alloc (.cells #[.string ⟨b.toArray⟩, .bool false] 52) = W2 at *
    have v1 := Bv.new W2 (.string ⟨#[]⟩) (.int .i64 0) (.bool false) (.string ⟨#[]⟩) (.slice none 0 0)
    have c2 := (Below.refl W2.heap.size W2).alloc (Nat.le_refl _) (.cells #[.string ⟨#[]⟩, .int .i64 0, .bool false, .string ⟨#[]⟩, .slice none 0 0] 24)
    have e1 : g = W1.heap.size := by omega
    have e2 : gv = W2.heap.size := by omega
    rw [e1, e2]
    exact ⟨v1, (z0.later c1).later c2, QB.later q1 c2, (B0.trans (c1.mono (by omega))).trans (c2.mono (by omega))⟩
  by_cases hk : kd b = 1
  · rw [hk] at n1
    have he := doc_mk hk
    clear n4 t4 n5
    go_enter Try.func15, Try.ntmps15
    go_wp2_with fail
    generalize ((w.alloc (.cells #[.string ⟨#[]⟩, .int .i64 0, .bool false, .string ⟨#[]⟩, .slice none 0 0] 24)).alloc (.cells #[.string ⟨b.toArray⟩, .bool false] 52)).alloc (.cells #[.string ⟨#[]⟩, .int .i64 0, .bool false, .string ⟨#[]⟩, .slice none 0 0] 24) = W3 at *
    rw [← hgd] at hgv ⊢
    rw [← hgv]
    clear hgd hgv
    with_reducible refine Calls.mono (n1 _ S0.q) ?_
    rintro e w4 ⟨rfl, q4', c4⟩
    dsimp only
    have S4 := S0.cg hg1 hg2 c4 q4'
    obtain ⟨_, _, _, _, _, vf⟩ := S4.v.cells
    have ff := vf 2
    clear vf
    have S5 := S4.set2 hg1 hg2 true
    clear n1 S0 S4 q4' c4
    go_wp2_with fail
    clear ff
    generalize w4.setCell ⟨gv, 2, none⟩ (.bool true) = W5 at *
    with_reducible refine Calls.mono (n2 _ S5.q) ?_
    rintro e w6 ⟨rfl, q6', c6⟩
    dsimp only
    have S6 := S5.cg hg1 hg2 c6 q6'
    obtain ⟨_, _, _, _, _, vf⟩ := S6.v.cells
    have ff := vf 1
    clear vf
    have S7 := S6.set1 hg1 hg2 (qs b)
    clear n2 S5 S6 q6' c6
    go_wp2_with fail
    clear ff
    generalize w6.setCell ⟨gv, 1, none⟩ (.int .i64 (qs b)) = W7 at *
    with_reducible refine Calls.mono (n3 _ S7.q) ?_
    rintro e w8 ⟨rfl, q8', c8⟩
    dsimp only
    have S8 := S7.cg hg1 hg2 c8 q8'
    clear n3 S7 q8' c8
    go_wp2_with fail
    with_reducible refine Calls.mono (t3 _ S8.q) ?_
    rintro e w9 ⟨rfl, q9', c9⟩
    dsimp only
    have S9 := S8.cg hg1 hg2 c9 q9'
    obtain ⟨_, _, _, _, _, vf⟩ := S9.v.cells
    have ff := vf 0
    clear vf
    have S10 := S9.set0 hg1 hg2 (qk b)
    clear t3 S8 S9 q9' c9
    have o10 : Ow (w.heap.size + 3) (w9.setCell ⟨gv, 0, none⟩ (str (qk b))) (.slice none 0 0) [] := Ow.nil _ _ (by have h1 := S10.v.lt; omega)
    obtain ⟨E, hE⟩ : ∃ E, E = rtE ⟨qk b, qs b, true, [], []⟩ := ⟨_, rfl⟩
    obtain ⟨A, hA⟩ : ∃ A, A = if rtE ⟨qk b, qs b, true, [], []⟩ = 0 then enc ⟨qk b, qs b, true, [], []⟩ else [] := ⟨_, rfl⟩
    have hwq : Calls Try.prog 13 #[vv (qk b) (qs b) true [] none 0 0] (w9.setCell ⟨gv, 0, none⟩ (str (qk b))) fun e w' => e = .returned (.tuple #[str A, .int .i64 E]) ∧ Below ((w9.setCell ⟨gv, 0, none⟩ (str (qk b)))).heap.size ((w9.setCell ⟨gv, 0, none⟩ (str (qk b)))) w' := by
      rw [hA, hE]
      exact qWrite_any ⟨qk b, qs b, true, [], []⟩ (w9.setCell ⟨gv, 0, none⟩ (str (qk b))) none 0 0 rfl o10.asSl.at' (fun k e h => by simp at h) (by simp)
    have HE0 : Hid (¬ (f3 b = false ∧ E = 0 ∧ A = b) → rdV b = none) := ⟨fun h => by
      refine (rdV_doc b).2 fun h2 => h ?_
      have q1 : f3 b = false := by
        cases hF : f3 b with
        | false => rfl
        | true => have := he.2 hF; rw [h2.1] at this; cases this
      obtain ⟨e1, _⟩ := he.1 q1
      rw [e1] at h2
      exact ⟨q1, by rw [hE]; exact h2.2.1, by rw [hA, if_pos h2.2.1]; exact h2.2.2⟩⟩
    have HE1 : Hid (f3 b = false ∧ E = 0 ∧ A = b → rdV b = some ⟨qk b, qs b, true, [], []⟩) := ⟨fun h => by
      obtain ⟨e1, e2⟩ := he.1 h.1
      have e3 : rtE ⟨qk b, qs b, true, [], []⟩ = 0 := by rw [← hE]; exact h.2.1
      have := (rdV_doc b).1 ⟨e2, by rw [e1]; exact e3, by rw [e1]; have := h.2.2; rw [hA, if_pos e3] at this; exact this⟩
      rw [e1] at this
      exact this⟩
    obtain ⟨p0, p1, p2, p3, p4, _⟩ := S10.v.cells
    clear hA hE
    go_wp2_with fail
    with_reducible refine Calls.mono hwq ?_
    rintro e w20 ⟨rfl, b20⟩
    dsimp only
    have S20 := S10.later b20
    have o20 := o10.later b20
    clear hwq p0 p1 p2 p3 p4 b20
    obtain ⟨c0, c1, _⟩ := S20.q.cells
    obtain ⟨p0, p1, p2, p3, p4, _⟩ := S20.v.cells
    obtain ⟨z0, z1, z2, z3, z4, zf⟩ := S20.z.cells
    have zf0 := zf 0
    have zf1 := zf 1
    have zf2 := zf 2
    have zf3 := zf 3
    have zf4 := zf 4
    clear zf
    have HN : Hid (¬ (f3 b = false ∧ E = 0 ∧ A = b) → RdP w (rdV b) (.returned (.tuple #[vv [] 0 false [] none 0 0, .int .i64 4])) (s5 w20 w.heap.size (.string ⟨#[]⟩) (.int .i64 0) (.bool false) (.string ⟨#[]⟩) (.slice none 0 0))) := ⟨fun h => by rw [HE0.out h]; exact ⟨Below.s5 S20.b (R := w.heap.size) (Nat.le_refl _) (.string ⟨#[]⟩) (.int .i64 0) (.bool false) (.string ⟨#[]⟩) (.slice none 0 0), rfl⟩⟩
    have hnoR : (Value.slice none 0 0).ownBlock ≠ some w.heap.size := fun q => by have := (o20.own.lt _ q).1; omega
    have HY : Hid (f3 b = false ∧ E = 0 ∧ A = b → RdP w (rdV b) (.returned (.tuple #[vv (qk b) (qs b) true [] none 0 0, .int .i64 0])) (s5 w20 w.heap.size (str (qk b)) (.int .i64 (qs b)) (.bool true) (str []) (.slice none 0 0))) := ⟨fun h => by rw [HE1.out h]; exact ⟨Below.s5 S20.b (R := w.heap.size) (Nat.le_refl _) (str (qk b)) (.int .i64 (qs b)) (.bool true) (str []) (.slice none 0 0), none, 0, 0, rfl, rfl, (o20.s5 hnoR (str (qk b)) (.int .i64 (qs b)) (.bool true) (str []) (.slice none 0 0)).base (by omega)⟩⟩
    have zz := S20.z.s5 (.string ⟨#[]⟩) (.int .i64 0) (.bool false) (.string ⟨#[]⟩) (.slice none 0 0)
    have zy := S20.z.s5 (str (qk b)) (.int .i64 (qs b)) (.bool true) (str []) (.slice none 0 0)
    generalize RdP w (rdV b) = PP at *
    clear HE0 HE1
    cases hF : f3 b with
    | true =>
      have TR : Hid (f3 b = true) := ⟨hF⟩
      clear hF
      have HX := Hid.mk (HN.out (by rw [TR.out]; simp))
      rw [TR.out] at c1
      clear HN HY zy
      go_wp2_with fail
      rw [s5_eq]
      generalize s5 w20 w.heap.size (.string ⟨#[]⟩) (.int .i64 0) (.bool false) (.string ⟨#[]⟩) (.slice none 0 0) = W21 at *
      obtain ⟨g0, g1, g2, g3, g4, _⟩ := zz.cells
      refine bodyPost_ret (v := .tuple #[vv [] 0 false [] none 0 0, .int .i64 4]) ?_ rfl HX.out
      rw [results_cell_tmp rfl]
      go_simp
    | false =>
      have FR : Hid (f3 b = false) := ⟨hF⟩
      clear hF
      rw [FR.out] at c1 HN HY
      by_cases hE0 : E = 0
      · by_cases hAb : A = b
        · have HX := Hid.mk (HY.out ⟨rfl, hE0, hAb⟩)
          subst hE0
          have dab : (A == b) = true := by rw [beq_iff_eq]; exact hAb
          clear HN HY zz hAb
          go_wp2_with fail
          rw [s5_eq]
          generalize s5 w20 w.heap.size (str (qk b)) (.int .i64 (qs b)) (.bool true) (str []) (.slice none 0 0) = W21 at *
          obtain ⟨g0, g1, g2, g3, g4, _⟩ := zy.cells
          refine bodyPost_ret (v := .tuple #[vv (qk b) (qs b) true [] none 0 0, .int .i64 0]) ?_ rfl HX.out
          rw [results_cell_tmp rfl]
          go_simp
        · have HX := Hid.mk (HN.out (fun q => hAb q.2.2))
          subst hE0
          have dab : (A == b) = false := by rw [beq_eq_false_iff_ne]; exact hAb
          clear HN HY zy hAb
          go_wp2_with fail
          rw [s5_eq]
          generalize s5 w20 w.heap.size (.string ⟨#[]⟩) (.int .i64 0) (.bool false) (.string ⟨#[]⟩) (.slice none 0 0) = W21 at *
          obtain ⟨g0, g1, g2, g3, g4, _⟩ := zz.cells
          refine bodyPost_ret (v := .tuple #[vv [] 0 false [] none 0 0, .int .i64 4]) ?_ rfl HX.out
          rw [results_cell_tmp rfl]
          go_simp
      · have HX := Hid.mk (HN.out (fun q => hE0 q.2.1))
        have dab : (E == 0) = false := by rw [beq_eq_false_iff_ne]; exact hE0
        have dab2 : (E != 0) = true := by rw [bne_iff_ne]; exact hE0
        have dab3 : decide (E = 0) = false := decide_eq_false hE0
        clear HN HY zy
        go_wp2_with fail
        rw [s5_eq]
        generalize s5 w20 w.heap.size (.string ⟨#[]⟩) (.int .i64 0) (.bool false) (.string ⟨#[]⟩) (.slice none 0 0) = W21 at *
        obtain ⟨g0, g1, g2, g3, g4, _⟩ := zz.cells
        refine bodyPost_ret (v := .tuple #[vv [] 0 false [] none 0 0, .int .i64 4]) ?_ rfl HX.out
        rw [results_cell_tmp rfl]
        go_simp
  · have dk : ((kd b : Int) == 1) = false := by rw [beq_eq_false_iff_ne]; omega
    go_enter Try.func15, Try.ntmps15
    go_wp2_with fail
    generalize ((w.alloc (.cells #[.string ⟨#[]⟩, .int .i64 0, .bool false, .string ⟨#[]⟩, .slice none 0 0] 24)).alloc (.cells #[.string ⟨b.toArray⟩, .bool false] 52)).alloc (.cells #[.string ⟨#[]⟩, .int .i64 0, .bool false, .string ⟨#[]⟩, .slice none 0 0] 24) = W3 at *
    rw [← hgd] at hgv ⊢
    rw [← hgv]
    clear hgd hgv
    with_reducible refine Calls.mono (n1 _ S0.q) ?_
    rintro e w4 ⟨rfl, q4', c4⟩
    dsimp only
    have S4 := S0.cg hg1 hg2 c4 q4'
    obtain ⟨_, _, _, _, _, vf⟩ := S4.v.cells
    have ff := vf 2
    clear vf
    have S5 := S4.set2 hg1 hg2 false
    clear n1 S0 S4 q4' c4
    go_wp2_with fail
    clear ff
    generalize w4.setCell ⟨gv, 2, none⟩ (.bool false) = W5 at *
    with_reducible refine Calls.mono (n2 _ S5.q) ?_
    rintro e w6 ⟨rfl, q6', c6⟩
    dsimp only
    have S6 := S5.cg hg1 hg2 c6 q6'
    obtain ⟨_, _, _, _, _, vf⟩ := S6.v.cells
    have ff := vf 1
    clear vf
    have S7 := S6.set1 hg1 hg2 (qs b)
    clear n2 S5 S6 q6' c6
    go_wp2_with fail
    clear ff
    generalize w6.setCell ⟨gv, 1, none⟩ (.int .i64 (qs b)) = W7 at *
    with_reducible refine Calls.mono (n3 _ S7.q) ?_
    rintro e w8 ⟨rfl, q8', c8⟩
    dsimp only
    have S8 := S7.cg hg1 hg2 c8 q8'
    clear n3 S7 q8' c8
    go_wp2_with fail
    with_reducible refine Calls.mono (t3 _ S8.q) ?_
    rintro e w9 ⟨rfl, q9', c9⟩
    dsimp only
    have S9 := S8.cg hg1 hg2 c9 q9'
    obtain ⟨_, _, _, _, _, vf⟩ := S9.v.cells
    have ff := vf 0
    clear vf
    have S10 := S9.set0 hg1 hg2 (qk b)
    clear t3 S8 S9 q9' c9
    obtain ⟨_, _, p2, _, _, _⟩ := S10.v.cells
    go_wp2_with fail
    clear p2 ff
    generalize w9.setCell ⟨gv, 0, none⟩ (str (qk b)) = W10 at *
    with_reducible refine Calls.mono (n4 _ S10.q) ?_
    rintro e w11 ⟨rfl, q11', c11⟩
    dsimp only
    have S11 := S10.cg hg1 hg2 c11 q11'
    clear n4 S10 q11' c11
    go_wp2_with fail
    with_reducible refine Calls.mono (t4 _ S11.q) ?_
    rintro e w12 ⟨rfl, q12', c12⟩
    dsimp only
    have S12 := S11.cg hg1 hg2 c12 q12'
    obtain ⟨_, _, _, _, _, vf⟩ := S12.v.cells
    have ff := vf 3
    clear vf
    have S13 := S12.set3 hg1 hg2 (qd b)
    clear t4 S11 S12 q12' c12
    go_wp2_with fail
    clear ff
    generalize w12.setCell ⟨gv, 3, none⟩ (str (qd b)) = W13 at *
    with_reducible refine Calls.mono (n5 _ S13.q) ?_
    rintro e w14 ⟨rfl, q14', c14⟩
    dsimp only
    have S14 := S13.cg hg1 hg2 c14 q14'
    clear n5 S13 q14' c14
    go_wp2_with fail
    have h3 : gv < w.heap.size + 3 := hgv3
    go_loopw [7] (fun i wr => ∃ k : Nat, k ≤ qc b ∧ i = .int .i64 (k : Int) ∧ Hid (∃ a n cap, QS w g gv wr (qk b) (qs b) false (qd b) (.slice a n cap) (dR k (q5 b) (f5 b)) (dF k (q5 b) (f5 b)) ∧ n = k ∧ Ow (w.heap.size + 3) wr (.slice a n cap) (dL k (q5 b) (f5 b)))) (fun i _ => qc b - (intOf i).toNat)
    case atStart => exact ⟨0, by omega, rfl, ⟨none, 0, 0, by rw [dR, dF]; exact S14, rfl, Ow.nil _ _ (by have h1 := S14.v.lt; omega)⟩⟩
    case round =>
      clear S14
      obtain ⟨k, hk2, rfl, ⟨a, n, cap, S, rfl, o⟩⟩ := hrel
      obtain ⟨c0, c1, _⟩ := S.q.cells
      have hle : (dL n (q5 b) (f5 b)).length = n := dL_len _ _ _
      cases hF : dF n (q5 b) (f5 b) with
      | true =>
        have he := doc_ob hk hk2 (.inr hF)
        rw [hF] at c1
        have TR : Hid (dF n (q5 b) (f5 b) = true) := ⟨hF⟩
        clear hF c0
        by_cases hlt : n < qc b
        · have d1 : decide ((n : Int) < (qc b : Int)) = true := decide_eq_true (by omega)
          obtain ⟨E, hE⟩ : ∃ E, E = rtE ⟨qk b, qs b, false, (qd b), (dL n (q5 b) (f5 b))⟩ := ⟨_, rfl⟩
          obtain ⟨A, hA⟩ : ∃ A, A = if rtE ⟨qk b, qs b, false, (qd b), (dL n (q5 b) (f5 b))⟩ = 0 then enc ⟨qk b, qs b, false, (qd b), (dL n (q5 b) (f5 b))⟩ else [] := ⟨_, rfl⟩
          have hwq : Calls Try.prog 13 #[vv (qk b) (qs b) false (qd b) a n cap] wr fun e w' => e = .returned (.tuple #[str A, .int .i64 E]) ∧ Below (wr).heap.size (wr) w' := by
            rw [hA, hE]
            exact qWrite_any ⟨qk b, qs b, false, (qd b), (dL n (q5 b) (f5 b))⟩ wr a n cap hle o.asSl.at' (fun k e h => by have := dL_small n (q5 b) (f5 b) e (List.mem_of_getElem? h); omega) (by simp only; rw [hle]; omega)
          have HE0 : Hid (¬ (dF n (q5 b) (f5 b) = false ∧ E = 0 ∧ A = b) → rdV b = none) := ⟨fun h => by
            refine (rdV_doc b).2 fun h2 => h ?_
            have q1 : dF n (q5 b) (f5 b) = false := by
              cases hF : dF n (q5 b) (f5 b) with
              | false => rfl
              | true => have := he.2 hF; rw [h2.1] at this; cases this
            obtain ⟨e1, _⟩ := he.1 q1
            rw [e1] at h2
            exact ⟨q1, by rw [hE]; exact h2.2.1, by rw [hA, if_pos h2.2.1]; exact h2.2.2⟩⟩
          have HE1 : Hid (dF n (q5 b) (f5 b) = false ∧ E = 0 ∧ A = b → rdV b = some ⟨qk b, qs b, false, (qd b), (dL n (q5 b) (f5 b))⟩) := ⟨fun h => by
            obtain ⟨e1, e2⟩ := he.1 h.1
            have e3 : rtE ⟨qk b, qs b, false, (qd b), (dL n (q5 b) (f5 b))⟩ = 0 := by rw [← hE]; exact h.2.1
            have := (rdV_doc b).1 ⟨e2, by rw [e1]; exact e3, by rw [e1]; have := h.2.2; rw [hA, if_pos e3] at this; exact this⟩
            rw [e1] at this
            exact this⟩
          obtain ⟨p0, p1, p2, p3, p4, _⟩ := S.v.cells
          clear hA hE
          go_wp2_with fail
          with_reducible refine Calls.mono hwq ?_
          rintro e w20 ⟨rfl, b20⟩
          dsimp only
          have S20 := S.later b20
          have o20 := o.later b20
          clear hwq p0 p1 p2 p3 p4 b20
          obtain ⟨c0, c1, _⟩ := S20.q.cells
          obtain ⟨p0, p1, p2, p3, p4, _⟩ := S20.v.cells
          obtain ⟨z0, z1, z2, z3, z4, zf⟩ := S20.z.cells
          have zf0 := zf 0
          have zf1 := zf 1
          have zf2 := zf 2
          have zf3 := zf 3
          have zf4 := zf 4
          clear zf
          have HN : Hid (¬ (dF n (q5 b) (f5 b) = false ∧ E = 0 ∧ A = b) → RdP w (rdV b) (.returned (.tuple #[vv [] 0 false [] none 0 0, .int .i64 4])) (s5 w20 w.heap.size (.string ⟨#[]⟩) (.int .i64 0) (.bool false) (.string ⟨#[]⟩) (.slice none 0 0))) := ⟨fun h => by rw [HE0.out h]; exact ⟨Below.s5 S20.b (R := w.heap.size) (Nat.le_refl _) (.string ⟨#[]⟩) (.int .i64 0) (.bool false) (.string ⟨#[]⟩) (.slice none 0 0), rfl⟩⟩
          have hnoR : (Value.slice a n cap).ownBlock ≠ some w.heap.size := fun q => by have := (o20.own.lt _ q).1; omega
          have HY : Hid (dF n (q5 b) (f5 b) = false ∧ E = 0 ∧ A = b → RdP w (rdV b) (.returned (.tuple #[vv (qk b) (qs b) false (qd b) a n cap, .int .i64 0])) (s5 w20 w.heap.size (str (qk b)) (.int .i64 (qs b)) (.bool false) (str (qd b)) (.slice a n cap))) := ⟨fun h => by rw [HE1.out h]; exact ⟨Below.s5 S20.b (R := w.heap.size) (Nat.le_refl _) (str (qk b)) (.int .i64 (qs b)) (.bool false) (str (qd b)) (.slice a n cap), a, n, cap, rfl, hle, (o20.s5 hnoR (str (qk b)) (.int .i64 (qs b)) (.bool false) (str (qd b)) (.slice a n cap)).base (by omega)⟩⟩
          have zz := S20.z.s5 (.string ⟨#[]⟩) (.int .i64 0) (.bool false) (.string ⟨#[]⟩) (.slice none 0 0)
          have zy := S20.z.s5 (str (qk b)) (.int .i64 (qs b)) (.bool false) (str (qd b)) (.slice a n cap)
          generalize RdP w (rdV b) = PP at *
          clear HE0 HE1
          have HX := Hid.mk (HN.out (by rw [TR.out]; simp))
          rw [TR.out] at c1
          clear HN HY zy
          go_wp2_with fail
          rw [s5_eq]
          generalize s5 w20 w.heap.size (.string ⟨#[]⟩) (.int .i64 0) (.bool false) (.string ⟨#[]⟩) (.slice none 0 0) = W21 at *
          obtain ⟨g0, g1, g2, g3, g4, _⟩ := zz.cells
          refine bodyPost_ret (v := .tuple #[vv [] 0 false [] none 0 0, .int .i64 4]) ?_ rfl HX.out
          rw [results_cell_tmp rfl]
          go_simp
        · have d1 : decide ((n : Int) < (qc b : Int)) = false := decide_eq_false (by omega)
          obtain ⟨E, hE⟩ : ∃ E, E = rtE ⟨qk b, qs b, false, (qd b), (dL n (q5 b) (f5 b))⟩ := ⟨_, rfl⟩
          obtain ⟨A, hA⟩ : ∃ A, A = if rtE ⟨qk b, qs b, false, (qd b), (dL n (q5 b) (f5 b))⟩ = 0 then enc ⟨qk b, qs b, false, (qd b), (dL n (q5 b) (f5 b))⟩ else [] := ⟨_, rfl⟩
          have hwq : Calls Try.prog 13 #[vv (qk b) (qs b) false (qd b) a n cap] wr fun e w' => e = .returned (.tuple #[str A, .int .i64 E]) ∧ Below (wr).heap.size (wr) w' := by
            rw [hA, hE]
            exact qWrite_any ⟨qk b, qs b, false, (qd b), (dL n (q5 b) (f5 b))⟩ wr a n cap hle o.asSl.at' (fun k e h => by have := dL_small n (q5 b) (f5 b) e (List.mem_of_getElem? h); omega) (by simp only; rw [hle]; omega)
          have HE0 : Hid (¬ (dF n (q5 b) (f5 b) = false ∧ E = 0 ∧ A = b) → rdV b = none) := ⟨fun h => by
            refine (rdV_doc b).2 fun h2 => h ?_
            have q1 : dF n (q5 b) (f5 b) = false := by
              cases hF : dF n (q5 b) (f5 b) with
              | false => rfl
              | true => have := he.2 hF; rw [h2.1] at this; cases this
            obtain ⟨e1, _⟩ := he.1 q1
            rw [e1] at h2
            exact ⟨q1, by rw [hE]; exact h2.2.1, by rw [hA, if_pos h2.2.1]; exact h2.2.2⟩⟩
          have HE1 : Hid (dF n (q5 b) (f5 b) = false ∧ E = 0 ∧ A = b → rdV b = some ⟨qk b, qs b, false, (qd b), (dL n (q5 b) (f5 b))⟩) := ⟨fun h => by
            obtain ⟨e1, e2⟩ := he.1 h.1
            have e3 : rtE ⟨qk b, qs b, false, (qd b), (dL n (q5 b) (f5 b))⟩ = 0 := by rw [← hE]; exact h.2.1
            have := (rdV_doc b).1 ⟨e2, by rw [e1]; exact e3, by rw [e1]; have := h.2.2; rw [hA, if_pos e3] at this; exact this⟩
            rw [e1] at this
            exact this⟩
          obtain ⟨p0, p1, p2, p3, p4, _⟩ := S.v.cells
          clear hA hE
          go_wp2_with fail
          with_reducible refine Calls.mono hwq ?_
          rintro e w20 ⟨rfl, b20⟩
          dsimp only
          have S20 := S.later b20
          have o20 := o.later b20
          clear hwq p0 p1 p2 p3 p4 b20
          obtain ⟨c0, c1, _⟩ := S20.q.cells
          obtain ⟨p0, p1, p2, p3, p4, _⟩ := S20.v.cells
          obtain ⟨z0, z1, z2, z3, z4, zf⟩ := S20.z.cells
          have zf0 := zf 0
          have zf1 := zf 1
          have zf2 := zf 2
          have zf3 := zf 3
          have zf4 := zf 4
          clear zf
          have HN : Hid (¬ (dF n (q5 b) (f5 b) = false ∧ E = 0 ∧ A = b) → RdP w (rdV b) (.returned (.tuple #[vv [] 0 false [] none 0 0, .int .i64 4])) (s5 w20 w.heap.size (.string ⟨#[]⟩) (.int .i64 0) (.bool false) (.string ⟨#[]⟩) (.slice none 0 0))) := ⟨fun h => by rw [HE0.out h]; exact ⟨Below.s5 S20.b (R := w.heap.size) (Nat.le_refl _) (.string ⟨#[]⟩) (.int .i64 0) (.bool false) (.string ⟨#[]⟩) (.slice none 0 0), rfl⟩⟩
          have hnoR : (Value.slice a n cap).ownBlock ≠ some w.heap.size := fun q => by have := (o20.own.lt _ q).1; omega
          have HY : Hid (dF n (q5 b) (f5 b) = false ∧ E = 0 ∧ A = b → RdP w (rdV b) (.returned (.tuple #[vv (qk b) (qs b) false (qd b) a n cap, .int .i64 0])) (s5 w20 w.heap.size (str (qk b)) (.int .i64 (qs b)) (.bool false) (str (qd b)) (.slice a n cap))) := ⟨fun h => by rw [HE1.out h]; exact ⟨Below.s5 S20.b (R := w.heap.size) (Nat.le_refl _) (str (qk b)) (.int .i64 (qs b)) (.bool false) (str (qd b)) (.slice a n cap), a, n, cap, rfl, hle, (o20.s5 hnoR (str (qk b)) (.int .i64 (qs b)) (.bool false) (str (qd b)) (.slice a n cap)).base (by omega)⟩⟩
          have zz := S20.z.s5 (.string ⟨#[]⟩) (.int .i64 0) (.bool false) (.string ⟨#[]⟩) (.slice none 0 0)
          have zy := S20.z.s5 (str (qk b)) (.int .i64 (qs b)) (.bool false) (str (qd b)) (.slice a n cap)
          generalize RdP w (rdV b) = PP at *
          clear HE0 HE1
          have HX := Hid.mk (HN.out (by rw [TR.out]; simp))
          rw [TR.out] at c1
          clear HN HY zy
          go_wp2_with fail
          rw [s5_eq]
          generalize s5 w20 w.heap.size (.string ⟨#[]⟩) (.int .i64 0) (.bool false) (.string ⟨#[]⟩) (.slice none 0 0) = W21 at *
          obtain ⟨g0, g1, g2, g3, g4, _⟩ := zz.cells
          refine bodyPost_ret (v := .tuple #[vv [] 0 false [] none 0 0, .int .i64 4]) ?_ rfl HX.out
          rw [results_cell_tmp rfl]
          go_simp
      | false =>
        have FR : Hid (dF n (q5 b) (f5 b) = false) := ⟨hF⟩
        rw [hF] at c1
        clear hF
        by_cases hlt : n < qc b
        · have d1 : decide ((n : Int) < (qc b : Int)) = true := decide_eq_true (by omega)
          have lr := Nat.le_trans (dR_len n (q5 b) (f5 b)) l5
          have lx := Nat.le_trans (qxr_len 1 (dR n (q5 b) (f5 b)) (dF n (q5 b) (f5 b))) lr
          have HL : Hid (dL (n + 1) (q5 b) (f5 b) = dL n (q5 b) (f5 b) ++ [⟨qxv 1 (dR n (q5 b) (f5 b)) (dF n (q5 b) (f5 b)), qxv 1 (qxr 1 (dR n (q5 b) (f5 b)) (dF n (q5 b) (f5 b))) (qxf 1 (dR n (q5 b) (f5 b)) (dF n (q5 b) (f5 b)))⟩]) := ⟨by rw [dL]⟩
          have HR1 : Hid (dR (n + 1) (q5 b) (f5 b) = qxr 1 (qxr 1 (dR n (q5 b) (f5 b)) (dF n (q5 b) (f5 b))) (qxf 1 (dR n (q5 b) (f5 b)) (dF n (q5 b) (f5 b)))) := ⟨by rw [dR]⟩
          have HF1 : Hid (dF (n + 1) (q5 b) (f5 b) = qxf 1 (qxr 1 (dR n (q5 b) (f5 b)) (dF n (q5 b) (f5 b))) (qxf 1 (dR n (q5 b) (f5 b)) (dF n (q5 b) (f5 b)))) := ⟨by rw [dF]⟩
          have m1 := fun w h => qtext_n (dR n (q5 b) (f5 b)) (dF n (q5 b) (f5 b)) w g 1 (by omega) h lr
          have m2 := fun w h => qtext_t (dR n (q5 b) (f5 b)) (dF n (q5 b) (f5 b)) w g 1 (by omega) h lr
          have m3 := fun w h => qtext_n (qxr 1 (dR n (q5 b) (f5 b)) (dF n (q5 b) (f5 b))) (qxf 1 (dR n (q5 b) (f5 b)) (dF n (q5 b) (f5 b))) w g 1 (by omega) h lx
          have m4 := fun w h => qtext_t (qxr 1 (dR n (q5 b) (f5 b)) (dF n (q5 b) (f5 b))) (qxf 1 (dR n (q5 b) (f5 b)) (dF n (q5 b) (f5 b))) w g 1 (by omega) h lx
          generalize qxv 1 (dR n (q5 b) (f5 b)) (dF n (q5 b) (f5 b)) = N1 at *
          generalize qxv 1 (qxr 1 (dR n (q5 b) (f5 b)) (dF n (q5 b) (f5 b))) (qxf 1 (dR n (q5 b) (f5 b)) (dF n (q5 b) (f5 b))) = N2 at *
          generalize hLn : dL n (q5 b) (f5 b) = LN at *
          clear hLn
          go_wp2_with fail
          with_reducible refine Calls.mono (m1 _ S.q) ?_
          rintro e w15 ⟨rfl, y15, c15⟩
          dsimp only
          have S15 := S.cg hg1 hg2 c15 y15
          have o15 := o.cg hg3 c15
          clear m1 S o y15 c15 c0 c1
          go_wp2_with fail
          with_reducible refine Calls.mono (m2 _ S15.q) ?_
          rintro e w16 ⟨rfl, y16, c16⟩
          dsimp only
          have S16 := S15.cg hg1 hg2 c16 y16
          have o16 := o15.cg hg3 c16
          clear m2 S15 o15 y16 c16
          go_wp2_with fail
          with_reducible refine Calls.mono (m3 _ S16.q) ?_
          rintro e w17 ⟨rfl, y17, c17⟩
          dsimp only
          have S17 := S16.cg hg1 hg2 c17 y17
          have o17 := o16.cg hg3 c17
          clear m3 S16 o16 y17 c17
          go_wp2_with fail
          with_reducible refine Calls.mono (m4 _ S17.q) ?_
          rintro e w18 ⟨rfl, y18, c18⟩
          dsimp only
          have S18 := S17.cg hg1 hg2 c18 y18
          have o18 := o17.cg hg3 c18
          clear m4 S17 o17 y18 c18
          rw [← HR1.out, ← HF1.out] at S18
          obtain ⟨_, _, _, _, p4, _⟩ := S18.v.cells
          have hlen9 : LN.length ≤ 4500000000000 := by rw [hle]; omega
          go_wp2_with (refine app_oneB rfl _ _ rfl ⟨N1, N2⟩ rfl o18 rfl hlen9 rfl rfl ?_; intro v19 w19 o19 b19; obtain ⟨a19, c19, hv19, _⟩ := o19.sl; rw [← HL.out, dL_len] at hv19; subst hv19; have S19 := S18.up hg1 hg2 h3 b19; obtain ⟨_, _, _, _, _, vf⟩ := S19.v.cells; have ff := vf 4; clear vf)
          have S20 := S19.set4 hg1 hg2 (.slice a19 (n + 1) c19)
          have hno : (Value.slice a19 (n + 1) c19).ownBlock ≠ some gv := fun q => by have := (o19.own.lt _ q).1; omega
          have o20 := o19.other (g := gv) (j := 4) hno (.slice a19 (n + 1) c19)
          rw [← HL.out] at o20
          exact ⟨⟨n + 1, by omega, by go_num, ⟨a19, n + 1, c19, S20, rfl, o20⟩⟩, by simp [intOf]; omega⟩
        · have d1 : decide ((n : Int) < (qc b : Int)) = false := decide_eq_false (by omega)
          have he := doc_ob hk hk2 (.inl (by omega))
          clear c0 c1
          obtain ⟨E, hE⟩ : ∃ E, E = rtE ⟨qk b, qs b, false, (qd b), (dL n (q5 b) (f5 b))⟩ := ⟨_, rfl⟩
          obtain ⟨A, hA⟩ : ∃ A, A = if rtE ⟨qk b, qs b, false, (qd b), (dL n (q5 b) (f5 b))⟩ = 0 then enc ⟨qk b, qs b, false, (qd b), (dL n (q5 b) (f5 b))⟩ else [] := ⟨_, rfl⟩
          have hwq : Calls Try.prog 13 #[vv (qk b) (qs b) false (qd b) a n cap] wr fun e w' => e = .returned (.tuple #[str A, .int .i64 E]) ∧ Below (wr).heap.size (wr) w' := by
            rw [hA, hE]
            exact qWrite_any ⟨qk b, qs b, false, (qd b), (dL n (q5 b) (f5 b))⟩ wr a n cap hle o.asSl.at' (fun k e h => by have := dL_small n (q5 b) (f5 b) e (List.mem_of_getElem? h); omega) (by simp only; rw [hle]; omega)
          have HE0 : Hid (¬ (dF n (q5 b) (f5 b) = false ∧ E = 0 ∧ A = b) → rdV b = none) := ⟨fun h => by
            refine (rdV_doc b).2 fun h2 => h ?_
            have q1 : dF n (q5 b) (f5 b) = false := by
              cases hF : dF n (q5 b) (f5 b) with
              | false => rfl
              | true => have := he.2 hF; rw [h2.1] at this; cases this
            obtain ⟨e1, _⟩ := he.1 q1
            rw [e1] at h2
            exact ⟨q1, by rw [hE]; exact h2.2.1, by rw [hA, if_pos h2.2.1]; exact h2.2.2⟩⟩
          have HE1 : Hid (dF n (q5 b) (f5 b) = false ∧ E = 0 ∧ A = b → rdV b = some ⟨qk b, qs b, false, (qd b), (dL n (q5 b) (f5 b))⟩) := ⟨fun h => by
            obtain ⟨e1, e2⟩ := he.1 h.1
            have e3 : rtE ⟨qk b, qs b, false, (qd b), (dL n (q5 b) (f5 b))⟩ = 0 := by rw [← hE]; exact h.2.1
            have := (rdV_doc b).1 ⟨e2, by rw [e1]; exact e3, by rw [e1]; have := h.2.2; rw [hA, if_pos e3] at this; exact this⟩
            rw [e1] at this
            exact this⟩
          obtain ⟨p0, p1, p2, p3, p4, _⟩ := S.v.cells
          clear hA hE
          go_wp2_with fail
          with_reducible refine Calls.mono hwq ?_
          rintro e w20 ⟨rfl, b20⟩
          dsimp only
          have S20 := S.later b20
          have o20 := o.later b20
          clear hwq p0 p1 p2 p3 p4 b20
          obtain ⟨c0, c1, _⟩ := S20.q.cells
          obtain ⟨p0, p1, p2, p3, p4, _⟩ := S20.v.cells
          obtain ⟨z0, z1, z2, z3, z4, zf⟩ := S20.z.cells
          have zf0 := zf 0
          have zf1 := zf 1
          have zf2 := zf 2
          have zf3 := zf 3
          have zf4 := zf 4
          clear zf
          have HN : Hid (¬ (dF n (q5 b) (f5 b) = false ∧ E = 0 ∧ A = b) → RdP w (rdV b) (.returned (.tuple #[vv [] 0 false [] none 0 0, .int .i64 4])) (s5 w20 w.heap.size (.string ⟨#[]⟩) (.int .i64 0) (.bool false) (.string ⟨#[]⟩) (.slice none 0 0))) := ⟨fun h => by rw [HE0.out h]; exact ⟨Below.s5 S20.b (R := w.heap.size) (Nat.le_refl _) (.string ⟨#[]⟩) (.int .i64 0) (.bool false) (.string ⟨#[]⟩) (.slice none 0 0), rfl⟩⟩
          have hnoR : (Value.slice a n cap).ownBlock ≠ some w.heap.size := fun q => by have := (o20.own.lt _ q).1; omega
          have HY : Hid (dF n (q5 b) (f5 b) = false ∧ E = 0 ∧ A = b → RdP w (rdV b) (.returned (.tuple #[vv (qk b) (qs b) false (qd b) a n cap, .int .i64 0])) (s5 w20 w.heap.size (str (qk b)) (.int .i64 (qs b)) (.bool false) (str (qd b)) (.slice a n cap))) := ⟨fun h => by rw [HE1.out h]; exact ⟨Below.s5 S20.b (R := w.heap.size) (Nat.le_refl _) (str (qk b)) (.int .i64 (qs b)) (.bool false) (str (qd b)) (.slice a n cap), a, n, cap, rfl, hle, (o20.s5 hnoR (str (qk b)) (.int .i64 (qs b)) (.bool false) (str (qd b)) (.slice a n cap)).base (by omega)⟩⟩
          have zz := S20.z.s5 (.string ⟨#[]⟩) (.int .i64 0) (.bool false) (.string ⟨#[]⟩) (.slice none 0 0)
          have zy := S20.z.s5 (str (qk b)) (.int .i64 (qs b)) (.bool false) (str (qd b)) (.slice a n cap)
          generalize RdP w (rdV b) = PP at *
          clear HE0 HE1
          rw [FR.out] at c1 HN HY
          by_cases hE0 : E = 0
          · by_cases hAb : A = b
            · have HX := Hid.mk (HY.out ⟨rfl, hE0, hAb⟩)
              subst hE0
              have dab : (A == b) = true := by rw [beq_iff_eq]; exact hAb
              clear HN HY zz hAb
              go_wp2_with fail
              rw [s5_eq]
              generalize s5 w20 w.heap.size (str (qk b)) (.int .i64 (qs b)) (.bool false) (str (qd b)) (.slice a n cap) = W21 at *
              obtain ⟨g0, g1, g2, g3, g4, _⟩ := zy.cells
              refine bodyPost_ret (v := .tuple #[vv (qk b) (qs b) false (qd b) a n cap, .int .i64 0]) ?_ rfl HX.out
              rw [results_cell_tmp rfl]
              go_simp
            · have HX := Hid.mk (HN.out (fun q => hAb q.2.2))
              subst hE0
              have dab : (A == b) = false := by rw [beq_eq_false_iff_ne]; exact hAb
              clear HN HY zy hAb
              go_wp2_with fail
              rw [s5_eq]
              generalize s5 w20 w.heap.size (.string ⟨#[]⟩) (.int .i64 0) (.bool false) (.string ⟨#[]⟩) (.slice none 0 0) = W21 at *
              obtain ⟨g0, g1, g2, g3, g4, _⟩ := zz.cells
              refine bodyPost_ret (v := .tuple #[vv [] 0 false [] none 0 0, .int .i64 4]) ?_ rfl HX.out
              rw [results_cell_tmp rfl]
              go_simp
          · have HX := Hid.mk (HN.out (fun q => hE0 q.2.1))
            have dab : (E == 0) = false := by rw [beq_eq_false_iff_ne]; exact hE0
            have dab2 : (E != 0) = true := by rw [bne_iff_ne]; exact hE0
            have dab3 : decide (E = 0) = false := decide_eq_false hE0
            clear HN HY zy
            go_wp2_with fail
            rw [s5_eq]
            generalize s5 w20 w.heap.size (.string ⟨#[]⟩) (.int .i64 0) (.bool false) (.string ⟨#[]⟩) (.slice none 0 0) = W21 at *
            obtain ⟨g0, g1, g2, g3, g4, _⟩ := zz.cells
            refine bodyPost_ret (v := .tuple #[vv [] 0 false [] none 0 0, .int .i64 4]) ?_ rfl HX.out
            rw [results_cell_tmp rfl]
            go_simp
end Go.Proofs.Ytahdndmmakdamaa
