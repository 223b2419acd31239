import Derived.Test.YtgcdnanfnbdjjaaGreatGp
import Derived.Test.YtgcdnanfnbdjjaaGreatGu
/- held: are the answers in the book the document's? -/
namespace Go.Proofs.YtgcdnanfnbdjjaaGreat
set_option linter.unusedVariables false
set_option linter.unusedSimpArgs false
open Go.RowKit
attribute [local go_sem ↓] Go.wp_at_zero Go.wp_at_succ
/-- a row of buckets: each one's number and versions -/
structure BIn (w : World) (a : Option Addr) (Bs : List (Int × List Vs)) : Prop where
  get : ∀ k x, Bs[k]? = some x → ∃ b off xa xc, a = some ⟨b, off, none⟩ ∧ b < w.heap.size ∧ w.cell? ⟨b, off + k * 2, none⟩ = some (.int .i64 x.1) ∧ w.cell? ⟨b, off + k * 2 + 1, none⟩ = some (.slice xa x.2.length xc) ∧ Li w x.2 xa x.2.length xc
theorem BIn.later {w w' : World} {a : Option Addr} {Bs : List (Int × List Vs)} (h : BIn w a Bs) (hb : Below w.heap.size w w') : BIn w' a Bs := by
  refine ⟨fun k x hx => ?_⟩
  obtain ⟨b, off, xa, xc, e, h1, c0, c1, l⟩ := h.get k x hx
  exact ⟨b, off, xa, xc, e, Nat.lt_of_lt_of_le h1 hb.size, (hb.cell (p := ⟨b, _, none⟩) h1).trans c0, (hb.cell (p := ⟨b, _, none⟩) h1).trans c1, l.later hb⟩
/-- a row of rows -/
structure RIn (w : World) (a : Option Addr) (Xs : List (List Rw)) : Prop where
  get : ∀ k x, Xs[k]? = some x → ∃ b off xa xc, a = some ⟨b, off, none⟩ ∧ b < w.heap.size ∧ w.cell? ⟨b, off + k, none⟩ = some (.slice xa x.length xc) ∧ WIn w xa x
theorem RIn.later {w w' : World} {a : Option Addr} {Xs : List (List Rw)} (h : RIn w a Xs) (hb : Below w.heap.size w w') : RIn w' a Xs := by
  refine ⟨fun k x hx => ?_⟩
  obtain ⟨b, off, xa, xc, e, h1, c0, l⟩ := h.get k x hx
  exact ⟨b, off, xa, xc, e, Nat.lt_of_lt_of_le h1 hb.size, (hb.cell (p := ⟨b, _, none⟩) h1).trans c0, l.later hb⟩
/-- a book: six rows in its box -/
def Bbk (w : World) (g : Nat) (a b c d e f : Value) : Prop := w.heap[g]? = some (.cells #[a, b, c, d, e, f] 45 (0, 0))
theorem Bbk.cells {w : World} {g : Nat} {a b c d e f : Value} (h : Bbk w g a b c d e f) : w.cell? ⟨g, 0, none⟩ = some a ∧ w.cell? ⟨g, 1, none⟩ = some b ∧ w.cell? ⟨g, 2, none⟩ = some c ∧ w.cell? ⟨g, 3, none⟩ = some d ∧ w.cell? ⟨g, 4, none⟩ = some e ∧ w.cell? ⟨g, 5, none⟩ = some f := by
  refine ⟨?_, ?_, ?_, ?_, ?_, ?_⟩
  all_goals rw [cell_of_row _ _ _ _ _ _ h]; rfl
theorem Bbk.later {w w' : World} {g : Nat} {a b c d e f : Value} (h : Bbk w g a b c d e f) (hb : Below w.heap.size w w') : Bbk w' g a b c d e f := by
  have := hb.block g (lt_of_block h)
  unfold Bbk at h ⊢
  rw [this]; exact h
set_option maxRecDepth 100000 in
set_option maxHeartbeats 8000000 in
theorem held_any (w : World) (g : Nat) (Bs : List (Int × List Vs)) (V : List Vs) (Xs : List (List Rw)) (a0 : Option Addr) (c0 : Nat) (a1 : Option Addr) (c1 : Nat) (a2 : Option Addr) (c2 : Nat) (a3 : Option Addr) (c3 : Nat) (a4 : Option Addr) (c4 : Nat) (a5 : Option Addr) (c5 : Nat)
    (hB : Bbk w g (.slice a0 Bs.length c0) (.slice a1 Bs.length c1) (.slice a2 Xs.length c2) (.slice a3 Xs.length c3) (.slice a4 V.length c4) (.slice a5 V.length c5))
    (h0 : BIn w a0 Bs) (h1 : BIn w a1 Bs) (h2 : RIn w a2 Xs) (h3 : RIn w a3 Xs) (h4 : LIn w a4 V) (h5 : LIn w a5 V) (hl : Bs.length ≤ 1000 ∧ V.length ≤ 1000 ∧ Xs.length ≤ 1000) (hbl : ∀ x ∈ Bs, x.2.length ≤ 1000000) (hvl : ∀ u ∈ V, u.l.length ≤ 1000000) (hxl : ∀ x ∈ Xs, x.length ≤ 1000000) :
    Calls Tryz.prog 15 #[.pointer (some ⟨g, 0, none⟩)] w fun e w' => e = .returned (.bool true) ∧ Below w.heap.size w w' := by
  have HB := Hid.mk hB
  have H0 := Hid.mk h0
  have H1 := Hid.mk h1
  have H2 := Hid.mk h2
  have H3 := Hid.mk h3
  have H4 := Hid.mk h4
  have H5 := Hid.mk h5
  have Hl := Hid.mk hl
  have Hbl := Hid.mk hbl
  have Hvl := Hid.mk hvl
  have Hxl := Hid.mk hxl
  clear hB h0 h1 h2 h3 h4 h5 hl hbl hvl hxl
  go_enter Tryz.func15, Tryz.ntmps15
  go_wp2_with fail
  go_loopw [3] (fun i wr => ∃ k : Nat, k ≤ Bs.length ∧ i = .int .i64 (k : Int) ∧ Hid (Below w.heap.size w wr)) (fun i _ => Bs.length - (intOf i).toNat)
  case atStart => exact ⟨0, Nat.zero_le _, rfl, ⟨Below.refl _ _⟩⟩
  case round =>
    obtain ⟨k, hk, rfl, hb⟩ := hrel
    obtain ⟨p0, p1, p2, p3, p4, p5⟩ := (HB.out.later hb.out).cells
    by_cases hlt : k < Bs.length
    · have d1 : decide ((k : Int) < (Bs.length : Int)) = true := decide_eq_true (Int.ofNat_lt.2 hlt)
      have k2 : (k : Int) < (Bs.length : Int) := Int.ofNat_lt.2 hlt
      have hw1 : wrap64 ((k : Int) + 1) = ((k + 1 : Nat) : Int) := by have := Hl.out; unfold wrap64; omega
      obtain ⟨x, hx⟩ : ∃ x, Bs[k]? = some x := ⟨Bs[k], List.getElem?_eq_getElem hlt⟩
      obtain ⟨b, off, xa, xc, rfl, hbl, q0, q1, l1⟩ := (H0.out.later hb.out).get k x hx
      obtain ⟨b', off', ya, yc, rfl, hbl', r0, r1, l2⟩ := (H1.out.later hb.out).get k x hx
      have hsm := fun (w' : World) (h : Below wr.heap.size wr w') => qSame_eq x.1 x.2 w' xa xc ya yc (l1.later h) (l2.later h) (Hbl.out x (List.mem_of_getElem? hx))
      clear l1 l2 hx
      have HS1 : Hid (∀ w', Below wr.heap.size wr w' → Below wr.heap.size wr w' ∧ w'.cell? ⟨g, 0, none⟩ = some (.slice (some ⟨b, off, none⟩) Bs.length c0) ∧ w'.cell? ⟨g, 1, none⟩ = some (.slice (some ⟨b', off', none⟩) Bs.length c1) ∧ w'.cell? ⟨b, off + k * 2, none⟩ = some (.int .i64 x.1) ∧ w'.cell? ⟨b, off + k * 2 + 1, none⟩ = some (.slice xa x.2.length xc) ∧ w'.cell? ⟨b', off' + k * 2, none⟩ = some (.int .i64 x.1) ∧ w'.cell? ⟨b', off' + k * 2 + 1, none⟩ = some (.slice ya x.2.length yc)) := ⟨fun w' h => by
        obtain ⟨t0, t1, t2, t3, t4, t5⟩ := ((HB.out.later hb.out).later h).cells
        exact ⟨h, t0, t1, (h.cell (p := ⟨b, _, none⟩) hbl).trans q0, (h.cell (p := ⟨b, _, none⟩) hbl).trans q1, (h.cell (p := ⟨b', _, none⟩) hbl').trans r0, (h.cell (p := ⟨b', _, none⟩) hbl').trans r1⟩⟩
      go_wp2_with fail
      go_region_held3 (fun w' => Below wr.heap.size wr w' ∧ w'.cell? ⟨g, 0, none⟩ = some (.slice (some ⟨b, off, none⟩) Bs.length c0) ∧ w'.cell? ⟨g, 1, none⟩ = some (.slice (some ⟨b', off', none⟩) Bs.length c1) ∧ w'.cell? ⟨b, off + k * 2, none⟩ = some (.int .i64 x.1) ∧ w'.cell? ⟨b, off + k * 2 + 1, none⟩ = some (.slice xa x.2.length xc) ∧ w'.cell? ⟨b', off' + k * 2, none⟩ = some (.int .i64 x.1) ∧ w'.cell? ⟨b', off' + k * 2 + 1, none⟩ = some (.slice ya x.2.length yc)) ((refine HS1.out _ ?_; first
        | with_reducible exact (Below.refl _ _).drew
        | with_reducible exact below_seq (And.left (by assumption)) e1)) (
        (go_at_call 12; with_reducible refine Calls.mono (hsm _ (And.left (by assumption))) ?_; rintro e w5 ⟨rfl, e1⟩))
      have hb5 : Below wr.heap.size wr w5 := And.left (by assumption)
      have HB5 := Hid.mk (hb.out.trans (hb5.mono hb.out.size))
      clear e1 HS1 hsm hb5 p0 p1 p2 p3 p4 p5
      go_wp2_with fail
      exact ⟨⟨k + 1, hlt, by first | (rw [hw1]; done) | go_num, HB5⟩, by first | (rw [hw1]; exact Nat.sub_lt_sub_left hlt (Nat.lt_succ_self k)) | (simp [intOf]; omega)⟩
    · obtain rfl : k = Bs.length := by omega
      have d1 : decide ((Bs.length : Int) < (Bs.length : Int)) = false := decide_eq_false (by omega)
      go_wp2_with fail
      go_loopw [4] (fun i wr => ∃ k : Nat, k ≤ V.length ∧ i = .int .i64 (k : Int) ∧ Hid (Below w.heap.size w wr)) (fun i _ => V.length - (intOf i).toNat)
      case atStart => exact ⟨0, Nat.zero_le _, rfl, ⟨hb.out⟩⟩
      case round =>
        obtain ⟨k, hk, rfl, hb⟩ := hrel
        obtain ⟨p0, p1, p2, p3, p4, p5⟩ := (HB.out.later hb.out).cells
        by_cases hlt : k < V.length
        · have d1 : decide ((k : Int) < (V.length : Int)) = true := decide_eq_true (Int.ofNat_lt.2 hlt)
          have k2 : (k : Int) < (V.length : Int) := Int.ofNat_lt.2 hlt
          have hw1 : wrap64 ((k : Int) + 1) = ((k + 1 : Nat) : Int) := by have := Hl.out; unfold wrap64; omega
          obtain ⟨x, hx⟩ : ∃ x, V[k]? = some x := ⟨V[k], List.getElem?_eq_getElem hlt⟩
          obtain ⟨b, off, ma, mc, rfl, hbl, q0, q1, q2, q3, q4, s1⟩ := (H4.out.later hb.out).get k x hx
          obtain ⟨b', off', ma', mc', rfl, hbl', r0, r1, r2, r3, r4, s2⟩ := (H5.out.later hb.out).get k x hx
          have hvx := Hvl.out x (List.mem_of_getElem? hx)
          have hsm : ∀ w', Below wr.heap.size wr w' → Calls Tryz.prog 39 #[vv x.key x.seq x.mkr x.data ma x.l.length mc, vv x.key x.seq x.mkr x.data ma' x.l.length mc'] w' fun e w'' => e = .returned (.bool true) ∧ Below w'.heap.size w' w'' := fun w' h => by
            have := qSameVersion_any x x w' ma _ mc rfl (s1.later h).at' (by omega) ma' _ mc' rfl (s2.later h).at' (by omega)
            rw [sv_true rfl] at this
            exact this
          clear s1 s2 hx
          have HS1 : Hid (∀ w', Below wr.heap.size wr w' → Below wr.heap.size wr w' ∧ w'.cell? ⟨g, 4, none⟩ = some (.slice (some ⟨b, off, none⟩) V.length c4) ∧ w'.cell? ⟨g, 5, none⟩ = some (.slice (some ⟨b', off', none⟩) V.length c5) ∧ w'.cell? ⟨b, off + k * 5, none⟩ = some (str x.key) ∧ w'.cell? ⟨b, off + k * 5 + 1, none⟩ = some (.int .i64 x.seq) ∧ w'.cell? ⟨b, off + k * 5 + 2, none⟩ = some (.bool x.mkr) ∧ w'.cell? ⟨b, off + k * 5 + 3, none⟩ = some (str x.data) ∧ w'.cell? ⟨b, off + k * 5 + 4, none⟩ = some (.slice ma x.l.length mc) ∧ w'.cell? ⟨b', off' + k * 5, none⟩ = some (str x.key) ∧ w'.cell? ⟨b', off' + k * 5 + 1, none⟩ = some (.int .i64 x.seq) ∧ w'.cell? ⟨b', off' + k * 5 + 2, none⟩ = some (.bool x.mkr) ∧ w'.cell? ⟨b', off' + k * 5 + 3, none⟩ = some (str x.data) ∧ w'.cell? ⟨b', off' + k * 5 + 4, none⟩ = some (.slice ma' x.l.length mc')) := ⟨fun w' h => by
            obtain ⟨t0, t1, t2, t3, t4, t5⟩ := ((HB.out.later hb.out).later h).cells
            exact ⟨h, t4, t5, (h.cell (p := ⟨b, _, none⟩) hbl).trans q0, (h.cell (p := ⟨b, _, none⟩) hbl).trans q1, (h.cell (p := ⟨b, _, none⟩) hbl).trans q2, (h.cell (p := ⟨b, _, none⟩) hbl).trans q3, (h.cell (p := ⟨b, _, none⟩) hbl).trans q4, (h.cell (p := ⟨b', _, none⟩) hbl').trans r0, (h.cell (p := ⟨b', _, none⟩) hbl').trans r1, (h.cell (p := ⟨b', _, none⟩) hbl').trans r2, (h.cell (p := ⟨b', _, none⟩) hbl').trans r3, (h.cell (p := ⟨b', _, none⟩) hbl').trans r4⟩⟩
          go_wp2_with fail
          go_region_held3 (fun w' => Below wr.heap.size wr w' ∧ w'.cell? ⟨g, 4, none⟩ = some (.slice (some ⟨b, off, none⟩) V.length c4) ∧ w'.cell? ⟨g, 5, none⟩ = some (.slice (some ⟨b', off', none⟩) V.length c5) ∧ w'.cell? ⟨b, off + k * 5, none⟩ = some (str x.key) ∧ w'.cell? ⟨b, off + k * 5 + 1, none⟩ = some (.int .i64 x.seq) ∧ w'.cell? ⟨b, off + k * 5 + 2, none⟩ = some (.bool x.mkr) ∧ w'.cell? ⟨b, off + k * 5 + 3, none⟩ = some (str x.data) ∧ w'.cell? ⟨b, off + k * 5 + 4, none⟩ = some (.slice ma x.l.length mc) ∧ w'.cell? ⟨b', off' + k * 5, none⟩ = some (str x.key) ∧ w'.cell? ⟨b', off' + k * 5 + 1, none⟩ = some (.int .i64 x.seq) ∧ w'.cell? ⟨b', off' + k * 5 + 2, none⟩ = some (.bool x.mkr) ∧ w'.cell? ⟨b', off' + k * 5 + 3, none⟩ = some (str x.data) ∧ w'.cell? ⟨b', off' + k * 5 + 4, none⟩ = some (.slice ma' x.l.length mc')) ((refine HS1.out _ ?_; first
            | with_reducible exact (Below.refl _ _).drew
            | with_reducible exact below_seq (And.left (by assumption)) e1)) (
            (go_at_call 39; with_reducible refine Calls.mono (hsm _ (And.left (by assumption))) ?_; rintro e w6 ⟨rfl, e1⟩))
          have hb5 : Below wr.heap.size wr w6 := And.left (by assumption)
          have HB5 := Hid.mk (hb.out.trans (hb5.mono hb.out.size))
          clear e1 HS1 hsm hb5 p0 p1 p2 p3 p4 p5
          go_wp2_with fail
          exact ⟨⟨k + 1, hlt, by first | (rw [hw1]; done) | go_num, HB5⟩, by first | (rw [hw1]; exact Nat.sub_lt_sub_left hlt (Nat.lt_succ_self k)) | (simp [intOf]; omega)⟩
        · obtain rfl : k = V.length := by omega
          have d1 : decide ((V.length : Int) < (V.length : Int)) = false := decide_eq_false (by omega)
          go_wp2_with fail
          go_loopw [5] (fun i wr => ∃ k : Nat, k ≤ Xs.length ∧ i = .int .i64 (k : Int) ∧ Hid (Below w.heap.size w wr)) (fun i _ => Xs.length - (intOf i).toNat)
          case atStart => exact ⟨0, Nat.zero_le _, rfl, ⟨hb.out⟩⟩
          case round =>
            obtain ⟨k, hk, rfl, hb⟩ := hrel
            obtain ⟨p0, p1, p2, p3, p4, p5⟩ := (HB.out.later hb.out).cells
            by_cases hlt : k < Xs.length
            · have d1 : decide ((k : Int) < (Xs.length : Int)) = true := decide_eq_true (Int.ofNat_lt.2 hlt)
              have k2 : (k : Int) < (Xs.length : Int) := Int.ofNat_lt.2 hlt
              have hw1 : wrap64 ((k : Int) + 1) = ((k + 1 : Nat) : Int) := by have := Hl.out; unfold wrap64; omega
              obtain ⟨x, hx⟩ : ∃ x, Xs[k]? = some x := ⟨Xs[k], List.getElem?_eq_getElem hlt⟩
              obtain ⟨b, off, xa, xc, rfl, hbl, q0, l1⟩ := (H2.out.later hb.out).get k x hx
              obtain ⟨b', off', ya, yc, rfl, hbl', r0, l2⟩ := (H3.out.later hb.out).get k x hx
              have hsm := fun (w' : World) (h : Below wr.heap.size wr w') => qSameRows_eq x w' xa xc ya yc (l1.later h) (l2.later h) (Hxl.out x (List.mem_of_getElem? hx))
              clear l1 l2 hx
              have HS1 : Hid (∀ w', Below wr.heap.size wr w' → Below wr.heap.size wr w' ∧ w'.cell? ⟨g, 2, none⟩ = some (.slice (some ⟨b, off, none⟩) Xs.length c2) ∧ w'.cell? ⟨g, 3, none⟩ = some (.slice (some ⟨b', off', none⟩) Xs.length c3) ∧ w'.cell? ⟨b, off + k, none⟩ = some (.slice xa x.length xc) ∧ w'.cell? ⟨b', off' + k, none⟩ = some (.slice ya x.length yc)) := ⟨fun w' h => by
                obtain ⟨t0, t1, t2, t3, t4, t5⟩ := ((HB.out.later hb.out).later h).cells
                exact ⟨h, t2, t3, (h.cell (p := ⟨b, _, none⟩) hbl).trans q0, (h.cell (p := ⟨b', _, none⟩) hbl').trans r0⟩⟩
              go_wp2_with fail
              go_region_held3 (fun w' => Below wr.heap.size wr w' ∧ w'.cell? ⟨g, 2, none⟩ = some (.slice (some ⟨b, off, none⟩) Xs.length c2) ∧ w'.cell? ⟨g, 3, none⟩ = some (.slice (some ⟨b', off', none⟩) Xs.length c3) ∧ w'.cell? ⟨b, off + k, none⟩ = some (.slice xa x.length xc) ∧ w'.cell? ⟨b', off' + k, none⟩ = some (.slice ya x.length yc)) ((refine HS1.out _ ?_; first
                | with_reducible exact (Below.refl _ _).drew
                | with_reducible exact below_seq (And.left (by assumption)) e1)) (
                (go_at_call 44; with_reducible refine Calls.mono (hsm _ (And.left (by assumption))) ?_; rintro e w7 ⟨rfl, e1⟩))
              have hb5 : Below wr.heap.size wr w7 := And.left (by assumption)
              have HB5 := Hid.mk (hb.out.trans (hb5.mono hb.out.size))
              clear e1 HS1 hsm hb5 p0 p1 p2 p3 p4 p5
              go_wp2_with fail
              exact ⟨⟨k + 1, hlt, by first | (rw [hw1]; done) | go_num, HB5⟩, by first | (rw [hw1]; exact Nat.sub_lt_sub_left hlt (Nat.lt_succ_self k)) | (simp [intOf]; omega)⟩
            · obtain rfl : k = Xs.length := by omega
              have d1 : decide ((Xs.length : Int) < (Xs.length : Int)) = false := decide_eq_false (by omega)
              go_wp2_with fail
              go_ret
              exact ⟨rfl, hb.out⟩
end Go.Proofs.YtgcdnanfnbdjjaaGreat

/- The book's rows: what stands where, and what a store into them leaves. -/
namespace Go.Proofs.YtgcdnanfnbdjjaaGreat
set_option linter.unusedVariables false
set_option linter.unusedSimpArgs false
open Go.RowKit
theorem flat_len {α : Type} (f : α → List Value) (s : Nat) (hf : ∀ x, (f x).length = s) : ∀ l : List α, ((l.map f).flatten).length = l.length * s
  | [] => by simp
  | x :: l => by
    rw [List.map_cons, List.flatten_cons, List.length_append, flat_len f s hf l, hf x, List.length_cons, Nat.add_mul]
    omega
theorem flat_get {α : Type} (f : α → List Value) (s : Nat) (hf : ∀ x, (f x).length = s) : ∀ (l : List α) (k : Nat) (x : α), l[k]? = some x → ∀ j, j < s → ((l.map f).flatten)[k * s + j]? = (f x)[j]?
  | [], k, x, h, j, hj => by simp at h
  | y :: l, 0, x, h, j, hj => by
    simp at h
    subst h
    rw [List.map_cons, List.flatten_cons, Nat.zero_mul, Nat.zero_add, List.getElem?_append_left (by rw [hf]; exact hj)]
  | y :: l, k + 1, x, h, j, hj => by
    have ih := flat_get f s hf l k x (by simpa using h) j hj
    rw [List.map_cons, List.flatten_cons, List.getElem?_append_right (by rw [hf, Nat.add_mul]; omega), hf, Nat.add_mul, Nat.one_mul, show k * s + s + j - s = k * s + j by omega]
    exact ih
theorem flat_set {α : Type} (f : α → List Value) (s : Nat) (hf : ∀ x, (f x).length = s) (j : Nat) (hj : j < s) (u : Value) : ∀ (l : List α) (k : Nat) (x x' : α), l[k]? = some x → f x' = (f x).set j u → (((l.set k x').map f).flatten) = ((l.map f).flatten).set (k * s + j) u
  | [], k, x, x', h, e => by simp at h
  | y :: l, 0, x, x', h, e => by
    simp at h
    subst h
    rw [List.set_cons_zero, List.map_cons, List.flatten_cons, List.map_cons, List.flatten_cons, e, Nat.zero_mul, Nat.zero_add, List.set_append_left _ _ (by rw [hf]; exact hj)]
  | y :: l, k + 1, x, x', h, e => by
    have ih := flat_set f s hf j hj u l k x x' (by simpa using h) e
    rw [List.set_cons_succ, List.map_cons, List.flatten_cons, List.map_cons, List.flatten_cons, ih, List.set_append_right _ _ (by rw [hf, Nat.add_mul]; omega), hf, Nat.add_mul, Nat.one_mul, show k * s + s + j - s = k * s + j by omega]
theorem flat_same {α : Type} (f : α → List Value) : ∀ (l : List α) (k : Nat) (x x' : α), l[k]? = some x → f x' = f x → ((l.set k x').map f).flatten = (l.map f).flatten
  | [], k, x, x', h, e => by simp at h
  | y :: l, 0, x, x', h, e => by
    simp at h
    subst h
    rw [List.set_cons_zero, List.map_cons, List.flatten_cons, List.map_cons, List.flatten_cons, e]
  | y :: l, k + 1, x, x', h, e => by
    rw [List.set_cons_succ, List.map_cons, List.flatten_cons, List.map_cons, List.flatten_cons, flat_same f l k x x' (by simpa using h) e]
/-- what a row of one's own with something in it says -/
theorem own_row {w : World} {base s n : Nat} {t : TypeId} {v : Value} {xs : List Value} (h : w.ownsRow base t s v n xs) (hx : 0 < xs.length) : ∃ g cap, v = .slice (some ⟨g, 0, none⟩) n cap ∧ g < w.heap.size ∧ (∀ j, j < xs.length → w.cell? ⟨g, j, none⟩ = xs[j]?) ∧ ∀ j, w.frozen? ⟨g, j, none⟩ = false := by
  rcases h.2 with ⟨e, h0⟩ | ⟨g, cap, cur, e, hg, hc, h1, h2, h3, h4⟩
  · have := h.1
    rw [h0] at this
    simp at this
    subst this
    simp at hx
  · subst e
    exact ⟨g, cap, rfl, (h.lt g rfl).2, fun j hj => h.cellAt _ (by rw [← h.1]; exact hj), fun j => frozen_of_row w g j _ _ hc⟩
abbrev pp (k : List UInt8) : En := ⟨k, [112]⟩
section
variable {w0 w w' : World} {K : List Th} {x0 x1 x2 x3 x4 x5 : Value} {B W : List Bt} {X Y : List Xt} {M N : List Mt'}
theorem bk_row (E : EnvF w0 w (TF (bookL K x0 x1 x2 x3 x4 x5 B W X Y M N))) {i : Nat} {t : Bt} (hi : B[i]? = some t) : ∃ g cap, x0 = .slice (some ⟨g, 0, none⟩) B.length cap ∧ g < w.heap.size ∧ w.cell? ⟨g, i * 2, none⟩ = some (.int .i64 t.1) ∧ w.cell? ⟨g, i * 2 + 1, none⟩ = some t.2.1 ∧ ∀ j, w.frozen? ⟨g, j, none⟩ = false := by
  have h : w.ownsRow 0 24 2 x0 B.length (bcl B) := E.at' (1, 0) _ rfl
  have hl : (bcl B).length = B.length * 2 := flat_len _ 2 (fun _ => rfl) B
  have hil := (List.getElem?_eq_some_iff.1 hi).1
  obtain ⟨g, cap, e, h1, h2, h3⟩ := own_row h (by omega)
  have hg := flat_get (fun t : Bt => [.int .i64 t.1, t.2.1]) 2 (fun _ => rfl) B i t hi
  exact ⟨g, cap, e, h1, by rw [h2 _ (by omega)]; exact hg 0 (by omega), by rw [h2 _ (by omega)]; exact hg 1 (by omega), h3⟩
theorem bk_fo (E : EnvF w0 w (TF (bookL K x0 x1 x2 x3 x4 x5 B W X Y M N))) {i : Nat} {t : Bt} (hi : B[i]? = some t) : Fo 0 w t.2.1 t.2.2 := E.at' (2, i) (foB t) (by show (B.map foB)[i]? = _; rw [List.getElem?_map, hi]; rfl)
theorem bk_set (E : EnvF w0 w (TF (bookL K x0 x1 x2 x3 x4 x5 B W X Y M N))) {i : Nat} {n : Int} {v : Value} {R R' : List Rv} (hi : B[i]? = some (n, v, R)) (fr : Fr (Tc v R) w w') (h : Fo 0 w' v R') (ht : ∀ k, Tc v R' k → Tc v R k ∨ w.heap.size ≤ k) : EnvF w0 w' (TF (bookL K x0 x1 x2 x3 x4 x5 (B.set i (n, v, R')) W X Y M N)) := by
  have e := E.tSet 2 i (foTh v R) (foTh v R') (by show (B.map foB)[i]? = _; rw [List.getElem?_map, hi]; rfl) fr h ht
  have hb : bcl (B.set i (n, v, R')) = bcl B := flat_same _ B i (n, v, R) (n, v, R') hi rfl
  refine e.is ?_
  simp [bookL, hb, List.map_set, foB]
theorem bk_pair (E : EnvF w0 w (TF (bookL K x0 x1 x2 x3 x4 x5 B W X Y M N))) {i : Nat} {n : Int} {v : Value} {R : List Rv} (hi : B[i]? = some (n, v, R)) {k : Nat} {r : Rv} (hk : R[k]? = some r) (hz : r.z = []) {mb j : Nat} (ha : r.a = some ⟨mb, 0, none⟩) (hj : j < r.v.l.length) (p : En) :
    EnvF w0 ((w.setCell ⟨mb, j * 2, none⟩ (str p.key)).setCell ⟨mb, j * 2 + 1, none⟩ (str p.val)) (TF (bookL K x0 x1 x2 x3 x4 x5 (B.set i (n, v, R.set k { r with v := { r.v with l := r.v.l.set j p } })) W X Y M N)) := by
  have hm : Tc v R mb := .inr ⟨k, r, hk, by unfold Rv.mv; rw [ha]; rfl⟩
  refine bk_set E hi ((fr_set (S := Tc v R) w mb _ _ hm).setCell mb _ _ (.inl hm)) ((bk_fo E hi).setPair hk hz ha hj p) (fun g hg => tc_set hk (fun b hb => .inl ?_) hg)
  rw [← hb]; unfold Rv.mv; simp
theorem bk_seq (E : EnvF w0 w (TF (bookL K x0 x1 x2 x3 x4 x5 B W X Y M N))) {i g m cap : Nat} {n : Int} {R : List Rv} (hi : B[i]? = some (n, .slice (some ⟨g, 0, none⟩) m cap, R)) (hm : m = R.length) {k : Nat} {r : Rv} (hk : R[k]? = some r) (d : Int) :
    EnvF w0 (w.setCell ⟨g, k * 5 + 1, none⟩ (.int .i64 d)) (TF (bookL K x0 x1 x2 x3 x4 x5 (B.set i (n, .slice (some ⟨g, 0, none⟩) m cap, R.set k { r with v := { r.v with seq := d } })) W X Y M N)) := by
  have hg : Tc (.slice (some ⟨g, 0, none⟩) m cap) R g := .inl rfl
  exact bk_set E hi (fr_set (S := Tc _ R) w g _ _ hg) ((bk_fo E hi).setSeq hm hk d) (fun b hb => tc_set (r' := { r with v := { r.v with seq := d } }) hk (fun b hb => .inl hb) hb)
theorem mv_row (E : EnvF w0 w (TF (bookL K x0 x1 x2 x3 x4 x5 B W X Y M N))) {i : Nat} {t : Mt'} (hi : M[i]? = some t) : ∃ g cap, x4 = .slice (some ⟨g, 0, none⟩) M.length cap ∧ g < w.heap.size ∧ w.cell? ⟨g, i * 5 + 4, none⟩ = some (.slice t.2.1 t.1.l.length t.2.2) := by
  have h : w.ownsRow 0 39 5 x4 M.length (mcl M) := E.at' (1, 4) _ rfl
  have hl : (mcl M).length = M.length * 5 := flat_len _ 5 (fun _ => rfl) M
  have hil := (List.getElem?_eq_some_iff.1 hi).1
  obtain ⟨g, cap, e, h1, h2, h3⟩ := own_row h (by omega)
  have hg := flat_get (fun t : Mt' => [str t.1.key, .int .i64 t.1.seq, .bool t.1.mkr, str t.1.data, .slice t.2.1 t.1.l.length t.2.2]) 5 (fun _ => rfl) M i t hi
  exact ⟨g, cap, e, h1, by rw [h2 _ (by omega)]; exact hg 4 (by omega)⟩
theorem mv_own (E : EnvF w0 w (TF (bookL K x0 x1 x2 x3 x4 x5 B W X Y M N))) {i : Nat} {t : Mt'} (hi : M[i]? = some t) : w.ownsRow 0 41 2 (.slice t.2.1 t.1.l.length t.2.2) t.1.l.length (pcells t.1.l) := E.at' (6, i) (meM t) (by show (M.map meM)[i]? = _; rw [List.getElem?_map, hi]; rfl)
theorem mv_pair (E : EnvF w0 w (TF (bookL K x0 x1 x2 x3 x4 x5 B W X Y M N))) {i : Nat} {u : Vs} {mb c : Nat} (hi : M[i]? = some (u, some ⟨mb, 0, none⟩, c)) {j : Nat} (hj : j < u.l.length) (p : En) :
    EnvF w0 ((w.setCell ⟨mb, j * 2, none⟩ (str p.key)).setCell ⟨mb, j * 2 + 1, none⟩ (str p.val)) (TF (bookL K x0 x1 x2 x3 x4 x5 B W X Y (M.set i ({ u with l := u.l.set j p }, some ⟨mb, 0, none⟩, c)) N)) := by
  have ho := mv_own E hi
  have e := E.tSet (w' := (w.setCell ⟨mb, j * 2, none⟩ (str p.key)).setCell ⟨mb, j * 2 + 1, none⟩ (str p.val)) 6 i (meM (u, some ⟨mb, 0, none⟩, c)) (meM ({ u with l := u.l.set j p }, some ⟨mb, 0, none⟩, c)) (by show (M.map meM)[i]? = _; rw [List.getElem?_map, hi]; rfl)
    ((fr_set (S := fun k => some mb = some k) w mb _ _ rfl).setCell mb _ _ (.inl rfl)) (by
      show World.ownsRow _ 0 41 2 (.slice (some ⟨mb, 0, none⟩) (u.l.set j p).length c) (u.l.set j p).length (pcells (u.l.set j p))
      rw [List.length_set, pcells_set _ _ _ hj]
      exact own_cellT (own_cellT ho _ _) _ _) (fun k hk => .inl (by simpa [meM, rwTh, Value.ownBlock] using hk))
  have hb : mcl (M.set i ({ u with l := u.l.set j p }, some ⟨mb, 0, none⟩, c)) = mcl M := flat_same _ M i _ _ hi (by simp)
  refine e.is ?_
  simp [bookL, hb, List.map_set]
theorem xr_row (E : EnvF w0 w (TF (bookL K x0 x1 x2 x3 x4 x5 B W X Y M N))) {i : Nat} {t : Xt} (hi : X[i]? = some t) : ∃ g cap, x2 = .slice (some ⟨g, 0, none⟩) X.length cap ∧ g < w.heap.size ∧ w.cell? ⟨g, i, none⟩ = some t.1 ∧ ∀ j, w.frozen? ⟨g, j, none⟩ = false := by
  have h : w.ownsRow 0 58 1 x2 X.length (xcl X) := E.at' (1, 2) _ rfl
  have hl : (xcl X).length = X.length := by simp [xcl]
  have hil := (List.getElem?_eq_some_iff.1 hi).1
  obtain ⟨g, cap, e, h1, h2, h3⟩ := own_row h (by omega)
  exact ⟨g, cap, e, h1, by rw [h2 _ (by omega)]; simp [xcl, hi], h3⟩
theorem xr_own (E : EnvF w0 w (TF (bookL K x0 x1 x2 x3 x4 x5 B W X Y M N))) {i : Nat} {t : Xt} (hi : X[i]? = some t) : w.ownsRow 0 73 4 t.1 t.2.length (wcells t.2) := E.at' (4, i) (woX t) (by show (X.map woX)[i]? = _; rw [List.getElem?_map, hi]; rfl)
theorem xr_seq (E : EnvF w0 w (TF (bookL K x0 x1 x2 x3 x4 x5 B W X Y M N))) {i g m cap : Nat} {Z : List Rw} (hi : X[i]? = some (.slice (some ⟨g, 0, none⟩) m cap, Z)) (hm : m = Z.length) {k : Nat} {r : Rw} (hk : Z[k]? = some r) (d : Int) :
    EnvF w0 (w.setCell ⟨g, k * 4 + 1, none⟩ (.int .i64 d)) (TF (bookL K x0 x1 x2 x3 x4 x5 B W (X.set i (.slice (some ⟨g, 0, none⟩) m cap, Z.set k { r with seq := d })) Y M N)) := by
  subst hm
  have ho := xr_own E hi
  have e := E.tSet (w' := w.setCell ⟨g, k * 4 + 1, none⟩ (.int .i64 d)) 4 i (woX (.slice (some ⟨g, 0, none⟩) Z.length cap, Z)) (woX (.slice (some ⟨g, 0, none⟩) Z.length cap, Z.set k { r with seq := d })) (by show (X.map woX)[i]? = _; rw [List.getElem?_map, hi]; rfl)
    (fr_set (S := fun k => some g = some k) w g _ _ rfl) (by
      show World.ownsRow _ 0 73 4 (.slice (some ⟨g, 0, none⟩) Z.length cap) (Z.set k { r with seq := d }).length (wcells (Z.set k { r with seq := d }))
      rw [List.length_set]
      have := flat_set wcs 4 (fun _ => rfl) 1 (by omega) (.int .i64 d) Z k r { r with seq := d } hk rfl
      unfold wcells
      rw [this]
      exact own_cellT ho _ _) (fun k hk => .inl (by simpa [woX, rwTh, Value.ownBlock] using hk))
  have hb : xcl (X.set i (.slice (some ⟨g, 0, none⟩) Z.length cap, Z.set k { r with seq := d })) = xcl X := by
    unfold xcl
    rw [List.map_set]
    apply List.ext_getElem?
    intro a
    by_cases q : a = i
    · subst q
      have hl := (List.getElem?_eq_some_iff.1 hi).1
      rw [List.getElem?_set_self (by simpa using hl), List.getElem?_map, hi]; rfl
    · rw [List.getElem?_set_ne (fun e => q e.symm)]
  refine e.is ?_
  simp [bookL, hb, List.map_set]
end
/-- the mark of a place -/
def num (i k : Nat) : Int := -((1000 * i + k : Nat) : Int) - 1
def Mkd (i k : Nat) (r : Rv) : Prop := r.v.seq = num i k ∧ ∀ p ∈ r.v.l, p = pp r.v.key
/-- the first so many are marked -/
def MB (B : List Bt) (I k0 : Nat) : Prop := ∀ (i : Nat) (t : Bt) (k : Nat) (r : Rv), B[i]? = some t → t.2.2[k]? = some r → (i < I ∨ (i = I ∧ k < k0)) → Mkd i k r
def MX (X : List Xt) (I k0 : Nat) : Prop := ∀ (i : Nat) (t : Xt) (k : Nat) (r : Rw), X[i]? = some t → t.2[k]? = some r → (i < I ∨ (i = I ∧ k < k0)) → r.seq = num i k
theorem MB.next {B : List Bt} {I k0 : Nat} (h : MB B I k0) (hk : ∀ t, B[I]? = some t → t.2.2.length ≤ k0) : MB B (I + 1) 0 := fun i t k r hi hr hc => by
  refine h i t k r hi hr ?_
  by_cases e : i = I
  · subst e
    have := hk t hi
    have := (List.getElem?_eq_some_iff.1 hr).1
    omega
  · omega
theorem MX.next {X : List Xt} {I k0 : Nat} (h : MX X I k0) (hk : ∀ t, X[I]? = some t → t.2.length ≤ k0) : MX X (I + 1) 0 := fun i t k r hi hr hc => by
  refine h i t k r hi hr ?_
  by_cases e : i = I
  · subst e
    have := hk t hi
    have := (List.getElem?_eq_some_iff.1 hr).1
    omega
  · omega
theorem MB.zero (B : List Bt) : MB B 0 0 := fun i t k r hi hr hc => by omega
theorem MX.zero (X : List Xt) : MX X 0 0 := fun i t k r hi hr hc => by omega
/-- a list that was answered, set at a place -/
theorem setG {α : Type} {l : List α} {i j : Nat} {x y : α} (h : (l.set i x)[j]? = some y) : (j = i ∧ y = x) ∨ (¬ j = i ∧ l[j]? = some y) := by
  by_cases e : j = i
  · subst e
    have hl := (List.getElem?_eq_some_iff.1 h).1
    rw [List.getElem?_set_self (by simpa using hl)] at h
    injection h with h
    exact .inl ⟨rfl, h.symm⟩
  · rw [List.getElem?_set_ne (fun q => e q.symm)] at h
    exact .inr ⟨e, h⟩
theorem setM {α : Type} {l : List α} {i : Nat} {x y : α} (h : y ∈ l.set i x) : y = x ∨ y ∈ l := by
  rcases List.mem_or_eq_of_mem_set h with q | q
  · exact .inr q
  · exact .inl q
theorem getSet {α : Type} {l : List α} {i : Nat} {x y : α} (h : l[i]? = some y) : (l.set i x)[i]? = some x := List.getElem?_set_self (List.getElem?_eq_some_iff.1 h).1
theorem GB.setR {n : Int} {v : Value} {R : List Rv} (h : GB (n, v, R)) {k : Nat} {r r' : Rv} (hk : R[k]? = some r) (hz : r'.z = r.z) (hl : r'.v.l.length = r.v.l.length) : GB (n, v, R.set k r') := by
  obtain ⟨a, c, e⟩ := h.v
  have hm := List.mem_of_getElem? hk
  refine ⟨⟨a, c, by simpa using e⟩, by simpa using h.len, fun q hq => ?_, fun q hq => ?_⟩
  · rcases setM hq with rfl | hq
    · rw [hz]; exact h.z r hm
    · exact h.z q hq
  · rcases setM hq with rfl | hq
    · rw [hl]; exact h.l r hm
    · exact h.l q hq
theorem MB.pair {B : List Bt} {I k0 : Nat} (h : MB B I k0) {n : Int} {v : Value} {R : List Rv} {r : Rv} (hi : B[I]? = some (n, v, R)) (hk : R[k0]? = some r) (r' : Rv) : MB (B.set I (n, v, R.set k0 r')) I k0 := fun i t k q ht hq hc => by
  rcases setG ht with ⟨rfl, rfl⟩ | ⟨hne, ht⟩
  · have hq : (R.set k0 r')[k]? = some q := hq
    rcases setG hq with ⟨rfl, rfl⟩ | ⟨_, hq⟩
    · omega
    · exact h i _ k q hi hq hc
  · exact h i t k q ht hq hc
theorem MB.mark {B : List Bt} {I k0 : Nat} (h : MB B I k0) {n : Int} {v : Value} {R : List Rv} {r : Rv} (hi : B[I]? = some (n, v, R)) (hk : R[k0]? = some r) (r' : Rv) (hm : Mkd I k0 r') : MB (B.set I (n, v, R.set k0 r')) I (k0 + 1) := fun i t k q ht hq hc => by
  rcases setG ht with ⟨rfl, rfl⟩ | ⟨hne, ht⟩
  · have hq : (R.set k0 r')[k]? = some q := hq
    rcases setG hq with ⟨rfl, rfl⟩ | ⟨_, hq⟩
    · exact hm
    · exact h i _ k q hi hq (by omega)
  · exact h i t k q ht hq (by omega)
theorem MX.mark {X : List Xt} {I k0 : Nat} (h : MX X I k0) {v : Value} {Z : List Rw} {r : Rw} (hi : X[I]? = some (v, Z)) (hk : Z[k0]? = some r) : MX (X.set I (v, Z.set k0 { r with seq := num I k0 })) I (k0 + 1) := fun i t k q ht hq hc => by
  rcases setG ht with ⟨rfl, rfl⟩ | ⟨hne, ht⟩
  · have hq : (Z.set k0 _)[k]? = some q := hq
    rcases setG hq with ⟨rfl, rfl⟩ | ⟨_, hq⟩
    · rfl
    · exact h i _ k q hi hq (by omega)
  · exact h i t k q ht hq (by omega)
end Go.Proofs.YtgcdnanfnbdjjaaGreat

/- held, of a book told by its things. -/
namespace Go.Proofs.YtgcdnanfnbdjjaaGreat
set_option linter.unusedVariables false
set_option linter.unusedSimpArgs false
open Go.RowKit
section
variable {w : World} {a0 : Option Addr} {n0 c0 : Nat}
theorem b_in {B : List Bt} (h : w.ownsRow 0 24 2 (.slice a0 n0 c0) B.length (bcl B)) (hfo : ∀ (i : Nat) t, B[i]? = some t → Fo 0 w t.2.1 t.2.2) (hG : ∀ t ∈ B, GB t) : BIn w a0 (B.map bval) := by
  refine ⟨fun k x hx => ?_⟩
  rw [List.getElem?_map] at hx
  obtain ⟨t, ht, rfl⟩ := Option.map_eq_some_iff.1 hx
  have hl : (bcl B).length = B.length * 2 := flat_len _ 2 (fun _ => rfl) B
  have hil := (List.getElem?_eq_some_iff.1 ht).1
  obtain ⟨g, cap, e, h1, h2, h3⟩ := own_row h (by omega)
  have hg := flat_get (fun t : Bt => [.int .i64 t.1, t.2.1]) 2 (fun _ => rfl) B k t ht
  have hGt := hG t (List.mem_of_getElem? ht)
  obtain ⟨xa, xc, ev, ls⟩ := (hfo k t ht).ls
  have hlen : (bval t).2.length = t.2.2.length := by simp [bval]
  refine ⟨g, 0, xa, xc, (by injection e), h1, ?_, ?_, ⟨rfl, ls, ?_, ?_⟩⟩
  · rw [Nat.zero_add, h2 _ (by omega)]; exact hg 0 (by omega)
  · rw [Nat.zero_add, h2 _ (by omega), hlen, ← ev]; exact hg 1 (by omega)
  · rw [hlen]; have := hGt.len; omega
  · intro v hv
    obtain ⟨r, hr, rfl⟩ := List.mem_map.1 hv
    exact hGt.l r hr
theorem x_in {X : List Xt} (h : w.ownsRow 0 58 1 (.slice a0 n0 c0) X.length (xcl X)) (ho : ∀ (i : Nat) t, X[i]? = some t → w.ownsRow 0 73 4 t.1 t.2.length (wcells t.2)) : RIn w a0 (X.map (·.2)) := by
  refine ⟨fun k x hx => ?_⟩
  rw [List.getElem?_map] at hx
  obtain ⟨t, ht, rfl⟩ := Option.map_eq_some_iff.1 hx
  have hl : (xcl X).length = X.length := by simp [xcl]
  have hil := (List.getElem?_eq_some_iff.1 ht).1
  obtain ⟨g, cap, e, h1, h2, h3⟩ := own_row h (by omega)
  obtain ⟨xa, xc, ev, ls⟩ := (⟨ho k t ht, Nat.zero_le _⟩ : Wo 0 w t.1 t.2).sl
  refine ⟨g, 0, xa, xc, (by injection e), h1, ?_, ls⟩
  rw [Nat.zero_add, h2 _ (by omega), ← ev]
  simp [xcl, ht]
theorem m_in {M : List Mt'} (h : w.ownsRow 0 39 5 (.slice a0 n0 c0) M.length (mcl M)) (ho : ∀ (i : Nat) t, M[i]? = some t → w.ownsRow 0 41 2 (.slice t.2.1 t.1.l.length t.2.2) t.1.l.length (pcells t.1.l)) : LIn w a0 (M.map (·.1)) := by
  refine ⟨fun k x hx => ?_⟩
  rw [List.getElem?_map] at hx
  obtain ⟨t, ht, rfl⟩ := Option.map_eq_some_iff.1 hx
  have hl : (mcl M).length = M.length * 5 := flat_len _ 5 (fun _ => rfl) M
  have hil := (List.getElem?_eq_some_iff.1 ht).1
  obtain ⟨g, cap, e, h1, h2, h3⟩ := own_row h (by omega)
  have hg := flat_get (fun t : Mt' => [str t.1.key, .int .i64 t.1.seq, .bool t.1.mkr, str t.1.data, .slice t.2.1 t.1.l.length t.2.2]) 5 (fun _ => rfl) M k t ht
  obtain ⟨ma, mc, ev, sl⟩ := (⟨ho k t ht, Nat.zero_le _⟩ : Ow 0 w (.slice t.2.1 t.1.l.length t.2.2) t.1.l).sl
  injection ev with e1 e2 e3
  subst e1 e3
  refine ⟨g, 0, t.2.1, t.2.2, (by injection e), h1, ?_, ?_, ?_, ?_, ?_, sl⟩
  · rw [Nat.zero_add, h2 _ (by omega)]; exact hg 0 (by omega)
  · rw [Nat.zero_add, h2 _ (by omega)]; exact hg 1 (by omega)
  · rw [Nat.zero_add, h2 _ (by omega)]; exact hg 2 (by omega)
  · rw [Nat.zero_add, h2 _ (by omega)]; exact hg 3 (by omega)
  · rw [Nat.zero_add, h2 _ (by omega)]; exact hg 4 (by omega)
end
/-- what the two sides of a book have in common -/
structure Alike (B W : List Bt) (X Y : List Xt) (M N : List Mt') : Prop where
  b : B.map bval = W.map bval
  gb : ∀ t ∈ B, GB t
  gw : ∀ t ∈ W, GB t
  x : X.map (·.2) = Y.map (·.2)
  gx : ∀ t ∈ X, t.2.length ≤ 1000000
  m : M.map (·.1) = N.map (·.1)
  gm : ∀ t ∈ M, t.1.l.length ≤ 1000000
theorem Alike.nil : Alike [] [] [] [] [] [] := ⟨rfl, by simp, by simp, rfl, by simp, rfl, by simp⟩
theorem Alike.append {B W B' W' : List Bt} {X Y X' Y' : List Xt} {M N M' N' : List Mt'} (h : Alike B W X Y M N) (k : Alike B' W' X' Y' M' N') : Alike (B ++ B') (W ++ W') (X ++ X') (Y ++ Y') (M ++ M') (N ++ N') := by
  refine ⟨by rw [List.map_append, List.map_append, h.b, k.b], fun t ht => ?_, fun t ht => ?_, by rw [List.map_append, List.map_append, h.x, k.x], fun t ht => ?_, by rw [List.map_append, List.map_append, h.m, k.m], fun t ht => ?_⟩
  · rcases List.mem_append.1 ht with q | q
    · exact h.gb t q
    · exact k.gb t q
  · rcases List.mem_append.1 ht with q | q
    · exact h.gw t q
    · exact k.gw t q
  · rcases List.mem_append.1 ht with q | q
    · exact h.gx t q
    · exact k.gx t q
  · rcases List.mem_append.1 ht with q | q
    · exact h.gm t q
    · exact k.gm t q
theorem held_env {w0 w : World} {g : Nat} {B W : List Bt} {X Y : List Xt} {M N : List Mt'} {a0 a1 a2 a3 a4 a5 : Option Addr} {c0 c1 c2 c3 c4 c5 : Nat} (E : EnvF w0 w (TF (bookL [] (.slice a0 B.length c0) (.slice a1 W.length c1) (.slice a2 X.length c2) (.slice a3 Y.length c3) (.slice a4 M.length c4) (.slice a5 N.length c5) B W X Y M N)))
    (hB : Bbk w g (.slice a0 B.length c0) (.slice a1 W.length c1) (.slice a2 X.length c2) (.slice a3 Y.length c3) (.slice a4 M.length c4) (.slice a5 N.length c5)) (hA : Alike B W X Y M N) (hl : B.length ≤ 1000 ∧ M.length ≤ 1000 ∧ X.length ≤ 1000) :
    Calls Tryz.prog 15 #[.pointer (some ⟨g, 0, none⟩)] w fun e w' => e = .returned (.bool true) ∧ Below w.heap.size w w' := by
  have lw : W.length = B.length := by have := congrArg List.length hA.b; simpa using this.symm
  have ly : Y.length = X.length := by have := congrArg List.length hA.x; simpa using this.symm
  have ln : N.length = M.length := by have := congrArg List.length hA.m; simpa using this.symm
  have i0 := b_in (w := w) (B := B) (E.at' (1, 0) _ rfl) (fun i t ht => bk_fo E ht) hA.gb
  have i1 := b_in (w := w) (B := W) (E.at' (1, 1) _ rfl) (fun i t ht => E.at' (3, i) (foB t) (by show (W.map foB)[i]? = _; rw [List.getElem?_map, ht]; rfl)) hA.gw
  have i2 := x_in (w := w) (X := X) (E.at' (1, 2) _ rfl) (fun i t ht => xr_own E ht)
  have i3 := x_in (w := w) (X := Y) (E.at' (1, 3) _ rfl) (fun i t ht => E.at' (5, i) (woX t) (by show (Y.map woX)[i]? = _; rw [List.getElem?_map, ht]; rfl))
  have i4 := m_in (w := w) (M := M) (E.at' (1, 4) _ rfl) (fun i t ht => mv_own E ht)
  have i5 := m_in (w := w) (M := N) (E.at' (1, 5) _ rfl) (fun i t ht => E.at' (7, i) (meM t) (by show (N.map meM)[i]? = _; rw [List.getElem?_map, ht]; rfl))
  rw [← hA.b] at i1
  rw [← hA.x] at i3
  rw [← hA.m] at i5
  rw [lw, ly, ln] at hB
  refine held_any w g (B.map bval) (M.map (·.1)) (X.map (·.2)) a0 c0 a1 c1 a2 c2 a3 c3 a4 c4 a5 c5 (by simpa using hB) i0 i1 i2 i3 i4 i5 (by simpa using hl) (fun x hx => ?_) (fun u hu => ?_) (fun x hx => ?_)
  · obtain ⟨t, ht, rfl⟩ := List.mem_map.1 hx
    have := (hA.gb t ht).len
    simpa [bval] using this
  · obtain ⟨t, ht, rfl⟩ := List.mem_map.1 hu
    exact hA.gm t ht
  · obtain ⟨t, ht, rfl⟩ := List.mem_map.1 hx
    exact hA.gx t ht
end Go.Proofs.YtgcdnanfnbdjjaaGreat
