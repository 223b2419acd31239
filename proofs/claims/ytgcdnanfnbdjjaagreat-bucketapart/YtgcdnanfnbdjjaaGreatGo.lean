import Derived.Test.YtgcdnanfnbdjjaaGreatGn
import Derived.Deep.QuietTactic
/- The document's row, List, Versions, SameRows and Same. -/
namespace Go.Proofs.YtgcdnanfnbdjjaaGreat
set_option linter.unusedVariables false
set_option linter.unusedSimpArgs false
open Go.RowKit
attribute [local go_sem ↓] Go.wp_at_zero Go.wp_at_succ
theorem app_wo {ops : Array Oper} {rest : List Oper} {o : Oper} {a : Act} {Q : Exit → Act → World → Prop} {W : World} (hgd : o.guard = none) (s x : Operand) (ho : o.op = .call { callee := .builtin .append, args := #[s, x], argTypes := #[58, 58] })
    {base : Nat} {w : World} {v : Value} {X : List Rw} {g : Nat} (r : Rw) (hW : W = w.alloc (.cells #[str r.key, .int .i64 r.seq, .bool r.mkr, .int .i64 r.size] 73)) (hO : Wo base w v X) (hg : g = w.heap.size) (hn : X.length ≤ 1954687338260)
    (hs : a.eval s = v) (hx : a.eval x = .slice (some ⟨g, 0, none⟩) 1 1)
    (h : ∀ v' w', Wo base w' v' (X ++ [r]) → Below base w w' → wpList Tryz.prog ops Q rest (a.put o.dst v') w') :
    wpList Tryz.prog ops Q (o :: rest) a W := by
  obtain ⟨i0, hi, hz0, hz1, hz2⟩ := info_parts infoWf
  subst hW hg
  have hm : maxLen = 9223372036854775807 := rfl
  refine wpList_append_lies _ hgd s x 58 ho base 73 i0 _ 4 40 Tryz.underlying58 hi hz0 hz1 hz2 rfl (by omega) v X.length (wcells X) hs (hO.own.alloc _) _ 1 1 (wcs r) hx rfl
    (World.news_of_block (cs := (wcs r).toArray) (t := 73) (fr := (0, 0)) (heap_alloc_new w _)) (by simp [wcs, Value.oneCell']) (by omega) (by rw [hm]; omega) (by omega) (by have := hO.le; simp; omega) _ rfl ?_
  intro g2 cap2 w' hown hgrow hat hlt
  have hsz : w.heap.size ≤ w'.heap.size := by have := hgrow.size; simp at this; omega
  refine h _ w' ⟨?_, ?_⟩ ?_
  · have e : wcells (X ++ [r]) = wcells X ++ wcs r := by simp [wcells]
    rw [e, List.length_append]
    exact hown
  · have := hO.le; omega
  · exact ((Below.refl _ _).alloc hO.le _).trans (grown_below (hO.own.alloc _) (by have := hO.le; simp; omega) hgrow)
theorem qrow_any (key : List UInt8) (seq : Int) (mkr : Bool) (data : List UInt8) (w : World) (a : Option Addr) (n c : Nat) : Calls Tryz.prog 71 #[vv key seq mkr data a n c] w fun e w' => e = .returned (.agg #[str key, .int .i64 seq, .bool mkr, .int .i64 (data.length : Int)]) ∧ Below w.heap.size w w' := by
  have b1 := (Below.refl w.heap.size w).alloc (Nat.le_refl _) (.cells #[str key, .int .i64 seq, .bool mkr, str data, .slice a n c] 39)
  have b2 := b1.alloc b1.size (.cells #[str key, .int .i64 seq, .bool mkr, .int .i64 (data.length : Int)] 73)
  clear b1
  go_enter Tryz.func71, Tryz.ntmps71
  go_wp2_with fail
  refine bodyPost_ret (v := .agg #[str key, .int .i64 seq, .bool mkr, .int .i64 (data.length : Int)]) ?_ rfl ⟨rfl, b2⟩
  rw [results_cell1 rfl]
  go_simp
end Go.Proofs.YtgcdnanfnbdjjaaGreat

/- The document's SameRows and Same, of two that are the same. -/
namespace Go.Proofs.YtgcdnanfnbdjjaaGreat
set_option linter.unusedVariables false
set_option linter.unusedSimpArgs false
open Go.RowKit
attribute [local go_sem ↓] Go.wp_at_zero Go.wp_at_succ
set_option maxRecDepth 100000 in
set_option maxHeartbeats 4000000 in
theorem qSameRows_eq (X : List Rw) (w : World) (a : Option Addr) (c : Nat) (a' : Option Addr) (c' : Nat) (h1 : WIn w a X) (h2 : WIn w a' X) (hl : X.length ≤ 1000000) :
    Calls Tryz.prog 44 #[.slice a X.length c, .slice a' X.length c'] w fun e w' => e = .returned (.bool true) ∧ Below w.heap.size w w' := by
  go_enter Tryz.func44, Tryz.ntmps44
  go_wp2_with fail
  go_loopw [5] (fun i wr => ∃ k : Nat, k ≤ X.length ∧ i = .int .i64 (k : Int) ∧ Hid (Below w.heap.size w wr)) (fun i _ => X.length - (intOf i).toNat)
  case atStart => exact ⟨0, Nat.zero_le _, rfl, ⟨Below.refl _ _⟩⟩
  case round =>
    obtain ⟨k, hk, rfl, HB⟩ := hrel
    by_cases hlt : k < X.length
    · have d1 : decide ((k : Int) < (X.length : Int)) = true := decide_eq_true (Int.ofNat_lt.2 hlt)
      have k2 : (k : Int) < (X.length : Int) := Int.ofNat_lt.2 hlt
      have hw1 : wrap64 ((k : Int) + 1) = ((k + 1 : Nat) : Int) := by unfold wrap64; omega
      obtain ⟨r, hr⟩ : ∃ r, X[k]? = some r := ⟨X[k], List.getElem?_eq_getElem hlt⟩
      obtain ⟨b, off, rfl, hbl, c0, c1, c2, c3⟩ := (h1.later HB.out).get k r hr
      obtain ⟨b', off', rfl, hbl', e0, e1, e2, e3⟩ := (h2.later HB.out).get k r hr
      clear h1 h2 hr
      go_wp2_with fail
      go_quiet (fail)
      go_wp2_with fail
      exact ⟨⟨k + 1, hlt, by first | (rw [hw1]; done) | go_num, ⟨below_dN HB.out nq⟩⟩, by first | (rw [hw1]; exact Nat.sub_lt_sub_left hlt (Nat.lt_succ_self k)) | (simp [intOf]; omega)⟩
    · obtain rfl : k = X.length := by omega
      have d1 : decide ((X.length : Int) < (X.length : Int)) = false := decide_eq_false (by omega)
      clear h1 h2
      go_wp2_with fail
      go_ret
      exact ⟨rfl, HB.out⟩
set_option maxRecDepth 100000 in
set_option maxHeartbeats 4000000 in
theorem qSame_eq (next : Int) (L : List Vs) (w : World) (a : Option Addr) (c : Nat) (a' : Option Addr) (c' : Nat) (h1 : Li w L a L.length c) (h2 : Li w L a' L.length c') (hl : L.length ≤ 1000000) :
    Calls Tryz.prog 12 #[bv next a L.length c, bv next a' L.length c'] w fun e w' => e = .returned (.bool true) ∧ Below w.heap.size w w' := by
  have b1 := (Below.refl w.heap.size w).alloc (Nat.le_refl _) (.cells #[.int .i64 next, .slice a L.length c] 24)
  have b2 := b1.alloc b1.size (.cells #[.int .i64 next, .slice a' L.length c'] 24)
  have z1 := (Bq.new w (.int .i64 next) (.slice a L.length c)).later ((Below.refl (w.alloc (.cells #[.int .i64 next, .slice a L.length c] 24)).heap.size _).alloc (Nat.le_refl _) (.cells #[.int .i64 next, .slice a' L.length c'] 24))
  have z2 := Bq.new (w.alloc (.cells #[.int .i64 next, .slice a L.length c] 24)) (.int .i64 next) (.slice a' L.length c')
  rw [World.size_alloc] at z2
  have H1 := Hid.mk (h1.later b2)
  have H2 := Hid.mk (h2.later b2)
  clear h1 h2 b1
  go_enter Tryz.func12, Tryz.ntmps12
  go_wp2_with fail
  have Z1 := Hid.mk z1
  have Z2 := Hid.mk z2
  clear z1 z2
  generalize (w.alloc (.cells #[.int .i64 next, .slice a L.length c] 24)).alloc (.cells #[.int .i64 next, .slice a' L.length c'] 24) = W2 at *
  go_loopw [5] (fun i wr => ∃ k : Nat, k ≤ L.length ∧ i = .int .i64 (k : Int) ∧ Hid (Below W2.heap.size W2 wr)) (fun i _ => L.length - (intOf i).toNat)
  case atStart => exact ⟨0, Nat.zero_le _, rfl, ⟨Below.refl _ _⟩⟩
  case round =>
    obtain ⟨k, hk, rfl, HB⟩ := hrel
    obtain ⟨p0, p1, _⟩ := (Z1.out.later HB.out).cells
    obtain ⟨q0, q1, _⟩ := (Z2.out.later HB.out).cells
    by_cases hlt : k < L.length
    · have d1 : decide ((k : Int) < (L.length : Int)) = true := decide_eq_true (Int.ofNat_lt.2 hlt)
      have k2 : (k : Int) < (L.length : Int) := Int.ofNat_lt.2 hlt
      have hw1 : wrap64 ((k : Int) + 1) = ((k + 1 : Nat) : Int) := by unfold wrap64; omega
      obtain ⟨u, hu⟩ : ∃ u, L[k]? = some u := ⟨L[k], List.getElem?_eq_getElem hlt⟩
      have hul := H1.out.z u (List.mem_of_getElem? hu)
      obtain ⟨b, off, ma, mc, rfl, hbl, c0, c1, c2, c3, c4, hsl⟩ := (H1.out.later HB.out).s.at'.get k u hu
      obtain ⟨b', off', ma', mc', rfl, hbl', e0, e1, e2, e3, e4, hsl'⟩ := (H2.out.later HB.out).s.at'.get k u hu
      have hsv : ∀ w', Below wr.heap.size wr w' → Calls Tryz.prog 39 #[vv u.key u.seq u.mkr u.data ma u.l.length mc, vv u.key u.seq u.mkr u.data ma' u.l.length mc'] w' fun e w'' => e = .returned (.bool true) ∧ Below w'.heap.size w' w'' := fun w' h => by
        have := qSameVersion_any u u w' ma _ mc rfl (hsl.later h).at' (by omega) ma' _ mc' rfl (hsl'.later h).at' (by omega)
        rw [sv_true rfl] at this
        exact this
      have HS1 : Hid (∀ w', Below wr.heap.size wr w' → Below wr.heap.size wr w' ∧ w'.cell? ⟨w.heap.size, 1, none⟩ = some (.slice (some ⟨b, off, none⟩) L.length c) ∧ w'.cell? ⟨w.heap.size + 1, 1, none⟩ = some (.slice (some ⟨b', off', none⟩) L.length c') ∧ w'.cell? ⟨b, off + k * 5, none⟩ = some (str u.key) ∧ w'.cell? ⟨b, off + k * 5 + 1, none⟩ = some (.int .i64 u.seq) ∧ w'.cell? ⟨b, off + k * 5 + 2, none⟩ = some (.bool u.mkr) ∧ w'.cell? ⟨b, off + k * 5 + 3, none⟩ = some (str u.data) ∧ w'.cell? ⟨b, off + k * 5 + 4, none⟩ = some (.slice ma u.l.length mc) ∧ w'.cell? ⟨b', off' + k * 5, none⟩ = some (str u.key) ∧ w'.cell? ⟨b', off' + k * 5 + 1, none⟩ = some (.int .i64 u.seq) ∧ w'.cell? ⟨b', off' + k * 5 + 2, none⟩ = some (.bool u.mkr) ∧ w'.cell? ⟨b', off' + k * 5 + 3, none⟩ = some (str u.data) ∧ w'.cell? ⟨b', off' + k * 5 + 4, none⟩ = some (.slice ma' u.l.length mc')) := ⟨fun w' h => by
        obtain ⟨_, t1, _⟩ := ((Z1.out.later HB.out).later h).cells
        obtain ⟨_, t2, _⟩ := ((Z2.out.later HB.out).later h).cells
        exact ⟨h, t1, t2, (h.cell (p := ⟨b, _, none⟩) hbl).trans c0, (h.cell (p := ⟨b, _, none⟩) hbl).trans c1, (h.cell (p := ⟨b, _, none⟩) hbl).trans c2, (h.cell (p := ⟨b, _, none⟩) hbl).trans c3, (h.cell (p := ⟨b, _, none⟩) hbl).trans c4, (h.cell (p := ⟨b', _, none⟩) hbl').trans e0, (h.cell (p := ⟨b', _, none⟩) hbl').trans e1, (h.cell (p := ⟨b', _, none⟩) hbl').trans e2, (h.cell (p := ⟨b', _, none⟩) hbl').trans e3, (h.cell (p := ⟨b', _, none⟩) hbl').trans e4⟩⟩
      clear hu hsl hsl' hul c0 c1 c2 c3 c4 e0 e1 e2 e3 e4 q1
      go_wp2_with fail
      go_region_held3 (fun w' => Below wr.heap.size wr w' ∧ w'.cell? ⟨w.heap.size, 1, none⟩ = some (.slice (some ⟨b, off, none⟩) L.length c) ∧ w'.cell? ⟨w.heap.size + 1, 1, none⟩ = some (.slice (some ⟨b', off', none⟩) L.length c') ∧ w'.cell? ⟨b, off + k * 5, none⟩ = some (str u.key) ∧ w'.cell? ⟨b, off + k * 5 + 1, none⟩ = some (.int .i64 u.seq) ∧ w'.cell? ⟨b, off + k * 5 + 2, none⟩ = some (.bool u.mkr) ∧ w'.cell? ⟨b, off + k * 5 + 3, none⟩ = some (str u.data) ∧ w'.cell? ⟨b, off + k * 5 + 4, none⟩ = some (.slice ma u.l.length mc) ∧ w'.cell? ⟨b', off' + k * 5, none⟩ = some (str u.key) ∧ w'.cell? ⟨b', off' + k * 5 + 1, none⟩ = some (.int .i64 u.seq) ∧ w'.cell? ⟨b', off' + k * 5 + 2, none⟩ = some (.bool u.mkr) ∧ w'.cell? ⟨b', off' + k * 5 + 3, none⟩ = some (str u.data) ∧ w'.cell? ⟨b', off' + k * 5 + 4, none⟩ = some (.slice ma' u.l.length mc')) ((refine HS1.out _ ?_; first
        | with_reducible exact (Below.refl _ _).drew
        | with_reducible exact (below_seq (And.left (by assumption)) x1))) (
        (go_at_call 39; with_reducible refine Calls.mono (hsv _ (And.left (by assumption))) ?_; rintro e w5 ⟨rfl, x1⟩))
      have hb5 : Below wr.heap.size wr w5 := And.left (by assumption)
      have HB5 := Hid.mk (HB.out.trans (hb5.mono HB.out.size))
      clear x1 HS1 hsv hb5 p0 p1 q0
      go_wp2_with fail
      exact ⟨⟨k + 1, hlt, by first | (rw [hw1]; done) | go_num, HB5⟩, by first | (rw [hw1]; exact Nat.sub_lt_sub_left hlt (Nat.lt_succ_self k)) | (simp [intOf]; omega)⟩
    · obtain rfl : k = L.length := by omega
      have d1 : decide ((L.length : Int) < (L.length : Int)) = false := decide_eq_false (by omega)
      have HW := Hid.mk (b2.trans (HB.out.mono b2.size))
      clear HB
      go_wp2_with fail
      go_ret
      exact ⟨rfl, HW.out⟩
end Go.Proofs.YtgcdnanfnbdjjaaGreat

/- The document's List, of a right value. -/
namespace Go.Proofs.YtgcdnanfnbdjjaaGreat
set_option linter.unusedVariables false
set_option linter.unusedSimpArgs false
open Go.RowKit
attribute [local go_sem ↓] Go.wp_at_zero Go.wp_at_succ
theorem bl_no {a b : List UInt8} (h : ¬ lt a b) : Go.Op.bytesLess a b = false := by
  rw [bytesLess_eq]; simpa using h
theorem bl_yes {a b : List UInt8} (h : lt a b) : Go.Op.bytesLess a b = true := by
  rw [bytesLess_eq]; simpa using h
/-- how many rows are wanted -/
def msN (most : Int) : Nat := (min most 256).toNat
theorem ms_iff (most : Int) (n : Nat) : n < msN most ↔ ((n : Int) < most ∧ n < 256) := by
  unfold msN
  rcases Int.le_total most 256 with h | h
  · rw [Int.min_eq_left h]; omega
  · rw [Int.min_eq_right h]; omega
theorem ms_le (most : Int) : msN most ≤ 256 := by
  unfold msN
  rcases Int.le_total most 256 with h | h
  · rw [Int.min_eq_left h]; omega
  · rw [Int.min_eq_right h]; omega
def LsI (L : List Vs) (fr : List UInt8) (M m : Nat) (X : List Rw) : Prop := X ++ byK nw1 (L.drop (max m (fndV L fr))) = byK nw1 (L.drop (fndV L fr)) ∧ X.length ≤ M
theorem li_zero (L : List Vs) (fr : List UInt8) (M : Nat) : LsI L fr M 0 [] := ⟨by simp, by simp⟩
theorem li_low {L : List Vs} {fr : List UInt8} {M m : Nat} {X : List Rw} (h : LsI L fr M m X) (hm : m < fndV L fr) : LsI L fr M (m + 1) X := by
  obtain ⟨h1, h2⟩ := h
  refine ⟨?_, h2⟩
  rw [Nat.max_eq_right (by omega)] at h1 ⊢
  exact h1
theorem li_skip {L : List Vs} {fr : List UInt8} {M m : Nat} {X : List Rw} {u : Vs} (h : LsI L fr M m X) (hm : fndV L fr ≤ m) (hu : L[m]? = some u) (hs : ¬ (∀ x, L[m + 1]? = some x → ¬ x.key = u.key) ∨ u.mkr = true) : LsI L fr M (m + 1) X := by
  obtain ⟨h1, h2⟩ := h
  refine ⟨?_, h2⟩
  rw [Nat.max_eq_left (by omega)] at h1 ⊢
  obtain ⟨s1, s2⟩ := list_step hu
  by_cases hq : ∀ x, L[m + 1]? = some x → ¬ x.key = u.key
  · have hmk : u.mkr = true := hs.resolve_left (by simpa using hq)
    rw [s1 hq, nw1_one, if_pos hmk, List.nil_append] at h1
    exact h1
  · rw [s2 hq] at h1
    exact h1
theorem li_add {L : List Vs} {fr : List UInt8} {M m : Nat} {X : List Rw} {u : Vs} (h : LsI L fr M m X) (hm : fndV L fr ≤ m) (hu : L[m]? = some u) (hs : ∀ x, L[m + 1]? = some x → ¬ x.key = u.key) (hk : ¬ u.mkr = true) (hX : X.length < M) : LsI L fr M (m + 1) (X ++ [rwOf u]) := by
  obtain ⟨h1, h2⟩ := h
  refine ⟨?_, by simp; omega⟩
  rw [Nat.max_eq_left (by omega)] at h1 ⊢
  rw [(list_step hu).1 hs, nw1_one, if_neg hk] at h1
  rw [List.append_assoc]
  exact h1
theorem li_end {L : List Vs} {fr : List UInt8} {M m : Nat} {X : List Rw} (h : LsI L fr M m X) (he : L.length ≤ m ∨ M ≤ X.length) : X = (byK nw1 (L.drop (fndV L fr))).take M := by
  obtain ⟨h1, h2⟩ := h
  rcases he with he | he
  · rw [List.drop_eq_nil_of_le (by omega), byK_nil, List.append_nil] at h1
    rw [← h1, List.take_of_length_le h2]
  · rw [← h1, List.take_append_of_le_length (by omega), List.take_of_length_le h2]
theorem fnd_iff {L : List Vs} (hs : SrtV L) {fr : List UInt8} {m : Nat} {u : Vs} (hu : L[m]? = some u) : lt u.key fr ↔ m < fndV L fr := by
  constructor
  · intro h
    by_cases q : m < fndV L fr
    · exact q
    · exact absurd h (fndV_ge hs (by omega) hu)
  · intro h
    exact fndV_lt h hu
set_option maxRecDepth 100000 in
set_option maxHeartbeats 4000000 in
theorem qList_m (L : List Vs) (next : Int) (fr : List UInt8) (most : Int) (M : Nat) (hMq : ∀ n : Nat, n < M ↔ ((n : Int) < most ∧ n < 256)) (hMl : M ≤ 256) (w : World) (a : Option Addr) (cap : Nat) (hR : RtB next L) (hL : Li w L a L.length cap) :
    Calls Tryz.prog 42 #[bv next a L.length cap, str fr, .int .i64 most] w fun e w' => ∃ v, e = .returned v ∧ Wo w.heap.size w' v ((byK nw1 (L.drop (fndV L fr))).take M) ∧ Below w.heap.size w w' := by
  have b0 := (Below.refl w.heap.size w).alloc (Nat.le_refl _) (.cells #[.int .i64 next, .slice a L.length cap] 24)
  have HZ := Hid.mk (Bq.new w (.int .i64 next) (.slice a L.length cap))
  have hsW : (w.alloc (.cells #[.int .i64 next, .slice a L.length cap] 24)).heap.size = w.heap.size + 1 := by simp
  have HL := Hid.mk (hL.later b0)
  have HR := Hid.mk hR
  have hll := hR.len
  have HM := Hid.mk hMq
  clear hL hR hMq
  go_enter Tryz.func42, Tryz.ntmps42
  go_wp2_with fail
  have C0 := Wo.nil (w.alloc (.cells #[.int .i64 next, .slice a L.length cap] 24)) (w.heap.size + 1) (by simp)
  generalize w.alloc (.cells #[.int .i64 next, .slice a L.length cap] 24) = W1 at *
  go_loopw [7, 8] (fun o i wr => ∃ (m : Nat) (X : List Rw), m ≤ L.length ∧ i = .int .i64 (m : Int) ∧ Hid (LsI L fr M m X) ∧ Hid (Wo (w.heap.size + 1) wr o X) ∧ Hid (Below (w.heap.size + 1) W1 wr)) (fun o i _ => L.length - (intOf i).toNat)
  case atStart => exact ⟨0, [], Nat.zero_le _, rfl, ⟨li_zero L fr M⟩, ⟨C0⟩, ⟨Below.refl _ _⟩⟩
  case round =>
    clear C0
    obtain ⟨m, X, hm, rfl, hI, hO, hb⟩ := hrel
    have hbl : Below W1.heap.size W1 wr := by rw [hsW]; exact hb.out
    obtain ⟨p0, p1, _⟩ := (HZ.out.later hbl).cells
    have hXM := hI.out.2
    obtain ⟨xa, xc, rfl, hW⟩ := hO.out.sl
    have bW := b0.trans (hbl.mono b0.size)
    by_cases hlt : m < L.length
    · have d1 : decide ((m : Int) < (L.length : Int)) = true := decide_eq_true (Int.ofNat_lt.2 hlt)
      have k2 : (m : Int) < (L.length : Int) := Int.ofNat_lt.2 hlt
      by_cases hX : X.length < M
      · obtain ⟨hx1, hx2⟩ := (HM.out X.length).1 hX
        have d2 : decide ((X.length : Int) < most) = true := decide_eq_true hx1
        have d3 : decide ((X.length : Int) < 256) = true := decide_eq_true (by omega)
        have hw1 : wrap64 ((m : Int) + 1) = ((m + 1 : Nat) : Int) := by unfold wrap64; omega
        obtain ⟨u, hu⟩ : ∃ u, L[m]? = some u := ⟨L[m], List.getElem?_eq_getElem hlt⟩
        obtain ⟨b, off, ma, mc, rfl, hbl', c0, c1, c2, c3, c4, hsl⟩ := (HL.out.later hbl).s.at'.get m u hu
        have bx := (Below.refl wr.heap.size wr).alloc (Nat.le_refl _) (.cells #[str u.key, .int .i64 u.seq, .bool u.mkr, str u.data, .slice ma u.l.length mc] 39)
        have zx := Bv.new wr (str u.key) (.int .i64 u.seq) (.bool u.mkr) (str u.data) (.slice ma u.l.length mc)
        have hB5 := hb.out.trans (bx.mono (by have := hb.out.size; omega))
        have hO5 := hO.out.later bx
        have hLx := (HL.out.later hbl).later bx
        obtain ⟨g0, g1, _⟩ := ((HZ.out.later hbl).later bx).cells
        by_cases hfr : lt u.key fr
        · have dk := bl_yes hfr
          have HT : Hid (LsI L fr M (m + 1) X) := ⟨li_low hI.out ((fnd_iff HR.out.srt hu).1 hfr)⟩
          have hO6 := Hid.mk hO5
          clear hI hO hu HL HR hsl hfr hW hO5 hx1 hx2 hX HM bx zx hLx hb hbl
          generalize X.length = XL at *
          go_wp2_with fail
          refine ⟨?_, by first | (rw [hw1]; exact Nat.sub_lt_sub_left hlt (Nat.lt_succ_self m)) | (simp [intOf]; omega)⟩
          exact ⟨m + 1, X, hlt, by first | (rw [hw1]; done) | go_num, HT, hO6, ⟨hB5⟩⟩
        · have dk := bl_no hfr
          have hge : fndV L fr ≤ m := by
            have := mt (fnd_iff HR.out.srt hu).2 hfr
            omega
          have hnw := qnewest_any L next u.key _ (some ⟨b, off, none⟩) cap HR.out.srt hLx
          have hHere := fun (x : Int) (h : NwP L u.key x) => nw_here HR.out.srt hu h
          have HI1 := Hid.mk (fun h => li_skip hI.out hge hu h)
          have HI2 := Hid.mk (fun h1 h2 => li_add hI.out hge hu h1 h2 hX)
          have HHere := Hid.mk hHere
          clear hHere hI hO hu HL HR hsl hfr hW hx1 hx2 hX HM hge hLx hbl
          go_wp2_with fail
          with_reducible refine Calls.mono hnw ?_
          rintro e w6 ⟨⟨x, rfl, hN⟩, b6⟩
          dsimp only
          have hhe := HHere.out x hN
          obtain ⟨z0, z1, z2, z3, z4, _⟩ := (zx.later b6).cells
          have hB6 := hB5.trans (b6.mono (by have := hB5.size; omega))
          have hO6 := hO5.later b6
          clear hnw hN HHere bx zx b6 hO5 hB5 hb g0 g1 c0 c1 c2 c3 c4
          by_cases hx : x = (m : Int)
          · have dx : (x == (m : Int)) = true := by rw [hx]; exact beq_self_eq_true _
            cases hmk : u.mkr with
            | true =>
              have HT : Hid (LsI L fr M (m + 1) X) := ⟨HI1.out (.inr hmk)⟩
              rw [hmk] at z2
              clear HI1 HI2 hhe hx hmk
              generalize hXL : X.length = XL at *
              clear hXL
              go_wp2_with fail
              refine ⟨?_, by first | (rw [hw1]; exact Nat.sub_lt_sub_left hlt (Nat.lt_succ_self m)) | (simp [intOf]; omega)⟩
              first
                | exact ⟨m + 1, _, hlt, by first | (rw [hw1]; done) | go_num, HT, ⟨hO6⟩, ⟨hB6⟩⟩
                | ((repeat apply Exists.intro); exact ⟨⟨m + 1, _, hlt, by first | (rw [hw1]; done) | go_num, HT, ⟨hO6⟩, ⟨hB6⟩⟩, rfl⟩)
            | false =>
              have HT : Hid (LsI L fr M (m + 1) (X ++ [rwOf u])) := ⟨HI2.out (hhe.1 hx) (by rw [hmk]; decide)⟩
              have hrow := fun w => qrow_any u.key u.seq u.mkr u.data w ma u.l.length mc
              rw [hmk] at z2
              rw [hmk] at hrow
              have hRw : Hid (rwOf u = ⟨u.key, u.seq, false, (u.data.length : Int)⟩) := ⟨by unfold rwOf; rw [hmk]⟩
              clear HI1 HI2 hhe hx hmk
              go_wp2_with (first
                | (go_at_call 71; refine (hrow _).mono ?_; rintro e w7 ⟨rfl, b7⟩)
                | (refine app_wo rfl _ _ rfl ⟨u.key, u.seq, false, (u.data.length : Int)⟩ rfl (hO6.later b7) rfl (by omega) rfl rfl ?_; intro v8 w8 o8 b8))
              rw [← hRw.out] at o8
              have hB7 := hB6.trans (b7.mono (by have := hB6.size; omega))
              refine ⟨?_, by first | (rw [hw1]; exact Nat.sub_lt_sub_left hlt (Nat.lt_succ_self m)) | (simp [intOf]; omega)⟩
              first
                | exact ⟨m + 1, _, hlt, by first | (rw [hw1]; done) | go_num, HT, ⟨o8⟩, ⟨hB7.trans b8⟩⟩
                | ((repeat apply Exists.intro); exact ⟨⟨m + 1, _, hlt, by first | (rw [hw1]; done) | go_num, HT, ⟨o8⟩, ⟨hB7.trans b8⟩⟩, rfl⟩)
          · have dx : (x == (m : Int)) = false := beq_eq_false_iff_ne.2 hx
            have HT : Hid (LsI L fr M (m + 1) X) := ⟨HI1.out (.inl (mt hhe.2 hx))⟩
            clear HI1 HI2 hhe hx
            generalize hXL : X.length = XL at *
            clear hXL
            go_wp2_with fail
            refine ⟨?_, by first | (rw [hw1]; exact Nat.sub_lt_sub_left hlt (Nat.lt_succ_self m)) | (simp [intOf]; omega)⟩
            first
              | exact ⟨m + 1, _, hlt, by first | (rw [hw1]; done) | go_num, HT, ⟨hO6⟩, ⟨hB6⟩⟩
              | ((repeat apply Exists.intro); exact ⟨⟨m + 1, _, hlt, by first | (rw [hw1]; done) | go_num, HT, ⟨hO6⟩, ⟨hB6⟩⟩, rfl⟩)
      · by_cases hx1 : (X.length : Int) < most
        · have d2 : decide ((X.length : Int) < most) = true := decide_eq_true hx1
          have hx2 : ¬ X.length < 256 := fun q => hX ((HM.out X.length).2 ⟨hx1, q⟩)
          have d3 : decide ((X.length : Int) < 256) = false := decide_eq_false (by omega)
          have HXE := Hid.mk (li_end hI.out (.inr (by omega)))
          have HO1 := hO.out.base (b' := w.heap.size) (by omega)
          clear hI hO HL HR HZ hW hb hbl HM hx1 hx2 hX
          have HO2 := Hid.mk HO1
          have HB2 := Hid.mk bW
          clear HO1 bW
          generalize X.length = XL at *
          go_wp2_with fail
          go_ret
          refine ⟨_, rfl, ?_, HB2.out⟩
          rw [← HXE.out]
          exact HO2.out
        · have d2 : decide ((X.length : Int) < most) = false := decide_eq_false hx1
          have HXE := Hid.mk (li_end hI.out (.inr (by omega)))
          have HO1 := hO.out.base (b' := w.heap.size) (by omega)
          clear hI hO HL HR HZ hW hb hbl HM hx1 hX
          have HO2 := Hid.mk HO1
          have HB2 := Hid.mk bW
          clear HO1 bW
          generalize X.length = XL at *
          go_wp2_with fail
          go_ret
          refine ⟨_, rfl, ?_, HB2.out⟩
          rw [← HXE.out]
          exact HO2.out
    · obtain rfl : m = L.length := by omega
      have d1 : decide ((L.length : Int) < (L.length : Int)) = false := decide_eq_false (by omega)
      have HXE := Hid.mk (li_end hI.out (.inl (by omega)))
      have HO1 := hO.out.base (b' := w.heap.size) (by omega)
      clear hI hO HL HR HZ hW hb hbl HM hlt
      have HO2 := Hid.mk HO1
      have HB2 := Hid.mk bW
      clear HO1 bW
      generalize X.length = XL at *
      go_wp2_with fail
      go_ret
      refine ⟨_, rfl, ?_, HB2.out⟩
      rw [← HXE.out]
      exact HO2.out
theorem qList_r (L : List Vs) (next : Int) (fr : List UInt8) (most : Int) (w : World) (a : Option Addr) (cap : Nat) (hR : RtB next L) (hL : Li w L a L.length cap) :
    Calls Tryz.prog 42 #[bv next a L.length cap, str fr, .int .i64 most] w fun e w' => ∃ v, e = .returned v ∧ Wo w.heap.size w' v ((byK nw1 (L.drop (fndV L fr))).take (msN most)) ∧ Below w.heap.size w w' :=
  qList_m L next fr most (msN most) (ms_iff most) (ms_le most) w a cap hR hL
end Go.Proofs.YtgcdnanfnbdjjaaGreat

/- The document's Versions, of a right value. -/
namespace Go.Proofs.YtgcdnanfnbdjjaaGreat
set_option linter.unusedVariables false
set_option linter.unusedSimpArgs false
open Go.RowKit
attribute [local go_sem ↓] Go.wp_at_zero Go.wp_at_succ
/-- where the versions of the key at a place end -/
noncomputable def enK (L : List Vs) (m : Nat) (k : List UInt8) : Nat := m + ken (L.drop m) k
theorem en_le {L : List Vs} {m : Nat} (hm : m ≤ L.length) (k : List UInt8) : enK L m k ≤ L.length := ken_drop hm k
theorem en_gt {L : List Vs} {m : Nat} {u : Vs} (hu : L[m]? = some u) : m < enK L m u.key := by
  obtain ⟨hlt, rfl⟩ := List.getElem?_eq_some_iff.1 hu
  unfold enK
  rw [List.drop_eq_getElem_cons hlt]
  have := ken_pos L[m] (L.drop (m + 1))
  omega
theorem en_key {L : List Vs} {m i : Nat} {k : List UInt8} {x : Vs} (h1 : m ≤ i) (h2 : i < enK L m k) (hx : L[i]? = some x) : x.key = k := by
  unfold enK at h2
  refine ken_key (L := L.drop m) (i := i - m) (by omega) ?_
  rw [List.getElem?_drop, show m + (i - m) = i by omega]
  exact hx
theorem en_stop {L : List Vs} {m : Nat} {k : List UInt8} {x : Vs} (hx : L[enK L m k]? = some x) : ¬ x.key = k := by
  refine ken_stop (L := L.drop m) ?_
  rw [List.getElem?_drop]
  exact hx
def VsI (L : List Vs) (fr : List UInt8) (m : Nat) (Y : List Rw) : Prop := Y ++ byK rwsL (L.drop (max m (fndV L fr))) = byK rwsL (L.drop (fndV L fr))
theorem vi_low {L : List Vs} (hs : SrtV L) {fr : List UInt8} {m : Nat} {Y : List Rw} {u : Vs} (h : VsI L fr m Y) (hu : L[m]? = some u) (hm : m < fndV L fr) : VsI L fr (enK L m u.key) Y ∧ enK L m u.key ≤ fndV L fr := by
  have hle : enK L m u.key ≤ fndV L fr := by
    by_cases q : enK L m u.key ≤ fndV L fr
    · exact q
    · have hf : fndV L fr < L.length := by have := en_le (Nat.le_of_lt (List.getElem?_eq_some_iff.1 hu).1) u.key; omega
      obtain ⟨x, hx⟩ : ∃ x, L[fndV L fr]? = some x := ⟨L[fndV L fr], List.getElem?_eq_getElem hf⟩
      have hk := en_key (k := u.key) (Nat.le_of_lt hm) (by omega) hx
      have h1 := fndV_ge hs (Nat.le_refl _) hx
      have h2 := fndV_lt hm hu
      rw [hk] at h1
      exact absurd h2 h1
  refine ⟨?_, hle⟩
  unfold VsI at h ⊢
  rw [Nat.max_eq_right (by omega)] at h ⊢
  exact h
/-- the versions of the key at a place -/
def grpL (L : List Vs) (m K : Nat) : List Vs := (L.drop m).take (K - m)
theorem vi_grp {L : List Vs} {fr : List UInt8} {m : Nat} {Y : List Rw} {u : Vs} (h : VsI L fr m Y) (hu : L[m]? = some u) (hm : fndV L fr ≤ m) : VsI L fr (enK L m u.key) (Y ++ rwsL (grpL L m (enK L m u.key))) := by
  have hgt := en_gt hu
  unfold VsI at h ⊢
  rw [Nat.max_eq_left (by omega)] at h ⊢
  obtain ⟨hlt, rfl⟩ := List.getElem?_eq_some_iff.1 hu
  rw [List.append_assoc, ← h]
  congr 1
  conv => rhs; rw [List.drop_eq_getElem_cons hlt, byK_cons, ← List.drop_eq_getElem_cons hlt, List.drop_drop]
  unfold grpL enK
  rw [Nat.add_sub_cancel_left]
theorem grp_len {L : List Vs} {m K : Nat} (h : K ≤ L.length) : (rwsL (grpL L m K)).length = K - m := by
  rw [rwsL_len]
  unfold grpL
  rw [List.length_take, List.length_drop]
  omega
theorem grp_get {L : List Vs} {m K j : Nat} {x : Vs} (h : K ≤ L.length) (h1 : m ≤ j) (h2 : j < K) (hx : L[j]? = some x) : (rwsL (grpL L m K))[K - 1 - j]? = some (rwOf x) := by
  unfold rwsL
  have hl : (grpL L m K).length = K - m := by have := grp_len (m := m) h; rwa [rwsL_len] at this
  rw [List.getElem?_map, List.getElem?_reverse (by rw [hl]; omega), hl]
  unfold grpL
  rw [List.getElem?_take, if_pos (by omega), List.getElem?_drop, show m + (K - m - 1 - (K - 1 - j)) = j by omega, hx]
  rfl
/-- one row more, if one is wanted -/
theorem tk_more {A : List Rw} {M : Nat} {r : Rw} (h : (A.take M).length < M) : A.take M ++ [r] = (A ++ [r]).take M := by
  rw [List.length_take] at h
  rw [List.take_of_length_le (by omega), List.take_of_length_le (by simp; omega)]
theorem tk_full {A : List Rw} {M : Nat} {r : Rw} (h : ¬ (A.take M).length < M) : A.take M = (A ++ [r]).take M := by
  rw [List.length_take] at h
  rw [List.take_append_of_le_length (by omega)]
theorem tk_len (A : List Rw) (M : Nat) : (A.take M).length ≤ M := by rw [List.length_take]; omega
end Go.Proofs.YtgcdnanfnbdjjaaGreat

/- The document's Versions, of a right value: the walk. -/
namespace Go.Proofs.YtgcdnanfnbdjjaaGreat
set_option linter.unusedVariables false
set_option linter.unusedSimpArgs false
open Go.RowKit
attribute [local go_sem ↓] Go.wp_at_zero Go.wp_at_succ
set_option maxRecDepth 100000 in
set_option maxHeartbeats 8000000 in
theorem qVersions_m (L : List Vs) (next : Int) (fr : List UInt8) (most : Int) (M : Nat) (hMq : ∀ n : Nat, n < M ↔ ((n : Int) < most ∧ n < 256)) (hMl : M ≤ 256) (w : World) (a : Option Addr) (cap : Nat) (hR : RtB next L) (hL : Li w L a L.length cap) :
    Calls Tryz.prog 43 #[bv next a L.length cap, str fr, .int .i64 most] w fun e w' => ∃ v, e = .returned v ∧ Wo w.heap.size w' v ((byK rwsL (L.drop (fndV L fr))).take M) ∧ Below w.heap.size w w' := by
  have b0 := (Below.refl w.heap.size w).alloc (Nat.le_refl _) (.cells #[.int .i64 next, .slice a L.length cap] 24)
  have HZ := Hid.mk (Bq.new w (.int .i64 next) (.slice a L.length cap))
  have hsW : (w.alloc (.cells #[.int .i64 next, .slice a L.length cap] 24)).heap.size = w.heap.size + 1 := by simp
  have HL := Hid.mk (hL.later b0)
  have HR := Hid.mk hR
  have hll := hR.len
  have HM := Hid.mk hMq
  clear hL hR hMq
  go_enter Tryz.func43, Tryz.ntmps43
  go_wp2_with fail
  have C0 := Wo.nil (w.alloc (.cells #[.int .i64 next, .slice a L.length cap] 24)) (w.heap.size + 1) (by simp)
  generalize w.alloc (.cells #[.int .i64 next, .slice a L.length cap] 24) = W1 at *
  go_loopw [7, 8] (fun o i wr => ∃ (m : Nat) (Y : List Rw), m ≤ L.length ∧ i = .int .i64 (m : Int) ∧ Hid (VsI L fr m Y) ∧ Hid (Wo (w.heap.size + 1) wr o (Y.take M)) ∧ Hid (Below (w.heap.size + 1) W1 wr)) (fun o i _ => L.length - (intOf i).toNat)
  case atStart => exact ⟨0, [], Nat.zero_le _, rfl, ⟨by unfold VsI; simp⟩, ⟨by simpa using C0⟩, ⟨Below.refl _ _⟩⟩
  case round =>
    clear C0
    obtain ⟨m, Y, hm, rfl, hI, hO, hb⟩ := hrel
    have hbl : Below W1.heap.size W1 wr := by rw [hsW]; exact hb.out
    obtain ⟨p0, p1, _⟩ := (HZ.out.later hbl).cells
    by_cases hlt : m < L.length
    · have d1 : decide ((m : Int) < (L.length : Int)) = true := decide_eq_true (Int.ofNat_lt.2 hlt)
      have k2 : (m : Int) < (L.length : Int) := Int.ofNat_lt.2 hlt
      obtain ⟨u, hu⟩ : ∃ u, L[m]? = some u := ⟨L[m], List.getElem?_eq_getElem hlt⟩
      have hKg := en_gt hu
      have hKl := en_le hm u.key
      have HKk := Hid.mk (fun (i : Nat) (x : Vs) (h1 : m ≤ i) (h2 : i < enK L m u.key) (hx : L[i]? = some x) => en_key h1 h2 hx)
      have HKs := Hid.mk (fun (x : Vs) (hx : L[enK L m u.key]? = some x) => en_stop hx)
      have HIl : Hid (m < fndV L fr → VsI L fr (enK L m u.key) Y) := ⟨fun h => (vi_low HR.out.srt hI.out hu h).1⟩
      have HIg : Hid (¬ m < fndV L fr → VsI L fr (enK L m u.key) (Y ++ rwsL (grpL L m (enK L m u.key)))) := ⟨fun h => vi_grp hI.out hu (by omega)⟩
      have HF := Hid.mk (fnd_iff (fr := fr) HR.out.srt hu)
      generalize enK L m u.key = K at *
      obtain ⟨b, off, _, _, rfl, hbl', c0, _⟩ := (HL.out.later hbl).s.at'.get m u hu
      have HC : Hid (∀ w', Below (w.heap.size + 1) W1 w' → w'.cell? ⟨w.heap.size, 1, none⟩ = some (.slice (some ⟨b, off, none⟩) L.length cap) ∧ w'.cell? ⟨b, off + m * 5, none⟩ = some (str u.key) ∧ ∀ (i : Nat) (x : Vs), L[i]? = some x → ∃ ma mc, w'.cell? ⟨b, off + i * 5, none⟩ = some (str x.key) ∧ w'.cell? ⟨b, off + i * 5 + 1, none⟩ = some (.int .i64 x.seq) ∧ w'.cell? ⟨b, off + i * 5 + 2, none⟩ = some (.bool x.mkr) ∧ w'.cell? ⟨b, off + i * 5 + 3, none⟩ = some (str x.data) ∧ w'.cell? ⟨b, off + i * 5 + 4, none⟩ = some (.slice ma x.l.length mc)) := ⟨fun w' h => by
        have h' : Below W1.heap.size W1 w' := by rw [hsW]; exact h
        refine ⟨(HZ.out.later h').cells.2.1, ?_, fun i x hx => ?_⟩
        · obtain ⟨_, _, _, _, e, _, t0, _⟩ := (HL.out.later h').s.at'.get m u hu
          cases e
          exact t0
        · obtain ⟨_, _, ma, mc, e, _, t0, t1, t2, t3, t4, _⟩ := (HL.out.later h').s.at'.get i x hx
          cases e
          exact ⟨ma, mc, t0, t1, t2, t3, t4⟩⟩
      clear c0 hu hI HL HZ hbl' hbl
      have hO0 := hO.out
      have hBo := hb.out
      clear hO hb
      go_wp2_with fail
      generalize wr = wo at *
      go_loopw [9] (fun kv wz => ∃ k : Nat, m ≤ k ∧ k ≤ K ∧ kv = .int .i64 (k : Int) ∧ Hid (Below wo.heap.size wo wz)) (fun kv _ => K - (intOf kv).toNat)
      case atStart => exact ⟨m, Nat.le_refl _, by omega, rfl, ⟨Below.refl _ _⟩⟩
      case round =>
        obtain ⟨k, hmk, hkK, rfl, hbz⟩ := hrel
        have hBz := hBo.trans (hbz.out.mono (by have := hBo.size; omega))
        obtain ⟨q1, q2, q3⟩ := HC.out _ hBz
        have HC3 := Hid.mk q3
        clear q3 p0 p1
        by_cases hlk : k < K
        · have d2 : decide ((k : Int) < (L.length : Int)) = true := decide_eq_true (by omega)
          have k3 : (k : Int) < (L.length : Int) := by omega
          have hw1 : wrap64 ((k : Int) + 1) = ((k + 1 : Nat) : Int) := by unfold wrap64; omega
          obtain ⟨x, hx⟩ : ∃ x, L[k]? = some x := ⟨L[k]'(by omega), List.getElem?_eq_getElem _⟩
          have hxk := HKk.out k x hmk hlk hx
          obtain ⟨_, _, t0, _⟩ := HC3.out k x hx
          rw [hxk] at t0
          have HB2 := Hid.mk hbz.out
          clear HC3 hx hxk HKk HKs HIl HIg HF HC hBz hBo hO0 hbz HM HR
          go_wp2_with fail
          go_quiet (fail)
          go_wp2_with fail
          refine ⟨?_, by first | (rw [hw1]; simp [intOf]; omega) | (simp [intOf]; omega)⟩
          first
            | exact ⟨k + 1, by omega, hlk, by first | (rw [hw1]; done) | go_num, ⟨below_dN HB2.out nq⟩⟩
            | ((repeat apply Exists.intro); exact ⟨⟨k + 1, by omega, hlk, by first | (rw [hw1]; done) | go_num, ⟨below_dN HB2.out nq⟩⟩, rfl⟩)
        · obtain rfl : k = K := by omega
          have hw2 : wrap64 ((k : Int) - 1) = (k : Int) - 1 := by unfold wrap64; omega
          have hO1 := hO0.later hbz.out
          by_cases hkl : k < L.length
          · have d2 : decide ((k : Int) < (L.length : Int)) = true := decide_eq_true (by omega)
            have k3 : (k : Int) < (L.length : Int) := by omega
            obtain ⟨x, hx⟩ : ∃ x, L[k]? = some x := ⟨L[k], List.getElem?_eq_getElem hkl⟩
            have dxk : (x.key == u.key) = false := beq_eq_false_iff_ne.2 (HKs.out x hx)
            obtain ⟨_, _, t0, _⟩ := HC3.out k x hx
            generalize x.key = xk at *
            clear hx HC3 hbz hBo hO0
            go_wp2_with fail
            go_quiet (fail)
            have hB3 := below_dN hBz nq
            have hO3 := hO1.later (below_dN (Below.refl _ _) nq)
            clear hBz hO1 t0 dxk q1 q2 d2 k3
            generalize wr.drewN nq = wp at *
            by_cases hmf : m < fndV L fr
            · have dfr := bl_yes (HF.out.2 hmf)
              have HT := Hid.mk (HIl.out hmf)
              clear HIl HIg HF HKs hmf
              go_wp2_with fail
              go_loopw [7, 10] (fun o jv wz => ∃ (s : Nat) (j : Int), s ≤ k - m ∧ j = (k : Int) - 1 - s ∧ jv = .int .i64 j ∧ Hid (Wo (w.heap.size + 1) wz o (Y.take M)) ∧ Hid (Below (w.heap.size + 1) W1 wz)) (fun o jv _ => (intOf jv + 1 - (m : Int)).toNat)
              case atStart => exact ⟨0, _, Nat.zero_le _, by simp, rfl, ⟨hO3⟩, ⟨hB3⟩⟩
              case round =>
                clear hO3 hB3
                obtain ⟨s, j, hs, hj, rfl, hO4, hB4⟩ := hrel
                by_cases hsl : s < k - m
                · obtain ⟨jn, hjn⟩ : ∃ jn : Nat, jn = k - 1 - s := ⟨_, rfl⟩
                  obtain rfl : j = (jn : Int) := by omega
                  obtain ⟨x, hx⟩ : ∃ x, L[jn]? = some x := ⟨L[jn]'(by omega), List.getElem?_eq_getElem _⟩
                  have hxk := HKk.out jn x (by omega) (by omega) hx
                  obtain ⟨q1, q2, q3⟩ := HC.out _ hB4.out
                  obtain ⟨_, _, t0, _⟩ := q3 jn x hx
                  rw [hxk] at t0
                  have d3 : decide ((m : Int) ≤ (jn : Int)) = true := decide_eq_true (by omega)
                  have d3' : decide (m ≤ jn) = true := decide_eq_true (by omega)
                  have j3 : (jn : Int) < (L.length : Int) := by omega
                  have hw3 : wrap64 ((jn : Int) - 1) = (jn : Int) - 1 := by unfold wrap64; omega
                  have hjm : m ≤ jn := by omega
                  have hj5 : (jn : Int) - 1 = (k : Int) - 1 - ((s + 1 : Nat) : Int) := by omega
                  clear hx hxk q3 HKk HC hj hjn
                  go_wp2_with fail
                  refine ⟨?_, by first | (rw [hw3]; simp [intOf]; omega) | (simp [intOf]; omega)⟩
                  first
                    | exact ⟨s + 1, _, hsl, hj5, by first | (rw [hw3]; done) | go_num, hO4, hB4⟩
                    | ((repeat apply Exists.intro); exact ⟨⟨s + 1, _, hsl, hj5, by first | (rw [hw3]; done) | go_num, hO4, hB4⟩, rfl⟩)
                · have d3 : decide ((m : Int) ≤ j) = false := decide_eq_false (by omega)
                  clear HKk HC hj
                  go_wp2_with fail
                  refine ⟨?_, by first | (simp [intOf]; omega) | skip⟩
                  first
                    | exact ⟨k, Y, hKl, rfl, HT, hO4, hB4⟩
                    | ((repeat apply Exists.intro); exact ⟨⟨k, Y, hKl, rfl, HT, hO4, hB4⟩, rfl⟩)
            · have dfr := bl_no (mt HF.out.1 hmf)
              have HT := Hid.mk (HIg.out hmf)
              have HGl := Hid.mk (grp_len (m := m) hKl)
              have HGg := Hid.mk (fun (j : Nat) (x : Vs) (h1 : m ≤ j) (h2 : j < k) (hx : L[j]? = some x) => grp_get hKl h1 h2 hx)
              generalize rwsL (grpL L m k) = G at *
              clear HIl HIg HF HKs hmf
              go_wp2_with fail
              go_loopw [7, 10] (fun o jv wz => ∃ (s : Nat) (j : Int), s ≤ k - m ∧ j = (k : Int) - 1 - s ∧ jv = .int .i64 j ∧ Hid (Wo (w.heap.size + 1) wz o ((Y ++ G.take s).take M)) ∧ Hid (Below (w.heap.size + 1) W1 wz)) (fun o jv _ => (intOf jv + 1 - (m : Int)).toNat)
              case atStart => exact ⟨0, _, Nat.zero_le _, by simp, rfl, ⟨by simpa using hO3⟩, ⟨hB3⟩⟩
              case round =>
                clear hO3 hB3
                obtain ⟨s, j, hs, hj, rfl, hO4, hB4⟩ := hrel
                by_cases hsl : s < k - m
                · obtain ⟨jn, hjn⟩ : ∃ jn : Nat, jn = k - 1 - s := ⟨_, rfl⟩
                  obtain rfl : j = (jn : Int) := by omega
                  obtain ⟨x, hx⟩ : ∃ x, L[jn]? = some x := ⟨L[jn]'(by omega), List.getElem?_eq_getElem _⟩
                  have hxk := HKk.out jn x (by omega) (by omega) hx
                  have hGx := HGg.out jn x (by omega) (by omega) hx
                  rw [show k - 1 - jn = s by omega] at hGx
                  have hTs : Y ++ G.take (s + 1) = (Y ++ G.take s) ++ [rwOf x] := by rw [takeV hGx, List.append_assoc]
                  obtain ⟨q1, q2, q3⟩ := HC.out _ hB4.out
                  obtain ⟨ma, mc, t0, t1, t2, t3, t4⟩ := q3 jn x hx
                  have t0' := t0
                  rw [hxk] at t0'
                  have d3 : decide ((m : Int) ≤ (jn : Int)) = true := decide_eq_true (by omega)
                  have d3' : decide (m ≤ jn) = true := decide_eq_true (by omega)
                  have j3 : (jn : Int) < (L.length : Int) := by omega
                  have hw3 : wrap64 ((jn : Int) - 1) = (jn : Int) - 1 := by unfold wrap64; omega
                  have hjm : m ≤ jn := by omega
                  have hj5 : (jn : Int) - 1 = (k : Int) - 1 - ((s + 1 : Nat) : Int) := by omega
                  have hAl := tk_len (Y ++ G.take s) M
                  have HTs := Hid.mk hTs
                  obtain ⟨xa, xc, rfl, _⟩ := hO4.out.sl
                  rw [hxk] at t0
                  clear hx q3 HKk HC hj hjn hGx HGg hTs t0'
                  by_cases hX : ((Y ++ G.take s).take M).length < M
                  · have HO5 : Hid ((Y ++ G.take s).take M ++ [rwOf x] = (Y ++ G.take (s + 1)).take M) := ⟨by rw [HTs.out]; exact tk_more hX⟩
                    obtain ⟨hx1, hx2⟩ := (HM.out _).1 hX
                    have dd1 : decide ((((Y ++ G.take s).take M).length : Int) < most) = true := decide_eq_true hx1
                    have dd2 : decide ((((Y ++ G.take s).take M).length : Int) < 256) = true := decide_eq_true (by omega)
                    have hrow := fun w => qrow_any u.key x.seq x.mkr x.data w ma x.l.length mc
                    have hRw : Hid (rwOf x = ⟨u.key, x.seq, x.mkr, (x.data.length : Int)⟩) := ⟨by unfold rwOf; rw [hxk]⟩
                    have hO6 := hO4.out
                    clear hX hx1 hx2 HTs hxk hO4 HM
                    generalize (Y ++ G.take s).take M = A at *
                    go_wp2_with (first
                      | (go_at_call 71; refine (hrow _).mono ?_; rintro e w7 ⟨rfl, b7⟩)
                      | (refine app_wo rfl _ _ rfl ⟨u.key, x.seq, x.mkr, (x.data.length : Int)⟩ rfl (hO6.later b7) rfl (by omega) rfl rfl ?_; intro v8 w8 o8 b8))
                    rw [← hRw.out, HO5.out] at o8
                    have hB7 := hB4.out.trans (b7.mono (by have := hB4.out.size; omega))
                    refine ⟨?_, by first | (rw [hw3]; simp [intOf]; omega) | (simp [intOf]; omega)⟩
                    first
                      | exact ⟨s + 1, _, hsl, hj5, by first | (rw [hw3]; done) | go_num, ⟨o8⟩, ⟨hB7.trans b8⟩⟩
                      | ((repeat apply Exists.intro); exact ⟨⟨s + 1, _, hsl, hj5, by first | (rw [hw3]; done) | go_num, ⟨o8⟩, ⟨hB7.trans b8⟩⟩, rfl⟩)
                  · have HO5 : Hid ((Y ++ G.take s).take M = (Y ++ G.take (s + 1)).take M) := ⟨by rw [HTs.out]; exact tk_full hX⟩
                    have hO6 := hO4
                    rw [HO5.out] at hO6
                    have hO7 : Hid (Wo (w.heap.size + 1) wr (.slice xa ((Y ++ G.take s).take M).length xc) ((Y ++ G.take (s + 1)).take M)) := ⟨by rw [← HO5.out]; exact hO4.out⟩
                    by_cases hx1 : (((Y ++ G.take s).take M).length : Int) < most
                    · have hx2 : ¬ ((Y ++ G.take s).take M).length < 256 := fun q => hX ((HM.out _).2 ⟨hx1, q⟩)
                      have dd1 : decide ((((Y ++ G.take s).take M).length : Int) < most) = true := decide_eq_true hx1
                      have dd2 : decide ((((Y ++ G.take s).take M).length : Int) < 256) = false := decide_eq_false (by omega)
                      clear hX hx1 hx2 HTs hxk hO4 HM hO6 HO5
                      generalize ((Y ++ G.take s).take M).length = AL at *
                      go_wp2_with fail
                      refine ⟨?_, by first | (rw [hw3]; simp [intOf]; omega) | (simp [intOf]; omega)⟩
                      first
                        | exact ⟨s + 1, _, hsl, hj5, by first | (rw [hw3]; done) | go_num, hO7, hB4⟩
                        | ((repeat apply Exists.intro); exact ⟨⟨s + 1, _, hsl, hj5, by first | (rw [hw3]; done) | go_num, hO7, hB4⟩, rfl⟩)
                    · have dd1 : decide ((((Y ++ G.take s).take M).length : Int) < most) = false := decide_eq_false hx1
                      clear hX hx1 HTs hxk hO4 HM hO6 HO5
                      generalize ((Y ++ G.take s).take M).length = AL at *
                      go_wp2_with fail
                      refine ⟨?_, by first | (rw [hw3]; simp [intOf]; omega) | (simp [intOf]; omega)⟩
                      first
                        | exact ⟨s + 1, _, hsl, hj5, by first | (rw [hw3]; done) | go_num, hO7, hB4⟩
                        | ((repeat apply Exists.intro); exact ⟨⟨s + 1, _, hsl, hj5, by first | (rw [hw3]; done) | go_num, hO7, hB4⟩, rfl⟩)
                · have d3 : decide ((m : Int) ≤ j) = false := decide_eq_false (by omega)
                  have hO5 := hO4.out
                  rw [show G.take s = G from List.take_of_length_le (by rw [HGl.out]; omega)] at hO5
                  clear HKk HC hj HGg hO4
                  go_wp2_with fail
                  refine ⟨?_, by first | (simp [intOf]; omega) | skip⟩
                  first
                    | exact ⟨k, Y ++ G, hKl, rfl, HT, ⟨hO5⟩, hB4⟩
                    | ((repeat apply Exists.intro); exact ⟨⟨k, Y ++ G, hKl, rfl, HT, ⟨hO5⟩, hB4⟩, rfl⟩)
          · have d2 : decide ((k : Int) < (L.length : Int)) = false := decide_eq_false (by omega)
            clear HC3 hbz hBo hO0
            go_wp2_with fail
            go_quiet (fail)
            have hB3 := below_dN hBz nq
            have hO3 := hO1.later (below_dN (Below.refl _ _) nq)
            clear hBz hO1 q1 q2 d2
            generalize wr.drewN nq = wp at *
            by_cases hmf : m < fndV L fr
            · have dfr := bl_yes (HF.out.2 hmf)
              have HT := Hid.mk (HIl.out hmf)
              clear HIl HIg HF HKs hmf
              go_wp2_with fail
              go_loopw [7, 10] (fun o jv wz => ∃ (s : Nat) (j : Int), s ≤ k - m ∧ j = (k : Int) - 1 - s ∧ jv = .int .i64 j ∧ Hid (Wo (w.heap.size + 1) wz o (Y.take M)) ∧ Hid (Below (w.heap.size + 1) W1 wz)) (fun o jv _ => (intOf jv + 1 - (m : Int)).toNat)
              case atStart => exact ⟨0, _, Nat.zero_le _, by simp, rfl, ⟨hO3⟩, ⟨hB3⟩⟩
              case round =>
                clear hO3 hB3
                obtain ⟨s, j, hs, hj, rfl, hO4, hB4⟩ := hrel
                by_cases hsl : s < k - m
                · obtain ⟨jn, hjn⟩ : ∃ jn : Nat, jn = k - 1 - s := ⟨_, rfl⟩
                  obtain rfl : j = (jn : Int) := by omega
                  obtain ⟨x, hx⟩ : ∃ x, L[jn]? = some x := ⟨L[jn]'(by omega), List.getElem?_eq_getElem _⟩
                  have hxk := HKk.out jn x (by omega) (by omega) hx
                  obtain ⟨q1, q2, q3⟩ := HC.out _ hB4.out
                  obtain ⟨_, _, t0, _⟩ := q3 jn x hx
                  rw [hxk] at t0
                  have d3 : decide ((m : Int) ≤ (jn : Int)) = true := decide_eq_true (by omega)
                  have d3' : decide (m ≤ jn) = true := decide_eq_true (by omega)
                  have j3 : (jn : Int) < (L.length : Int) := by omega
                  have hw3 : wrap64 ((jn : Int) - 1) = (jn : Int) - 1 := by unfold wrap64; omega
                  have hjm : m ≤ jn := by omega
                  have hj5 : (jn : Int) - 1 = (k : Int) - 1 - ((s + 1 : Nat) : Int) := by omega
                  clear hx hxk q3 HKk HC hj hjn
                  go_wp2_with fail
                  refine ⟨?_, by first | (rw [hw3]; simp [intOf]; omega) | (simp [intOf]; omega)⟩
                  first
                    | exact ⟨s + 1, _, hsl, hj5, by first | (rw [hw3]; done) | go_num, hO4, hB4⟩
                    | ((repeat apply Exists.intro); exact ⟨⟨s + 1, _, hsl, hj5, by first | (rw [hw3]; done) | go_num, hO4, hB4⟩, rfl⟩)
                · have d3 : decide ((m : Int) ≤ j) = false := decide_eq_false (by omega)
                  clear HKk HC hj
                  go_wp2_with fail
                  refine ⟨?_, by first | (simp [intOf]; omega) | skip⟩
                  first
                    | exact ⟨k, Y, hKl, rfl, HT, hO4, hB4⟩
                    | ((repeat apply Exists.intro); exact ⟨⟨k, Y, hKl, rfl, HT, hO4, hB4⟩, rfl⟩)
            · have dfr := bl_no (mt HF.out.1 hmf)
              have HT := Hid.mk (HIg.out hmf)
              have HGl := Hid.mk (grp_len (m := m) hKl)
              have HGg := Hid.mk (fun (j : Nat) (x : Vs) (h1 : m ≤ j) (h2 : j < k) (hx : L[j]? = some x) => grp_get hKl h1 h2 hx)
              generalize rwsL (grpL L m k) = G at *
              clear HIl HIg HF HKs hmf
              go_wp2_with fail
              go_loopw [7, 10] (fun o jv wz => ∃ (s : Nat) (j : Int), s ≤ k - m ∧ j = (k : Int) - 1 - s ∧ jv = .int .i64 j ∧ Hid (Wo (w.heap.size + 1) wz o ((Y ++ G.take s).take M)) ∧ Hid (Below (w.heap.size + 1) W1 wz)) (fun o jv _ => (intOf jv + 1 - (m : Int)).toNat)
              case atStart => exact ⟨0, _, Nat.zero_le _, by simp, rfl, ⟨by simpa using hO3⟩, ⟨hB3⟩⟩
              case round =>
                clear hO3 hB3
                obtain ⟨s, j, hs, hj, rfl, hO4, hB4⟩ := hrel
                by_cases hsl : s < k - m
                · obtain ⟨jn, hjn⟩ : ∃ jn : Nat, jn = k - 1 - s := ⟨_, rfl⟩
                  obtain rfl : j = (jn : Int) := by omega
                  obtain ⟨x, hx⟩ : ∃ x, L[jn]? = some x := ⟨L[jn]'(by omega), List.getElem?_eq_getElem _⟩
                  have hxk := HKk.out jn x (by omega) (by omega) hx
                  have hGx := HGg.out jn x (by omega) (by omega) hx
                  rw [show k - 1 - jn = s by omega] at hGx
                  have hTs : Y ++ G.take (s + 1) = (Y ++ G.take s) ++ [rwOf x] := by rw [takeV hGx, List.append_assoc]
                  obtain ⟨q1, q2, q3⟩ := HC.out _ hB4.out
                  obtain ⟨ma, mc, t0, t1, t2, t3, t4⟩ := q3 jn x hx
                  have t0' := t0
                  rw [hxk] at t0'
                  have d3 : decide ((m : Int) ≤ (jn : Int)) = true := decide_eq_true (by omega)
                  have d3' : decide (m ≤ jn) = true := decide_eq_true (by omega)
                  have j3 : (jn : Int) < (L.length : Int) := by omega
                  have hw3 : wrap64 ((jn : Int) - 1) = (jn : Int) - 1 := by unfold wrap64; omega
                  have hjm : m ≤ jn := by omega
                  have hj5 : (jn : Int) - 1 = (k : Int) - 1 - ((s + 1 : Nat) : Int) := by omega
                  have hAl := tk_len (Y ++ G.take s) M
                  have HTs := Hid.mk hTs
                  obtain ⟨xa, xc, rfl, _⟩ := hO4.out.sl
                  rw [hxk] at t0
                  clear hx q3 HKk HC hj hjn hGx HGg hTs t0'
                  by_cases hX : ((Y ++ G.take s).take M).length < M
                  · have HO5 : Hid ((Y ++ G.take s).take M ++ [rwOf x] = (Y ++ G.take (s + 1)).take M) := ⟨by rw [HTs.out]; exact tk_more hX⟩
                    obtain ⟨hx1, hx2⟩ := (HM.out _).1 hX
                    have dd1 : decide ((((Y ++ G.take s).take M).length : Int) < most) = true := decide_eq_true hx1
                    have dd2 : decide ((((Y ++ G.take s).take M).length : Int) < 256) = true := decide_eq_true (by omega)
                    have hrow := fun w => qrow_any u.key x.seq x.mkr x.data w ma x.l.length mc
                    have hRw : Hid (rwOf x = ⟨u.key, x.seq, x.mkr, (x.data.length : Int)⟩) := ⟨by unfold rwOf; rw [hxk]⟩
                    have hO6 := hO4.out
                    clear hX hx1 hx2 HTs hxk hO4 HM
                    generalize (Y ++ G.take s).take M = A at *
                    go_wp2_with (first
                      | (go_at_call 71; refine (hrow _).mono ?_; rintro e w7 ⟨rfl, b7⟩)
                      | (refine app_wo rfl _ _ rfl ⟨u.key, x.seq, x.mkr, (x.data.length : Int)⟩ rfl (hO6.later b7) rfl (by omega) rfl rfl ?_; intro v8 w8 o8 b8))
                    rw [← hRw.out, HO5.out] at o8
                    have hB7 := hB4.out.trans (b7.mono (by have := hB4.out.size; omega))
                    refine ⟨?_, by first | (rw [hw3]; simp [intOf]; omega) | (simp [intOf]; omega)⟩
                    first
                      | exact ⟨s + 1, _, hsl, hj5, by first | (rw [hw3]; done) | go_num, ⟨o8⟩, ⟨hB7.trans b8⟩⟩
                      | ((repeat apply Exists.intro); exact ⟨⟨s + 1, _, hsl, hj5, by first | (rw [hw3]; done) | go_num, ⟨o8⟩, ⟨hB7.trans b8⟩⟩, rfl⟩)
                  · have HO5 : Hid ((Y ++ G.take s).take M = (Y ++ G.take (s + 1)).take M) := ⟨by rw [HTs.out]; exact tk_full hX⟩
                    have hO6 := hO4
                    rw [HO5.out] at hO6
                    have hO7 : Hid (Wo (w.heap.size + 1) wr (.slice xa ((Y ++ G.take s).take M).length xc) ((Y ++ G.take (s + 1)).take M)) := ⟨by rw [← HO5.out]; exact hO4.out⟩
                    by_cases hx1 : (((Y ++ G.take s).take M).length : Int) < most
                    · have hx2 : ¬ ((Y ++ G.take s).take M).length < 256 := fun q => hX ((HM.out _).2 ⟨hx1, q⟩)
                      have dd1 : decide ((((Y ++ G.take s).take M).length : Int) < most) = true := decide_eq_true hx1
                      have dd2 : decide ((((Y ++ G.take s).take M).length : Int) < 256) = false := decide_eq_false (by omega)
                      clear hX hx1 hx2 HTs hxk hO4 HM hO6 HO5
                      generalize ((Y ++ G.take s).take M).length = AL at *
                      go_wp2_with fail
                      refine ⟨?_, by first | (rw [hw3]; simp [intOf]; omega) | (simp [intOf]; omega)⟩
                      first
                        | exact ⟨s + 1, _, hsl, hj5, by first | (rw [hw3]; done) | go_num, hO7, hB4⟩
                        | ((repeat apply Exists.intro); exact ⟨⟨s + 1, _, hsl, hj5, by first | (rw [hw3]; done) | go_num, hO7, hB4⟩, rfl⟩)
                    · have dd1 : decide ((((Y ++ G.take s).take M).length : Int) < most) = false := decide_eq_false hx1
                      clear hX hx1 HTs hxk hO4 HM hO6 HO5
                      generalize ((Y ++ G.take s).take M).length = AL at *
                      go_wp2_with fail
                      refine ⟨?_, by first | (rw [hw3]; simp [intOf]; omega) | (simp [intOf]; omega)⟩
                      first
                        | exact ⟨s + 1, _, hsl, hj5, by first | (rw [hw3]; done) | go_num, hO7, hB4⟩
                        | ((repeat apply Exists.intro); exact ⟨⟨s + 1, _, hsl, hj5, by first | (rw [hw3]; done) | go_num, hO7, hB4⟩, rfl⟩)
                · have d3 : decide ((m : Int) ≤ j) = false := decide_eq_false (by omega)
                  have hO5 := hO4.out
                  rw [show G.take s = G from List.take_of_length_le (by rw [HGl.out]; omega)] at hO5
                  clear HKk HC hj HGg hO4
                  go_wp2_with fail
                  refine ⟨?_, by first | (simp [intOf]; omega) | skip⟩
                  first
                    | exact ⟨k, Y ++ G, hKl, rfl, HT, ⟨hO5⟩, hB4⟩
                    | ((repeat apply Exists.intro); exact ⟨⟨k, Y ++ G, hKl, rfl, HT, ⟨hO5⟩, hB4⟩, rfl⟩)
    · obtain rfl : m = L.length := by omega
      have d1 : decide ((L.length : Int) < (L.length : Int)) = false := decide_eq_false (by omega)
      have hXE : Y = byK rwsL (L.drop (fndV L fr)) := by
        have h := hI.out
        unfold VsI at h
        rw [List.drop_eq_nil_of_le (by omega), byK_nil, List.append_nil] at h
        exact h
      have HO2 := Hid.mk (hO.out.base (b' := w.heap.size) (by omega))
      have HB2 := Hid.mk (b0.trans (hbl.mono b0.size))
      have HXE := Hid.mk hXE
      clear hI hO HL HR HZ hb hbl HM hXE
      go_wp2_with fail
      go_ret
      refine ⟨_, rfl, ?_, HB2.out⟩
      rw [← HXE.out]
      exact HO2.out
theorem qVersions_r (L : List Vs) (next : Int) (fr : List UInt8) (most : Int) (w : World) (a : Option Addr) (cap : Nat) (hR : RtB next L) (hL : Li w L a L.length cap) :
    Calls Tryz.prog 43 #[bv next a L.length cap, str fr, .int .i64 most] w fun e w' => ∃ v, e = .returned v ∧ Wo w.heap.size w' v ((byK rwsL (L.drop (fndV L fr))).take (msN most)) ∧ Below w.heap.size w w' :=
  qVersions_m L next fr most (msN most) (ms_iff most) (ms_le most) w a cap hR hL
end Go.Proofs.YtgcdnanfnbdjjaaGreat
