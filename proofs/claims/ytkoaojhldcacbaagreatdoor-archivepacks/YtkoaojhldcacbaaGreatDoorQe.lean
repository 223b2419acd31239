import Derived.Test.YtkoaojhldcacbaaGreatDoorASv
import Derived.Test.YtkoaojhldcacbaaGreatDoorQk
import Derived.Test.YtkoaojhldcacbaaGreatDoorGu
import Derived.Deep.RegionHeld3
import Derived.Test.YtkoaojhldcacbaaGreatDoorGq
import Derived.Test.YtkoaojhldcacbaaGreatDoorQd
/- The document's Same of two values. -/
namespace Go.Proofs.YtkoaojhldcacbaaGreatDoor
set_option maxRecDepth 100000
set_option linter.unusedVariables false
set_option linter.unusedSimpArgs false
open Go.RowKit
attribute [local go_sem ↓] Go.wp_at_zero Go.wp_at_succ
noncomputable def svB (n : Int) (L : List Vs) (n' : Int) (L' : List Vs) : Bool := by classical exact decide (n = n' ∧ L = L')
theorem svB_iff {n : Int} {L : List Vs} {n' : Int} {L' : List Vs} : svB n L n' L' = true ↔ n = n' ∧ L = L' := by unfold svB; simp
theorem svB_true {n : Int} {L : List Vs} {n' : Int} {L' : List Vs} (h : n = n' ∧ L = L') : svB n L n' L' = true := svB_iff.2 h
theorem svB_false {n : Int} {L : List Vs} {n' : Int} {L' : List Vs} (h : ¬ (n = n' ∧ L = L')) : svB n L n' L' = false := by
  cases hb : svB n L n' L' with
  | false => rfl
  | true => exact absurd (svB_iff.1 hb) h
theorem vtake_next {a b : List Vs} {k : Nat} {p : Vs} (hp : a[k]? = some p) (hq : b[k]? = some p) (h : a.take k = b.take k) : a.take (k + 1) = b.take (k + 1) := by
  rw [List.take_add_one, List.take_add_one, hp, hq, h]
set_option maxHeartbeats 8000000 in
theorem asame_any (n n' : Int) (L L' : List Vs) (w : World) (a a' : Option Addr) (c c' : Nat) (hL : VIn w a L) (hL' : VIn w a' L') (hl : L.length ≤ 4000000000000) (hz : ∀ v ∈ L, v.l.length ≤ 9223372036854775806) (hz' : ∀ v ∈ L', v.l.length ≤ 9223372036854775806) :
    Calls Tryz.prog 18 #[.agg #[.int .i64 n, .slice a L.length c], .agg #[.int .i64 n', .slice a' L'.length c']] w fun e w' => e = .returned (.bool (svB n L n' L')) ∧ Below w.heap.size w w' := by
  have b1 := (Below.refl w.heap.size w).alloc (Nat.le_refl _) (.cells #[.int .i64 n, .slice a L.length c] 24)
  have b2 := b1.alloc b1.size (.cells #[.int .i64 n', .slice a' L'.length c'] 24)
  have z0 : Bb2 ((w.alloc (.cells #[.int .i64 n, .slice a L.length c] 24)).alloc (.cells #[.int .i64 n', .slice a' L'.length c'] 24)) w.heap.size n (.slice a L.length c) := (Bb2.new w n (.slice a L.length c)).later ((Below.refl _ _).alloc (Nat.le_refl _) _)
  have z1 : Bb2 ((w.alloc (.cells #[.int .i64 n, .slice a L.length c] 24)).alloc (.cells #[.int .i64 n', .slice a' L'.length c'] 24)) (w.heap.size + 1) n' (.slice a' L'.length c') := by
    have := Bb2.new (w.alloc (.cells #[.int .i64 n, .slice a L.length c] 24)) n' (.slice a' L'.length c')
    rw [World.size_alloc] at this
    exact this
  obtain ⟨p0, p1⟩ := z0.cells
  obtain ⟨q0, q1⟩ := z1.cells
  have HB := Hid.mk b2
  have HZ0 := Hid.mk z0
  have HZ1 := Hid.mk z1
  have HL := Hid.mk hL
  have HL' := Hid.mk hL'
  have HZ := Hid.mk hz
  have HZ' := Hid.mk hz'
  have HN := Hid.mk hl
  obtain ⟨SV, hSV⟩ : ∃ SV, Hid (svB n L n' L' = SV) := ⟨_, ⟨rfl⟩⟩
  rw [hSV.out]
  clear b1 b2 z0 z1 hL hL' hz hz' hl
  by_cases h1 : n = n'
  rotate_left
  · have d1 : (n == n') = false := beq_eq_false_iff_ne.2 h1
    have d2 : (n != n') = true := by rw [bne, d1]; rfl
    have HF : Hid (SV = false) := ⟨hSV.out.symm.trans (svB_false (fun q => h1 q.1))⟩
    clear h1
    go_enter Tryz.func18, Tryz.ntmps18
    go_wp2_with fail
    go_ret
    exact ⟨by rw [HF.out]; rfl, HB.out⟩
  subst h1
  by_cases h2 : L.length = L'.length
  rotate_left
  · have d1 : ((L.length : Int) == (L'.length : Int)) = false := by rw [beq_eq_false_iff_ne]; omega
    have d2 : ((L.length : Int) != (L'.length : Int)) = true := by rw [bne, d1]; rfl
    have d3 : (L.length == L'.length) = false := beq_eq_false_iff_ne.2 h2
    have d4 : (L.length != L'.length) = true := by rw [bne, d3]; rfl
    have HF : Hid (SV = false) := ⟨hSV.out.symm.trans (svB_false (fun q => h2 (by rw [q.2])))⟩
    clear h2
    go_enter Tryz.func18, Tryz.ntmps18
    go_wp2_with fail
    go_ret
    exact ⟨by rw [HF.out]; rfl, HB.out⟩
  have HLL := Hid.mk h2
  rw [← h2] at p0 p1 q0 q1 HZ0 HZ1 HB ⊢
  clear h2
  go_enter Tryz.func18, Tryz.ntmps18
  go_wp2_with fail
  generalize (w.alloc (.cells #[.int .i64 n, .slice a L.length c] 24)).alloc (.cells #[.int .i64 n, .slice a' L.length c'] 24) = W1 at *
  go_loopw [5] (fun i wr => ∃ k : Nat, k ≤ L.length ∧ i = .int .i64 (k : Int) ∧ Hid (L.take k = L'.take k ∧ Below W1.heap.size W1 wr)) (fun i _ => L.length - (intOf i).toNat)
  case atStart => exact ⟨0, Nat.zero_le _, rfl, ⟨by simp, Below.refl _ _⟩⟩
  case round =>
    obtain ⟨k, hk, rfl, HR⟩ := hrel
    clear p0 p1 q0 q1
    obtain ⟨p0, p1⟩ := (HZ0.out.later HR.out.2).cells
    obtain ⟨q0, q1⟩ := (HZ1.out.later HR.out.2).cells
    by_cases hlt : k < L.length
    · have d1 : decide ((k : Int) < (L.length : Int)) = true := decide_eq_true (by omega)
      have k0 : (0 : Int) ≤ (k : Int) := Int.natCast_nonneg k
      have k2 : (k : Int) < (L.length : Int) := by omega
      have hw1 : wrap64 ((k : Int) + 1) = ((k + 1 : Nat) : Int) := by unfold wrap64; have := HN.out; omega
      have hb := HB.out.trans (HR.out.2.mono HB.out.size)
      obtain ⟨v, hv⟩ : ∃ v, L[k]? = some v := ⟨L[k], List.getElem?_eq_getElem hlt⟩
      obtain ⟨u, hu⟩ : ∃ u, L'[k]? = some u := ⟨L'[k]'(by rw [← HLL.out]; exact hlt), List.getElem?_eq_getElem _⟩
      obtain ⟨b, off, ma, mc, hab, hbl, c0, c1, c2, c3, c4, hsl⟩ := (HL.out.later hb).get k v hv
      subst hab
      obtain ⟨b', off', ma', mc', hab', hbl', e0, e1, e2, e3, e4, hsl'⟩ := (HL'.out.later hb).get k u hu
      subst hab'
      have hsm := fun (w' : World) (h : Below wr.heap.size wr w') => vsame_any v u w' ma v.l.length mc rfl (hsl.later h).at' (HZ.out v (List.mem_of_getElem? hv)) ma' u.l.length mc' rfl (hsl'.later h).at' (HZ'.out u (List.mem_of_getElem? hu))
      have HC : Hid (∀ w', Below wr.heap.size wr w' → Below wr.heap.size wr w' ∧ w'.cell? ⟨w.heap.size, 1, none⟩ = some (.slice (some ⟨b, off, none⟩) L.length c) ∧ w'.cell? ⟨w.heap.size + 1, 1, none⟩ = some (.slice (some ⟨b', off', none⟩) L.length c') ∧ w'.cell? ⟨b, off + k * 5, none⟩ = some (str v.key) ∧ w'.cell? ⟨b, off + k * 5 + 1, none⟩ = some (.int .i64 v.seq) ∧ w'.cell? ⟨b, off + k * 5 + 2, none⟩ = some (.bool v.mkr) ∧ w'.cell? ⟨b, off + k * 5 + 3, none⟩ = some (str v.data) ∧ w'.cell? ⟨b, off + k * 5 + 4, none⟩ = some (.slice ma v.l.length mc) ∧ w'.cell? ⟨b', off' + k * 5, none⟩ = some (str u.key) ∧ w'.cell? ⟨b', off' + k * 5 + 1, none⟩ = some (.int .i64 u.seq) ∧ w'.cell? ⟨b', off' + k * 5 + 2, none⟩ = some (.bool u.mkr) ∧ w'.cell? ⟨b', off' + k * 5 + 3, none⟩ = some (str u.data) ∧ w'.cell? ⟨b', off' + k * 5 + 4, none⟩ = some (.slice ma' u.l.length mc')) := ⟨fun w' h => by
        refine ⟨h, ((HZ0.out.later HR.out.2).later h).cells.2, ((HZ1.out.later HR.out.2).later h).cells.2, ?_, ?_, ?_, ?_, ?_, ?_, ?_, ?_, ?_, ?_⟩
        · exact (h.cell (p := ⟨b, _, none⟩) hbl).trans c0
        · exact (h.cell (p := ⟨b, _, none⟩) hbl).trans c1
        · exact (h.cell (p := ⟨b, _, none⟩) hbl).trans c2
        · exact (h.cell (p := ⟨b, _, none⟩) hbl).trans c3
        · exact (h.cell (p := ⟨b, _, none⟩) hbl).trans c4
        · exact (h.cell (p := ⟨b', _, none⟩) hbl').trans e0
        · exact (h.cell (p := ⟨b', _, none⟩) hbl').trans e1
        · exact (h.cell (p := ⟨b', _, none⟩) hbl').trans e2
        · exact (h.cell (p := ⟨b', _, none⟩) hbl').trans e3
        · exact (h.cell (p := ⟨b', _, none⟩) hbl').trans e4⟩
      have HS1 : Hid (v = u → L.take (k + 1) = L'.take (k + 1)) := ⟨fun e => vtake_next hv (by rw [hu, e]) HR.out.1⟩
      have HS2 : Hid (¬ v = u → SV = false) := ⟨fun e => hSV.out.symm.trans (svB_false (fun q => e (by
        have := q.2
        rw [this, hu] at hv
        injection hv with hv
        exact hv.symm)))⟩
      obtain ⟨t, ht⟩ : ∃ t, Hid (sv v u = t) := ⟨_, ⟨rfl⟩⟩
      rw [ht.out] at hsm
      have HBB := Hid.mk hb
      obtain ⟨key, seq, mkr, data, l⟩ := v
      obtain ⟨key', seq', mkr', data', l'⟩ := u
      dsimp only at *
      have HLt := Hid.mk hlt
      clear hv hu c0 c1 c2 c3 c4 e0 e1 e2 e3 e4 hsl hsl' hb p0 p1 q0 q1 hlt hk
      have p1 : wr.cell? ⟨w.heap.size, 1, none⟩ = some (.slice (some ⟨b, off, none⟩) L.length c) := (HC.out wr (Below.refl _ _)).2.1
      go_upto_region 6 with fail
      clear p1
      go_region_held3 (fun w' => Below wr.heap.size wr w' ∧ w'.cell? ⟨w.heap.size, 1, none⟩ = some (.slice (some ⟨b, off, none⟩) L.length c) ∧ w'.cell? ⟨w.heap.size + 1, 1, none⟩ = some (.slice (some ⟨b', off', none⟩) L.length c') ∧ w'.cell? ⟨b, off + k * 5, none⟩ = some (str key) ∧ w'.cell? ⟨b, off + k * 5 + 1, none⟩ = some (.int .i64 seq) ∧ w'.cell? ⟨b, off + k * 5 + 2, none⟩ = some (.bool mkr) ∧ w'.cell? ⟨b, off + k * 5 + 3, none⟩ = some (str data) ∧ w'.cell? ⟨b, off + k * 5 + 4, none⟩ = some (.slice ma l.length mc) ∧ w'.cell? ⟨b', off' + k * 5, none⟩ = some (str key') ∧ w'.cell? ⟨b', off' + k * 5 + 1, none⟩ = some (.int .i64 seq') ∧ w'.cell? ⟨b', off' + k * 5 + 2, none⟩ = some (.bool mkr') ∧ w'.cell? ⟨b', off' + k * 5 + 3, none⟩ = some (str data') ∧ w'.cell? ⟨b', off' + k * 5 + 4, none⟩ = some (.slice ma' l'.length mc')) ((refine HC.out _ ?_; first
        | with_reducible exact (Below.refl _ _).drew
        | with_reducible exact B1)) ((go_at_call 43; with_reducible refine Calls.mono (hsm _ (And.left (by assumption))) ?_; rintro e w3 ⟨rfl, y1⟩; have B1 := below_seq (And.left (by assumption)) y1))
      have HB1 := Hid.mk B1
      obtain ⟨p0, p1⟩ := ((HZ0.out.later HR.out.2).later B1).cells
      clear B1 y1 hsm
      cases t with
      | false =>
        have HF : Hid (SV = false) := ⟨HS2.out (fun q => by have := sv_true q; rw [ht.out] at this; cases this)⟩
        go_wp2_with fail
        go_ret
        exact ⟨by rw [HF.out]; rfl, HBB.out.trans (HB1.out.mono HBB.out.size)⟩
      | true =>
        have HF := Hid.mk (HS1.out (sv_iff.1 ht.out))
        go_wp2_with fail
        exact ⟨⟨k + 1, HLt.out, by first | (rw [hw1]; done) | rfl | go_num, ⟨HF.out, HR.out.2.trans (HB1.out.mono HR.out.2.size)⟩⟩, by first | (rw [hw1]; exact Nat.sub_lt_sub_left HLt.out (Nat.lt_succ_self k)) | (simp only [intOf, Int.toNat_natCast]; exact Nat.sub_lt_sub_left HLt.out (Nat.lt_succ_self k))⟩
    · obtain rfl : k = L.length := Nat.le_antisymm hk (Nat.le_of_not_lt hlt)
      have d1 : decide ((L.length : Int) < (L.length : Int)) = false := decide_eq_false (fun q => Int.lt_irrefl _ q)
      have HF : Hid (SV = true) := ⟨hSV.out.symm.trans (svB_true ⟨rfl, by
        have h := HR.out.1
        rw [List.take_length, HLL.out, List.take_length] at h
        exact h⟩)⟩
      clear hlt hk
      go_wp2_with fail
      go_ret
      exact ⟨by rw [HF.out]; rfl, HB.out.trans (HR.out.2.mono HB.out.size)⟩
end Go.Proofs.YtkoaojhldcacbaaGreatDoor

/- example. -/
namespace Go.Proofs.YtkoaojhldcacbaaGreatDoor
set_option maxRecDepth 100000
set_option linter.unusedVariables false
set_option linter.unusedSimpArgs false
open Go.RowKit
open Go.Proofs.YtkoaojhldcacbaaGreatDoorP (TB recd nn LEN)
open Go.Proofs.YtkoaojhldcacbaaGreatDoorH (KIn)
attribute [local go_sem ↓] Go.wp_at_zero Go.wp_at_succ
abbrev exRow : Array Value := #[.string ⟨#[107]⟩, .int .i64 1, .bool false, .string ⟨#[97, 98]⟩, .slice none 0 0, .string ⟨#[107]⟩, .int .i64 2, .bool true, .string ⟨#[]⟩, .slice none 0 0]
theorem ex_vin {w : World} {g : Nat} (h : w.heap[g]? = some (.cells exRow 33 (0, 0))) : VIn w (some ⟨g, 0, none⟩) [exA, exB] := by
  refine ⟨fun k v hk => ?_⟩
  have hlt := lt_of_block h
  have c : ∀ j, w.cell? ⟨g, j, none⟩ = exRow[j]? := fun j => cell_of_row _ _ _ _ _ _ h
  have hs : Sl w none 0 ([] : List En) := (Ow.nil w w.heap.size (Nat.le_refl _)).asSl2
  match k, hk with
  | 0, hk =>
    injection hk with hk
    subst hk
    exact ⟨g, 0, none, 0, rfl, hlt, c 0, c 1, c 2, c 3, c 4, hs⟩
  | 1, hk =>
    injection hk with hk
    subst hk
    exact ⟨g, 0, none, 0, rfl, hlt, c 5, c 6, c 7, c 8, c 9, hs⟩
  | k + 2, hk => simp at hk
set_option maxHeartbeats 2000000 in
theorem example_any (w : World) : Calls Tryz.prog 39 #[] w fun e w' => ∃ g, e = .returned (.agg #[.int .i64 3, .slice (some ⟨g, 0, none⟩) 2 2]) ∧ VIn w' (some ⟨g, 0, none⟩) [exA, exB] ∧ Below w.heap.size w w' := by
  have b1 := (Below.refl w.heap.size w).alloc (Nat.le_refl _) (.cells #[.int .i64 3, .slice (some ⟨w.heap.size + 1, 0, none⟩) 2 2] 24)
  have b2 := b1.alloc b1.size (.cells exRow 33)
  have z0 : Bb2 ((w.alloc (.cells #[.int .i64 3, .slice (some ⟨w.heap.size + 1, 0, none⟩) 2 2] 24)).alloc (.cells exRow 33)) w.heap.size 3 (.slice (some ⟨w.heap.size + 1, 0, none⟩) 2 2) := (Bb2.new w 3 _).later ((Below.refl _ _).alloc (Nat.le_refl _) _)
  have hr : ((w.alloc (.cells #[.int .i64 3, .slice (some ⟨w.heap.size + 1, 0, none⟩) 2 2] 24)).alloc (.cells exRow 33)).heap[w.heap.size + 1]? = some (.cells exRow 33 (0, 0)) := by
    have := heap_alloc_new (w.alloc (.cells #[.int .i64 3, .slice (some ⟨w.heap.size + 1, 0, none⟩) 2 2] 24)) (.cells exRow 33)
    rw [World.size_alloc] at this
    exact this
  have HF := Hid.mk (And.intro (ex_vin hr) b2)
  have HZ := Hid.mk z0
  have z1 := Bb2.new w 0 (.slice none 0 0)
  obtain ⟨x0, x1⟩ := z1.cells
  clear b1 b2 z0 hr z1
  go_enter Tryz.func39, Tryz.ntmps39
  go_wp2_with fail
  generalize (w.alloc (.cells #[.int .i64 3, .slice (some ⟨w.heap.size + 1, 0, none⟩) 2 2] 24)).alloc (.cells exRow 33) = W9 at *
  obtain ⟨q0, q1⟩ := HZ.out.cells
  clear x0 x1
  refine bodyPost_ret (v := .agg #[.int .i64 3, .slice (some ⟨w.heap.size + 1, 0, none⟩) 2 2]) ?_ rfl ⟨_, rfl, HF.out.1, HF.out.2⟩
  rw [results_c1 rfl]
  go_simp
/- the answers -/
theorem ex_of0 : OfR [exA, exB] 3 0 := by
  obtain ⟨h1, h2, h3⟩ := ex_of
  exact ⟨h1, h2, ⟨h3.n1, h3.n2, by decide, by decide, h3.len, fun x hx => by
    obtain ⟨a, b, c, d, e, f⟩ := h3.it x hx
    exact ⟨a, b, c, by simp only at d ⊢; omega, e, f⟩, h3.srt, h3.nod, h3.byt⟩⟩
theorem ex_no2 : ¬ OfR [exA, exB] 3 2 := fun h => by
  have := (h.2.2.it (itOf exA (enc exA)) (by simp [ofI])).s3
  simp at this
theorem em_of : OfR [] 1 0 := ⟨by decide, fun v h => by simp at h, rt_m0⟩
theorem em_bod : bod [] 1 0 = nothing := by
  unfold bod
  have : con [] = [] := rfl
  rw [this, List.append_nil]
  exact mtx_m0
theorem em_arc : arc [] 1 0 = nothing ++ (recd sRoot (rtX []) ++ [49, 51, 32, 108, 101, 110, 103, 116, 104, 61, 54, 56, 10]) := by
  unfold arc trl
  rw [em_bod]
  have : recd sLength (dec ((nothing.length : Nat) : Int)) = [49, 51, 32, 108, 101, 110, 103, 116, 104, 61, 54, 56, 10] := by kernel_rfl
  rw [this]
  rfl
theorem root_len (ts : List (List UInt8)) : (recd sRoot (rtX ts)).length = 73 := by
  rw [Go.Proofs.YtkoaojhldcacbaaGreatDoorP.recd_length]
  unfold nn
  rw [rtX_len]
  decide
theorem em_len : (arc [] 1 0).length = 154 := by
  rw [em_arc, List.length_append, List.length_append, root_len]
  rfl
theorem em_take : (arc [] 1 0).take 13 = [49, 51, 32, 107, 105, 110, 100, 61, 102, 117, 108, 108, 10] := by
  rw [em_arc]
  exact List.take_append_of_le_length (by decide)
theorem em_drop : (arc [] 1 0).drop 141 = [49, 51, 32, 108, 101, 110, 103, 116, 104, 61, 54, 56, 10] := by
  rw [em_arc, ← List.append_assoc]
  exact List.drop_left' (by rw [List.length_append, root_len]; rfl)
theorem no_arc (L : List Vs) (n : Int) : ¬ Arc [] L n 0 := fun h => by
  obtain ⟨_, r, e⟩ := h.beg
  have := mtx_pos ⟨0, n, ofI L⟩
  have h2 := congrArg List.length e
  rw [List.length_append] at h2
  simp at h2
  omega
end Go.Proofs.YtkoaojhldcacbaaGreatDoor
