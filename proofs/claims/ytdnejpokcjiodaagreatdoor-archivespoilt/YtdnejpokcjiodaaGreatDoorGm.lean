import Derived.Test.YtdnejpokcjiodaaGreatDoorGl
/- The document's right item, its bytes. -/
namespace Go.Proofs.YtdnejpokcjiodaaGreatDoor
set_option maxRecDepth 100000
set_option linter.unusedVariables false
set_option linter.unusedSimpArgs false
open Go.RowKit
open Go.Proofs.YtdnejpokcjiodaaGreatDoorH (hv hv_length hv_one hv_eq)
/-- a box with an item of the document's -/
def Bj (w : World) (g : Nat) (x : It) (a : Option Addr) (c : Nat) : Prop := w.heap[g]? = some (.cells (ic x a c).toArray 94 (0, 0))
theorem Bj.new (w : World) (x : It) (a : Option Addr) (c : Nat) : Bj (w.alloc (.cells (ic x a c).toArray 94)) w.heap.size x a c := heap_alloc_new _ _
theorem Bj.lt {w : World} {g : Nat} {x : It} {a : Option Addr} {c : Nat} (h : Bj w g x a c) : g < w.heap.size := (Array.getElem?_eq_some_iff.1 h).1
theorem Bj.later {w w' : World} {g : Nat} {x : It} {a : Option Addr} {c : Nat} (h : Bj w g x a c) (hb : Below w.heap.size w w') : Bj w' g x a c := by
  have := hb.block g h.lt
  unfold Bj at h ⊢
  rw [this]; exact h
theorem Bj.cells {w : World} {g : Nat} {x : It} {a : Option Addr} {c : Nat} (h : Bj w g x a c) : w.cell? ⟨g, 0, none⟩ = some (str x.key) ∧ w.cell? ⟨g, 1, none⟩ = some (.int .i64 x.seq) ∧ w.cell? ⟨g, 2, none⟩ = some (.bool x.mkr) ∧ w.cell? ⟨g, 3, none⟩ = some (.int .i64 x.size) ∧ w.cell? ⟨g, 4, none⟩ = some (.slice a x.l.length c) := by
  obtain ⟨h0, h1, h2, h3, h4⟩ := ic_get x a c
  refine ⟨?_, ?_, ?_, ?_, ?_⟩
  · rw [cell_of_row _ _ _ _ _ _ h, List.getElem?_toArray]; exact h0
  · rw [cell_of_row _ _ _ _ _ _ h, List.getElem?_toArray]; exact h1
  · rw [cell_of_row _ _ _ _ _ _ h, List.getElem?_toArray]; exact h2
  · rw [cell_of_row _ _ _ _ _ _ h, List.getElem?_toArray]; exact h3
  · rw [cell_of_row _ _ _ _ _ _ h, List.getElem?_toArray]; exact h4
def Bn3 (w : World) (g : Nat) (s n : Int) (v : Value) : Prop := w.heap[g]? = some (.cells #[.int .i64 s, .int .i64 n, v] 38 (0, 0))
theorem Bn3.new (w : World) (s n : Int) (v : Value) : Bn3 (w.alloc (.cells #[.int .i64 s, .int .i64 n, v] 38)) w.heap.size s n v := heap_alloc_new _ _
theorem Bn3.lt {w : World} {g : Nat} {s n : Int} {v : Value} (h : Bn3 w g s n v) : g < w.heap.size := (Array.getElem?_eq_some_iff.1 h).1
theorem Bn3.later {w w' : World} {g : Nat} {s n : Int} {v : Value} (h : Bn3 w g s n v) (hb : Below w.heap.size w w') : Bn3 w' g s n v := by
  have := hb.block g h.lt
  unfold Bn3 at h ⊢
  rw [this]; exact h
theorem Bn3.cells {w : World} {g : Nat} {s n : Int} {v : Value} (h : Bn3 w g s n v) : w.cell? ⟨g, 0, none⟩ = some (.int .i64 s) ∧ w.cell? ⟨g, 1, none⟩ = some (.int .i64 n) ∧ w.cell? ⟨g, 2, none⟩ = some v := by
  refine ⟨?_, ?_, ?_⟩
  all_goals rw [cell_of_row _ _ _ _ _ _ h]; rfl
theorem infoQ : (Tryz.prog.info? 94).map (·.size) = some 37 := by kernel_rfl
noncomputable def ldQ (v : Value) : Sem Value := Instr.loadAt 94 v
theorem ldQe (v : Value) : Instr.loadAt 94 v = ldQ v := rfl
noncomputable def stQ (p v : Value) : Sem Unit := Instr.storeAt 94 p v
theorem stQe (p v : Value) : Instr.storeAt 94 p v = stQ p v := rfl
theorem run_ldQ {w : World} {b o : Nat} {x : It} {a : Option Addr} {c : Nat} (h : w.rangeAt b o (ic x a c)) : (ldQ (.pointer (some ⟨b, o, none⟩))).run Tryz.prog w = .ok (.agg (ic x a c).toArray) w := by
  unfold ldQ
  exact run_loadAt_mid (P := Tryz.prog) w b o 94 (ic x a c) _ h Tryz.underlying94 rfl (by rw [ic_length]; exact infoQ)
theorem Bj.range {w : World} {g : Nat} {x : It} {a : Option Addr} {c : Nat} (h : Bj w g x a c) : w.rangeAt g 0 (ic x a c) := fun j v hv => by
  rw [Nat.zero_add, cell_of_row _ _ _ _ _ _ h, List.getElem?_toArray]; exact hv
theorem run_stQ (w : World) (x : It) (a : Option Addr) (c : Nat) : (stQ (.pointer (some ⟨w.heap.size, 0, none⟩)) (.agg (ic x a c).toArray)).run Tryz.prog (w.alloc (.cells zI 94)) = .ok () (w.alloc (.cells (ic x a c).toArray 94)) := by
  unfold stQ
  exact run_storeAt_new w 94 zI (ic x a c).toArray (by rw [List.size_toArray, ic_length]; exact infoQ) ((show zI.size = 37 from rfl).trans (by rw [List.size_toArray, ic_length])) (all_oneCell_toArray (ic_one x a c))
attribute [local go_sem ↓] Go.wp_at_zero Go.wp_at_succ
theorem rti_iff (m : Ma) (x : It) : RtI m x ↔ RtJ x ∧ 1 ≤ x.seq ∧ x.seq < m.next ∧ m.since ≤ x.seq := ⟨fun h => ⟨⟨h.key, h.mk1, h.mk0⟩, h.s1, h.s2, h.s3⟩, fun h => ⟨h.1.key, h.2.1, h.2.2.1, h.2.2.2, h.1.mk1, h.1.mk0⟩⟩
def RqP (m : Ma) (x : It) (w : World) (e : Ending) (w' : World) : Prop := ∃ t, e = .returned (.bool t) ∧ (t = true ↔ RtI m x) ∧ Below w.heap.size w w'
set_option maxHeartbeats 8000000 in
theorem qright_any (m : Ma) (v : Value) (x : It) (w : World) (a : Option Addr) (c : Nat) (hS : Sl w a c x.l) (hz : x.l.length ≤ 4398046510976) (hp : ∀ (k : Nat) (e : En), x.l[k]? = some e → e.key.length ≤ 9223372036854775806 ∧ e.val.length ≤ 9223372036854775806) (hv : v.oneCell' = true) :
    Calls Tryz.prog 117 #[.agg (ic x a c).toArray, .agg #[.int .i64 m.since, .int .i64 m.next, v]] w (RqP m x w) := by
  have b0 := (Below.refl w.heap.size w).alloc (Nat.le_refl _) (.cells (ic x a c).toArray 94)
  have b1 := b0.alloc b0.size (.cells #[.int .i64 m.since, .int .i64 m.next, v] 38)
  have bq := (Below.refl (w.alloc (.cells (ic x a c).toArray 94)).heap.size _).alloc (Nat.le_refl _) (.cells #[.int .i64 m.since, .int .i64 m.next, v] 38)
  obtain ⟨p0, p1, p2, p3, p4⟩ := ((Bj.new w x a c).later bq).cells
  have zq := Bn3.new (w.alloc (.cells (ic x a c).toArray 94)) m.since m.next v
  rw [World.size_alloc] at zq
  obtain ⟨y0, y1, y2⟩ := zq.cells
  have HS := Hid.mk (hS.later b1)
  have HB0 := Hid.mk b1
  have Hz := Hid.mk hz
  have Hp := Hid.mk hp
  have HRi := Hid.mk (rti_iff m x)
  clear hS b0 b1 bq zq hz hp
  obtain ⟨since, next, items⟩ := m
  dsimp only at *
  go_enter Tryz.func117, Tryz.ntmps117
  go_wp2_with fail
  with_reducible refine Calls.mono (rKey_any x.key _) ?_
  rintro e w1 ⟨rfl, rfl⟩
  dsimp only
  clear p0
  rcases keyE_or x.key with hk | hk
  · rw [hk]
    have HKy := Hid.mk hk
    clear hk
    by_cases h1 : x.seq < 1
    · have d1 : decide (x.seq < 1) = true := decide_eq_true h1
      have HN : Hid (¬ RtI ⟨since, next, items⟩ x) := ⟨fun q => by have := (HRi.out.1 q).2.1; omega⟩
      clear h1
      go_wp2_with fail
      go_ret
      exact ⟨_, rfl, ff HN.out, HB0.out⟩
    have d1 : decide (x.seq < 1) = false := decide_eq_false h1
    by_cases h2 : next ≤ x.seq
    · have d2 : decide (next ≤ x.seq) = true := decide_eq_true h2
      have HN : Hid (¬ RtI ⟨since, next, items⟩ x) := ⟨fun q => by have := (HRi.out.1 q).2.2.1; omega⟩
      clear h1 h2
      go_wp2_with fail
      go_ret
      exact ⟨_, rfl, ff HN.out, HB0.out⟩
    have d2 : decide (next ≤ x.seq) = false := decide_eq_false h2
    by_cases h3 : x.seq < since
    · have d3 : decide (x.seq < since) = true := decide_eq_true h3
      have HN : Hid (¬ RtI ⟨since, next, items⟩ x) := ⟨fun q => by have := (HRi.out.1 q).2.2.2; omega⟩
      clear h1 h2 h3
      go_wp2_with fail
      go_ret
      exact ⟨_, rfl, ff HN.out, HB0.out⟩
    have d3 : decide (x.seq < since) = false := decide_eq_false h3
    have HQ : Hid (1 ≤ x.seq ∧ x.seq < next ∧ since ≤ x.seq) := ⟨by omega, by omega, by omega⟩
    clear h1 h2 h3
    cases hm : x.mkr with
    | true =>
      rw [hm] at p2
      by_cases hs : x.size = 0
      · rw [hs] at p3
        by_cases hl : x.l.length = 0
        · rw [hl] at p4
          have HY : Hid (RtI ⟨since, next, items⟩ x) := ⟨HRi.out.2 ⟨⟨HKy.out, fun _ => ⟨hs, List.eq_nil_of_length_eq_zero hl⟩, fun q => (by rw [hm] at q; cases q)⟩, HQ.out⟩⟩
          clear hm hs hl
          go_wp2_with fail
          go_ret
          exact ⟨_, rfl, ⟨fun _ => HY.out, fun _ => rfl⟩, HB0.out⟩
        · have d4 : ((x.l.length : Int) == 0) = false := by rw [beq_eq_false_iff_ne]; omega
          have d4' : (x.l.length == 0) = false := by rw [beq_eq_false_iff_ne]; omega
          have HN : Hid (¬ RtI ⟨since, next, items⟩ x) := ⟨fun q => hl (by rw [(q.mk1 hm).2]; rfl)⟩
          clear hm hs hl
          go_wp2_with fail
          go_ret
          exact ⟨_, rfl, ff HN.out, HB0.out⟩
      · have d4 : (x.size == 0) = false := by rw [beq_eq_false_iff_ne]; exact hs
        have HN : Hid (¬ RtI ⟨since, next, items⟩ x) := ⟨fun q => hs (q.mk1 hm).1⟩
        clear hm hs
        go_wp2_with fail
        go_ret
        exact ⟨_, rfl, ff HN.out, HB0.out⟩
    | false =>
      rw [hm] at p2
      by_cases g1 : 0 ≤ x.size
      · have d4 : decide (0 ≤ x.size) = true := decide_eq_true g1
        by_cases g2 : x.size ≤ 1024
        · have d5 : decide (x.size ≤ 1024) = true := decide_eq_true g2
          have H1 := Hid.mk g1
          have H2 := Hid.mk g2
          have Hm := Hid.mk hm
          clear hm g1 g2
          go_wp2_with fail
          with_reducible refine Calls.mono (rMeta_any x.l _ a _ c rfl HS.out.at' Hp.out (by have := Hz.out; omega)) ?_
          rintro e w2 ⟨rfl, b2⟩
          dsimp only
          have HB2 := Hid.mk (below_seq HB0.out b2)
          clear b2 d1 d2 d3 d4 d5 p1 p2 p3 p4 y0 y1 y2
          rcases mtE_or x.l with hq | hq
          · rw [hq]
            have HY : Hid (RtI ⟨since, next, items⟩ x) := ⟨HRi.out.2 ⟨⟨HKy.out, fun q => (by rw [Hm.out] at q; cases q), fun _ => ⟨H1.out, H2.out, hq⟩⟩, HQ.out⟩⟩
            clear hq
            go_wp2_with fail
            go_ret
            exact ⟨_, rfl, ⟨fun _ => HY.out, fun _ => rfl⟩, HB2.out⟩
          · rw [hq]
            have HN : Hid (¬ RtI ⟨since, next, items⟩ x) := ⟨fun q => by have := (q.mk0 Hm.out).2.2; omega⟩
            clear hq
            go_wp2_with fail
            go_ret
            exact ⟨_, rfl, ff HN.out, HB2.out⟩
        · have d5 : decide (x.size ≤ 1024) = false := decide_eq_false g2
          have HN : Hid (¬ RtI ⟨since, next, items⟩ x) := ⟨fun q => g2 (q.mk0 hm).2.1⟩
          clear hm g1 g2
          go_wp2_with fail
          go_ret
          exact ⟨_, rfl, ff HN.out, HB0.out⟩
      · have d4 : decide (0 ≤ x.size) = false := decide_eq_false g1
        have HN : Hid (¬ RtI ⟨since, next, items⟩ x) := ⟨fun q => g1 (q.mk0 hm).1⟩
        clear hm g1
        go_wp2_with fail
        go_ret
        exact ⟨_, rfl, ff HN.out, HB0.out⟩
  · rw [hk]
    have HN : Hid (¬ RtI ⟨since, next, items⟩ x) := ⟨fun q => by have := q.key; omega⟩
    clear hk
    go_wp2_with fail
    go_ret
    exact ⟨_, rfl, ff HN.out, HB0.out⟩
end Go.Proofs.YtdnejpokcjiodaaGreatDoor

/- The document's bytes of an item. -/
namespace Go.Proofs.YtdnejpokcjiodaaGreatDoor
set_option maxRecDepth 100000
set_option linter.unusedVariables false
set_option linter.unusedSimpArgs false
open Go.RowKit
attribute [local go_sem ↓] Go.wp_at_zero Go.wp_at_succ
theorem w64 {n : Int} (h : 0 ≤ n) (h2 : n ≤ 1000000) : wrap64 n = n := by unfold wrap64; omega
set_option maxHeartbeats 4000000 in
theorem qbytes_any (x : It) (hR : RtJ x) (w : World) (a : Option Addr) (c : Nat) (hS : Sl w a c x.l) :
    Calls Tryz.prog 118 #[.agg (ic x a c).toArray] w fun e w' => e = .returned (.int .i64 (isz x)) ∧ Below w.heap.size w w' := by
  have b0 := (Below.refl w.heap.size w).alloc (Nat.le_refl _) (.cells (ic x a c).toArray 94)
  have z0 := Hid.mk (Bj.new w x a c)
  obtain ⟨p0, p1, p2, p3, p4⟩ := z0.out.cells
  have HS := Hid.mk (hS.later b0)
  have HB0 := Hid.mk b0
  have hk := keyE_len hR.key
  have hl : tt x.l ≤ 640 ∧ 0 ≤ x.size ∧ x.size ≤ 1024 ∧ x.l.length ≤ 8 := by
    cases hm : x.mkr with
    | true =>
      obtain ⟨q1, q2⟩ := hR.mk1 hm
      rw [q1, q2]
      simp [tt]
    | false =>
      obtain ⟨q1, q2, q3⟩ := hR.mk0 hm
      obtain ⟨r1, r2, r3⟩ := mtE_iff q3
      have := tt_le x.l r2
      exact ⟨by omega, q1, q2, r1⟩
  have ha1 : wrap64 (32 + (x.key.length : Int)) = 32 + (x.key.length : Int) := w64 (by omega) (by omega)
  have ha2 : wrap64 (32 + (x.key.length : Int) + x.size) = 32 + (x.key.length : Int) + x.size := w64 (by omega) (by omega)
  have HLl := Hid.mk hl
  have HKl := Hid.mk hk
  clear hS b0 hR hl hk
  go_enter Tryz.func118, Tryz.ntmps118
  go_wp2_with fail
  clear p0 p1 p2 p3 p4 ha1 ha2
  generalize w.alloc (.cells (ic x a c).toArray 94) = W1 at *
  obtain ⟨S, hS⟩ : ∃ S : Nat → Int, S = fun k => 32 + (x.key.length : Int) + x.size + (tt (x.l.take k) : Nat) := ⟨_, rfl⟩
  have HSd := Hid.mk hS
  have h0 : 32 + (x.key.length : Int) + x.size = S 0 := by rw [hS]; simp [tt]
  rw [h0]
  have HSb : Hid (∀ k, 0 ≤ S k ∧ S k ≤ 10000) := ⟨fun k => by
    rw [hS]
    have := HLl.out
    have := HKl.out
    have h2 : tt (x.l.take k) ≤ tt x.l := by
      have := tt_append (x.l.take k) (x.l.drop k)
      rw [List.take_append_drop] at this
      omega
    constructor <;> (simp only; omega)⟩
  clear hS h0
  go_loopw [4, 3] (fun i s wr => ∃ k : Nat, k ≤ x.l.length ∧ i = .int .i64 (k : Int) ∧ s = .int .i64 (S k) ∧ Hid (Below W1.heap.size W1 wr)) (fun i _ _ => x.l.length - (intOf i).toNat)
  case atStart => exact ⟨0, Nat.zero_le _, rfl, by first | rfl | (rw [w64 (HSb.out 0).1 (Int.le_trans (HSb.out 0).2 (by decide))]), ⟨Below.refl _ _⟩⟩
  case round =>
    obtain ⟨k, hk, rfl, rfl, hb⟩ := hrel
    obtain ⟨p0, p1, p2, p3, p4⟩ := (z0.out.later hb.out).cells
    by_cases hlt : k < x.l.length
    · have d1 : decide ((k : Int) < (x.l.length : Int)) = true := decide_eq_true (Int.ofNat_lt.2 hlt)
      have k2 : (k : Int) < (x.l.length : Int) := Int.ofNat_lt.2 hlt
      have hw1 : wrap64 ((k : Int) + 1) = ((k + 1 : Nat) : Int) := by have := HLl.out; unfold wrap64; omega
      obtain ⟨p, hp⟩ : ∃ p, x.l[k]? = some p := ⟨x.l[k], List.getElem?_eq_getElem hlt⟩
      obtain ⟨b, off, rfl, hbl, c0, c1⟩ := (HS.out.later hb.out).at'.get k p hp
      have hst : S k + (p.key.length : Int) + (p.val.length : Int) = S (k + 1) := by
        rw [HSd.out]
        simp only
        rw [tt_take hp]
        omega
      have hbb := HSb.out (k + 1)
      have hbk := HSb.out k
      have hi1 : IntKind.i64.wrap (S k + (p.key.length : Int)) = S k + (p.key.length : Int) := by rw [i64w]; exact w64 (by omega) (by omega)
      have hi2 : IntKind.i64.wrap (S k + (p.key.length : Int) + (p.val.length : Int)) = S (k + 1) := by rw [i64w, hst]; exact w64 (by omega) (by omega)
      have HB2 : Hid (Below W1.heap.size W1 wr.drew) := ⟨hb.out.drew⟩
      clear hst hbb hbk hp
      go_wp2_with fail
      go_region
      clear hi1 hi2 c0 c1 p0 p1 p2 p3 p4
      go_wp2_with fail
      exact ⟨⟨k + 1, hlt, by first | (rw [hw1]; done) | rfl | go_num, rfl, HB2⟩, by first | (rw [hw1]; exact Nat.sub_lt_sub_left hlt (Nat.lt_succ_self k)) | (simp [intOf]; omega)⟩
    · obtain rfl : k = x.l.length := by omega
      have d1 : decide ((x.l.length : Int) < (x.l.length : Int)) = false := decide_eq_false (by omega)
      have HE : Hid (S x.l.length = isz x) := ⟨by rw [HSd.out]; simp only [List.take_length]; unfold isz; omega⟩
      go_wp2_with fail
      go_ret
      exact ⟨by show Ending.returned (Value.int .i64 (S x.l.length)) = _; rw [HE.out], HB0.out.trans (hb.out.mono HB0.out.size)⟩
end Go.Proofs.YtdnejpokcjiodaaGreatDoor
