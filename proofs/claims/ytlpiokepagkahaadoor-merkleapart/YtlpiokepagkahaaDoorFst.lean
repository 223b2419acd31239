/- What the document gives, by the program's own calls. -/
import Derived.Test.YtlpiokepagkahaaDoorFst0
namespace Go.Proofs.YtlpiokepagkahaaDoor
set_option linter.unusedVariables false
set_option linter.unusedSimpArgs false
open Go.RowKit
attribute [local go_sem ↓] Go.wp_at_zero Go.wp_at_succ
attribute [local go_sem ↓] ld23 st23
attribute [local go_sem] eqH
/-- What stands there when the last line is reached. -/
structure FS (w : World) (B A C P : Nat) (w' : World) : Prop where
  k : KIn w'
  bel : Below B w w'
  ra : w'.rangeAt A 0 (hv fa)
  rb : w'.rangeAt C 0 (hv fb)
  rp : w'.rangeAt P 0 (hv fab2)
theorem FS.next {w w2 w3 : World} {B A C P : Nat} (h : FS w B A C P w2) (bq : Below w2.heap.size w2 w3) (hB : B ≤ w2.heap.size) : FS w B A C P w3 :=
  ⟨h.k.seq bq, h.bel.trans (bq.mono hB), rangeNext h.ra bq, rangeNext h.rb bq, rangeNext h.rp bq⟩
theorem FS.step {w w2 w3 : World} {B A C P : Nat} (h : FS w B A C P w2) (bq : Below w2.heap.size w2 w3) (hB : w.heap.size = B) : FS w B A C P w3 ∧ (ldS 23 (.pointer (some ⟨A, 0, none⟩))).run Tryd.prog w3 = .ok (.agg (hv fa).toArray) w3 ∧ (ldS 23 (.pointer (some ⟨C, 0, none⟩))).run Tryd.prog w3 = .ok (.agg (hv fb).toArray) w3 ∧ (ldS 23 (.pointer (some ⟨P, 0, none⟩))).run Tryd.prog w3 = .ok (.agg (hv fab2).toArray) w3 := by
  have h3 := h.next bq (by have := h.bel.size; omega)
  exact ⟨h3, load23 h3.ra, load23 h3.rb, load23 h3.rp⟩
theorem cell_hv {w : World} {b : Nat} {g : Hs} (h : w.rangeAt b 0 (hv g)) (j : Nat) (hj : j < 32) (x : UInt8) (e : g j = x) : w.cell? ⟨b, j, none⟩ = some (.int .u8 (x.toNat : Int)) := by
  have := h j _ (hv_get g j hj)
  rw [Nat.zero_add, e] at this
  exact this
theorem exec_load {P : Program} {ev : Operand → Value} {o : Oper} {T : TypeId} {x : Operand} {p v : Value} {w : World} (ho : o.op = .load T x) (he : ev x = p) (hl : (Instr.loadAt T p).run P w = .ok v w) : (execOp ev o).run P w = .ok (.value v) w := by
  unfold execOp; simp [ho, he, hl, Sem.run_bind, Result.andThen]
theorem load5 {w : World} {b j : Nat} {q : Int} (h : w.cell? ⟨b, j, none⟩ = some (.int .u8 q)) : (Instr.loadAt 5 (.pointer (some ⟨b, j, none⟩))).run Tryd.prog w = .ok (.int .u8 q) w := by
  simp [Instr.loadAt, go_sem, h]
theorem FS.all {w w2 : World} {B A C P : Nat} (h : FS w B A C P w2) :
    (w2.cell? ⟨A, 0, none⟩ = some (.int .u8 110) ∧ w2.cell? ⟨A, 1, none⟩ = some (.int .u8 52) ∧ w2.cell? ⟨A, 31, none⟩ = some (.int .u8 29)) ∧ (w2.cell? ⟨C, 0, none⟩ = some (.int .u8 250) ∧ w2.cell? ⟨C, 1, none⟩ = some (.int .u8 197) ∧ w2.cell? ⟨C, 31, none⟩ = some (.int .u8 37)) ∧
    (ldS 23 (.pointer (some ⟨A, 0, none⟩))).run Tryd.prog w2 = .ok (.agg (hv fa).toArray) w2 ∧ (ldS 23 (.pointer (some ⟨C, 0, none⟩))).run Tryd.prog w2 = .ok (.agg (hv fb).toArray) w2 ∧ (ldS 23 (.pointer (some ⟨P, 0, none⟩))).run Tryd.prog w2 = .ok (.agg (hv fab2).toArray) w2 :=
  ⟨⟨cell_hv h.ra 0 (by decide) 110 fa0, cell_hv h.ra 1 (by decide) 52 fa1, cell_hv h.ra 31 (by decide) 29 fa31⟩, ⟨cell_hv h.rb 0 (by decide) 250 fb0, cell_hv h.rb 1 (by decide) 197 fb1, cell_hv h.rb 31 (by decide) 37 fb31⟩, load23 h.ra, load23 h.rb, load23 h.rp⟩
theorem leafA {w : World} (hK : KIn w) : Calls Tryd.prog 12 #[.string ⟨#[97]⟩] w fun e w' => e = .returned (.agg (hv (leaf [97])).toArray) ∧ Below w.heap.size w w' := leaf_hv ⟨#[97]⟩ w hK (by decide)
theorem leafB {w : World} (hK : KIn w) : Calls Tryd.prog 12 #[.string ⟨#[98]⟩] w fun e w' => e = .returned (.agg (hv (leaf [98])).toArray) ∧ Below w.heap.size w w' := leaf_hv ⟨#[98]⟩ w hK (by decide)
theorem nodeAB {w : World} (hK : KIn w) : Calls Tryd.prog 13 #[.agg (hv (leaf [97])).toArray, .agg (hv (leaf [98])).toArray] w fun e w' => e = .returned (.agg (hv fab2).toArray) ∧ Below w.heap.size w w' := node_hv _ _ w hK
theorem holdA {w : World} (hK : KIn w) : Calls Tryd.prog 10 #[.agg (hv fa).toArray, .int .i64 1, .int .i64 0, .string ⟨#[]⟩, .slice none 0 0] w fun e w' => e = .returned (.bool true) ∧ Below w.heap.size w w' := by
  have h := holds_some fa 1 0 0 ⟨#[]⟩ none [] w hK (fun k x hk => by simp at hk) (by decide) (by omega) (by omega) (by simp) (by omega)
  have e : told fa 1 0 (leaf (⟨#[]⟩ : ByteArray).data.toList) [] = true := by rw [told_one fa 0 _ (by omega)]; exact eqb_self _
  rw [e] at h
  exact h
theorem holdB {w : World} (hK : KIn w) : Calls Tryd.prog 10 #[.agg (hv fb).toArray, .int .i64 1, .int .i64 0, .string ⟨#[]⟩, .slice none 0 0] w fun e w' => e = .returned (.bool false) ∧ Below w.heap.size w w' := by
  have h := holds_some fb 1 0 0 ⟨#[]⟩ none [] w hK (fun k x hk => by simp at hk) (by decide) (by omega) (by omega) (by simp) (by omega)
  have e : told fb 1 0 (leaf (⟨#[]⟩ : ByteArray).data.toList) [] = false := by rw [told_one fb 0 _ (by omega)]; exact fab
  rw [e] at h
  exact h
set_option maxHeartbeats 1000000 in
set_option maxRecDepth 8000 in
theorem first_any (w : World) (hK : KIn w) : Calls Tryd.prog 11 #[] w fun e w' => e = .returned (.bool true) ∧ Below w.heap.size w w' := by
  go_enter Tryd.func11, Tryd.ntmps11
  go_wp2_with fail
  refine (leaf_hv ⟨#[]⟩ w hK (by decide)).mono ?_
  rintro e w1 ⟨rfl, b1⟩
  have tn := there_new w1 23
  have hst := store_hv tn fa
  have eA : leaf (⟨#[]⟩ : ByteArray).data.toList = fa := rfl
  rw [eA]
  go_wp2_with fail
  obtain ⟨W1, hW1, bW1, rA⟩ : ∃ W, W = (w1.alloc (.cells zero32 23)).setCells w1.heap.size 0 (hv fa) ∧ Below w.heap.size w W ∧ W.rangeAt w1.heap.size 0 (hv fa) :=
    ⟨_, rfl, below_seq b1 (below_setCells (Nat.le_refl _) _ _ ((Below.refl _ _).alloc (Nat.le_refl _) _)), range_new tn fa⟩
  rw [← hW1]
  clear hW1 hst tn b1
  generalize w1.heap.size = A at *
  have ba : Below W1.heap.size W1 (W1.alloc (.cells #[.string ⟨#[]⟩, .string ⟨#[0]⟩] 9)) := (Below.refl _ _).alloc (Nat.le_refl _) _
  have k1 : KIn W1 := hK.seq bW1
  refine (root_some W1.heap.size 0 2 2 txt2 _ (k1.seq ba) (texts2 (heap_alloc_new _ _)) (fun k _ => txt2_size k) (by omega) (by omega)).mono ?_
  rintro e w2 ⟨rfl, b2⟩
  rw [root2]
  have b2' := below_seq ba b2
  have tn := there_new w2 23
  have hst := store_hv tn fb
  go_wp2_with fail
  obtain ⟨W2, hW2, bW2, rB⟩ : ∃ W, W = (w2.alloc (.cells zero32 23)).setCells w2.heap.size 0 (hv fb) ∧ Below W1.heap.size W1 W ∧ W.rangeAt w2.heap.size 0 (hv fb) :=
    ⟨_, rfl, below_seq b2' (below_setCells (Nat.le_refl _) _ _ ((Below.refl _ _).alloc (Nat.le_refl _) _)), range_new tn fb⟩
  rw [← hW2]
  clear hW2 hst tn b2 b2' ba
  generalize w2.heap.size = C at *
  have k2 : KIn W2 := k1.seq bW2
  have rA2 := rangeNext rA bW2
  have bb := below_seq bW1 bW2
  clear rA k1 bW1 bW2
  have ba : Below W2.heap.size W2 (W2.alloc (.cells #[.string ⟨#[97]⟩, .string ⟨#[98]⟩, .string ⟨#[99]⟩] 9)) := (Below.refl _ _).alloc (Nat.le_refl _) _
  refine (path_some W2.heap.size 0 3 3 2 txt3 _ (k2.seq ba) (texts3 (heap_alloc_new _ _)) (fun k _ => txt3_size k) (by omega) (by omega)).mono ?_
  rintro e w3 ⟨v, rfl, own, b3⟩
  rw [path3] at own
  obtain ⟨P, cp, rfl, hPb, rP⟩ := own_range own (k := 0) (x := fab2) rfl
  have b3' := below_seq ba b3
  have S0 : FS w w.heap.size A C P w3 := ⟨k2.seq b3', below_seq bb b3', rangeNext rA2 b3', rangeNext rB b3', by simpa using rP⟩
  clear own rP b3' b3 ba bb rA2 rB k2
  go_wp2_with fail
  refine (path_bad none 0 0 0 _ (Or.inr (by decide))).mono ?_
  rintro e wq ⟨rfl, rfl⟩
  have hB1 := S0.bel.size
  generalize hB : w.heap.size = B at *
  go_wp2_with fail
  have eqq := eqb_self fab2
  clear hPb eA
  rename_i K hKK
  have fin : ∀ (A0 : Act) (w8 : World), A0.tmps.getD 0 undef = .bool true → A0.defers = [] → FS w B A C P w8 → K A0 w8 := by
    intro A0 w8 h1 h2 S8
    have H : bodyPost Tryd.prog Tryd.f11 (fun e w' => e = .returned (.bool true) ∧ Below w.heap.size w w') Exit.ret A0 w8 :=
      bodyPost_ret (v := .bool true) (by rw [results_tmp Tryd.results11, h1]) h2 ⟨rfl, by rw [hB]; exact S8.bel⟩
    refine hKK A0 w8 ?_
    exact wp_ret H
  clear hKK
  refine wp_region_held_drew (S := fun w' => FS w B A C P w') (by kernel_rfl) (S0.step ((Below.refl _ _).drew) hB).1 (fun hHeld => ?_)
  clear S0
  refine wpAnyH_take (i := 0) (v := .pointer (some ⟨A, 0, none⟩)) rfl (by kernel_rfl) (by kernel_rfl) (by kernel_rfl) (fun _ _ _ h => h) (Or.inl ⟨by kernel_rfl, fun wz hz => by kernel_rfl⟩) hHeld ?_
  refine wpAnyH_take (i := 1) (v := .int .u8 110) rfl (by kernel_rfl) (by kernel_rfl) (by kernel_rfl) (fun _ _ _ h => h) (Or.inl ⟨by kernel_rfl, fun wz hz => exec_load rfl (p := .pointer (some ⟨A, 0, none⟩)) (by kernel_rfl) (load5 (hz.all.1.1))⟩) hHeld ?_
  refine wpAnyH_take (i := 2) (v := .bool true) rfl (by kernel_rfl) (by kernel_rfl) (by kernel_rfl) (fun _ _ _ h => h) (Or.inl ⟨by kernel_rfl, fun wz hz => by kernel_rfl⟩) hHeld ?_
  refine wpAnyH_take (i := 3) (v := .bool true) rfl (by kernel_rfl) (by kernel_rfl) (by kernel_rfl) (fun _ _ _ h => h) (Or.inl ⟨by kernel_rfl, fun wz hz => by kernel_rfl⟩) hHeld ?_
  refine wpAnyH_take (i := 4) (v := .pointer (some ⟨A, 1, none⟩)) rfl (by kernel_rfl) (by kernel_rfl) (by kernel_rfl) (fun _ _ _ h => h) (Or.inl ⟨by kernel_rfl, fun wz hz => by kernel_rfl⟩) hHeld ?_
  refine wpAnyH_take (i := 5) (v := .int .u8 52) rfl (by kernel_rfl) (by kernel_rfl) (by kernel_rfl) (fun _ _ _ h => h) (Or.inl ⟨by kernel_rfl, fun wz hz => exec_load rfl (p := .pointer (some ⟨A, 1, none⟩)) (by kernel_rfl) (load5 (hz.all.1.2.1))⟩) hHeld ?_
  refine wpAnyH_take (i := 6) (v := .bool true) rfl (by kernel_rfl) (by kernel_rfl) (by kernel_rfl) (fun _ _ _ h => h) (Or.inl ⟨by kernel_rfl, fun wz hz => by kernel_rfl⟩) hHeld ?_
  refine wpAnyH_take (i := 7) (v := .bool true) rfl (by kernel_rfl) (by kernel_rfl) (by kernel_rfl) (fun _ _ _ h => h) (Or.inl ⟨by kernel_rfl, fun wz hz => by kernel_rfl⟩) hHeld ?_
  refine wpAnyH_take (i := 8) (v := .bool true) rfl (by kernel_rfl) (by kernel_rfl) (by kernel_rfl) (fun _ _ _ h => h) (Or.inl ⟨by kernel_rfl, fun wz hz => by kernel_rfl⟩) hHeld ?_
  refine wpAnyH_take (i := 9) (v := .pointer (some ⟨A, 31, none⟩)) rfl (by kernel_rfl) (by kernel_rfl) (by kernel_rfl) (fun _ _ _ h => h) (Or.inl ⟨by kernel_rfl, fun wz hz => by kernel_rfl⟩) hHeld ?_
  refine wpAnyH_take (i := 10) (v := .int .u8 29) rfl (by kernel_rfl) (by kernel_rfl) (by kernel_rfl) (fun _ _ _ h => h) (Or.inl ⟨by kernel_rfl, fun wz hz => exec_load rfl (p := .pointer (some ⟨A, 31, none⟩)) (by kernel_rfl) (load5 (hz.all.1.2.2))⟩) hHeld ?_
  refine wpAnyH_take (i := 11) (v := .bool true) rfl (by kernel_rfl) (by kernel_rfl) (by kernel_rfl) (fun _ _ _ h => h) (Or.inl ⟨by kernel_rfl, fun wz hz => by kernel_rfl⟩) hHeld ?_
  refine wpAnyH_take (i := 12) (v := .bool true) rfl (by kernel_rfl) (by kernel_rfl) (by kernel_rfl) (fun _ _ _ h => h) (Or.inl ⟨by kernel_rfl, fun wz hz => by kernel_rfl⟩) hHeld ?_
  refine wpAnyH_take (i := 13) (v := .bool true) rfl (by kernel_rfl) (by kernel_rfl) (by kernel_rfl) (fun _ _ _ h => h) (Or.inl ⟨by kernel_rfl, fun wz hz => by kernel_rfl⟩) hHeld ?_
  refine wpAnyH_take (i := 14) (v := .pointer (some ⟨C, 0, none⟩)) rfl (by kernel_rfl) (by kernel_rfl) (by kernel_rfl) (fun _ _ _ h => h) (Or.inl ⟨by kernel_rfl, fun wz hz => by kernel_rfl⟩) hHeld ?_
  refine wpAnyH_take (i := 15) (v := .int .u8 250) rfl (by kernel_rfl) (by kernel_rfl) (by kernel_rfl) (fun _ _ _ h => h) (Or.inl ⟨by kernel_rfl, fun wz hz => exec_load rfl (p := .pointer (some ⟨C, 0, none⟩)) (by kernel_rfl) (load5 (hz.all.2.1.1))⟩) hHeld ?_
  refine wpAnyH_take (i := 16) (v := .bool true) rfl (by kernel_rfl) (by kernel_rfl) (by kernel_rfl) (fun _ _ _ h => h) (Or.inl ⟨by kernel_rfl, fun wz hz => by kernel_rfl⟩) hHeld ?_
  refine wpAnyH_take (i := 17) (v := .bool true) rfl (by kernel_rfl) (by kernel_rfl) (by kernel_rfl) (fun _ _ _ h => h) (Or.inl ⟨by kernel_rfl, fun wz hz => by kernel_rfl⟩) hHeld ?_
  refine wpAnyH_take (i := 18) (v := .bool true) rfl (by kernel_rfl) (by kernel_rfl) (by kernel_rfl) (fun _ _ _ h => h) (Or.inl ⟨by kernel_rfl, fun wz hz => by kernel_rfl⟩) hHeld ?_
  refine wpAnyH_take (i := 19) (v := .pointer (some ⟨C, 1, none⟩)) rfl (by kernel_rfl) (by kernel_rfl) (by kernel_rfl) (fun _ _ _ h => h) (Or.inl ⟨by kernel_rfl, fun wz hz => by kernel_rfl⟩) hHeld ?_
  refine wpAnyH_take (i := 20) (v := .int .u8 197) rfl (by kernel_rfl) (by kernel_rfl) (by kernel_rfl) (fun _ _ _ h => h) (Or.inl ⟨by kernel_rfl, fun wz hz => exec_load rfl (p := .pointer (some ⟨C, 1, none⟩)) (by kernel_rfl) (load5 (hz.all.2.1.2.1))⟩) hHeld ?_
  refine wpAnyH_take (i := 21) (v := .bool true) rfl (by kernel_rfl) (by kernel_rfl) (by kernel_rfl) (fun _ _ _ h => h) (Or.inl ⟨by kernel_rfl, fun wz hz => by kernel_rfl⟩) hHeld ?_
  refine wpAnyH_take (i := 22) (v := .bool true) rfl (by kernel_rfl) (by kernel_rfl) (by kernel_rfl) (fun _ _ _ h => h) (Or.inl ⟨by kernel_rfl, fun wz hz => by kernel_rfl⟩) hHeld ?_
  refine wpAnyH_take (i := 23) (v := .bool true) rfl (by kernel_rfl) (by kernel_rfl) (by kernel_rfl) (fun _ _ _ h => h) (Or.inl ⟨by kernel_rfl, fun wz hz => by kernel_rfl⟩) hHeld ?_
  refine wpAnyH_take (i := 24) (v := .pointer (some ⟨C, 31, none⟩)) rfl (by kernel_rfl) (by kernel_rfl) (by kernel_rfl) (fun _ _ _ h => h) (Or.inl ⟨by kernel_rfl, fun wz hz => by kernel_rfl⟩) hHeld ?_
  refine wpAnyH_take (i := 25) (v := .int .u8 37) rfl (by kernel_rfl) (by kernel_rfl) (by kernel_rfl) (fun _ _ _ h => h) (Or.inl ⟨by kernel_rfl, fun wz hz => exec_load rfl (p := .pointer (some ⟨C, 31, none⟩)) (by kernel_rfl) (load5 (hz.all.2.1.2.2))⟩) hHeld ?_
  refine wpAnyH_take (i := 26) (v := .bool true) rfl (by kernel_rfl) (by kernel_rfl) (by kernel_rfl) (fun _ _ _ h => h) (Or.inl ⟨by kernel_rfl, fun wz hz => by kernel_rfl⟩) hHeld ?_
  refine wpAnyH_take (i := 27) (v := .bool true) rfl (by kernel_rfl) (by kernel_rfl) (by kernel_rfl) (fun _ _ _ h => h) (Or.inl ⟨by kernel_rfl, fun wz hz => by kernel_rfl⟩) hHeld ?_
  refine wpAnyH_take (i := 28) (v := .bool true) rfl (by kernel_rfl) (by kernel_rfl) (by kernel_rfl) (fun _ _ _ h => h) (Or.inl ⟨by kernel_rfl, fun wz hz => by kernel_rfl⟩) hHeld ?_
  refine wpAnyH_take (i := 29) (v := .int .i64 0) rfl (by kernel_rfl) (by kernel_rfl) (by kernel_rfl) (fun _ _ _ h => h) (Or.inl ⟨by kernel_rfl, fun wz hz => by kernel_rfl⟩) hHeld ?_
  refine wpAnyH_take (i := 30) (v := .bool true) rfl (by kernel_rfl) (by kernel_rfl) (by kernel_rfl) (fun _ _ _ h => h) (Or.inl ⟨by kernel_rfl, fun wz hz => by kernel_rfl⟩) hHeld ?_
  refine wpAnyH_take (i := 31) (v := .bool true) rfl (by kernel_rfl) (by kernel_rfl) (by kernel_rfl) (fun _ _ _ h => h) (Or.inl ⟨by kernel_rfl, fun wz hz => by kernel_rfl⟩) hHeld ?_
  refine wpAnyH_take (i := 32) (v := .bool true) rfl (by kernel_rfl) (by kernel_rfl) (by kernel_rfl) (fun _ _ _ h => h) (Or.inl ⟨by kernel_rfl, fun wz hz => by kernel_rfl⟩) hHeld ?_
  refine wpAnyH_take (i := 33) (v := .int .i64 1) rfl (by kernel_rfl) (by kernel_rfl) (by kernel_rfl) (fun _ _ _ h => h) (Or.inl ⟨by kernel_rfl, fun wz hz => by kernel_rfl⟩) hHeld ?_
  refine wpAnyH_take (i := 34) (v := .bool true) rfl (by kernel_rfl) (by kernel_rfl) (by kernel_rfl) (fun _ _ _ h => h) (Or.inl ⟨by kernel_rfl, fun wz hz => by kernel_rfl⟩) hHeld ?_
  refine wpAnyH_take (i := 35) (v := .bool true) rfl (by kernel_rfl) (by kernel_rfl) (by kernel_rfl) (fun _ _ _ h => h) (Or.inl ⟨by kernel_rfl, fun wz hz => by kernel_rfl⟩) hHeld ?_
  refine wpAnyH_take (i := 36) (v := .bool true) rfl (by kernel_rfl) (by kernel_rfl) (by kernel_rfl) (fun _ _ _ h => h) (Or.inl ⟨by kernel_rfl, fun wz hz => by kernel_rfl⟩) hHeld ?_
  refine wpAnyH_take (i := 37) (v := .slice (some ⟨P, 0, none⟩) 1 cp) rfl (by kernel_rfl) (by kernel_rfl) (by kernel_rfl) (fun _ _ _ h => h) (Or.inl ⟨by kernel_rfl, fun wz hz => by kernel_rfl⟩) hHeld ?_
  refine wpAnyH_take (i := 38) (v := .int .i64 1) rfl (by kernel_rfl) (by kernel_rfl) (by kernel_rfl) (fun _ _ _ h => h) (Or.inl ⟨by kernel_rfl, fun wz hz => by kernel_rfl⟩) hHeld ?_
  refine wpAnyH_take (i := 39) (v := .bool true) rfl (by kernel_rfl) (by kernel_rfl) (by kernel_rfl) (fun _ _ _ h => h) (Or.inl ⟨by kernel_rfl, fun wz hz => by kernel_rfl⟩) hHeld ?_
  refine wpAnyH_take (i := 40) (v := .bool true) rfl (by kernel_rfl) (by kernel_rfl) (by kernel_rfl) (fun _ _ _ h => h) (Or.inl ⟨by kernel_rfl, fun wz hz => by kernel_rfl⟩) hHeld ?_
  refine wpAnyH_take (i := 41) (v := .bool true) rfl (by kernel_rfl) (by kernel_rfl) (by kernel_rfl) (fun _ _ _ h => h) (Or.inl ⟨by kernel_rfl, fun wz hz => by kernel_rfl⟩) hHeld ?_
  refine wpAnyH_take (i := 42) (v := .slice (some ⟨P, 0, none⟩) 1 cp) rfl (by kernel_rfl) (by kernel_rfl) (by kernel_rfl) (fun _ _ _ h => h) (Or.inl ⟨by kernel_rfl, fun wz hz => by kernel_rfl⟩) hHeld ?_
  refine wpAnyH_take (i := 43) (v := .pointer (some ⟨P, 0, none⟩)) rfl (by kernel_rfl) (by kernel_rfl) (by kernel_rfl) (fun _ _ _ h => h) (Or.inl ⟨by kernel_rfl, fun wz hz => by kernel_rfl⟩) hHeld ?_
  refine wpAnyH_take (i := 44) (v := .agg (hv fab2).toArray) rfl (by kernel_rfl) (by kernel_rfl) (by kernel_rfl) (fun _ _ _ h => h) (Or.inl ⟨by kernel_rfl, fun wz hz => exec_load rfl (p := .pointer (some ⟨P, 0, none⟩)) (by kernel_rfl) (hz.all.2.2.2.2)⟩) hHeld ?_
  try simp only [Act.put, List.setIfInBounds_toArray, List.set_cons_zero, List.set_cons_succ]
  refine wpAnyH_ready (rs := [45]) (by kernel_rfl) (by simp) ?_
  refine AllReadyH.cons rfl (fun K' hK' => ?_) AllReadyH.nil
  go_simp
  refine (leafA hHeld.k).mono ?_
  rintro e w145 ⟨rfl, bq⟩
  have S45 := (FS.step hHeld bq hB).1
  clear hHeld bq
  refine hK'.out _ _ S45 (fun hHeld => ?_)
  clear hK' K' S45
  try simp only [Act.put, List.setIfInBounds_toArray, List.set_cons_zero, List.set_cons_succ]
  refine wpAnyH_ready (rs := [46]) (by kernel_rfl) (by simp) ?_
  refine AllReadyH.cons rfl (fun K' hK' => ?_) AllReadyH.nil
  go_simp
  refine (leafB hHeld.k).mono ?_
  rintro e w146 ⟨rfl, bq⟩
  have S46 := (FS.step hHeld bq hB).1
  clear hHeld bq
  refine hK'.out _ _ S46 (fun hHeld => ?_)
  clear hK' K' S46
  try simp only [Act.put, List.setIfInBounds_toArray, List.set_cons_zero, List.set_cons_succ]
  refine wpAnyH_ready (rs := [47]) (by kernel_rfl) (by simp) ?_
  refine AllReadyH.cons rfl (fun K' hK' => ?_) AllReadyH.nil
  go_simp
  refine (nodeAB hHeld.k).mono ?_
  rintro e w147 ⟨rfl, bq⟩
  have S47 := (FS.step hHeld bq hB).1
  clear hHeld bq
  refine hK'.out _ _ S47 (fun hHeld => ?_)
  clear hK' K' S47
  refine wpAnyH_take (i := 48) (v := .bool true) rfl (by kernel_rfl) (by kernel_rfl) (by kernel_rfl) (fun _ _ _ h => h) (Or.inl ⟨by kernel_rfl, fun wz hz => by have q1 := eqH fab2 fab2 wz; rw [eqq] at q1; go_simp⟩) hHeld ?_
  refine wpAnyH_take (i := 49) (v := .bool true) rfl (by kernel_rfl) (by kernel_rfl) (by kernel_rfl) (fun _ _ _ h => h) (Or.inl ⟨by kernel_rfl, fun wz hz => by kernel_rfl⟩) hHeld ?_
  refine wpAnyH_take (i := 50) (v := .bool true) rfl (by kernel_rfl) (by kernel_rfl) (by kernel_rfl) (fun _ _ _ h => h) (Or.inl ⟨by kernel_rfl, fun wz hz => by kernel_rfl⟩) hHeld ?_
  refine wpAnyH_take (i := 51) (v := .agg (hv fa).toArray) rfl (by kernel_rfl) (by kernel_rfl) (by kernel_rfl) (fun _ _ _ h => h) (Or.inl ⟨by kernel_rfl, fun wz hz => exec_load rfl (p := .pointer (some ⟨A, 0, none⟩)) (by kernel_rfl) (hz.all.2.2.1)⟩) hHeld ?_
  try simp only [Act.put, List.setIfInBounds_toArray, List.set_cons_zero, List.set_cons_succ]
  refine wpAnyH_ready (rs := [52]) (by kernel_rfl) (by simp) ?_
  refine AllReadyH.cons rfl (fun K' hK' => ?_) AllReadyH.nil
  go_simp
  refine (holdA hHeld.k).mono ?_
  rintro e w152 ⟨rfl, bq⟩
  have S52 := (FS.step hHeld bq hB).1
  clear hHeld bq
  refine hK'.out _ _ S52 (fun hHeld => ?_)
  clear hK' K' S52
  refine wpAnyH_take (i := 53) (v := .bool true) rfl (by kernel_rfl) (by kernel_rfl) (by kernel_rfl) (fun _ _ _ h => h) (Or.inl ⟨by kernel_rfl, fun wz hz => by kernel_rfl⟩) hHeld ?_
  refine wpAnyH_take (i := 54) (v := .bool true) rfl (by kernel_rfl) (by kernel_rfl) (by kernel_rfl) (fun _ _ _ h => h) (Or.inl ⟨by kernel_rfl, fun wz hz => by kernel_rfl⟩) hHeld ?_
  refine wpAnyH_take (i := 55) (v := .agg (hv fb).toArray) rfl (by kernel_rfl) (by kernel_rfl) (by kernel_rfl) (fun _ _ _ h => h) (Or.inl ⟨by kernel_rfl, fun wz hz => exec_load rfl (p := .pointer (some ⟨C, 0, none⟩)) (by kernel_rfl) (hz.all.2.2.2.1)⟩) hHeld ?_
  try simp only [Act.put, List.setIfInBounds_toArray, List.set_cons_zero, List.set_cons_succ]
  refine wpAnyH_ready (rs := [56]) (by kernel_rfl) (by simp) ?_
  refine AllReadyH.cons rfl (fun K' hK' => ?_) AllReadyH.nil
  go_simp
  refine (holdB hHeld.k).mono ?_
  rintro e w156 ⟨rfl, bq⟩
  have S56 := (FS.step hHeld bq hB).1
  clear hHeld bq
  refine hK'.out _ _ S56 (fun hHeld => ?_)
  clear hK' K' S56
  refine wpAnyH_take (i := 57) (v := .bool true) rfl (by kernel_rfl) (by kernel_rfl) (by kernel_rfl) (fun _ _ _ h => h) (Or.inl ⟨by kernel_rfl, fun wz hz => by kernel_rfl⟩) hHeld ?_
  refine wpAnyH_take (i := 58) (v := .bool true) rfl (by kernel_rfl) (by kernel_rfl) (by kernel_rfl) (fun _ _ _ h => h) (Or.inl ⟨by kernel_rfl, fun wz hz => by kernel_rfl⟩) hHeld ?_
  refine wpAnyH_take (i := 59) (v := .bool true) rfl (by kernel_rfl) (by kernel_rfl) (by kernel_rfl) (fun _ _ _ h => h) (Or.inl ⟨by kernel_rfl, fun wz hz => by kernel_rfl⟩) hHeld ?_
  refine wpAnyH_done (by kernel_rfl) ?_ _
  exact fin _ _ (by kernel_rfl) (by kernel_rfl) hHeld
end Go.Proofs.YtlpiokepagkahaaDoor
