/- The reader's numbers: strconv.ParseInt. -/
import Derived.Test.YtkkhmlcnfnaadaaGreatDoorMVl
import Derived.Lib.AtoiErrMem
namespace Go.Proofs.YtkkhmlcnfnaadaaGreatDoor
set_option maxRecDepth 100000
set_option linter.unusedVariables false
set_option linter.unusedSimpArgs false
open Go.RowKit
open Go.Proofs.YtkkhmlcnfnaadaaGreatDoorP (TB recd nn LEN key Rd RdAt)
attribute [local go_sem ↓] Go.wp_at_zero Go.wp_at_succ
/-- the two errors' variables hold something -/
structure EG (w : World) : Prop where
  s : ∃ t p, w.cell? ⟨3, 0, none⟩ = some (.iface t p)
  r : ∃ t p, w.cell? ⟨4, 0, none⟩ = some (.iface t p)
theorem EG.below {w w' : World} (h : EG w) (b : Below w.heap.size w w') : EG w' := by
  obtain ⟨t, p, h1⟩ := h.s
  obtain ⟨t', p', h2⟩ := h.r
  exact ⟨⟨t, p, (b.cell (p := ⟨3, 0, none⟩) (block_lt_of_cell h1)).trans h1⟩, ⟨t', p', (b.cell (p := ⟨4, 0, none⟩) (block_lt_of_cell h2)).trans h2⟩⟩
theorem clone_str (s : List UInt8) (w : World) (h : s.length ≤ 281474976710656) : Calls Tryz.prog 147 #[str s] w fun e w' => e = .returned (str s) ∧ Below w.heap.size w w' := Tryz.stringslite_Clone ⟨s.toArray⟩ w (by rw [str_size]; exact h)
set_option maxHeartbeats 2000000 in
theorem synErr_any (f s : List UInt8) (w : World) (h : s.length ≤ 281474976710656) (hE : EG w) :
    Calls Tryz.prog 149 #[str f, str s] w fun e w' => ∃ N, e = .returned (.pointer (some ⟨N, 0, none⟩)) ∧ Below w.heap.size w w' := by
  obtain ⟨t, p, hc⟩ := hE.s
  have hcl := clone_str s w.drew h
  have hlt := block_lt_of_cell hc
  have XC : Hid (∀ w', Below w.heap.size w w' → Below w.heap.size w w' ∧ w'.cell? ⟨3, 0, none⟩ = some (.iface t p)) := ⟨fun w' b => ⟨b, (b.cell (p := ⟨3, 0, none⟩) hlt).trans hc⟩⟩
  go_enter Tryz.func149, Tryz.ntmps149
  go_upto_region 1 with fail
  go_region_held3 (fun w' => Below w.heap.size w w' ∧ w'.cell? ⟨3, 0, none⟩ = some (.iface t p)) (first
    | exact XC.out _ (Below.refl _ _).drew
    | exact XC.out _ (below_seq (Below.refl _ _).drew b1)
    | exact XC.out _ ((below_seq (Below.refl _ _).drew b1).alloc (below_seq (Below.refl _ _).drew b1).size _)) ((go_at_call 147; with_reducible refine Calls.mono hcl ?_; rintro e w1 ⟨rfl, b1⟩))
  all_goals (go_wp2_with fail)
  all_goals go_ret
  all_goals exact ⟨_, rfl, And.left (by assumption)⟩
set_option maxHeartbeats 2000000 in
theorem rngErr_any (f s : List UInt8) (w : World) (h : s.length ≤ 281474976710656) (hE : EG w) :
    Calls Tryz.prog 150 #[str f, str s] w fun e w' => ∃ N, e = .returned (.pointer (some ⟨N, 0, none⟩)) ∧ Below w.heap.size w w' := by
  obtain ⟨t, p, hc⟩ := hE.r
  have hcl := clone_str s w.drew h
  have hlt := block_lt_of_cell hc
  have XC : Hid (∀ w', Below w.heap.size w w' → Below w.heap.size w w' ∧ w'.cell? ⟨4, 0, none⟩ = some (.iface t p)) := ⟨fun w' b => ⟨b, (b.cell (p := ⟨4, 0, none⟩) hlt).trans hc⟩⟩
  go_enter Tryz.func150, Tryz.ntmps150
  go_upto_region 1 with fail
  go_region_held3 (fun w' => Below w.heap.size w w' ∧ w'.cell? ⟨4, 0, none⟩ = some (.iface t p)) (first
    | exact XC.out _ (Below.refl _ _).drew
    | exact XC.out _ (below_seq (Below.refl _ _).drew b1)
    | exact XC.out _ ((below_seq (Below.refl _ _).drew b1).alloc (below_seq (Below.refl _ _).drew b1).size _)) ((go_at_call 147; with_reducible refine Calls.mono hcl ?_; rintro e w1 ⟨rfl, b1⟩))
  all_goals (go_wp2_with fail)
  all_goals go_ret
  all_goals exact ⟨_, rfl, And.left (by assumption)⟩
theorem toErr_syn (f s : List UInt8) (b z : Int) (w : World) (h : s.length ≤ 281474976710656) (hE : EG w) :
    Calls Tryz.prog 118 #[str f, str s, .int .i64 b, .int .i64 z, .iface 189 (.int .i64 2)] w fun e w' => ∃ t v, e = .returned (.iface t v) ∧ Below w.heap.size w w' := by
  have hs := synErr_any f s w h hE
  have hq22 : ∀ W, (binOp .eql 77 (.iface 189 (.int .i64 2)) (.iface 189 (.int .i64 2))).run Tryz.prog W = .ok (.bool true) W := fun W => Lib.run_eql_iface_int W 2 2 Tryz.underlying77 (by kernel_rfl) Tryz.underlying189
  go_enter Tryz.func118, Tryz.ntmps118
  go_wp2_with fail
  with_reducible refine Calls.mono hs ?_
  rintro e w1 ⟨N, rfl, b1⟩
  dsimp only
  go_wp2_with fail
  go_ret
  exact ⟨_, _, rfl, b1⟩
theorem toErr_rng (f s : List UInt8) (b z : Int) (w : World) (h : s.length ≤ 281474976710656) (hE : EG w) :
    Calls Tryz.prog 118 #[str f, str s, .int .i64 b, .int .i64 z, .iface 189 (.int .i64 1)] w fun e w' => ∃ t v, e = .returned (.iface t v) ∧ Below w.heap.size w w' := by
  have hs := rngErr_any f s w h hE
  have hq12 : ∀ W, (binOp .eql 77 (.iface 189 (.int .i64 1)) (.iface 189 (.int .i64 2))).run Tryz.prog W = .ok (.bool false) W := fun W => Lib.run_eql_iface_int W 1 2 Tryz.underlying77 (by kernel_rfl) Tryz.underlying189
  have hq11 : ∀ W, (binOp .eql 77 (.iface 189 (.int .i64 1)) (.iface 189 (.int .i64 1))).run Tryz.prog W = .ok (.bool true) W := fun W => Lib.run_eql_iface_int W 1 1 Tryz.underlying77 (by kernel_rfl) Tryz.underlying189
  go_enter Tryz.func118, Tryz.ntmps118
  go_wp2_with fail
  with_reducible refine Calls.mono hs ?_
  rintro e w1 ⟨N, rfl, b1⟩
  dsimp only
  go_wp2_with fail
  go_ret
  exact ⟨_, _, rfl, b1⟩
theorem parseInt_any (s : List UInt8) (w : World) (h : s.length ≤ 281474976710656) (hE : EG w) :
    Calls Tryz.prog 91 #[str s, .int .i64 10, .int .i64 64] w fun e w' => ∃ v, e = .returned (.tuple #[.int .i64 (numV s), v]) ∧ Below w.heap.size w w' := by
  have hp := Tryz.internal_strconv_ParseInt_10_all64 ⟨s.toArray⟩ (by rw [str_size]; omega) w
  have hp : Calls Tryz.prog 117 #[str s, .int .i64 10, .int .i64 64] w fun e w' => e = .returned (Lib.intTuple 189 (Lib.intSat 64 s) (Lib.parseIntB 64 s)) ∧ Below w.heap.size w w' := by
    refine hp.mono ?_
    rintro e w' ⟨rfl, q⟩
    refine ⟨rfl, ?_⟩
    rcases q with rfl | ⟨t, rfl⟩
    · exact Below.refl _ _
    · exact Lib.bytesWorld_below _ _ _
  unfold numV
  cases hq : Lib.parseIntB 64 s with
  | ok v =>
    rw [hq] at hp
    clear hq
    go_enter Tryz.func91, Tryz.ntmps91
    go_wp2_with fail
    with_reducible refine Calls.mono hp ?_
    rintro e w1 ⟨rfl, b1⟩
    dsimp only [Lib.intTuple]
    go_wp2_with fail
    refine bodyPost_ret (results_tmp2 rfl _ _ _) rfl ?_
    exact ⟨_, rfl, b1⟩
  | «syntax» =>
    rw [hq] at hp
    clear hq
    go_enter Tryz.func91, Tryz.ntmps91
    go_wp2_with fail
    with_reducible refine Calls.mono hp ?_
    rintro e w1 ⟨rfl, b1⟩
    dsimp only [Lib.intTuple]
    have ht := toErr_syn [80, 97, 114, 115, 101, 73, 110, 116] s 10 64 w1 h (hE.below b1)
    go_wp2_with fail
    refine Calls.mono ht ?_
    rintro e w2 ⟨t, v, rfl, b2⟩
    dsimp only
    go_wp2_with fail
    refine bodyPost_ret (results_tmp2 rfl _ _ _) rfl ?_
    exact ⟨_, rfl, below_seq b1 b2⟩
  | range =>
    rw [hq] at hp
    clear hq
    generalize Lib.intSat 64 s = sat at *
    go_enter Tryz.func91, Tryz.ntmps91
    go_wp2_with fail
    with_reducible refine Calls.mono hp ?_
    rintro e w1 ⟨rfl, b1⟩
    dsimp only [Lib.intTuple]
    have ht := toErr_rng [80, 97, 114, 115, 101, 73, 110, 116] s 10 64 w1 h (hE.below b1)
    go_wp2_with fail
    refine Calls.mono ht ?_
    rintro e w2 ⟨t, v, rfl, b2⟩
    dsimp only
    go_wp2_with fail
    refine bodyPost_ret (results_tmp2 rfl _ _ _) rfl ?_
    exact ⟨_, rfl, below_seq b1 b2⟩
theorem valFlen {b k : List UInt8} {s : Rs} : (valF b k s).1.length ≤ 1048576 := by
  unfold valF
  split
  · simp
  · split
    · rename_i q n hq
      split
      · exact (kv_len (rdFat hq).1.small).2
      · simp
    · simp
theorem number_any (b k : List UInt8) (s : Rs) (g : Nat) (w0 w : World) (hR : Rx w g b s) (hs : s.1 ≤ b.length) (hbl : b.length ≤ 4611686018427387904) (hB : Below w0.heap.size w0 w) (hg : w0.heap.size ≤ g) (hT : TB w0) (hE : EG w0) :
    Calls Tryz.prog 59 #[.pointer (some ⟨g, 0, none⟩), str k] w fun e w' => e = .returned (.int .i64 (numF b k s).1) ∧ RP g b (numF b k s).2 w w' := by
  have hv := value_any b k s g w0 w hR hs hbl hB hT
  go_enter Tryz.func59, Tryz.ntmps59
  go_wp2_with fail
  with_reducible refine Calls.mono hv ?_
  rintro e w1 ⟨rfl, r1⟩
  dsimp only
  have hp := parseInt_any (valF b k s).1 w1 (Nat.le_trans valFlen (by decide)) (hE.below (r1.bel hB hg))
  go_wp2_with fail
  with_reducible refine Calls.mono hp ?_
  rintro e w2 ⟨v, rfl, b2⟩
  dsimp only
  go_wp2_with fail
  go_ret
  exact ⟨rfl, r1.later b2⟩
end Go.Proofs.YtkkhmlcnfnaadaaGreatDoor
