import Derived.Test.YtdfjlmfnkhhnjaaGreatDoorHa
import Derived.Test.YtdfjlmfnkhhnjaaGreatDoorMrd
import Derived.Shelf.Strconv.ParseInt10All
import Derived.Lib.AtoiErrMem
/- The reader: value and number. -/
namespace Go.Proofs.YtdfjlmfnkhhnjaaGreatDoor
set_option maxRecDepth 100000
set_option linter.unusedVariables false
set_option linter.unusedSimpArgs false
open Go.RowKit
open Go.Proofs.YtdfjlmfnkhhnjaaGreatDoorP (TB recd nn LEN key Rd RdAt)
attribute [local go_sem ↓] Go.wp_at_zero Go.wp_at_succ
theorem str_data (a : ByteArray) : str a.data.toList = .string a := by simp [str]
theorem rd_link {l : List UInt8} {p : Nat} {k v : List UInt8} {n er : Int} (h : RdAt l (p : Int) k v n er) (hp : p ≤ l.length) : (er = 0 ∧ ∃ m : Nat, n = m ∧ rdF l p = some ((k, v), m)) ∨ ((er == 0) = false ∧ k = [] ∧ v = [] ∧ n = 0 ∧ rdF l p = none) := by
  rcases Nat.lt_or_ge p l.length with q | q
  · rcases h.at' (by omega) (by omega) with ⟨e, hr, hn⟩ | ⟨e, h1, h2, h3, hno⟩
    · rw [Int.toNat_natCast] at hr
      exact .inl ⟨e, p + LEN (nn k v), by rw [hn]; omega, rdFsome hr⟩
    · rw [Int.toNat_natCast] at hno
      exact .inr ⟨by rw [e]; rfl, h1, h2, h3, rdFnone hno⟩
  · obtain ⟨h1, h2, h3, h4⟩ := h.none (by omega)
    refine .inr ⟨by rw [h4]; rfl, h1, h2, h3, rdFnone fun x y hr => ?_⟩
    rw [List.drop_of_length_le q] at hr
    obtain ⟨r, e⟩ := hr.pre
    exact recd_ne x y (List.append_eq_nil_iff.1 e.symm).1
def Rx (w : World) (g : Nat) (b : List UInt8) (s : Rs) : Prop := w.heap[g]? = some (.cells #[str b, .int .i64 (s.1 : Int), .bool s.2] 79 (0, 0))
theorem Rx.cells {w : World} {g : Nat} {b : List UInt8} {s : Rs} (h : Rx w g b s) : w.cell? ⟨g, 0, none⟩ = some (str b) ∧ w.cell? ⟨g, 1, none⟩ = some (.int .i64 (s.1 : Int)) ∧ w.cell? ⟨g, 2, none⟩ = some (.bool s.2) ∧ ∀ j, w.frozen? ⟨g, j, none⟩ = false := by
  refine ⟨by rw [cell_of_row _ _ _ _ _ _ h]; rfl, by rw [cell_of_row _ _ _ _ _ _ h]; rfl, by rw [cell_of_row _ _ _ _ _ _ h]; rfl, fun j => ?_⟩
  exact frozen_of_row _ _ _ _ _ h
theorem Rx.lt {w : World} {g : Nat} {b : List UInt8} {s : Rs} (h : Rx w g b s) : g < w.heap.size := lt_of_block h
theorem Rx.later {w w' : World} {g : Nat} {b : List UInt8} {s : Rs} (h : Rx w g b s) (hb : Below w.heap.size w w') : Rx w' g b s := by
  unfold Rx
  rw [hb.block g h.lt]; exact h
structure RP (g : Nat) (b : List UInt8) (s : Rs) (w w' : World) : Prop where
  rx : Rx w' g b s
  oth : Oth (fun x => x = g) w w'
theorem RP.bel {g : Nat} {b : List UInt8} {s : Rs} {w0 w w' : World} (h : RP g b s w w') (hb : Below w0.heap.size w0 w) (hg : w0.heap.size ≤ g) : Below w0.heap.size w0 w' :=
  hb.trans ⟨h.oth.os, h.oth.tape, h.oth.output, h.oth.size, fun k hk => h.oth.block k (by have := hb.size; omega) (fun q => by omega)⟩
theorem RP.trans {g : Nat} {b : List UInt8} {s s' : Rs} {w w' w2 : World} (h : RP g b s w w') (h2 : RP g b s' w' w2) : RP g b s' w w2 :=
  ⟨h2.rx, ⟨h2.oth.os.trans h.oth.os, h2.oth.tape.trans h.oth.tape, h2.oth.output.trans h.oth.output, Nat.le_trans h.oth.size h2.oth.size, fun k hk hn => (h2.oth.block k (by have := h.oth.size; omega) hn).trans (h.oth.block k hk hn)⟩⟩
theorem RP.later {g : Nat} {b : List UInt8} {s : Rs} {w w' w2 : World} (h : RP g b s w w') (hb : Below w'.heap.size w' w2) : RP g b s w w2 := h.trans ⟨h.rx.later hb, Oth.of_below hb⟩
theorem RP.refl {g : Nat} {b : List UInt8} {s : Rs} {w : World} (h : Rx w g b s) : RP g b s w w := ⟨h, Oth.of_below (Below.refl _ _)⟩
theorem oth_set {g j : Nat} {w w' : World} {v : Value} (hb : Below w.heap.size w w') : Oth (fun x => x = g) w (w'.setCell ⟨g, j, none⟩ v) := by
  refine ⟨hb.os, hb.tape, hb.output, by simpa using hb.size, fun k hk hn => ?_⟩
  rw [hso _ _ (by omega), hb.block k hk]
theorem valFle {b k : List UInt8} {s : Rs} (h : s.1 ≤ b.length) : (valF b k s).2.1 ≤ b.length := by
  unfold valF
  split
  · exact h
  · split
    · rename_i q n hq
      have := (rdFat hq).2.2.2
      split
      · exact this
      · exact h
    · exact h
theorem rd_any (b : List UInt8) (p : Nat) (hp : p ≤ b.length) (hbl : b.length ≤ 4611686018427387904) (w : World) (hT : TB w) :
    Calls Tryz.prog 103 #[str b, .int .i64 (p : Int)] w fun e w' => ∃ (kl vl : List UInt8) (n er : Int), e = .returned (.tuple #[str kl, str vl, .int .i64 n, .int .i64 er]) ∧ RdAt b (p : Int) kl vl n er ∧ Below w.heap.size w w' := by
  refine (Go.Proofs.YtdfjlmfnkhhnjaaGreatDoorP.read_any ⟨b.toArray⟩ (p : Int) (by rw [str_size]; exact hbl) (by omega) w hT).mono ?_
  intro e w' h
  obtain ⟨kk, vv, n, er, e1, e2, e3⟩ := h
  exact ⟨kk.data.toList, vv.data.toList, n, er, by rw [e1, str_data, str_data], e2, e3⟩
set_option maxHeartbeats 4000000 in
theorem value_any (b k : List UInt8) (s : Rs) (g : Nat) (w0 w : World) (hR : Rx w g b s) (hs : s.1 ≤ b.length) (hbl : b.length ≤ 4611686018427387904) (hB : Below w0.heap.size w0 w) (hT : TB w0) :
    Calls Tryz.prog 59 #[.pointer (some ⟨g, 0, none⟩), str k] w fun e w' => e = .returned (str (valF b k s).1) ∧ RP g b (valF b k s).2 w w' := by
  obtain ⟨p, bad⟩ := s
  obtain ⟨c0, c1, c2, cf⟩ := hR.cells
  dsimp only at c1 c2 hs
  cases bad with
  | true =>
    have hv : valF b k (p, true) = ([], (p, true)) := by unfold valF; rw [if_pos rfl]
    rw [hv]
    go_enter Tryz.func59, Tryz.ntmps59
    go_wp2_with fail
    go_ret
    exact ⟨rfl, RP.refl hR⟩
  | false =>
    have hrd := rd_any b p hs hbl w.drew (hT.below hB.drew)
    have HRx := Hid.mk hR
    have XC : Hid (∀ w', Below w.heap.size w w' → Below w.heap.size w w' ∧ w'.cell? ⟨g, 0, none⟩ = some (str b) ∧ w'.cell? ⟨g, 1, none⟩ = some (.int .i64 (p : Int))) := ⟨fun w' h => by
      obtain ⟨t0, t1, t2, _⟩ := (HRx.out.later h).cells
      exact ⟨h, t0, t1⟩⟩
    clear hR cf
    go_enter Tryz.func59, Tryz.ntmps59
    go_upto_region 3 with fail
    clear c0 c1 c2
    go_region_held3 (fun w' => Below w.heap.size w w' ∧ w'.cell? ⟨g, 0, none⟩ = some (str b) ∧ w'.cell? ⟨g, 1, none⟩ = some (.int .i64 (p : Int))) (first
      | exact XC.out _ (Below.refl _ _).drew
      | exact XC.out _ (below_seq (Below.refl _ _).drew b1)) ((go_at_call 103; with_reducible refine Calls.mono hrd ?_; rintro e w1 ⟨kl, vl, n, er, rfl, hat', b1⟩))
    have HB1 : Hid (Below w.heap.size w w1) := ⟨And.left (by assumption)⟩
    clear b1 XC hrd
    obtain ⟨t0, t1, t2, tf⟩ := (HRx.out.later HB1.out).cells
    have tf1 := tf 1
    have tf2 := tf 2
    rcases rd_link hat' hs with ⟨rfl, m, rfl, hf⟩ | ⟨h1, rfl, rfl, rfl, hf⟩
    · by_cases hk : kl = k
      · have d1 : (kl == k) = true := by rw [hk]; simp
        have d2 : (kl != k) = false := by rw [hk]; simp
        have hv : valF b k (p, false) = (vl, (m, false)) := by
          unfold valF
          rw [if_neg (show ¬ (false = true) from Bool.false_ne_true), hf]
          simp only
          rw [if_pos hk]
        have HV := Hid.mk hv
        have hfin : Hid (RP g b (m, false) w (w1.setCell ⟨g, 1, none⟩ (.int .i64 (m : Int)))) := ⟨⟨by unfold Rx; rw [heap_setCell_same _ _ _ _ _ _ (HRx.out.later HB1.out)]; rfl, oth_set HB1.out⟩⟩
        clear hk hf hv hat'
        go_wp2_with fail
        go_ret
        exact ⟨by rw [HV.out]; rfl, by rw [HV.out]; exact hfin.out⟩
      · have d1 : (kl == k) = false := beq_eq_false_iff_ne.2 hk
        have d2 : (kl != k) = true := by rw [bne, d1]; rfl
        have hv : valF b k (p, false) = ([], (p, true)) := by
          unfold valF
          rw [if_neg (show ¬ (false = true) from Bool.false_ne_true), hf]
          simp only
          rw [if_neg hk]
        have HV := Hid.mk hv
        have hfin : Hid (RP g b (p, true) w (w1.setCell ⟨g, 2, none⟩ (.bool true))) := ⟨⟨by unfold Rx; rw [heap_setCell_same _ _ _ _ _ _ (HRx.out.later HB1.out)]; rfl, oth_set HB1.out⟩⟩
        clear hk hf hv hat'
        go_wp2_with fail
        go_ret
        exact ⟨by rw [HV.out]; rfl, by rw [HV.out]; exact hfin.out⟩
    · have hv : valF b k (p, false) = ([], (p, true)) := by
        unfold valF
        rw [if_neg (show ¬ (false = true) from Bool.false_ne_true), hf]
      have HV := Hid.mk hv
      have hfin : Hid (RP g b (p, true) w (w1.setCell ⟨g, 2, none⟩ (.bool true))) := ⟨⟨by unfold Rx; rw [heap_setCell_same _ _ _ _ _ _ (HRx.out.later HB1.out)]; rfl, oth_set HB1.out⟩⟩
      have h2 : (er != 0) = true := by rw [bne, h1]; rfl
      clear hf hv hat'
      go_wp2_with fail
      go_ret
      exact ⟨by rw [HV.out]; rfl, by rw [HV.out]; exact hfin.out⟩
end Go.Proofs.YtdfjlmfnkhhnjaaGreatDoor
/- The reader's numbers: strconv.ParseInt. -/
namespace Go.Proofs.YtdfjlmfnkhhnjaaGreatDoor
set_option maxRecDepth 100000
set_option linter.unusedVariables false
set_option linter.unusedSimpArgs false
open Go.RowKit
open Go.Proofs.YtdfjlmfnkhhnjaaGreatDoorP (TB recd nn LEN key Rd RdAt)
attribute [local go_sem ↓] Go.wp_at_zero Go.wp_at_succ
structure EG (w : World) : Prop where
  s : ∃ t p, w.cell? ⟨3, 0, none⟩ = some (.iface t p)
  r : ∃ t p, w.cell? ⟨4, 0, none⟩ = some (.iface t p)
theorem EG.below {w w' : World} (h : EG w) (b : Below w.heap.size w w') : EG w' := by
  obtain ⟨t, p, h1⟩ := h.s
  obtain ⟨t', p', h2⟩ := h.r
  exact ⟨⟨t, p, (b.cell (p := ⟨3, 0, none⟩) (block_lt_of_cell h1)).trans h1⟩, ⟨t', p', (b.cell (p := ⟨4, 0, none⟩) (block_lt_of_cell h2)).trans h2⟩⟩
theorem clone_str (s : List UInt8) (w : World) (h : s.length ≤ 281474976710656) : Calls Tryz.prog 161 #[str s] w fun e w' => e = .returned (str s) ∧ Below w.heap.size w w' := Tryz.stringslite_Clone ⟨s.toArray⟩ w (by rw [str_size]; exact h)
set_option maxHeartbeats 2000000 in
theorem synErr_any (f s : List UInt8) (w : World) (h : s.length ≤ 281474976710656) (hE : EG w) :
    Calls Tryz.prog 193 #[str f, str s] w fun e w' => ∃ N, e = .returned (.pointer (some ⟨N, 0, none⟩)) ∧ Below w.heap.size w w' := by
  obtain ⟨t, p, hc⟩ := hE.s
  have hcl := clone_str s w.drew h
  have hlt := block_lt_of_cell hc
  have XC : Hid (∀ w', Below w.heap.size w w' → Below w.heap.size w w' ∧ w'.cell? ⟨3, 0, none⟩ = some (.iface t p)) := ⟨fun w' b => ⟨b, (b.cell (p := ⟨3, 0, none⟩) hlt).trans hc⟩⟩
  go_enter Tryz.func193, Tryz.ntmps193
  go_upto_region 1 with fail
  go_region_held3 (fun w' => Below w.heap.size w w' ∧ w'.cell? ⟨3, 0, none⟩ = some (.iface t p)) (first
    | exact XC.out _ (Below.refl _ _).drew
    | exact XC.out _ (below_seq (Below.refl _ _).drew b1)
    | exact XC.out _ ((below_seq (Below.refl _ _).drew b1).alloc (below_seq (Below.refl _ _).drew b1).size _)) ((go_at_call 161; with_reducible refine Calls.mono hcl ?_; rintro e w1 ⟨rfl, b1⟩))
  all_goals (go_wp2_with fail)
  all_goals go_ret
  all_goals exact ⟨_, rfl, And.left (by assumption)⟩
set_option maxHeartbeats 2000000 in
theorem rngErr_any (f s : List UInt8) (w : World) (h : s.length ≤ 281474976710656) (hE : EG w) :
    Calls Tryz.prog 194 #[str f, str s] w fun e w' => ∃ N, e = .returned (.pointer (some ⟨N, 0, none⟩)) ∧ Below w.heap.size w w' := by
  obtain ⟨t, p, hc⟩ := hE.r
  have hcl := clone_str s w.drew h
  have hlt := block_lt_of_cell hc
  have XC : Hid (∀ w', Below w.heap.size w w' → Below w.heap.size w w' ∧ w'.cell? ⟨4, 0, none⟩ = some (.iface t p)) := ⟨fun w' b => ⟨b, (b.cell (p := ⟨4, 0, none⟩) hlt).trans hc⟩⟩
  go_enter Tryz.func194, Tryz.ntmps194
  go_upto_region 1 with fail
  go_region_held3 (fun w' => Below w.heap.size w w' ∧ w'.cell? ⟨4, 0, none⟩ = some (.iface t p)) (first
    | exact XC.out _ (Below.refl _ _).drew
    | exact XC.out _ (below_seq (Below.refl _ _).drew b1)
    | exact XC.out _ ((below_seq (Below.refl _ _).drew b1).alloc (below_seq (Below.refl _ _).drew b1).size _)) ((go_at_call 161; with_reducible refine Calls.mono hcl ?_; rintro e w1 ⟨rfl, b1⟩))
  all_goals (go_wp2_with fail)
  all_goals go_ret
  all_goals exact ⟨_, rfl, And.left (by assumption)⟩
theorem toErr_syn (f s : List UInt8) (b z : Int) (w : World) (h : s.length ≤ 281474976710656) (hE : EG w) :
    Calls Tryz.prog 150 #[str f, str s, .int .i64 b, .int .i64 z, .iface 222 (.int .i64 2)] w fun e w' => ∃ t v, e = .returned (.iface t v) ∧ Below w.heap.size w w' := by
  have hs := synErr_any f s w h hE
  have hq22 : ∀ W, (binOp .eql 74 (.iface 222 (.int .i64 2)) (.iface 222 (.int .i64 2))).run Tryz.prog W = .ok (.bool true) W := fun W => Lib.run_eql_iface_int W 2 2 Tryz.underlying74 (by kernel_rfl) Tryz.underlying222
  go_enter Tryz.func150, Tryz.ntmps150
  go_wp2_with fail
  with_reducible refine Calls.mono hs ?_
  rintro e w1 ⟨N, rfl, b1⟩
  dsimp only
  go_wp2_with fail
  go_ret
  exact ⟨_, _, rfl, b1⟩
theorem toErr_rng (f s : List UInt8) (b z : Int) (w : World) (h : s.length ≤ 281474976710656) (hE : EG w) :
    Calls Tryz.prog 150 #[str f, str s, .int .i64 b, .int .i64 z, .iface 222 (.int .i64 1)] w fun e w' => ∃ t v, e = .returned (.iface t v) ∧ Below w.heap.size w w' := by
  have hs := rngErr_any f s w h hE
  have hq12 : ∀ W, (binOp .eql 74 (.iface 222 (.int .i64 1)) (.iface 222 (.int .i64 2))).run Tryz.prog W = .ok (.bool false) W := fun W => Lib.run_eql_iface_int W 1 2 Tryz.underlying74 (by kernel_rfl) Tryz.underlying222
  have hq11 : ∀ W, (binOp .eql 74 (.iface 222 (.int .i64 1)) (.iface 222 (.int .i64 1))).run Tryz.prog W = .ok (.bool true) W := fun W => Lib.run_eql_iface_int W 1 1 Tryz.underlying74 (by kernel_rfl) Tryz.underlying222
  go_enter Tryz.func150, Tryz.ntmps150
  go_wp2_with fail
  with_reducible refine Calls.mono hs ?_
  rintro e w1 ⟨N, rfl, b1⟩
  dsimp only
  go_wp2_with fail
  go_ret
  exact ⟨_, _, rfl, b1⟩
theorem parseInt_any (s : List UInt8) (w : World) (h : s.length ≤ 281474976710656) (hE : EG w) :
    Calls Tryz.prog 104 #[str s, .int .i64 10, .int .i64 64] w fun e w' => ∃ v, e = .returned (.tuple #[.int .i64 (numV s), v]) ∧ Below w.heap.size w w' := by
  have hp := Tryz.internal_strconv_ParseInt_10_all64 ⟨s.toArray⟩ (by rw [str_size]; omega) w
  have hp : Calls Tryz.prog 149 #[str s, .int .i64 10, .int .i64 64] w fun e w' => e = .returned (Lib.intTuple 222 (Lib.intSat 64 s) (Lib.parseIntB 64 s)) ∧ Below w.heap.size w w' := by
    refine hp.mono ?_
    rintro e w' ⟨rfl, q⟩
    refine ⟨rfl, ?_⟩
    rcases q with rfl | ⟨t, rfl⟩
    · exact Below.refl _ _
    · exact Lib.bytesWorld_below _ _ _
  unfold numV
  cases hq : Lib.parseIntB 64 s with
  | ok v =>
    rw [hq] at hp
    clear hq
    go_enter Tryz.func104, Tryz.ntmps104
    go_wp2_with fail
    with_reducible refine Calls.mono hp ?_
    rintro e w1 ⟨rfl, b1⟩
    dsimp only [Lib.intTuple]
    go_wp2_with fail
    refine bodyPost_ret (results_tmp2 rfl _ _ _) rfl ?_
    exact ⟨_, rfl, b1⟩
  | «syntax» =>
    rw [hq] at hp
    clear hq
    go_enter Tryz.func104, Tryz.ntmps104
    go_wp2_with fail
    with_reducible refine Calls.mono hp ?_
    rintro e w1 ⟨rfl, b1⟩
    dsimp only [Lib.intTuple]
    have ht := toErr_syn [80, 97, 114, 115, 101, 73, 110, 116] s 10 64 w1 h (hE.below b1)
    go_wp2_with fail
    refine Calls.mono ht ?_
    rintro e w2 ⟨t, v, rfl, b2⟩
    dsimp only
    go_wp2_with fail
    refine bodyPost_ret (results_tmp2 rfl _ _ _) rfl ?_
    exact ⟨_, rfl, below_seq b1 b2⟩
  | range =>
    rw [hq] at hp
    clear hq
    generalize Lib.intSat 64 s = sat at *
    go_enter Tryz.func104, Tryz.ntmps104
    go_wp2_with fail
    with_reducible refine Calls.mono hp ?_
    rintro e w1 ⟨rfl, b1⟩
    dsimp only [Lib.intTuple]
    have ht := toErr_rng [80, 97, 114, 115, 101, 73, 110, 116] s 10 64 w1 h (hE.below b1)
    go_wp2_with fail
    refine Calls.mono ht ?_
    rintro e w2 ⟨t, v, rfl, b2⟩
    dsimp only
    go_wp2_with fail
    refine bodyPost_ret (results_tmp2 rfl _ _ _) rfl ?_
    exact ⟨_, rfl, below_seq b1 b2⟩
theorem valFlen {b k : List UInt8} {s : Rs} : (valF b k s).1.length ≤ 1048576 := by
  unfold valF
  split
  · simp
  · split
    · rename_i q n hq
      split
      · exact (kv_len (rdFat hq).1.small).2
      · simp
    · simp
theorem number_any (b k : List UInt8) (s : Rs) (g : Nat) (w0 w : World) (hR : Rx w g b s) (hs : s.1 ≤ b.length) (hbl : b.length ≤ 4611686018427387904) (hB : Below w0.heap.size w0 w) (hg : w0.heap.size ≤ g) (hT : TB w0) (hE : EG w0) :
    Calls Tryz.prog 60 #[.pointer (some ⟨g, 0, none⟩), str k] w fun e w' => e = .returned (.int .i64 (numF b k s).1) ∧ RP g b (numF b k s).2 w w' := by
  have hv := value_any b k s g w0 w hR hs hbl hB hT
  go_enter Tryz.func60, Tryz.ntmps60
  go_wp2_with fail
  with_reducible refine Calls.mono hv ?_
  rintro e w1 ⟨rfl, r1⟩
  dsimp only
  have hp := parseInt_any (valF b k s).1 w1 (Nat.le_trans valFlen (by decide)) (hE.below (r1.bel hB hg))
  go_wp2_with fail
  with_reducible refine Calls.mono hp ?_
  rintro e w2 ⟨v, rfl, b2⟩
  dsimp only
  go_wp2_with fail
  go_ret
  exact ⟨rfl, r1.later b2⟩
end Go.Proofs.YtdfjlmfnkhhnjaaGreatDoor
