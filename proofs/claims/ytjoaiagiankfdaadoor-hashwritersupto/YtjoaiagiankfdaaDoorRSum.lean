/- The reference: the hash. -/
import Derived.Test.YtjoaiagiankfdaaDoorRPad
import Derived.Test.YtjoaiagiankfdaaDoorRBlk
import Derived.Test.YtjoaiagiankfdaaDoorSum
namespace Go.Proofs.YtjoaiagiankfdaaDoor
set_option linter.unusedVariables false
set_option linter.unusedSimpArgs false
open Go.RowKit
/-- What the hash has made: its result, its numbers, the constants, the padded text. -/
structure SR (w : World) (m : List UInt8) (q : Nat → UInt8) (k X g : Nat) (wr : World) : Prop where
  bel : Below w.heap.size w wr
  res : wr.heap[w.heap.size]? = some (.cells (pb 32 q 0) 22 (0, 0))
  v : wr.heap[w.heap.size + 1]? = some (.cells (words8 (Sha.hs m k)) 49 (0, 0))
  kk : wr.heap[X]? = some (.cells (words64 Sha.kt) 54 (0, 0))
  txt : ∀ j, j < m.length → wr.cell? ⟨g, j, none⟩ = some (.int .u8 ((m.getD j 0).toNat : Int))
  lt : g < wr.heap.size
theorem own_cap {w : World} {base e size g n cap : Nat} {xs : List Value} (h : w.ownsRow base e size (.slice (some ⟨g, 0, none⟩) n cap) n xs) : n ≤ cap := by
  rcases h.2 with ⟨h', _⟩ | ⟨g', cap', cur, h', _, hg, hn, _⟩
  · simp at h'
  · simp only [Value.slice.injEq, Option.some.injEq, Addr.mk.injEq, and_true, true_and] at h'
    omega
theorem hs_zero (m : List UInt8) : Sha.hs m 0 = Sha.iv := by simp only [Sha.hs]
theorem hs_succ (m : List UInt8) (k : Nat) : Sha.hs m (k + 1) = Sha.comp (Sha.hs m k) (Sha.wt (Sha.blk m k)) := by simp only [Sha.hs]
theorem iv_lit : (#[.int .u32 1779033703, .int .u32 3144134277, .int .u32 1013904242, .int .u32 2773480762, .int .u32 1359893119, .int .u32 2600822924, .int .u32 528734635, .int .u32 1541459225] : Array Value) = words8 Sha.iv := by kernel_rfl
noncomputable def slS (v : Value) (a b c : Option Value) : Sem Value := Instr.sliceAt 27 v a b c
theorem sl27 (v : Value) (a b c : Option Value) : Instr.sliceAt 27 v a b c = slS v a b c := rfl
theorem slice_txt (g l cap k : Nat) (h1 : 64 * k + 64 ≤ l) (h2 : l ≤ cap) (w : World) : (slS (.slice (some ⟨g, 0, none⟩) l cap) (some (.int .i64 (64 * (k : Int)))) (some (.int .i64 (64 * (k : Int) + 64))) none).run Tryd.prog w = .ok (.slice (some ⟨g, 64 * k, none⟩) 64 (cap - 64 * k)) w := by
  show (Instr.sliceAt 27 (.slice (some ⟨g, 0, none⟩) l cap) (some (.int .i64 (64 * (k : Int)))) (some (.int .i64 (64 * (k : Int) + 64))) none).run Tryd.prog w = _
  have i0 : (0 : Int) ≤ 64 * (k : Int) := by omega
  have i1 : 64 * (k : Int) + 64 ≤ (cap : Int) := by omega
  have i2 : ¬ cap = 64 * k := by omega
  have i4 : (0 : Int) ≤ 64 * (k : Int) + 64 := by omega
  have i5 : 64 * (k : Int) ≤ max (64 * (k : Int) + 64) 0 := by omega
  have t1 : (64 * (k : Int)).toNat = 64 * k := by omega
  have t2 : (64 * (k : Int) + 64).toNat = 64 * k + 64 := by omega
  simp [Instr.sliceAt, go_sem, Tryd.underlying27, i0, i1, i2, i4, i5, t1, t2]
  intro h; omega
attribute [local go_sem ↓] ld49 st49 ld54 st54 sl27
attribute [local go_sem] iv_lit
attribute [local go_sem ↓] Go.wp_at_zero Go.wp_at_succ
set_option maxHeartbeats 1000000 in
set_option maxRecDepth 8000 in
theorem refSum_any (s : ByteArray) (w : World) (hs : s.size ≤ 140737488351232) :
    Calls Tryd.prog 19 #[.string s] w fun e w' => e = .returned (.agg (b32 (dg s.data.toList))) ∧ Below w.heap.size w w' := by
  have s49 : ∀ o1, (stS 49 (.pointer (some ⟨w.heap.size + 1, 0, none⟩)) (.agg (words8 Sha.iv))).run Tryd.prog ((w.alloc o1).alloc (.cells z8 49)) = .ok () ((w.alloc o1).alloc (.cells (words8 Sha.iv) 49)) := fun o1 => by
    rw [stRow (A := words8 Sha.iv) (heap_alloc2_new w o1 (.cells z8 49)) info49 rfl (words8_one _)]
    have := new_row (w.alloc o1) z8 (words8 Sha.iv) 49
    rw [show (w.alloc o1).heap.size = w.heap.size + 1 by simp] at this
    rw [this]
  go_enter Tryd.func19, Tryd.ntmps19
  go_wp2_with fail
  clear s49
  obtain ⟨q, hq⟩ : ∃ q, q = dg s.data.toList := ⟨_, rfl⟩
  rw [← pb32 q]
  obtain ⟨W1, e1, b1, r0, r1⟩ : ∃ W1, W1 = (w.alloc (.cells (pb 32 q 0) 22)).alloc (.cells (words8 Sha.iv) 49) ∧ Below w.heap.size w W1 ∧ W1.heap[w.heap.size]? = some (.cells (pb 32 q 0) 22 (0, 0)) ∧ W1.heap[w.heap.size + 1]? = some (.cells (words8 Sha.iv) 49 (0, 0)) :=
    ⟨_, rfl, ((Below.refl _ _).alloc (Nat.le_refl _) _).alloc (by simp) _, heap_alloc2_old _ _ _, heap_alloc2_new _ _ _⟩
  rw [← e1]
  clear e1
  refine (consts_any W1).mono ?_
  rintro e w2 ⟨rfl, b2⟩
  obtain ⟨X, hX⟩ : ∃ X, X = w2.heap.size := ⟨_, rfl⟩
  have hst : (stS 54 (.pointer (some ⟨w2.heap.size, 0, none⟩)) (.agg (words64 Sha.kt))).run Tryd.prog (w2.alloc (.cells z64w 54)) = .ok () (w2.alloc (.cells (words64 Sha.kt) 54)) := by
    rw [stRow (heap_alloc_new _ _) (info54w _) (by rw [words64_size]; rfl) (words64_one _), new_row]
  go_wp2_with fail
  clear hst
  have b3 : Below w2.heap.size w2 (w2.alloc (.cells (words64 Sha.kt) 54)) := (Below.refl _ _).alloc (Nat.le_refl _) _
  have b12 : Below w.heap.size w w2 := b1.trans (b2.mono b1.size)
  have b13 := b12.trans (b3.mono b12.size)
  have q0 := carry (carry r0 b2) b3
  have q1 := carry (carry r1 b2) b3
  have q2 : (w2.alloc (.cells (words64 Sha.kt) 54)).heap[X]? = some (.cells (words64 Sha.kt) 54 (0, 0)) := by rw [hX]; exact heap_alloc_new _ _
  have hX1 : w.heap.size + 1 < X := by rw [hX]; have := lt_of_row2 r1; have := b2.size; omega
  rw [← hX]
  clear b3 b12 b1 b2 r0 r1 hX
  generalize (w2.alloc (.cells (words64 Sha.kt) 54)) = W3 at *
  refine (padded_any s W3 hs).mono ?_
  rintro e W4 ⟨g, cap, rfl, hown, b4⟩
  obtain ⟨m, hm⟩ : ∃ m, m = s.data.toList ++ Sha.pad s.size := ⟨_, rfl⟩
  rw [← hm] at hown
  rw [← hm]
  have hg := (hown.lt g rfl)
  have R : SR w m q 0 X g W4 := by
    refine ⟨b13.trans (b4.mono b13.size), carry q0 b4, by rw [hs_zero]; exact carry q1 b4, carry q2 b4, fun j hj => ?_, hg.2⟩
    rw [hown.cellAt j (by omega), vals, List.getElem?_map, List.getElem?_eq_getElem hj, List.getD_eq_getElem?_getD, List.getElem?_eq_getElem hj]
    rfl
  have hgX : X < g := by have := lt_of_row2 q2; omega
  have hcap := own_cap hown
  have hmm : m.length % 64 = 0 ∧ m.length ≤ s.size + 73 := by
    have e : s.data.toList.length = s.size := Array.length_toList
    rw [hm, List.length_append, Sha.pad_length, e]; omega
  have HQ : Hid (Sha.outByte (Sha.hs m (m.length / 64)) = q) := by show _ = _; rw [hq, hm]; unfold dg Sha.num; rw [show s.data.toList.length = s.size from Array.length_toList]
  have HM : Hid (m = s.data.toList ++ Sha.pad s.size) := hm
  have HQ0 : Hid (q = dg s.data.toList) := hq
  clear hm hq hown b4 hg q0 q1 q2 b13
  obtain ⟨l, hl⟩ : ∃ l, l = m.length := ⟨_, rfl⟩
  rw [← hl] at hcap hmm
  rw [← hl]
  have HL : Hid (l = m.length) := hl
  clear hl
  generalize hB : w.heap.size = B at *
  go_wp2_with fail
  go_loopw [6] (fun i wr => ∃ k : Nat, 64 * k ≤ l ∧ i = .int .i64 (64 * (k : Int)) ∧ SR w m q k X g wr) (fun i _ => l - (intOf i).toNat)
  case atStart => exact ⟨0, by omega, rfl, R⟩
  case round =>
    clear R
    obtain ⟨k, hk, rfl, R⟩ := hrel
    by_cases hlt : 64 * k < l
    · have hd : decide (64 * (k : Int) < (l : Int)) = true := decide_eq_true (by omega)
      have hlt2 : 64 * k + 64 ≤ l := by omega
      have hl47 : l ≤ 140737488351305 := by omega
      have hv : wr.drew.heap[B + 1]? = some (.cells (words8 (Sha.hs m k)) 49 (0, 0)) := by have := R.v; rw [hB] at this; exact this
      have l49 := ldRow hv Tryd.underlying49 info49
      have l54 := ldRow (w := wr.drew) R.kk Tryd.underlying54 (info54w _)
      have txt : ∀ j, j < 64 → wr.drew.cell? ⟨g, 64 * k + j, none⟩ = some (.int .u8 ((Sha.blk m k j).toNat : Int)) := fun j hj => R.txt (64 * k + j) (by rw [← HL.out]; omega)
      have hgl : g < wr.drew.heap.size := R.lt
      have i3 : 64 ≤ cap - 64 * k := by omega
      have hwr : IntKind.i64.wrap (64 * (k : Int) + 64) = 64 * (k : Int) + 64 := by rw [IntKind.wrap_i64]; omega
      have hsl := slice_txt g l cap k hlt2 hcap
      have HT : Hid (∀ j, j < 64 → wr.drew.cell? ⟨g, 64 * k + j, none⟩ = some (.int .u8 ((Sha.blk m k j).toNat : Int))) := txt
      clear txt
      go_wp2_with fail
      go_region_with (go_at_call 27; refine (block_any (Sha.hs m k) (Sha.blk m k) g (64 * k) (cap - 64 * k) _ hgl i3 HT.out).mono ?_; rintro e w5 ⟨rfl, bq⟩; have hv1 := carry hv bq; have d1 := stRow (A := words8 (Sha.comp (Sha.hs m k) (Sha.wt (Sha.blk m k)))) hv1 (by rw [words8_size]; exact info49) (by rw [words8_size, words8_size]) (words8_one _))
      all_goals go_wp2_with fail
      all_goals
        refine ⟨⟨k + 1, by omega, by go_num, ?_⟩, by simp [intOf]; omega⟩
        have bw : Below w.heap.size w w5 := R.bel.drew.trans (bq.mono R.bel.size)
        have e49 : Hid _ := hv1
        refine ⟨below_setRow bw (by omega) _, ?_, ?_, ?_, ?_, ?_⟩
        · rw [setRow_other _ _ _ _ (by omega)]; exact carry (a := wr.drew) R.res bq
        · rw [hB, hs_succ]; exact setRow_heap _ _ _ _ _ _ hv1
        · rw [setRow_other _ _ _ _ (by omega)]; exact carry (a := wr.drew) R.kk bq
        · intro j hj
          rw [cell_setRow_other _ _ _ _ (by show g ≠ B + 1; omega), bq.cell (p := ⟨g, j, none⟩) hgl]; exact R.txt j hj
        · have := bq.size; have h7 := hgl; simp at h7 ⊢; simp at this; omega
    · have hd : decide (64 * (k : Int) < (l : Int)) = false := decide_eq_false (by omega)
      have bel := R.bel
      have r1 := R.res
      have r2 := R.v
      have hgl := R.lt
      have hk2 : k = m.length / 64 := by rw [← HL.out]; omega
      have hX2 := lt_of_row2 R.kk
      rw [hB] at bel r1 r2
      rw [hk2] at r2
      generalize hsv : Sha.hs m (m.length / 64) = sv at *
      clear R hk2
      have h0 : Hid (Sha.outByte sv = q) := HQ
      go_wp2_with fail
      rw [← pb32 q]
      obtain ⟨W6, e6, b6, t1, t2, t3⟩ : ∃ W6, W6 = wr.alloc (.cells (pb 32 q 0) 22) ∧ Below B w W6 ∧ W6.heap[B]? = some (.cells (pb 32 q 0) 22 (0, 0)) ∧ W6.heap[B + 1]? = some (.cells (words8 sv) 49 (0, 0)) ∧ W6.heap[wr.heap.size]? = some (.cells (pb 32 q 0) 22 (0, 0)) :=
        ⟨_, rfl, bel.alloc (by rw [← hB]; exact bel.size) _, by rw [heap_alloc_old _ _ (lt_of_row2 r1)]; exact r1, by rw [heap_alloc_old _ _ (lt_of_row2 r2)]; exact r2, heap_alloc_new _ _⟩
      rw [← e6]
      have hH : B + 1 < wr.heap.size := lt_of_row2 r2
      clear e6 r1 r2 bel
      generalize wr.heap.size = H at *
      go_loopw [8] (fun i wr => ∃ k : Nat, k ≤ 32 ∧ i = .int .i64 k ∧ Below B w wr ∧ wr.heap[B]? = some (.cells (pb 32 q 0) 22 (0, 0)) ∧ wr.heap[B + 1]? = some (.cells (words8 sv) 49 (0, 0)) ∧ wr.heap[H]? = some (.cells (pb 32 q k) 22 (0, 0))) (fun i _ => 32 - (intOf i).toNat)
      case atStart => exact ⟨0, by omega, rfl, b6, t1, t2, t3⟩
      case round =>
        clear b6 t1 t2 t3
        obtain ⟨k, hk, rfl, hb, h1, h2, h3⟩ := hrel
        by_cases hlt : k < 32
        · have hd : decide ((k : Int) < 32) = true := by simp; omega
          have i0 : (0 : Int) ≤ (k : Int) := by omega
          have i1 : (k : Int) < 32 := by omega
          have gc : wr.cell? ⟨B + 1, k / 4, none⟩ = some (.int .u32 ((Sha.word sv (k / 4)).toNat : Int)) := by rw [cell_of_row _ _ _ _ _ _ h2, words8_get sv (k / 4) (by omega)]
          have g5 : wr.frozen? ⟨H, k, none⟩ = false := frozen_of_row _ _ _ _ _ h3
          obtain ⟨v0, g4⟩ : ∃ v, wr.cell? ⟨H, k, none⟩ = some v := ⟨_, by rw [cell_of_row _ _ _ _ _ _ h3]; exact Array.getElem?_eq_getElem (by rw [pb_size]; omega)⟩
          go_wp2_with fail
          go_round
          case rel =>
            have e : ((Sha.word sv (k / 4)).toNat : Int) / 2 ^ (24 - 8 * (k % 4)) % 256 = ((q k).toNat : Int) := by
              rw [← h0.out]; unfold Sha.outByte; rw [UInt8.toNat_ofNat']; exact (cast_div _ _).symm
            refine ⟨k + 1, by omega, by go_num, hb.setCell (by show B ≤ H; omega) _, ?_, ?_, ?_⟩
            · rw [Below.heap_setCell _ _ _ _ (by show B ≠ H; omega), h1]
            · rw [Below.heap_setCell _ _ _ _ (by show B + 1 ≠ H; omega), h2]
            · rw [cell_set _ _ _ _ _ _ h3, e, pb_set 32 q k hlt]
          case measure => simp [intOf]; omega
        · obtain rfl : k = 32 := by omega
          have hd : decide ((32 : Int) < 32) = false := by decide
          have hs : (pb 32 q 32).size = 32 := pb_size 32 q 32
          have ho : (pb 32 q 32).all (·.oneCell') = true := pb_one 32 q 32
          have hz : (pb 32 q 0).size = (pb 32 q 32).size := by rw [pb_size, pb_size]
          have e8 : Hid (pb 32 q 32 = b32 q) := rfl
          generalize pb 32 q 32 = A at *
          have hi : (Tryd.prog.info? 22).map (·.size) = some A.size := by rw [hs]; exact info22
          go_wp2_with (first
            | (refine wpList_load_row rfl 22 _ rfl _ rfl 22 _ (0, 0) _ h3 Tryd.underlying22 rfl hi ?_)
            | (refine wpList_store_row rfl 22 _ _ rfl _ _ rfl rfl 22 _ h1 hi hz ho ?_))
          refine bodyPost_ret (v := .agg A) (results_cell_row Tryd.results19 _ _ B 22 A (0, 0) _ rfl (setRow_heap _ _ _ _ _ _ h1) Tryd.underlying22 rfl hi) rfl ⟨by rw [e8.out, HQ0.out], by subst hB; exact below_setRow hb (by omega) _⟩
end Go.Proofs.YtjoaiagiankfdaaDoor
