import Derived.Test.YtjoaiagiankfdaaDoorWr
import Derived.Deep.RegionWith
namespace Go.Proofs.YtjoaiagiankfdaaDoor
set_option linter.unusedVariables false
set_option linter.unusedSimpArgs false
open Go.RowKit
def szOf : Value → Nat | .string t => t.size | _ => 0
def WrAt (w : World) (g : Nat) (m : List UInt8) : Prop := ∃ f : Nat → UInt8, (∀ j, j < m.length % 64 → f j = Sha.blk m (m.length / 64) j) ∧ w.heap[g]? = some (.cells (wcells (Sha.num m) f m.length) 52 (0, 0))
theorem info5 : (Tryd.prog.info? 5).map (·.size) = some 1 := by kernel_rfl
theorem slice_blk (g r : Nat) (hr : r < 64) (w : World) : (Instr.sliceAt 45 (.pointer (some ⟨g, 8, none⟩)) (some (.int .u64 (r : Int))) none none).run Tryd.prog w = .ok (.slice (some ⟨g, 8 + r, none⟩) (64 - r) (64 - r)) w := by
  have r0 : (0 : Int) ≤ (r : Int) := by omega
  have r1 : (r : Int) ≤ 64 := by omega
  have r2 : ¬ 64 = r := by omega
  have r3 : r ≤ 64 := by omega
  simp [Instr.sliceAt, go_sem, Tryd.underlying45, r0, r1, r2, r3]
theorem keep72 {wr : World} {g r : Nat} {L : List UInt8} {v : Value} (h : r + L.length ≤ 64) (c : wr.cell? ⟨g, 72, none⟩ = some v) : (wr.drew.setCells g (8 + r) (vals L)).cell? ⟨g, 72, none⟩ = some v := by
  rw [World.cell?_setCells_out _ _ _ _ _ (fun _ _ => Or.inr (by simp [vals]; omega))]; exact c
noncomputable def ldS (t : TypeId) (v : Value) : Sem Value := Instr.loadAt t v
noncomputable def stS (t : TypeId) (p v : Value) : Sem Unit := Instr.storeAt t p v
theorem ld45 (v : Value) : Instr.loadAt 45 v = ldS 45 v := rfl
theorem ld49 (v : Value) : Instr.loadAt 49 v = ldS 49 v := rfl
theorem st49 (p v : Value) : Instr.storeAt 49 p v = stS 49 p v := rfl
theorem ext_num (s : Sha.S8) (f : Nat → UInt8) (n : Nat) : ((wcells s f n).extract 0 (0 + 8)).toList = (words8 s).toList := by
  congr 1
  apply Array.ext_getElem?
  intro i
  by_cases h : i < 8
  · rw [Array.getElem?_extract]; simp [h, wcells_num s f n i h, wcells_size]
  · rw [Array.getElem?_eq_none (by simp [wcells_size]; omega), Array.getElem?_eq_none (by rw [words8_size]; omega)]
theorem ext_blk (s : Sha.S8) (f : Nat → UInt8) (n : Nat) : ((wcells s f n).extract 8 (8 + 64)).toList = (bytes64 f).toList := by
  congr 1
  apply Array.ext_getElem?
  intro i
  by_cases h : i < 64
  · rw [Array.getElem?_extract]; simp [h, wcells_blk s f n i h, wcells_size, bytes64_get f i h]
  · rw [Array.getElem?_eq_none (by simp [wcells_size]; omega), Array.getElem?_eq_none (by rw [bytes64_size]; omega)]
theorem row_facts {w : World} {g n : Nat} {s : Sha.S8} {f : Nat → UInt8} (h : w.heap[g]? = some (.cells (wcells s f n) 52 (0, 0))) :
    (ldS 49 (.pointer (some ⟨g, 0, none⟩))).run Tryd.prog w = .ok (.agg (words8 s)) w ∧ (ldS 45 (.pointer (some ⟨g, 8, none⟩))).run Tryd.prog w = .ok (.agg (bytes64 f)) w ∧ ∀ r : Sha.S8, (stS 49 (.pointer (some ⟨g, 0, none⟩)) (.agg (words8 r))).run Tryd.prog w = .ok () (w.setCells g 0 (words8 r).toList) := by
  refine ⟨?_, ?_, ?_⟩
  · have hr := World.rangeAt_of_block h 0 8
    rw [ext_num] at hr
    exact run_loadAt_mid w g 0 49 (words8 s).toList _ hr Tryd.underlying49 rfl info49
  · have hr := World.rangeAt_of_block h 8 64
    rw [ext_blk] at hr
    have := run_loadAt_mid (P := Tryd.prog) w g 8 45 (bytes64 f).toList _ hr Tryd.underlying45 rfl (by rw [Array.length_toList, bytes64_size]; exact info45)
    rw [Array.toArray_toList] at this
    exact this
  · intro r
    refine run_storeAt_mid w g 0 49 (words8 r) ?_ info49 (by simp [words8, Value.oneCell'])
    intro j hj
    refine ⟨?_, frozen_of_row _ _ _ _ _ h⟩
    rw [Nat.zero_add, cell_of_row _ _ _ _ _ _ h, wcells_num _ _ _ _ hj, words8_get s j hj]
    rfl
theorem blk_fl {mm L : List UInt8} {f : Nat → UInt8} {n r : Nat} (hn : n = mm.length) (hr : r = n % 64) (hL : r + L.length ≤ 64) (hf : ∀ j, j < n % 64 → f j = Sha.blk mm (n / 64) j) :
    ∀ j, j < r + L.length → fl f r L j = Sha.blk (mm ++ L) (n / 64) j := by
  intro j hj
  unfold fl
  by_cases h : r ≤ j
  · rw [if_pos ⟨h, hj⟩]
    unfold Sha.blk
    rw [List.getD_eq_getElem?_getD, List.getD_eq_getElem?_getD, List.getElem?_append_right (by omega)]
    congr 2
    omega
  · rw [if_neg (by omega), hf j (by omega), Sha.blk_append _ _ _ _ (by omega)]
theorem cut_str {t : ByteArray} {L : List UInt8} {k : Nat} (hl : L = t.data.toList.take k) (hk : L.length = k) : L ++ (t.extract L.length t.size).data.toList = t.data.toList := by
  have e : (t.extract L.length t.size).data.toList = t.data.toList.drop L.length := by
    rw [ByteArray.data_extract, Array.toList_extract]
    show (t.data.toList.drop L.length).take (t.size - L.length) = _
    rw [List.take_of_length_le]
    rw [List.length_drop, Array.length_toList]
    exact Nat.le_refl _
  rw [e, hk, hl, List.take_append_drop]
theorem wr_small {W : World} {g n r : Nat} {mm L : List UInt8} {f : Nat → UInt8} (hn : n = mm.length) (hr : r = n % 64) (hL : r + L.length ≤ 64) (hf : ∀ j, j < n % 64 → f j = Sha.blk mm (n / 64) j) (hne : ¬ (n + L.length) % 64 = 0)
    (hh : W.heap[g]? = some (.cells (wcells (Sha.num mm) (fl f r L) (n + L.length)) 52 (0, 0))) : WrAt W g (mm ++ L) := by
  have hl : (mm ++ L).length = n + L.length := by rw [List.length_append, ← hn]
  have hq : (n + L.length) / 64 = n / 64 := by omega
  refine ⟨fl f r L, ?_, ?_⟩
  · rw [hl, hq]; intro j hj; exact blk_fl hn hr hL hf j (by omega)
  · rw [hl, Sha.num_append_small _ _ (by rw [hl, ← hn]; exact hq)]; exact hh
theorem wr_full {W : World} {g n r : Nat} {mm L : List UInt8} {f : Nat → UInt8} (hn : n = mm.length) (hr : r = n % 64) (hL : r + L.length ≤ 64) (hf : ∀ j, j < n % 64 → f j = Sha.blk mm (n / 64) j) (h0 : 0 < L.length) (hne : (n + L.length) % 64 = 0)
    (hh : W.heap[g]? = some (.cells (wcells (Sha.comp (Sha.num mm) (Sha.wt (fl f r L))) (fl f r L) (n + L.length)) 52 (0, 0))) : WrAt W g (mm ++ L) := by
  have hl : (mm ++ L).length = n + L.length := by rw [List.length_append, ← hn]
  have hq : (n + L.length) / 64 = n / 64 + 1 := by omega
  refine ⟨fl f r L, ?_, ?_⟩
  · rw [hl, hne]; intro j hj; omega
  · rw [hl, Sha.num_append_full mm L (fl f r L) (by rw [hl, ← hn]; exact hq) (by rw [← hn]; intro j hj; exact blk_fl hn hr hL hf j (by omega))]; exact hh
theorem carry {a b : World} {g : Nat} {o : Obj} (h : a.heap[g]? = some o) (bq : Below a.heap.size a b) : b.heap[g]? = some o := by
  have lt : g < a.heap.size := by
    rcases Nat.lt_or_ge g a.heap.size with h' | h'
    · exact h'
    · rw [Array.getElem?_eq_none h'] at h; exact absurd h (by simp)
  rw [bq.block g lt]; exact h
attribute [local go_sem ↓] ld45 ld49 st49
attribute [local go_sem ↓] Go.wp_at_zero Go.wp_at_succ
set_option maxHeartbeats 400000 in
set_option maxRecDepth 8000 in
theorem write_any (g : Nat) (m : List UInt8) (s : ByteArray) (w : World) (hK : KIn w) (hg : g ≠ 0) (hW : WrAt w g m) (hlen : m.length + s.size < 1152921504606846976) :
    Calls Tryd.prog 13 #[.pointer (some ⟨g, 0, none⟩), .string s] w fun e w' => e = .returned (.tuple #[]) ∧ WrAt w' g (m ++ s.data.toList) ∧ But g w w' := by
  go_enter Tryd.func13, Tryd.ntmps13
  go_wp2_with fail
  go_loopw [1] (fun v wr => ∃ (t : ByteArray) (x : List UInt8), v = .string t ∧ x ++ t.data.toList = s.data.toList ∧ WrAt wr g (m ++ x) ∧ But g w wr) (fun v _ => szOf v)
  case atStart => exact ⟨s, [], rfl, rfl, by rw [List.append_nil]; exact hW, But.refl _ _⟩
  case round =>
    obtain ⟨t, x, rfl, hx, ⟨f, hf, hh⟩, hb⟩ := hrel
    have HX : Hid (x ++ t.data.toList = s.data.toList) := hx
    have hxl : x.length + t.size = s.size := by
      have := congrArg List.length hx
      rw [List.length_append] at this
      exact this
    clear hx
    by_cases ht : 0 < t.size
    · obtain ⟨n, hn⟩ : ∃ n, n = (m ++ x).length := ⟨_, rfl⟩
      have hn60 : n + t.size < 1152921504606846976 := by rw [hn, List.length_append]; omega
      rw [← hn] at hf hh
      obtain ⟨r, hr⟩ : ∃ r, r = n % 64 := ⟨_, rfl⟩
      have er : (n : Int) % 64 = (r : Int) := by omega
      have er' : (n : Int).tmod 64 = (r : Int) := by rw [Int.tmod_eq_emod_of_nonneg (by omega)]; exact er
      have hr64 : r < 64 := by omega
      have hsl := slice_blk g r hr64
      have hgt : decide ((0 : Int) < (t.size : Int)) = true := by simp; omega
      have c72 : wr.cell? ⟨g, 72, none⟩ = some (.int .u64 (n : Int)) := by rw [cell_of_row _ _ _ _ _ _ hh, wcells_len]
      obtain ⟨L, hL⟩ : ∃ L, L = t.data.toList.take (Nat.min t.size (64 - r)) := ⟨_, rfl⟩
      have hLl : L.length = min t.size (64 - r) := by
        have e : t.data.toList.length = t.size := Array.length_toList
        rw [hL, List.length_take, e]; exact Nat.min_eq_left (Nat.min_le_left _ _)
      have hL64 : r + L.length ≤ 64 := by omega
      have hLt : L.length ≤ t.size := by omega
      have hL0 : 0 < L.length := by omega
      have HLl : Hid (L.length = min t.size (64 - r)) := hLl
      have l1 : (L.length : Int) ≤ (t.size : Int) := by omega
      have l0 : (0 : Int) ≤ (L.length : Int) := by omega
      clear hLl
      have hcp := run_copy_string wr.drew 27 9 3 5 g (8 + r) (64 - r) (64 - r) t L Tryd.underlying27 info5 hL (fun j hj => by show (wr.cell? _).isSome = true; rw [cell_of_row _ _ _ _ _ _ hh, Nat.add_assoc, wcells_blk _ _ _ _ (by omega)]; rfl) (fun j hj => frozen_of_row _ _ _ _ _ hh)
      have HH : Hid (wr.heap[g]? = some (.cells (wcells (Sha.num (m ++ x)) f n) 52 (0, 0))) := hh
      have HF : Hid (∀ j, j < n % 64 → f j = Sha.blk (m ++ x) (n / 64) j) := hf
      have HL : Hid (L = t.data.toList.take (Nat.min t.size (64 - r))) := hL
      have HR : Hid (r = n % 64) := hr
      have HN : Hid (n = (m ++ x).length) := hn
      clear hh hf hL hr hn
      have r0 : (0 : Int) ≤ (r : Int) := by omega
      have r1 : (r : Int) ≤ 64 := by omega
      have r2 : ¬ 64 = r := by omega
      go_wp2_with fail
      go_region_held3 (fun w' => w'.cell? ⟨g, 72, none⟩ = some (.int .u64 (n : Int))) (first | (go_keep; done) | exact keep72 hL64 c72) (fail)
      have hh1 : (wr.drew.setCells g (8 + r) (vals L)).heap[g]? = some (.cells (wcells (Sha.num (m ++ x)) (fl f r L) n) 52 (0, 0)) := by
        rw [← lay_blk _ _ _ _ _ hL64]; exact heap_setCells _ _ _ _ HH.out
      have hb1 : But g w (wr.drew.setCells g (8 + r) (vals L)) := hb.drew.setCells _ _
      generalize (wr.drew.setCells g (8 + r) (vals L)) = W1 at *
      clear hcp c72 hsl
      have c72 : W1.cell? ⟨g, 72, none⟩ = some (.int .u64 (n : Int)) := by rw [cell_of_row _ _ _ _ _ _ hh1, wcells_len]
      have f72 : W1.frozen? ⟨g, 72, none⟩ = false := frozen_of_row _ _ _ _ _ hh1
      have HH1 : Hid (W1.heap[g]? = some (.cells (wcells (Sha.num (m ++ x)) (fl f r L) n) 52 (0, 0))) := hh1
      clear hh1
      have hx2 : Hid ((x ++ L) ++ (t.extract L.length t.size).data.toList = s.data.toList) := by
        show _ = _
        have := cut_str (t := t) (L := L) (k := L.length) (by rw [HLl.out]; exact HL.out) rfl
        rw [List.append_assoc, this]; exact HX.out
      have hsz : Hid ((t.extract L.length t.size).size < t.size) := by
        show _ < _
        rw [ByteArray.size_extract]; omega
      have e72 : Hid ((W1.setCell ⟨g, 72, none⟩ (.int .u64 ((n : Int) + (L.length : Int)))).heap[g]? = some (.cells (wcells (Sha.num (m ++ x)) (fl f r L) (n + L.length)) 52 (0, 0))) := by
        show _ = _
        rw [cell_set _ _ _ _ _ _ HH1.out, ← set_len _ _ n (n + L.length)]
        rfl
      have hb2 : Hid (But g w (W1.setCell ⟨g, 72, none⟩ (.int .u64 ((n : Int) + (L.length : Int))))) := hb1.setCell _ _
      by_cases hfull : (n + L.length) % 64 = 0
      · have htest : (((n : Int) + (L.length : Int)) % 64 == 0) = true := by rw [beq_iff_eq]; omega
        go_wp2_with fail
        have hq2 := e72.out
        have hb3 := hb2.out
        clear e72 hb2 HH1 hb1 c72 f72
        generalize (W1.setCell ⟨g, 72, none⟩ (.int .u64 ((n : Int) + (L.length : Int)))) = W2 at *
        have q0 : W2.drew.heap[g]? = some (.cells (wcells (Sha.num (m ++ x)) (fl f r L) (n + L.length)) 52 (0, 0)) := hq2
        have k0 : KIn W2.drew := hb3.kin hK hg
        have b0 : But g w W2.drew := hb3.drew
        obtain ⟨a1, a2, a3⟩ := row_facts q0
        clear hq2 hb3
        go_region_with (first
          | (go_at_call 22; refine (spread_any (fl f r L) _).mono ?_; rintro e w1 ⟨rfl, bq⟩; have q1 := carry q0 bq; have k1 := k0.below bq k0.lt; have b1 := b0.trans (But.of_below bq); obtain ⟨d1, d2, d3⟩ := row_facts q1)
          | (go_at_call 21; refine (turned_any (Sha.num (m ++ x)) _ _ k1).mono ?_; rintro e w2 ⟨rfl, bq2⟩; have q2 := carry q1 bq2; have b2 := b1.trans (But.of_below bq2); obtain ⟨e1, e2, e3⟩ := row_facts q2))
        all_goals go_wp2_with fail
        all_goals
          refine ⟨⟨_, x ++ L, rfl, hx2.out, ?_, b2.setCells _ _⟩, hsz.out⟩
          rw [← List.append_assoc]
          refine wr_full HN.out HR.out hL64 HF.out hL0 hfull ?_
          rw [← lay_num (Sha.num (m ++ x))]
          exact heap_setCells _ _ _ _ q2
      · have htest : (((n : Int) + (L.length : Int)) % 64 == 0) = false := by rw [beq_eq_false_iff_ne]; omega
        go_wp2_with fail
        go_round
        case rel => exact ⟨_, x ++ L, rfl, hx2.out, by rw [← List.append_assoc]; exact wr_small HN.out HR.out hL64 HF.out hfull e72.out, hb2.out⟩
        case measure => exact hsz.out
    · have h0 : t.size = 0 := by omega
      have hgt : decide ((0 : Int) < (t.size : Int)) = false := decide_eq_false (by omega)
      have hx0 : x = s.data.toList := by
        have e : t.data.toList = [] := List.length_eq_zero_iff.1 (by rw [Array.length_toList]; exact h0)
        have := HX.out
        rw [e, List.append_nil] at this
        exact this
      have HX0 : Hid (x = s.data.toList) := hx0
      clear hx0
      go_wp2_with fail
      go_end0
      exact ⟨rfl, by rw [← HX0.out]; exact ⟨f, hf, hh⟩, hb⟩
end Go.Proofs.YtjoaiagiankfdaaDoor
