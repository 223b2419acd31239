import Derived.Test.YtkoaojhldcacbaaGreatDoorGz
import Derived.Test.YtkoaojhldcacbaaGreatDoorGd
/- The reference: the digits. -/
namespace Go.Proofs.YtkoaojhldcacbaaGreatDoorH
set_option maxRecDepth 100000
set_option linter.unusedVariables false
set_option linter.unusedSimpArgs false
open Go.RowKit
theorem conv_own {wr : World} {base k : Nat} {v : Value} {l : List UInt8} (h : wr.ownsRow base 5 1 v k (vals l)) (hl : l.length = k) : (convert 67 9 v).run Tryz.prog wr = .ok (.string ⟨l.toArray⟩) wr := by
  rcases h.2 with ⟨rfl, h0⟩ | ⟨g, cap, cur, rfl, _, _⟩
  · have : l = [] := List.length_eq_zero_iff.1 (by omega)
    subst this
    exact run_convert_bytes_nil wr 67 5 Tryz.underlying67 Tryz.underlying5 0 0 9 Tryz.underlying9
  · have hg := (h.lt g rfl).2
    subst hl
    refine run_convert_bytes_back wr 67 9 5 ⟨g, 0, none⟩ cap l Tryz.underlying67 Tryz.underlying5 Tryz.underlying9 ?_
    intro j hj
    have hadd : (⟨g, 0, none⟩ : Addr).add j = ⟨g, j, none⟩ := by unfold Addr.add; split <;> simp_all
    rw [hadd, h.cellAt j (by omega)]
    simp [vals, hj]
def hp (g : Nat → UInt8) (n : Nat) : List UInt8 := (List.range n).map (hx g)
theorem hp_succ2 (g : Nat → UInt8) (k : Nat) : hp g (2 * (k + 1)) = hp g (2 * k) ++ [hx g (2 * k), hx g (2 * k + 1)] := by
  unfold hp
  rw [show 2 * (k + 1) = 2 * k + 1 + 1 by omega, List.range_succ, List.range_succ]
  simp
theorem below2 {W wr w2 : World} {v : Value} {n : Nat} {xs : List Value} {o : Obj} (hbr : Below W.heap.size W wr) (hown : wr.ownsRow W.heap.size 5 1 v n xs) (hgrow : ((wr.alloc o).drew).grownBy w2 v.ownBlock) : Below W.heap.size W w2 :=
  ((hbr.alloc hbr.size _).drew).grown hgrow (by have := hbr.size; simp; omega) (fun k0 hk0 => (hown.lt k0 hk0).1)
theorem keepH {W wr w2 : World} {v : Value} {n : Nat} {xs : List Value} {o : Obj} {B k : Nat} {c : Value} (hbr : Below W.heap.size W wr) (hown : wr.ownsRow W.heap.size 5 1 v n xs) (hB : B < W.heap.size) (gc : wr.cell? ⟨B, k, none⟩ = some c) (hgrow : ((wr.alloc o).drew).grownBy w2 v.ownBlock) : w2.cell? ⟨B, k, none⟩ = some c := by
  rw [(below2 hbr hown hgrow).cell (p := ⟨B, k, none⟩) hB]
  rw [hbr.cell (p := ⟨B, k, none⟩) hB] at gc
  exact gc
theorem keepA {W wr : World} {o : Obj} {B k : Nat} {c : Value} (hbr : Below W.heap.size W wr) (hB : B < W.heap.size) (gc : wr.cell? ⟨B, k, none⟩ = some c) : (wr.alloc o).cell? ⟨B, k, none⟩ = some c := by
  have h2 := hbr.alloc hbr.size o
  rw [h2.cell (p := ⟨B, k, none⟩) hB]
  rw [hbr.cell (p := ⟨B, k, none⟩) hB] at gc
  exact gc
noncomputable def ixS (v i : Value) : Sem Value := Instr.index 9 v i
theorem ix9 (v i : Value) : Instr.index 9 v i = ixS v i := rfl
theorem ixdig : ∀ n : Nat, n < 16 → ∀ w, (ixS (.string ⟨#[48, 49, 50, 51, 52, 53, 54, 55, 56, 57, 97, 98, 99, 100, 101, 102]⟩) (.int .u8 (n : Int))).run Tryz.prog w = .ok (.int .u8 ((Sha.dig n).toNat : Int)) w := idxdig
attribute [local go_sem ↓] ix9
attribute [local go_sem ↓] Go.wp_at_zero Go.wp_at_succ
set_option maxHeartbeats 1000000 in
set_option maxRecDepth 8000 in
theorem refHex_any (g : Nat → UInt8) (w : World) :
    Calls Tryz.prog 36 #[.agg (b32 g)] w fun e w' => e = .returned (.string ⟨(hexL g).toArray⟩) ∧ Below w.heap.size w w' := by
  obtain ⟨i0, hi0, hz0, hz1, hz2⟩ : ∃ i, Tryz.prog.info? 5 = some i ∧ i.zero = some (.int .u8 0) ∧ i.size = 1 ∧ i.bytes = 1 := by
    have := info5f
    cases hq : Tryz.prog.info? 5 with
    | none => rw [hq] at this; cases this
    | some i => rw [hq] at this; simp at this; exact ⟨i, rfl, this.1, this.2.1, this.2.2⟩
  go_enter Tryz.func36, Tryz.ntmps36
  go_wp2_with fail
  obtain ⟨W, hW, hb0, h1, hB⟩ : ∃ W, W = w.alloc (Obj.cells (b32 g) 71) ∧ Below w.heap.size w W ∧ W.heap[w.heap.size]? = some (.cells (b32 g) 71 (0, 0)) ∧ W.heap.size = w.heap.size + 1 :=
    ⟨_, rfl, (Below.refl _ _).alloc (Nat.le_refl _) _, heap_alloc_new _ _, by simp⟩
  rw [← hW]
  clear hW
  have HB : Hid (W.heap.size = w.heap.size + 1) := hB
  clear hB
  generalize hBB : w.heap.size = B at *
  go_loopw [3, 4] (fun v i wr => ∃ k : Nat, k ≤ 32 ∧ i = .int .i64 k ∧ wr.ownsRow W.heap.size 5 1 v (2 * k) (vals (hp g (2 * k))) ∧ Below W.heap.size W wr) (fun _ i _ => 32 - (intOf i).toNat)
  case atStart => exact ⟨0, Nat.zero_le _, rfl, World.ownsRow_nil _ _ _ _, Below.refl _ _⟩
  case round =>
    obtain ⟨k, hk, rfl, hown, hbr⟩ := hrel
    have hrow : wr.heap[B]? = some (.cells (b32 g) 71 (0, 0)) := by rw [hbr.block B (by have := HB.out; omega)]; exact h1
    by_cases hlt : k < 32
    · have hd : decide ((k : Int) < 32) = true := decide_eq_true (by omega)
      have i0' : (0 : Int) ≤ (k : Int) := by omega
      have i1 : (k : Int) < 32 := by omega
      have gc : wr.cell? ⟨B, k, none⟩ = some (.int .u8 ((g k).toNat : Int)) := by rw [cell_of_row _ _ _ _ _ _ hrow, b32_get g k hlt]
      have hx0 : Hid (hx g (2 * k) = Sha.dig ((g k).toNat / 16)) := by show _ = _; unfold hx; rw [if_pos (by omega), show 2 * k / 2 = k by omega]
      have hx1 : Hid (hx g (2 * k + 1) = Sha.dig ((g k).toNat % 16)) := by show _ = _; unfold hx; rw [if_neg (by omega), show (2 * k + 1) / 2 = k by omega]
      have hlt8 : (g k).toNat < 256 := (g k).toNat_lt
      obtain ⟨hi, hhi, ehi⟩ : ∃ hi : Nat, hi = (g k).toNat / 16 ∧ ((g k).toNat : Int) / 16 = (hi : Int) := ⟨(g k).toNat / 16, rfl, by omega⟩
      obtain ⟨lo, hlo, elo⟩ : ∃ lo : Nat, lo = (g k).toNat % 16 ∧ ((g k).toNat : Int) % 16 = (lo : Int) := ⟨(g k).toNat % 16, rfl, by omega⟩
      rw [← hhi] at hx0
      rw [← hlo] at hx1
      have whi : IntKind.u8.wrap (hi : Int) = (hi : Int) := by rw [IntKind.wrap_u8]; omega
      have elo2 : ((g k).toNat : Int).tmod 16 = (lo : Int) := by rw [Int.tmod_eq_emod_of_nonneg (by omega)]; exact elo
      have dhi := ixdig hi (by omega)
      have dlo := ixdig lo (by omega)
      have HX : Hid (vals (hp g (2 * (k + 1))) = vals (hp g (2 * k)) ++ [.int .u8 ((Sha.dig hi).toNat : Int), .int .u8 ((Sha.dig lo).toNat : Int)]) := by
        show _ = _; rw [hp_succ2, vals_append, hx0.out, hx1.out]; rfl
      clear hhi hlo hlt8 hrow
      have f1 : 2 * k + 2 ≤ maxLen := by unfold maxLen; omega
      have f2 : (2 * k + 2) * 1 ≤ 140737488355328 := by omega
      have f3 : W.heap.size ≤ wr.heap.size + 1 := by have := hbr.size; omega
      go_wp2_with fail
      have hBW : B < W.heap.size := by have := HB.out; omega
      go_region_held3 (fun w' => w'.cell? ⟨B, k, none⟩ = some (.int .u8 ((g k).toNat : Int))) (first | (go_keep; done) | exact gc | exact keepA hbr hBW gc | exact keepH hbr hown hBW gc hgrow)
        ((refine step_append_lies _ (by rfl) _ _ _ (by rfl) W.heap.size 5 i0 _ 1 1 Tryz.underlying67 hi0 hz0 hz1 hz2 rfl (by omega) _ (2 * k) (vals (hp g (2 * k))) (by rfl) ((hown.alloc _).drew) ⟨wr.heap.size, 0, none⟩ 2 2 [.int .u8 ((Sha.dig hi).toNat : Int), .int .u8 ((Sha.dig lo).toNat : Int)] (by rfl) (by rfl) (World.news_of_block (cs := #[.int .u8 ((Sha.dig hi).toNat : Int), .int .u8 ((Sha.dig lo).toNat : Int)]) (t := 5) (fr := (0, 0)) (heap_alloc_new wr _)) (by simp [Value.oneCell']) (by omega) f1 f2 (by simpa using f3) (wr.heap.size + 1) (by simp) ?_; intro gg cap w2 hown1 hgrow hat hlt2))
      all_goals
        have hb2 : Below W.heap.size W w2 := below2 hbr hown hgrow
        have hown2 : w2.ownsRow W.heap.size 5 1 (Value.slice (some { block := gg, off := 0 }) (2 * k + 2) cap) (2 * (k + 1)) (vals (hp g (2 * (k + 1)))) := by rw [HX.out]; exact hown1
        clear hgrow hat hlt2 hown1 hown
        go_wp2_with fail
        exact ⟨⟨k + 1, by omega, by go_num, hown2, hb2⟩, by simp [intOf]; omega⟩
    · obtain rfl : k = 32 := by omega
      have hd : decide ((32 : Int) < 32) = false := by decide
      have hcv := conv_own hown (by simp [hp])
      have HL : Hid (hp g (2 * 32) = hexL g) := rfl
      generalize hp g (2 * 32) = L at *
      go_wp2_with fail
      go_ret
      exact ⟨by rw [HL.out]; rfl, by subst hBB; exact hb0.trans (hbr.mono (by rw [HB.out]; omega))⟩
end Go.Proofs.YtkoaojhldcacbaaGreatDoorH

/- The reference: the hash that digits tell. -/
namespace Go.Proofs.YtkoaojhldcacbaaGreatDoorH
set_option maxRecDepth 100000
set_option linter.unusedVariables false
set_option linter.unusedSimpArgs false
open Go.RowKit
def dvK (c : UInt8) (q : Nat) : Int := if dval c < q then (dval c : Int) else -1
theorem dig_eq_all : ∀ n, n < 256 → ∀ k, k < 16 → (Sha.dig k == UInt8.ofNat n) = decide (dval (UInt8.ofNat n) = k) := by decide +kernel
theorem dig_eq (c : UInt8) (k : Nat) (hk : k < 16) : (((Sha.dig k).toNat : Int) == (c.toNat : Int)) = decide (dval c = k) := by
  have := dig_eq_all c.toNat c.toNat_lt k hk
  rw [UInt8.ofNat_toNat] at this
  rw [← this]
  by_cases h : Sha.dig k = c
  · subst h; simp
  · have h2 : ¬ (Sha.dig k).toNat = c.toNat := fun e => h (UInt8.toNat_inj.1 e)
    rw [beq_eq_false_iff_ne.2 h, beq_eq_false_iff_ne.2 (by omega)]
theorem isdig_dval_all : ∀ n, n < 256 → isdig (UInt8.ofNat n) = decide (dval (UInt8.ofNat n) < 16) := by decide +kernel
theorem isdig_dval (c : UInt8) : isdig c = decide (dval c < 16) := by
  have := isdig_dval_all c.toNat c.toNat_lt
  rwa [UInt8.ofNat_toNat] at this
/-- The hash behind the first i digits. -/
def hq (l : List UInt8) (i j : Nat) : UInt8 := if 2 * j + 2 ≤ i then pv l j else if 2 * j + 1 ≤ i then UInt8.ofNat (dval (l.getD (2 * j) 0)) else 0
theorem hq_zero (l : List UInt8) : b32 (hq l 0) = pb 32 (pv l) 0 := by
  unfold b32 pb
  apply Array.ext
  · simp
  · intro i h1 h2; simp [hq]
theorem hq_full (l : List UInt8) : b32 (hq l 64) = pb 32 (pv l) 32 := by
  unfold b32 pb
  apply Array.ext
  · simp
  · intro i h1 h2
    have : i < 32 := by simpa using h1
    have h62 : 2 * i ≤ 62 := by omega
    simp [hq, this, h62]
theorem b32_set (f g : Nat → UInt8) (j : Nat) (hj : j < 32) (h : ∀ i, i ≠ j → f i = g i) {q : Int} (hq : q = ((g j).toNat : Int)) : (b32 f).setIfInBounds j (.int .u8 q) = b32 g := by
  subst hq
  apply Array.ext_getElem?
  intro i
  by_cases hi : i < 32
  · by_cases e : j = i
    · subst e
      rw [Array.getElem?_setIfInBounds_self_of_lt (by unfold b32; rw [pb_size]; exact hi), b32_get g j hi]
    · rw [Array.getElem?_setIfInBounds_ne e, b32_get f i hi, b32_get g i hi, h i (by omega)]
  · rw [Array.getElem?_eq_none (by rw [Array.size_setIfInBounds]; unfold b32; rw [pb_size]; omega), Array.getElem?_eq_none (by unfold b32; rw [pb_size]; omega)]
theorem hq_other (l : List UInt8) (i j : Nat) (h : j ≠ i / 2) : hq l i j = hq l (i + 1) j := by
  unfold hq
  by_cases h1 : 2 * j + 2 ≤ i
  · rw [if_pos h1, if_pos (by omega)]
  · have h2 : ¬ 2 * j + 1 ≤ i := by omega
    have h3 : ¬ 2 * j + 2 ≤ i + 1 := by omega
    have h4 : ¬ 2 * j + 1 ≤ i + 1 := by omega
    rw [if_neg h1, if_neg h2, if_neg h3, if_neg h4]
theorem hq_lt (l : List UInt8) (i : Nat) (hd : digUpTo l i) : (hq l i (i / 2)).toNat < 16 := by
  unfold hq
  rw [if_neg (by omega)]
  by_cases h2 : 2 * (i / 2) + 1 ≤ i
  · rw [if_pos h2]
    have := dval_lt _ (hd (2 * (i / 2)) (by omega))
    rw [UInt8.toNat_ofNat']; omega
  · rw [if_neg h2]; decide
theorem hq_next (l : List UInt8) (i : Nat) (hd : digUpTo l i) (h1 : isdig (l.getD i 0) = true) : ((hq l (i + 1) (i / 2)).toNat : Int) = ((hq l i (i / 2)).toNat : Int) * 16 + (dval (l.getD i 0) : Int) := by
  have hv := dval_lt _ h1
  by_cases h2 : 2 * (i / 2) + 1 ≤ i
  · have e0 : hq l i (i / 2) = UInt8.ofNat (dval (l.getD (2 * (i / 2)) 0)) := by unfold hq; rw [if_neg (by omega), if_pos h2]
    have e1 : hq l (i + 1) (i / 2) = pv l (i / 2) := by unfold hq; rw [if_pos (by omega)]
    have hv0 := dval_lt _ (hd (2 * (i / 2)) (by omega))
    have e2 : i = 2 * (i / 2) + 1 := by omega
    rw [e0, e1]
    unfold pv
    rw [← e2, UInt8.toNat_ofNat', UInt8.toNat_ofNat']
    omega
  · have e0 : hq l i (i / 2) = 0 := by unfold hq; rw [if_neg (by omega), if_neg h2]
    have e1 : hq l (i + 1) (i / 2) = UInt8.ofNat (dval (l.getD (2 * (i / 2)) 0)) := by unfold hq; rw [if_neg (by omega), if_pos (by omega)]
    have e2 : i = 2 * (i / 2) := by omega
    rw [e0, e1, ← e2, UInt8.toNat_ofNat']
    have : (0 : UInt8).toNat = 0 := rfl
    rw [this]; omega
theorem idxdigI : ∀ n : Nat, n < 16 → ∀ w, (ixS (.string ⟨#[48, 49, 50, 51, 52, 53, 54, 55, 56, 57, 97, 98, 99, 100, 101, 102]⟩) (.int .i64 (n : Int))).run Tryz.prog w = .ok (.int .u8 ((Sha.dig n).toNat : Int)) w := by
  intro n h w
  show (Instr.index 9 _ _).run Tryz.prog w = _
  have hall : n = 0 ∨ n = 1 ∨ n = 2 ∨ n = 3 ∨ n = 4 ∨ n = 5 ∨ n = 6 ∨ n = 7 ∨ n = 8 ∨ n = 9 ∨ n = 10 ∨ n = 11 ∨ n = 12 ∨ n = 13 ∨ n = 14 ∨ n = 15 := by omega
  rcases hall with rfl | rfl | rfl | rfl | rfl | rfl | rfl | rfl | rfl | rfl | rfl | rfl | rfl | rfl | rfl | rfl <;> (rw [run_index_string _ _ _ _ _ Tryz.underlying9]; rfl)
theorem idxsS (s : ByteArray) (l : List UInt8) (hl : l = s.data.toList) (p : Nat) (h : p < s.size) (w : World) : (ixS (.string s) (.int .i64 (p : Int))).run Tryz.prog w = .ok (.int .u8 ((l.getD p 0).toNat : Int)) w := idxs s l hl p h w
theorem res17 {tmps : Array Value} {w : World} {g : Nat} {A : Array Value} {t : TypeId} (b : Bool) (hp : tmps.getD 2 undef = .pointer (some ⟨g, 0, none⟩)) (hb : tmps.getD 3 undef = .bool b) (hg : w.heap[g]? = some (.cells A t (0, 0))) (hi : (Tryz.prog.info? 71).map (·.size) = some A.size) :
    (results Tryz.f79 tmps).run Tryz.prog w = .ok (.tuple #[.agg A, .bool b]) w := by
  have hp' : tmps[2]?.getD undef = .pointer (some ⟨g, 0, none⟩) := by simpa using hp
  have hb' : tmps[3]?.getD undef = .bool b := by simpa using hb
  have hl := run_loadVar_row (P := Tryz.prog) w g t 71 A (0, 0) _ hg Tryz.underlying71 rfl hi
  simp [results, Tryz.results79, hp', hb', asAddr, hl]
attribute [local go_sem ↓] ix9
attribute [local go_sem ↓] Go.wp_at_zero Go.wp_at_succ
set_option maxHeartbeats 1000000 in
set_option maxRecDepth 8000 in
theorem refParse_any (s : ByteArray) (w : World) (hs : s.size ≤ 9223372036854775807) :
    Calls Tryz.prog 79 #[.string s] w fun e w' => e = .returned (.tuple #[.agg (parsed s.data.toList), .bool (okL s.data.toList)]) ∧ Below w.heap.size w w' := by
  obtain ⟨l, hl⟩ : ∃ l, l = s.data.toList := ⟨_, rfl⟩
  rw [← hl]
  have HL : Hid (l = s.data.toList) := hl
  clear hl
  by_cases h64 : s.size = 64
  · have hne : ((s.size : Int) != 64) = false := by rw [bne_eq_false_iff_eq]; omega
    have H64 : Hid (s.size = 64) := h64
    clear h64
    go_enter Tryz.func79, Tryz.ntmps79
    go_wp2_with fail
    rw [← pb32 (pv l)]
    obtain ⟨W, hW, hb, h1, h2⟩ : ∃ W, W = (w.alloc (Obj.cells (pb 32 (pv l) 0) 71)).alloc (Obj.cells (pb 32 (pv l) 0) 71) ∧ Below w.heap.size w W ∧ W.heap[w.heap.size]? = some (.cells (pb 32 (pv l) 0) 71 (0, 0)) ∧ W.heap[w.heap.size + 1]? = some (.cells (pb 32 (pv l) 0) 71 (0, 0)) :=
      ⟨_, rfl, ((Below.refl _ _).alloc (Nat.le_refl _) _).alloc (by simp) _, heap_alloc2_old _ _ _, heap_alloc2_new _ _ _⟩
    rw [← hW]
    clear hW
    rw [← hq_zero] at h2
    generalize hB : w.heap.size = B at *
    go_loopw [5] (fun i wr => ∃ k : Nat, k ≤ 64 ∧ i = .int .i64 k ∧ digUpTo l k ∧ Below B w wr ∧ wr.heap[B]? = some (.cells (pb 32 (pv l) 0) 71 (0, 0)) ∧ wr.heap[B + 1]? = some (.cells (b32 (hq l k)) 71 (0, 0))) (fun i _ => 64 - (intOf i).toNat)
    case atStart => exact ⟨0, by omega, rfl, fun j hj => absurd hj (by omega), hb, h1, h2⟩
    case round =>
      clear hb h1 h2
      obtain ⟨k, hk, rfl, hdig, hb, h1, h2⟩ := hrel
      have HD : Hid (digUpTo l k) := hdig
      clear hdig
      by_cases hlt : k < 64
      · have hd : decide ((k : Int) < 64) = true := decide_eq_true (by omega)
        have x1 := idxsS s l HL.out k (by have := H64.out; omega)
        obtain ⟨c, hc⟩ : ∃ c, c = l.getD k 0 := ⟨_, rfl⟩
        rw [← hc] at x1
        have HC : Hid (c = l.getD k 0) := hc
        clear hc
        go_wp2_with fail
        go_loopw [6, 7] (fun v i wr => ∃ q : Nat, q ≤ 16 ∧ i = .int .i64 q ∧ v = .int .i64 (dvK c q) ∧ Below B w wr ∧ wr.heap[B]? = some (.cells (pb 32 (pv l) 0) 71 (0, 0)) ∧ wr.heap[B + 1]? = some (.cells (b32 (hq l k)) 71 (0, 0))) (fun _ i _ => 16 - (intOf i).toNat)
        case atStart => exact ⟨0, by omega, rfl, by unfold dvK; rw [if_neg (by omega)], hb, h1, h2⟩
        case round =>
          clear hb h1 h2
          obtain ⟨q, hq16, rfl, rfl, hb, h1, h2⟩ := hrel
          by_cases hlq : q < 16
          · have hd2 : decide ((q : Int) < 16) = true := decide_eq_true (by omega)
            have x2 := idxdigI q hlq
            have hE := dig_eq c q hlq
            by_cases he : dval c = q
            · have hE1 : (((Sha.dig q).toNat : Int) == (c.toNat : Int)) = true := by rw [hE, decide_eq_true he]
              have HV : Hid (dvK c (q + 1) = (q : Int)) := by show _ = _; unfold dvK; rw [if_pos (by omega), he]
              clear hE he
              go_wp2_with fail
              go_quiet (fail)
              go_wp2_with fail
              exact ⟨⟨q + 1, by omega, by go_num, by rw [HV.out], ⟨hb.os, hb.tape, hb.output, hb.size, hb.block⟩, h1, h2⟩, by simp [intOf]; omega⟩
            · have hE1 : (((Sha.dig q).toNat : Int) == (c.toNat : Int)) = false := by rw [hE, decide_eq_false he]
              have HV : Hid (dvK c (q + 1) = dvK c q) := by
                show _ = _; unfold dvK
                by_cases h : dval c < q
                · rw [if_pos h, if_pos (by omega)]
                · rw [if_neg h, if_neg (by omega)]
              clear hE he
              go_wp2_with fail
              go_quiet (fail)
              go_wp2_with fail
              exact ⟨⟨q + 1, by omega, by go_num, by rw [HV.out], ⟨hb.os, hb.tape, hb.output, hb.size, hb.block⟩, h1, h2⟩, by simp [intOf]; omega⟩
          · obtain rfl : q = 16 := by omega
            have hd2 : decide ((16 : Int) < 16) = false := by decide
            cases hc0 : isdig c
            · have ev : dvK c 16 = -1 := by unfold dvK; rw [if_neg]; rw [isdig_dval] at hc0; simpa using hc0
              have hno : okL l = false := okL_false (j := k) (by rw [HL.out]; have := H64.out; simpa using (by omega : k < s.size)) (by rw [← HC.out]; exact hc0)
              clear hc0
              go_wp2_with (refine wpList_store_row rfl 71 _ _ rfl _ _ rfl rfl 71 _ h1 info22 (zero_size _ rfl) (zero_one (pv l) (pb32 _)) ?_)
              refine bodyPost_ret (v := .tuple #[.agg (parsed l), .bool (okL l)]) ?_ rfl ⟨rfl, by subst hB; exact below_setRow hb (Nat.le_refl _) _⟩
              rw [hno, parsed_no hno (pv l), pb32]
              exact res17 false rfl rfl (setRow_heap _ _ _ _ _ _ h1) info22
            · obtain ⟨d, hdd, hd16, ev⟩ : ∃ d : Nat, d = dval c ∧ d < 16 ∧ dvK c 16 = (d : Int) := ⟨dval c, rfl, dval_lt c hc0, by unfold dvK; rw [if_pos (dval_lt c hc0)]⟩
              have t0 : decide ((d : Int) < 0) = false := by simp
              have hnx := hq_next l k HD.out (by rw [← HC.out]; exact hc0)
              rw [← HC.out, ← hdd] at hnx
              have hxl := hq_lt l k HD.out
              have gc : wr.cell? ⟨B + 1, k / 2, none⟩ = some (.int .u8 ((hq l k (k / 2)).toNat : Int)) := by rw [cell_of_row _ _ _ _ _ _ h2, b32_get _ _ (by omega)]
              have g5 : wr.frozen? ⟨B + 1, k / 2, none⟩ = false := frozen_of_row _ _ _ _ _ h2
              obtain ⟨x, hx⟩ : ∃ x, x = (hq l k (k / 2)).toNat := ⟨_, rfl⟩
              rw [← hx] at gc hxl hnx
              have HX : Hid (((hq l (k + 1) (k / 2)).toNat : Int) = (x : Int) * 16 + (d : Int)) := hnx
              have HD2 : Hid (digUpTo l (k + 1)) := by
                intro j hj
                by_cases e : j < k
                · exact HD.out j e
                · rw [show j = k by omega, ← HC.out]; exact hc0
              clear hnx hx hdd hc0
              go_wp2_with fail
              refine ⟨⟨k + 1, by omega, by go_num, HD2.out, hb.setCell (by show B ≤ B + 1; omega) _, ?_, ?_⟩, by simp [intOf]; omega⟩
              · rw [Below.heap_setCell _ _ _ _ (by show B ≠ B + 1; omega), h1]
              · rw [cell_set _ _ _ _ _ _ h2, b32_set _ _ _ (by omega) (fun i hi => hq_other l k i hi) HX.out.symm]
      · obtain rfl : k = 64 := by omega
        have hd : decide ((64 : Int) < 64) = false := by decide
        have hs32 : (pb 32 (pv l) 32).size = 32 := pb_size 32 _ 32
        have ho : (pb 32 (pv l) 32).all (·.oneCell') = true := pb_one 32 _ 32
        have hz : (pb 32 (pv l) 0).size = (pb 32 (pv l) 32).size := by rw [pb_size, pb_size]
        have hyes : okL l = true := okL_true (by rw [HL.out]; simpa using H64.out) HD.out
        have e8 : Hid (pb 32 (pv l) 32 = parsed l) := by show _ = _; unfold parsed; rw [hyes]; rfl
        rw [hq_full] at h2
        generalize pb 32 (pv l) 32 = A at *
        have hi : (Tryz.prog.info? 71).map (·.size) = some A.size := by rw [hs32]; exact info22
        go_wp2_with (first
          | (refine wpList_load_row rfl 71 _ rfl _ rfl 71 _ (0, 0) _ h2 Tryz.underlying71 rfl hi ?_)
          | (refine wpList_store_row rfl 71 _ _ rfl _ _ rfl rfl 71 _ h1 hi hz ho ?_))
        refine bodyPost_ret (v := .tuple #[.agg (parsed l), .bool (okL l)]) ?_ rfl ⟨rfl, by subst hB; exact below_setRow hb (Nat.le_refl _) _⟩
        rw [hyes, ← e8.out]
        exact res17 true rfl rfl (setRow_heap _ _ _ _ _ _ h1) hi
  · have hno : okL l = false := okL_len (by rw [HL.out]; simpa using h64)
    have hne : ((s.size : Int) != 64) = true := by rw [bne_iff_ne]; omega
    go_enter Tryz.func79, Tryz.ntmps79
    go_wp2_with (first
      | (refine wpList_load_row rfl 71 _ rfl _ rfl 71 _ (0, 0) _ (heap_alloc2_new _ _ _) Tryz.underlying71 rfl info22 ?_)
      | (refine wpList_store_row rfl 71 _ _ rfl _ _ rfl rfl 71 _ (heap_alloc2_old _ _ _) info22 rfl (zero_one (pv l) (pb32 _)) ?_))
    refine bodyPost_ret (v := .tuple #[.agg (parsed l), .bool (okL l)]) ?_ rfl ⟨rfl, below_setRow (((Below.refl _ _).alloc (Nat.le_refl _) _).alloc (by simp) _) (Nat.le_refl _) _⟩
    rw [hno, parsed_no hno (pv l), pb32]
    exact res17 false rfl rfl (setRow_heap _ _ _ _ _ _ (heap_alloc2_old _ _ _)) info22
end Go.Proofs.YtkoaojhldcacbaaGreatDoorH
