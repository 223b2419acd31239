/- slices.Backward over a list of versions; newest. -/
import Derived.Test.YtgcdnanfnbdjjaaGreatPlc
import Derived.RangeFuncNested
import Derived.RangeFuncBound
import Derived.RangeFuncCalls
import Derived.RangeFuncLeaves
import Derived.RangeFuncBox
import Derived.Shelf.Abstract
import Derived.Shelf.RegionOpen
import Derived.OwnWalkIn
import Derived.TacticsInMore
import Derived.LoopNIn
import Derived.LoopIn
namespace Go.Proofs.YtgcdnanfnbdjjaaGreat
set_option linter.unusedVariables false
set_option linter.unusedSimpArgs false
open Go.RowKit Go.Shelf
attribute [local go_sem] Oper.semAt_some
/-- a version as it is handed on -/
structure Xv where
  v : Vs
  a : Option Addr
  c : Nat
abbrev Xv.val (x : Xv) : Value := vv x.v.key x.v.seq x.v.mkr x.v.data x.a x.v.l.length x.c
/-- the cells of the version at place k -/
def At5 (w : World) (b off k : Nat) (x : Xv) : Prop := w.cell? ⟨b, off + k * 5, none⟩ = some (str x.v.key) ∧ w.cell? ⟨b, off + k * 5 + 1, none⟩ = some (.int .i64 x.v.seq) ∧ w.cell? ⟨b, off + k * 5 + 2, none⟩ = some (.bool x.v.mkr) ∧ w.cell? ⟨b, off + k * 5 + 3, none⟩ = some (str x.v.data) ∧ w.cell? ⟨b, off + k * 5 + 4, none⟩ = some (.slice x.a x.v.l.length x.c)
theorem At5.low {w w' : World} {b off k : Nat} {x : Xv} {n : Nat} (h : At5 w b off k x) (hb : Below n w w') (hn : b < n) : At5 w' b off k x :=
  ⟨(hb.cell (p := ⟨b, _, none⟩) hn).trans h.1, (hb.cell (p := ⟨b, _, none⟩) hn).trans h.2.1, (hb.cell (p := ⟨b, _, none⟩) hn).trans h.2.2.1, (hb.cell (p := ⟨b, _, none⟩) hn).trans h.2.2.2.1, (hb.cell (p := ⟨b, _, none⟩) hn).trans h.2.2.2.2⟩
theorem LIn.fn {w : World} {a : Option Addr} {L : List Vs} (h : LIn w a L) : ∃ E : Nat → Xv, ∀ k v, L[k]? = some v → (E k).v = v ∧ Sl w (E k).a (E k).c v.l ∧ ∃ b off, a = some ⟨b, off, none⟩ ∧ b < w.heap.size ∧ At5 w b off k (E k) := by
  classical
  have h2 : ∀ k, ∃ x : Xv, ∀ v, L[k]? = some v → x.v = v ∧ Sl w x.a x.c v.l ∧ ∃ b off, a = some ⟨b, off, none⟩ ∧ b < w.heap.size ∧ At5 w b off k x := fun k => by
    cases hk : L[k]? with
    | none => exact ⟨⟨vs0, none, 0⟩, fun v hv => by cases hv⟩
    | some v =>
      obtain ⟨b, off, ma, mc, h1, h2, c0, c1, c2, c3, c4, s⟩ := h.get k v hk
      refine ⟨⟨v, ma, mc⟩, fun u hu => ?_⟩
      injection hu with hu
      subst hu
      exact ⟨rfl, s, b, off, h1, h2, c0, c1, c2, c3, c4⟩
  exact ⟨fun k => Classical.choose (h2 k), fun k v hv => Classical.choose_spec (h2 k) v hv⟩
def upz {α : Type} (f : Nat → α) (k : Nat) : List α := (List.range k).map f
theorem upz_succ {α : Type} (f : Nat → α) (k : Nat) : upz f (k + 1) = upz f k ++ [f k] := by simp [upz, List.range_succ]
theorem upz_length {α : Type} (f : Nat → α) (k : Nat) : (upz f k).length = k := by simp [upz]
/-- what a round keeps: what lay below, and the box with the list -/
def KB (n₀ Bs : Nat) (W W' : World) : Prop := Below n₀ W W' ∧ W'.heap[Bs]? = W.heap[Bs]?
theorem KB.t {n₀ Bs : Nat} {A B C : World} (h : KB n₀ Bs A B) (h2 : KB n₀ Bs B C) : KB n₀ Bs A C := ⟨h.1.trans h2.1, h2.2.trans h.2⟩
theorem KB.b {n₀ Bs : Nat} {w : World} (hn : n₀ ≤ w.heap.size) (hB : Bs < w.heap.size) : ∀ (W : World) (l : Nat) (o o' : Obj), w.heap.size ≤ l → W.heap[l]? = some o → o.isCells = false → o.isWalk = false → KB n₀ Bs W (W.putObj l o') := fun W l o o' hl ho h1 h2 =>
  ⟨belowK_b (w := w) hn W l o o' hl ho h1 h2, World.putObj_heap_other (by omega)⟩
abbrev bkF (E : Nat → Xv) (len : Nat) : Nat → Nat × Xv := fun j => (len - 1 - j, E (len - 1 - j))
set_option maxRecDepth 100000 in
set_option maxHeartbeats 2000000 in
theorem back1_in (n : Nat) (hn : 1 ≤ n) (l Bs n₀ len cap : Nat) (a : Option Addr) (E : Nat → Xv) (hreach : len ≤ 1954687338300) (J Jx : List (Nat × Xv) → World → Prop)
    (hY : ∀ pre x W, J pre W → pre.length < len → YieldAt Fence.wide (n - 1) Tryz.prog l #[.int .i64 (x.1 : Int), x.2.val] W fun e W' =>
      (e = .returned (.bool true) ∧ J (pre ++ [x]) W' ∧ KB n₀ Bs W W') ∨ (e = .returned (.bool false) ∧ Jx (pre ++ [x]) W'))
    (W : World) (hBs : W.heap[Bs]? = some (.cells #[.slice a len cap] 22 (0, 0))) (hc : ∀ j, j < len → ∃ b off, a = some ⟨b, off, none⟩ ∧ b < n₀ ∧ At5 W b off j (E j)) (h0 : J [] W) :
    CallsIn Fence.wide n Tryz.prog 94 #[.func (.yield l) #[] #[], .pointer (some ⟨Bs, 0, none⟩)] W fun e W' => (∃ v, e = .returned v) ∧
      ((∃ ys, ys = upz (bkF E len) len ∧ J ys W') ∨ (∃ pre, (∃ k, k ≤ len ∧ pre = upz (bkF E len) k) ∧ Jx pre W')) := by
  have hcb := cell_of_row _ _ 0 _ _ _ hBs
  have hcb' : W.cell? ⟨Bs, 0, none⟩ = some (.slice a len cap) := hcb
  clear hcb
  refine callsIn_of_wp Tryz.func94 rfl trivial ?_ rfl
  simp only [Tryz.ntmps94, List.size_toArray, List.length_cons, List.length_nil, Nat.reduceAdd, Nat.reduceSub, Array.replicate_succ, Array.replicate_zero, List.push_toArray, List.append_toArray, List.nil_append, List.cons_append]
  gi_wp2
  have hw0 : wrap64 ((len : Int) - 1) = (len : Int) - 1 := by unfold wrap64; omega
  gi_loopw [3] (fun i wr => ∃ k : Nat, k ≤ len ∧ i = .int .i64 ((len : Int) - 1 - (k : Int)) ∧ J (upz (bkF E len) k) wr ∧ KB n₀ Bs W wr)
    (fun i _ => (intOf i + 1).toNat)
  case atStart => exact ⟨0, Nat.zero_le _, by simp, h0, Below.refl _ _, rfl⟩
  case round =>
    obtain ⟨k, hk, rfl, hJs, hnx⟩ := hrel
    have hbx : wr.cell? ⟨Bs, 0, none⟩ = some (.slice a len cap) := by
      rw [cell_of_row _ _ 0 _ _ _ (hnx.2.trans hBs)]; rfl
    by_cases hlt : k < len
    · obtain ⟨fn, tmps, assign, body, hy, hR⟩ := hY _ (len - 1 - k, E (len - 1 - k)) wr hJs (by rw [upz_length]; exact hlt)
      dsimp only [Xv.val, vv] at hy
      obtain ⟨b, off, rfl, hb, h5⟩ := hc (len - 1 - k) (by omega)
      obtain ⟨c0, c1, c2, c3, c4⟩ := h5.low hnx.1 hb
      have d0 : decide ((0 : Int) ≤ (len : Int) - 1 - (k : Int)) = true := decide_eq_true (by omega)
      have e0 : (len : Int) - 1 - (k : Int) = ((len - 1 - k : Nat) : Int) := by omega
      have k2 : ((len - 1 - k : Nat) : Int) < (len : Int) := by omega
      have hw1 : wrap64 (((len - 1 - k : Nat) : Int) - 1) = (len : Int) - 1 - ((k + 1 : Nat) : Int) := by unfold wrap64; omega
      rw [e0] at d0 ⊢
      have hup : upz (bkF E len) (k + 1) = upz (bkF E len) k ++ [(len - 1 - k, E (len - 1 - k))] := upz_succ (bkF E len) k
      have hls : Hid (((len - 1 - k : Nat) : Int) = (len : Int) - 1 - (k : Int)) := ⟨by omega⟩
      generalize len - 1 - k = m at *
      clear hcb' h0 hBs hc e0
      gi_wp2
      refine hR.mono ?_
      rintro e W3 (⟨rfl, hJ3, hk3⟩ | ⟨rfl, hJx3⟩)
      · gi_wp2
        go_roundw
        case rel => exact ⟨k + 1, by omega, by have hq := hls.out; congr 1; omega, by rw [hup]; exact hJ3, hnx.t hk3⟩
        case measure =>
          have hq := hls.out
          simp only [intOf]
          omega
      · gi_wp2
        refine bodyPost_ret (results_none rfl _ _ _) rfl ?_
        exact ⟨⟨_, rfl⟩, .inr ⟨_, ⟨k + 1, by omega, hup.symm⟩, hJx3⟩⟩
    · obtain rfl : k = len := by omega
      have d0 : decide ((0 : Int) ≤ (k : Int) - 1 - (k : Int)) = false := decide_eq_false (by omega)
      gi_wp2
      go_end0
      exact ⟨⟨_, rfl⟩, .inl ⟨_, rfl, hJs⟩⟩
set_option maxHeartbeats 1000000 in
theorem back_in (n : Nat) (a : Option Addr) (len cap : Nat) (w : World) :
    CallsIn Fence.wide n Tryz.prog 83 #[.slice a len cap] w fun e w' => e = .returned (.func (.func 94) #[] #[.pointer (some ⟨w.heap.size, 0, none⟩)]) ∧ w' = w.alloc (.cells #[.slice a len cap] 22) := by
  refine callsIn_of_wp Tryz.func83 rfl trivial ?_ rfl
  simp only [Tryz.ntmps83, List.size_toArray, List.length_cons, List.length_nil, Nat.reduceAdd, Nat.reduceSub, Array.replicate_succ, Array.replicate_zero, List.push_toArray, List.append_toArray, List.nil_append, List.cons_append]
  gi_wp2
  go_ret
  exact ⟨rfl, rfl⟩
theorem back_stops (n : Nat) (hn : 1 ≤ n) (Bs n₀ len cap : Nat) (a : Option Addr) (E : Nat → Xv) (hreach : len ≤ 1954687338300) (w : World) (hn₀ : n₀ ≤ w.heap.size)
    (hBs : w.heap[Bs]? = some (.cells #[.slice a len cap] 22 (0, 0))) (hc : ∀ j, j < len → ∃ b off, a = some ⟨b, off, none⟩ ∧ b < n₀ ∧ At5 w b off j (E j)) :
    SeqStopsK Fence.wide n Tryz.prog 94 #[.pointer (some ⟨Bs, 0, none⟩)] (fun x : Nat × Xv => #[Value.int .i64 (x.1 : Int), x.2.val]) (KB n₀ Bs) (fun ys => ys = upz (bkF E len) len) (fun pre => ∃ k, k ≤ len ∧ pre = upz (bkF E len) k) len w := fun l J Jx W hW _ _ hY h0 => by
  have hB' : W.heap[Bs]? = some (.cells #[.slice a len cap] 22 (0, 0)) := (hW.block Bs (lt_of_block hBs)).trans hBs
  refine back1_in n hn l Bs n₀ len cap a E hreach J Jx hY W hB' (fun j hj => ?_) h0
  obtain ⟨b, off, h1, h2, h3⟩ := hc j hj
  exact ⟨b, off, h1, h2, h3.low hW (by omega)⟩
end Go.Proofs.YtgcdnanfnbdjjaaGreat
