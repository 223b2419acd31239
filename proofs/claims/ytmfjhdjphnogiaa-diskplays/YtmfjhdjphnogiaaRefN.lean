/- The document's disk: New. -/
import Derived.Test.YtmfjhdjphnogiaaRefE
namespace Go.Proofs.Ytmfjhdjphnogiaa
set_option linter.unusedVariables false
set_option linter.unusedSimpArgs false
open Go.RowKit
theorem rNew_bad (n : Int) (w : World) (h : n < 1 ∨ 8192 < n) : Calls Try.prog 23 #[.int .i64 n] w fun e w' => e = .returned (.tuple #[.pointer none, .int .i64 1]) ∧ w' = w := by
  go_enter Try.func23, Try.ntmps23
  go_wp2
  all_goals first
    | (exfalso; omega)
    | (go_ret2; exact ⟨rfl, rfl⟩)
/-- a text more in a row of texts -/
theorem app_str {ops : Array Oper} {rest : List Oper} {o : Oper} {a : Act} {Q : Exit → Act → World → Prop} {w w0 : World} {v : Value} {l : List ByteArray} {g : Nat} {t : ByteArray}
    (hw : w0 = w.alloc (.cells #[.string t] 9)) (hg : g = w.heap.size) (hown : w.ownsRow 0 9 1 v l.length (strv l)) (hn : l.length ≤ 8192)
    (hgd : o.guard = none) (s x : Operand) (ho : o.op = .call { callee := .builtin .append, args := #[s, x], argTypes := #[61, 61] })
    (hs : a.eval s = v) (hx : a.eval x = .slice (some ⟨g, 0, none⟩) 1 1)
    (h : ∀ y cap w', w'.ownsRow 0 9 1 (rw_ y (l.length + 1) cap) (l.length + 1) (strv (l ++ [t])) → w.grownBy w' v.ownBlock → (v.ownBlock = some y ∨ w.heap.size ≤ y) → wpList Try.prog ops Q rest (a.put o.dst (rw_ y (l.length + 1) cap)) w') : wpList Try.prog ops Q (o :: rest) a w0 := by
  subst hw hg
  obtain ⟨i0, hi0, hz0, hz1, hz2⟩ := info_parts infoSf
  have hm : maxLen = 9223372036854775807 := rfl
  refine wp_append_at Try.underlying61 hi0 hz0 hz1 hz2 rfl (by omega) 0 (hown.alloc _) (news := [.string t]) rfl
    (World.news_of_block (cs := #[.string t]) (t := 9) (fr := (0, 0)) (heap_alloc_new w _)) (by simp [Value.oneCell']) (by rw [hm]; omega) (by omega) (Nat.zero_le _) hgd s x ho hs hx ?_
  intro v' w' q1 q2 _ q4
  have q1' : w'.ownsRow 0 9 1 v' (l.length + 1) (strv (l ++ [t])) := by unfold strv; rw [List.map_append]; exact q1
  rcases q1'.2 with ⟨_, h0⟩ | ⟨y, cap, cur, rfl, _⟩
  · simp at h0
  · exact h y cap w' q1' ((World.grownBy_alloc _ _ _).trans q2) ((q4 y rfl).imp id (fun e => by simp at e; omega))
/-- while it is made -/
structure NI (w : World) (P : Nat) (z : ByteArray) (k : Nat) (v : Value) (A : World) : Prop where
  raw : RRaw A ⟨P, v, .slice none 0 0⟩ (List.replicate k z) [] false false 0
  bel : Below w.heap.size w A
  far : ∀ i, v.ownBlock = some i → w.heap.size ≤ i
set_option maxRecDepth 100000 in
theorem rNew_any (n : Nat) (w : World) (h1 : 1 ≤ n) (h2 : n ≤ 8192) : Calls Try.prog 23 #[.int .i64 (n : Int)] w fun e w' => ∃ R, e = .returned (.tuple #[pt R.p, .int .i64 0]) ∧ RefAt w' R (fresh n) ∧ Below w.heap.size w w' ∧ ∀ k, R.foot k → w.heap.size ≤ k := by
  have hn1 : ¬ ((n : Int) < 1) := by omega
  have hn2 : ¬ ((8192 : Int) < n) := by omega
  obtain ⟨i0, hi0, hz0, hz1, hz2⟩ := info_parts infoBf
  have hm : maxLen = 9223372036854775807 := rfl
  obtain ⟨Z, hZ⟩ : ∃ Z, Z = (vals (List.replicate 512 0)).toArray := ⟨_, rfl⟩
  have HZ0 : Hid (Z = (vals (List.replicate 512 0)).toArray) := ⟨hZ⟩
  have hmk : (Instr.makeSlice 69 (.int .i64 512) (.int .i64 512)).run Try.prog w = .ok (.slice (some ⟨w.heap.size, 0, none⟩) 512 512) (w.alloc (.cells Z 5)) := by
    have h := run_make (P := Try.prog) w 69 5 i0 (.int .u8 0) Try.underlying69 hi0 hz0 .i64 .i64 512 512 (by omega) (Int.le_refl _) (by rw [hz2]; omega) (by omega)
    rw [hz1, Nat.mul_one] at h
    have e : madeCells (Value.int .u8 0).cells (512 : Int).toNat = Z := by
      rw [hZ]
      apply Array.ext'
      show (madeCells #[Value.int .u8 0] 512).toList = _
      rw [toList_madeCells_one]
      simp [vals]
    rw [e] at h
    exact h
  have hob : (w.alloc (.cells Z 5)).heap[w.heap.size]? = some (.cells Z 5 (0, 0)) := heap_alloc_new w _
  obtain ⟨z0, hz⟩ : ∃ z, z = fl 0 := ⟨_, rfl⟩
  have HZ : Hid (z0 = fl 0) := ⟨hz⟩
  have hcv : (convert 69 9 (.slice (some ⟨w.heap.size, 0, none⟩) 512 512)).run Try.prog (w.alloc (.cells Z 5)) = .ok (.string z0) (w.alloc (.cells Z 5)) := by
    have ho : (w.alloc (.cells Z 5)).ownsRow 0 5 1 (.slice (some ⟨w.heap.size, 0, none⟩) 512 512) (List.replicate 512 (0 : UInt8)).length (vals (List.replicate 512 0)) := by
      have h := World.ownsRow_lit (base := 0) (e := 5) (size := 1) w Z 512 (Nat.zero_le _) (by rw [hm]; omega) (by rw [hZ]; simp [vals])
      rw [List.length_replicate]
      rw [hZ] at h ⊢
      exact h
    have h := conv_own ho
    rw [hz]
    exact h
  have bA : Below w.heap.size w (w.alloc (.cells Z 5)) := (Below.refl _ _).alloc (Nat.le_refl _) _
  have sA : (w.alloc (.cells Z 5)).heap.size = w.heap.size + 1 := by simp
  clear hZ hz hob hi0 hz0 hz1 hz2
  go_enter Try.func23, Try.ntmps23
  go_wp2
  generalize hA : w.alloc (.cells Z 5) = A at *
  generalize hPP : w.heap.size + 1 = P at *
  have N0 : Hid (NI w P z0 0 (.slice none 0 0) (A.alloc (.cells #[.slice none 0 0, .slice none 0 0, .bool false, .bool false, .int .i64 0] 75))) :=
    ⟨⟨⟨by rw [← sA]; exact heap_alloc_new A _, World.ownsRow_nil _ _ _ _, World.ownsRow_nil _ _ _ _, by simp [Value.ownBlock], by simp [Value.ownBlock], by simp [Value.ownBlock]⟩, bA.alloc bA.size _, by simp [Value.ownBlock]⟩⟩
  have HB : Hid (w.heap.size ≤ P) := ⟨by omega⟩
  clear hA bA sA hmk hcv hPP
  go_loopw [6] (fun i wr => ∃ k : Nat, k ≤ n ∧ i = .int .i64 k ∧ ∃ v, Hid (NI w P z0 k v wr)) (fun i _ => n - (intOf i).toNat)
  case atStart => exact ⟨0, Nat.zero_le _, rfl, _, N0⟩
  case round =>
    obtain ⟨k, hk, rfl, v, R⟩ := hrel
    obtain ⟨va, vc, rfl⟩ : ∃ a c, v = .slice a k c := by have := own_slice R.out.raw.safe; rw [List.length_replicate] at this; exact this
    by_cases hlt : k < n
    · have hi : (k : Int) < n := by omega
      have hw1 : wrap64 ((k : Int) + 1) = ((k + 1 : Nat) : Int) := by unfold wrap64; omega
      have c0 : wr.cell? ⟨P, 0, none⟩ = some (.slice va k vc) := R.out.raw.cell 0
      have f0 : wr.frozen? ⟨P, 0, none⟩ = false := R.out.raw.frozen 0
      have hPw : P < wr.heap.size := R.out.raw.lt _ (.inl rfl)
      go_wp2_with (at_builtin; refine app_str (g := wr.heap.size) rfl rfl R.out.raw.safe (by rw [List.length_replicate]; omega) rfl _ _ rfl rfl rfl ?_; intro y cap w4 q1 q2 q3; have c4 := q2.cell (R.out.raw.cell 0) (by intro e; exact R.out.raw.a1 e.symm); have f4 : w4.frozen? ⟨P, 0, none⟩ = false := (q2.frozen_far ⟨P, 0, none⟩ (R.out.raw.lt _ (.inl rfl)) (by intro e; exact R.out.raw.a1 e.symm)).trans (R.out.raw.frozen 0))
      rw [List.length_replicate] at q1
      have nfy : y ≠ P := by
        rintro rfl
        rcases q3 with h | h
        · exact R.out.raw.a1 h
        · omega
      have hy : w.heap.size ≤ y := by
        rcases q3 with h | h
        · exact R.out.far _ h
        · exact Nat.le_trans R.out.bel.size h
      have fr4 : Fr (fun i => (Value.slice va k vc).ownBlock = some i) wr w4 := Fr.of_grown q2 (fun i hi => hi)
      have b4 := fr4.heap R.out.raw.blk R.out.raw.a1
      have N1 : Hid (NI w P z0 (k + 1) (rw_ y (k + 1) cap) (w4.setCell ⟨P, 0, none⟩ (rw_ y (k + 1) cap))) := by
        have fr5 : Fr (fun i => i = P) w4 (w4.setCell ⟨P, 0, none⟩ (rw_ y (k + 1) cap)) := fr_set w4 _ 0 _ rfl
        refine ⟨⟨⟨by rw [cell_set _ _ _ _ _ _ b4]; rfl, ?_, World.ownsRow_nil _ _ _ _, fun e => by cases e; exact nfy rfl, by simp [Value.ownBlock], fun i _ => by simp [Value.ownBlock]⟩, ?_, fun i hi => by cases hi; exact hy⟩⟩
        · rw [List.length_replicate, List.replicate_succ']
          exact fr5.own q1 (fun i hi e => by cases hi; exact nfy e)
        · exact (R.out.bel.grown q2 R.out.bel.size (fun i hi => R.out.far i hi)).setCell HB.out _
      go_roundw
      case rel => exact ⟨k + 1, by omega, by go_num, _, N1⟩
      case measure => simp [intOf]; omega
    · have hke : k = n := by omega
      subst hke
      have hi : ¬ ((k : Int) < k) := by omega
      go_wp2
      go_ret2
      refine ⟨⟨P, .slice va k vc, .slice none 0 0⟩, rfl, ⟨fresh_wf k h1 h2, ?_⟩, R.out.bel, ?_⟩
      · have r := R.out.raw
        rw [HZ.out] at r
        exact r
      · rintro i (h | h | h)
        · subst h; exact HB.out
        · exact R.out.far i h
        · simp [Value.ownBlock] at h
end Go.Proofs.Ytmfjhdjphnogiaa
