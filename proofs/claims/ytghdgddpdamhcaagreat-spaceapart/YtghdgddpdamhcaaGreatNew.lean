/- New. -/
import Derived.Test.YtghdgddpdamhcaaGreatCpy
import Derived.Laws.IdiomCopy
namespace Go.Proofs.YtghdgddpdamhcaaGreat
set_option linter.unusedVariables false
set_option linter.unusedSimpArgs false
open Go.RowKit
def rowK (t : ByteArray) (k n : Nat) : Array Value := (List.replicate k (Value.string t) ++ List.replicate (n - k) (Value.string ⟨#[]⟩)).toArray
theorem rowK_size (t : ByteArray) (k n : Nat) (h : k ≤ n) : (rowK t k n).size = n := by simp [rowK]; omega
theorem rowK_copy (t : ByteArray) (k n m : Nat) (h : k + m ≤ n) : ((rowK t k n).toList.take k ++ List.replicate m (Value.string t) ++ (rowK t k n).toList.drop (k + m)).toArray = rowK t (k + m) n := by
  unfold rowK
  congr 1
  rw [List.take_append_of_le_length (by simp), List.take_of_length_le (by simp), List.drop_append, List.drop_of_length_le (by simp), List.drop_replicate, List.nil_append, List.length_replicate, List.replicate_append_replicate]
  congr 2
  omega
theorem info9 : (Tryz.prog.info? 9).map (·.size) = some 1 := by kernel_rfl
theorem copyK (t : ByteArray) (B k n m : Nat) (ty : TypeId) (w : World) (hb : w.heap[B]? = some (.cells (rowK t k n) 9 (0, 0))) (hm : m = min k (n - k)) (hk : k ≤ n) :
    (Builtin.copy_ #[88, 88] ty #[.slice (some ⟨B, k, none⟩) (n - k) (n - k), .slice (some ⟨B, 0, none⟩) k n]).run Tryz.prog w = .ok (goInt m) (w.setRow B (rowK t (k + m) n)) := by
  have h := run_copy_row Tryz.prog w 88 88 ty 9 B k (n - k) (n - k) ⟨B, 0, none⟩ k n (rowK t k n) 9 (List.replicate m (Value.string t)) Tryz.underlying88 info9 hb (by rw [List.length_replicate, hm]) ?_ (by rw [List.length_replicate, rowK_size _ _ _ hk]; omega) ?_
  · rw [List.length_replicate, rowK_copy t k n m (by omega)] at h
    exact h
  · intro j v hj
    have hjm : j < m := by have := (List.getElem?_eq_some_iff.1 hj).1; simpa using this
    have hv : v = .string t := by rw [List.getElem?_replicate, if_pos hjm] at hj; exact (Option.some.inj hj).symm
    have hadd : (⟨B, 0, none⟩ : Addr).add j = ⟨B, j, none⟩ := by unfold Addr.add; split <;> simp_all
    rw [hadd, cell_of_row w B j _ _ (0, 0) hb]
    simp only [rowK, List.getElem?_toArray]
    rw [List.getElem?_append_left (by simp; omega), List.getElem?_replicate, if_pos (by omega), hv]
  · intro v hv
    rw [(List.mem_replicate.1 hv).2]; rfl
theorem madeK (n : Nat) : (madeCells #[Value.string ⟨#[]⟩] n) = (List.replicate n (Value.string ⟨#[]⟩)).toArray := by
  apply Array.ext'
  rw [toList_madeCells_one]
set_option maxRecDepth 100000 in
theorem sRepeat_any (t : ByteArray) (g : Nat) (n : Nat) (w : World) (h1 : 1 ≤ n) (h2 : n ≤ 8192) (hg : w.cell? ⟨g, 0, none⟩ = some (.string t)) :
    Calls Tryz.prog 84 #[.slice (some ⟨g, 0, none⟩) 1 1, .int .i64 (n : Int)] w fun e w' => e = .returned (rw_ w.heap.size n n) ∧ w'.ownsRow 0 9 1 (rw_ w.heap.size n n) n (strv (List.replicate n t)) ∧ Below w.heap.size w w' := by
  obtain ⟨i0, hi0, hz0, hz1, hz2⟩ := info_parts infoSf
  have hm : maxLen = 9223372036854775807 := rfl
  have hmk : (Instr.makeSlice 88 (.int .i64 (n : Int)) (.int .i64 (n : Int))).run Tryz.prog w = .ok (.slice (some ⟨w.heap.size, 0, none⟩) n n) (w.alloc (.cells (rowK t 0 n) 9)) := by
    have h := run_make (P := Tryz.prog) w 88 9 i0 (.string ⟨#[]⟩) Tryz.underlying88 hi0 hz0 .i64 .i64 n n (by omega) (Int.le_refl _) (by rw [hz2]; omega) (by omega)
    rw [hz1, Int.toNat_natCast, Nat.mul_one] at h
    have e : madeCells (Value.string ⟨#[]⟩).cells n = rowK t 0 n := by
      show madeCells #[Value.string ⟨#[]⟩] n = _
      rw [madeK]; simp [rowK]
    rw [e] at h
    exact h
  have hb0 : (w.alloc (.cells (rowK t 0 n) 9)).heap[w.heap.size]? = some (.cells (rowK t 0 n) 9 (0, 0)) := heap_alloc_new w _
  have hcp : (Builtin.copy_ #[88, 88] 3 #[.slice (some ⟨w.heap.size, 0, none⟩) n n, .slice (some ⟨g, 0, none⟩) 1 1]).run Tryz.prog (w.alloc (.cells (rowK t 0 n) 9)) = .ok (.int .i64 1) ((w.alloc (.cells (rowK t 0 n) 9)).setRow w.heap.size (rowK t 1 n)) := by
    have h := run_copy_row Tryz.prog (w.alloc (.cells (rowK t 0 n) 9)) 88 88 3 9 w.heap.size 0 n n ⟨g, 0, none⟩ 1 1 (rowK t 0 n) 9 (List.replicate 1 (Value.string t)) Tryz.underlying88 info9 hb0 (by show 1 = min 1 n; omega) ?_ (by rw [rowK_size _ _ _ (Nat.zero_le _)]; simp; omega) ?_
    · have e := rowK_copy t 0 n 1 (by omega)
      rw [List.length_replicate, e] at h
      exact h
    · intro j v hj
      have hjm : j < 1 := by have := (List.getElem?_eq_some_iff.1 hj).1; simpa using this
      obtain rfl : j = 0 := by omega
      have hv : v = .string t := by simpa using hj.symm
      have hadd : (⟨g, 0, none⟩ : Addr).add 0 = ⟨g, 0, none⟩ := by simp [Addr.add]
      rw [hadd, hv]
      exact Lib.cell?_alloc_some _ hg
    · intro v hv
      rw [(List.mem_replicate.1 hv).2]; rfl
  have hb1 : ((w.alloc (.cells (rowK t 0 n) 9)).setRow w.heap.size (rowK t 1 n)).heap[w.heap.size]? = some (.cells (rowK t 1 n) 9 (0, 0)) := setRow_heap _ _ _ _ _ _ hb0
  have bl1 : Below w.heap.size w ((w.alloc (.cells (rowK t 0 n) 9)).setRow w.heap.size (rowK t 1 n)) :=
    ((Below.refl _ w).alloc (Nat.le_refl _) _).grown (row := some w.heap.size) ⟨rfl, rfl, rfl, by simp, fun k _ hk => setRow_other _ _ k _ (fun e => hk (by rw [e]))⟩ (by simp) (fun k hk => by cases hk; exact Nat.le_refl _)
  have R1 : Hid (_ ∧ _) := ⟨hb1, bl1⟩
  clear hb1 bl1 hb0
  have hn0 : ¬ ((n : Int) < 0) := by omega
  have hx0 : (1 * n / 18446744073709551616 : Nat) = 0 := by omega
  have hx1 : (1 * n % 18446744073709551616 : Nat) = n := by omega
  have hn9 : ¬ ((9223372036854775807 : Int) < n) := by omega
  have hcv : IntKind.i64.wrap (n : Int) = n := by show IntKind.wrap _ _ = _; rw [IntKind.wrap_i64]; omega
  go_enter Tryz.func84, Tryz.ntmps84
  go_wp2_with fail
  refine (Tryz.bits_Mul 1 n (by omega) (by omega) _).mono ?_
  rintro e w' ⟨rfl, hw⟩
  subst w'
  rw [hx0, hx1]
  dsimp only
  go_wp2
  have hdec : decide ((9223372036854775807 : Int) < (n : Int)) = false := decide_eq_false (by omega)
  rw [hdec]
  go_loopw [8] (fun i wr => ∃ k : Nat, 1 ≤ k ∧ k ≤ n ∧ i = .int .i64 k ∧ Hid (wr.heap[w.heap.size]? = some (.cells (rowK t k n) 9 (0, 0)) ∧ Below w.heap.size w wr)) (fun i _ => n - (intOf i).toNat)
  case atStart => exact ⟨1, Nat.le_refl _, h1, rfl, R1⟩
  case round =>
    obtain ⟨k, hk1, hk, rfl, R⟩ := hrel
    by_cases hlt : k < n
    · have hi : (k : Int) < n := by omega
      obtain ⟨m, hm⟩ : ∃ m, m = min k (n - k) := ⟨_, rfl⟩
      have hq : ∀ ty, (Builtin.copy_ #[88, 88] ty #[.slice (some ⟨w.heap.size, k, none⟩) (n - k) (n - k), .slice (some ⟨w.heap.size, 0, none⟩) k n]).run Tryz.prog wr = .ok (.int .i64 m) (wr.setRow w.heap.size (rowK t (k + m) n)) := fun ty => copyK t w.heap.size k n m ty wr R.out.1 hm hk
      have hq2 : ∀ ty, (Builtin.copy_ #[88, 88] ty #[.slice (some ⟨w.heap.size, k, none⟩) (n - k) (n - k), .slice (some ⟨w.heap.size, 0, none⟩) k n]).run Tryz.prog wr.drew = .ok (.int .i64 m) (wr.drew.setRow w.heap.size (rowK t (k + m) n)) := fun ty => copyK t w.heap.size k n m ty wr.drew R.out.1 hm hk
      have hw : wrap64 ((k : Int) + m) = ((k + m : Nat) : Int) := by unfold wrap64; omega
      have hkm : 1 ≤ m ∧ k + m ≤ n := by omega
      have HM : Hid (m = min k (n - k)) := ⟨hm⟩
      clear hm
      go_wp2
      go_region
      go_wp2
      go_roundw
      case rel =>
        refine ⟨k + m, by omega, by omega, by go_num, ⟨setRow_heap _ _ _ _ _ _ (show wr.drew.heap[w.heap.size]? = _ from R.out.1), ?_⟩⟩
        exact R.out.2.drew.grown (row := some w.heap.size) ⟨rfl, rfl, rfl, by simp, fun k _ hk => setRow_other _ _ k _ (fun e => hk (by rw [e]))⟩ R.out.2.size (fun k hk => by cases hk; exact Nat.le_refl _)
      case measure => simp [intOf]; omega
    · have hke : k = n := by omega
      subst hke
      have hi : ¬ ((k : Int) < k) := by omega
      go_wp2
      go_ret
      refine ⟨rfl, ⟨by simp [strv], .inr ⟨w.heap.size, k, _, rfl, Nat.zero_le _, R.out.1, Nat.le_refl _, by rw [hm]; omega, by rw [rowK_size _ _ _ (Nat.le_refl _)]; omega, ?_⟩⟩, R.out.2⟩
      rw [List.take_of_length_le (by simp [rowK])]
      simp [rowK, strv]
theorem new_bad (n : Int) (w : World) (h : n < 1 ∨ 8192 < n) : Calls Tryz.prog 51 #[.int .i64 n] w fun e w' => e = .returned (.tuple #[.pointer none, .int .i64 1]) ∧ w' = w := by
  go_enter Tryz.func51, Tryz.ntmps51
  go_wp2
  all_goals first
    | (exfalso; omega)
    | (go_ret2; exact ⟨rfl, rfl⟩)
theorem repeat_fl : Lib.repeatL [(0 : UInt8)] 512 = List.replicate 512 0 := by decide +kernel
set_option maxRecDepth 100000 in
theorem new_any (n : Nat) (w : World) (h1 : 1 ≤ n) (h2 : n ≤ 8192) : Calls Tryz.prog 51 #[.int .i64 (n : Int)] w fun e w' => ∃ D, e = .returned (.tuple #[pt D.p, .int .i64 0]) ∧ DiskAt w' D (fresh n) ∧ Below w.heap.size w w' ∧ ∀ k, D.foot k → w.heap.size ≤ k := by
  have hn1 : ¬ ((n : Int) < 1) := by omega
  have hn2 : ¬ ((8192 : Int) < n) := by omega
  have hz : (⟨(Lib.repeatL (⟨#[0]⟩ : ByteArray).data.toList 512).toArray⟩ : ByteArray) = fl 0 := by
    show (⟨(Lib.repeatL [(0 : UInt8)] 512).toArray⟩ : ByteArray) = _
    rw [repeat_fl]; rfl
  obtain ⟨z0, hz0⟩ : ∃ z, z = fl 0 := ⟨_, rfl⟩
  have HZ : Hid (z0 = fl 0) := ⟨hz0⟩
  rw [← hz0] at hz
  clear hz0
  go_enter Tryz.func51, Tryz.ntmps51
  go_wp2_with fail
  refine (Tryz.strings_Repeat ⟨#[0]⟩ 512 _ (by omega) (by show 1 * 512 ≤ _; omega)).mono ?_
  rintro e w1 ⟨rfl, b1⟩
  rw [hz]
  clear hz
  dsimp only
  go_wp2_with fail
  refine (sRepeat_any z0 w1.heap.size n _ h1 h2 (cell_of_row _ _ 0 #[.string z0] 9 (0, 0) (heap_alloc_new w1 _))).mono ?_
  rintro e w2 ⟨rfl, o2, b2⟩
  have bb2 : Below w.heap.size w w2 := (b1.alloc b1.size _).trans (b2.mono (by have := b1.size; simp; omega))
  have hy1 : w.heap.size ≤ (w1.alloc (.cells #[.string z0] 9)).heap.size ∧ (w1.alloc (.cells #[.string z0] 9)).heap.size < w2.heap.size := ⟨by have := b1.size; simp; omega, (o2.lt _ rfl).2⟩
  generalize (w1.alloc (.cells #[.string z0] 9)).heap.size = y1 at *
  clear b2
  dsimp only
  go_wp2_with fail
  refine (sRepeat_any z0 w2.heap.size n _ h1 h2 (cell_of_row _ _ 0 #[.string z0] 9 (0, 0) (heap_alloc_new w2 _))).mono ?_
  rintro e w3 ⟨rfl, o3, b3⟩
  have bb3 : Below w.heap.size w w3 := (bb2.alloc bb2.size _).trans (b3.mono (by have := bb2.size; simp; omega))
  have o2' := own_below (o2.alloc (.cells #[.string z0] 9)) b3
  have hy2 : w2.heap.size < (w2.alloc (.cells #[.string z0] 9)).heap.size ∧ (w2.alloc (.cells #[.string z0] 9)).heap.size < w3.heap.size := ⟨by simp, (o3.lt _ rfl).2⟩
  generalize (w2.alloc (.cells #[.string z0] 9)).heap.size = y2 at *
  have G : Hid (_ ∧ _ ∧ _) := ⟨o2', o3, bb3⟩
  clear o2 o2' o3 bb3 bb2 b3 b1
  dsimp only
  go_wp2
  go_ret2
  obtain ⟨o2', o3, bb3⟩ := G.out
  have hl : (fresh n).safe.length = n := by simp [fresh]
  have hs : (fresh n).seen = List.replicate n z0 := by rw [HZ.out]; rfl
  have hs2 : (fresh n).safe = List.replicate n z0 := by rw [HZ.out]; rfl
  refine ⟨⟨w3.heap.size, y1, n, y2, n, .slice none 0 0⟩, rfl, ⟨fresh_wf n h1 h2, ?_⟩, bb3.alloc bb3.size _, ?_⟩
  · rw [hl, hs, hs2]
    refine ⟨heap_alloc_new w3 _, o2'.alloc _, o3.alloc _, World.ownsRow_nil _ _ _ _, ?_, ?_, ?_, by simp [Value.ownBlock], by simp [Value.ownBlock], by simp [Value.ownBlock]⟩
    · show w3.heap.size ≠ y1; omega
    · show w3.heap.size ≠ y2; omega
    · show y1 ≠ y2; omega
  · rintro k (h | h | h | h)
    · have := bb3.size; simp at h; omega
    · simp at h; omega
    · simp at h; omega
    · simp [Value.ownBlock] at h
end Go.Proofs.YtghdgddpdamhcaaGreat
