/- slices.Sorted of maps.Keys of a transaction's map. -/
import Derived.Test.YtghdgddpdamhcaaGreatTx
import Derived.Test.YtghdgddpdamhcaaGreatSort
import Derived.Shelf.AbstractIn
namespace Go.Proofs.YtghdgddpdamhcaaGreat
set_option linter.unusedVariables false
set_option linter.unusedSimpArgs false
open Go.RowKit Go.Maps Go.Sort Go.Shelf
theorem sortsA (m : Nat) : AnyZI.SortsIn Tryz.prog Tryz.sortedA_ren Fence.wide m :=
  ⟨fun blk off cap ss W hH hblk hsz => callsIn_wide.2 (AnyM.slices_Sort_int Tryz.sortA blk off cap ss W hH hblk hsz),
   fun p cap W => callsIn_wide.2 (AnyM.slices_Sort_int_none Tryz.sortA p cap W)⟩
theorem keys_any (mb : Option Nat) (w : World) : Calls Tryz.prog 74 #[.map mb] w fun e w' => e = .returned (.func (.func 98) #[] #[.pointer (some ⟨w.heap.size, 0, none⟩)]) ∧ w' = w.alloc (.cells #[.map mb] 80) :=
  (callsIn_wide (n := 5)).1 (AnyZI.keys_in Tryz.keysA Fence.wide 5 trivial rfl mb w)
theorem rising_ints : ∀ {W : Wl}, Rising W → (W.map fun p => (p.1 : Int)).Pairwise (fun a b => decide (a ≤ b) = true)
  | [], _ => by simp
  | p :: r, h => by
    obtain ⟨h1, h2⟩ := List.pairwise_cons.1 h
    rw [List.map_cons]
    refine List.pairwise_cons.2 ⟨fun z hz => ?_, rising_ints h2⟩
    obtain ⟨q, hq, rfl⟩ := List.mem_map.1 hz
    have := h1 q hq
    exact decide_eq_true (by omega)
theorem sorted_keys {W : Wl} (h : Rising W) {ss : List Int} (hp : ss.Perm (intKeys (txD W))) : ss.mergeSort (fun x y => decide (x ≤ y)) = W.map fun p => (p.1 : Int) := by
  rw [keys_txD] at hp
  refine List.Perm.eq_of_pairwise (le := fun a b : Int => decide (a ≤ b) = true) (fun a b _ _ h1 h2 => ?_) ?_ (rising_ints h) ((List.mergeSort_perm ss _).trans hp)
  · have := of_decide_eq_true h1; have := of_decide_eq_true h2; omega
  · exact List.pairwise_mergeSort (fun a b c h1 h2 => by have := of_decide_eq_true h1; have := of_decide_eq_true h2; exact decide_eq_true (by omega)) (fun a b => by simp; omega) ss
theorem sorted_any (b : Nat) (W : Wl) (w : World) (hown : MapAt w b W) (hR : Rising W) (hl : W.length ≤ 8192) :
    Calls Tryz.prog 41 #[.func (.func 98) #[] #[.pointer (some ⟨w.heap.size, 0, none⟩)]] (w.alloc (.cells #[.map (some b)] 80)) fun e w' => ∃ v, e = .returned v ∧ w'.ownsRow w.heap.size 3 1 v W.length (W.map fun p => Value.int .i64 (p.1 : Int)) ∧ Below w.heap.size w w' := by
  have hbl := hown.lt
  have hmax : Maps.size (txD W) ≤ maxLen := by rw [size_txD]; unfold maxLen; omega
  have hbytes : Maps.size (txD W) * 8 ≤ 140737488355328 := by rw [size_txD]; omega
  have hseq : SeqGives Fence.wide 2 Tryz.prog 98 #[.pointer (some ⟨w.heap.size, 0, none⟩)] encZ (fun ss => ss.Perm (intKeys (txD W))) (Maps.size (txD W)) (w.alloc (.cells #[.map (some b)] 80)) :=
    AnyZI.keys_gives (ρ := Tryz.keysA_ren) { Tryz.keysA with } Fence.wide _ trivial rfl (by omega) w.heap.size b W.length (txD W) _ (by simp) (by simp) (hown.alloc _)
  have cS := AnyZI.sorted_in Tryz.sortedA Fence.wide 5 trivial trivial trivial trivial rfl (by omega) (sortsA _) (enters_of Tryz.func69 (by kernel_rfl) rfl) 98 #[.pointer (some ⟨w.heap.size, 0, none⟩)] trivial (enters_of Tryz.func98 (by kernel_rfl) rfl) _ _ hmax hbytes _ hseq
  change CallsIn _ _ Tryz.prog 41 _ _ _ at cS
  refine ((callsIn_wide (n := 5)).1 cS).mono ?_
  rintro e w' ⟨v, ss, rfl, hS, hrow, hnil, hb⟩
  have hlen : ss.length = W.length := by rw [hS.length_eq, keys_txD]; simp
  refine ⟨v, rfl, ?_, ((Below.refl _ w).alloc (Nat.le_refl _) _).trans (hb.mono (by simp))⟩
  have hrow2 := ownsRow_base_a (base' := w.heap.size) hrow (by simp)
  rw [sorted_keys hR hS, hlen, List.map_map] at hrow2
  exact hrow2
end Go.Proofs.YtghdgddpdamhcaaGreat
