/- Digits there and back. -/
import Derived.Test.YtjoaiagiankfdaaDoorEq
namespace Go.Proofs.YtjoaiagiankfdaaDoor
set_option linter.unusedVariables false
set_option linter.unusedSimpArgs false
open Go.RowKit
def pz (l : List UInt8) : Nat → UInt8 := if okL l then pv l else fun _ => 0
theorem parsed_pz (l : List UInt8) : parsed l = b32 (pz l) := by unfold parsed pz; split <;> rfl
theorem parse2 (s : ByteArray) (w : World) (hs : s.size ≤ 9223372036854775807) :
    Calls Tryd.prog 11 #[.string s] w fun e w' => e = .returned (.tuple #[.agg (b32 (pz s.data.toList)), .bool (okL s.data.toList)]) ∧ Below w.heap.size w w' := by
  have := parse_any s w hs
  rw [parsed_pz] at this
  exact this
theorem dig_all : ∀ n, n < 16 → isdig (Sha.dig n) = true ∧ dval (Sha.dig n) = n := by decide +kernel
theorem dig_back : ∀ n, n < 256 → isdig (UInt8.ofNat n) = true → Sha.dig (dval (UInt8.ofNat n)) = UInt8.ofNat n := by decide +kernel
theorem dig_dval (b : UInt8) (h : isdig b = true) : Sha.dig (dval b) = b := by
  have := dig_back b.toNat b.toNat_lt
  rw [UInt8.ofNat_toNat] at this
  exact this h
theorem isdig_all : ∀ n, n < 256 → isdig (UInt8.ofNat n) = (decide (48 ≤ n) && decide (n ≤ 57) || decide (97 ≤ n) && decide (n ≤ 102)) := by decide +kernel
theorem isdig_iff (b : UInt8) : isdig b = (decide (48 ≤ b.toNat) && decide (b.toNat ≤ 57) || decide (97 ≤ b.toNat) && decide (b.toNat ≤ 102)) := by
  have := isdig_all b.toNat b.toNat_lt
  rwa [UInt8.ofNat_toNat] at this
theorem hexL_length (g : Nat → UInt8) : (hexL g).length = 64 := by simp [hexL]
theorem hexL_getD (g : Nat → UInt8) (j : Nat) (h : j < 64) : (hexL g).getD j 0 = hx g j := by
  unfold hexL; rw [List.getD_eq_getElem?_getD, List.getElem?_map, List.getElem?_range h]; rfl
theorem hx_dig (g : Nat → UInt8) (j : Nat) : isdig (hx g j) = true := by
  unfold hx
  have := (g (j / 2)).toNat_lt
  split
  · exact (dig_all _ (by omega)).1
  · exact (dig_all _ (by omega)).1
theorem okL_hex (g : Nat → UInt8) : okL (hexL g) = true := okL_true (hexL_length g) fun j hj => by rw [hexL_getD g j hj]; exact hx_dig g j
theorem pv_hex (g : Nat → UInt8) (i : Nat) (h : i < 32) : pv (hexL g) i = g i := by
  unfold pv
  have hb := (g i).toNat_lt
  rw [hexL_getD g _ (by omega), hexL_getD g _ (by omega)]
  unfold hx
  rw [if_pos (by omega), if_neg (by omega), show 2 * i / 2 = i by omega, show (2 * i + 1) / 2 = i by omega, (dig_all _ (by omega)).2, (dig_all _ (by omega)).2, show 16 * ((g i).toNat / 16) + (g i).toNat % 16 = (g i).toNat by omega, UInt8.ofNat_toNat]
theorem back_hex (g : Nat → UInt8) : eqb (pz (hexL g)) g = true := eqb_of fun i hi => by unfold pz; rw [okL_hex, if_pos rfl]; exact pv_hex g i hi
theorem okL_spec {l : List UInt8} (h : okL l = true) : l.length = 64 ∧ ∀ j, j < 64 → isdig (l.getD j 0) = true := by
  unfold okL at h
  rw [Bool.and_eq_true, decide_eq_true_eq, List.all_eq_true] at h
  refine ⟨h.1, fun j hj => ?_⟩
  have hj' : j < l.length := by omega
  rw [List.getD_eq_getElem?_getD, List.getElem?_eq_getElem hj']
  exact h.2 _ (List.getElem_mem hj')
theorem hex_back {l : List UInt8} (h : okL l = true) : hexL (pz l) = l := by
  obtain ⟨hl, hd⟩ := okL_spec h
  apply List.ext_getElem?
  intro j
  by_cases hj : j < 64
  · have e1 : (hexL (pz l))[j]? = some (hx (pz l) j) := by unfold hexL; rw [List.getElem?_map, List.getElem?_range hj]; rfl
    have e2 : l[j]? = some (l.getD j 0) := by rw [List.getD_eq_getElem?_getD, List.getElem?_eq_getElem (by omega)]; rfl
    rw [e1, e2]
    congr 1
    unfold hx pz
    rw [h, if_pos rfl]
    have hpv : ∀ i, i < 32 → (pv l i).toNat = 16 * dval (l.getD (2 * i) 0) + dval (l.getD (2 * i + 1) 0) := fun i hi => by
      unfold pv
      have a1 := dval_lt _ (hd (2 * i) (by omega))
      have a2 := dval_lt _ (hd (2 * i + 1) (by omega))
      rw [UInt8.toNat_ofNat']; omega
    have a2 := dval_lt _ (hd (2 * (j / 2) + 1) (by omega))
    split
    · rw [hpv _ (by omega), show (16 * dval (l.getD (2 * (j / 2)) 0) + dval (l.getD (2 * (j / 2) + 1) 0)) / 16 = dval (l.getD (2 * (j / 2)) 0) by omega, dig_dval _ (hd _ (by omega)), show 2 * (j / 2) = j by omega]
    · rw [hpv _ (by omega), show (16 * dval (l.getD (2 * (j / 2)) 0) + dval (l.getD (2 * (j / 2) + 1) 0)) % 16 = dval (l.getD (2 * (j / 2) + 1) 0) by omega, dig_dval _ (hd _ (by omega)), show 2 * (j / 2) + 1 = j by omega]
  · rw [List.getElem?_eq_none (by rw [hexL_length]; omega), List.getElem?_eq_none (by omega)]
theorem pz_no {l : List UInt8} (h : okL l = false) : pz l = fun _ => 0 := by unfold pz; rw [h]; rfl
/-- One digit of a hash's turned into c. -/
theorem okL_turned (g : Nat → UInt8) (k : Nat) (hk : k < 64) (c : UInt8) : okL ((hexL g).take k ++ [c] ++ (hexL g).drop (k + 1)) = isdig c := by
  have hl : ((hexL g).take k ++ [c] ++ (hexL g).drop (k + 1)).length = 64 := by simp [hexL_length]; omega
  cases hc : isdig c
  · refine okL_false (j := k) (by omega) ?_
    rw [List.getD_eq_getElem?_getD, List.append_assoc, List.getElem?_append_right (by simp [hexL_length]; omega)]
    simp [hexL_length, Nat.min_eq_left (Nat.le_of_lt hk), hc]
  · refine okL_true hl fun j hj => ?_
    have hm : ((hexL g).take k ++ [c] ++ (hexL g).drop (k + 1)).getD j 0 ∈ ((hexL g).take k ++ [c] ++ (hexL g).drop (k + 1)) := by
      rw [List.getD_eq_getElem?_getD, List.getElem?_eq_getElem (by omega)]; exact List.getElem_mem _
    rw [List.mem_append, List.mem_append] at hm
    have hmem : ∀ x ∈ hexL g, isdig x = true := fun x hx2 => by
      unfold hexL at hx2; rw [List.mem_map] at hx2; obtain ⟨i, _, rfl⟩ := hx2; exact hx_dig g i
    rcases hm with (h1 | h1) | h1
    · exact hmem _ (List.mem_of_mem_take h1)
    · rw [List.mem_singleton] at h1; rw [h1, hc]
    · exact hmem _ (List.mem_of_mem_drop h1)
theorem ld22 (v : Value) : Instr.loadAt 22 v = ldS 22 v := rfl
theorem load22 {w : World} {B : Nat} {g : Nat → UInt8} (h : w.heap[B]? = some (.cells (b32 g) 22 (0, 0))) : (ldS 22 (.pointer (some ⟨B, 0, none⟩))).run Tryd.prog w = .ok (.agg (b32 g)) w := by
  show (Instr.loadAt 22 (.pointer (some ⟨B, 0, none⟩))).run Tryd.prog w = _
  simp only [Instr.loadAt, Instr.sureAddr, Sem.run_bind, Sem.run_pure, Result.andThen_ok, run_loadVar_row _ B 22 22 (b32 g) (0, 0) _ h Tryd.underlying22 rfl (info22b g)]
theorem store22b (g : Nat → UInt8) (w : World) : (stS 22 (.pointer (some ⟨w.heap.size, 0, none⟩)) (.agg (b32 g))).run Tryd.prog (w.alloc (.cells z32 22)) = .ok () (w.alloc (.cells (b32 g) 22)) :=
  store22 (b32_size g) (b32_one g) w
theorem new22 (w : World) (g : Nat → UInt8) : (w.alloc (.cells (b32 g) 22)).heap[w.heap.size]? = some (.cells (b32 g) 22 (0, 0)) := heap_alloc_new _ _
theorem below_new22 (w : World) (g : Nat → UInt8) : Below w.heap.size w (w.alloc (.cells (b32 g) 22)) := (Below.refl _ _).alloc (Nat.le_refl _) _
theorem b32_zero : b32 (fun _ => 0) = z32 := by
  refine Eq.trans ?_ (pb32 (fun _ => 0))
  unfold b32 pb
  apply Array.ext
  · simp
  · intro i h1 h2; simp
theorem eq22z (w : World) : (Op.equalIn 10000 22 (.agg (b32 (fun _ => 0))) (.agg z32)).run Tryd.prog w = .ok true w := by
  have := eq22 (fun _ => 0) (fun _ => 0) w
  rw [eqb_self] at this
  rw [b32_zero] at *
  exact this
end Go.Proofs.YtjoaiagiankfdaaDoor
