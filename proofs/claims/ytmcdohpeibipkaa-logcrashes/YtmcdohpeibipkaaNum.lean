/- The numbers that are kept, as a set. -/
import Derived.Test.YtmcdohpeibipkaaFlu
import Derived.Maps.OwnSet
import Derived.Maps.OwnOps
namespace Go.Proofs.Ytmcdohpeibipkaa
set_option linter.unusedVariables false
set_option linter.unusedSimpArgs false
open Go.RowKit Go.Maps
/-- the list that a slice of integers holds -/
structure IIn (w : World) (a : Option Addr) (zs : List Int) : Prop where
  get : ∀ (k : Nat) z, zs[k]? = some z → ∃ b off, a = some ⟨b, off, none⟩ ∧ b < w.heap.size ∧ w.cell? ⟨b, off + k, none⟩ = some (.int .i64 z) ∧ -9223372036854775808 ≤ z ∧ z ≤ 9223372036854775807
theorem IIn.nil (w : World) (a : Option Addr) : IIn w a [] := ⟨fun k z h => by simp at h⟩
theorem IIn.below {w w' : World} {a : Option Addr} {zs : List Int} {B : Nat} (h : IIn w a zs) (hb : Below B w w') (hB : ∀ b off, a = some ⟨b, off, none⟩ → b < w.heap.size → b < B) : IIn w' a zs := ⟨fun k z hk => by
  obtain ⟨b, off, h1, h2, h3, h4⟩ := h.get k z hk
  exact ⟨b, off, h1, Nat.lt_of_lt_of_le h2 hb.size, by rw [hb.cell (p := ⟨b, _, none⟩) (hB b off h1 h2)]; exact h3, h4⟩⟩
def okN (m : Nat) (z : Int) : Bool := decide (0 ≤ z) && decide (z < m)
def nums (m : Nat) (zs : List Int) : List Lit := (zs.filter (okN m)).map (Lit.int .i64)
def numD (m : Nat) (zs : List Int) : DataW Unit := setOf (.agg []) (nums m zs)
theorem has_numD (m : Nat) (zs : List Int) (i : Nat) (hi : i < m) : Maps.has (numD m zs) (.int .i64 (i : Int)) = decide ((i : Int) ∈ zs) := by
  unfold numD nums
  rw [has_setOf _ _ _ (fun y hy => by obtain ⟨_, _, rfl⟩ := List.mem_map.1 hy; trivial), List.any_map]
  have key : ∀ x : Int, ((fun x : Lit => x.sameKey (.int .i64 (i : Int))) ∘ Lit.int .i64) x = decide (x = (i : Int)) := fun x => by
    show (Lit.int .i64 x).sameKey (.int .i64 (i : Int)) = _
    by_cases e : x = (i : Int)
    · subst e; simp [Lit.sameKey]
    · rw [sameKey_ne (fun h => e (by injection h)), decide_eq_false e]
  rw [Bool.eq_iff_iff, List.any_eq_true, decide_eq_true_iff]
  constructor
  · rintro ⟨x, hx, h2⟩
    rw [key, decide_eq_true_iff] at h2
    subst h2
    exact (List.mem_filter.1 hx).1
  · intro h
    exact ⟨_, List.mem_filter.2 ⟨h, by simp [okN]; omega⟩, by rw [key]; simp⟩
theorem numD_step (m : Nat) (zs : List Int) (k : Nat) (z : Int) (h : zs[k]? = some z) (ho : okN m z = true) : numD m (zs.take (k + 1)) = (numD m (zs.take k)).put (.int .i64 z) (.agg []) := by
  unfold numD nums
  rw [take_step _ _ _ h, List.filter_append, List.map_append, List.filter_cons_of_pos ho]
  simp only [List.filter_nil, List.map_cons, List.map_nil]
  rw [setOf_snoc]
theorem numD_skip (m : Nat) (zs : List Int) (k : Nat) (z : Int) (h : zs[k]? = some z) (ho : okN m z = false) : numD m (zs.take (k + 1)) = numD m (zs.take k) := by
  unfold numD nums
  rw [take_step _ _ _ h, List.filter_append, List.filter_cons_of_neg (by simpa using ho)]
  simp
theorem law3 : Keyed Try.prog 3 := int_keyed Try.underlying3
theorem zeroU (w : World) : (zeroValue 104).run Try.prog w = .ok (.agg #[]) w := by kernel_rfl
abbrev SetAt (w : World) (B n m : Nat) (zs : List Int) : Prop := w.ownsMap Try.prog 3 (unitElem (H := Unit)) B n (numD m zs)
set_option maxRecDepth 100000 in
theorem below_any (m : Nat) (a : Option Addr) (cap : Nat) (zs : List Int) (w : World) (hm : m ≤ 9000000000000) (hl : zs.length ≤ 20000000000000) (hz : IIn w a zs) : Calls Try.prog 65 #[.int .i64 (m : Int), .slice a zs.length cap] w fun e w' => e = .returned (.map (some w.heap.size)) ∧ SetAt w' w.heap.size zs.length m zs ∧ Below w.heap.size w w' := by
  have hmm := @run_makeMap Try.prog
  go_enter Try.func65, Try.ntmps65
  go_wp2
  go_loopw [11] (fun i wr => ∃ k : Nat, k ≤ zs.length ∧ i = .int .i64 k ∧ Hid (SetAt wr w.heap.size k m (zs.take k)) ∧ Hid (Below w.heap.size w wr)) (fun i _ => zs.length - (intOf i).toNat)
  case atStart => exact ⟨0, Nat.zero_le _, rfl, ⟨World.ownsMap_made _ _ _ _⟩, ⟨(Below.refl _ _).alloc (Nat.le_refl _) _⟩⟩
  case round =>
    obtain ⟨k, hk, rfl, HS, HB⟩ := hrel
    by_cases hlt : k < zs.length
    · obtain ⟨z, hzk⟩ : ∃ z, zs[k]? = some z := ⟨_, List.getElem?_eq_getElem hlt⟩
      obtain ⟨b, off, rfl, hb, hc, hz1, hz2⟩ := hz.get k z hzk
      have hcx : wr.cell? ⟨b, off + k, none⟩ = some (.int .i64 z) := (HB.out.cell (p := ⟨b, off + k, none⟩) hb).trans hc
      have hkey : keyOf Try.prog 3 (.int .i64 z) = some (.int .i64 z) := keyOf_int_mk Try.underlying3 (WalkArith.wf_i64 ⟨by omega, by omega⟩)
      have hi : (k : Int) < zs.length := by omega
      have hw1 : wrap64 ((k : Int) + 1) = ((k + 1 : Nat) : Int) := by unfold wrap64; omega
      have HK : Hid (zs[k]? = some z) := ⟨hzk⟩
      clear hzk hc hz
      cases ho : okN m z with
      | true =>
        have h01 : 0 ≤ z ∧ z < m := by simpa [okN] using ho
        have h0 := h01.1
        have h1 := h01.2
        go_wp2_with (first
          | (at_mapUpdate; refine wpList_mapUpdate_own _ rfl _ _ _ 103 rfl 3 104 law3 Try.underlying103 (unitElem (H := Unit)) w.heap.size k _ rfl HS.out (by unfold maxLen; omega) _ _ _ rfl rfl hkey _ [] unitElem_mk ?_; intro w1 hown1 hgrow1)
          | go_in)
        go_roundw
        case rel => exact ⟨k + 1, by omega, by go_num, ⟨by unfold SetAt; rw [numD_step m zs k z HK.out ho]; exact hown1⟩, ⟨HB.out.grown hgrow1 HB.out.size (fun j hj => by cases hj; exact Nat.le_refl _)⟩⟩
        case measure => simp [intOf]; omega
      | false =>
        have h01 : ¬ (0 ≤ z ∧ z < m) := fun h => by simp [okN] at ho; omega
        go_wp2
        all_goals first
          | (exfalso; omega)
          | (go_roundw
             case rel => exact ⟨k + 1, by omega, by go_num, ⟨by unfold SetAt; rw [numD_skip m zs k z HK.out ho]; exact HS.out.mono (Nat.le_succ _)⟩, HB⟩
             case measure => simp [intOf]; omega)
    · have hke : k = zs.length := by omega
      subst hke
      have hi : ¬ ((zs.length : Int) < zs.length) := by omega
      rw [List.take_length] at HS
      go_wp2
      go_ret
      exact ⟨rfl, HS.out, HB.out⟩
end Go.Proofs.Ytmcdohpeibipkaa
