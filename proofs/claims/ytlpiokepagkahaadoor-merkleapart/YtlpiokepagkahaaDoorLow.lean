/- The lowest row. -/
import Derived.Test.YtlpiokepagkahaaDoorNd
import Derived.OwnWalk
import Derived.Test.YtlpiokepagkahaaDoorTree
namespace Go.Proofs.YtlpiokepagkahaaDoor
set_option linter.unusedVariables false
set_option linter.unusedSimpArgs false
open Go.RowKit
attribute [local go_sem ↓] Go.wp_at_zero Go.wp_at_succ
def TextsAt (w : World) (b off n : Nat) (t : Nat → ByteArray) : Prop := ∀ k, k < n → w.cell? ⟨b, off + k, none⟩ = some (.string (t k))
def HRow (w : World) (b off n : Nat) (f : Nat → Hs) : Prop := ∀ k, k < n → w.rangeAt b (off + k * 32) (hv (f k))
theorem TextsAt.next {w w' : World} {b off n : Nat} {t : Nat → ByteArray} (h : TextsAt w b off n t) (bq : Below w.heap.size w w') : TextsAt w' b off n t := fun k hk => by
  have hc := h k hk
  rw [bq.cell (p := ⟨b, off + k, none⟩) (block_lt_of_cell hc)]; exact hc
theorem HRow.next {w w' : World} {b off n : Nat} {f : Nat → Hs} (h : HRow w b off n f) (bq : Below w.heap.size w w') : HRow w' b off n f := fun k hk => rangeNext (h k hk) bq
theorem info23x : ∃ (i : TypeInfo) (z : Value), Tryd.prog.info? 23 = some i ∧ i.zero = some z ∧ i.size = 32 ∧ i.bytes = 32 ∧ z.cells.size = 32 := by
  have h : ((Tryd.prog.info? 23).map fun i => (i.size, i.bytes, i.zero.map fun z => z.cells.size)) = some (32, 32, some 32) := by kernel_rfl
  cases hi : Tryd.prog.info? 23 with
  | none => rw [hi] at h; cases h
  | some i =>
    rw [hi] at h
    simp only [Option.map_some, Option.some.injEq, Prod.mk.injEq] at h
    cases hz : i.zero with
    | none => rw [hz] at h; exact absurd h.2.2 (by simp)
    | some z =>
      rw [hz] at h
      exact ⟨i, z, rfl, hz, h.1, h.2.1, by simpa using h.2.2⟩
theorem HRow.set {w : World} {b n k : Nat} {f : Nat → Hs} (h : HRow w b 0 k f) (ht : w.there b 0 (32 * n)) (hk : k < n) : HRow (w.setCells b (k * 32) (hv (f k))) b 0 (k + 1) f := fun j hj => by
  rw [Nat.zero_add]
  by_cases e : j = k
  · subst e
    exact World.rangeAt_setCells_same _ _ _ _ (fun i hi => by rw [hv_length] at hi; have := ht (j * 32 + i) (by omega); rw [Nat.zero_add] at this; exact this)
  · have h0 := h j (by omega)
    rw [Nat.zero_add] at h0
    exact World.rangeAt_setCells_apart h0 _ _ _ (by rw [hv_length, hv_length]; omega)
set_option maxHeartbeats 400000 in
set_option maxRecDepth 8000 in
theorem lowest_any (b off n cap : Nat) (t : Nat → ByteArray) (w : World) (hK : KIn w) (hT : TextsAt w b off n t) (hz : ∀ k, k < n → (t k).size < 1152921504606845000) (hn : n ≤ 8796093022208) :
    Calls Tryd.prog 23 #[.slice (some ⟨b, off, none⟩) n cap] w fun e w' => e = .returned (.slice (some ⟨w.heap.size, 0, none⟩) n n) ∧ HRow w' w.heap.size 0 n (fun k => leaf (t k).data.toList) ∧ w'.there w.heap.size 0 (32 * n) ∧ Below w.heap.size w w' := by
  obtain ⟨i, z, e1, e2, e3, e4, e5⟩ := info23x
  have hb2 : i.bytes * n ≤ 281474976710656 := by rw [e4]; omega
  have hb3 : n ≤ maxLen := by unfold maxLen; omega
  have hB0 := hK.lt
  go_enter Tryd.func23, Tryd.ntmps23
  go_wp2_with (refine wpList_make_full _ rfl _ _ 25 rfl w.heap.size 23 i z 32 Tryd.underlying25 e1 e2 e3 _ _ _ _ n rfl rfl rfl rfl hb2 hb3 (Nat.le_refl _) ?_; intro w1 own1 gr1)
  have bel1 : Below w.heap.size w w1 := (Below.refl _ _).grown gr1 (Nat.le_refl _) (fun _ h => by cases h)
  have th1 : w1.there w.heap.size 0 (32 * n) := by
    rcases own1.2 with ⟨h, _⟩ | ⟨g, cp, cur, hv1, _, hg1, _, _, hsz1, _⟩
    · cases h
    · injection hv1 with h1 h2 h3
      injection h1 with h1
      injection h1 with h1
      subst h1
      exact there_of_row hg1 0 (by omega)
  clear own1 gr1 e1 e2 e3 e4 e5 hb2 hb3
  generalize hB : w.heap.size = B at *
  go_loopw [10] (fun i wr => ∃ k : Nat, k ≤ n ∧ i = .int .i64 k ∧ Below B w wr ∧ wr.there B 0 (32 * n) ∧ HRow wr B 0 k (fun k => leaf (t k).data.toList)) (fun i _ => n - (intOf i).toNat)
  case atStart => exact ⟨0, by omega, rfl, bel1, th1, fun k hk => by omega⟩
  case round =>
    clear bel1 th1
    obtain ⟨k, hk, rfl, bel, th, hr⟩ := hrel
    by_cases hlt : k < n
    · have hd : decide ((k : Int) < (n : Int)) = true := by simp; omega
      have i0 : (0 : Int) ≤ (k : Int) := by omega
      have i1 : (k : Int) < (n : Int) := by omega
      have c1 : wr.cell? ⟨b, off + k, none⟩ = some (.string (t k)) := by
        have hc := hT k hlt
        rw [bel.cell (p := ⟨b, off + k, none⟩) (by rw [← hB]; exact block_lt_of_cell hc)]; exact hc
      have kr : KIn wr := hK.below bel hB0
      go_wp2_with fail
      refine (leaf_hv (t k) wr kr (hz k hlt)).mono ?_
      rintro e w2 ⟨rfl, bq⟩
      have th2 := thereNext th bq
      have hr2 := hr.next bq
      have bel2 : Below B w w2 := bel.trans (bq.mono (by have := bel.size; omega))
      have th3 : w2.there B (k * 32) (hv (leaf (t k).data.toList)).toArray.size := fun j hj => by
        rw [List.size_toArray, hv_length] at hj
        have := th2 (k * 32 + j) (by omega)
        rw [Nat.zero_add] at this
        exact this
      have hi3 : (Tryd.prog.info? 23).map (·.size) = some (hv (leaf (t k).data.toList)).toArray.size := by rw [List.size_toArray]; exact infoH _
      have ho3 := all_oneCell_toArray (hv_one (leaf (t k).data.toList))
      go_wp2_with (refine wpList_store_mid rfl 23 _ _ rfl B (k * 32) _ rfl rfl th3 hi3 ho3 ?_)
      go_round
      case rel => exact ⟨k + 1, by omega, by go_num, below_setCells (Nat.le_refl _) _ _ bel2, World.there_setCells th2 _ _ _, hr2.set th2 hlt⟩
      case measure => simp [intOf]; omega
    · obtain rfl : k = n := by omega
      have hd : decide ((k : Int) < (k : Int)) = false := by simp
      go_wp2_with fail
      go_ret
      subst hB
      exact ⟨rfl, hr, th, bel⟩
end Go.Proofs.YtlpiokepagkahaaDoor
