/- Put, Delete. -/
import Derived.Test.YtibmnpkmbhjniaaSpl
import Derived.Test.YtibmnpkmbhjniaaFin
import Derived.Test.YtibmnpkmbhjniaaRun
namespace Go.Proofs.Ytibmnpkmbhjniaa
set_option linter.unusedVariables false
set_option linter.unusedSimpArgs false
open Go.RowKit
attribute [local go_sem ↓] Go.wp_at_zero Go.wp_at_succ
attribute [local go_sem ↓] slPe
set_option maxHeartbeats 1000000 in
theorem put_any (l : List En) (k v : List UInt8) (hs : Srt l) (w : World) (a : Option Addr) (n cap : Nat) (hn : l.length = n) (hS : Sl w a cap l) (hl : l.length ≤ 100000000000) :
    Calls Try.prog 16 #[.slice a n cap, str k, str v] w fun e w' => ∃ r, e = .returned r ∧ Ow w.heap.size w' r (put l k v) ∧ Below w.heap.size w w' := by
  subst hn
  have hf := find_any l k hs w a cap hS.at' (by omega)
  have hle := fnd_le l k
  have HP : Hid (put l k v = l.take (fnd l k) ++ ⟨k, v⟩ :: l.drop (fnd l k + if hit l k then 1 else 0)) := ⟨rfl⟩
  have r1 := fun w => run_slP_lo a l.length cap (fnd l k) hle hS.le hS.max hS.nil w
  have r3 := fun w => run_slP_3 a l.length cap (fnd l k) (by have := hS.le; omega) hS.max hS.nil w
  have s2 := hS.drop (fnd l k) hle
  unfold found at hf
  by_cases hh : hit l k = true
  · have hlt : fnd l k < l.length := by
      rcases Nat.lt_or_ge (fnd l k) l.length with q | q
      · exact q
      · rw [hit_none (by omega)] at hh; cases hh
    rw [hh] at hf HP
    have r2 : ∀ w, (slP (.slice (dropA a cap (fnd l k)) (l.length - fnd l k) (cap - fnd l k)) (some (.int .i64 1)) none none).run Try.prog w = .ok (.slice (dropA (dropA a cap (fnd l k)) (cap - fnd l k) 1) (l.length - fnd l k - 1) (cap - fnd l k - 1)) w := fun w => run_slP_lo (dropA a cap (fnd l k)) (l.length - fnd l k) (cap - fnd l k) 1 (by omega) (by have := hS.le; omega) (by have := hS.max; omega) s2.nil w
    have s4 := s2.drop 1 (by rw [List.length_drop]; omega)
    rw [List.drop_drop] at s4
    have l4 : (l.drop (fnd l k + 1)).length = l.length - fnd l k - 1 := by rw [List.length_drop]; omega
    have l3 : (l.take (fnd l k)).length = fnd l k := by rw [List.length_take]; omega
    have s3 := hS.cut (fnd l k) hle
    generalize hX : l.take (fnd l k) = X at *
    generalize hY : l.drop (fnd l k + 1) = Y at *
    generalize dropA (dropA a cap (fnd l k)) (cap - fnd l k) 1 = a4 at *
    generalize dropA a cap (fnd l k) = a2 at *
    generalize put l k v = PP at *
    generalize fnd l k = f at *
    simp only [if_true, hY] at HP
    clear hh hX hY s2
    go_enter Try.func16, Try.ntmps16
    go_wp2_with (first
      | (go_at_call 18; refine hf.mono ?_; rintro e w0 ⟨rfl, HB⟩)
      | (refine app_full rfl _ _ rfl ⟨k, v⟩ rfl (s3.later HB) l3 rfl HB.size (by omega) rfl rfl ?_; intro v1 w1 o1 b1)
      | (refine app_slice rfl _ _ rfl Y o1 (s4.later (HB.trans b1)) l4 (by simp; omega) rfl rfl ?_; intro v2 w2 o2 b2))
    go_ret
    exact ⟨_, rfl, by rw [HP.out]; simpa using o2, (HB.trans b1).trans b2⟩
  · have hh' : hit l k = false := by simpa using hh
    rw [hh'] at hf HP
    have l4 : (l.drop (fnd l k)).length = l.length - fnd l k := by rw [List.length_drop]
    have l3 : (l.take (fnd l k)).length = fnd l k := by rw [List.length_take]; omega
    have s3 := hS.cut (fnd l k) hle
    generalize hX : l.take (fnd l k) = X at *
    simp only [if_false, Bool.false_eq_true, Nat.add_zero] at HP
    generalize hY : l.drop (fnd l k) = Y at *
    generalize dropA a cap (fnd l k) = a2 at *
    generalize put l k v = PP at *
    generalize fnd l k = f at *
    clear hh hh' hX hY
    go_enter Try.func16, Try.ntmps16
    go_wp2_with (first
      | (go_at_call 18; refine hf.mono ?_; rintro e w0 ⟨rfl, HB⟩)
      | (refine app_full rfl _ _ rfl ⟨k, v⟩ rfl (s3.later HB) l3 rfl HB.size (by omega) rfl rfl ?_; intro v1 w1 o1 b1)
      | (refine app_slice rfl _ _ rfl Y o1 (s2.later (HB.trans b1)) l4 (by simp; omega) rfl rfl ?_; intro v2 w2 o2 b2))
    go_ret
    exact ⟨_, rfl, by rw [HP.out]; simpa using o2, (HB.trans b1).trans b2⟩
/-- what a nil row grows to -/
theorem run_grow0 (w : World) (ty : TypeId) (m : Nat) (h0 : 0 < m) (hm : m ≤ 1000000000000) :
    ∃ cap, m ≤ cap ∧ cap ≤ 9223372036854775807 ∧ (Builtin.append_ #[22, 3] ty #[.slice none 0 0, .int .i64 (m : Int)]).run Try.prog w = .ok (.slice (some ⟨w.heap.size, 0, none⟩) m cap) (w.drew.alloc (.cells (Builtin.zeroCells (Value.agg #[.string ⟨#[]⟩, .string ⟨#[]⟩]).cells m ++ Builtin.zeroCells (Value.agg #[.string ⟨#[]⟩, .string ⟨#[]⟩]).cells (cap - m)) 43)) := by
  obtain ⟨i0, hi0, hz0, hz1, hz2⟩ := infoP
  have hw : IntKind.i64.wrap (m : Int) = (m : Int) := by rw [IntKind.wrap_i64]; omega
  refine ⟨grownCap w m 0 43, grownCap_ge w m 0 43, grownCap_le_maxLen w _ _ _ (by show _ ≤ 9223372036854775807; omega), ?_⟩
  have hn : m ≠ 0 := by omega
  have h63' : ¬ (9223372036854775807 < (m : Int)) := by omega
  have hneg : ¬ ((m : Int) < 0) := by omega
  have h48' : ¬ (281474976710656 < Builtin.nextslicecap m 0 * 32) := by rw [nextslicecap_zero h0]; omega
  have hbig : ¬ ((281474976710656 : Int) < m * 32) := by omega
  have hn2 : m * 2 ≠ 0 := by omega
  simp [Builtin.append_, run_underlying Try.underlying22, run_underlying Try.underlying3, sizeOf, typeInfo, zeroValue, hi0, hz0, Builtin.lenOf, hn, h63', h48', Question.forced, run_firstCells_none, newRow, grownCap, asInt, asIntOf, hw, hneg, hbig, Builtin.firstCells, hz1, hz2, hn2]
noncomputable def apI (a b : TypeId) (ty : TypeId) (x : Array Value) : Sem Value := Builtin.append_ #[a, b] ty x
theorem zc_size (m : Nat) : (Builtin.zeroCells (Value.agg #[.string ⟨#[]⟩, .string ⟨#[]⟩]).cells m).size = m * 2 := by
  rw [size_zeroCells]; rfl
theorem grow_any (m : Nat) (w : World) (hm : m ≤ 1000000000000) :
    Calls Try.prog 50 #[.slice none 0 0, .int .i64 (m : Int)] w fun e w' => ∃ v, e = .returned v ∧ Ow w.heap.size w' v [] ∧ Below w.heap.size w w' := by
  by_cases h0 : m = 0
  · subst h0
    go_enter Try.func50, Try.ntmps50
    go_wp2_with fail
    go_ret
    exact ⟨_, rfl, Ow.nil _ _ (Nat.le_refl _), Below.refl _ _⟩
  · have d1 : decide ((m : Int) < 0) = false := decide_eq_false (by omega)
    have d2 : decide ((0 : Int) < (m : Int)) = true := decide_eq_true (by omega)
    have r0 : ∀ w, (slP (.slice none 0 0) none (some (.int .i64 0)) none).run Try.prog w = .ok (.slice none 0 0) w := fun w => run_slP none 0 0 0 (by omega) (by omega) (fun _ => rfl) w
    obtain ⟨cap, c1, c2, hr⟩ := run_grow0 w 22 m (by omega) hm
    have r1 : ∀ w', (slP (.slice (some ⟨w.heap.size, 0, none⟩) m cap) none (some (.int .i64 0)) none).run Try.prog w' = .ok (.slice (some ⟨w.heap.size, 0, none⟩) 0 cap) w' := fun w' => run_slP _ m cap 0 (by omega) c2 (fun h => by cases h) w'
    have HO : Hid (Ow w.heap.size (w.drew.alloc (.cells (Builtin.zeroCells (Value.agg #[.string ⟨#[]⟩, .string ⟨#[]⟩]).cells m ++ Builtin.zeroCells (Value.agg #[.string ⟨#[]⟩, .string ⟨#[]⟩]).cells (cap - m)) 43)) (.slice (some ⟨w.heap.size, 0, none⟩) 0 cap) []) :=
      ⟨⟨rfl, Or.inr ⟨w.heap.size, cap, _, rfl, Nat.le_refl _, heap_alloc_new w.drew _, Nat.zero_le _, c2, by rw [Array.size_append, zc_size, zc_size]; omega, by simp [pcells]⟩⟩, by simp⟩
    have HB : Hid (Below w.heap.size w (w.drew.alloc (.cells (Builtin.zeroCells (Value.agg #[.string ⟨#[]⟩, .string ⟨#[]⟩]).cells m ++ Builtin.zeroCells (Value.agg #[.string ⟨#[]⟩, .string ⟨#[]⟩]).cells (cap - m)) 43))) := ⟨(Below.refl _ _).drew.alloc (Nat.le_refl _) _⟩
    generalize w.drew.alloc (.cells (Builtin.zeroCells (Value.agg #[.string ⟨#[]⟩, .string ⟨#[]⟩]).cells m ++ Builtin.zeroCells (Value.agg #[.string ⟨#[]⟩, .string ⟨#[]⟩]).cells (cap - m)) 43) = w9 at *
    go_enter Try.func50, Try.ntmps50
    go_wp2_with (refine app_run rfl _ _ rfl rfl rfl hr ?_)
    go_ret
    exact ⟨_, rfl, HO.out, HB.out⟩
/-- Concat of two -/
theorem concat_any (x y : List En) (w : World) (g : Nat) (ax ay : Option Addr) (cx cy nx ny : Nat) (hg : w.heap[g]? = some (.cells #[.slice ax nx cx, .slice ay ny cy] 22 (0, 0))) (hnx : x.length = nx) (hny : y.length = ny) (hX : Sl w ax cx x) (hY : Sl w ay cy y) (hl : x.length + y.length ≤ 1000000000000) :
    Calls Try.prog 39 #[.slice (some ⟨g, 0, none⟩) 2 2] w fun e w' => ∃ v, e = .returned v ∧ Ow w.heap.size w' v (x ++ y) ∧ Below w.heap.size w w' := by
  subst hnx hny
  have hgl : g < w.heap.size := by
    rcases Nat.lt_or_ge g w.heap.size with q | q
    · exact q
    · rw [Array.getElem?_eq_none q] at hg; cases hg
  have cs : ∀ w', Below w.heap.size w w' → w'.cell? ⟨g, 0, none⟩ = some (.slice ax x.length cx) ∧ w'.cell? ⟨g, 1, none⟩ = some (.slice ay y.length cy) := fun w' hb => by
    have hr : w'.heap[g]? = some (.cells #[.slice ax x.length cx, .slice ay y.length cy] 22 (0, 0)) := by rw [hb.block g hgl]; exact hg
    exact ⟨by rw [cell_of_row _ _ _ _ _ _ hr]; rfl, by rw [cell_of_row _ _ _ _ _ _ hr]; rfl⟩
  have hgr := fun w => grow_any (x.length + y.length) w hl
  rw [Int.natCast_add] at hgr
  go_enter Try.func39, Try.ntmps39
  go_wp2_with fail
  go_loopw [3, 11] (fun s i wr => (i = .int .i64 0 ∧ s = .int .i64 0 ∨ i = .int .i64 1 ∧ s = .int .i64 (x.length : Int) ∨ i = .int .i64 2 ∧ s = .int .i64 ((x.length : Int) + (y.length : Int))) ∧ wr = w) (fun _ i _ => 2 - (intOf i).toNat)
  case atStart => exact ⟨Or.inl ⟨rfl, rfl⟩, rfl⟩
  case round =>
    obtain ⟨c0, c1⟩ := cs w (Below.refl _ _)
    obtain ⟨h, rfl⟩ := hrel
    rcases h with ⟨rfl, rfl⟩ | ⟨rfl, rfl⟩ | ⟨rfl, rfl⟩
    · have d1 : decide ((x.length : Int) < 0) = false := decide_eq_false (by omega)
      go_wp2_with fail
      exact ⟨⟨Or.inr (Or.inl ⟨rfl, rfl⟩), trivial⟩, by simp [intOf]⟩
    · have d1 : decide ((x.length : Int) + (y.length : Int) < 0) = false := decide_eq_false (by omega)
      go_wp2_with fail
      exact ⟨⟨Or.inr (Or.inr ⟨rfl, rfl⟩), trivial⟩, by simp [intOf]⟩
    · clear c0 c1
      go_wp2_with (go_at_call 50; refine (hgr _).mono ?_; rintro e w1 ⟨v1, rfl, o1, b1⟩)
      go_loopw [6, 27] (fun s i wr2 => (i = .int .i64 0 ∧ Ow wr.heap.size wr2 s [] ∨ i = .int .i64 1 ∧ Ow wr.heap.size wr2 s x ∨ i = .int .i64 2 ∧ Ow wr.heap.size wr2 s (x ++ y)) ∧ Below wr.heap.size wr wr2) (fun _ i _ => 2 - (intOf i).toNat)
      case atStart => exact ⟨Or.inl ⟨rfl, o1⟩, b1⟩
      case round =>
        obtain ⟨h, hb⟩ := hrel
        obtain ⟨c0, c1⟩ := cs _ hb
        rcases h with ⟨rfl, o2⟩ | ⟨rfl, o2⟩ | ⟨rfl, o2⟩
        · go_wp2_with (refine app_slice rfl _ _ rfl x o2 (hX.later hb) rfl (by simp; omega) rfl rfl ?_; intro v3 w3 o3 b3)
          exact ⟨⟨Or.inr (Or.inl ⟨rfl, by simpa using o3⟩), hb.trans b3⟩, by simp [intOf]⟩
        · go_wp2_with (refine app_slice rfl _ _ rfl y o2 (hY.later hb) rfl (by omega) rfl rfl ?_; intro v3 w3 o3 b3)
          exact ⟨⟨Or.inr (Or.inr ⟨rfl, o3⟩), hb.trans b3⟩, by simp [intOf]⟩
        · go_wp2_with fail
          go_ret
          exact ⟨_, rfl, o2, hb⟩
def DelP (w : World) (l : List En) (k : List UInt8) (e : Ending) (w' : World) : Prop := ∃ v, e = .returned (.tuple #[v, .bool (hit l k)]) ∧ Ow w.heap.size w' v (del l k) ∧ Below w.heap.size w w'
set_option maxHeartbeats 1000000 in
theorem delete_any (l : List En) (k : List UInt8) (hs : Srt l) (w : World) (a : Option Addr) (n cap : Nat) (hn : l.length = n) (hS : Sl w a cap l) (hl : l.length ≤ 100000000000) :
    Calls Try.prog 17 #[.slice a n cap, str k] w (DelP w l k) := by
  subst hn
  have hf := find_any l k hs w a cap hS.at' (by omega)
  have hle := fnd_le l k
  unfold found at hf
  by_cases hh : hit l k = true
  · have hlt : fnd l k < l.length := by
      rcases Nat.lt_or_ge (fnd l k) l.length with q | q
      · exact q
      · rw [hit_none (by omega)] at hh; cases hh
    rw [hh] at hf
    have HP : Hid (∀ v w', Ow w.heap.size w' v (l.take (fnd l k) ++ l.drop (fnd l k + 1)) → Below w.heap.size w w' → DelP w l k (.returned (.tuple #[v, .bool true])) w') := ⟨fun v w' o b => ⟨v, by rw [hh], by unfold del; rw [hh]; exact o, b⟩⟩
    have r1 := fun w => run_slP a l.length cap (fnd l k) (by have := hS.le; omega) hS.max hS.nil w
    have r2 : ∀ w, (slP (.slice a l.length cap) (some (.int .i64 ((fnd l k : Int) + 1))) none none).run Try.prog w = .ok (.slice (dropA a cap (fnd l k + 1)) (l.length - (fnd l k + 1)) (cap - (fnd l k + 1))) w := fun w => run_slP_lo a l.length cap (fnd l k + 1) (by omega) hS.le hS.max hS.nil w
    have cc := fun (w0 : World) (hb : Below w.heap.size w w0) => concat_any (l.take (fnd l k)) (l.drop (fnd l k + 1)) (w0.alloc (.cells #[.slice a (fnd l k) cap, .slice (dropA a cap (fnd l k + 1)) (l.length - (fnd l k + 1)) (cap - (fnd l k + 1))] 22)).drew w0.heap.size a (dropA a cap (fnd l k + 1)) cap (cap - (fnd l k + 1)) (fnd l k) (l.length - (fnd l k + 1)) (heap_alloc_new _ _) (by rw [List.length_take]; omega) (by rw [List.length_drop])
      (((hS.later hb).take _).later ((Below.refl _ _).alloc (Nat.le_refl _) _).drew) (((hS.later hb).drop _ (by omega)).later ((Below.refl _ _).alloc (Nat.le_refl _) _).drew) (by rw [List.length_take, List.length_drop]; omega)
    generalize l.take (fnd l k) ++ l.drop (fnd l k + 1) = X at *
    generalize DelP w l k = PP at *
    generalize dropA a cap (fnd l k + 1) = a2 at *
    have hw1 : IntKind.i64.wrap ((fnd l k : Int) + 1) = (fnd l k : Int) + 1 := by rw [IntKind.wrap_i64]; omega
    generalize fnd l k = f at *
    clear hh
    go_enter Try.func17, Try.ntmps17
    go_wp2_with (go_at_call 18; refine hf.mono ?_; rintro e w0 ⟨rfl, HB⟩)
    clear hf
    go_region_held3 (fun w' => True) (trivial) ((go_at_call 39; with_reducible refine Calls.mono (cc _ HB) ?_; rintro e w1 ⟨v, rfl, o1, b1⟩))
    go_wp2_with fail
    refine HP.out _ _ (o1.base (by have := HB.size; simp; omega)) ((HB.alloc HB.size _).drew.trans (b1.mono (by have := HB.size; simp; omega)))
  · have hh' : hit l k = false := by simpa using hh
    rw [hh'] at hf
    have HP : Hid (∀ v w', Ow w.heap.size w' v l → Below w.heap.size w w' → DelP w l k (.returned (.tuple #[v, .bool false])) w') := ⟨fun v w' o b => ⟨v, by rw [hh'], by unfold del; rw [hh']; simpa using o, b⟩⟩
    have hc := fun w' (hb : Below w.heap.size w w') => clone_any l w' a l.length cap (hS.later hb) rfl (by omega)
    generalize DelP w l k = PP at *
    generalize fnd l k = f at *
    clear hh hh'
    go_enter Try.func17, Try.ntmps17
    go_wp2_with (first
      | (go_at_call 18; refine hf.mono ?_; rintro e w0 ⟨rfl, HB⟩)
      | (go_at_call 38; refine (hc _ HB).mono ?_; rintro e w1 ⟨v, rfl, o1, b1⟩))
    exact HP.out _ _ (o1.base HB.size) (HB.trans (b1.mono HB.size))
end Go.Proofs.Ytibmnpkmbhjniaa
