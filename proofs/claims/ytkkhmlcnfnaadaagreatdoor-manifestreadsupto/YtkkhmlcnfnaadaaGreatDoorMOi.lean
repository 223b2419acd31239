/- itemOf: a version as an item. -/
import Derived.Test.YtkkhmlcnfnaadaaGreatDoorMMn
import Derived.Test.YtkkhmlcnfnaadaaGreatDoorGo
import Derived.Laws.Tables
namespace Go.Proofs.YtkkhmlcnfnaadaaGreatDoor
set_option maxRecDepth 100000
set_option linter.unusedVariables false
set_option linter.unusedSimpArgs false
open Go.RowKit
open Go.Proofs.YtkkhmlcnfnaadaaGreatDoorH (hv hv_length hv_one hv_eq KIn leaf leaf_hv below_setCells)
attribute [local go_sem ↓] Go.wp_at_zero Go.wp_at_succ
noncomputable def bdI (v : Array (Nat × Value)) : Sem Value := Instr.build 46 v
theorem bdIe (v : Array (Nat × Value)) : Instr.build 46 v = bdI v := rfl
theorem lay_five (k : List UInt8) (s : Int) (m : Bool) (z : Int) (a : Option Addr) (n c : Nat) (f : Nat → UInt8) : Tryz.prog.built 46 [(0, str k), (1, .int .i64 s), (2, .bool m), (3, .int .i64 z), (4, .slice a n c), (5, .agg (hv f).toArray)] = some (([str k, .int .i64 s, .bool m, .int .i64 z, .slice a n c] ++ hv f).toArray) := by
  rw [hv_eq]
  kernel_rfl
theorem run_bdI (x : It) (a : Option Addr) (c : Nat) (w : World) : (bdI #[(0, str x.key), (1, .int .i64 x.seq), (2, .bool x.mkr), (3, .int .i64 x.size), (4, .slice a x.l.length c), (5, .agg (hv x.g).toArray)]).run Tryz.prog w = .ok (.agg (ic x a c).toArray) w := by
  unfold bdI ic
  exact run_build w 46 _ _ (lay_five _ _ _ _ _ _ _ _)
/-- a slice of pairs behind a row of one's own -/
theorem run_ow {base : Nat} {w : World} {v : Value} {l : List En} {ad : Option Addr} {k c : Nat} (ty : TypeId) (q : List En) (hO : Ow base w v l) (hS : Sl w ad c q) (hk : q.length = k) (hn : l.length + q.length ≤ 4500000000000) :
    ∃ v' w', (Builtin.append_ #[43, 43] ty #[v, .slice ad k c]).run Tryz.prog w = .ok v' w' ∧ Ow base w' v' (l ++ q) ∧ Below base w w' := by
  obtain ⟨i0, hi0, hz0, hz1, hz2⟩ := infoP
  have hm : maxLen = 9223372036854775807 := rfl
  subst hk
  cases ad with
  | none =>
    have hc := hS.nil rfl
    have h0 : q.length = 0 := by have := hS.le; omega
    have hq : q = [] := List.eq_nil_of_length_eq_zero h0
    subst hq hc
    exact ⟨v, w, run_append_owned_none (P := Tryz.prog) w base 43 ty 49 i0 2 Tryz.underlying43 hi0 _ l.length (pcells l) hO.own, by simpa using hO, Below.refl _ _⟩
  | some ad =>
    have hspot : q.length = 0 ∨ ad.spot = none := by
      rcases Nat.eq_zero_or_pos q.length with h0 | h0
      · exact Or.inl h0
      · obtain ⟨b, off, e, _⟩ := hS.at'.get 0 q[0] (List.getElem?_eq_getElem h0)
        injection e with e
        exact Or.inr (by rw [e])
    have hcells : ∀ j u, (pcells q)[j]? = some u → w.cell? (ad.add j) = some u := by
      rcases hspot with h0 | h0
      · intro j u hj
        have hq : q = [] := List.eq_nil_of_length_eq_zero h0
        subst hq
        simp [pcells] at hj
      · obtain ⟨b, off, sp⟩ := ad
        simp at h0
        subst h0
        exact hS.at'.cells
    obtain ⟨v', w', hr, hown, hgrow, _⟩ := run_append_own_wide (P := Tryz.prog) w base 43 ty 49 i0 _ 2 32 Tryz.underlying43 hi0 hz0 hz1 hz2 rfl (by omega) v l.length (pcells l) hO.own ad q.length c (pcells q) (pcells_length q) hcells (pcells_one q) (by rw [hm]; omega) (by omega) hO.le
    refine ⟨v', w', hr, ⟨?_, ?_⟩, grown_below hO.own hO.le hgrow⟩
    · rw [pcells_append, List.length_append]; exact hown
    · have := hgrow.size; have h2 := hO.le; omega
/-- a version's item, with the hash of its text -/
noncomputable abbrev itOf (v : Vs) (s : List UInt8) : It := ⟨v.key, v.seq, v.mkr, v.data.length, v.l, leaf s⟩
attribute [local go_sem ↓] ldIe stIe bdIe
set_option maxHeartbeats 4000000 in
theorem itemOf_any (v : Vs) (s : List UInt8) (w : World) (a : Option Addr) (n c : Nat) (hn : v.l.length = n) (hS : Sl w a c v.l) (hK : KIn w) (hs : s.length ≤ 1048576) (hl : v.l.length ≤ 1000000000000) :
    Calls Tryz.prog 22 #[vv v.key v.seq v.mkr v.data a n c, str s] w fun e w' => ∃ a' c', e = .returned (.agg (ic (itOf v s) a' c').toArray) ∧ Ow w.heap.size w' (.slice a' v.l.length c') v.l ∧ Below w.heap.size w w' := by
  subst hn
  obtain ⟨key, seq, mkr, data, l⟩ := v
  dsimp only at *
  have b0 := (Below.refl w.heap.size w).alloc (Nat.le_refl _) (.cells #[str key, .int .i64 seq, .bool mkr, str data, .slice a l.length c] 62)
  have b1 := b0.alloc b0.size (.cells zI 46)
  obtain ⟨W1, hW1⟩ : ∃ W1, W1 = (w.alloc (.cells #[str key, .int .i64 seq, .bool mkr, str data, .slice a l.length c] 62)).alloc (.cells zI 46) := ⟨_, rfl⟩
  have hsz : W1.heap.size = w.heap.size + 2 := by rw [hW1]; simp
  have e0 : W1.heap[w.heap.size]? = some (.cells #[str key, .int .i64 seq, .bool mkr, str data, .slice a l.length c] 62 (0, 0)) := by
    rw [hW1, heap_alloc_old _ _ _ (by simp)]; exact heap_alloc_new _ _
  have e1 : W1.heap[w.heap.size + 1]? = some (.cells zI 46 (0, 0)) := by
    rw [hW1]; have := heap_alloc_new (w.alloc (.cells #[str key, .int .i64 seq, .bool mkr, str data, .slice a l.length c] 62)) (.cells zI 46); simpa using this
  rw [← hW1] at b1
  have HB1 := Hid.mk b1
  have HS1 := Hid.mk (hS.later b1)
  have HK1 := Hid.mk (hK.seq b1)
  have XC : Hid (∀ w', Below (w.heap.size + 1) W1 w' → Below (w.heap.size + 1) W1 w' ∧ w'.cell? ⟨w.heap.size, 0, none⟩ = some (str key) ∧ w'.cell? ⟨w.heap.size, 1, none⟩ = some (.int .i64 seq) ∧ w'.cell? ⟨w.heap.size, 2, none⟩ = some (.bool mkr) ∧ w'.cell? ⟨w.heap.size, 3, none⟩ = some (str data) ∧ w'.cell? ⟨w.heap.size, 4, none⟩ = some (.slice a l.length c)) := ⟨fun w' h => by
    have e := (h.block w.heap.size (by omega)).trans e0
    refine ⟨h, ?_, ?_, ?_, ?_, ?_⟩ <;> (rw [cell_of_row _ _ _ _ _ _ e]; rfl)⟩
  obtain ⟨v2, w2, hr, o2, b2⟩ := run_ow (base := W1.heap.size) (w := W1.drew) 43 l (Ow.nil W1.drew _ (Nat.le_refl _)) (HS1.out.later (Below.refl _ _).drew) rfl (by simp; omega)
  rw [List.nil_append] at o2
  have b2' : Below W1.heap.size W1 w2 := (Below.refl _ W1).drew.trans b2
  obtain ⟨va, vc, rfl, _⟩ := o2.sl
  have hlf := leaf_hv ⟨s.toArray⟩ w2 (HK1.out.seq b2') (by rw [str_size]; omega)
  have hbd : ∀ w, (bdI #[(0, str key), (1, .int .i64 seq), (2, .bool mkr), (3, .int .i64 (data.length : Int)), (4, .slice va l.length vc), (5, .agg (hv (leaf s)).toArray)]).run Tryz.prog w = .ok (.agg (ic (itOf ⟨key, seq, mkr, data, l⟩ s) va vc).toArray) w := run_bdI (itOf ⟨key, seq, mkr, data, l⟩ s) va vc
  have HO2 := Hid.mk o2
  have HB2 := Hid.mk b2'
  have HE1 := Hid.mk e1
  have hnd : ∀ ty, (Builtin.append_ #[43, 43] ty #[.slice none 0 0, .slice a l.length c]).run Tryz.prog W1.drew = .ok (.slice va l.length vc) w2 := fun ty => hr
  clear b0 b1 hS e0 e1 o2 b2 b2' hr
  go_enter Tryz.func22, Tryz.ntmps22
  go_wp2_with fail
  rw [← hW1]
  clear hW1
  go_region_held3 (fun w' => Below (w.heap.size + 1) W1 w' ∧ w'.cell? ⟨w.heap.size, 0, none⟩ = some (str key) ∧ w'.cell? ⟨w.heap.size, 1, none⟩ = some (.int .i64 seq) ∧ w'.cell? ⟨w.heap.size, 2, none⟩ = some (.bool mkr) ∧ w'.cell? ⟨w.heap.size, 3, none⟩ = some (str data) ∧ w'.cell? ⟨w.heap.size, 4, none⟩ = some (.slice a l.length c)) (first
    | exact XC.out _ (Below.refl _ _).drew
    | exact XC.out _ (HB2.out.mono (by omega))
    | exact XC.out _ HB3.out
    | exact XC.out _ HB4.out) (first
    | (go_at_call 45; with_reducible refine Calls.mono hlf ?_; rintro e w3 ⟨rfl, b3⟩; have HB3 : Hid (Below (w.heap.size + 1) W1 w3) := ⟨(below_seq HB2.out b3).mono (by omega)⟩; have hst := run_stI2 ((b3.block (w.heap.size + 1) (by have := HB2.out.size; omega)).trans ((HB2.out.block _ (by omega)).trans HE1.out)) rfl (itOf ⟨key, seq, mkr, data, l⟩ s) va vc; have HB4 : Hid (Below (w.heap.size + 1) W1 (w3.setCells (w.heap.size + 1) 0 (ic (itOf ⟨key, seq, mkr, data, l⟩ s) va vc))) := ⟨below_setCells (Nat.le_refl _) _ _ HB3.out⟩)
    | ((with_reducible (refine at_sta rfl ?_)); refine step_run rfl _ _ rfl rfl rfl (hnd _) ?_))
  have HI : Hid (Bi (w3.setCells (w.heap.size + 1) 0 (ic (itOf ⟨key, seq, mkr, data, l⟩ s) va vc)) (w.heap.size + 1) (itOf ⟨key, seq, mkr, data, l⟩ s) va vc) := ⟨Bi.setI ((b3.block (w.heap.size + 1) (by have := HB2.out.size; omega)).trans ((HB2.out.block _ (by omega)).trans HE1.out)) rfl _ _ _⟩
  have HO3 : Hid (Ow w.heap.size (w3.setCells (w.heap.size + 1) 0 (ic (itOf ⟨key, seq, mkr, data, l⟩ s) va vc)) (.slice va l.length vc) l) := ⟨((HO2.out.later b3).keep (by rw [szs]; exact Nat.le_refl _) (fun k hk hkl => hsos (by omega) _ _)).base (by omega)⟩
  have HBw : Hid (Below w.heap.size w (w3.setCells (w.heap.size + 1) 0 (ic (itOf ⟨key, seq, mkr, data, l⟩ s) va vc))) := ⟨HB1.out.trans (HB4.out.mono (by omega))⟩
  go_wp2_with fail
  exact bodyPost_ret (results_cell_row Tryz.results22 _ _ (w.heap.size + 1) 46 _ (0, 0) _ rfl HI.out Tryz.underlying46 rfl (by rw [List.size_toArray, ic_length]; exact infoI)) rfl ⟨va, vc, rfl, HO3.out, HBw.out⟩
end Go.Proofs.YtkkhmlcnfnaadaaGreatDoor
