/- WriteString of a builder, and which blocks it leaves alone. -/
import Derived.Test.YtbiponnchppndaaGreatDoorMRe
namespace Go.Proofs.YtbiponnchppndaaGreatDoor
set_option maxRecDepth 100000
set_option linter.unusedVariables false
set_option linter.unusedSimpArgs false
open Go.RowKit Go.Shelf
theorem copy_used (g : Nat) (w : World) (h0 : w.cell? ⟨g, 0, none⟩ = some (.pointer (some ⟨g, 0, none⟩))) : Calls Tryz.prog 70 #[.pointer (some ⟨g, 0, none⟩)] w fun e w' => e = .returned (.tuple #[]) ∧ w' = w :=
  Any.Builder_copyCheck_used (P := Tryz.prog) (ρ := Tryz.lays105_ren) { Tryz.lays105 with } Tryz.Builder_Extra_105.toX72 g w h0
theorem copy_fresh (g : Nat) (w : World) (h0 : w.cell? ⟨g, 0, none⟩ = some (.pointer none)) (hs : w.shape? g = some (84, 2)) (hf : w.frozen? ⟨g, 0, none⟩ = false) : Calls Tryz.prog 70 #[.pointer (some ⟨g, 0, none⟩)] w fun e w' => e = .returned (.tuple #[]) ∧ w' = w.setCell ⟨g, 0, none⟩ (.pointer (some ⟨g, 0, none⟩)) :=
  Any.Builder_copyCheck_fresh (P := Tryz.prog) (ρ := Tryz.lays105_ren) { Tryz.lays105 with } Tryz.Builder_Extra_105.toX72 g w h0 hs hf
/-- a builder that holds these bytes -/
structure Bld (w : World) (g : Nat) (v : Value) (l : List UInt8) : Prop where
  box : ∃ p, (p = .pointer none ∨ p = .pointer (some ⟨g, 0, none⟩)) ∧ w.heap[g]? = some (.cells #[p, v] 84 (0, 0))
  own : w.ownsRow 0 5 1 v l.length (Lib.byteCells l)
  ne : v.ownBlock ≠ some g
theorem infoBy : (Tryz.prog.info? 5).map (fun i => (i.zero, i.size, i.bytes)) = some (some (.int .u8 0), 1, 1) := Tryz.Builder_Extra_105.infoByte
/-- where a text's bytes are laid behind one's own -/
theorem str_app {w : World} (ty : TypeId) {v : Value} {l : List UInt8} (hown : w.ownsRow 0 5 1 v l.length (Lib.byteCells l)) (s : ByteArray) (hlen : l.length + s.size ≤ 140737488355328) :
    ∃ a n c w', (Builtin.append_ #[67, 9] ty #[v, .string s]).run Tryz.prog w = .ok (.slice a n c) w' ∧ w'.ownsRow 0 5 1 (.slice a n c) (l ++ s.data.toList).length (Lib.byteCells (l ++ s.data.toList)) ∧ w.grownBy w' v.ownBlock ∧ (∀ b, (Value.slice a n c).ownBlock = some b → v.ownBlock = some b ∨ b = w.heap.size) := by
  obtain ⟨i0, hi, hz0, hz1, hz2⟩ := info_parts infoBy
  have hm : maxLen = 9223372036854775807 := rfl
  have hss : s.data.toList.length = s.size := Array.length_toList
  obtain ⟨v', w', hr, hown', hgrow, hnil⟩ := Lib.run_append_own_string (P := Tryz.prog) w 0 67 9 ty 5 i0 Tryz.underlying67 Tryz.underlying9 hi hz0 hz1 hz2 v l.length _ hown s (by rw [hm]; omega) (by omega) (Nat.zero_le _)
  have hv : ∃ a n c, v' = .slice a n c := by
    rcases hown'.2 with ⟨e, _⟩ | ⟨g, cap, cur, e, _⟩
    · exact ⟨_, _, _, e⟩
    · exact ⟨_, _, _, e⟩
  obtain ⟨a, n, c, rfl⟩ := hv
  refine ⟨a, n, c, w', hr, by rw [List.length_append, hss, Lib.byteCells_append]; exact hown', hgrow, fun b hb => ?_⟩
  rcases hown.2 with ⟨e, h0⟩ | ⟨g, cap, cur, e, hbg, hg, hnc, hcm, hcs, htake⟩
  · subst e
    by_cases hz : s.size = 0
    · have := (hnil.2 ⟨rfl, hz⟩)
      rw [this] at hb
      cases hb
    · have hr2 := run_append_nil_string (P := Tryz.prog) w 67 9 ty 5 i0 (.int .u8 0) Tryz.underlying67 Tryz.underlying9 hi hz0 s (by omega) (by omega) (by rw [hz2]; omega)
      rw [hr] at hr2
      injection hr2 with e1 e2
      rw [e1] at hb
      right
      simpa [Value.ownBlock] using hb.symm
  · subst e
    by_cases hroom : l.length + s.size ≤ cap
    · have hcs' : cur.size = cap := by simpa using hcs
      have hr2 := Lib.run_append_room_string (P := Tryz.prog) w 67 9 ty 5 i0 Tryz.underlying67 Tryz.underlying9 hi hz1 g l.length cap cur hg s hroom (by omega)
      rw [hr] at hr2
      injection hr2 with e1 e2
      rw [e1] at hb
      exact .inl hb
    · have holds : ∀ j u, (Lib.byteCells l)[j]? = some u → w.cell? ((⟨g, 0, none⟩ : Addr).add j) = some u := hown.cells (g := g) rfl
      have hr2 := Lib.run_append_grow_string (P := Tryz.prog) w 67 9 ty 5 i0 (.int .u8 0) Tryz.underlying67 Tryz.underlying9 hi hz0 ⟨g, 0, none⟩ l.length cap (Lib.byteCells l) (by rw [hz1, Lib.byteCells_length]; omega) holds s (by omega) (by omega) (by rw [hz2]; exact growslice_fits (by omega) (by omega))
      rw [hr] at hr2
      injection hr2 with e1 e2
      rw [e1] at hb
      right
      simpa [Value.ownBlock] using hb.symm
/-- behind WriteString -/
def WsP (w : World) (g : Nat) (v : Value) (l : List UInt8) (s : ByteArray) (w' : World) : Prop := ∃ v', Bld w' g v' (l ++ s.data.toList) ∧ Oth (fun b => b = g ∨ v.ownBlock = some b) w w' ∧ ∀ b, v'.ownBlock = some b → v.ownBlock = some b ∨ w.heap.size ≤ b
set_option maxHeartbeats 1000000 in
theorem wstr_any (g : Nat) (v : Value) (l : List UInt8) (s : ByteArray) (w : World) (h : Bld w g v l) (hlen : l.length + s.size ≤ 140737488355328) :
    Calls Tryz.prog 35 #[.pointer (some ⟨g, 0, none⟩), .string s] w fun e w' => e = .returned (.tuple #[.int .i64 s.size, .nilIface]) ∧ WsP w g v l s w' := by
  obtain ⟨p, hp, hb⟩ := h.box
  have hlt := lt_of_block hb
  have hcc : Calls Tryz.prog 70 #[.pointer (some ⟨g, 0, none⟩)] w fun e w' => e = .returned (.tuple #[]) ∧ w'.heap[g]? = some (.cells #[.pointer (some ⟨g, 0, none⟩), v] 84 (0, 0)) ∧ w'.heap.size = w.heap.size ∧ Oth (fun b => b = g) w w' := by
    rcases hp with e | e
    · subst e
      refine (copy_fresh g w (by rw [cell_of_row _ _ 0 _ _ _ hb]; rfl) ?_ (frozen_of_row _ _ _ _ _ hb)).mono ?_
      · unfold World.shape?; rw [hb]; rfl
      · rintro e w' ⟨rfl, rfl⟩
        refine ⟨rfl, by rw [heap_setCell_same _ _ _ _ _ _ hb]; rfl, by simp, ?_⟩
        have g1 := grownBy_setCell' w g (.pointer (some ⟨g, 0, none⟩))
        exact ⟨g1.os, g1.tape, g1.output, g1.size, fun b hb hx => g1.block b hb (fun q => hx (by injection q))⟩
    · subst e
      refine (copy_used g w (by rw [cell_of_row _ _ 0 _ _ _ hb]; rfl)).mono ?_
      rintro e w' ⟨rfl, rfl⟩
      exact ⟨rfl, hb, rfl, Oth.of_below (Below.refl _ _)⟩
  go_enter Tryz.func35, Tryz.ntmps35
  go_wp2_with fail
  with_reducible refine Calls.mono hcc ?_
  rintro e w1 ⟨rfl, hb1, hs1, ho1⟩
  dsimp only
  have hown1 : w1.ownsRow 0 5 1 v l.length (Lib.byteCells l) := by
    refine ⟨h.own.1, ?_⟩
    rcases h.own.2 with e | ⟨c, cap, cur, e, h2, h3, h4⟩
    · exact .inl e
    · refine .inr ⟨c, cap, cur, e, h2, ?_, h4⟩
      rw [ho1.block c (lt_of_block h3) (fun q => h.ne (by rw [e, ← q]; rfl))]
      exact h3
  obtain ⟨a2, n2, c2, w2, hr, hown2, hgrow, hwh⟩ := str_app 67 hown1 s hlen
  have hb2 : w2.heap[g]? = some (.cells #[.pointer (some ⟨g, 0, none⟩), v] 84 (0, 0)) := by
    rw [hgrow.block g (by omega) (fun q => h.ne q.symm)]
    exact hb1
  have p0 : w1.cell? ⟨g, 1, none⟩ = some v := by rw [cell_of_row _ _ _ _ _ _ hb1]; rfl
  have p1 : w2.cell? ⟨g, 1, none⟩ = some v := by rw [cell_of_row _ _ _ _ _ _ hb2]; rfl
  have f1 : w2.frozen? ⟨g, 1, none⟩ = false := frozen_of_row _ _ _ _ _ hb2
  have hv : ∃ a n c, v = .slice a n c := by
    rcases hown1.2 with ⟨e, _⟩ | ⟨g, cap, cur, e, _⟩
    · exact ⟨_, _, _, e⟩
    · exact ⟨_, _, _, e⟩
  obtain ⟨va, vn, vc, rfl⟩ := hv
  have hne2 : (Value.slice a2 n2 c2).ownBlock ≠ some g := fun q => by
    rcases hwh g q with z | z
    · exact h.ne z
    · omega
  have hfin : WsP w g (.slice va vn vc) l s (w2.setCell ⟨g, 1, none⟩ (.slice a2 n2 c2)) := by
    refine ⟨.slice a2 n2 c2, ⟨⟨_, .inr rfl, by rw [heap_setCell_same _ _ _ _ _ _ hb2]; rfl⟩, ownsRow_setCell_other hown2 (a := ⟨g, 1, none⟩) hne2 _, hne2⟩, ?_, fun b hb => ?_⟩
    · refine ⟨hgrow.os.trans ho1.os, hgrow.tape.trans ho1.tape, hgrow.output.trans ho1.output, by have := hgrow.size; simp; omega, fun b hb hx => ?_⟩
      have n1 : b ≠ g := fun q => hx (.inl q)
      rw [heap_setCell_other _ _ _ _ (by first | exact n1 | exact n1.symm), hgrow.block b (by omega) (fun q => hx (.inr q.symm)), ho1.block b hb n1]
    · rcases hwh b hb with z | z
      · exact .inl z
      · right; omega
  clear hwh hgrow hown2 hown1 ho1 hs1 hne2 hb1 hb2 hlt hb
  go_wp2_with (refine app_run rfl _ _ rfl rfl rfl hr ?_)
  refine bodyPost_ret (results_tmp2 rfl _ _ _) rfl ?_
  exact ⟨rfl, hfin⟩
theorem freeze_oth {w : World} {g : Nat} (n : Nat) {X : Bs} (hx : X g) : Oth X w (w.freeze ⟨g, 0, none⟩ n) := by
  unfold World.freeze
  split
  · exact Oth.of_below (Below.refl _ _)
  · exact ⟨rfl, rfl, rfl, by simp, fun b hb hn => by
      have : b ≠ g := fun q => hn (q ▸ hx)
      simp only [Array.getElem?_modify]
      rw [if_neg (fun q => this q.symm)]⟩
set_option maxHeartbeats 2000000 in
set_option maxRecDepth 100000 in
theorem bstr_any (g : Nat) (v : Value) (l : List UInt8) (w : World) (h : Bld w g v l) (h0 : l ≠ []) :
    Calls Tryz.prog 36 #[.pointer (some ⟨g, 0, none⟩)] w fun e w' => e = .returned (str l) ∧ Oth (fun b => v.ownBlock = some b) w w' := by
  obtain ⟨p, hp, hb⟩ := h.box
  have hl0 : l.length ≠ 0 := by simpa using h0
  have hown := h.own
  obtain ⟨c, cap, cur, rfl, hbg, hg, hnc, hcm, hcs, htake⟩ : ∃ c cap cur, v = .slice (some ⟨c, 0, none⟩) l.length cap ∧ 0 ≤ c ∧ w.heap[c]? = some (.cells cur 5 (0, 0)) ∧ l.length ≤ cap ∧ cap ≤ maxLen ∧ cur.size = cap * 1 ∧ cur.toList.take (l.length * 1) = Lib.byteCells l := by
    rcases hown.2 with ⟨_, hz⟩ | ⟨c, cap, cur, hv, r⟩
    · exact absurd hz hl0
    · exact ⟨c, cap, cur, hv, r⟩
  have c1 : w.drew.cell? ⟨g, 1, none⟩ = some (.slice (some ⟨c, 0, none⟩) l.length cap) := by
    have : w.drew.heap[g]? = some (.cells #[p, .slice (some ⟨c, 0, none⟩) l.length cap] 84 (0, 0)) := hb
    rw [cell_of_row _ _ _ _ _ _ this]; rfl
  have hSD : (Builtin.unsafeSliceData_ #[67] 127 #[.slice (some ⟨c, 0, none⟩) l.length cap]).run Tryz.prog w.drew = .ok (.pointer (some ⟨c, 0, none⟩)) w.drew := Lib.run_unsafeSliceData_row _ _ _ _ _ _ (by omega)
  have hUS : (Builtin.unsafeString_ #[127, 3] 9 #[.pointer (some ⟨c, 0, none⟩), .int .i64 l.length]).run Tryz.prog w.drew = .ok (.string ⟨l.toArray⟩) (w.drew.freeze ⟨c, 0, none⟩ l.length) := by
    refine Lib.run_unsafeString_row w.drew 127 3 9 5 Tryz.underlying127 Tryz.Builder_Extra_105.cellsByte c cur.size (by have hg' : w.drew.heap[c]? = some (.cells cur 5 (0, 0)) := hg; simp [World.shape?, hg']) l h0 (by omega) (by unfold maxLen at hcm; omega) ?_
    intro j x hx
    exact hown.cells (g := c) rfl j (.int .u8 x.toNat) (by simp [Lib.byteCells, hx])
  have hO : Oth (fun b => (Value.slice (some ⟨c, 0, none⟩) l.length cap).ownBlock = some b) w (w.drew.freeze ⟨c, 0, none⟩ l.length) := by
    have := freeze_oth (w := w.drew) (g := c) l.length (X := fun b => (Value.slice (some ⟨c, 0, none⟩) l.length cap).ownBlock = some b) rfl
    exact ⟨this.os, this.tape, this.output, this.size, this.block⟩
  have HO := Hid.mk hO
  clear hO hcs htake hcm hnc hg hbg hown hb hp h
  go_enter Tryz.func36, Tryz.ntmps36
  go_wp2
  go_region
  all_goals (go_wp2; go_ret; exact ⟨rfl, HO.out⟩)
end Go.Proofs.YtbiponnchppndaaGreatDoor
