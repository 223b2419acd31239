/- held: the writes that lie behind the head. -/
import Derived.Test.YtghdgddpdamhcaaGreatHel
namespace Go.Proofs.YtghdgddpdamhcaaGreat
set_option linter.unusedVariables false
set_option linter.unusedSimpArgs false
open Go.RowKit
def wk (w : Wl) (k : Nat) : Wl := w.take k ++ List.replicate (w.length - k) (0, ⟨#[]⟩)
theorem wk_zero (w : Wl) : wk w 0 = List.replicate w.length (0, ⟨#[]⟩) := by simp [wk]
theorem wk_all (w : Wl) : wk w w.length = w := by simp [wk]
theorem wk_length (w : Wl) (k : Nat) (h : k ≤ w.length) : (wk w k).length = w.length := by simp [wk]; omega
theorem wk_step (w : Wl) (k : Nat) (z : Nat × ByteArray) (hz : w[k]? = some z) : (wk w k).set k z = wk w (k + 1) := by
  have hk := (List.getElem?_eq_some_iff.1 hz).1
  unfold wk
  have e1 : (w.take k).length = k := by rw [List.length_take]; omega
  rw [List.set_append_right _ _ (by omega), e1, Nat.sub_self]
  have e2 : w.length - k = (w.length - (k + 1)) + 1 := by omega
  rw [e2, List.replicate_succ, List.set_cons_zero, List.take_succ_eq_append_getElem hk, List.append_assoc]
  congr 1
  rw [Option.some.inj ((List.getElem?_eq_getElem hk).symm.trans hz)]
  rfl
theorem wcs_set : ∀ (l : Wl) (k n : Nat) (t : ByteArray), ((wcs l).set (k * 2) (.int .i64 (n : Int))).set (k * 2 + 1) (.string t) = wcs (l.set k (n, t))
  | [], _, _, _ => by simp [wcs]
  | p :: r, 0, n, t => by simp [wcs]
  | p :: r, k + 1, n, t => by
    have e : (k + 1) * 2 = k * 2 + 1 + 1 := by omega
    simp only [wcs, e, List.set_cons_succ, wcs_set r k n t]
theorem made_w : ∀ n, (madeCells #[.int .i64 0, .string ⟨#[]⟩] (n * 2)).toList = wcs (List.replicate n (0, ⟨#[]⟩)) := fun n => by
  apply List.ext_getElem?
  intro i
  have hl : (wcs (List.replicate n ((0 : Nat), (⟨#[]⟩ : ByteArray)))).length = n * 2 := by rw [wcs_length, List.length_replicate]
  by_cases hi : i < n * 2
  · have h1 : (madeCells #[Value.int .i64 0, .string ⟨#[]⟩] (n * 2)).toList[i]? = some (#[Value.int .i64 0, .string ⟨#[]⟩][i % 2]!) := by
      rw [Array.getElem?_toList, Array.getElem?_eq_getElem (by rw [size_madeCells]; exact hi)]
      simp [madeCells]
    rw [h1]
    have hr : (List.replicate n ((0 : Nat), (⟨#[]⟩ : ByteArray)))[i / 2]? = some (0, ⟨#[]⟩) := by rw [List.getElem?_replicate, if_pos (by omega)]
    obtain ⟨a, b⟩ := wcs_at _ _ _ hr
    rcases Nat.mod_two_eq_zero_or_one i with e | e
    · rw [e]
      have : i / 2 * 2 = i := by omega
      rw [this] at a
      exact a.symm
    · rw [e]
      have : i / 2 * 2 + 1 = i := by omega
      rw [this] at b
      exact b.symm
  · rw [List.getElem?_eq_none (by rw [Array.length_toList, size_madeCells]; omega), List.getElem?_eq_none (by omega)]
noncomputable def slS (v : Value) (a b c : Option Value) : Sem Value := Instr.slice 9 v a b c
theorem sl9 (v : Value) (a b c : Option Value) : Instr.slice 9 v a b c = slS v a b c := rfl
theorem mk_ext (s : ByteArray) (i j : Nat) : s.extract i j = ⟨((s.data.toList.drop i).take (j - i)).toArray⟩ := by
  apply ByteArray.ext
  apply Array.ext'
  simp [ByteArray.data_extract, List.extract_eq_take_drop]
theorem run_mid (l : List UInt8) (i j : Nat) (h1 : i ≤ j) (h2 : j ≤ l.length) (hl : l.length ≤ 9223372036854775807) (w : World) : (slS (.string ⟨l.toArray⟩) (some (.int .i64 (i : Int))) (some (.int .i64 (j : Int))) none).run Tryz.prog w = .ok (.string ⟨((l.drop i).take (j - i)).toArray⟩) w := by
  unfold slS
  rw [run_slice_string_if (P := Tryz.prog) (w := w) 9 _ .i64 .i64 i j Tryz.underlying9, if_pos ⟨by omega, by rw [str_size]; omega⟩, if_pos ⟨by omega, by omega⟩, mk_ext]
  simp
section
variable {w0 w : World} {Ls rest : List (Th → Prop)} {q p s : Nat} {d : Bool} {st : St}
attribute [local go_sem ↓] sl9
set_option maxRecDepth 100000 in
theorem held_env (h : EnvP w0 w (lg q p s d :: dk p st :: rest)) (ho : st.off = false) (l : Wl) (h1 : 1 ≤ l.length) (h2 : l.length ≤ 256) (hn : 2 + l.length ≤ st.safe.length) (hla : Laid NN st.seen l) (h16 : ∀ x ∈ l, x.1 < 65536) (h512 : ∀ x ∈ l, x.2.size = 512) {c : Nat} (hc : c = l.length) :
    Calls Tryz.prog 106 #[pt q, .int .i64 (c : Int)] w fun e w' => ∃ g, e = .returned (.tuple #[rw_ g c c, .int .i64 0]) ∧ w'.ownsRow 0 95 2 (rw_ g c c) c (wcs l) ∧ Below w.heap.size w w' ∧ w.heap.size ≤ g := by
  subst hc
  have wf := h.wf 1 rfl
  have hhi := wf.hi
  have HS : Hid (Sz st.seen) := ⟨wf.seen⟩
  have H : Hid (EnvP w0 w (lg q p s d :: dk p st :: rest)) := ⟨h⟩
  have hlen : st.seen.length = st.safe.length := st.seen_length
  have e1 : (l.length + 255) / 256 = 1 := by omega
  have qL : Hid (∀ w5, Calls Tryz.prog 99 #[.int .i64 (l.length : Int)] w5 fun e w' => e = .returned (.int .i64 1) ∧ w' = w5) := ⟨fun w5 => by have := lists_any l.length (by omega) w5; rw [e1] at this; exact this⟩
  have q1 : Hid (∀ w5, Below w.heap.size w w5 → Calls Tryz.prog 128 #[pt q, .int .i64 1, .int .i64 1] w5 fun e w' => e = .returned (.tuple #[.string (numsOf NN l), .int .i64 0]) ∧ Below w5.heap.size w5 w') := ⟨fun w5 b => by
    have := sectors_env' (h.below b) ho 1 1 (f' := 1) rfl (by omega)
    have e : (⟨(catS st.seen 1 1).toArray⟩ : ByteArray) = numsOf NN l := by
      rw [catS_succ _ _ _ (by omega), catS_zero, List.nil_append, List.getD_eq_getElem?_getD, hla.nums]
      rfl
    rw [e] at this
    exact this⟩
  have q2 : Hid (∀ w5, Below w.heap.size w w5 → Calls Tryz.prog 128 #[pt q, .int .i64 2, .int .i64 (l.length : Int)] w5 fun e w' => e = .returned (.tuple #[.string ⟨(catS st.seen 2 l.length).toArray⟩, .int .i64 0]) ∧ Below w5.heap.size w5 w') := ⟨fun w5 b => sectors_env' (h.below b) ho 2 l.length (f' := 2) rfl (by omega)⟩
  have qN : Hid (∀ (k : Nat) (z : Nat × ByteArray), l[k]? = some z → ∀ w5, Calls Tryz.prog 104 #[.string (numsOf NN l), .int .i64 ((k : Int) * 2)] w5 fun e w' => e = .returned (.int .i64 (z.1 : Int)) ∧ ∃ m, w' = w5.drewN m) := ⟨fun k z hz w5 => by
    have hk := (List.getElem?_eq_some_iff.1 hz).1
    have := numberAt_any (numsOf NN l) (2 * k) (k' := (k : Int) * 2) (by omega) (by rw [numsOf, nums_size]; omega) (by rw [numsOf, nums_size]; omega) w5
    rw [numsOf, nums_num (l.map Prod.fst) (by simpa using h2) k z.1 (by rw [List.getElem?_map, hz]; rfl) (h16 z (List.mem_of_getElem? hz))] at this
    exact this⟩
  have qS : Hid (∀ (k : Nat) (z : Nat × ByteArray), l[k]? = some z → ∀ w5, (slS (.string ⟨(catS st.seen 2 l.length).toArray⟩) (some (.int .i64 ((k : Int) * 512))) (some (.int .i64 (((k : Int) + 1) * 512))) none).run Tryz.prog w5 = .ok (.string z.2) w5) := ⟨fun k z hz w5 => by
    have hk := (List.getElem?_eq_some_iff.1 hz).1
    have hl := catS_length st.seen HS.out 2 l.length (by omega)
    have := run_mid (catS st.seen 2 l.length) (512 * k) (512 * (k + 1)) (by omega) (by omega) (by omega) w5
    have e3 : 512 * (k + 1) - 512 * k = 512 := by omega
    rw [e3, catS_part st.seen HS.out 2 l.length (by omega) k hk, List.getD_eq_getElem?_getD, hla.txt k z hz] at this
    have e4 : ((512 * k : Nat) : Int) = (k : Int) * 512 := by omega
    have e5 : ((512 * (k + 1) : Nat) : Int) = ((k : Int) + 1) * 512 := by omega
    rw [e4, e5] at this
    exact this⟩
  obtain ⟨i0, hi0, hz0, hz1, hz2⟩ := info_parts infoWf
  have qM : Hid (∀ w5 : World, ∃ w', (Instr.makeSlice 85 (.int .i64 (l.length : Int)) (.int .i64 (l.length : Int))).run Tryz.prog w5 = .ok (.slice (some ⟨w5.heap.size, 0, none⟩) l.length l.length) w' ∧ w'.ownsRow 0 95 2 (rw_ w5.heap.size l.length l.length) l.length (wcs (wk l 0)) ∧ Below w5.heap.size w5 w') := ⟨fun w5 => by
    obtain ⟨w', a, b, c⟩ := run_makeSlice_full (P := Tryz.prog) w5 0 85 95 i0 _ 2 Tryz.underlying85 hi0 hz0 hz1 .i64 .i64 l.length (by omega) (by rw [hz2]; omega) (by unfold maxLen; omega) (Nat.zero_le _)
    refine ⟨w', a, ?_, (Below.refl _ _).grown c (Nat.le_refl _) (fun k hk => by cases hk)⟩
    rw [wk_zero, ← made_w]
    exact b⟩
  generalize hA : numsOf NN l = A at *
  generalize hC : (⟨(catS st.seen 2 l.length).toArray⟩ : ByteArray) = C at *
  clear h wf hla h16 h512 hA hC hi0 hz0 hz1 hz2 e1 hlen
  go_enter Tryz.func106, Tryz.ntmps106
  go_wp2_with fail
  refine (qL.out _).mono ?_
  rintro e w ⟨rfl, rfl⟩
  dsimp only
  go_wp2_with fail
  refine (q1.out _ (Below.refl _ _)).mono ?_
  rintro e w2 ⟨rfl, b2⟩
  dsimp only
  go_wp2_with fail
  refine (qL.out _).mono ?_
  rintro e w2 ⟨rfl, rfl⟩
  dsimp only
  go_wp2_with fail
  refine (q2.out _ b2).mono ?_
  rintro e w4 ⟨rfl, b4⟩
  have B4 : Hid (Below w.heap.size w w4) := ⟨b2.trans (b4.mono b2.size)⟩
  obtain ⟨w5, hmk, o5, b5⟩ := qM.out w4
  have O5 : Hid (w5.ownsRow 0 95 2 (rw_ w4.heap.size l.length l.length) l.length (wcs (wk l 0))) := ⟨o5⟩
  have B5 : Hid (Below w.heap.size w w5) := ⟨B4.out.trans (b5.mono B4.out.size)⟩
  have hg : w.heap.size ≤ w4.heap.size := B4.out.size
  have HG : Hid (w4.heap.size < w5.heap.size) := ⟨(o5.lt _ rfl).2⟩
  clear b2 b4 b5 o5 qM
  dsimp only
  go_wp2_with fail
  generalize w4.heap.size = g at *
  go_loopw [37] (fun i wr => ∃ k : Nat, k ≤ l.length ∧ i = .int .i64 (k : Int) ∧ Hid (wr.ownsRow 0 95 2 (rw_ g l.length l.length) l.length (wcs (wk l k))) ∧ Hid (Below w.heap.size w wr)) (fun i _ => l.length - (intOf i).toNat)
  case atStart => exact ⟨0, Nat.zero_le _, rfl, O5, B5⟩
  case round =>
    obtain ⟨k, hk, rfl, O, B⟩ := hrel
    clear O5 B5 B4
    by_cases hlt : k < l.length
    · obtain ⟨z, hz⟩ : ∃ z, l[k]? = some z := ⟨_, List.getElem?_eq_getElem hlt⟩
      have hi : (k : Int) < l.length := by omega
      have hw0 : wrap64 ((k : Int) + 1) = ((k + 1 : Nat) : Int) := by unfold wrap64; omega
      have hw1 : IntKind.i64.wrap ((k : Int) + 1) = (k : Int) + 1 := by rw [IntKind.wrap_i64]; omega
      have hw2 : IntKind.i64.wrap ((k : Int) * 2) = (k : Int) * 2 := by rw [IntKind.wrap_i64]; omega
      have hw3 : IntKind.i64.wrap ((k : Int) * 512) = (k : Int) * 512 := by rw [IntKind.wrap_i64]; omega
      have hw4 : IntKind.i64.wrap (((k : Int) + 1) * 512) = ((k : Int) + 1) * 512 := by rw [IntKind.wrap_i64]; omega
      have qNk : Hid (∀ w5, Calls Tryz.prog 104 #[.string A, .int .i64 ((k : Int) * 2)] w5 fun e w' => e = .returned (.int .i64 (z.1 : Int)) ∧ ∃ m, w' = w5.drewN m) := ⟨qN.out k z hz⟩
      have hsl := qS.out k z hz
      have hwkl := wk_length l k (by omega)
      have HST : Hid (((wcs (wk l k)).set (k * 2) (.int .i64 (z.1 : Int))).set (k * 2 + 1) (.string z.2) = wcs (wk l (k + 1))) := ⟨by rw [wcs_set]; congr 1; exact wk_step l k z hz⟩
      have hc0 : ∃ v, wr.cell? ⟨g, k * 2, none⟩ = some v := by
        rw [O.out.cellAt (k * 2) (by omega), List.getElem?_eq_getElem (by rw [wcs_length]; omega)]
        exact ⟨_, rfl⟩
      have hc1 : ∃ v, wr.cell? ⟨g, k * 2 + 1, none⟩ = some v := by
        rw [O.out.cellAt (k * 2 + 1) (by omega), List.getElem?_eq_getElem (by rw [wcs_length]; omega)]
        exact ⟨_, rfl⟩
      obtain ⟨u0, hc0⟩ := hc0
      obtain ⟨u1, hc1⟩ := hc1
      have f0 := O.out.frozenAt (k * 2)
      have f1 := O.out.frozenAt (k * 2 + 1)
      obtain ⟨zn, zt⟩ := z
      simp only at qNk hsl HST
      clear hz hwkl qN qS
      go_wp2_with fail
      go_region_with (go_at_call 104; refine (qNk.out _).mono ?_; rintro e w6 ⟨rfl, m, rfl⟩)
      all_goals
        go_wp2_with fail
      refine ⟨⟨k + 1, by omega, by go_num, ⟨?_⟩, ⟨?_⟩⟩, by simp [intOf]; omega⟩
      · obtain ⟨o1, _⟩ := (show (wr.drewN (1 + m)).ownsRow 0 95 2 (rw_ g l.length l.length) l.length (wcs (wk l k)) from O.out).stored (k * 2) (.int .i64 (zn : Int))
        obtain ⟨o2, _⟩ := o1.stored (k * 2 + 1) (.string zt)
        rw [HST.out] at o2
        exact o2
      · exact ((below_drewN B.out _).setCell hg _).setCell hg _
    · have hke : k = l.length := by omega
      subst hke
      have hi : ¬ ((l.length : Int) < l.length) := by omega
      rw [wk_all] at O
      go_wp2
      go_ret2
      exact ⟨g, rfl, O.out, B.out, hg⟩
end
end Go.Proofs.YtghdgddpdamhcaaGreat
