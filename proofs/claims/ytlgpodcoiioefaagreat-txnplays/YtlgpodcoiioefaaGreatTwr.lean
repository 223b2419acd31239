/- Write. -/
import Derived.Test.YtlgpodcoiioefaaGreatTbl
namespace Go.Proofs.YtlgpodcoiioefaaGreat
set_option linter.unusedVariables false
set_option linter.unusedSimpArgs false
open Go.RowKit Go.Maps
variable {w0 w : World} {Ls rest : List (Th → Prop)} {x q p s : Nat} {W : Wl} {d o : Bool} {st : St}
def zA : Array Value := bcs (fl 0)
theorem zcA : Tryz.zeroCells68 = zA := by kernel_rfl
theorem zA_size : zA.size = 512 := by rw [zA, bcs_size]; exact fl_size 0
theorem zA_agg : (Array.replicate 512 (Value.int .u8 0)) = zA := by kernel_rfl
theorem zeroA (w : World) : (zeroValue 68).run Tryz.prog w = .ok (.agg zA) w := by rw [← zA_agg]; exact (zero_of_info zinfoA).1 w
theorem firstStr (t : ByteArray) (ht : t.size = 512) (w : World) : (Builtin.firstCells 1 512 (.string t)).run Tryz.prog w = .ok (bcs t) w := by
  have e0 : t.extract 0 512 = t := by rw [← ht]; exact ByteArray.extract_zero_size
  simp [Builtin.firstCells, e0, bcs, vals]
  apply Array.ext <;> simp
theorem copy_new (w : World) (t : ByteArray) (ht : t.size = 512) (ty : TypeId) : (Builtin.copy_ #[69, 9] ty #[.slice (some ⟨w.heap.size, 0, none⟩) 512 512, .string t]).run Tryz.prog (w.alloc (.cells zA 68)) = .ok (.int .i64 512) (w.alloc (.cells (bcs t) 68)) := by
  have hst := run_storeCells_new (P := Tryz.prog) w 68 zA (bcs t) (by rw [bcs_size, ht]; exact infoA) (by rw [zA_size, bcs_size, ht]) (bcs_one t)
  obtain ⟨i0, hi0, hz0, hz1, hz2⟩ := info5
  have hf := firstStr t ht
  simp [Builtin.copy_, run_underlying Tryz.underlying69, Builtin.lenOf, sizeOf, typeInfo, hi0, hz1, ht, hf, Result.andThen]
  rw [hst]
  rfl
attribute [local go_sem] zcA zeroA zA_size
noncomputable def muS (m k v : Value) : Sem Unit := Instr.mapUpdate 62 m k v
theorem muA (m k v : Value) : Instr.mapUpdate 62 m k v = muS m k v := rfl
attribute [local go_sem ↓] ldA stA muA
set_option maxRecDepth 100000 in
theorem twrite_over (h : EnvP w0 w Ls) (i : Nat) (hi : Ls[i]? = some (tx x q W true)) (v t : Value) : Calls Tryz.prog 14 #[pt x, v, t] w fun e w' => e = .returned (.int .i64 8) ∧ EnvP w0 w' Ls := by
  obtain ⟨mb, hne, hx, hm, _⟩ := h.tx i hi
  have c2 : w.cell? ⟨x, 2, none⟩ = some (.bool true) := cell_of_row w x 2 _ _ (0, 0) hx
  have H : Hid (EnvP w0 w Ls) := ⟨h⟩
  clear h hi hx hm
  go_enter Tryz.func14, Tryz.ntmps14
  go_wp2
  go_ret
  exact ⟨rfl, H.out⟩
set_option maxRecDepth 100000 in
theorem twrite_bad (h : EnvP w0 w (lg q p s d :: dk p st :: rest)) (hs : s ≤ st.safe.length) (i : Nat) (hi : rest[i]? = some (tx x q W false)) (z : Int) (t : ByteArray) {m : Nat} (hm : m = st.safe.length - s) (hz : ¬ (0 ≤ z ∧ z < m ∧ t.size = 512)) :
    Calls Tryz.prog 14 #[pt x, .int .i64 z, .string t] w fun e w' => e = .returned (.int .i64 1) ∧ EnvP w0 w' (lg q p s d :: dk p st :: rest) := by
  obtain ⟨mb, hne, hx, hmm, _⟩ := h.tx (i + 2) (by simpa using hi)
  have c2 : w.cell? ⟨x, 2, none⟩ = some (.bool false) := cell_of_row w x 2 _ _ (0, 0) hx
  have hmi : (st.safe.length : Int) - (s : Int) = (m : Int) := by omega
  have qB := tblocks_env h hs i hi
  rw [hmi] at qB
  have H : Hid (EnvP w0 w (lg q p s d :: dk p st :: rest)) := ⟨h⟩
  clear h hi hx hmm hm hmi
  by_cases h0 : z < 0
  · go_enter Tryz.func14, Tryz.ntmps14
    go_wp2
    go_ret
    exact ⟨rfl, H.out⟩
  · by_cases h1 : z < m
    · have h2 : ¬ ((t.size : Int) = 512) := fun e => hz ⟨by omega, h1, by omega⟩
      have h3 : ((t.size : Int) != 512) = true := by rw [bne_iff_ne]; exact h2
      clear hz h2
      go_enter Tryz.func14, Tryz.ntmps14
      go_wp2_with fail
      refine qB.mono ?_
      rintro e w1 ⟨rfl, j, rfl⟩
      dsimp only
      go_wp2
      go_ret
      exact ⟨rfl, H.out.drewN j⟩
    · clear hz
      go_enter Tryz.func14, Tryz.ntmps14
      go_wp2_with fail
      refine qB.mono ?_
      rintro e w1 ⟨rfl, j, rfl⟩
      dsimp only
      go_wp2
      go_ret
      exact ⟨rfl, H.out.drewN j⟩
set_option maxRecDepth 100000 in
theorem twrite_run (h : EnvP w0 w (lg q p s d :: dk p st :: rest)) (hs : s ≤ st.safe.length) (i : Nat) (hi : rest[i]? = some (tx x q W false)) (k : Nat) (t : ByteArray) {m : Nat} (hm : m = st.safe.length - s) (hk : k < m) (ht : t.size = 512) (hR : Rising W) (hl : W.length ≤ 8192) :
    Calls Tryz.prog 14 #[pt x, .int .i64 (k : Int), .string t] w fun e w' => e = .returned (.int .i64 0) ∧ EnvP w0 w' (lg q p s d :: dk p st :: rest.set i (tx x q (insW k t W) false)) := by
  obtain ⟨mb, hne, hx, hmm, _, _, hn⟩ := h.tx (i + 2) (by simpa using hi)
  have c1 : w.cell? ⟨x, 1, none⟩ = some (.map (some mb)) := cell_of_row w x 1 _ _ (0, 0) hx
  have c2 : w.cell? ⟨x, 2, none⟩ = some (.bool false) := cell_of_row w x 2 _ _ (0, 0) hx
  have hmi : (st.safe.length : Int) - (s : Int) = (m : Int) := by omega
  have qB := tblocks_env h hs i hi
  rw [hmi] at qB
  have hki : (k : Int) < (m : Int) := by omega
  have hti : (t.size : Int) = 512 := by omega
  have hkey : keyOf Tryz.prog 3 (.int .i64 (k : Int)) = some (.int .i64 (k : Int)) := keyOf_int_mk Tryz.underlying3 (WalkArith.wf_i64 ⟨by omega, by have := (h.wf 1 rfl).hi; omega⟩)
  have HX : Hid (w.heap[x]? = some (.cells #[pt q, .map (some mb), .bool false] 64 (0, 0))) := ⟨hx⟩
  have HM : Hid (∀ j, MapAt ((w.drewN j).alloc (.cells (bcs t) 68)) mb W) := ⟨fun j => World.ownsMap.alloc (w := w.drewN j) hmm _⟩
  have HE : Hid (∀ j w6, w6.ownsMap Tryz.prog 3 bElem mb (W.length + 1) ((txD W).put (.int .i64 (k : Int)) (.lit (.string t.data.toList))) → ((w.drewN j).alloc (.cells (bcs t) 68)).drew.grownBy w6 (some mb) → EnvP w0 w6 (lg q p s d :: dk p st :: rest.set i (tx x q (insW k t W) false))) := ⟨fun j w6 h6 g6 => by
    have b5 : Below w.heap.size w ((w.drewN j).alloc (.cells (bcs t) 68)).drew := ((below_drewN (Below.refl _ w) j).alloc (Nat.le_refl _) _).drew
    refine hn w6 (insW k t W) false ?_ (tight (by rw [← put_txD hR]; exact h6)) ((Fr.of_below b5).trans (Fr.of_grown (S := fun k => k = mb) g6 (fun k hk => (Option.some.inj hk).symm)) (fun k _ hk => .inr hk))
    rw [g6.block x (Nat.lt_of_lt_of_le (heap_lt hx) b5.size) (fun e => hne (by injection e)), b5.block x (heap_lt hx)]
    exact hx⟩
  clear h hi hx hmm hm hmi hn
  go_enter Tryz.func14, Tryz.ntmps14
  go_wp2_with fail
  refine qB.mono ?_
  rintro e w1 ⟨rfl, j, rfl⟩
  have hcp : ∀ ty, (Builtin.copy_ #[69, 9] ty #[.slice (some ⟨w.heap.size, 0, none⟩) 512 512, .string t]).run Tryz.prog ((w.drewN j).alloc (.cells zA 68)) = .ok (.int .i64 512) ((w.drewN j).alloc (.cells (bcs t) 68)) := copy_new (w.drewN j) t ht
  obtain ⟨w6, hrun6, hown6, hgrow6⟩ := World.ownsMap.update (w := ((w.drewN j).alloc (.cells (bcs t) 68)).drew) (HM.out j) law3 Tryz.underlying62 (by unfold maxLen; omega) hkey (bElem_mk ht)
  have hup : (muS (.map (some mb)) (.int .i64 (k : Int)) (blk t)).run Tryz.prog ((w.drewN j).alloc (.cells (bcs t) 68)).drew = .ok () w6 := hrun6
  have E6 : Hid (EnvP w0 w6 (lg q p s d :: dk p st :: rest.set i (tx x q (insW k t W) false))) := ⟨HE.out j w6 hown6 hgrow6⟩
  have hld : (ldS 68 (.pointer (some ⟨w.heap.size, 0, none⟩))).run Tryz.prog ((w.drewN j).alloc (.cells (bcs t) 68)).drew = .ok (blk t) ((w.drewN j).alloc (.cells (bcs t) 68)).drew := load_blk (w := ((w.drewN j).alloc (.cells (bcs t) 68)).drew) ht (heap_alloc_new (w.drewN j) _)
  have c5 : ((w.drewN j).alloc (.cells (bcs t) 68)).cell? ⟨x, 1, none⟩ = some (.map (some mb)) := Lib.cell?_alloc_marked (W := w.drewN j) _ c1
  clear hrun6 hown6 hgrow6 HE HM HX qB
  dsimp only
  go_wp2_with fail
  generalize (w.drewN j).alloc (.cells (bcs t) 68) = W5 at *
  go_region_with (fail)
  all_goals (go_wp2; go_ret; exact ⟨rfl, E6.out⟩)
end Go.Proofs.YtlgpodcoiioefaaGreat
