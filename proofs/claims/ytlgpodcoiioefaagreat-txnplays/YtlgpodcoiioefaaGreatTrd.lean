/- Read. -/
import Derived.Test.YtlgpodcoiioefaaGreatTwr
namespace Go.Proofs.YtlgpodcoiioefaaGreat
set_option linter.unusedVariables false
set_option linter.unusedSimpArgs false
open Go.RowKit Go.Maps
variable {w0 w : World} {Ls rest : List (Th → Prop)} {x q p s : Nat} {W : Wl} {d o : Bool} {st : St}
def lookI (W : Wl) (z : Int) : Option ByteArray := if z < 0 then none else lookW W z.toNat
noncomputable def lkS (m k : Value) : Sem Value := Instr.lookup 62 m k true
theorem lkA (m k : Value) : Instr.lookup 62 m k true = lkS m k := rfl
noncomputable def lk0 (m k : Value) : Sem Value := Instr.lookup 62 m k false
theorem lkB (m k : Value) : Instr.lookup 62 m k false = lk0 m k := rfl
theorem zero_blk : Value.agg zA = blk (fl 0) := by rw [blk_eq]; rfl
theorem ba_of_list {a b : ByteArray} (h : a.data.toList = b.data.toList) : a = b := ByteArray.ext (Array.toList_inj.1 h)
theorem at_lookI (W : Wl) (z : Int) : (txD W).atKey (.int .i64 z) (.lit (.string (fl 0).data.toList)) = .lit (.string ((lookI W z).getD (fl 0)).data.toList) := by
  unfold lookI
  by_cases h : z < 0
  · rw [if_pos h]
    have : (W.map ent).find? (fun p => p.1.sameKey (.int .i64 z)) = none := by
      rw [List.find?_eq_none]
      intro p hp
      obtain ⟨q, _, rfl⟩ := List.mem_map.1 hp
      simp only [ent, Lit.sameKey]
      simp; omega
    unfold txD DataW.atKey
    simp only
    rw [this]; rfl
  · rw [if_neg h]
    obtain ⟨n, rfl⟩ : ∃ n : Nat, z = n := ⟨z.toNat, by omega⟩
    rw [at_txD]
    simp only [Int.toNat_natCast]
    cases lookW W n <;> rfl
theorem has_lookI (W : Wl) (z : Int) : Maps.has (txD W) (.int .i64 z) = (lookI W z).isSome := by
  unfold lookI
  by_cases h : z < 0
  · rw [if_pos h, has_txD_neg W z h]; rfl
  · rw [if_neg h]
    obtain ⟨n, rfl⟩ : ∃ n : Nat, z = n := ⟨z.toNat, by omega⟩
    rw [has_txD]; simp
theorem look_run {w : World} {b : Nat} (h : MapAt w b W) (z : Int) (hz : -9223372036854775808 ≤ z ∧ z ≤ 9223372036854775807) : (lkS (.map (some b)) (.int .i64 z)).run Tryz.prog w = .ok (.tuple #[blk ((lookI W z).getD (fl 0)), .bool (lookI W z).isSome]) w := by
  have hkey : keyOf Tryz.prog 3 (.int .i64 z) = some (.int .i64 z) := keyOf_int_mk Tryz.underlying3 (WalkArith.wf_i64 ⟨by omega, by omega⟩)
  obtain ⟨v, ps, hrun, hv⟩ := World.ownsMap.look_ok h law3 Tryz.underlying62 (zeroA w) (zd := .lit (.string (fl 0).data.toList)) (zp := []) (by rw [zero_blk]; exact bElem_mk (fl_size 0)) hkey
  obtain ⟨t, ht, rfl, e⟩ := bElem_inv hv
  rw [at_lookI] at e
  generalize (lookI W z).getD (fl 0) = G at *
  simp only [Prod.mk.injEq, DataW.lit.injEq, Lit.string.injEq, and_true] at e
  rw [← ba_of_list e.1] at hrun
  rw [has_lookI] at hrun
  exact hrun
theorem look0_run {w : World} {b : Nat} (h : MapAt w b W) (z : Int) (hz : -9223372036854775808 ≤ z ∧ z ≤ 9223372036854775807) : (lk0 (.map (some b)) (.int .i64 z)).run Tryz.prog w = .ok (blk ((lookI W z).getD (fl 0))) w := by
  have hkey : keyOf Tryz.prog 3 (.int .i64 z) = some (.int .i64 z) := keyOf_int_mk Tryz.underlying3 (WalkArith.wf_i64 ⟨by omega, by omega⟩)
  obtain ⟨v, ps, hrun, hv⟩ := World.ownsMap.lookup h law3 Tryz.underlying62 (zeroA w) (zd := .lit (.string (fl 0).data.toList)) (zp := []) (by rw [zero_blk]; exact bElem_mk (fl_size 0)) hkey
  obtain ⟨t, ht, rfl, e⟩ := bElem_inv hv
  rw [at_lookI] at e
  generalize (lookI W z).getD (fl 0) = G at *
  simp only [Prod.mk.injEq, DataW.lit.injEq, Lit.string.injEq, and_true] at e
  rw [← ba_of_list e.1] at hrun
  exact hrun
theorem store_new (w : World) {t : ByteArray} (ht : t.size = 512) : (stS 68 (.pointer (some ⟨w.heap.size, 0, none⟩)) (blk t)).run Tryz.prog (w.alloc (.cells zA 68)) = .ok () (w.alloc (.cells (bcs t) 68)) := by
  have := store_blk (w := w.alloc (.cells zA 68)) ht (fl_size 0) (heap_alloc_new w _)
  rwa [World.setRow_alloc_new] at this
attribute [local go_sem] zcA zeroA zA_size
attribute [local go_sem ↓] ldA stA muA lkA
set_option maxRecDepth 100000 in
theorem tread_over (h : EnvP w0 w Ls) (i : Nat) (hi : Ls[i]? = some (tx x q W true)) (v : Value) : Calls Tryz.prog 16 #[pt x, v] w fun e w' => e = .returned (.tuple #[.string ⟨#[]⟩, .int .i64 8]) ∧ EnvP w0 w' Ls := by
  obtain ⟨mb, hne, hx, hm, _⟩ := h.tx i hi
  have c2 : w.cell? ⟨x, 2, none⟩ = some (.bool true) := cell_of_row w x 2 _ _ (0, 0) hx
  have H : Hid (EnvP w0 w Ls) := ⟨h⟩
  clear h hi hx hm
  go_enter Tryz.func16, Tryz.ntmps16
  go_wp2
  go_ret2
  exact ⟨rfl, H.out⟩
set_option maxRecDepth 100000 in
theorem tread_own (h : EnvP w0 w Ls) (i : Nat) (hi : Ls[i]? = some (tx x q W false)) (z : Int) (hz : -9223372036854775808 ≤ z ∧ z ≤ 9223372036854775807) (t : ByteArray) (ht : t.size = 512) (hl : lookI W z = some t) : Calls Tryz.prog 16 #[pt x, .int .i64 z] w fun e w' => e = .returned (.tuple #[.string t, .int .i64 0]) ∧ EnvP w0 w' Ls := by
  obtain ⟨mb, hne, hx, hm, _⟩ := h.tx i hi
  have c1 : w.cell? ⟨x, 1, none⟩ = some (.map (some mb)) := cell_of_row w x 1 _ _ (0, 0) hx
  have c2 : w.cell? ⟨x, 2, none⟩ = some (.bool false) := cell_of_row w x 2 _ _ (0, 0) hx
  have hlk := look_run hm z hz
  rw [hl] at hlk
  simp only [Option.getD_some, Option.isSome_some] at hlk
  have H : Hid (EnvP w0 w Ls) := ⟨h⟩
  have hst := store_new w ht
  have hcv : ∀ c, (convert 69 9 (.slice (some ⟨w.heap.size, 0, none⟩) 512 c)).run Tryz.prog (w.alloc (.cells (bcs t) 68)) = .ok (.string t) (w.alloc (.cells (bcs t) 68)) := fun c => by
    have := conv_blk (w := w.alloc (.cells (bcs t) 68)) (heap_alloc_new w _) c
    rwa [ht] at this
  clear h hi hx hm hl
  go_enter Tryz.func16, Tryz.ntmps16
  go_wp2
  go_ret2
  exact ⟨rfl, H.out.drop _⟩
set_option maxRecDepth 100000 in
theorem tread_log (h : EnvP w0 w (lg q p s false :: dk p st :: rest)) (i : Nat) (hi : rest[i]? = some (tx x q W false)) (z : Int) (hz : -9223372036854775808 ≤ z ∧ z ≤ 9223372036854775807) (hl : lookI W z = none) (ho : st.off = false) (hs : s ≤ st.safe.length) (B : List ByteArray) (hB : st.seen.drop s = B) :
    Calls Tryz.prog 16 #[pt x, .int .i64 z] w fun e w' => e = .returned (if 0 ≤ z ∧ z < B.length then .tuple #[.string (B.getD z.toNat ByteArray.empty), .int .i64 0] else .tuple #[.string ⟨#[]⟩, .int .i64 1]) ∧ EnvP w0 w' (lg q p s false :: dk p st :: rest) := by
  obtain ⟨mb, hne, hx, hm, _⟩ := h.tx (i + 2) (by simpa using hi)
  have c0 : w.cell? ⟨x, 0, none⟩ = some (pt q) := cell_of_row w x 0 _ _ (0, 0) hx
  have c1 : w.cell? ⟨x, 1, none⟩ = some (.map (some mb)) := cell_of_row w x 1 _ _ (0, 0) hx
  have c2 : w.cell? ⟨x, 2, none⟩ = some (.bool false) := cell_of_row w x 2 _ _ (0, 0) hx
  have hlk := look_run hm z hz
  rw [hl] at hlk
  simp only [Option.getD_none, Option.isSome_none] at hlk
  have hst := store_new w (fl_size 0)
  obtain ⟨R, hR⟩ : ∃ R, (if 0 ≤ z ∧ z < B.length then Value.tuple #[.string (B.getD z.toNat ByteArray.empty), .int .i64 0] else .tuple #[.string ⟨#[]⟩, .int .i64 1]) = R := ⟨_, rfl⟩
  have hRR : ∃ a b, R = .tuple #[.string a, .int .i64 b] := by
    rw [← hR]; split
    · exact ⟨_, _, rfl⟩
    · exact ⟨_, _, rfl⟩
  have qR := lread_on (h.drop (.cells (bcs (fl 0)) 68)) z ho hs B hB
  rw [hR] at qR ⊢
  have d0 : (w.alloc (.cells (bcs (fl 0)) 68)).cell? ⟨x, 0, none⟩ = some (pt q) := Lib.cell?_alloc_marked (W := w) _ c0
  obtain ⟨ra, rb, rfl⟩ := hRR
  generalize hF : fl 0 = F at *
  clear h hi hx hm hl hR
  go_enter Tryz.func16, Tryz.ntmps16
  go_wp2_with fail
  refine qR.mono ?_
  rintro e w1 ⟨rfl, h1⟩
  dsimp only
  go_wp2
  go_ret2
  exact ⟨rfl, h1⟩
end Go.Proofs.YtlgpodcoiioefaaGreat
