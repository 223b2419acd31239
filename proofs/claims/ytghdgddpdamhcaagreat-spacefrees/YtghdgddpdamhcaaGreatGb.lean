import Derived.Test.YtghdgddpdamhcaaGreatTx
import Derived.Maps.OwnSet
import Derived.Laws.CopyOwn
import Derived.BigQuiet
import Derived.Deep.QuietTactic
/- Begin, Blocks, Dirty, Abort. -/
namespace Go.Proofs.YtghdgddpdamhcaaGreat
set_option linter.unusedVariables false
set_option linter.unusedSimpArgs false
open Go.RowKit Go.Maps
variable {w0 w : World} {Ls rest : List (Th → Prop)} {x q p s : Nat} {W : Wl} {d o : Bool} {st : St}
set_option maxRecDepth 100000 in
theorem tbegin_env (h : EnvP w0 w Ls) (q : Nat) : Calls Tryz.prog 19 #[pt q] w fun e w' => ∃ x, e = .returned (pt x) ∧ EnvP w0 w' (Ls ++ [tx x q [] false]) := by
  have hmm := @run_makeMap Tryz.prog
  have H : Hid (EnvP w0 w Ls) := ⟨h⟩
  clear h
  go_enter Tryz.func19, Tryz.ntmps19
  go_wp2
  go_ret
  refine ⟨w.heap.size + 1, rfl, H.out.push (txTh (w.heap.size + 1) w.heap.size q [] false) _ ⟨w.heap.size, by omega, rfl⟩ (((Below.refl _ _).alloc (Nat.le_refl _) _).alloc (by simp) _) ⟨?_, (World.ownsMap_made w Tryz.prog 3 bElem).alloc _⟩ ?_⟩
  · have := heap_alloc_new (w.alloc (.map #[] 0)) (.cells #[pt q, .map (some w.heap.size), .bool false] 82)
    simpa using this
  · intro k hk
    rcases hk with rfl | rfl <;> omega
theorem clear_run {w : World} {b : Nat} {W : Wl} (h : MapAt w b W) (ty : TypeId) : ∃ w', (Builtin.clear_ #[80] ty #[.map (some b)]).run Tryz.prog w = .ok (.tuple #[]) w' ∧ MapAt w' b [] ∧ w.grownBy w' (some b) := by
  obtain ⟨es, clock, hb, F, hs, hD⟩ := h
  refine ⟨ChangeMaps.setBlock w b (.map #[] clock), ?_, ⟨#[], clock, ChangeMaps.heap_setBlock_same hb _, ⟨by simp, MapKept.stamped_empty clock, by simp⟩, Nat.le_refl _, rfl⟩, ⟨rfl, rfl, rfl, by simp [ChangeMaps.setBlock], fun i _ hi => ChangeMaps.heap_setBlock_other hb _ (fun e => hi (by rw [e]))⟩⟩
  simp [Builtin.clear_, run_underlying Tryz.underlying80, MapKept.run_getObj_map hb, MapKept.run_setObj_map _ hb, Result.andThen]
  rfl
theorem wp_clear {ops : Array Oper} {rest : List Oper} {o : Oper} {a : Act} {Q : Exit → Act → World → Prop} {w : World} {b : Nat} {W : Wl} (h : MapAt w b W)
    (hg : o.guard = none) (m : Operand) (hop : o.op = Op.call { callee := Callee.builtin Builtin.clear, args := #[m], argTypes := #[80] }) (hm : a.eval m = .map (some b))
    (hK : ∀ w', MapAt w' b [] → w.grownBy w' (some b) → wpList Tryz.prog ops Q rest (a.put o.dst (.tuple #[])) w') : wpList Tryz.prog ops Q (o :: rest) a w := by
  refine wpList_plain hg fun K' hK' => ?_
  obtain ⟨w', hrun, r1, r2⟩ := clear_run h o.type
  unfold Oper.wp
  simp [execOp, hop, resolve, invoke, builtin, hm, hrun, Result.andThen]
  exact hK' _ _ (hK w' r1 r2)
set_option maxRecDepth 100000 in
theorem abort_env (h : EnvP w0 w Ls) (i : Nat) (hi : Ls[i]? = some (tx x q W o)) : Calls Tryz.prog 45 #[pt x] w fun e w' => e = .returned (.tuple #[]) ∧ EnvP w0 w' (Ls.set i (tx x q [] true)) := by
  obtain ⟨mb, hne, hx, hm, _, _, hn⟩ := h.tx i hi
  have c1 : w.cell? ⟨x, 1, none⟩ = some (.map (some mb)) := cell_of_row w x 1 _ _ (0, 0) hx
  have c2 : w.cell? ⟨x, 2, none⟩ = some (.bool o) := cell_of_row w x 2 _ _ (0, 0) hx
  have f2 : w.frozen? ⟨x, 2, none⟩ = false := frozen_of_row w x 2 _ _ hx
  have h1 : (w.setCell ⟨x, 2, none⟩ (.bool true)).heap[x]? = some (.cells #[pt q, .map (some mb), .bool true] 82 (0, 0)) := cell_set w x 2 _ _ _ hx
  have fr1 : Fr (fun k => k = x ∨ k = mb) w (w.setCell ⟨x, 2, none⟩ (.bool true)) := fr_set w x 2 _ (.inl rfl)
  have m1 : MapAt (w.setCell ⟨x, 2, none⟩ (.bool true)) mb W := by
    obtain ⟨es, clock, hb, r⟩ := hm
    exact ⟨es, clock, (fr_set (S := fun k => k = x) w x 2 (.bool true) rfl).heap hb (fun e => hne e.symm), r⟩
  have M1 : Hid (MapAt (w.setCell ⟨x, 2, none⟩ (.bool true)) mb W) := ⟨m1⟩
  have HE : Hid (∀ w2, MapAt w2 mb [] → (w.setCell ⟨x, 2, none⟩ (.bool true)).grownBy w2 (some mb) → EnvP w0 w2 (Ls.set i (tx x q [] true))) := ⟨fun w2 m2 g2 => hn w2 [] true (by rw [g2.block x (heap_lt h1) (fun e => hne (by injection e))]; exact h1) m2 (fr1.trans (Fr.of_grown (S := fun k => k = mb) g2 (fun k hk => (Option.some.inj hk).symm)) (fun k _ hk => .inr hk))⟩
  obtain ⟨w2, hcl, m2, g2⟩ := clear_run m1 0
  have HE2 : Hid (EnvP w0 w2 (Ls.set i (tx x q [] true))) := ⟨HE.out w2 m2 g2⟩
  clear h hi hx hm hn h1 fr1 m1 m2 g2
  go_enter Tryz.func45, Tryz.ntmps45
  go_wp2
  all_goals (first | go_end0 | refine bodyPost_ret (results_none rfl _ _ _) rfl ?_)
  exact ⟨rfl, HE2.out⟩
end Go.Proofs.YtghdgddpdamhcaaGreat

/- The transaction's Blocks; a block as an array: made, filled, loaded, read as a text. -/
namespace Go.Proofs.YtghdgddpdamhcaaGreat
set_option linter.unusedVariables false
set_option linter.unusedSimpArgs false
open Go.RowKit Go.Maps
variable {w0 w : World} {Ls rest : List (Th → Prop)} {x q p s : Nat} {W : Wl} {d o : Bool} {st : St}
theorem drewN_cell (w : World) (k : Nat) (a : Addr) : (w.drewN k).cell? a = w.cell? a := rfl
set_option maxRecDepth 100000 in
theorem tblocks_env (h : EnvP w0 w (lg q p s d :: dk p st :: rest)) (hs : s ≤ st.safe.length) (i : Nat) (hi : rest[i]? = some (tx x q W o)) :
    Calls Tryz.prog 36 #[pt x] w fun e w' => e = .returned (.int .i64 ((st.safe.length : Int) - (s : Int))) ∧ ∃ k, w' = w.drewN k := by
  obtain ⟨mb, hne, hx, hm, _⟩ := h.tx (i + 2) (by simpa using hi)
  have c0 : w.cell? ⟨x, 0, none⟩ = some (pt q) := cell_of_row w x 0 _ _ (0, 0) hx
  have qB := blocks_env h hs
  clear h hi hx hm
  go_enter Tryz.func36, Tryz.ntmps36
  go_wp2_with fail
  refine qB.mono ?_
  rintro e w1 ⟨rfl, k, rfl⟩
  dsimp only
  go_wp2
  go_ret
  exact ⟨rfl, k, rfl⟩
/-- the cells of a block -/
def bcs (t : ByteArray) : Array Value := (vals t.data.toList).toArray
theorem bcs_size (t : ByteArray) : (bcs t).size = t.size := by simp [bcs, vals_length]
theorem infoA : (Tryz.prog.info? 83).map (·.size) = some 512 := by kernel_rfl
theorem zinfoA : (Tryz.prog.info? 83).map (fun i => (i.zero, i.size)) = some (some (.agg (Array.replicate 512 (.int .u8 0))), 512) := by kernel_rfl
noncomputable def ldS (t : TypeId) (v : Value) : Sem Value := Instr.loadAt t v
noncomputable def stS (t : TypeId) (p v : Value) : Sem Unit := Instr.storeAt t p v
theorem ldA (v : Value) : Instr.loadAt 83 v = ldS 83 v := rfl
theorem stA (p v : Value) : Instr.storeAt 83 p v = stS 83 p v := rfl
theorem load_blk {w : World} {B : Nat} {t : ByteArray} (ht : t.size = 512) (h : w.heap[B]? = some (.cells (bcs t) 83 (0, 0))) : (ldS 83 (.pointer (some ⟨B, 0, none⟩))).run Tryz.prog w = .ok (blk t) w := by
  show (Instr.loadAt 83 (.pointer (some ⟨B, 0, none⟩))).run Tryz.prog w = _
  rw [blk_eq]
  simp only [Instr.loadAt, Instr.sureAddr, Sem.run_bind, Sem.run_pure, Result.andThen_ok, run_loadVar_row _ B 83 83 (bcs t) (0, 0) _ h Tryz.underlying83 rfl (by rw [bcs_size, ht]; exact infoA)]
  rfl
theorem bcs_one (t : ByteArray) : (bcs t).all (·.oneCell') = true := by
  rw [Array.all_eq_true]; intro i h; simp only [bcs, vals, List.getElem_toArray, List.getElem_map]; rfl
theorem store_blk {w : World} {B : Nat} {t old : ByteArray} (ht : t.size = 512) (ho : old.size = 512) (h : w.heap[B]? = some (.cells (bcs old) 83 (0, 0))) : (stS 83 (.pointer (some ⟨B, 0, none⟩)) (blk t)).run Tryz.prog w = .ok () (w.setRow B (bcs t)) := by
  show (Instr.storeAt 83 (.pointer (some ⟨B, 0, none⟩)) (blk t)).run Tryz.prog w = _
  rw [blk_eq]
  have := run_storeVar_row (P := Tryz.prog) w B 83 83 (bcs old) (bcs t) h (by rw [bcs_size, ht]; exact infoA) (by rw [bcs_size, bcs_size, ht, ho]) (bcs_one t)
  simp only [Instr.storeAt, Instr.sureAddr, Sem.run_bind, Sem.run_pure, Result.andThen_ok]
  exact this
theorem conv_blk {w : World} {B : Nat} {t : ByteArray} (h : w.heap[B]? = some (.cells (bcs t) 83 (0, 0))) (cap : Nat) : (convert 40 9 (.slice (some ⟨B, 0, none⟩) t.size cap)).run Tryz.prog w = .ok (.string t) w := by
  have := run_convert_bytes_back w 40 9 5 ⟨B, 0, none⟩ cap t.data.toList Tryz.underlying40 Tryz.underlying5 Tryz.underlying9 (P := Tryz.prog) ?_
  · have e : t.data.toList.length = t.size := by simp
    rw [e] at this
    exact this
  · intro j hj
    have hadd : (⟨B, 0, none⟩ : Addr).add j = ⟨B, j, none⟩ := by unfold Addr.add; split <;> simp_all
    rw [hadd, cell_of_row w B j _ _ (0, 0) h]
    have : t.data[j]? = some t.data[j] := Array.getElem?_eq_getElem (by simpa using hj)
    simp [bcs, vals, this]
end Go.Proofs.YtghdgddpdamhcaaGreat

/- Write. -/
namespace Go.Proofs.YtghdgddpdamhcaaGreat
set_option linter.unusedVariables false
set_option linter.unusedSimpArgs false
open Go.RowKit Go.Maps
variable {w0 w : World} {Ls rest : List (Th → Prop)} {x q p s : Nat} {W : Wl} {d o : Bool} {st : St}
def zA : Array Value := bcs (fl 0)
theorem zcA : Tryz.zeroCells83 = zA := by kernel_rfl
theorem zA_size : zA.size = 512 := by rw [zA, bcs_size]; exact fl_size 0
theorem zA_agg : (Array.replicate 512 (Value.int .u8 0)) = zA := by kernel_rfl
theorem zeroA (w : World) : (zeroValue 83).run Tryz.prog w = .ok (.agg zA) w := by rw [← zA_agg]; exact (zero_of_info zinfoA).1 w
theorem firstStr (t : ByteArray) (ht : t.size = 512) (w : World) : (Builtin.firstCells 1 512 (.string t)).run Tryz.prog w = .ok (bcs t) w := by
  have e0 : t.extract 0 512 = t := by rw [← ht]; exact ByteArray.extract_zero_size
  simp [Builtin.firstCells, e0, bcs, vals]
  apply Array.ext <;> simp
theorem copy_new (w : World) (t : ByteArray) (ht : t.size = 512) (ty : TypeId) : (Builtin.copy_ #[40, 9] ty #[.slice (some ⟨w.heap.size, 0, none⟩) 512 512, .string t]).run Tryz.prog (w.alloc (.cells zA 83)) = .ok (.int .i64 512) (w.alloc (.cells (bcs t) 83)) := by
  have hst := run_storeCells_new (P := Tryz.prog) w 83 zA (bcs t) (by rw [bcs_size, ht]; exact infoA) (by rw [zA_size, bcs_size, ht]) (bcs_one t)
  obtain ⟨i0, hi0, hz0, hz1, hz2⟩ := info5
  have hf := firstStr t ht
  simp [Builtin.copy_, run_underlying Tryz.underlying40, Builtin.lenOf, sizeOf, typeInfo, hi0, hz1, ht, hf, Result.andThen]
  rw [hst]
  rfl
attribute [local go_sem] zcA zeroA zA_size
noncomputable def muS (m k v : Value) : Sem Unit := Instr.mapUpdate 80 m k v
theorem muA (m k v : Value) : Instr.mapUpdate 80 m k v = muS m k v := rfl
attribute [local go_sem ↓] ldA stA muA
set_option maxRecDepth 100000 in
theorem twrite_over (h : EnvP w0 w Ls) (i : Nat) (hi : Ls[i]? = some (tx x q W true)) (v t : Value) : Calls Tryz.prog 16 #[pt x, v, t] w fun e w' => e = .returned (.int .i64 8) ∧ EnvP w0 w' Ls := by
  obtain ⟨mb, hne, hx, hm, _⟩ := h.tx i hi
  have c2 : w.cell? ⟨x, 2, none⟩ = some (.bool true) := cell_of_row w x 2 _ _ (0, 0) hx
  have H : Hid (EnvP w0 w Ls) := ⟨h⟩
  clear h hi hx hm
  go_enter Tryz.func16, Tryz.ntmps16
  go_wp2
  go_ret
  exact ⟨rfl, H.out⟩
set_option maxRecDepth 100000 in
theorem twrite_bad (h : EnvP w0 w (lg q p s d :: dk p st :: rest)) (hs : s ≤ st.safe.length) (i : Nat) (hi : rest[i]? = some (tx x q W false)) (z : Int) (t : ByteArray) {m : Nat} (hm : m = st.safe.length - s) (hz : ¬ (0 ≤ z ∧ z < m ∧ t.size = 512)) :
    Calls Tryz.prog 16 #[pt x, .int .i64 z, .string t] w fun e w' => e = .returned (.int .i64 1) ∧ EnvP w0 w' (lg q p s d :: dk p st :: rest) := by
  obtain ⟨mb, hne, hx, hmm, _⟩ := h.tx (i + 2) (by simpa using hi)
  have c2 : w.cell? ⟨x, 2, none⟩ = some (.bool false) := cell_of_row w x 2 _ _ (0, 0) hx
  have hmi : (st.safe.length : Int) - (s : Int) = (m : Int) := by omega
  have qB := tblocks_env h hs i hi
  rw [hmi] at qB
  have H : Hid (EnvP w0 w (lg q p s d :: dk p st :: rest)) := ⟨h⟩
  clear h hi hx hmm hm hmi
  by_cases h0 : z < 0
  · go_enter Tryz.func16, Tryz.ntmps16
    go_wp2
    go_ret
    exact ⟨rfl, H.out⟩
  · by_cases h1 : z < m
    · have h2 : ¬ ((t.size : Int) = 512) := fun e => hz ⟨by omega, h1, by omega⟩
      have h3 : ((t.size : Int) != 512) = true := by rw [bne_iff_ne]; exact h2
      clear hz h2
      go_enter Tryz.func16, Tryz.ntmps16
      go_wp2_with fail
      refine qB.mono ?_
      rintro e w1 ⟨rfl, j, rfl⟩
      dsimp only
      go_wp2
      go_ret
      exact ⟨rfl, H.out.drewN j⟩
    · clear hz
      go_enter Tryz.func16, Tryz.ntmps16
      go_wp2_with fail
      refine qB.mono ?_
      rintro e w1 ⟨rfl, j, rfl⟩
      dsimp only
      go_wp2
      go_ret
      exact ⟨rfl, H.out.drewN j⟩
set_option maxRecDepth 100000 in
theorem twrite_run (h : EnvP w0 w (lg q p s d :: dk p st :: rest)) (hs : s ≤ st.safe.length) (i : Nat) (hi : rest[i]? = some (tx x q W false)) (k : Nat) (t : ByteArray) {m : Nat} (hm : m = st.safe.length - s) (hk : k < m) (ht : t.size = 512) (hR : Rising W) (hl : W.length ≤ 8192) :
    Calls Tryz.prog 16 #[pt x, .int .i64 (k : Int), .string t] w fun e w' => e = .returned (.int .i64 0) ∧ EnvP w0 w' (lg q p s d :: dk p st :: rest.set i (tx x q (insW k t W) false)) := by
  obtain ⟨mb, hne, hx, hmm, _, _, hn⟩ := h.tx (i + 2) (by simpa using hi)
  have c1 : w.cell? ⟨x, 1, none⟩ = some (.map (some mb)) := cell_of_row w x 1 _ _ (0, 0) hx
  have c2 : w.cell? ⟨x, 2, none⟩ = some (.bool false) := cell_of_row w x 2 _ _ (0, 0) hx
  have hmi : (st.safe.length : Int) - (s : Int) = (m : Int) := by omega
  have qB := tblocks_env h hs i hi
  rw [hmi] at qB
  have hki : (k : Int) < (m : Int) := by omega
  have hti : (t.size : Int) = 512 := by omega
  have hkey : keyOf Tryz.prog 3 (.int .i64 (k : Int)) = some (.int .i64 (k : Int)) := keyOf_int_mk Tryz.underlying3 (WalkArith.wf_i64 ⟨by omega, by have := (h.wf 1 rfl).hi; omega⟩)
  have HX : Hid (w.heap[x]? = some (.cells #[pt q, .map (some mb), .bool false] 82 (0, 0))) := ⟨hx⟩
  have HM : Hid (∀ j, MapAt ((w.drewN j).alloc (.cells (bcs t) 83)) mb W) := ⟨fun j => World.ownsMap.alloc (w := w.drewN j) hmm _⟩
  have HE : Hid (∀ j w6, w6.ownsMap Tryz.prog 3 bElem mb (W.length + 1) ((txD W).put (.int .i64 (k : Int)) (.lit (.string t.data.toList))) → ((w.drewN j).alloc (.cells (bcs t) 83)).drew.grownBy w6 (some mb) → EnvP w0 w6 (lg q p s d :: dk p st :: rest.set i (tx x q (insW k t W) false))) := ⟨fun j w6 h6 g6 => by
    have b5 : Below w.heap.size w ((w.drewN j).alloc (.cells (bcs t) 83)).drew := ((below_drewN (Below.refl _ w) j).alloc (Nat.le_refl _) _).drew
    refine hn w6 (insW k t W) false ?_ (tight (by rw [← put_txD hR]; exact h6)) ((Fr.of_below b5).trans (Fr.of_grown (S := fun k => k = mb) g6 (fun k hk => (Option.some.inj hk).symm)) (fun k _ hk => .inr hk))
    rw [g6.block x (Nat.lt_of_lt_of_le (heap_lt hx) b5.size) (fun e => hne (by injection e)), b5.block x (heap_lt hx)]
    exact hx⟩
  clear h hi hx hmm hm hmi hn
  go_enter Tryz.func16, Tryz.ntmps16
  go_wp2_with fail
  refine qB.mono ?_
  rintro e w1 ⟨rfl, j, rfl⟩
  have hcp : ∀ ty, (Builtin.copy_ #[40, 9] ty #[.slice (some ⟨w.heap.size, 0, none⟩) 512 512, .string t]).run Tryz.prog ((w.drewN j).alloc (.cells zA 83)) = .ok (.int .i64 512) ((w.drewN j).alloc (.cells (bcs t) 83)) := copy_new (w.drewN j) t ht
  obtain ⟨w6, hrun6, hown6, hgrow6⟩ := World.ownsMap.update (w := ((w.drewN j).alloc (.cells (bcs t) 83)).drew) (HM.out j) law3 Tryz.underlying80 (by unfold maxLen; omega) hkey (bElem_mk ht)
  have hup : (muS (.map (some mb)) (.int .i64 (k : Int)) (blk t)).run Tryz.prog ((w.drewN j).alloc (.cells (bcs t) 83)).drew = .ok () w6 := hrun6
  have E6 : Hid (EnvP w0 w6 (lg q p s d :: dk p st :: rest.set i (tx x q (insW k t W) false))) := ⟨HE.out j w6 hown6 hgrow6⟩
  have hld : (ldS 83 (.pointer (some ⟨w.heap.size, 0, none⟩))).run Tryz.prog ((w.drewN j).alloc (.cells (bcs t) 83)).drew = .ok (blk t) ((w.drewN j).alloc (.cells (bcs t) 83)).drew := load_blk (w := ((w.drewN j).alloc (.cells (bcs t) 83)).drew) ht (heap_alloc_new (w.drewN j) _)
  have c5 : ((w.drewN j).alloc (.cells (bcs t) 83)).cell? ⟨x, 1, none⟩ = some (.map (some mb)) := Lib.cell?_alloc_marked (W := w.drewN j) _ c1
  clear hrun6 hown6 hgrow6 HE HM HX qB
  dsimp only
  go_wp2_with fail
  generalize (w.drewN j).alloc (.cells (bcs t) 83) = W5 at *
  go_region_with (fail)
  all_goals (go_wp2; go_ret; exact ⟨rfl, E6.out⟩)
end Go.Proofs.YtghdgddpdamhcaaGreat

/- Read. -/
namespace Go.Proofs.YtghdgddpdamhcaaGreat
set_option linter.unusedVariables false
set_option linter.unusedSimpArgs false
open Go.RowKit Go.Maps
variable {w0 w : World} {Ls rest : List (Th → Prop)} {x q p s : Nat} {W : Wl} {d o : Bool} {st : St}
def lookI (W : Wl) (z : Int) : Option ByteArray := if z < 0 then none else lookW W z.toNat
noncomputable def lkS (m k : Value) : Sem Value := Instr.lookup 80 m k true
theorem lkA (m k : Value) : Instr.lookup 80 m k true = lkS m k := rfl
noncomputable def lk0 (m k : Value) : Sem Value := Instr.lookup 80 m k false
theorem lkB (m k : Value) : Instr.lookup 80 m k false = lk0 m k := rfl
theorem zero_blk : Value.agg zA = blk (fl 0) := by rw [blk_eq]; rfl
theorem ba_of_list {a b : ByteArray} (h : a.data.toList = b.data.toList) : a = b := ByteArray.ext (Array.toList_inj.1 h)
theorem at_lookI (W : Wl) (z : Int) : (txD W).atKey (.int .i64 z) (.lit (.string (fl 0).data.toList)) = .lit (.string ((lookI W z).getD (fl 0)).data.toList) := by
  unfold lookI
  by_cases h : z < 0
  · rw [if_pos h]
    have : (W.map ent).find? (fun p => p.1.sameKey (.int .i64 z)) = none := by
      rw [List.find?_eq_none]
      intro p hp
      obtain ⟨q, _, rfl⟩ := List.mem_map.1 hp
      simp only [ent, Lit.sameKey]
      simp; omega
    unfold txD DataW.atKey
    simp only
    rw [this]; rfl
  · rw [if_neg h]
    obtain ⟨n, rfl⟩ : ∃ n : Nat, z = n := ⟨z.toNat, by omega⟩
    rw [at_txD]
    simp only [Int.toNat_natCast]
    cases lookW W n <;> rfl
theorem has_lookI (W : Wl) (z : Int) : Maps.has (txD W) (.int .i64 z) = (lookI W z).isSome := by
  unfold lookI
  by_cases h : z < 0
  · rw [if_pos h, has_txD_neg W z h]; rfl
  · rw [if_neg h]
    obtain ⟨n, rfl⟩ : ∃ n : Nat, z = n := ⟨z.toNat, by omega⟩
    rw [has_txD]; simp
theorem look_run {w : World} {b : Nat} (h : MapAt w b W) (z : Int) (hz : -9223372036854775808 ≤ z ∧ z ≤ 9223372036854775807) : (lkS (.map (some b)) (.int .i64 z)).run Tryz.prog w = .ok (.tuple #[blk ((lookI W z).getD (fl 0)), .bool (lookI W z).isSome]) w := by
  have hkey : keyOf Tryz.prog 3 (.int .i64 z) = some (.int .i64 z) := keyOf_int_mk Tryz.underlying3 (WalkArith.wf_i64 ⟨by omega, by omega⟩)
  obtain ⟨v, ps, hrun, hv⟩ := World.ownsMap.look_ok h law3 Tryz.underlying80 (zeroA w) (zd := .lit (.string (fl 0).data.toList)) (zp := []) (by rw [zero_blk]; exact bElem_mk (fl_size 0)) hkey
  obtain ⟨t, ht, rfl, e⟩ := bElem_inv hv
  rw [at_lookI] at e
  generalize (lookI W z).getD (fl 0) = G at *
  simp only [Prod.mk.injEq, DataW.lit.injEq, Lit.string.injEq, and_true] at e
  rw [← ba_of_list e.1] at hrun
  rw [has_lookI] at hrun
  exact hrun
theorem look0_run {w : World} {b : Nat} (h : MapAt w b W) (z : Int) (hz : -9223372036854775808 ≤ z ∧ z ≤ 9223372036854775807) : (lk0 (.map (some b)) (.int .i64 z)).run Tryz.prog w = .ok (blk ((lookI W z).getD (fl 0))) w := by
  have hkey : keyOf Tryz.prog 3 (.int .i64 z) = some (.int .i64 z) := keyOf_int_mk Tryz.underlying3 (WalkArith.wf_i64 ⟨by omega, by omega⟩)
  obtain ⟨v, ps, hrun, hv⟩ := World.ownsMap.lookup h law3 Tryz.underlying80 (zeroA w) (zd := .lit (.string (fl 0).data.toList)) (zp := []) (by rw [zero_blk]; exact bElem_mk (fl_size 0)) hkey
  obtain ⟨t, ht, rfl, e⟩ := bElem_inv hv
  rw [at_lookI] at e
  generalize (lookI W z).getD (fl 0) = G at *
  simp only [Prod.mk.injEq, DataW.lit.injEq, Lit.string.injEq, and_true] at e
  rw [← ba_of_list e.1] at hrun
  exact hrun
theorem store_new (w : World) {t : ByteArray} (ht : t.size = 512) : (stS 83 (.pointer (some ⟨w.heap.size, 0, none⟩)) (blk t)).run Tryz.prog (w.alloc (.cells zA 83)) = .ok () (w.alloc (.cells (bcs t) 83)) := by
  have := store_blk (w := w.alloc (.cells zA 83)) ht (fl_size 0) (heap_alloc_new w _)
  rwa [World.setRow_alloc_new] at this
attribute [local go_sem] zcA zeroA zA_size
attribute [local go_sem ↓] ldA stA muA lkA
set_option maxRecDepth 100000 in
theorem tread_over (h : EnvP w0 w Ls) (i : Nat) (hi : Ls[i]? = some (tx x q W true)) (v : Value) : Calls Tryz.prog 17 #[pt x, v] w fun e w' => e = .returned (.tuple #[.string ⟨#[]⟩, .int .i64 8]) ∧ EnvP w0 w' Ls := by
  obtain ⟨mb, hne, hx, hm, _⟩ := h.tx i hi
  have c2 : w.cell? ⟨x, 2, none⟩ = some (.bool true) := cell_of_row w x 2 _ _ (0, 0) hx
  have H : Hid (EnvP w0 w Ls) := ⟨h⟩
  clear h hi hx hm
  go_enter Tryz.func17, Tryz.ntmps17
  go_wp2
  go_ret2
  exact ⟨rfl, H.out⟩
set_option maxRecDepth 100000 in
theorem tread_own (h : EnvP w0 w Ls) (i : Nat) (hi : Ls[i]? = some (tx x q W false)) (z : Int) (hz : -9223372036854775808 ≤ z ∧ z ≤ 9223372036854775807) (t : ByteArray) (ht : t.size = 512) (hl : lookI W z = some t) : Calls Tryz.prog 17 #[pt x, .int .i64 z] w fun e w' => e = .returned (.tuple #[.string t, .int .i64 0]) ∧ EnvP w0 w' Ls := by
  obtain ⟨mb, hne, hx, hm, _⟩ := h.tx i hi
  have c1 : w.cell? ⟨x, 1, none⟩ = some (.map (some mb)) := cell_of_row w x 1 _ _ (0, 0) hx
  have c2 : w.cell? ⟨x, 2, none⟩ = some (.bool false) := cell_of_row w x 2 _ _ (0, 0) hx
  have hlk := look_run hm z hz
  rw [hl] at hlk
  simp only [Option.getD_some, Option.isSome_some] at hlk
  have H : Hid (EnvP w0 w Ls) := ⟨h⟩
  have hst := store_new w ht
  have hcv : ∀ c, (convert 40 9 (.slice (some ⟨w.heap.size, 0, none⟩) 512 c)).run Tryz.prog (w.alloc (.cells (bcs t) 83)) = .ok (.string t) (w.alloc (.cells (bcs t) 83)) := fun c => by
    have := conv_blk (w := w.alloc (.cells (bcs t) 83)) (heap_alloc_new w _) c
    rwa [ht] at this
  clear h hi hx hm hl
  go_enter Tryz.func17, Tryz.ntmps17
  go_wp2
  go_ret2
  exact ⟨rfl, H.out.drop _⟩
set_option maxRecDepth 100000 in
theorem tread_log (h : EnvP w0 w (lg q p s false :: dk p st :: rest)) (i : Nat) (hi : rest[i]? = some (tx x q W false)) (z : Int) (hz : -9223372036854775808 ≤ z ∧ z ≤ 9223372036854775807) (hl : lookI W z = none) (ho : st.off = false) (hs : s ≤ st.safe.length) (B : List ByteArray) (hB : st.seen.drop s = B) :
    Calls Tryz.prog 17 #[pt x, .int .i64 z] w fun e w' => e = .returned (if 0 ≤ z ∧ z < B.length then .tuple #[.string (B.getD z.toNat ByteArray.empty), .int .i64 0] else .tuple #[.string ⟨#[]⟩, .int .i64 1]) ∧ EnvP w0 w' (lg q p s false :: dk p st :: rest) := by
  obtain ⟨mb, hne, hx, hm, _⟩ := h.tx (i + 2) (by simpa using hi)
  have c0 : w.cell? ⟨x, 0, none⟩ = some (pt q) := cell_of_row w x 0 _ _ (0, 0) hx
  have c1 : w.cell? ⟨x, 1, none⟩ = some (.map (some mb)) := cell_of_row w x 1 _ _ (0, 0) hx
  have c2 : w.cell? ⟨x, 2, none⟩ = some (.bool false) := cell_of_row w x 2 _ _ (0, 0) hx
  have hlk := look_run hm z hz
  rw [hl] at hlk
  simp only [Option.getD_none, Option.isSome_none] at hlk
  have hst := store_new w (fl_size 0)
  obtain ⟨R, hR⟩ : ∃ R, (if 0 ≤ z ∧ z < B.length then Value.tuple #[.string (B.getD z.toNat ByteArray.empty), .int .i64 0] else .tuple #[.string ⟨#[]⟩, .int .i64 1]) = R := ⟨_, rfl⟩
  have hRR : ∃ a b, R = .tuple #[.string a, .int .i64 b] := by
    rw [← hR]; split
    · exact ⟨_, _, rfl⟩
    · exact ⟨_, _, rfl⟩
  have qR := lread_on (h.drop (.cells (bcs (fl 0)) 83)) z ho hs B hB
  rw [hR] at qR ⊢
  have d0 : (w.alloc (.cells (bcs (fl 0)) 83)).cell? ⟨x, 0, none⟩ = some (pt q) := Lib.cell?_alloc_marked (W := w) _ c0
  obtain ⟨ra, rb, rfl⟩ := hRR
  generalize hF : fl 0 = F at *
  clear h hi hx hm hl hR
  go_enter Tryz.func17, Tryz.ntmps17
  go_wp2_with fail
  refine qR.mono ?_
  rintro e w1 ⟨rfl, h1⟩
  dsimp only
  go_wp2
  go_ret2
  exact ⟨rfl, h1⟩
end Go.Proofs.YtghdgddpdamhcaaGreat
