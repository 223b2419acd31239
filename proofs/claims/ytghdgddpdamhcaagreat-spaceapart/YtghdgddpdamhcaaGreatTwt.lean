/- writes: what a transaction wrote, by rising numbers. -/
import Derived.Test.YtghdgddpdamhcaaGreatGb
import Derived.Test.YtghdgddpdamhcaaGreatSrt
namespace Go.Proofs.YtghdgddpdamhcaaGreat
set_option linter.unusedVariables false
set_option linter.unusedSimpArgs false
open Go.RowKit Go.Maps
variable {w0 w : World} {Ls rest : List (Th → Prop)} {x q p s : Nat} {W : Wl} {d o : Bool} {st : St}
theorem MapAt.below {w w' : World} {b : Nat} (h : MapAt w b W) (bl : Below w.heap.size w w') : MapAt w' b W := by
  have hlt := h.lt
  obtain ⟨es, clock, hb, r⟩ := h
  exact ⟨es, clock, (bl.block b hlt).trans hb, r⟩
/-- a row beside another of other cells, that grows -/
theorem row_keep {base b2 : Nat} {e e2 : TypeId} {sz sz2 : Nat} {w w' : World} {v v2 : Value} {n n2 : Nat} {xs ys : List Value} (hne : e ≠ e2) (h : w.ownsRow base e sz v n xs) (o : w.ownsRow b2 e2 sz2 v2 n2 ys) (g : w.grownBy w' v2.ownBlock) : w'.ownsRow base e sz v n xs := by
  refine (Fr.of_grown (S := fun k => v2.ownBlock = some k) g (fun k hk => hk)).own h ?_
  intro k hk hk2
  rcases h.2 with ⟨rfl, _⟩ | ⟨g1, c1, cur1, rfl, _, e1, _⟩
  · cases hk
  · rcases o.2 with ⟨rfl, _⟩ | ⟨g2, c2, cur2, rfl, _, e2, _⟩
    · cases hk2
    · cases hk; cases hk2
      rw [e1] at e2
      injection e2 with e3
      injection e3 with _ e4 _
      exact hne e4
theorem take_snocW (W : Wl) (k : Nat) (z : Nat × ByteArray) (h : W[k]? = some z) : W.take (k + 1) = W.take k ++ [(z.1, z.2)] := by
  have hk := (List.getElem?_eq_some_iff.1 h).1
  rw [List.take_succ_eq_append_getElem hk, Option.some.inj ((List.getElem?_eq_getElem hk).symm.trans h)]
attribute [local go_sem] zcA zeroA zA_size
attribute [local go_sem ↓] ldA stA lkB
set_option maxRecDepth 100000 in
theorem twrites_any (w : World) (x mb : Nat) (c1 : w.cell? ⟨x, 1, none⟩ = some (.map (some mb))) (hm : MapAt w mb W) (hR : Rising W) (hl : W.length ≤ 8192) (h512 : InB 8192 W) :
    Calls Tryz.prog 44 #[pt x] w fun e w' => ∃ v, e = .returned v ∧ w'.ownsRow 0 95 2 v W.length (wcs W) ∧ Below w.heap.size w w' ∧ ∀ k, v.ownBlock = some k → w.heap.size ≤ k := by
  obtain ⟨i0, hi0, hz0, hz1, hz2⟩ := info_parts infoWf
  have HM : Hid (MapAt w mb W) := ⟨hm⟩
  have HR : Hid (Rising W) := ⟨hR⟩
  have H5 : Hid (InB 8192 W) := ⟨h512⟩
  have hlen : ∀ ty, (Builtin.len_ #[80] ty #[.map (some mb)]).run Tryz.prog w = .ok (.int .i64 (W.length : Int)) w := fun ty => by
    have := World.ownsMap.len hm Tryz.underlying80 ty
    rwa [size_txD] at this
  obtain ⟨w1, hmk, o1, g1⟩ := run_make_own (P := Tryz.prog) w 0 85 95 i0 _ 2 Tryz.underlying85 hi0 hz0 hz1 .i64 .i64 W.length (by rw [hz2]; omega) (by unfold maxLen; omega) (Nat.zero_le _)
  have B1 : Hid (Below w.heap.size w w1) := ⟨(Below.refl _ _).grown g1 (Nat.le_refl _) (fun j hj => by cases hj)⟩
  have O1 : Hid (w1.ownsRow 0 95 2 (.slice (some ⟨w.heap.size, 0, none⟩) 0 W.length) 0 []) := ⟨o1⟩
  have d1 : w1.cell? ⟨x, 1, none⟩ = some (.map (some mb)) := (B1.out.cell (p := ⟨x, 1, none⟩) (World.block_lt_of_cell? w _ c1)).trans c1
  have qK := keys_any (some mb) w1
  have qS := sorted_any mb W w1 (hm.below B1.out) hR hl
  clear hm hR h512 o1 g1
  go_enter Tryz.func44, Tryz.ntmps44
  go_wp2_with (first | (at_len; refine wpList_len_own _ rfl _ 80 rfl 3 83 Tryz.underlying80 bElem mb W.length _ rfl HM.out ?_; rw [size_txD]) | fail)
  refine qK.mono ?_
  rintro e w2 ⟨rfl, rfl⟩
  dsimp only
  go_wp2_with fail
  refine qS.mono ?_
  rintro e w3 ⟨v, rfl, o3, b3⟩
  obtain ⟨sa, sc, rfl⟩ := own_slice o3
  have B3 : Hid (Below w.heap.size w w3) := ⟨B1.out.trans (b3.mono B1.out.size)⟩
  have O3 : Hid (w3.ownsRow w1.heap.size 3 1 (.slice sa W.length sc) W.length (W.map fun p => Value.int .i64 (p.1 : Int))) := ⟨o3⟩
  have P3 : Hid (w3.ownsRow 0 95 2 (.slice (some ⟨w.heap.size, 0, none⟩) 0 W.length) 0 []) := ⟨own_later O1.out b3⟩
  clear o3 b3 O1 B1 qS qK hlen hmk d1
  dsimp only
  go_wp2_with fail
  go_loopw [3, 20] (fun v i wr => ∃ (k : Nat) (va : Option Addr) (c : Nat), k ≤ W.length ∧ i = .int .i64 (k : Int) ∧ v = .slice va k c ∧ Hid (wr.ownsRow 0 95 2 (.slice va k c) k (wcs (W.take k))) ∧ Hid (Below w.heap.size w wr) ∧ Hid (wr.ownsRow w1.heap.size 3 1 (.slice sa W.length sc) W.length (W.map fun p => Value.int .i64 (p.1 : Int))) ∧ Hid (∀ j, (Value.slice va k c).ownBlock = some j → w.heap.size ≤ j)) (fun _ i _ => W.length - (intOf i).toNat)
  case atStart => exact ⟨0, some ⟨w.heap.size, 0, none⟩, W.length, Nat.zero_le _, rfl, rfl, P3, B3, O3, ⟨fun j hj => by cases hj; exact Nat.le_refl _⟩⟩
  case round =>
    obtain ⟨k, va, c, hk, rfl, rfl, OW, BB, OK, HY⟩ := hrel
    clear B3 O3 P3
    by_cases hlt : k < W.length
    · obtain ⟨⟨N, T⟩, hz⟩ : ∃ z, W[k]? = some z := ⟨_, List.getElem?_eq_getElem hlt⟩
      have hT : T.size = 512 := (H5.out _ (List.mem_of_getElem? hz)).2
      have hN8 : N < 8192 := (H5.out _ (List.mem_of_getElem? hz)).1
      obtain ⟨g, rfl⟩ : ∃ g, sa = some ⟨g, 0, none⟩ := by
        rcases OK.out.2 with ⟨e, h0⟩ | ⟨g, cap, cur, e, _⟩
        · omega
        · injection e with e1 _ _; exact ⟨g, e1⟩
      have ck : wr.cell? ⟨g, k, none⟩ = some (.int .i64 (N : Int)) := by
        rw [OK.out.cellAt k (by omega), List.getElem?_map, hz]; rfl
      have hlkI : lookI W (N : Int) = some T := by
        unfold lookI
        rw [if_neg (by omega), Int.toNat_natCast]
        exact lookW_of_mem HR.out (List.mem_of_getElem? hz)
      have hlk := look0_run (HM.out.below BB.out) (N : Int) (by omega)
      rw [hlkI] at hlk
      simp only [Option.getD_some] at hlk
      have dx : wr.cell? ⟨x, 1, none⟩ = some (.map (some mb)) := (BB.out.cell (p := ⟨x, 1, none⟩) (World.block_lt_of_cell? w _ c1)).trans c1
      have hst := store_new wr hT
      have hcv : ∀ c, (convert 40 9 (.slice (some ⟨wr.heap.size, 0, none⟩) 512 c)).run Tryz.prog (wr.alloc (.cells (bcs T) 83)) = .ok (.string T) (wr.alloc (.cells (bcs T) 83)) := fun c => by
        have := conv_blk (w := wr.alloc (.cells (bcs T) 83)) (heap_alloc_new wr _) c
        rwa [hT] at this
      have hi : (k : Int) < W.length := by omega
      have hw1 : wrap64 ((k : Int) + 1) = ((k + 1 : Nat) : Int) := by unfold wrap64; omega
      have HT : Hid (W.take (k + 1) = W.take k ++ [(N, T)]) := ⟨take_snocW W k _ hz⟩
      have HLK : Hid ((W.take k).length = k) := ⟨by rw [List.length_take]; omega⟩
      have O5 : Hid ((wr.alloc (.cells (bcs T) 83)).ownsRow 0 95 2 (.slice va k c) (W.take k).length (wcs (W.take k))) := ⟨by rw [HLK.out]; exact OW.out.alloc _⟩
      have K5 : Hid ((wr.alloc (.cells (bcs T) 83)).ownsRow w1.heap.size 3 1 (.slice (some ⟨g, 0, none⟩) W.length sc) W.length (W.map fun p => Value.int .i64 (p.1 : Int))) := ⟨OK.out.alloc _⟩
      have B5 : Hid (Below w.heap.size w (wr.alloc (.cells (bcs T) 83))) := ⟨BB.out.alloc BB.out.size _⟩
      have HZ : Hid (wr.heap.size + 1 = (wr.alloc (.cells (bcs T) 83)).heap.size) := ⟨by simp⟩
      clear hz hlkI OW BB OK
      go_wp2_with (at_builtin; refine app_write (v := .slice va k c) (g := wr.heap.size + 1) (l := W.take k) (i := (N : Int)) N rfl rfl HZ.out O5.out (by rw [HLK.out]; omega) rfl _ _ rfl rfl rfl ?_; intro y2 c2 w8 q8 g8 n8)
      have q9 : w8.ownsRow 0 95 2 (rw_ y2 (k + 1) c2) (k + 1) (wcs (W.take (k + 1))) := by rw [HLK.out] at q8; rw [HT.out]; exact q8
      refine ⟨⟨k + 1, some ⟨y2, 0, none⟩, c2, by omega, by go_num, rfl, ⟨q9⟩, ⟨B5.out.grown g8 B5.out.size (fun j hj => HY.out j hj)⟩, ⟨row_keep (by decide) K5.out O5.out g8⟩, ⟨?_⟩⟩, by simp [intOf]; omega⟩
      intro j hj
      cases hj
      rcases n8 with n8 | n8
      · exact HY.out _ n8
      · exact Nat.le_trans B5.out.size n8
    · have hke : k = W.length := by omega
      subst hke
      have hi : ¬ ((W.length : Int) < W.length) := by omega
      rw [List.take_length] at OW
      go_wp2
      go_ret
      exact ⟨_, rfl, OW.out, BB.out, HY.out⟩
theorem twrites_env (h : EnvP w0 w Ls) (i : Nat) (hi : Ls[i]? = some (tx x q W o)) (hR : Rising W) (hl : W.length ≤ 8192) (h512 : InB 8192 W) :
    Calls Tryz.prog 44 #[pt x] w fun e w' => ∃ a c, e = .returned (.slice a W.length c) ∧ EnvP w0 w' (Ls ++ [rowW (.slice a W.length c) (ints W)]) := by
  obtain ⟨mb, hne, hx, hm, _⟩ := h.tx i hi
  refine (twrites_any w x mb (cell_of_row w x 1 _ _ (0, 0) hx) hm hR hl h512).mono ?_
  rintro e w' ⟨v, rfl, o1, b1, hy⟩
  obtain ⟨a, c, rfl⟩ := own_slice o1
  exact ⟨a, c, rfl, h.pushW (l := ints W) b1 (by rw [wci_ints, ints_length]; exact o1) hy⟩
end Go.Proofs.YtghdgddpdamhcaaGreat
