/- The reference's New and Commit. -/
import Derived.Test.YtlgpodcoiioefaaGreatRr
namespace Go.Proofs.YtlgpodcoiioefaaGreat
set_option linter.unusedVariables false
set_option linter.unusedSimpArgs false
open Go.RowKit Go.Maps
variable {w0 w w' : World} {Ls : List (Th → Prop)} {b x g : Nat} {B : List ByteArray} {W : Wl} {o : Bool}
theorem rep_snoc (k : Nat) (t : ByteArray) : List.replicate (k + 1) t = List.replicate k t ++ [t] := List.replicate_succ' ..
set_option maxRecDepth 100000 in
theorem rnew_env (h : EnvP w0 w Ls) (n : Nat) (hn : n ≤ 8192) : Calls Tryz.prog 6 #[.int .i64 (n : Int)] w fun e w' => ∃ b, e = .returned (pt b) ∧ EnvP w0 w' (Ls ++ [rl b (List.replicate n (fl 0))]) := by
  have H : Hid (EnvP w0 (w.alloc (.cells #[.slice none 0 0] 43)) (Ls ++ [rl w.heap.size (List.replicate 0 (fl 0))])) := ⟨h.push (rlTh w.heap.size (.slice none 0 0) []) _ ⟨_, fun e => (by cases e), rfl⟩ ((Below.refl _ _).alloc (Nat.le_refl _) _) ⟨heap_alloc_new w _, World.ownsRow_nil _ _ _ _⟩ (fun k hk => by
    rcases hk with rfl | hk
    · exact Nat.le_refl _
    · cases hk)⟩
  have HA : Hid (∀ (b k : Nat) (w5 w8 : World) (v : Value) (y c : Nat), EnvP w0 w5 (Ls ++ [rl b (List.replicate k (fl 0))]) → w5.heap[b]? = some (.cells #[v] 43 (0, 0)) → w8.ownsRow 0 9 1 (rw_ y (k + 1) c) (k + 1) (strv (List.replicate k (fl 0) ++ [fl 0])) → w5.grownBy w8 v.ownBlock → (v.ownBlock = some y ∨ w5.heap.size ≤ y) → EnvP w0 (w8.setCell ⟨b, 0, none⟩ (rw_ y (k + 1) c)) (Ls ++ [rl b (List.replicate (k + 1) (fl 0))]) ∧ w8.cell? ⟨b, 0, none⟩ = some v ∧ w8.frozen? ⟨b, 0, none⟩ = false) := ⟨fun b k w5 w8 v y c h5 hv q8 g8 n8 => by
    obtain ⟨v', hne, hb, hm, hn⟩ := h5.rl (b := b) (B := List.replicate k (fl 0)) Ls.length (by simp)
    have e0 : v' = v := by rw [hb] at hv; injection hv with hv; injection hv with hv _ _; simpa using hv
    subst e0
    have hb8 : w8.heap[b]? = some (.cells #[v'] 43 (0, 0)) := (g8.block b (heap_lt hb) (fun e => hne e.symm)).trans hb
    have hyb : y ≠ b := fun e => by
      rcases n8 with n8 | n8
      · exact hne (by rw [n8, e])
      · have := heap_lt hb; omega
    refine ⟨?_, cell_of_row w8 b 0 _ _ (0, 0) hb8, frozen_of_row w8 b 0 _ _ hb8⟩
    have fr2 : Fr (fun k => k = b) w8 (w8.setCell ⟨b, 0, none⟩ (rw_ y (k + 1) c)) := fr_set w8 b 0 _ rfl
    have := hn (w8.setCell ⟨b, 0, none⟩ (rw_ y (k + 1) c)) (rw_ y (k + 1) c) (List.replicate (k + 1) (fl 0)) (cell_set w8 b 0 _ _ _ hb8) (by rw [rep_snoc]; rw [List.length_append, List.length_replicate]; exact fr2.own q8 (fun j hj e => by cases hj; exact hyb e)) ((Fr.of_grown (S := fun k => v'.ownBlock = some k) g8 (fun k hk => hk)).mono (fun k _ hk => .inr hk) |>.trans fr2 (fun k _ hk => .inl hk)) (fun j hj => by cases hj; exact n8)
    have es : (Ls ++ [rl b (List.replicate k (fl 0))]).set Ls.length (rl b (List.replicate (k + 1) (fl 0))) = Ls ++ [rl b (List.replicate (k + 1) (fl 0))] := by rw [List.set_append_right _ _ (Nat.le_refl _)]; simp
    rw [es] at this
    exact this⟩
  have HB : Hid (∀ (b k : Nat) (w5 : World), EnvP w0 w5 (Ls ++ [rl b (List.replicate k (fl 0))]) → ∃ a c, w5.heap[b]? = some (.cells #[.slice a k c] 43 (0, 0)) ∧ w5.ownsRow 0 9 1 (.slice a k c) (List.replicate k (fl 0)).length (strv (List.replicate k (fl 0)))) := ⟨fun b k w5 h5 => by
    obtain ⟨v, hne, hb, hm, hn⟩ := h5.rl (b := b) (B := List.replicate k (fl 0)) Ls.length (by simp)
    obtain ⟨a, c, rfl⟩ := own_slice hm
    rw [List.length_replicate] at hb
    exact ⟨a, c, hb, by rw [List.length_replicate] at hm ⊢; exact hm⟩⟩
  have qZ : Hid (∀ w5, Calls Tryz.prog 18 #[] w5 fun e w' => e = .returned (.string (fl 0)) ∧ Below w5.heap.size w5 w') := ⟨fun w5 => zeros_any w5⟩
  generalize hF : fl 0 = F at *
  clear h hF
  go_enter Tryz.func6, Tryz.ntmps6
  go_wp2_with fail
  go_loopw [4] (fun i wr => ∃ k : Nat, k ≤ n ∧ i = .int .i64 (k : Int) ∧ Hid (EnvP w0 wr (Ls ++ [rl w.heap.size (List.replicate k F)]))) (fun i _ => n - (intOf i).toNat)
  case atStart => exact ⟨0, Nat.zero_le _, rfl, H⟩
  case round =>
    obtain ⟨k, hk, rfl, E⟩ := hrel
    clear H
    generalize w.heap.size = b at *
    obtain ⟨a, c, hb, hm⟩ := HB.out b k wr E.out
    have c0 : wr.cell? ⟨b, 0, none⟩ = some (.slice a k c) := cell_of_row wr b 0 _ _ (0, 0) hb
    have HBB : Hid (wr.heap[b]? = some (.cells #[.slice a k c] 43 (0, 0))) := ⟨hb⟩
    have HMM : Hid (wr.ownsRow 0 9 1 (.slice a k c) (List.replicate k F).length (strv (List.replicate k F))) := ⟨hm⟩
    clear hb hm
    by_cases hlt : k < n
    · have hi : (k : Int) < n := by omega
      obtain ⟨i0, hi0, hz0, hz1, hz2⟩ := info_parts infoSf
      have hk9 : (k + 1) * 16 ≤ 140737488355328 := by omega
      have hk8 : k + 1 ≤ maxLen := by unfold maxLen; omega
      go_wp2_with fail
      go_region_law (first
        | (go_simp; go_at_call 18; refine (qZ.out _).mono ?_; rintro e w5 ⟨rfl, b5⟩; have B5 : w5.heap[b]? = some (.cells #[.slice a k c] 43 (0, 0)) := (b5.block b (heap_lt HBB.out)).trans HBB.out; have c5 := cell_of_row w5 b 0 _ _ (0, 0) B5; have c6 : (w5.alloc (.cells #[.string F] 9)).cell? ⟨b, 0, none⟩ = some (.slice a k c) := Lib.cell?_alloc_marked (W := w5) _ c5)
        | (refine step_append_lies _ (by rfl) _ _ 41 (by rfl) 0 9 i0 _ 1 16 Tryz.underlying41 hi0 hz0 hz1 hz2 rfl (by omega) (.slice a k c) k (strv (List.replicate k F)) (by rfl) (World.ownsRow.alloc (own_later (w := wr.drew) (by have := HMM.out; rw [List.length_replicate] at this; exact this) b5) _) ⟨w5.heap.size, 0, none⟩ 1 1 [.string F] (by rfl) rfl (World.news_of_block (cs := #[.string F]) (t := 9) (fr := (0, 0)) (heap_alloc_new w5 _)) (by simp [Value.oneCell']) (by omega) hk8 hk9 (Nat.zero_le _) _ rfl ?_; intro y c2 w8 q8 g8 n8 l8; obtain ⟨E8, c8, f8⟩ := HA.out b k w5 w8 (.slice a k c) y c2 (E.out.drew.below b5) B5 (by rw [strv_append]; exact q8) ((World.grownBy_alloc _ _ _).trans g8) (n8.imp id (fun e => by rw [e]; simp))))
      all_goals (go_wp2_with fail)
      all_goals (refine ⟨⟨k + 1, by omega, by go_num, ⟨E8⟩⟩, ?_⟩; simp [intOf]; omega)
    · have hke : k = n := by omega
      subst hke
      have hi : ¬ ((k : Int) < k) := by omega
      clear HBB HMM c0
      go_wp2
      go_ret
      exact ⟨b, rfl, E.out⟩
set_option maxRecDepth 100000 in
theorem rcommit_over (h : EnvP w0 w Ls) (i : Nat) (hi : Ls[i]? = some (rt x g W true)) : Calls Tryz.prog 37 #[pt x] w fun e w' => e = .returned (.int .i64 8) ∧ ∃ k, w' = w.drewN k := by
  obtain ⟨v, hne, hx, hm, _⟩ := h.rt i hi
  have c2 : w.cell? ⟨x, 2, none⟩ = some (.bool true) := cell_of_row w x 2 _ _ (0, 0) hx
  clear h hi hx hm
  go_enter Tryz.func37, Tryz.ntmps37
  go_wp2
  go_ret
  exact ⟨rfl, 0, rfl⟩
set_option maxRecDepth 100000 in
theorem rcommit_env (h : EnvP w0 w Ls) (i j : Nat) (hi : Ls[i]? = some (rt x b W false)) (hj : Ls[j]? = some (rl b B)) (hij : i ≠ j) (hin : InB B.length W) (hl : W.length ≤ 8192) (hB : B.length ≤ 8192) : Calls Tryz.prog 37 #[pt x] w fun e w' => e = .returned (.int .i64 0) ∧ EnvP w0 w' ((Ls.set i (rt x b W true)).set j (rl b (lay B W))) := by
  obtain ⟨v, hne, hx, hm, hn⟩ := h.rt i hi
  have c2 : w.cell? ⟨x, 2, none⟩ = some (.bool false) := cell_of_row w x 2 _ _ (0, 0) hx
  have f2 : w.frozen? ⟨x, 2, none⟩ = false := frozen_of_row w x 2 _ _ hx
  have h1 : (w.setCell ⟨x, 2, none⟩ (.bool true)).heap[x]? = some (.cells #[pt b, v, .bool true] 67 (0, 0)) := cell_set w x 2 _ _ _ hx
  have fr1 : Fr (fun k => k = x) w (w.setCell ⟨x, 2, none⟩ (.bool true)) := fr_set w x 2 _ rfl
  have HE : Hid (EnvP w0 (w.setCell ⟨x, 2, none⟩ (.bool true)) ((Ls.set i (rt x b W true)).set j (rl b (lay B (W.take 0))))) := ⟨by
    have e1 := hn _ v W true h1 (fr1.own hm (fun k hk e => hne (by rw [hk, e]))) (fr1.mono (fun k _ e => .inl e)) (fun k hk => .inl hk)
    have e2 : (Ls.set i (rt x b W true)).set j (rl b (lay B (W.take 0))) = Ls.set i (rt x b W true) := by
      apply List.ext_getElem?
      intro k
      by_cases e : j = k
      · subst e
        rw [List.getElem?_set_self (by rw [List.length_set]; exact (List.getElem?_eq_some_iff.1 hj).1), List.getElem?_set_ne hij, hj]
        rfl
      · rw [List.getElem?_set_ne e]
    rw [e2]; exact e1⟩
  have hjl := (List.getElem?_eq_some_iff.1 hj).1
  have hil := (List.getElem?_eq_some_iff.1 hi).1
  have HI : Hid (∀ B', ((Ls.set i (rt x b W true)).set j (rl b B'))[i]? = some (rt x b W true)) := ⟨fun B' => by rw [List.getElem?_set_ne (fun e => hij e.symm), List.getElem?_set_self hil]⟩
  have HJ : Hid (∀ B', ((Ls.set i (rt x b W true)).set j (rl b B'))[j]? = some (rl b B')) := ⟨fun B' => List.getElem?_set_self (by rw [List.length_set]; exact hjl)⟩
  have HS : Hid (∀ B' B'', ((Ls.set i (rt x b W true)).set j (rl b B')).set j (rl b B'') = (Ls.set i (rt x b W true)).set j (rl b B'')) := ⟨fun B' B'' => List.set_set ..⟩
  have HIN : Hid (InB B.length W) := ⟨hin⟩
  generalize hLL : (fun B' => (Ls.set i (rt x b W true)).set j (rl b B')) = LL at *
  have HE' : Hid (EnvP w0 (w.setCell ⟨x, 2, none⟩ (.bool true)) (LL (lay B (W.take 0)))) := ⟨by rw [← hLL]; exact HE.out⟩
  have HI' : Hid (∀ B', (LL B')[i]? = some (rt x b W true)) := ⟨fun B' => by rw [← hLL]; exact HI.out B'⟩
  have HJ' : Hid (∀ B', (LL B')[j]? = some (rl b B')) := ⟨fun B' => by rw [← hLL]; exact HJ.out B'⟩
  have HS' : Hid (∀ B' B'', (LL B').set j (rl b B'') = LL B'') := ⟨fun B' B'' => by rw [← hLL]; exact HS.out B' B''⟩
  have eG : (Ls.set i (rt x b W true)).set j (rl b (lay B W)) = LL (lay B W) := by rw [← hLL]
  rw [eG]
  clear h hi hj hx hm hn h1 fr1 HE HI HJ HS hLL eG hin hil hjl
  go_enter Tryz.func37, Tryz.ntmps37
  go_wp2_with fail
  go_loopw [3] (fun i wr => ∃ k : Nat, k ≤ W.length ∧ i = .int .i64 (k : Int) ∧ Hid (EnvP w0 wr (LL (lay B (W.take k))))) (fun i _ => W.length - (intOf i).toNat)
  case atStart => exact ⟨0, Nat.zero_le _, rfl, HE'⟩
  case round =>
    obtain ⟨k, hk, rfl, E⟩ := hrel
    clear HE'
    obtain ⟨v2, hne2, hx2, hm2, _⟩ := E.out.rt i (HI'.out _)
    obtain ⟨v3, hne3, hx3, hm3, hn3⟩ := E.out.rl j (HJ'.out _)
    obtain ⟨a, c, rfl⟩ := own_slice hm2
    have c0 : wr.cell? ⟨x, 0, none⟩ = some (pt b) := cell_of_row wr x 0 _ _ (0, 0) hx2
    have c1 : wr.cell? ⟨x, 1, none⟩ = some (.slice a W.length c) := cell_of_row wr x 1 _ _ (0, 0) hx2
    have hll : (lay B (W.take k)).length = B.length := lay_length _ _
    by_cases hlt : k < W.length
    · obtain ⟨⟨N, Y⟩, hz⟩ : ∃ z, W[k]? = some z := ⟨_, List.getElem?_eq_getElem hlt⟩
      have hN : N < B.length := (HIN.out _ (List.mem_of_getElem? hz)).1
      rw [hll] at hm3
      obtain ⟨lg3, lc, rfl⟩ : ∃ lg3 lc, v3 = .slice (some ⟨lg3, 0, none⟩) B.length lc := by
        rcases hm3.2 with ⟨_, h0⟩ | ⟨g, cap, cur, e, _⟩
        · omega
        · exact ⟨g, cap, e⟩
      have d0 : wr.cell? ⟨b, 0, none⟩ = some (.slice (some ⟨lg3, 0, none⟩) B.length lc) := cell_of_row wr b 0 _ _ (0, 0) hx3
      obtain ⟨g, rfl, cN, cY⟩ : ∃ g, a = some ⟨g, 0, none⟩ ∧ wr.cell? ⟨g, k * 2, none⟩ = some (.int .i64 (N : Int)) ∧ wr.cell? ⟨g, k * 2 + 1, none⟩ = some (.string Y) := by
        rcases hm2.2 with ⟨_, h0⟩ | ⟨g, cap, cur, e, _⟩
        · omega
        · injection e with e1 _ _
          subst e1
          have hm' : wr.ownsRow 0 78 2 (.slice (some ⟨g, 0, none⟩) W.length c) (ints W).length (wci (ints W)) := by rw [wci_ints, ints_length]; exact hm2
          obtain ⟨q0, q1⟩ := own_cell2 (l := ints W) hm' k _ (ints_at W k _ hz)
          exact ⟨g, rfl, q0, q1⟩
      obtain ⟨o2, g2⟩ := hm3.stored N (.string Y)
      obtain ⟨cur9, h9⟩ : ∃ cur9, wr.heap[lg3]? = some (.cells cur9 9 (0, 0)) := by
        rcases hm3.2 with ⟨e, _⟩ | ⟨g, cap, cur, e, _, hh, _⟩
        · cases e
        · injection e with e1 _ _; injection e1 with e1; injection e1 with e1 _ _; subst e1; exact ⟨cur, hh⟩
      obtain ⟨curg, h78⟩ : ∃ curg, wr.heap[g]? = some (.cells curg 78 (0, 0)) := by
        rcases hm2.2 with ⟨e, _⟩ | ⟨g', cap, cur, e, _, hh, _⟩
        · cases e
        · injection e with e1 _ _; injection e1 with e1; injection e1 with e1 _ _; subst e1; exact ⟨cur, hh⟩
      have far : ∀ (z : Nat) (cs : Array Value) (ty : TypeId), wr.heap[z]? = some (.cells cs ty (0, 0)) → ty ≠ 9 → ∀ (m : Nat) (v : Value), wr.cell? ⟨z, m, none⟩ = some v → (wr.setCell ⟨lg3, N, none⟩ (.string Y)).drew.cell? ⟨z, m, none⟩ = some v := fun z cs ty hz hty m v hv => by
        have hzl : z ≠ lg3 := fun e => by
          rw [e, h9] at hz
          injection hz with hz
          injection hz with _ hz _
          exact hty hz.symm
        show (wr.setCell ⟨lg3, N, none⟩ (.string Y)).cell? ⟨z, m, none⟩ = some v
        rw [World.cell?_setCell_other _ _ _ _ (by intro q; injection q with q _ _; exact hzl q.symm)]
        exact hv
      have e0 := far x _ _ hx2 (by decide) 0 _ c0
      have e1 := far x _ _ hx2 (by decide) 1 _ c1
      have e2 := far b _ _ hx3 (by decide) 0 _ d0
      have e3 := far g _ _ h78 (by decide) _ _ cN
      have e4 := far g _ _ h78 (by decide) _ _ cY
      clear far h78 h9
      obtain ⟨t0, ct0⟩ : ∃ t0, wr.cell? ⟨lg3, N, none⟩ = some t0 := by
        rw [hm3.cellAt N (by omega)]
        exact ⟨_, List.getElem?_eq_getElem (by rw [strv_length, hll]; exact hN)⟩
      have ft0 := hm3.frozenAt N
      have et : lay B (W.take (k + 1)) = (lay B (W.take k)).set N Y := by
        rw [List.take_succ_eq_append_getElem hlt, Option.some.inj ((List.getElem?_eq_getElem hlt).symm.trans hz), lay_snoc]
      have E2 : Hid (EnvP w0 (wr.setCell ⟨lg3, N, none⟩ (.string Y)) (LL (lay B (W.take (k + 1))))) := ⟨by
        rw [et, ← HS'.out (lay B (W.take k))]
        refine hn3 _ (.slice (some ⟨lg3, 0, none⟩) B.length lc) _ ?_ ?_ (Fr.of_grown g2 (fun k hk => .inr hk)) (fun k hk => .inl hk)
        · rw [g2.block b (heap_lt hx3) (fun e => hne3 e.symm)]; exact hx3
        · rw [List.length_set, hll]
          have e : strv ((lay B (W.take k)).set N Y) = (strv (lay B (W.take k))).set N (.string Y) := by unfold strv; rw [List.map_set]
          rw [e]; exact o2⟩
      have hi : (k : Int) < W.length := by omega
      have hNi : (N : Int) < B.length := by omega
      clear hz hm2 hm3 hx2 hx3 hn3 o2 g2 et hll E
      go_wp2_with fail
      go_region_held3 (fun w' => w'.cell? ⟨x, 0, none⟩ = some (pt b) ∧ w'.cell? ⟨x, 1, none⟩ = some (.slice (some ⟨g, 0, none⟩) W.length c) ∧ w'.cell? ⟨b, 0, none⟩ = some (.slice (some ⟨lg3, 0, none⟩) B.length lc) ∧ w'.cell? ⟨g, k * 2, none⟩ = some (.int .i64 (N : Int)) ∧ w'.cell? ⟨g, k * 2 + 1, none⟩ = some (.string Y)) (first | exact ⟨c0, c1, d0, cN, cY⟩ | exact ⟨e0, e1, e2, e3, e4⟩ | (go_keep; done)) (fail)
      have E3 : Hid (EnvP w0 ((wr.setCell ⟨lg3, N, none⟩ (.string Y)).drew) (LL (lay B (W.take (k + 1))))) := ⟨E2.out.drew⟩
      go_wp2_with fail
      refine ⟨⟨k + 1, by omega, by go_num, E3⟩, ?_⟩
      simp [intOf]; omega
    · have hke : k = W.length := by omega
      subst hke
      have hi : ¬ ((W.length : Int) < W.length) := by omega
      rw [List.take_length] at E
      clear hm2 hm3 hx2 hx3 hn3 hll
      go_wp2
      go_ret
      exact ⟨rfl, E.out⟩
end Go.Proofs.YtlgpodcoiioefaaGreat
