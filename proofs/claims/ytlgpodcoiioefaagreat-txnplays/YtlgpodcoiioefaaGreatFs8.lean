/- The law's own: the document's example. -/
import Derived.Test.YtlgpodcoiioefaaGreatMad
namespace Go.Proofs.YtlgpodcoiioefaaGreat
set_option linter.unusedVariables false
set_option linter.unusedSimpArgs false
open Go.RowKit Go.Maps
noncomputable def fa : ByteArray := fu ⟨#[97]⟩
noncomputable def fb : ByteArray := fu ⟨#[98]⟩
theorem fa_size : fa.size = 512 := fu_size _ (by decide) (by decide)
theorem fb_size : fb.size = 512 := fu_size _ (by decide) (by decide)
theorem fulla (w : World) : Calls Tryz.prog 15 #[.string ⟨#[97]⟩] w fun e w' => e = .returned (.string fa) ∧ Below w.heap.size w w' := full_any _ w
theorem fullb (w : World) : Calls Tryz.prog 15 #[.string ⟨#[98]⟩] w fun e w' => e = .returned (.string fb) ∧ Below w.heap.size w w' := full_any _ w
/-- how things stand while the example runs -/
structure FX (w : World) (q p x y : Nat) (B : List ByteArray) (W : Wl) (o : Bool) (w' : World) : Prop where
  ex : ∃ st, EnvP w w' (lg q p 16 false :: dk p st :: [tx x q W o, tx y q [] false]) ∧ OKst NN st 64 16 B ∧ st.fall = 0
variable {w w' w2 : World} {q p x y : Nat} {B : List ByteArray} {W : Wl} {o : Bool}
theorem FX.below (h : FX w q p x y B W o w') (b : Below w'.heap.size w' w2) : FX w q p x y B W o w2 := by
  obtain ⟨st, e, ok, f⟩ := h.ex
  exact ⟨st, e.below b, ok, f⟩
theorem FX.bel (h : FX w q p x y B W o w') : Below w.heap.size w w' := by
  obtain ⟨st, e, ok, f⟩ := h.ex
  exact e.bel
theorem FX.write (h : FX w q p x y B W false w') (t : ByteArray) (ht : t.size = 512) (hR : Rising W) (hl : W.length ≤ 8192) : Calls Tryz.prog 14 #[pt x, .int .i64 3, .string t] w' fun e w2 => e = .returned (.int .i64 0) ∧ FX w q p x y B (insW 3 t W) false w2 := by
  obtain ⟨st, e, ok, f⟩ := h.ex
  refine (twrite_run e (by rw [ok.len]; omega) 0 rfl 3 t (m := 48) (by rw [ok.len]) (by omega) ht hR hl).mono ?_
  rintro e w2 ⟨rfl, h2⟩
  exact ⟨rfl, st, h2, ok, f⟩
theorem FX.readOwn (h : FX w q p x y B W false w') (t : ByteArray) (ht : t.size = 512) (hl : lookI W 3 = some t) : Calls Tryz.prog 16 #[pt x, .int .i64 3] w' fun e w2 => e = .returned (.tuple #[.string t, .int .i64 0]) ∧ FX w q p x y B W false w2 := by
  obtain ⟨st, e, ok, f⟩ := h.ex
  refine (tread_own e 2 rfl 3 (by omega) t ht hl).mono ?_
  rintro e w2 ⟨rfl, h2⟩
  exact ⟨rfl, st, h2, ok, f⟩
theorem FX.readLog (h : FX w q p x y B W o w') (t : ByteArray) (ht : B[3]? = some t) : Calls Tryz.prog 16 #[pt y, .int .i64 3] w' fun e w2 => e = .returned (.tuple #[.string t, .int .i64 0]) ∧ FX w q p x y B W o w2 := by
  obtain ⟨st, e, ok, f⟩ := h.ex
  refine (tread_log e 1 rfl 3 (by omega) rfl ok.off (by rw [ok.len]; omega) B (by rw [ok.seen]; exact ok.blk)).mono ?_
  rintro e w2 ⟨rfl, h2⟩
  have hB := ok.blen
  rw [if_pos (by omega)]
  have : B.getD (3 : Int).toNat ByteArray.empty = t := by rw [List.getD_eq_getElem?_getD]; show (B[3]?).getD _ = t; rw [ht]; rfl
  rw [this]
  exact ⟨rfl, st, h2, ok, f⟩
theorem FX.readOver (h : FX w q p x y B W true w') : Calls Tryz.prog 16 #[pt x, .int .i64 3] w' fun e w2 => e = .returned (.tuple #[.string ⟨#[]⟩, .int .i64 8]) ∧ FX w q p x y B W true w2 := by
  obtain ⟨st, e, ok, f⟩ := h.ex
  refine (tread_over e 2 rfl _).mono ?_
  rintro e w2 ⟨rfl, h2⟩
  exact ⟨rfl, st, h2, ok, f⟩
theorem FX.dirty (h : FX w q p x y B W o w') (hl : W.length ≤ 8192) {n : Int} (hn : n = (W.length : Int)) : Calls Tryz.prog 9 #[pt x] w' fun e w2 => e = .returned (.int .i64 n) ∧ FX w q p x y B W o w2 := by
  subst hn
  obtain ⟨st, e, ok, f⟩ := h.ex
  refine (dirty_env e 2 rfl hl).mono ?_
  rintro _ w2 ⟨rfl, k, rfl⟩
  exact ⟨rfl, st, e.drewN k, ok, f⟩
theorem FX.commit (h : FX w q p x y B W false w') (hR : Rising W) (hin : InB 48 W) (h1 : W.length = 1) : Calls Tryz.prog 17 #[pt x] w' fun e w2 => e = .returned (.int .i64 0) ∧ FX w q p x y (lay B W) [] true w2 := by
  obtain ⟨st, e, ok, f⟩ := h.ex
  refine (tcommit_run e 0 rfl ok f (by omega) (by omega) hR hin (by omega)).mono ?_
  rintro e w2 (⟨_, rfl, st', h2, ok2, f2⟩ | ⟨hf, _⟩)
  · exact ⟨rfl, st', h2, ok2, f2⟩
  · rw [h1] at hf; exact absurd hf (by decide)
set_option maxRecDepth 100000 in
theorem first_any (w : World) : Calls Tryz.prog 4 #[] w fun e w' => e = .returned (.bool true) ∧ Below w.heap.size w w' := by
  have qM := made_good (EnvP.nil w) 64 16 (by omega) (by omega) (by omega)
  have qB : Hid (∀ q p st w5, EnvP w w5 (lg q p 16 false :: dk p st :: []) → OKst NN st 64 16 (List.replicate 48 (fl 0)) → Calls Tryz.prog 7 #[pt q] w5 fun e w' => e = .returned (.int .i64 48) ∧ ∃ k, w' = w5.drewN k) := ⟨fun q p st w5 h5 ok => by
    have := blocks_env h5 (by rw [ok.len]; omega)
    rw [ok.len] at this
    exact this⟩
  have qT : Hid (∀ q Ls w5, EnvP w w5 Ls → Calls Tryz.prog 13 #[pt q] w5 fun e w' => ∃ x, e = .returned (pt x) ∧ EnvP w w' (Ls ++ [tx x q [] false])) := ⟨fun q Ls w5 h5 => tbegin_env h5 q⟩
  go_enter Tryz.func4, Tryz.ntmps4
  go_wp2_with fail
  refine qM.mono ?_
  rintro e w1 ⟨q, p, st, rfl, h1, ok, hf⟩
  have E1 := qB.out q p st w1 h1 ok
  have K1 : Hid (OKst NN st 64 16 (List.replicate 48 (fl 0)) ∧ st.fall = 0) := ⟨ok, hf⟩
  have H1 : Hid (EnvP w w1 (lg q p 16 false :: dk p st :: [])) := ⟨h1⟩
  clear h1 ok hf
  dsimp only
  go_wp2_with fail
  refine E1.mono ?_
  rintro e w2 ⟨rfl, k, rfl⟩
  have E2 := qT.out q _ _ (H1.out.drewN k)
  clear H1 E1
  dsimp only
  go_wp2_with fail
  refine E2.mono ?_
  rintro e w3 ⟨x, rfl, h3⟩
  have E3 := qT.out q _ _ h3
  clear h3 E2
  dsimp only
  go_wp2_with fail
  refine E3.mono ?_
  rintro e w4 ⟨y, rfl, h4⟩
  have X4 : Hid (FX w q p x y (List.replicate 48 (fl 0)) [] false w4) := ⟨⟨st, h4, K1.out.1, K1.out.2⟩⟩
  clear h4 E3 K1
  dsimp only
  go_wp2_with fail
  refine (fulla w4).mono ?_
  rintro e w5 ⟨rfl, b5⟩
  have X5 := (X4.out.below b5).write fa fa_size List.Pairwise.nil (by simp)
  clear b5
  dsimp only
  go_wp2_with fail
  refine X5.mono ?_
  rintro e w6 ⟨rfl, X6⟩
  have X7 := X6.readOwn fa fa_size rfl
  clear X5 X6
  dsimp only
  go_wp2_with fail
  refine X7.mono ?_
  rintro e w7 ⟨rfl, X7⟩
  have X8 := X7.readLog (fl 0) rfl
  dsimp only
  go_wp2_with fail
  refine X8.mono ?_
  rintro e w8 ⟨rfl, X8⟩
  have H8 : Hid (FX w q p x y (List.replicate 48 (fl 0)) (insW 3 fa []) false w8) := ⟨X8⟩
  clear X7 X8
  dsimp only
  go_wp2_with fail
  refine (fullb w8).mono ?_
  rintro e w9 ⟨rfl, b9⟩
  have X9 := (H8.out.below b9).write fb fb_size (Rising.ins List.Pairwise.nil) (by decide)
  clear b9
  dsimp only
  go_wp2_with fail
  refine X9.mono ?_
  rintro e w10 ⟨rfl, X10⟩
  have e10 : insW 3 fb (insW 3 fa []) = [(3, fb)] := rfl
  rw [e10] at X10
  have X11 := X10.dirty (by decide) (n := 1) rfl
  clear X9 X10 e10
  dsimp only
  go_wp2_with fail
  refine X11.mono ?_
  rintro e w11 ⟨rfl, X11⟩
  have X12 := X11.commit (by unfold Rising; simp) (fun p hp => by simp at hp; subst hp; exact ⟨by decide, fb_size⟩) rfl
  clear X11
  dsimp only
  go_wp2_with fail
  refine X12.mono ?_
  rintro e w12 ⟨rfl, X12⟩
  have X13 := X12.readLog fb (by show ((List.replicate 48 (fl 0)).set 3 fb)[3]? = some fb; rw [List.getElem?_set_self (by simp)])
  clear X12
  dsimp only
  go_wp2_with fail
  refine X13.mono ?_
  rintro e w13 ⟨rfl, X13⟩
  have X14 := X13.readOver
  clear X13
  dsimp only
  go_wp2_with fail
  refine X14.mono ?_
  rintro e w14 ⟨rfl, X14⟩
  have H14 : Hid (FX w q p x y (lay (List.replicate 48 (fl 0)) [(3, fb)]) [] true w14) := ⟨X14⟩
  clear X14 H8 X4
  dsimp only
  go_wp2_with fail
  refine (fulla w14).mono ?_
  rintro e w15 ⟨rfl, b15⟩
  have H15 : Hid (FX w q p x y (lay (List.replicate 48 (fl 0)) [(3, fb)]) [] true w15) := ⟨H14.out.below b15⟩
  clear b15 H14
  dsimp only
  go_wp2_with fail
  refine (zeros_any w15).mono ?_
  rintro e w16 ⟨rfl, b16⟩
  have H16 : Hid (FX w q p x y (lay (List.replicate 48 (fl 0)) [(3, fb)]) [] true w16) := ⟨H15.out.below b16⟩
  clear b16 H15
  dsimp only
  go_wp2_with fail
  refine (fullb w16).mono ?_
  rintro e w17 ⟨rfl, b17⟩
  have X18 := (H16.out.below b17).dirty (by decide) (n := 0) rfl
  clear b17 H16
  dsimp only
  go_wp2_with fail
  refine X18.mono ?_
  rintro e w18 ⟨rfl, X18⟩
  dsimp only
  go_wp2
  go_ret
  exact ⟨rfl, X18.bel⟩
end Go.Proofs.YtlgpodcoiioefaaGreat
