/- What the document gives. -/
import Derived.Test.YtmcdohpeibipkaaBlk
namespace Go.Proofs.Ytmcdohpeibipkaa
set_option linter.unusedVariables false
set_option linter.unusedSimpArgs false
open Go.RowKit
theorem bl_7 (Z X Y E : ByteArray) : (lay (List.replicate 8 Z) (natL [(0, X), (7, Y)])).getD 7 E = Y := rfl
theorem bl_1 (Z X Y E : ByteArray) : (lay (List.replicate 8 Z) (natL [(0, X), (7, Y)])).getD 1 E = Z := rfl
theorem bl_0 (Z X Y E : ByteArray) : (lay (List.replicate 8 Z) (natL [(0, X), (7, Y)])).getD 0 E = X := rfl
theorem right_1 (n : Nat) (X Y : ByteArray) (hx : X.size = 512) (hy : Y.size = 512) (hn : n = 8) : rightB n [(0, X), (7, Y)] = true := by subst hn; simp [rightB, okN, hx, hy]
theorem right_2 (X : ByteArray) : rightB 8 [(8, X)] = false := by simp [rightB, okN]
theorem right_3 (X : ByteArray) (hx : X.size = 512) : rightB 8 [(0, X)] = true := by simp [rightB, okN, hx]
theorem ba_self (X : ByteArray) : (X.toList == X.toList) = true := by rw [ba_dec]; simp
set_option maxRecDepth 100000 in
theorem first_any (w : World) : Calls Try.prog 7 #[] w fun e w' => e = .returned (.bool true) ∧ Below w.heap.size w w' := by
  have hX : Hid ((bk ⟨#[120]⟩).size = 512) := ⟨bk_size _⟩
  have hY : Hid ((bk ⟨#[121]⟩).size = 512) := ⟨bk_size _⟩
  have qX := block_any ⟨#[120]⟩ (by decide)
  have qY := block_any ⟨#[121]⟩ (by decide)
  have qZ := block_any ⟨#[]⟩ (by decide)
  rw [bk_nil] at qZ
  have QX : Hid (∀ w, Calls Try.prog 11 #[.string ⟨#[120]⟩] w fun e w' => e = .returned (.string (bk ⟨#[120]⟩)) ∧ Below w.heap.size w w') := ⟨qX⟩
  have QY : Hid (∀ w, Calls Try.prog 11 #[.string ⟨#[121]⟩] w fun e w' => e = .returned (.string (bk ⟨#[121]⟩)) ∧ Below w.heap.size w w') := ⟨qY⟩
  have QZ : Hid (∀ w, Calls Try.prog 11 #[.string ⟨#[]⟩] w fun e w' => e = .returned (.string (fl 0)) ∧ Below w.heap.size w w') := ⟨qZ⟩
  have sX := ba_self (bk ⟨#[120]⟩)
  have sY := ba_self (bk ⟨#[121]⟩)
  have sZ := ba_self (fl 0)
  generalize bk ⟨#[120]⟩ = X at *
  generalize bk ⟨#[121]⟩ = Y at *
  clear qX qY qZ
  go_enter Try.func7, Try.ntmps7
  go_wp2_with fail
  refine (new_env (EnvP.nil w) 16 (by decide) (by decide)).mono ?_
  rintro e w1 ⟨p, rfl, h1⟩
  have E1 : Hid (EnvP w w1 [dk p (fresh 16)]) := ⟨h1⟩
  clear h1
  dsimp only
  go_wp2_with fail
  refine (open_rec (s := 8) E1.out rfl rfl rfl (by decide) (n := 16) (by simp [fresh]) (by decide) (rec_fresh 16 8 (by decide))).mono ?_
  rintro e w2 (⟨l, st1, rfl, h2, ok1, f1⟩ | ⟨st1, rfl, h2, _, f1⟩)
  rotate_left
  · exact absurd rfl f1
  have F1 : Hid (st1.fall = 0) := ⟨f1 rfl⟩
  have E2 : Hid (EnvP w w2 [lg l p 8 false, dk p st1]) := ⟨h2⟩
  have OK1 : Hid (OKst NN st1 16 8 (List.replicate 8 (fl 0))) := ⟨ok1⟩
  clear h2 ok1 f1 E1
  dsimp only
  go_wp2_with fail
  refine (blocks_env E2.out (by rw [OK1.out.len]; decide)).mono ?_
  rintro e w3 ⟨rfl, k, rfl⟩
  have E3 : Hid (EnvP w (w2.drewN k) [lg l p 8 false, dk p st1]) := ⟨E2.out.drewN k⟩
  have hl8 : (st1.safe.length : Int) - ((8 : Nat) : Int) = 8 := by rw [OK1.out.len]; rfl
  rw [hl8]
  clear E2 hl8
  dsimp only
  go_wp2_with fail
  refine (QX.out _).mono ?_
  rintro e w4 ⟨rfl, b4⟩
  have E4 : Hid (EnvP w w4 [lg l p 8 false, dk p st1]) := ⟨E3.out.below b4⟩
  clear b4 E3
  dsimp only
  go_wp2_with fail
  refine (QY.out _).mono ?_
  rintro e w5 ⟨rfl, b5⟩
  have E5 : Hid (EnvP w w5 [lg l p 8 false, dk p st1]) := ⟨E4.out.below b5⟩
  have E6 : Hid (EnvP w (w5.alloc (.cells #[.int .i64 0, .string X, .int .i64 7, .string Y] 33)) [lg l p 8 false, dk p st1, ob w5.heap.size #[.int .i64 0, .string X, .int .i64 7, .string Y] 33]) := ⟨E5.out.alloc _ _⟩
  clear b5 E4 E5
  dsimp only
  go_wp2_with fail
  refine (commit_env E6.out OK1.out (by decide) (by decide) (by decide) (some ⟨w5.heap.size, 0, none⟩) 2 [(0, X), (7, Y)] rfl (Arg.lit [] _ _ _ rfl) (by simp)).mono ?_
  intro e w7 hh
  obtain ⟨st2, rfl, h7, ok2, f2⟩ : ∃ st2, e = .returned (.int .i64 0) ∧ EnvP w w7 [lg l p 8 false, dk p st2, ob w5.heap.size #[.int .i64 0, .string X, .int .i64 7, .string Y] 33] ∧ OKst NN st2 16 8 (lay (List.replicate 8 (fl 0)) (natL [(0, X), (7, Y)])) ∧ st2.fall = 0 := by
    have hr := right_1 8 X Y hX.out hY.out rfl
    rcases hh with ⟨h, _⟩ | ⟨_, h, _⟩ | ⟨_, h, _⟩ | ⟨_, _, _, _, st2, e1, e2, e3, e4⟩ | ⟨_, _, _, h, _⟩
    · rw [hr] at h; cases h
    · cases h
    · simp at h
    · exact ⟨st2, e1, e2, e3, e4 F1.out⟩
    · rw [F1.out] at h; cases h
  clear hh E6 OK1 F1
  have E7 : Hid (EnvP w w7 [lg l p 8 false, dk p st2]) := ⟨EnvP.init (Ls := [lg l p 8 false, dk p st2]) h7⟩
  have OK2 : Hid (OKst NN st2 16 8 (lay (List.replicate 8 (fl 0)) (natL [(0, X), (7, Y)]))) := ⟨ok2⟩
  have F2 : Hid (st2.fall = 0) := ⟨f2⟩
  have b7 := bl_7 (fl 0) X Y ByteArray.empty
  have b1 := bl_1 (fl 0) X Y ByteArray.empty
  have b0 := bl_0 (fl 0) X Y ByteArray.empty
  have hBl : (lay (List.replicate 8 (fl 0)) (natL [(0, X), (7, Y)])).length = 8 := by rw [lay_length, List.length_replicate]
  generalize lay (List.replicate 8 (fl 0)) (natL [(0, X), (7, Y)]) = B at *
  have B7 : Hid (B.getD 7 ByteArray.empty = Y) := ⟨b7⟩
  have B1 : Hid (B.getD 1 ByteArray.empty = fl 0) := ⟨b1⟩
  have B0 : Hid (B.getD 0 ByteArray.empty = X) := ⟨b0⟩
  have HBL : Hid (B.length = 8) := ⟨hBl⟩
  generalize fl 0 = Z at *
  clear h7 ok2 f2 b7 b1 b0 hBl
  dsimp only
  go_wp2_with fail
  refine (lread_on E7.out 7 OK2.out.off (by rw [OK2.out.len]; decide) B (by rw [OK2.out.seen]; exact OK2.out.blk)).mono ?_
  rintro e w8 ⟨rfl, h8⟩
  have e8 : (7 : Int).toNat = 7 := rfl
  rw [if_pos (by rw [HBL.out]; decide), e8, B7.out]
  have E8 : Hid (EnvP w w8 [lg l p 8 false, dk p st2]) := ⟨h8⟩
  clear h8 E7 e8
  dsimp only
  go_wp2_with fail
  refine (lread_on E8.out 1 OK2.out.off (by rw [OK2.out.len]; decide) B (by rw [OK2.out.seen]; exact OK2.out.blk)).mono ?_
  rintro e w9 ⟨rfl, h9⟩
  have e9 : (1 : Int).toNat = 1 := rfl
  rw [if_pos (by rw [HBL.out]; decide), e9, B1.out]
  have E9 : Hid (EnvP w w9 [lg l p 8 false, dk p st2]) := ⟨h9⟩
  clear h9 E8 e9
  dsimp only
  go_wp2_with fail
  refine (QX.out _).mono ?_
  rintro e w10 ⟨rfl, b10⟩
  have E10 : Hid (EnvP w (w10.alloc (.cells #[.int .i64 8, .string X] 33)) [lg l p 8 false, dk p st2, ob w10.heap.size #[.int .i64 8, .string X] 33]) := ⟨(E9.out.below b10).alloc _ _⟩
  clear b10 E9
  dsimp only
  go_wp2_with fail
  refine (commit_env E10.out OK2.out (by decide) (by decide) (by decide) (some ⟨w10.heap.size, 0, none⟩) 1 [(8, X)] rfl (Arg.lit [] _ _ _ rfl) (by simp)).mono ?_
  intro e w11 hh
  obtain ⟨rfl, h11⟩ : e = .returned (.int .i64 1) ∧ EnvP w w11 [lg l p 8 false, dk p st2, ob w10.heap.size #[.int .i64 8, .string X] 33] := by
    have hr := right_2 X
    rcases hh with ⟨_, h1, h2⟩ | ⟨h, _⟩ | ⟨h, _⟩ | ⟨h, _⟩ | ⟨h, _⟩
    · exact ⟨h1, h2⟩
    all_goals rw [hr] at h; cases h
  have E11 : Hid (EnvP w w11 [lg l p 8 false, dk p st2]) := ⟨EnvP.init (Ls := [lg l p 8 false, dk p st2]) h11⟩
  clear h11 hh E10
  dsimp only
  go_wp2_with fail
  refine (commit_env E11.out OK2.out (by decide) (by decide) (by decide) none 0 [] rfl (.inl rfl) (by decide)).mono ?_
  intro e w12 hh
  obtain ⟨rfl, h12⟩ : e = .returned (.int .i64 0) ∧ EnvP w w12 [lg l p 8 false, dk p st2] := by
    rcases hh with ⟨h, _⟩ | ⟨_, _, h1, h2⟩ | ⟨_, h, _⟩ | ⟨_, h, _⟩ | ⟨_, h, _⟩
    · simp [rightB] at h
    · exact ⟨h1, h2⟩
    · simp at h
    · exact absurd rfl h
    · exact absurd rfl h
  have E12 : Hid (EnvP w w12 [lg l p 8 false, dk p st2]) := ⟨h12⟩
  clear h12 hh E11
  dsimp only
  go_wp2_with fail
  refine (fall_env E12.out 1 rfl 1 (by decide)).mono ?_
  rintro e w13 ⟨rfl, h13⟩
  have E13 : Hid (EnvP w w13 [lg l p 8 false, dk p (st2.fallTo 1)]) := ⟨h13⟩
  have OK3 : Hid (OKst NN (st2.fallTo 1) 16 8 B) := ⟨OK2.out.fallTo 1 (by decide)⟩
  have F3 : Hid ((st2.fallTo 1).fall = 1) := ⟨rfl⟩
  clear h13 E12 OK2 F2
  generalize st2.fallTo 1 = st3 at *
  dsimp only
  go_wp2_with fail
  refine (QY.out _).mono ?_
  rintro e w14 ⟨rfl, b14⟩
  have E14 : Hid (EnvP w (w14.alloc (.cells #[.int .i64 0, .string Y] 33)) [lg l p 8 false, dk p st3, ob w14.heap.size #[.int .i64 0, .string Y] 33]) := ⟨(E13.out.below b14).alloc _ _⟩
  clear b14 E13
  dsimp only
  go_wp2_with fail
  refine (commit_env E14.out OK3.out (by decide) (by decide) (by decide) (some ⟨w14.heap.size, 0, none⟩) 1 [(0, Y)] rfl (Arg.lit [] _ _ _ rfl) (by simp)).mono ?_
  intro e w15 hh
  obtain ⟨st4, rfl, h15, off4⟩ : ∃ st4, e = .returned (.int .i64 9) ∧ EnvP w w15 [lg l p 8 true, dk p st4, ob w14.heap.size #[.int .i64 0, .string Y] 33] ∧ OFFst st4 16 (fun L => L[0]? = some (NN.hd 8 0) ∧ L.drop 8 = B) := by
    have hr := right_3 Y hY.out
    rcases hh with ⟨h, _⟩ | ⟨_, h, _⟩ | ⟨_, h, _⟩ | ⟨_, _, _, h, _⟩ | ⟨_, _, _, _, _, st4, e1, e2, _, e4⟩
    · rw [hr] at h; cases h
    · cases h
    · simp at h
    · rw [F3.out] at h; simp at h
    · exact ⟨st4, e1, e2, e4 F3.out⟩
  have E15 : Hid (EnvP w w15 [dk p st4]) := ⟨(EnvP.init (Ls := [lg l p 8 true, dk p st4]) h15).tail⟩
  have OFF4 : Hid (OFFst st4 16 (fun L => L[0]? = some (NN.hd 8 0) ∧ L.drop 8 = B)) := ⟨off4⟩
  clear h15 hh E14 off4 OK3 F3
  dsimp only
  go_wp2_with fail
  refine (crash_env E15.out 0 rfl none 0 [] (by have := OFF4.out.few; omega) (by decide) (IIn.nil _ _)).mono ?_
  rintro e w16 ⟨rfl, h16⟩
  have E16 : Hid (EnvP w w16 [dk p (st4.crash [])]) := ⟨h16⟩
  clear h16 E15
  dsimp only
  go_wp2_with fail
  refine (on_env E16.out 0 rfl (by have := OFF4.out.few; unfold St.crash; split <;> simp [St.settle]; omega)).mono ?_
  rintro e w17 ⟨rfl, h17⟩
  have E17 : Hid (EnvP w w17 [dk p (st4.crash []).on]) := ⟨h17⟩
  have bb := OFF4.out.back []
  have OK5 : Hid (OKst NN (st4.crash []).on 16 8 B) := ⟨⟨bb.wf, bb.pend, bb.off, bb.opn, bb.len, bb.may.1, bb.may.2⟩⟩
  have F5 : Hid ((st4.crash []).on.fall = 0) := ⟨bb.fall⟩
  clear h17 E16 OFF4 bb
  generalize (st4.crash []).on = st5 at *
  dsimp only
  go_wp2_with fail
  refine (open_size E17.out OK5.out (by decide) 9 (by decide)).mono ?_
  rintro e w18 ⟨rfl, h18⟩
  have E18 : Hid (EnvP w w18 [dk p st5]) := ⟨h18⟩
  clear h18 E17
  dsimp only
  go_wp2_with fail
  refine (open_rec (s := 8) E18.out OK5.out.off OK5.out.opn OK5.out.pend (by decide) OK5.out.len (by decide) OK5.out.recl).mono ?_
  rintro e w19 (⟨m, st6, rfl, h19, ok6, _⟩ | ⟨st6, rfl, h19, _, f6⟩)
  rotate_left
  · exact absurd F5.out f6
  have E19 : Hid (EnvP w w19 [lg m p 8 false, dk p st6]) := ⟨h19⟩
  have OK6 : Hid (OKst NN st6 16 8 B) := ⟨ok6⟩
  clear h19 ok6 E18 OK5 F5
  dsimp only
  go_wp2_with fail
  refine (QY.out _).mono ?_
  rintro e w20 ⟨rfl, b20⟩
  have E20 : Hid (EnvP w w20 [lg m p 8 false, dk p st6]) := ⟨E19.out.below b20⟩
  clear b20 E19
  dsimp only
  go_wp2_with fail
  refine (QZ.out _).mono ?_
  rintro e w21 ⟨rfl, b21⟩
  have E21 : Hid (EnvP w w21 [lg m p 8 false, dk p st6]) := ⟨E20.out.below b21⟩
  clear b21 E20
  dsimp only
  go_wp2_with fail
  refine (lread_on E21.out 0 OK6.out.off (by rw [OK6.out.len]; decide) B (by rw [OK6.out.seen]; exact OK6.out.blk)).mono ?_
  rintro e w22 ⟨rfl, h22⟩
  have e22 : (0 : Int).toNat = 0 := rfl
  rw [if_pos (by rw [HBL.out]; decide), e22, B0.out]
  have E22 : Hid (EnvP w w22 [lg m p 8 false, dk p st6]) := ⟨h22⟩
  clear h22 E21 e22
  dsimp only
  go_wp2_with fail
  refine (QX.out _).mono ?_
  rintro e w23 ⟨rfl, b23⟩
  have E23 : Hid (EnvP w w23 [lg m p 8 false, dk p st6]) := ⟨E22.out.below b23⟩
  clear b23 E22
  dsimp only
  go_wp2
  go_ret
  exact ⟨rfl, E23.out.bel⟩
end Go.Proofs.Ytmcdohpeibipkaa
