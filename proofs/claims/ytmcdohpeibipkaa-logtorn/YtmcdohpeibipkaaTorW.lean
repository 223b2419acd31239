/- LogTorn's walk. -/
import Derived.Test.YtmcdohpeibipkaaXs
namespace Go.Proofs.Ytmcdohpeibipkaa
set_option linter.unusedVariables false
set_option linter.unusedSimpArgs false
open Go.RowKit
theorem bl_put (n k : Nat) (Z T E : ByteArray) (h : k < n) : (lay (List.replicate n Z) (natL [((k : Int), T)])).getD k E = T := by
  show ((List.replicate n Z).set k T).getD k E = T
  rw [List.getD_eq_getElem?_getD, List.getElem?_set_self (by simpa using h)]; rfl
theorem right_put (n : Nat) (T : ByteArray) (hT : T.size = 512) (h : 3 < n) : rightB n [(3, T)] = true := by simp [rightB, okN, hT]; omega
/-- a disk whose first sector was written over, and not flushed -/
def xdisk : St := ⟨List.replicate 32 (fl 0), [(0, fl 120)], false, false, 0⟩
theorem x_write : (fresh 32).write 0 (fl 120) = (xdisk, 0) := by
  have h1 : ((fresh 32).has 0 && (fl 120).size == 512) = true := by rw [fl_size]; simp [St.has, fresh]
  unfold St.write
  rw [h1]
  rfl
theorem x_off : xdisk.off = false := rfl
theorem x_len : xdisk.safe.length = 32 := by simp [xdisk]
theorem x_seen : xdisk.seen[0]? = some (fl 120) := by
  show ((List.replicate 32 (fl 0)).set 0 (fl 120))[0]? = _
  rw [List.getElem?_set_self (by simp)]
theorem x_ne0 : fl 120 ≠ fl 0 := fun e => by
  have h1 := fl_byte 120 0 (by decide)
  rw [e, fl_byte 0 0 (by decide)] at h1
  cases h1
attribute [local go_sem ↓] ix9
set_option maxHeartbeats 4000000 in
set_option maxRecDepth 100000 in
theorem logTorn_walk (text : ByteArray) (size other : Int) (w : World) (ht : text.size ≤ 140737488351232) (hs1 : -9223372036854775808 ≤ size) (hs2 : size ≤ 9223372036854775807) (ho1 : -9223372036854775808 ≤ other) (ho2 : other ≤ 9223372036854775807) :
    Calls Try.prog 3 #[.string text, .int .i64 size, .int .i64 other] w fun e w' => e = .returned (.bool true) ∧ Below w.heap.size w w' := by
  obtain ⟨m, hm, hmask⟩ := mask15 size
  have hT : Hid ((bk text).size = 512) := ⟨bk_size _⟩
  have QT : Hid (∀ w, Calls Try.prog 11 #[.string text] w fun e w' => e = .returned (.string (bk text)) ∧ Below w.heap.size w w') := ⟨block_any text (by omega)⟩
  have sT := ba_self (bk text)
  generalize bk text = T at *
  obtain ⟨s, hs⟩ : ∃ s : Nat, s = 4 + m := ⟨_, rfl⟩
  have hsI : 4 + (m : Int) = (s : Int) := by omega
  have h4 : Hid (4 ≤ s ∧ s ≤ 19) := ⟨by omega⟩
  have hw4 : wrap64 (s : Int) = (s : Int) := by unfold wrap64; omega
  clear hs hm
  go_enter Try.func3, Try.ntmps3
  go_wp2_with fail
  refine (first_any w).mono ?_
  rintro e w1 ⟨rfl, b1⟩
  have E1 : Hid (EnvP w w1 []) := ⟨(EnvP.nil w).below b1⟩
  clear b1
  dsimp only
  go_wp2_with fail
  refine (new_env E1.out 32 (by decide) (by decide)).mono ?_
  rintro e w2 ⟨p, rfl, h2⟩
  have E2 : Hid (EnvP w w2 [dk p (fresh 32)]) := ⟨h2⟩
  clear h2 E1
  dsimp only
  go_wp2_with fail
  refine (open_rec (s := s) E2.out rfl rfl rfl h4.out.1 (n := 32) (by simp [fresh]) (by have := h4.out; omega) (rec_fresh 32 s (by decide))).mono ?_
  rintro e w3 (⟨l, st1, rfl, h3, ok1, f1⟩ | ⟨st1, rfl, h3, _, f1⟩)
  rotate_left
  · exact absurd rfl f1
  have F1 : Hid (st1.fall = 0) := ⟨f1 rfl⟩
  have E3 : Hid (EnvP w w3 [lg l p s false, dk p st1]) := ⟨h3⟩
  have OK1 : Hid (OKst NN st1 32 s (List.replicate (32 - s) (fl 0))) := ⟨ok1⟩
  clear h3 ok1 f1 E2
  dsimp only
  go_wp2_with fail
  refine (QT.out _).mono ?_
  rintro e w4 ⟨rfl, b4⟩
  have E4 : Hid (EnvP w (w4.alloc (.cells #[.int .i64 3, .string T] 33)) [lg l p s false, dk p st1, ob w4.heap.size #[.int .i64 3, .string T] 33]) := ⟨(E3.out.below b4).alloc _ _⟩
  clear b4 E3
  dsimp only
  go_wp2_with fail
  refine (commit_env E4.out OK1.out h4.out.1 (by have := h4.out; omega) (by have := h4.out; omega) (some ⟨w4.heap.size, 0, none⟩) 1 [(3, T)] rfl (Arg.lit [] _ _ _ rfl) (by simp)).mono ?_
  intro e w5 hh
  obtain ⟨st2, rfl, h5, ok2, f2⟩ : ∃ st2, e = .returned (.int .i64 0) ∧ EnvP w w5 [lg l p s false, dk p st2, ob w4.heap.size #[.int .i64 3, .string T] 33] ∧ OKst NN st2 32 s (lay (List.replicate (32 - s) (fl 0)) (natL [(3, T)])) ∧ st2.fall = 0 := by
    have hr := right_put (32 - s) T hT.out (by have := h4.out; omega)
    rcases hh with ⟨h, _⟩ | ⟨_, h, _⟩ | ⟨_, h, _⟩ | ⟨_, _, _, _, st2, e1, e2, e3, e4⟩ | ⟨_, _, _, h, _⟩
    · rw [hr] at h; cases h
    · cases h
    · have := h4.out; simp at h; omega
    · exact ⟨st2, e1, e2, e3, e4 F1.out⟩
    · rw [F1.out] at h; cases h
  clear hh E4 OK1 F1
  have E5 : Hid (EnvP w w5 [lg l p s false, dk p st2]) := ⟨EnvP.init (Ls := [lg l p s false, dk p st2]) h5⟩
  have OK2 : Hid (OKst NN st2 32 s (lay (List.replicate (32 - s) (fl 0)) (natL [(3, T)]))) := ⟨ok2⟩
  have b3 := bl_put (32 - s) 3 (fl 0) T ByteArray.empty (by have := h4.out; omega)
  have hBl : (lay (List.replicate (32 - s) (fl 0)) (natL [(3, T)])).length = 32 - s := by rw [lay_length, List.length_replicate]
  have b3' : (lay (List.replicate (32 - s) (fl 0)) (natL [(3, T)])).getD 3 ByteArray.empty = T := b3
  generalize lay (List.replicate (32 - s) (fl 0)) (natL [(3, T)]) = B at *
  have B3 : Hid (B.getD 3 ByteArray.empty = T) := ⟨b3'⟩
  have HBL : Hid (B.length = 32 - s) := ⟨hBl⟩
  clear h5 ok2 b3 b3' hBl
  dsimp only
  go_wp2_with fail
  refine (copy_env E5.out 1 rfl (by rw [OK2.out.pend]; simp)).mono ?_
  rintro e w6 ⟨c, rfl, h6⟩
  have E6 : Hid (EnvP w w6 [dk c st2, lg l p s false, dk p st2]) := ⟨EnvP.front (Ls := [lg l p s false, dk p st2]) h6⟩
  have hoff : st2.off = false := OK2.out.off
  have HO : Hid (st2.off = false) := ⟨hoff⟩
  have F2 : Hid (st2.fall = 0) := ⟨f2⟩
  clear h6 E5 hoff f2
  dsimp only
  by_cases ho3 : other < 4
  · go_wp2_with fail
    refine (open_bad E6.out HO.out other (by rw [OK2.out.len]; omega)).mono ?_
    rintro e w7 ⟨rfl, h7⟩
    have E7 : Hid (EnvP w w7 [dk c st2, lg l p s false, dk p st2]) := ⟨h7⟩
    clear h7 E6
    dsimp only
    go_wp2_with fail
    refine (crash_env E7.out 0 rfl none 0 [] (by rw [OK2.out.pend]; simp) (by decide) (IIn.nil _ _)).mono ?_
    rintro e w8 ⟨rfl, h8⟩
    have E8 : Hid (EnvP w w8 [dk c (st2.crash []), lg l p s false, dk p st2]) := ⟨h8⟩
    have hco : (st2.crash []).off = true := by unfold St.crash; rw [HO.out]; rfl
    have HCO : Hid ((st2.crash []).off = true) := ⟨hco⟩
    clear h8 E7 hco
    dsimp only
    go_wp2_with fail
    refine (open_off E8.out HCO.out (s : Int)).mono ?_
    rintro e w9 ⟨rfl, h9⟩
    have E9 : Hid (EnvP w w9 [dk c (st2.crash []), lg l p s false, dk p st2]) := ⟨h9⟩
    clear h9 E8
    dsimp only
    go_wp2_with fail
    refine (on_env E9.out 0 rfl (by unfold St.crash; split <;> simp [St.settle, OK2.out.pend])).mono ?_
    rintro e w10 ⟨rfl, h10⟩
    have E10 : Hid (EnvP w w10 [dk c (st2.crash []).on, lg l p s false, dk p st2]) := ⟨h10⟩
    have bb := OK2.out.back []
    have OK3 : Hid (OKst NN (st2.crash []).on 32 s B) := ⟨bb.1⟩
    have F3 : Hid ((st2.crash []).on.fall = 0) := ⟨bb.2⟩
    clear h10 E9 bb HCO
    generalize (st2.crash []).on = st3 at *
    dsimp only
    go_wp2_with fail
    refine (open_rec (s := s) E10.out OK3.out.off OK3.out.opn OK3.out.pend h4.out.1 OK3.out.len (by have := h4.out; omega) OK3.out.recl).mono ?_
    rintro e w11 (⟨q, st4, rfl, h11, ok4, _⟩ | ⟨st4, rfl, h11, _, f4⟩)
    rotate_left
    · exact absurd F3.out f4
    have E11 : Hid (EnvP w w11 [lg q c s false, dk c st4, lg l p s false, dk p st2]) := ⟨h11⟩
    have OK4 : Hid (OKst NN st4 32 s B) := ⟨ok4⟩
    clear h11 ok4 E10 OK3 F3
    dsimp only
    go_wp2_with fail
    refine (lread_on E11.out 3 OK4.out.off (by rw [OK4.out.len]; have := h4.out; omega) B (by rw [OK4.out.seen]; exact OK4.out.blk)).mono ?_
    rintro e w12 ⟨rfl, h12⟩
    have e12 : (3 : Int).toNat = 3 := rfl
    rw [if_pos (by rw [HBL.out]; have := h4.out; omega), e12, B3.out]
    have E12 : Hid (EnvP w w12 [lg q c s false, dk c st4, lg l p s false, dk p st2]) := ⟨h12⟩
    clear h12 E11 e12
    dsimp only
    go_wp2_with fail
    refine (new_env E12.out 32 (by decide) (by decide)).mono ?_
    rintro e w13 ⟨n, rfl, h13⟩
    have E13 : Hid (EnvP w w13 [dk n (fresh 32), lg q c s false, dk c st4, lg l p s false, dk p st2]) := ⟨EnvP.front (Ls := [lg q c s false, dk c st4, lg l p s false, dk p st2]) h13⟩
    clear h13 E12
    dsimp only
    go_wp2_with fail
    refine (QT.out _).mono ?_
    rintro e w14 ⟨rfl, b14⟩
    have E14 : Hid (EnvP w w14 [dk n (fresh 32), lg q c s false, dk c st4, lg l p s false, dk p st2]) := ⟨E13.out.below b14⟩
    clear b14 E13
    dsimp only
    go_wp2_with fail
    refine (xs_any _).mono ?_
    rintro e w15 ⟨rfl, b15⟩
    have E15 : Hid (EnvP w w15 [dk n (fresh 32), lg q c s false, dk c st4, lg l p s false, dk p st2]) := ⟨E14.out.below b15⟩
    clear b15 E14
    have ew : (fresh 32).write 0 (fl 120) = (xdisk, 0) := x_write
    dsimp only
    go_wp2_with fail
    refine (write_env E15.out 0 rfl 0 (fl 120) (by simp [fresh]) ew).mono ?_
    rintro e w16 ⟨rfl, h16⟩
    have E16 : Hid (EnvP w w16 [dk n xdisk, lg q c s false, dk c st4, lg l p s false, dk p st2]) := ⟨h16⟩
    clear h16 E15 ew
    dsimp only
    go_wp2_with fail
    refine (open_torn (s := s) E16.out x_off h4.out.1 (by rw [x_len]; have := h4.out; omega) (fl 120) x_seen x_ne0 (hd_ne_fl _ _ 120 (by decide))).mono ?_
    rintro e w17 ⟨rfl, h17⟩
    have E17 : Hid (EnvP w w17 [dk n xdisk, lg q c s false, dk c st4, lg l p s false, dk p st2]) := ⟨h17⟩
    clear h17 E16
    dsimp only
    go_wp2_with fail
    refine (read_env E17.out 0 rfl 0 (read0 x_off (E17.out.wf 0 rfl) x_seen)).mono ?_
    rintro e w18 ⟨rfl, h18⟩
    have E18 : Hid (EnvP w w18 [dk n xdisk, lg q c s false, dk c st4, lg l p s false, dk p st2]) := ⟨h18⟩
    have hix : (ixS (.string (fl 120)) (.int .i64 0)).run Try.prog w18 = .ok (.int .u8 120) w18 := by
      have := run_ix (fl 120) 0 (by rw [fl_size]; decide) w18
      rw [fl_byte 120 0 (by decide)] at this
      exact this
    clear h18 E17
    generalize fl 120 = XX at *
    dsimp only
    go_wp2
    go_ret
    exact ⟨rfl, E18.out.bel⟩
  · by_cases ho4 : 31 < other
    · go_wp2_with fail
      refine (open_bad E6.out HO.out other (by rw [OK2.out.len]; omega)).mono ?_
      rintro e w7 ⟨rfl, h7⟩
      have E7 : Hid (EnvP w w7 [dk c st2, lg l p s false, dk p st2]) := ⟨h7⟩
      clear h7 E6
      dsimp only
      go_wp2_with fail
      refine (crash_env E7.out 0 rfl none 0 [] (by rw [OK2.out.pend]; simp) (by decide) (IIn.nil _ _)).mono ?_
      rintro e w8 ⟨rfl, h8⟩
      have E8 : Hid (EnvP w w8 [dk c (st2.crash []), lg l p s false, dk p st2]) := ⟨h8⟩
      have hco : (st2.crash []).off = true := by unfold St.crash; rw [HO.out]; rfl
      have HCO : Hid ((st2.crash []).off = true) := ⟨hco⟩
      clear h8 E7 hco
      dsimp only
      go_wp2_with fail
      refine (open_off E8.out HCO.out (s : Int)).mono ?_
      rintro e w9 ⟨rfl, h9⟩
      have E9 : Hid (EnvP w w9 [dk c (st2.crash []), lg l p s false, dk p st2]) := ⟨h9⟩
      clear h9 E8
      dsimp only
      go_wp2_with fail
      refine (on_env E9.out 0 rfl (by unfold St.crash; split <;> simp [St.settle, OK2.out.pend])).mono ?_
      rintro e w10 ⟨rfl, h10⟩
      have E10 : Hid (EnvP w w10 [dk c (st2.crash []).on, lg l p s false, dk p st2]) := ⟨h10⟩
      have bb := OK2.out.back []
      have OK3 : Hid (OKst NN (st2.crash []).on 32 s B) := ⟨bb.1⟩
      have F3 : Hid ((st2.crash []).on.fall = 0) := ⟨bb.2⟩
      clear h10 E9 bb HCO
      generalize (st2.crash []).on = st3 at *
      dsimp only
      go_wp2_with fail
      refine (open_rec (s := s) E10.out OK3.out.off OK3.out.opn OK3.out.pend h4.out.1 OK3.out.len (by have := h4.out; omega) OK3.out.recl).mono ?_
      rintro e w11 (⟨q, st4, rfl, h11, ok4, _⟩ | ⟨st4, rfl, h11, _, f4⟩)
      rotate_left
      · exact absurd F3.out f4
      have E11 : Hid (EnvP w w11 [lg q c s false, dk c st4, lg l p s false, dk p st2]) := ⟨h11⟩
      have OK4 : Hid (OKst NN st4 32 s B) := ⟨ok4⟩
      clear h11 ok4 E10 OK3 F3
      dsimp only
      go_wp2_with fail
      refine (lread_on E11.out 3 OK4.out.off (by rw [OK4.out.len]; have := h4.out; omega) B (by rw [OK4.out.seen]; exact OK4.out.blk)).mono ?_
      rintro e w12 ⟨rfl, h12⟩
      have e12 : (3 : Int).toNat = 3 := rfl
      rw [if_pos (by rw [HBL.out]; have := h4.out; omega), e12, B3.out]
      have E12 : Hid (EnvP w w12 [lg q c s false, dk c st4, lg l p s false, dk p st2]) := ⟨h12⟩
      clear h12 E11 e12
      dsimp only
      go_wp2_with fail
      refine (new_env E12.out 32 (by decide) (by decide)).mono ?_
      rintro e w13 ⟨n, rfl, h13⟩
      have E13 : Hid (EnvP w w13 [dk n (fresh 32), lg q c s false, dk c st4, lg l p s false, dk p st2]) := ⟨EnvP.front (Ls := [lg q c s false, dk c st4, lg l p s false, dk p st2]) h13⟩
      clear h13 E12
      dsimp only
      go_wp2_with fail
      refine (QT.out _).mono ?_
      rintro e w14 ⟨rfl, b14⟩
      have E14 : Hid (EnvP w w14 [dk n (fresh 32), lg q c s false, dk c st4, lg l p s false, dk p st2]) := ⟨E13.out.below b14⟩
      clear b14 E13
      dsimp only
      go_wp2_with fail
      refine (xs_any _).mono ?_
      rintro e w15 ⟨rfl, b15⟩
      have E15 : Hid (EnvP w w15 [dk n (fresh 32), lg q c s false, dk c st4, lg l p s false, dk p st2]) := ⟨E14.out.below b15⟩
      clear b15 E14
      have ew : (fresh 32).write 0 (fl 120) = (xdisk, 0) := x_write
      dsimp only
      go_wp2_with fail
      refine (write_env E15.out 0 rfl 0 (fl 120) (by simp [fresh]) ew).mono ?_
      rintro e w16 ⟨rfl, h16⟩
      have E16 : Hid (EnvP w w16 [dk n xdisk, lg q c s false, dk c st4, lg l p s false, dk p st2]) := ⟨h16⟩
      clear h16 E15 ew
      dsimp only
      go_wp2_with fail
      refine (open_torn (s := s) E16.out x_off h4.out.1 (by rw [x_len]; have := h4.out; omega) (fl 120) x_seen x_ne0 (hd_ne_fl _ _ 120 (by decide))).mono ?_
      rintro e w17 ⟨rfl, h17⟩
      have E17 : Hid (EnvP w w17 [dk n xdisk, lg q c s false, dk c st4, lg l p s false, dk p st2]) := ⟨h17⟩
      clear h17 E16
      dsimp only
      go_wp2_with fail
      refine (read_env E17.out 0 rfl 0 (read0 x_off (E17.out.wf 0 rfl) x_seen)).mono ?_
      rintro e w18 ⟨rfl, h18⟩
      have E18 : Hid (EnvP w w18 [dk n xdisk, lg q c s false, dk c st4, lg l p s false, dk p st2]) := ⟨h18⟩
      have hix : (ixS (.string (fl 120)) (.int .i64 0)).run Try.prog w18 = .ok (.int .u8 120) w18 := by
        have := run_ix (fl 120) 0 (by rw [fl_size]; decide) w18
        rw [fl_byte 120 0 (by decide)] at this
        exact this
      clear h18 E17
      generalize fl 120 = XX at *
      dsimp only
      go_wp2
      go_ret
      exact ⟨rfl, E18.out.bel⟩
    · have E7 : Hid (EnvP w w6 [dk c st2, lg l p s false, dk p st2]) := E6
      clear E6
      go_wp2_with fail
      refine (crash_env E7.out 0 rfl none 0 [] (by rw [OK2.out.pend]; simp) (by decide) (IIn.nil _ _)).mono ?_
      rintro e w8 ⟨rfl, h8⟩
      have E8 : Hid (EnvP w w8 [dk c (st2.crash []), lg l p s false, dk p st2]) := ⟨h8⟩
      have hco : (st2.crash []).off = true := by unfold St.crash; rw [HO.out]; rfl
      have HCO : Hid ((st2.crash []).off = true) := ⟨hco⟩
      clear h8 E7 hco
      dsimp only
      go_wp2_with fail
      refine (open_off E8.out HCO.out (s : Int)).mono ?_
      rintro e w9 ⟨rfl, h9⟩
      have E9 : Hid (EnvP w w9 [dk c (st2.crash []), lg l p s false, dk p st2]) := ⟨h9⟩
      clear h9 E8
      dsimp only
      go_wp2_with fail
      refine (on_env E9.out 0 rfl (by unfold St.crash; split <;> simp [St.settle, OK2.out.pend])).mono ?_
      rintro e w10 ⟨rfl, h10⟩
      have E10 : Hid (EnvP w w10 [dk c (st2.crash []).on, lg l p s false, dk p st2]) := ⟨h10⟩
      have bb := OK2.out.back []
      have OK3 : Hid (OKst NN (st2.crash []).on 32 s B) := ⟨bb.1⟩
      have F3 : Hid ((st2.crash []).on.fall = 0) := ⟨bb.2⟩
      clear h10 E9 bb HCO
      generalize (st2.crash []).on = st3 at *
      dsimp only
      go_wp2_with fail
      refine (open_rec (s := s) E10.out OK3.out.off OK3.out.opn OK3.out.pend h4.out.1 OK3.out.len (by have := h4.out; omega) OK3.out.recl).mono ?_
      rintro e w11 (⟨q, st4, rfl, h11, ok4, _⟩ | ⟨st4, rfl, h11, _, f4⟩)
      rotate_left
      · exact absurd F3.out f4
      have E11 : Hid (EnvP w w11 [lg q c s false, dk c st4, lg l p s false, dk p st2]) := ⟨h11⟩
      have OK4 : Hid (OKst NN st4 32 s B) := ⟨ok4⟩
      clear h11 ok4 E10 OK3 F3
      dsimp only
      go_wp2_with fail
      refine (lread_on E11.out 3 OK4.out.off (by rw [OK4.out.len]; have := h4.out; omega) B (by rw [OK4.out.seen]; exact OK4.out.blk)).mono ?_
      rintro e w12 ⟨rfl, h12⟩
      have e12 : (3 : Int).toNat = 3 := rfl
      rw [if_pos (by rw [HBL.out]; have := h4.out; omega), e12, B3.out]
      have E12 : Hid (EnvP w w12 [lg q c s false, dk c st4, lg l p s false, dk p st2]) := ⟨h12⟩
      clear h12 E11 e12
      dsimp only
      go_wp2_with fail
      refine (new_env E12.out 32 (by decide) (by decide)).mono ?_
      rintro e w13 ⟨n, rfl, h13⟩
      have E13 : Hid (EnvP w w13 [dk n (fresh 32), lg q c s false, dk c st4, lg l p s false, dk p st2]) := ⟨EnvP.front (Ls := [lg q c s false, dk c st4, lg l p s false, dk p st2]) h13⟩
      clear h13 E12
      dsimp only
      go_wp2_with fail
      refine (QT.out _).mono ?_
      rintro e w14 ⟨rfl, b14⟩
      have E14 : Hid (EnvP w w14 [dk n (fresh 32), lg q c s false, dk c st4, lg l p s false, dk p st2]) := ⟨E13.out.below b14⟩
      clear b14 E13
      dsimp only
      go_wp2_with fail
      refine (xs_any _).mono ?_
      rintro e w15 ⟨rfl, b15⟩
      have E15 : Hid (EnvP w w15 [dk n (fresh 32), lg q c s false, dk c st4, lg l p s false, dk p st2]) := ⟨E14.out.below b15⟩
      clear b15 E14
      have ew : (fresh 32).write 0 (fl 120) = (xdisk, 0) := x_write
      dsimp only
      go_wp2_with fail
      refine (write_env E15.out 0 rfl 0 (fl 120) (by simp [fresh]) ew).mono ?_
      rintro e w16 ⟨rfl, h16⟩
      have E16 : Hid (EnvP w w16 [dk n xdisk, lg q c s false, dk c st4, lg l p s false, dk p st2]) := ⟨h16⟩
      clear h16 E15 ew
      dsimp only
      go_wp2_with fail
      refine (open_torn (s := s) E16.out x_off h4.out.1 (by rw [x_len]; have := h4.out; omega) (fl 120) x_seen x_ne0 (hd_ne_fl _ _ 120 (by decide))).mono ?_
      rintro e w17 ⟨rfl, h17⟩
      have E17 : Hid (EnvP w w17 [dk n xdisk, lg q c s false, dk c st4, lg l p s false, dk p st2]) := ⟨h17⟩
      clear h17 E16
      dsimp only
      go_wp2_with fail
      refine (read_env E17.out 0 rfl 0 (read0 x_off (E17.out.wf 0 rfl) x_seen)).mono ?_
      rintro e w18 ⟨rfl, h18⟩
      have E18 : Hid (EnvP w w18 [dk n xdisk, lg q c s false, dk c st4, lg l p s false, dk p st2]) := ⟨h18⟩
      have hix : (ixS (.string (fl 120)) (.int .i64 0)).run Try.prog w18 = .ok (.int .u8 120) w18 := by
        have := run_ix (fl 120) 0 (by rw [fl_size]; decide) w18
        rw [fl_byte 120 0 (by decide)] at this
        exact this
      clear h18 E17
      generalize fl 120 = XX at *
      dsimp only
      go_wp2
      go_ret
      exact ⟨rfl, E18.out.bel⟩
end Go.Proofs.Ytmcdohpeibipkaa
