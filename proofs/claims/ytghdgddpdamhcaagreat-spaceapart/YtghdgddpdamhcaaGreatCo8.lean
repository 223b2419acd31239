/- commit and Commit with the power on, however many writes there are. -/
import Derived.Test.YtghdgddpdamhcaaGreatBh8
namespace Go.Proofs.YtghdgddpdamhcaaGreat
set_option linter.unusedVariables false
set_option linter.unusedSimpArgs false
open Go.RowKit
variable {w0 w : World} {Ls rest : List (Th → Prop)} {q p s : Nat} {d : Bool} {st : St}
set_option maxRecDepth 100000 in
theorem lcommit8 (h : EnvP w0 w (lg q p s d :: dk p st :: rest)) {n : Nat} {B : List ByteArray} (ok : OKst NN st n s B) (hf : st.fall = 0) (h4 : 4 ≤ s) (hs : s < n) (a : Option Addr) (cap : Nat) (l : Wl) (ha : Arg rest a (ints l)) (hl : 1 ≤ l.length) (hin : InB (n - s) l) (hfit : (l.length + 255) / 256 + l.length < s) {k : Nat} (hk : k = l.length) :
    Calls Tryz.prog 77 #[pt q, .slice a k cap] w fun e w' => e = .returned (.int .i64 0) ∧ ∃ st', EnvP w0 w' (lg q p s d :: dk p st' :: rest) ∧ OKst NN st' n s (lay B l) ∧ st'.fall = 0 := by
  subst hk
  have hhi : n ≤ 8192 := by have := ok.wf.hi; rw [ok.len] at this; exact this
  obtain ⟨L, hL⟩ : ∃ L, (l.length + 255) / 256 = L := ⟨_, rfl⟩
  rw [hL] at hfit
  have hb8 : ∀ x ∈ l, x.1 < 8192 := fun x hx => by have := (hin x hx).1; omega
  have qB := behind8 a cap l w (ha.win h) hl (by omega) (fun x hx => by have := hb8 x hx; omega) (fun x hx => (hin x hx).2) rfl hL
  have hpd := ok.pend
  have HCO : Hid (∀ bl : Wl, (∀ x ∈ bl, x.1 < L + l.length ∧ x.2.size = 512) → ∃ x1 x2 x3 x4 : St, layR st (shift 1 bl) = (x1, 0) ∧ layR x1 [(0, NN.hd s l.length)] = (x2, 0) ∧ layR x2 (shift s l) = (x3, 0) ∧ layR x3 [(0, NN.hd s 0)] = (x4, 0) ∧ OKst NN x4 n s (lay B l) ∧ x4.fall = 0 ∧ x1.pend = [] ∧ x2.pend = [] ∧ x3.pend = []) := ⟨fun bl hbl => com_on hd_size ok hf (by omega) hs (fun p hp => by have := hbl p hp; exact ⟨by omega, this.2⟩) hin⟩
  have qW : Hid (∀ w5, Calls Tryz.prog 102 #[.agg #[.int .i64 (s : Int), .int .i64 (l.length : Int)]] w5 fun e w' => ∃ g, e = .returned (rw_ g 1 1) ∧ w'.ownsRow 0 95 2 (rw_ g 1 1) 1 (wcs [(0, NN.hd s l.length)]) ∧ Below w5.heap.size w5 w' ∧ w5.heap.size ≤ g) := ⟨fun w5 => hwrites_any s l.length (by omega) (by omega) w5⟩
  have H : Hid (EnvP w0 w (lg q p s d :: dk p st :: rest)) := ⟨h⟩
  have HA : Hid (Arg rest a (ints l)) := ⟨ha⟩
  have HB8 : Hid (∀ x ∈ l, x.1 < 8192) := ⟨hb8⟩
  have HP : Hid (st.pend = []) := ⟨hpd⟩
  clear h ok hf hin hL ha hb8 hpd
  go_enter Tryz.func77, Tryz.ntmps77
  go_wp2_with fail
  refine qB.mono ?_
  rintro e w1 ⟨y, c, bl, rfl, o1, hbl, hbm, b1, hy⟩
  obtain ⟨x1, x2, x3, x4, e1, e2, e3, e4, ok4, hf4, p1, p2, p3⟩ := HCO.out bl hbm
  have E1 : EnvP w0 w1 (lg q p s d :: dk p st :: (rest ++ [rowW (rw_ y (L + l.length) c) (ints bl)])) := H.out.pushW (l := ints bl) b1 (by rw [wci_ints, ints_length, hbl]; exact o1) (fun k hk => by cases hk; exact hy)
  have L1 := lay_env E1 1 (f' := 1) rfl (some ⟨y, 0, none⟩) c bl hbl.symm (Arg.last rest y _ _ _) (fun x hx => by have := (hbm x hx).1; omega) (by rw [HP.out, hbl]; simp; omega)
  rw [e1] at L1
  have OK4 : Hid (OKst NN x4 n s (lay B l)) := ⟨ok4⟩
  have HF4 : Hid (x4.fall = 0) := ⟨hf4⟩
  have qL2 : Hid (∀ (g : Nat) (w5 : World), EnvP w0 w5 (lg q p s d :: dk p x1 :: (rest ++ [rowW (rw_ g 1 1) (ints [(0, NN.hd s l.length)])])) → Calls Tryz.prog 100 #[pt q, .int .i64 0, .slice (some ⟨g, 0, none⟩) 1 1] w5 fun e w' => e = .returned (.int .i64 0) ∧ EnvP w0 w' (lg q p s d :: dk p x2 :: (rest ++ [rowW (rw_ g 1 1) (ints [(0, NN.hd s l.length)])]))) := ⟨fun g w5 h5 => by
    have := lay_env h5 0 (f' := 0) rfl (some ⟨g, 0, none⟩) 1 [(0, NN.hd s l.length)] (n := 1) rfl (Arg.last rest g _ _ _) (fun x hx => by simp at hx; subst hx; simp) (by rw [p1]; simp)
    rwa [shift_zero, e2] at this⟩
  have HP2 : Hid (∀ (g : Nat) (w4 w5 : World), EnvP w0 w4 (lg q p s d :: dk p x1 :: rest) → w5.ownsRow 0 95 2 (rw_ g 1 1) 1 (wcs [(0, NN.hd s l.length)]) → Below w4.heap.size w4 w5 → w4.heap.size ≤ g → EnvP w0 w5 (lg q p s d :: dk p x1 :: (rest ++ [rowW (rw_ g 1 1) (ints [(0, NN.hd s l.length)])]))) := ⟨fun g w4 w5 h4 o b hg => h4.pushW (l := ints [(0, NN.hd s l.length)]) b (by rw [wci_ints]; exact o) (fun k hk => by cases hk; exact hg)⟩
  have qF : Hid (∀ (w5 : World), EnvP w0 w5 (lg q p s d :: dk p x2 :: rest) → Calls Tryz.prog 103 #[pt q, .slice a l.length cap] w5 fun e w' => e = .returned (.int .i64 0) ∧ EnvP w0 w' (lg q p s d :: dk p x4 :: rest)) := ⟨fun w5 h5 => by
    have := finish_env h5 (by omega) a cap l HA.out HB8.out (by omega) (by rw [p2]; simp) (by rw [e3, p3]; simp) rfl
    have ef : finR NN x2 s l = (x4, 0) := by unfold finR; rw [e3]; simp only [if_true]; exact e4
    rwa [ef] at this⟩
  generalize ints bl = ib at *
  generalize hwb : wcs bl = wb at *
  generalize NN.hd s l.length = hdx at *
  clear hwb o1 b1 hy hbm hbl e1 e2 e3 e4 ok4 hf4 p1 p2 p3 HCO qB H
  dsimp only
  go_wp2_with fail
  refine L1.mono ?_
  rintro e w2 ⟨rfl, h2⟩
  have E2 := EnvP.init (Ls := lg q p s d :: dk p x1 :: rest) h2
  have c21 := (lgc E2).2.1
  clear h2 E1 L1
  dsimp only
  go_wp2_with fail
  refine (qW.out w2).mono ?_
  rintro e w3 ⟨g, rfl, o3, b3, hg⟩
  have E3 := HP2.out g w2 w3 E2 o3 b3 hg
  clear o3 b3 hg
  dsimp only
  go_wp2_with fail
  refine (qL2.out g w3 E3).mono ?_
  rintro e w4 ⟨rfl, h4⟩
  have E4 := EnvP.init (Ls := lg q p s d :: dk p x2 :: rest) h4
  clear h4 E3
  dsimp only
  go_wp2_with fail
  refine (qF.out w4 E4).mono ?_
  rintro e w5 ⟨rfl, h5⟩
  dsimp only
  go_wp2
  go_ret
  exact ⟨rfl, x4, h5, OK4.out, HF4.out⟩
theorem right_of {m : Nat} {l : Wl} (hr : Rising l) (hin : InB m l) : rightB m (ints l) = true := by
  unfold rightB
  rw [decide_eq_true_iff]
  refine ⟨fun p hp => ?_, ?_⟩
  · obtain ⟨x, hx, rfl⟩ := List.mem_map.1 hp
    have := hin x hx
    exact ⟨by simp [okN]; exact this.1, this.2⟩
  · have e : (ints l).map Prod.fst = (l.map Prod.fst).map fun k : Nat => (k : Int) := by simp [ints, List.map_map]
    rw [e]
    exact List.Pairwise.map _ (fun a b hab e => hab (by omega)) hr.nodup
/-- does so much go in the log? -/
def fitsB (s k : Nat) : Bool := decide ((k + 255) / 256 + k < s)
set_option maxRecDepth 100000 in
theorem commit8_full (h : EnvP w0 w (lg q p s false :: dk p st :: rest)) {n : Nat} {B : List ByteArray} (ok : OKst NN st n s B) (h4 : 4 ≤ s) (hs : s < n) (a : Option Addr) (cap : Nat) (l : Wl) (ha : Arg rest a (ints l)) (hl : 1 ≤ l.length) (hr : Rising l) (hin : InB (n - s) l) (hfit : fitsB s l.length = false) {k : Nat} (hk : k = l.length) :
    Calls Tryz.prog 46 #[pt q, .slice a k cap] w fun e w' => e = .returned (.int .i64 41) ∧ EnvP w0 w' (lg q p s false :: dk p st :: rest) := by
  subst hk
  have hhi : n ≤ 8192 := by have := ok.wf.hi; rw [ok.len] at this; exact this
  have hle := hr.length hin
  have qO := loff_env h
  rw [ok.off] at qO
  have qR : Hid (∀ w5, EnvP w0 w5 (lg q p s false :: dk p st :: rest) → Calls Tryz.prog 75 #[pt q, .slice a l.length cap] w5 fun e w' => e = .returned (.bool true) ∧ Below w5.heap.size w5 w') := ⟨fun w5 h5 => by have := right_env h5 (by rw [ok.len]; omega) a cap (ints l) (ints_length l).symm ha (by rw [ints_length]; omega) (m := n - s) (by rw [ok.len]); rwa [right_of hr hin] at this⟩
  have qF : Hid (∀ w5, EnvP w0 w5 (lg q p s false :: dk p st :: rest) → Calls Tryz.prog 76 #[pt q, .int .i64 (l.length : Int)] w5 fun e w' => e = .returned (.bool false) ∧ ∃ m, w' = w5.drewN m) := ⟨fun w5 h5 => by have := fits_env h5 (by omega) l.length (by omega); unfold fitsB at hfit; rwa [hfit] at this⟩
  have hne : ¬ ((l.length : Int) = 0) := by omega
  clear h ok hin hr
  go_enter Tryz.func46, Tryz.ntmps46
  go_wp2_with fail
  refine qO.mono ?_
  rintro e w1 ⟨rfl, h1⟩
  dsimp only
  go_wp2_with fail
  refine (qR.out _ h1).mono ?_
  rintro e w2 ⟨rfl, b2⟩
  have E2 := h1.below b2
  clear h1 b2
  dsimp only
  go_wp2_with fail
  refine (qF.out _ E2).mono ?_
  rintro e w3 ⟨rfl, j, rfl⟩
  dsimp only
  go_wp2
  go_ret
  exact ⟨rfl, E2.drewN j⟩
set_option maxRecDepth 100000 in
theorem commit8_run (h : EnvP w0 w (lg q p s false :: dk p st :: rest)) {n : Nat} {B : List ByteArray} (ok : OKst NN st n s B) (hf : st.fall = 0) (h4 : 4 ≤ s) (hs : s < n) (a : Option Addr) (cap : Nat) (l : Wl) (ha : Arg rest a (ints l)) (hl : 1 ≤ l.length) (hr : Rising l) (hin : InB (n - s) l) (hfit : fitsB s l.length = true) {k : Nat} (hk : k = l.length) :
    Calls Tryz.prog 46 #[pt q, .slice a k cap] w fun e w' => e = .returned (.int .i64 0) ∧ ∃ st', EnvP w0 w' (lg q p s false :: dk p st' :: rest) ∧ OKst NN st' n s (lay B l) ∧ st'.fall = 0 := by
  subst hk
  have hhi : n ≤ 8192 := by have := ok.wf.hi; rw [ok.len] at this; exact this
  have hle := hr.length hin
  have qO := loff_env h
  rw [ok.off] at qO
  have qR : Hid (∀ w5, EnvP w0 w5 (lg q p s false :: dk p st :: rest) → Calls Tryz.prog 75 #[pt q, .slice a l.length cap] w5 fun e w' => e = .returned (.bool true) ∧ Below w5.heap.size w5 w') := ⟨fun w5 h5 => by have := right_env h5 (by rw [ok.len]; omega) a cap (ints l) (ints_length l).symm ha (by rw [ints_length]; omega) (m := n - s) (by rw [ok.len]); rwa [right_of hr hin] at this⟩
  have qF : Hid (∀ w5, EnvP w0 w5 (lg q p s false :: dk p st :: rest) → Calls Tryz.prog 76 #[pt q, .int .i64 (l.length : Int)] w5 fun e w' => e = .returned (.bool true) ∧ ∃ m, w' = w5.drewN m) := ⟨fun w5 h5 => by have := fits_env h5 (by omega) l.length (by omega); unfold fitsB at hfit; rwa [hfit] at this⟩
  have qC : Hid (∀ w5, EnvP w0 w5 (lg q p s false :: dk p st :: rest) → Calls Tryz.prog 77 #[pt q, .slice a l.length cap] w5 fun e w' => e = .returned (.int .i64 0) ∧ ∃ st', EnvP w0 w' (lg q p s false :: dk p st' :: rest) ∧ OKst NN st' n s (lay B l) ∧ st'.fall = 0) := ⟨fun w5 h5 => lcommit8 h5 ok hf h4 hs a cap l ha hl hin (by unfold fitsB at hfit; exact of_decide_eq_true hfit) rfl⟩
  have hne : ¬ ((l.length : Int) = 0) := by omega
  have HE : Hid (∀ w5 c1, EnvP w0 w5 (lg q p s false :: dk p c1 :: rest) → EnvP w0 (w5.setCell ⟨q, 2, none⟩ (.bool false)) (lg q p s false :: dk p c1 :: rest)) := ⟨fun w5 c1 h5 => h5.setCell 0 rfl 2 (.bool false)⟩
  clear h ok hin hr hf
  go_enter Tryz.func46, Tryz.ntmps46
  go_wp2_with fail
  refine qO.mono ?_
  rintro e w1 ⟨rfl, h1⟩
  dsimp only
  go_wp2_with fail
  refine (qR.out _ h1).mono ?_
  rintro e w2 ⟨rfl, b2⟩
  have E2 := h1.below b2
  clear h1 b2
  dsimp only
  go_wp2_with fail
  refine (qF.out _ E2).mono ?_
  rintro e w3 ⟨rfl, j, rfl⟩
  have E3 := E2.drewN j
  clear E2
  dsimp only
  go_wp2_with fail
  refine (qC.out _ E3).mono ?_
  rintro e w4 ⟨rfl, st', h4, k4, f4⟩
  have E5 := HE.out _ _ h4
  have c42 := (lgc h4).2.2
  have f42 := h4.frozen 0 rfl 2
  have K4 : Hid (OKst NN st' n s (lay B l) ∧ st'.fall = 0) := ⟨k4, f4⟩
  clear h4 E3 k4 f4
  dsimp only
  go_wp2
  go_ret
  exact ⟨rfl, st', E5, K4.out.1, K4.out.2⟩
end Go.Proofs.YtghdgddpdamhcaaGreat
