/- commit and Commit. -/
import Derived.Test.YtmcdohpeibipkaaBhd
namespace Go.Proofs.Ytmcdohpeibipkaa
set_option linter.unusedVariables false
set_option linter.unusedSimpArgs false
open Go.RowKit
variable {w0 w : World} {Ls rest : List (Th → Prop)} {q p s : Nat} {d : Bool} {st : St}
theorem Arg.app {rest : List (Th → Prop)} {a : Option Addr} {l : Il} (h : Arg rest a l) (X : List (Th → Prop)) : Arg (rest ++ X) a l := by
  rcases h with rfl | ⟨k, s, hk, hs⟩
  · exact .inl rfl
  · exact .inr ⟨k, s, by rw [List.getElem?_append_left (List.getElem?_eq_some_iff.1 hk).1]; exact hk, hs⟩
set_option maxRecDepth 100000 in
theorem lcommit_env (h : EnvP w0 w (lg q p s d :: dk p st :: rest)) (hs : s < 8192) (hp : st.pend.length ≤ 1000) (a : Option Addr) (cap : Nat) (l : Wl) (ha : Arg rest a (ints l)) (h1 : 1 ≤ l.length) (h2 : l.length ≤ 256) (hb : ∀ x ∈ l, x.1 < 8192) {n : Nat} (hn : n = l.length) :
    Calls Try.prog 38 #[pt q, .slice a n cap] w fun e w' => e = .returned (.int .i64 (comR NN st s l).2) ∧ EnvP w0 w' (lg q p s d :: dk p (comR NN st s l).1 :: rest) := by
  subst hn
  have qB := behind_any a cap l w (ha.win h) h1 h2 (fun x hx => by have := hb x hx; omega) rfl
  have hbl : (bhL NN l).length = l.length + 1 := by rw [bhL, List.length_cons, txs_length]
  have hbm : ∀ x ∈ bhL NN l, 1 + x.1 < 1000000 := fun x hx => by
    rcases List.mem_cons.1 hx with rfl | hx
    · simp
    · obtain ⟨i, z, hz, rfl⟩ := txs_mem hx
      have := (List.getElem?_eq_some_iff.1 hz).1
      simp; omega
  have qL1 : Hid (∀ (y c : Nat) (w5 : World), EnvP w0 w5 (lg q p s d :: dk p st :: (rest ++ [rowW (rw_ y (l.length + 1) c) (ints (bhL NN l))])) → Calls Try.prog 61 #[pt q, .int .i64 1, rw_ y (l.length + 1) c] w5 fun e w' => e = .returned (.int .i64 (layR st (shift 1 (bhL NN l))).2) ∧ EnvP w0 w' (lg q p s d :: dk p (layR st (shift 1 (bhL NN l))).1 :: (rest ++ [rowW (rw_ y (l.length + 1) c) (ints (bhL NN l))]))) := ⟨fun y c w5 h5 =>
    lay_env h5 1 rfl (some ⟨y, 0, none⟩) c (bhL NN l) hbl.symm (Arg.last rest y _ _ _) hbm (by omega)⟩
  have HP1 : Hid (∀ (y c : Nat) (w5 : World), w5.ownsRow 0 33 2 (rw_ y (l.length + 1) c) (l.length + 1) (wcs (bhL NN l)) → Below w.heap.size w w5 → w.heap.size ≤ y → EnvP w0 w5 (lg q p s d :: dk p st :: (rest ++ [rowW (rw_ y (l.length + 1) c) (ints (bhL NN l))]))) := ⟨fun y c w5 o b hg => h.pushW (l := ints (bhL NN l)) b (by rw [wci_ints, ints_length, hbl]; exact o) (fun k hk => by cases hk; exact hg)⟩
  have hp1 : (layR st (shift 1 (bhL NN l))).1.pend.length ≤ 1300 := by have := layR_pend (shift 1 (bhL NN l)) st; rw [shift_length, hbl] at this; omega
  have hp2 : (layR (layR st (shift 1 (bhL NN l))).1 [(0, NN.hd s l.length)]).1.pend.length ≤ 1400 := by have := layR_pend [(0, NN.hd s l.length)] (layR st (shift 1 (bhL NN l))).1; simp at this; omega
  have qW : Hid (∀ w5, Calls Try.prog 63 #[.agg #[.int .i64 (s : Int), .int .i64 (l.length : Int)]] w5 fun e w' => ∃ g, e = .returned (rw_ g 1 1) ∧ w'.ownsRow 0 33 2 (rw_ g 1 1) 1 (wcs [(0, NN.hd s l.length)]) ∧ Below w5.heap.size w5 w' ∧ w5.heap.size ≤ g) := ⟨fun w5 => hwrites_any s l.length (by omega) (by omega) w5⟩
  generalize hX1 : layR st (shift 1 (bhL NN l)) = X1 at *
  have qL2 : Hid (∀ (g : Nat) (w5 : World), EnvP w0 w5 (lg q p s d :: dk p X1.1 :: (rest ++ [rowW (rw_ g 1 1) (ints [(0, NN.hd s l.length)])])) → Calls Try.prog 61 #[pt q, .int .i64 0, .slice (some ⟨g, 0, none⟩) 1 1] w5 fun e w' => e = .returned (.int .i64 (layR X1.1 [(0, NN.hd s l.length)]).2) ∧ EnvP w0 w' (lg q p s d :: dk p (layR X1.1 [(0, NN.hd s l.length)]).1 :: (rest ++ [rowW (rw_ g 1 1) (ints [(0, NN.hd s l.length)])]))) := ⟨fun g w5 h5 => by
    have := lay_env h5 0 (f' := 0) rfl (some ⟨g, 0, none⟩) 1 [(0, NN.hd s l.length)] (n := 1) rfl (Arg.last rest g _ _ _) (fun x hx => by simp at hx; subst hx; simp) (by simp; omega)
    rwa [shift_zero] at this⟩
  generalize hX2 : layR X1.1 [(0, NN.hd s l.length)] = X2 at *
  have HP2 : Hid (∀ (g : Nat) (w4 w5 : World), EnvP w0 w4 (lg q p s d :: dk p X1.1 :: rest) → w5.ownsRow 0 33 2 (rw_ g 1 1) 1 (wcs [(0, NN.hd s l.length)]) → Below w4.heap.size w4 w5 → w4.heap.size ≤ g → EnvP w0 w5 (lg q p s d :: dk p X1.1 :: (rest ++ [rowW (rw_ g 1 1) (ints [(0, NN.hd s l.length)])]))) := ⟨fun g w4 w5 h4 o b hg => h4.pushW (l := ints [(0, NN.hd s l.length)]) b (by rw [wci_ints]; exact o) (fun k hk => by cases hk; exact hg)⟩
  have qF : Hid (∀ (w5 : World), EnvP w0 w5 (lg q p s d :: dk p X2.1 :: rest) → Calls Try.prog 64 #[pt q, .slice a l.length cap] w5 fun e w' => e = .returned (.int .i64 (finR NN X2.1 s l).2) ∧ EnvP w0 w' (lg q p s d :: dk p (finR NN X2.1 s l).1 :: rest)) := ⟨fun w5 h5 => finish_env h5 hs a cap l ha hb (by omega) (by omega) (by have := layR_pend (shift s l) X2.1; rw [shift_length] at this; omega) rfl⟩
  have HC : Hid (comR NN st s l = if X1.2 = 0 then (if X2.2 = 0 then finR NN X2.1 s l else X2) else X1) := ⟨by rw [← hX2, ← hX1]; rfl⟩
  generalize comR NN st s l = C at *
  generalize finR NN X2.1 s l = F at *
  generalize NN.hd s l.length = hdx at *
  generalize ints (bhL NN l) = ib at *
  generalize hwb : wcs (bhL NN l) = wb at *
  clear h hwb hX1 hX2 hbm hbl ha hb
  obtain ⟨x1, r1⟩ := X1
  obtain ⟨x2, r2⟩ := X2
  simp only at *
  by_cases h1 : r1 = 0
  · subst h1
    by_cases h2 : r2 = 0
    · subst h2
      have e := HC.out
      simp only [if_true] at e
      subst e
      clear HC
      go_enter Try.func38, Try.ntmps38
      go_wp2_with fail
      refine qB.mono ?_
      rintro e w1 ⟨y, c, rfl, o1, b1, hy⟩
      have E1 := HP1.out y c w1 o1 b1 hy
      clear o1 b1 hy
      dsimp only
      go_wp2_with fail
      refine (qL1.out y c w1 E1).mono ?_
      rintro e w2 ⟨rfl, h2⟩
      have E2 := EnvP.init (Ls := lg q p s d :: dk p x1 :: rest) h2
      have c21 := (lgc E2).2.1
      clear h2 E1
      dsimp only
      go_wp2_with fail
      refine (qW.out w2).mono ?_
      rintro e w3 ⟨g, rfl, o3, b3, hg⟩
      have E3 := HP2.out g w2 w3 E2 o3 b3 hg
      clear o3 b3 hg
      dsimp only
      go_wp2_with fail
      refine (qL2.out g w3 E3).mono ?_
      rintro e w4 ⟨rfl, h4⟩
      have E4 := EnvP.init (Ls := lg q p s d :: dk p x2 :: rest) h4
      clear h4 E3
      dsimp only
      go_wp2_with fail
      refine (qF.out w4 E4).mono ?_
      rintro e w5 ⟨rfl, h5⟩
      dsimp only
      go_wp2
      go_ret
      exact ⟨rfl, h5⟩
    · have e := HC.out
      rw [if_pos rfl, if_neg h2] at e
      subst e
      clear HC
      go_enter Try.func38, Try.ntmps38
      go_wp2_with fail
      refine qB.mono ?_
      rintro e w1 ⟨y, c, rfl, o1, b1, hy⟩
      have E1 := HP1.out y c w1 o1 b1 hy
      clear o1 b1 hy
      dsimp only
      go_wp2_with fail
      refine (qL1.out y c w1 E1).mono ?_
      rintro e w2 ⟨rfl, h2⟩
      have E2 := EnvP.init (Ls := lg q p s d :: dk p x1 :: rest) h2
      have c21 := (lgc E2).2.1
      clear h2 E1
      dsimp only
      go_wp2_with fail
      refine (qW.out w2).mono ?_
      rintro e w3 ⟨g, rfl, o3, b3, hg⟩
      have E3 := HP2.out g w2 w3 E2 o3 b3 hg
      clear o3 b3 hg
      dsimp only
      go_wp2_with fail
      refine (qL2.out g w3 E3).mono ?_
      rintro e w4 ⟨rfl, h4⟩
      have E4 := EnvP.init (Ls := lg q p s d :: dk p x2 :: rest) h4
      clear h4 E3
      dsimp only
      go_wp2
      go_ret
      exact ⟨rfl, E4⟩
  · have e := HC.out
    rw [if_neg h1] at e
    subst e
    clear HC
    go_enter Try.func38, Try.ntmps38
    go_wp2_with fail
    refine qB.mono ?_
    rintro e w1 ⟨y, c, rfl, o1, b1, hy⟩
    have E1 := HP1.out y c w1 o1 b1 hy
    clear o1 b1 hy
    dsimp only
    go_wp2_with fail
    refine (qL1.out y c w1 E1).mono ?_
    rintro e w2 ⟨rfl, h2⟩
    have E2 := EnvP.init (Ls := lg q p s d :: dk p x1 :: rest) h2
    clear h2 E1
    dsimp only
    go_wp2
    go_ret
    exact ⟨rfl, E2⟩
end Go.Proofs.Ytmcdohpeibipkaa
