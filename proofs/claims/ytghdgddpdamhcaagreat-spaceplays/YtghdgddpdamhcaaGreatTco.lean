/- A transaction's Commit, on a log with the power on. -/
import Derived.Test.YtghdgddpdamhcaaGreatTwt
import Derived.Test.YtghdgddpdamhcaaGreatCo8
namespace Go.Proofs.YtghdgddpdamhcaaGreat
set_option linter.unusedVariables false
set_option linter.unusedSimpArgs false
open Go.RowKit Go.Maps
variable {w0 w : World} {Ls rest : List (Th → Prop)} {x q p s : Nat} {W : Wl} {d o : Bool} {st : St}
set_option maxRecDepth 100000 in
theorem tcommit_over (h : EnvP w0 w Ls) (i : Nat) (hi : Ls[i]? = some (tx x q W true)) : Calls Tryz.prog 18 #[pt x] w fun e w' => e = .returned (.int .i64 8) ∧ EnvP w0 w' Ls := by
  obtain ⟨mb, hne, hx, hm, _⟩ := h.tx i hi
  have c2 : w.cell? ⟨x, 2, none⟩ = some (.bool true) := cell_of_row w x 2 _ _ (0, 0) hx
  have H : Hid (EnvP w0 w Ls) := ⟨h⟩
  clear h hi hx hm
  go_enter Tryz.func18, Tryz.ntmps18
  go_wp2
  go_ret
  exact ⟨rfl, H.out⟩
set_option maxRecDepth 100000 in
theorem tcommit_nil (h : EnvP w0 w Ls) (i : Nat) (hi : Ls[i]? = some (tx x q [] false)) : Calls Tryz.prog 18 #[pt x] w fun e w' => e = .returned (.int .i64 0) ∧ EnvP w0 w' (Ls.set i (tx x q [] true)) := by
  obtain ⟨mb, hne, hx, hm, _⟩ := h.tx i hi
  have c2 : w.cell? ⟨x, 2, none⟩ = some (.bool false) := cell_of_row w x 2 _ _ (0, 0) hx
  have hil := (List.getElem?_eq_some_iff.1 hi).1
  have qW := twrites_env h i hi List.Pairwise.nil (by simp) (InB.nil _)
  have qA : Hid (∀ w5 T, EnvP w0 w5 (Ls ++ [T]) → Calls Tryz.prog 45 #[pt x] w5 fun e w' => e = .returned (.tuple #[]) ∧ EnvP w0 w' (Ls.set i (tx x q [] true))) := ⟨fun w5 T h5 => by
    refine (abort_env h5 i (by rw [List.getElem?_append_left hil]; exact hi)).mono ?_
    rintro e w' ⟨rfl, h6⟩
    rw [List.set_append_left _ _ hil] at h6
    exact ⟨rfl, h6.init⟩⟩
  clear h hi hx hm
  go_enter Tryz.func18, Tryz.ntmps18
  go_wp2_with fail
  refine qW.mono ?_
  rintro e w1 ⟨a, c, rfl, h1⟩
  have E1 := qA.out _ _ h1
  clear h1
  dsimp only
  go_wp2_with fail
  refine E1.mono ?_
  rintro e w2 ⟨rfl, h2⟩
  dsimp only
  go_wp2
  go_ret
  exact ⟨rfl, h2⟩
set_option maxRecDepth 100000 in
theorem tcommit_run (h : EnvP w0 w (lg q p s false :: dk p st :: rest)) (i : Nat) (hi : rest[i]? = some (tx x q W false)) {n : Nat} {B : List ByteArray} (ok : OKst NN st n s B) (hf : st.fall = 0) (h4 : 4 ≤ s) (hs : s < n) (hR : Rising W) (hin : InB (n - s) W) (hW : 1 ≤ W.length) :
    Calls Tryz.prog 18 #[pt x] w fun e w' => (fitsB s W.length = true ∧ e = .returned (.int .i64 0) ∧ ∃ st', EnvP w0 w' (lg q p s false :: dk p st' :: rest.set i (tx x q [] true)) ∧ OKst NN st' n s (lay B W) ∧ st'.fall = 0) ∨
      (fitsB s W.length = false ∧ e = .returned (.int .i64 41) ∧ EnvP w0 w' (lg q p s false :: dk p st :: rest.set i (tx x q [] true))) := by
  obtain ⟨mb, hne, hx, hm, _⟩ := h.tx (i + 2) (by simpa using hi)
  have c2 : w.cell? ⟨x, 2, none⟩ = some (.bool false) := cell_of_row w x 2 _ _ (0, 0) hx
  have hhi : n ≤ 8192 := by have := ok.wf.hi; rw [ok.len] at this; exact this
  have hle := hR.length hin
  have hil := (List.getElem?_eq_some_iff.1 hi).1
  have qW := twrites_env h (i + 2) (by simpa using hi) hR (by omega) (fun p hp => ⟨by have := (hin p hp).1; omega, (hin p hp).2⟩)
  have qA : Hid (∀ w5 T, EnvP w0 w5 (lg q p s false :: dk p st :: (rest ++ [T])) → Calls Tryz.prog 45 #[pt x] w5 fun e w' => e = .returned (.tuple #[]) ∧ EnvP w0 w' (lg q p s false :: dk p st :: (rest.set i (tx x q [] true) ++ [T]))) := ⟨fun w5 T h5 => by
    refine (abort_env h5 (i + 2) (by simp only [List.getElem?_cons_succ]; rw [List.getElem?_append_left hil]; exact hi)).mono ?_
    rintro e w' ⟨rfl, h6⟩
    have e6 : (lg q p s false :: dk p st :: (rest ++ [T])).set (i + 2) (tx x q [] true) = lg q p s false :: dk p st :: (rest.set i (tx x q [] true) ++ [T]) := by
      show lg q p s false :: dk p st :: ((rest ++ [T]).set i (tx x q [] true)) = _
      rw [List.set_append_left _ _ hil]
    rw [e6] at h6
    exact ⟨rfl, h6⟩⟩
  have hci : (rest.set i (tx x q [] true))[i]? = some (tx x q [] true) := List.getElem?_set_self hil
  have HC : Hid (∀ w5 T, EnvP w0 w5 (lg q p s false :: dk p st :: (rest.set i (tx x q [] true) ++ [T])) → w5.cell? ⟨x, 0, none⟩ = some (pt q)) := ⟨fun w5 T h5 => by
    obtain ⟨mb, _, hx, _⟩ := h5.tx (i + 2) (by simp only [List.getElem?_cons_succ]; rw [List.getElem?_append_left (by simpa using hil)]; exact hci)
    exact cell_of_row w5 x 0 _ _ (0, 0) hx⟩
  have qC : Hid (∀ w5 a c, EnvP w0 w5 (lg q p s false :: dk p st :: (rest.set i (tx x q [] true) ++ [rowW (.slice a W.length c) (ints W)])) → Calls Tryz.prog 46 #[pt q, .slice a W.length c] w5 fun e w' => (fitsB s W.length = true ∧ e = .returned (.int .i64 0) ∧ ∃ st', EnvP w0 w' (lg q p s false :: dk p st' :: rest.set i (tx x q [] true)) ∧ OKst NN st' n s (lay B W) ∧ st'.fall = 0) ∨
      (fitsB s W.length = false ∧ e = .returned (.int .i64 41) ∧ EnvP w0 w' (lg q p s false :: dk p st :: rest.set i (tx x q [] true)))) := ⟨fun w5 a c h5 => by
    have ha : Arg (rest.set i (tx x q [] true) ++ [rowW (.slice a W.length c) (ints W)]) a (ints W) := by
      obtain ⟨t, ht, hat, _⟩ := h5.get ((rest.set i (tx x q [] true)).length + 2) (rowW (.slice a W.length c) (ints W)) (by simp)
      have ht' : t = rowWTh _ _ _ := ht
      subst ht'
      have o5 : w5.ownsRow 0 95 2 (.slice a W.length c) (ints W).length (wci (ints W)) := hat
      rcases o5.2 with ⟨_, h0⟩ | ⟨g, cap, cur, e, _⟩
      · rw [ints_length] at h0; omega
      · injection e with e1 e2 e3
        subst e1
        exact Arg.last _ g _ _ _
    cases hfit : fitsB s W.length with
    | true =>
      refine (commit8_run h5 ok hf h4 hs a c W ha hW hR hin hfit rfl).mono ?_
      rintro e w' ⟨rfl, st', h6, k6, f6⟩
      exact .inl ⟨rfl, rfl, st', EnvP.init (Ls := lg q p s false :: dk p st' :: rest.set i (tx x q [] true)) h6, k6, f6⟩
    | false =>
      refine (commit8_full h5 ok h4 hs a c W ha hW hR hin hfit rfl).mono ?_
      rintro e w' ⟨rfl, h6⟩
      exact .inr ⟨rfl, rfl, EnvP.init (Ls := lg q p s false :: dk p st :: rest.set i (tx x q [] true)) h6⟩⟩
  have hne0 : ¬ ((W.length : Int) = 0) := by omega
  clear h hi hx hm ok hf hR hin
  go_enter Tryz.func18, Tryz.ntmps18
  go_wp2_with fail
  refine qW.mono ?_
  rintro e w1 ⟨a, c, rfl, h1⟩
  have E1 := qA.out _ _ h1
  clear h1
  dsimp only
  go_wp2_with fail
  refine E1.mono ?_
  rintro e w2 ⟨rfl, h2⟩
  have d0 := HC.out _ _ h2
  have E2 := qC.out _ _ _ h2
  clear h2
  dsimp only
  go_wp2_with fail
  refine E2.mono ?_
  intro e w3 h3
  have H3 : Hid _ := ⟨h3⟩
  rcases h3 with ⟨hf, rfl, st', h3⟩ | ⟨hf, rfl, h3⟩
  · clear H3
    have H3 : Hid _ := ⟨h3⟩
    have HF : Hid (fitsB s W.length = true) := ⟨hf⟩
    clear h3 hf
    dsimp only
    go_wp2
    go_ret
    exact .inl ⟨HF.out, rfl, st', H3.out⟩
  · clear H3
    have H3 : Hid _ := ⟨h3⟩
    have HF : Hid (fitsB s W.length = false) := ⟨hf⟩
    clear h3 hf
    dsimp only
    go_wp2
    go_ret
    exact .inr ⟨HF.out, rfl, H3.out⟩
end Go.Proofs.YtghdgddpdamhcaaGreat
