/- Open. -/
import Derived.Test.YtghdgddpdamhcaaGreatBeg
namespace Go.Proofs.YtghdgddpdamhcaaGreat
set_option linter.unusedVariables false
set_option linter.unusedSimpArgs false
open Go.RowKit
variable {w0 w : World} {Ls rest : List (Th → Prop)} {q p s : Nat} {d : Bool} {st : St}
set_option maxRecDepth 100000 in
theorem open_off (h : EnvP w0 w (dk p st :: rest)) (ho : st.off = true) (z : Int) : Calls Tryz.prog 25 #[pt p, .int .i64 z] w fun e w' => e = .returned (.tuple #[.pointer none, .int .i64 9]) ∧ EnvP w0 w' (dk p st :: rest) := by
  have qO := off_env h 0 rfl ho
  have H : Hid (EnvP w0 w (dk p st :: rest)) := ⟨h⟩
  clear h
  go_enter Tryz.func25, Tryz.ntmps25
  go_wp2_with fail
  refine qO.mono ?_
  rintro e w ⟨rfl, rfl⟩
  dsimp only
  go_wp2
  go_ret2
  exact ⟨rfl, H.out⟩
set_option maxRecDepth 100000 in
theorem open_bad (h : EnvP w0 w (dk p st :: rest)) (ho : st.off = false) (z : Int) (hz : ¬ (4 ≤ z ∧ z < (st.safe.length : Int))) : Calls Tryz.prog 25 #[pt p, .int .i64 z] w fun e w' => e = .returned (.tuple #[.pointer none, .int .i64 1]) ∧ EnvP w0 w' (dk p st :: rest) := by
  have qO := off_env h 0 rfl ho
  have qS := sectors_env h 0 rfl (n := (st.safe.length : Int)) rfl
  have H : Hid (EnvP w0 w (dk p st :: rest)) := ⟨h⟩
  generalize (st.safe.length : Int) = n at *
  clear h
  by_cases h4 : z < 4
  · go_enter Tryz.func25, Tryz.ntmps25
    go_wp2_with fail
    refine qO.mono ?_
    rintro e w ⟨rfl, rfl⟩
    dsimp only
    go_wp2
    go_ret2
    exact ⟨rfl, H.out⟩
  · have h5 : n ≤ z := by omega
    go_enter Tryz.func25, Tryz.ntmps25
    go_wp2_with fail
    refine qO.mono ?_
    rintro e w ⟨rfl, rfl⟩
    dsimp only
    go_wp2_with fail
    refine qS.mono ?_
    rintro e w ⟨rfl, rfl⟩
    dsimp only
    go_wp2
    go_ret2
    exact ⟨rfl, H.out⟩
set_option maxRecDepth 100000 in
theorem open_with (h : EnvP w0 w (dk p st :: rest)) (ho : st.off = false) (h4 : 4 ≤ s) (hs : s < st.safe.length) {st' : St} {r : Int} (qB : ∀ (q : Nat) (w5 : World), EnvP w0 w5 (lg q p s false :: dk p st :: rest) → Calls Tryz.prog 50 #[pt q] w5 fun e w' => e = .returned (.int .i64 r) ∧ EnvP w0 w' (lg q p s false :: dk p st' :: rest)) :
    Calls Tryz.prog 25 #[pt p, .int .i64 (s : Int)] w fun e w' => (r = 0 ∧ ∃ q, e = .returned (.tuple #[pt q, .int .i64 0]) ∧ EnvP w0 w' (lg q p s false :: dk p st' :: rest)) ∨ (r ≠ 0 ∧ e = .returned (.tuple #[.pointer none, .int .i64 r]) ∧ EnvP w0 w' (dk p st' :: rest)) := by
  have qO := off_env h 0 rfl ho
  have qS := sectors_env h 0 rfl (n := (st.safe.length : Int)) rfl
  have hn : (s : Int) < (st.safe.length : Int) := by omega
  have H4 : Hid (EnvP w0 (w.alloc (.cells #[pt p, .int .i64 (s : Int), .bool false] 70)) (lg w.heap.size p s false :: dk p st :: rest)) := ⟨(h.alloc _ _).front⟩
  have QB : Hid (∀ (q : Nat) (w5 : World), EnvP w0 w5 (lg q p s false :: dk p st :: rest) → Calls Tryz.prog 50 #[pt q] w5 fun e w' => e = .returned (.int .i64 r) ∧ EnvP w0 w' (lg q p s false :: dk p st' :: rest)) := ⟨qB⟩
  generalize (st.safe.length : Int) = n at *
  clear h qB
  by_cases h0 : r = 0
  · subst h0
    go_enter Tryz.func25, Tryz.ntmps25
    go_wp2_with fail
    refine qO.mono ?_
    rintro e w ⟨rfl, rfl⟩
    dsimp only
    go_wp2_with fail
    refine qS.mono ?_
    rintro e w ⟨rfl, rfl⟩
    dsimp only
    go_wp2_with fail
    refine (QB.out _ _ H4.out).mono ?_
    rintro e w5 ⟨rfl, h5⟩
    dsimp only
    go_wp2
    go_ret2
    exact .inl ⟨by trivial, w.heap.size, rfl, h5⟩
  · go_enter Tryz.func25, Tryz.ntmps25
    go_wp2_with fail
    refine qO.mono ?_
    rintro e w ⟨rfl, rfl⟩
    dsimp only
    go_wp2_with fail
    refine qS.mono ?_
    rintro e w ⟨rfl, rfl⟩
    dsimp only
    go_wp2_with fail
    refine (QB.out _ _ H4.out).mono ?_
    rintro e w5 ⟨rfl, h5⟩
    dsimp only
    go_wp2
    go_ret2
    exact .inr ⟨h0, rfl, h5.tail⟩
theorem OKst.seen {st : St} {n s : Nat} {B : List ByteArray} (h : OKst NN st n s B) : st.seen = st.safe := by unfold St.seen; rw [h.pend]; rfl
/-- Open of a disk on which a log may have been under way -/
theorem open_rec (h : EnvP w0 w (dk p st :: rest)) (ho : st.off = false) (hopn : st.opn = false) (hp : st.pend = []) (h4 : 4 ≤ s) {n : Nat} (hn : st.safe.length = n) (hs : s < n) {B : List ByteArray} (hr : RecL NN st.safe s B) :
    Calls Tryz.prog 25 #[pt p, .int .i64 (s : Int)] w fun e w' =>
      (∃ q st', e = .returned (.tuple #[pt q, .int .i64 0]) ∧ EnvP w0 w' (lg q p s false :: dk p st' :: rest) ∧ OKst NN st' n s B ∧ (st.fall = 0 → st'.fall = 0)) ∨
      (∃ st', e = .returned (.tuple #[.pointer none, .int .i64 9]) ∧ EnvP w0 w' (dk p st' :: rest) ∧ OFFst st' n (fun L => RecL NN L s B) ∧ st.fall ≠ 0) := by
  have wf := h.wf 0 rfl
  have hhi := wf.hi
  have hseen : st.seen = st.safe := by unfold St.seen; rw [hp]; rfl
  have hpl : st.pend.length = 0 := by rw [hp]; rfl
  rcases hr with ⟨h0 | h0, hb⟩ | ⟨l, hl0, g, h0, hla, hb⟩
  · refine (open_with h ho h4 (by omega) (fun q w5 h5 => begin_zero h5 ho (by omega) (by omega) (by rw [hseen]; exact h0))).mono ?_
    intro e w' hh
    have out := rest_out (N := NN) hd_size (n := n) (s := s) (B := B) wf hp ho hopn hn (by omega) (.inl ⟨.inl h0, hb⟩) hb
    rcases hh with ⟨r0, q, rfl, h5⟩ | ⟨r0, rfl, h5⟩
    · rcases out with ⟨_, _, ok, f⟩ | ⟨_, _, r9, _⟩
      · exact .inl ⟨q, _, rfl, h5, ok, fun hf => by rw [f]; omega⟩
      · rw [r0] at r9; cases r9
    · rcases out with ⟨_, r1, _⟩ | ⟨f1, _, r9, off⟩
      · exact absurd r1 r0
      · exact .inr ⟨_, by rw [r9], h5, off, by omega⟩
  · refine (open_with h ho h4 (by omega) (fun q w5 h5 => begin_rest h5 ho hp (by omega) (by rw [hseen]; exact h0))).mono ?_
    intro e w' hh
    rcases hh with ⟨_, q, rfl, h5⟩ | ⟨r0, _⟩
    · exact .inl ⟨q, _, rfl, h5, ⟨wf, hp, ho, hopn, hn, h0, hb⟩, fun hf => hf⟩
    · exact absurd rfl r0
  · refine (open_with h ho h4 (by omega) (fun q w5 h5 => begin_redo h5 ho hp (by omega) l hl0 g (by rw [hseen]; exact hla) (by rw [hseen]; exact h0))).mono ?_
    intro e w' hh
    have out := fin_out (N := NN) hd_size wf hp ho hopn hn hl0 (hn ▸ g) h0 hla hb
    rcases hh with ⟨r0, q, rfl, h5⟩ | ⟨r0, rfl, h5⟩
    · rcases out with ⟨_, _, ok, f⟩ | ⟨_, _, r9, _⟩
      · exact .inl ⟨q, _, rfl, h5, ok, fun hf => by rw [f]; omega⟩
      · rw [r0] at r9; cases r9
    · rcases out with ⟨_, r1, _⟩ | ⟨f1, _, r9, off⟩
      · exact absurd r1 r0
      · exact .inr ⟨_, by rw [r9], h5, off, by omega⟩
/-- Open where the first sector says another size -/
theorem open_size (h : EnvP w0 w (dk p st :: rest)) {n s0 : Nat} {B : List ByteArray} (ok : OKst NN st n s0 B) (h0 : s0 < n) (z : Int) (hne : z ≠ (s0 : Int)) : Calls Tryz.prog 25 #[pt p, .int .i64 z] w fun e w' => e = .returned (.tuple #[.pointer none, .int .i64 1]) ∧ EnvP w0 w' (dk p st :: rest) := by
  by_cases hz : 4 ≤ z ∧ z < (st.safe.length : Int)
  · obtain ⟨s, rfl⟩ : ∃ s : Nat, z = (s : Int) := ⟨z.toNat, by omega⟩
    have hhi := ok.wf.hi
    have hl := ok.len
    refine (open_with h ok.off (by omega) (by omega) (fun q w5 h5 => begin_size h5 ok.off s0 0 (by omega) (by decide) (by rw [ok.seen]; exact ok.head) (by omega))).mono ?_
    rintro e w' (⟨r0, _⟩ | ⟨_, rfl, h5⟩)
    · cases r0
    · exact ⟨rfl, h5⟩
  · exact open_bad h ok.off z hz
/-- Open where the first sector says nothing -/
theorem open_torn (h : EnvP w0 w (dk p st :: rest)) (ho : st.off = false) (h4 : 4 ≤ s) (hs : s < st.safe.length) (t : ByteArray) (ht : st.seen[0]? = some t) (hz : t ≠ fl 0) (hn : NN.hd (numAt t 11) (numAt t 13) ≠ t) : Calls Tryz.prog 25 #[pt p, .int .i64 (s : Int)] w fun e w' => e = .returned (.tuple #[.pointer none, .int .i64 42]) ∧ EnvP w0 w' (dk p st :: rest) := by
  refine (open_with h ho h4 hs (fun q w5 h5 => begin_torn h5 ho t ht hz hn)).mono ?_
  rintro e w' (⟨r0, _⟩ | ⟨_, rfl, h5⟩)
  · cases r0
  · exact ⟨rfl, h5⟩
end Go.Proofs.YtghdgddpdamhcaaGreat
