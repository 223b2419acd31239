/- Layer 22: rows copied on to nothing; a list of commands as it is handed on. -/
import Derived.Test.YtgbkloihclbimaaDoorWw
namespace Go.Proofs.YtgbkloihclbimaaDoor
set_option maxRecDepth 100000
set_option linter.unusedVariables false
set_option linter.unusedSimpArgs false
open Go.RowKit
theorem ivs_len (l : List Int) : (ivs l).length = l.length := by simp [ivs]
theorem ivs_one (l : List Int) : ∀ u ∈ ivs l, u.oneCell' = true := by
  intro u hu
  unfold ivs at hu
  obtain ⟨n, _, rfl⟩ := List.mem_map.1 hu
  rfl
/-- a row of numbers, with its room -/
structure Si (w : World) (a : Option Addr) (cap : Nat) (l : List Int) : Prop where
  at' : ∀ k n, l[k]? = some n → ∃ b off, a = some ⟨b, off, none⟩ ∧ b < w.heap.size ∧ w.cell? ⟨b, off + k, none⟩ = some (.int .i64 n)
  le : l.length ≤ cap
  nil : a = none → cap = 0
theorem Si.later {w w' : World} {a : Option Addr} {cap : Nat} {l : List Int} (h : Si w a cap l) (hb : Below w.heap.size w w') : Si w' a cap l := by
  refine ⟨fun k n hk => ?_, h.le, h.nil⟩
  obtain ⟨b, off, e, hlt, hc⟩ := h.at' k n hk
  exact ⟨b, off, e, Nat.lt_of_lt_of_le hlt hb.size, by rw [hb.cell (p := ⟨b, _, none⟩) hlt]; exact hc⟩
theorem run_nilK (W : World) (a : Option Addr) (cap : Nat) (l : List Int) (hS : Si W a cap l) (hn : l.length ≤ 17000000000000) :
    ∃ va vc W', (∀ ty, (Builtin.append_ #[32, 32] ty #[.slice none 0 0, .slice a l.length cap]).run Tryd.prog W = .ok (.slice va l.length vc) W') ∧ W'.ownsRow W.heap.size 3 1 (.slice va l.length vc) l.length (ivs l) ∧ Below W.heap.size W W' := by
  obtain ⟨i0, hi0, hz0, hz1, hz2⟩ := info3
  have hm : maxLen = 9223372036854775807 := rfl
  have h0 : W.ownsRow W.heap.size 3 1 (.slice none 0 0) 0 [] := World.ownsRow_nil _ _ _ _
  cases a with
  | none =>
    have hc := hS.nil rfl
    have hl : l = [] := List.eq_nil_of_length_eq_zero (by have := hS.le; omega)
    subst hl hc
    exact ⟨none, 0, W, fun ty => run_append_owned_none (P := Tryd.prog) W W.heap.size 32 ty 3 i0 1 Tryd.underlying32 hi0 _ 0 [] h0, h0, Below.refl _ _⟩
  | some ad =>
    have hcells : ∀ j u, (ivs l)[j]? = some u → W.cell? (ad.add j) = some u := by
      intro j u hj
      unfold ivs at hj
      rw [List.getElem?_map] at hj
      cases hq : l[j]? with
      | none => rw [hq] at hj; cases hj
      | some n =>
        rw [hq] at hj
        injection hj with hj
        obtain ⟨b, off, e, _, hc⟩ := hS.at' j n hq
        injection e with e
        rw [e, addr_add, ← hj]; exact hc
    obtain ⟨v', w', hr, hown, hgrow, _⟩ := run_append_own_wide (P := Tryd.prog) (w := W) W.heap.size 32 32 3 i0 _ 1 8 Tryd.underlying32 hi0 hz0 hz1 hz2 rfl (by omega) (.slice none 0 0) 0 [] h0 ad l.length cap (ivs l) (by rw [ivs_len]; omega) hcells (ivs_one l) (by rw [hm]; omega) (by omega) (Nat.le_refl _)
    rw [Nat.zero_add, List.nil_append] at hown
    have hs : ∃ va vc, v' = .slice va l.length vc := by
      rcases hown.2 with ⟨e, h0⟩ | ⟨g, c, cur, e, _⟩
      · exact ⟨none, 0, by rw [e, h0]⟩
      · exact ⟨_, _, e⟩
    obtain ⟨va, vc, rfl⟩ := hs
    exact ⟨va, vc, w', fun ty => hr, hown, (Below.refl _ _).grown hgrow (Nat.le_refl _) (fun k0 hk0 => by simp [Value.ownBlock] at hk0)⟩
theorem run_nilM (W : World) (a : Option Addr) (cap : Nat) (l : List En) (hS : Sl W a cap l) (hn : l.length ≤ 4400000000000) :
    ∃ va vc W', (∀ ty, (Builtin.append_ #[31, 31] ty #[.slice none 0 0, .slice a l.length cap]).run Tryd.prog W = .ok (.slice va l.length vc) W') ∧ W'.ownsRow W.heap.size 38 2 (.slice va l.length vc) l.length (pcells l) ∧ Below W.heap.size W W' := by
  obtain ⟨i0, hi0, hz0, hz1, hz2⟩ := infoP
  have hm : maxLen = 9223372036854775807 := rfl
  have h0 : W.ownsRow W.heap.size 38 2 (.slice none 0 0) 0 [] := World.ownsRow_nil _ _ _ _
  cases a with
  | none =>
    have hc := hS.nil rfl
    have hl : l = [] := List.eq_nil_of_length_eq_zero (by have := hS.le; omega)
    subst hl hc
    exact ⟨none, 0, W, fun ty => run_append_owned_none (P := Tryd.prog) W W.heap.size 31 ty 38 i0 2 Tryd.underlying31 hi0 _ 0 [] h0, h0, Below.refl _ _⟩
  | some ad =>
    have hcells : ∀ j u, (pcells l)[j]? = some u → W.cell? (ad.add j) = some u := by
      rcases Nat.eq_zero_or_pos l.length with h0 | h0
      · have hq : l = [] := List.eq_nil_of_length_eq_zero h0
        subst hq
        intro j u hj
        simp [pcells] at hj
      · obtain ⟨b, off, e, _⟩ := hS.at'.get 0 l[0] (List.getElem?_eq_getElem h0)
        injection e with e
        subst e
        exact hS.at'.cells
    obtain ⟨v', w', hr, hown, hgrow, _⟩ := run_append_own_wide (P := Tryd.prog) (w := W) W.heap.size 31 31 38 i0 _ 2 32 Tryd.underlying31 hi0 hz0 hz1 hz2 rfl (by omega) (.slice none 0 0) 0 [] h0 ad l.length cap (pcells l) (pcells_length l) hcells (pcells_one l) (by rw [hm]; omega) (by omega) (Nat.le_refl _)
    rw [Nat.zero_add, List.nil_append] at hown
    have hs : ∃ va vc, v' = .slice va l.length vc := by
      rcases hown.2 with ⟨e, h0⟩ | ⟨g, c, cur, e, _⟩
      · exact ⟨none, 0, by rw [e, h0]⟩
      · exact ⟨_, _, e⟩
    obtain ⟨va, vc, rfl⟩ := hs
    exact ⟨va, vc, w', fun ty => hr, hown, (Below.refl _ _).grown hgrow (Nat.le_refl _) (fun k0 hk0 => by simp [Value.ownBlock] at hk0)⟩
/-- the commands that a slice holds, with their rows' room -/
def CT (w : World) (la : Option Addr) (L : List Cr) : Prop := ∀ k r, L[k]? = some r → ∃ b off, la = some ⟨b, off, none⟩ ∧ b < w.heap.size ∧ w.rangeAt b (off + k * 12) (ccl r) ∧ Sl w r.ma r.mc r.c.st.mt ∧ Si w r.ka r.kc r.c.st.kept
theorem CT.later {w w' : World} {la : Option Addr} {L : List Cr} (h : CT w la L) (hb : Below w.heap.size w w') : CT w' la L := fun k r hk => by
  obtain ⟨b, off, e, hlt, hr, h1, h2⟩ := h k r hk
  exact ⟨b, off, e, Nat.lt_of_lt_of_le hlt hb.size, fun j v hv => by rw [hb.cell (p := ⟨b, off + k * 12 + j, none⟩) hlt]; exact hr j v hv, h1.later hb, h2.later hb⟩
end Go.Proofs.YtgbkloihclbimaaDoor
