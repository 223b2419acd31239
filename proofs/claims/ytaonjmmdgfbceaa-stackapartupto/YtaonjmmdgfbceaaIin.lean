/- Numbers that came in. -/
import Derived.Test.YtaonjmmdgfbceaaTol
namespace Go.Proofs.Ytaonjmmdgfbceaa
set_option linter.unusedVariables false
set_option linter.unusedSimpArgs false
open Go.RowKit
structure IIn (w : World) (a : Option Addr) (zs : List Int) : Prop where
  get : ∀ (k : Nat) z, zs[k]? = some z → ∃ b off, a = some ⟨b, off, none⟩ ∧ b < w.heap.size ∧ w.cell? ⟨b, off + k, none⟩ = some (.int .i64 z) ∧ -9223372036854775808 ≤ z ∧ z ≤ 9223372036854775807
theorem IIn.later {w w' : World} {a : Option Addr} {zs : List Int} (h : IIn w a zs) (hb : Below w.heap.size w w') : IIn w' a zs := ⟨fun k z hk => by
  obtain ⟨b, off, h1, h2, h3, h4⟩ := h.get k z hk
  exact ⟨b, off, h1, Nat.lt_of_lt_of_le h2 hb.size, (hb.cell (p := ⟨b, _, none⟩) h2).trans h3, h4⟩⟩
/-- what Push of a right stack makes -/
theorem push_rt {S : List Vs} {u : Vs} (h : Rt S) (hp : puE S u = 0) : Rt (S ++ [u]) := by
  have h1 : 1 ≤ u.seq ∧ ∀ v, lastV S = some v → v.key = u.key ∧ v.seq < u.seq := by
    unfold puE at hp
    split at hp
    · rename_i hl
      split at hp
      · cases hp
      · exact ⟨by omega, fun v hv => by rw [hl] at hv; cases hv⟩
    · rename_i v hl
      split at hp
      · cases hp
      · rename_i hk
        split at hp
        · cases hp
        · rename_i hs
          refine ⟨by omega, fun x hx => ?_⟩
          rw [hl] at hx
          injection hx with hx
          subst hx
          exact ⟨Classical.byContradiction hk, by omega⟩
  have h2 : ∀ v ∈ S, v.key = u.key ∧ v.seq < u.seq := by
    intro v hv
    obtain ⟨j, hj⟩ := List.getElem?_of_mem hv
    have hl := (List.getElem?_eq_some_iff.1 hj).1
    obtain ⟨t, ht, hlt⟩ := lastV_at (L := S) (by omega)
    obtain ⟨q1, q2⟩ := h1.2 t hlt
    refine ⟨by rw [h.key v hv t (List.mem_of_getElem? ht)]; exact q1, ?_⟩
    by_cases hj1 : j = S.length - 1
    · subst hj1
      rw [ht] at hj
      injection hj with hj
      subst hj
      exact q2
    · have := h.lt (i := j) (j := S.length - 1) (by omega) hj ht
      omega
  refine ⟨fun v hv => ?_, fun v hv x hx => ?_, ?_⟩
  · rcases List.mem_append.1 hv with q | q
    · exact h.one v q
    · simp at q; subst q; exact h1.1
  · rcases List.mem_append.1 hv with q | q
    · rcases List.mem_append.1 hx with r | r
      · exact h.key v q x r
      · simp at r; subst r; exact (h2 v q).1
    · simp at q
      subst q
      rcases List.mem_append.1 hx with r | r
      · exact ((h2 x r).1).symm
      · simp at r; subst r; rfl
  · rw [List.pairwise_append]
    exact ⟨h.up, List.pairwise_singleton _ _, fun v hv x hx => by simp at hx; subst hx; exact (h2 v hv).2⟩
theorem push_back {S : List Vs} {u : Vs} (h : Rt (S ++ [u])) : geE (S ++ [u]) u.seq = 0 ∧ rmL (S ++ [u]) u.seq = S := by
  have hu : (S ++ [u])[S.length]? = some u := by simp
  refine ⟨(rt_get h hu).1, ?_⟩
  unfold rmL
  rw [rt_plc h hu]
  show (S ++ [u]).take S.length ++ (S ++ [u]).drop (S.length + 1) = S
  simp
theorem rm_gone {S : List Vs} {r : Int} (h : Rt S) (hg : geE S r = 0) : geE (rmL S r) r = 72 ∧ (rmL S r).length + 1 = S.length := by
  obtain ⟨k, hk⟩ := plc_ex.1 hg
  constructor
  · rcases geE_two (rmL S r) r with q | q
    · exfalso
      obtain ⟨v, hv, hs⟩ := geE_mem q
      rw [rmL_wo h.up hk] at hv
      have := (List.mem_filter.1 hv).2
      simp at this
      exact this hs
    · exact q
  · obtain ⟨⟨v, h1, _⟩, _⟩ := plc_some hk
    have hl := (List.getElem?_eq_some_iff.1 h1).1
    unfold rmL
    rw [hk]
    show (S.take k ++ S.drop (k + 1)).length + 1 = S.length
    rw [List.length_append, List.length_take, List.length_drop]
    omega
theorem puL_yes {S : List Vs} {u : Vs} (h : puE S u = 0) : puL S u = S ++ [u] := by unfold puL; rw [if_pos h]
theorem puL_nix {S : List Vs} {u : Vs} (h : ¬ puE S u = 0) : puL S u = [] := by unfold puL; rw [if_neg h]
/-- the stack that grows -/
structure Gs (S : List Vs) (k : Nat) : Prop where
  rt : Rt S
  len : S.length ≤ k
  hi : ∀ u ∈ S, u.seq ≤ 9223372036854775807
  z : ∀ u ∈ S, u.l.length ≤ 4398046510976
theorem Gs.nil (k : Nat) : Gs [] k := ⟨⟨by simp, by simp, List.Pairwise.nil⟩, by simp, by simp, by simp⟩
theorem Gs.up {S : List Vs} {k : Nat} (h : Gs S k) : Gs S (k + 1) := ⟨h.rt, by have := h.len; omega, h.hi, h.z⟩
theorem Gs.push {S : List Vs} {u : Vs} {k : Nat} (h : Gs S k) (hp : puE S u = 0) (h6 : u.seq ≤ 9223372036854775807) (hz : u.l.length ≤ 4398046510976) : Gs (S ++ [u]) (k + 1) :=
  ⟨push_rt h.rt hp, by have := h.len; simp; omega, fun v hv => by
    rcases List.mem_append.1 hv with q | q
    · exact h.hi v q
    · simp at q; subst q; exact h6, fun v hv => by
    rcases List.mem_append.1 hv with q | q
    · exact h.z v q
    · simp at q; subst q; exact hz⟩
theorem Gs.rem {S : List Vs} {k : Nat} (h : Gs S k) (r : Int) : Gs (rmL S r) k :=
  ⟨h.rt.sub (rmL_sub S r), Nat.le_trans (rmL_len S r) h.len, fun v hv => h.hi v (rmL_mem v hv), fun v hv => h.z v (rmL_mem v hv)⟩
end Go.Proofs.Ytaonjmmdgfbceaa
