/- Stacks that are right; a stack that is made; what is taken out of it: nearly no model here. -/
import Derived.Test.YtaonjmmdgfbceaaAsW
namespace Go.Proofs.Ytaonjmmdgfbceaa
set_option linter.unusedVariables false
set_option linter.unusedSimpArgs false
open Go.RowKit
def a3 (s : Int) : Int := bits .and .i64 s 3
theorem a3_eq (s : Int) : bits .and .i64 s 3 = a3 s := rfl
theorem a3_bd (s : Int) : 0 ≤ a3 s ∧ a3 s ≤ 3 := by
  have h : (BitVec.ofInt 64 s &&& BitVec.ofInt 64 3).toNat ≤ 3 := by
    rw [BitVec.toNat_and]
    exact Nat.le_trans Nat.and_le_right (by decide)
  have e : a3 s = IntKind.i64.wrap ((BitVec.ofInt 64 s &&& BitVec.ofInt 64 3).toNat : Int) := rfl
  rw [e]
  generalize (BitVec.ofInt 64 s &&& BitVec.ofInt 64 3).toNat = n at h
  have : IntKind.i64.wrap (n : Int) = (n : Int) := by
    rw [IntKind.wrap_i64]
    omega
  rw [this]; omega
/-- a stack that is made of any versions -/
def md (key : List UInt8) : Int → List Vs → List Vs
  | _, [] => []
  | s, v :: L => ⟨key, s + 1 + a3 v.seq, v.mkr, v.data, v.l⟩ :: md key (s + 1 + a3 v.seq) L
def mdE : Int → List Vs → Int
  | s, [] => s
  | s, v :: L => mdE (s + 1 + a3 v.seq) L
theorem md_append (key : List UInt8) : ∀ (s : Int) (A B : List Vs), md key s (A ++ B) = md key s A ++ md key (mdE s A) B
  | s, [], B => rfl
  | s, v :: A, B => by simp only [List.cons_append, md, mdE, md_append key _ A B]
theorem mdE_append : ∀ (s : Int) (A B : List Vs), mdE s (A ++ B) = mdE (mdE s A) B
  | s, [], B => rfl
  | s, v :: A, B => by simp only [List.cons_append, mdE, mdE_append _ A B]
theorem mdE_bd : ∀ (s : Int) (A : List Vs), s ≤ mdE s A ∧ mdE s A ≤ s + 4 * A.length
  | s, [] => by simp [mdE]
  | s, v :: A => by
    have h1 := mdE_bd (s + 1 + a3 v.seq) A
    have h2 := a3_bd v.seq
    simp only [mdE, List.length_cons]
    omega
theorem md_len (key : List UInt8) : ∀ (s : Int) (A : List Vs), (md key s A).length = A.length
  | s, [] => rfl
  | s, v :: A => by simp [md, md_len key _ A]
theorem md_mem (key : List UInt8) : ∀ (s : Int) (A : List Vs), ∀ v ∈ md key s A, v.key = key ∧ s < v.seq ∧ v.seq ≤ mdE s A ∧ ∃ u ∈ A, v.l = u.l ∧ v.data = u.data
  | s, [], v, h => by simp [md] at h
  | s, u :: A, v, h => by
    have h2 := a3_bd u.seq
    have h3 := mdE_bd (s + 1 + a3 u.seq) A
    simp only [md, List.mem_cons] at h
    rcases h with rfl | h
    · exact ⟨rfl, by show s < s + 1 + a3 u.seq; omega, by simp only [mdE]; exact h3.1, u, by simp, rfl, rfl⟩
    · obtain ⟨q1, q2, q3, x, hx, q4⟩ := md_mem key _ A v h
      exact ⟨q1, by omega, by simpa only [mdE] using q3, x, by simp [hx], q4⟩
theorem md_step (key : List UInt8) {L : List Vs} {k : Nat} {u : Vs} (h : L[k]? = some u) : md key 0 (L.take (k + 1)) = md key 0 (L.take k) ++ [⟨key, mdE 0 (L.take k) + 1 + a3 u.seq, u.mkr, u.data, u.l⟩] ∧ mdE 0 (L.take (k + 1)) = mdE 0 (L.take k) + 1 + a3 u.seq := by
  rw [takeV h, md_append, mdE_append]
  exact ⟨rfl, rfl⟩
/-- a right stack -/
structure Rt (L : List Vs) : Prop where
  one : ∀ v ∈ L, 1 ≤ v.seq
  key : ∀ v ∈ L, ∀ u ∈ L, v.key = u.key
  up : L.Pairwise (fun v u => v.seq < u.seq)
theorem md_up (key : List UInt8) : ∀ (s : Int) (A : List Vs), (md key s A).Pairwise (fun v u => v.seq < u.seq)
  | s, [] => List.Pairwise.nil
  | s, v :: A => List.Pairwise.cons (fun u hu => (md_mem key _ A u hu).2.1) (md_up key _ A)
theorem md_rt (key : List UInt8) (A : List Vs) : Rt (md key 0 A) :=
  ⟨fun v hv => by have := (md_mem key 0 A v hv).2.1; omega, fun v hv u hu => by rw [(md_mem key 0 A v hv).1, (md_mem key 0 A u hu).1], md_up key 0 A⟩
theorem Rt.sub {L M : List Vs} (h : Rt L) (hs : List.Sublist M L) : Rt M :=
  ⟨fun v hv => h.one v (hs.subset hv), fun v hv u hu => h.key v (hs.subset hv) u (hs.subset hu), h.up.sublist hs⟩
theorem Rt.lt {L : List Vs} (h : Rt L) {i j : Nat} {u v : Vs} (hij : i < j) (hu : L[i]? = some u) (hv : L[j]? = some v) : u.seq < v.seq := by
  obtain ⟨a1, rfl⟩ := List.getElem?_eq_some_iff.1 hu
  obtain ⟨a2, rfl⟩ := List.getElem?_eq_some_iff.1 hv
  exact List.pairwise_iff_getElem.1 h.up i j a1 a2 hij
theorem rmL_sub (L : List Vs) (s : Int) : List.Sublist (rmL L s) L := by
  unfold rmL
  split
  · exact List.nil_sublist _
  · rename_i k _
    rw [← List.eraseIdx_eq_take_drop_succ]
    exact List.eraseIdx_sublist _ _
theorem snc_sub (L : List Vs) (m : Int) : List.Sublist (snc L m) L := List.filter_sublist
def wo (L : List Vs) (s : Int) : List Vs := L.filter (fun v => decide (¬ v.seq = s))
theorem wo_none {L : List Vs} {s : Int} (h : ∀ v ∈ L, ¬ v.seq = s) : wo L s = L := by
  unfold wo
  rw [List.filter_eq_self]
  intro v hv
  exact decide_eq_true (h v hv)
theorem rmL_wo : ∀ {L : List Vs} {s : Int} {k : Nat}, L.Pairwise (fun v u => v.seq < u.seq) → plc L s = some k → rmL L s = wo L s
  | [], s, k, _, h => by simp [plc] at h
  | v :: L, s, k, hp, h => by
    obtain ⟨h1, h2⟩ := List.pairwise_cons.1 hp
    unfold rmL
    rw [h]
    show (v :: L).take k ++ (v :: L).drop (k + 1) = _
    unfold plc at h
    split at h
    · rename_i hv
      injection h with h
      subst h
      have : wo (v :: L) s = wo L s := by unfold wo; rw [List.filter_cons_of_neg (by simp [hv])]
      rw [this, wo_none (fun u hu q => by have := h1 u hu; omega)]
      rfl
    · rename_i hv
      cases hq : plc L s with
      | none => rw [hq] at h; cases h
      | some m =>
        rw [hq] at h
        simp only [Option.map_some, Option.some.injEq] at h
        subst h
        have ih := rmL_wo h2 hq
        unfold rmL at ih
        rw [hq] at ih
        have : wo (v :: L) s = v :: wo L s := by unfold wo; rw [List.filter_cons_of_pos (by simp [hv])]
        rw [this, ← ih]
        rfl
theorem plc_ex {L : List Vs} {s : Int} : geE L s = 0 ↔ ∃ k, plc L s = some k := by
  unfold geE
  cases plc L s with
  | none => simp
  | some k => simp
theorem plc_mem {L : List Vs} {s : Int} (h : ∃ v ∈ L, v.seq = s) : ∃ k, plc L s = some k := by
  cases hq : plc L s with
  | none =>
    obtain ⟨v, h1, h2⟩ := h
    exact absurd h2 (plc_none hq v h1)
  | some k => exact ⟨k, rfl⟩
theorem geE_two (L : List Vs) (s : Int) : geE L s = 0 ∨ geE L s = 72 := by
  unfold geE
  cases plc L s with
  | none => exact .inr rfl
  | some k => exact .inl rfl
theorem geE_mem {L : List Vs} {s : Int} (h : geE L s = 0) : ∃ v ∈ L, v.seq = s := by
  obtain ⟨k, hk⟩ := plc_ex.1 h
  obtain ⟨⟨v, h1, h2⟩, _⟩ := plc_some hk
  exact ⟨v, List.mem_of_getElem? h1, h2⟩
theorem mem_geE {L : List Vs} {s : Int} (h : ∃ v ∈ L, v.seq = s) : geE L s = 0 := plc_ex.2 (plc_mem h)
/-- two that are taken out, in either order -/
theorem rm_two {L : List Vs} (hL : Rt L) {s t : Int} (hs : geE L s = 0) (ht : geE L t = 0) (hst : ¬ s = t) :
    geE (rmL L s) t = 0 ∧ geE (rmL L t) s = 0 ∧ rmL (rmL L s) t = rmL (rmL L t) s := by
  obtain ⟨i, hi⟩ := plc_ex.1 hs
  obtain ⟨j, hj⟩ := plc_ex.1 ht
  obtain ⟨v, hv, hvs⟩ := geE_mem hs
  obtain ⟨u, hu, hut⟩ := geE_mem ht
  have e1 := rmL_wo hL.up hi
  have e2 := rmL_wo hL.up hj
  have g1 : geE (rmL L s) t = 0 := mem_geE ⟨u, by rw [e1]; unfold wo; rw [List.mem_filter]; exact ⟨hu, decide_eq_true (by rw [hut]; exact fun q => hst q.symm)⟩, hut⟩
  have g2 : geE (rmL L t) s = 0 := mem_geE ⟨v, by rw [e2]; unfold wo; rw [List.mem_filter]; exact ⟨hv, decide_eq_true (by rw [hvs]; exact hst)⟩, hvs⟩
  refine ⟨g1, g2, ?_⟩
  obtain ⟨k1, hk1⟩ := plc_ex.1 g1
  obtain ⟨k2, hk2⟩ := plc_ex.1 g2
  rw [rmL_wo (hL.sub (rmL_sub L s)).up hk1, rmL_wo (hL.sub (rmL_sub L t)).up hk2, e1, e2]
  unfold wo
  rw [List.filter_filter, List.filter_filter]
  congr 1
  funext x
  exact Bool.and_comm _ _
/-- from a number on -/
theorem snc_drop : ∀ {L : List Vs} (m : Int), L.Pairwise (fun v u => v.seq < u.seq) → ∃ n, n ≤ L.length ∧ snc L m = L.drop n ∧ (∀ k v, k < n → L[k]? = some v → v.seq < m) ∧ ∀ k v, n ≤ k → L[k]? = some v → m ≤ v.seq
  | [], m, _ => ⟨0, by simp, rfl, fun k v hk => by omega, fun k v _ hv => by simp at hv⟩
  | u :: L, m, hp => by
    obtain ⟨h1, h2⟩ := List.pairwise_cons.1 hp
    by_cases hm : m ≤ u.seq
    · refine ⟨0, by simp, ?_, fun k v hk => by omega, fun k v _ hv => ?_⟩
      · unfold snc
        rw [List.drop_zero, List.filter_eq_self]
        intro v hv
        rcases List.mem_cons.1 hv with rfl | hv
        · exact decide_eq_true hm
        · exact decide_eq_true (by have := h1 v hv; omega)
      · rcases List.mem_cons.1 (List.mem_of_getElem? hv) with rfl | hv
        · exact hm
        · have := h1 v hv; omega
    · obtain ⟨n, q1, q2, q3, q4⟩ := snc_drop m h2
      refine ⟨n + 1, by simp; omega, ?_, fun k v hk hv => ?_, fun k v hk hv => ?_⟩
      · unfold snc at q2 ⊢
        rw [List.filter_cons_of_neg (by simp; omega), q2]
        rfl
      · cases k with
        | zero => simp at hv; subst hv; omega
        | succ k => exact q3 k v (by omega) (by simpa using hv)
      · cases k with
        | zero => omega
        | succ k => exact q4 k v (by omega) (by simpa using hv)
end Go.Proofs.Ytaonjmmdgfbceaa
