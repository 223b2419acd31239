/- Versions, stacks: no model here. -/
import Derived.Test.YthbdaadhcheggaaMath
namespace Go.Proofs.Ythbdaadhcheggaa
set_option linter.unusedVariables false
set_option linter.unusedSimpArgs false
structure Vs where
  key : List UInt8
  seq : Int
  mkr : Bool
  data : List UInt8
  l : List En
noncomputable def sv (v u : Vs) : Bool := by classical exact decide (v = u)
theorem sv_true {v u : Vs} (h : v = u) : sv v u = true := by unfold sv; simp [h]
theorem sv_false {v u : Vs} (h : ¬ v = u) : sv v u = false := by unfold sv; simp [h]
theorem sv_iff {v u : Vs} : sv v u = true ↔ v = u := by unfold sv; simp
noncomputable def svL (a b : List Vs) : Bool := by classical exact decide (a = b)
theorem svL_true {v u : List Vs} (h : v = u) : svL v u = true := by unfold svL; simp [h]
theorem svL_false {v u : List Vs} (h : ¬ v = u) : svL v u = false := by unfold svL; simp [h]
theorem svL_iff {v u : List Vs} : svL v u = true ↔ v = u := by unfold svL; simp
theorem takeV {α : Type} {l : List α} {k : Nat} {p : α} (h : l[k]? = some p) : l.take (k + 1) = l.take k ++ [p] := by rw [List.take_add_one, h]; rfl
theorem take_nextV {α : Type} {a b : List α} {k : Nat} {p : α} (hp : a[k]? = some p) (hq : b[k]? = some p) (h : a.take k = b.take k) : a.take (k + 1) = b.take (k + 1) := by
  rw [takeV hp, takeV hq, h]
theorem take_neV {α : Type} {a b : List α} {k : Nat} {p q : α} (hp : a[k]? = some p) (hq : b[k]? = some q) (h : ¬ p = q) : ¬ a = b := by
  rintro rfl
  rw [hp] at hq
  injection hq with hq
  exact h hq
/-- where the version with a number stands -/
def plc : List Vs → Int → Option Nat
  | [], _ => none
  | v :: L, s => if v.seq = s then some 0 else (plc L s).map (· + 1)
theorem plc_some : ∀ {L : List Vs} {s : Int} {k : Nat}, plc L s = some k → (∃ v, L[k]? = some v ∧ v.seq = s) ∧ ∀ j v, j < k → L[j]? = some v → ¬ v.seq = s
  | [], s, k, h => by simp [plc] at h
  | v :: L, s, k, h => by
    unfold plc at h
    split at h
    · rename_i hv
      injection h with h
      subst h
      exact ⟨⟨v, rfl, hv⟩, fun j u hj => by omega⟩
    · rename_i hv
      cases hq : plc L s with
      | none => rw [hq] at h; cases h
      | some m =>
        rw [hq] at h
        simp only [Option.map_some, Option.some.injEq] at h
        subst h
        obtain ⟨⟨u, h1, h2⟩, h3⟩ := plc_some hq
        refine ⟨⟨u, by simpa using h1, h2⟩, fun j x hj hx => ?_⟩
        cases j with
        | zero => simp at hx; subst hx; exact hv
        | succ j => exact h3 j x (by omega) (by simpa using hx)
theorem plc_none : ∀ {L : List Vs} {s : Int}, plc L s = none → ∀ v ∈ L, ¬ v.seq = s
  | [], s, h, v, hv => by simp at hv
  | u :: L, s, h, v, hv => by
    unfold plc at h
    split at h
    · cases h
    · rename_i hu
      have h' : plc L s = none := by simpa using h
      rcases List.mem_cons.1 hv with rfl | hv
      · exact hu
      · exact plc_none h' v hv
theorem plc_at : ∀ {L : List Vs} {s : Int} {k : Nat} {v : Vs}, L[k]? = some v → v.seq = s → (∀ j u, j < k → L[j]? = some u → ¬ u.seq = s) → plc L s = some k
  | [], s, k, v, h, _, _ => by simp at h
  | u :: L, s, 0, v, h, hv, _ => by
    simp at h; subst h
    unfold plc; rw [if_pos hv]
  | u :: L, s, k + 1, v, h, hv, hj => by
    unfold plc
    rw [if_neg (hj 0 u (by omega) rfl), plc_at (L := L) (k := k) (v := v) (by simpa using h) hv (fun j x hx hq => hj (j + 1) x (by omega) (by simpa using hq))]
    rfl
theorem plc_no {L : List Vs} {s : Int} (h : ∀ v ∈ L, ¬ v.seq = s) : plc L s = none := by
  cases hq : plc L s with
  | none => rfl
  | some k =>
    obtain ⟨⟨v, h1, h2⟩, _⟩ := plc_some hq
    exact absurd h2 (h v (List.mem_of_getElem? h1))
def plcI (L : List Vs) (s : Int) : Int := match plc L s with
  | none => -1
  | some k => (k : Int)
theorem plcI_some {L : List Vs} {s : Int} {k : Nat} (h : plc L s = some k) : plcI L s = (k : Int) := by unfold plcI; rw [h]
theorem plcI_none {L : List Vs} {s : Int} (h : plc L s = none) : plcI L s = -1 := by unfold plcI; rw [h]
/-- the newest one -/
def lastV (L : List Vs) : Option Vs := L.getLast?
theorem lastV_at {L : List Vs} (h : 0 < L.length) : ∃ v, L[L.length - 1]? = some v ∧ lastV L = some v := by
  have hne : L ≠ [] := by rintro rfl; simp at h
  refine ⟨L.getLast hne, ?_, List.getLast?_eq_some_getLast hne⟩
  rw [List.getLast_eq_getElem]
  exact List.getElem?_eq_getElem (by omega)
theorem lastV_nil : lastV [] = none := rfl
/-- what Push answers, in number -/
noncomputable def puE (L : List Vs) (v : Vs) : Int := by
  classical exact match lastV L with
  | none => if v.seq < 1 then 74 else 0
  | some u => if ¬ u.key = v.key then 61 else if v.seq < 1 ∨ v.seq ≤ u.seq then 74 else 0
noncomputable def puL (L : List Vs) (v : Vs) : List Vs := by
  classical exact if puE L v = 0 then L ++ [v] else []
def vs0 : Vs := ⟨[], 0, false, [], []⟩
/-- what Top answers -/
noncomputable def toE (L : List Vs) : Int := match lastV L with
  | none => 72
  | some u => if u.mkr = true then 73 else 0
noncomputable def toV (L : List Vs) : Vs := match lastV L with
  | none => vs0
  | some u => if u.mkr = true then vs0 else u
/-- what Get answers -/
def geE (L : List Vs) (s : Int) : Int := match plc L s with
  | none => 72
  | some _ => 0
def geV (L : List Vs) (s : Int) : Vs := match plc L s with
  | none => vs0
  | some k => L.getD k vs0
/-- what Remove answers -/
def rmL (L : List Vs) (s : Int) : List Vs := match plc L s with
  | none => []
  | some k => L.take k ++ L.drop (k + 1)
noncomputable def snc (L : List Vs) (m : Int) : List Vs := L.filter (fun v => decide (m ≤ v.seq))
theorem snc_yes {L : List Vs} {m : Int} {v : Vs} (h : m ≤ v.seq) : snc (L ++ [v]) m = snc L m ++ [v] := by simp [snc, h]
theorem snc_no {L : List Vs} {m : Int} {v : Vs} (h : ¬ m ≤ v.seq) : snc (L ++ [v]) m = snc L m := by simp [snc, h]
theorem snc_len (L : List Vs) (m : Int) : (snc L m).length ≤ L.length := List.length_filter_le _ _
/-- a row -/
structure Rw where
  key : List UInt8
  seq : Int
  mkr : Bool
  size : Int
def rwOf (v : Vs) : Rw := ⟨v.key, v.seq, v.mkr, (v.data.length : Int)⟩
def rwsL (L : List Vs) : List Rw := L.reverse.map rwOf
noncomputable def rwb (a b : List Rw) : Bool := by classical exact decide (a = b)
theorem rwb_true {v u : List Rw} (h : v = u) : rwb v u = true := by unfold rwb; simp [h]
theorem rwb_false {v u : List Rw} (h : ¬ v = u) : rwb v u = false := by unfold rwb; simp [h]
end Go.Proofs.Ythbdaadhcheggaa
