import Derived.Test.YthbdaadhcheggaaStc
/- Push. -/
namespace Go.Proofs.Ythbdaadhcheggaa
set_option linter.unusedVariables false
set_option linter.unusedSimpArgs false
open Go.RowKit
attribute [local go_sem ↓] Go.wp_at_zero Go.wp_at_succ
attribute [local go_sem ↓] slPe
/-- what lies in memory of a version that is handed on -/
structure Vi (w : World) (v : Vs) (a : Option Addr) (n c : Nat) : Prop where
  n : v.l.length = n
  s : Sl w a c v.l
  z : v.l.length ≤ 4398046510976
theorem Vi.later {w w' : World} {v : Vs} {a : Option Addr} {n c : Nat} (h : Vi w v a n c) (hb : Below w.heap.size w w') : Vi w' v a n c := ⟨h.n, h.s.later hb, h.z⟩
/-- a list that is handed on -/
structure Li (w : World) (L : List Vs) (a : Option Addr) (n c : Nat) : Prop where
  n : L.length = n
  s : Ls w a c L
  l : L.length ≤ 1954687338240
  z : ∀ v ∈ L, v.l.length ≤ 4398046510976
theorem Li.later {w w' : World} {L : List Vs} {a : Option Addr} {n c : Nat} (h : Li w L a n c) (hb : Below w.heap.size w w') : Li w' L a n c := ⟨h.n, h.s.later hb, h.l, h.z⟩
theorem puE_key {L : List Vs} {u v : Vs} (h : lastV L = some u) (hk : ¬ u.key = v.key) : puE L v = 61 := by unfold puE; rw [h]; simp only [hk, not_false_eq_true, ↓reduceIte]
theorem puE_seq {L : List Vs} {u v : Vs} (h : lastV L = some u) (hk : u.key = v.key) (hs : v.seq < 1 ∨ v.seq ≤ u.seq) : puE L v = 74 := by unfold puE; rw [h]; simp only [hk, not_true_eq_false, ↓reduceIte, if_pos hs]
theorem puE_ok {L : List Vs} {u v : Vs} (h : lastV L = some u) (hk : u.key = v.key) (hs : ¬ (v.seq < 1 ∨ v.seq ≤ u.seq)) : puE L v = 0 := by unfold puE; rw [h]; simp only [hk, not_true_eq_false, ↓reduceIte, if_neg hs]
theorem puE_nil {v : Vs} (h : v.seq < 1) : puE [] v = 74 := by unfold puE; rw [lastV_nil]; simp only [if_pos h]
theorem puE_nil0 {v : Vs} (h : ¬ v.seq < 1) : puE [] v = 0 := by unfold puE; rw [lastV_nil]; simp only [if_neg h]
theorem puL_no {L : List Vs} {v : Vs} {c : Int} (h : puE L v = c) (hc : c ≠ 0) : puL L v = [] := by unfold puL; rw [h, if_neg hc]
theorem puL_ok {L : List Vs} {v : Vs} (h : puE L v = 0) : puL L v = L ++ [v] := by unfold puL; rw [if_pos h]
end Go.Proofs.Ythbdaadhcheggaa

/- Top, Get, and the document's. -/
namespace Go.Proofs.Ythbdaadhcheggaa
set_option linter.unusedVariables false
set_option linter.unusedSimpArgs false
open Go.RowKit
attribute [local go_sem ↓] Go.wp_at_zero Go.wp_at_succ
attribute [local go_sem ↓] slPe
/-- a version of one's own is answered, and a number -/
def RV (w w' : World) (e : Ending) (u : Vs) (c : Int) : Prop := ∃ a' c', e = .returned (.tuple #[vv u.key u.seq u.mkr u.data a' u.l.length c', .int .i64 c]) ∧ Ow w.heap.size w' (.slice a' u.l.length c') u.l ∧ Below w.heap.size w w'
theorem results_ct {fn : Func} {p t : Tmp} {ty : TypeId} (h : fn.results = #[.cell p ty, .tmp t]) (tmps : Array Value) (P : Program) (w : World) :
    (results fn tmps).run P w = ((asAddr (tmps.getD p undef)).run P w).andThen fun a w₁ => ((loadVar ty a).run P w₁).andThen fun v w₂ => .ok (.tuple #[v, tmps.getD t undef]) w₂ := by
  simp only [results, h]
  simp [Sem.run_bind, Result.andThen]
theorem toE_nil : toE [] = 72 := rfl
theorem toV_nil : toV [] = vs0 := rfl
theorem toE_mk {L : List Vs} {u : Vs} (h : lastV L = some u) (hm : u.mkr = true) : toE L = 73 := by unfold toE; rw [h]; simp [hm]
theorem toV_mk {L : List Vs} {u : Vs} (h : lastV L = some u) (hm : u.mkr = true) : toV L = vs0 := by unfold toV; rw [h]; simp [hm]
theorem toE_ok {L : List Vs} {u : Vs} (h : lastV L = some u) (hm : u.mkr = false) : toE L = 0 := by unfold toE; rw [h]; simp [hm]
theorem toV_ok {L : List Vs} {u : Vs} (h : lastV L = some u) (hm : u.mkr = false) : toV L = u := by unfold toV; rw [h]; simp [hm]
/-- the end of a call: the box with what is answered, and a number -/
theorem rv_zero {w W : World} {c : Int} (hB : Below w.heap.size w W) : RV w W (.returned (.tuple #[vv [] 0 false [] none 0 0, .int .i64 c])) vs0 c := ⟨none, 0, rfl, Ow.nil _ _ hB.size, hB⟩
theorem lastV_len {L : List Vs} (h : ¬ L.length = 0) : ∃ v, L[L.length - 1]? = some v ∧ lastV L = some v := lastV_at (by omega)
theorem geE_none {L : List Vs} {s : Int} (h : plc L s = none) : geE L s = 72 ∧ geV L s = vs0 := by unfold geE geV; rw [h]; exact ⟨rfl, rfl⟩
theorem geE_some {L : List Vs} {s : Int} {k : Nat} {v : Vs} (h : plc L s = some k) (hv : L[k]? = some v) : geE L s = 0 ∧ geV L s = v := by
  unfold geE geV; rw [h]
  refine ⟨rfl, ?_⟩
  show L.getD k vs0 = v
  rw [List.getD_eq_getElem?_getD, hv]; rfl
end Go.Proofs.Ythbdaadhcheggaa

/- Remove, and the document's. -/
namespace Go.Proofs.Ythbdaadhcheggaa
set_option linter.unusedVariables false
set_option linter.unusedSimpArgs false
open Go.RowKit
attribute [local go_sem ↓] Go.wp_at_zero Go.wp_at_succ
noncomputable def slV (v : Value) (a b c : Option Value) : Sem Value := Instr.slice 22 v a b c
theorem slVe (v : Value) (a b c : Option Value) : Instr.slice 22 v a b c = slV v a b c := rfl
theorem run_slV (a : Option Addr) (len cap n : Nat) (h1 : n ≤ cap) (h3 : cap ≤ 9223372036854775807) (hn : a = none → cap = 0) (w : World) : (slV (.slice a len cap) none (some (.int .i64 (n : Int))) none).run Try.prog w = .ok (.slice a n cap) w := by
  unfold slV
  cases a with
  | none =>
    obtain rfl := hn rfl
    obtain rfl : n = 0 := by omega
    simp [Instr.slice, Try.underlying22, go_sem]
  | some ad =>
    simp [Instr.slice, Try.underlying22, go_sem]
    intro hc
    omega
theorem run_slV_lo (a : Option Addr) (len cap n : Nat) (h1 : n ≤ len) (h2 : len ≤ cap) (h3 : cap ≤ 9223372036854775807) (hn : a = none → cap = 0) (w : World) : (slV (.slice a len cap) (some (.int .i64 (n : Int))) none none).run Try.prog w = .ok (.slice (dropV a cap n) (len - n) (cap - n)) w := by
  unfold slV
  cases a with
  | none =>
    obtain rfl := hn rfl
    obtain rfl : len = 0 := by omega
    obtain rfl : n = 0 := by omega
    simp [Instr.slice, Try.underlying22, go_sem, dropV]
  | some ad =>
    obtain ⟨i0, hi0, hz0, hz1, hz2⟩ := infoV
    have c : ¬ ((len : Int) < (n : Int)) := by omega
    have c2 : ¬ ((cap : Int) < (len : Int)) := by omega
    by_cases h : cap - n = 0
    · have : cap = n := by omega
      subst this
      have : len = cap := by omega
      subst this
      simp [Instr.slice, Try.underlying22, go_sem, dropV, c, c2, hi0, hz1, sizeOf, typeInfo]
    · have h' : cap ≠ n := by omega
      simp [Instr.slice, Try.underlying22, go_sem, dropV, h, h', h1, c, c2, hi0, hz1, sizeOf, typeInfo]
theorem Li.take {w : World} {L : List Vs} {a : Option Addr} {n c : Nat} (h : Li w L a n c) {k : Nat} (hk : k ≤ n) : Li w (L.take k) a k c := by
  have hn := h.n
  refine ⟨by rw [List.length_take]; omega, h.s.take k, by have := h.l; rw [List.length_take]; omega, fun v hv => h.z v (List.mem_of_mem_take hv)⟩
theorem Li.drop {w : World} {L : List Vs} {a : Option Addr} {n c : Nat} (h : Li w L a n c) {k : Nat} (hk : k ≤ n) : Li w (L.drop k) (dropV a c k) (n - k) (c - k) := by
  have hn := h.n
  refine ⟨by rw [List.length_drop]; omega, h.s.drop k (by omega), by have := h.l; rw [List.length_drop]; omega, fun v hv => h.z v (List.mem_of_mem_drop hv)⟩
theorem rmL_none {L : List Vs} {s : Int} (h : plc L s = none) : rmL L s = [] := by unfold rmL; rw [h]
theorem rmL_some {L : List Vs} {s : Int} {k : Nat} (h : plc L s = some k) : rmL L s = L.take k ++ L.drop (k + 1) := by unfold rmL; rw [h]
attribute [local go_sem ↓] slVe
end Go.Proofs.Ythbdaadhcheggaa

/- copies, and the document's Own and Copy. -/
namespace Go.Proofs.Ythbdaadhcheggaa
set_option linter.unusedVariables false
set_option linter.unusedSimpArgs false
open Go.RowKit
attribute [local go_sem ↓] Go.wp_at_zero Go.wp_at_succ
attribute [local go_sem ↓] slPe
end Go.Proofs.Ythbdaadhcheggaa
