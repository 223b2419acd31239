/- The document's way of taking a text apart is the program's where nothing is bad (no model). -/
import Derived.Test.YtahdndmmakdamaaQr
namespace Go.Proofs.Ytahdndmmakdamaa
set_option linter.unusedVariables false
set_option linter.unusedSimpArgs false
def qxv (w : Nat) (r : List UInt8) (f : Bool) : List UInt8 := qv (vl (qv w r f)) (qr w r f) (tb w r f)
def qxr (w : Nat) (r : List UInt8) (f : Bool) : List UInt8 := qr (vl (qv w r f)) (qr w r f) (tb w r f)
def qxf (w : Nat) (r : List UInt8) (f : Bool) : Bool := tb (vl (qv w r f)) (qr w r f) (tb w r f)
def Rel (r : List UInt8) (f : Bool) (r' : List UInt8) : Prop := f = false → r = r'
theorem tb_true (n : Nat) (r : List UInt8) : tb n r true = true := by unfold tb; split <;> rfl
theorem n_step {n : Nat} {r r' : List UInt8} {f : Bool} (h : Rel r f r') : tb n r f = tb n r' f ∧ Rel (qr n r f) (tb n r f) (tr n r') ∧ (tb n r f = false → qv n r f = tv n r') := by
  cases f with
  | true => exact ⟨by rw [tb_true, tb_true], (fun q => by rw [tb_true] at q; cases q), (fun q => by rw [tb_true] at q; cases q)⟩
  | false =>
    obtain rfl := h rfl
    exact ⟨rfl, fun _ => qr_f n r, fun _ => qv_f n r⟩
theorem x_step {w : Nat} {r r' : List UInt8} {f : Bool} (h : Rel r f r') : qxf w r f = xb w r' f ∧ Rel (qxr w r f) (qxf w r f) (xr w r') ∧ (qxf w r f = false → qxv w r f = xv w r') := by
  obtain ⟨a1, a2, a3⟩ := n_step (n := w) h
  unfold qxf xb qxr xr qxv xv
  cases hq : tb w r f with
  | true =>
    rw [hq] at a1
    rw [← a1, tb_true, tb_true]
    exact ⟨rfl, (fun q => by cases q), (fun q => by cases q)⟩
  | false =>
    rw [hq] at a1 a2
    have e1 := a3 hq
    have e2 := a2 rfl
    rw [e1, e2, ← a1]
    exact ⟨rfl, fun _ => qr_f _ _, fun _ => qv_f _ _⟩
theorem qxv_len (w : Nat) (r : List UInt8) (f : Bool) : (qxv w r f).length < 256 ^ w :=
  Nat.lt_of_le_of_lt (qv_len _ _ _) (Nat.lt_of_lt_of_le (vl_lt _) (Nat.pow_le_pow_right (by omega) (qv_len w r f)))
theorem qxr_len (w : Nat) (r : List UInt8) (f : Bool) : (qxr w r f).length ≤ r.length := Nat.le_trans (qr_len _ _ _) (qr_len _ _ _)
mutual
def dR : Nat → List UInt8 → Bool → List UInt8
  | 0, r, _ => r
  | k + 1, r, f => qxr 1 (qxr 1 (dR k r f) (dF k r f)) (qxf 1 (dR k r f) (dF k r f))
def dF : Nat → List UInt8 → Bool → Bool
  | 0, _, f => f
  | k + 1, r, f => qxf 1 (qxr 1 (dR k r f) (dF k r f)) (qxf 1 (dR k r f) (dF k r f))
end
def dL : Nat → List UInt8 → Bool → List En
  | 0, _, _ => []
  | k + 1, r, f => dL k r f ++ [⟨qxv 1 (dR k r f) (dF k r f), qxv 1 (qxr 1 (dR k r f) (dF k r f)) (qxf 1 (dR k r f) (dF k r f))⟩]
theorem dL_len (k : Nat) (r : List UInt8) (f : Bool) : (dL k r f).length = k := by
  induction k with
  | zero => rfl
  | succ k ih => simp [dL, ih]
theorem dR_len (k : Nat) (r : List UInt8) (f : Bool) : (dR k r f).length ≤ r.length := by
  induction k with
  | zero => rw [dR]; exact Nat.le_refl _
  | succ k ih => rw [dR]; exact Nat.le_trans (qxr_len _ _ _) (Nat.le_trans (qxr_len _ _ _) ih)
theorem dL_small (k : Nat) (r : List UInt8) (f : Bool) : ∀ e ∈ dL k r f, e.key.length < 256 ∧ e.val.length < 256 := by
  induction k with
  | zero => intro e he; cases he
  | succ k ih =>
    intro e he
    rw [dL, List.mem_append] at he
    rcases he with he | he
    · exact ih e he
    · simp only [List.mem_singleton] at he
      subst he
      exact ⟨by simpa using qxv_len 1 _ _, by simpa using qxv_len 1 _ _⟩
theorem d_step {r r' : List UInt8} {f : Bool} (h : Rel r f r') (k : Nat) : dF k r f = psB k r' f ∧ Rel (dR k r f) (dF k r f) (psR k r') ∧ (dF k r f = false → dL k r f = psL k r') := by
  induction k with
  | zero => rw [dF, dR]; exact ⟨rfl, h, fun _ => rfl⟩
  | succ k ih =>
    obtain ⟨i1, i2, i3⟩ := ih
    obtain ⟨a1, a2, a3⟩ := x_step (w := 1) i2
    obtain ⟨c1, c2, c3⟩ := x_step (w := 1) a2
    rw [dF, dR, psB, psR, dL, psL]
    refine ⟨by rw [c1, a1, i1], c2, fun q => ?_⟩
    have q1 : qxf 1 (dR k r f) (dF k r f) = false := by
      rw [c1] at q
      exact (xs_eq q).1
    have q2 : dF k r f = false := by
      have := q1
      rw [a1] at this
      exact (xs_eq this).1
    rw [i3 q2, a3 q1, c3 q]
theorem psB_up {k : Nat} {r : List UInt8} {f : Bool} (h : psB k r f = true) {n : Nat} (hn : k ≤ n) : psB n r f = true := by
  induction n with
  | zero =>
    obtain rfl : k = 0 := by omega
    exact h
  | succ n ih =>
    rcases Nat.eq_or_lt_of_le hn with e | e
    · rw [← e]; exact h
    · rw [psB, ih (by omega)]
      have e1 : ∀ z, xb 1 z true = true := fun z => by unfold xb; rw [tb_true, tb_true]
      rw [e1, e1]
/-- the document's parts of a text -/
def q2 (b : List UInt8) : List UInt8 := qr 8 (r1 b) (b1 b)
def f2 (b : List UInt8) : Bool := tb 8 (r1 b) (b1 b)
def qs (b : List UInt8) : Int := sgn (vl (qv 8 (r1 b) (b1 b)))
def qk (b : List UInt8) : List UInt8 := qxv 1 (q2 b) (f2 b)
def q3 (b : List UInt8) : List UInt8 := qxr 1 (q2 b) (f2 b)
def f3 (b : List UInt8) : Bool := qxf 1 (q2 b) (f2 b)
def qd (b : List UInt8) : List UInt8 := qxv 2 (q3 b) (f3 b)
def q4 (b : List UInt8) : List UInt8 := qxr 2 (q3 b) (f3 b)
def f4 (b : List UInt8) : Bool := qxf 2 (q3 b) (f3 b)
def qc (b : List UInt8) : Nat := vl (qv 1 (q4 b) (f4 b))
def q5 (b : List UInt8) : List UInt8 := qr 1 (q4 b) (f4 b)
def f5 (b : List UInt8) : Bool := tb 1 (q4 b) (f4 b)
theorem head_rel (b : List UInt8) : f3 b = b3 b (b1 b) ∧ Rel (q3 b) (f3 b) (r3 b) ∧ (f3 b = false → qk b = ky b ∧ qs b = sgn (sq b)) := by
  have h1 : Rel (r1 b) (b1 b) (r1 b) := fun _ => rfl
  obtain ⟨a1, a2, a3⟩ := n_step (n := 8) h1
  obtain ⟨c1, c2, c3⟩ := x_step (w := 1) a2
  refine ⟨c1, c2, fun q => ⟨c3 q, ?_⟩⟩
  have q1 : tb 8 (r1 b) (b1 b) = false := by
    have : xb 1 (tr 8 (r1 b)) (tb 8 (r1 b) (b1 b)) = false := by rw [← c1]; exact q
    exact (xs_eq this).1
  unfold qs sq
  rw [a3 q1]
theorem tail_rel (b : List UInt8) : f5 b = b5 b (b1 b) ∧ Rel (q5 b) (f5 b) (r5 b) ∧ (f5 b = false → qk b = ky b ∧ qs b = sgn (sq b) ∧ qd b = da b ∧ qc b = cn b) := by
  obtain ⟨h1, h2, h3⟩ := head_rel b
  obtain ⟨a1, a2, a3⟩ := x_step (w := 2) h2
  obtain ⟨c1, c2, c3⟩ := n_step (n := 1) a2
  have e4 : f4 b = b4 b (b1 b) := by
    unfold f4 b4
    rw [a1, h1]
  refine ⟨?_, c2, fun q => ?_⟩
  · unfold f5 b5
    rw [show tb 1 (q4 b) (f4 b) = tb 1 (r4 b) (f4 b) from c1, e4]
  · have q4' : f4 b = false := by
      have : tb 1 (r4 b) (f4 b) = false := by rw [← show tb 1 (q4 b) (f4 b) = tb 1 (r4 b) (f4 b) from c1]; exact q
      exact (tb_f this).2
    have q3' : f3 b = false := by
      have : xb 2 (r3 b) (f3 b) = false := by rw [← a1]; exact q4'
      exact (x_eq this).1
    obtain ⟨k1, k2⟩ := h3 q3'
    refine ⟨k1, k2, a3 q4', ?_⟩
    unfold qc cn
    rw [show qv 1 (q4 b) (f4 b) = tv 1 (r4 b) from c3 q]
/-- a marker -/
theorem doc_mk {b : List UInt8} (hk : kd b = 1) : (f3 b = false → pV b = ⟨qk b, qs b, true, [], []⟩ ∧ pB b (b1 b) = false) ∧ (f3 b = true → pB b (b1 b) = true) := by
  obtain ⟨h1, h2, h3⟩ := head_rel b
  have eB : pB b (b1 b) = f3 b := by unfold pB; rw [if_pos hk, h1]
  refine ⟨fun q => ⟨?_, by rw [eB]; exact q⟩, fun q => by rw [eB]; exact q⟩
  obtain ⟨k1, k2⟩ := h3 q
  unfold pV
  rw [if_pos hk, k1, k2]
/-- another -/
theorem doc_ob {b : List UInt8} (hk : ¬ kd b = 1) {k : Nat} (hn : k ≤ qc b) (he : k = qc b ∨ dF k (q5 b) (f5 b) = true) :
    (dF k (q5 b) (f5 b) = false → pV b = ⟨qk b, qs b, false, qd b, dL k (q5 b) (f5 b)⟩ ∧ pB b (b1 b) = false) ∧ (dF k (q5 b) (f5 b) = true → pB b (b1 b) = true) := by
  obtain ⟨t1, t2, t3⟩ := tail_rel b
  obtain ⟨d1, d2, d3⟩ := d_step t2 k
  have eB : pB b (b1 b) = psB (cn b) (r5 b) (f5 b) := by unfold pB; rw [if_neg hk, t1]
  refine ⟨fun q => ?_, fun q => ?_⟩
  · have q5' : f5 b = false := by
      have := q
      rw [d1] at this
      exact (ps_eq this).1
    obtain ⟨k1, k2, k3, k4⟩ := t3 q5'
    rcases he with he | he
    · subst he
      refine ⟨?_, ?_⟩
      · unfold pV
        rw [if_neg hk, k1, k2, k3, d3 q, k4]
      · rw [eB, ← k4, ← d1]; exact q
    · rw [q] at he; cases he
  · rw [eB]
    rw [d1] at q
    cases hf : f5 b with
    | true =>
      have : psB 0 (r5 b) true = true := rfl
      exact psB_up this (Nat.zero_le _)
    | false =>
      rw [hf] at q
      exact psB_up q (by rw [← (t3 hf).2.2.2]; exact hn)
end Go.Proofs.Ytahdndmmakdamaa
