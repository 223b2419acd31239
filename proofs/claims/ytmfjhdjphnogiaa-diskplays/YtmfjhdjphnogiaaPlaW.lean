/- DiskPlays' walk. -/
import Derived.Test.YtmfjhdjphnogiaaPlaC
import Derived.Test.YtmfjhdjphnogiaaHead
namespace Go.Proofs.Ytmfjhdjphnogiaa
set_option linter.unusedVariables false
set_option linter.unusedSimpArgs false
open Go.RowKit
/-- the steps that a slice holds -/
structure OIn (w : World) (a : Option Addr) (l : List Opx) : Prop where
  get : ∀ (k : Nat) o, l[k]? = some o → ∃ b off, a = some ⟨b, off, none⟩ ∧ b < w.heap.size ∧ (w.cell? ⟨b, off + k * 5, none⟩ = some (.int .i64 o.kd) ∧ w.cell? ⟨b, off + k * 5 + 1, none⟩ = some (.int .i64 o.n) ∧ w.cell? ⟨b, off + k * 5 + 2, none⟩ = some (.string o.t) ∧ w.cell? ⟨b, off + k * 5 + 3, none⟩ = some (.bool o.ev) ∧ w.cell? ⟨b, off + k * 5 + 4, none⟩ = some (.slice o.ka o.zs.length o.kc)) ∧ o.ok w
/-- the one that was copied from, if there is one -/
def Old (M : Nat) (v u : Value) (rest : List (Th → Prop)) : Prop := (v = .pointer none ∧ u = .pointer none ∧ rest = []) ∨ ∃ p q st, v = pt p ∧ u = pt q ∧ rest = [dk p st, rk q st] ∧ st.pend.length ≤ M
theorem Old.mono {M M' : Nat} {v u : Value} {rest : List (Th → Prop)} (h : Old M v u rest) (hm : M ≤ M') : Old M' v u rest := by
  rcases h with h | ⟨p, q, st, h1, h2, h3, h4⟩
  · exact .inl h
  · exact .inr ⟨p, q, st, h1, h2, h3, Nat.le_trans h4 hm⟩
theorem next7 (o : Opx) (st : St) (h : o.kd = 7) : o.next st = st := by
  unfold Opx.next
  rw [h]
  simp
theorem env_copy {w0 w : World} {p q p' q' : Nat} {st : St} {rest : List (Th → Prop)} (h : EnvP w0 w (dk p st :: rk q st :: rest ++ [dk p' st] ++ [rk q' st])) : EnvP w0 w [dk p' st, rk q' st, dk p st, rk q st] := by
  refine h.remap (fun i => match i with | 0 => rest.length + 2 | 1 => rest.length + 3 | 2 => 0 | _ => 1) ?_ ?_
  · intro i s hi
    match i with
    | 0 =>
      have e : s = dk p' st := by simpa using hi.symm
      subst e
      show (dk p st :: rk q st :: rest ++ [dk p' st] ++ [rk q' st])[rest.length + 2]? = _
      simp
    | 1 =>
      have e : s = rk q' st := by simpa using hi.symm
      subst e
      show (dk p st :: rk q st :: rest ++ [dk p' st] ++ [rk q' st])[rest.length + 3]? = _
      simp
    | 2 => simpa using hi
    | 3 => simpa using hi
    | i + 4 => simp at hi
  · intro i j hi hj e
    simp at hi hj
    match i, j with
    | 0, 0 => rfl
    | 0, 1 => simp at e
    | 0, 2 => simp at e
    | 0, 3 => simp at e
    | 1, 0 => simp at e
    | 1, 1 => rfl
    | 1, 2 => simp at e
    | 1, 3 => simp at e
    | 2, 0 => simp at e
    | 2, 1 => simp at e
    | 2, 2 => rfl
    | 2, 3 => simp at e
    | 3, 0 => simp at e
    | 3, 1 => simp at e
    | 3, 2 => simp at e
    | 3, 3 => rfl
    | i + 4, _ => omega
    | _, j + 4 => omega
set_option maxRecDepth 100000 in
theorem diskPlays_bad (n : Int) (a : Option Addr) (l cap : Nat) (w : World) (h : n < 1 ∨ 8192 < n) : Calls Try.prog 7 #[.int .i64 n, .slice a l cap] w fun e w' => e = .returned (.bool true) ∧ Below w.heap.size w w' := by
  go_enter Try.func7, Try.ntmps7
  go_wp2_with fail
  refine (head_any _).mono ?_
  rintro e w1 ⟨rfl, b1⟩
  dsimp only
  have h64 : ¬ (64 < n ∧ n ≤ 8192) := by omega
  have hA : n < 1 ∨ (64 < n ∧ 8192 < n) := by omega
  rcases hA with hA | ⟨hA1, hA2⟩
  · have h1 : ¬ (64 < n) := by omega
    go_wp2_with (first
      | (go_at_call 22; refine (new_bad n _ h).mono ?_; rintro e w' ⟨rfl, hw⟩; subst w')
      | (go_at_call 23; refine (rNew_bad n _ h).mono ?_; rintro e w' ⟨rfl, hw⟩; subst w'))
    go_ret
    exact ⟨rfl, b1⟩
  · have h1 : ¬ (n ≤ 8192) := by omega
    go_wp2_with (first
      | (go_at_call 22; refine (new_bad n _ h).mono ?_; rintro e w' ⟨rfl, hw⟩; subst w')
      | (go_at_call 23; refine (rNew_bad n _ h).mono ?_; rintro e w' ⟨rfl, hw⟩; subst w'))
    go_ret
    exact ⟨rfl, b1⟩
end Go.Proofs.Ytmfjhdjphnogiaa
