/- TxnOwn: what it needs beside: wrote, the list of what was written, a Commit whatever it answers. -/
import Derived.Test.YtlgpodcoiioefaaGreatOpn8
import Derived.Test.YtlgpodcoiioefaaGreatFs8
namespace Go.Proofs.YtlgpodcoiioefaaGreat
set_option linter.unusedVariables false
set_option linter.unusedSimpArgs false
open Go.RowKit Go.Maps
/-- the last text for a block -/
def lastW (L : Wl) (n : Nat) : Option ByteArray := match L with
  | [] => none
  | p :: r => (lastW r n).orElse fun _ => if p.1 = n then some p.2 else none
theorem lastW_cons (p : Nat × ByteArray) (r : Wl) (n : Nat) : lastW (p :: r) n = (lastW r n).orElse fun _ => if p.1 = n then some p.2 else none := rfl
theorem lastW_snoc (p : Nat × ByteArray) (n : Nat) : ∀ L : Wl, lastW (L ++ [p]) n = if p.1 = n then some p.2 else lastW L n
  | [] => by show (Option.orElse none fun _ => _) = _; rfl
  | q :: r => by
    rw [List.cons_append, lastW_cons, lastW_snoc p n r, lastW_cons]
    split
    · rfl
    · rfl
theorem last_ins {W L : Wl} (hR : Rising W) (h : ∀ i, lookW W i = lastW L i) (N : Nat) (X : ByteArray) : ∀ i, lookW (insW N X W) i = lastW (L ++ [(N, X)]) i := fun i => by
  rw [lookW_ins hR, lastW_snoc, h i]
theorem last_take {L : Wl} {k : Nat} {p : Nat × ByteArray} (hp : L[k]? = some p) (n : Nat) : lastW (L.take (k + 1)) n = if p.1 = n then some p.2 else lastW (L.take k) n := by
  have hk := (List.getElem?_eq_some_iff.1 hp).1
  rw [List.take_succ_eq_append_getElem hk, Option.some.inj ((List.getElem?_eq_getElem hk).symm.trans hp), lastW_snoc]
variable {w0 w : World} {rest : List (Th → Prop)} {x q p s : Nat} {W : Wl} {st : St}
/-- a Commit with the power on, whatever was written -/
theorem tcommit_all (h : EnvP w0 w (lg q p s false :: dk p st :: rest)) (i : Nat) (hi : rest[i]? = some (tx x q W false)) {n : Nat} {B : List ByteArray} (ok : OKst NN st n s B) (hf : st.fall = 0) (h4 : 4 ≤ s) (hs : s < n) (hR : Rising W) (hin : InB (n - s) W) :
    Calls Tryz.prog 17 #[pt x] w fun e w' => ∃ r st' B', e = .returned (.int .i64 r) ∧ EnvP w0 w' (lg q p s false :: dk p st' :: rest.set i (tx x q [] true)) ∧ OKst NN st' n s B' ∧ st'.fall = 0 ∧ ((r = 0 ∧ B' = lay B W ∧ (W = [] ∨ fitsB s W.length = true)) ∨ (r = 41 ∧ B' = B ∧ W ≠ [] ∧ fitsB s W.length = false)) := by
  cases W with
  | nil =>
    refine (tcommit_nil h (i + 2) (by simpa using hi)).mono ?_
    rintro e w' ⟨rfl, h2⟩
    exact ⟨0, st, B, rfl, h2, ok, hf, .inl ⟨rfl, rfl, .inl rfl⟩⟩
  | cons a r =>
    refine (tcommit_run h i hi ok hf h4 hs hR hin (by simp)).mono ?_
    rintro e w' (⟨hf2, rfl, st', h2, k2, f2⟩ | ⟨hf2, rfl, h2⟩)
    · exact ⟨0, st', _, rfl, h2, k2, f2, .inl ⟨rfl, rfl, .inr hf2⟩⟩
    · exact ⟨41, st, B, rfl, h2, ok, hf, .inr ⟨rfl, rfl, by simp, hf2⟩⟩
end Go.Proofs.YtlgpodcoiioefaaGreat
