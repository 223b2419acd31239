/- TxnOwn: what it needs beside: wrote, the list of what was written, a Commit whatever it answers. -/
import Derived.Test.YtlgpodcoiioefaaOpn8
import Derived.Test.YtlgpodcoiioefaaFs8
namespace Go.Proofs.Ytlgpodcoiioefaa
set_option linter.unusedVariables false
set_option linter.unusedSimpArgs false
open Go.RowKit Go.Maps
/-- the last text for a block -/
def lastW (L : Wl) (n : Nat) : Option ByteArray := match L with
  | [] => none
  | p :: r => (lastW r n).orElse fun _ => if p.1 = n then some p.2 else none
theorem lastW_cons (p : Nat × ByteArray) (r : Wl) (n : Nat) : lastW (p :: r) n = (lastW r n).orElse fun _ => if p.1 = n then some p.2 else none := rfl
theorem lastW_snoc (p : Nat × ByteArray) (n : Nat) : ∀ L : Wl, lastW (L ++ [p]) n = if p.1 = n then some p.2 else lastW L n
  | [] => by show (Option.orElse none fun _ => _) = _; rfl
  | q :: r => by
    rw [List.cons_append, lastW_cons, lastW_snoc p n r, lastW_cons]
    split
    · rfl
    · rfl
theorem last_ins {W L : Wl} (hR : Rising W) (h : ∀ i, lookW W i = lastW L i) (N : Nat) (X : ByteArray) : ∀ i, lookW (insW N X W) i = lastW (L ++ [(N, X)]) i := fun i => by
  rw [lookW_ins hR, lastW_snoc, h i]
theorem last_take {L : Wl} {k : Nat} {p : Nat × ByteArray} (hp : L[k]? = some p) (n : Nat) : lastW (L.take (k + 1)) n = if p.1 = n then some p.2 else lastW (L.take k) n := by
  have hk := (List.getElem?_eq_some_iff.1 hp).1
  rw [List.take_succ_eq_append_getElem hk, Option.some.inj ((List.getElem?_eq_getElem hk).symm.trans hp), lastW_snoc]
set_option maxRecDepth 100000 in
theorem wrote_any (w : World) (a : Option Addr) (c : Nat) (L : Wl) (n : Nat) (hn : n ≤ 8192) (hin : WIn w a (ints L)) (hl : L.length ≤ 9000000000000) {m : Nat} (hm : m = L.length) :
    Calls Try.prog 14 #[.slice a m c, .int .i64 (n : Int)] w fun e w' => (∃ k, w' = w.drewN k) ∧ ((∃ t, lastW L n = some t ∧ e = .returned (.tuple #[.string t, .bool true])) ∨ (lastW L n = none ∧ e = .returned (.tuple #[.string ⟨#[]⟩, .bool false]))) := by
  subst hm
  have HI : Hid (WIn w a (ints L)) := ⟨hin⟩
  obtain ⟨R, hR⟩ : ∃ R, lastW L n = R := ⟨_, rfl⟩
  have HR : Hid (lastW L n = R) := ⟨hR⟩
  rw [hR]
  clear hin hR
  have hw0 : wrap64 ((L.length : Int) - 1) = (L.length : Int) - 1 := by unfold wrap64; omega
  go_enter Try.func14, Try.ntmps14
  go_wp2_with fail
  go_loopw [6] (fun i wr => ∃ k m : Nat, k ≤ L.length ∧ i = .int .i64 ((k : Int) - 1) ∧ wr = w.drewN m ∧ Hid (lastW L n = lastW (L.take k) n)) (fun i _ => ((intOf i) + 1).toNat)
  case atStart => exact ⟨L.length, 0, Nat.le_refl _, by first | rfl | (rw [hw0]), rfl, ⟨by rw [List.take_length]⟩⟩
  case round =>
    obtain ⟨k, m, hk, rfl, rfl, HT⟩ := hrel
    cases k with
    | zero =>
      have e0 : R = none := by rw [← HR.out, HT.out]; rfl
      subst e0
      have hi : ¬ ((0 : Int) ≤ ((0 : Nat) : Int) - 1) := by omega
      go_wp2
      go_ret2
      exact ⟨⟨m, rfl⟩, rfl⟩
    | succ k =>
      obtain ⟨⟨M, Y⟩, hz⟩ : ∃ z, L[k]? = some z := ⟨_, List.getElem?_eq_getElem (by omega)⟩
      obtain ⟨b, off, rfl, cN, cT⟩ := HI.out k _ (ints_at L k _ hz)
      simp only at cN cT
      have ek : (((k + 1 : Nat) : Int) - 1) = (k : Int) := by omega
      rw [ek]
      have hi : (0 : Int) ≤ (k : Int) := by omega
      have hkl : (k : Int) < L.length := by omega
      have hw1 : wrap64 ((k : Int) - 1) = (k : Int) - 1 := by unfold wrap64; omega
      have HL := last_take hz n
      rw [← HT.out] at HL
      simp only at HL
      have HL2 : Hid (lastW L n = if M = n then some Y else lastW (L.take k) n) := ⟨HL⟩
      clear hz HL HT
      by_cases e : M = n
      · subst e
        have e1 : R = some Y := by rw [← HR.out, HL2.out, if_pos rfl]
        subst e1
        go_wp2
        go_ret2
        exact ⟨⟨m, rfl⟩, rfl⟩
      · have hne : ¬ ((M : Int) = (n : Int)) := by omega
        have HT2 : Hid (lastW L n = lastW (L.take k) n) := ⟨by rw [HL2.out, if_neg e]⟩
        go_wp2
        go_roundw
        case rel => exact ⟨k, _, by omega, by go_num, rfl, HT2⟩
        case measure => simp [intOf]
variable {w0 w : World} {rest : List (Th → Prop)} {x q p s : Nat} {W : Wl} {st : St}
/-- a Commit with the power on, whatever was written -/
theorem tcommit_all (h : EnvP w0 w (lg q p s false :: dk p st :: rest)) (i : Nat) (hi : rest[i]? = some (tx x q W false)) {n : Nat} {B : List ByteArray} (ok : OKst NN st n s B) (hf : st.fall = 0) (h4 : 4 ≤ s) (hs : s < n) (hR : Rising W) (hin : InB (n - s) W) :
    Calls Try.prog 10 #[pt x] w fun e w' => ∃ r st' B', e = .returned (.int .i64 r) ∧ EnvP w0 w' (lg q p s false :: dk p st' :: rest.set i (tx x q [] true)) ∧ OKst NN st' n s B' ∧ st'.fall = 0 ∧ ((r = 0 ∧ B' = lay B W ∧ (W = [] ∨ fitsB s W.length = true)) ∨ (r = 41 ∧ B' = B ∧ W ≠ [] ∧ fitsB s W.length = false)) := by
  cases W with
  | nil =>
    refine (tcommit_nil h (i + 2) (by simpa using hi)).mono ?_
    rintro e w' ⟨rfl, h2⟩
    exact ⟨0, st, B, rfl, h2, ok, hf, .inl ⟨rfl, rfl, .inl rfl⟩⟩
  | cons a r =>
    refine (tcommit_run h i hi ok hf h4 hs hR hin (by simp)).mono ?_
    rintro e w' (⟨hf2, rfl, st', h2, k2, f2⟩ | ⟨hf2, rfl, h2⟩)
    · exact ⟨0, st', _, rfl, h2, k2, f2, .inl ⟨rfl, rfl, .inr hf2⟩⟩
    · exact ⟨41, st, B, rfl, h2, ok, hf, .inr ⟨rfl, rfl, by simp, hf2⟩⟩
end Go.Proofs.Ytlgpodcoiioefaa
