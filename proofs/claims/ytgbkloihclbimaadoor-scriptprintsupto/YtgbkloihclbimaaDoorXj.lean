/- Layer 22: the command that a line says. -/
import Derived.Test.YtgbkloihclbimaaDoorXi
namespace Go.Proofs.YtgbkloihclbimaaDoor
set_option maxRecDepth 100000
set_option linter.unusedVariables false
set_option linter.unusedSimpArgs false
open Go.RowKit
attribute [local go_sem ↓] Go.wp_at_zero Go.wp_at_succ
theorem res_c {fn : Func} {p t : Tmp} (hf : fn.results = #[.cell p 36, .tmp t]) {tmps : Array Value} {w : World} {g : Nat} {c : Cm} {ma : Option Addr} {mc : Nat} {ka : Option Addr} {kc : Nat} {b : Bool} (hp : tmps.getD p undef = .pointer (some ⟨g, 0, none⟩)) (hb : tmps.getD t undef = .bool b) (h : Bc w g c ma mc ka kc) :
    (results fn tmps).run Tryd.prog w = .ok (.tuple #[cV c ma mc ka kc, .bool b]) w := by
  rw [results_ct hf, hp, hb]
  have h1 := run_loadVar_mid (P := Tryd.prog) w g 0 36 (ccs c ma mc ka kc).toList _ h.range Tryd.underlying36 rfl infoC
  have h2 : (asAddr (.pointer (some ⟨g, 0, none⟩))).run Tryd.prog w = .ok ⟨g, 0, none⟩ w := rfl
  rw [h2]
  simp only [Result.andThen_ok]
  rw [h1]
  simp only [Result.andThen_ok]
theorem own_base {M B n s : Nat} {w : World} {v : Value} {xs : List Value} {t : TypeId} (h : w.ownsRow M t s v n xs) (hb : B ≤ M) : w.ownsRow B t s v n xs := by
  refine ⟨h.1, ?_⟩
  rcases h.2 with q | ⟨g', cap, cur, e, a1, rest⟩
  · exact .inl q
  · exact .inr ⟨g', cap, cur, e, Nat.le_trans hb a1, rest⟩
/-- rows of a command that are the call's own -/
structure RowsOf (B : Nat) (w : World) (c : Cm) (ma : Option Addr) (mc : Nat) (ka : Option Addr) (kc : Nat) : Prop where
  ow : w.ownsRow B 38 2 (.slice ma c.st.mt.length mc) c.st.mt.length (pcells c.st.mt)
  oi : w.ownsRow B 3 1 (.slice ka c.st.kept.length kc) c.st.kept.length (ivs c.st.kept)
def PlP (line : By) (w : World) (e : Ending) (w' : World) : Prop :=
  Below w.heap.size w w' ∧ match plF line with
  | none => e = .returned (.tuple #[cV (cm0 0 0) none 0 none 0, .bool false])
  | some c => ∃ ma mc ka kc, e = .returned (.tuple #[cV c ma mc ka kc, .bool true]) ∧ RowsOf w.heap.size w' c ma mc ka kc
theorem kpts_len : ∀ (l : List By) (b : Bool), (kpts l b).1.length = l.length
  | [], _ => rfl
  | a :: r, b => by unfold kpts; simp only [List.length_cons]; rw [kpts_len r]
theorem mets_len : ∀ (n : Nat) (l : List By) (b : Bool), l.length ≤ n → (mets l b).1.length ≤ l.length
  | _, [], _, _ => by simp [mets]
  | _, [a], _, _ => by simp [mets]
  | 0, _ :: _ :: _, _, h => by simp at h
  | n + 1, a :: c :: r, b, h => by
    unfold mets
    have := mets_len n r (b || (txtO a).isNone || (txtO c).isNone) (by simp at h; omega)
    simp only [List.length_cons]; omega
theorem rdp_len (x : Cm × Rr) (p : UInt8) (hp : p ∈ letters) : (rdp x p).1.st.kept.length + (rdp x p).2.1.length ≤ x.1.st.kept.length + x.2.1.length ∧ (rdp x p).1.st.mt.length + (rdp x p).2.1.length ≤ x.1.st.mt.length + x.2.1.length := by
  have ht : x.2.1.tail.length ≤ x.2.1.length := by rw [List.length_tail]; omega
  have h1 := kpts_len x.2.1 x.2.2
  have h2 := mets_len _ x.2.1 x.2.2 (Nat.le_refl _)
  have hs : x.1.st.kept.length + x.2.1.tail.length ≤ x.1.st.kept.length + x.2.1.length ∧ x.1.st.mt.length + x.2.1.tail.length ≤ x.1.st.mt.length + x.2.1.length := ⟨by omega, by omega⟩
  simp only [letters, List.mem_cons, List.not_mem_nil, or_false] at hp
  rcases hp with rfl | rfl | rfl | rfl | rfl | rfl | rfl | rfl | rfl | rfl
  · exact hs
  · exact hs
  · exact hs
  · exact hs
  · exact hs
  · exact hs
  · exact hs
  · exact hs
  · show x.1.st.kept.length + 0 ≤ _ ∧ (x.1.st.mt ++ (mets x.2.1 x.2.2).1).length + 0 ≤ _
    rw [List.length_append]; omega
  · show (x.1.st.kept ++ (kpts x.2.1 x.2.2).1).length + 0 ≤ _ ∧ x.1.st.mt.length + 0 ≤ _
    rw [List.length_append]; omega
theorem rds_len : ∀ (ps : By) (x : Cm × Rr), (∀ p ∈ ps, p ∈ letters) → (ps.foldl rdp x).1.st.kept.length + (ps.foldl rdp x).2.1.length ≤ x.1.st.kept.length + x.2.1.length ∧ (ps.foldl rdp x).1.st.mt.length + (ps.foldl rdp x).2.1.length ≤ x.1.st.mt.length + x.2.1.length
  | [], x, _ => ⟨Nat.le_refl _, Nat.le_refl _⟩
  | p :: ps, x, h => by
    have a := rds_len ps (rdp x p) (fun q hq => h q (by simp [hq]))
    have b := rdp_len x p (h p (by simp))
    rw [List.foldl_cons]
    exact ⟨Nat.le_trans a.1 b.1, Nat.le_trans a.2 b.2⟩
theorem wds_small : ∀ (n : Nat) (l : By), l.length ≤ n → ∀ t ∈ wds l, t.length ≤ l.length
  | n, l, h, t, ht => by
    by_cases h1 : wsz false l = l.length
    · rw [wds_all h1] at ht
      simp at ht
      rw [ht]; exact Nat.le_refl _
    · have hle := wsz_le' false l
      rw [wds_cut h1] at ht
      rcases List.mem_cons.1 ht with q | q
      · rw [q, List.length_take]; omega
      · cases n with
        | zero => omega
        | succ n =>
          have := wds_small n (l.drop (wsz false l + 1)) (by rw [List.length_drop]; omega) t q
          rw [List.length_drop] at this
          omega
end Go.Proofs.YtgbkloihclbimaaDoor
