/- What ManifestBack needs of the texts. -/
import Derived.Test.YtdfjlmfnkhhnjaaGreatDoorGp
import Derived.Test.YtdfjlmfnkhhnjaaGreatDoorMOw
namespace Go.Proofs.YtdfjlmfnkhhnjaaGreatDoor
set_option maxRecDepth 100000
set_option linter.unusedVariables false
set_option linter.unusedSimpArgs false
open Go.RowKit
open Go.Proofs.YtdfjlmfnkhhnjaaGreatDoorH (hv hv_length hv_one hv_eq)
theorem itemR_len {m : Ma} {x : It} (h : RtI m x) : (itemR x).length ≤ 20 := by
  unfold itemR
  cases hm : x.mkr with
  | true => rw [(h.mk1 hm).2]; simp [metaR]
  | false =>
    have := (mtE_iff (h.mk0 hm).2.2).1
    simp [metaR]; omega
theorem items_len {m : Ma} : ∀ (L : List It), (∀ x ∈ L, RtI m x) → ((L.map itemR).flatten).length ≤ L.length * 20
  | [], _ => by simp
  | x :: L, h => by
    have h1 := items_len L (fun y hy => h y (by simp [hy]))
    have h2 := itemR_len (h x (by simp))
    simp only [List.map_cons, List.flatten_cons, List.length_append, List.length_cons]
    omega
theorem mtx_le {m : Ma} (h : RtM m) : (mtx m).length ≤ 6000000000 := by
  have h1 := txt_len (recs m) (recs_ok h)
  have h2 := items_len m.items h.it
  have h3 := h.len
  have h4 : (headR m).length ≤ 5 := by unfold headR; split <;> simp
  have h5 : (recs m).length ≤ 5 + 256 * 20 + 1 := by
    unfold recs
    simp only [List.length_append, List.length_cons, List.length_nil]
    have : m.items.length * 20 ≤ 256 * 20 := by omega
    omega
  unfold mtx
  omega
/-- the two begin alike: one text, one manifest -/
theorem Beg.two {b : List UInt8} {m n : Ma} (h : Beg b m) (h' : Beg b n) : nzM m = nzM n ∧ (mtx m).length = (mtx n).length := by
  have e := h.at'
  rw [h'.at'] at e
  exact ⟨(congrArg Prod.fst e).symm, (congrArg (fun p => p.2.1) e).symm⟩
theorem Beg.cut {m n : Ma} {k : Nat} (h : RtM m) (hk : k < (mtx m).length) : ¬ Beg ((mtx m).take k) n := by
  rintro ⟨h1, r, e⟩
  have e1 : Beg (mtx m) n := ⟨h1, r ++ (mtx m).drop k, by rw [← List.append_assoc, ← e, List.take_append_drop]⟩
  have e2 : Beg (mtx m) m := ⟨h, [], by simp⟩
  have e3 := (e1.two e2).2
  have e4 := congrArg List.length e
  simp at e4
  omega
theorem Mk.it {base : Nat} {w : World} {a : Option Addr} {n c : Nat} {R S : List Ri} (h : Mk base w (.slice a n c) R S) : IIt w a (R.map (·.1)) := by
  refine ⟨fun k x hk => ?_⟩
  rw [List.getElem?_map] at hk
  cases hq : R[k]? with
  | none => rw [hq] at hk; cases hk
  | some r =>
    rw [hq] at hk
    simp at hk
    subst hk
    have hkl := (List.getElem?_eq_some_iff.1 hq).1
    have hq2 : (R ++ S)[k]? = some r := by rw [List.getElem?_append_left hkl]; exact hq
    rcases h.own.2 with ⟨e, h0⟩ | ⟨g, cap', cur, e, hbg, hg, _⟩
    · rw [List.length_append] at h0; omega
    · injection e with e1 e2 e3
      subst e1 e2
      refine ⟨g, 0, r.2.1, r.2.2, rfl, lt_of_block hg, fun j v hj => ?_, ?_⟩
      · have hj2 : j < 37 := by have := (List.getElem?_eq_some_iff.1 hj).1; rw [ic_length] at this; exact this
        have hl := rics_len (R ++ S)
        have hl2 : (R ++ S).length = R.length + S.length := List.length_append
        rw [Nat.zero_add, h.own.cellAt _ (by omega), rics_get (R ++ S) k r hq2 j hj2]
        exact hj
      · have hs := (h.met k r hq).asSl2
        have := hs.take r.1.l.length
        rwa [List.take_left] at this
end Go.Proofs.YtdfjlmfnkhhnjaaGreatDoor
