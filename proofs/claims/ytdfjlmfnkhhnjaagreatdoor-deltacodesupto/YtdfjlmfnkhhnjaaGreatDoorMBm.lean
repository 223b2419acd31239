/- What ManifestBack needs of the texts. -/
import Derived.Test.YtdfjlmfnkhhnjaaGreatDoorGp
import Derived.Test.YtdfjlmfnkhhnjaaGreatDoorMOw
namespace Go.Proofs.YtdfjlmfnkhhnjaaGreatDoor
set_option maxRecDepth 100000
set_option linter.unusedVariables false
set_option linter.unusedSimpArgs false
open Go.RowKit
open Go.Proofs.YtdfjlmfnkhhnjaaGreatDoorH (hv hv_length hv_one hv_eq)
theorem itemR_len {m : Ma} {x : It} (h : RtI m x) : (itemR x).length ≤ 20 := by
  unfold itemR
  cases hm : x.mkr with
  | true => rw [(h.mk1 hm).2]; simp [metaR]
  | false =>
    have := (mtE_iff (h.mk0 hm).2.2).1
    simp [metaR]; omega
theorem items_len {m : Ma} : ∀ (L : List It), (∀ x ∈ L, RtI m x) → ((L.map itemR).flatten).length ≤ L.length * 20
  | [], _ => by simp
  | x :: L, h => by
    have h1 := items_len L (fun y hy => h y (by simp [hy]))
    have h2 := itemR_len (h x (by simp))
    simp only [List.map_cons, List.flatten_cons, List.length_append, List.length_cons]
    omega
theorem mtx_le {m : Ma} (h : RtM m) : (mtx m).length ≤ 6000000000 := by
  have h1 := txt_len (recs m) (recs_ok h)
  have h2 := items_len m.items h.it
  have h3 := h.len
  have h4 : (headR m).length ≤ 5 := by unfold headR; split <;> simp
  have h5 : (recs m).length ≤ 5 + 256 * 20 + 1 := by
    unfold recs
    simp only [List.length_append, List.length_cons, List.length_nil]
    have : m.items.length * 20 ≤ 256 * 20 := by omega
    omega
  unfold mtx
  omega
theorem Beg.two {b : List UInt8} {m n : Ma} (h : Beg b m) (h' : Beg b n) : nzM m = nzM n ∧ (mtx m).length = (mtx n).length := by
  have e := h.at'
  rw [h'.at'] at e
  exact ⟨(congrArg Prod.fst e).symm, (congrArg (fun p => p.2.1) e).symm⟩
end Go.Proofs.YtdfjlmfnkhhnjaaGreatDoor
