/- PaxReads: the walk. -/
import Derived.Test.YtokkoacfmdnmaaaDoorRRead
import Derived.Test.YtokkoacfmdnmaaaDoorHead
namespace Go.Proofs.YtokkoacfmdnmaaaDoor
set_option linter.unusedVariables false
set_option linter.unusedSimpArgs false
open Go.RowKit
theorem RdAt.uniq {l : List UInt8} {p : Int} {k v k' v' : List UInt8} {n er n' er' : Int} (h : RdAt l p k v n er) (g : RdAt l p k' v' n' er') : k = k' ∧ v = v' ∧ n = n' ∧ er = er' := by
  by_cases h1 : p < 0 ∨ (l.length : Int) < p
  · obtain ⟨rfl, rfl, rfl, rfl⟩ := h.arg h1
    obtain ⟨rfl, rfl, rfl, rfl⟩ := g.arg h1
    exact ⟨rfl, rfl, rfl, rfl⟩
  · by_cases h2 : p = (l.length : Int)
    · obtain ⟨rfl, rfl, rfl, rfl⟩ := h.none h2
      obtain ⟨rfl, rfl, rfl, rfl⟩ := g.none h2
      exact ⟨rfl, rfl, rfl, rfl⟩
    · rcases h.at' (by omega) (by omega) with ⟨a1, a2, a3⟩ | ⟨a1, a2, a3, a4, a5⟩ <;> rcases g.at' (by omega) (by omega) with ⟨b1, b2, b3⟩ | ⟨b1, b2, b3, b4, b5⟩
      · obtain ⟨e1, e2⟩ := a2.uniq b2
        subst e1 e2
        exact ⟨rfl, rfl, by rw [a3, b3], by rw [a1, b1]⟩
      · exact absurd a2 (b5 _ _)
      · exact absurd b2 (a5 _ _)
      · subst a1 a2 a3 a4 b1 b2 b3 b4; exact ⟨rfl, rfl, rfl, rfl⟩
theorem ba_inj {a b : ByteArray} (h : a.data.toList = b.data.toList) : a = b := by apply ByteArray.ext; exact Array.toList_inj.1 h
namespace paxReads
attribute [local go_sem ↓] Go.wp_at_zero Go.wp_at_succ
theorem walk (b : ByteArray) (p : Int) (hb : b.size ≤ 140737488351232) (hp : p ≤ 9223372036854775807) (w : World) (hT : TB w) :
    Calls Tryd.prog 7 #[.string b, .int .i64 p] w fun e w' => e = .returned (.bool true) ∧ Below w.heap.size w w' := by
  have c1 := fun w ht => read_any b p (by omega) hp w ht
  have c2 := fun w => refRead_any b p (by omega) hp w
  go_enter Tryd.func7, Tryd.ntmps7
  go_wp2_with fail
  refine (c1 _ hT).mono ?_
  rintro e w1 ⟨k, v, n, er, rfl, hR, b1⟩
  dsimp only
  go_wp2_with fail
  refine (c2 _).mono ?_
  rintro e w2 ⟨k', v', n', er', rfl, hR', b2⟩
  obtain ⟨e1, e2, rfl, rfl⟩ := hR.uniq hR'
  obtain rfl := ba_inj e1
  obtain rfl := ba_inj e2
  replace b2 := below_seq b1 b2
  clear hR hR' c1 c2 e1 e2
  dsimp only
  go_wp2_with fail
  refine (head_any _ (hT.below b2)).mono ?_
  rintro e w3 ⟨rfl, b3⟩
  replace b3 := below_seq b2 b3
  dsimp only
  go_wp2_with fail
  go_ret
  exact ⟨rfl, b3⟩
end paxReads
end Go.Proofs.YtokkoacfmdnmaaaDoor
