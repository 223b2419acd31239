/- TupleReads: the walk. -/
import Derived.Test.YtijkabnhedmimaaLift
import Derived.Test.YtijkabnhedmimaaOpn
import Derived.Test.YtijkabnhedmimaaRfR
import Derived.Test.YtijkabnhedmimaaSam
namespace Go.Proofs.Ytijkabnhedmimaa
set_option linter.unusedVariables false
set_option linter.unusedSimpArgs false
open Go.RowKit
attribute [local go_sem ↓] Go.wp_at_zero Go.wp_at_succ
set_option maxHeartbeats 2000000 in
theorem tupleReads_walk (b : List UInt8) (W : World) (hbl : b.length ≤ 1048576) :
    Calls Try.prog 8 #[str b] W fun e w' => e = .returned (.bool true) ∧ Below W.heap.size W w' := by
  go_enter Try.func8, Try.ntmps8
  go_wp2_with fail
  refine (head_of cmpC _).mono ?_
  rintro e w1 ⟨rfl, hb1⟩
  dsimp only
  go_wp2_with fail
  refine (read_any b w1 (by omega)).mono ?_
  rintro e w2 ⟨h2, hb2⟩
  rcases h2 with ⟨v, l, hl, he, rfl, hO⟩ | ⟨hno, rfl⟩
  · dsimp only
    replace he := Hid.mk he
    obtain ⟨a1, c1, rfl, hP1⟩ := hO.slice
    go_wp2_with fail
    refine (refRead_any b w2 (by omega)).mono ?_
    rintro e w3 ⟨h3, hb3⟩
    rcases h3 with ⟨v', l', hl', he', rfl, hO'⟩ | ⟨hno, rfl⟩
    · dsimp only
      have hll : l' = l := wt_inj hl' hl (by rw [← he.out, ← he'])
      subst hll
      obtain ⟨a2, c2, rfl, hP2⟩ := hO'.slice
      have hlen : l'.length ≤ 1000000000000 := Nat.le_trans (len_wt l') (by rw [← he']; omega)
      clear he'
      have hs := same_self l' w3 a1 a2 c1 c2 (hP1.later hb3) hP2 hlen
      go_wp2_with (go_at_call 20; refine hs.mono ?_; rintro e w4 ⟨rfl, hb4⟩)
      go_ret
      exact ⟨rfl, below_seq (below_seq (below_seq hb1 hb2) hb3) hb4⟩
    · exact absurd he.out (hno l hl)
  · dsimp only
    go_wp2_with fail
    refine (refRead_any b w2 (by omega)).mono ?_
    rintro e w3 ⟨h3, hb3⟩
    rcases h3 with ⟨v', l', hl', he', rfl, hO'⟩ | ⟨_, rfl⟩
    · exact absurd he' (hno l' hl')
    · dsimp only
      have hs := same_self [] w3 none none 0 0 ⟨fun k p hk => by simp at hk⟩ ⟨fun k p hk => by simp at hk⟩ (by decide)
      go_wp2_with (go_at_call 20; refine hs.mono ?_; rintro e w4 ⟨rfl, hb4⟩)
      go_ret
      exact ⟨rfl, below_seq (below_seq (below_seq hb1 hb2) hb3) hb4⟩
end Go.Proofs.Ytijkabnhedmimaa
