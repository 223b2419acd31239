/- The writes of puts. -/
import Derived.Test.YtmcdohpeibipkaaRoo
namespace Go.Proofs.Ytmcdohpeibipkaa
set_option linter.unusedVariables false
set_option linter.unusedSimpArgs false
open Go.RowKit
noncomputable def Px.w (p : Px) : Int × ByteArray := (p.n, if p.odd then p.t else bk p.t)
noncomputable def pw (l : List Px) : Il := l.map Px.w
theorem pw_length (l : List Px) : (pw l).length = l.length := by simp [pw]
theorem pw_step (l : List Px) (k : Nat) (p : Px) (h : l[k]? = some p) : pw (l.take (k + 1)) = pw (l.take k) ++ [p.w] := by
  have hk := (List.getElem?_eq_some_iff.1 h).1
  unfold pw
  rw [List.take_succ_eq_append_getElem hk, List.map_append, Option.some.inj ((List.getElem?_eq_getElem hk).symm.trans h)]
  rfl
theorem wpk (k n : Nat) (h : k < n) (hn : n ≤ 4398046510976) : wrap64 ((k : Int) + 1) = ((k + 1 : Nat) : Int) := by unfold wrap64; omega
theorem ltk (k n : Nat) (h : k < n) : (k : Int) < (n : Int) := by omega
theorem nlt (n : Nat) : ¬ ((n : Int) < (n : Int)) := by omega
theorem meask (m n : Nat) (h : m < n) : n - (intOf (.int .i64 ((m : Int) + 1))).toNat < n - (intOf (.int .i64 (m : Int))).toNat := by simp [intOf]; omega
set_option maxRecDepth 100000 in
theorem writes_any (a : Option Addr) (cap : Nat) (l : List Px) (w : World) (hin : PIn w a l) (hl : l.length ≤ 4398046510976) :
    Calls Try.prog 23 #[.slice a l.length cap] w fun e w' => ∃ v, e = .returned v ∧ w'.ownsRow 0 33 2 v l.length (wci (pw l)) ∧ Below w.heap.size w w' ∧ ∀ k, v.ownBlock = some k → w.heap.size ≤ k := by
  have HI : Hid (PIn w a l) := ⟨hin⟩
  clear hin
  go_enter Try.func23, Try.ntmps23
  go_wp2_with fail
  go_loopw [3, 4] (fun v i wr => ∃ k : Nat, k ≤ l.length ∧ i = .int .i64 (k : Int) ∧ Hid (wr.ownsRow 0 33 2 v k (wci (pw (l.take k)))) ∧ Hid (Below w.heap.size w wr) ∧ Hid (∀ j, v.ownBlock = some j → w.heap.size ≤ j)) (fun _ i _ => l.length - (intOf i).toNat)
  case atStart => exact ⟨0, Nat.zero_le _, rfl, ⟨World.ownsRow_nil _ _ _ _⟩, ⟨Below.refl _ _⟩, ⟨fun j hj => by cases hj⟩⟩
  case round =>
    obtain ⟨k, hk, rfl, O, B, HF⟩ := hrel
    by_cases hlt : k < l.length
    · obtain ⟨⟨z, T, odd⟩, hz⟩ : ∃ z, l[k]? = some z := ⟨_, List.getElem?_eq_getElem hlt⟩
      obtain ⟨b, off, rfl, hb, ⟨c0, c1, c2⟩, hr, hts⟩ := (HI.out.later B.out).get k _ hz
      simp only at c0 c1 c2 hts
      have hi := ltk k _ hlt
      have hw1 := wpk k _ hlt hl
      have hst := pw_step l k _ hz
      have hln : (pw (l.take k)).length = k := by rw [pw_length, List.length_take]; omega
      have HLN : Hid ((pw (l.take k)).length = k) := ⟨hln⟩
      have qB := block_any T (Nat.le_trans hts (by decide)) wr
      have HK : Hid (k < 9000000000000) := ⟨by omega⟩
      clear hz hr hts hln
      go_wp2_with fail
      refine qB.mono ?_
      rintro e w5 ⟨rfl, b5⟩
      have d0 := later_cell b5 hb c0
      have d1 := later_cell b5 hb c1
      have d2 := later_cell b5 hb c2
      have O5 : Hid (w5.ownsRow 0 33 2 u3 (pw (l.take k)).length (wci (pw (l.take k)))) := ⟨by rw [HLN.out]; exact own_later O.out b5⟩
      have B5 : Hid (Below w.heap.size w w5) := ⟨B.out.trans (b5.mono B.out.size)⟩
      clear qB b5 c0 c1 c2 O B
      dsimp only
      cases odd with
      | true =>
        have HST : Hid (pw (l.take (k + 1)) = pw (l.take k) ++ [(z, T)]) := ⟨hst⟩
        clear hst
        go_wp2_with (at_builtin; refine app_wi (g := w5.heap.size) (l := pw (l.take k)) (m := k) HLN.out rfl rfl O5.out (by rw [HLN.out]; exact HK.out) rfl _ _ rfl rfl rfl ?_; intro y c w8 q8 g8 n8)
        refine ⟨⟨k + 1, hlt, by go_num, ⟨by rw [HST.out]; exact q8⟩, ⟨B5.out.grown g8 B5.out.size HF.out⟩, ⟨fun j hj => ?_⟩⟩, meask k _ hlt⟩
        cases hj
        rcases n8 with n8 | n8
        · exact HF.out _ n8
        · exact Nat.le_trans B5.out.size n8
      | false =>
        have HST : Hid (pw (l.take (k + 1)) = pw (l.take k) ++ [(z, bk T)]) := ⟨hst⟩
        clear hst
        go_wp2_with (at_builtin; refine app_wi (g := w5.heap.size) (l := pw (l.take k)) (m := k) HLN.out rfl rfl O5.out (by rw [HLN.out]; exact HK.out) rfl _ _ rfl rfl rfl ?_; intro y c w8 q8 g8 n8)
        refine ⟨⟨k + 1, hlt, by go_num, ⟨by rw [HST.out]; exact q8⟩, ⟨B5.out.grown g8 B5.out.size HF.out⟩, ⟨fun j hj => ?_⟩⟩, meask k _ hlt⟩
        cases hj
        rcases n8 with n8 | n8
        · exact HF.out _ n8
        · exact Nat.le_trans B5.out.size n8
    · have hke : k = l.length := Nat.le_antisymm hk (Nat.le_of_not_lt hlt)
      subst hke
      have hi := nlt l.length
      rw [List.take_length] at O
      go_wp2
      go_ret
      exact ⟨_, rfl, O.out, B.out, HF.out⟩
end Go.Proofs.Ytmcdohpeibipkaa
