/- Are the writes of blocks, none twice, of whole texts. -/
import Derived.Test.YtghdgddpdamhcaaGreatSma
namespace Go.Proofs.YtghdgddpdamhcaaGreat
set_option linter.unusedVariables false
set_option linter.unusedSimpArgs false
open Go.RowKit Go.Maps
theorem below_drewN {B : Nat} {w w' : World} (h : Below B w w') (n : Nat) : Below B w (w'.drewN n) := ⟨h.os, h.tape, h.output, h.size, h.block⟩
def rightB (n : Nat) (l : Il) : Bool := decide ((∀ p ∈ l, okN n p.1 = true ∧ p.2.size = 512) ∧ (l.map Prod.fst).Nodup)
theorem right_take {n : Nat} {l : Il} (h : rightB n l = true) (k : Nat) : rightB n (l.take k) = true := by
  unfold rightB at *
  rw [decide_eq_true_iff] at *
  exact ⟨fun p hp => h.1 p (List.mem_of_mem_take hp), by rw [List.map_take]; exact h.2.sublist (List.take_sublist _ _)⟩
theorem right_step {n : Nat} {l : Il} {k : Nat} {z : Int × ByteArray} (hz : l[k]? = some z) : rightB n (l.take (k + 1)) = (rightB n (l.take k) && (okN n z.1 && decide (z.2.size = 512) && !decide (z.1 ∈ (l.map Prod.fst).take k))) := by
  have hk := (List.getElem?_eq_some_iff.1 hz).1
  have e : l.take (k + 1) = l.take k ++ [z] := by rw [List.take_succ_eq_append_getElem hk]; congr 2; exact Option.some.inj ((List.getElem?_eq_getElem hk).symm.trans hz)
  rw [Bool.eq_iff_iff]
  unfold rightB
  rw [decide_eq_true_iff, e]
  simp only [Bool.and_eq_true, decide_eq_true_iff, Bool.not_eq_true', decide_eq_false_iff_not, List.map_append, List.map_cons, List.map_nil, List.mem_append, List.mem_singleton, List.map_take]
  rw [List.nodup_append]
  constructor
  · rintro ⟨h1, h2, h3, h4⟩
    exact ⟨⟨fun p hp => h1 p (.inl hp), h2⟩, ⟨(h1 z (.inr rfl)).1, (h1 z (.inr rfl)).2⟩, fun hm => h4 _ hm _ (by simp) rfl⟩
  · rintro ⟨⟨h1, h2⟩, ⟨h3, h4⟩, h5⟩
    refine ⟨fun p hp => ?_, h2, by simp, fun x hx y hy e => ?_⟩
    · rcases hp with hp | rfl
      · exact h1 p hp
      · exact ⟨h3, h4⟩
    · simp at hy; subst hy; subst e; exact h5 hx
theorem right_not {n : Nat} {l : Il} {k : Nat} (h : rightB n (l.take k) = false) : rightB n l = false := by
  cases hl : rightB n l with
  | false => rfl
  | true => rw [right_take hl k] at h; cases h
variable {w0 w : World} {rest : List (Th → Prop)} {q p s : Nat} {d : Bool} {st : St}
set_option maxRecDepth 100000 in
theorem right_env (h : EnvP w0 w (lg q p s d :: dk p st :: rest)) (hs : s ≤ st.safe.length) (a : Option Addr) (cap : Nat) (l : Il) {n : Nat} (hn : n = l.length) (ha : Arg rest a l) (hl : l.length ≤ 20000000000000) {m : Nat} (hm : m = st.safe.length - s) :
    Calls Tryz.prog 75 #[pt q, .slice a n cap] w fun e w' => e = .returned (.bool (rightB m l)) ∧ Below w.heap.size w w' := by
  subst hn
  have hmm := @run_makeMap Tryz.prog
  have hhi := (h.wf 1 rfl).hi
  have H : Hid (EnvP w0 w (lg q p s d :: dk p st :: rest)) := ⟨h⟩
  have HA : Hid (Arg rest a l) := ⟨ha⟩
  have hm2 : (m : Int) = (st.safe.length : Int) - (s : Int) := by omega
  have hmx : m ≤ 8192 := by omega
  have qH : Hid (∀ (w5 : World) (z : Int), EnvP w0 w5 (lg q p s d :: dk p st :: rest) → Calls Tryz.prog 72 #[pt q, .int .i64 z] w5 fun e w' => e = .returned (.bool (okN m z)) ∧ ∃ k, w' = w5.drewN k) := ⟨fun w5 z h5 => by
    have := lhas_env h5 hs z
    rw [← hm2] at this
    have e : decide (0 ≤ z ∧ z < (m : Int)) = okN m z := by unfold okN; rw [Bool.decide_and]
    rwa [e] at this⟩
  obtain ⟨R, hR⟩ : ∃ R, rightB m l = R := ⟨_, rfl⟩
  have HR : Hid (rightB m l = R) := ⟨hR⟩
  rw [hR]
  have hzl : (l.map Prod.fst).length = l.length := by simp
  clear h ha hm hm2 hR hs
  go_enter Tryz.func75, Tryz.ntmps75
  go_wp2_with fail
  go_loopw [13] (fun i wr => ∃ k : Nat, k ≤ l.length ∧ i = .int .i64 (k : Int) ∧ Hid (SetAt wr w.heap.size k m ((l.map Prod.fst).take k)) ∧ Hid (Below w.heap.size w wr) ∧ Hid (rightB m (l.take k) = true)) (fun i _ => l.length - (intOf i).toNat)
  case atStart => exact ⟨0, Nat.zero_le _, rfl, ⟨World.ownsMap_made _ _ _ _⟩, ⟨(Below.refl _ _).alloc (Nat.le_refl _) _⟩, ⟨by simp [rightB]⟩⟩
  case round =>
    obtain ⟨k, hk, rfl, HS, HB, HG⟩ := hrel
    by_cases hlt : k < l.length
    · obtain ⟨⟨z, T⟩, hz⟩ : ∃ z, l[k]? = some z := ⟨_, List.getElem?_eq_getElem hlt⟩
      obtain ⟨b, off, rfl, cN, cT⟩ := HA.out.win (H.out.below HB.out) k _ hz
      simp only at cN cT
      have hzk : (l.map Prod.fst)[k]? = some z := by rw [List.getElem?_map, hz]; rfl
      have hst := right_step (n := m) hz
      rw [HG.out, Bool.true_and] at hst
      simp only at hst
      have hi : (k : Int) < l.length := by omega
      have hw1 : wrap64 ((k : Int) + 1) = ((k + 1 : Nat) : Int) := by unfold wrap64; omega
      have HST : Hid (rightB m (l.take (k + 1)) = (okN m z && decide (T.size = 512) && !decide (z ∈ (l.map Prod.fst).take k))) := ⟨hst⟩
      have HZK : Hid ((l.map Prod.fst)[k]? = some z) := ⟨hzk⟩
      have B5 : Hid (Below w.heap.size w (wr.alloc (.cells #[.int .i64 z, .string T] 95))) := ⟨HB.out.alloc HB.out.size _⟩
      have S5 : Hid (SetAt (wr.alloc (.cells #[.int .i64 z, .string T] 95)) w.heap.size k m ((l.map Prod.fst).take k)) := ⟨HS.out.alloc _⟩
      have n0 : (wr.alloc (.cells #[.int .i64 z, .string T] 95)).cell? ⟨wr.heap.size, 0, none⟩ = some (.int .i64 z) := cell_of_row _ _ 0 _ _ (0, 0) (heap_alloc_new wr _)
      have n1 : (wr.alloc (.cells #[.int .i64 z, .string T] 95)).cell? ⟨wr.heap.size, 1, none⟩ = some (.string T) := cell_of_row _ _ 1 _ _ (0, 0) (heap_alloc_new wr _)
      have bq := heap_alloc_new wr (.cells #[.int .i64 z, .string T] 95)
      clear hz hzk hst
      go_wp2_with fail
      refine (qH.out _ z (H.out.below B5.out)).mono ?_
      rintro e w6 ⟨rfl, j, rfl⟩
      generalize wr.alloc (.cells #[.int .i64 z, .string T] 95) = W5 at *
      clear cN cT HS HB
      dsimp only
      cases ho : okN m z with
      | false =>
        rw [ho] at HST
        go_wp2
        go_ret
        have : R = false := HR.out.symm.trans (right_not (HST.out.trans rfl))
        subst this
        exact ⟨rfl, below_drewN B5.out _⟩
      | true =>
        rw [ho] at HST
        by_cases h512 : T.size = 512
        · have h01 : 0 ≤ z ∧ z < m := by simpa [okN] using ho
          obtain ⟨N, rfl⟩ : ∃ N : Nat, z = (N : Int) := ⟨z.toNat, by omega⟩
          have hNm : N < m := by omega
          have hkey : keyOf Tryz.prog 3 (.int .i64 (N : Int)) = some (.int .i64 (N : Int)) := keyOf_int_mk Tryz.underlying3 (WalkArith.wf_i64 ⟨by omega, by omega⟩)
          have hhas := has_numD m ((l.map Prod.fst).take k) N hNm
          have hT : (T.size : Int) = 512 := by omega
          have S6 : Hid (SetAt (W5.drewN j) w.heap.size k m ((l.map Prod.fst).take k)) := ⟨S5.out⟩
          have S7 : Hid (SetAt ((W5.drewN j).alloc (.cells #[] 114)) w.heap.size k m ((l.map Prod.fst).take k)) := ⟨S6.out.alloc _⟩
          have B6 : Hid (Below w.heap.size w (W5.drewN j)) := ⟨below_drewN B5.out _⟩
          have B7 : Hid (Below w.heap.size w ((W5.drewN j).alloc (.cells #[] 114))) := ⟨B6.out.alloc B6.out.size _⟩
          have hq7 : ((W5.drewN j).alloc (.cells #[] 114)).cell? ⟨wr.heap.size, 0, none⟩ = some (.int .i64 (N : Int)) := Lib.cell?_alloc_marked _ n0
          have e512 : decide (T.size = 512) = true := decide_eq_true h512
          rw [e512] at HST
          by_cases hin : (N : Int) ∈ (l.map Prod.fst).take k
          · rw [decide_eq_true hin] at hhas HST
            have : R = false := HR.out.symm.trans (right_not (HST.out.trans rfl))
            subst this
            clear HST e512 h512 hin
            go_wp2_with (first
              | (at_lookup; refine wpList_lookup_own_unit _ rfl _ _ 112 rfl 3 114 law3 Tryz.underlying112 (zeroU _) w.heap.size k _ rfl S6.out _ _ rfl hkey ?_; rw [hhas])
              | go_in)
            go_ret
            exact ⟨rfl, B7.out⟩
          · rw [decide_eq_false hin] at hhas HST
            clear e512 h512 hin
            generalize hW7 : (W5.drewN j).alloc (.cells #[] 114) = W7 at *
            go_wp2_with (first
              | (at_lookup; refine wpList_lookup_own_unit _ rfl _ _ 112 rfl 3 114 law3 Tryz.underlying112 (zeroU _) w.heap.size k _ rfl S6.out _ _ rfl hkey ?_; rw [hhas])
              | (at_mapUpdate; refine wpList_mapUpdate_own _ rfl _ _ _ 112 rfl 3 114 law3 Tryz.underlying112 (unitElem (H := Unit)) w.heap.size k _ rfl S7.out (by unfold maxLen; omega) _ _ _ rfl rfl hkey _ [] unitElem_mk ?_; intro w1 hown1 hgrow1)
              | go_in)
            go_roundw
            case rel => exact ⟨k + 1, by omega, by go_num, ⟨by unfold SetAt; rw [numD_step m (l.map Prod.fst) k _ HZK.out ho]; exact hown1⟩, ⟨B7.out.grown hgrow1 B7.out.size (fun j hj => by cases hj; exact Nat.le_refl _)⟩, ⟨HST.out.trans rfl⟩⟩
            case measure => simp [intOf]; omega
        · have hT : ¬ ((T.size : Int) = 512) := by omega
          rw [decide_eq_false h512] at HST
          have : R = false := HR.out.symm.trans (right_not (HST.out.trans rfl))
          subst this
          clear HST
          go_wp2
          go_ret
          exact ⟨rfl, below_drewN B5.out _⟩
    · have hke : k = l.length := by omega
      subst hke
      have hi : ¬ ((l.length : Int) < l.length) := by omega
      have : R = true := by rw [← HR.out, ← HG.out, List.take_length]
      subst this
      go_wp2
      go_ret
      exact ⟨rfl, HB.out⟩
end Go.Proofs.YtghdgddpdamhcaaGreat
