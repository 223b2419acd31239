/- No block twice; the steps that LogRoom's rounds take. -/
import Derived.Test.YtmcdohpeibipkaaAll
import Derived.Test.YtmcdohpeibipkaaXs
import Derived.Test.YtmcdohpeibipkaaOpn
namespace Go.Proofs.Ytmcdohpeibipkaa
set_option linter.unusedVariables false
set_option linter.unusedSimpArgs false
open Go.RowKit
theorem nodup_get {zs : List Int} (h : zs.Nodup) {i j : Nat} {x y : Int} (hij : i < j) (hi : zs[i]? = some x) (hj : zs[j]? = some y) : x ≠ y := by
  obtain ⟨h1, e1⟩ := List.getElem?_eq_some_iff.1 hi
  obtain ⟨h2, e2⟩ := List.getElem?_eq_some_iff.1 hj
  have := (List.pairwise_iff_getElem.1 h) i j h1 h2 hij
  rw [e1, e2] at this
  exact this
set_option maxRecDepth 100000 in
theorem distinct_any (w : World) (a : Option Addr) (cap : Nat) (l : Il) (hin : WIn w a l) (hl : l.length ≤ 1000) (hd : (l.map Prod.fst).Nodup) {n : Nat} (hn : n = l.length) :
    Calls Try.prog 20 #[.slice a n cap] w fun e w' => e = .returned (.bool true) ∧ ∃ m, w' = w.drewN m := by
  subst hn
  have HI : Hid (WIn w a l) := ⟨hin⟩
  have HD : Hid ((l.map Prod.fst).Nodup) := ⟨hd⟩
  clear hin hd
  go_enter Try.func20, Try.ntmps20
  go_wp2_with fail
  go_loopw [3] (fun i wr => ∃ k m : Nat, k ≤ l.length ∧ i = .int .i64 (k : Int) ∧ wr = w.drewN m) (fun i _ => l.length - (intOf i).toNat)
  case atStart => exact ⟨0, 0, Nat.zero_le _, rfl, rfl⟩
  case round =>
    obtain ⟨k, m, hk, rfl, rfl⟩ := hrel
    by_cases hlt : k < l.length
    · obtain ⟨⟨z, T⟩, hz⟩ : ∃ z, l[k]? = some z := ⟨_, List.getElem?_eq_getElem hlt⟩
      obtain ⟨b, off, rfl, cN, cT⟩ := HI.out k _ hz
      simp only at cN
      have HZ : Hid ((l.map Prod.fst)[k]? = some z) := ⟨by rw [List.getElem?_map, hz]; rfl⟩
      have hi : (k : Int) < l.length := by omega
      have hw1 : wrap64 ((k : Int) + 1) = ((k + 1 : Nat) : Int) := by unfold wrap64; omega
      clear hz cT
      go_wp2_with fail
      go_loopw [4] (fun i wr => ∃ j m : Nat, j ≤ k ∧ i = .int .i64 (j : Int) ∧ wr = w.drewN m) (fun i _ => k - (intOf i).toNat)
      case atStart => exact ⟨0, m, Nat.zero_le _, rfl, rfl⟩
      case round =>
        obtain ⟨j, m, hj, rfl, rfl⟩ := hrel
        by_cases hjl : j < k
        · obtain ⟨⟨y, T2⟩, hy⟩ : ∃ z, l[j]? = some z := ⟨_, List.getElem?_eq_getElem (by omega)⟩
          obtain ⟨b2, off2, e2, cN2, _⟩ := HI.out j _ hy
          injection e2 with e2
          injection e2 with e3 e4
          subst e3 e4
          simp only at cN2
          have hne : ¬ (y = z) := nodup_get HD.out hjl (by rw [List.getElem?_map, hy]; rfl) HZ.out
          have hji : (j : Int) < k := by omega
          have hjL : (j : Int) < l.length := by omega
          have hw2 : wrap64 ((j : Int) + 1) = ((j + 1 : Nat) : Int) := by unfold wrap64; omega
          clear hy
          go_wp2_with fail
          go_quiet (fail)
          go_wp2
          go_roundw
          case rel => exact ⟨j + 1, _, by omega, by go_num, rfl⟩
          case measure => simp [intOf]; omega
        · have hje : j = k := by omega
          subst hje
          have hji : ¬ ((j : Int) < j) := by omega
          go_wp2
          refine ⟨⟨j + 1, m, by omega, by go_num, rfl⟩, by simp [intOf]; omega⟩
    · have hke : k = l.length := by omega
      subst hke
      have hi : ¬ ((l.length : Int) < l.length) := by omega
      go_wp2
      go_ret
      exact ⟨rfl, m, rfl⟩
/-- a write more in a row of writes, in a region that draws its order -/
theorem step_wi {ops : Array Oper} {o : Oper} {a : Act} {K : Act → World → Prop} {Q : Exit → Act → World → Prop} {E : Prop} {w W : World} {v : Value} {l : Il} {g m : Nat} (hlm : l.length = m) {i : Int} {t : ByteArray}
    (hW : W = w.alloc (.cells #[.int .i64 i, .string t] 33)) (hg : g = w.heap.size) (hown : w.ownsRow 0 33 2 v l.length (wci l)) (hn : l.length < 9000000000000)
    (hgd : o.guard = none) (s x : Operand) (ho : o.op = .call { callee := .builtin .append, args := #[s, x], argTypes := #[34, 34] })
    (hs : a.eval s = v) (hx : a.eval x = .slice (some ⟨g, 0, none⟩) 1 1)
    (h : ∀ y cap w', w'.ownsRow 0 33 2 (rw_ y (m + 1) cap) (m + 1) (wci (l ++ [(i, t)])) → w.grownBy w' v.ownBlock → (v.ownBlock = some y ∨ w.heap.size ≤ y) → K (a.put o.dst (rw_ y (m + 1) cap)) w') :
    if Region.wanted o (yielded ops a.tmps) = true then Oper.wp Try.prog o a W K Q else E := by
  subst hW hg hlm
  obtain ⟨i0, hi0, hz0, hz1, hz2⟩ := info_parts infoWf
  have hm : maxLen = 9223372036854775807 := rfl
  obtain ⟨v', w', hr, q1, q2, q3, q4⟩ := run_append_at (P := Try.prog) (w.alloc (.cells #[.int .i64 i, .string t] 33)) 0 34 o.type 33 i0 _ 2 24 Try.underlying34 hi0 hz0 hz1 hz2 rfl (by omega) v l.length (wci l) (hown.alloc _) ⟨w.heap.size, 0, none⟩ 1 1 [.int .i64 i, .string t] rfl
    (World.news_of_block (cs := #[.int .i64 i, .string t]) (t := 33) (fr := (0, 0)) (heap_alloc_new w _)) (by simp [Value.oneCell']) (by rw [hm]; omega) (by omega) (Nat.zero_le _)
  rw [if_pos (by simp [Region.wanted, hgd])]
  have q1' : w'.ownsRow 0 33 2 v' (l.length + 1) (wci (l ++ [(i, t)])) := by rw [wci_append]; exact q1
  unfold Oper.wp execOp
  simp only [ho, resolve, invoke, builtin, Sem.run_bind, Sem.run_pure, Result.andThen_ok, List.map_toArray, List.map_cons, List.map_nil, hs, hx, hr]
  rcases q1'.2 with ⟨_, h0⟩ | ⟨y, cap, cur, rfl, _⟩
  · simp at h0
  · exact h y cap w' q1' ((World.grownBy_alloc _ _ _).trans q2) ((q4 y rfl).imp id (fun e => by simp at e; omega))
/-- the writes of a round: so many blocks, from i on, three apart -/
def rl (i : Nat) (T : ByteArray) (m : Nat) : Il := (List.range m).map fun j => (((i + 3 * j : Nat) : Int), T)
theorem rl_length (i : Nat) (T : ByteArray) (m : Nat) : (rl i T m).length = m := by simp [rl]
theorem rl_succ (i : Nat) (T : ByteArray) (m : Nat) : rl i T (m + 1) = rl i T m ++ [(((i + 3 * m : Nat) : Int), T)] := by simp [rl, List.range_succ]
theorem rl_fst (i : Nat) (T : ByteArray) (m : Nat) : (rl i T m).map Prod.fst = (List.range m).map fun j => ((i + 3 * j : Nat) : Int) := by simp [rl]
theorem rl_nodup (i : Nat) (T : ByteArray) (m : Nat) : ((rl i T m).map Prod.fst).Nodup := by
  rw [rl_fst]
  exact List.Pairwise.map _ (fun a b h e => h (by omega)) List.nodup_range
theorem rl_right (i : Nat) (T : ByteArray) (m n : Nat) (hT : T.size = 512) (h : i + 3 * m ≤ n + 2) : rightB n (rl i T m) = true := by
  unfold rightB
  rw [decide_eq_true_iff]
  refine ⟨fun p hp => ?_, rl_nodup i T m⟩
  obtain ⟨j, hj, rfl⟩ := List.mem_map.1 hp
  have := List.mem_range.1 hj
  exact ⟨by simp [okN]; omega, hT⟩
/-- many writes -/
def ml (T : ByteArray) (m : Nat) : Il := (List.range m).map fun j : Nat => ((j : Int), T)
theorem ml_length (T : ByteArray) (m : Nat) : (ml T m).length = m := by simp [ml]
theorem ml_succ (T : ByteArray) (m : Nat) : ml T (m + 1) = ml T m ++ [((m : Int), T)] := by simp [ml, List.range_succ]
theorem ml_right (T : ByteArray) (m n : Nat) (hT : T.size = 512) (h : m ≤ n) : rightB n (ml T m) = true := by
  unfold rightB
  rw [decide_eq_true_iff]
  refine ⟨fun p hp => ?_, ?_⟩
  · obtain ⟨j, hj, rfl⟩ := List.mem_map.1 hp
    have := List.mem_range.1 hj
    exact ⟨by simp [okN]; omega, hT⟩
  · have e : (ml T m).map Prod.fst = (List.range m).map fun j : Nat => (j : Int) := by simp [ml]
    rw [e]
    exact List.Pairwise.map _ (fun a b h e => h (by omega)) List.nodup_range
theorem and1 (k : Nat) : bits .and .i64 (k : Int) 1 = ((k % 2 : Nat) : Int) := by
  have := i64_mask 1 (by decide) (k : Int)
  exact this.trans (by omega)
theorem shows_v {v : Value} {l : Il} (a : Option Addr) (c : Nat) (hv : v = .slice a l.length c) (w : World) (h : w.ownsRow 0 33 2 v l.length (wci l)) : WIn w a l := by
  rcases h.2 with ⟨e, h0⟩ | ⟨g, cap, cur, e, _⟩
  · have : l = [] := List.eq_nil_of_length_eq_zero h0
    subst this
    intro k z hz; simp at hz
  · rw [e] at hv h
    injection hv with e1 e2 e3
    subst e1
    intro k z hz
    have := own_cell2 h k z hz
    exact ⟨g, 0, rfl, by simpa using this.1, by simpa using this.2⟩
theorem Arg.row (rest : List (Th → Prop)) (v : Value) (l : Il) (a : Option Addr) (c : Nat) (hv : v = .slice a l.length c) : Arg (rowW v l :: rest) a l := .inr ⟨0, rowW v l, rfl, fun t w ht ha => by subst ht; exact shows_v a c hv w ha⟩
end Go.Proofs.Ytmcdohpeibipkaa
