/- The text of a step. -/
import Derived.Test.YtmfjhdjphnogiaaRefN
namespace Go.Proofs.Ytmfjhdjphnogiaa
set_option linter.unusedVariables false
set_option linter.unusedSimpArgs false
open Go.RowKit
/-- what is laid again and again -/
def unit1 (t : List UInt8) : List UInt8 := if t = [] then [0] else t
def rep (t : List UInt8) (k : Nat) : List UInt8 := (List.replicate k (unit1 t)).flatten
/-- the text of a step -/
def otx (even : Bool) (t : ByteArray) : ByteArray := if even then ⟨((rep t.data.toList 512).take 512).toArray⟩ else t
theorem rep_zero (t : List UInt8) : rep t 0 = [] := rfl
theorem rep_succ (t : List UInt8) (k : Nat) : rep t (k + 1) = rep t k ++ unit1 t := by unfold rep; rw [List.replicate_succ', List.flatten_append]; simp
theorem unit1_pos (t : List UInt8) : 1 ≤ (unit1 t).length := by
  unfold unit1
  split
  · simp
  · next h => cases t with
    | nil => exact absurd rfl h
    | cons a l => simp
theorem rep_len (t : List UInt8) : ∀ k, k ≤ (rep t k).length
  | 0 => Nat.zero_le _
  | k + 1 => by rw [rep_succ, List.length_append]; have := rep_len t k; have := unit1_pos t; omega
theorem rep_take (t : List UInt8) (k : Nat) (hk : k ≤ 512) (h : 512 ≤ (rep t k).length) : (rep t k).take 512 = (rep t 512).take 512 := by
  obtain ⟨d, hd⟩ : ∃ d, 512 = k + d := ⟨512 - k, by omega⟩
  have e : rep t 512 = rep t k ++ rep t d := by
    unfold rep
    rw [hd, ← List.replicate_append_replicate, List.flatten_append]
  rw [e, List.take_append_of_le_length h]
theorem strCells_vals (s : ByteArray) : Lib.strCells s = vals s.data.toList := rfl
theorem conv_take {base : Nat} {w : World} {g n cap : Nat} {l : List UInt8} (h : w.ownsRow base 5 1 (rw_ g n cap) l.length (vals l)) (hl : 512 ≤ l.length) : (convert 69 9 (.slice (some ⟨g, 0, none⟩) 512 cap)).run Try.prog w = .ok (.string ⟨(l.take 512).toArray⟩) w := by
  have hlen : (l.take 512).length = 512 := by rw [List.length_take]; omega
  have hr := run_convert_bytes_back (P := Try.prog) w 69 9 5 ⟨g, 0, none⟩ cap (l.take 512) Try.underlying69 Try.underlying5 Try.underlying9 ?_
  · rw [hlen] at hr
    exact hr
  · intro j hj
    have hadd : (⟨g, 0, none⟩ : Addr).add j = ⟨g, j, none⟩ := by unfold Addr.add; split <;> simp_all
    obtain ⟨a, c, e⟩ := own_slice h
    injection e with e1 e2 e3
    subst e2
    rw [hadd, h.cellAt j (by omega)]
    have hj2 : j < l.length := by omega
    simp [vals, hj2]
theorem app_text {ops : Array Oper} {rest : List Oper} {o : Oper} {a : Act} {Q : Exit → Act → World → Prop} {base : Nat} {w : World} {v : Value} {L : List UInt8} {t : ByteArray} (hO : Ob base w v L) (hn : L.length + t.size ≤ 140737488355328)
    (hgd : o.guard = none) (s x : Operand) (ho : o.op = .call { callee := .builtin .append, args := #[s, x], argTypes := #[69, 9] })
    (hs : a.eval s = v) (hx : a.eval x = .string t)
    (h : ∀ v' w', Ob base w' v' (L ++ t.data.toList) → Below base w w' → wpList Try.prog ops Q rest (a.put o.dst v') w') : wpList Try.prog ops Q (o :: rest) a w := by
  obtain ⟨i0, hi0, hz0, hz1, hz2⟩ := info_parts infoBf
  have hm : maxLen = 9223372036854775807 := rfl
  refine Lib.wpList_append_own_string _ hgd s x 69 9 ho base 5 i0 Try.underlying69 Try.underlying9 hi0 hz0 hz1 hz2 v L.length (vals L) hs hO.own t hx (by rw [hm]; omega) hn hO.le ?_
  intro v' w' q1 q2 _
  refine h v' w' ⟨?_, ?_⟩ ((Below.refl _ _).grown q2 hO.le (fun k hk => (hO.own.lt k hk).1))
  · have e : (L ++ t.data.toList).length = L.length + t.size := by rw [List.length_append, Array.length_toList]; rfl
    rw [e, vals_append]
    exact q1
  · have := q2.size; have h2 := hO.le; omega
theorem text_plain (kd n : Int) (t : ByteArray) (ka : Option Addr) (kl kc : Nat) (w : World) : Calls Try.prog 37 #[.agg #[.int .i64 kd, .int .i64 n, .string t, .bool false, .slice ka kl kc]] w fun e w' => e = .returned (.string t) ∧ Below w.heap.size w w' := by
  go_enter Try.func37, Try.ntmps37
  go_wp2
  go_ret
  exact ⟨rfl, (Below.refl _ _).alloc (Nat.le_refl _) _⟩
/-- while it grows -/
structure TI (W wr : World) (B : Nat) (cs : Array Value) (v : Value) (L : List UInt8) : Prop where
  row : Ob W.heap.size wr v L
  blk : wr.heap[B]? = some (.cells cs 56 (0, 0))
  bel : Below W.heap.size W wr
theorem TI.next {W wr w' : World} {B : Nat} {cs : Array Value} {v v' : Value} {L L' : List UInt8} (h : TI W wr B cs v L) (hB : B < W.heap.size) (o : Ob W.heap.size w' v' L') (b : Below W.heap.size wr w') : TI W w' B cs v' L' := ⟨o, (b.block B hB).trans h.blk, h.bel.trans b⟩
set_option maxRecDepth 100000 in
theorem text_even (kd n : Int) (t : ByteArray) (ka : Option Addr) (kl kc : Nat) (w : World) (ht : t.size ≤ 140737488351232) : Calls Try.prog 37 #[.agg #[.int .i64 kd, .int .i64 n, .string t, .bool true, .slice ka kl kc]] w fun e w' => e = .returned (.string (otx true t)) ∧ Below w.heap.size w w' := by
  obtain ⟨i0, hi0, hz0, hz1, hz2⟩ := info_parts infoBf
  have hm : maxLen = 9223372036854775807 := rfl
  obtain ⟨X, hX⟩ : ∃ X, X = otx true t := ⟨_, rfl⟩
  have HX : Hid (X = ⟨((rep t.data.toList 512).take 512).toArray⟩) := ⟨hX⟩
  rw [← hX]
  clear hX
  have T0 : Hid (TI (w.alloc (.cells #[.int .i64 kd, .int .i64 n, .string t, .bool true, .slice ka kl kc] 56)) (w.alloc (.cells #[.int .i64 kd, .int .i64 n, .string t, .bool true, .slice ka kl kc] 56)) w.heap.size #[.int .i64 kd, .int .i64 n, .string t, .bool true, .slice ka kl kc] (.slice none 0 0) (rep t.data.toList 0)) :=
    ⟨⟨⟨World.ownsRow_nil _ _ _ _, Nat.le_refl _⟩, heap_alloc_new w _, Below.refl _ _⟩⟩
  have hB : w.heap.size < (w.alloc (.cells #[.int .i64 kd, .int .i64 n, .string t, .bool true, .slice ka kl kc] 56)).heap.size := by simp
  have HBW : Hid (Below w.heap.size w (w.alloc (.cells #[.int .i64 kd, .int .i64 n, .string t, .bool true, .slice ka kl kc] 56))) := ⟨(Below.refl _ _).alloc (Nat.le_refl _) _⟩
  go_enter Try.func37, Try.ntmps37
  go_wp2
  generalize w.alloc (.cells #[.int .i64 kd, .int .i64 n, .string t, .bool true, .slice ka kl kc] 56) = W at *
  go_loopw [3] (fun v wr => ∃ k : Nat, k ≤ 512 ∧ Hid (TI W wr w.heap.size #[.int .i64 kd, .int .i64 n, .string t, .bool true, .slice ka kl kc] v (rep t.data.toList k)) ∧ ∃ a c, v = .slice a (rep t.data.toList k).length c) (fun v _ => match v with | .slice _ l _ => 512 - l | _ => 0)
  case atStart => exact ⟨0, Nat.zero_le _, T0, none, 0, rfl⟩
  case round =>
    obtain ⟨k, hk, R, va, vc, rfl⟩ := hrel
    have c2 : wr.cell? ⟨w.heap.size, 2, none⟩ = some (.string t) := cell_of_row wr _ 2 _ _ (0, 0) R.out.blk
    by_cases hlt : (rep t.data.toList k).length < 512
    · have hi : (((rep t.data.toList k).length : Nat) : Int) < 512 := by omega
      by_cases h0 : t.size = 0
      · obtain rfl : t = ⟨#[]⟩ := by
          obtain ⟨d⟩ := t
          have : d = #[] := Array.eq_empty_of_size_eq_zero h0
          rw [this]
        have e1 : rep [] (k + 1) = rep [] k ++ [0] := by rw [rep_succ]; rfl
        have E1 : Hid (rep [] (k + 1) = rep [] k ++ [0]) := ⟨e1⟩
        have hkk := rep_len [] k
        clear e1
        generalize rep [] k = L at *
        go_wp2_with (first
          | (at_builtin; refine app_byte (g := wr.heap.size) 0 rfl R.out.row rfl (by omega) rfl rfl _ _ rfl rfl rfl ?_; intro v1 w1 q1 b1; have c3 : w1.cell? ⟨w.heap.size, 2, none⟩ = some (.string ⟨#[]⟩) := cell_of_row w1 _ 2 _ _ (0, 0) (R.out.next hB q1 b1).blk)
          | (at_builtin; refine app_text q1 (by rw [List.length_append]; simp; omega) rfl _ _ rfl rfl rfl ?_; intro v2 w2 q2 b2))
        have e2 : L ++ [0] ++ (⟨#[]⟩ : ByteArray).data.toList = rep [] (k + 1) := by rw [E1.out]; simp
        rw [e2] at q2
        obtain ⟨a2, k2, rfl⟩ := own_slice q2.own
        have hl2 : (rep [] (k + 1)).length = L.length + 1 := by rw [E1.out]; simp
        have R2 := R.out.next hB q2 (b1.trans b2)
        refine ⟨⟨k + 1, by omega, ⟨R2⟩, a2, k2, rfl⟩, ?_⟩
        show 512 - (rep [] (k + 1)).length < 512 - L.length
        omega
      · have hu : unit1 t.data.toList = t.data.toList := by
          unfold unit1
          rw [if_neg]
          intro h
          apply h0
          have : t.data.size = 0 := by rw [← Array.length_toList, h]; rfl
          exact this
        have e1 : rep t.data.toList (k + 1) = rep t.data.toList k ++ t.data.toList := by rw [rep_succ, hu]
        have E1 : Hid (rep t.data.toList (k + 1) = rep t.data.toList k ++ t.data.toList) := ⟨e1⟩
        have hkk := rep_len t.data.toList k
        have htl : t.data.toList.length = t.size := by rw [Array.length_toList]; rfl
        clear e1 hu
        generalize rep t.data.toList k = L at *
        have hte : t.toList.isEmpty = false := by
          rw [ByteArray.toList_eq, List.isEmpty_eq_false_iff]
          intro h
          rw [h] at htl
          exact h0 htl.symm
        go_wp2_with (at_builtin; refine app_text R.out.row (by omega) rfl _ _ rfl rfl rfl ?_; intro v2 w2 q2 b2)
        rw [← E1.out] at q2
        obtain ⟨a2, k2, rfl⟩ := own_slice q2.own
        have hl2 : (rep t.data.toList (k + 1)).length = L.length + t.size := by rw [E1.out, List.length_append, htl]
        have R2 := R.out.next hB q2 b2
        refine ⟨⟨k + 1, by omega, ⟨R2⟩, a2, k2, rfl⟩, ?_⟩
        show 512 - (rep t.data.toList (k + 1)).length < 512 - L.length
        omega
    · have hi : ¬ ((((rep t.data.toList k).length : Nat) : Int) < 512) := by omega
      have hx : X = ⟨((rep t.data.toList k).take 512).toArray⟩ := by rw [HX.out, rep_take _ _ hk (by omega)]
      have hO := R.out.row.own
      obtain ⟨g, rfl, hcap⟩ : ∃ g, va = some ⟨g, 0, none⟩ ∧ (rep t.data.toList k).length ≤ vc := by
        rcases hO.2 with ⟨h1, h2⟩ | ⟨g, cap, cur, h1, _, _, h4, _⟩
        · omega
        · injection h1 with e1 e2 e3
          subst e1 e3
          exact ⟨g, rfl, h4⟩
      have hcv := conv_take hO (by omega)
      rw [← hx] at hcv
      have hcap2 : (512 : Int) ≤ (vc : Int) := by omega
      have hcap3 : 512 ≤ vc := by omega
      clear hO hcap hx
      generalize (rep t.data.toList k).length = LL at *
      go_wp2
      go_ret
      exact ⟨rfl, HBW.out.trans (R.out.bel.mono (Nat.le_of_lt hB))⟩
theorem text_any (kd n : Int) (t : ByteArray) (ev : Bool) (ka : Option Addr) (kl kc : Nat) (w : World) (ht : t.size ≤ 140737488351232) : Calls Try.prog 37 #[.agg #[.int .i64 kd, .int .i64 n, .string t, .bool ev, .slice ka kl kc]] w fun e w' => e = .returned (.string (otx ev t)) ∧ Below w.heap.size w w' := by
  cases ev with
  | false => exact text_plain kd n t ka kl kc w
  | true => exact text_even kd n t ka kl kc w ht
end Go.Proofs.Ytmfjhdjphnogiaa
