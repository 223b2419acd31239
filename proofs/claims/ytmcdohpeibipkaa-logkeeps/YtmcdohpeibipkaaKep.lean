/- Rows of integers and of puts; the numbers of a mask. -/
import Derived.Test.YtmcdohpeibipkaaWrt
namespace Go.Proofs.Ytmcdohpeibipkaa
set_option linter.unusedVariables false
set_option linter.unusedSimpArgs false
open Go.RowKit
def intv (l : List Int) : List Value := l.map (Value.int .i64)
theorem intv_append (a b : List Int) : intv (a ++ b) = intv a ++ intv b := List.map_append ..
/-- an integer more in a row of integers -/
theorem app_int {ops : Array Oper} {rest : List Oper} {o : Oper} {a : Act} {Q : Exit → Act → World → Prop} {w w0 : World} {v : Value} {l : List Int} {g m : Nat} (hlm : l.length = m) {t : Int}
    (hw : w0 = w.alloc (.cells #[.int .i64 t] 3)) (hg : g = w.heap.size) (hown : w.ownsRow 0 3 1 v l.length (intv l)) (hn : l.length < 9000000000000)
    (hgd : o.guard = none) (s x : Operand) (ho : o.op = .call { callee := .builtin .append, args := #[s, x], argTypes := #[65, 65] })
    (hs : a.eval s = v) (hx : a.eval x = .slice (some ⟨g, 0, none⟩) 1 1)
    (h : ∀ y cap w', w'.ownsRow 0 3 1 (rw_ y (m + 1) cap) (m + 1) (intv (l ++ [t])) → w.grownBy w' v.ownBlock → (v.ownBlock = some y ∨ w.heap.size ≤ y) → wpList Try.prog ops Q rest (a.put o.dst (rw_ y (m + 1) cap)) w') : wpList Try.prog ops Q (o :: rest) a w0 := by
  subst hw hg hlm
  obtain ⟨i0, hi0, hz0, hz1, hz2⟩ := info_parts infoIf
  have hm : maxLen = 9223372036854775807 := rfl
  refine wp_append_at Try.underlying65 hi0 hz0 hz1 hz2 rfl (by omega) 0 (hown.alloc _) (news := [.int .i64 t]) rfl
    (World.news_of_block (cs := #[.int .i64 t]) (t := 3) (fr := (0, 0)) (heap_alloc_new w _)) (by simp [Value.oneCell']) (by rw [hm]; omega) (by omega) (Nat.zero_le _) hgd s x ho hs hx ?_
  intro v' w' q1 q2 _ q4
  have q1' : w'.ownsRow 0 3 1 v' (l.length + 1) (intv (l ++ [t])) := by rw [intv_append]; exact q1
  rcases q1'.2 with ⟨_, h0⟩ | ⟨y, cap, cur, rfl, _⟩
  · simp at h0
  · exact h y cap w' q1' ((World.grownBy_alloc _ _ _).trans q2) ((q4 y rfl).imp id (fun e => by simp at e; omega))
def pcs : List Px → List Value
  | [] => []
  | p :: r => .int .i64 p.n :: .string p.t :: .bool p.odd :: pcs r
theorem pcs_length : ∀ l, (pcs l).length = l.length * 3
  | [] => rfl
  | _ :: r => by simp [pcs, pcs_length r]; omega
theorem pcs_append : ∀ a b, pcs (a ++ b) = pcs a ++ pcs b
  | [], _ => rfl
  | _ :: r, b => by simp [pcs, pcs_append r b]
theorem pcs_at : ∀ (l : List Px) (k : Nat) (p : Px), l[k]? = some p → (pcs l)[k * 3]? = some (.int .i64 p.n) ∧ (pcs l)[k * 3 + 1]? = some (.string p.t) ∧ (pcs l)[k * 3 + 2]? = some (.bool p.odd)
  | [], _, _, h => by simp at h
  | q :: r, 0, p, h => by simp at h; subst h; simp [pcs]
  | q :: r, k + 1, p, h => by
    have := pcs_at r k p (by simpa using h)
    have e : (k + 1) * 3 = k * 3 + 1 + 1 + 1 := by omega
    simp only [pcs, e, List.getElem?_cons_succ]
    exact this
theorem infoPf : (Try.prog.info? 82).map (fun i => (i.zero, i.size, i.bytes)) = some (some (.agg #[.int .i64 0, .string ⟨#[]⟩, .bool false]), 3, 32) := by kernel_rfl
/-- a put more in a row of puts -/
theorem app_put {ops : Array Oper} {rest : List Oper} {o : Oper} {a : Act} {Q : Exit → Act → World → Prop} {w w0 : World} {v : Value} {l : List Px} {g m : Nat} (hlm : l.length = m) {i : Int} {t : ByteArray}
    (hw : w0 = w.alloc (.cells #[.int .i64 i, .string t, .bool false] 82)) (hg : g = w.heap.size) (hown : w.ownsRow 0 82 3 v l.length (pcs l)) (hn : l.length < 1000000000000)
    (hgd : o.guard = none) (s x : Operand) (ho : o.op = .call { callee := .builtin .append, args := #[s, x], argTypes := #[49, 49] })
    (hs : a.eval s = v) (hx : a.eval x = .slice (some ⟨g, 0, none⟩) 1 1)
    (h : ∀ y cap w', w'.ownsRow 0 82 3 (rw_ y (m + 1) cap) (m + 1) (pcs (l ++ [⟨i, t, false⟩])) → w.grownBy w' v.ownBlock → (v.ownBlock = some y ∨ w.heap.size ≤ y) → wpList Try.prog ops Q rest (a.put o.dst (rw_ y (m + 1) cap)) w') : wpList Try.prog ops Q (o :: rest) a w0 := by
  subst hw hg hlm
  obtain ⟨i0, hi0, hz0, hz1, hz2⟩ := info_parts infoPf
  have hm : maxLen = 9223372036854775807 := rfl
  refine wp_append_at Try.underlying49 hi0 hz0 hz1 hz2 rfl (by omega) 0 (hown.alloc _) (news := [.int .i64 i, .string t, .bool false]) rfl
    (World.news_of_block (cs := #[.int .i64 i, .string t, .bool false]) (t := 82) (fr := (0, 0)) (heap_alloc_new w _)) (by simp [Value.oneCell']) (by rw [hm]; omega) (by omega) (Nat.zero_le _) hgd s x ho hs hx ?_
  intro v' w' q1 q2 _ q4
  have q1' : w'.ownsRow 0 82 3 v' (l.length + 1) (pcs (l ++ [⟨i, t, false⟩])) := by rw [pcs_append]; exact q1
  rcases q1'.2 with ⟨_, h0⟩ | ⟨y, cap, cur, rfl, _⟩
  · simp at h0
  · exact h y cap w' q1' ((World.grownBy_alloc _ _ _).trans q2) ((q4 y rfl).imp id (fun e => by simp at e; omega))
theorem mask63u (n : Nat) (h : n < 18446744073709551616) : bits .and .u64 (n : Int) 63 = ((n % 64 : Nat) : Int) := by
  have := u64_and_nat n 63 h (by decide)
  rw [show n &&& 63 = n % 64 from Nat.and_two_pow_sub_one_eq_mod n 6] at this
  exact this
theorem wpm (k n : Nat) (h : k < n) (hn : n ≤ 1000000) : wrap64 ((k : Int) + 1) = ((k + 1 : Nat) : Int) := by unfold wrap64; omega
set_option maxRecDepth 100000 in
theorem kept_any (m : Nat) (hm : m < 18446744073709551616) (n : Nat) (hn : n ≤ 1000000) (w : World) :
    Calls Try.prog 46 #[.int .u64 (m : Int), .int .i64 (n : Int)] w fun e w' => ∃ v zs, e = .returned v ∧ w'.ownsRow 0 3 1 v zs.length (intv zs) ∧ Below w.heap.size w w' ∧ (∀ k, v.ownBlock = some k → w.heap.size ≤ k) ∧ zs.length ≤ 1000000 ∧ (∀ z ∈ zs, 0 ≤ z ∧ z ≤ 1000000) := by
  go_enter Try.func46, Try.ntmps46
  go_wp2_with fail
  go_loopw [5, 6] (fun v i wr => ∃ (k : Nat) (zs : List Int), k ≤ n ∧ i = .int .i64 (k : Int) ∧ Hid (wr.ownsRow 0 3 1 v zs.length (intv zs)) ∧ Hid (Below w.heap.size w wr) ∧ Hid (∀ j, v.ownBlock = some j → w.heap.size ≤ j) ∧ Hid (zs.length ≤ k ∧ ∀ z ∈ zs, 0 ≤ z ∧ z < (k : Int))) (fun _ i _ => n - (intOf i).toNat)
  case atStart => exact ⟨0, [], Nat.zero_le _, rfl, ⟨World.ownsRow_nil _ _ _ _⟩, ⟨Below.refl _ _⟩, ⟨fun j hj => by cases hj⟩, ⟨Nat.le_refl _, fun z hz => by simp at hz⟩⟩
  case round =>
    obtain ⟨k, zs, hk, rfl, O, B, HF, HZ⟩ := hrel
    by_cases hlt : k < n
    · have hi := ltk k _ hlt
      have hw1 := wpm k _ hlt hn
      have hma := mask63u k (by omega)
      have hu : IntKind.u64.wrap (k : Int) = (k : Int) := by rw [IntKind.wrap_u64]; omega
      have hy : k % 64 ≤ 63 := by omega
      generalize k % 64 = y at *
      have HK : Hid (zs.length < 9000000000000) := ⟨by have := HZ.out.1; omega⟩
      cases hb : (bits BinOp.and IntKind.u64 ((m : Int) / 2 ^ y) 1 == 1) with
      | true =>
        go_wp2_with (at_builtin; refine app_int (g := wr.heap.size) (l := zs) rfl rfl rfl O.out HK.out rfl _ _ rfl rfl rfl ?_; intro y2 c w8 q8 g8 n8)
        refine ⟨⟨k + 1, zs ++ [(k : Int)], hlt, by go_num, ⟨by rw [List.length_append]; exact q8⟩, ⟨B.out.grown g8 B.out.size HF.out⟩, ⟨fun j hj => ?_⟩, ⟨by have := HZ.out.1; simp; omega, fun z hz => by
          rcases List.mem_append.1 hz with hz | hz
          · have := HZ.out.2 z hz; omega
          · simp at hz; omega⟩⟩, meask k _ hlt⟩
        cases hj
        rcases n8 with n8 | n8
        · exact HF.out _ n8
        · exact Nat.le_trans B.out.size n8
      | false =>
        go_wp2
        exact ⟨⟨k + 1, zs, hlt, by go_num, O, B, HF, ⟨Nat.le_succ_of_le HZ.out.1, fun z hz => by have := HZ.out.2 z hz; omega⟩⟩, meask k _ hlt⟩
    · have hke : k = n := Nat.le_antisymm hk (Nat.le_of_not_lt hlt)
      subst hke
      have hi := nlt k
      go_wp2
      go_ret
      exact ⟨_, rfl, zs, O.out, B.out, HF.out, Nat.le_trans HZ.out.1 hn, fun z hz => by have := HZ.out.2 z hz; omega⟩
end Go.Proofs.Ytmcdohpeibipkaa
