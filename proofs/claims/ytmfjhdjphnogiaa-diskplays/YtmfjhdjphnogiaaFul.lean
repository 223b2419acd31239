/- full, made, least, in. -/
import Derived.Test.YtmfjhdjphnogiaaNew
import Derived.Test.YtmfjhdjphnogiaaCra
import Derived.Lib.AppendStr
namespace Go.Proofs.Ytmfjhdjphnogiaa
set_option linter.unusedVariables false
set_option linter.unusedSimpArgs false
open Go.RowKit
def vals (l : List UInt8) : List Value := l.map fun b => Value.int .u8 b.toNat
theorem vals_append (a b : List UInt8) : vals (a ++ b) = vals a ++ vals b := List.map_append ..
theorem conv_own {base : Nat} {w : World} {v : Value} {l : List UInt8} (h : w.ownsRow base 5 1 v l.length (vals l)) : (convert 69 9 v).run Try.prog w = .ok (.string ⟨l.toArray⟩) w := by
  rcases h.2 with ⟨rfl, h0⟩ | ⟨g, cap, cur, rfl, _, _⟩
  · have : l = [] := List.eq_nil_of_length_eq_zero h0
    subst this
    exact run_convert_bytes_nil w 69 5 Try.underlying69 Try.underlying5 0 0 9 Try.underlying9
  · refine run_convert_bytes_back w 69 9 5 ⟨g, 0, none⟩ cap l Try.underlying69 Try.underlying5 Try.underlying9 ?_
    intro j hj
    have hadd : (⟨g, 0, none⟩ : Addr).add j = ⟨g, j, none⟩ := by unfold Addr.add; split <;> simp_all
    rw [hadd, h.cellAt j (by simpa using hj)]
    simp [vals, hj]
/-- a row of bytes of the call's own -/
structure Ob (base : Nat) (w : World) (v : Value) (L : List UInt8) : Prop where
  own : w.ownsRow base 5 1 v L.length (vals L)
  le : base ≤ w.heap.size
theorem app_byte {ops : Array Oper} {rest : List Oper} {o : Oper} {a : Act} {Q : Exit → Act → World → Prop} {base : Nat} {w w0 : World} {v : Value} {L : List UInt8} {c : Int} {g : Nat} (C : UInt8) (hw : w0 = w.alloc (.cells #[.int .u8 c] 5)) (hO : Ob base w v L) (hg : g = w.heap.size) (hn : L.length ≤ 140000000000000) (hC : c = (C.toNat : Int))
    (hgd : o.guard = none) (s x : Operand) (ho : o.op = .call { callee := .builtin .append, args := #[s, x], argTypes := #[69, 69] })
    (hs : a.eval s = v) (hx : a.eval x = .slice (some ⟨g, 0, none⟩) 1 1)
    (h : ∀ v' w', Ob base w' v' (L ++ [C]) → Below base w w' → wpList Try.prog ops Q rest (a.put o.dst v') w') : wpList Try.prog ops Q (o :: rest) a w0 := by
  subst hw hC hg
  obtain ⟨i0, hi0, hz0, hz1, hz2⟩ := info_parts infoBf
  have hm : maxLen = 9223372036854775807 := rfl
  refine wp_append_at Try.underlying69 hi0 hz0 hz1 hz2 rfl (by omega) base (hO.own.alloc _) (news := [.int .u8 C.toNat]) rfl
    (World.news_of_block (cs := #[.int .u8 C.toNat]) (t := 5) (fr := (0, 0)) (heap_alloc_new w _)) (by simp [Value.oneCell']) (by rw [hm]; omega) (by omega) (by have := hO.le; simp; omega) hgd s x ho hs hx ?_
  intro v' w' q1 q2 _ _
  refine h v' w' ⟨?_, ?_⟩ ?_
  · rw [vals_append, List.length_append]; exact q1
  · have := q2.size; have h2 := hO.le; simp at this; omega
  · exact ((Below.refl _ _).alloc hO.le _).grown q2 (by have := hO.le; simp; omega) (fun k hk => (hO.own.lt k hk).1)
set_option maxRecDepth 100000 in
theorem full_any (c : UInt8) (w : World) : Calls Try.prog 12 #[.int .u8 (c.toNat : Int)] w fun e w' => e = .returned (.string (fl c)) ∧ Below w.heap.size w w' := by
  obtain ⟨cc, hcc⟩ : ∃ cc : Int, cc = (c.toNat : Int) := ⟨_, rfl⟩
  have HCC : Hid (cc = (c.toNat : Int)) := ⟨hcc⟩
  rw [← hcc]
  have HF : Hid (fl c = ⟨(List.replicate 512 c).toArray⟩) := ⟨rfl⟩
  clear hcc
  generalize fl c = F at *
  go_enter Try.func12, Try.ntmps12
  go_wp2
  go_loopw [3, 4] (fun v i wr => ∃ k : Nat, k ≤ 512 ∧ i = .int .i64 k ∧ Hid (Ob w.heap.size wr v (List.replicate k c) ∧ Below w.heap.size w wr)) (fun _ i _ => 512 - (intOf i).toNat)
  case atStart => exact ⟨0, Nat.zero_le _, rfl, ⟨⟨World.ownsRow_nil _ _ _ _, Nat.le_refl _⟩, Below.refl _ _⟩⟩
  case round =>
    obtain ⟨k, hk, rfl, R⟩ := hrel
    by_cases hlt : k < 512
    · have hi : (k : Int) < 512 := by omega
      have hw1 : wrap64 ((k : Int) + 1) = ((k + 1 : Nat) : Int) := by unfold wrap64; omega
      go_wp2_with (at_builtin; refine app_byte (g := wr.heap.size) c rfl R.out.1 rfl (by rw [List.length_replicate]; omega) HCC.out rfl _ _ rfl rfl rfl ?_; intro v' w1 q1 q2)
      go_roundw
      case rel => exact ⟨k + 1, by omega, by go_num, ⟨by rw [List.replicate_succ']; exact q1, R.out.2.trans q2⟩⟩
      case measure => simp [intOf]; omega
    · have hke : k = 512 := by omega
      subst hke
      have hi : ¬ (((512 : Nat) : Int) < 512) := by omega
      have hc := conv_own R.out.1.own
      rw [← HF.out] at hc
      go_wp2
      go_ret
      exact ⟨rfl, R.out.2⟩
theorem made_any (n : Nat) (w : World) (h1 : 1 ≤ n) (h2 : n ≤ 8192) : Calls Try.prog 9 #[.int .i64 (n : Int)] w fun e w' => ∃ D, e = .returned (pt D.p) ∧ DiskAt w' D (fresh n) ∧ Below w.heap.size w w' ∧ ∀ k, D.foot k → w.heap.size ≤ k := by
  go_enter Try.func9, Try.ntmps9
  go_wp2_with fail
  refine (new_any n _ h1 h2).mono ?_
  rintro e w1 ⟨D, rfl, d, b, f⟩
  have G : Hid (_ ∧ _ ∧ _) := ⟨d, b, f⟩
  clear d b f
  dsimp only
  go_wp2
  go_ret
  exact ⟨D, rfl, G.out⟩
/-- a number modulo another one, not below 0 -/
def lst (n : Int) (m : Nat) : Nat := (n % (m : Int)).toNat
theorem lst_lt (n : Int) (m : Nat) (h : 0 < m) : lst n m < m := by
  unfold lst
  have h1 := Int.emod_nonneg n (show (m : Int) ≠ 0 by omega)
  have h2 := Int.emod_lt_of_pos n (show 0 < (m : Int) by omega)
  omega
theorem least_any (n : Int) (m : Nat) (w : World) (hm : 0 < m) (hm2 : m ≤ 100) (h1 : -9223372036854775808 ≤ n) (h2 : n ≤ 9223372036854775807) : Calls Try.prog 10 #[.int .i64 n, .int .i64 (m : Int)] w fun e w' => e = .returned (.int .i64 (lst n m : Int)) ∧ w' = w := by
  have hm0 : ((m : Int) == 0) = false := by rw [beq_eq_false_iff_ne]; omega
  have ht : n.tmod m = (lst n m : Int) ∨ (n.tmod m < 0 ∧ n.tmod m + m = (lst n m : Int)) := by
    have h1 := Int.emod_nonneg n (show (m : Int) ≠ 0 by omega)
    have h3 := Int.emod_lt_of_pos n (show 0 < (m : Int) by omega)
    have h4 : (lst n m : Int) = n % m := by unfold lst; omega
    rw [h4, Int.tmod_eq_emod]
    simp only [Int.natAbs_natCast]
    split
    · exact .inl (by omega)
    · exact .inr (by omega)
  have hb1 : -(m : Int) ≤ n.tmod m := by
    rcases ht with h | h <;> omega
  have hb2 : n.tmod m < (m : Int) := by
    have := lst_lt n m hm
    rcases ht with h | h <;> omega
  have hl := lst_lt n m hm
  generalize lst n m = L at *
  go_enter Try.func10, Try.ntmps10
  go_wp2
  all_goals go_ret
  · have e : n.tmod m + m = L := by omega
    exact ⟨by rw [← e]; rfl, rfl⟩
  · have e : n.tmod m = L := by omega
    exact ⟨by rw [← e]; rfl, rfl⟩
set_option maxRecDepth 100000 in
theorem isIn_any (a : Option Addr) (cap : Nat) (zs : List Int) (n : Int) (w : World) (hl : zs.length ≤ 20000000000000) (hz : IIn w a zs) : Calls Try.prog 21 #[.slice a zs.length cap, .int .i64 n] w fun e w' => e = .returned (.bool (decide (n ∈ zs))) ∧ w' = w := by
  go_enter Try.func21, Try.ntmps21
  go_wp2
  go_loopw [5] (fun i wr => wr = w ∧ ∃ k : Nat, k ≤ zs.length ∧ i = .int .i64 k ∧ Hid (n ∉ zs.take k)) (fun i _ => zs.length - (intOf i).toNat)
  case atStart => exact ⟨rfl, 0, Nat.zero_le _, rfl, ⟨by simp⟩⟩
  case round =>
    obtain ⟨hw, k, hk, rfl, R⟩ := hrel
    subst hw
    by_cases hlt : k < zs.length
    · obtain ⟨z, hzk⟩ : ∃ z, zs[k]? = some z := ⟨_, List.getElem?_eq_getElem hlt⟩
      obtain ⟨b, off, rfl, hb, hc, hz1, hz2⟩ := hz.get k z hzk
      have hi : (k : Int) < zs.length := by omega
      have hw1 : wrap64 ((k : Int) + 1) = ((k + 1 : Nat) : Int) := by unfold wrap64; omega
      have HK : Hid (zs[k]? = some z) := ⟨hzk⟩
      clear hzk
      by_cases he : z = n
      · subst he
        have e1 : decide (z ∈ zs) = true := decide_eq_true (List.mem_of_getElem? HK.out)
        go_wp2
        go_ret
        exact ⟨by rw [e1]; rfl, rfl⟩
      · have e1 : (z == n) = false := beq_eq_false_iff_ne.2 he
        go_wp2
        go_roundw
        case rel => exact ⟨trivial, k + 1, by omega, by go_num, ⟨by rw [take_step _ _ _ HK.out]; simp; exact ⟨R.out, fun h => he h.symm⟩⟩⟩
        case measure => simp [intOf]; omega
    · have hke : k = zs.length := by omega
      subst hke
      have hi : ¬ ((zs.length : Int) < zs.length) := by omega
      rw [List.take_length] at R
      have e1 : decide (n ∈ zs) = false := decide_eq_false R.out
      go_wp2
      go_ret
      exact ⟨rfl, rfl⟩
end Go.Proofs.Ytmfjhdjphnogiaa
