/- What VersionRight needs. -/
import Derived.Test.YtahdndmmakdamaaBkm
import Derived.Deep.DeepCutAuto
namespace Go.Proofs.Ytahdndmmakdamaa
set_option linter.unusedVariables false
set_option linter.unusedSimpArgs false
open Go.RowKit
theorem made_b (m : Nat) (w : World) (hm : m ≤ 2000) : ∃ w', (Instr.makeSlice 35 (.int .i64 (m : Int)) (.int .i64 (m : Int))).run Try.prog w = .ok (.slice (some ⟨w.heap.size, 0, none⟩) m m) w' ∧ (convert 35 9 (.slice (some ⟨w.heap.size, 0, none⟩) m m)).run Try.prog w' = .ok (str (List.replicate m 0)) w' ∧ Below w.heap.size w w' := by
  obtain ⟨i0, hi0, hz0, hz1, hz2⟩ := info5
  obtain ⟨w', a, b, c⟩ := run_makeSlice_full (P := Try.prog) w 0 35 5 i0 _ 1 Try.underlying35 hi0 hz0 hz1 .i64 .i64 m (by omega) (by rw [hz2]; omega) (by unfold maxLen; omega) (Nat.zero_le _)
  refine ⟨w', a, ?_, (Below.refl _ _).grown c (Nat.le_refl _) (fun k hk => by cases hk)⟩
  have e : (madeCells (Value.int .u8 0).cells (m * 1)).toList = vals (List.replicate m 0) := by
    show (madeCells #[Value.int .u8 0] (m * 1)).toList = _
    rw [toList_madeCells_one, Nat.mul_one]; simp [vals]
  rw [e] at b
  exact conv_own (base := 0) (w := w') (v := .slice (some ⟨w.heap.size, 0, none⟩) m m) (l := List.replicate m 0) ⟨by rw [List.length_replicate]; exact b, Nat.zero_le _⟩
theorem made_1025 (w : World) : ∃ w', (Instr.makeSlice 35 (.int .i64 1025) (.int .i64 1025)).run Try.prog w = .ok (.slice (some ⟨w.heap.size, 0, none⟩) 1025 1025) w' ∧ (convert 35 9 (.slice (some ⟨w.heap.size, 0, none⟩) 1025 1025)).run Try.prog w' = .ok (str (List.replicate 1025 0)) w' ∧ Below w.heap.size w w' := made_b 1025 w (by omega)
theorem made_65 (w : World) : ∃ w', (Instr.makeSlice 35 (.int .i64 65) (.int .i64 65)).run Try.prog w = .ok (.slice (some ⟨w.heap.size, 0, none⟩) 65 65) w' ∧ (convert 35 9 (.slice (some ⟨w.heap.size, 0, none⟩) 65 65)).run Try.prog w' = .ok (str (List.replicate 65 0)) w' ∧ Below w.heap.size w w' := made_b 65 w (by omega)
theorem and_low (n : Int) (k : Nat) (hk : k ≤ 40) (h1 : -9223372036854775808 ≤ n) (h2 : n ≤ 9223372036854775807) : bits BinOp.and IntKind.i64 n ((2 ^ k - 1 : Nat) : Int) = n % ((2 ^ k : Nat) : Int) := by
  have hp : 2 ^ k ≤ 1099511627776 := Nat.pow_le_pow_right (by decide) hk
  have hp1 : 1 ≤ 2 ^ k := Nat.one_le_two_pow
  have hd : (2 ^ k : Nat) ∣ 2 ^ 64 := Nat.pow_dvd_pow 2 (by omega)
  show IntKind.i64.wrap ((BitVec.ofInt 64 n &&& BitVec.ofInt 64 ((2 ^ k - 1 : Nat) : Int)).toNat : Int) = _
  rw [BitVec.ofInt_natCast, BitVec.toNat_and, BitVec.toNat_ofNat, Nat.mod_eq_of_lt (by omega), Nat.and_two_pow_sub_one_eq_mod, BitVec.toNat_ofInt, IntKind.wrap_i64]
  have e1 : (((n % ((2 ^ 64 : Nat) : Int)).toNat % 2 ^ k : Nat) : Int) = n % ((2 ^ k : Nat) : Int) := by
    have h0 := Int.emod_nonneg n (show (((2 ^ 64 : Nat) : Int)) ≠ 0 by decide)
    rw [Int.natCast_emod, Int.toNat_of_nonneg h0]
    exact Int.emod_emod_of_dvd n (Int.natCast_dvd_natCast.2 hd)
  rw [e1]
  have h3 := Int.emod_nonneg n (show (((2 ^ k : Nat) : Int)) ≠ 0 by omega)
  have h4 := Int.emod_lt_of_pos n (show (0 : Int) < ((2 ^ k : Nat) : Int) by omega)
  omega
theorem and40 {n : Int} (h1 : -9223372036854775808 ≤ n) (h2 : n ≤ 9223372036854775807) : ∃ K : Nat, K ≤ 1099511627775 ∧ bits BinOp.and IntKind.i64 n 1099511627775 = (K : Int) := by
  have := and_low n 40 (by omega) h1 h2
  refine ⟨(n % 1099511627776).toNat, by omega, ?_⟩
  rw [show ((1099511627775 : Int)) = ((2 ^ 40 - 1 : Nat) : Int) by decide, this]
  have h0 := Int.emod_nonneg n (show (1099511627776 : Int) ≠ 0 by decide)
  show n % 1099511627776 = _
  omega
theorem and7 {n : Int} (h1 : -9223372036854775808 ≤ n) (h2 : n ≤ 9223372036854775807) : ∃ K : Nat, K ≤ 7 ∧ bits BinOp.and IntKind.i64 n 7 = (K : Int) := by
  have := and_low n 3 (by omega) h1 h2
  refine ⟨(n % 8).toNat, by omega, ?_⟩
  rw [show ((7 : Int)) = ((2 ^ 3 - 1 : Nat) : Int) by decide, this]
  have h0 := Int.emod_nonneg n (show (8 : Int) ≠ 0 by decide)
  show n % 8 = _
  omega
def abL : List En := [⟨[97], [49]⟩, ⟨[98], []⟩]
def aaL : List En := [⟨[97], []⟩, ⟨[97], []⟩]
theorem mtE_abL : mtE abL = 0 := by
  unfold mtE
  rw [if_pos]
  refine ⟨by decide, ?_, ?_⟩
  · intro p hp
    simp only [abL, List.mem_cons, List.not_mem_nil, or_false] at hp
    rcases hp with rfl | rfl
    · exact prb_t (by decide) (by decide)
    · exact prb_t (by decide) (by decide)
  · unfold Srt abL; simp [lt, bcmp]
theorem mtE_aa {l : List En} : mtE (l ++ aaL) = 62 := mtE_ord (k := l.length + 1) (p := ⟨[97], []⟩) (q := ⟨[97], []⟩) (by omega) (by rw [Nat.add_sub_cancel, List.getElem?_append_right (Nat.le_refl _), Nat.sub_self]; rfl) (by rw [List.getElem?_append_right (by omega), Nat.add_sub_cancel_left]; rfl) (fun h => lt_irrefl h)
theorem rtE_seq {key : List UInt8} {seq : Int} {mk : Bool} {data : List UInt8} {l : List En} (h : seq < 1 ∨ 1099511627776 < seq) : rtE ⟨key, seq, mk, data, l⟩ = 1 := by unfold rtE; rw [if_pos h]
theorem rtE_key {key : List UInt8} {seq : Int} {mk : Bool} {data : List UInt8} {l : List En} (h : 1 ≤ seq ∧ seq ≤ 1099511627776) (h2 : ¬ (1 ≤ key.length ∧ key.length ≤ 32)) : rtE ⟨key, seq, mk, data, l⟩ = 61 := by
  have : keyE key = 61 := by unfold keyE; rw [if_neg h2]
  unfold rtE vrE
  rw [if_neg (by simp only; omega), if_pos (by simp only; rw [this]; decide)]
theorem rtE_data {key : List UInt8} {seq : Int} {mk : Bool} {data : List UInt8} {l : List En} (h : 1 ≤ seq ∧ seq ≤ 1099511627776) (h2 : 1 ≤ key.length ∧ key.length ≤ 32) (h3 : (mk = true ∧ ¬ data = []) ∨ 1024 < data.length) : rtE ⟨key, seq, mk, data, l⟩ = 63 := by
  unfold rtE vrE
  rw [if_neg (by simp only; omega), if_neg (by rw [keyE_ok h2]; simp), if_pos (by
    rcases h3 with h3 | h3
    · exact .inl h3
    · right
      unfold datE
      rw [if_neg (by simp only; omega)]
      decide)]
theorem rtE_meta {key : List UInt8} {seq : Int} {mk : Bool} {data : List UInt8} {l : List En} (h : 1 ≤ seq ∧ seq ≤ 1099511627776) (h2 : 1 ≤ key.length ∧ key.length ≤ 32) (h3 : data.length ≤ 1024) (h4 : mk = true → data = []) (h5 : (mk = true ∧ 1 ≤ l.length) ∨ mtE l = 62) : rtE ⟨key, seq, mk, data, l⟩ = 62 := by
  unfold rtE vrE
  rw [if_neg (by simp only; omega), if_neg (by rw [keyE_ok h2]; simp), if_neg (by
    rw [datE_ok h3]
    rintro (⟨a, b⟩ | b)
    · exact b (h4 a)
    · exact b rfl)]
  by_cases h6 : mk = true ∧ 1 ≤ l.length
  · rw [if_pos h6]
  · rw [if_neg h6]
    rcases h5 with h5 | h5
    · exact absurd h5 h6
    · exact h5
/-- entries that stand in a new row, behind one's own; the other blocks stay -/
theorem app_newK {ops : Array Oper} {rest : List Oper} {o : Oper} {a : Act} {Q : Exit → Act → World → Prop} {W : World} (hgd : o.guard = none) (s x : Operand) (ho : o.op = .call { callee := .builtin .append, args := #[s, x], argTypes := #[22, 22] })
    {base : Nat} {w : World} {v : Value} {l : List En} {g0 k : Nat} (q : List En) (hW : W = w.alloc (.cells (pcells q).toArray 34)) (hO : Ow base w v l) (hg : g0 = w.heap.size) (hk : q.length = k) (hq : 0 < q.length) (hn : l.length + q.length ≤ 1000000000)
    (hs : a.eval s = v) (hx : a.eval x = .slice (some ⟨g0, 0, none⟩) k k)
    (h : ∀ g cap w', Ow base w' (.slice (some ⟨g, 0, none⟩) (l.length + k) cap) (l ++ q) → Below base w w' → Kp w v w' (.slice (some ⟨g, 0, none⟩) (l.length + k) cap) → wpList Try.prog ops Q rest (a.put o.dst (.slice (some ⟨g, 0, none⟩) (l.length + k) cap)) w') :
    wpList Try.prog ops Q (o :: rest) a W := by
  subst hW hg hk
  obtain ⟨i0, hi0, hz0, hz1, hz2⟩ := infoP
  have hm : maxLen = 9223372036854775807 := rfl
  have hle := hO.le
  refine wpList_append_lies _ hgd s x 22 ho base 34 i0 _ 2 32 Try.underlying22 hi0 hz0 hz1 hz2 rfl (by omega) v l.length (pcells l) hs (hO.own.alloc _) _ q.length q.length (pcells q) hx (pcells_length q)
    (World.news_of_block (cs := (pcells q).toArray) (t := 34) (fr := (0, 0)) (heap_alloc_new w _)) (pcells_one q) (by omega) (by rw [hm]; omega) (by omega) (by simp; omega) _ rfl ?_
  intro g cap w' hown hgrow hat hlt
  have hgr := hgrow.size
  simp at hgr
  refine h g cap w' ⟨?_, by omega⟩ ?_ ?_
  · rw [pcells_append, List.length_append]; exact hown
  · exact ((Below.refl _ _).alloc hle _).trans (grown_below (hO.own.alloc _) (by simp; omega) hgrow)
  · intro k hk hne
    refine ⟨by rw [hgrow.block k (by simp; omega) (Ne.symm hne), heap_alloc_old _ _ hk], ?_⟩
    intro q2
    have e1 : g = k := by simpa [Value.ownBlock] using q2
    subst e1
    rcases hat with q3 | q3
    · exact hne q3
    · simp at q3; omega
theorem PIn.other8 {w : World} {a : Option Addr} {l : List En} (h : PIn w a l) {g j : Nat} (hg : ∀ b off, a = some ⟨b, off, none⟩ → b ≠ g) (c : Value) : PIn (w.setCell ⟨g, j, none⟩ c) a l := by
  refine ⟨fun k p hk => ?_⟩
  obtain ⟨b, off, h1, h2, h3, h4⟩ := h.get k p hk
  have hne := hg b off h1
  have hh : (w.setCell ⟨g, j, none⟩ c).heap[b]? = w.heap[b]? := heap_setCell_other _ _ _ _ (by first | exact hne | exact hne.symm)
  refine ⟨b, off, h1, by simpa using h2, ?_, ?_⟩
  · rw [World.cell?, hh]; exact h3
  · rw [World.cell?, hh]; exact h4
end Go.Proofs.Ytahdndmmakdamaa
