/- numbers of two bytes, the head's text, what a first sector says, lists. -/
import Derived.Test.YtghdgddpdamhcaaGreatByt
import Derived.Test.YtghdgddpdamhcaaGreatNam
import Derived.Test.YtghdgddpdamhcaaGreatSOf
import Derived.Lib.SlBytesConst
import Derived.BigQuiet
import Derived.Deep.RegionHeld3
namespace Go.Proofs.YtghdgddpdamhcaaGreat
set_option linter.unusedVariables false
set_option linter.unusedSimpArgs false
open Go.RowKit
theorem lists_any (n : Nat) (hn : n ≤ 9000000000000000000) (w : World) : Calls Tryz.prog 99 #[.int .i64 (n : Int)] w fun e w' => e = .returned (.int .i64 (((n + 255) / 256 : Nat) : Int)) ∧ w' = w := by
  have H : Hid (((n : Int) + 256 - 1) / 256 = (((n + 255) / 256 : Nat) : Int)) := ⟨by omega⟩
  go_enter Tryz.func99, Tryz.ntmps99
  go_wp2
  go_ret
  exact ⟨by rw [← H.out]; rfl, rfl⟩
set_option maxRecDepth 100000 in
theorem appendNumber_any {base : Nat} {w : World} {v : Value} {L : List UInt8} (n : Nat) (hO : Ob base w v L) (hn : L.length ≤ 100000) (h16 : n < 65536) :
    Calls Tryz.prog 126 #[v, .int .i64 (n : Int)] w fun e w' => ∃ v', e = .returned v' ∧ Ob base w' v' (L ++ be2 n) ∧ Below base w w' := by
  have hC : Hid (#[.int .u8 ((n : Int) / 256), .int .u8 ((n : Int) % 256)] = (vals (be2 n)).toArray) := ⟨by
    have e : n / 256 % 256 = n / 256 := by omega
    simp [vals, be2, UInt8.toNat_ofNat', e]⟩
  have hle := hO.le
  go_enter Tryz.func126, Tryz.ntmps126
  go_wp2_with (at_builtin; refine app_lits (g := w.heap.size) (m := 2) (be2 n) rfl hC.out rfl hO rfl (by simp [be2]; omega) rfl _ _ rfl rfl rfl ?_; intro v1 w1 q1 b1)
  go_ret
  exact ⟨_, rfl, q1, b1⟩
theorem app_zeros {ops : Array Oper} {rest : List Oper} {o : Oper} {a : Act} {Q : Exit → Act → World → Prop} {base : Nat} {w : World} {v : Value} {L : List UInt8} {i : Int} (m : Nat) (hi : i = (m : Int)) (hO : Ob base w v L) (hn : L.length ≤ 100000) (hm : m ≤ 100000)
    (hgd : o.guard = none) (s x : Operand) (ho : o.op = .call { callee := .builtin .append, args := #[s, x], argTypes := #[40, 3] })
    (hs : a.eval s = v) (hx : a.eval x = .int .i64 i)
    (h : ∀ v' w', Ob base w' v' (L ++ List.replicate m 0) → Below base w w' → wpList Tryz.prog ops Q rest (a.put o.dst v') w') : wpList Tryz.prog ops Q (o :: rest) a w := by
  subst hi
  refine wpList_plain hgd fun K hK => ?_
  obtain ⟨i0, hi0, hz0, hz1, hz2⟩ := info5
  have hmx : maxLen = 9223372036854775807 := rfl
  obtain ⟨v', w', hr, hown, hgrow, _⟩ := Lib.run_append_own_string (P := Tryz.prog) w base 40 9 o.type 5 i0 Tryz.underlying40 Tryz.underlying9 hi0 hz0 hz1 hz2 v L.length (vals L) hO.own ⟨(List.replicate m (0 : UInt8)).toArray⟩ (by rw [str_size, List.length_replicate, hmx]; omega) (by rw [str_size, List.length_replicate]; omega) hO.le
  obtain ⟨b, c, e, hc⟩ : ∃ b c, v = .slice b L.length c ∧ L.length ≤ c := by
    rcases hO.own.2 with ⟨rfl, h0⟩ | ⟨g, cap, cur, rfl, _, _, h1, _⟩
    · exact ⟨none, 0, by rw [h0], by omega⟩
    · exact ⟨_, _, rfl, h1⟩
  rw [e, ← run_append_zeros w o.type b L.length c m hm hn hc, ← e] at hr
  unfold Oper.wp execOp
  simp only [ho, resolve, invoke, builtin, Sem.run_bind, Sem.run_pure, Result.andThen_ok, List.map_toArray, List.map_cons, List.map_nil, hs, hx, hr]
  refine hK _ _ (h v' w' ⟨?_, ?_⟩ (grown_below hO.own hO.le hgrow))
  · rw [vals_append, List.length_append, ← vals_str (List.replicate m 0)]; rw [str_size] at hown; exact hown
  · have := hgrow.size; have h2 := hO.le; omega
/-- append onto a full row that may bear the run-time's mark -/
theorem app_grown {ops : Array Oper} {rest : List Oper} {o : Oper} {a : Act} {Q : Exit → Act → World → Prop} {base : Nat} {w w0 : World} {L : List UInt8} {g g0 m l : Nat} {cs : Array Value} (C : List UInt8) (hw : w0 = w.alloc (.cells cs 5)) (hcs : cs = (vals C).toArray) (hm : m = C.length) (hl : l = L.length) (hb : base ≤ w.heap.size) (hold : ∀ j u, (vals L)[j]? = some u → w.cell? ⟨g0, j, none⟩ = some u) (hg : g = w.heap.size) (hn : L.length + C.length ≤ 1000) (hC : C ≠ [])
    (hgd : o.guard = none) (s x : Operand) (ho : o.op = .call { callee := .builtin .append, args := #[s, x], argTypes := #[40, 40] })
    (hs : a.eval s = .slice (some ⟨g0, 0, none⟩) l l) (hx : a.eval x = .slice (some ⟨g, 0, none⟩) m m)
    (h : ∀ v' w', Ob base w' v' (L ++ C) → Below base w w' → wpList Tryz.prog ops Q rest (a.put o.dst v') w') : wpList Tryz.prog ops Q (o :: rest) a w0 := by
  subst hw hcs hg hm hl
  obtain ⟨i0, hi0, hz0, hz1, hz2⟩ := info5
  have hmx : maxLen = 9223372036854775807 := rfl
  have hadd : ∀ (g j : Nat), (⟨g, 0, none⟩ : Addr).add j = ⟨g, j, none⟩ := fun g j => by unfold Addr.add; split <;> simp_all
  have hc0 : 0 < C.length := List.length_pos_iff.2 hC
  have hr := run_append_grow (P := Tryz.prog) (w.alloc (.cells (vals C).toArray 5)) 40 o.type 5 i0 (.int .u8 0) Tryz.underlying40 hi0 hz0 ⟨g0, 0, none⟩ L.length L.length (vals L) (by rw [hz1, vals_length]; omega)
    (fun j u hj => by rw [hadd]; exact Lib.cell?_alloc_marked _ (hold j u hj)) ⟨w.heap.size, 0, none⟩ C.length C.length (vals C) (by rw [hz1, vals_length]; omega)
    (World.news_of_block (cs := (vals C).toArray) (t := 5) (fr := (0, 0)) (heap_alloc_new w _)) (by omega) (by omega) (by rw [hz2]; exact growslice_fits_wide (by omega) (by omega))
  refine wpList_plain hgd fun K hK => ?_
  unfold Oper.wp execOp
  simp only [ho, resolve, invoke, builtin, Sem.run_bind, Sem.run_pure, Result.andThen_ok, List.map_toArray, List.map_cons, List.map_nil, hs, hx, hr]
  have hge := grownCap_ge (w.alloc (.cells (vals C).toArray 5)) (L.length + C.length) L.length 5
  have hcm : grownCap (w.alloc (.cells (vals C).toArray 5)) (L.length + C.length) L.length 5 ≤ maxLen := grownCap_le_maxLen _ _ _ _ (by rw [hmx]; omega)
  refine hK _ _ (h _ _ ⟨⟨by rw [vals_length]; simp, .inr ⟨(w.alloc (.cells (vals C).toArray 5)).heap.size, grownCap (w.alloc (.cells (vals C).toArray 5)) (L.length + C.length) L.length 5, _, by rw [List.length_append], ?_, heap_alloc_new (w.alloc (.cells (vals C).toArray 5)).drew _, by rw [List.length_append]; exact hge, hcm, ?_, ?_⟩⟩, ?_⟩ ?_)
  · simp; omega
  · have hz1 : (Value.int IntKind.u8 0).cells.size = 1 := rfl
    simp only [Array.size_append, List.size_toArray, size_zeroCells, hz1, vals_length]
    omega
  · simp only [Array.toList_append, List.append_assoc]
    rw [← List.append_assoc, ← vals_append, Nat.mul_one, ← vals_length (L ++ C)]
    exact List.take_left
  · simp; omega
  · exact ((((Below.refl _ _).alloc hb _).drew).alloc (by simp; omega) _)
set_option maxRecDepth 100000 in
theorem appendNumber_grown {base : Nat} {w : World} {g0 : Nat} (L : List UInt8) (n : Nat) (hb : base ≤ w.heap.size) (hold : ∀ j u, (vals L)[j]? = some u → w.cell? ⟨g0, j, none⟩ = some u) (hn : L.length ≤ 900) (h16 : n < 65536) {l : Nat} (hl : l = L.length) :
    Calls Tryz.prog 126 #[.slice (some ⟨g0, 0, none⟩) l l, .int .i64 (n : Int)] w fun e w' => ∃ v', e = .returned v' ∧ Ob base w' v' (L ++ be2 n) ∧ Below base w w' := by
  have hC : Hid (#[.int .u8 ((n : Int) / 256), .int .u8 ((n : Int) % 256)] = (vals (be2 n)).toArray) := ⟨by
    have e : n / 256 % 256 = n / 256 := by omega
    simp [vals, be2, UInt8.toNat_ofNat', e]⟩
  have HO : Hid (∀ j u, (vals L)[j]? = some u → w.cell? ⟨g0, j, none⟩ = some u) := ⟨hold⟩
  have HL : Hid (l = L.length) := ⟨hl⟩
  clear hold hl
  go_enter Tryz.func126, Tryz.ntmps126
  go_wp2_with (at_builtin; refine app_grown (g := w.heap.size) (m := 2) (L := L) (be2 n) rfl hC.out rfl HL.out hb HO.out rfl (by simp [be2]; omega) (by simp [be2]) rfl _ _ rfl rfl rfl ?_; intro v1 w1 q1 b1)
  go_ret
  exact ⟨_, rfl, q1, b1⟩
theorem leN_zero (x : Nat) : leN 0 x = [] := rfl
theorem hd_row (s c : Nat) : ([99, 111, 102, 102, 101, 114, 32, 108, 111, 103, 10] : List UInt8) ++ be2 s ++ be2 c ++ List.replicate 489 0 = hd0 s c := rfl
theorem mark_cells (w : World) (fr : Nat × Nat) : ∀ j u, (vals markL)[j]? = some u → (w.alloc (.cells #[.int .u8 99, .int .u8 111, .int .u8 102, .int .u8 102, .int .u8 101, .int .u8 114, .int .u8 32, .int .u8 108, .int .u8 111, .int .u8 103, .int .u8 10] 5 fr)).cell? ⟨w.heap.size, j, none⟩ = some u := fun j u h => by
  rw [cell_of_row _ _ j #[.int .u8 99, .int .u8 111, .int .u8 102, .int .u8 102, .int .u8 101, .int .u8 114, .int .u8 32, .int .u8 108, .int .u8 111, .int .u8 103, .int .u8 10] 5 fr (heap_alloc_new w _), ← h]
  have e : (#[.int .u8 99, .int .u8 111, .int .u8 102, .int .u8 102, .int .u8 101, .int .u8 114, .int .u8 32, .int .u8 108, .int .u8 111, .int .u8 103, .int .u8 10] : Array Value) = (vals markL).toArray := by simp [vals, markL]
  rw [e]
  simp
set_option maxRecDepth 100000 in
theorem text_any (s c : Nat) (hs : s < 65536) (hc : c < 65536) (w : World) : Calls Tryz.prog 105 #[.agg #[.int .i64 (s : Int), .int .i64 (c : Int)]] w fun e w' => e = .returned (.string (NN.hd s c)) ∧ Below w.heap.size w w' := by
  obtain ⟨X, hX⟩ : ∃ X, X = NN.hd s c := ⟨_, rfl⟩
  have HX : Hid (X = ⟨(hd0 s c ++ leN 8 (own0 s c).toNat).toArray⟩) := ⟨hX.trans (hd_eq s c)⟩
  have HL : Hid ((hd0 s c).length = 504) := ⟨hd0_length s c⟩
  have HO : Hid (own0 s c = Sum.Crc.on 0#64 (hd0 s c)) := ⟨rfl⟩
  have HLT : Hid ((own0 s c).toNat < 18446744073709551616) := ⟨(own0 s c).isLt⟩
  rw [← hX]
  clear hX
  have hcv : (convert 40 40 (.slice (some ⟨w.heap.size + 1, 0, none⟩) 11 11)).run Tryz.prog ((w.alloc (.cells #[.int .i64 (s : Int), .int .i64 (c : Int)] 117)).alloc (.cells #[.int .u8 99, .int .u8 111, .int .u8 102, .int .u8 102, .int .u8 101, .int .u8 114, .int .u8 32, .int .u8 108, .int .u8 111, .int .u8 103, .int .u8 10] 5)) = .ok (.slice (some ⟨w.heap.size + 1, 0, none⟩) 11 11) ((w.alloc (.cells #[.int .i64 (s : Int), .int .i64 (c : Int)] 117)).alloc (.cells #[.int .u8 99, .int .u8 111, .int .u8 102, .int .u8 102, .int .u8 101, .int .u8 114, .int .u8 32, .int .u8 108, .int .u8 111, .int .u8 103, .int .u8 10] 5 (11, 12))) := by
    have := Lib.run_convert_bytes_const (P := Tryz.prog) (w.alloc (.cells #[.int .i64 (s : Int), .int .i64 (c : Int)] 117)) 40 5 #[.int .u8 99, .int .u8 111, .int .u8 102, .int .u8 102, .int .u8 101, .int .u8 114, .int .u8 32, .int .u8 108, .int .u8 111, .int .u8 103, .int .u8 10] 11 11 Tryz.underlying40 Tryz.underlying5
    rw [World.size_alloc] at this
    exact this
  have HW : Hid (Below w.heap.size w (w.alloc (.cells #[.int .i64 (s : Int), .int .i64 (c : Int)] 117))) := ⟨(Below.refl _ _).alloc (Nat.le_refl _) _⟩
  go_enter Tryz.func105, Tryz.ntmps105
  go_wp2_with fail
  have hc0 : (w.alloc (.cells #[.int .i64 (s : Int), .int .i64 (c : Int)] 117)).cell? ⟨w.heap.size, 0, none⟩ = some (.int .i64 (s : Int)) := cell_of_row _ _ 0 _ _ (0, 0) (heap_alloc_new w _)
  have hc1 : (w.alloc (.cells #[.int .i64 (s : Int), .int .i64 (c : Int)] 117)).cell? ⟨w.heap.size, 1, none⟩ = some (.int .i64 (c : Int)) := cell_of_row _ _ 1 _ _ (0, 0) (heap_alloc_new w _)
  have hsz : (w.alloc (.cells #[.int .i64 (s : Int), .int .i64 (c : Int)] 117)).heap.size = w.heap.size + 1 := by simp
  rw [← hsz]
  generalize w.alloc (.cells #[.int .i64 (s : Int), .int .i64 (c : Int)] 117) = W at *
  refine (appendNumber_grown (base := W.heap.size) markL s (by simp) (mark_cells W _) (by decide) hs rfl).mono ?_
  rintro e w1 ⟨v1, rfl, o1, b1⟩
  have B1 : Below W.heap.size W w1 := ((Below.refl _ _).alloc (Nat.le_refl _) _).trans b1
  have c11 : w1.cell? ⟨w.heap.size, 1, none⟩ = some (.int .i64 (c : Int)) := (B1.cell (p := ⟨w.heap.size, 1, none⟩) (by simp; omega)).trans hc1
  clear b1 hc0 hcv
  dsimp only
  go_wp2_with fail
  refine (appendNumber_any (base := W.heap.size) c o1 (by simp [markL, be2]) hc).mono ?_
  rintro e w2 ⟨v2, rfl, o2, b2⟩
  have B2 : Hid (Below W.heap.size W w2) := ⟨B1.trans b2⟩
  clear b2 o1 c11 B1
  obtain ⟨va, vc, rfl⟩ := own_slice o2.own
  have hl2 : (markL ++ be2 s ++ be2 c).length = 15 := rfl
  rw [hl2]
  have O2 : Hid (Ob W.heap.size w2 (.slice va 15 vc) (markL ++ be2 s ++ be2 c)) := ⟨by rw [hl2] at o2; exact o2⟩
  clear o2 hl2
  dsimp only
  go_wp2_with (at_builtin; refine app_zeros (i := 489) 489 rfl O2.out (by simp [markL, be2]) (by decide) rfl _ _ rfl rfl rfl ?_; intro v3 w3 q3 b3; have hcv3 := conv_own (l := hd0 s c) (Ob.own q3))
  have O3 : Hid (Ob W.heap.size w3 v3 (hd0 s c)) := ⟨q3⟩
  have B3 : Hid (Below W.heap.size W w3) := ⟨B2.out.trans b3⟩
  have HS : Hid ((⟨(hd0 s c).toArray⟩ : ByteArray).size ≤ maxLen) := ⟨by rw [str_size, HL.out]; decide⟩
  clear q3 b3 B2 O2
  refine (Sum.of_any _ _ HS.out).mono ?_
  rintro e w4 ⟨rfl, b4⟩
  have e4 : Sum.Crc.on 0#64 (⟨(hd0 s c).toArray⟩ : ByteArray).data.toList = own0 s c := by rw [HO.out]
  rw [e4]
  have O4 : Hid (Ob W.heap.size w4 v3 (hd0 s c)) := ⟨O3.out.later b4⟩
  have B4 : Hid (Below W.heap.size W w4) := ⟨B3.out.trans (b4.mono B3.out.size)⟩
  clear e4 b4 hcv3 O3 B3 HO HS
  generalize hx : (own0 s c).toNat = x at *
  generalize hd0 s c = H at *
  clear hx
  dsimp only
  go_wp2_with fail
  go_loopw [3, 4, 23] (fun v y i wr => ∃ k : Nat, k ≤ 8 ∧ i = .int .i64 (k : Int) ∧ y = .int .u64 ((x / 256 ^ k : Nat) : Int) ∧ Hid (Ob W.heap.size wr v (H ++ leN k x)) ∧ Hid (Below W.heap.size W wr)) (fun _ _ i _ => 8 - (intOf i).toNat)
  case atStart => exact ⟨0, by omega, rfl, by simp, ⟨by simpa [leN] using O4.out⟩, B4⟩
  case round =>
    obtain ⟨k, hk, rfl, rfl, R, BR⟩ := hrel
    by_cases hlt : k < 8
    · have hd : (k : Int) < 8 := by omega
      have hC : Hid (#[.int .u8 (((x / 256 ^ k : Nat) : Int) % 256)] = (vals [UInt8.ofNat (x / 256 ^ k)]).toArray) := ⟨by simp [vals, UInt8.toNat_ofNat']⟩
      have hl : (H ++ leN k x).length ≤ 900 := by rw [List.length_append, leN_length, HL.out]; omega
      have HS : Hid (∀ v3 w3, Ob W.heap.size w3 v3 (H ++ leN k x ++ [UInt8.ofNat (x / 256 ^ k)]) → Ob W.heap.size w3 v3 (H ++ leN (k + 1) x)) := ⟨fun v3 w3 h => by rw [leN, ← List.append_assoc]; exact h⟩
      have HD : Hid (((x / 256 ^ k : Nat) : Int) / 256 = ((x / 256 ^ (k + 1) : Nat) : Int)) := ⟨by rw [Nat.pow_succ, ← Nat.div_div_eq_div_mul]; omega⟩
      have hy : x / 256 ^ k < 18446744073709551616 := Nat.lt_of_le_of_lt (Nat.div_le_self _ _) HLT.out
      generalize x / 256 ^ k = y at *
      go_wp2_with (at_builtin; refine app_lits (g := wr.heap.size) (m := 1) [UInt8.ofNat y] rfl hC.out rfl R.out rfl (by simp at hl ⊢; omega) rfl _ _ rfl rfl rfl ?_; intro v5 w5 q5 b5)
      go_roundw
      case rel => exact ⟨k + 1, by omega, by go_num, by rw [← HD.out], ⟨HS.out _ _ q5⟩, ⟨BR.out.trans b5⟩⟩
      case measure => simp [intOf]; omega
    · obtain rfl : k = 8 := by omega
      have hcv8 := conv_own R.out.own
      go_wp2
      go_ret
      exact ⟨by rw [HX.out]; rfl, (HW.out.trans (BR.out.mono HW.out.size))⟩
end Go.Proofs.YtghdgddpdamhcaaGreat
