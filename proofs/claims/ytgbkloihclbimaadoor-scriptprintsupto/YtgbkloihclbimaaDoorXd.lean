/- Layer 22: a word as a text in quotes. -/
import Derived.Test.YtgbkloihclbimaaDoorXb
namespace Go.Proofs.YtgbkloihclbimaaDoor
set_option maxRecDepth 100000
set_option linter.unusedVariables false
set_option linter.unusedSimpArgs false
open Go.RowKit
attribute [local go_sem ↓] Go.wp_at_zero Go.wp_at_succ sl9 ix9
theorem getLast_at {s : By} {n : Nat} (h : s.length = n + 1) : s.getLast? = s[n]? := by
  rw [List.getLast?_eq_getElem?, h]; rfl
theorem make_bs (w : World) (n : Nat) (hn : n ≤ 1000000000) : ∃ w', (Instr.makeSlice 55 (.int .i64 0) (.int .i64 (n : Int))).run Tryd.prog w = .ok (.slice (some ⟨w.heap.size, 0, none⟩) 0 n) w' ∧ Ob w.heap.size w' (.slice (some ⟨w.heap.size, 0, none⟩) 0 n) [] ∧ Below w.heap.size w w' := by
  obtain ⟨i0, hi0, hz0, hz1, hz2⟩ := info5
  obtain ⟨w', a1, a2, a3⟩ := run_make_own (P := Tryd.prog) w w.heap.size 55 5 i0 _ 1 Tryd.underlying55 hi0 hz0 hz1 .i64 .i64 n (by rw [hz2]; omega) (by unfold maxLen; omega) (Nat.le_refl _)
  exact ⟨w', a1, ⟨a2, a3.size⟩, (Below.refl _ _).grown a3 (Nat.le_refl _) (fun k0 hk0 => by cases hk0)⟩
set_option maxHeartbeats 1000000 in
theorem textOf_any (s : By) (hs : s.length ≤ 1000000000) (w : World) :
    Calls Tryd.prog 66 #[str s] w fun e w' => e = .returned (.tuple #[str ((txtO s).getD []), .bool (txtO s).isSome]) ∧ Below w.heap.size w w' := by
  by_cases h1 : s.length < 2
  · have HV : Hid (txtO s = none) := ⟨by unfold txtO; rw [if_neg (fun q => by omega)]⟩
    have d1 : decide ((s.length : Int) < 2) = true := decide_eq_true (by omega)
    clear h1
    go_enter Tryd.func66, Tryd.ntmps66
    go_wp2_with fail
    refine bodyPost_ret (results_tmp2 rfl _ _ _) rfl ?_
    exact ⟨by rw [HV.out]; rfl, Below.refl _ _⟩
  have d1 : decide ((s.length : Int) < 2) = false := decide_eq_false (by omega)
  have i0 : ∀ w, (ixS (str s) (.int .i64 0)).run Tryd.prog w = .ok (.int .u8 ((s.getD 0 0).toNat : Int)) w := run_ix s 0 (by omega)
  have hh0 : s.head? = some (s.getD 0 0) := by
    cases s with
    | nil => simp at h1
    | cons c r => rfl
  obtain ⟨n, hn⟩ : ∃ n, s.length = n + 1 := ⟨s.length - 1, by omega⟩
  have hl0 : s.getLast? = some (s.getD n 0) := by rw [getLast_at hn, List.getD_eq_getElem?_getD, List.getElem?_eq_getElem (by omega)]; rfl
  have hw1 : (s.length : Int) - 1 = (n : Int) := by omega
  have in_ : ∀ w, (ixS (str s) (.int .i64 ((s.length : Int) - 1))).run Tryd.prog w = .ok (.int .u8 ((s.getD n 0).toNat : Int)) w := by rw [hw1]; exact run_ix s n (by omega)
  generalize s.getD 0 0 = c0 at *
  generalize s.getD n 0 = cn at *
  by_cases h2 : c0 ≠ 34
  · have HV : Hid (txtO s = none) := ⟨by unfold txtO; rw [if_neg (fun q => h2 (by rw [hh0] at q; exact Option.some.inj q.2.1))]⟩
    have e1 : ((c0.toNat : Int) == 34) = false := u8ne (n := 34) (by decide) h2
    have e2 : ((c0.toNat : Int) != 34) = true := by rw [bne, e1]; rfl
    clear h1 h2 hh0 hl0 hn hw1
    go_enter Tryd.func66, Tryd.ntmps66
    go_wp2_with fail
    refine bodyPost_ret (results_tmp2 rfl _ _ _) rfl ?_
    exact ⟨by rw [HV.out]; rfl, Below.refl _ _⟩
  have h2 := Decidable.not_not.1 h2
  subst h2
  by_cases h3 : cn ≠ 34
  · have HV : Hid (txtO s = none) := ⟨by unfold txtO; rw [if_neg (fun q => h3 (by rw [hl0] at q; exact Option.some.inj q.2.2))]⟩
    have e1 : ((cn.toNat : Int) == 34) = false := u8ne (n := 34) (by decide) h3
    have e2 : ((cn.toNat : Int) != 34) = true := by rw [bne, e1]; rfl
    clear h1 h3 hh0 hl0 hn hw1
    go_enter Tryd.func66, Tryd.ntmps66
    go_wp2_with fail
    refine bodyPost_ret (results_tmp2 rfl _ _ _) rfl ?_
    exact ⟨by rw [HV.out]; rfl, Below.refl _ _⟩
  have h3 := Decidable.not_not.1 h3
  subst h3
  have hm : ∀ w, (slS (str s) (some (.int .i64 1)) (some (.int .i64 ((s.length : Int) - 1))) none).run Tryd.prog w = .ok (str ((s.drop 1).take (n - 1))) w := by rw [hw1]; exact run_mid s 1 n (by omega) (by omega) (by omega)
  clear hw1
  have HV : Hid (txtO s = decF ((s.drop 1).take (n - 1))) := ⟨by
    unfold txtO
    rw [if_pos ⟨by omega, hh0, hl0⟩, List.dropLast_eq_take, List.length_drop, hn]
    rfl⟩
  have hml : ((s.drop 1).take (n - 1)).length ≤ 1000000000 := by rw [List.length_take, List.length_drop]; omega
  generalize (s.drop 1).take (n - 1) = m at *
  clear hh0 hl0 h1
  have HN := Hid.mk hn
  clear hn
  obtain ⟨w1, hmk, o1, b1⟩ := make_bs w m.length (by omega)
  go_enter Tryd.func66, Tryd.ntmps66
  go_wp2_with fail
  go_loopw [4, 5] (fun x v wr => ∃ (r b : By), x = str r ∧ r.length ≤ m.length ∧ b.length + r.length ≤ m.length ∧ Hid (Ob w.heap.size wr v b) ∧ Hid (decF m = (decF r).map (b ++ ·)) ∧ Hid (Below w.heap.size w wr)) (fun x _ _ => szOf x)
  case atStart => exact ⟨m, [], rfl, Nat.le_refl _, by simp, ⟨o1⟩, ⟨by simp⟩, ⟨b1⟩⟩
  case round =>
    clear o1 b1 hmk
    obtain ⟨r, b, rfl, hr, hbr, HO, HE, HB⟩ := hrel
    cases r with
    | nil =>
      have hcv := conv_own HO.out
      have HF : Hid (decF m = some b) := ⟨by rw [HE.out]; simp [decF]⟩
      go_wp2_with fail
      refine bodyPost_ret (results_tmp2 rfl _ _ _) rfl ?_
      exact ⟨by rw [HV.out, HF.out]; rfl, HB.out⟩
    | cons c r =>
      have hby := byteOf_any c r (by simp at hr; omega) wr
      have hd := dec_bOf (c :: r) (by simp)
      have hle := bOf_le (c :: r)
      have hne : ((c :: r : By) == []) = false := rfl
      generalize hR : (c :: r : By) = R at *
      have hRl : 0 < R.length := by rw [← hR]; simp
      clear hR
      generalize hB1 : (bOf R).1 = x at *
      generalize hB2 : (bOf R).2 = k at *
      clear hB1 hB2
      go_wp2_with fail
      with_reducible refine Calls.mono hby ?_
      rintro e w2 ⟨rfl, b2⟩
      dsimp only
      by_cases hk : k = 0
      · subst hk
        have HF : Hid (decF m = none) := ⟨by rw [HE.out, hd, if_pos rfl]; rfl⟩
        clear hd
        go_wp2_with fail
        refine bodyPost_ret (results_tmp2 rfl _ _ _) rfl ?_
        exact ⟨by rw [HV.out, HF.out]; rfl, below_seq HB.out b2⟩
      · have t1 : ((k : Int) == 0) = false := beq_eq_false_iff_ne.2 (by omega)
        have HD : Hid (decF R = (decF (R.drop k)).map (x :: ·)) := ⟨by rw [hd, if_neg hk]⟩
        have hlo := run_lo R k hle (by omega)
        have HO2 := Hid.mk (HO.out.later b2)
        have hbl : b.length ≤ 100000000000000 := by omega
        clear hd
        go_wp2_with (refine app_bs rfl _ _ rfl [x] _ rfl (by simp) rfl HO2.out rfl hbl rfl rfl rfl ?_; intro v3 w3 o3 b3 k3)
        go_roundw
        case rel => exact ⟨R.drop k, b ++ [x], rfl, by rw [List.length_drop]; omega, by rw [List.length_drop, List.length_append]; simp; omega, ⟨o3⟩, ⟨by rw [HE.out, HD.out, Option.map_map]; congr 1; funext y; simp⟩, ⟨(below_seq HB.out b2).trans b3⟩⟩
        case measure =>
          show (⟨(R.drop k).toArray⟩ : ByteArray).size < (⟨R.toArray⟩ : ByteArray).size
          rw [str_size, str_size, List.length_drop]
          omega
end Go.Proofs.YtgbkloihclbimaaDoor
