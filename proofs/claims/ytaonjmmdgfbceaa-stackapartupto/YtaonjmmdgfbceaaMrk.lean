/- marked. -/
import Derived.Test.YtaonjmmdgfbceaaFos
namespace Go.Proofs.Ytaonjmmdgfbceaa
set_option linter.unusedVariables false
set_option linter.unusedSimpArgs false
open Go.RowKit
attribute [local go_sem ↓] Go.wp_at_zero Go.wp_at_succ
def cs (i : Nat) : List UInt8 := [UInt8.ofNat (48 + i)]
def mp (i : Nat) : En := ⟨[109], cs i⟩
def gp (i : Nat) : En := ⟨[103, 114, 111, 119, 110], cs i⟩
theorem conv_c {w : World} (i : Nat) (h : i < 5) : (convert 48 9 (.slice (some ⟨w.heap.size, 0, none⟩) 1 1)).run Try.prog (w.alloc (.cells #[.int .u8 ((48 : Int) + (i : Int))] 5)) = .ok (str (cs i)) (w.alloc (.cells #[.int .u8 ((48 : Int) + (i : Int))] 5)) := by
  refine conv_own (base := 0) (l := cs i) ⟨⟨rfl, Or.inr ⟨w.heap.size, 1, _, rfl, Nat.zero_le _, heap_alloc_new _ _, Nat.le_refl _, by decide, rfl, ?_⟩⟩, Nat.zero_le _⟩
  match i, h with
  | 0, _ => rfl
  | 1, _ => rfl
  | 2, _ => rfl
  | 3, _ => rfl
  | 4, _ => rfl
/-- a list that was marked and grown -/
structure Gw (i m : Nat) (L : List Vs) : Prop where
  len : L.length = m + 16
  lo : ∀ (k : Nat) (v : Vs), k < m → L[k]? = some v → v.data = cs i ∧ ∃ X, v.l = X ++ [gp i] ∧ ∀ p ∈ X, p = mp i
  hi : ∀ (k : Nat) (v : Vs), m ≤ k → L[k]? = some v → v.seq = (i : Int)
set_option maxRecDepth 100000 in
set_option maxHeartbeats 4000000 in
theorem marked_any (i m : Nat) (hi : i < 5) (hm : m ≤ 2000000) (L : List Vs) (w : World) (a : Option Addr) (n cap : Nat) (hL : Li w L a n cap) (hz : ∀ u ∈ L, u.l.length ≤ 2000000) (hG : Gw i m L) :
    Calls Try.prog 21 #[.slice a n cap, .int .i64 (i : Int)] w fun e w' => e = .returned (.bool true) ∧ Below w.heap.size w w' := by
  obtain rfl := hL.n
  have hlen := hG.len
  have hcv := conv_c (w := w) i hi
  have b1 := (Below.refl w.heap.size w).alloc (Nat.le_refl _) (.cells #[.int .u8 ((48 : Int) + (i : Int))] 5)
  have hw1 : wrap64 (48 + (i : Int)) = 48 + (i : Int) := by unfold wrap64; omega
  have hw2 : IntKind.u8.wrap (48 + (i : Int)) = 48 + (i : Int) := by
    match i, hi with
    | 0, _ => rfl
    | 1, _ => rfl
    | 2, _ => rfl
    | 3, _ => rfl
    | 4, _ => rfl
  have HL := Hid.mk hL
  have HG := Hid.mk hG
  have HZ := Hid.mk hz
  clear hL hG hz
  go_enter Try.func21, Try.ntmps21
  go_wp2_with fail
  have HC : Hid (Below w.heap.size w (w.alloc (.cells #[.int .u8 ((48 : Int) + (i : Int))] 5))) := ⟨b1⟩
  clear b1 hcv hw1 hw2
  generalize w.alloc (.cells #[.int .u8 ((48 : Int) + (i : Int))] 5) = w1 at *
  have HN := Hid.mk hlen
  rw [hlen]
  clear hlen
  go_loopw [6] (fun o wr => ∃ k : Nat, k ≤ m + 16 ∧ o = .int .i64 (k : Int) ∧ Below w.heap.size w wr) (fun o _ => m + 16 - (intOf o).toNat)
  case atStart => exact ⟨0, by omega, rfl, HC.out⟩
  case round =>
    obtain ⟨k, hk, rfl, hb⟩ := hrel
    by_cases hlt : k < m + 16
    · have d1 : decide ((k : Int) < ((m + 16 : Nat) : Int)) = true := decide_eq_true (by omega)
      have k2 : (k : Int) < ((m + 16 : Nat) : Int) := by omega
      have d1' : decide ((k : Int) < (m : Int) + 16) = true := decide_eq_true (by omega)
      have k2' : (k : Int) < (m : Int) + 16 := by omega
      have hw1 : wrap64 ((k : Int) + 1) = ((k + 1 : Nat) : Int) := by unfold wrap64; omega
      have hlL : k < L.length := by rw [HN.out]; exact hlt
      obtain ⟨u, hu⟩ : ∃ u, L[k]? = some u := ⟨L[k], List.getElem?_eq_getElem hlL⟩
      clear hlL
      have HLb := HL.out.later hb
      obtain ⟨b, off, ma, mc, rfl, hbl, c0, c1, c2, c3, c4, hsl⟩ := HLb.s.at'.get k u hu
      by_cases hkm : k < m
      · have d2 : decide ((m : Int) ≤ (k : Int)) = false := decide_eq_false (by omega)
        obtain ⟨e1, X, e2, e3⟩ := HG.out.lo k u hkm hu
        have hzu := HZ.out u (List.mem_of_getElem? hu)
        rw [e1] at c3
        rw [e2] at c4 hsl hzu
        have hXl : (X ++ [gp i]).length = X.length + 1 := by simp
        rw [hXl] at c4 hzu
        have d3 : ((((X.length + 1 : Nat) : Int)) == 0) = false := by rw [beq_eq_false_iff_ne]; omega
        have d3' : ((X.length + 1) == 0) = false := by rw [beq_eq_false_iff_ne]; omega
        have hw3 : wrap64 (((X.length + 1 : Nat) : Int) - 1) = (X.length : Int) := by unfold wrap64; omega
        have k3 : (X.length : Int) < ((X.length + 1 : Nat) : Int) := by omega
        obtain ⟨pb, poff, rfl, pbl, g0, g1⟩ := hsl.at'.get X.length (gp i) (by simp)
        have HP := Hid.mk hsl
        have HX := Hid.mk e3
        have Hb := Hid.mk hb
        clear hu HLb hsl e1 e2 e3 c0 c1 c2 hXl
        dsimp only [gp] at g0 g1
        go_wp2_with fail
        clear d3 d3' hw3 k3 d1 d1' d2 k2 k2'
        go_loopw [8] (fun o wq => ∃ j : Nat, j ≤ X.length ∧ o = .int .i64 (j : Int) ∧ Below wr.heap.size wr wq) (fun o _ => X.length - (intOf o).toNat)
        case atStart => exact ⟨0, by omega, rfl, Below.refl _ _⟩
        case round =>
          obtain ⟨j, hj, rfl, hbq⟩ := hrel
          have c4' := (hbq.cell (p := ⟨b, _, none⟩) hbl).trans c4
          have HQ := HP.out.later hbq
          have hBq := Hb.out.trans (hbq.mono Hb.out.size)
          have hw5 : wrap64 ((j : Int) + 1) = ((j + 1 : Nat) : Int) := by unfold wrap64; omega
          by_cases hlj : j < X.length
          · have d5 : decide (((j + 1 : Nat) : Int) < (X.length : Int) + 1) = true := decide_eq_true (by omega)
            have d5' : decide ((j : Int) + 1 < (X.length : Int) + 1) = true := decide_eq_true (by omega)
            have d5'' : decide ((j : Int) < (X.length : Int)) = true := decide_eq_true (by omega)
            have k2 : (k : Int) < ((m + 16 : Nat) : Int) := by omega
            have k2' : (k : Int) < (m : Int) + 16 := by omega
            have k5 : (j : Int) < ((X.length + 1 : Nat) : Int) := by omega
            have k5' : (j : Int) < (X.length : Int) + 1 := by omega
            obtain ⟨p, hp⟩ : ∃ p, X[j]? = some p := ⟨X[j], List.getElem?_eq_getElem hlj⟩
            obtain ⟨pb2, poff2, hpe, pbl2, y0, y1⟩ := HQ.at'.get j p (by rw [List.getElem?_append_left hlj]; exact hp)
            injection hpe with hpe
            injection hpe with hp1 hp2
            subst hp1 hp2
            have hpm := HX.out p (List.mem_of_getElem? hp)
            subst hpm
            dsimp only [mp] at y0 y1
            clear hp HQ c4 g0 g1
            go_wp2_with fail
            exact ⟨⟨j + 1, by omega, by go_num, hbq⟩, by first | (rw [hw5]; exact lss_meas hlj) | exact meas1 hlj⟩
          · obtain rfl : j = X.length := by omega
            have d5 : decide (((X.length + 1 : Nat) : Int) < (X.length : Int) + 1) = false := decide_eq_false (by omega)
            have d5' : decide ((X.length : Int) + 1 < (X.length : Int) + 1) = false := decide_eq_false (by omega)
            clear HQ c4 g0 g1
            go_wp2_with fail
            exact ⟨⟨k + 1, by omega, by go_num, hBq⟩, by first | (rw [hw1]; exact lss_meas hlt) | exact meas1 hlt⟩
      · have d2 : decide ((m : Int) ≤ (k : Int)) = true := decide_eq_true (by omega)
        have e1 := HG.out.hi k u (by omega) hu
        rw [e1] at c1
        clear hu HLb hsl e1 c0 c2 c3 c4
        go_wp2_with fail
        exact ⟨⟨k + 1, by omega, by go_num, hb⟩, by first | (rw [hw1]; exact lss_meas hlt) | exact meas1 hlt⟩
    · obtain rfl : k = m + 16 := by omega
      have d1 : decide (((m + 16 : Nat) : Int) < ((m + 16 : Nat) : Int)) = false := decide_eq_false (by omega)
      have d1' : decide ((m : Int) + 16 < (m : Int) + 16) = false := decide_eq_false (by omega)
      go_wp2_with fail
      go_ret
      exact ⟨rfl, hb⟩
end Go.Proofs.Ytaonjmmdgfbceaa
