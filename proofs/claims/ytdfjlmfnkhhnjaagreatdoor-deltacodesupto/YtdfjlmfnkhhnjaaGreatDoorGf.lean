import Derived.Test.YtdfjlmfnkhhnjaaGreatDoorGe
import Derived.Laws.RangeAny
set_option maxRecDepth 100000
set_option linter.unusedVariables false
set_option linter.unusedSimpArgs false
namespace Go.Proofs.YtdfjlmfnkhhnjaaGreatDoor
section
open Go.RowKit
attribute [local go_sem ↓] Go.wp_at_zero Go.wp_at_succ
def smc (c : Nat) : Bool:=decide (97 ≤ c ∧ c ≤ 122 ∨ 48 ≤ c ∧ c ≤ 57 ∨ c = 45)
theorem smc_t {c : Nat} (h : 97 ≤ c ∧ c ≤ 122 ∨ 48 ≤ c ∧ c ≤ 57 ∨ c = 45) : smc c = true:=decide_eq_true h
theorem smc_f {c : Nat} (h : ¬ (97 ≤ c ∧ c ≤ 122 ∨ 48 ≤ c ∧ c ≤ 57 ∨ c = 45)) : smc c = false:=decide_eq_false h
theorem isSmall_any (c : Nat) (hc : c ≤ 2147483647) (w : World) : Calls Tryz.prog 208 #[.int .i32 (c : Int)] w fun e w' => e = .returned (.bool (smc c)) ∧ w' = w:=by
 by_cases h1 : 97 ≤ c
 ·have d1 : decide ((97 : Int) ≤ (c : Int)) = true:=decide_eq_true (by omega)
  by_cases h2 : c ≤ 122
  ·have d2 : decide ((c : Int) ≤ 122) = true:=decide_eq_true (by omega)
   have HV:=Hid.mk (smc_t (c:=c) (by omega))
   go_enter Tryz.func208,Tryz.ntmps208
   go_wp2_with fail
   go_ret
   exact ⟨by rw [HV.out]; rfl,rfl⟩
  ·have d2 : decide ((c : Int) ≤ 122) = false:=decide_eq_false (by omega)
   have d3 : decide ((48 : Int) ≤ (c : Int)) = true:=decide_eq_true (by omega)
   have d4 : decide ((c : Int) ≤ 57) = false:=decide_eq_false (by omega)
   have d5 : ((c : Int) == 45) = false:=by rw [beq_eq_false_iff_ne]; omega
   have HV:=Hid.mk (smc_f (c:=c) (by omega))
   go_enter Tryz.func208,Tryz.ntmps208
   go_wp2_with fail
   go_ret
   exact ⟨by rw [HV.out]; rfl,rfl⟩
 ·have d1 : decide ((97 : Int) ≤ (c : Int)) = false:=decide_eq_false (by omega)
  by_cases h3 : 48 ≤ c
  ·have d3 : decide ((48 : Int) ≤ (c : Int)) = true:=decide_eq_true (by omega)
   by_cases h4 : c ≤ 57
   ·have d4 : decide ((c : Int) ≤ 57) = true:=decide_eq_true (by omega)
    have HV:=Hid.mk (smc_t (c:=c) (by omega))
    go_enter Tryz.func208,Tryz.ntmps208
    go_wp2_with fail
    go_ret
    exact ⟨by rw [HV.out]; rfl,rfl⟩
   ·have d4 : decide ((c : Int) ≤ 57) = false:=decide_eq_false (by omega)
    have d5 : ((c : Int) == 45) = false:=by rw [beq_eq_false_iff_ne]; omega
    have HV:=Hid.mk (smc_f (c:=c) (by omega))
    go_enter Tryz.func208,Tryz.ntmps208
    go_wp2_with fail
    go_ret
    exact ⟨by rw [HV.out]; rfl,rfl⟩
  ·have d3 : decide ((48 : Int) ≤ (c : Int)) = false:=decide_eq_false (by omega)
   by_cases h5 : c = 45
   ·subst h5
    have HV:=Hid.mk (smc_t (c:=45) (by omega))
    go_enter Tryz.func208,Tryz.ntmps208
    go_wp2_with fail
    go_ret
    exact ⟨by rw [HV.out]; rfl,rfl⟩
   ·have d5 : ((c : Int) == 45) = false:=by rw [beq_eq_false_iff_ne]; omega
    have HV:=Hid.mk (smc_f (c:=c) (by omega))
    go_enter Tryz.func208,Tryz.ntmps208
    go_wp2_with fail
    go_ret
    exact ⟨by rw [HV.out]; rfl,rfl⟩
def smN (s : List UInt8) (most : Nat) : Bool:=decide (1 ≤ s.length ∧ s.length ≤ most) && s.all fun b => smc b.toNat
theorem smN_f1 {s : List UInt8} {most : Nat} (h : ¬ (1 ≤ s.length ∧ s.length ≤ most)) : smN s most = false:=by unfold smN; rw [decide_eq_false h]; rfl
theorem smN_f2 {s : List UInt8} {most : Nat} {b : UInt8} (h : b ∈ s) (hb : smc b.toNat = false) : smN s most = false:=by
 unfold smN
 have : (s.all fun b => smc b.toNat) = false:=by rw [List.all_eq_false]; exact ⟨b,h,by rw [hb]; decide⟩
 rw [this,Bool.and_false]
theorem smN_t {s : List UInt8} {most : Nat} (h : 1 ≤ s.length ∧ s.length ≤ most) (ha : (s.all fun b => smc b.toNat) = true) : smN s most = true:=by unfold smN; rw [decide_eq_true h,ha]; rfl
theorem all_next {s : List UInt8} {k : Nat} {b : UInt8} (hb : s[k]? = some b) (h : ((s.take k).all fun b => smc b.toNat) = true) (hs : smc b.toNat = true) : ((s.take (k + 1)).all fun b => smc b.toNat) = true:=by
 rw [List.take_add_one,hb,List.all_append,h]; simp [hs]
theorem get_str (l : List UInt8) (k : Nat) (b : UInt8) (h : l[k]? = some b) (hk : k < (⟨l.toArray⟩ : ByteArray).size) : (⟨l.toArray⟩ : ByteArray)[k]'hk = b:=by
 obtain ⟨h1,h2⟩:=List.getElem?_eq_some_iff.1 h
 rw [← h2]; rfl
theorem iter_below (w : World) (s : ByteArray) (p : Nat) : Below w.heap.size w (w.iter s p):=(Below.refl _ _).alloc (Nat.le_refl _) _
set_option maxHeartbeats 1000000 in
theorem isSmallName_any (s : List UInt8) (most : Nat) (hm : most ≤ 1000) (w : World) : Calls Tryz.prog 171 #[str s,.int .i64 (most : Int)] w fun e w' => e = .returned (.bool (smN s most)) ∧ Below w.heap.size w w':=by
 by_cases h0 : s = []
 ·subst h0
  have HV:=Hid.mk (smN_f1 (s := []) (most:=most) (by simp))
  go_enter Tryz.func171,Tryz.ntmps171
  go_wp2_with fail
  go_ret
  exact ⟨by rw [HV.out]; rfl,Below.refl _ _⟩
 ·have d0 : (s == []) = false:=by rw [beq_eq_false_iff_ne]; exact h0
  have hl1 : 1 ≤ s.length:=by cases s with | nil => exact absurd rfl h0 | cons x y => simp
  clear h0
  by_cases h1 : s.length ≤ most
  ·have d1 : decide ((most : Int) < (s.length : Int)) = false:=decide_eq_false (by omega)
   go_enter Tryz.func171,Tryz.ntmps171
   go_wp2_with fail
   rw [show decide (most < s.length) = false from decide_eq_false (by omega)]
   go_loopw [6] (fun _ wr => ∃ k : Nat,k ≤ s.length ∧ ((s.take k).all fun b => smc b.toNat) = true ∧ wr = w.iter ⟨s.toArray⟩ k) (fun _ wr => s.length - wr.iterPos w.heap.size)
   case atStart => exact ⟨0,by omega,rfl,rfl⟩
   case round =>
    obtain ⟨k,hk,ha,rfl⟩:=hrel
    by_cases hp : k < s.length
    ·obtain ⟨b,hb⟩ : ∃ b,s[k]? = some b:=⟨s[k],List.getElem?_eq_getElem hp⟩
     have hz : k < (⟨s.toArray⟩ : ByteArray).size:=by rw [str_size]; exact hp
     have hg:=get_str s k b hb hz
     by_cases h128 : b.toNat < 128
     ·have hnx : ∀ ty,(Instr.next (.pointer (some ⟨w.heap.size,0,none⟩)) true ty).run Tryz.prog (w.iter ⟨s.toArray⟩ k) = .ok (.tuple #[.bool true,.int .i64 k,.int .i32 (b.toNat : Int)]) (w.iter ⟨s.toArray⟩ (k + 1)):=fun ty => by
       have:=run_next_ascii (P:=Tryz.prog) w ⟨s.toArray⟩ k ty hz (by rw [hg]; exact h128)
       rw [hg] at this
       exact this
      have hi:=fun w => isSmall_any b.toNat (by omega) w
      generalize hW : w.iter ⟨s.toArray⟩ (k + 1) = W1 at *
      by_cases hs : smc b.toNat = true
      ·rw [hs] at hi
       have HA:=Hid.mk (all_next hb ha hs)
       clear ha hs hg hz
       go_wp2_with (go_at_call 208; refine (hi _).mono ?_; rintro e w1 ⟨rfl,rfl⟩)
       subst hW
       go_roundw
       case rel =>
        exact ⟨k + 1,by omega,HA.out,rfl⟩
       case measure => simp; omega
      ·have hs' : smc b.toNat = false:=by simpa using hs
       rw [hs'] at hi
       have HV:=Hid.mk (smN_f2 (most:=most) (List.mem_of_getElem? hb) hs')
       clear ha hs hs' hg hz
       go_wp2_with (go_at_call 208; refine (hi _).mono ?_; rintro e w1 ⟨rfl,rfl⟩)
       go_ret
       subst hW
       exact ⟨by rw [HV.out]; rfl,iter_below _ _ _⟩
     ·have hd:=decode_high ⟨s.toArray⟩ k hz (by rw [hg]; omega)
      have hle:=decode_le ⟨s.toArray⟩ k
      have hnx : ∀ ty,(Instr.next (.pointer (some ⟨w.heap.size,0,none⟩)) true ty).run Tryz.prog (w.iter ⟨s.toArray⟩ k) = _:=fun ty => run_next_any (P:=Tryz.prog) w ⟨s.toArray⟩ k ty hz
      generalize Utf8.decode ⟨s.toArray⟩ k = D at *
      obtain ⟨r,n⟩:=D
      dsimp only at *
      have hi:=fun w => isSmall_any r hle w
      rw [smc_f (c:=r) (by omega)] at hi
      generalize hW : w.iter ⟨s.toArray⟩ (k + n) = W1 at *
      have HV:=Hid.mk (smN_f2 (most:=most) (List.mem_of_getElem? hb) (smc_f (c:=b.toNat) (by omega)))
      clear ha hg hz hd
      go_wp2_with (go_at_call 208; refine (hi _).mono ?_; rintro e w1 ⟨rfl,rfl⟩)
      go_ret
      subst hW
      exact ⟨by rw [HV.out]; rfl,iter_below _ _ _⟩
    ·obtain rfl : k = s.length:=by omega
     have hnx : ∀ ty,(Instr.next (.pointer (some ⟨w.heap.size,0,none⟩)) true ty).run Tryz.prog (w.iter ⟨s.toArray⟩ s.length) = _:=fun ty => run_next_end (P:=Tryz.prog) w ⟨s.toArray⟩ s.length ty (by rw [str_size]; omega)
     rw [List.take_length] at ha
     have HV:=Hid.mk (smN_t (most:=most) ⟨hl1,h1⟩ ha)
     clear ha
     go_wp2_with fail
     go_ret
     exact ⟨by rw [HV.out]; rfl,iter_below _ _ _⟩
  ·have d1 : decide ((most : Int) < (s.length : Int)) = true:=decide_eq_true (by omega)
   have HV:=Hid.mk (smN_f1 (s:=s) (most:=most) (by omega))
   go_enter Tryz.func171,Tryz.ntmps171
   go_wp2_with fail
   go_ret
   exact ⟨by rw [HV.out]; rfl,Below.refl _ _⟩
end
section
open Go.RowKit
attribute [local go_sem ↓] Go.wp_at_zero Go.wp_at_succ
noncomputable def keyE (s : List UInt8) : Int:=if 1 ≤ s.length ∧ s.length ≤ 32 then 0 else 61
noncomputable def datE (s : List UInt8) : Int:=if s.length ≤ 1024 then 0 else 63
theorem key_any (s : List UInt8) (w : World) : Calls Tryz.prog 88 #[str s] w fun e w' => e = .returned (.int .i64 (keyE s)) ∧ w' = w:=by
 by_cases h0 : s = []
 ·subst h0
  have HV : Hid (keyE [] = 61):=⟨by unfold keyE; rw [if_neg (by simp)]⟩
  go_enter Tryz.func88,Tryz.ntmps88
  go_wp2_with fail
  go_ret
  exact ⟨by rw [HV.out]; rfl,rfl⟩
 ·have d0 : (s == []) = false:=by rw [beq_eq_false_iff_ne]; exact h0
  have hl1 : 1 ≤ s.length:=by cases s with | nil => exact absurd rfl h0 | cons x y => simp
  clear h0
  by_cases h1 : s.length ≤ 32
  ·have d1 : decide ((32 : Int) < (s.length : Int)) = false:=decide_eq_false (by omega)
   have HV : Hid (keyE s = 0):=⟨by unfold keyE; rw [if_pos ⟨hl1,h1⟩]⟩
   go_enter Tryz.func88,Tryz.ntmps88
   go_wp2_with fail
   go_ret
   exact ⟨by rw [HV.out]; rfl,rfl⟩
  ·have d1 : decide ((32 : Int) < (s.length : Int)) = true:=decide_eq_true (by omega)
   have HV : Hid (keyE s = 61):=⟨by unfold keyE; rw [if_neg (by omega)]⟩
   go_enter Tryz.func88,Tryz.ntmps88
   go_wp2_with fail
   go_ret
   exact ⟨by rw [HV.out]; rfl,rfl⟩
theorem data_any (s : List UInt8) (w : World) : Calls Tryz.prog 135 #[str s] w fun e w' => e = .returned (.int .i64 (datE s)) ∧ w' = w:=by
 by_cases h1 : s.length ≤ 1024
 ·have d1 : decide ((1024 : Int) < (s.length : Int)) = false:=decide_eq_false (by omega)
  have HV : Hid (datE s = 0):=⟨by unfold datE; rw [if_pos h1]⟩
  go_enter Tryz.func135,Tryz.ntmps135
  go_wp2_with fail
  go_ret
  exact ⟨by rw [HV.out]; rfl,rfl⟩
 ·have d1 : decide ((1024 : Int) < (s.length : Int)) = true:=decide_eq_true (by omega)
  have HV : Hid (datE s = 63):=⟨by unfold datE; rw [if_neg h1]⟩
  go_enter Tryz.func135,Tryz.ntmps135
  go_wp2_with fail
  go_ret
  exact ⟨by rw [HV.out]; rfl,rfl⟩
theorem rKey_any (s : List UInt8) (w : World) : Calls Tryz.prog 115 #[str s] w fun e w' => e = .returned (.int .i64 (keyE s)) ∧ w' = w:=by
 by_cases h0 : 1 ≤ s.length
 ·have d0 : decide ((s.length : Int) < 1) = false:=decide_eq_false (by omega)
  by_cases h1 : s.length ≤ 32
  ·have d1 : decide ((32 : Int) < (s.length : Int)) = false:=decide_eq_false (by omega)
   have HV : Hid (keyE s = 0):=⟨by unfold keyE; rw [if_pos ⟨h0,h1⟩]⟩
   go_enter Tryz.func115,Tryz.ntmps115
   go_wp2_with fail
   go_ret
   exact ⟨by rw [HV.out]; rfl,rfl⟩
  ·have d1 : decide ((32 : Int) < (s.length : Int)) = true:=decide_eq_true (by omega)
   have HV : Hid (keyE s = 61):=⟨by unfold keyE; rw [if_neg (by omega)]⟩
   go_enter Tryz.func115,Tryz.ntmps115
   go_wp2_with fail
   go_ret
   exact ⟨by rw [HV.out]; rfl,rfl⟩
 ·have d0 : decide ((s.length : Int) < 1) = true:=decide_eq_true (by omega)
  have HV : Hid (keyE s = 61):=⟨by unfold keyE; rw [if_neg (by omega)]⟩
  go_enter Tryz.func115,Tryz.ntmps115
  go_wp2_with fail
  go_ret
  exact ⟨by rw [HV.out]; rfl,rfl⟩
theorem rData_any (s : List UInt8) (w : World) : Calls Tryz.prog 116 #[str s] w fun e w' => e = .returned (.int .i64 (datE s)) ∧ w' = w:=by
 by_cases h1 : s.length ≤ 1024
 ·have d1 : decide ((1024 : Int) < (s.length : Int)) = false:=decide_eq_false (by omega)
  have HV : Hid (datE s = 0):=⟨by unfold datE; rw [if_pos h1]⟩
  go_enter Tryz.func116,Tryz.ntmps116
  go_wp2_with fail
  go_ret
  exact ⟨by rw [HV.out]; rfl,rfl⟩
 ·have d1 : decide ((1024 : Int) < (s.length : Int)) = true:=decide_eq_true (by omega)
  have HV : Hid (datE s = 63):=⟨by unfold datE; rw [if_neg h1]⟩
  go_enter Tryz.func116,Tryz.ntmps116
  go_wp2_with fail
  go_ret
  exact ⟨by rw [HV.out]; rfl,rfl⟩
attribute [local go_sem ↓] ix9
set_option maxHeartbeats 1000000 in
theorem rsmall_any (s : List UInt8) (most : Nat) (hm : most ≤ 1000) (hz : s.length ≤ 9223372036854775806) (w : World) : Calls Tryz.prog 160 #[str s,.int .i64 (most : Int)] w fun e w' => e = .returned (.bool (smN s most)) ∧ w' = w:=by
 go_enter Tryz.func160,Tryz.ntmps160
 go_wp2_with fail
 go_loopw [5] (fun i wr => ∃ k : Nat,k ≤ s.length ∧ i = .int .i64 (k : Int) ∧ ((s.take k).all fun b => smc b.toNat) = true ∧ wr = w) (fun i _ => s.length - (intOf i).toNat)
 case atStart => exact ⟨0,by omega,rfl,rfl,rfl⟩
 case round =>
  obtain ⟨k,hk,rfl,ha,rfl⟩:=hrel
  by_cases hp : k < s.length
  ·have d1 : decide ((k : Int) < (s.length : Int)) = true:=decide_eq_true (by omega)
   obtain ⟨b,hb⟩ : ∃ b,s[k]? = some b:=⟨s[k],List.getElem?_eq_getElem hp⟩
   have hx:=fun w => run_ix s k hp w
   have hgd : s.getD k 0 = b:=by rw [List.getD_eq_getElem?_getD,hb]; rfl
   rw [hgd] at hx
   have hb256:=b.toNat_lt
   generalize hc : b.toNat = c at *
   by_cases hs : smc c = true
   ·have HA:=Hid.mk (all_next hb ha (by rw [hc]; exact hs))
    clear ha
    have hs2:=of_decide_eq_true hs
    clear hs hgd hb
    by_cases e1 : c = 45
    ·subst e1
     go_wp2_with fail
     exact ⟨⟨k + 1,by omega,by go_num,HA.out,trivial⟩,by simp [intOf]; omega⟩
    ·have d2 : ((c : Int) == 45) = false:=by rw [beq_eq_false_iff_ne]; omega
     by_cases e2 : c < 97
     ·have d3 : decide ((c : Int) < 97) = true:=decide_eq_true (by omega)
      have d4 : decide ((c : Int) < 48) = false:=decide_eq_false (by omega)
      have d5 : decide ((57 : Int) < (c : Int)) = false:=decide_eq_false (by omega)
      go_wp2_with fail
      exact ⟨⟨k + 1,by omega,by go_num,HA.out,trivial⟩,by simp [intOf]; omega⟩
     ·have d3 : decide ((c : Int) < 97) = false:=decide_eq_false (by omega)
      have d4 : decide ((122 : Int) < (c : Int)) = false:=decide_eq_false (by omega)
      go_wp2_with fail
      exact ⟨⟨k + 1,by omega,by go_num,HA.out,trivial⟩,by simp [intOf]; omega⟩
   ·have hs' : smc c = false:=by simpa using hs
    have HV:=Hid.mk (smN_f2 (most:=most) (List.mem_of_getElem? hb) (by rw [hc]; exact hs'))
    have hs2:=of_decide_eq_false hs'
    clear hs hs' hgd hb ha
    have d2 : ((c : Int) == 45) = false:=by rw [beq_eq_false_iff_ne]; omega
    by_cases e2 : c < 97
    ·have d3 : decide ((c : Int) < 97) = true:=decide_eq_true (by omega)
     by_cases e3 : c < 48
     ·have d4 : decide ((c : Int) < 48) = true:=decide_eq_true (by omega)
      go_wp2_with fail
      go_ret
      exact ⟨by rw [HV.out]; rfl,rfl⟩
     ·have d4 : decide ((c : Int) < 48) = false:=decide_eq_false (by omega)
      have d5 : decide ((57 : Int) < (c : Int)) = true:=decide_eq_true (by omega)
      go_wp2_with fail
      go_ret
      exact ⟨by rw [HV.out]; rfl,rfl⟩
    ·have d3 : decide ((c : Int) < 97) = false:=decide_eq_false (by omega)
     have d4 : decide ((122 : Int) < (c : Int)) = true:=decide_eq_true (by omega)
     have d5 : decide ((c : Int) < 48) = false:=decide_eq_false (by omega)
     have d6 : decide ((57 : Int) < (c : Int)) = true:=decide_eq_true (by omega)
     go_wp2_with fail
     go_ret
     exact ⟨by rw [HV.out]; rfl,rfl⟩
  ·obtain rfl : k = s.length:=by omega
   have d1 : decide ((s.length : Int) < (s.length : Int)) = false:=decide_eq_false (by omega)
   rw [List.take_length] at ha
   by_cases e1 : 1 ≤ s.length
   ·have d2 : decide ((1 : Int) ≤ (s.length : Int)) = true:=decide_eq_true (by omega)
    by_cases e2 : s.length ≤ most
    ·have d3 : decide ((s.length : Int) ≤ (most : Int)) = true:=decide_eq_true (by omega)
     have HV:=Hid.mk (smN_t (most:=most) ⟨e1,e2⟩ ha)
     clear ha
     go_wp2_with fail
     go_ret
     exact ⟨by rw [HV.out]; rfl,rfl⟩
    ·have d3 : decide ((s.length : Int) ≤ (most : Int)) = false:=decide_eq_false (by omega)
     have HV:=Hid.mk (smN_f1 (s:=s) (most:=most) (by omega))
     clear ha
     go_wp2_with fail
     go_ret
     exact ⟨by rw [HV.out]; rfl,rfl⟩
   ·have d2 : decide ((1 : Int) ≤ (s.length : Int)) = false:=decide_eq_false (by omega)
    have HV:=Hid.mk (smN_f1 (s:=s) (most:=most) (by omega))
    clear ha
    go_wp2_with fail
    go_ret
    exact ⟨by rw [HV.out]; rfl,rfl⟩
noncomputable def prb (p : En) : Bool:=smN p.key 16 && decide (p.val.length ≤ 64)
theorem isPair_any (p : En) (w : World) : Calls Tryz.prog 140 #[pv p] w fun e w' => e = .returned (.bool (prb p)) ∧ Below w.heap.size w w':=by
 have hi:=fun w => isSmallName_any p.key 16 (by omega) w
 obtain ⟨k,v⟩:=p
 dsimp only at hi
 have hbx : Below w.heap.size w (w.alloc (.cells #[str k,str v] 49)):=(Below.refl _ _).alloc (Nat.le_refl _) _
 by_cases h : smN k 16 = true
 ·rw [h] at hi
  by_cases h2 : v.length ≤ 64
  ·have d2 : decide ((v.length : Int) ≤ 64) = true:=decide_eq_true (by omega)
   have HV : Hid (prb ⟨k,v⟩ = true):=⟨by unfold prb; rw [h,decide_eq_true h2]; rfl⟩
   clear h
   go_enter Tryz.func140,Tryz.ntmps140
   go_wp2_with (go_at_call 171; refine (hi _).mono ?_; rintro e w1 ⟨rfl,b1⟩; obtain ⟨x0,x1⟩:=new2 b1)
   go_ret
   exact ⟨by rw [HV.out]; rfl,hbx.trans (b1.mono (by simp))⟩
  ·have d2 : decide ((v.length : Int) ≤ 64) = false:=decide_eq_false (by omega)
   have HV : Hid (prb ⟨k,v⟩ = false):=⟨by unfold prb; rw [decide_eq_false h2]; simp⟩
   clear h
   go_enter Tryz.func140,Tryz.ntmps140
   go_wp2_with (go_at_call 171; refine (hi _).mono ?_; rintro e w1 ⟨rfl,b1⟩; obtain ⟨x0,x1⟩:=new2 b1)
   go_ret
   exact ⟨by rw [HV.out]; rfl,hbx.trans (b1.mono (by simp))⟩
 ·have h' : smN k 16 = false:=by simpa using h
  rw [h'] at hi
  have HV : Hid (prb ⟨k,v⟩ = false):=⟨by unfold prb; rw [h']; rfl⟩
  clear h h'
  go_enter Tryz.func140,Tryz.ntmps140
  go_wp2_with (go_at_call 171; refine (hi _).mono ?_; rintro e w1 ⟨rfl,b1⟩; obtain ⟨x0,x1⟩:=new2 b1)
  go_ret
  exact ⟨by rw [HV.out]; rfl,hbx.trans (b1.mono (by simp))⟩
end
section
open Go.RowKit
attribute [local go_sem ↓] Go.wp_at_zero Go.wp_at_succ
noncomputable def mtE (l : List En) : Int:=by classical exact if l.length ≤ 8 ∧ (∀ p ∈ l,prb p = true) ∧ Srt l then 0 else 62
def gm (l : List En) (k : Nat) : Prop:=(∀ i p,i < k → l[i]? = some p → prb p = true) ∧ ∀ i x y,i + 1 < k → l[i]? = some x → l[i + 1]? = some y → lt x.key y.key
theorem gm_zero (l : List En) : gm l 0:=⟨fun i p h => by omega,fun i x y h => by omega⟩
theorem gm_next {l : List En} {k : Nat} {p : En} (h : gm l k) (hp : l[k]? = some p) (h1 : prb p = true) (h2 : ∀ q,1 ≤ k → l[k - 1]? = some q → lt q.key p.key) : gm l (k + 1):=by
 refine ⟨fun i q hi hq => ?_,fun i x y hi hx hy => ?_⟩
 ·rcases Nat.lt_or_ge i k with h3 | h3
  ·exact h.1 i q h3 hq
  ·obtain rfl : i = k:=by omega
   rw [hp] at hq; cases hq; exact h1
 ·rcases Nat.lt_or_ge (i + 1) k with h3 | h3
  ·exact h.2 i x y h3 hx hy
  ·obtain rfl : k = i + 1:=by omega
   rw [hp] at hy; cases hy
   exact h2 x (by omega) (by simpa using hx)
theorem mtE_ok {l : List En} (hl : l.length ≤ 8) (h : gm l l.length) : mtE l = 0:=by
 unfold mtE
 rw [if_pos]
 refine ⟨hl,fun p hp => ?_,srt_of fun i a b ha hb => h.2 i a b (List.getElem?_eq_some_iff.1 hb).1 ha hb⟩
 obtain ⟨i,hi⟩:=List.getElem?_of_mem hp
 exact h.1 i p (List.getElem?_eq_some_iff.1 hi).1 hi
theorem mtE_long {l : List En} (hl : 8 < l.length) : mtE l = 62:=by unfold mtE; rw [if_neg (by rintro ⟨h,_⟩; omega)]
theorem mtE_pr {l : List En} {k : Nat} {p : En} (hp : l[k]? = some p) (h : prb p = false) : mtE l = 62:=by
 unfold mtE; rw [if_neg]
 rintro ⟨_,h2,_⟩
 have:=h2 p (List.mem_of_getElem? hp)
 rw [h] at this; cases this
theorem mtE_ord {l : List En} {k : Nat} {p q : En} (hk : 1 ≤ k) (hp : l[k - 1]? = some p) (hq : l[k]? = some q) (h : ¬ lt p.key q.key) : mtE l = 62:=by
 unfold mtE; rw [if_neg]
 rintro ⟨_,_,h2⟩
 exact h (h2.get (by omega) hp hq)
def lastN (l : List En) (k : Nat) : List UInt8:=if k = 0 then [] else ((l[k - 1]?).getD ⟨[],[]⟩).key
theorem lastN_next {l : List En} {k : Nat} {p : En} (hp : l[k]? = some p) : lastN l (k + 1) = p.key:=by unfold lastN; rw [if_neg (by omega),Nat.add_sub_cancel,hp]; rfl
theorem lastN_get {l : List En} {k : Nat} {q : En} (hk : 1 ≤ k) (hq : l[k - 1]? = some q) : lastN l k = q.key:=by unfold lastN; rw [if_neg (by omega),hq]; rfl
theorem prb_ne {p : En} (h : prb p = true) : 1 ≤ p.key.length:=by
 unfold prb smN at h
 simp at h
 omega
theorem lt_nil {a : List UInt8} (h : 1 ≤ a.length) : lt [] a:=by
 cases a with
 | nil => simp at h
 | cons x y => rfl
theorem less_ff {a b : List UInt8} (h : lt a b) : Go.Op.bytesLess b a = false ∧ (b == a) = false ∧ (a == b) = false:=by
 refine ⟨by rw [bytesLess_eq]; exact decide_eq_false (lt_asymm h),?_,?_⟩
 all_goals rw [beq_eq_false_iff_ne]; rintro rfl; exact lt_irrefl h
theorem less_or {a b : List UInt8} (h : ¬ lt a b) : a = b ∨ (¬ a = b ∧ lt b a):=by
 rcases tri a b with q | q | q
 ·exact absurd q h
 ·exact .inl q
 ·exact .inr ⟨fun e => lt_irrefl (e ▸ q),q⟩
set_option maxHeartbeats 1000000 in
theorem meta_any (l : List En) (w : World) (a : Option Addr) (n cap : Nat) (hn : l.length = n) (hP : PIn w a l) (hz : l.length ≤ 9223372036854775806) :
  Calls Tryz.prog 89 #[.slice a n cap] w fun e w' => e = .returned (.int .i64 (mtE l)) ∧ Below w.heap.size w w':=by
 subst hn
 by_cases h8 : l.length ≤ 8
 ·have d0 : decide ((8 : Int) < (l.length : Int)) = false:=decide_eq_false (by omega)
  go_enter Tryz.func89,Tryz.ntmps89
  go_wp2_with fail
  go_loopw [3,11] (fun la i wr => ∃ k : Nat,k ≤ l.length ∧ i = .int .i64 (k : Int) ∧ la = str (lastN l k) ∧ Hid (gm l k) ∧ Below w.heap.size w wr) (fun _ i _ => l.length - (intOf i).toNat)
  case atStart => exact ⟨0,by omega,rfl,rfl,⟨gm_zero l⟩,Below.refl _ _⟩
  case round =>
   obtain ⟨k,hk,rfl,rfl,HG,hb⟩:=hrel
   by_cases hlt : k < l.length
   ·have d1 : decide ((k : Int) < (l.length : Int)) = true:=decide_eq_true (by omega)
    have k2 : (k : Int) < (l.length : Int):=by omega
    obtain ⟨p,hp⟩ : ∃ p,l[k]? = some p:=⟨l[k],List.getElem?_eq_getElem hlt⟩
    obtain ⟨b,off,rfl,hbl,c0,c1⟩:=(hP.later hb).get k p hp
    have hi:=fun w => isPair_any p w
    have hbx : Below wr.heap.size wr (wr.alloc (.cells #[str p.key,str p.val] 49)):=(Below.refl _ _).alloc (Nat.le_refl _) _
    by_cases hpr : prb p = true
    ·rw [hpr] at hi
     by_cases hlast : lt (lastN l k) p.key
     ·have HN : Hid (gm l (k + 1)):=⟨gm_next HG.out hp hpr fun q h1 h2 => by rw [← lastN_get h1 h2]; exact hlast⟩
      have HL : Hid (lastN l (k + 1) = p.key):=⟨lastN_next hp⟩
      obtain ⟨d2,d3,d4⟩:=less_ff hlast
      generalize lastN l k = la at *
      clear hpr hlast hp
      go_wp2_with (go_at_call 140; refine (hi _).mono ?_; rintro e w1 ⟨rfl,b1⟩; obtain ⟨x0,x1⟩:=new2 b1)
      exact ⟨⟨k + 1,by omega,by go_num,by rw [HL.out],HN,hb.trans ((hbx.trans (b1.mono (by simp))).mono hb.size)⟩,by simp [intOf]; omega⟩
     ·have h1k : 1 ≤ k:=by
       rcases Nat.eq_zero_or_pos k with h0 | h0
       ·subst h0
        exact absurd (lt_nil (prb_ne hpr)) hlast
       ·exact h0
      obtain ⟨q,hq⟩ : ∃ p,l[k - 1]? = some p:=⟨l[k - 1]'(by omega),List.getElem?_eq_getElem (by omega)⟩
      have HV : Hid (mtE l = 62):=⟨mtE_ord h1k hq hp (by rw [← lastN_get h1k hq]; exact hlast)⟩
      generalize lastN l k = la at *
      clear hpr hp hq
      obtain ⟨pk,pw⟩:=p
      dsimp only at *
      rcases less_or hlast with rfl | ⟨hne,hl2⟩
      ·clear hlast
       go_wp2_with (go_at_call 140; refine (hi _).mono ?_; rintro e w1 ⟨rfl,b1⟩; obtain ⟨x0,x1⟩:=new2 b1)
       go_ret
       exact ⟨by rw [HV.out]; rfl,hb.trans ((hbx.trans (b1.mono (by simp))).mono hb.size)⟩
      ·have d2 : Go.Op.bytesLess pk la = true:=by rw [bytesLess_eq]; exact decide_eq_true hl2
       clear hlast hne hl2
       go_wp2_with (go_at_call 140; refine (hi _).mono ?_; rintro e w1 ⟨rfl,b1⟩; obtain ⟨x0,x1⟩:=new2 b1)
       go_ret
       exact ⟨by rw [HV.out]; rfl,hb.trans ((hbx.trans (b1.mono (by simp))).mono hb.size)⟩
    ·have hpr' : prb p = false:=by simpa using hpr
     rw [hpr'] at hi
     have HV : Hid (mtE l = 62):=⟨mtE_pr hp hpr'⟩
     generalize lastN l k = la at *
     clear hpr hpr' hp
     go_wp2_with (go_at_call 140; refine (hi _).mono ?_; rintro e w1 ⟨rfl,b1⟩; obtain ⟨x0,x1⟩:=new2 b1)
     go_ret
     exact ⟨by rw [HV.out]; rfl,hb.trans ((hbx.trans (b1.mono (by simp))).mono hb.size)⟩
   ·obtain rfl : k = l.length:=by omega
    have d1 : decide ((l.length : Int) < (l.length : Int)) = false:=decide_eq_false (by omega)
    have HV : Hid (mtE l = 0):=⟨mtE_ok h8 HG.out⟩
    go_wp2_with fail
    go_ret
    exact ⟨by rw [HV.out]; rfl,hb⟩
 ·have d0 : decide ((8 : Int) < (l.length : Int)) = true:=decide_eq_true (by omega)
  have HV : Hid (mtE l = 62):=⟨mtE_long (by omega)⟩
  go_enter Tryz.func89,Tryz.ntmps89
  go_wp2_with fail
  go_ret
  exact ⟨by rw [HV.out]; rfl,Below.refl _ _⟩
set_option maxHeartbeats 2000000 in
theorem rMeta_any (l : List En) (w : World) (a : Option Addr) (n cap : Nat) (hn : l.length = n) (hP : PIn w a l) (hs : ∀ (k : Nat) (e : En),l[k]? = some e → e.key.length ≤ 9223372036854775806 ∧ e.val.length ≤ 9223372036854775806) (hz : l.length ≤ 9223372036854775806) :
  Calls Tryz.prog 117 #[.slice a n cap] w fun e w' => e = .returned (.int .i64 (mtE l)) ∧ Below w.heap.size w w':=by
 subst hn
 by_cases h8 : l.length ≤ 8
 ·have d0 : decide ((8 : Int) < (l.length : Int)) = false:=decide_eq_false (by omega)
  go_enter Tryz.func117,Tryz.ntmps117
  go_wp2_with fail
  go_loopw [3] (fun i wr => ∃ k : Nat,k ≤ l.length ∧ i = .int .i64 (k : Int) ∧ Hid (gm l k) ∧ Below w.heap.size w wr) (fun i _ => l.length - (intOf i).toNat)
  case atStart => exact ⟨0,by omega,rfl,⟨gm_zero l⟩,Below.refl _ _⟩
  case round =>
   obtain ⟨k,hk,rfl,HG,hb⟩:=hrel
   by_cases hlt : k < l.length
   ·have d1 : decide ((k : Int) < (l.length : Int)) = true:=decide_eq_true (by omega)
    have k2 : (k : Int) < (l.length : Int):=by omega
    obtain ⟨p,hp⟩ : ∃ p,l[k]? = some p:=⟨l[k],List.getElem?_eq_getElem hlt⟩
    obtain ⟨b,off,rfl,hbl,c0,c1⟩:=(hP.later hb).get k p hp
    have qS : Hid (∀ w,Calls Tryz.prog 160 #[str p.key,.int .i64 16] w fun e w' => e = .returned (.bool (smN p.key 16)) ∧ w' = w):=⟨fun w => rsmall_any p.key 16 (by omega) (hs k p hp).1 w⟩
    by_cases hsm : smN p.key 16 = true
    ·rw [hsm] at qS
     by_cases hv : p.val.length ≤ 64
     ·have hpr : prb p = true:=by unfold prb; rw [hsm,decide_eq_true hv]; rfl
      have d3 : decide ((64 : Int) < (p.val.length : Int)) = false:=decide_eq_false (by omega)
      by_cases hk0 : k = 0
      ·have HN : Hid (gm l (k + 1)):=⟨gm_next HG.out hp hpr fun q h1 h2 => by omega⟩
       have d4 : decide ((0 : Int) < (k : Int)) = false:=decide_eq_false (by omega)
       have d5 : decide (0 < k) = false:=decide_eq_false (by omega)
       clear hpr hp hsm hk0
       go_wp2_with fail
       go_quiet ((go_at_call 160; exact Calls.quiet_of_same (qS.out _)))
       go_wp2_with fail
       exact ⟨⟨k + 1,by omega,by go_num,HN,below_dN hb nq⟩,by simp [intOf]; omega⟩
      ·have d4 : decide ((0 : Int) < (k : Int)) = true:=decide_eq_true (by omega)
       have d7 : decide (0 < k) = true:=decide_eq_true (by omega)
       have k3 : (k : Int) - 1 < (l.length : Int):=by omega
       obtain ⟨q,hq⟩ : ∃ p,l[k - 1]? = some p:=⟨l[k - 1]'(by omega),List.getElem?_eq_getElem (by omega)⟩
       obtain ⟨b2,off2,e2,_,f0,f1⟩:=(hP.later hb).get (k - 1) q hq
       injection e2 with e2
       injection e2 with e3 e4
       subst e3 e4
       by_cases hlast : lt q.key p.key
       ·have HN : Hid (gm l (k + 1)):=⟨gm_next HG.out hp hpr fun q' h1 h2 => by rw [hq] at h2; cases h2; exact hlast⟩
        have d2 : Go.Op.bytesLess q.key p.key = true:=by rw [bytesLess_eq]; exact decide_eq_true hlast
        clear hpr hp hsm hlast hq
        go_wp2_with fail
        go_quiet ((go_at_call 160; exact Calls.quiet_of_same (qS.out _)))
        go_wp2_with fail
        exact ⟨⟨k + 1,by omega,by go_num,HN,below_dN hb nq⟩,by simp [intOf]; omega⟩
       ·have HV : Hid (mtE l = 62):=⟨mtE_ord (by omega) hq hp hlast⟩
        have d2 : Go.Op.bytesLess q.key p.key = false:=by rw [bytesLess_eq]; exact decide_eq_false hlast
        clear hpr hp hsm hlast hq
        go_wp2_with fail
        go_quiet ((go_at_call 160; exact Calls.quiet_of_same (qS.out _)))
        go_wp2_with fail
        go_ret
        exact ⟨by rw [HV.out]; rfl,below_dN hb nq⟩
     ·have hpr : prb p = false:=by unfold prb; rw [hsm,decide_eq_false hv]; rfl
      have d3 : decide ((64 : Int) < (p.val.length : Int)) = true:=decide_eq_true (by omega)
      have HV : Hid (mtE l = 62):=⟨mtE_pr hp hpr⟩
      clear hpr hp hsm
      go_wp2_with fail
      go_quiet ((go_at_call 160; exact Calls.quiet_of_same (qS.out _)))
      go_wp2_with fail
      go_ret
      exact ⟨by rw [HV.out]; rfl,below_dN hb nq⟩
    ·have hsm' : smN p.key 16 = false:=by simpa using hsm
     rw [hsm'] at qS
     have hpr : prb p = false:=by unfold prb; rw [hsm']; rfl
     have HV : Hid (mtE l = 62):=⟨mtE_pr hp hpr⟩
     clear hpr hp hsm hsm'
     go_wp2_with fail
     go_quiet ((go_at_call 160; exact Calls.quiet_of_same (qS.out _)))
     go_wp2_with fail
     go_ret
     exact ⟨by rw [HV.out]; rfl,below_dN hb nq⟩
   ·obtain rfl : k = l.length:=by omega
    have d1 : decide ((l.length : Int) < (l.length : Int)) = false:=decide_eq_false (by omega)
    have HV : Hid (mtE l = 0):=⟨mtE_ok h8 HG.out⟩
    go_wp2_with fail
    go_ret
    exact ⟨by rw [HV.out]; rfl,hb⟩
 ·have d0 : decide ((8 : Int) < (l.length : Int)) = true:=decide_eq_true (by omega)
  have HV : Hid (mtE l = 62):=⟨mtE_long (by omega)⟩
  go_enter Tryz.func117,Tryz.ntmps117
  go_wp2_with fail
  go_ret
  exact ⟨by rw [HV.out]; rfl,Below.refl _ _⟩
end
section
open Go.RowKit
attribute [local go_sem ↓] Go.wp_at_zero Go.wp_at_succ
abbrev vv (key : List UInt8) (seq : Int) (mk : Bool) (data : List UInt8) (a : Option Addr) (n cap : Nat) : Value := .agg #[str key,.int .i64 seq,.bool mk,str data,.slice a n cap]
noncomputable def vrE (key : List UInt8) (mk : Bool) (data : List UInt8) (l : List En) : Int:=by
 classical exact if ¬ keyE key = 0 then 61 else if (mk = true ∧ ¬ data = []) ∨ ¬ datE data = 0 then 63 else if mk = true ∧ 1 ≤ l.length then 62 else mtE l
theorem keyE_or (s : List UInt8) : keyE s = 0 ∨ keyE s = 61:=by unfold keyE; split <;> simp
theorem datE_or (s : List UInt8) : datE s = 0 ∨ datE s = 63:=by unfold datE; split <;> simp
theorem mtE_or (l : List En) : mtE l = 0 ∨ mtE l = 62:=by unfold mtE; split <;> simp
set_option maxHeartbeats 2000000 in
theorem version_any (key : List UInt8) (seq : Int) (mk : Bool) (data : List UInt8) (l : List En) (w : World) (a : Option Addr) (n cap : Nat) (hn : l.length = n) (hP : PIn w a l) (hz : l.length ≤ 9223372036854775806) :
  Calls Tryz.prog 84 #[vv key seq mk data a n cap] w fun e w' => e = .returned (.int .i64 (vrE key mk data l)) ∧ Below w.heap.size w w':=by
 have hk:=fun w => key_any key w
 have hd:=fun w => data_any data w
 have hbx : Below w.heap.size w (w.alloc (.cells #[str key,.int .i64 seq,.bool mk,str data,.slice a n cap] 62)):=(Below.refl _ _).alloc (Nat.le_refl _) _
 have hm:=meta_any l _ a n cap hn (hP.later hbx) hz
 rcases keyE_or key with h1 | h1
 ·rw [h1] at hk
  rcases datE_or data with h2 | h2
  ·rw [h2] at hd
   by_cases h3 : mk = true ∧ ¬ data = []
   ·have HV : Hid (vrE key mk data l = 63):=⟨by unfold vrE; rw [if_neg (by rw [h1]; simp),if_pos (.inl h3)]⟩
    obtain ⟨rfl,h4⟩:=h3
    have d0 : (data == []) = false:=by rw [beq_eq_false_iff_ne]; exact h4
    clear h4 h1 h2 hm
    go_enter Tryz.func84,Tryz.ntmps84
    go_wp2_with (go_at_call 88; refine (hk _).mono ?_; rintro e w1 ⟨rfl,rfl⟩)
    go_ret
    exact ⟨by rw [HV.out]; rfl,hbx⟩
   ·by_cases h5 : mk = true ∧ 1 ≤ l.length
    ·have HV : Hid (vrE key mk data l = 62):=⟨by unfold vrE; rw [if_neg (by rw [h1]; simp),if_neg (by rw [h2]; simpa using h3),if_pos h5]⟩
     obtain ⟨rfl,h6⟩:=h5
     have h7 : data = []:=by
      apply Classical.byContradiction
      intro h; exact h3 ⟨rfl,h⟩
     subst h7
     have d3 : decide ((0 : Int) < (n : Int)) = true:=decide_eq_true (by omega)
     have d4 : decide (0 < n) = true:=decide_eq_true (by omega)
     clear h3 h1 h2 hm
     go_enter Tryz.func84,Tryz.ntmps84
     go_wp2_with (first | (go_at_call 88; refine (hk _).mono ?_; rintro e w1 ⟨rfl,rfl⟩) | (go_at_call 135; refine (hd _).mono ?_; rintro e w1 ⟨rfl,rfl⟩))
     go_ret
     exact ⟨by rw [HV.out]; rfl,hbx⟩
    ·have HV : Hid (vrE key mk data l = mtE l):=⟨by unfold vrE; rw [if_neg (by rw [h1]; simp),if_neg (by rw [h2]; simpa using h3),if_neg h5]⟩
     generalize mtE l = M at *
     cases mk with
     | false =>
      clear h3 h1 h2 h5
      go_enter Tryz.func84,Tryz.ntmps84
      go_wp2_with (first | (go_at_call 88; refine (hk _).mono ?_; rintro e w1 ⟨rfl,rfl⟩) | (go_at_call 135; refine (hd _).mono ?_; rintro e w1 ⟨rfl,rfl⟩) | (go_at_call 89; refine hm.mono ?_; rintro e w1 ⟨rfl,b1⟩))
      go_ret
      exact ⟨by rw [HV.out]; rfl,hbx.trans (b1.mono (by simp))⟩
     | true =>
      have h7 : data = []:=by
       apply Classical.byContradiction
       intro h; exact h3 ⟨rfl,h⟩
      subst h7
      have h6 : ¬ 1 ≤ l.length:=fun h => h5 ⟨rfl,h⟩
      have d3 : decide ((0 : Int) < (n : Int)) = false:=decide_eq_false (by omega)
      have d4 : decide (0 < n) = false:=decide_eq_false (by omega)
      clear h3 h1 h2 h5 h6
      go_enter Tryz.func84,Tryz.ntmps84
      go_wp2_with (first | (go_at_call 88; refine (hk _).mono ?_; rintro e w1 ⟨rfl,rfl⟩) | (go_at_call 135; refine (hd _).mono ?_; rintro e w1 ⟨rfl,rfl⟩) | (go_at_call 89; refine hm.mono ?_; rintro e w1 ⟨rfl,b1⟩))
      go_ret
      exact ⟨by rw [HV.out]; rfl,hbx.trans (b1.mono (by simp))⟩
  ·rw [h2] at hd
   have HV : Hid (vrE key mk data l = 63):=⟨by unfold vrE; rw [if_neg (by rw [h1]; simp),if_pos (.inr (by rw [h2]; decide))]⟩
   have h4 : ¬ data = []:=by rintro rfl; unfold datE at h2; simp at h2
   have d0 : (data == []) = false:=by rw [beq_eq_false_iff_ne]; exact h4
   clear h4 h1 h2 hm
   cases mk with
   | false =>
    go_enter Tryz.func84,Tryz.ntmps84
    go_wp2_with (first | (go_at_call 88; refine (hk _).mono ?_; rintro e w1 ⟨rfl,rfl⟩) | (go_at_call 135; refine (hd _).mono ?_; rintro e w1 ⟨rfl,rfl⟩))
    go_ret
    exact ⟨by rw [HV.out]; rfl,hbx⟩
   | true =>
    go_enter Tryz.func84,Tryz.ntmps84
    go_wp2_with (first | (go_at_call 88; refine (hk _).mono ?_; rintro e w1 ⟨rfl,rfl⟩) | (go_at_call 135; refine (hd _).mono ?_; rintro e w1 ⟨rfl,rfl⟩))
    go_ret
    exact ⟨by rw [HV.out]; rfl,hbx⟩
 ·rw [h1] at hk
  have HV : Hid (vrE key mk data l = 61):=⟨by unfold vrE; rw [if_pos (by rw [h1]; decide)]⟩
  clear h1 hm
  go_enter Tryz.func84,Tryz.ntmps84
  go_wp2_with (go_at_call 88; refine (hk _).mono ?_; rintro e w1 ⟨rfl,rfl⟩)
  go_ret
  exact ⟨by rw [HV.out]; rfl,hbx⟩
def tt (l : List En) : Nat:=(l.map fun e => e.key.length + e.val.length).sum
theorem tt_take {l : List En} {k : Nat} {p : En} (h : l[k]? = some p) : tt (l.take (k + 1)) = tt (l.take k) + (p.key.length + p.val.length):=by
 unfold tt
 rw [List.take_add_one,h]
 simp
theorem tt_append (a b : List En) : tt (a ++ b) = tt a + tt b:=by unfold tt; simp
def vsz (key data : List UInt8) (l : List En) : Int:=wrap64 ((32 + key.length + data.length + tt l : Nat) : Int)
theorem vsz_next {key data : List UInt8} {l : List En} {k : Nat} {p : En} (h : l[k]? = some p) : wrap64 (vsz key data (l.take k) + wrap64 ((p.key.length : Int) + (p.val.length : Int))) = vsz key data (l.take (k + 1)) ∧ wrap64 (wrap64 (vsz key data (l.take k) + (p.key.length : Int)) + (p.val.length : Int)) = vsz key data (l.take (k + 1)):=by
 unfold vsz
 rw [tt_take h]
 generalize tt (l.take k) = T
 generalize p.key.length = A
 generalize p.val.length = B
 generalize 32 + key.length + data.length = C
 unfold wrap64
 omega
theorem vsz_zero (key data : List UInt8) (l : List En) : wrap64 (wrap64 (32 + (key.length : Int)) + (data.length : Int)) = vsz key data (l.take 0):=by
 unfold vsz
 rw [List.take_zero]
 show _ = wrap64 ((32 + key.length + data.length + 0 : Nat) : Int)
 generalize key.length = A
 generalize data.length = B
 unfold wrap64
 omega
theorem box5 {w w1 : World} {a b c d e : Value} {t : TypeId} (h : Below (w.alloc (.cells #[a,b,c,d,e] t)).heap.size (w.alloc (.cells #[a,b,c,d,e] t)) w1) :
  w1.cell? ⟨w.heap.size,0,none⟩ = some a ∧ w1.cell? ⟨w.heap.size,1,none⟩ = some b ∧ w1.cell? ⟨w.heap.size,2,none⟩ = some c ∧ w1.cell? ⟨w.heap.size,3,none⟩ = some d ∧ w1.cell? ⟨w.heap.size,4,none⟩ = some e:=by
 have hr : w1.heap[w.heap.size]? = some (.cells #[a,b,c,d,e] t (0,0)):=by rw [h.block _ (by simp)]; exact heap_alloc_new _ _
 refine ⟨?_,?_,?_,?_,?_⟩
 all_goals rw [cell_of_row _ _ _ _ _ _ hr]; rfl
set_option maxHeartbeats 2000000 in
theorem size_any (key : List UInt8) (seq : Int) (mk : Bool) (data : List UInt8) (l : List En) (w : World) (a : Option Addr) (n cap : Nat) (hn : l.length = n) (hP : PIn w a l) (hz : l.length ≤ 9223372036854775806) :
  Calls Tryz.prog 95 #[vv key seq mk data a n cap] w fun e w' => e = .returned (.int .i64 (vsz key data l)) ∧ Below w.heap.size w w':=by
 subst hn
 have hbx : Below w.heap.size w (w.alloc (.cells #[str key,.int .i64 seq,.bool mk,str data,.slice a l.length cap] 62)):=(Below.refl _ _).alloc (Nat.le_refl _) _
 have hP1:=hP.later hbx
 have HZ:=Hid.mk (vsz_zero key data l)
 go_enter Tryz.func95,Tryz.ntmps95
 go_wp2_with fail
 go_loopw [3,17] (fun s i wr => ∃ k : Nat,k ≤ l.length ∧ i = .int .i64 (k : Int) ∧ s = .int .i64 (vsz key data (l.take k)) ∧ Below w.heap.size w wr) (fun _ i _ => l.length - (intOf i).toNat)
 case atStart => exact ⟨0,by omega,rfl,by rw [← HZ.out],hbx⟩
 case round =>
  obtain ⟨k,hk,rfl,rfl,hb⟩:=hrel
  by_cases hlt : k < l.length
  ·have d1 : decide ((k : Int) < (l.length : Int)) = true:=decide_eq_true (by omega)
   have k2 : (k : Int) < (l.length : Int):=by omega
   obtain ⟨p,hp⟩ : ∃ p,l[k]? = some p:=⟨l[k],List.getElem?_eq_getElem hlt⟩
   obtain ⟨b,off,rfl,hbl,c0,c1⟩:=(hP.later hb).get k p hp
   have HX:=Hid.mk (vsz_next (key:=key) (data:=data) hp).1
   generalize vsz key data (l.take k) = A at *
   go_wp2_with fail
   exact ⟨⟨k + 1,by omega,by go_num,by rw [← HX.out],hb.alloc hb.size _⟩,by simp [intOf]; omega⟩
  ·obtain rfl : k = l.length:=by omega
   have d1 : decide ((l.length : Int) < (l.length : Int)) = false:=decide_eq_false (by omega)
   rw [List.take_length]
   go_wp2_with fail
   go_ret
   exact ⟨rfl,hb⟩
end
section
open Go.RowKit
attribute [local go_sem ↓] Go.wp_at_zero Go.wp_at_succ
attribute [local go_sem ↓] slPe
theorem app_oneB {ops : Array Oper} {rest : List Oper} {o : Oper} {a : Act} {Q : Exit → Act → World → Prop} {W : World} (hgd : o.guard = none) (s x : Operand) (ho : o.op = .call { callee := .builtin .append,args:=#[s,x],argTypes:=#[43,43] })
  {base : Nat} {w : World} {v : Value} {l : List En} {g : Nat} (p : En) (hW : W = w.alloc (.cells #[str p.key,str p.val] 49)) (hO : Ow base w v l) (hg : g = w.heap.size) (hn : l.length ≤ 4500000000000)
  (hs : a.eval s = v) (hx : a.eval x = .slice (some ⟨g,0,none⟩) 1 1)
  (h : ∀ v' w',Ow base w' v' (l ++ [p]) → Below base w w' → wpList Tryz.prog ops Q rest (a.put o.dst v') w') :
  wpList Tryz.prog ops Q (o :: rest) a W:=by
 obtain ⟨i0,hi0,hz0,hz1,hz2⟩:=infoP
 subst hW hg
 have hm : maxLen = 9223372036854775807:=rfl
 refine wpList_append_own_wide _ hgd s x 43 ho base 49 i0 _ 2 32 Tryz.underlying43 hi0 hz0 hz1 hz2 rfl (by omega) v l.length (pcells l) hs (hO.own.alloc _) _ 1 1 (pcs p) hx rfl
  (World.news_of_block (cs:=#[str p.key,str p.val]) (t:=49) (fr:=(0,0)) (heap_alloc_new w _)) (by simp [pcs,Value.oneCell']) (by rw [hm]; omega) (by omega) (by have:=hO.le; simp; omega) ?_
 intro v' w' hown hgrow _
 refine h v' w' ⟨?_,?_⟩ ?_
 ·rw [pcells_append,List.length_append]
  have : pcells [p] = pcs p:=by simp [pcells]
  rw [this]; exact hown
 ·have:=hgrow.size; have h2:=hO.le; simp at this; omega
 ·exact ((Below.refl _ _).alloc hO.le _).trans (grown_below (hO.own.alloc _) (by have:=hO.le; simp; omega) hgrow)
theorem app_sliceB {ops : Array Oper} {rest : List Oper} {o : Oper} {a : Act} {Q : Exit → Act → World → Prop} {w : World} (hgd : o.guard = none) (s x : Operand) (ho : o.op = .call { callee := .builtin .append,args:=#[s,x],argTypes:=#[43,43] })
  {base : Nat} {v : Value} {l : List En} {ad : Option Addr} {k c : Nat} (q : List En) (hO : Ow base w v l) (hS : Sl w ad c q) (hk : q.length = k) (hn : l.length + q.length ≤ 4500000000000)
  (hs : a.eval s = v) (hx : a.eval x = .slice ad k c)
  (h : ∀ v' w',Ow base w' v' (l ++ q) → Below base w w' → wpList Tryz.prog ops Q rest (a.put o.dst v') w') :
  wpList Tryz.prog ops Q (o :: rest) a w:=by
 obtain ⟨i0,hi0,hz0,hz1,hz2⟩:=infoP
 have hm : maxLen = 9223372036854775807:=rfl
 subst hk
 cases ad with
 | none =>
  have hc:=hS.nil rfl
  have h0 : q.length = 0:=by have:=hS.le; omega
  have hq : q = []:=List.eq_nil_of_length_eq_zero h0
  subst hq hc
  refine wpList_plain hgd fun K hK' => ?_
  have hrun:=run_append_owned_none (P:=Tryz.prog) w base 43 o.type 49 i0 2 Tryz.underlying43 hi0 _ l.length (pcells l) hO.own
  unfold Oper.wp
  simp [execOp,ho,resolve,invoke,builtin,hs,hx,hrun,Result.andThen]
  exact hK' _ _ (h v w (by simpa using hO) (Below.refl _ _))
 | some ad =>
  have hspot : q.length = 0 ∨ ad.spot = none:=by
   rcases Nat.eq_zero_or_pos q.length with h0 | h0
   ·exact Or.inl h0
   ·obtain ⟨b,off,e,_⟩:=hS.at'.get 0 q[0] (List.getElem?_eq_getElem h0)
    injection e with e
    exact Or.inr (by rw [e])
  have hcells : ∀ j u,(pcells q)[j]? = some u → w.cell? (ad.add j) = some u:=by
   rcases hspot with h0 | h0
   ·intro j u hj
    have hq : q = []:=List.eq_nil_of_length_eq_zero h0
    subst hq
    simp [pcells] at hj
   ·obtain ⟨b,off,sp⟩:=ad
    simp at h0
    subst h0
    exact hS.at'.cells
  refine wpList_append_own_wide _ hgd s x 43 ho base 49 i0 _ 2 32 Tryz.underlying43 hi0 hz0 hz1 hz2 rfl (by omega) v l.length (pcells l) hs hO.own ad q.length c (pcells q) hx (pcells_length q) hcells (pcells_one q) (by rw [hm]; omega) (by omega) hO.le ?_
  intro v' w' hown hgrow _
  refine h v' w' ⟨?_,?_⟩ (grown_below hO.own hO.le hgrow)
  ·rw [pcells_append,List.length_append]; exact hown
  ·have:=hgrow.size; have h2:=hO.le; omega
def mk : En:=⟨[109,97,114,107],[]⟩
end
end Go.Proofs.YtdfjlmfnkhhnjaaGreatDoor
