import Derived.Test.YtdfjlmfnkhhnjaaGreatDoorPMath
import Derived.Test.YtdfjlmfnkhhnjaaGreatDoorProg
import Derived.WalkKit
import Derived.WalkLawsBesides
import Derived.WalkSpells
import Derived.BigQuiet
import Derived.Deep.QuietTactic
import Derived.Deep.DrawnRows
import Derived.Test.YtdfjlmfnkhhnjaaGreatDoorShelf
import Derived.Lib.AppendIntMem
import Derived.OwnWalk
set_option maxRecDepth 100000
set_option linter.unusedVariables false
set_option linter.unusedSimpArgs false
namespace Go.Proofs.YtdfjlmfnkhhnjaaGreatDoorP
section
open Go.RowKit
structure Hid (p : Prop) : Prop where
 out : p
abbrev str (l : List UInt8) : Value := .string ⟨l.toArray⟩
theorem idxs (s : ByteArray) (l : List UInt8) (hl : l = s.data.toList) (p : Nat) (h : p < s.size) (w : World) : (Instr.index 9 (.string s) (.int .i64 (p : Int))).run Tryz.prog w = .ok (.int .u8 ((l.getD p 0).toNat : Int)) w:=by
 rw [run_index_string _ _ _ _ _ Tryz.underlying9]
 have h2 : (0 : Int) ≤ (p : Int) ∧ (p : Int) < s.size:=by omega
 have h3 : p < s.data.size:=h
 rw [dif_pos h2]
 subst hl
 have : s.data.toList.getD p 0 = s[p]:=by
  rw [List.getD_eq_getElem?_getD,List.getElem?_eq_getElem (by simpa using h3)]
  rfl
 rw [this]
 rfl
abbrev gone : Ending := .panicked [{ v := .iface 29 (.int .i64 4),recovered:=false }]
theorem must_true (w : World) : Calls Tryz.prog 190 #[.bool true] w fun e w' => e = .returned (.tuple #[]) ∧ w' = w:=by
 go_enter Tryz.func190,Tryz.ntmps190
 go_wp2
 go_end0
 exact ⟨rfl,rfl⟩
theorem must_false (w : World) : Calls Tryz.prog 190 #[.bool false] w fun e w' => e = gone ∧ w' = w:=by
 go_enter Tryz.func190,Tryz.ntmps190
 go_wp2
 exact ⟨rfl,rfl,rfl⟩
theorem getD_of {s : ByteArray} {l : List UInt8} (hl : l = s.data.toList) : l.length = s.size:=by rw [hl,Array.length_toList]; rfl
theorem mem_getD {l : List UInt8} {c : UInt8} (h : c ∈ l) : ∃ j,j < l.length ∧ l.getD j 0 = c:=by
 obtain ⟨j,hj,e⟩:=List.mem_iff_getElem.1 h
 exact ⟨j,hj,by rw [List.getD_eq_getElem?_getD,List.getElem?_eq_getElem hj,e]; rfl⟩
theorem getD_mem {l : List UInt8} {j : Nat} (hj : j < l.length) : l.getD j 0 ∈ l:=by
 rw [List.getD_eq_getElem?_getD,List.getElem?_eq_getElem hj]; exact List.getElem_mem hj
def noBad (l : List UInt8) (k : Nat) : Prop := ∀ j,j < k → l.getD j 0 ≠ 61 ∧ l.getD j 0 ≠ 10
theorem key_full {l : List UInt8} (h : noBad l l.length) : key l = !l.isEmpty:=by
 have a : (61 : UInt8) ∉ l:=fun m => by obtain ⟨j,hj,e⟩:=mem_getD m; exact (h j hj).1 e
 have b : (10 : UInt8) ∉ l:=fun m => by obtain ⟨j,hj,e⟩:=mem_getD m; exact (h j hj).2 e
 simp [key,a,b]
theorem key_bad {l : List UInt8} {j : Nat} (hj : j < l.length) (h : l.getD j 0 = 61 ∨ l.getD j 0 = 10) : key l = false:=by
 have m:=getD_mem hj
 rcases h with h | h <;> (rw [h] at m; simp [key,m])
theorem toList_empty (s : ByteArray) : s.toList.isEmpty = s.data.toList.isEmpty:=by rw [ByteArray.toList_eq]
attribute [local go_sem ↓] Go.wp_at_zero Go.wp_at_succ
theorem refKey_any (s : ByteArray) (hs : s.size ≤ 9223372036854775807) (w : World) :
  Calls Tryz.prog 127 #[.string s] w fun e w' => e = .returned (.bool (key s.data.toList)) ∧ w' = w:=by
 obtain ⟨l,hl⟩ : ∃ l,l = s.data.toList:=⟨_,rfl⟩
 have hlen:=getD_of hl
 have he : s.toList.isEmpty = l.isEmpty:=by rw [toList_empty,hl]
 have hix:=idxs s l hl
 rw [← hl]
 have HL : Hid (l = s.data.toList):=⟨hl⟩
 clear hl
 go_enter Tryz.func127,Tryz.ntmps127
 go_wp2_with fail
 go_loop [3] (fun i => ∃ k : Nat,i = .int .i64 k ∧ k ≤ s.size ∧ noBad l k) (fun i => s.size - (intOf i).toNat)
 case atStart => exact ⟨0,rfl,Nat.zero_le _,fun j hj => by omega⟩
 case round =>
  obtain ⟨k,rfl,hk,hb⟩:=hrel
  by_cases h1 : k < s.size
  ·have d1 : decide ((k : Int) < (s.size : Int)) = true:=decide_eq_true (by omega)
   have hx:=hix k h1
   obtain ⟨c,hc⟩ : ∃ c,c = l.getD k 0:=⟨_,rfl⟩
   rw [← hc] at hx
   have HC : Hid (c = l.getD k 0):=⟨hc⟩
   clear hc hix
   by_cases h2 : c = 61
   ·have hK : key l = false:=key_bad (by omega) (Or.inl (HC.out ▸ h2))
    subst h2
    go_wp2_with fail
    go_ret
    exact ⟨rfl,rfl⟩
   ·have d2 : ((c.toNat : Int) == 61) = false:=by simpa using fun e => h2 (UInt8.toNat_inj.1 (Int.ofNat.inj e))
    by_cases h3 : c = 10
    ·have hK : key l = false:=key_bad (by omega) (Or.inr (HC.out ▸ h3))
     subst h3
     go_wp2_with fail
     go_ret
     exact ⟨rfl,rfl⟩
    ·have d3 : ((c.toNat : Int) == 10) = false:=by simpa using fun e => h3 (UInt8.toNat_inj.1 (Int.ofNat.inj e))
     have hB : Hid (noBad l (k + 1)):=⟨fun j hj => by
      by_cases e : j = k
      ·subst e; rw [← HC.out]; exact ⟨h2,h3⟩
      ·exact hb j (by omega)⟩
     go_wp2_with fail
     go_round
     case rel => exact ⟨k + 1,by go_num,h1,hB.out⟩
     case measure => simp [intOf]; omega
  ·have d1 : decide ((k : Int) < (s.size : Int)) = false:=decide_eq_false (by omega)
   have hK:=key_full (l:=l) (by rw [hlen,show s.size = k by omega]; exact hb)
   go_wp2_with fail
   go_ret
   exact ⟨rfl,rfl⟩
end
section
open Go.RowKit
structure TB (w : World) : Prop where
 out : Lib.TabIs Tryz.prog w "internal/strconv.uint64pow10" .u64 Lib.pow10Tab
theorem TB.below {w w' : World} (h : TB w) (b : Below w.heap.size w w') : TB w':=⟨Lib.tabBelow_of_tabIs h.out w' b⟩
theorem below_seq {w w1 w2 : World} (a : Below w.heap.size w w1) (b : Below w1.heap.size w1 w2) : Below w.heap.size w w2:=a.trans (b.mono a.size)
theorem itoa_any (n : Nat) (hn : n ≤ 9223372036854775807) (w : World) (ht : TB w) :
  Calls Tryz.prog 57 #[.int .i64 (n : Int)] w fun e w' => e = .returned (str (Lib.decDigits n)) ∧ Below w.heap.size w w':=by
 refine (Tryz.strconv_Itoa n (by omega) (by omega) w ht.out).mono ?_
 rintro e w' ⟨rfl,k,os,rfl⟩
 exact ⟨by rw [Lib.itoa_nonneg],Lib.below_grow _ _ (Nat.le_refl _) _ _⟩
theorem has_any (s : ByteArray) (c : UInt8) (w : World) : Calls Tryz.prog 100 #[.string s,.string ⟨#[c]⟩] w fun e w' => e = .returned (.bool (s.data.toList.contains c)) ∧ w' = w:=by
 refine (Tryz.strings_Contains_one s c w).mono ?_
 rintro e w' ⟨rfl,rfl⟩
 exact ⟨by rw [index_iff],rfl⟩
theorem isKey_any (s : ByteArray) (w : World) : Calls Tryz.prog 55 #[.string s] w fun e w' => e = .returned (.bool (key s.data.toList)) ∧ w' = w:=by
 obtain ⟨l,hl⟩ : ∃ l,l = s.data.toList:=⟨_,rfl⟩
 have he : s.toList.isEmpty = l.isEmpty:=by rw [toList_empty,hl]
 have c1:=fun w => has_any s 61 w
 have c2:=fun w => has_any s 10 w
 rw [← hl] at c1 c2 ⊢
 have HL : Hid (l = s.data.toList):=⟨hl⟩
 clear hl
 have hk : key l = (!l.isEmpty && !l.contains 61 && !l.contains 10):=rfl
 generalize hK : key l = K at *
 clear hK
 generalize l.isEmpty = x at *
 generalize l.contains 61 = y at *
 generalize l.contains 10 = z at *
 subst hk
 go_enter Tryz.func55,Tryz.ntmps55
 cases x
 ·cases y
  ·go_wp2_with (go_at_call 100; with_reducible refine Calls.mono (by first | exact c1 _ | exact c2 _) ?_; rintro e w' ⟨rfl,rfl⟩)
   go_ret
   exact ⟨by cases z <;> rfl,rfl⟩
  ·go_wp2_with (go_at_call 100; with_reducible refine Calls.mono (by first | exact c1 _ | exact c2 _) ?_; rintro e w' ⟨rfl,rfl⟩)
   go_ret
   exact ⟨rfl,rfl⟩
 ·go_wp2_with fail
  go_ret
  exact ⟨rfl,rfl⟩
structure Fit (n d : Nat) : Prop where
 pos : 1 ≤ d
 up : ∀ j,1 ≤ j → j < d → 10 ^ j ≤ n + j
 le : d ≤ 19
theorem Fit.one (n : Nat) : Fit n 1:=⟨Nat.le_refl _,fun j a b => by omega,by decide⟩
theorem Fit.next {n d : Nat} (hn : n ≤ 4611686018427387904) (h : Fit n d) (hne : Lib.nDigits (n + d) ≠ d) : Fit n (d + 1):=by
 have hu : ∀ j,1 ≤ j → j < d + 1 → 10 ^ j ≤ n + j:=fun j a b => by
  by_cases e : j = d
  ·subst e; exact fit_go a h.up hne
  ·exact h.up j a (by omega)
 exact ⟨by omega,hu,fit_bound hn hu⟩
theorem Fit.done {n d : Nat} (h : Fit n d) (he : Lib.nDigits (n + d) = d) : n + d = LEN n:=by unfold LEN; rw [← fit_exit h.pos h.up he]
attribute [local go_sem ↓] Go.wp_at_zero Go.wp_at_succ
theorem length_any (s t : ByteArray) (hs : s.size + t.size ≤ 1125899906842624) (w : World) (ht : TB w) :
  Calls Tryz.prog 56 #[.string s,.string t] w fun e w' => e = .returned (.int .i64 (LEN (s.size + t.size + 3))) ∧ Below w.heap.size w w':=by
 obtain ⟨n,hn⟩ : ∃ n,n = s.size + t.size + 3:=⟨_,rfl⟩
 have hN : n ≤ 4611686018427387904:=by omega
 have HN : Hid (n = s.size + t.size + 3):=⟨hn⟩
 rw [← hn]
 clear hn
 go_enter Tryz.func56,Tryz.ntmps56
 go_wp2_with fail
 go_loopw [6] (fun i wr => ∃ d : Nat,i = .int .i64 d ∧ Fit n d ∧ Below w.heap.size w wr) (fun i _ => 19 - (intOf i).toNat)
 case atStart => exact ⟨1,rfl,Fit.one n,Below.refl _ _⟩
 case round =>
  obtain ⟨d,rfl,hf,hb⟩:=hrel
  have hl:=hf.le
  have hi : Calls Tryz.prog 57 #[.int .i64 ((s.size : Int) + (t.size : Int) + 3 + (d : Int))] wr fun e w' => e = .returned (.string ⟨(Lib.decDigits (n + d)).toArray⟩) ∧ Below wr.heap.size wr w':=by
   have:=itoa_any (n + d) (by omega) wr (ht.below hb)
   rwa [show ((n + d : Nat) : Int) = (s.size : Int) + (t.size : Int) + 3 + (d : Int) by rw [HN.out]; omega] at this
  have hsz : (⟨(Lib.decDigits (n + d)).toArray⟩ : ByteArray).size = Lib.nDigits (n + d):=by rw [← Lib.decDigits_length]; rfl
  generalize (⟨(Lib.decDigits (n + d)).toArray⟩ : ByteArray) = q at *
  by_cases h1 : Lib.nDigits (n + d) = d
  ·have hq : q.size = d:=by omega
   have hL : Hid (n + d = LEN n):=⟨hf.done h1⟩
   clear hsz h1
   have d1 : ((q.size : Int) == (d : Int)) = true:=by rw [hq]; exact beq_self_eq_true _
   go_wp2_with (go_at_call 57; refine hi.mono ?_; rintro e w' ⟨rfl,hb1⟩)
   go_ret
   refine ⟨?_,below_seq hb hb1⟩
   have a1:=HN.out; have a2:=hL.out
   show Ending.returned (.int .i64 ((s.size : Int) + (t.size : Int) + 3 + (d : Int))) = _
   rw [show (s.size : Int) + (t.size : Int) + 3 + (d : Int) = ((LEN n : Nat) : Int) by omega]
  ·have HF : Hid (Fit n (d + 1)):=⟨hf.next hN h1⟩
   have hq : ¬ q.size = d:=by omega
   clear hsz h1
   have d1 : ((q.size : Int) == (d : Int)) = false:=beq_eq_false_iff_ne.2 (by omega)
   go_wp2_with (go_at_call 57; refine hi.mono ?_; rintro e w' ⟨rfl,hb1⟩)
   go_round
   case rel => exact ⟨d + 1,by go_num,HF.out,below_seq hb hb1⟩
   case measure => have:=HF.out.le; simp [intOf]; omega
end
section
open Go.RowKit
attribute [local go_sem ↓] Go.wp_at_zero Go.wp_at_succ
theorem conv_one (c : UInt8) (wr : World) : (convert 47 9 (.slice (some ⟨wr.heap.size,0,none⟩) 1 1)).run Tryz.prog (wr.alloc (.cells #[.int .u8 (c.toNat : Int)] 5)) = .ok (.string ⟨#[c]⟩) (wr.alloc (.cells #[.int .u8 (c.toNat : Int)] 5)):=by
 refine run_convert_bytes_back _ 47 9 5 ⟨wr.heap.size,0,none⟩ 1 [c] Tryz.underlying47 Tryz.underlying5 Tryz.underlying9 ?_
 intro j hj
 have hj0 : j = 0:=by simpa using hj
 subst hj0
 have hadd : (⟨wr.heap.size,0,none⟩ : Addr).add 0 = ⟨wr.heap.size,0,none⟩:=by unfold Addr.add; split <;> simp_all
 rw [hadd,World.cell?_alloc_new]
 rfl
def dgc (m : Nat) : UInt8:=UInt8.ofNat (48 + m % 10)
theorem dec_small {m : Nat} (h : m < 10) : Lib.decDigits m = [dgc m]:=by rw [D_small h]; unfold dgc; rw [Nat.mod_eq_of_lt h]
theorem dec_big {m : Nat} (h : ¬ m < 10) : Lib.decDigits m = Lib.decDigits (m / 10) ++ [dgc m]:=D_big h
theorem conv_dig (m : Nat) (wr : World) : (convert 47 9 (.slice (some ⟨wr.heap.size,0,none⟩) 1 1)).run Tryz.prog (wr.alloc (.cells #[.int .u8 (48 + (m : Int) % 10)] 5)) = .ok (.string ⟨#[dgc m]⟩) (wr.alloc (.cells #[.int .u8 (48 + (m : Int) % 10)] 5)):=by
 have:=conv_one (dgc m) wr
 unfold dgc at this
 rw [toNat_dig _ (by omega),show ((48 + m % 10 : Nat) : Int) = 48 + (m : Int) % 10 by omega] at this
 exact this
theorem cat_one (c : UInt8) (l : List UInt8) : (⟨#[c]⟩ : ByteArray) ++ ⟨l.toArray⟩ = ⟨(c :: l).toArray⟩:=by
 apply ByteArray.ext
 rw [ByteArray.data_append]
 simp
theorem nDigits_int {n : Nat} (hn : n ≤ 9223372036854775807) : Lib.nDigits n ≤ 19:=nDigits_le (by decide) (by omega)
theorem refDec_any (n : Nat) (hn : n ≤ 9223372036854775807) (w : World) :
  Calls Tryz.prog 129 #[.int .i64 (n : Int)] w fun e w' => e = .returned (str (Lib.decDigits n)) ∧ Below w.heap.size w w':=by
 go_enter Tryz.func129,Tryz.ntmps129
 go_wp2_with fail
 go_loopw [0,3] (fun v q wr => ∃ (m : Nat) (l : List UInt8),v = .int .i64 m ∧ q = .string ⟨l.toArray⟩ ∧ m ≤ n ∧ Lib.decDigits n = Lib.decDigits m ++ l ∧ Below w.heap.size w wr) (fun v _ _ => (intOf v).toNat)
 case atStart => exact ⟨n,[],rfl,rfl,Nat.le_refl _,by simp,Below.refl _ _⟩
 case round =>
  obtain ⟨m,l,rfl,rfl,hm,hD,hb⟩:=hrel
  have HD : Hid (Lib.decDigits n = Lib.decDigits m ++ l):=⟨hD⟩
  clear hD
  have hlen : l.length ≤ 19:=by
   have:=congrArg List.length HD.out
   rw [List.length_append,Lib.decDigits_length] at this
   have:=nDigits_int hn
   omega
  have hcv:=conv_dig m wr
  have hct : Hid ((⟨#[dgc m]⟩ : ByteArray) ++ ⟨l.toArray⟩ = ⟨(dgc m :: l).toArray⟩):=⟨cat_one (dgc m) l⟩
  have hsz : (⟨l.toArray⟩ : ByteArray).size = l.length:=by rfl
  have hs1 : (⟨#[dgc m]⟩ : ByteArray).size = 1:=by rfl
  have hnl : ¬ 9223372036854775807 < 1 + l.length:=by omega
  have hbb:=hb.alloc hb.size (Obj.cells #[Value.int .u8 (48 + (m : Int) % 10)] 5)
  by_cases h1 : m < 10
  ·have d1 : (((m : Int) / 10) == 0) = true:=by rw [show (m : Int) / 10 = 0 by omega]; rfl
   have hE : Hid (Lib.decDigits n = dgc m :: l):=⟨by rw [HD.out,dec_small h1]; rfl⟩
   go_wp2_with fail
   go_ret
   refine ⟨?_,hbb⟩
   show Ending.returned (.string (_ ++ _)) = _
   rw [hct.out,hE.out]
  ·have d1 : (((m : Int) / 10) == 0) = false:=beq_eq_false_iff_ne.2 (by omega)
   have hE : Hid (Lib.decDigits n = Lib.decDigits (m / 10) ++ dgc m :: l):=⟨by rw [HD.out,dec_big h1]; simp⟩
   go_wp2_with fail
   exact ⟨⟨m / 10,dgc m :: l,by simp,by rw [hct.out],by omega,hE.out,hbb⟩,by simp [intOf]; omega⟩
theorem refLen_any (n : Nat) (hn : n ≤ 4503599627370496) (w : World) :
  Calls Tryz.prog 128 #[.int .i64 (n : Int)] w fun e w' => e = .returned (.int .i64 (LEN n)) ∧ Below w.heap.size w w':=by
 have hN : n ≤ 4611686018427387904:=by omega
 go_enter Tryz.func128,Tryz.ntmps128
 go_wp2_with fail
 go_loopw [3] (fun i wr => ∃ d : Nat,i = .int .i64 d ∧ Fit n d ∧ Below w.heap.size w wr) (fun i _ => 19 - (intOf i).toNat)
 case atStart => exact ⟨1,rfl,Fit.one n,Below.refl _ _⟩
 case round =>
  obtain ⟨d,rfl,hf,hb⟩:=hrel
  have hl:=hf.le
  have hi : Calls Tryz.prog 129 #[.int .i64 ((n : Int) + (d : Int))] wr fun e w' => e = .returned (.string ⟨(Lib.decDigits (n + d)).toArray⟩) ∧ Below wr.heap.size wr w':=by
   have:=refDec_any (n + d) (by omega) wr
   rwa [show ((n + d : Nat) : Int) = (n : Int) + (d : Int) by omega] at this
  have hsz : (⟨(Lib.decDigits (n + d)).toArray⟩ : ByteArray).size = Lib.nDigits (n + d):=by rw [← Lib.decDigits_length]; rfl
  generalize (⟨(Lib.decDigits (n + d)).toArray⟩ : ByteArray) = q at *
  by_cases h1 : Lib.nDigits (n + d) = d
  ·have hq : q.size = d:=by omega
   have hL : Hid (n + d = LEN n):=⟨hf.done h1⟩
   clear hsz h1
   have d1 : ((q.size : Int) == (d : Int)) = true:=by rw [hq]; exact beq_self_eq_true _
   go_wp2_with (go_at_call 129; refine hi.mono ?_; rintro e w' ⟨rfl,hb1⟩)
   go_ret
   refine ⟨?_,below_seq hb hb1⟩
   have a2:=hL.out
   show Ending.returned (.int .i64 ((n : Int) + (d : Int))) = _
   rw [show (n : Int) + (d : Int) = ((LEN n : Nat) : Int) by omega]
  ·have HF : Hid (Fit n (d + 1)):=⟨hf.next hN h1⟩
   have hq : ¬ q.size = d:=by omega
   clear hsz h1
   have d1 : ((q.size : Int) == (d : Int)) = false:=beq_eq_false_iff_ne.2 (by omega)
   go_wp2_with (go_at_call 129; refine hi.mono ?_; rintro e w' ⟨rfl,hb1⟩)
   go_round
   case rel => exact ⟨d + 1,by go_num,HF.out,below_seq hb hb1⟩
   case measure => have:=HF.out.le; simp [intOf]; omega
end
section
open Go.RowKit
def wrote (k v : List UInt8) : List UInt8:=if key k = false then [] else if 1048576 < LEN (nn k v) then [] else recd k v
def werr (k v : List UInt8) : Int:=if key k = false then 1 else if 1048576 < LEN (nn k v) then 3 else 0
theorem cat_any (s t : ByteArray) : s ++ t = ⟨(s.data.toList ++ t.data.toList).toArray⟩:=by
 apply ByteArray.ext
 rw [ByteArray.data_append]
 simp
theorem nn_size {s t : ByteArray} : nn s.data.toList t.data.toList = s.size + t.size + 3:=by
 unfold nn; rw [Array.length_toList,Array.length_toList]; rfl
attribute [local go_sem ↓] Go.wp_at_zero Go.wp_at_succ
theorem write_any (s t : ByteArray) (hs : s.size ≤ 281474976710656) (ht : t.size ≤ 281474976710656) (w : World) (hT : TB w) :
  Calls Tryz.prog 26 #[.string s,.string t] w fun e w' => e = .returned (.tuple #[str (wrote s.data.toList t.data.toList),.int .i64 (werr s.data.toList t.data.toList)]) ∧ Below w.heap.size w w':=by
 have hk:=isKey_any s
 have hl:=length_any s t (by omega) w hT
 rw [← nn_size] at hl
 have hB : LEN (nn s.data.toList t.data.toList) ≤ 1125899906842624:=by
  have:=dig_bound (n:=nn s.data.toList t.data.toList) (by rw [nn_size]; omega)
  unfold LEN; rw [nn_size] at *; omega
 unfold wrote werr
 go_enter Tryz.func26,Tryz.ntmps26
 by_cases h1 : key s.data.toList = false
 ·rw [h1] at hk
  rw [if_pos h1,if_pos h1]
  go_wp2_with (go_at_call 55; refine (hk _).mono ?_; rintro e w' ⟨rfl,rfl⟩)
  go_ret2
  exact ⟨rfl,Below.refl _ _⟩
 ·rw [if_neg h1,if_neg h1]
  rw [Bool.not_eq_false] at h1
  rw [h1] at hk
  generalize hL : LEN (nn s.data.toList t.data.toList) = L at *
  by_cases h2 : 1048576 < L
  ·rw [if_pos h2,if_pos h2]
   have d2 : decide ((1048576 : Int) < (L : Int)) = true:=decide_eq_true (by omega)
   go_wp2_with (first | (go_at_call 55; refine (hk _).mono ?_; rintro e w' ⟨rfl,rfl⟩) | (go_at_call 56; refine hl.mono ?_; rintro e w' ⟨rfl,hb⟩))
   go_ret2
   exact ⟨rfl,hb⟩
  ·rw [if_neg h2,if_neg h2]
   have d2 : decide ((1048576 : Int) < (L : Int)) = false:=decide_eq_false (by omega)
   have hR : Hid ((⟨(Lib.decDigits L).toArray⟩ : ByteArray) ++ ⟨#[32]⟩ ++ s ++ ⟨#[61]⟩ ++ t ++ ⟨#[10]⟩ = ⟨(recd s.data.toList t.data.toList).toArray⟩):=⟨by
    unfold recd tail; rw [hL]; simp only [cat_any]; simp⟩
   have hI:=fun w ht => itoa_any L (by omega) w ht
   unfold str at hI
   have hq : (⟨(Lib.decDigits L).toArray⟩ : ByteArray).size ≤ 19:=by
    have:=nDigits_int (n:=L) (by omega)
    rw [← Lib.decDigits_length] at this; exact this
   generalize (⟨(Lib.decDigits L).toArray⟩ : ByteArray) = q at *
   have n1 : ¬ 9223372036854775807 < q.size + 1:=by omega
   have n2 : ¬ 9223372036854775807 < q.size + 1 + s.size:=by omega
   have n3 : ¬ 9223372036854775807 < q.size + 1 + s.size + 1:=by omega
   have n4 : ¬ 9223372036854775807 < q.size + 1 + s.size + 1 + t.size:=by omega
   have n5 : ¬ 9223372036854775807 < q.size + 1 + s.size + 1 + t.size + 1:=by omega
   go_wp2_with (first | (go_at_call 55; refine (hk _).mono ?_; rintro e w' ⟨rfl,rfl⟩) | (go_at_call 56; refine hl.mono ?_; rintro e w' ⟨rfl,hb⟩) | (go_at_call 57; refine (hI _ (hT.below hb)).mono ?_; rintro e w2 ⟨rfl,hb2⟩))
   go_ret2
   refine ⟨?_,below_seq hb hb2⟩
   show Ending.returned (.tuple #[.string (_ ++ _ ++ _ ++ _ ++ _ ++ _),.int .i64 0]) = _
   rw [hR.out]
theorem refWrite_any (s t : ByteArray) (hs : s.size ≤ 281474976710656) (ht : t.size ≤ 281474976710656) (w : World) :
  Calls Tryz.prog 80 #[.string s,.string t] w fun e w' => e = .returned (.tuple #[str (wrote s.data.toList t.data.toList),.int .i64 (werr s.data.toList t.data.toList)]) ∧ Below w.heap.size w w':=by
 have hk:=refKey_any s (by omega)
 have hl : Calls Tryz.prog 128 #[.int .i64 ((s.size : Int) + (t.size : Int) + 3)] w fun e w' => e = .returned (.int .i64 (LEN (nn s.data.toList t.data.toList))) ∧ Below w.heap.size w w':=by
  have:=refLen_any (s.size + t.size + 3) (by omega) w
  rw [nn_size]
  rwa [show ((s.size + t.size + 3 : Nat) : Int) = (s.size : Int) + (t.size : Int) + 3 by omega] at this
 have hB : LEN (nn s.data.toList t.data.toList) ≤ 1125899906842624:=by
  have:=dig_bound (n:=nn s.data.toList t.data.toList) (by rw [nn_size]; omega)
  unfold LEN; rw [nn_size] at *; omega
 unfold wrote werr
 go_enter Tryz.func80,Tryz.ntmps80
 by_cases h1 : key s.data.toList = false
 ·rw [h1] at hk
  rw [if_pos h1,if_pos h1]
  go_wp2_with (go_at_call 127; refine (hk _).mono ?_; rintro e w' ⟨rfl,rfl⟩)
  go_ret2
  exact ⟨rfl,Below.refl _ _⟩
 ·rw [if_neg h1,if_neg h1]
  rw [Bool.not_eq_false] at h1
  rw [h1] at hk
  generalize hL : LEN (nn s.data.toList t.data.toList) = L at *
  by_cases h2 : 1048576 < L
  ·rw [if_pos h2,if_pos h2]
   have d2 : decide ((1048576 : Int) < (L : Int)) = true:=decide_eq_true (by omega)
   go_wp2_with (first | (go_at_call 127; refine (hk _).mono ?_; rintro e w' ⟨rfl,rfl⟩) | (go_at_call 128; refine hl.mono ?_; rintro e w' ⟨rfl,hb⟩))
   go_ret2
   exact ⟨rfl,hb⟩
  ·rw [if_neg h2,if_neg h2]
   have d2 : decide ((1048576 : Int) < (L : Int)) = false:=decide_eq_false (by omega)
   have hR : Hid ((⟨(Lib.decDigits L).toArray⟩ : ByteArray) ++ ⟨#[32]⟩ ++ s ++ ⟨#[61]⟩ ++ t ++ ⟨#[10]⟩ = ⟨(recd s.data.toList t.data.toList).toArray⟩):=⟨by
    unfold recd tail; rw [hL]; simp only [cat_any]; simp⟩
   have hI:=fun w => refDec_any L (by omega) w
   unfold str at hI
   have hq : (⟨(Lib.decDigits L).toArray⟩ : ByteArray).size ≤ 19:=by
    have:=nDigits_int (n:=L) (by omega)
    rw [← Lib.decDigits_length] at this; exact this
   generalize (⟨(Lib.decDigits L).toArray⟩ : ByteArray) = q at *
   have n1 : ¬ 9223372036854775807 < q.size + 1:=by omega
   have n2 : ¬ 9223372036854775807 < q.size + 1 + s.size:=by omega
   have n3 : ¬ 9223372036854775807 < q.size + 1 + s.size + 1:=by omega
   have n4 : ¬ 9223372036854775807 < q.size + 1 + s.size + 1 + t.size:=by omega
   have n5 : ¬ 9223372036854775807 < q.size + 1 + s.size + 1 + t.size + 1:=by omega
   go_wp2_with (first | (go_at_call 127; refine (hk _).mono ?_; rintro e w' ⟨rfl,rfl⟩) | (go_at_call 128; refine hl.mono ?_; rintro e w' ⟨rfl,hb⟩) | (go_at_call 129; refine (hI _).mono ?_; rintro e w2 ⟨rfl,hb2⟩))
   go_ret2
   refine ⟨?_,below_seq hb hb2⟩
   show Ending.returned (.tuple #[.string (_ ++ _ ++ _ ++ _ ++ _ ++ _),.int .i64 0]) = _
   rw [hR.out]
end
section
open Go.RowKit
def CutAt (l : List UInt8) (c : UInt8) (a b : List UInt8) (f : Bool) : Prop:=(f = true ∧ l = a ++ c :: b ∧ c ∉ a) ∨ (f = false ∧ c ∉ l)
theorem ext_take (s : ByteArray) (o : Nat) : (s.extract 0 o).data.toList = s.data.toList.take o:=by
 simp [ByteArray.data_extract,List.extract_eq_take_drop]
theorem ext_drop (s : ByteArray) (o : Nat) : (s.extract o s.size).data.toList = s.data.toList.drop o:=by
 simp [ByteArray.data_extract,List.extract_eq_take_drop]
 exact List.take_of_length_le (by rw [List.length_drop,Array.length_toList]; exact Nat.le_refl _)
attribute [local go_sem ↓] Go.wp_at_zero Go.wp_at_succ
theorem cutIn_any (s : ByteArray) (c : UInt8) (hs : s.size ≤ 4611686018427387904) (w : World) :
  Calls Tryz.prog 221 #[.string s,.string ⟨#[c]⟩] w fun e w' => ∃ (a b : ByteArray) (f : Bool),e = .returned (.tuple #[.string a,.string b,.bool f]) ∧ CutAt s.data.toList c a.data.toList b.data.toList f ∧ Below w.heap.size w w':=by
 have hi:=Tryz.stringslite_Index_one s c
 go_enter Tryz.func221,Tryz.ntmps221
 rcases (show Lib.indexByte s.data.toList c = -1 ∨ 0 ≤ Lib.indexByte s.data.toList c by have:=Go.Lib.indexByte_ge s.data.toList c; omega) with h | h
 ·rw [h] at hi
  have hN : Hid (c ∉ s.data.toList):=⟨fun m => by
   obtain ⟨j,hj,e⟩:=List.mem_iff_getElem.1 m
   exact Go.Lib.indexByte_none h j (by rw [List.getElem?_eq_getElem hj,e])⟩
  clear h
  go_wp2_with (go_at_call 183; refine (hi _).mono ?_; rintro e w' ⟨rfl,rfl⟩)
  go_ret3
  exact ⟨_,_,_,rfl,Or.inr ⟨rfl,hN.out⟩,Below.refl _ _⟩
 ·obtain ⟨o,ho⟩:=Int.eq_ofNat_of_zero_le h
  rw [ho] at hi
  obtain ⟨h1,h2,h3⟩:=index_split ho
  have hl : s.data.toList.length = s.size:=by rw [Array.length_toList]; rfl
  have h4 : o < s.size:=by omega
  have hC : Hid (CutAt s.data.toList c (s.extract 0 o).data.toList (s.extract (o + 1) s.size).data.toList true):=⟨Or.inl ⟨rfl,by rw [ext_take,ext_drop]; exact h2,by rw [ext_take]; exact h3⟩⟩
  clear h ho h1 h2 h3 hl
  have d1 : decide ((0 : Int) ≤ (o : Int)) = true:=decide_eq_true (by omega)
  go_wp2_with (go_at_call 183; refine (hi _).mono ?_; rintro e w' ⟨rfl,rfl⟩)
  go_quiet (fail)
  go_wp2_with fail
  go_ret3
  exact ⟨_,_,_,rfl,hC.out,⟨rfl,rfl,rfl,Nat.le_refl _,fun _ _ => rfl⟩⟩
theorem cut_any (s : ByteArray) (c : UInt8) (hs : s.size ≤ 4611686018427387904) (w : World) :
  Calls Tryz.prog 191 #[.string s,.string ⟨#[c]⟩] w fun e w' => ∃ (a b : ByteArray) (f : Bool),e = .returned (.tuple #[.string a,.string b,.bool f]) ∧ CutAt s.data.toList c a.data.toList b.data.toList f ∧ Below w.heap.size w w':=by
 have hi:=cutIn_any s c hs
 go_enter Tryz.func191,Tryz.ntmps191
 go_wp2_with (go_at_call 221; refine (hi _).mono ?_; rintro e w' ⟨a,b,f,rfl,hC,hb⟩)
 go_ret3
 exact ⟨_,_,_,rfl,hC,hb⟩
theorem refCut_any (s : ByteArray) (c : UInt8) (hs : s.size ≤ 4611686018427387904) (w : World) :
  Calls Tryz.prog 169 #[.string s,.int .u8 (c.toNat : Int)] w fun e w' => ∃ (a b : ByteArray) (f : Bool),e = .returned (.tuple #[.string a,.string b,.bool f]) ∧ CutAt s.data.toList c a.data.toList b.data.toList f ∧ Below w.heap.size w w':=by
 obtain ⟨l,hl⟩ : ∃ l,l = s.data.toList:=⟨_,rfl⟩
 have hlen:=getD_of hl
 have hix:=idxs s l hl
 have hC : ∀ k,k < s.size → l.getD k 0 = c → (∀ j,j < k → l.getD j 0 ≠ c) → CutAt l c (s.extract 0 k).data.toList (s.extract (k + 1) s.size).data.toList true:=fun k h1 h2 h3 => by
  refine Or.inl ⟨rfl,?_,?_⟩
  ·have e1 : l[k]'(by omega) = c:=by
    rw [List.getD_eq_getElem?_getD,List.getElem?_eq_getElem (by omega)] at h2; exact h2
   rw [ext_take,ext_drop,← hl,← e1,List.getElem_cons_drop,List.take_append_drop]
  ·rw [ext_take,← hl]
   intro m
   obtain ⟨j,hj,e⟩:=mem_getD m
   rw [List.length_take] at hj
   rw [List.getD_eq_getElem?_getD,List.getElem?_take_of_lt (by omega),← List.getD_eq_getElem?_getD] at e
   exact h3 j (by omega) e
 rw [← hl]
 clear hl
 go_enter Tryz.func169,Tryz.ntmps169
 go_wp2_with fail
 go_loop [7] (fun i => ∃ k : Nat,i = .int .i64 k ∧ k ≤ s.size ∧ ∀ j,j < k → l.getD j 0 ≠ c) (fun i => s.size - (intOf i).toNat)
 case atStart => exact ⟨0,rfl,Nat.zero_le _,fun j hj => by omega⟩
 case round =>
  obtain ⟨k,rfl,hk,hb⟩:=hrel
  by_cases h1 : k < s.size
  ·have d1 : decide ((k : Int) < (s.size : Int)) = true:=decide_eq_true (by omega)
   have hx:=hix k h1
   by_cases h2 : l.getD k 0 = c
   ·have hCC : Hid _:=⟨hC k h1 h2 hb⟩
    rw [h2] at hx
    clear hix hC hb h2
    have d2 : ((c.toNat : Int) == (c.toNat : Int)) = true:=beq_self_eq_true _
    go_wp2_with fail
    go_quiet (fail)
    go_wp2_with fail
    go_ret3
    exact ⟨_,_,_,rfl,hCC.out,⟨rfl,rfl,rfl,Nat.le_refl _,fun _ _ => rfl⟩⟩
   ·have hB : Hid (∀ j,j < k + 1 → l.getD j 0 ≠ c):=⟨fun j hj => by
     by_cases e : j = k
     ·subst e; exact h2
     ·exact hb j (by omega)⟩
    generalize l.getD k 0 = x at hx h2
    have d2 : ((x.toNat : Int) == (c.toNat : Int)) = false:=by simpa using fun e => h2 (UInt8.toNat_inj.1 (Int.ofNat.inj e))
    clear hix hC hb h2
    go_wp2_with fail
    go_round
    case rel => exact ⟨k + 1,by go_num,h1,hB.out⟩
    case measure => simp [intOf]; omega
  ·have d1 : decide ((k : Int) < (s.size : Int)) = false:=decide_eq_false (by omega)
   have hN : Hid (c ∉ l):=⟨fun m => by
    obtain ⟨j,hj,e⟩:=mem_getD m
    exact hb j (by omega) e⟩
   clear hix hC hb
   go_wp2_with fail
   go_ret3
   exact ⟨_,_,Or.inl ⟨rfl,Or.inr ⟨rfl,hN.out⟩,Below.refl _ _⟩⟩
end
end Go.Proofs.YtdfjlmfnkhhnjaaGreatDoorP
