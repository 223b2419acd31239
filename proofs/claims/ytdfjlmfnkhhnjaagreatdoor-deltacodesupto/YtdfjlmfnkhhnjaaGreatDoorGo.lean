import Derived.Test.YtdfjlmfnkhhnjaaGreatDoorGh
import Derived.Laws.Concat
import Derived.Deep.RegionHeld3
import Derived.RegionCalls
import Derived.Lib.ConvBytes
import Derived.Deep.QuietTactic
import Derived.Deep.DeepCutAuto
set_option maxRecDepth 100000
set_option linter.unusedVariables false
set_option linter.unusedSimpArgs false
namespace Go.Proofs.YtdfjlmfnkhhnjaaGreatDoor
section
open Go.RowKit
noncomputable def adS (v x : Value) : Sem Value:=binOp BinOp.add 9 v x
theorem ad9 (v x : Value) : binOp BinOp.add 9 v x = adS v x:=rfl
theorem run_ad (x y : List UInt8) (h : x.length + y.length ≤ 9223372036854775807) (w : World) : (adS (str x) (str y)).run Tryz.prog w = .ok (str (x ++ y)) w:=by
 have hr:=run_string_add_sum (P:=Tryz.prog) w ⟨x.toArray⟩ ⟨y.toArray⟩ (by rw [str_size,str_size]; exact h)
 have e : (⟨x.toArray⟩ : ByteArray) ++ ⟨y.toArray⟩ = ⟨(x ++ y).toArray⟩:=by
  apply ByteArray.ext
  simp
 unfold adS
 rw [e] at hr
 simpa [binOp] using hr
theorem datE_ok {s : List UInt8} (h : s.length ≤ 1024) : datE s = 0:=by unfold datE; rw [if_pos h]
theorem mtE_nil : mtE [] = 0:=by
 unfold mtE
 rw [if_pos ⟨by simp,⟨fun p hp => absurd hp (List.not_mem_nil),List.Pairwise.nil⟩⟩]
theorem write_some {v : Vs} (h : rtE v = 0) (w : World) (a : Option Addr) (n cap : Nat) (hn : v.l.length = n) (hP : PIn w a v.l) :
  Calls Tryz.prog 22 #[vv v.key v.seq v.mkr v.data a n cap] w fun e w' => e = .returned (.tuple #[str (enc v),.int .i64 0]) ∧ Below w.heap.size w w':=by
 have:=write_any v w a n cap hn hP (by have:=(rt_of h).n; omega)
 rw [wro_ok h] at this
 exact this
theorem write_none {v : Vs} (h : ¬ rtE v = 0) (w : World) (a : Option Addr) (n cap : Nat) (hn : v.l.length = n) (hP : PIn w a v.l) (hz : v.l.length ≤ 9223372036854775806) :
  Calls Tryz.prog 22 #[vv v.key v.seq v.mkr v.data a n cap] w fun e w' => e = .returned (.tuple #[str [],.int .i64 (rtE v)]) ∧ Below w.heap.size w w':=by
 have:=write_any v w a n cap hn hP hz
 rw [wro_no h] at this
 exact this
end
section
open Go.RowKit
attribute [local go_sem ↓] Go.wp_at_zero Go.wp_at_succ
attribute [local go_sem ↓] ad9
set_option maxHeartbeats 2000000 in
theorem qRight_any (v : Vs) (w : World) (a : Option Addr) (n cap : Nat) (hn : v.l.length = n) (hP : PIn w a v.l) (hs : ∀ (k : Nat) (e : En),v.l[k]? = some e → e.key.length ≤ 9223372036854775806 ∧ e.val.length ≤ 9223372036854775806) (hz : v.l.length ≤ 9223372036854775806) :
  Calls Tryz.prog 125 #[vv v.key v.seq v.mkr v.data a n cap] w fun e w' => e = .returned (.int .i64 (rtE v)) ∧ Below w.heap.size w w':=by
 obtain ⟨key,seq,mk,data,l⟩:=v
 simp only at hn hP hz hs ⊢
 have hbx : Below w.heap.size w (w.alloc (.cells #[str key,.int .i64 seq,.bool mk,str data,.slice a n cap] 62)):=(Below.refl _ _).alloc (Nat.le_refl _) _
 have hk:=fun w => rKey_any key w
 have hd:=fun w => rData_any data w
 have hm:=rMeta_any l _ a n cap hn (hP.later hbx) hs hz
 by_cases h1 : seq < 1
 ·have HV : Hid (rtE ⟨key,seq,mk,data,l⟩ = 1):=⟨by unfold rtE; rw [if_pos (.inl h1)]⟩
  have d1 : decide (seq < 1) = true:=decide_eq_true h1
  generalize rtE ⟨key,seq,mk,data,l⟩ = E at *
  go_enter Tryz.func125,Tryz.ntmps125
  go_wp2_with fail
  go_ret
  exact ⟨by rw [HV.out]; rfl,hbx⟩
 ·have d1 : decide (seq < 1) = false:=decide_eq_false h1
  by_cases h2 : 1099511627776 < seq
  ·have HV : Hid (rtE ⟨key,seq,mk,data,l⟩ = 1):=⟨by unfold rtE; rw [if_pos (.inr h2)]⟩
   have d2 : decide (1099511627776 < seq) = true:=decide_eq_true h2
   generalize rtE ⟨key,seq,mk,data,l⟩ = E at *
   go_enter Tryz.func125,Tryz.ntmps125
   go_wp2_with fail
   go_ret
   exact ⟨by rw [HV.out]; rfl,hbx⟩
  ·have HV : Hid (rtE ⟨key,seq,mk,data,l⟩ = vrE key mk data l):=⟨by unfold rtE; rw [if_neg (by simp only; omega)]⟩
   have d2 : decide (1099511627776 < seq) = false:=decide_eq_false h2
   generalize rtE ⟨key,seq,mk,data,l⟩ = E at *
   rcases keyE_or key with k1 | k1
   ·rw [k1] at hk
    cases mk with
    | true =>
     by_cases hd0 : data = []
     ·subst hd0
      by_cases hl0 : 1 ≤ l.length
      ·have HE : Hid (vrE key true [] l = 62):=⟨by unfold vrE; rw [if_neg (by rw [k1]; simp),if_neg (by rw [datE_ok (by simp)]; simp),if_pos ⟨rfl,hl0⟩]⟩
       have d3 : decide ((0 : Int) < (n : Int)) = true:=decide_eq_true (by omega)
       have d4 : decide (0 < n) = true:=decide_eq_true (by omega)
       clear k1 hl0 hm hd
       generalize vrE key true [] l = E2 at *
       go_enter Tryz.func125,Tryz.ntmps125
       go_wp2_with (go_at_call 115; refine (hk _).mono ?_; rintro e w1 ⟨rfl,rfl⟩)
       go_ret
       exact ⟨by rw [HV.out,HE.out]; rfl,hbx⟩
      ·have hl : l = []:=List.eq_nil_of_length_eq_zero (by omega)
       have HE : Hid (vrE key true [] l = 0):=⟨by unfold vrE; rw [if_neg (by rw [k1]; simp),if_neg (by rw [datE_ok (by simp)]; simp),if_neg (fun q => hl0 q.2),hl]; exact mtE_nil⟩
       have d3 : decide ((0 : Int) < (n : Int)) = false:=decide_eq_false (by omega)
       have d4 : decide (0 < n) = false:=decide_eq_false (by omega)
       clear k1 hl0 hm hd hl
       generalize vrE key true [] l = E2 at *
       go_enter Tryz.func125,Tryz.ntmps125
       go_wp2_with (go_at_call 115; refine (hk _).mono ?_; rintro e w1 ⟨rfl,rfl⟩)
       go_ret
       exact ⟨by rw [HV.out,HE.out]; rfl,hbx⟩
     ·have HE : Hid (vrE key true data l = 63):=⟨by unfold vrE; rw [if_neg (by rw [k1]; simp),if_pos (.inl ⟨rfl,hd0⟩)]⟩
      have d3 : (data == []) = false:=by rw [beq_eq_false_iff_ne]; exact hd0
      clear k1 hm hd hd0
      generalize vrE key true data l = E2 at *
      go_enter Tryz.func125,Tryz.ntmps125
      go_wp2_with (go_at_call 115; refine (hk _).mono ?_; rintro e w1 ⟨rfl,rfl⟩)
      go_ret
      exact ⟨by rw [HV.out,HE.out]; rfl,hbx⟩
    | false =>
     rcases datE_or data with k2 | k2
     ·rw [k2] at hd
      have HE : Hid (vrE key false data l = mtE l):=⟨by unfold vrE; rw [if_neg (by rw [k1]; simp),if_neg (by rw [k2]; simp),if_neg (by simp)]⟩
      clear k1 k2
      generalize vrE key false data l = E2 at *
      generalize mtE l = E3 at *
      go_enter Tryz.func125,Tryz.ntmps125
      go_wp2_with (first | (go_at_call 115; refine (hk _).mono ?_; rintro e w1 ⟨rfl,rfl⟩) | (go_at_call 116; refine (hd _).mono ?_; rintro e w1 ⟨rfl,rfl⟩) | (go_at_call 117; refine hm.mono ?_; rintro e w1 ⟨rfl,b1⟩))
      go_ret
      exact ⟨by rw [HV.out,HE.out]; rfl,hbx.trans (b1.mono (by simp))⟩
     ·rw [k2] at hd
      have HE : Hid (vrE key false data l = 63):=⟨by unfold vrE; rw [if_neg (by rw [k1]; simp),if_pos (.inr (by rw [k2]; decide))]⟩
      clear k1 k2 hm
      generalize vrE key false data l = E2 at *
      go_enter Tryz.func125,Tryz.ntmps125
      go_wp2_with (first | (go_at_call 115; refine (hk _).mono ?_; rintro e w1 ⟨rfl,rfl⟩) | (go_at_call 116; refine (hd _).mono ?_; rintro e w1 ⟨rfl,rfl⟩))
      go_ret
      exact ⟨by rw [HV.out,HE.out]; rfl,hbx⟩
   ·rw [k1] at hk
    have HE : Hid (vrE key mk data l = 61):=⟨by unfold vrE; rw [if_pos (by rw [k1]; decide)]⟩
    clear k1 hm
    generalize vrE key mk data l = E2 at *
    go_enter Tryz.func125,Tryz.ntmps125
    go_wp2_with (go_at_call 115; refine (hk _).mono ?_; rintro e w1 ⟨rfl,rfl⟩)
    go_ret
    exact ⟨by rw [HV.out,HE.out]; rfl,hbx⟩
theorem conv_one {w : World} (c : Nat) : (convert 47 9 (.slice (some ⟨w.heap.size,0,none⟩) 1 1)).run Tryz.prog (w.alloc (.cells #[.int .u8 ((c : Int) % 256)] 5)) = .ok (str [UInt8.ofNat c]) (w.alloc (.cells #[.int .u8 ((c : Int) % 256)] 5)):=by
 rw [← byte_of c]
 exact conv_own (base:=0) (l := [UInt8.ofNat c]) ⟨⟨rfl,Or.inr ⟨w.heap.size,1,_,rfl,Nat.zero_le _,heap_alloc_new _ _,Nat.le_refl _,by decide,rfl,rfl⟩⟩,Nat.zero_le _⟩
theorem conv_one' {w : World} (c : Nat) (h : c < 256) : (convert 47 9 (.slice (some ⟨w.heap.size,0,none⟩) 1 1)).run Tryz.prog (w.alloc (.cells #[.int .u8 (c : Int)] 5)) = .ok (str [UInt8.ofNat c]) (w.alloc (.cells #[.int .u8 (c : Int)] 5)):=by
 have:=conv_one (w:=w) c
 rw [show ((c : Int) % 256) = (c : Int) by omega] at this
 exact this
theorem conv_two {w : World} (d : Nat) (h : d < 65536) : (convert 47 9 (.slice (some ⟨w.heap.size,0,none⟩) 2 2)).run Tryz.prog (w.alloc (.cells #[.int .u8 ((d : Int) / 256),.int .u8 ((d : Int) % 256)] 5)) = .ok (str (be 2 d)) (w.alloc (.cells #[.int .u8 ((d : Int) / 256),.int .u8 ((d : Int) % 256)] 5)):=by
 have e1 : (d : Int) / 256 = (((UInt8.ofNat (d / 256)).toNat : Nat) : Int):=by rw [byte_of]; omega
 have e2 : (d : Int) % 256 = (((UInt8.ofNat d).toNat : Nat) : Int):=by rw [byte_of]
 have e3 : be 2 d = [UInt8.ofNat (d / 256),UInt8.ofNat d]:=by
  have : List.range 2 = [0,1]:=by decide
  unfold be
  rw [this]
  simp
 rw [e1,e2,e3]
 exact conv_own (base:=0) (l := [UInt8.ofNat (d / 256),UInt8.ofNat d]) ⟨⟨rfl,Or.inr ⟨w.heap.size,2,_,rfl,Nat.zero_le _,heap_alloc_new _ _,Nat.le_refl _,by decide,rfl,rfl⟩⟩,Nat.zero_le _⟩
theorem qshort_any (s : List UInt8) (w : World) (h : s.length ≤ 1000) : Calls Tryz.prog 126 #[str s] w fun e w' => e = .returned (str (sh s)) ∧ Below w.heap.size w w':=by
 have hc:=conv_one (w:=w) s.length
 have ha : ∀ w,(adS (str [UInt8.ofNat s.length]) (str s)).run Tryz.prog w = .ok (str (sh s)) w:=fun w => run_ad [UInt8.ofNat s.length] s (by simp; omega) w
 generalize sh s = R at *
 go_enter Tryz.func126,Tryz.ntmps126
 go_wp2_with fail
 go_ret
 exact ⟨rfl,(Below.refl _ _).alloc (Nat.le_refl _) _⟩
theorem ob_one {w : World} (C : UInt8) {c : Int} (hc : c = (C.toNat : Int)) {base : Nat} (hB : base ≤ w.heap.size) : Ob base (w.alloc (.cells #[.int .u8 c] 5)) (.slice (some ⟨w.heap.size,0,none⟩) 1 1) [C]:=by
 subst hc
 exact ⟨⟨rfl,Or.inr ⟨w.heap.size,1,_,rfl,hB,heap_alloc_new _ _,Nat.le_refl _,by decide,rfl,rfl⟩⟩,by simp; omega⟩
set_option maxHeartbeats 4000000 in
theorem qWrite_any (v : Vs) (w : World) (a : Option Addr) (n cap : Nat) (hn : v.l.length = n) (hP : PIn w a v.l) (hs : ∀ (k : Nat) (e : En),v.l[k]? = some e → e.key.length ≤ 9223372036854775806 ∧ e.val.length ≤ 9223372036854775806) (hz : v.l.length ≤ 9223372036854775806) :
  Calls Tryz.prog 78 #[vv v.key v.seq v.mkr v.data a n cap] w fun e w' => e = .returned (wro v) ∧ Below w.heap.size w w':=by
 subst hn
 have hbx : Below w.heap.size w (w.alloc (.cells #[str v.key,.int .i64 v.seq,.bool v.mkr,str v.data,.slice a v.l.length cap] 62)):=(Below.refl _ _).alloc (Nat.le_refl _) _
 have hP1:=hP.later hbx
 have hw:=qRight_any v _ a v.l.length cap rfl hP1 hs hz
 have HX : Hid (∀ w1,Below (w.heap.size + 1) (w.alloc (.cells #[str v.key,.int .i64 v.seq,.bool v.mkr,str v.data,.slice a v.l.length cap] 62)) w1 → w1.cell? ⟨w.heap.size,0,none⟩ = some (str v.key) ∧ w1.cell? ⟨w.heap.size,1,none⟩ = some (.int .i64 v.seq) ∧ w1.cell? ⟨w.heap.size,2,none⟩ = some (.bool v.mkr) ∧ w1.cell? ⟨w.heap.size,3,none⟩ = some (str v.data) ∧ w1.cell? ⟨w.heap.size,4,none⟩ = some (.slice a v.l.length cap)):=⟨fun w1 h => box5 (w:=w) (w1:=w1) (by rw [World.size_alloc]; exact h)⟩
 by_cases h0 : rtE v = 0
 ·have R:=rt_of h0
  have HW:=Hid.mk (wro_ok h0)
  rw [h0] at hw
  generalize wro v = WR at *
  obtain ⟨key,seq,mk,data,l⟩:=v
  have HS:=Hid.mk R.p
  have hd0:=R.d
  have hn0:=R.n
  have hk0:=R.k2
  have s1:=R.s1
  have s2:=R.s2
  simp only at hP hz hbx hP1 hw HX HS hd0 hn0 hk0 s1 s2
  obtain ⟨S,rfl⟩ : ∃ S : Nat,seq = (S : Int):=⟨seq.toNat,by omega⟩
  have HE : Hid (∀ w',Below (w.heap.size + 1) (w.alloc (.cells #[str key,.int .i64 (S : Int),.bool mk,str data,.slice a l.length cap] 62)) w' → Below w.heap.size w w'):=⟨fun w' hb => hbx.trans (hb.mono (by omega))⟩
  have PL : Hid (∀ w',Below (w.heap.size + 1) (w.alloc (.cells #[str key,.int .i64 (S : Int),.bool mk,str data,.slice a l.length cap] 62)) w' → PIn w' a l):=⟨fun w' hb => hP1.later (hb.mono (by simp))⟩
  have hshk:=fun w => qshort_any key w (by omega)
  have HT:=fun i (h : i < 8) => be_take (n:=S) h
  have hall:=be_all 8 S
  have hB8:=be_len 8 S
  obtain ⟨kc,hkc⟩ : ∃ kc : UInt8,kc = if mk = true then 1 else 0:=⟨_,rfl⟩
  have HH : Hid (hd kc ⟨key,(S : Int),mk,data,l⟩ = ([kc] ++ be 8 S) ++ sh key):=⟨by unfold hd; simp⟩
  generalize hBE : be 8 S = B at *
  have HB8:=Hid.mk hB8
  clear hB8 hBE h0 R
  go_enter Tryz.func78,Tryz.ntmps78
  go_wp2_with fail
  with_reducible refine Calls.mono hw ?_
  rintro e w1 ⟨rfl,b1⟩
  dsimp only
  rw [World.size_alloc] at b1
  obtain ⟨x0,x1,x2,x3,x4⟩:=HX.out w1 b1
  have hw1:=b1.size
  simp at hw1
  clear hw
  have b1a:=b1.alloc hw1 (.cells #[.int .u8 0] 5)
  obtain ⟨_,_,x2a,_⟩:=HX.out _ b1a
  go_upto_if 16 with fail
  go_cut [5] (fun b wx => Ob (w.heap.size + 1) wx b [kc] ∧ Below (w.heap.size + 1) (w.alloc (.cells #[str key,.int .i64 (S : Int),.bool mk,str data,.slice a l.length cap] 62)) wx)
  case first =>
   have b2:=b1.alloc hw1 (.cells #[.int .u8 0] 5)
   have b3:=b1.alloc hw1 (.cells #[.int .u8 1] 5)
   cases mk with
   | true =>
    subst hkc
    have o2:=ob_one (w:=w1) 1 (c:=1) rfl hw1
    go_wp2_with fail
    go_meet
    exact ⟨o2,b3⟩
   | false =>
    subst hkc
    have o2:=ob_one (w:=w1) 0 (c:=0) rfl hw1
    go_wp2_with fail
    go_meet
    exact ⟨o2,b2⟩
  case rest =>
   obtain ⟨oc,bc⟩:=hcut
   clear x0 x1 x2 x3 x4 b1 hw1 x2a b1a
   go_wp2_with fail
   go_loopw [5,6] (fun b i wr => ∃ j : Nat,j ≤ 8 ∧ i = .int .i64 (7 - (j : Int)) ∧ Ob (w.heap.size + 1) wr b ([kc] ++ B.take j) ∧ Below (w.heap.size + 1) (w.alloc (.cells #[str key,.int .i64 (S : Int),.bool mk,str data,.slice a l.length cap] 62)) wr) (fun _ i _ => (intOf i + 1).toNat)
   case atStart => exact ⟨0,by omega,rfl,by simpa using oc,bc⟩
   case round =>
    obtain ⟨j,hj,rfl,o1,hb⟩:=hrel
    obtain ⟨_,x1,_⟩:=HX.out wr hb
    by_cases hlt : j < 8
    ·obtain ⟨k,hk⟩ : ∃ k : Nat,k = 7 - j:=⟨_,rfl⟩
     have hk2 : (7 : Int) - (j : Int) = (k : Int):=by omega
     have HK:=Hid.mk hk
     rw [hk2]
     have HT1:=HT j hlt
     rw [show 8 - 1 - j = k by omega] at HT1
     have HT2:=Hid.mk HT1
     have hlen : ([kc] ++ B.take j).length ≤ 200000000000000:=by rw [List.length_append,List.length_take,HB8.out]; simp; omega
     have HE2:=Hid.mk (shr_byte S k)
     have hk7 : k ≤ 7:=by omega
     have d1 : decide ((0 : Int) ≤ (k : Int)) = true:=decide_eq_true (by omega)
     clear HT HT1 hk hk2 hall
     go_wp2_with (refine app_byteg (UInt8.ofNat (S / 256 ^ k)) o1 rfl hlen HE2.out rfl _ _ rfl rfl rfl ?_; intro v2 w2 o2 b2)
     exact ⟨⟨j + 1,by omega,by rw [show ((k : Int) - 1) = 7 - ((j + 1 : Nat) : Int) by have:=HK.out; omega],by rw [HT2.out,← List.append_assoc]; exact o2,hb.trans b2⟩,by simp [intOf] <;> omega⟩
    ·obtain rfl : j = 8:=by omega
     rw [hall] at o1
     rw [show (7 : Int) - ((8 : Nat) : Int) = -1 by decide]
     have O1:=Hid.mk o1
     have XC : Hid (∀ w',Below wr.heap.size wr w' → Below (w.heap.size + 1) (w.alloc (.cells #[str key,.int .i64 (S : Int),.bool mk,str data,.slice a l.length cap] 62)) w' ∧ w'.cell? ⟨w.heap.size,0,none⟩ = some (str key) ∧ (convert 47 9 u5).run Tryz.prog w' = .ok (str ([kc] ++ B)) w'):=⟨fun w' h => by
      have h2:=hb.trans (h.mono (by have:=hb.size; simp at this; omega))
      exact ⟨h2,(HX.out w' h2).1,conv_own (O1.out.later h)⟩⟩
     have HBr:=Hid.mk hb
     have ha1 : ∀ w,(adS (str ([kc] ++ B)) (str (sh key))).run Tryz.prog w = .ok (str ([kc] ++ B ++ sh key)) w:=fun w => run_ad ([kc] ++ B) (sh key) (by simp [sh,HB8.out]; omega) w
     rw [← HH.out] at ha1
     obtain ⟨HD,hHD0⟩ : ∃ HD,HD = hd kc ⟨key,(S : Int),mk,data,l⟩:=⟨_,rfl⟩
     rw [← hHD0] at ha1
     have HHD:=Hid.mk hHD0
     clear hHD0 HH
     generalize [kc] ++ B = KB at *
     generalize sh key = SK at *
     clear HT hall o1 hb oc bc x1
     go_wp2_with fail
     go_region_held3 (fun w' => Below (w.heap.size + 1) (w.alloc (.cells #[str key,.int .i64 (S : Int),.bool mk,str data,.slice a l.length cap] 62)) w' ∧ w'.cell? ⟨w.heap.size,0,none⟩ = some (str key) ∧ (convert 47 9 u5).run Tryz.prog w' = .ok (str KB) w') (first
      | exact XC.out _ (Below.refl _ _).drew
      | exact XC.out _ (below_seq (Below.refl _ _).drew b9)) (
      (go_at_call 126; with_reducible refine Calls.mono (hshk _) ?_; rintro e w9 ⟨rfl,b9⟩))
     have b9w : Below (w.heap.size + 1) (w.alloc (.cells #[str key,.int .i64 (S : Int),.bool mk,str data,.slice a l.length cap] 62)) w9:=And.left (by assumption)
     obtain ⟨_,_,y2,y3,y4⟩:=HX.out w9 b9w
     have hw9:=b9w.size
     simp at hw9
     have B9:=Hid.mk b9w
     clear XC HBr b9w b9 ha1 hshk O1
     cases mk with
     | true =>
      rw [enc_mk rfl] at HW
      have hHD : Hid (HD = hd 1 ⟨key,(S : Int),true,data,l⟩):=⟨by rw [HHD.out,hkc]; rfl⟩
      rw [← hHD.out] at HW
      go_wp2_with fail
      go_ret2
      exact ⟨by rw [HW.out]; rfl,HE.out _ B9.out⟩
     | false =>
      have hHD : Hid (HD = hd 0 ⟨key,(S : Int),false,data,l⟩):=⟨by rw [HHD.out,hkc]; rfl⟩
      rw [enc_ob',← hHD.out] at HW
      have bA:=B9.out.alloc hw9 (.cells #[.int .u8 ((data.length : Int) / 256),.int .u8 ((data.length : Int) % 256)] 5)
      obtain ⟨_,_,z2,z3,z4⟩:=HX.out _ bA
      have hHl : HD.length ≤ 100:=by rw [hHD.out,hd_len]; simp only; omega
      clear HHD hHD
      have c2:=conv_two (w:=w9) data.length (by omega)
      have a1 : ∀ w,(adS (str HD) (str (be 2 data.length))).run Tryz.prog w = .ok (str (HD ++ be 2 data.length)) w:=fun w => run_ad HD (be 2 data.length) (by rw [be_len]; omega) w
      have a2 : ∀ w,(adS (str (HD ++ be 2 data.length)) (str data)).run Tryz.prog w = .ok (str (HD ++ be 2 data.length ++ data)) w:=fun w => run_ad _ data (by rw [List.length_append,be_len]; omega) w
      have a3 : ∀ w,(adS (str (HD ++ be 2 data.length ++ data)) (str [UInt8.ofNat l.length])).run Tryz.prog w = .ok (str (HD ++ be 2 data.length ++ data ++ [UInt8.ofNat l.length])) w:=fun w => run_ad _ _ (by rw [List.length_append,List.length_append,be_len]; simp; omega) w
      have hBB : (HD ++ be 2 data.length ++ data ++ [UInt8.ofNat l.length]).length ≤ 2000:=by simp only [List.length_append,be_len,List.length_singleton]; omega
      have HW2 : Hid (WR = .tuple #[str ((HD ++ be 2 data.length ++ data ++ [UInt8.ofNat l.length]) ++ pes l),.int .i64 0]):=⟨by rw [HW.out]; simp⟩
      clear HW
      generalize HD ++ be 2 data.length ++ data ++ [UInt8.ofNat l.length] = BB at *
      generalize HD ++ be 2 data.length ++ data = BB2 at *
      generalize HD ++ be 2 data.length = BB1 at *
      generalize be 2 data.length = BB0 at *
      have bB:=bA.alloc (by simp; omega) (.cells #[.int .u8 (l.length : Int)] 5)
      obtain ⟨_,_,_,_,t4⟩:=HX.out _ bB
      have c1:=conv_one' (w:=w9.alloc (.cells #[.int .u8 ((data.length : Int) / 256),.int .u8 ((data.length : Int) % 256)] 5)) l.length (by omega)
      rw [World.size_alloc] at c1
      go_wp2_with fail
      clear a1 a2 a3 c1 c2 y2 y3 y4 z2 z3 z4 t4 bA
      have BB0':=Hid.mk bB
      clear bB
      go_loopw [7,8] (fun s i wr => ∃ k : Nat,k ≤ l.length ∧ i = .int .i64 (k : Int) ∧ s = str (BB ++ pes (l.take k)) ∧ Hid (Below (w.heap.size + 1) (w.alloc (.cells #[str key,.int .i64 (S : Int),.bool false,str data,.slice a l.length cap] 62)) wr)) (fun _ i _ => l.length - (intOf i).toNat)
      case atStart => exact ⟨0,by omega,rfl,by simp [pes],BB0'⟩
      case round =>
       obtain ⟨k,hk,rfl,rfl,HB⟩:=hrel
       obtain ⟨_,_,_,_,y4⟩:=HX.out wr HB.out
       by_cases hlt : k < l.length
       ·have hd : decide ((k : Int) < (l.length : Int)) = true:=decide_eq_true (by omega)
        have k2 : (k : Int) < (l.length : Int):=by omega
        obtain ⟨p,hp⟩ : ∃ p,l[k]? = some p:=⟨l[k],List.getElem?_eq_getElem hlt⟩
        obtain ⟨b,off,rfl,hbl,c0,c1⟩:=(PL.out _ HB.out).get k p hp
        obtain ⟨s1,s2⟩:=HS.out k p hp
        have hbo : (BB ++ pes (l.take k)).length ≤ 3000:=by
         have q1:=pes_len (l.take k) (fun j e he => HS.out j e (by
          by_cases hj : j < k
          ·rw [List.getElem?_take_of_lt hj] at he; exact he
          ·rw [List.getElem?_eq_none (by rw [List.length_take]; omega)] at he; cases he))
         rw [List.length_take] at q1
         rw [List.length_append]
         omega
        have HN : Hid (BB ++ pes (l.take (k + 1)) = BB ++ pes (l.take k) ++ sh p.key ++ sh p.val):=⟨by rw [pes_take hp]; simp [pe]⟩
        have XC : Hid (∀ w',Below wr.heap.size wr w' → Below (w.heap.size + 1) (w.alloc (.cells #[str key,.int .i64 (S : Int),.bool false,str data,.slice (some ⟨b,off,none⟩) l.length cap] 62)) w' ∧ w'.cell? ⟨w.heap.size,4,none⟩ = some (.slice (some ⟨b,off,none⟩) l.length cap) ∧ w'.cell? ⟨b,off + k * 2,none⟩ = some (str p.key) ∧ w'.cell? ⟨b,off + k * 2 + 1,none⟩ = some (str p.val)):=⟨fun w' h => by
         have h2:=HB.out.trans (h.mono (by have:=HB.out.size; simp at this; omega))
         obtain ⟨_,_,_,_,y4⟩:=HX.out w' h2
         obtain ⟨b',off',e',_,d0,d1⟩:=(PL.out _ h2).get k p hp
         injection e' with e'
         injection e' with e1 e2
         subst e1 e2
         exact ⟨h2,y4,d0,d1⟩⟩
        have q1:=fun w => qshort_any p.key w (by omega)
        have q2:=fun w => qshort_any p.val w (by omega)
        have a1 : ∀ w,(adS (str (BB ++ pes (l.take k))) (str (sh p.key))).run Tryz.prog w = .ok (str (BB ++ pes (l.take k) ++ sh p.key)) w:=fun w => run_ad _ _ (by simp only [sh,List.length_cons]; omega) w
        have a2 : ∀ w,(adS (str (BB ++ pes (l.take k) ++ sh p.key)) (str (sh p.val))).run Tryz.prog w = .ok (str (BB ++ pes (l.take k) ++ sh p.key ++ sh p.val)) w:=fun w => run_ad _ _ (by simp only [sh,List.length_cons,List.length_append] at hbo ⊢; omega) w
        generalize sh p.key = N1 at *
        generalize sh p.val = N2 at *
        generalize BB ++ pes (l.take k) = LL at *
        clear hp hbo c0 c1
        go_wp2_with fail
        go_region_held3 (fun w' => Below (w.heap.size + 1) (w.alloc (.cells #[str key,.int .i64 (S : Int),.bool false,str data,.slice (some ⟨b,off,none⟩) l.length cap] 62)) w' ∧ w'.cell? ⟨w.heap.size,4,none⟩ = some (.slice (some ⟨b,off,none⟩) l.length cap) ∧ w'.cell? ⟨b,off + k * 2,none⟩ = some (str p.key) ∧ w'.cell? ⟨b,off + k * 2 + 1,none⟩ = some (str p.val)) (first
         | exact XC.out _ (Below.refl _ _).drew
         | exact XC.out _ (below_seq (Below.refl _ _).drew b8)
         | exact XC.out _ (below_seq (below_seq (Below.refl _ _).drew b8) b9)) (first
         | (go_at_call 126; with_reducible refine Calls.mono (q1 _) ?_; rintro e w8 ⟨rfl,b8⟩)
         | (go_at_call 126; with_reducible refine Calls.mono (q2 _) ?_; rintro e w9 ⟨rfl,b9⟩))
        have hb9 : Below (w.heap.size + 1) (w.alloc (.cells #[str key,.int .i64 (S : Int),.bool false,str data,.slice (some ⟨b,off,none⟩) l.length cap] 62)) w9:=And.left (by assumption)
        have HB9:=Hid.mk hb9
        clear hb9 b8 b9 XC
        go_wp2_with fail
        exact ⟨⟨k + 1,by omega,by go_num,by rw [HN.out,List.append_assoc],HB9⟩,by simp [intOf]; omega⟩
       ·obtain rfl : k = l.length:=by omega
        have hd : decide ((l.length : Int) < (l.length : Int)) = false:=decide_eq_false (by omega)
        rw [List.take_length]
        go_wp2_with fail
        go_ret2
        exact ⟨by rw [HW2.out]; rfl,HE.out _ HB.out⟩
 ·have HW:=Hid.mk (wro_no h0)
  have hne : (rtE v == 0) = false:=by rw [beq_eq_false_iff_ne]; exact h0
  generalize wro v = WR at *
  generalize rtE v = E at *
  clear h0
  go_enter Tryz.func78,Tryz.ntmps78
  go_wp2_with (go_at_call 125; refine hw.mono ?_; rintro e w1 ⟨rfl,b1⟩)
  go_ret2
  exact ⟨by rw [HW.out]; rfl,hbx.trans (b1.mono (by simp))⟩
end
end Go.Proofs.YtdfjlmfnkhhnjaaGreatDoor
