import Derived.Test.YtdfjlmfnkhhnjaaGreatDoorGn
import Derived.Test.YtdfjlmfnkhhnjaaGreatDoorGi
import Derived.Test.YtdfjlmfnkhhnjaaGreatDoorGz
import Derived.Test.YtdfjlmfnkhhnjaaGreatDoorGo
import Derived.Test.YtdfjlmfnkhhnjaaGreatDoorGu
set_option maxRecDepth 100000
set_option linter.unusedVariables false
set_option linter.unusedSimpArgs false
namespace Go.Proofs.YtdfjlmfnkhhnjaaGreatDoor
section
open Go.RowKit
open Go.Proofs.YtdfjlmfnkhhnjaaGreatDoorP (recd nn LEN key wrote werr refWrite_any refDec_any)
attribute [local go_sem ↓] Go.wp_at_zero Go.wp_at_succ
theorem qdecimal_any (n : Int) (h0 : 0 ≤ n) (h1 : n ≤ 9223372036854775807) (w : World) :
  Calls Tryz.prog 123 #[.int .i64 n] w fun e w' => e = .returned (str (dec n)) ∧ Below w.heap.size w w':=by
 obtain ⟨k,rfl⟩:=Int.eq_ofNat_of_zero_le h0
 have hc:=refDec_any k (by omega) w
 have hw : wrap64 (k : Int) = (k : Int):=by unfold wrap64; omega
 go_enter Tryz.func123,Tryz.ntmps123
 go_wp2_with fail
 with_reducible refine Calls.mono hc ?_
 rintro e w1 ⟨rfl,b1⟩
 dsimp only
 clear hc
 go_wp2_with fail
 go_ret
 exact ⟨by first | rfl | (simp [dec]),b1⟩
theorem qrecord_any (k v : List UInt8) (hk : key k = true) (hl : LEN (nn k v) ≤ 1048576) (hs : k.length ≤ 1000000000) (ht : v.length ≤ 1000000000) (w : World) :
  Calls Tryz.prog 122 #[str k,str v] w fun e w' => e = .returned (str (recd k v)) ∧ Below w.heap.size w w':=by
 have hc:=refWrite_any ⟨k.toArray⟩ ⟨v.toArray⟩ (by show k.toArray.size ≤ _; simp; omega) (by show v.toArray.size ≤ _; simp; omega) w
 have e1 : wrote k v = recd k v:=by unfold wrote; rw [if_neg (by rw [hk]; decide),if_neg (by omega)]
 simp only [] at hc
 rw [e1] at hc
 clear e1
 generalize werr k v = E at hc
 go_enter Tryz.func122,Tryz.ntmps122
 go_wp2_with fail
 with_reducible refine Calls.mono hc ?_
 rintro e w1 ⟨rfl,b1⟩
 dsimp only
 clear hc
 go_wp2_with fail
 go_ret
 exact ⟨rfl,b1⟩
end
section
open Go.RowKit
open Go.Proofs.YtdfjlmfnkhhnjaaGreatDoorP (recd nn LEN key)
open Go.Proofs.YtdfjlmfnkhhnjaaGreatDoorH (hv hexL)
attribute [local go_sem ↓] Go.wp_at_zero Go.wp_at_succ ad9 ldHe
theorem recd_le {k v : List UInt8} (h : LEN (nn k v) ≤ 1048576) : (recd k v).length ≤ 1048576:=by rw [Go.Proofs.YtdfjlmfnkhhnjaaGreatDoorP.recd_length]; exact h
set_option maxHeartbeats 8000000 in
theorem qitem_any (m : Ma) (x : It) (hm : m.next ≤ 1099511627777) (hR : RtI m x) (w : World) (a : Option Addr) (c : Nat) (hS : Sl w a c x.l) :
  Calls Tryz.prog 124 #[.agg (ic x a c).toArray] w fun e w' => e = .returned (str (txt (itemR x))) ∧ Below w.heap.size w w':=by
 have b0:=(Below.refl w.heap.size w).alloc (Nat.le_refl _) (.cells (ic x a c).toArray 81)
 have z0:=Hid.mk (Bj.new w x a c)
 have HS:=Hid.mk (hS.later b0)
 have HB0:=Hid.mk b0
 have HK:=Hid.mk (itemR_ok hm hR)
 have hk:=keyE_len hR.key
 have hsq : x.seq ≤ 1099511627777:=by have:=hR.s2; omega
 have HR:=Hid.mk hR
 clear hS b0
 go_enter Tryz.func124,Tryz.ntmps124
 go_wp2_with fail
 generalize hW : w.alloc (.cells (ic x a c).toArray 81) = W1 at *
 clear hW
 have hK1 : key sKey = true ∧ LEN (nn sKey x.key) ≤ 1048576:=HK.out (sKey,x.key) (by simp [itemR])
 have hK2 : key sSeq = true ∧ LEN (nn sSeq (dec x.seq)) ≤ 1048576:=HK.out (sSeq,dec x.seq) (by simp [itemR])
 have q1 : ∀ w,Calls Tryz.prog 122 #[.string ⟨#[107,101,121]⟩,str x.key] w fun e w' => e = .returned (str (recd sKey x.key)) ∧ Below w.heap.size w w':=fun w => qrecord_any sKey x.key hK1.1 hK1.2 (by decide) (by omega) w
 have q2:=fun w => qdecimal_any x.seq (by have:=hR.s1; omega) (by omega) w
 have q3 : ∀ w,Calls Tryz.prog 122 #[.string ⟨#[115,101,113]⟩,str (dec x.seq)] w fun e w' => e = .returned (str (recd sSeq (dec x.seq))) ∧ Below w.heap.size w w':=fun w => qrecord_any sSeq (dec x.seq) hK2.1 hK2.2 (by decide) (by have:=dec_len hsq; omega) w
 have a1 : ∀ w,(adS (str (recd sKey x.key)) (str (recd sSeq (dec x.seq)))).run Tryz.prog w = .ok (str (recd sKey x.key ++ recd sSeq (dec x.seq))) w:=fun w => run_ad _ _ (by have:=recd_le hK1.2; have:=recd_le hK2.2; omega) w
 have XC : Hid (∀ w',Below W1.heap.size W1 w' → Below W1.heap.size W1 w' ∧ w'.cell? ⟨w.heap.size,0,none⟩ = some (str x.key) ∧ w'.cell? ⟨w.heap.size,1,none⟩ = some (.int .i64 x.seq)):=⟨fun w' h => by
  obtain ⟨p0,p1,p2,p3,p4⟩:=(z0.out.later h).cells
  exact ⟨h,p0,p1⟩⟩
 have HLf : Hid (key sLeaf = true ∧ LEN (nn sLeaf (hexL x.g)) ≤ 1048576):=⟨HK.out (sLeaf,hexL x.g) (by simp [itemR])⟩
 have hle : (recd sKey x.key).length ≤ 1048576 ∧ (recd sSeq (dec x.seq)).length ≤ 1048576:=⟨recd_le hK1.2,recd_le hK2.2⟩
 obtain ⟨N1,hN1⟩ : ∃ N,Hid (recd sKey x.key = N):=⟨_,⟨rfl⟩⟩
 obtain ⟨N2,hN2⟩ : ∃ N,Hid (recd sSeq (dec x.seq) = N):=⟨_,⟨rfl⟩⟩
 rw [hN1.out,hN2.out] at hle a1
 rw [hN1.out] at q1
 rw [hN2.out] at q3
 go_region_held3 (fun w' => Below W1.heap.size W1 w' ∧ w'.cell? ⟨w.heap.size,0,none⟩ = some (str x.key) ∧ w'.cell? ⟨w.heap.size,1,none⟩ = some (.int .i64 x.seq)) (first
  | exact XC.out _ (Below.refl _ _).drew
  | exact XC.out _ (below_seq (Below.refl _ _).drew b7)
  | exact XC.out _ (below_seq (below_seq (Below.refl _ _).drew b7) b8)
  | exact XC.out _ (below_seq (below_seq (below_seq (Below.refl _ _).drew b7) b8) b9)) (first
  | (go_at_call 122; with_reducible refine Calls.mono (q1 _) ?_; rintro e w7 ⟨rfl,b7⟩)
  | (go_at_call 123; with_reducible refine Calls.mono (q2 _) ?_; rintro e w8 ⟨rfl,b8⟩)
  | (go_at_call 122; with_reducible refine Calls.mono (q3 _) ?_; rintro e w9 ⟨rfl,b9⟩))
 have HB9 : Hid (Below W1.heap.size W1 w9):=⟨And.left (by assumption)⟩
 clear b7 b8 b9 XC q1 q2 q3 a1
 have HN1 : Hid (N1.length ≤ 1048576 ∧ N2.length ≤ 1048576):=⟨by assumption⟩
 obtain ⟨p0,p1,p2,p3,p4⟩:=(z0.out.later HB9.out).cells
 cases hmk : x.mkr with
 | true =>
  have hK3 : key sType = true ∧ LEN (nn sType sMarker) ≤ 1048576:=HK.out (sType,sMarker) (by simp [itemR,hmk])
  have q4 : ∀ w,Calls Tryz.prog 122 #[.string ⟨#[116,121,112,101]⟩,.string ⟨#[109,97,114,107,101,114]⟩] w fun e w' => e = .returned (str (recd sType sMarker)) ∧ Below w.heap.size w w':=fun w => qrecord_any sType sMarker hK3.1 hK3.2 (by decide) (by decide) w
  have a4 : ∀ w,(adS (str (N1 ++ N2)) (str (recd sType sMarker))).run Tryz.prog w = .ok (str (N1 ++ N2 ++ recd sType sMarker)) w:=fun w => run_ad _ _ (by have:=recd_le hK3.2; have:=HN1.out; simp only [List.length_append]; omega) w
  have HX : Hid (txt (itemR x) = N1 ++ N2 ++ recd sType sMarker ++ recd sLeaf (hexL x.g)):=⟨by rw [← hN1.out,← hN2.out]; unfold itemR; rw [if_pos hmk,(HR.out.mk1 hmk).2]; simp [metaR,txt_cons,txt_append,txt]⟩
  have HBl : Hid ((N1 ++ N2 ++ recd sType sMarker).length ≤ 9000000):=⟨by have:=recd_le hK3.2; have:=HN1.out; simp only [List.length_append]; omega⟩
  rw [hmk] at p2
  generalize recd sType sMarker = NT at *
  obtain ⟨BB,hBB⟩ : ∃ B,N1 ++ N2 ++ NT = B:=⟨_,rfl⟩
  rw [hBB] at HX HBl a4
  clear hBB
  go_wp2_with fail
  with_reducible refine Calls.mono (q4 _) ?_
  rintro e v1 ⟨rfl,c1⟩
  dsimp only
  have HBe : Hid (Below W1.heap.size W1 v1):=⟨below_seq HB9.out c1⟩
  clear c1 q4 p0 p1 p2 p3 p4
  have l5:=run_ldH (z0.out.later HBe.out)
  have r1 : ∀ w,Calls Tryz.prog 81 #[.agg (hv x.g).toArray] w fun e w' => e = .returned (str (hexL x.g)) ∧ Below w.heap.size w w':=fun w => by rw [Go.Proofs.YtdfjlmfnkhhnjaaGreatDoorH.hv_b32]; exact Go.Proofs.YtdfjlmfnkhhnjaaGreatDoorH.refHex_any x.g w
  have r2 : ∀ w,Calls Tryz.prog 122 #[.string ⟨#[108,101,97,102]⟩,str (hexL x.g)] w fun e w' => e = .returned (str (recd sLeaf (hexL x.g))) ∧ Below w.heap.size w w':=fun w => qrecord_any sLeaf (hexL x.g) HLf.out.1 HLf.out.2 (by decide) (by rw [hexL_len]; decide) w
  have a9 : ∀ w,(adS (str BB) (str (recd sLeaf (hexL x.g)))).run Tryz.prog w = .ok (str (BB ++ recd sLeaf (hexL x.g))) w:=fun w => run_ad _ _ (by have:=recd_le HLf.out.2; have:=HBl.out; omega) w
  generalize recd sLeaf (hexL x.g) = NL at *
  go_wp2_with fail
  with_reducible refine Calls.mono (r1 _) ?_
  rintro e v8 ⟨rfl,c8⟩
  dsimp only
  have HB8 : Hid (Below W1.heap.size W1 v8):=⟨below_seq HBe.out c8⟩
  clear c8 r1 l5
  go_wp2_with fail
  with_reducible refine Calls.mono (r2 _) ?_
  rintro e v9 ⟨rfl,c9⟩
  dsimp only
  have HB9' : Hid (Below W1.heap.size W1 v9):=⟨below_seq HB8.out c9⟩
  clear c9 r2
  go_wp2_with fail
  go_ret
  exact ⟨by rw [HX.out]; rfl,below_seq HB0.out HB9'.out⟩
 | false =>
  obtain ⟨g1,g2,g3⟩:=hR.mk0 hmk
  obtain ⟨g4,g5,g6⟩:=mtE_iff g3
  have hK3 : key sType = true ∧ LEN (nn sType sData) ≤ 1048576:=HK.out (sType,sData) (by simp [itemR,hmk])
  have hK4 : key sSize = true ∧ LEN (nn sSize (dec x.size)) ≤ 1048576:=HK.out (sSize,dec x.size) (by simp [itemR,hmk])
  have HM : Hid (∀ p ∈ x.l,key (sMeta ++ p.key) = true ∧ LEN (nn (sMeta ++ p.key) p.val) ≤ 1048576):=⟨fun p hp => HK.out (sMeta ++ p.key,p.val) (by unfold itemR metaR; simp only [List.mem_append,List.mem_map]; exact .inl (.inr ⟨p,hp,rfl⟩))⟩
  have HP : Hid (∀ p ∈ x.l,p.key.length ≤ 100 ∧ p.val.length ≤ 100):=⟨fun p hp => by obtain ⟨u1,u2⟩:=prb_iff (g5 p hp); obtain ⟨_,_,_,u3⟩:=small_key u1; exact ⟨by omega,by omega⟩⟩
  have q4 : ∀ w,Calls Tryz.prog 122 #[.string ⟨#[116,121,112,101]⟩,.string ⟨#[100,97,116,97]⟩] w fun e w' => e = .returned (str (recd sType sData)) ∧ Below w.heap.size w w':=fun w => qrecord_any sType sData hK3.1 hK3.2 (by decide) (by decide) w
  have q5:=fun w => qdecimal_any x.size g1 (by omega) w
  have q6 : ∀ w,Calls Tryz.prog 122 #[.string ⟨#[115,105,122,101]⟩,str (dec x.size)] w fun e w' => e = .returned (str (recd sSize (dec x.size))) ∧ Below w.heap.size w w':=fun w => qrecord_any sSize (dec x.size) hK4.1 hK4.2 (by decide) (by have:=dec_len (n:=x.size) (by omega); omega) w
  have a4 : ∀ w,(adS (str (N1 ++ N2)) (str (recd sType sData))).run Tryz.prog w = .ok (str (N1 ++ N2 ++ recd sType sData)) w:=fun w => run_ad _ _ (by have:=recd_le hK3.2; have:=HN1.out; simp only [List.length_append]; omega) w
  have a5 : ∀ w,(adS (str (N1 ++ N2 ++ recd sType sData)) (str (recd sSize (dec x.size)))).run Tryz.prog w = .ok (str (N1 ++ N2 ++ recd sType sData ++ recd sSize (dec x.size))) w:=fun w => run_ad _ _ (by have:=recd_le hK3.2; have:=recd_le hK4.2; have:=HN1.out; simp only [List.length_append]; omega) w
  have HX : Hid (txt (itemR x) = N1 ++ N2 ++ recd sType sData ++ recd sSize (dec x.size) ++ txt (metaR x.l) ++ recd sLeaf (hexL x.g)):=⟨by rw [← hN1.out,← hN2.out]; unfold itemR; rw [if_neg (by rw [hmk]; decide)]; simp [txt_cons,txt_append,txt]⟩
  have HBl : Hid ((N1 ++ N2 ++ recd sType sData ++ recd sSize (dec x.size)).length ≤ 9000000):=⟨by have:=recd_le hK3.2; have:=recd_le hK4.2; have:=HN1.out; simp only [List.length_append]; omega⟩
  rw [hmk] at p2
  generalize recd sType sData = NT at *
  generalize recd sSize (dec x.size) = NS at *
  obtain ⟨BB,hBB⟩ : ∃ B,N1 ++ N2 ++ NT ++ NS = B:=⟨_,rfl⟩
  obtain ⟨BC,hBC⟩ : ∃ B,N1 ++ N2 ++ NT = B:=⟨_,rfl⟩
  rw [hBB] at HX HBl a5
  rw [hBC] at a4 a5
  clear hBB hBC
  have hw3 : wrap64 x.size = x.size:=by unfold wrap64; omega
  have G4:=Hid.mk g4
  clear g1 g2 g3 g4 g5 g6
  go_wp2_with fail
  have XC : Hid (∀ w',Below W1.heap.size W1 w' → Below W1.heap.size W1 w' ∧ w'.cell? ⟨w.heap.size,3,none⟩ = some (.int .i64 x.size)):=⟨fun w' h => by
   obtain ⟨p0,p1,p2,p3,p4⟩:=(z0.out.later h).cells
   exact ⟨h,p3⟩⟩
  clear p0 p1 p2 p3 p4
  go_region_held3 (fun w' => Below W1.heap.size W1 w' ∧ w'.cell? ⟨w.heap.size,3,none⟩ = some (.int .i64 x.size)) (first
   | exact XC.out _ HB9.out
   | exact XC.out _ (below_seq HB9.out (Below.refl _ _).drew)
   | exact XC.out _ (below_seq (below_seq HB9.out (Below.refl _ _).drew) c7)
   | exact XC.out _ (below_seq (below_seq (below_seq HB9.out (Below.refl _ _).drew) c7) c8)
   | exact XC.out _ (below_seq (below_seq (below_seq (below_seq HB9.out (Below.refl _ _).drew) c7) c8) c9)) (first
   | (go_at_call 122; with_reducible refine Calls.mono (q4 _) ?_; rintro e v7 ⟨rfl,c7⟩)
   | (go_at_call 123; with_reducible refine Calls.mono (q5 _) ?_; rintro e v8 ⟨rfl,c8⟩)
   | (go_at_call 122; with_reducible refine Calls.mono (q6 _) ?_; rintro e v9 ⟨rfl,c9⟩))
  have HV9 : Hid (Below W1.heap.size W1 v9):=⟨And.left (by assumption)⟩
  clear c7 c8 c9 XC q4 q5 q6 a4 a5
  obtain ⟨p0,p1,p2,p3,p4⟩:=(z0.out.later HV9.out).cells
  go_wp2_with fail
  go_loopw [3,4] (fun s i wr => ∃ k : Nat,k ≤ x.l.length ∧ i = .int .i64 (k : Int) ∧ s = str (BB ++ txt (metaR (x.l.take k))) ∧ Hid (BB.length + (txt (metaR (x.l.take k))).length ≤ 9000000 + 1048576 * k) ∧ Hid (Below W1.heap.size W1 wr)) (fun _ i _ => x.l.length - (intOf i).toNat)
  case atStart => exact ⟨0,Nat.zero_le _,rfl,by simp [metaR,txt],⟨by simp [metaR,txt]; exact HBl.out⟩,HV9⟩
  case round =>
   obtain ⟨k,hk,rfl,rfl,Hln,HB⟩:=hrel
   clear p0 p1 p2 p3 p4
   obtain ⟨p0,p1,p2,p3,p4⟩:=(z0.out.later HB.out).cells
   by_cases hlt : k < x.l.length
   ·have hd : decide ((k : Int) < (x.l.length : Int)) = true:=decide_eq_true (by omega)
    have k2 : (k : Int) < (x.l.length : Int):=by omega
    obtain ⟨p,hp⟩ : ∃ p,x.l[k]? = some p:=⟨x.l[k],List.getElem?_eq_getElem hlt⟩
    have hmem:=List.mem_of_getElem? hp
    obtain ⟨b,off,hab,hbl,c0,c1⟩:=(HS.out.at'.later HB.out).get k p hp
    subst hab
    obtain ⟨s1,s2⟩:=HP.out p hmem
    obtain ⟨s3,s4⟩:=HM.out p hmem
    have HN : Hid (BB ++ txt (metaR (x.l.take (k + 1))) = BB ++ txt (metaR (x.l.take k)) ++ recd (sMeta ++ p.key) p.val):=⟨by rw [List.take_add_one,hp]; simp [metaR,txt_append,txt_cons,txt]⟩
    have HLn2 : Hid (BB.length + (txt (metaR (x.l.take (k + 1)))).length ≤ 9000000 + 1048576 * (k + 1)):=⟨by
     have h:=congrArg List.length HN.out
     have:=recd_le s4
     have:=Hln.out
     simp only [List.length_append] at h
     omega⟩
    have r0 : ∀ w,(adS (.string ⟨#[109,101,116,97,46]⟩) (str p.key)).run Tryz.prog w = .ok (str (sMeta ++ p.key)) w:=fun w => run_ad sMeta p.key (by simp [sMeta]; omega) w
    have r1:=fun w => qrecord_any (sMeta ++ p.key) p.val s3 s4 (by simp [sMeta]; omega) (by omega) w
    have r2 : ∀ w,(adS (str (BB ++ txt (metaR (x.l.take k)))) (str (recd (sMeta ++ p.key) p.val))).run Tryz.prog w = .ok (str (BB ++ txt (metaR (x.l.take k)) ++ recd (sMeta ++ p.key) p.val)) w:=fun w => run_ad _ _ (by have:=recd_le s4; have:=Hln.out; have:=G4.out; simp only [List.length_append]; omega) w
    have hw1 : wrap64 ((k : Int) + 1) = ((k + 1 : Nat) : Int):=by have:=G4.out; unfold wrap64; omega
    generalize recd (sMeta ++ p.key) p.val = NR at *
    generalize hLL : BB ++ txt (metaR (x.l.take k)) = LL at *
    clear hLL Hln
    generalize sMeta ++ p.key = NK at *
    have HPk:=Hid.mk hp
    clear hp s1 s2 s3 s4 hmem
    go_wp2_with fail
    have XC : Hid (∀ w',Below wr.heap.size wr w' → Below W1.heap.size W1 w' ∧ w'.cell? ⟨w.heap.size,4,none⟩ = some (.slice (some ⟨b,off,none⟩) x.l.length c) ∧ w'.cell? ⟨b,off + k * 2,none⟩ = some (str p.key) ∧ w'.cell? ⟨b,off + k * 2 + 1,none⟩ = some (str p.val)):=⟨fun w' h => by
     have h2:=below_seq HB.out h
     obtain ⟨_,_,_,_,y4⟩:=(z0.out.later h2).cells
     obtain ⟨b',off',e',_,d0,d1⟩:=(HS.out.at'.later h2).get k p HPk.out
     injection e' with e'
     injection e' with e1 e2
     subst e1 e2
     exact ⟨h2,y4,d0,d1⟩⟩
    clear p0 p1 p2 p3 p4 c0 c1
    go_region_held3 (fun w' => Below W1.heap.size W1 w' ∧ w'.cell? ⟨w.heap.size,4,none⟩ = some (.slice (some ⟨b,off,none⟩) x.l.length c) ∧ w'.cell? ⟨b,off + k * 2,none⟩ = some (str p.key) ∧ w'.cell? ⟨b,off + k * 2 + 1,none⟩ = some (str p.val)) (first
     | exact XC.out _ (Below.refl _ _)
     | exact XC.out _ (Below.refl _ _).drew
     | exact XC.out _ (below_seq (Below.refl _ _).drew c9)) (first
     | (go_at_call 122; with_reducible refine Calls.mono (r1 _) ?_; rintro e v9 ⟨rfl,c9⟩))
    have HV : Hid (Below W1.heap.size W1 v9):=⟨And.left (by assumption)⟩
    clear c9 XC r0 r1 r2
    go_wp2_with fail
    rw [hw1]
    exact ⟨⟨k + 1,hlt,rfl,by rw [HN.out],HLn2,HV⟩,by simp only [intOf,Int.toNat_natCast]; exact Nat.sub_lt_sub_left hlt (Nat.lt_succ_self k)⟩
   ·obtain rfl : k = x.l.length:=by omega
    have hd : decide ((x.l.length : Int) < (x.l.length : Int)) = false:=decide_eq_false (by omega)
    have e1 : BB ++ txt (metaR (x.l.take x.l.length)) = BB ++ txt (metaR x.l):=by rw [List.take_length]
    rw [e1]
    have HBl : Hid ((BB ++ txt (metaR x.l)).length ≤ 9000000 + 1048576 * 8):=⟨by have h:=Hln.out; have:=G4.out; rw [List.take_length] at h; rw [List.length_append]; omega⟩
    clear e1 Hln
    generalize BB ++ txt (metaR x.l) = BD at *
    have HBe:=HB
    have l5:=run_ldH (z0.out.later HBe.out)
    have r1 : ∀ w,Calls Tryz.prog 81 #[.agg (hv x.g).toArray] w fun e w' => e = .returned (str (hexL x.g)) ∧ Below w.heap.size w w':=fun w => by rw [Go.Proofs.YtdfjlmfnkhhnjaaGreatDoorH.hv_b32]; exact Go.Proofs.YtdfjlmfnkhhnjaaGreatDoorH.refHex_any x.g w
    have r2 : ∀ w,Calls Tryz.prog 122 #[.string ⟨#[108,101,97,102]⟩,str (hexL x.g)] w fun e w' => e = .returned (str (recd sLeaf (hexL x.g))) ∧ Below w.heap.size w w':=fun w => qrecord_any sLeaf (hexL x.g) HLf.out.1 HLf.out.2 (by decide) (by rw [hexL_len]; decide) w
    have a9 : ∀ w,(adS (str BD) (str (recd sLeaf (hexL x.g)))).run Tryz.prog w = .ok (str (BD ++ recd sLeaf (hexL x.g))) w:=fun w => run_ad _ _ (by have:=recd_le HLf.out.2; have:=HBl.out; omega) w
    generalize recd sLeaf (hexL x.g) = NL at *
    go_wp2_with fail
    with_reducible refine Calls.mono (r1 _) ?_
    rintro e v8 ⟨rfl,c8⟩
    dsimp only
    have HB8 : Hid (Below W1.heap.size W1 v8):=⟨below_seq HBe.out c8⟩
    clear c8 r1 l5
    go_wp2_with fail
    with_reducible refine Calls.mono (r2 _) ?_
    rintro e v9 ⟨rfl,c9⟩
    dsimp only
    have HB9' : Hid (Below W1.heap.size W1 v9):=⟨below_seq HB8.out c9⟩
    clear c9 r2
    go_wp2_with fail
    go_ret
    exact ⟨by rw [HX.out]; rfl,below_seq HB0.out HB9'.out⟩
end
section
open Go.RowKit
open Go.Proofs.YtdfjlmfnkhhnjaaGreatDoorH (hv hv_length hv_one hv_eq)
theorem infoQf : (Tryz.prog.info? 81).map (fun i => (i.zero,i.size,i.bytes)) = some (some (.agg zI),37,96):=by kernel_rfl
noncomputable def bdQ (v : Array (Nat × Value)) : Sem Value:=Instr.build 81 v
theorem bdQe (v : Array (Nat × Value)) : Instr.build 81 v = bdQ v:=rfl
theorem lay_fiveQ (k : List UInt8) (s : Int) (m : Bool) (z : Int) (a : Option Addr) (n c : Nat) (f : Nat → UInt8) : Tryz.prog.built 81 [(0,str k),(1,.int .i64 s),(2,.bool m),(3,.int .i64 z),(4,.slice a n c),(5,.agg (hv f).toArray)] = some (([str k,.int .i64 s,.bool m,.int .i64 z,.slice a n c] ++ hv f).toArray):=by
 rw [hv_eq]
 kernel_rfl
theorem run_bdQ (x : It) (a : Option Addr) (c : Nat) (w : World) : (bdQ #[(0,str x.key),(1,.int .i64 x.seq),(2,.bool x.mkr),(3,.int .i64 x.size),(4,.slice a x.l.length c),(5,.agg (hv x.g).toArray)]).run Tryz.prog w = .ok (.agg (ic x a c).toArray) w:=by
 unfold bdQ ic
 exact run_build w 81 _ _ (lay_fiveQ _ _ _ _ _ _ _ _)
theorem run_box37Q (w : World) (x : It) (a : Option Addr) (c : Nat) : (Instr.buildSlice 36 1 #[(0,.agg (ic x a c).toArray)]).run Tryz.prog w = .ok (.slice (some ⟨w.heap.size,0,none⟩) 1 1) (w.alloc (.cells (ic x a c).toArray 81)):=by
 obtain ⟨i,e1,e2,e3,e4⟩:=info_parts infoQf
 refine run_buildSlice w 36 81 1 _ _ i _ Tryz.underlying36 e1 e2 (by rw [e3]; decide) (by rw [e3]; decide) ?_
 have hc : (Value.cells (.agg (ic x a c).toArray)) = (ic x a c).toArray:=rfl
 have hs : (Value.cells (.agg (ic x a c).toArray)).size = 37:=by rw [hc,List.size_toArray,ic_length]
 show Instr.fill _ _ [(0,.agg (ic x a c).toArray)] = _
 unfold Instr.fill
 simp only [Nat.zero_mul,hs,e3]
 rw [if_neg (by simp)]
 unfold Instr.fill
 rw [hc]
 congr 1
 rw [← Array.foldl_toList,Array.toList_zipIdx]
 rw [fold_lay,lay_all _ _ (by simp [ic_length])]
noncomputable def bsQ (l : Nat) (v : Array (Nat × Value)) : Sem Value:=Instr.buildSlice 36 l v
theorem bsQe (l : Nat) (v : Array (Nat × Value)) : Instr.buildSlice 36 l v = bsQ l v:=rfl
theorem run_bsQ (x : It) (a : Option Addr) (c : Nat) (w : World) : (bsQ 1 #[(0,.agg (ic x a c).toArray)]).run Tryz.prog w = .ok (.slice (some ⟨w.heap.size,0,none⟩) 1 1) (w.alloc (.cells (ic x a c).toArray 81)):=run_box37Q w x a c
theorem Bn3.oth {w w' : World} {g : Nat} {s n : Int} {v : Value} (h : Bn3 w g s n v) (he : w'.heap[g]? = w.heap[g]?) : Bn3 w' g s n v:=by unfold Bn3; rw [he]; exact h
theorem Bn3.fz {w : World} {g : Nat} {s n : Int} {v : Value} (h : Bn3 w g s n v) (j : Nat) : w.frozen? ⟨g,j,none⟩ = false:=frozen_of_row _ _ _ _ _ h
theorem Bn3.set3 {W : World} {r : Nat} {s n : Int} {v : Value} (h : Bn3 W r s n v) (s' n' : Int) (v' : Value) : Bn3 (((W.setCell ⟨r,0,none⟩ (.int .i64 s')).setCell ⟨r,1,none⟩ (.int .i64 n')).setCell ⟨r,2,none⟩ v') r s' n' v':=by
 have e1 : Bn3 (W.setCell ⟨r,0,none⟩ (.int .i64 s')) r s' n v:=by unfold Bn3; rw [heap_setCell_same _ _ _ _ _ _ h]; rfl
 have e2 : Bn3 ((W.setCell ⟨r,0,none⟩ (.int .i64 s')).setCell ⟨r,1,none⟩ (.int .i64 n')) r s' n' v:=by unfold Bn3; rw [heap_setCell_same _ _ _ _ _ _ e1]; rfl
 unfold Bn3; rw [heap_setCell_same _ _ _ _ _ _ e2]; rfl
end
section
open Go.RowKit
open Go.Proofs.YtdfjlmfnkhhnjaaGreatDoorH (hv hv_length hv_one hv_eq)
attribute [local go_sem ↓] Go.wp_at_zero Go.wp_at_succ bsQe bdQe ldHe ldIe stIe
attribute [local go_sem] run_bsQ
end
end Go.Proofs.YtdfjlmfnkhhnjaaGreatDoor
