import Derived.Test.YtdfjlmfnkhhnjaaGreatDoorZg
import Derived.Test.YtdfjlmfnkhhnjaaGreatDoorQb
import Derived.Test.YtdfjlmfnkhhnjaaGreatDoorZQrt
import Derived.Test.YtdfjlmfnkhhnjaaGreatDoorZh
set_option maxRecDepth 100000
set_option linter.unusedVariables false
set_option linter.unusedSimpArgs false
namespace Go.Proofs.YtdfjlmfnkhhnjaaGreatDoor.Stk
section
open Go.RowKit
attribute [local go_sem ↓] Go.wp_at_zero Go.wp_at_succ
set_option maxHeartbeats 4000000 in
theorem eSame_eq (since next : Int) (L : List Vs) (w : World) (a : Option Addr) (c : Nat) (a' : Option Addr) (c' : Nat) (h1 : Li w L a L.length c) (h2 : Li w L a' L.length c') (hl : L.length ≤ 1000000) :
  Calls Tryz.prog 19 #[dv since next a L.length c,dv since next a' L.length c'] w fun e w' => e = .returned (.bool true) ∧ Below w.heap.size w w':=by
 have b1:=(Below.refl w.heap.size w).alloc (Nat.le_refl _) (.cells #[.int .i64 since,.int .i64 next,.slice a L.length c] 53)
 have b2:=b1.alloc b1.size (.cells #[.int .i64 since,.int .i64 next,.slice a' L.length c'] 53)
 have hc:=qSame_eq next L _ a c a' c' (h1.later b2) (h2.later b2) hl
 clear h1 h2 b1
 go_enter Tryz.func19,Tryz.ntmps19
 go_wp2_with fail
 with_reducible refine Calls.mono hc ?_
 rintro e w3 ⟨rfl,b3⟩
 dsimp only
 have B3:=Hid.mk (b2.trans (b3.mono b2.size))
 clear hc b3 b2
 go_wp2_with fail
 go_ret
 exact ⟨rfl,B3.out⟩
set_option maxHeartbeats 4000000 in
theorem eRight_any (L : List Vs) (since next : Int) (w : World) (a : Option Addr) (n cap : Nat) (hL : Li w L a n cap) (hz : ∀ v ∈ L,Pz v.l) :
  Calls Tryz.prog 17 #[dv since next a n cap] w fun e w' => (∃ t : Bool,e = .returned (.bool t) ∧ (t = true ↔ RtD since next L)) ∧ Below w.heap.size w w':=by
 obtain rfl:=hL.n
 have b0:=(Below.refl w.heap.size w).alloc (Nat.le_refl _) (.cells #[.int .i64 since,.int .i64 next,.slice a L.length cap] 53)
 have z0:=Bd.new w (.int .i64 since) (.int .i64 next) (.slice a L.length cap)
 have HL:=Hid.mk (hL.later b0)
 have hl:=hL.l
 clear hL
 obtain ⟨p0,p1,p2,_⟩:=z0.cells
 have hr:=qRight_any L next _ a _ cap HL.out hz
 go_enter Tryz.func17,Tryz.ntmps17
 go_wp2_with fail
 have HZ:=Hid.mk z0
 have HB:=Hid.mk b0
 clear p0 p1 p2 z0 b0 hz
 generalize w.alloc (.cells #[.int .i64 since,.int .i64 next,.slice a L.length cap] 53) = W1 at *
 with_reducible refine Calls.mono hr ?_
 rintro e w1 ⟨⟨t,rfl,ht⟩,c1⟩
 dsimp only
 have bw1:=Hid.mk (HB.out.trans (c1.mono HB.out.size))
 have HZ1:=Hid.mk (HZ.out.later c1)
 have HL1:=Hid.mk (HL.out.later c1)
 obtain ⟨p0,p1,p2,_⟩:=HZ1.out.cells
 clear hr HZ HL HB c1
 cases t with
 | false =>
  have HN : Hid (¬ RtD since next L):=⟨fun h => by have:=ht.2 h.b; cases this⟩
  clear ht
  go_wp2_with fail
  go_ret
  exact ⟨⟨false,rfl,by simp [HN.out]⟩,bw1.out⟩
 | true =>
  have HR : Hid (RtB next L):=⟨ht.1 rfl⟩
  clear ht
  by_cases h1 : since < 1
  ·have d1 : decide (since < 1) = true:=decide_eq_true h1
   have HN : Hid (¬ RtD since next L):=⟨fun h => by have:=h.s1; omega⟩
   clear h1
   go_wp2_with fail
   go_ret
   exact ⟨⟨false,rfl,by simp [HN.out]⟩,bw1.out⟩
  ·have d1 : decide (since < 1) = false:=decide_eq_false h1
   have H1:=Hid.mk (Int.not_lt.1 h1)
   clear h1
   by_cases h2 : next < since
   ·have d2 : decide (next < since) = true:=decide_eq_true h2
    have HN : Hid (¬ RtD since next L):=⟨fun h => by have:=h.s2; omega⟩
    clear h2
    go_wp2_with fail
    go_ret
    exact ⟨⟨false,rfl,by simp [HN.out]⟩,bw1.out⟩
   ·have d2 : decide (next < since) = false:=decide_eq_false h2
    have H2:=Hid.mk (Int.not_lt.1 h2)
    clear h2
    go_wp2_with fail
    clear d1 d2 p0 p1 p2
    go_loopw [3] (fun i wr => ∃ k : Nat,k ≤ L.length ∧ i = .int .i64 (k : Int) ∧ Hid (∀ j v,j < k → L[j]? = some v → since ≤ v.seq) ∧ Hid (Below w1.heap.size w1 wr)) (fun i _ => L.length - (intOf i).toNat)
    case atStart => exact ⟨0,Nat.zero_le _,rfl,⟨fun j v hj => absurd hj (Nat.not_lt_zero _)⟩,⟨Below.refl _ _⟩⟩
    case round =>
     obtain ⟨k,hk,rfl,hA,HW⟩:=hrel
     obtain ⟨p0,p1,p2,_⟩:=(HZ1.out.later HW.out).cells
     by_cases hlt : k < L.length
     ·have d1 : decide ((k : Int) < (L.length : Int)) = true:=decide_eq_true (Int.ofNat_lt.2 hlt)
      have k2 : (k : Int) < (L.length : Int):=Int.ofNat_lt.2 hlt
      have hw1 : wrap64 ((k : Int) + 1) = ((k + 1 : Nat) : Int):=by unfold wrap64; omega
      obtain ⟨u,hu⟩ : ∃ u,L[k]? = some u:=⟨L[k],List.getElem?_eq_getElem hlt⟩
      obtain ⟨b,off,ma,mc,rfl,hbl,c0,c1,c2,c3,c4,hsl⟩:=(HL1.out.later HW.out).s.at'.get k u hu
      by_cases hq : u.seq < since
      ·have d3 : decide (u.seq < since) = true:=decide_eq_true hq
       have HN : Hid (¬ RtD since next L):=⟨fun h => by have:=h.s u (List.mem_of_getElem? hu); omega⟩
       clear hu hq hA hsl
       go_wp2_with fail
       go_quiet (fail)
       go_wp2_with fail
       go_ret
       exact ⟨⟨false,rfl,by simp [HN.out]⟩,bw1.out.trans ((below_dN HW.out nq).mono bw1.out.size)⟩
      ·have d3 : decide (u.seq < since) = false:=decide_eq_false hq
       have HA : Hid (∀ j v,j < k + 1 → L[j]? = some v → since ≤ v.seq):=⟨fun j v hj hv => by
        by_cases e : j = k
        ·subst e
         rw [hu] at hv
         injection hv with hv
         subst hv
         exact Int.not_lt.1 hq
        ·exact hA.out j v (by omega) hv⟩
       clear hu hq hA hsl
       go_wp2_with fail
       go_quiet (fail)
       go_wp2_with fail
       exact ⟨⟨k + 1,hlt,by first | (rw [hw1]; done) | go_num,HA,⟨below_dN HW.out nq⟩⟩,by first | (rw [hw1]; exact lss_meas hlt) | (simp [intOf]; omega)⟩
     ·obtain rfl : k = L.length:=Nat.le_antisymm hk (Nat.le_of_not_lt hlt)
      have d1 : decide ((L.length : Int) < (L.length : Int)) = false:=decide_eq_false (fun q => Int.lt_irrefl _ q)
      have HN : Hid (RtD since next L):=⟨⟨HR.out,H1.out,H2.out,fun v hv => by
       obtain ⟨j,hj,e⟩:=List.getElem_of_mem hv
       exact hA.out j v hj (by rw [List.getElem?_eq_getElem hj,e])⟩⟩
      clear hA
      go_wp2_with fail
      go_ret
      exact ⟨⟨true,rfl,by simp [HN.out]⟩,bw1.out.trans (HW.out.mono bw1.out.size)⟩
end
section
open Go.RowKit
attribute [local go_sem ↓] Go.wp_at_zero Go.wp_at_succ
attribute [-go_sem] Go.Builtin.append_
def v1 : Vs:=⟨[97],1,false,[120],[]⟩
def v2 : Vs:=⟨[97],4,true,[],[]⟩
def v3 : Vs:=⟨[98],2,false,[121],[]⟩
def r0 (v : Vs) : Rv:=⟨v,[],none,0⟩
theorem cp_lit {W : World} {g base : Nat} (L : List Vs) (hp : ∀ v ∈ L,v.l = []) (hl : L.length ≤ 100) (h : W.heap[g]? = some (.cells (rcells (L.map r0)).toArray 62 (0,0))) (hb : base ≤ g) : Cp base W (.slice (some ⟨g,0,none⟩) L.length L.length) L:=by
 have hg : g < W.heap.size:=(Array.getElem?_eq_some_iff.1 h).1
 have hlen : (L.map r0).length = L.length:=List.length_map _
 have hz : ∀ (k : Nat) (r : Rv),(L.map r0)[k]? = some r → r.mv = .slice none 0 0 ∧ r.v.l ++ r.z = []:=fun k r hr => by
  rw [List.getElem?_map] at hr
  obtain ⟨v,hv,rfl⟩:=Option.map_eq_some_iff.1 hr
  have:=hp v (List.mem_of_getElem? hv)
  unfold r0 Rv.mv
  simp [this]
 refine ⟨L.map r0,⟨?_,Nat.le_of_lt (Nat.lt_of_le_of_lt hb hg),fun k r hr => ?_,fun j k r r' _ hj hk b hb2 => ?_⟩,?_,?_⟩
 ·rw [hlen]
  refine ⟨by rw [rcells_length,hlen],Or.inr ⟨g,L.length,_,rfl,hb,h,Nat.le_refl _,by unfold maxLen; omega,by rw [List.size_toArray,rcells_length,hlen],?_⟩⟩
  have:=rcells_length (L.map r0)
  rw [hlen] at this
  simp [← this]
 ·obtain ⟨e1,e2⟩:=hz k r hr
  rw [e1,e2]
  exact Ow.nil W base (Nat.le_of_lt (Nat.lt_of_le_of_lt hb hg))
 ·rw [(hz j r hj).1] at hb2; cases hb2
 ·rw [List.map_map]
  have : ((·.v) ∘ r0) = id:=rfl
  rw [this,List.map_id]
 ·intro r hr
  obtain ⟨v,_,rfl⟩:=List.mem_map.1 hr
  rfl
abbrev ex3 : List Vs := [v1,v2,v3]
theorem example_any (w : World) : Calls Tryz.prog 31 #[] w fun e w' => ∃ v,e = .returned (.agg #[.int .i64 5,v]) ∧ Cp w.heap.size w' v ex3 ∧ Below w.heap.size w w':=by
 have b1:=(Below.refl w.heap.size w).alloc (Nat.le_refl _) (.cells #[.int .i64 5,.slice (some ⟨w.heap.size + 1,0,none⟩) 3 3] 24)
 have b2:=b1.alloc b1.size (.cells (rcells (ex3.map r0)).toArray 62)
 have z2:=(Bq.new w (.int .i64 5) (.slice (some ⟨w.heap.size + 1,0,none⟩) 3 3)).later ((Below.refl _ _).alloc (Nat.le_refl _) (.cells (rcells (ex3.map r0)).toArray 62))
 have c2:=cp_lit (W:=(w.alloc (.cells #[.int .i64 5,.slice (some ⟨w.heap.size + 1,0,none⟩) 3 3] 24)).alloc (.cells (rcells (ex3.map r0)).toArray 62)) (g:=w.heap.size + 1) (base:=w.heap.size) ex3 (by simp [v1,v2,v3]) (by decide) (by
  have:=heap_alloc_new (w.alloc (.cells #[.int .i64 5,.slice (some ⟨w.heap.size + 1,0,none⟩) 3 3] 24)) (.cells (rcells (ex3.map r0)).toArray 62)
  rwa [World.size_alloc] at this) (Nat.le_succ _)
 go_enter Tryz.func31,Tryz.ntmps31
 go_wp2_with fail
 obtain ⟨g0,g1,_⟩:=z2.cells
 refine bodyPost_ret (v := .agg #[.int .i64 5,.slice (some ⟨w.heap.size + 1,0,none⟩) 3 3]) ?_ rfl ⟨_,rfl,c2,b2⟩
 rw [results_cell1 rfl]
 go_simp
theorem sn36 : snL 3 ex3 = [v2]:=rfl
theorem mg3 : mg [v1,v3] [v2] = ex3:=by
 rw [mg_left (by decide),mg_right (by decide),mg_nil2]
theorem ap0 : apE 3 3 [v1,v3] [v2] = 0:=by decide +kernel
theorem ap9 : apE 5 3 ex3 [v2] = 91:=by decide +kernel
theorem rt2 : RtD 3 5 [v2]:=by
 refine ⟨⟨by decide,by decide,by decide,fun v hv => ?_,by decide,by decide,by decide +kernel⟩,by decide,by decide,by decide⟩
 simp at hv
 subst hv
 refine ⟨by decide,by decide,vrV_iff.2 ⟨⟨?_,?_,?_⟩,fun _ => ⟨rfl,rfl⟩⟩⟩
 ·unfold keyE; rw [if_pos (by decide)]
 ·unfold datE; rw [if_pos (by decide)]
 ·unfold mtE; rw [if_pos ⟨by decide,by simp [v2],Srt.nil⟩]
theorem rt6 : ¬ RtD 6 5 ex3:=fun h => by have:=h.s2; omega
theorem li_cp {base : Nat} {w : World} {a : Option Addr} {n c : Nat} {L : List Vs} (h : Cp base w (.slice a n c) L) (hl : L.length ≤ 1000) (hz : ∀ v ∈ L,v.l.length ≤ 4398046510976) : Li w L a n c ∧ n = L.length:=by
 obtain ⟨a',c',e,s⟩:=h.ls
 injection e with e1 e2 e3
 subst e1 e2 e3
 exact ⟨⟨rfl,s,by omega,hz⟩,rfl⟩
theorem zz3 : ∀ v ∈ ex3,v.l.length ≤ 4398046510976:=by decide
theorem zz2 : ∀ v ∈ [v2],v.l.length ≤ 4398046510976:=by decide
theorem zz13 : ∀ v ∈ [v1,v3],v.l.length ≤ 4398046510976:=by decide
set_option maxHeartbeats 4000000 in
theorem first_any (w : World) : Calls Tryz.prog 14 #[] w fun e w' => e = .returned (.bool true) ∧ Below w.heap.size w w':=by
 go_enter Tryz.func14,Tryz.ntmps14
 go_wp2_with fail
 with_reducible refine Calls.mono (example_any _) ?_
 rintro e w1 ⟨a1,rfl,o1,b1⟩
 obtain ⟨xa,xc,ex,_⟩:=o1.ls
 have ex : a1 = .slice xa 3 xc:=ex
 subst ex
 dsimp only
 have bx:=(Below.refl w1.heap.size w1).alloc (Nat.le_refl _) (.cells #[.int .i64 5,.slice xa 3 xc] 24)
 have z1:=Bq.new w1 (.int .i64 5) (.slice xa 3 xc)
 have HL1:=Hid.mk (li_cp (o1.later bx) (by decide) zz3).1
 have HZ1:=Hid.mk z1
 have hs1:=dSince_any ex3 5 3 _ xa 3 xc HL1.out
 obtain ⟨p0,p1,_⟩:=z1.cells
 have B1:=Hid.mk (b1.trans (bx.mono b1.size))
 clear o1 b1 z1
 go_wp2_with fail
 clear p0 p1 bx
 generalize w1.alloc (.cells #[.int .i64 5,.slice xa 3 xc] 24) = w2 at *
 with_reducible refine Calls.mono hs1 ?_
 rintro e w3 ⟨hsn,c3⟩
 rcases hsn with ⟨_,_,dv3,rfl,o3⟩ | ⟨hno,_⟩
 ·rw [sn36] at o3
  obtain ⟨da,dc,ed,_⟩:=o3.ls
  have ed : dv3 = .slice da 1 dc:=ed
  subst ed
  dsimp only
  have by3:=(Below.refl w3.heap.size w3).alloc (Nat.le_refl _) (.cells #[.int .i64 3,.int .i64 5,.slice da 1 dc] 53)
  have HD:=Hid.mk (Bd.new w3 (.int .i64 3) (.int .i64 5) (.slice da 1 dc))
  have cb:=c3.trans (by3.mono c3.size)
  have HL2:=Hid.mk (HL1.out.later cb)
  have HZ2:=Hid.mk (HZ1.out.later cb)
  have HM2:=Hid.mk (li_cp (o3.later by3) (by decide) zz2).1
  have B2:=Hid.mk (B1.out.trans (cb.mono B1.out.size))
  have hs2:=dSince_any ex3 5 6 _ xa 3 xc HL2.out
  obtain ⟨p0,p1,_⟩:=HZ2.out.cells
  clear HL1 HZ1 B1 o3 c3 hs1 by3 cb
  go_wp2_with fail
  clear p0 p1
  generalize w3.alloc (.cells #[.int .i64 3,.int .i64 5,.slice da 1 dc] 53) = w4 at *
  with_reducible refine Calls.mono hs2 ?_
  rintro e w5 ⟨hsn,c5⟩
  rcases hsn with ⟨_,hno,_⟩ | ⟨_,rfl⟩
  ·exact absurd hno (by decide)
  ·dsimp only
   have bz:=(((Below.refl w5.heap.size w5).alloc (Nat.le_refl _) (.cells #[.int .i64 0,.int .i64 0,.slice none 0 0] 53)).alloc (by simp) (.cells #[.string ⟨#[97]⟩,.int .i64 1,.bool false,.string ⟨#[120]⟩,.slice none 0 0,.string ⟨#[98]⟩,.int .i64 2,.bool false,.string ⟨#[121]⟩,.slice none 0 0] 62)).alloc (by simp; omega) (.cells #[.int .i64 3,.slice (some ⟨w5.heap.size + 1,0,none⟩) 2 2] 24)
   have HU : Hid (Bq (((w5.alloc (.cells #[.int .i64 0,.int .i64 0,.slice none 0 0] 53)).alloc (.cells #[.string ⟨#[97]⟩,.int .i64 1,.bool false,.string ⟨#[120]⟩,.slice none 0 0,.string ⟨#[98]⟩,.int .i64 2,.bool false,.string ⟨#[121]⟩,.slice none 0 0] 62)).alloc (.cells #[.int .i64 3,.slice (some ⟨w5.heap.size + 1,0,none⟩) 2 2] 24)) (w5.heap.size + 1 + 1) (.int .i64 3) (.slice (some ⟨w5.heap.size + 1,0,none⟩) 2 2)):=⟨by
    have:=heap_alloc_new ((w5.alloc (.cells #[.int .i64 0,.int .i64 0,.slice none 0 0] 53)).alloc (.cells #[.string ⟨#[97]⟩,.int .i64 1,.bool false,.string ⟨#[120]⟩,.slice none 0 0,.string ⟨#[98]⟩,.int .i64 2,.bool false,.string ⟨#[121]⟩,.slice none 0 0] 62)) (.cells #[.int .i64 3,.slice (some ⟨w5.heap.size + 1,0,none⟩) 2 2] 24)
    rw [World.size_alloc,World.size_alloc] at this
    exact this⟩
   have HUL : Hid (Li (((w5.alloc (.cells #[.int .i64 0,.int .i64 0,.slice none 0 0] 53)).alloc (.cells #[.string ⟨#[97]⟩,.int .i64 1,.bool false,.string ⟨#[120]⟩,.slice none 0 0,.string ⟨#[98]⟩,.int .i64 2,.bool false,.string ⟨#[121]⟩,.slice none 0 0] 62)).alloc (.cells #[.int .i64 3,.slice (some ⟨w5.heap.size + 1,0,none⟩) 2 2] 24)) [v1,v3] (some ⟨w5.heap.size + 1,0,none⟩) 2 2):=⟨(li_cp (cp_lit (g:=w5.heap.size + 1) (base:=0) [v1,v3] (by simp [v1,v3]) (by decide) (by
    have:=heap_alloc_new (w5.alloc (.cells #[.int .i64 0,.int .i64 0,.slice none 0 0] 53)) (.cells #[.string ⟨#[97]⟩,.int .i64 1,.bool false,.string ⟨#[120]⟩,.slice none 0 0,.string ⟨#[98]⟩,.int .i64 2,.bool false,.string ⟨#[121]⟩,.slice none 0 0] 62)
    rw [World.size_alloc] at this
    rw [heap_alloc_old _ _ (by simp)]
    exact this) (Nat.zero_le _)) (by decide) zz13).1⟩
   have cb:=c5.trans (bz.mono c5.size)
   have HL5:=Hid.mk (HL2.out.later cb)
   have HZ5:=Hid.mk (HZ2.out.later cb)
   have HD5:=Hid.mk (HD.out.later cb)
   have HM5:=Hid.mk (HM2.out.later cb)
   have B5:=Hid.mk (B2.out.trans (cb.mono B2.out.size))
   have ha1:=dApply_any [v1,v3] [v2] 3 3 5 _ (some ⟨w5.heap.size + 1,0,none⟩) 2 2 da 1 dc HUL.out HM5.out
   obtain ⟨q0,q1,q2,_⟩:=HD5.out.cells
   obtain ⟨t0,t1,_⟩:=HU.out.cells
   clear HL2 HZ2 HD HM2 B2 hs2 bz cb c5
   go_wp2_with fail
   clear q0 q1 q2 t0 t1
   generalize ((w5.alloc (.cells #[.int .i64 0,.int .i64 0,.slice none 0 0] 53)).alloc (.cells #[.string ⟨#[97]⟩,.int .i64 1,.bool false,.string ⟨#[120]⟩,.slice none 0 0,.string ⟨#[98]⟩,.int .i64 2,.bool false,.string ⟨#[121]⟩,.slice none 0 0] 62)).alloc (.cells #[.int .i64 3,.slice (some ⟨w5.heap.size + 1,0,none⟩) 2 2] 24) = w8 at *
   with_reducible refine Calls.mono ha1 ?_
   rintro e w9 ⟨hap,c9⟩
   rcases hap with ⟨_,av,rfl,o9⟩ | ⟨hno,_⟩
   ·rw [mg3] at o9
    obtain ⟨ya,yc,ey,_⟩:=o9.ls
    have ey : av = .slice ya 3 yc:=ey
    subst ey
    dsimp only
    have by9:=(Below.refl w9.heap.size w9).alloc (Nat.le_refl _) (.cells #[.int .i64 5,.slice ya 3 yc] 24)
    have HW9:=Hid.mk (Bq.new w9 (.int .i64 5) (.slice ya 3 yc))
    have cb:=c9.trans (by9.mono c9.size)
    have HLW:=Hid.mk (li_cp (o9.later by9) (by decide) zz3).1
    have HL9:=Hid.mk (HL5.out.later cb)
    have HZ9:=Hid.mk (HZ5.out.later cb)
    have HD9:=Hid.mk (HD5.out.later cb)
    have HM9:=Hid.mk (HM5.out.later cb)
    have B9:=Hid.mk (B5.out.trans (cb.mono B5.out.size))
    have ha2:=dApply_any ex3 [v2] 5 3 5 _ xa 3 xc da 1 dc HL9.out HM9.out
    obtain ⟨p0,p1,_⟩:=HZ9.out.cells
    obtain ⟨q0,q1,q2,_⟩:=HD9.out.cells
    clear HL5 HZ5 HD5 HM5 B5 ha1 by9 cb c9 o9 HU HUL
    go_wp2_with fail
    clear p0 p1 q0 q1 q2
    generalize w9.alloc (.cells #[.int .i64 5,.slice ya 3 yc] 24) = w10 at *
    with_reducible refine Calls.mono ha2 ?_
    rintro e w11 ⟨hap,c11⟩
    rcases hap with ⟨hno,_⟩ | ⟨_,rfl⟩
    ·rw [ap9] at hno
     exact absurd hno (by decide)
    ·rw [ap9]
     dsimp only
     have bz:=(Below.refl w11.heap.size w11).alloc (Nat.le_refl _) (.cells #[.int .i64 0,.slice none 0 0] 24)
     have bz2:=bz.alloc bz.size (.cells #[.string ⟨#[97]⟩,.int .i64 4,.bool true,.string ⟨#[]⟩,.slice none 0 0] 62)
     have HX : Hid (Li ((w11.alloc (.cells #[.int .i64 0,.slice none 0 0] 24)).alloc (.cells #[.string ⟨#[97]⟩,.int .i64 4,.bool true,.string ⟨#[]⟩,.slice none 0 0] 62)) [v2] (some ⟨w11.heap.size + 1,0,none⟩) 1 1):=⟨(li_cp (cp_lit (g:=w11.heap.size + 1) (base:=0) [v2] (by simp [v2]) (by decide) (by
      have:=heap_alloc_new (w11.alloc (.cells #[.int .i64 0,.slice none 0 0] 24)) (.cells #[.string ⟨#[97]⟩,.int .i64 4,.bool true,.string ⟨#[]⟩,.slice none 0 0] 62)
      rw [World.size_alloc] at this
      exact this) (Nat.zero_le _)) (by decide) zz2).1⟩
     have cb:=c11.trans (bz.mono c11.size)
     have cb2:=c11.trans (bz2.mono c11.size)
     obtain ⟨q0,q1,q2,_⟩:=(HD9.out.later cb).cells
     have HC : Hid (∀ w',Below ((w11.alloc (.cells #[.int .i64 0,.slice none 0 0] 24)).alloc (.cells #[.string ⟨#[97]⟩,.int .i64 4,.bool true,.string ⟨#[]⟩,.slice none 0 0] 62)).heap.size ((w11.alloc (.cells #[.int .i64 0,.slice none 0 0] 24)).alloc (.cells #[.string ⟨#[97]⟩,.int .i64 4,.bool true,.string ⟨#[]⟩,.slice none 0 0] 62)) w' → Bq w' w1.heap.size (.int .i64 5) (.slice xa 3 xc) ∧ Bq w' w9.heap.size (.int .i64 5) (.slice ya 3 yc) ∧ Bd w' w3.heap.size (.int .i64 3) (.int .i64 5) (.slice da 1 dc) ∧ Li w' ex3 xa 3 xc ∧ Li w' ex3 ya 3 yc ∧ Li w' [v2] da 1 dc ∧ Below w.heap.size w w'):=⟨fun w' h => by
      have h2:=cb2.trans (h.mono cb2.size)
      exact ⟨HZ9.out.later h2,HW9.out.later h2,HD9.out.later h2,HL9.out.later h2,HLW.out.later h2,HM9.out.later h2,B9.out.trans (h2.mono B9.out.size)⟩⟩
     have hsm:=eSame_eq 3 5 [v2] _ da dc (some ⟨w11.heap.size + 1,0,none⟩) 1 (HM9.out.later cb2) HX.out (by decide)
     clear HL9 HZ9 HD9 HM9 B9 HW9 HLW ha2 cb cb2 bz bz2 c11 HX
     go_wp2_with fail
     clear q0 q1 q2
     generalize (w11.alloc (.cells #[.int .i64 0,.slice none 0 0] 24)).alloc (.cells #[.string ⟨#[97]⟩,.int .i64 4,.bool true,.string ⟨#[]⟩,.slice none 0 0] 62) = w13 at *
     with_reducible refine Calls.mono hsm ?_
     rintro e w14 ⟨rfl,c14⟩
     dsimp only
     obtain ⟨z1,z2,z3,l1,l2,l3,bb⟩:=HC.out w14 c14
     have hq:=qSame_eq 5 ex3 w14 ya yc xa xc l2 l1 (by decide)
     obtain ⟨p0,p1,_⟩:=z1.cells
     obtain ⟨t0,t1,_⟩:=z2.cells
     obtain ⟨q0,q1,q2,_⟩:=z3.cells
     clear z1 z2 z3 l1 l2 l3 bb hsm
     go_wp2_with fail
     clear p0 p1 t0 t1 q0 q1 q2
     with_reducible refine Calls.mono hq ?_
     rintro e w15 ⟨rfl,c15⟩
     dsimp only
     have c15':=c14.trans (c15.mono c14.size)
     obtain ⟨z1,z2,z3,l1,l2,l3,bb⟩:=HC.out w15 c15'
     have hr:=dRight_any [v2] 3 5 w15 da 1 dc l3
     obtain ⟨p0,p1,_⟩:=z1.cells
     obtain ⟨q0,q1,q2,_⟩:=z3.cells
     clear z1 z2 z3 l1 l2 l3 bb hq c14 c15
     go_wp2_with fail
     clear p0 p1 q0 q1 q2
     with_reducible refine Calls.mono hr ?_
     rintro e w16 ⟨⟨t,rfl,ht⟩,c16⟩
     obtain rfl : t = true:=ht.2 rt2
     dsimp only
     have c16':=c15'.trans (c16.mono c15'.size)
     obtain ⟨z1,z2,z3,l1,l2,l3,bb⟩:=HC.out w16 c16'
     have hr:=dRight_any ex3 6 5 w16 xa 3 xc l1
     obtain ⟨p0,p1,_⟩:=z1.cells
     clear z1 z2 z3 l1 l2 l3 bb c15' c16 ht
     go_wp2_with fail
     clear p0 p1
     with_reducible refine Calls.mono hr ?_
     rintro e w17 ⟨⟨t,rfl,ht⟩,c17⟩
     obtain rfl : t = false:=by
      cases t with
      | false => rfl
      | true => exact absurd (ht.1 rfl) rt6
     dsimp only
     obtain ⟨_,_,_,_,_,_,bb⟩:=HC.out w17 (c16'.trans (c17.mono c16'.size))
     go_wp2_with fail
     go_ret
     exact ⟨rfl,bb⟩
   ·exact absurd ap0 hno
 ·exact absurd ⟨by decide,by decide⟩ hno
end
end Go.Proofs.YtdfjlmfnkhhnjaaGreatDoor.Stk
