import Derived.Test.YtdfjlmfnkhhnjaaGreatDoorZe
import Derived.Test.YtdfjlmfnkhhnjaaGreatDoorQb
set_option maxRecDepth 100000
set_option linter.unusedVariables false
set_option linter.unusedSimpArgs false
namespace Go.Proofs.YtdfjlmfnkhhnjaaGreatDoor.Stk
open Go.RowKit
attribute [local go_sem ↓] Go.wp_at_zero Go.wp_at_succ
structure Pr (next : Int) (L : List Vs) (k : Nat) : Prop where
 ok : ∀ j v,j < k → L[j]? = some v → VOk next v
 st : ∀ j x y,j + 1 < k → L[j]? = some x → L[j + 1]? = some y → ltv x y
 nd : ∀ i j x y,i < j → j < k → L[i]? = some x → L[j]? = some y → ¬ x.seq = y.seq
theorem Pr.zero (next : Int) (L : List Vs) : Pr next L 0:=⟨fun j v h => by omega,fun j x y h => by omega,fun i j x y h1 h2 => by omega⟩
theorem Pr.next {next : Int} {L : List Vs} {k : Nat} {u : Vs} (h : Pr next L k) (hu : L[k]? = some u) (h1 : VOk next u) (h2 : ∀ p,1 ≤ k → L[k - 1]? = some p → ltv p u) (h3 : ∀ i x,i < k → L[i]? = some x → ¬ x.seq = u.seq) : Pr next L (k + 1):=by
 refine ⟨fun j v hj hv => ?_,fun j x y hj hx hy => ?_,fun i j x y hij hj hx hy => ?_⟩
 ·by_cases e : j = k
  ·subst e; rw [hu] at hv; cases hv; exact h1
  ·exact h.ok j v (by omega) hv
 ·by_cases e : j + 1 = k
  ·subst e; rw [hu] at hy; cases hy; exact h2 x (by omega) (by simpa using hx)
  ·exact h.st j x y (by omega) hx hy
 ·by_cases e : j = k
  ·subst e; rw [hu] at hy; cases hy; exact h3 i x hij hx
  ·exact h.nd i j x y hij (by omega) hx hy
theorem Pr.rt {next : Int} {L : List Vs} (h : Pr next L L.length) (h1 : 1 ≤ next) (h2 : next ≤ 1099511627777) (h3 : L.length ≤ 256) (h4 : bw L ≤ 65536) : RtB next L:=by
 refine ⟨h1,h2,h3,fun v hv => ?_,srtv_of fun i a b ha hb => h.st i a b (List.getElem?_eq_some_iff.1 hb).1 ha hb,?_,h4⟩
 ·obtain ⟨j,hj,rfl⟩:=List.getElem_of_mem hv
  exact h.ok j _ hj (List.getElem?_eq_getElem hj)
 ·refine List.pairwise_iff_getElem.2 fun i j hi hj hij => ?_
  simp only [List.length_map] at hi hj
  simp only [List.getElem_map]
  exact h.nd i j _ _ hij hj (List.getElem?_eq_getElem hi) (List.getElem?_eq_getElem hj)
theorem RtB.nd {next : Int} {L : List Vs} (h : RtB next L) {i j : Nat} {x y : Vs} (hij : i < j) (hx : L[i]? = some x) (hy : L[j]? = some y) : ¬ x.seq = y.seq:=by
 obtain ⟨hi,rfl⟩:=List.getElem?_eq_some_iff.1 hx
 obtain ⟨hj,rfl⟩:=List.getElem?_eq_some_iff.1 hy
 have:=List.pairwise_iff_getElem.1 h.nod i j (by simpa using hi) (by simpa using hj) hij
 simpa using this
set_option maxHeartbeats 8000000 in
theorem qRight_any (L : List Vs) (next : Int) (w : World) (a : Option Addr) (n cap : Nat) (hL : Li w L a n cap) (hz : ∀ v ∈ L,Pz v.l) :
  Calls Tryz.prog 38 #[bv next a n cap] w fun e w' => (∃ t : Bool,e = .returned (.bool t) ∧ (t = true ↔ RtB next L)) ∧ Below w.heap.size w w':=by
 obtain rfl:=hL.n
 have b0:=(Below.refl w.heap.size w).alloc (Nat.le_refl _) (.cells #[.int .i64 next,.slice a L.length cap] 24)
 have z0:=Bq.new w (.int .i64 next) (.slice a L.length cap)
 obtain ⟨p0,p1,_⟩:=z0.cells
 have HL:=Hid.mk hL
 have HZz:=Hid.mk hz
 clear hL hz
 by_cases h1 : next < 1
 ·have d1 : decide (next < 1) = true:=decide_eq_true h1
  have HN : Hid (¬ RtB next L):=⟨fun h => by have:=h.n1; omega⟩
  clear h1
  go_enter Tryz.func38,Tryz.ntmps38
  go_wp2_with fail
  go_ret
  exact ⟨⟨false,rfl,by simp [HN.out]⟩,b0⟩
 ·have d1 : decide (next < 1) = false:=decide_eq_false h1
  by_cases h2 : 1099511627777 < next
  ·have d2 : decide (1099511627777 < next) = true:=decide_eq_true h2
   have HN : Hid (¬ RtB next L):=⟨fun h => by have:=h.n2; omega⟩
   clear h1 h2
   go_enter Tryz.func38,Tryz.ntmps38
   go_wp2_with fail
   go_ret
   exact ⟨⟨false,rfl,by simp [HN.out]⟩,b0⟩
  ·have d2 : decide (1099511627777 < next) = false:=decide_eq_false h2
   by_cases h3 : 256 < L.length
   ·have d3 : decide ((256 : Int) < (L.length : Int)) = true:=decide_eq_true (by omega)
    have HN : Hid (¬ RtB next L):=⟨fun h => by have:=h.len; omega⟩
    clear h1 h2 h3
    go_enter Tryz.func38,Tryz.ntmps38
    go_wp2_with fail
    go_ret
    exact ⟨⟨false,rfl,by simp [HN.out]⟩,b0⟩
   ·have d3 : decide ((256 : Int) < (L.length : Int)) = false:=decide_eq_false (by omega)
    have HR : Hid (Pr next L L.length → bw L ≤ 65536 → RtB next L):=⟨fun h4 h5 => h4.rt (by omega) (by omega) (by omega) h5⟩
    have HLe : Hid (L.length ≤ 256):=⟨by omega⟩
    go_enter Tryz.func38,Tryz.ntmps38
    go_wp2_with fail
    have HB:=Hid.mk b0
    have HZ:=Hid.mk z0
    clear p0 p1 b0 z0 d1 d2 d3 h1 h2 h3
    generalize w.alloc (.cells #[.int .i64 next,.slice a L.length cap] 24) = W1 at *
    go_loopw [3] (fun i wr => ∃ k : Nat,k ≤ L.length ∧ i = .int .i64 (k : Int) ∧ Hid (Pr next L k) ∧ Hid (Below W1.heap.size W1 wr)) (fun i _ => L.length - (intOf i).toNat)
    case atStart => exact ⟨0,Nat.zero_le _,rfl,⟨Pr.zero next L⟩,⟨Below.refl _ _⟩⟩
    case round =>
     obtain ⟨k,hk,rfl,hV,hb⟩:=hrel
     have bwr:=HB.out.trans (hb.out.mono HB.out.size)
     have zr:=HZ.out.later hb.out
     obtain ⟨p0,p1,_⟩:=zr.cells
     by_cases hlt : k < L.length
     ·have d1 : decide ((k : Int) < (L.length : Int)) = true:=decide_eq_true (Int.ofNat_lt.2 hlt)
      have k2 : (k : Int) < (L.length : Int):=Int.ofNat_lt.2 hlt
      obtain ⟨u,hu⟩ : ∃ u,L[k]? = some u:=⟨L[k],List.getElem?_eq_getElem hlt⟩
      have hum:=List.mem_of_getElem? hu
      obtain ⟨b,off,ma,mc,rfl,hbl,c0,c1,c2,c3,c4,hsl⟩:=(HL.out.s.at'.later bwr).get k u hu
      have hzu:=HL.out.z u hum
      have hw1 : wrap64 ((k : Int) + 1) = ((k + 1 : Nat) : Int):=by have:=HLe.out; unfold wrap64; omega
      have bx:=(Below.refl wr.heap.size wr).alloc (Nat.le_refl _) (.cells #[str u.key,.int .i64 u.seq,.bool u.mkr,str u.data,.slice ma u.l.length mc] 62)
      have zx:=zr.later bx
      have vx:=Bv.new wr (str u.key) (.int .i64 u.seq) (.bool u.mkr) (str u.data) (.slice ma u.l.length mc)
      have hwl0:=fun w' (hb' : Below (wr.alloc (.cells #[str u.key,.int .i64 u.seq,.bool u.mkr,str u.data,.slice ma u.l.length mc] 62)).heap.size (wr.alloc (.cells #[str u.key,.int .i64 u.seq,.bool u.mkr,str u.data,.slice ma u.l.length mc] 62)) w') => well_any u w' ma u.l.length mc ⟨rfl,(hsl.later bx).later hb',hzu⟩ (HZz.out u hum)
      have hbad : ¬ VOk next u → ¬ RtB next L:=fun h hr => h (hr.ok u hum)
      have BW2:=Hid.mk (bwr.trans (bx.mono bwr.size))
      have HBR:=Hid.mk (below_seq hb.out bx)
      have hW2 : (wr.alloc (.cells #[str u.key,.int .i64 u.seq,.bool u.mkr,str u.data,.slice ma u.l.length mc] 62)).heap.size = wr.heap.size + 1:=by simp
      go_wp2_with fail
      generalize wr.alloc (.cells #[str u.key,.int .i64 u.seq,.bool u.mkr,str u.data,.slice ma u.l.length mc] 62) = W2 at *
      have HS : Hid (∀ w',Below W2.heap.size W2 w' → Below W2.heap.size W2 w' ∧ w'.cell? ⟨wr.heap.size,0,none⟩ = some (str u.key) ∧ w'.cell? ⟨wr.heap.size,1,none⟩ = some (.int .i64 u.seq) ∧ w'.cell? ⟨wr.heap.size,2,none⟩ = some (.bool u.mkr) ∧ w'.cell? ⟨wr.heap.size,3,none⟩ = some (str u.data) ∧ w'.cell? ⟨wr.heap.size,4,none⟩ = some (.slice ma u.l.length mc) ∧ w'.cell? ⟨w.heap.size,0,none⟩ = some (.int .i64 next) ∧ w'.cell? ⟨w.heap.size,1,none⟩ = some (.slice (some ⟨b,off,none⟩) L.length cap)):=⟨fun w' h => by
       obtain ⟨g0,g1,_⟩:=(zx.later h).cells
       obtain ⟨t0,t1,t2,t3,t4,_⟩:=(vx.later h).cells
       exact ⟨h,t0,t1,t2,t3,t4,g0,g1⟩⟩
      clear c0 c1 c2 c3 c4 p0 p1
      by_cases g1 : vrV u = 0
      ·have hwl:=fun w' (hb' : Below W2.heap.size W2 w') => (hwl0 w' hb').mono (R':=fun e w'' => e = .returned (.bool true) ∧ Below w'.heap.size w' w'') (by
        rintro e w'' ⟨⟨t,rfl,ht⟩,hb''⟩
        exact ⟨by rw [ht.2 g1],hb''⟩)
       clear hwl0
       by_cases g2 : u.seq < 1
       ·have f2 : decide (u.seq < 1) = true:=decide_eq_true g2
        have HN:=Hid.mk (hbad (fun h => by have:=h.1; omega))
        clear g1 g2 hbad hV hu hum hsl zr zx vx bx
        go_wp2_with fail
        refine wp_region_held (S:=fun w' => Below W2.heap.size W2 w' ∧ w'.cell? ⟨wr.heap.size,0,none⟩ = some (str u.key) ∧ w'.cell? ⟨wr.heap.size,1,none⟩ = some (.int .i64 u.seq) ∧ w'.cell? ⟨wr.heap.size,2,none⟩ = some (.bool u.mkr) ∧ w'.cell? ⟨wr.heap.size,3,none⟩ = some (str u.data) ∧ w'.cell? ⟨wr.heap.size,4,none⟩ = some (.slice ma u.l.length mc) ∧ w'.cell? ⟨w.heap.size,0,none⟩ = some (.int .i64 next) ∧ w'.cell? ⟨w.heap.size,1,none⟩ = some (.slice (some ⟨b,off,none⟩) L.length cap)) (by kernel_rfl) ?_
        try (change wpAnyH _ _ _ _ _ _ _ _ (World.drew _))
        have hHeld:=HS.out _ (Below.refl W2.heap.size W2).drew
        refine tkd 0 32 (.agg #[str u.key,.int .i64 u.seq,.bool u.mkr,str u.data,.slice ma u.l.length mc]) ?_ ?_
        ·intro w' hSw
         obtain ⟨_,s0,s1,s2,s3,s4,s5',s6⟩:=hSw
         go_simp
        try simp only [Act.put,lyA,lyB,lyC]
        clear hHeld
        refine wpAnyH_ready (rs := [1]) (by kernel_rfl) (by simp) ?_
        refine AllReadyH.cons rfl (fun K hK => ?_) AllReadyH.nil
        rw [if_pos (by kernel_rfl)]
        refine call_step 33 rfl (by go_simp) (hwl _ (Below.refl W2.heap.size W2).drew) ?_
        intro w3 e1
        have hHeld:=HS.out w3 (below_seq (Below.refl _ _).drew e1)
        refine hK.out _ _ hHeld (fun _ => ?_)
        clear hK K
        try simp only [Act.put,lyA,lyB,lyC]
        refine tkd 2 34 (.bool false) ?_ ?_
        ·intro w' hSw
         obtain ⟨_,s0,s1,s2,s3,s4,s5',s6⟩:=hSw
         go_simp
        try simp only [Act.put,lyA,lyB,lyC]
        refine tkd 3 35 (.bool false) ?_ ?_
        ·intro w' hSw
         obtain ⟨_,s0,s1,s2,s3,s4,s5',s6⟩:=hSw
         go_simp
        try simp only [Act.put,lyA,lyB,lyC]
        refine tkd 4 36 (.pointer (some ⟨wr.heap.size,1,none⟩)) ?_ ?_
        ·intro w' hSw
         obtain ⟨_,s0,s1,s2,s3,s4,s5',s6⟩:=hSw
         go_simp
        try simp only [Act.put,lyA,lyB,lyC]
        refine tkd 5 37 (.int .i64 u.seq) ?_ ?_
        ·intro w' hSw
         obtain ⟨_,s0,s1,s2,s3,s4,s5',s6⟩:=hSw
         go_simp
        try simp only [Act.put,lyA,lyB,lyC]
        refine tkd 6 38 (.bool true) ?_ ?_
        ·intro w' hSw
         obtain ⟨_,s0,s1,s2,s3,s4,s5',s6⟩:=hSw
         go_simp
        try simp only [Act.put,lyA,lyB,lyC]
        refine tkd 7 39 (.bool true) ?_ ?_
        ·intro w' hSw
         obtain ⟨_,s0,s1,s2,s3,s4,s5',s6⟩:=hSw
         go_simp
        try simp only [Act.put,lyA,lyB,lyC]
        refine tkd 8 40 (.bool true) ?_ ?_
        ·intro w' hSw
         obtain ⟨_,s0,s1,s2,s3,s4,s5',s6⟩:=hSw
         go_simp
        try simp only [Act.put,lyA,lyB,lyC]
        refine take_u 9 41 rfl rfl (by kernel_rfl) (by kernel_rfl) (by kernel_rfl) (fun _ _ _ h => h) (by kernel_rfl) (by assumption) ?_
        try simp only [Act.put,lyA,lyB,lyC]
        refine take_u 10 42 rfl rfl (by kernel_rfl) (by kernel_rfl) (by kernel_rfl) (fun _ _ _ h => h) (by kernel_rfl) (by assumption) ?_
        try simp only [Act.put,lyA,lyB,lyC]
        refine take_u 11 43 rfl rfl (by kernel_rfl) (by kernel_rfl) (by kernel_rfl) (fun _ _ _ h => h) (by kernel_rfl) (by assumption) ?_
        try simp only [Act.put,lyA,lyB,lyC]
        refine take_u 12 44 rfl rfl (by kernel_rfl) (by kernel_rfl) (by kernel_rfl) (fun _ _ _ h => h) (by kernel_rfl) (by assumption) ?_
        try simp only [Act.put,lyA,lyB,lyC]
        refine take_u 13 45 rfl rfl (by kernel_rfl) (by kernel_rfl) (by kernel_rfl) (fun _ _ _ h => h) (by kernel_rfl) (by assumption) ?_
        try simp only [Act.put,lyA,lyB,lyC]
        refine tkd 14 46 (.bool true) ?_ ?_
        ·intro w' hSw
         obtain ⟨_,s0,s1,s2,s3,s4,s5',s6⟩:=hSw
         go_simp
        try simp only [Act.put,lyA,lyB,lyC]
        refine tkd 15 47 (.bool true) ?_ ?_
        ·intro w' hSw
         obtain ⟨_,s0,s1,s2,s3,s4,s5',s6⟩:=hSw
         go_simp
        try simp only [Act.put,lyA,lyB,lyC]
        refine take_u 16 48 rfl rfl (by kernel_rfl) (by kernel_rfl) (by kernel_rfl) (fun _ _ _ h => h) (by kernel_rfl) (by assumption) ?_
        try simp only [Act.put,lyA,lyB,lyC]
        refine take_u 17 49 rfl rfl (by kernel_rfl) (by kernel_rfl) (by kernel_rfl) (fun _ _ _ h => h) (by kernel_rfl) (by assumption) ?_
        try simp only [Act.put,lyA,lyB,lyC]
        refine take_u 18 50 rfl rfl (by kernel_rfl) (by kernel_rfl) (by kernel_rfl) (fun _ _ _ h => h) (by kernel_rfl) (by assumption) ?_
        try simp only [Act.put,lyA,lyB,lyC]
        refine take_u 19 51 rfl rfl (by kernel_rfl) (by kernel_rfl) (by kernel_rfl) (fun _ _ _ h => h) (by kernel_rfl) (by assumption) ?_
        try simp only [Act.put,lyA,lyB,lyC]
        refine take_u 20 52 rfl rfl (by kernel_rfl) (by kernel_rfl) (by kernel_rfl) (fun _ _ _ h => h) (by kernel_rfl) (by assumption) ?_
        try simp only [Act.put,lyA,lyB,lyC]
        refine take_u 21 53 rfl rfl (by kernel_rfl) (by kernel_rfl) (by kernel_rfl) (fun _ _ _ h => h) (by kernel_rfl) (by assumption) ?_
        try simp only [Act.put,lyA,lyB,lyC]
        refine take_u 22 54 rfl rfl (by kernel_rfl) (by kernel_rfl) (by kernel_rfl) (fun _ _ _ h => h) (by kernel_rfl) (by assumption) ?_
        try simp only [Act.put,lyA,lyB,lyC]
        refine take_u 23 55 rfl rfl (by kernel_rfl) (by kernel_rfl) (by kernel_rfl) (fun _ _ _ h => h) (by kernel_rfl) (by assumption) ?_
        try simp only [Act.put,lyA,lyB,lyC]
        refine take_u 24 56 rfl rfl (by kernel_rfl) (by kernel_rfl) (by kernel_rfl) (fun _ _ _ h => h) (by kernel_rfl) (by assumption) ?_
        try simp only [Act.put,lyA,lyB,lyC]
        refine take_u 25 57 rfl rfl (by kernel_rfl) (by kernel_rfl) (by kernel_rfl) (fun _ _ _ h => h) (by kernel_rfl) (by assumption) ?_
        try simp only [Act.put,lyA,lyB,lyC]
        refine take_u 26 58 rfl rfl (by kernel_rfl) (by kernel_rfl) (by kernel_rfl) (fun _ _ _ h => h) (by kernel_rfl) (by assumption) ?_
        try simp only [Act.put,lyA,lyB,lyC]
        refine take_u 27 59 rfl rfl (by kernel_rfl) (by kernel_rfl) (by kernel_rfl) (fun _ _ _ h => h) (by kernel_rfl) (by assumption) ?_
        try simp only [Act.put,lyA,lyB,lyC]
        refine take_u 28 60 rfl rfl (by kernel_rfl) (by kernel_rfl) (by kernel_rfl) (fun _ _ _ h => h) (by kernel_rfl) (by assumption) ?_
        try simp only [Act.put,lyA,lyB,lyC]
        refine tkd 29 61 (.bool true) ?_ ?_
        ·intro w' hSw
         obtain ⟨_,s0,s1,s2,s3,s4,s5',s6⟩:=hSw
         go_simp
        try simp only [Act.put,lyA,lyB,lyC]
        refine wpAnyH_done (by kernel_rfl) ?_ _
        have hbw : Below W2.heap.size W2 w3:=hHeld.1
        go_wp2_with fail
        go_ret
        exact ⟨⟨false,rfl,by simp [HN.out]⟩,BW2.out.trans (hbw.mono BW2.out.size)⟩
       ·have f2 : decide (u.seq < 1) = false:=decide_eq_false g2
        by_cases g3 : next ≤ u.seq
        ·have f3 : decide (next ≤ u.seq) = true:=decide_eq_true g3
         have HN:=Hid.mk (hbad (fun h => by have:=h.2.1; omega))
         clear g1 g2 g3 hbad hV hu hum hsl zr zx vx bx
         go_wp2_with fail
         refine wp_region_held (S:=fun w' => Below W2.heap.size W2 w' ∧ w'.cell? ⟨wr.heap.size,0,none⟩ = some (str u.key) ∧ w'.cell? ⟨wr.heap.size,1,none⟩ = some (.int .i64 u.seq) ∧ w'.cell? ⟨wr.heap.size,2,none⟩ = some (.bool u.mkr) ∧ w'.cell? ⟨wr.heap.size,3,none⟩ = some (str u.data) ∧ w'.cell? ⟨wr.heap.size,4,none⟩ = some (.slice ma u.l.length mc) ∧ w'.cell? ⟨w.heap.size,0,none⟩ = some (.int .i64 next) ∧ w'.cell? ⟨w.heap.size,1,none⟩ = some (.slice (some ⟨b,off,none⟩) L.length cap)) (by kernel_rfl) ?_
         try (change wpAnyH _ _ _ _ _ _ _ _ (World.drew _))
         have hHeld:=HS.out _ (Below.refl W2.heap.size W2).drew
         refine tkd 0 32 (.agg #[str u.key,.int .i64 u.seq,.bool u.mkr,str u.data,.slice ma u.l.length mc]) ?_ ?_
         ·intro w' hSw
          obtain ⟨_,s0,s1,s2,s3,s4,s5',s6⟩:=hSw
          go_simp
         try simp only [Act.put,lyA,lyB,lyC]
         clear hHeld
         refine wpAnyH_ready (rs := [1]) (by kernel_rfl) (by simp) ?_
         refine AllReadyH.cons rfl (fun K hK => ?_) AllReadyH.nil
         rw [if_pos (by kernel_rfl)]
         refine call_step 33 rfl (by go_simp) (hwl _ (Below.refl W2.heap.size W2).drew) ?_
         intro w3 e1
         have hHeld:=HS.out w3 (below_seq (Below.refl _ _).drew e1)
         refine hK.out _ _ hHeld (fun _ => ?_)
         clear hK K
         try simp only [Act.put,lyA,lyB,lyC]
         refine tkd 2 34 (.bool false) ?_ ?_
         ·intro w' hSw
          obtain ⟨_,s0,s1,s2,s3,s4,s5',s6⟩:=hSw
          go_simp
         try simp only [Act.put,lyA,lyB,lyC]
         refine tkd 3 35 (.bool false) ?_ ?_
         ·intro w' hSw
          obtain ⟨_,s0,s1,s2,s3,s4,s5',s6⟩:=hSw
          go_simp
         try simp only [Act.put,lyA,lyB,lyC]
         refine tkd 4 36 (.pointer (some ⟨wr.heap.size,1,none⟩)) ?_ ?_
         ·intro w' hSw
          obtain ⟨_,s0,s1,s2,s3,s4,s5',s6⟩:=hSw
          go_simp
         try simp only [Act.put,lyA,lyB,lyC]
         refine tkd 5 37 (.int .i64 u.seq) ?_ ?_
         ·intro w' hSw
          obtain ⟨_,s0,s1,s2,s3,s4,s5',s6⟩:=hSw
          go_simp
         try simp only [Act.put,lyA,lyB,lyC]
         refine tkd 6 38 (.bool false) ?_ ?_
         ·intro w' hSw
          obtain ⟨_,s0,s1,s2,s3,s4,s5',s6⟩:=hSw
          go_simp
         try simp only [Act.put,lyA,lyB,lyC]
         refine tkd 7 39 (.bool false) ?_ ?_
         ·intro w' hSw
          obtain ⟨_,s0,s1,s2,s3,s4,s5',s6⟩:=hSw
          go_simp
         try simp only [Act.put,lyA,lyB,lyC]
         refine tkd 8 40 (.bool false) ?_ ?_
         ·intro w' hSw
          obtain ⟨_,s0,s1,s2,s3,s4,s5',s6⟩:=hSw
          go_simp
         try simp only [Act.put,lyA,lyB,lyC]
         refine tkd 9 41 (.pointer (some ⟨wr.heap.size,1,none⟩)) ?_ ?_
         ·intro w' hSw
          obtain ⟨_,s0,s1,s2,s3,s4,s5',s6⟩:=hSw
          go_simp
         try simp only [Act.put,lyA,lyB,lyC]
         refine tkd 10 42 (.int .i64 u.seq) ?_ ?_
         ·intro w' hSw
          obtain ⟨_,s0,s1,s2,s3,s4,s5',s6⟩:=hSw
          go_simp
         try simp only [Act.put,lyA,lyB,lyC]
         refine tkd 11 43 (.pointer (some ⟨w.heap.size,0,none⟩)) ?_ ?_
         ·intro w' hSw
          obtain ⟨_,s0,s1,s2,s3,s4,s5',s6⟩:=hSw
          go_simp
         try simp only [Act.put,lyA,lyB,lyC]
         refine tkd 12 44 (.int .i64 next) ?_ ?_
         ·intro w' hSw
          obtain ⟨_,s0,s1,s2,s3,s4,s5',s6⟩:=hSw
          go_simp
         try simp only [Act.put,lyA,lyB,lyC]
         refine tkd 13 45 (.bool true) ?_ ?_
         ·intro w' hSw
          obtain ⟨_,s0,s1,s2,s3,s4,s5',s6⟩:=hSw
          go_simp
         try simp only [Act.put,lyA,lyB,lyC]
         refine tkd 14 46 (.bool true) ?_ ?_
         ·intro w' hSw
          obtain ⟨_,s0,s1,s2,s3,s4,s5',s6⟩:=hSw
          go_simp
         try simp only [Act.put,lyA,lyB,lyC]
         refine tkd 15 47 (.bool true) ?_ ?_
         ·intro w' hSw
          obtain ⟨_,s0,s1,s2,s3,s4,s5',s6⟩:=hSw
          go_simp
         try simp only [Act.put,lyA,lyB,lyC]
         refine take_u 16 48 rfl rfl (by kernel_rfl) (by kernel_rfl) (by kernel_rfl) (fun _ _ _ h => h) (by kernel_rfl) (by assumption) ?_
         try simp only [Act.put,lyA,lyB,lyC]
         refine take_u 17 49 rfl rfl (by kernel_rfl) (by kernel_rfl) (by kernel_rfl) (fun _ _ _ h => h) (by kernel_rfl) (by assumption) ?_
         try simp only [Act.put,lyA,lyB,lyC]
         refine take_u 18 50 rfl rfl (by kernel_rfl) (by kernel_rfl) (by kernel_rfl) (fun _ _ _ h => h) (by kernel_rfl) (by assumption) ?_
         try simp only [Act.put,lyA,lyB,lyC]
         refine take_u 19 51 rfl rfl (by kernel_rfl) (by kernel_rfl) (by kernel_rfl) (fun _ _ _ h => h) (by kernel_rfl) (by assumption) ?_
         try simp only [Act.put,lyA,lyB,lyC]
         refine take_u 20 52 rfl rfl (by kernel_rfl) (by kernel_rfl) (by kernel_rfl) (fun _ _ _ h => h) (by kernel_rfl) (by assumption) ?_
         try simp only [Act.put,lyA,lyB,lyC]
         refine take_u 21 53 rfl rfl (by kernel_rfl) (by kernel_rfl) (by kernel_rfl) (fun _ _ _ h => h) (by kernel_rfl) (by assumption) ?_
         try simp only [Act.put,lyA,lyB,lyC]
         refine take_u 22 54 rfl rfl (by kernel_rfl) (by kernel_rfl) (by kernel_rfl) (fun _ _ _ h => h) (by kernel_rfl) (by assumption) ?_
         try simp only [Act.put,lyA,lyB,lyC]
         refine take_u 23 55 rfl rfl (by kernel_rfl) (by kernel_rfl) (by kernel_rfl) (fun _ _ _ h => h) (by kernel_rfl) (by assumption) ?_
         try simp only [Act.put,lyA,lyB,lyC]
         refine take_u 24 56 rfl rfl (by kernel_rfl) (by kernel_rfl) (by kernel_rfl) (fun _ _ _ h => h) (by kernel_rfl) (by assumption) ?_
         try simp only [Act.put,lyA,lyB,lyC]
         refine take_u 25 57 rfl rfl (by kernel_rfl) (by kernel_rfl) (by kernel_rfl) (fun _ _ _ h => h) (by kernel_rfl) (by assumption) ?_
         try simp only [Act.put,lyA,lyB,lyC]
         refine take_u 26 58 rfl rfl (by kernel_rfl) (by kernel_rfl) (by kernel_rfl) (fun _ _ _ h => h) (by kernel_rfl) (by assumption) ?_
         try simp only [Act.put,lyA,lyB,lyC]
         refine take_u 27 59 rfl rfl (by kernel_rfl) (by kernel_rfl) (by kernel_rfl) (fun _ _ _ h => h) (by kernel_rfl) (by assumption) ?_
         try simp only [Act.put,lyA,lyB,lyC]
         refine take_u 28 60 rfl rfl (by kernel_rfl) (by kernel_rfl) (by kernel_rfl) (fun _ _ _ h => h) (by kernel_rfl) (by assumption) ?_
         try simp only [Act.put,lyA,lyB,lyC]
         refine tkd 29 61 (.bool true) ?_ ?_
         ·intro w' hSw
          obtain ⟨_,s0,s1,s2,s3,s4,s5',s6⟩:=hSw
          go_simp
         try simp only [Act.put,lyA,lyB,lyC]
         refine wpAnyH_done (by kernel_rfl) ?_ _
         have hbw : Below W2.heap.size W2 w3:=hHeld.1
         go_wp2_with fail
         go_ret
         exact ⟨⟨false,rfl,by simp [HN.out]⟩,BW2.out.trans (hbw.mono BW2.out.size)⟩
        ·have f3 : decide (next ≤ u.seq) = false:=decide_eq_false g3
         have hok : VOk next u:=⟨by omega,by omega,g1⟩
         by_cases g4 : k = 0
         ·have f4 : decide ((0 : Int) < (k : Int)) = false:=decide_eq_false (by omega)
          have f4' : decide (0 < k) = false:=decide_eq_false (by omega)
          have hah2 : ∀ p,1 ≤ k → L[k - 1]? = some p → ltv p u:=fun p h => by omega
          clear g1 g2 g3 g4
          go_wp2_with fail
          refine wp_region_held (S:=fun w' => Below W2.heap.size W2 w' ∧ w'.cell? ⟨wr.heap.size,0,none⟩ = some (str u.key) ∧ w'.cell? ⟨wr.heap.size,1,none⟩ = some (.int .i64 u.seq) ∧ w'.cell? ⟨wr.heap.size,2,none⟩ = some (.bool u.mkr) ∧ w'.cell? ⟨wr.heap.size,3,none⟩ = some (str u.data) ∧ w'.cell? ⟨wr.heap.size,4,none⟩ = some (.slice ma u.l.length mc) ∧ w'.cell? ⟨w.heap.size,0,none⟩ = some (.int .i64 next) ∧ w'.cell? ⟨w.heap.size,1,none⟩ = some (.slice (some ⟨b,off,none⟩) L.length cap)) (by kernel_rfl) ?_
          try (change wpAnyH _ _ _ _ _ _ _ _ (World.drew _))
          have hHeld:=HS.out _ (Below.refl W2.heap.size W2).drew
          refine tkd 0 32 (.agg #[str u.key,.int .i64 u.seq,.bool u.mkr,str u.data,.slice ma u.l.length mc]) ?_ ?_
          ·intro w' hSw
           obtain ⟨_,s0,s1,s2,s3,s4,s5',s6⟩:=hSw
           go_simp
          try simp only [Act.put,lyA,lyB,lyC]
          clear hHeld
          refine wpAnyH_ready (rs := [1]) (by kernel_rfl) (by simp) ?_
          refine AllReadyH.cons rfl (fun K hK => ?_) AllReadyH.nil
          rw [if_pos (by kernel_rfl)]
          refine call_step 33 rfl (by go_simp) (hwl _ (Below.refl W2.heap.size W2).drew) ?_
          intro w3 e1
          have hHeld:=HS.out w3 (below_seq (Below.refl _ _).drew e1)
          refine hK.out _ _ hHeld (fun _ => ?_)
          clear hK K
          try simp only [Act.put,lyA,lyB,lyC]
          refine tkd 2 34 (.bool false) ?_ ?_
          ·intro w' hSw
           obtain ⟨_,s0,s1,s2,s3,s4,s5',s6⟩:=hSw
           go_simp
          try simp only [Act.put,lyA,lyB,lyC]
          refine tkd 3 35 (.bool false) ?_ ?_
          ·intro w' hSw
           obtain ⟨_,s0,s1,s2,s3,s4,s5',s6⟩:=hSw
           go_simp
          try simp only [Act.put,lyA,lyB,lyC]
          refine tkd 4 36 (.pointer (some ⟨wr.heap.size,1,none⟩)) ?_ ?_
          ·intro w' hSw
           obtain ⟨_,s0,s1,s2,s3,s4,s5',s6⟩:=hSw
           go_simp
          try simp only [Act.put,lyA,lyB,lyC]
          refine tkd 5 37 (.int .i64 u.seq) ?_ ?_
          ·intro w' hSw
           obtain ⟨_,s0,s1,s2,s3,s4,s5',s6⟩:=hSw
           go_simp
          try simp only [Act.put,lyA,lyB,lyC]
          refine tkd 6 38 (.bool false) ?_ ?_
          ·intro w' hSw
           obtain ⟨_,s0,s1,s2,s3,s4,s5',s6⟩:=hSw
           go_simp
          try simp only [Act.put,lyA,lyB,lyC]
          refine tkd 7 39 (.bool false) ?_ ?_
          ·intro w' hSw
           obtain ⟨_,s0,s1,s2,s3,s4,s5',s6⟩:=hSw
           go_simp
          try simp only [Act.put,lyA,lyB,lyC]
          refine tkd 8 40 (.bool false) ?_ ?_
          ·intro w' hSw
           obtain ⟨_,s0,s1,s2,s3,s4,s5',s6⟩:=hSw
           go_simp
          try simp only [Act.put,lyA,lyB,lyC]
          refine tkd 9 41 (.pointer (some ⟨wr.heap.size,1,none⟩)) ?_ ?_
          ·intro w' hSw
           obtain ⟨_,s0,s1,s2,s3,s4,s5',s6⟩:=hSw
           go_simp
          try simp only [Act.put,lyA,lyB,lyC]
          refine tkd 10 42 (.int .i64 u.seq) ?_ ?_
          ·intro w' hSw
           obtain ⟨_,s0,s1,s2,s3,s4,s5',s6⟩:=hSw
           go_simp
          try simp only [Act.put,lyA,lyB,lyC]
          refine tkd 11 43 (.pointer (some ⟨w.heap.size,0,none⟩)) ?_ ?_
          ·intro w' hSw
           obtain ⟨_,s0,s1,s2,s3,s4,s5',s6⟩:=hSw
           go_simp
          try simp only [Act.put,lyA,lyB,lyC]
          refine tkd 12 44 (.int .i64 next) ?_ ?_
          ·intro w' hSw
           obtain ⟨_,s0,s1,s2,s3,s4,s5',s6⟩:=hSw
           go_simp
          try simp only [Act.put,lyA,lyB,lyC]
          refine tkd 13 45 (.bool false) ?_ ?_
          ·intro w' hSw
           obtain ⟨_,s0,s1,s2,s3,s4,s5',s6⟩:=hSw
           go_simp
          try simp only [Act.put,lyA,lyB,lyC]
          refine tkd 14 46 (.bool false) ?_ ?_
          ·intro w' hSw
           obtain ⟨_,s0,s1,s2,s3,s4,s5',s6⟩:=hSw
           go_simp
          try simp only [Act.put,lyA,lyB,lyC]
          refine tkd 15 47 (.bool false) ?_ ?_
          ·intro w' hSw
           obtain ⟨_,s0,s1,s2,s3,s4,s5',s6⟩:=hSw
           go_simp
          try simp only [Act.put,lyA,lyB,lyC]
          refine tkd 16 48 (.int .i64 (k : Int)) ?_ ?_
          ·intro w' hSw
           obtain ⟨_,s0,s1,s2,s3,s4,s5',s6⟩:=hSw
           go_simp
          try simp only [Act.put,lyA,lyB,lyC]
          refine tkd 17 49 (.bool false) ?_ ?_
          ·intro w' hSw
           obtain ⟨_,s0,s1,s2,s3,s4,s5',s6⟩:=hSw
           go_simp
          try simp only [Act.put,lyA,lyB,lyC]
          refine tkd 18 50 (.bool false) ?_ ?_
          ·intro w' hSw
           obtain ⟨_,s0,s1,s2,s3,s4,s5',s6⟩:=hSw
           go_simp
          try simp only [Act.put,lyA,lyB,lyC]
          refine take_u 19 51 rfl rfl (by kernel_rfl) (by kernel_rfl) (by kernel_rfl) (fun _ _ _ h => h) (by kernel_rfl) (by assumption) ?_
          try simp only [Act.put,lyA,lyB,lyC]
          refine take_u 20 52 rfl rfl (by kernel_rfl) (by kernel_rfl) (by kernel_rfl) (fun _ _ _ h => h) (by kernel_rfl) (by assumption) ?_
          try simp only [Act.put,lyA,lyB,lyC]
          refine take_u 21 53 rfl rfl (by kernel_rfl) (by kernel_rfl) (by kernel_rfl) (fun _ _ _ h => h) (by kernel_rfl) (by assumption) ?_
          try simp only [Act.put,lyA,lyB,lyC]
          refine take_u 22 54 rfl rfl (by kernel_rfl) (by kernel_rfl) (by kernel_rfl) (fun _ _ _ h => h) (by kernel_rfl) (by assumption) ?_
          try simp only [Act.put,lyA,lyB,lyC]
          refine take_u 23 55 rfl rfl (by kernel_rfl) (by kernel_rfl) (by kernel_rfl) (fun _ _ _ h => h) (by kernel_rfl) (by assumption) ?_
          try simp only [Act.put,lyA,lyB,lyC]
          refine take_u 24 56 rfl rfl (by kernel_rfl) (by kernel_rfl) (by kernel_rfl) (fun _ _ _ h => h) (by kernel_rfl) (by assumption) ?_
          try simp only [Act.put,lyA,lyB,lyC]
          refine take_u 25 57 rfl rfl (by kernel_rfl) (by kernel_rfl) (by kernel_rfl) (fun _ _ _ h => h) (by kernel_rfl) (by assumption) ?_
          try simp only [Act.put,lyA,lyB,lyC]
          refine take_u 26 58 rfl rfl (by kernel_rfl) (by kernel_rfl) (by kernel_rfl) (fun _ _ _ h => h) (by kernel_rfl) (by assumption) ?_
          try simp only [Act.put,lyA,lyB,lyC]
          refine take_u 27 59 rfl rfl (by kernel_rfl) (by kernel_rfl) (by kernel_rfl) (fun _ _ _ h => h) (by kernel_rfl) (by assumption) ?_
          try simp only [Act.put,lyA,lyB,lyC]
          refine tkd 28 60 (.bool false) ?_ ?_
          ·intro w' hSw
           obtain ⟨_,s0,s1,s2,s3,s4,s5',s6⟩:=hSw
           go_simp
          try simp only [Act.put,lyA,lyB,lyC]
          refine tkd 29 61 (.bool false) ?_ ?_
          ·intro w' hSw
           obtain ⟨_,s0,s1,s2,s3,s4,s5',s6⟩:=hSw
           go_simp
          try simp only [Act.put,lyA,lyB,lyC]
          refine wpAnyH_done (by kernel_rfl) ?_ _
          have hbw : Below W2.heap.size W2 w3:=hHeld.1
          have HBW:=Hid.mk hbw
          have HSQ : Hid (∀ w',Below W2.heap.size W2 w' → w'.cell? ⟨wr.heap.size,1,none⟩ = some (.int .i64 u.seq) ∧ w'.cell? ⟨w.heap.size,1,none⟩ = some (.slice (some ⟨b,off,none⟩) L.length cap)):=⟨fun w' h => ⟨(HS.out w' h).2.2.1,(HS.out w' h).2.2.2.2.2.2.2⟩⟩
          have HEl : Hid (∀ w' j y,Below W2.heap.size W2 w' → L[j]? = some y → w'.cell? ⟨b,off + j * 5 + 1,none⟩ = some (.int .i64 y.seq)):=⟨fun w' j y h hy => by
           obtain ⟨b',off',xa,xc,e,_,_,q1,_⟩:=(HL.out.s.at'.later (BW2.out.trans (h.mono BW2.out.size))).get j y hy
           injection e with e
           injection e with r1 r2 r3
           subst r1 r2
           exact q1⟩
          have HPR : Hid ((∀ i x,i < k → L[i]? = some x → ¬ x.seq = u.seq) → Pr next L (k + 1)):=⟨fun h => hV.out.next hu hok hah2 h⟩
          have HND : Hid (∀ j y,j < k → L[j]? = some y → y.seq = u.seq → ¬ RtB next L):=⟨fun j y hj hy e hr => hr.nd hj hy hu e⟩
          clear hbw HS hwl hV hu hum hsl zr zx vx bx hok hah2 hbad hb bwr
          try clear e1
          go_wp2_with fail
          clear f2 f3 f4 f4'
          try clear hHeld
          generalize wr.heap.size = gv at *
          go_loopw [5] (fun o wq => ∃ j : Nat,j ≤ k ∧ o = .int .i64 (j : Int) ∧ Hid (∀ i x,i < j → L[i]? = some x → ¬ x.seq = u.seq) ∧ Hid (Below W2.heap.size W2 wq)) (fun o _ => k - (intOf o).toNat)
          case atStart => exact ⟨0,Nat.zero_le _,rfl,⟨fun i x h => absurd h (Nat.not_lt_zero _)⟩,HBW⟩
          case round =>
           clear HBW
           obtain ⟨j,hj,rfl,HJ,hbq⟩:=hrel
           obtain ⟨y1,y2⟩:=HSQ.out _ hbq.out
           by_cases hjl : j < k
           ·have dj : decide ((j : Int) < (k : Int)) = true:=decide_eq_true (Int.ofNat_lt.2 hjl)
            have hjL : j < L.length:=Nat.lt_trans hjl hlt
            have kj : (j : Int) < (L.length : Int):=Int.ofNat_lt.2 hjL
            obtain ⟨y,hy⟩ : ∃ y,L[j]? = some y:=⟨L[j],List.getElem?_eq_getElem hjL⟩
            have cy:=HEl.out _ j y hbq.out hy
            have hwj : wrap64 ((j : Int) + 1) = ((j + 1 : Nat) : Int):=by have:=HLe.out; unfold wrap64; omega
            by_cases he : y.seq = u.seq
            ·have ds : (y.seq == u.seq) = true:=by rw [he]; exact beq_self_eq_true _
             have HN:=Hid.mk (HND.out j y hjl hy he)
             have BE:=BW2.out.trans (hbq.out.mono BW2.out.size)
             clear he hy HJ HPR HND HEl HSQ hj
             go_wp2_with fail
             go_region
             all_goals (
              go_wp2_with fail
              go_ret
              exact ⟨⟨false,rfl,by simp [HN.out]⟩,BE.drew⟩)
            ·have ds : (y.seq == u.seq) = false:=beq_eq_false_iff_ne.2 he
             have HJ2 : Hid (∀ i x,i < j + 1 → L[i]? = some x → ¬ x.seq = u.seq):=⟨fun i x hi hx => by
              by_cases e : i = j
              ·subst e; rw [hy] at hx; cases hx; exact he
              ·exact HJ.out i x (by omega) hx⟩
             clear he hy HJ HPR HND HEl HSQ
             go_wp2_with fail
             go_region
             all_goals (go_wp2_with fail)
             all_goals exact ⟨⟨j + 1,hjl,by first | (rw [hwj]; done) | go_num,HJ2,⟨hbq.out.drew⟩⟩,by first | (rw [hwj]; exact Nat.sub_lt_sub_left hjl (Nat.lt_succ_self j)) | (simp [intOf]; omega)⟩
           ·obtain rfl : j = k:=Nat.le_antisymm hj (Nat.le_of_not_lt hjl)
            have dj : decide ((j : Int) < (j : Int)) = false:=decide_eq_false (fun q => Int.lt_irrefl _ q)
            have HP1:=Hid.mk (HPR.out HJ.out)
            have HB1 : Hid (Below W1.heap.size W1 wr):=⟨below_seq HBR.out hbq.out⟩
            clear HJ HPR HND HEl HSQ hjl hbq HBR BW2
            go_wp2_with fail
            exact ⟨⟨j + 1,hlt,by first | (rw [hw1]; done) | go_num,HP1,HB1⟩,by first | (rw [hw1]; exact Nat.sub_lt_sub_left hlt (Nat.lt_succ_self j)) | (simp [intOf]; omega)⟩
         ·obtain ⟨p,hp⟩ : ∃ p : Nat,p + 1 = k:=⟨k - 1,by omega⟩
          have hpL : p < L.length:=by omega
          obtain ⟨x,hx⟩ : ∃ x,L[p]? = some x:=⟨L[p],List.getElem?_eq_getElem hpL⟩
          obtain ⟨b',off',xa,xc,e',hbl',x0,x1,x2,x3,x4,_⟩:=(HL.out.s.at'.later BW2.out).get p x hx
          injection e' with e'
          injection e' with r1 r2 r3
          subst r1 r2
          have f4 : decide ((0 : Int) < (k : Int)) = true:=decide_eq_true (by omega)
          have f4' : decide (0 < k) = true:=decide_eq_true (by omega)
          have hq1 : wrap64 ((k : Int) - 1) = (p : Int):=by have:=HLe.out; unfold wrap64; omega
          have hq2 : IntKind.i64.wrap ((k : Int) - 1) = (p : Int):=by rw [wrap_eq]; exact hq1
          have kp : (p : Int) < (L.length : Int):=Int.ofNat_lt.2 hpL
          have HS2 : Hid (∀ w',Below W2.heap.size W2 w' → Below W2.heap.size W2 w' ∧ w'.cell? ⟨wr.heap.size,0,none⟩ = some (str u.key) ∧ w'.cell? ⟨wr.heap.size,1,none⟩ = some (.int .i64 u.seq) ∧ w'.cell? ⟨wr.heap.size,2,none⟩ = some (.bool u.mkr) ∧ w'.cell? ⟨wr.heap.size,3,none⟩ = some (str u.data) ∧ w'.cell? ⟨wr.heap.size,4,none⟩ = some (.slice ma u.l.length mc) ∧ w'.cell? ⟨w.heap.size,0,none⟩ = some (.int .i64 next) ∧ w'.cell? ⟨w.heap.size,1,none⟩ = some (.slice (some ⟨b,off,none⟩) L.length cap) ∧ w'.cell? ⟨b,off + p * 5,none⟩ = some (str x.key) ∧ w'.cell? ⟨b,off + p * 5 + 1,none⟩ = some (.int .i64 x.seq) ∧ w'.cell? ⟨b,off + p * 5 + 2,none⟩ = some (.bool x.mkr) ∧ w'.cell? ⟨b,off + p * 5 + 3,none⟩ = some (str x.data) ∧ w'.cell? ⟨b,off + p * 5 + 4,none⟩ = some (.slice xa x.l.length xc)):=⟨fun w' h => by
           obtain ⟨t,s0,s1,s2,s3,s4,s5',s6⟩:=HS.out w' h
           exact ⟨t,s0,s1,s2,s3,s4,s5',s6,(h.cell (p:=⟨b,_,none⟩) hbl').trans x0,(h.cell (p:=⟨b,_,none⟩) hbl').trans x1,(h.cell (p:=⟨b,_,none⟩) hbl').trans x2,(h.cell (p:=⟨b,_,none⟩) hbl').trans x3,(h.cell (p:=⟨b,_,none⟩) hbl').trans x4⟩⟩
          have hah:=fun w' => ahead_any x u w' xa x.l.length xc ma u.l.length mc
          clear g1 g2 g3 g4 x0 x1 x2 x3 x4 hbl'
          by_cases g5 : ltv x u
          ·have ea : ahB x u = true:=by unfold ahB; simp [g5]
           rw [ea] at hah
           have hah2 : ∀ q,1 ≤ k → L[k - 1]? = some q → ltv q u:=fun q _ hq => by
            rw [show k - 1 = p by omega,hx] at hq
            cases hq
            exact g5
           clear ea g5 hx
           go_wp2_with fail
           go_region_held3 (fun w' => Below W2.heap.size W2 w' ∧ w'.cell? ⟨wr.heap.size,0,none⟩ = some (str u.key) ∧ w'.cell? ⟨wr.heap.size,1,none⟩ = some (.int .i64 u.seq) ∧ w'.cell? ⟨wr.heap.size,2,none⟩ = some (.bool u.mkr) ∧ w'.cell? ⟨wr.heap.size,3,none⟩ = some (str u.data) ∧ w'.cell? ⟨wr.heap.size,4,none⟩ = some (.slice ma u.l.length mc) ∧ w'.cell? ⟨w.heap.size,0,none⟩ = some (.int .i64 next) ∧ w'.cell? ⟨w.heap.size,1,none⟩ = some (.slice (some ⟨b,off,none⟩) L.length cap) ∧ w'.cell? ⟨b,off + p * 5,none⟩ = some (str x.key) ∧ w'.cell? ⟨b,off + p * 5 + 1,none⟩ = some (.int .i64 x.seq) ∧ w'.cell? ⟨b,off + p * 5 + 2,none⟩ = some (.bool x.mkr) ∧ w'.cell? ⟨b,off + p * 5 + 3,none⟩ = some (str x.data) ∧ w'.cell? ⟨b,off + p * 5 + 4,none⟩ = some (.slice xa x.l.length xc)) (first
            | exact HS2.out _ (Below.refl _ _).drew
            | exact HS2.out _ (below_seq (And.left (by assumption)) e1)
            | exact HS2.out _ (below_seq (And.left (by assumption)) e2)) (first
            | (go_at_call 72; with_reducible refine Calls.mono (hwl _ (And.left (by assumption))) ?_; rintro e w3 ⟨rfl,e1⟩)
            | (go_at_call 73; with_reducible refine Calls.mono (hah _) ?_; rintro e w4 ⟨rfl,e2⟩))
           have hbw : Below W2.heap.size W2 w4:=And.left (by assumption)
           clear e1 e2
           clear HS2 hah hq1 hq2 kp hp hpL
           have HBW:=Hid.mk hbw
           have HSQ : Hid (∀ w',Below W2.heap.size W2 w' → w'.cell? ⟨wr.heap.size,1,none⟩ = some (.int .i64 u.seq) ∧ w'.cell? ⟨w.heap.size,1,none⟩ = some (.slice (some ⟨b,off,none⟩) L.length cap)):=⟨fun w' h => ⟨(HS.out w' h).2.2.1,(HS.out w' h).2.2.2.2.2.2.2⟩⟩
           have HEl : Hid (∀ w' j y,Below W2.heap.size W2 w' → L[j]? = some y → w'.cell? ⟨b,off + j * 5 + 1,none⟩ = some (.int .i64 y.seq)):=⟨fun w' j y h hy => by
            obtain ⟨b',off',xa,xc,e,_,_,q1,_⟩:=(HL.out.s.at'.later (BW2.out.trans (h.mono BW2.out.size))).get j y hy
            injection e with e
            injection e with r1 r2 r3
            subst r1 r2
            exact q1⟩
           have HPR : Hid ((∀ i x,i < k → L[i]? = some x → ¬ x.seq = u.seq) → Pr next L (k + 1)):=⟨fun h => hV.out.next hu hok hah2 h⟩
           have HND : Hid (∀ j y,j < k → L[j]? = some y → y.seq = u.seq → ¬ RtB next L):=⟨fun j y hj hy e hr => hr.nd hj hy hu e⟩
           clear hbw HS hwl hV hu hum hsl zr zx vx bx hok hah2 hbad hb bwr
           try clear e1
           go_wp2_with fail
           clear f2 f3 f4 f4'
           try clear hHeld
           generalize wr.heap.size = gv at *
           go_loopw [5] (fun o wq => ∃ j : Nat,j ≤ k ∧ o = .int .i64 (j : Int) ∧ Hid (∀ i x,i < j → L[i]? = some x → ¬ x.seq = u.seq) ∧ Hid (Below W2.heap.size W2 wq)) (fun o _ => k - (intOf o).toNat)
           case atStart => exact ⟨0,Nat.zero_le _,rfl,⟨fun i x h => absurd h (Nat.not_lt_zero _)⟩,HBW⟩
           case round =>
            clear HBW
            obtain ⟨j,hj,rfl,HJ,hbq⟩:=hrel
            obtain ⟨y1,y2⟩:=HSQ.out _ hbq.out
            by_cases hjl : j < k
            ·have dj : decide ((j : Int) < (k : Int)) = true:=decide_eq_true (Int.ofNat_lt.2 hjl)
             have hjL : j < L.length:=Nat.lt_trans hjl hlt
             have kj : (j : Int) < (L.length : Int):=Int.ofNat_lt.2 hjL
             obtain ⟨y,hy⟩ : ∃ y,L[j]? = some y:=⟨L[j],List.getElem?_eq_getElem hjL⟩
             have cy:=HEl.out _ j y hbq.out hy
             have hwj : wrap64 ((j : Int) + 1) = ((j + 1 : Nat) : Int):=by have:=HLe.out; unfold wrap64; omega
             by_cases he : y.seq = u.seq
             ·have ds : (y.seq == u.seq) = true:=by rw [he]; exact beq_self_eq_true _
              have HN:=Hid.mk (HND.out j y hjl hy he)
              have BE:=BW2.out.trans (hbq.out.mono BW2.out.size)
              clear he hy HJ HPR HND HEl HSQ hj
              go_wp2_with fail
              go_region
              all_goals (
               go_wp2_with fail
               go_ret
               exact ⟨⟨false,rfl,by simp [HN.out]⟩,BE.drew⟩)
             ·have ds : (y.seq == u.seq) = false:=beq_eq_false_iff_ne.2 he
              have HJ2 : Hid (∀ i x,i < j + 1 → L[i]? = some x → ¬ x.seq = u.seq):=⟨fun i x hi hx => by
               by_cases e : i = j
               ·subst e; rw [hy] at hx; cases hx; exact he
               ·exact HJ.out i x (by omega) hx⟩
              clear he hy HJ HPR HND HEl HSQ
              go_wp2_with fail
              go_region
              all_goals (go_wp2_with fail)
              all_goals exact ⟨⟨j + 1,hjl,by first | (rw [hwj]; done) | go_num,HJ2,⟨hbq.out.drew⟩⟩,by first | (rw [hwj]; exact Nat.sub_lt_sub_left hjl (Nat.lt_succ_self j)) | (simp [intOf]; omega)⟩
            ·obtain rfl : j = k:=Nat.le_antisymm hj (Nat.le_of_not_lt hjl)
             have dj : decide ((j : Int) < (j : Int)) = false:=decide_eq_false (fun q => Int.lt_irrefl _ q)
             have HP1:=Hid.mk (HPR.out HJ.out)
             have HB1 : Hid (Below W1.heap.size W1 wr):=⟨below_seq HBR.out hbq.out⟩
             clear HJ HPR HND HEl HSQ hjl hbq HBR BW2
             go_wp2_with fail
             exact ⟨⟨j + 1,hlt,by first | (rw [hw1]; done) | go_num,HP1,HB1⟩,by first | (rw [hw1]; exact Nat.sub_lt_sub_left hlt (Nat.lt_succ_self j)) | (simp [intOf]; omega)⟩
          ·have ea : ahB x u = false:=by unfold ahB; simp [g5]
           rw [ea] at hah
           have HN : Hid (¬ RtB next L):=⟨fun hr => g5 (hr.srt.get (i:=p) (j:=k) (by omega) hx hu)⟩
           clear ea g5 hx hbad hV hu hum hsl zr zx vx bx hok
           go_wp2_with fail
           go_region_held3 (fun w' => Below W2.heap.size W2 w' ∧ w'.cell? ⟨wr.heap.size,0,none⟩ = some (str u.key) ∧ w'.cell? ⟨wr.heap.size,1,none⟩ = some (.int .i64 u.seq) ∧ w'.cell? ⟨wr.heap.size,2,none⟩ = some (.bool u.mkr) ∧ w'.cell? ⟨wr.heap.size,3,none⟩ = some (str u.data) ∧ w'.cell? ⟨wr.heap.size,4,none⟩ = some (.slice ma u.l.length mc) ∧ w'.cell? ⟨w.heap.size,0,none⟩ = some (.int .i64 next) ∧ w'.cell? ⟨w.heap.size,1,none⟩ = some (.slice (some ⟨b,off,none⟩) L.length cap) ∧ w'.cell? ⟨b,off + p * 5,none⟩ = some (str x.key) ∧ w'.cell? ⟨b,off + p * 5 + 1,none⟩ = some (.int .i64 x.seq) ∧ w'.cell? ⟨b,off + p * 5 + 2,none⟩ = some (.bool x.mkr) ∧ w'.cell? ⟨b,off + p * 5 + 3,none⟩ = some (str x.data) ∧ w'.cell? ⟨b,off + p * 5 + 4,none⟩ = some (.slice xa x.l.length xc)) (first
            | exact HS2.out _ (Below.refl _ _).drew
            | exact HS2.out _ (below_seq (And.left (by assumption)) e1)
            | exact HS2.out _ (below_seq (And.left (by assumption)) e2)) (first
            | (go_at_call 72; with_reducible refine Calls.mono (hwl _ (And.left (by assumption))) ?_; rintro e w3 ⟨rfl,e1⟩)
            | (go_at_call 73; with_reducible refine Calls.mono (hah _) ?_; rintro e w4 ⟨rfl,e2⟩))
           have hbw : Below W2.heap.size W2 w4:=And.left (by assumption)
           clear e1 e2
           go_wp2_with fail
           go_ret
           exact ⟨⟨false,rfl,by simp [HN.out]⟩,BW2.out.trans (hbw.mono BW2.out.size)⟩
      ·have hwl:=fun w' (hb' : Below W2.heap.size W2 w') => (hwl0 w' hb').mono (R':=fun e w'' => e = .returned (.bool false) ∧ Below w'.heap.size w' w'') (by
        rintro e w'' ⟨⟨t,rfl,ht⟩,hb''⟩
        refine ⟨?_,hb''⟩
        cases t with
        | false => rfl
        | true => exact absurd (ht.1 rfl) g1)
       have HN:=Hid.mk (hbad (fun h => g1 h.2.2))
       clear g1 hbad hV hu hum hsl zr zx vx bx hwl0
       go_wp2_with fail
       refine wp_region_held (S:=fun w' => Below W2.heap.size W2 w' ∧ w'.cell? ⟨wr.heap.size,0,none⟩ = some (str u.key) ∧ w'.cell? ⟨wr.heap.size,1,none⟩ = some (.int .i64 u.seq) ∧ w'.cell? ⟨wr.heap.size,2,none⟩ = some (.bool u.mkr) ∧ w'.cell? ⟨wr.heap.size,3,none⟩ = some (str u.data) ∧ w'.cell? ⟨wr.heap.size,4,none⟩ = some (.slice ma u.l.length mc) ∧ w'.cell? ⟨w.heap.size,0,none⟩ = some (.int .i64 next) ∧ w'.cell? ⟨w.heap.size,1,none⟩ = some (.slice (some ⟨b,off,none⟩) L.length cap)) (by kernel_rfl) ?_
       try (change wpAnyH _ _ _ _ _ _ _ _ (World.drew _))
       have hHeld:=HS.out _ (Below.refl W2.heap.size W2).drew
       refine tkd 0 32 (.agg #[str u.key,.int .i64 u.seq,.bool u.mkr,str u.data,.slice ma u.l.length mc]) ?_ ?_
       ·intro w' hSw
        obtain ⟨_,s0,s1,s2,s3,s4,s5',s6⟩:=hSw
        go_simp
       try simp only [Act.put,lyA,lyB,lyC]
       clear hHeld
       refine wpAnyH_ready (rs := [1]) (by kernel_rfl) (by simp) ?_
       refine AllReadyH.cons rfl (fun K hK => ?_) AllReadyH.nil
       rw [if_pos (by kernel_rfl)]
       refine call_step 33 rfl (by go_simp) (hwl _ (Below.refl W2.heap.size W2).drew) ?_
       intro w3 e1
       have hHeld:=HS.out w3 (below_seq (Below.refl _ _).drew e1)
       refine hK.out _ _ hHeld (fun _ => ?_)
       clear hK K
       try simp only [Act.put,lyA,lyB,lyC]
       refine tkd 2 34 (.bool true) ?_ ?_
       ·intro w' hSw
        obtain ⟨_,s0,s1,s2,s3,s4,s5',s6⟩:=hSw
        go_simp
       try simp only [Act.put,lyA,lyB,lyC]
       refine tkd 3 35 (.bool true) ?_ ?_
       ·intro w' hSw
        obtain ⟨_,s0,s1,s2,s3,s4,s5',s6⟩:=hSw
        go_simp
       try simp only [Act.put,lyA,lyB,lyC]
       refine take_u 4 36 rfl rfl (by kernel_rfl) (by kernel_rfl) (by kernel_rfl) (fun _ _ _ h => h) (by kernel_rfl) (by assumption) ?_
       try simp only [Act.put,lyA,lyB,lyC]
       refine take_u 5 37 rfl rfl (by kernel_rfl) (by kernel_rfl) (by kernel_rfl) (fun _ _ _ h => h) (by kernel_rfl) (by assumption) ?_
       try simp only [Act.put,lyA,lyB,lyC]
       refine take_u 6 38 rfl rfl (by kernel_rfl) (by kernel_rfl) (by kernel_rfl) (fun _ _ _ h => h) (by kernel_rfl) (by assumption) ?_
       try simp only [Act.put,lyA,lyB,lyC]
       refine tkd 7 39 (.bool true) ?_ ?_
       ·intro w' hSw
        obtain ⟨_,s0,s1,s2,s3,s4,s5',s6⟩:=hSw
        go_simp
       try simp only [Act.put,lyA,lyB,lyC]
       refine tkd 8 40 (.bool true) ?_ ?_
       ·intro w' hSw
        obtain ⟨_,s0,s1,s2,s3,s4,s5',s6⟩:=hSw
        go_simp
       try simp only [Act.put,lyA,lyB,lyC]
       refine take_u 9 41 rfl rfl (by kernel_rfl) (by kernel_rfl) (by kernel_rfl) (fun _ _ _ h => h) (by kernel_rfl) (by assumption) ?_
       try simp only [Act.put,lyA,lyB,lyC]
       refine take_u 10 42 rfl rfl (by kernel_rfl) (by kernel_rfl) (by kernel_rfl) (fun _ _ _ h => h) (by kernel_rfl) (by assumption) ?_
       try simp only [Act.put,lyA,lyB,lyC]
       refine take_u 11 43 rfl rfl (by kernel_rfl) (by kernel_rfl) (by kernel_rfl) (fun _ _ _ h => h) (by kernel_rfl) (by assumption) ?_
       try simp only [Act.put,lyA,lyB,lyC]
       refine take_u 12 44 rfl rfl (by kernel_rfl) (by kernel_rfl) (by kernel_rfl) (fun _ _ _ h => h) (by kernel_rfl) (by assumption) ?_
       try simp only [Act.put,lyA,lyB,lyC]
       refine take_u 13 45 rfl rfl (by kernel_rfl) (by kernel_rfl) (by kernel_rfl) (fun _ _ _ h => h) (by kernel_rfl) (by assumption) ?_
       try simp only [Act.put,lyA,lyB,lyC]
       refine tkd 14 46 (.bool true) ?_ ?_
       ·intro w' hSw
        obtain ⟨_,s0,s1,s2,s3,s4,s5',s6⟩:=hSw
        go_simp
       try simp only [Act.put,lyA,lyB,lyC]
       refine tkd 15 47 (.bool true) ?_ ?_
       ·intro w' hSw
        obtain ⟨_,s0,s1,s2,s3,s4,s5',s6⟩:=hSw
        go_simp
       try simp only [Act.put,lyA,lyB,lyC]
       refine take_u 16 48 rfl rfl (by kernel_rfl) (by kernel_rfl) (by kernel_rfl) (fun _ _ _ h => h) (by kernel_rfl) (by assumption) ?_
       try simp only [Act.put,lyA,lyB,lyC]
       refine take_u 17 49 rfl rfl (by kernel_rfl) (by kernel_rfl) (by kernel_rfl) (fun _ _ _ h => h) (by kernel_rfl) (by assumption) ?_
       try simp only [Act.put,lyA,lyB,lyC]
       refine take_u 18 50 rfl rfl (by kernel_rfl) (by kernel_rfl) (by kernel_rfl) (fun _ _ _ h => h) (by kernel_rfl) (by assumption) ?_
       try simp only [Act.put,lyA,lyB,lyC]
       refine take_u 19 51 rfl rfl (by kernel_rfl) (by kernel_rfl) (by kernel_rfl) (fun _ _ _ h => h) (by kernel_rfl) (by assumption) ?_
       try simp only [Act.put,lyA,lyB,lyC]
       refine take_u 20 52 rfl rfl (by kernel_rfl) (by kernel_rfl) (by kernel_rfl) (fun _ _ _ h => h) (by kernel_rfl) (by assumption) ?_
       try simp only [Act.put,lyA,lyB,lyC]
       refine take_u 21 53 rfl rfl (by kernel_rfl) (by kernel_rfl) (by kernel_rfl) (fun _ _ _ h => h) (by kernel_rfl) (by assumption) ?_
       try simp only [Act.put,lyA,lyB,lyC]
       refine take_u 22 54 rfl rfl (by kernel_rfl) (by kernel_rfl) (by kernel_rfl) (fun _ _ _ h => h) (by kernel_rfl) (by assumption) ?_
       try simp only [Act.put,lyA,lyB,lyC]
       refine take_u 23 55 rfl rfl (by kernel_rfl) (by kernel_rfl) (by kernel_rfl) (fun _ _ _ h => h) (by kernel_rfl) (by assumption) ?_
       try simp only [Act.put,lyA,lyB,lyC]
       refine take_u 24 56 rfl rfl (by kernel_rfl) (by kernel_rfl) (by kernel_rfl) (fun _ _ _ h => h) (by kernel_rfl) (by assumption) ?_
       try simp only [Act.put,lyA,lyB,lyC]
       refine take_u 25 57 rfl rfl (by kernel_rfl) (by kernel_rfl) (by kernel_rfl) (fun _ _ _ h => h) (by kernel_rfl) (by assumption) ?_
       try simp only [Act.put,lyA,lyB,lyC]
       refine take_u 26 58 rfl rfl (by kernel_rfl) (by kernel_rfl) (by kernel_rfl) (fun _ _ _ h => h) (by kernel_rfl) (by assumption) ?_
       try simp only [Act.put,lyA,lyB,lyC]
       refine take_u 27 59 rfl rfl (by kernel_rfl) (by kernel_rfl) (by kernel_rfl) (fun _ _ _ h => h) (by kernel_rfl) (by assumption) ?_
       try simp only [Act.put,lyA,lyB,lyC]
       refine take_u 28 60 rfl rfl (by kernel_rfl) (by kernel_rfl) (by kernel_rfl) (fun _ _ _ h => h) (by kernel_rfl) (by assumption) ?_
       try simp only [Act.put,lyA,lyB,lyC]
       refine tkd 29 61 (.bool true) ?_ ?_
       ·intro w' hSw
        obtain ⟨_,s0,s1,s2,s3,s4,s5',s6⟩:=hSw
        go_simp
       try simp only [Act.put,lyA,lyB,lyC]
       refine wpAnyH_done (by kernel_rfl) ?_ _
       have hbw : Below W2.heap.size W2 w3:=hHeld.1
       go_wp2_with fail
       go_ret
       exact ⟨⟨false,rfl,by simp [HN.out]⟩,BW2.out.trans (hbw.mono BW2.out.size)⟩
     ·obtain rfl : k = L.length:=Nat.le_antisymm hk (Nat.le_of_not_lt hlt)
      have d1 : decide ((L.length : Int) < (L.length : Int)) = false:=decide_eq_false (fun q => Int.lt_irrefl _ q)
      have hby:=qBytes_any L next wr a _ cap (HL.out.later bwr)
      have HBW:=Hid.mk bwr
      by_cases g3 : bw L ≤ 65536
      ·have f3 : decide (bw L ≤ 65536) = true:=decide_eq_true g3
       have HG : Hid (RtB next L):=⟨HR.out hV.out g3⟩
       clear g3 hV zr hb bwr
       generalize bw L = BL at *
       go_wp2_with (go_at_call 74; refine hby.mono ?_; rintro e w5 ⟨rfl,e5⟩)
       go_ret
       exact ⟨⟨true,rfl,by simp [HG.out]⟩,below_seq HBW.out e5⟩
      ·have f3 : decide (bw L ≤ 65536) = false:=decide_eq_false g3
       have HG : Hid (¬ RtB next L):=⟨fun h => g3 h.byt⟩
       clear g3 hV zr hb bwr
       generalize bw L = BL at *
       go_wp2_with (go_at_call 74; refine hby.mono ?_; rintro e w5 ⟨rfl,e5⟩)
       go_ret
       exact ⟨⟨false,rfl,by simp [HG.out]⟩,below_seq HBW.out e5⟩
end Go.Proofs.YtdfjlmfnkhhnjaaGreatDoor.Stk
