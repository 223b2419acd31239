import Derived.Test.YtdfjlmfnkhhnjaaGreatDoorZm
import Derived.Test.YtdfjlmfnkhhnjaaGreatDoorZn
import Derived.Test.YtdfjlmfnkhhnjaaGreatDoorGr
import Derived.Test.YtdfjlmfnkhhnjaaGreatDoorCards
import Derived.Test.YtdfjlmfnkhhnjaaGreatDoorTie
import Derived.SevenTiedAt
import Derived.JoinedCond
set_option maxRecDepth 100000
set_option linter.unusedVariables false
set_option linter.unusedSimpArgs false
namespace Go.Proofs.YtdfjlmfnkhhnjaaGreatDoor
open Go.ChangeShapes Go.WideShapes Go.ChangeAt Go.RowKit
open Go.ChangeMaps (open_string shut_string)
namespace deltaCodes
theorem lifted (os : Os) (started : os.Started) (H : Type) (enc : TypeId × Value → H) (F : Stop.Interp) :
  ReturnsInHanded {} Tryz.checked os 5 .any (fun w args => ((Rows.OpenSpec.upto Rows.deltaCodesSpec).pre enc Tryz.prog Tryz.f5 [] false w args ∧ laidMetH Tryz.prog laid1 w) ∧ sizedMet enc Tryz.prog Tryz.f5 (Rows.OpenSpec.upto Rows.deltaCodesSpec) false w args)
   (((Rows.OpenSpec.upto Rows.deltaCodesSpec).at F).post enc Tryz.prog Tryz.f5 false true false false):=by
 refine returnsInHanded_of_calls own started (by kernel_rfl) ?_ ?_
 ·obtain ⟨w,tape,i,h1,h2,h3,h4,⟨⟨⟨ds,gs,before,hw,hc⟩,hx⟩,hz⟩,hh⟩:=(wit_laid (enc:=enc) (s:=Rows.deltaCodesSpec) (fn:=Tryz.f5) (f:=5) (os:=os) (X:=fun w args => laidMetH Tryz.prog laid1 w ∧ args = #[.agg #[.int .i64 0,.int .i64 0,.slice none 0 0],.string ByteArray.empty]) false #[.agg #[.int .i64 0,.int .i64 0,.slice none 0 0],.string ByteArray.empty] 8 (World.shaped_of_ZipB (by kernel_rfl) (by kernel_rfl)) (by kernel_rfl) (by kernel_rfl) (by kernel_rfl) ⟨laidWorld_met os _,rfl⟩)
  refine ⟨w,tape,i,h1,h2,h3,h4,⟨⟨⟨ds,gs,before,hw,hc,?_⟩,hx.1⟩,hz⟩,hh⟩
  obtain ⟨p,q,hA0,hV,rfl,hfz,hnd⟩:=hw
  have hA : DataW.TrodAll enc Tryz.prog _ 0 (fun _ => true) true Tryz.f5.params.toList i.args.toList ds p:=hA0
  rw [hx.2,Tryz.params5] at hA
  obtain ⟨v0,vs0,d0,ds0,p0,q0,k0,rfl,rfl,g0,r0⟩:=trodAll_cons hA
  obtain ⟨v1,vs1,d1,ds1,p1,q1,k1,rfl,rfl,g1,r1⟩:=trodAll_cons r0
  obtain ⟨rfl,rfl,rfl⟩:=trodAll_nil r1
  obtain ⟨rfl,rfl⟩:=trodVars_none hV
  injection k0 with e0 s0
  rw [← s0] at k1
  injection k1 with e1 s1
  subst e0 e1
  have b0 : Rows.uptoBulk d0 ≤ 64:=bulk_dlt g0
  have b1 : Rows.uptoBulk d1 ≤ 64:=bulk_str g1
  show decide (Rows.uptoBulkAll ([d0,d1] ++ []) ≤ 1048576) = true
  simp [Rows.uptoBulkAll]
  omega
 intro w tape i _ _ _ hok hpre hholds
 obtain ⟨_,_,_,fn',hfn',_,_,_,_,hval0⟩:=hok
 have e : fn' = Tryz.f5:=Option.some.inj (hfn'.symm.trans Tryz.func5)
 subst e
 obtain ⟨⟨⟨ds,gs,before,hw,hc,hkk⟩,hx⟩,hz⟩:=hpre
 have hW:=DataW.Whole.of_heap (w':=w.forCall tape i) (by rfl) hw
 have hL : laidMetH Tryz.prog laid1 (w.forCall tape i):=hx.of_heap (by rfl)
 generalize w.forCall tape i = W at *
 generalize i.args = args at *
 have hval : ∀ (j : Nat) t v,Tryz.f5.params[j]? = some t → args[j]? = some v → Value.okWide Tryz.prog W .any w.heap.size t v:=hval0
 have hsz : True:=trivial
 have hbk : ∀ d ∈ ds ++ gs,Rows.uptoBulk d ≤ 1048576:=fun d hd => by
  have h9 : Rows.uptoBulkAll (ds ++ gs) ≤ 1048576:=of_decide_eq_true hkk
  have:=bulk_mem _ _ hd; omega
 have hW':=hW
 obtain ⟨p,q,hA0,hV,rfl,hfz,hnd⟩:=hW
 have hA : DataW.TrodAll enc Tryz.prog W 0 (fun _ => true) true Tryz.f5.params.toList args.toList ds p:=hA0
 rw [Tryz.params5] at hA hval
 obtain ⟨v0,vs0,d0,ds0,p0,q0,hargs,rfl,rfl,h0,r0⟩:=trodAll_cons hA
 obtain ⟨v1,vs1,d1,ds1,p1,q1,rfl,rfl,rfl,h1,r1⟩:=trodAll_cons r0
 obtain ⟨rfl,rfl,rfl⟩:=trodAll_nil r1
 obtain rfl : args = #[v0,v1]:=by cases args; simp_all
 obtain ⟨rfl,rfl⟩:=trodVars_none hV
 have kp0:=h0
 have lt0 : ∀ x ∈ p0,x.block < W.heap.size:=by obtain ⟨m,hm⟩:=kp0; exact DataW.trod_lt m _ _ _ hm
 obtain ⟨sc0,nx0,L0,ba0,bc0,rfl,li0,pz0,lb0⟩:=Stk.dlt_inU (hval 0 53 v0 rfl rfl) h0 (fun n hn => by have:=Stk.w_dlt d0 n hn; have:=hbk d0 (List.mem_of_getElem? (i:=0) rfl); omega)
 obtain ⟨a1,rfl,rfl,rfl,w1⟩:=open_string Tryz.underlying9 (hval 1 9 v1 rfl rfl) h1
 have z1 : a1.size ≤ 1048576:=by
  have:=hbk _ (List.mem_of_getElem? (i:=1) rfl)
  simp [Rows.uptoBulk] at this
  have e : a1.data.size = a1.size:=rfl
  omega
 have zl1 : a1.data.toList.length ≤ 1048576:=by rw [Array.length_toList]; exact z1
 have hwk:=codes_walk L0 sc0 nx0 ba0 bc0 a1.data.toList W li0 pz0 zl1 (tb_of_laid hL) (eg_of_laid hL) (kin_of_laid hL)
 simp only [str_of] at hwk
 refine hwk.mono fun e W' ⟨he,bel⟩ => ?_
 subst he
 exact ChangeSpec.post_blind ⟨_,_,_,[],_,[],hW',trodAll_mk1 (shut_bool Tryz.underlying4 _),(trodAll_cons_mk (Below.trod (P:=Tryz.prog) (by kernel_rfl) (by kernel_rfl) (of_decide_eq_true (by kernel_rfl)) kp0 bel lt0) (trodAll_cons_mk (shut_string Tryz.underlying9 w1) trodAll_mk0)),rfl,bel.frame _,fun h => by cases h⟩
theorem over : Rows.deltaCodesUptoRow.holds Tryz.pinned (Rows.OpenSpec.upto Rows.deltaCodesSpec) :=
 OpenClaim.holds_of_cond 5 Tryz.f5 rfl rfl rfl rfl rfl rfl rfl ⟨rfl,rfl,rfl,rfl,rfl⟩ rfl rfl rfl rfl rfl (by kernel_rfl) Tryz.func5 (by kernel_rfl)
  (of_decide_eq_true (by kernel_rfl)) (by unfold Func.isWrapper; first | (rw [if_pos (by decide +kernel)]; kernel_rfl) | (rw [if_neg (by decide +kernel)]; exact ⟨rfl,rfl⟩))
  (fun os started H enc _ F => lifted os started H enc F)
end deltaCodes
theorem deltaCodesUpto_holds : Rows.DeltaCodesUptoCardSaid :=
 Claim7.holds_tied_plain_at .later [] [.data, .data, .data, .sentinel, .sentinel, .data] true (true, "1f7bc10a3398bfafc9c3c34a537471f9313874a8fec548e5de881eec67be7add") true
  deltaCodes.over (fun _ h => by cases h) (by kernel_rfl) (fun _ h => by cases h) deltaCodesUpto_row_tie rfl ⟨rfl,rfl⟩ (by kernel_rfl) rfl
  (fun f fn hf hfn => by
   obtain rfl : f = 5 := Option.some.inj ((show Tryz.prog.funcNamed "coffer/cofferlaw19.DeltaCodes" = some 5 by kernel_rfl).symm.trans hf) |>.symm
   obtain rfl : fn = Tryz.f5:=(Option.some.inj (Tryz.func5.symm.trans hfn)).symm
   exact ⟨by kernel_rfl,fun j t ht => by
    rw [Tryz.params5] at ht
    have h3 : t = 53 ∨ t = 9:=by
     match j,ht with
     | 0,ht => have e : 53 = t:=(by simpa using ht); subst e; decide
     | 1,ht => have e : 9 = t:=(by simpa using ht); subst e; decide
     | j + 2,ht => exact absurd ht (by simp)
    rcases h3 with rfl | rfl
    all_goals (first | exact (show Tryz.prog.wantsStandIn 53 = false by kernel_rfl) | exact (show Tryz.prog.wantsStandIn 9 = false by kernel_rfl))⟩)
  (by kernel_rfl)
#print axioms deltaCodesUpto_holds
end Go.Proofs.YtdfjlmfnkhhnjaaGreatDoor
