import Derived.Test.YtdfjlmfnkhhnjaaGreatDoorGr
import Derived.Test.YtdfjlmfnkhhnjaaGreatDoorZe
import Derived.Test.YtdfjlmfnkhhnjaaGreatDoorZg
set_option maxRecDepth 100000
set_option linter.unusedVariables false
set_option linter.unusedSimpArgs false
namespace Go.Proofs.YtdfjlmfnkhhnjaaGreatDoor.Stk
section
open Go.ChangeShapes Go.WideShapes Go.ChangeAt Go.RowKit
theorem cells4t : Tryz.prog.cellsOf 4 = 1:=by kernel_rfl
theorem cells2t : Tryz.prog.cellsOf 2 = 1:=by kernel_rfl
theorem cellsEs : Tryz.prog.cellsOf 43 = 1:=by kernel_rfl
theorem cellsV : Tryz.prog.cellsOf 62 = 5:=by kernel_rfl
theorem undV : ∃ f0 f1 f2 f3 f4 : Field,Tryz.prog.underlying 62 = some (.struct #[f0,f1,f2,f3,f4]) ∧ (f0.type = 9 ∧ f1.type = 2 ∧ f2.type = 4 ∧ f3.type = 9 ∧ f4.type = 43) ∧ (f0.offset = 0 ∧ f1.offset = 1 ∧ f2.offset = 2 ∧ f3.offset = 3 ∧ f4.offset = 4):=by
 refine ⟨_,_,_,_,_,Tryz.underlying62,⟨rfl,rfl,rfl,rfl,rfl⟩,rfl,rfl,rfl,rfl,rfl⟩
theorem bytesV : Tryz.prog.bytesOf 62 = 72:=by kernel_rfl
theorem ver_at {H : Type} {enc : TypeId × Value → H} {W : World} {fuel : Nat} {cs : List Value} {d : DataW H} {pl : List MemPlace} (h : DataW.trod enc Tryz.prog W 0 (fun _ => true) true fuel 62 cs = some (d,pl)) (hlen : cs.length = 5) (hw : ∀ n ∈ d.weights Tryz.prog 62,n ≤ 140737488351232) :
  ∃ (o : Vs) (a : Option Addr) (c : Nat),cs = [str o.key,.int .i64 o.seq,.bool o.mkr,str o.data,.slice a o.l.length c] ∧ Sl W a c o.l ∧ o.l.length ≤ 4398046510976 ∧ Pz o.l:=by
 obtain ⟨f0,f1,f2,f3,f4,hu,⟨t0,t1,t2,t3,t4⟩,o0,o1,o2,o3,o4⟩:=undV
 obtain ⟨xs,n',_,hxd,_,hxl,hfs⟩:=DataW.trod_struct hu h
 match xs,hxl,cs,hlen with
 | [y0,y1,y2,y3,y4],_,[v0,v1,v2,v3,v4],_ =>
  have g0:=hfs 0 f0 rfl
  have g1:=hfs 1 f1 rfl
  have g2:=hfs 2 f2 rfl
  have g3:=hfs 3 f3 rfl
  have g4:=hfs 4 f4 rfl
  simp [o0,o1,o2,o3,o4,t0,t1,t2,t3,t4,cells9t,cells2t,cells4t,cellsEs] at g0 g1 g2 g3 g4
  obtain ⟨s0,e0,ye0,hs0⟩:=DataW.trod_string Tryz.underlying9 g0
  obtain ⟨s1,e1,ye1,hs1⟩:=DataW.trod_int Tryz.underlying2 g1
  obtain ⟨s2,e2,ye2⟩:=DataW.trod_bool Tryz.underlying4 g2
  obtain ⟨s3,e3,ye3,hs3⟩:=DataW.trod_string Tryz.underlying9 g3
  have h4 : ∃ a len cap,v4 = .slice a len cap:=by
   rcases Go.Deep.open_slice Tryz.underlying43 g4 with ⟨hcs,_⟩ | ⟨x,l,c,m,n,D,Pl,hcs,_⟩
   ·simp at hcs; exact ⟨_,_,_,hcs⟩
   ·simp at hcs; exact ⟨_,_,_,hcs⟩
  obtain ⟨a,len,cap,rfl⟩:=h4
  simp at e0 e1 e2 e3
  subst e0 e1 e2 e3
  have hDe : d = .agg [y0.1,y1.1,y2.1,y3.1,y4.1]:=congrArg Prod.fst hxd
  have hws : ∀ n ∈ DataW.weightsEach Tryz.prog [9,2,4,9,43] [y0.1,y1.1,y2.1,y3.1,y4.1],n ≤ 140737488351232:=by
   intro n hn
   refine hw n ?_
   rw [hDe]
   simp only [DataW.weights,hu]
   simpa [t0,t1,t2,t3,t4] using hn
  have hz0 : s0.size ≤ 140737488351232:=by
   refine hws _ (DataW.weights_mem_each (j:=0) rfl rfl _ ?_)
   rw [ye0]
   show s0.size ∈ [s0.data.toList.length]
   simp
  have hz3 : s3.size ≤ 140737488351232:=by
   refine hws _ (DataW.weights_mem_each (j:=3) rfl rfl _ ?_)
   rw [ye3]
   show s3.size ∈ [s3.data.toList.length]
   simp
  have hw4 : ∀ n ∈ y4.1.weights Tryz.prog 43,n ≤ 140737488351232:=fun n hn => hws n (DataW.weights_mem_each (j:=4) rfl rfl _ hn)
  have T4 : DataW.Trod enc Tryz.prog W 0 (fun _ => true) true 43 (.slice a len cap) y4.1 y4.2:=⟨n',by simpa [Value.cells] using g4⟩
  obtain ⟨L,hl,⟨i1,i2⟩,rd⟩:=ents_in T4 hw4
  subst hl
  refine ⟨⟨s0.data.toList,s1,s2,s3.data.toList,L⟩,a,cap,by simp [str],⟨i1,(ents_sl T4).1,(ents_sl T4).2.1,(ents_sl T4).2.2⟩,ents_in_len rd hw4,fun k e hk => ⟨Nat.le_trans (i2 k e hk).1 (by decide),Nat.le_trans (i2 k e hk).2 (by decide)⟩⟩
theorem vers_in {H : Type} {enc : TypeId × Value → H} {W : World} {a : Option Addr} {len cap : Nat} {d : DataW H} {p : List MemPlace} (h : DataW.Trod enc Tryz.prog W 0 (fun _ => true) true 22 (.slice a len cap) d p) (hw : ∀ n ∈ d.weights Tryz.prog 22,n ≤ 140737488351232) :
  ∃ L : List Vs,L.length = len ∧ (LIn W a L ∧ (∀ (k : Nat) (e : Vs),L[k]? = some e → e.l.length ≤ 4398046510976 ∧ Pz e.l)) ∧ Reads d len:=by
 obtain ⟨fuel,hf⟩:=h
 rcases Go.Deep.open_slice Tryz.underlying22 hf with ⟨hcs,_⟩ | ⟨x,l,c,m,n,D,Pl,hcs,_,hl,hm,hmm,hx,hel⟩
 ·simp [Value.cells] at hcs
  obtain ⟨rfl,rfl,rfl⟩:=hcs
  exact ⟨[],rfl,⟨⟨fun k p hk => by simp at hk⟩,fun k p hk => by simp at hk⟩,.inl rfl⟩
 ·simp [Value.cells] at hcs
  obtain ⟨rfl,rfl,rfl⟩:=hcs
  have hmc : m = cap:=by simpa using hmm
  have hd : d = .slice ((List.range len).map D) ((List.range (m - len)).map fun j => D (len + j)):=congrArg Prod.fst hx
  have hwe : ∀ k,k < len → ∀ n ∈ (D k).weights Tryz.prog 62,n ≤ 140737488351232:=by
   intro k hk n hn
   refine hw n ?_
   rw [hd]
   simp only [DataW.weights,Tryz.underlying22]
   exact List.mem_cons_of_mem _ (List.mem_append_left _ (weightsAll_mem (List.mem_map.2 ⟨k,List.mem_range.2 hk,rfl⟩) n hn))
  obtain ⟨b,off,spot⟩:=x
  have key : ∀ k,∃ o : Xv,k < len → (spot = none ∧ b < W.heap.size ∧ At5 W b off k o ∧ Sl W o.a o.c o.v.l ∧ o.v.l.length ≤ 4398046510976 ∧ Pz o.v.l):=by
   intro k
   by_cases hk : k < len
   ·obtain ⟨cs',h1,h2⟩:=hel k (by omega)
    rw [cellsV] at h1
    obtain ⟨_,hlen,hcell⟩:=World.cells?_some h1
    have hwk:=hwe k hk
    have hspot : spot = none:=by
     obtain ⟨cs0,h10,_⟩:=hel 0 (by omega)
     rw [cellsV] at h10
     obtain ⟨_,hlen0,hcell0⟩:=World.cells?_some h10
     match cs0,hlen0 with
     | [u0,u1,u2,u3,u4],_ =>
      have q0:=hcell0 0 (by omega)
      simpa [Addr.add] using World.cell?_spot q0
    subst hspot
    have hadd : ∀ j i,((⟨b,off,none⟩ : Addr).add j).add i = ⟨b,off + j + i,none⟩:=fun j i => by rw [addr_add,addr_add]
    obtain ⟨o,oa,oc,rfl,hr,hs⟩:=ver_at h2 hlen hwk
    have c0:=hcell 0 (by simp)
    have c1:=hcell 1 (by simp)
    have c2:=hcell 2 (by simp)
    have c3:=hcell 3 (by simp)
    have c4:=hcell 4 (by simp)
    rw [hadd] at c0 c1 c2 c3 c4
    exact ⟨⟨o,oa,oc⟩,fun _ => ⟨rfl,block_lt_of_cell c0,⟨by simpa using c0,by simpa using c1,by simpa using c2,by simpa using c3,by simpa using c4⟩,hr,hs⟩⟩
   ·exact ⟨⟨vs0,none,0⟩,fun h => absurd h hk⟩
  have hf:=fun k => Classical.choose_spec (key k)
  have hget : ∀ (k : Nat) (q : Vs),((List.range len).map fun k => (Classical.choose (key k)).v)[k]? = some q → k < len ∧ q = (Classical.choose (key k)).v:=fun k q hk => by
   have hkl : k < len:=by
    have:=(List.getElem?_eq_some_iff.1 hk).1
    simpa using this
   rw [List.getElem?_map,List.getElem?_range hkl] at hk
   exact ⟨hkl,(Option.some.inj hk).symm⟩
  refine ⟨(List.range len).map fun k => (Classical.choose (key k)).v,by simp,⟨⟨fun k q hk => ?_⟩,fun k q hk => ?_⟩,.inr ⟨_,_,hd,by simp⟩⟩
  ·obtain ⟨hkl,rfl⟩:=hget k q hk
   obtain ⟨h1,h2,h3,h4,h5⟩:=hf k hkl
   exact ⟨b,off,_,_,by rw [h1],h2,h3.1,h3.2.1,h3.2.2.1,h3.2.2.2.1,h3.2.2.2.2,h4⟩
  ·obtain ⟨hkl,rfl⟩:=hget k q hk
   obtain ⟨h1,h2,h3,h4,h5⟩:=hf k hkl
   exact h5
theorem vers_in_len {H : Type} {d : DataW H} {len : Nat} (h : Reads d len) (hw : ∀ n ∈ d.weights Tryz.prog 22,n ≤ 140737488351232) : len ≤ 1954687338211:=by
 rcases h with h0 | ⟨es,sp,he,hl⟩
 ·omega
 ·have:=hw ((es.length + sp.length) * Tryz.prog.bytesOf 62) (by rw [he]; simp only [DataW.weights,Tryz.underlying22]; exact List.mem_cons_self)
  rw [bytesV] at this
  omega
theorem vers_sl {H : Type} {enc : TypeId × Value → H} {W : World} {a : Option Addr} {len cap : Nat} {d : DataW H} {p : List MemPlace} (h : DataW.Trod enc Tryz.prog W 0 (fun _ => true) true 22 (.slice a len cap) d p) : len ≤ cap ∧ cap ≤ 9223372036854775807 ∧ (a = none → cap = 0):=by
 obtain ⟨fuel,hf⟩:=h
 rcases Go.Deep.open_slice Tryz.underlying22 hf with ⟨hcs,_⟩ | ⟨x,l,c,m,n,D,Pl,hcs,_,hl,hm,hmm,hx,hel⟩
 ·simp [Value.cells] at hcs
  obtain ⟨rfl,rfl,rfl⟩:=hcs
  exact ⟨by omega,by omega,fun _ => rfl⟩
 ·simp [Value.cells] at hcs
  obtain ⟨rfl,rfl,rfl⟩:=hcs
  exact ⟨hl,hm,fun q => by cases q⟩
theorem undB : ∃ f0 f1 : Field,Tryz.prog.underlying 24 = some (.struct #[f0,f1]) ∧ (f0.type = 2 ∧ f1.type = 22) ∧ (f0.offset = 0 ∧ f1.offset = 1):=by
 refine ⟨_,_,Tryz.underlying24,⟨rfl,rfl⟩,rfl,rfl⟩
theorem cellsB : Tryz.prog.cellsOf 24 = 2:=by kernel_rfl
theorem cellsVs : Tryz.prog.cellsOf 22 = 1:=by kernel_rfl
theorem undD : ∃ f0 f1 : Field,Tryz.prog.underlying 53 = some (.struct #[f0,f1]) ∧ (f0.type = 2 ∧ f1.type = 24) ∧ (f0.offset = 0 ∧ f1.offset = 1):=by
 refine ⟨_,_,Tryz.underlying53,⟨rfl,rfl⟩,rfl,rfl⟩
theorem cellsD : Tryz.prog.cellsOf 53 = 3:=by kernel_rfl
end
section
open Go.ChangeShapes Go.WideShapes Go.ChangeAt Go.RowKit
theorem bulk_pos {H : Type} (d : DataW H) : 1 ≤ Rows.uptoBulk d:=by
 cases d with
 | lit l => cases l <;> simp [Rows.uptoBulk]
 | _ => simp [Rows.uptoBulk]
theorem bulk_len {H : Type} : ∀ l : List (DataW H),l.length ≤ Rows.uptoBulkAll l
 | [] => Nat.zero_le _
 | d :: r => by
  have:=bulk_len r
  have:=bulk_pos d
  simp only [Rows.uptoBulkAll,List.length_cons]
  omega
theorem bulk_mem {H : Type} : ∀ {l : List (DataW H)} {d : DataW H},d ∈ l → Rows.uptoBulk d ≤ Rows.uptoBulkAll l
 | x :: r,d,h => by
  simp only [Rows.uptoBulkAll]
  rcases List.mem_cons.1 h with rfl | h
  ·omega
  ·have:=bulk_mem h; omega
theorem reads_bulk {H : Type} {d : DataW H} {len : Nat} (h : Reads d len) : len ≤ Rows.uptoBulk d:=by
 rcases h with h0 | ⟨es,sp,he,hl⟩
 ·omega
 ·have:=bulk_len es
  rw [he]
  simp only [Rows.uptoBulk]
  omega
theorem w_all {H : Type} {t : TypeId} {C : Nat} (h : ∀ (d : DataW H),∀ n ∈ d.weights Tryz.prog t,n ≤ C * Rows.uptoBulk d) : ∀ (l : List (DataW H)),∀ n ∈ DataW.weightsAll Tryz.prog t l,n ≤ C * Rows.uptoBulkAll l
 | [],n,hn => by simp [DataW.weightsAll] at hn
 | d :: r,n,hn => by
  simp only [DataW.weightsAll,List.mem_append] at hn
  simp only [Rows.uptoBulkAll,Nat.mul_add]
  rcases hn with q | q
  ·have:=h d n q; omega
  ·have:=w_all h r n q; omega
theorem w_each {H : Type} {C : Nat} : ∀ (ts : List TypeId),(∀ t ∈ ts,∀ (d : DataW H),∀ n ∈ d.weights Tryz.prog t,n ≤ C * Rows.uptoBulk d) → ∀ (l : List (DataW H)),∀ n ∈ DataW.weightsEach Tryz.prog ts l,n ≤ C * Rows.uptoBulkAll l
 | [],_,l,n,hn => by simp [DataW.weightsEach] at hn
 | t :: ts,h,[],n,hn => by simp [DataW.weightsEach] at hn
 | t :: ts,h,d :: r,n,hn => by
  simp only [DataW.weightsEach,List.mem_append] at hn
  simp only [Rows.uptoBulkAll,Nat.mul_add]
  rcases hn with q | q
  ·have:=h t List.mem_cons_self d n q; omega
  ·have:=w_each ts (fun t' ht' => h t' (List.mem_cons_of_mem _ ht')) r n q; omega
theorem w_str {H : Type} (d : DataW H) : ∀ n ∈ d.weights Tryz.prog 9,n ≤ 32 * Rows.uptoBulk d:=by
 intro n hn
 cases d with
 | lit l => cases l <;> simp [DataW.weights] at hn; simp [Rows.uptoBulk]; omega
 | _ => simp [DataW.weights,Tryz.underlying9] at hn
theorem w_int {H : Type} (d : DataW H) : ∀ n ∈ d.weights Tryz.prog 2,n ≤ 32 * Rows.uptoBulk d:=by
 intro n hn
 cases d with
 | lit l => cases l <;> simp [DataW.weights] at hn; simp [Rows.uptoBulk]; omega
 | _ => simp [DataW.weights,Tryz.underlying2] at hn
theorem w_bool {H : Type} (d : DataW H) : ∀ n ∈ d.weights Tryz.prog 4,n ≤ 32 * Rows.uptoBulk d:=by
 intro n hn
 cases d with
 | lit l => cases l <;> simp [DataW.weights] at hn; simp [Rows.uptoBulk]; omega
 | _ => simp [DataW.weights,Tryz.underlying4] at hn
theorem w_ent {H : Type} (d : DataW H) : ∀ n ∈ d.weights Tryz.prog 49,n ≤ 32 * Rows.uptoBulk d:=by
 intro n hn
 obtain ⟨f0,f1,hu,⟨t0,t1⟩,_⟩:=undE
 cases d with
 | lit l => cases l <;> simp [DataW.weights] at hn; simp [Rows.uptoBulk]; omega
 | agg ps =>
  simp only [DataW.weights,hu] at hn
  have:=w_each (C:=32) [9,9] (fun t ht d => by simp at ht; subst ht; exact w_str d) ps n (by simpa [t0,t1] using hn)
  simp only [Rows.uptoBulk]
  omega
 | _ => simp [DataW.weights,hu] at hn
theorem w_ents {H : Type} (d : DataW H) : ∀ n ∈ d.weights Tryz.prog 43,n ≤ 32 * Rows.uptoBulk d:=by
 intro n hn
 cases d with
 | lit l => cases l <;> simp [DataW.weights] at hn; simp [Rows.uptoBulk]; omega
 | slice es sp =>
  simp only [DataW.weights,Tryz.underlying43,List.mem_cons,List.mem_append] at hn
  simp only [Rows.uptoBulk]
  rcases hn with q | q | q
  ·rw [bytesE] at q
   have:=bulk_len es
   have:=bulk_len sp
   omega
  ·have:=w_all w_ent es n q; omega
  ·have:=w_all w_ent sp n q; omega
 | _ => simp [DataW.weights,Tryz.underlying43] at hn
theorem w_ver {H : Type} (d : DataW H) : ∀ n ∈ d.weights Tryz.prog 62,n ≤ 72 * Rows.uptoBulk d:=by
 intro n hn
 obtain ⟨f0,f1,f2,f3,f4,hu,⟨t0,t1,t2,t3,t4⟩,_⟩:=undV
 cases d with
 | lit l => cases l <;> simp [DataW.weights] at hn; simp [Rows.uptoBulk]; omega
 | agg ps =>
  simp only [DataW.weights,hu] at hn
  have:=w_each (C:=72) [9,2,4,9,43] (fun t ht d n hn => by
   simp at ht
   have : n ≤ 32 * Rows.uptoBulk d:=by
    rcases ht with rfl | rfl | rfl | rfl | rfl
    ·exact w_str d n hn
    ·exact w_int d n hn
    ·exact w_bool d n hn
    ·exact w_str d n hn
    ·exact w_ents d n hn
   omega) ps n (by simpa [t0,t1,t2,t3,t4] using hn)
  simp only [Rows.uptoBulk]
  omega
 | _ => simp [DataW.weights,hu] at hn
theorem w_vers {H : Type} (d : DataW H) : ∀ n ∈ d.weights Tryz.prog 22,n ≤ 72 * Rows.uptoBulk d:=by
 intro n hn
 cases d with
 | lit l => cases l <;> simp [DataW.weights] at hn; simp [Rows.uptoBulk]; omega
 | slice es sp =>
  simp only [DataW.weights,Tryz.underlying22,List.mem_cons,List.mem_append] at hn
  simp only [Rows.uptoBulk]
  rcases hn with q | q | q
  ·rw [bytesV] at q
   have:=bulk_len es
   have:=bulk_len sp
   omega
  ·have:=w_all w_ver es n q; omega
  ·have:=w_all w_ver sp n q; omega
 | _ => simp [DataW.weights,Tryz.underlying22] at hn
theorem w_bkt {H : Type} (d : DataW H) : ∀ n ∈ d.weights Tryz.prog 24,n ≤ 72 * Rows.uptoBulk d:=by
 intro n hn
 obtain ⟨f0,f1,hu,⟨t0,t1⟩,_⟩:=undB
 cases d with
 | lit l => cases l <;> simp [DataW.weights] at hn; simp [Rows.uptoBulk]; omega
 | agg ps =>
  simp only [DataW.weights,hu] at hn
  have:=w_each (C:=72) [2,22] (fun t ht d n hn => by
   simp at ht
   rcases ht with rfl | rfl
   ·have:=w_int d n hn; omega
   ·exact w_vers d n hn) ps n (by simpa [t0,t1] using hn)
  simp only [Rows.uptoBulk]
  omega
 | _ => simp [DataW.weights,hu] at hn
theorem w_dlt {H : Type} (d : DataW H) : ∀ n ∈ d.weights Tryz.prog 53,n ≤ 72 * Rows.uptoBulk d:=by
 intro n hn
 obtain ⟨f0,f1,hu,⟨t0,t1⟩,_⟩:=undD
 cases d with
 | lit l => cases l <;> simp [DataW.weights] at hn; simp [Rows.uptoBulk]; omega
 | agg ps =>
  simp only [DataW.weights,hu] at hn
  have:=w_each (C:=72) [2,24] (fun t ht d n hn => by
   simp at ht
   rcases ht with rfl | rfl
   ·have:=w_int d n hn; omega
   ·exact w_bkt d n hn) ps n (by simpa [t0,t1] using hn)
  simp only [Rows.uptoBulk]
  omega
 | _ => simp [DataW.weights,hu] at hn
theorem bkt_atU {H : Type} {enc : TypeId × Value → H} {W : World} {fuel : Nat} {cs : List Value} {d : DataW H} {pl : List MemPlace} (h : DataW.trod enc Tryz.prog W 0 (fun _ => true) true fuel 24 cs = some (d,pl)) (hlen : cs.length = 2) (hw : ∀ n ∈ d.weights Tryz.prog 24,n ≤ 140737488351232) :
  ∃ (next : Int) (L : List Vs) (a : Option Addr) (c : Nat),cs = [.int .i64 next,.slice a L.length c] ∧ Li W L a L.length c ∧ (∀ u ∈ L,Pz u.l) ∧ L.length ≤ Rows.uptoBulk d:=by
 obtain ⟨f0,f1,hu,⟨t0,t1⟩,o0,o1⟩:=undB
 obtain ⟨xs,n',_,hxd,_,hxl,hfs⟩:=DataW.trod_struct hu h
 match xs,hxl,cs,hlen with
 | [y0,y1],_,[v0,v1],_ =>
  have g0:=hfs 0 f0 rfl
  have g1:=hfs 1 f1 rfl
  simp [o0,o1,t0,t1,cells2t,cellsVs] at g0 g1
  obtain ⟨s0,e0,ye0,hs0⟩:=DataW.trod_int Tryz.underlying2 g0
  have h4 : ∃ a len cap,v1 = .slice a len cap:=by
   rcases Go.Deep.open_slice Tryz.underlying22 g1 with ⟨hcs,_⟩ | ⟨x,l,c,m,n,D,Pl,hcs,_⟩
   ·simp at hcs; exact ⟨_,_,_,hcs⟩
   ·simp at hcs; exact ⟨_,_,_,hcs⟩
  obtain ⟨a,len,cap,rfl⟩:=h4
  simp at e0
  subst e0
  have hDe : d = .agg [y0.1,y1.1]:=congrArg Prod.fst hxd
  have hw1 : ∀ n ∈ y1.1.weights Tryz.prog 22,n ≤ 140737488351232:=fun n hn => by
   refine hw n ?_
   rw [hDe]
   simp only [DataW.weights,hu]
   have:=DataW.weights_mem_each (P:=Tryz.prog) (ts := [2,22]) (ds := [y0.1,y1.1]) (j:=1) rfl rfl n hn
   simpa [t0,t1] using this
  have T1 : DataW.Trod enc Tryz.prog W 0 (fun _ => true) true 22 (.slice a len cap) y1.1 y1.2:=⟨n',by simpa [Value.cells] using g1⟩
  obtain ⟨L,hl,⟨i1,i2⟩,rd⟩:=vers_in T1 hw1
  subst hl
  have hm : ∀ u ∈ L,u.l.length ≤ 4398046510976 ∧ Pz u.l:=fun u hu => by
   obtain ⟨kk,hkk,e⟩:=List.getElem_of_mem hu
   exact i2 kk u (by rw [List.getElem?_eq_getElem hkk,e])
  exact ⟨s0,L,a,cap,rfl,⟨rfl,⟨i1,(vers_sl T1).1,(vers_sl T1).2.1,(vers_sl T1).2.2⟩,by have:=vers_in_len rd hw1; omega,fun u hu => (hm u hu).1⟩,fun u hu => (hm u hu).2,by have:=reads_bulk rd; rw [hDe]; simp only [Rows.uptoBulk,Rows.uptoBulkAll]; omega⟩
theorem dlt_atU {H : Type} {enc : TypeId × Value → H} {W : World} {fuel : Nat} {cs : List Value} {d : DataW H} {pl : List MemPlace} (h : DataW.trod enc Tryz.prog W 0 (fun _ => true) true fuel 53 cs = some (d,pl)) (hlen : cs.length = 3) (hw : ∀ n ∈ d.weights Tryz.prog 53,n ≤ 140737488351232) :
  ∃ (since next : Int) (L : List Vs) (a : Option Addr) (c : Nat),cs = [.int .i64 since,.int .i64 next,.slice a L.length c] ∧ Li W L a L.length c ∧ (∀ u ∈ L,Pz u.l) ∧ L.length ≤ Rows.uptoBulk d:=by
 obtain ⟨f0,f1,hu,⟨t0,t1⟩,o0,o1⟩:=undD
 obtain ⟨xs,n',_,hxd,_,hxl,hfs⟩:=DataW.trod_struct hu h
 match xs,hxl,cs,hlen with
 | [y0,y1],_,[v0,v1,v2],_ =>
  have g0:=hfs 0 f0 rfl
  have g1:=hfs 1 f1 rfl
  simp [o0,o1,t0,t1,cells2t,cellsB] at g0 g1
  obtain ⟨s0,e0,ye0,hs0⟩:=DataW.trod_int Tryz.underlying2 g0
  simp at e0
  subst e0
  have hDe : d = .agg [y0.1,y1.1]:=congrArg Prod.fst hxd
  have hw1 : ∀ n ∈ y1.1.weights Tryz.prog 24,n ≤ 140737488351232:=fun n hn => by
   refine hw n ?_
   rw [hDe]
   simp only [DataW.weights,hu]
   have:=DataW.weights_mem_each (P:=Tryz.prog) (ts := [2,24]) (ds := [y0.1,y1.1]) (j:=1) rfl rfl n hn
   simpa [t0,t1] using this
  obtain ⟨next,L,a,c,hcs,h1,h2⟩:=bkt_atU g1 rfl hw1
  simp at hcs
  obtain ⟨rfl,rfl⟩:=hcs
  exact ⟨s0,next,L,a,c,rfl,h1,h2.1,by have:=h2.2; rw [hDe]; simp only [Rows.uptoBulk,Rows.uptoBulkAll]; omega⟩
theorem dlt_inU {H : Type} {enc : TypeId × Value → H} {W : World} {base : Nat} {v : Value} {d : DataW H} {p : List MemPlace} (hv : Value.okWide Tryz.prog W .any base 53 v) (h : DataW.Trod enc Tryz.prog W 0 (fun _ => true) true 53 v d p) (hw : ∀ n ∈ d.weights Tryz.prog 53,n ≤ 140737488351232) :
  ∃ (since next : Int) (L : List Vs) (a : Option Addr) (c : Nat),v = dv since next a L.length c ∧ Li W L a L.length c ∧ (∀ u ∈ L,Pz u.l) ∧ L.length ≤ Rows.uptoBulk d:=by
 obtain ⟨f0,f1,hu,_⟩:=undD
 obtain ⟨cs,rfl,hc⟩:=okWide_struct hu hv
 rw [cellsD] at hc
 obtain ⟨fuel,hf⟩:=h
 obtain ⟨since,next,L,a,c,ho,h1,h2⟩:=dlt_atU hf (by simpa [Value.cells] using hc) hw
 refine ⟨since,next,L,a,c,?_,h1,h2⟩
 have : cs = #[.int .i64 since,.int .i64 next,.slice a L.length c]:=by
  apply Array.ext'
  simpa [Value.cells] using ho
 rw [this]
end
end Go.Proofs.YtdfjlmfnkhhnjaaGreatDoor.Stk
namespace Go.Proofs.YtdfjlmfnkhhnjaaGreatDoor
open Go.ChangeShapes Go.WideShapes Go.ChangeAt Go.RowKit
open Stk (undD undB cells2t cellsB cellsVs)
theorem bulk_dlt {H : Type} {enc : TypeId × Value → H} {W : World} {d : DataW H} {p : List MemPlace} (h : DataW.Trod enc Tryz.prog W 0 (fun _ => true) true 53 (.agg #[.int .i64 0,.int .i64 0,.slice none 0 0]) d p) : Rows.uptoBulk d ≤ 64:=by
 obtain ⟨fuel,hf⟩:=h
 obtain ⟨f0,f1,hu,⟨t0,t1⟩,o0,o1⟩:=undD
 obtain ⟨xs,n',_,hxd,_,hxl,hfs⟩:=DataW.trod_struct hu hf
 match xs,hxl with
 | [y0,y1],_ =>
  have g0:=hfs 0 f0 rfl
  have g1:=hfs 1 f1 rfl
  simp [o0,o1,t0,t1,cells2t,cellsB,Value.cells] at g0 g1
  obtain ⟨s0,e0,ye0,hs0⟩:=DataW.trod_int Tryz.underlying2 g0
  obtain ⟨b0,b1,hu2,⟨u0,u1⟩,q0,q1⟩:=undB
  obtain ⟨zs,m',_,hzd,_,hzl,hgs⟩:=DataW.trod_struct hu2 g1
  match zs,hzl with
  | [z0,z1],_ =>
   have k0:=hgs 0 b0 rfl
   have k1:=hgs 1 b1 rfl
   simp [q0,q1,u0,u1,cells2t,cellsVs] at k0 k1
   obtain ⟨s1,e1,ze0,hs1⟩:=DataW.trod_int Tryz.underlying2 k0
   have hz1 : Rows.uptoBulk z1.1 ≤ 32:=by
    rcases Go.Deep.open_slice Tryz.underlying22 k1 with ⟨_,e⟩ | ⟨x,l,c,m,n,D,Pl,hcs,_⟩
    ·have hd:=congrArg Prod.fst e
     simp at hd
     rw [hd]
     simp [Rows.uptoBulk]
    ·simp at hcs
   have hd:=congrArg Prod.fst hxd
   have hd2:=congrArg Prod.fst hzd
   have hy0:=congrArg Prod.fst ye0
   have hz0:=congrArg Prod.fst ze0
   simp at hd hd2 hy0 hz0
   rw [hd,hd2,hy0,hz0]
   simp [Rows.uptoBulk,Rows.uptoBulkAll]
   omega
end Go.Proofs.YtdfjlmfnkhhnjaaGreatDoor
