import Derived.Test.YtdfjlmfnkhhnjaaGreatDoorGe
import Derived.Test.YtdfjlmfnkhhnjaaGreatDoorRows
import Derived.ProofKit
import Derived.OpenShut
import Derived.JoinedCond
import Derived.SizedLaws
import Derived.Deep.Slices
import Derived.Test.YtdfjlmfnkhhnjaaGreatDoorGk
import Derived.Test.YtdfjlmfnkhhnjaaGreatDoorGm
import Derived.Test.YtdfjlmfnkhhnjaaGreatDoorGu
import Derived.Test.YtdfjlmfnkhhnjaaGreatDoorGs
import Derived.Test.YtdfjlmfnkhhnjaaGreatDoorGd
import Derived.ShutString
import Derived.ChangeOld
import Derived.ChangeSame
import Derived.ChangeVars
import Derived.JoinedOf
import Derived.RowKit
import Derived.Carry
import Derived.LaidLaws
import Derived.LaidHandle
import Derived.Lib.LaidTab
import Derived.LaidSub
import Derived.Lay
import Derived.Stop.LaidErr
import Derived.Stop.Joined
set_option maxRecDepth 100000
set_option linter.unusedVariables false
set_option linter.unusedSimpArgs false
namespace Go.Proofs.YtdfjlmfnkhhnjaaGreatDoor
section
open Go.ChangeShapes Go.WideShapes Go.ChangeAt Go.RowKit
theorem own : ownKnob Tryz.prog.godebug = none:=by kernel_rfl
theorem cells9t : Tryz.prog.cellsOf 9 = 1:=by kernel_rfl
theorem bytesE : Tryz.prog.bytesOf 49 = 32:=by kernel_rfl
theorem cellsE : Tryz.prog.cellsOf 49 = 2:=by kernel_rfl
theorem undE : ∃ f0 f1 : Field,Tryz.prog.underlying 49 = some (.struct #[f0,f1]) ∧ (f0.type = 9 ∧ f1.type = 9) ∧ (f0.offset = 0 ∧ f1.offset = 1):=by
 refine ⟨_,_,Tryz.underlying49,⟨rfl,rfl⟩,rfl,rfl⟩
def Reads {H : Type} (d : DataW H) (len : Nat) : Prop:=len = 0 ∨ ∃ es sp,d = .slice es sp ∧ es.length = len
theorem weightsAll_mem {H : Type} {P : Program} {e : TypeId} : ∀ {l : List (DataW H)} {d : DataW H},d ∈ l → ∀ n ∈ d.weights P e,n ∈ DataW.weightsAll P e l
 | x :: r,d,h,n,hn => by
  simp only [DataW.weightsAll,List.mem_append]
  rcases List.mem_cons.1 h with rfl | h
  ·exact .inl hn
  ·exact .inr (weightsAll_mem h n hn)
theorem ent_at {H : Type} {enc : TypeId × Value → H} {W : World} {fuel : Nat} {cs : List Value} {d : DataW H} {pl : List MemPlace} (h : DataW.trod enc Tryz.prog W 0 (fun _ => true) true fuel 49 cs = some (d,pl)) (hlen : cs.length = 2) (hw : ∀ n ∈ d.weights Tryz.prog 49,n ≤ 140737488351232) :
  ∃ o : En,cs = [str o.key,str o.val] ∧ o.key.length ≤ 140737488351232 ∧ o.val.length ≤ 140737488351232:=by
 obtain ⟨f0,f1,hu,⟨t0,t1⟩,o0,o1⟩:=undE
 obtain ⟨xs,n',_,hxd,_,hxl,hfs⟩:=DataW.trod_struct hu h
 match xs,hxl,cs,hlen with
 | [y0,y1],_,[v0,v1],_ =>
  have g0:=hfs 0 f0 rfl
  have g1:=hfs 1 f1 rfl
  simp [o0,o1,t0,t1,cells9t] at g0 g1
  obtain ⟨s0,e0,ye0,hs0⟩:=DataW.trod_string Tryz.underlying9 g0
  obtain ⟨s,e1,ye,hs⟩:=DataW.trod_string Tryz.underlying9 g1
  simp at e0 e1
  subst e0 e1
  have hDe : d = .agg [y0.1,y1.1]:=congrArg Prod.fst hxd
  have hws : ∀ n ∈ DataW.weightsEach Tryz.prog [9,9] [y0.1,y1.1],n ≤ 140737488351232:=by
   intro n hn
   refine hw n ?_
   rw [hDe]
   simp only [DataW.weights,hu]
   simpa [t0,t1] using hn
  have hsz : s.size ≤ 140737488351232:=by
   refine hws _ (DataW.weights_mem_each (j:=1) rfl rfl _ ?_)
   rw [ye]
   show s.size ∈ [s.data.toList.length]
   simp
  have hsz0 : s0.size ≤ 140737488351232:=by
   refine hws _ (DataW.weights_mem_each (j:=0) rfl rfl _ ?_)
   rw [ye0]
   show s0.size ∈ [s0.data.toList.length]
   simp
  exact ⟨⟨s0.data.toList,s.data.toList⟩,by simp [str],by simpa using hsz0,by simpa using hsz⟩
theorem ents_in {H : Type} {enc : TypeId × Value → H} {W : World} {a : Option Addr} {len cap : Nat} {d : DataW H} {p : List MemPlace} (h : DataW.Trod enc Tryz.prog W 0 (fun _ => true) true 43 (.slice a len cap) d p) (hw : ∀ n ∈ d.weights Tryz.prog 43,n ≤ 140737488351232) :
  ∃ L : List En,L.length = len ∧ (PIn W a L ∧ (∀ (k : Nat) (e : En),L[k]? = some e → e.key.length ≤ 140737488351232 ∧ e.val.length ≤ 140737488351232)) ∧ Reads d len:=by
 obtain ⟨fuel,hf⟩:=h
 rcases Go.Deep.open_slice Tryz.underlying43 hf with ⟨hcs,_⟩ | ⟨x,l,c,m,n,D,Pl,hcs,_,hl,hm,hmm,hx,hel⟩
 ·simp [Value.cells] at hcs
  obtain ⟨rfl,rfl,rfl⟩:=hcs
  exact ⟨[],rfl,⟨⟨fun k p hk => by simp at hk⟩,fun k p hk => by simp at hk⟩,.inl rfl⟩
 ·simp [Value.cells] at hcs
  obtain ⟨rfl,rfl,rfl⟩:=hcs
  have hmc : m = cap:=by simpa using hmm
  have hd : d = .slice ((List.range len).map D) ((List.range (m - len)).map fun j => D (len + j)):=congrArg Prod.fst hx
  have hwe : ∀ k,k < len → ∀ n ∈ (D k).weights Tryz.prog 49,n ≤ 140737488351232:=by
   intro k hk n hn
   refine hw n ?_
   rw [hd]
   simp only [DataW.weights,Tryz.underlying43]
   exact List.mem_cons_of_mem _ (List.mem_append_left _ (weightsAll_mem (List.mem_map.2 ⟨k,List.mem_range.2 hk,rfl⟩) n hn))
  obtain ⟨b,off,spot⟩:=x
  have key : ∀ k,∃ o : En,k < len → (spot = none ∧ b < W.heap.size ∧ (W.cell? ⟨b,off + k * 2,none⟩ = some (str o.key) ∧ W.cell? ⟨b,off + k * 2 + 1,none⟩ = some (str o.val)) ∧ o.key.length ≤ 140737488351232 ∧ o.val.length ≤ 140737488351232):=by
   intro k
   by_cases hk : k < len
   ·obtain ⟨cs',h1,h2⟩:=hel k (by omega)
    rw [cellsE] at h1
    obtain ⟨_,hlen,hcell⟩:=World.cells?_some h1
    have hwk:=hwe k hk
    have hspot : spot = none:=by
     obtain ⟨cs0,h10,_⟩:=hel 0 (by omega)
     rw [cellsE] at h10
     obtain ⟨_,hlen0,hcell0⟩:=World.cells?_some h10
     match cs0,hlen0 with
     | [u0,u1],_ =>
      have q0:=hcell0 0 (by omega)
      simpa [Addr.add] using World.cell?_spot q0
    subst hspot
    have hadd : ∀ j i,((⟨b,off,none⟩ : Addr).add j).add i = ⟨b,off + j + i,none⟩:=fun j i => by rw [addr_add,addr_add]
    obtain ⟨o,rfl,hr,hs⟩:=ent_at h2 hlen hwk
    have c0:=hcell 0 (by simp)
    have c1:=hcell 1 (by simp)
    rw [hadd] at c0 c1
    exact ⟨o,fun _ => ⟨rfl,block_lt_of_cell c0,⟨by simpa using c0,by simpa using c1⟩,hr,hs⟩⟩
   ·exact ⟨⟨[],[]⟩,fun h => absurd h hk⟩
  have hf:=fun k => Classical.choose_spec (key k)
  have hget : ∀ (k : Nat) (q : En),((List.range len).map fun k => Classical.choose (key k))[k]? = some q → k < len ∧ q = Classical.choose (key k):=fun k q hk => by
   have hkl : k < len:=by
    have:=(List.getElem?_eq_some_iff.1 hk).1
    simpa using this
   rw [List.getElem?_map,List.getElem?_range hkl] at hk
   exact ⟨hkl,(Option.some.inj hk).symm⟩
  refine ⟨(List.range len).map fun k => Classical.choose (key k),by simp,⟨⟨fun k q hk => ?_⟩,fun k q hk => ?_⟩,.inr ⟨_,_,hd,by simp⟩⟩
  ·obtain ⟨hkl,rfl⟩:=hget k q hk
   obtain ⟨h1,h2,h3,h4⟩:=hf k hkl
   exact ⟨b,off,by rw [h1],h2,h3.1,h3.2⟩
  ·obtain ⟨hkl,rfl⟩:=hget k q hk
   obtain ⟨h1,h2,h3,h4⟩:=hf k hkl
   exact h4
theorem ents_in_len {H : Type} {d : DataW H} {len : Nat} (h : Reads d len) (hw : ∀ n ∈ d.weights Tryz.prog 43,n ≤ 140737488351232) : len ≤ 4398046510976:=by
 rcases h with h0 | ⟨es,sp,he,hl⟩
 ·omega
 ·have:=hw ((es.length + sp.length) * Tryz.prog.bytesOf 49) (by rw [he]; simp only [DataW.weights,Tryz.underlying43]; exact List.mem_cons_self)
  rw [bytesE] at this
  omega
theorem str_of (a : ByteArray) : str a.data.toList = .string a:=by simp [str]
end
section
open Go.ChangeShapes Go.WideShapes Go.ChangeAt Go.RowKit
theorem ents_sl {H : Type} {enc : TypeId × Value → H} {W : World} {a : Option Addr} {len cap : Nat} {d : DataW H} {p : List MemPlace} (h : DataW.Trod enc Tryz.prog W 0 (fun _ => true) true 43 (.slice a len cap) d p) : len ≤ cap ∧ cap ≤ 9223372036854775807 ∧ (a = none → cap = 0):=by
 obtain ⟨fuel,hf⟩:=h
 rcases Go.Deep.open_slice Tryz.underlying43 hf with ⟨hcs,_⟩ | ⟨x,l,c,m,n,D,Pl,hcs,_,hl,hm,hmm,hx,hel⟩
 ·simp [Value.cells] at hcs
  obtain ⟨rfl,rfl,rfl⟩:=hcs
  exact ⟨by omega,by omega,fun _ => rfl⟩
 ·simp [Value.cells] at hcs
  obtain ⟨rfl,rfl,rfl⟩:=hcs
  exact ⟨hl,hm,fun q => by cases q⟩
end
section
open Go.ChangeShapes Go.WideShapes Go.ChangeAt Go.RowKit
open Go.Proofs.YtdfjlmfnkhhnjaaGreatDoorH (hv hv_length hv_get)
end
section
open Go.ChangeShapes Go.WideShapes Go.ChangeAt Go.RowKit
end
section
open Go.ChangeShapes Go.WideShapes Go.ChangeAt Go.RowKit
open Go.Proofs.YtdfjlmfnkhhnjaaGreatDoorP (TB)
open Go.Proofs.YtdfjlmfnkhhnjaaGreatDoorH (KIn)
abbrev laid1 : List (String × DataW Unit) := [("math/bits.deBruijn32tab", Rows.laid_math_bits_deBruijn32tab), ("math/bits.deBruijn64tab", Rows.laid_math_bits_deBruijn64tab), ("internal/strconv.uint64pow10", Rows.laid_internal_strconv_uint64pow10), ("strconv.ErrRange", Rows.laid_strconv_ErrRange), ("strconv.ErrSyntax", Rows.laid_strconv_ErrSyntax), ("coffer/hash.cubeRoots", Rows.laid_coffer_hash_cubeRoots)]
theorem gP : Tryz.prog.globalNamed "internal/strconv.uint64pow10" = some 2 := by kernel_rfl
theorem gPType : (Tryz.prog.globals[2]?).map (·.type) = some 243:=by kernel_rfl
theorem lcells48 : Tryz.prog.cellsOf 96 = 1:=by kernel_rfl
theorem lcells55 : Tryz.prog.cellsOf 243 = 20:=by kernel_rfl
theorem laid_met {W : World} (h : laidMetH Tryz.prog laid1 W) : laidMet Tryz.prog laid1 W:=h
theorem tb_of_laid {W : World} (h : laidMetH Tryz.prog laid1 W) : TB W:=by
 have h1 : laidMet Tryz.prog laid1 W:=laid_met h
 have h2 := h1.filter (fun x => x.1 == "internal/strconv.uint64pow10")
 have h3 : laidMet Tryz.prog [("internal/strconv.uint64pow10", Lib.tabData .u64 Lib.pow10Tab)] W := h2
 exact ⟨Lib.tabIs_of_head gP gPType Tryz.underlying243 Tryz.underlying96 lcells48 lcells55 h3⟩
def kz : List Int := [1116352408,1899447441,3049323471,3921009573,961987163,1508970993,2453635748,2870763221,3624381080,310598401,607225278,1426881987,1925078388,2162078206,2614888103,3248222580,3835390401,4022224774,264347078,604807628,770255983,1249150122,1555081692,1996064986,2554220882,2821834349,2952996808,3210313671,3336571891,3584528711,113926993,338241895,666307205,773529912,1294757372,1396182291,1695183700,1986661051,2177026350,2456956037,2730485921,2820302411,3259730800,3345764771,3516065817,3600352804,4094571909,275423344,430227734,506948616,659060556,883997877,958139571,1322822218,1537002063,1747873779,1955562222,2024104815,2227730452,2361852424,2428436474,2756734187,3204031479,3329325298]
theorem gK : Tryz.prog.globalNamed "coffer/hash.cubeRoots" = some 0 := by kernel_rfl
theorem gKType : (Tryz.prog.globals[0]?).map (·.type) = some 172:=by kernel_rfl
theorem lcells32 : Tryz.prog.cellsOf 166 = 1:=by kernel_rfl
theorem lcells64 : Tryz.prog.cellsOf 172 = 64:=by kernel_rfl
theorem kz_kt : ∀ t,t < 64 → kz.getD t 0 = ((Go.Proofs.YtdfjlmfnkhhnjaaGreatDoorH.Sha.kt t).toNat : Int):=by decide +kernel
theorem kin_of_laid {W : World} (h : laidMetH Tryz.prog laid1 W) : KIn W:=by
 have h1 : laidMet Tryz.prog laid1 W:=laid_met h
 have h2 := h1.filter (fun x => x.1 == "coffer/hash.cubeRoots")
 have h' : laidMet Tryz.prog [("coffer/hash.cubeRoots", Lib.tabData .u32 kz)] W := h2
 have hT:=Lib.tabIs_of_head gK gKType Tryz.underlying172 Tryz.underlying166 lcells32 lcells64 h'
 intro t ht
 rw [hT.cell gK t (by show t < 64; exact ht),kz_kt t ht]
theorem gES : Tryz.prog.globalNamed "strconv.ErrSyntax" = some 3 := by kernel_rfl
theorem gESType : (Tryz.prog.globals[3]?).map (·.type) = some 74:=by kernel_rfl
theorem gER : Tryz.prog.globalNamed "strconv.ErrRange" = some 4 := by kernel_rfl
theorem gERType : (Tryz.prog.globals[4]?).map (·.type) = some 74:=by kernel_rfl
theorem lcellsE : Tryz.prog.cellsOf 256 = 1:=by kernel_rfl
theorem lcells9 : Tryz.prog.cellsOf 9 = 1:=by kernel_rfl
theorem star : "*" ++ "errors.errorString" = "*errors.errorString" := by decide
theorem rowE (u : TypeId) (h : Tryz.prog.typeName? 3 u = some "*errors.errorString") : u = 254 :=
 typeName_ptr_named (nm := "errors.errorString") (by rw [star]; kernel_rfl) (by kernel_rfl) (by decide) u (by rw [star]; exact h)
theorem eg_of_laid {W : World} (h : laidMetH Tryz.prog laid1 W) : EG W:=by
 have h1 : laidMet Tryz.prog laid1 W:=laid_met h
 have h2 : laidMet Tryz.prog [("strconv.ErrSyntax", Rows.laid_strconv_ErrSyntax)] W := h1.filter (fun x => x.1 == "strconv.ErrSyntax")
 have h3 : laidMet Tryz.prog [("strconv.ErrRange", Rows.laid_strconv_ErrRange)] W := h1.filter (fun x => x.1 == "strconv.ErrRange")
 obtain ⟨a0,s0,hv0,-,-,-⟩:=laid_sentinel h2 gES gESType Tryz.underlying74 rowE Tryz.underlying254 Tryz.underlying256 rfl rfl Tryz.underlying9 lcellsE lcells9
 obtain ⟨a1,s1,hv1,-,-,-⟩:=laid_sentinel h3 gER gERType Tryz.underlying74 rowE Tryz.underlying254 Tryz.underlying256 rfl rfl Tryz.underlying9 lcellsE lcells9
 have c0:=World.var?_cell gES hv0 0
 have c1:=World.var?_cell gER hv1 0
 refine ⟨?_,?_⟩
 ·first
  | exact ⟨_,_,by simpa using c0⟩
  | exact ⟨_,_,by simpa using c1⟩
 ·first
  | exact ⟨_,_,by simpa using c1⟩
  | exact ⟨_,_,by simpa using c0⟩
noncomputable def laidWorld (os : Os) : World:=World.laidAll Tryz.prog os laid1
theorem laidWorld_os (os : Os) : (laidWorld os).os = os:=World.laidAll_os _ _ _
theorem laidWorld_met (os : Os) (args : Array Value) : laidMetH Tryz.prog laid1 ((laidWorld os).forCall (fun _ _ => 0) ⟨#[],args,[]⟩).memory :=
 laidMetH_of_parts (laidMet_laidAll args (by kernel_rfl) (by kernel_rfl)) (by kernel_rfl)
theorem wit_laid {H : Type} {enc : TypeId × Value → H} {os : Os} {f : FuncId} {fn : Func} {s : ChangeSpec} {conds : List PathCond} {apart : Bool} {X : World → Array Value → Prop} (modest : Bool) (args : Array Value) (fuel : Nat)
  (hsh : ((laidWorld os).forCall (fun _ _ => 0) ⟨#[],args,[]⟩).Shaped Tryz.checked.prog)
  (hok : Input.okWideB Tryz.checked.prog ((laidWorld os).forCall (fun _ _ => 0) ⟨#[],args,[]⟩) f ⟨#[],args,[]⟩ = true)
  (hpre : s.preB enc Tryz.checked.prog fn conds apart ((laidWorld os).forCall (fun _ _ => 0) ⟨#[],args,[]⟩).memory args fuel = true)
  (hsz : s.sizedB enc Tryz.checked.prog fn apart ((laidWorld os).forCall (fun _ _ => 0) ⟨#[],args,[]⟩).memory args fuel = true)
  (hx : X ((laidWorld os).forCall (fun _ _ => 0) ⟨#[],args,[]⟩).memory args) :
  ∃ (w : World) (tape : Tape) (i : Input),w.os = os ∧ (w.forCall tape i).Shaped Tryz.checked.prog ∧ i.vars = [] ∧ Input.okWide Tryz.checked.prog (w.forCall tape i) .any w.heap.size f i ∧
   ((s.pre enc Tryz.checked.prog fn conds apart (w.forCall tape i).memory i.args ∧ X (w.forCall tape i).memory i.args) ∧ sizedMet enc Tryz.checked.prog fn (OpenSpec.ofChange s) apart (w.forCall tape i).memory i.args) ∧ ({ modest:=modest } : Assume).holds Tryz.checked.prog (lone (Frame.enter Tryz.checked.prog f i.args .normal) [] (w.forCall tape i)) :=
 ⟨laidWorld os,fun _ _ => 0,⟨#[],args,[]⟩,laidWorld_os os,hsh,(Input.okWide_of_okWideB (base:=0) hok).1,(Input.okWide_of_okWideB hok).2,⟨⟨ChangeSpec.pre_of_preB hpre,hx⟩,sizedMet_of_sizedB hsz⟩,by
  simp only [Assume.holds]
  exact ⟨by simp,by simp,fun _ => Modest.zero,by simp,by simp⟩⟩
end
section
open Go.ChangeShapes Go.WideShapes Go.ChangeAt Go.RowKit
theorem bulk_pos {H : Type} (d : DataW H) : 1 ≤ Rows.uptoBulk d:=by
 cases d with
 | lit l => cases l <;> simp [Rows.uptoBulk]
 | _ => simp [Rows.uptoBulk]
theorem bulk_mem {H : Type} : ∀ (l : List (DataW H)) (d : DataW H),d ∈ l → Rows.uptoBulk d ≤ Rows.uptoBulkAll l
 | x :: r,d,h => by
  simp only [Rows.uptoBulkAll]
  rcases List.mem_cons.1 h with rfl | h
  ·omega
  ·have:=bulk_mem r d h; omega
theorem bulk_str {H : Type} {enc : TypeId × Value → H} {W : World} {d : DataW H} {p : List MemPlace} (h : DataW.Trod enc Tryz.prog W 0 (fun _ => true) true 9 (.string ByteArray.empty) d p) : Rows.uptoBulk d ≤ 64:=by
 obtain ⟨fuel,hf⟩:=h
 obtain ⟨s,e,y,-⟩:=DataW.trod_string Tryz.underlying9 hf
 simp [Value.cells] at e
 subst e
 have hd:=congrArg Prod.fst y
 simp at hd
 rw [hd]
 simp [Rows.uptoBulk]
end
end Go.Proofs.YtdfjlmfnkhhnjaaGreatDoor
