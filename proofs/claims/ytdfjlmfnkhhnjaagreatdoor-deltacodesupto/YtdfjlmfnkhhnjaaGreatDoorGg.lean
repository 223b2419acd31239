import Derived.Test.YtdfjlmfnkhhnjaaGreatDoorGd
import Derived.Deep.RegionHeld3
set_option maxRecDepth 100000
set_option linter.unusedVariables false
set_option linter.unusedSimpArgs false
namespace Go.Proofs.YtdfjlmfnkhhnjaaGreatDoorH
section
open Go.RowKit
abbrev Hs:=Nat → UInt8
def hl (g : Hs) : List UInt8:=(List.range 32).map g
theorem hl_length (g : Hs) : (hl g).length = 32:=by simp [hl]
noncomputable def leaf : List UInt8 → Hs:=Classical.choose (⟨_,rfl⟩ : ∃ f : List UInt8 → Hs,f = fun t => dg (0 :: t))
noncomputable def node : Hs → Hs → Hs:=Classical.choose (⟨_,rfl⟩ : ∃ f : Hs → Hs → Hs,f = fun a b => dg (1 :: (hl a ++ hl b)))
noncomputable def none0 : Hs:=Classical.choose (⟨_,rfl⟩ : ∃ f : Hs,f = dg [2])
theorem leaf_eq (t : List UInt8) : leaf t = dg (0 :: t):=congrFun (Classical.choose_spec (⟨_,rfl⟩ : ∃ f : List UInt8 → Hs,f = fun t => dg (0 :: t))) t
theorem node_eq (a b : Hs) : node a b = dg (1 :: (hl a ++ hl b)):=congrFun (congrFun (Classical.choose_spec (⟨_,rfl⟩ : ∃ f : Hs → Hs → Hs,f = fun a b => dg (1 :: (hl a ++ hl b)))) a) b
theorem none0_eq : none0 = dg [2]:=Classical.choose_spec (⟨_,rfl⟩ : ∃ f : Hs,f = dg [2])
set_option maxHeartbeats 400000 in
theorem leaf_any (s : ByteArray) (w : World) (hK : KIn w) (hs : s.size < 1152921504606845000) :
  Calls Tryz.prog 46 #[.string s] w fun e w' => e = .returned (.agg (b32 (leaf s.data.toList))) ∧ Below w.heap.size w w':=by
 go_enter Tryz.func46,Tryz.ntmps46
 go_wp2_with fail
 obtain ⟨W,hW,q,b0⟩ : ∃ W,W = w.alloc (.cells _ 44) ∧ W.heap[w.heap.size]? = some (.cells (pb 32 (leaf s.data.toList) 0) 44 (0,0)) ∧ Below w.heap.size w W :=
  ⟨_,rfl,row22 w (leaf s.data.toList) (pb32 _).symm,(Below.refl _ _).alloc (Nat.le_refl _) _⟩
 rw [← hW]
 clear hW
 have k0 : KIn W:=hK.seq b0
 have hB0 : w.heap.size < W.heap.size:=lt_of_row q
 have hGk : 0 < W.heap.size:=k0.lt
 refine (new_any W).mono ?_
 rintro e w1 ⟨rfl,W1,b1⟩
 have k1:=k0.seq b1
 have q1:=carry q b1
 have b01:=below_seq b0 b1
 go_wp2_with fail
 refine (write_any W.heap.size [] ⟨#[0]⟩ w1 k1 (by omega) W1 (by show 0 + 1 < _; omega)).mono ?_
 rintro e w2 ⟨rfl,W2,b2⟩
 rw [List.nil_append] at W2
 have k2:=b2.kin k1 (by omega)
 have q2 : w2.heap[w.heap.size]? = some (.cells (pb 32 (leaf s.data.toList) 0) 44 (0,0)):=by
  rw [b2.block _ (by have:=b1.size; omega) (by omega)]; exact q1
 have b02 : Below w.heap.size w w2:=b01.trans (b2.below (by have:=b1.size; omega) (by omega))
 go_wp2_with fail
 refine (write_any W.heap.size [0] s w2 k2 (by omega) W2 (by show 1 + s.size < _; omega)).mono ?_
 rintro e w3 ⟨rfl,W3,b3⟩
 have k3:=b3.kin k2 (by omega)
 have q3 : w3.heap[w.heap.size]? = some (.cells (pb 32 (leaf s.data.toList) 0) 44 (0,0)):=by
  rw [b3.block _ (lt_of_row q2) (by omega)]; exact q2
 have b03 : Below w.heap.size w w3:=b02.trans (b3.below (by have:=lt_of_row q2; omega) (by omega))
 have hlen : ([0] ++ s.data.toList).length < 1152921504606846000:=by
  rw [List.length_append,Array.length_toList]; show 1 + s.size < _; omega
 go_wp2_with fail
 refine (wsum_any W.heap.size ([0] ++ s.data.toList) w3 k3 W3 hlen).mono ?_
 rintro e w4 ⟨rfl,b4⟩
 have q4:=carry q3 b4
 have b04:=below_seq b03 b4
 have hgg : dg ([0] ++ s.data.toList) = leaf s.data.toList:=(leaf_eq _).symm
 rw [hgg]
 generalize hg : leaf s.data.toList = g at *
 have HG : Hid (leaf s.data.toList = g):=hg
 clear hg hgg
 clear W3 W2 W1 k0 k1 k2 k3 q q1 q2 q3 b01 b02 b03 b0 b1 b2 b3 b4 hlen hB0 hK
 have ho:=b32_one g
 have hz : (pb 32 g 0).size = (b32 g).size:=by rw [b32_size,pb_size]
 have hi:=info22b g
 go_wp2_with (refine wpList_store_row rfl 44 _ _ rfl _ _ rfl rfl 44 _ q4 hi hz ho ?_)
 exact bodyPost_ret (v := .agg (b32 g)) (results_cell_row Tryz.results46 _ _ w.heap.size 44 (b32 g) (0,0) _ rfl (setRow_heap _ _ _ _ _ _ q4) Tryz.underlying44 rfl hi) rfl ⟨by rw [HG.out],below_setRow b04 (Nat.le_refl _) _⟩
end
section
open Go.RowKit
noncomputable def hv : Hs → List Value:=Classical.choose (⟨_,rfl⟩ : ∃ f : Hs → List Value,f = fun g => (List.range 32).map fun j => .int .u8 ((g j).toNat : Int))
theorem hv_eq (g : Hs) : hv g = (List.range 32).map fun j => .int .u8 ((g j).toNat : Int):=congrFun (Classical.choose_spec (⟨_,rfl⟩ : ∃ f : Hs → List Value,f = fun g => (List.range 32).map fun j => .int .u8 ((g j).toNat : Int))) g
theorem hv_length (g : Hs) : (hv g).length = 32:=by simp [hv_eq]
theorem hv_one (g : Hs) : ∀ v ∈ hv g,v.oneCell' = true:=by
 intro v hvm; simp only [hv_eq,List.mem_map] at hvm; obtain ⟨j,_,rfl⟩:=hvm; rfl
theorem hv_get (g : Hs) (j : Nat) (hj : j < 32) : (hv g)[j]? = some (.int .u8 ((g j).toNat : Int)):=by simp [hv_eq,hj]
theorem hv_b32 (g : Hs) : (hv g).toArray = b32 g:=by
 apply Array.ext_getElem?
 intro i
 by_cases h : i < 32
 ·rw [b32_get g i h,List.getElem?_toArray,hv_get g i h]
 ·rw [Array.getElem?_eq_none (xs:=(hv g).toArray) (by rw [List.size_toArray,hv_length]; omega),Array.getElem?_eq_none (xs:=b32 g) (by rw [b32_size]; omega)]
theorem infoH (g : Hs) : (Tryz.prog.info? 44).map (·.size) = some (hv g).length:=by rw [hv_length]; exact info22
theorem hv_inj {g h : Hs} (e : hv g = hv h) (j : Nat) (hj : j < 32) : g j = h j:=by
 have h1:=hv_get g j hj
 rw [e,hv_get h j hj] at h1
 have h2:=Option.some.inj h1
 injection h2 with _ h3
 exact (UInt8.toNat_inj.1 (by omega)).symm
theorem rangeBelow {B : Nat} {w w' : World} {b o : Nat} {cs : List Value} (h : w.rangeAt b o cs) (bq : Below B w w') (hb : b < B) : w'.rangeAt b o cs:=fun j v hv => by
 rw [bq.cell (p:=⟨b,o + j,none⟩) hb]; exact h j v hv
theorem rangeNext {w w' : World} {b o : Nat} {cs : List Value} (h : w.rangeAt b o cs) (bq : Below w.heap.size w w') : w'.rangeAt b o cs:=fun j v hv => by
 have hc:=h j v hv
 rw [bq.cell (p:=⟨b,o + j,none⟩) (block_lt_of_cell hc)]; exact hc
theorem range_of_row {w : World} {b : Nat} {cs : List Value} {T : TypeId} {fr : Nat × Nat} (h : w.heap[b]? = some (.cells cs.toArray T fr)) : w.rangeAt b 0 cs:=fun j v hv => by
 rw [Nat.zero_add,cell_of_row _ _ _ _ _ _ h,List.getElem?_toArray]; exact hv
theorem there_of_row {w : World} {b n : Nat} {C : Array Value} {T : TypeId} (h : w.heap[b]? = some (.cells C T (0,0))) (o : Nat) (hn : o + n ≤ C.size) : w.there b o n:=fun j hj => by
 refine ⟨?_,frozen_of_row _ _ _ _ _ h⟩
 rw [cell_of_row _ _ _ _ _ _ h,Array.getElem?_eq_getElem (by omega)]; rfl
theorem thereNext {w w' : World} {b o n : Nat} (h : w.there b o n) (bq : Below w.heap.size w w') : w'.there b o n:=fun j hj => by
 obtain ⟨u,hu⟩:=Option.isSome_iff_exists.1 (h j hj).1
 have hlt : b < w.heap.size:=block_lt_of_cell hu
 rw [bq.cell (p:=⟨b,o + j,none⟩) hlt,bq.frozen (p:=⟨b,o + j,none⟩) hlt]; exact h j hj
theorem results_mid {fn : Func} {p : Tmp} (h : fn.results = #[.cell p 44]) (tmps : Array Value) (w : World) (b : Nat) (g : Hs) (hp : tmps.getD p undef = .pointer (some ⟨b,0,none⟩)) (hr : w.rangeAt b 0 (hv g)) :
  (results fn tmps).run Tryz.prog w = .ok (.agg (hv g).toArray) w:=by
 have hp' : tmps[p]?.getD undef = .pointer (some ⟨b,0,none⟩):=by simpa using hp
 have hl:=run_loadVar_mid (P:=Tryz.prog) w b 0 44 (hv g) _ hr Tryz.underlying44 rfl (infoH g)
 simp only [results,h]
 simp [Sem.run_bind,Result.andThen,hp',asAddr,hl]
theorem below_setCells {B : Nat} {w0 : World} {b : Nat} (hb : B ≤ b) : ∀ (vs : List Value) (o : Nat) {w : World},Below B w0 w → Below B w0 (w.setCells b o vs)
 | [],_,_,h => h
 | v :: r,o,w,h => below_setCells hb r (o + 1) (h.setCell (p:=⟨b,o,none⟩) hb v)
theorem leaf_hv (s : ByteArray) (w : World) (hK : KIn w) (hs : s.size < 1152921504606845000) :
  Calls Tryz.prog 46 #[.string s] w fun e w' => e = .returned (.agg (hv (leaf s.data.toList)).toArray) ∧ Below w.heap.size w w':=by
 rw [hv_b32]; exact leaf_any s w hK hs
theorem sum_hv (s : ByteArray) (w : World) (hK : KIn w) (hs : s.size < 1152921504606846000) :
  Calls Tryz.prog 157 #[.string s] w fun e w' => e = .returned (.agg (hv (dg s.data.toList)).toArray) ∧ Below w.heap.size w w':=by
 rw [hv_b32]; exact sum_any s w hK hs
end
end Go.Proofs.YtdfjlmfnkhhnjaaGreatDoorH
