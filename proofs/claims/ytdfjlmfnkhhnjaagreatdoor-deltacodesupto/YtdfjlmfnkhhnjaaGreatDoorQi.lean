import Derived.Test.YtdfjlmfnkhhnjaaGreatDoorGz
import Derived.OwnWalk
import Derived.Deep.RegionLaw
import Derived.Deep.AppendLies
import Derived.Great.BuildSlice
set_option maxRecDepth 100000
set_option linter.unusedVariables false
set_option linter.unusedSimpArgs false
namespace Go.Proofs.YtdfjlmfnkhhnjaaGreatDoorH
open Go.RowKit
attribute [local go_sem ↓] Go.wp_at_zero Go.wp_at_succ
structure NS (w : World) (B : Nat) (a b : Hs) (w' : World) : Prop where
 k : KIn w'
 bel : Below B w w'
 ha : w'.heap[B]? = some (.cells (hv a).toArray 44 (0,0))
 hb : w'.heap[B + 1]? = some (.cells (hv b).toArray 44 (0,0))
 hc : w'.there (B + 1 + 1) 0 32
theorem NS.next {w w2 w3 : World} {B : Nat} {a b : Hs} (h : NS w B a b w2) (bq : Below w2.heap.size w2 w3) : NS w B a b w3 :=
 ⟨h.k.seq bq,h.bel.trans (bq.mono (by have:=lt_of_row h.ha; omega)),carry h.ha bq,carry h.hb bq,thereNext h.hc bq⟩
theorem NS.drew {w w2 : World} {B : Nat} {a b : Hs} (h : NS w B a b w2) : NS w B a b w2.drew:=h.next ((Below.refl _ _).drew)
theorem conv32 {w' : World} {B : Nat} {g : Hs} (h : w'.heap[B]? = some (.cells (hv g).toArray 44 (0,0))) : (convert 47 9 (.slice (some ⟨B,0,none⟩) 32 32)).run Tryz.prog w' = .ok (.string ⟨(hl g).toArray⟩) w':=by
 rw [hv_b32] at h; exact conv_row h
theorem NS.facts {w w2 : World} {B : Nat} {a b : Hs} (h : NS w B a b w2) : NS w B a b w2 ∧ (convert 47 9 (.slice (some ⟨B,0,none⟩) 32 32)).run Tryz.prog w2 = .ok (.string ⟨(hl a).toArray⟩) w2 ∧ (convert 47 9 (.slice (some ⟨B + 1,0,none⟩) 32 32)).run Tryz.prog w2 = .ok (.string ⟨(hl b).toArray⟩) w2 ∧
  w2.there (B + 1 + 1) 0 (hv (node a b)).length :=
 ⟨h,conv32 h.ha,conv32 h.hb,by rw [hv_length]; exact h.hc⟩
theorem setCells_other (w : World) (g : Nat) {i : Nat} (hne : i ≠ g) : ∀ (vs : List Value) (o : Nat) {w : World},(w.setCells g o vs).heap[i]? = w.heap[i]?
 | [],_,_ => rfl
 | v :: r,o,w => by rw [World.setCells,setCells_other w g hne r (o + 1)]; exact Below.heap_setCell w ⟨g,o,none⟩ v i hne
theorem NS.set {w w2 : World} {B : Nat} {a b : Hs} (vs : List Value) (h : NS w B a b w2) (hB : 0 < B) : NS w B a b (w2.setCells (B + 1 + 1) 0 vs):=by
 have bb : Below B w2 (w2.setCells (B + 1 + 1) 0 vs):=below_setCells (by omega) vs 0 (Below.refl B w2)
 exact ⟨h.k.below bb hB,h.bel.trans bb,by rw [setCells_other w _ (by omega)]; exact h.ha,by rw [setCells_other w _ (by omega)]; exact h.hb,World.there_setCells h.hc _ _ _⟩
theorem sum3 (a b : Hs) {w : World} (hK : KIn w) : Calls Tryz.prog 157 #[.string ((⟨#[1]⟩ : ByteArray) ++ ⟨(hl a).toArray⟩ ++ ⟨(hl b).toArray⟩)] w fun e w' => e = .returned (.agg (hv (node a b)).toArray) ∧ Below w.heap.size w w':=by
 have e1 : ((⟨#[1]⟩ : ByteArray) ++ ⟨(hl a).toArray⟩ ++ ⟨(hl b).toArray⟩) = ⟨(1 :: (hl a ++ hl b)).toArray⟩:=by
  have a1 : (⟨#[1]⟩ : ByteArray) = ⟨([1] : List UInt8).toArray⟩:=rfl
  rw [a1,ByteArray.mk_append_mk,ByteArray.mk_append_mk]
  rfl
 rw [e1]
 have h0:=sum_hv ⟨(1 :: (hl a ++ hl b)).toArray⟩ w hK (by show (1 :: (hl a ++ hl b)).toArray.size < _; rw [List.size_toArray]; simp [hl_length])
 rw [node_eq]
 exact h0
theorem NS.start (w : World) (a b : Hs) (hK : KIn w) {Z : Array Value} (hZ : Z.size = 32) : NS w w.heap.size a b (((w.alloc (.cells (hv a).toArray 44)).alloc (.cells (hv b).toArray 44)).alloc (.cells Z 44)):=by
 have bb : Below w.heap.size w (((w.alloc (.cells (hv a).toArray 44)).alloc (.cells (hv b).toArray 44)).alloc (.cells Z 44)):=(((Below.refl _ _).alloc (Nat.le_refl _) _).alloc (by simp) _).alloc (by simp; omega) _
 refine ⟨hK.seq bb,bb,?_,?_,there_of_row (C:=Z) (T:=44) ?_ 0 (by omega)⟩
 ·rw [heap_alloc_old _ _ (by simp; omega),heap_alloc2_old]
 ·rw [heap_alloc_old _ _ (by simp),heap_alloc2_new]
 ·have:=heap_alloc_new ((w.alloc (Obj.cells (hv a).toArray 44)).alloc (Obj.cells (hv b).toArray 44)) (Obj.cells Z 44)
  simpa using this
set_option maxHeartbeats 400000 in
theorem node_hv (a b : Hs) (w : World) (hK : KIn w) :
  Calls Tryz.prog 203 #[.agg (hv a).toArray,.agg (hv b).toArray] w fun e w' => e = .returned (.agg (hv (node a b)).toArray) ∧ Below w.heap.size w w':=by
 go_enter Tryz.func203,Tryz.ntmps203
 go_wp2_with fail
 obtain ⟨W,hW,S0⟩ : ∃ W,W = ((w.alloc (.cells (hv a).toArray 44)).alloc (.cells (hv b).toArray 44)).alloc (.cells zero32 44) ∧ NS w w.heap.size a b W:=⟨_,rfl,NS.start w a b hK (by simp)⟩
 rw [← hW]
 clear hW
 have hB0:=hK.lt
 generalize hB : w.heap.size = B at *
 have hLa : (hl a).length = 32:=hl_length a
 have hLb : (hl b).length = 32:=hl_length b
 have s1 : ¬ 9223372036854775807 < (⟨#[1]⟩ : ByteArray).size + (⟨(hl a).toArray⟩ : ByteArray).size:=by show ¬ _ < 1 + (hl a).toArray.size; rw [List.size_toArray,hLa]; omega
 have s2 : ¬ 9223372036854775807 < ((⟨#[1]⟩ : ByteArray) ++ ⟨(hl a).toArray⟩).size + (⟨(hl b).toArray⟩ : ByteArray).size:=by rw [ByteArray.size_append]; show ¬ _ < 1 + (hl a).toArray.size + (hl b).toArray.size; rw [List.size_toArray,List.size_toArray,hLa,hLb]; omega
 have s3 : ¬ 9223372036854775807 < 1 + 32:=by omega
 have s4 : ¬ 9223372036854775807 < 1 + 32 + 32:=by omega
 have o1:=hv_one (node a b)
 have o2:=infoH (node a b)
 go_region_held3 (fun w' => NS w B a b w' ∧ (convert 47 9 (.slice (some ⟨B,0,none⟩) 32 32)).run Tryz.prog w' = .ok (.string ⟨(hl a).toArray⟩) w' ∧ (convert 47 9 (.slice (some ⟨B + 1,0,none⟩) 32 32)).run Tryz.prog w' = .ok (.string ⟨(hl b).toArray⟩) w' ∧ w'.there (B + 1 + 1) 0 (hv (node a b)).length)
  (first | exact S0.drew.facts | exact S0.facts | exact (NS.next (And.left (by assumption)) bq).facts | exact (NS.set _ (And.left (by assumption)) hB0).facts) ((go_at_call 157; refine (sum3 a b (NS.k (And.left (by assumption)))).mono ?_; rintro e w' ⟨rfl,bq⟩))
 have N1:=S0.drew.next bq
 have R0 : (w'.setCells (B + 1 + 1) 0 (hv (node a b))).rangeAt (B + 1 + 1) 0 (hv (node a b)):=World.rangeAt_setCells_same _ _ _ _ (by rw [hv_length]; exact N1.hc)
 have L0:=(NS.set (hv (node a b)) N1 hB0).bel
 go_wp2
 exact bodyPost_ret (v := .agg (hv (node a b)).toArray) (results_mid Tryz.results203 _ _ (B + 1 + 1) (node a b) rfl R0) rfl ⟨rfl,by subst hB; exact L0⟩
end Go.Proofs.YtdfjlmfnkhhnjaaGreatDoorH
namespace Go.Proofs.YtdfjlmfnkhhnjaaGreatDoorH.Tree
variable {H : Type} (nd : H → H → H)
def upLen (n : Nat) : Nat:=n / 2 + n % 2
def up (n : Nat) (h : Nat → H) (k : Nat) : H:=if 2 * k + 1 < n then nd (h (2 * k)) (h (2 * k + 1)) else h (2 * k)
def nb (i : Nat) : Nat:=if i % 2 = 1 then i - 1 else i + 1
theorem upLen_lt {n : Nat} (h : ¬ n ≤ 1) : upLen n < n:=by unfold upLen; omega
def root (n : Nat) (h : Nat → H) : H:=if hn : n ≤ 1 then h 0 else root (upLen n) (up nd n h)
termination_by n
decreasing_by exact upLen_lt hn
def path (n : Nat) (h : Nat → H) (i : Nat) : List H:=if hn : n ≤ 1 then [] else if nb i < n then h (nb i) :: path (upLen n) (up nd n h) (i / 2) else path (upLen n) (up nd n h) (i / 2)
termination_by n
decreasing_by all_goals exact upLen_lt hn
def steps (n : Nat) (i : Nat) : Nat:=if hn : n ≤ 1 then 0 else if nb i < n then steps (upLen n) (i / 2) + 1 else steps (upLen n) (i / 2)
termination_by n
decreasing_by all_goals exact upLen_lt hn
theorem root_one {n : Nat} (h : Nat → H) (hn : n ≤ 1) : root nd n h = h 0:=by rw [root,dif_pos hn]
theorem root_more {n : Nat} (h : Nat → H) (hn : ¬ n ≤ 1) : root nd n h = root nd (upLen n) (up nd n h):=by rw [root,dif_neg hn]
end Go.Proofs.YtdfjlmfnkhhnjaaGreatDoorH.Tree
namespace Go.Proofs.YtdfjlmfnkhhnjaaGreatDoorH
section
open Go.RowKit
attribute [local go_sem ↓] Go.wp_at_zero Go.wp_at_succ
def TextsAt (w : World) (b off n : Nat) (t : Nat → ByteArray) : Prop := ∀ k,k < n → w.cell? ⟨b,off + k,none⟩ = some (.string (t k))
def HRow (w : World) (b off n : Nat) (f : Nat → Hs) : Prop := ∀ k,k < n → w.rangeAt b (off + k * 32) (hv (f k))
theorem TextsAt.next {w w' : World} {b off n : Nat} {t : Nat → ByteArray} (h : TextsAt w b off n t) (bq : Below w.heap.size w w') : TextsAt w' b off n t:=fun k hk => by
 have hc:=h k hk
 rw [bq.cell (p:=⟨b,off + k,none⟩) (block_lt_of_cell hc)]; exact hc
theorem HRow.next {w w' : World} {b off n : Nat} {f : Nat → Hs} (h : HRow w b off n f) (bq : Below w.heap.size w w') : HRow w' b off n f:=fun k hk => rangeNext (h k hk) bq
theorem info23x : ∃ (i : TypeInfo) (z : Value),Tryz.prog.info? 44 = some i ∧ i.zero = some z ∧ i.size = 32 ∧ i.bytes = 32 ∧ z.cells.size = 32:=by
 have h : ((Tryz.prog.info? 44).map fun i => (i.size,i.bytes,i.zero.map fun z => z.cells.size)) = some (32,32,some 32):=by kernel_rfl
 cases hi : Tryz.prog.info? 44 with
 | none => rw [hi] at h; cases h
 | some i =>
  rw [hi] at h
  simp only [Option.map_some,Option.some.injEq,Prod.mk.injEq] at h
  cases hz : i.zero with
  | none => rw [hz] at h; exact absurd h.2.2 (by simp)
  | some z =>
   rw [hz] at h
   exact ⟨i,z,rfl,hz,h.1,h.2.1,by simpa using h.2.2⟩
theorem HRow.set {w : World} {b n k : Nat} {f : Nat → Hs} (h : HRow w b 0 k f) (ht : w.there b 0 (32 * n)) (hk : k < n) : HRow (w.setCells b (k * 32) (hv (f k))) b 0 (k + 1) f:=fun j hj => by
 rw [Nat.zero_add]
 by_cases e : j = k
 ·subst e
  exact World.rangeAt_setCells_same _ _ _ _ (fun i hi => by rw [hv_length] at hi; have:=ht (j * 32 + i) (by omega); rw [Nat.zero_add] at this; exact this)
 ·have h0:=h j (by omega)
  rw [Nat.zero_add] at h0
  exact World.rangeAt_setCells_apart h0 _ _ _ (by rw [hv_length,hv_length]; omega)
set_option maxHeartbeats 400000 in
theorem lowest_any (b off n cap : Nat) (t : Nat → ByteArray) (w : World) (hK : KIn w) (hT : TextsAt w b off n t) (hz : ∀ k,k < n → (t k).size < 1152921504606845000) (hn : n ≤ 8796093022208) :
  Calls Tryz.prog 158 #[.slice (some ⟨b,off,none⟩) n cap] w fun e w' => e = .returned (.slice (some ⟨w.heap.size,0,none⟩) n n) ∧ HRow w' w.heap.size 0 n (fun k => leaf (t k).data.toList) ∧ w'.there w.heap.size 0 (32 * n) ∧ Below w.heap.size w w':=by
 obtain ⟨i,z,e1,e2,e3,e4,e5⟩:=info23x
 have hb2 : i.bytes * n ≤ 281474976710656:=by rw [e4]; omega
 have hb3 : n ≤ maxLen:=by unfold maxLen; omega
 have hB0:=hK.lt
 go_enter Tryz.func158,Tryz.ntmps158
 go_wp2_with (refine wpList_make_full _ rfl _ _ 165 rfl w.heap.size 44 i z 32 Tryz.underlying165 e1 e2 e3 _ _ _ _ n rfl rfl rfl rfl hb2 hb3 (Nat.le_refl _) ?_; intro w1 own1 gr1)
 have bel1 : Below w.heap.size w w1:=(Below.refl _ _).grown gr1 (Nat.le_refl _) (fun _ h => by cases h)
 have th1 : w1.there w.heap.size 0 (32 * n):=by
  rcases own1.2 with ⟨h,_⟩ | ⟨g,cp,cur,hv1,_,hg1,_,_,hsz1,_⟩
  ·cases h
  ·injection hv1 with h1 h2 h3
   injection h1 with h1
   injection h1 with h1
   subst h1
   exact there_of_row hg1 0 (by omega)
 clear own1 gr1 e1 e2 e3 e4 e5 hb2 hb3
 generalize hB : w.heap.size = B at *
 go_loopw [10] (fun i wr => ∃ k : Nat,k ≤ n ∧ i = .int .i64 k ∧ Below B w wr ∧ wr.there B 0 (32 * n) ∧ HRow wr B 0 k (fun k => leaf (t k).data.toList)) (fun i _ => n - (intOf i).toNat)
 case atStart => exact ⟨0,by omega,rfl,bel1,th1,fun k hk => by omega⟩
 case round =>
  clear bel1 th1
  obtain ⟨k,hk,rfl,bel,th,hr⟩:=hrel
  by_cases hlt : k < n
  ·have hd : decide ((k : Int) < (n : Int)) = true:=by simp; omega
   have i0 : (0 : Int) ≤ (k : Int):=by omega
   have i1 : (k : Int) < (n : Int):=by omega
   have c1 : wr.cell? ⟨b,off + k,none⟩ = some (.string (t k)):=by
    have hc:=hT k hlt
    rw [bel.cell (p:=⟨b,off + k,none⟩) (by rw [← hB]; exact block_lt_of_cell hc)]; exact hc
   have kr : KIn wr:=hK.below bel hB0
   go_wp2_with fail
   refine (leaf_hv (t k) wr kr (hz k hlt)).mono ?_
   rintro e w2 ⟨rfl,bq⟩
   have th2:=thereNext th bq
   have hr2:=hr.next bq
   have bel2 : Below B w w2:=bel.trans (bq.mono (by have:=bel.size; omega))
   have th3 : w2.there B (k * 32) (hv (leaf (t k).data.toList)).toArray.size:=fun j hj => by
    rw [List.size_toArray,hv_length] at hj
    have:=th2 (k * 32 + j) (by omega)
    rw [Nat.zero_add] at this
    exact this
   have hi3 : (Tryz.prog.info? 44).map (·.size) = some (hv (leaf (t k).data.toList)).toArray.size:=by rw [List.size_toArray]; exact infoH _
   have ho3:=all_oneCell_toArray (hv_one (leaf (t k).data.toList))
   go_wp2_with (refine wpList_store_mid rfl 44 _ _ rfl B (k * 32) _ rfl rfl th3 hi3 ho3 ?_)
   go_round
   case rel => exact ⟨k + 1,by omega,by go_num,below_setCells (Nat.le_refl _) _ _ bel2,World.there_setCells th2 _ _ _,hr2.set th2 hlt⟩
   case measure => simp [intOf]; omega
  ·obtain rfl : k = n:=by omega
   have hd : decide ((k : Int) < (k : Int)) = false:=by simp
   go_wp2_with fail
   go_ret
   subst hB
   exact ⟨rfl,hr,th,bel⟩
end
section
open Go.RowKit
theorem fold_lay : ∀ (vs : List Value) (o : Nat) (cs : Array Value),(vs.zipIdx o).foldl (fun (cs : Array Value) (x : Value × Nat) => cs.setIfInBounds (0 + x.2) x.1) cs = lay cs o vs
 | [],_,_ => rfl
 | v :: r,o,cs => by rw [List.zipIdx_cons,List.foldl_cons,fold_lay r (o + 1)]; simp [lay]
theorem lay_all (vs : List Value) (cs : Array Value) (h : cs.size = vs.length) : lay cs 0 vs = vs.toArray:=by
 apply Array.ext_getElem?
 intro i
 by_cases hi : i < cs.size
 ·rw [lay_get vs 0 cs i hi,if_pos (Nat.zero_le _),dif_pos (by omega),List.getElem?_toArray,List.getElem?_eq_getElem (by omega)]
  rfl
 ·rw [Array.getElem?_eq_none (by rw [lay_size]; omega),Array.getElem?_eq_none (xs:=vs.toArray) (by rw [List.size_toArray]; omega)]
theorem run_box (w : World) (g : Hs) : (Instr.buildSlice 165 1 #[(0,.agg (hv g).toArray)]).run Tryz.prog w = .ok (.slice (some ⟨w.heap.size,0,none⟩) 1 1) (w.alloc (.cells (hv g).toArray 44)):=by
 obtain ⟨i,z,e1,e2,e3,e4,e5⟩:=info23x
 refine run_buildSlice w 165 44 1 _ _ i z Tryz.underlying165 e1 e2 (by rw [e3]; decide) (by rw [e3]; decide) ?_
 have hc : (Value.cells (.agg (hv g).toArray)) = (hv g).toArray:=rfl
 have hs : (Value.cells (.agg (hv g).toArray)).size = 32:=by rw [hc,List.size_toArray,hv_length]
 show Instr.fill _ _ [(0,.agg (hv g).toArray)] = _
 unfold Instr.fill
 simp only [Nat.zero_mul,hs,e3]
 rw [if_neg (by simp)]
 unfold Instr.fill
 rw [hc]
 congr 1
 rw [← Array.foldl_toList,Array.toList_zipIdx]
 rw [fold_lay,lay_all _ _ (by simp [hv_length])]
noncomputable def bsS (l : Nat) (v : Array (Nat × Value)) : Sem Value:=Instr.buildSlice 165 l v
theorem bs25 (l : Nat) (v : Array (Nat × Value)) : Instr.buildSlice 165 l v = bsS l v:=rfl
theorem run_bs (g : Hs) (w : World) : (bsS 1 #[(0,.agg (hv g).toArray)]).run Tryz.prog w = .ok (.slice (some ⟨w.heap.size,0,none⟩) 1 1) (w.alloc (.cells (hv g).toArray 44)):=run_box w g
theorem ld23 (v : Value) : Instr.loadAt 44 v = ldS 44 v:=rfl
theorem load23 {w : World} {b o : Nat} {g : Hs} (h : w.rangeAt b o (hv g)) : (ldS 44 (.pointer (some ⟨b,o,none⟩))).run Tryz.prog w = .ok (.agg (hv g).toArray) w :=
 run_loadAt_mid w b o 44 (hv g) _ h Tryz.underlying44 rfl (infoH g)
theorem news_alloc (w : World) (g : Hs) (T : TypeId) : ∀ j u,(hv g)[j]? = some u → (w.alloc (.cells (hv g).toArray T)).cell? ((⟨w.heap.size,0,none⟩ : Addr).add j) = some u:=fun j u hu =>
 World.news_of_block (heap_alloc_new w (.cells (hv g).toArray T)) j u (by simpa using hu)
theorem spare_of {w : World} {B k m : Nat} {g : Hs} (h : w.there B 0 (32 * m)) (hk : k < m) (o : Obj) : ∀ j,j < (hv g).length → ((w.alloc o).cell? ⟨B,0 + k * 32 + j,none⟩).isSome = true ∧ (w.alloc o).frozen? ⟨B,0 + k * 32 + j,none⟩ = false:=fun j hj => by
 rw [hv_length] at hj
 have:=World.there_alloc h o (k * 32 + j) (by omega)
 rw [← Nat.add_assoc] at this
 exact this
theorem HRow.lt {w : World} {b off n : Nat} {f : Nat → Hs} (h : HRow w b off n f) {k : Nat} (hk : k < n) : b < w.heap.size:=block_lt_of_cell (h k hk 0 _ (hv_get _ 0 (by omega)))
theorem HRow.at {B : Nat} {w wr : World} {b off n : Nat} {f : Nat → Hs} (h : HRow w b off n f) {k : Nat} (hk : k < n) (bel : Below B w wr) (hB : w.heap.size = B) : wr.rangeAt b (off + k * 32) (hv (f k)):=rangeBelow (h k hk) bel (by rw [← hB]; exact h.lt hk)
theorem wpList_append_here {P : Program} {ops : Array Oper} {rest : List Oper} {o : Oper} {a : Act} {w : World} {Q : Exit → Act → World → Prop}
  (hg : o.guard = none) (s x : Operand) (t : TypeId) (hop : o.op = Op.call { callee:=Callee.builtin Builtin.append,args:=#[s,x],argTypes:=#[t,t] })
  (e : TypeId) (i : TypeInfo) (size : Nat) (h1 : P.underlying t = some (.slice e)) (h2 : P.info? e = some i) (h4 : i.size = size)
  (b off n cap : Nat) (hs : a.eval s = .slice (some ⟨b,off,none⟩) n cap)
  (ad : Addr) (m c : Nat) (news : List Value) (hx : a.eval x = .slice (some ad) m c) (hn : news.length = m * size) (hc : ∀ j u,news[j]? = some u → w.cell? (ad.add j) = some u) (h1c : ∀ u ∈ news,u.oneCell' = true)
  (hroom : n + m ≤ cap) (hspare : ∀ j,j < news.length → (w.cell? ⟨b,off + n * size + j,none⟩).isSome = true ∧ w.frozen? ⟨b,off + n * size + j,none⟩ = false)
  (hK : wpList P ops Q rest (a.put o.dst (.slice (some ⟨b,off,none⟩) (n + m) cap)) (w.setCells b (off + n * size) news)) : wpList P ops Q (o :: rest) a w:=by
 refine wpList_plain hg fun K hK' => ?_
 subst h4
 have hrun:=run_append_room_cells (P:=P) w t o.type e i h1 h2 b off n cap ad m c news hn hc h1c hroom (fun j hj => (hspare j hj).1) (fun j hj => (hspare j hj).2)
 unfold Oper.wp
 simp [execOp,hop,resolve,invoke,builtin,hs,hx,hrun,Result.andThen]
 exact hK' _ _ hK
end
section
open Go.RowKit
attribute [local go_sem ↓] Go.wp_at_zero Go.wp_at_succ
attribute [local go_sem ↓] ld23 bs25
attribute [local go_sem] run_bs
theorem up_in (n : Nat) (f : Nat → Hs) (k p q : Nat) (h : p = 2 * k ∧ q = 2 * k + 1) (hq : q < n) : Tree.up node n f k = node (f p) (f q):=by
 unfold Tree.up; rw [if_pos (by omega),h.1,h.2]
theorem up_last (n : Nat) (f : Nat → Hs) (k p : Nat) (h : p = 2 * k) (hq : ¬ p + 1 < n) : Tree.up node n f k = f p:=by
 unfold Tree.up; rw [if_neg (by omega),h]
theorem undrew {w w2 : World} (bq : Below w.drew.heap.size w.drew w2) : Below w.heap.size w w2:=((Below.refl w.heap.size w).drew).trans bq
theorem one_more {w wr w2 : World} {B k m : Nat} {F : Nat → Hs} (hB : w.heap.size = B) (bel : Below B w wr) (th : wr.there B 0 (32 * m)) (hrw : HRow wr B 0 k F) (hkm : k < m) (b0 : Below wr.heap.size wr w2) (g : Hs) (hg : F k = g) :
  Below B w ((w2.alloc (.cells (hv g).toArray 44)).setCells B (k * 32) (hv g)) ∧ ((w2.alloc (.cells (hv g).toArray 44)).setCells B (k * 32) (hv g)).there B 0 (32 * m) ∧ HRow ((w2.alloc (.cells (hv g).toArray 44)).setCells B (k * 32) (hv g)) B 0 (k + 1) F:=by
 have hs2:=b0.size
 have hs1:=bel.size
 have b1 : Below wr.heap.size wr (w2.alloc (.cells (hv g).toArray 44)):=b0.alloc hs2 _
 have t1:=thereNext th b1
 subst hg
 exact ⟨below_setCells (Nat.le_refl _) _ _ (bel.trans (b1.mono (by omega))),World.there_setCells t1 _ _ _,(hrw.next b1).set t1 hkm⟩
set_option maxHeartbeats 400000 in
theorem above_any (b off n cap : Nat) (f : Nat → Hs) (w : World) (hK : KIn w) (hr : HRow w b off n f) (hn : n ≤ 8796093022208) :
  Calls Tryz.prog 159 #[.slice (some ⟨b,off,none⟩) n cap] w fun e w' => e = .returned (.slice (some ⟨w.heap.size,0,none⟩) (Tree.upLen n) (Tree.upLen n)) ∧ HRow w' w.heap.size 0 (Tree.upLen n) (Tree.up node n f) ∧ Below w.heap.size w w':=by
 obtain ⟨i,z,e1,e2,e3,e4,e5⟩:=info23x
 obtain ⟨m,hm⟩ : ∃ m,m = n / 2 + n % 2:=⟨_,rfl⟩
 have hb2 : i.bytes * m ≤ 281474976710656:=by rw [e4]; omega
 have hb3 : m ≤ maxLen:=by unfold maxLen; omega
 obtain ⟨h,Hh⟩ : ∃ h,h = n / 2:=⟨_,rfl⟩
 have hh2 : (n : Int) / 2 = (h : Int):=by omega
 have hC : (h : Int) + (n : Int) % 2 = (m : Int):=by omega
 have HH : Hid (h = n / 2):=Hh
 clear Hh
 have hB0:=hK.lt
 have Hm : Hid (m = n / 2 + n % 2):=hm
 clear hm
 go_enter Tryz.func159,Tryz.ntmps159
 go_wp2_with (refine wpList_make_own _ rfl _ _ 165 rfl w.heap.size 44 i z 32 Tryz.underlying165 e1 e2 e3 _ _ _ m rfl rfl (by first | rfl | exact hC) hb2 hb3 (Nat.le_refl _) ?_; intro w1 own1 gr1)
 have bel1 : Below w.heap.size w w1:=(Below.refl _ _).grown gr1 (Nat.le_refl _) (fun _ h => by cases h)
 have th1 : w1.there w.heap.size 0 (32 * m):=by
  rcases own1.2 with ⟨h,_⟩ | ⟨g,cp,cur,hv1,_,hg1,_,_,hsz1,_⟩
  ·cases h
  ·injection hv1 with h1 h2 h3
   injection h1 with h1
   injection h1 with h1
   subst h1
   exact there_of_row hg1 0 (by omega)
 clear own1 gr1 e2 e4 e5 hb2 hb3 z
 generalize hB : w.heap.size = B at *
 go_loopw [3,16] (fun v i wr => ∃ k : Nat,k ≤ h ∧ i = .int .i64 k ∧ v = .slice (some ⟨B,0,none⟩) k m ∧ Below B w wr ∧ wr.there B 0 (32 * m) ∧ HRow wr B 0 k (Tree.up node n f)) (fun _ i _ => h - (intOf i).toNat)
 case atStart => exact ⟨0,by omega,rfl,rfl,bel1,th1,fun k hk => by omega⟩
 case round =>
  clear bel1 th1
  obtain ⟨k,hk,rfl,rfl,bel,th,hrw⟩:=hrel
  by_cases hlt : k < h
  ·have hd : decide ((k : Int) < (h : Int)) = true:=by simp; omega
   obtain ⟨p,hp⟩ : ∃ p,p = 2 * k:=⟨_,rfl⟩
   obtain ⟨q,hq⟩ : ∃ q,q = 2 * k + 1:=⟨_,rfl⟩
   have hqn : q < n:=by have:=HH.out; omega
   have ep : 2 * (k : Int) = (p : Int):=by omega
   have eq : (p : Int) + 1 = (q : Int):=by omega
   have ewp : IntKind.i64.wrap (p : Int) = (p : Int):=by rw [IntKind.wrap_i64]; omega
   have ewq : IntKind.i64.wrap (q : Int) = (q : Int):=by rw [IntKind.wrap_i64]; omega
   have i0 : (0 : Int) ≤ (p : Int):=by omega
   have i1 : (p : Int) < (n : Int):=by omega
   have i2 : (0 : Int) ≤ (q : Int):=by omega
   have i3 : (q : Int) < (n : Int):=by omega
   have kr : KIn wr:=hK.below bel hB0
   have r1:=hr.at (k:=p) (by omega) bel hB
   have r2:=hr.at hqn bel hB
   have hl1:=load23 (w:=wr.drew) (World.rangeAt_drew _ _ _ _ |>.2 r1)
   have hl2:=load23 (w:=wr.drew) (World.rangeAt_drew _ _ _ _ |>.2 r2)
   have Hp : Hid (p = 2 * k ∧ q = 2 * k + 1):=⟨hp,hq⟩
   clear hp hq
   go_wp2_with fail
   have hkm : k < m:=by have:=HH.out; have:=Hm.out; omega
   go_region_law (first | (go_simp; go_at_call 203; refine (node_hv (f p) (f q) _ (kr.seq ((Below.refl _ _).drew))).mono ?_; rintro e w2 ⟨rfl,bq⟩) | (refine step_append_room rfl _ _ 165 rfl 44 i 32 Tryz.underlying165 e1 e3 B 0 k m rfl _ 1 1 (hv (node (f p) (f q))) rfl (hv_length _) (news_alloc w2 _ _) (hv_one _) hkm (spare_of (thereNext (World.there_drew _ _ _ _ |>.2 th) bq) hkm _) ?_))
   all_goals (go_wp2_with fail; go_round)
   all_goals first
    | exact ⟨k + 1,by omega,by go_num,rfl,one_more hB bel th hrw hkm (undrew bq) _ (up_in n f k p q Hp.out hqn)⟩
    | (show h - ((k : Int) + 1).toNat < h - ((k : Int)).toNat; omega)
  ·obtain rfl : k = h:=by omega
   have hd : decide ((k : Int) < (k : Int)) = false:=by simp
   have kr : KIn wr:=hK.below bel hB0
   by_cases hodd : n % 2 = 1
   ·have ho : (n : Int) % 2 = 1:=by omega
    obtain ⟨p,hp⟩ : ∃ p,p = n - 1:=⟨_,rfl⟩
    have ep : (n : Int) - 1 = (p : Int):=by omega
    have ewp : IntKind.i64.wrap (p : Int) = (p : Int):=by rw [IntKind.wrap_i64]; omega
    have i0 : (0 : Int) ≤ (p : Int):=by omega
    have i1 : (p : Int) < (n : Int):=by omega
    have r1:=hr.at (k:=p) (by omega) bel hB
    have hl2:=load23 r1
    have hkm : k < m:=by have:=HH.out; have:=Hm.out; omega
    have Hp : Hid (p = n - 1):=hp
    clear hp
    go_wp2_with (refine wpList_append_here rfl _ _ 165 rfl 44 i 32 Tryz.underlying165 e1 e3 B 0 k m rfl _ 1 1 (hv (f p)) rfl (hv_length _) (news_alloc wr _ _) (hv_one _) hkm (spare_of th hkm _) ?_)
    go_ret
    have hup : Tree.up node n f k = f p:=up_last n f k p (by have:=Hp.out; have:=HH.out; omega) (by have:=Hp.out; omega)
    obtain ⟨q1,q2,q3⟩:=one_more (w2:=wr) hB bel th hrw hkm (Below.refl _ _) _ hup
    have em : m = k + 1:=by have:=HH.out; have:=Hm.out; omega
    have eu : Tree.upLen n = k + 1:=by unfold Tree.upLen; have:=HH.out; omega
    subst hB
    rw [eu]
    rw [em] at *
    exact ⟨rfl,q3,q1⟩
   ·have ho : (n : Int) % 2 = 0:=by omega
    go_wp2_with fail
    go_ret
    have em : m = k:=by have:=HH.out; have:=Hm.out; omega
    have eu : Tree.upLen n = k:=by unfold Tree.upLen; have:=HH.out; omega
    subst hB
    rw [eu]
    rw [em] at *
    exact ⟨rfl,hrw,bel⟩
end
section
open Go.RowKit
attribute [local go_sem ↓] Go.wp_at_zero Go.wp_at_succ
noncomputable def leaves (t : Nat → ByteArray) (k : Nat) : Hs:=leaf (t k).data.toList
noncomputable def rootOf (n : Nat) (t : Nat → ByteArray) : Hs:=if n = 0 then none0 else Tree.root node n (leaves t)
theorem sum2 (w : World) (hK : KIn w) : Calls Tryz.prog 157 #[.string ⟨#[2]⟩] w fun e w' => e = .returned (.agg (hv none0).toArray) ∧ Below w.heap.size w w':=by
 rw [none0_eq]; exact sum_hv ⟨#[2]⟩ w hK (by decide)
def sLen : Value → Nat | .slice _ n _ => n | _ => 0
attribute [local go_sem ↓] ld23
set_option maxHeartbeats 400000 in
theorem root_none (a : Option Addr) (cap : Nat) (t : Nat → ByteArray) (w : World) (hK : KIn w) :
  Calls Tryz.prog 114 #[.slice a 0 cap] w fun e w' => e = .returned (.agg (hv (rootOf 0 t)).toArray) ∧ Below w.heap.size w w':=by
 rw [rootOf,if_pos rfl]
 go_enter Tryz.func114,Tryz.ntmps114
 go_wp2_with fail
 have b0 : Below w.heap.size w (w.alloc (.cells zero32 44)):=(Below.refl _ _).alloc (Nat.le_refl _) _
 have t0:=there_new w 44
 have k0:=hK.seq b0
 refine (sum2 _ k0).mono ?_
 rintro e w2 ⟨rfl,bq⟩
 have t2:=thereNext t0 bq
 have b2:=below_seq b0 bq
 go_wp2_with (refine wpList_store_mid rfl 44 _ _ rfl w.heap.size 0 _ rfl rfl (there_hv t2 _) (size_hv _) (all_oneCell_toArray (hv_one _)) ?_)
 exact bodyPost_ret (v := .agg (hv none0).toArray) (results_mid Tryz.results114 _ _ w.heap.size none0 rfl (range_new t2 _)) rfl ⟨rfl,below_setCells (Nat.le_refl _) _ _ b2⟩
set_option maxHeartbeats 400000 in
theorem root_some (b off n cap : Nat) (t : Nat → ByteArray) (w : World) (hK : KIn w) (hT : TextsAt w b off n t) (hz : ∀ k,k < n → (t k).size < 1152921504606845000) (hn : n ≤ 8796093022208) (h0 : 0 < n) :
  Calls Tryz.prog 114 #[.slice (some ⟨b,off,none⟩) n cap] w fun e w' => e = .returned (.agg (hv (rootOf n t)).toArray) ∧ Below w.heap.size w w':=by
 have hd0 : ((n : Int) == 0) = false:=by simp; omega
 have hne : ¬ n = 0:=by omega
 rw [rootOf,if_neg hne]
 obtain ⟨R,hR⟩ : ∃ R,R = Tree.root node n (leaves t):=⟨_,rfl⟩
 rw [← hR]
 have hB0:=hK.lt
 go_enter Tryz.func114,Tryz.ntmps114
 go_wp2_with fail
 have b0 : Below w.heap.size w (w.alloc (.cells zero32 44)):=(Below.refl _ _).alloc (Nat.le_refl _) _
 have t0:=there_new w 44
 have k0:=hK.seq b0
 refine (lowest_any b off n cap t _ k0 (hT.next b0) hz hn).mono ?_
 rintro e w2 ⟨rfl,hr2,_,bq⟩
 have t2:=thereNext t0 bq
 have b2:=below_seq b0 bq
 obtain ⟨G,hG⟩ : ∃ G,G = (w.alloc (.cells zero32 44)).heap.size:=⟨_,rfl⟩
 have hGB : w.heap.size < G:=by rw [hG]; simp
 rw [← hG] at hr2 ⊢
 clear hG b0 t0 k0 bq
 generalize hB : w.heap.size = B at *
 go_wp2_with fail
 go_loopw [3] (fun v wr => ∃ (m G : Nat) (f : Nat → Hs),0 < m ∧ m ≤ n ∧ B < G ∧ v = .slice (some ⟨G,0,none⟩) m m ∧ Below B w wr ∧ wr.there B 0 32 ∧ HRow wr G 0 m f ∧ Tree.root node m f = R) (fun v _ => sLen v)
 case atStart => exact ⟨n,G,leaves t,h0,Nat.le_refl _,hGB,rfl,b2,t2,hr2,hR.symm⟩
 case round =>
  clear hr2 t2 b2 hGB hR
  obtain ⟨m,G,f,hm0,hmn,hGB,rfl,bel,th,hr,eR⟩:=hrel
  have kr : KIn wr:=hK.below bel hB0
  by_cases h1 : 1 < m
  ·have hd : decide ((1 : Int) < (m : Int)) = true:=by simp; omega
   go_wp2_with fail
   refine (above_any G 0 m m f wr kr hr (by omega)).mono ?_
   rintro e w2 ⟨rfl,hr2,bq⟩
   have t2:=thereNext th bq
   have b2 : Below B w w2:=bel.trans (bq.mono (by have:=bel.size; omega))
   have hGw : B < wr.heap.size:=by have:=hr.lt hm0; omega
   have hmu : Tree.upLen m < m:=Tree.upLen_lt (by omega)
   have hmp : 0 < Tree.upLen m:=by unfold Tree.upLen; omega
   generalize hu : Tree.upLen m = u at *
   go_wp2_with fail
   go_round
   case rel => exact ⟨u,wr.heap.size,Tree.up node m f,hmp,by omega,hGw,rfl,b2,t2,hr2,by rw [← eR,Tree.root_more node f (by omega),hu]⟩
   case measure => simp [sLen]; omega
  ·obtain rfl : m = 1:=by omega
   have hd : decide ((1 : Int) < ((1 : Nat) : Int)) = false:=by simp
   have r1 : wr.rangeAt G 0 (hv R):=by
    have:=hr 0 (by omega)
    rw [← eR,Tree.root_one node f (by omega)]
    simpa using this
   have hl1:=load23 r1
   go_wp2_with (refine wpList_store_mid rfl 44 _ _ rfl B 0 _ rfl rfl (there_hv th _) (size_hv _) (all_oneCell_toArray (hv_one _)) ?_)
   exact bodyPost_ret (v := .agg (hv R).toArray) (results_mid Tryz.results114 _ _ B R rfl (range_new th _)) rfl ⟨rfl,by subst hB; exact below_setCells (Nat.le_refl _) _ _ bel⟩
end
section
open Go.RowKit
def TextsIn (w : World) (a : Option Addr) (n : Nat) (t : Nat → ByteArray) : Prop := ∀ k,k < n → ∃ b off,a = some ⟨b,off,none⟩ ∧ w.cell? ⟨b,off + k,none⟩ = some (.string (t k))
theorem TextsIn.at {w : World} {a : Option Addr} {n : Nat} {t : Nat → ByteArray} (h : TextsIn w a n t) (hn : 0 < n) : ∃ b off,a = some ⟨b,off,none⟩ ∧ TextsAt w b off n t ∧ b < w.heap.size:=by
 obtain ⟨b,off,rfl,h0⟩:=h 0 hn
 refine ⟨b,off,rfl,fun k hk => ?_,block_lt_of_cell h0⟩
 obtain ⟨b',off',e,hk'⟩:=h k hk
 injection e with e
 injection e with e1 e2
 subst e1 e2
 exact hk'
theorem root_in {w : World} {a : Option Addr} {n : Nat} (cap : Nat) {t : Nat → ByteArray} (hK : KIn w) (hT : TextsIn w a n t) (hz : ∀ k,k < n → (t k).size < 1152921504606845000) (hn : n ≤ 8796093022208) :
  Calls Tryz.prog 114 #[.slice a n cap] w fun e w' => e = .returned (.agg (hv (rootOf n t)).toArray) ∧ Below w.heap.size w w':=by
 rcases Nat.eq_zero_or_pos n with rfl | h0
 ·exact root_none _ cap t w hK
 ·obtain ⟨b,off,rfl,hTA,_⟩:=hT.at h0
  exact root_some b off n cap t w hK hTA hz hn h0
end
end Go.Proofs.YtdfjlmfnkhhnjaaGreatDoorH
