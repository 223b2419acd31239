import Derived.Test.YtdfjlmfnkhhnjaaGreatDoorGa
import Derived.Laws.IdiomStrings
import Derived.Deep.MidRow
import Derived.Deep.RegionWith
set_option maxRecDepth 100000
set_option linter.unusedVariables false
set_option linter.unusedSimpArgs false
namespace Go.Proofs.YtdfjlmfnkhhnjaaGreatDoorH
section
open Go.RowKit
def pb (n : Nat) (g : Nat → UInt8) (k : Nat) : Array Value:=(Array.range n).map fun j => .int .u8 (((if j < k then g j else 0) : UInt8).toNat : Int)
theorem pb_size (n : Nat) (g : Nat → UInt8) (k : Nat) : (pb n g k).size = n:=by simp [pb]
theorem pb_get (n : Nat) (g : Nat → UInt8) (k j : Nat) (h : j < k) (hj : j < n) : (pb n g k)[j]? = some (.int .u8 ((g j).toNat : Int)):=by
 simp [pb,hj,h]
theorem pb_set (n : Nat) (g : Nat → UInt8) (k : Nat) (h : k < n) : (pb n g k).setIfInBounds k (.int .u8 ((g k).toNat : Int)) = pb n g (k + 1):=by
 apply Array.ext
 ·rw [Array.size_setIfInBounds,pb_size,pb_size]
 ·intro i h1 h2
  have hi : i < (pb n g k).size:=by rw [pb_size] at *; exact h2
  rw [Array.getElem_setIfInBounds hi]
  simp only [pb,Array.getElem_map,Array.getElem_range]
  by_cases e : k = i
  ·subst e; simp
  ·rw [if_neg e]
   by_cases e2 : i < k
   ·rw [if_pos e2,if_pos (by omega)]
   ·rw [if_neg e2,if_neg (by omega)]
theorem pb_one (n : Nat) (g : Nat → UInt8) (k : Nat) : (pb n g k).all (·.oneCell') = true:=by
 rw [Array.all_eq_true]; intro i h; simp only [pb,Array.getElem_map]; rfl
theorem pb_0 (n : Nat) (g : Nat → UInt8) : pb n g 0 = Array.replicate n (.int .u8 0):=by
 unfold pb
 simp only [Nat.not_lt_zero,if_false]
 apply Array.ext
 ·simp
 ·intro i h1 h2; simp
theorem pb32 (g : Nat → UInt8) : pb 32 g 0 = #[.int .u8 0,.int .u8 0,.int .u8 0,.int .u8 0,.int .u8 0,.int .u8 0,.int .u8 0,.int .u8 0,.int .u8 0,.int .u8 0,.int .u8 0,.int .u8 0,.int .u8 0,.int .u8 0,.int .u8 0,.int .u8 0,.int .u8 0,.int .u8 0,.int .u8 0,.int .u8 0,.int .u8 0,.int .u8 0,.int .u8 0,.int .u8 0,.int .u8 0,.int .u8 0,.int .u8 0,.int .u8 0,.int .u8 0,.int .u8 0,.int .u8 0,.int .u8 0]:=by rw [pb_0]; rfl
theorem pb8 (g : Nat → UInt8) : pb 8 g 0 = #[.int .u8 0,.int .u8 0,.int .u8 0,.int .u8 0,.int .u8 0,.int .u8 0,.int .u8 0,.int .u8 0]:=by rw [pb_0]; rfl
theorem pb64 (g : Nat → UInt8) : pb 64 g 0 = #[.int .u8 0,.int .u8 0,.int .u8 0,.int .u8 0,.int .u8 0,.int .u8 0,.int .u8 0,.int .u8 0,.int .u8 0,.int .u8 0,.int .u8 0,.int .u8 0,.int .u8 0,.int .u8 0,.int .u8 0,.int .u8 0,.int .u8 0,.int .u8 0,.int .u8 0,.int .u8 0,.int .u8 0,.int .u8 0,.int .u8 0,.int .u8 0,.int .u8 0,.int .u8 0,.int .u8 0,.int .u8 0,.int .u8 0,.int .u8 0,.int .u8 0,.int .u8 0,.int .u8 0,.int .u8 0,.int .u8 0,.int .u8 0,.int .u8 0,.int .u8 0,.int .u8 0,.int .u8 0,.int .u8 0,.int .u8 0,.int .u8 0,.int .u8 0,.int .u8 0,.int .u8 0,.int .u8 0,.int .u8 0,.int .u8 0,.int .u8 0,.int .u8 0,.int .u8 0,.int .u8 0,.int .u8 0,.int .u8 0,.int .u8 0,.int .u8 0,.int .u8 0,.int .u8 0,.int .u8 0,.int .u8 0,.int .u8 0,.int .u8 0,.int .u8 0]:=by rw [pb_0]; rfl
def b32 (g : Nat → UInt8) : Array Value:=pb 32 g 32
theorem b32_get (g : Nat → UInt8) (j : Nat) (hj : j < 32) : (b32 g)[j]? = some (.int .u8 ((g j).toNat : Int)):=pb_get 32 g 32 j hj hj
theorem info22 : (Tryz.prog.info? 44).map (·.size) = some 32:=by kernel_rfl
theorem info45 : (Tryz.prog.info? 168).map (·.size) = some 64:=by kernel_rfl
theorem conv_row {w' : World} {B n T : Nat} {g : Nat → UInt8} (h : w'.heap[B]? = some (.cells (pb n g n) T (0,0))) : (convert 47 9 (.slice (some ⟨B,0,none⟩) n n)).run Tryz.prog w' = .ok (.string ⟨((List.range n).map g).toArray⟩) w':=by
 have hl : ((List.range n).map g).length = n:=by simp
 have:=run_convert_bytes_back (P:=Tryz.prog) w' 47 9 5 ⟨B,0,none⟩ n ((List.range n).map g) Tryz.underlying47 Tryz.underlying5 Tryz.underlying9 (by
  intro j hj
  have hadd : (⟨B,0,none⟩ : Addr).add j = ⟨B,j,none⟩:=by unfold Addr.add; split <;> simp_all
  have hj' : j < n:=by rw [hl] at hj; exact hj
  rw [hadd,cell_of_row _ _ _ _ _ _ h,pb_get n g n j hj' hj']
  simp)
 rw [hl] at this
 exact this
theorem cast_div (a e : Nat) : ((a / 2 ^ e % 2 ^ 8 : Nat) : Int) = (a : Int) / 2 ^ e % 256:=by
 rw [Int.natCast_emod,Int.natCast_ediv,Int.natCast_pow]; rfl
end
section
open Go.RowKit
def wcells (s : Sha.S8) (f : Nat → UInt8) (n : Nat) : Array Value:=words8 s ++ (bytes64 f ++ #[.int .u64 (n : Int)])
theorem wcells_size (s : Sha.S8) (f : Nat → UInt8) (n : Nat) : (wcells s f n).size = 73:=by simp [wcells,words8,bytes64]
theorem words8_size (s : Sha.S8) : (words8 s).size = 8:=rfl
theorem bytes64_size (f : Nat → UInt8) : (bytes64 f).size = 64:=by simp [bytes64]
theorem wcells_num (s : Sha.S8) (f : Nat → UInt8) (n k : Nat) (h : k < 8) : (wcells s f n)[k]? = (words8 s)[k]?:=by
 unfold wcells; rw [Array.getElem?_append_left (by rw [words8_size]; exact h)]
theorem wcells_blk (s : Sha.S8) (f : Nat → UInt8) (n k : Nat) (h : k < 64) : (wcells s f n)[8 + k]? = some (.int .u8 ((f k).toNat : Int)):=by
 unfold wcells; rw [Array.getElem?_append_right (by rw [words8_size]; omega),words8_size,show 8 + k - 8 = k by omega,Array.getElem?_append_left (by rw [bytes64_size]; exact h),bytes64_get f k h]
theorem wcells_len (s : Sha.S8) (f : Nat → UInt8) (n : Nat) : (wcells s f n)[72]? = some (.int .u64 (n : Int)):=by
 unfold wcells; rw [Array.getElem?_append_right (by rw [words8_size]; omega),words8_size,Array.getElem?_append_right (by rw [bytes64_size]; omega),bytes64_size]; rfl
structure But (g : Nat) (w w' : World) : Prop where
 os : w'.os = w.os
 tape : w'.tape = w.tape
 output : w'.output = w.output
 size : w.heap.size ≤ w'.heap.size
 block : ∀ k,k < w.heap.size → k ≠ g → w'.heap[k]? = w.heap[k]?
theorem But.refl (g : Nat) (w : World) : But g w w:=⟨rfl,rfl,rfl,Nat.le_refl _,fun _ _ _ => rfl⟩
theorem But.trans {g : Nat} {a b c : World} (h : But g a b) (k : But g b c) : But g a c :=
 ⟨k.os.trans h.os,k.tape.trans h.tape,k.output.trans h.output,Nat.le_trans h.size k.size,fun i hi hn => (k.block i (Nat.lt_of_lt_of_le hi h.size) hn).trans (h.block i hi hn)⟩
theorem But.of_below {g : Nat} {a b : World} (h : Below a.heap.size a b) : But g a b:=⟨h.os,h.tape,h.output,h.size,fun k hk _ => h.block k hk⟩
theorem But.drew {g : Nat} {a b : World} (h : But g a b) : But g a b.drew:=⟨h.os,h.tape,h.output,h.size,h.block⟩
theorem But.setCell {g : Nat} {a b : World} (h : But g a b) (j : Nat) (v : Value) : But g a (b.setCell ⟨g,j,none⟩ v) :=
 h.trans ⟨rfl,rfl,rfl,by simp [World.setCell],fun k _ hn => Below.heap_setCell _ _ _ _ hn⟩
theorem But.setCells {g : Nat} : ∀ (vs : List Value) (o : Nat) {a b : World},But g a b → But g a (b.setCells g o vs)
 | [],_,_,_,h => h
 | v :: r,o,a,b,h => But.setCells r (o + 1) (h.setCell o v)
theorem But.below {B g : Nat} {a b : World} (h : But g a b) (hB : B ≤ a.heap.size) (hg : B ≤ g) : Below B a b:=⟨h.os,h.tape,h.output,h.size,fun k hk => h.block k (by omega) (by omega)⟩
theorem But.kin {g : Nat} {a b : World} (h : But g a b) (hK : KIn a) (hg : g ≠ 0) : KIn b:=fun t ht => by
 rw [World.cell?_of_block (w:=a) (a:=⟨0,t,none⟩) (h.block 0 hK.lt (by omega))]; exact hK t ht
def lay (cs : Array Value) : Nat → List Value → Array Value
 | _,[] => cs
 | o,v :: r => lay (cs.setIfInBounds o v) (o + 1) r
theorem heap_setCells {g : Nat} {t : TypeId} : ∀ (vs : List Value) (o : Nat) (cs : Array Value) (w : World),w.heap[g]? = some (.cells cs t (0,0)) → (w.setCells g o vs).heap[g]? = some (.cells (lay cs o vs) t (0,0))
 | [],_,_,_,h => h
 | v :: r,o,cs,w,h => heap_setCells r (o + 1) _ _ (cell_set w g o cs t v h)
theorem lay_size : ∀ (vs : List Value) (o : Nat) (cs : Array Value),(lay cs o vs).size = cs.size
 | [],_,_ => rfl
 | v :: r,o,cs => by rw [lay,lay_size r]; simp
theorem lay_get : ∀ (vs : List Value) (o : Nat) (cs : Array Value) (i : Nat),i < cs.size → (lay cs o vs)[i]? = if o ≤ i then (if h : i - o < vs.length then some vs[i - o] else cs[i]?) else cs[i]?
 | [],o,cs,i,hi => by simp [lay]
 | v :: r,o,cs,i,hi => by
  rw [lay,lay_get r (o + 1) _ i (by simpa using hi)]
  by_cases h1 : o + 1 ≤ i
  ·rw [if_pos h1,if_pos (by omega)]
   by_cases h2 : i - (o + 1) < r.length
   ·have h3 : i - o < (v :: r).length:=by simp; omega
    rw [dif_pos h2,dif_pos h3]
    congr 1
    have : i - o = (i - (o + 1)) + 1:=by omega
    simp only [this,List.getElem_cons_succ]
   ·have h3 : ¬ i - o < (v :: r).length:=by simp; omega
    rw [dif_neg h2,dif_neg h3,Array.getElem?_setIfInBounds_ne (by omega)]
  ·rw [if_neg h1]
   by_cases h4 : o = i
   ·subst h4
    rw [if_pos (Nat.le_refl _),dif_pos (by simp)]
    rw [Array.getElem?_setIfInBounds_self_of_lt hi]
    simp
   ·rw [if_neg (by omega),Array.getElem?_setIfInBounds_ne h4]
def fl (f : Nat → UInt8) (r : Nat) (l : List UInt8) (j : Nat) : UInt8:=if r ≤ j ∧ j < r + l.length then l.getD (j - r) 0 else f j
def vals (l : List UInt8) : List Value:=l.map fun v => .int .u8 (v.toNat : Int)
theorem lay_blk (s : Sha.S8) (f : Nat → UInt8) (n r : Nat) (l : List UInt8) (h : r + l.length ≤ 64) : lay (wcells s f n) (8 + r) (vals l) = wcells s (fl f r l) n:=by
 apply Array.ext_getElem?
 intro i
 by_cases hi : i < 73
 ·rw [lay_get _ _ _ _ (by rw [wcells_size]; exact hi)]
  by_cases h8 : i < 8
  ·rw [if_neg (by omega),wcells_num _ _ _ _ h8,wcells_num _ _ _ _ h8]
  ·by_cases h72 : i = 72
   ·subst h72
    rw [wcells_len,wcells_len]
    by_cases h9 : 8 + r ≤ 72
    ·rw [if_pos h9,dif_neg (by simp [vals]; omega)]
    ·rw [if_neg h9]
   ·obtain ⟨j,rfl⟩ : ∃ j,i = 8 + j:=⟨i - 8,by omega⟩
    rw [wcells_blk _ _ _ j (by omega),wcells_blk _ _ _ j (by omega)]
    unfold fl
    by_cases h9 : 8 + r ≤ 8 + j
    ·rw [if_pos h9]
     by_cases hA : 8 + j - (8 + r) < (vals l).length
     ·have hB : j - r < l.length:=by simp [vals] at hA; omega
      rw [dif_pos hA,if_pos (by omega)]
      have e : 8 + j - (8 + r) = j - r:=by omega
      simp only [vals,List.getElem_map,e]
      rw [List.getD_eq_getElem?_getD,List.getElem?_eq_getElem hB]; rfl
     ·have hB : ¬ j - r < l.length:=by simp [vals] at hA; omega
      rw [dif_neg hA,if_neg (by omega)]
    ·rw [if_neg h9,if_neg (by omega)]
 ·rw [Array.getElem?_eq_none (by rw [lay_size,wcells_size]; omega),Array.getElem?_eq_none (by rw [wcells_size]; omega)]
theorem set_len (s : Sha.S8) (f : Nat → UInt8) (n m : Nat) : (wcells s f n).setIfInBounds 72 (.int .u64 (m : Int)) = wcells s f m:=by
 apply Array.ext_getElem?
 intro i
 by_cases hi : i < 73
 ·by_cases h : i = 72
  ·subst h
   rw [Array.getElem?_setIfInBounds_self_of_lt (by rw [wcells_size]; omega),wcells_len]
  ·rw [Array.getElem?_setIfInBounds_ne (by omega)]
   by_cases h8 : i < 8
   ·rw [wcells_num _ _ _ _ h8,wcells_num _ _ _ _ h8]
   ·obtain ⟨j,rfl⟩ : ∃ j,i = 8 + j:=⟨i - 8,by omega⟩
    rw [wcells_blk _ _ _ j (by omega),wcells_blk _ _ _ j (by omega)]
 ·rw [Array.getElem?_eq_none (by simp [wcells_size]; omega),Array.getElem?_eq_none (by rw [wcells_size]; omega)]
theorem lay_num (s r : Sha.S8) (f : Nat → UInt8) (n : Nat) : lay (wcells s f n) 0 (words8 r).toList = wcells r f n:=by
 apply Array.ext_getElem?
 intro i
 by_cases hi : i < 73
 ·rw [lay_get _ _ _ _ (by rw [wcells_size]; exact hi),if_pos (Nat.zero_le _)]
  by_cases h8 : i < 8
  ·have hA : i - 0 < (words8 r).toList.length:=by rw [Array.length_toList,words8_size]; omega
   rw [dif_pos hA,wcells_num _ _ _ _ h8,Array.getElem?_eq_getElem (by rw [words8_size]; exact h8)]
   simp
  ·rw [dif_neg (by rw [Array.length_toList,words8_size]; omega)]
   by_cases h72 : i = 72
   ·subst h72; rw [wcells_len,wcells_len]
   ·obtain ⟨j,rfl⟩ : ∃ j,i = 8 + j:=⟨i - 8,by omega⟩
    rw [wcells_blk _ _ _ j (by omega),wcells_blk _ _ _ j (by omega)]
 ·rw [Array.getElem?_eq_none (by rw [lay_size,wcells_size]; omega),Array.getElem?_eq_none (by rw [wcells_size]; omega)]
theorem run_copy_string (w : World) (dT sT ty elem : TypeId) (b o dLen dCap : Nat) (s : ByteArray) (l : List UInt8)
  (hu : Tryz.prog.underlying dT = some (.slice elem)) (hs : (Tryz.prog.info? elem).map (·.size) = some 1) (hl : l = s.data.toList.take (Nat.min s.size dLen))
  (hc : ∀ j,j < l.length → (w.cell? ⟨b,o + j,none⟩).isSome = true) (hf : ∀ j,j < l.length → w.frozen? ⟨b,o + j,none⟩ = false) :
  (Builtin.copy_ #[dT,sT] ty #[.slice (some ⟨b,o,none⟩) dLen dCap,.string s]).run Tryz.prog w = .ok (.int .i64 (l.length : Int)) (w.setCells b o (vals l)):=by
 have hlen : l.length = Nat.min s.size dLen:=by
  have e : s.data.toList.length = s.size:=Array.length_toList
  rw [hl,List.length_take,e]; exact Nat.min_eq_left (Nat.min_le_left _ _)
 have h1 : ∀ v ∈ vals l,v.oneCell' = true:=by
  intro v hv; simp only [vals,List.mem_map] at hv; obtain ⟨x,_,rfl⟩:=hv; rfl
 have hst:=run_storeCells_cells (P:=Tryz.prog) b o (vals l) 0 w (by simpa [vals] using hc) (by simpa [vals] using hf) h1
 have e : List.take l.length (List.map (fun b => Value.int .u8 (b.toNat : Int)) s.data.toList) = vals l:=by
  unfold vals; rw [← List.map_take,hlen,← hl]
 cases hq : Tryz.prog.info? elem with
 | none => simp [hq] at hs
 | some i =>
  have hi : i.size = 1:=by simpa [hq] using hs
  simp only [Nat.add_zero] at hst
  simp only [Builtin.copy_]
  simp [run_underlying hu,Builtin.lenOf,Builtin.firstCells,sizeOf,typeInfo,hq,hi,goInt,← hlen,e,hst]
end
section
open Go.RowKit
def szOf : Value → Nat | .string t => t.size | _ => 0
def WrAt (w : World) (g : Nat) (m : List UInt8) : Prop := ∃ f : Nat → UInt8,(∀ j,j < m.length % 64 → f j = Sha.blk m (m.length / 64) j) ∧ w.heap[g]? = some (.cells (wcells (Sha.num m) f m.length) 170 (0,0))
theorem info5 : (Tryz.prog.info? 5).map (·.size) = some 1:=by kernel_rfl
theorem slice_blk (g r : Nat) (hr : r < 64) (w : World) : (Instr.sliceAt 168 (.pointer (some ⟨g,8,none⟩)) (some (.int .u64 (r : Int))) none none).run Tryz.prog w = .ok (.slice (some ⟨g,8 + r,none⟩) (64 - r) (64 - r)) w:=by
 have r0 : (0 : Int) ≤ (r : Int):=by omega
 have r1 : (r : Int) ≤ 64:=by omega
 have r2 : ¬ 64 = r:=by omega
 have r3 : r ≤ 64:=by omega
 simp [Instr.sliceAt,go_sem,Tryz.underlying168,r0,r1,r2,r3]
theorem keep72 {wr : World} {g r : Nat} {L : List UInt8} {v : Value} (h : r + L.length ≤ 64) (c : wr.cell? ⟨g,72,none⟩ = some v) : (wr.drew.setCells g (8 + r) (vals L)).cell? ⟨g,72,none⟩ = some v:=by
 rw [World.cell?_setCells_out _ _ _ _ _ (fun _ _ => Or.inr (by simp [vals]; omega))]; exact c
noncomputable def ldS (t : TypeId) (v : Value) : Sem Value:=Instr.loadAt t v
noncomputable def stS (t : TypeId) (p v : Value) : Sem Unit:=Instr.storeAt t p v
theorem ld45 (v : Value) : Instr.loadAt 168 v = ldS 168 v:=rfl
theorem ld49 (v : Value) : Instr.loadAt 167 v = ldS 167 v:=rfl
theorem st49 (p v : Value) : Instr.storeAt 167 p v = stS 167 p v:=rfl
theorem ext_num (s : Sha.S8) (f : Nat → UInt8) (n : Nat) : ((wcells s f n).extract 0 (0 + 8)).toList = (words8 s).toList:=by
 congr 1
 apply Array.ext_getElem?
 intro i
 by_cases h : i < 8
 ·rw [Array.getElem?_extract]; simp [h,wcells_num s f n i h,wcells_size]
 ·rw [Array.getElem?_eq_none (by simp [wcells_size]; omega),Array.getElem?_eq_none (by rw [words8_size]; omega)]
theorem ext_blk (s : Sha.S8) (f : Nat → UInt8) (n : Nat) : ((wcells s f n).extract 8 (8 + 64)).toList = (bytes64 f).toList:=by
 congr 1
 apply Array.ext_getElem?
 intro i
 by_cases h : i < 64
 ·rw [Array.getElem?_extract]; simp [h,wcells_blk s f n i h,wcells_size,bytes64_get f i h]
 ·rw [Array.getElem?_eq_none (by simp [wcells_size]; omega),Array.getElem?_eq_none (by rw [bytes64_size]; omega)]
theorem row_facts {w : World} {g n : Nat} {s : Sha.S8} {f : Nat → UInt8} (h : w.heap[g]? = some (.cells (wcells s f n) 170 (0,0))) :
  (ldS 167 (.pointer (some ⟨g,0,none⟩))).run Tryz.prog w = .ok (.agg (words8 s)) w ∧ (ldS 168 (.pointer (some ⟨g,8,none⟩))).run Tryz.prog w = .ok (.agg (bytes64 f)) w ∧ ∀ r : Sha.S8,(stS 167 (.pointer (some ⟨g,0,none⟩)) (.agg (words8 r))).run Tryz.prog w = .ok () (w.setCells g 0 (words8 r).toList):=by
 refine ⟨?_,?_,?_⟩
 ·have hr:=World.rangeAt_of_block h 0 8
  rw [ext_num] at hr
  exact run_loadAt_mid w g 0 167 (words8 s).toList _ hr Tryz.underlying167 rfl info49
 ·have hr:=World.rangeAt_of_block h 8 64
  rw [ext_blk] at hr
  have:=run_loadAt_mid (P:=Tryz.prog) w g 8 168 (bytes64 f).toList _ hr Tryz.underlying168 rfl (by rw [Array.length_toList,bytes64_size]; exact info45)
  rw [Array.toArray_toList] at this
  exact this
 ·intro r
  refine run_storeAt_mid w g 0 167 (words8 r) ?_ info49 (by simp [words8,Value.oneCell'])
  intro j hj
  refine ⟨?_,frozen_of_row _ _ _ _ _ h⟩
  rw [Nat.zero_add,cell_of_row _ _ _ _ _ _ h,wcells_num _ _ _ _ hj,words8_get s j hj]
  rfl
theorem blk_fl {mm L : List UInt8} {f : Nat → UInt8} {n r : Nat} (hn : n = mm.length) (hr : r = n % 64) (hL : r + L.length ≤ 64) (hf : ∀ j,j < n % 64 → f j = Sha.blk mm (n / 64) j) :
  ∀ j,j < r + L.length → fl f r L j = Sha.blk (mm ++ L) (n / 64) j:=by
 intro j hj
 unfold fl
 by_cases h : r ≤ j
 ·rw [if_pos ⟨h,hj⟩]
  unfold Sha.blk
  rw [List.getD_eq_getElem?_getD,List.getD_eq_getElem?_getD,List.getElem?_append_right (by omega)]
  congr 2
  omega
 ·rw [if_neg (by omega),hf j (by omega),Sha.blk_append _ _ _ _ (by omega)]
theorem cut_str {t : ByteArray} {L : List UInt8} {k : Nat} (hl : L = t.data.toList.take k) (hk : L.length = k) : L ++ (t.extract L.length t.size).data.toList = t.data.toList:=by
 have e : (t.extract L.length t.size).data.toList = t.data.toList.drop L.length:=by
  rw [ByteArray.data_extract,Array.toList_extract]
  show (t.data.toList.drop L.length).take (t.size - L.length) = _
  rw [List.take_of_length_le]
  rw [List.length_drop,Array.length_toList]
  exact Nat.le_refl _
 rw [e,hk,hl,List.take_append_drop]
theorem wr_small {W : World} {g n r : Nat} {mm L : List UInt8} {f : Nat → UInt8} (hn : n = mm.length) (hr : r = n % 64) (hL : r + L.length ≤ 64) (hf : ∀ j,j < n % 64 → f j = Sha.blk mm (n / 64) j) (hne : ¬ (n + L.length) % 64 = 0)
  (hh : W.heap[g]? = some (.cells (wcells (Sha.num mm) (fl f r L) (n + L.length)) 170 (0,0))) : WrAt W g (mm ++ L):=by
 have hl : (mm ++ L).length = n + L.length:=by rw [List.length_append,← hn]
 have hq : (n + L.length) / 64 = n / 64:=by omega
 refine ⟨fl f r L,?_,?_⟩
 ·rw [hl,hq]; intro j hj; exact blk_fl hn hr hL hf j (by omega)
 ·rw [hl,Sha.num_append_small _ _ (by rw [hl,← hn]; exact hq)]; exact hh
theorem wr_full {W : World} {g n r : Nat} {mm L : List UInt8} {f : Nat → UInt8} (hn : n = mm.length) (hr : r = n % 64) (hL : r + L.length ≤ 64) (hf : ∀ j,j < n % 64 → f j = Sha.blk mm (n / 64) j) (h0 : 0 < L.length) (hne : (n + L.length) % 64 = 0)
  (hh : W.heap[g]? = some (.cells (wcells (Sha.comp (Sha.num mm) (Sha.wt (fl f r L))) (fl f r L) (n + L.length)) 170 (0,0))) : WrAt W g (mm ++ L):=by
 have hl : (mm ++ L).length = n + L.length:=by rw [List.length_append,← hn]
 have hq : (n + L.length) / 64 = n / 64 + 1:=by omega
 refine ⟨fl f r L,?_,?_⟩
 ·rw [hl,hne]; intro j hj; omega
 ·rw [hl,Sha.num_append_full mm L (fl f r L) (by rw [hl,← hn]; exact hq) (by rw [← hn]; intro j hj; exact blk_fl hn hr hL hf j (by omega))]; exact hh
theorem carry {a b : World} {g : Nat} {o : Obj} (h : a.heap[g]? = some o) (bq : Below a.heap.size a b) : b.heap[g]? = some o:=by
 have lt : g < a.heap.size:=by
  rcases Nat.lt_or_ge g a.heap.size with h' | h'
  ·exact h'
  ·rw [Array.getElem?_eq_none h'] at h; exact absurd h (by simp)
 rw [bq.block g lt]; exact h
attribute [local go_sem ↓] ld45 ld49 st49
attribute [local go_sem ↓] Go.wp_at_zero Go.wp_at_succ
set_option maxHeartbeats 400000 in
theorem write_any (g : Nat) (m : List UInt8) (s : ByteArray) (w : World) (hK : KIn w) (hg : g ≠ 0) (hW : WrAt w g m) (hlen : m.length + s.size < 1152921504606846976) :
  Calls Tryz.prog 86 #[.pointer (some ⟨g,0,none⟩),.string s] w fun e w' => e = .returned (.tuple #[]) ∧ WrAt w' g (m ++ s.data.toList) ∧ But g w w':=by
 go_enter Tryz.func86,Tryz.ntmps86
 go_wp2_with fail
 go_loopw [1] (fun v wr => ∃ (t : ByteArray) (x : List UInt8),v = .string t ∧ x ++ t.data.toList = s.data.toList ∧ WrAt wr g (m ++ x) ∧ But g w wr) (fun v _ => szOf v)
 case atStart => exact ⟨s,[],rfl,rfl,by rw [List.append_nil]; exact hW,But.refl _ _⟩
 case round =>
  obtain ⟨t,x,rfl,hx,⟨f,hf,hh⟩,hb⟩:=hrel
  have HX : Hid (x ++ t.data.toList = s.data.toList):=hx
  have hxl : x.length + t.size = s.size:=by
   have:=congrArg List.length hx
   rw [List.length_append] at this
   exact this
  clear hx
  by_cases ht : 0 < t.size
  ·obtain ⟨n,hn⟩ : ∃ n,n = (m ++ x).length:=⟨_,rfl⟩
   have hn60 : n + t.size < 1152921504606846976:=by rw [hn,List.length_append]; omega
   rw [← hn] at hf hh
   obtain ⟨r,hr⟩ : ∃ r,r = n % 64:=⟨_,rfl⟩
   have er : (n : Int) % 64 = (r : Int):=by omega
   have er' : (n : Int).tmod 64 = (r : Int):=by rw [Int.tmod_eq_emod_of_nonneg (by omega)]; exact er
   have hr64 : r < 64:=by omega
   have hsl:=slice_blk g r hr64
   have hgt : decide ((0 : Int) < (t.size : Int)) = true:=by simp; omega
   have c72 : wr.cell? ⟨g,72,none⟩ = some (.int .u64 (n : Int)):=by rw [cell_of_row _ _ _ _ _ _ hh,wcells_len]
   obtain ⟨L,hL⟩ : ∃ L,L = t.data.toList.take (Nat.min t.size (64 - r)):=⟨_,rfl⟩
   have hLl : L.length = min t.size (64 - r):=by
    have e : t.data.toList.length = t.size:=Array.length_toList
    rw [hL,List.length_take,e]; exact Nat.min_eq_left (Nat.min_le_left _ _)
   have hL64 : r + L.length ≤ 64:=by omega
   have hLt : L.length ≤ t.size:=by omega
   have hL0 : 0 < L.length:=by omega
   have HLl : Hid (L.length = min t.size (64 - r)):=hLl
   have l1 : (L.length : Int) ≤ (t.size : Int):=by omega
   have l0 : (0 : Int) ≤ (L.length : Int):=by omega
   clear hLl
   have hcp:=run_copy_string wr.drew 47 9 3 5 g (8 + r) (64 - r) (64 - r) t L Tryz.underlying47 info5 hL (fun j hj => by show (wr.cell? _).isSome = true; rw [cell_of_row _ _ _ _ _ _ hh,Nat.add_assoc,wcells_blk _ _ _ _ (by omega)]; rfl) (fun j hj => frozen_of_row _ _ _ _ _ hh)
   have HH : Hid (wr.heap[g]? = some (.cells (wcells (Sha.num (m ++ x)) f n) 170 (0,0))):=hh
   have HF : Hid (∀ j,j < n % 64 → f j = Sha.blk (m ++ x) (n / 64) j):=hf
   have HL : Hid (L = t.data.toList.take (Nat.min t.size (64 - r))):=hL
   have HR : Hid (r = n % 64):=hr
   have HN : Hid (n = (m ++ x).length):=hn
   clear hh hf hL hr hn
   have r0 : (0 : Int) ≤ (r : Int):=by omega
   have r1 : (r : Int) ≤ 64:=by omega
   have r2 : ¬ 64 = r:=by omega
   go_wp2_with fail
   go_region_held3 (fun w' => w'.cell? ⟨g,72,none⟩ = some (.int .u64 (n : Int))) (first | (go_keep; done) | exact keep72 hL64 c72) (fail)
   have hh1 : (wr.drew.setCells g (8 + r) (vals L)).heap[g]? = some (.cells (wcells (Sha.num (m ++ x)) (fl f r L) n) 170 (0,0)):=by
    rw [← lay_blk _ _ _ _ _ hL64]; exact heap_setCells _ _ _ _ HH.out
   have hb1 : But g w (wr.drew.setCells g (8 + r) (vals L)):=hb.drew.setCells _ _
   generalize (wr.drew.setCells g (8 + r) (vals L)) = W1 at *
   clear hcp c72 hsl
   have c72 : W1.cell? ⟨g,72,none⟩ = some (.int .u64 (n : Int)):=by rw [cell_of_row _ _ _ _ _ _ hh1,wcells_len]
   have f72 : W1.frozen? ⟨g,72,none⟩ = false:=frozen_of_row _ _ _ _ _ hh1
   have HH1 : Hid (W1.heap[g]? = some (.cells (wcells (Sha.num (m ++ x)) (fl f r L) n) 170 (0,0))):=hh1
   clear hh1
   have hx2 : Hid ((x ++ L) ++ (t.extract L.length t.size).data.toList = s.data.toList):=by
    show _ = _
    have:=cut_str (t:=t) (L:=L) (k:=L.length) (by rw [HLl.out]; exact HL.out) rfl
    rw [List.append_assoc,this]; exact HX.out
   have hsz : Hid ((t.extract L.length t.size).size < t.size):=by
    show _ < _
    rw [ByteArray.size_extract]; omega
   have e72 : Hid ((W1.setCell ⟨g,72,none⟩ (.int .u64 ((n : Int) + (L.length : Int)))).heap[g]? = some (.cells (wcells (Sha.num (m ++ x)) (fl f r L) (n + L.length)) 170 (0,0))):=by
    show _ = _
    rw [cell_set _ _ _ _ _ _ HH1.out,← set_len _ _ n (n + L.length)]
    rfl
   have hb2 : Hid (But g w (W1.setCell ⟨g,72,none⟩ (.int .u64 ((n : Int) + (L.length : Int))))):=hb1.setCell _ _
   by_cases hfull : (n + L.length) % 64 = 0
   ·have htest : (((n : Int) + (L.length : Int)) % 64 == 0) = true:=by rw [beq_iff_eq]; omega
    go_wp2_with fail
    have hq2:=e72.out
    have hb3:=hb2.out
    clear e72 hb2 HH1 hb1 c72 f72
    generalize (W1.setCell ⟨g,72,none⟩ (.int .u64 ((n : Int) + (L.length : Int)))) = W2 at *
    have q0 : W2.drew.heap[g]? = some (.cells (wcells (Sha.num (m ++ x)) (fl f r L) (n + L.length)) 170 (0,0)):=hq2
    have k0 : KIn W2.drew:=hb3.kin hK hg
    have b0 : But g w W2.drew:=hb3.drew
    obtain ⟨a1,a2,a3⟩:=row_facts q0
    clear hq2 hb3
    go_region_with (first
     | (go_at_call 137; refine (spread_any (fl f r L) _).mono ?_; rintro e w1 ⟨rfl,bq⟩; have q1:=carry q0 bq; have k1:=k0.below bq k0.lt; have b1:=b0.trans (But.of_below bq); obtain ⟨d1,d2,d3⟩:=row_facts q1)
     | (go_at_call 136; refine (turned_any (Sha.num (m ++ x)) _ _ k1).mono ?_; rintro e w2 ⟨rfl,bq2⟩; have q2:=carry q1 bq2; have b2:=b1.trans (But.of_below bq2); obtain ⟨e1,e2,e3⟩:=row_facts q2))
    all_goals go_wp2_with fail
    all_goals
     refine ⟨⟨_,x ++ L,rfl,hx2.out,?_,b2.setCells _ _⟩,hsz.out⟩
     rw [← List.append_assoc]
     refine wr_full HN.out HR.out hL64 HF.out hL0 hfull ?_
     rw [← lay_num (Sha.num (m ++ x))]
     exact heap_setCells _ _ _ _ q2
   ·have htest : (((n : Int) + (L.length : Int)) % 64 == 0) = false:=by rw [beq_eq_false_iff_ne]; omega
    go_wp2_with fail
    go_round
    case rel => exact ⟨_,x ++ L,rfl,hx2.out,by rw [← List.append_assoc]; exact wr_small HN.out HR.out hL64 HF.out hfull e72.out,hb2.out⟩
    case measure => exact hsz.out
  ·have h0 : t.size = 0:=by omega
   have hgt : decide ((0 : Int) < (t.size : Int)) = false:=decide_eq_false (by omega)
   have hx0 : x = s.data.toList:=by
    have e : t.data.toList = []:=List.length_eq_zero_iff.1 (by rw [Array.length_toList]; exact h0)
    have:=HX.out
    rw [e,List.append_nil] at this
    exact this
   have HX0 : Hid (x = s.data.toList):=hx0
   clear hx0
   go_wp2_with fail
   go_end0
   exact ⟨rfl,by rw [← HX0.out]; exact ⟨f,hf,hh⟩,hb⟩
end
end Go.Proofs.YtdfjlmfnkhhnjaaGreatDoorH
