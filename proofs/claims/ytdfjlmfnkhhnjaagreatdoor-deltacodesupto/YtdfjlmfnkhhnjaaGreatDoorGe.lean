import Derived.WalkKit
import Derived.Test.YtdfjlmfnkhhnjaaGreatDoorProg
import Derived.WalkLawsBesides
import Derived.WalkSpells
import Derived.BigQuiet
import Derived.Deep.QuietTactic
import Derived.Deep.DrawnRows
import Derived.Lib.Bytealg
import Derived.OwnWalk
import Derived.Deep.AppendLies
import Derived.Deep.DeepAppendWide
import Derived.Laws.OwnMore
import Derived.Lib.AppendStr
import Derived.Laws.IdiomStrings
import Derived.ArgAppend
import Derived.OneCell
set_option maxRecDepth 100000
set_option linter.unusedVariables false
set_option linter.unusedSimpArgs false
namespace Go.Proofs.YtdfjlmfnkhhnjaaGreatDoor
section
structure En where
 key : List UInt8
 val : List UInt8
def bcmp : List UInt8 → List UInt8 → Int
 | [],[] => 0
 | [],_ :: _ => -1
 | _ :: _,[] => 1
 | x :: a,y :: b => if x.toNat < y.toNat then -1 else if y.toNat < x.toNat then 1 else bcmp a b
theorem bcmp_self : ∀ a,bcmp a a = 0
 | [] => rfl
 | x :: a => by simp [bcmp,bcmp_self a]
theorem bcmp_zero : ∀ {a b : List UInt8},bcmp a b = 0 → a = b
 | [],[],_ => rfl
 | [],_ :: _,h => by simp [bcmp] at h
 | _ :: _,[],h => by simp [bcmp] at h
 | x :: a,y :: b,h => by
  unfold bcmp at h
  split at h
  ·omega
  ·split at h
   ·omega
   ·have : x = y:=UInt8.toNat.inj (by omega)
    rw [this,bcmp_zero h]
theorem bcmp_neg : ∀ (a b : List UInt8),bcmp b a = - bcmp a b
 | [],[] => rfl
 | [],_ :: _ => rfl
 | _ :: _,[] => rfl
 | x :: a,y :: b => by
  unfold bcmp
  rw [bcmp_neg a b]
  repeat' split
  all_goals omega
theorem bcmp_cases : ∀ (a b : List UInt8),bcmp a b = -1 ∨ bcmp a b = 0 ∨ bcmp a b = 1
 | [],[] => by simp [bcmp]
 | [],_ :: _ => by simp [bcmp]
 | _ :: _,[] => by simp [bcmp]
 | x :: a,y :: b => by
  unfold bcmp
  split
  ·exact Or.inl rfl
  ·split
   ·exact Or.inr (Or.inr rfl)
   ·exact bcmp_cases a b
theorem bcmp_trans : ∀ {a b c : List UInt8},bcmp a b = -1 → bcmp b c = -1 → bcmp a c = -1
 | [],_,[],h1,h2 => by
  rename_i b
  cases b with
  | nil => simp [bcmp] at h1
  | cons y b => simp [bcmp] at h2
 | [],_,_ :: _,_,_ => rfl
 | _ :: _,[],_,h1,_ => by simp [bcmp] at h1
 | _ :: _,_ :: _,[],_,h2 => by simp [bcmp] at h2
 | x :: a,y :: b,z :: c,h1,h2 => by
  unfold bcmp at h1 h2 ⊢
  split at h1
  ·split at h2
   ·rw [if_pos (by omega)]
   ·split at h2
    ·omega
    ·rw [if_pos (by omega)]
  ·split at h1
   ·omega
   ·split at h2
    ·rw [if_pos (by omega)]
    ·split at h2
     ·omega
     ·rw [if_neg (by omega),if_neg (by omega)]
      exact bcmp_trans h1 h2
abbrev lt (a b : List UInt8) : Prop:=bcmp a b = -1
theorem lt_irrefl {a : List UInt8} : ¬ lt a a:=by unfold lt; rw [bcmp_self]; decide
theorem lt_asymm {a b : List UInt8} (h : lt a b) : ¬ lt b a:=fun h2 => lt_irrefl (bcmp_trans h h2)
theorem tri (a b : List UInt8) : lt a b ∨ a = b ∨ lt b a:=by
 rcases bcmp_cases a b with h | h | h
 ·exact Or.inl h
 ·exact Or.inr (Or.inl (bcmp_zero h))
 ·exact Or.inr (Or.inr (by show bcmp b a = -1; rw [bcmp_neg,h]))
def Srt (l : List En) : Prop:=l.Pairwise fun a b => lt a.key b.key
theorem Srt.nil : Srt []:=List.Pairwise.nil
theorem Srt.head {e : En} {l : List En} (h : Srt (e :: l)) : ∀ x ∈ l,lt e.key x.key:=(List.pairwise_cons.1 h).1
theorem Srt.get {l : List En} (h : Srt l) {i j : Nat} {a b : En} (hij : i < j) (ha : l[i]? = some a) (hb : l[j]? = some b) : lt a.key b.key:=by
 obtain ⟨h1,rfl⟩:=List.getElem?_eq_some_iff.1 ha
 obtain ⟨h2,rfl⟩:=List.getElem?_eq_some_iff.1 hb
 exact List.pairwise_iff_getElem.1 h i j h1 h2 hij
theorem srt_of {l : List En} (h : ∀ i a b,l[i]? = some a → l[i + 1]? = some b → lt a.key b.key) : Srt l:=by
 induction l with
 | nil => exact Srt.nil
 | cons e l ih =>
  have hl : Srt l:=ih fun i a b ha hb => h (i + 1) a b (by simpa using ha) (by simpa using hb)
  refine List.pairwise_cons.2 ⟨fun x hx => ?_,hl⟩
  cases l with
  | nil => simp at hx
  | cons f l =>
   have h0 : lt e.key f.key:=h 0 e f rfl rfl
   rcases List.mem_cons.1 hx with rfl | hx
   ·exact h0
   ·exact bcmp_trans h0 (hl.head x hx)
def fnd : List En → List UInt8 → Nat
 | [],_ => 0
 | e :: l,k => if bcmp e.key k = -1 then fnd l k + 1 else 0
def hit (l : List En) (k : List UInt8) : Bool:=match l[fnd l k]? with
 | some e => e.key == k
 | none => false
def put (l : List En) (k v : List UInt8) : List En:=l.take (fnd l k) ++ ⟨k,v⟩ :: l.drop (fnd l k + if hit l k then 1 else 0)
def sz (e : En) : Nat:=2 + e.key.length + e.val.length
end
section
open Go.RowKit
structure Hid (p : Prop) : Prop where
 out : p
abbrev str (l : List UInt8) : Value := .string ⟨l.toArray⟩
abbrev pv (p : En) : Value := .agg #[str p.key,str p.val]
theorem str_size (l : List UInt8) : (⟨l.toArray⟩ : ByteArray).size = l.length:=by simp [ByteArray.size]
theorem bcmp_lib : ∀ a b,Lib.compareBytes a b = bcmp a b
 | [],[] => by simp [Lib.compareBytes,bcmp]
 | [],_ :: _ => by simp [Lib.compareBytes,bcmp]
 | _ :: _,[] => by simp [Lib.compareBytes,bcmp]
 | x :: a,y :: b => by
  simp only [Lib.compareBytes,bcmp,bcmp_lib a b,UInt8.lt_iff_toNat_lt]
theorem bytesLess_eq : ∀ a b,Go.Op.bytesLess a b = decide (bcmp a b = -1)
 | [],[] => by simp [Go.Op.bytesLess,bcmp]
 | [],_ :: _ => by simp [Go.Op.bytesLess,bcmp]
 | _ :: _,[] => by simp [Go.Op.bytesLess,bcmp]
 | x :: a,y :: b => by
  have hxy : (x == y) = decide (x.toNat = y.toNat):=by
   by_cases e : x = y
   ·subst e; simp
   ·rw [beq_eq_false_iff_ne.2 e]; symm; rw [decide_eq_false_iff_not]; exact fun h => e (UInt8.toNat.inj h)
  simp only [Go.Op.bytesLess,bcmp,bytesLess_eq a b,UInt8.lt_iff_toNat_lt,hxy]
  repeat' split
  ·next h => simp [h]
  ·next h1 h2 => simp [h1]; omega
  ·next h1 h2 => simp [h1]; omega
noncomputable def slS (v : Value) (a b c : Option Value) : Sem Value:=Instr.slice 9 v a b c
theorem sl9 (v : Value) (a b c : Option Value) : Instr.slice 9 v a b c = slS v a b c:=rfl
noncomputable def ixS (v i : Value) : Sem Value:=Instr.index 9 v i
theorem ix9 (v i : Value) : Instr.index 9 v i = ixS v i:=rfl
theorem run_ix (l : List UInt8) (p : Nat) (h : p < l.length) (w : World) : (ixS (str l) (.int .i64 (p : Int))).run Tryz.prog w = .ok (.int .u8 ((l.getD p 0).toNat : Int)) w:=by
 unfold ixS
 rw [run_index_string _ _ _ _ _ Tryz.underlying9]
 have h2 : (0 : Int) ≤ (p : Int) ∧ (p : Int) < (⟨l.toArray⟩ : ByteArray).size:=by rw [str_size]; omega
 rw [dif_pos h2]
 congr 4
 rw [List.getD_eq_getElem?_getD,List.getElem?_eq_getElem h]
 rfl
end
section
open Go.RowKit
def vals (l : List UInt8) : List Value:=l.map fun b => Value.int .u8 b.toNat
theorem vals_append (a b : List UInt8) : vals (a ++ b) = vals a ++ vals b:=List.map_append ..
theorem vals_length (a : List UInt8) : (vals a).length = a.length:=List.length_map ..
theorem vals_str (l : List UInt8) : Lib.strCells ⟨l.toArray⟩ = vals l:=by simp [Lib.strCells,vals]
theorem info5f : (Tryz.prog.info? 5).map (fun i => (i.zero,i.size,i.bytes)) = some (some (.int .u8 0),1,1):=by kernel_rfl
theorem info5 : ∃ i,Tryz.prog.info? 5 = some i ∧ i.zero = some (.int .u8 0) ∧ i.size = 1 ∧ i.bytes = 1:=by
 have:=info5f
 cases hq : Tryz.prog.info? 5 with
 | none => rw [hq] at this; cases this
 | some i => rw [hq] at this; simp at this; exact ⟨i,rfl,this.1,this.2.1,this.2.2⟩
theorem below_seq {w w1 w2 : World} (a : Below w.heap.size w w1) (b : Below w1.heap.size w1 w2) : Below w.heap.size w w2:=a.trans (b.mono a.size)
structure Ob (base : Nat) (w : World) (v : Value) (L : List UInt8) : Prop where
 own : w.ownsRow base 5 1 v L.length (vals L)
 le : base ≤ w.heap.size
theorem Ob.nil (w : World) (base : Nat) (h : base ≤ w.heap.size) : Ob base w (.slice none 0 0) []:=⟨World.ownsRow_nil _ _ _ _,h⟩
theorem Ob.alloc {base : Nat} {w : World} {v : Value} {L : List UInt8} (h : Ob base w v L) (o : Obj) : Ob base (w.alloc o) v L:=⟨h.own.alloc o,by have:=h.le; simp; omega⟩
theorem grown_below {base : Nat} {w w' : World} {v : Value} {n : Nat} {e : TypeId} {size : Nat} {xs : List Value} (hown : w.ownsRow base e size v n xs) (hle : base ≤ w.heap.size) (hg : w.grownBy w' v.ownBlock) : Below base w w' :=
 (Below.refl _ _).grown hg hle (fun k0 hk0 => (hown.lt k0 hk0).1)
theorem own_later {base : Nat} {w w' : World} {v : Value} {n : Nat} {e : TypeId} {size : Nat} {xs : List Value} (hown : w.ownsRow base e size v n xs) (hb : Below w.heap.size w w') : w'.ownsRow base e size v n xs:=by
 refine ⟨hown.1,?_⟩
 rcases hown.2 with h | ⟨g,cap,cur,h1,h2,h3,h4⟩
 ·exact Or.inl h
 ·refine Or.inr ⟨g,cap,cur,h1,h2,?_,h4⟩
  rw [hb.block g (by first | exact (Nat.lt_or_ge g w.heap.size).resolve_right (fun q => by rw [Array.getElem?_eq_none q] at h3; cases h3))]
  exact h3
theorem Ob.later {base : Nat} {w w' : World} {v : Value} {L : List UInt8} (h : Ob base w v L) (hb : Below w.heap.size w w') : Ob base w' v L:=⟨own_later h.own hb,Nat.le_trans h.le hb.size⟩
theorem app_bytek {ops : Array Oper} {rest : List Oper} {o : Oper} {a : Act} {Q : Exit → Act → World → Prop} {base : Nat} {w : World} {v : Value} {L : List UInt8} {c : Int} {g : Nat} (C : UInt8) (hO : Ob base w v L) (hg : g = w.heap.size) (hn : L.length ≤ 200000000000000) (hC : c = (C.toNat : Int))
  (hgd : o.guard = none) (s x : Operand) (ho : o.op = .call { callee := .builtin .append,args:=#[s,x],argTypes:=#[47,47] })
  (hs : a.eval s = v) (hx : a.eval x = .slice (some ⟨g,0,none⟩) 1 1)
  (h : ∀ v' w',Ob base w' v' (L ++ [C]) → Below base w w' → (∀ k,k < w.heap.size → v.ownBlock ≠ some k → w'.heap[k]? = w.heap[k]?) → wpList Tryz.prog ops Q rest (a.put o.dst v') w') : wpList Tryz.prog ops Q (o :: rest) a (w.alloc (.cells #[.int .u8 c] 5)):=by
 obtain ⟨i0,hi0,hz0,hz1,hz2⟩:=info5
 subst hC hg
 have hm : maxLen = 9223372036854775807:=rfl
 refine wpList_append_own_wide _ hgd s x 47 ho base 5 i0 _ 1 1 Tryz.underlying47 hi0 hz0 hz1 hz2 rfl (by omega) v L.length (vals L) hs (hO.own.alloc _) _ 1 1 [.int .u8 C.toNat] hx rfl
  (World.news_of_block (cs:=#[.int .u8 C.toNat]) (t:=5) (fr:=(0,0)) (heap_alloc_new w _)) (by simp [Value.oneCell']) (by rw [hm]; omega) (by omega) (by have:=hO.le; simp; omega) ?_
 intro v' w' hown hgrow _
 refine h v' w' ⟨?_,?_⟩ ?_ ?_
 ·rw [vals_append,List.length_append]; exact hown
 ·have:=hgrow.size; have h2:=hO.le; simp at this; omega
 ·exact ((Below.refl _ _).alloc hO.le _).trans (grown_below (hO.own.alloc _) (by have:=hO.le; simp; omega) hgrow)
 ·intro k hk hne
  rw [hgrow.block k (by simp; omega) (Ne.symm hne),heap_alloc_old _ _ hk]
theorem app_byteg {ops : Array Oper} {rest : List Oper} {o : Oper} {a : Act} {Q : Exit → Act → World → Prop} {base : Nat} {w : World} {v : Value} {L : List UInt8} {c : Int} {g : Nat} (C : UInt8) (hO : Ob base w v L) (hg : g = w.heap.size) (hn : L.length ≤ 200000000000000) (hC : c = (C.toNat : Int))
  (hgd : o.guard = none) (s x : Operand) (ho : o.op = .call { callee := .builtin .append,args:=#[s,x],argTypes:=#[47,47] })
  (hs : a.eval s = v) (hx : a.eval x = .slice (some ⟨g,0,none⟩) 1 1)
  (h : ∀ v' w',Ob base w' v' (L ++ [C]) → Below base w w' → wpList Tryz.prog ops Q rest (a.put o.dst v') w') : wpList Tryz.prog ops Q (o :: rest) a (w.alloc (.cells #[.int .u8 c] 5)) :=
 app_bytek C hO hg hn hC hgd s x ho hs hx fun v' w' h1 h2 _ => h v' w' h1 h2
theorem conv_own {base : Nat} {w : World} {v : Value} {l : List UInt8} (h : Ob base w v l) : (convert 47 9 v).run Tryz.prog w = .ok (str l) w:=by
 rcases h.own.2 with ⟨rfl,h0⟩ | ⟨g,cap,cur,rfl,_,_⟩
 ·have : l = []:=List.eq_nil_of_length_eq_zero h0
  subst this
  exact run_convert_bytes_nil w 47 5 Tryz.underlying47 Tryz.underlying5 0 0 9 Tryz.underlying9
 ·refine run_convert_bytes_back w 47 9 5 ⟨g,0,none⟩ cap l Tryz.underlying47 Tryz.underlying5 Tryz.underlying9 ?_
  intro j hj
  have hadd : (⟨g,0,none⟩ : Addr).add j = ⟨g,j,none⟩:=by unfold Addr.add; split <;> simp_all
  rw [hadd,h.own.cellAt j (by simpa using hj)]
  simp [vals,hj]
end
section
open Go.RowKit
theorem below_dN {B : Nat} {a w : World} (h : Below B a w) (n : Nat) : Below B a (w.drewN n):=⟨h.os,h.tape,h.output,h.size,h.block⟩
def pcs (p : En) : List Value := [str p.key,str p.val]
def pcells (l : List En) : List Value:=(l.map pcs).flatten
theorem pcells_append (a b : List En) : pcells (a ++ b) = pcells a ++ pcells b:=by simp [pcells]
theorem pcells_length (l : List En) : (pcells l).length = l.length * 2:=by
 induction l with
 | nil => rfl
 | cons p l ih => simp [pcells,pcs] at ih ⊢; omega
theorem pcells_get {l : List En} {k : Nat} {p : En} (h : l[k]? = some p) : (pcells l)[k * 2]? = some (str p.key) ∧ (pcells l)[k * 2 + 1]? = some (str p.val):=by
 obtain ⟨hk,he⟩:=List.getElem?_eq_some_iff.1 h
 have e : l = l.take k ++ (p :: l.drop (k + 1)):=by
  rw [← he,List.getElem_cons_drop]
  simp
 have e2 : pcells l = pcells (l.take k) ++ (pcs p ++ pcells (l.drop (k + 1))):=by
  conv => lhs; rw [e]
  rw [pcells_append]
  rfl
 have hl : (pcells (l.take k)).length = k * 2:=by rw [pcells_length,List.length_take]; omega
 rw [e2]
 refine ⟨?_,?_⟩
 ·rw [List.getElem?_append_right (by omega),hl,show k * 2 - k * 2 = 0 by omega]; rfl
 ·rw [List.getElem?_append_right (by omega),hl,show k * 2 + 1 - k * 2 = 1 by omega]; rfl
theorem pcells_one (l : List En) : ∀ u ∈ pcells l,u.oneCell' = true:=by
 intro u hu
 unfold pcells at hu
 rw [List.mem_flatten] at hu
 obtain ⟨x,hx,hu⟩:=hu
 obtain ⟨p,_,rfl⟩:=List.mem_map.1 hx
 simp [pcs] at hu
 rcases hu with rfl | rfl <;> rfl
theorem infoPf : (Tryz.prog.info? 49).map (fun i => (i.zero,i.size,i.bytes)) = some (some (.agg #[.string ⟨#[]⟩,.string ⟨#[]⟩]),2,32):=by kernel_rfl
theorem infoP : ∃ i,Tryz.prog.info? 49 = some i ∧ i.zero = some (.agg #[.string ⟨#[]⟩,.string ⟨#[]⟩]) ∧ i.size = 2 ∧ i.bytes = 32:=by
 have:=infoPf
 cases hq : Tryz.prog.info? 49 with
 | none => rw [hq] at this; cases this
 | some i => rw [hq] at this; simp at this; exact ⟨i,rfl,this.1,this.2.1,this.2.2⟩
structure PIn (w : World) (a : Option Addr) (l : List En) : Prop where
 get : ∀ k p,l[k]? = some p → ∃ b off,a = some ⟨b,off,none⟩ ∧ b < w.heap.size ∧ w.cell? ⟨b,off + k * 2,none⟩ = some (str p.key) ∧ w.cell? ⟨b,off + k * 2 + 1,none⟩ = some (str p.val)
theorem PIn.later {w w' : World} {a : Option Addr} {l : List En} (h : PIn w a l) (hb : Below w.heap.size w w') : PIn w' a l:=by
 refine ⟨fun k p hk => ?_⟩
 obtain ⟨b,off,h1,h2,h3,h4⟩:=h.get k p hk
 exact ⟨b,off,h1,Nat.lt_of_lt_of_le h2 hb.size,by rw [hb.cell (p:=⟨b,_,none⟩) h2]; exact h3,by rw [hb.cell (p:=⟨b,_,none⟩) h2]; exact h4⟩
theorem PIn.take {w : World} {a : Option Addr} {l : List En} (h : PIn w a l) (n : Nat) : PIn w a (l.take n):=⟨fun k p hk => h.get k p (by
 by_cases hkn : k < n
 ·rw [List.getElem?_take_of_lt hkn] at hk; exact hk
 ·rw [List.getElem?_eq_none (by rw [List.length_take]; omega)] at hk; cases hk)⟩
theorem PIn.cells {w : World} {b off : Nat} {q : List En} (h : PIn w (some ⟨b,off,none⟩) q) : ∀ j u,(pcells q)[j]? = some u → w.cell? ((⟨b,off,none⟩ : Addr).add j) = some u:=by
 intro j u hj
 have hadd : (⟨b,off,none⟩ : Addr).add j = ⟨b,off + j,none⟩:=by unfold Addr.add; split <;> simp_all
 rw [hadd]
 have hlt : j < (pcells q).length:=(List.getElem?_eq_some_iff.1 hj).1
 rw [pcells_length] at hlt
 have hk : j / 2 < q.length:=by omega
 obtain ⟨p,hp⟩ : ∃ p,q[j / 2]? = some p:=⟨q[j / 2],List.getElem?_eq_getElem hk⟩
 obtain ⟨c0,c1⟩:=pcells_get hp
 obtain ⟨b',off',e,_,k0,k1⟩:=h.get _ _ hp
 injection e with e
 injection e with e1 e2
 subst e1 e2
 rcases (by omega : j = j / 2 * 2 ∨ j = j / 2 * 2 + 1) with h | h
 ·have hj' : (pcells q)[j / 2 * 2]? = some u:=by rw [← h]; exact hj
  rw [c0] at hj'
  rw [show off + j = off + j / 2 * 2 by omega,k0]; exact hj'
 ·have hj' : (pcells q)[j / 2 * 2 + 1]? = some u:=by rw [← h]; exact hj
  rw [c1] at hj'
  rw [show off + j = off + j / 2 * 2 + 1 by omega,k1]; exact hj'
structure Sl (w : World) (a : Option Addr) (cap : Nat) (l : List En) : Prop where
 at' : PIn w a l
 le : l.length ≤ cap
 max : cap ≤ 9223372036854775807
 nil : a = none → cap = 0
theorem Sl.later {w w' : World} {a : Option Addr} {cap : Nat} {l : List En} (h : Sl w a cap l) (hb : Below w.heap.size w w') : Sl w' a cap l:=⟨h.at'.later hb,h.le,h.max,h.nil⟩
theorem Sl.take {w : World} {a : Option Addr} {cap : Nat} {l : List En} (h : Sl w a cap l) (n : Nat) : Sl w a cap (l.take n):=⟨h.at'.take n,Nat.le_trans (by rw [List.length_take]; omega) h.le,h.max,h.nil⟩
theorem addr_add (b off j : Nat) : (⟨b,off,none⟩ : Addr).add j = ⟨b,off + j,none⟩:=by unfold Addr.add; split <;> simp_all
noncomputable def slP (v : Value) (a b c : Option Value) : Sem Value:=Instr.slice 43 v a b c
theorem slPe (v : Value) (a b c : Option Value) : Instr.slice 43 v a b c = slP v a b c:=rfl
structure Ow (base : Nat) (w : World) (v : Value) (l : List En) : Prop where
 own : w.ownsRow base 49 2 v l.length (pcells l)
 le : base ≤ w.heap.size
theorem Ow.nil (w : World) (base : Nat) (h : base ≤ w.heap.size) : Ow base w (.slice none 0 0) []:=⟨World.ownsRow_nil _ _ _ _,h⟩
theorem Ow.later {base : Nat} {w w' : World} {v : Value} {l : List En} (h : Ow base w v l) (hb : Below w.heap.size w w') : Ow base w' v l:=⟨own_later h.own hb,Nat.le_trans h.le hb.size⟩
theorem Ow.slice {base : Nat} {w : World} {v : Value} {l : List En} (h : Ow base w v l) : ∃ a cap,v = .slice a l.length cap ∧ PIn w a l:=by
 rcases h.own.2 with ⟨rfl,h0⟩ | ⟨g,cap,cur,rfl,_⟩
 ·have : l = []:=List.eq_nil_of_length_eq_zero h0
  subst this
  exact ⟨none,0,rfl,⟨fun k p hk => by simp at hk⟩⟩
 ·refine ⟨_,_,rfl,⟨fun k p hk => ?_⟩⟩
  obtain ⟨hkl,_⟩:=List.getElem?_eq_some_iff.1 hk
  obtain ⟨c0,c1⟩:=pcells_get hk
  have hlt:=(h.own.lt g rfl).2
  have hp : (pcells l).length = l.length * 2:=pcells_length l
  refine ⟨g,0,rfl,hlt,?_,?_⟩
  ·rw [Nat.zero_add,h.own.cellAt _ (by omega),c0]
  ·rw [Nat.zero_add,h.own.cellAt _ (by omega),c1]
theorem Ow.sl {base : Nat} {w : World} {v : Value} {l : List En} (h : Ow base w v l) : ∃ a cap,v = .slice a l.length cap ∧ Sl w a cap l:=by
 obtain ⟨a,cap,rfl,hP⟩:=h.slice
 refine ⟨a,cap,rfl,hP,?_,?_,?_⟩
 all_goals rcases h.own.2 with ⟨e,h0⟩ | ⟨g,cap',cur,e,_,_,h1,h2,_⟩
 all_goals injection e with e1 e2 e3
 all_goals subst e1 e3
 ·omega
 ·exact h1
 ·omega
 ·exact h2
 ·intro _; rfl
 ·intro h; cases h
theorem Ow.base {b b' : Nat} {w : World} {v : Value} {l : List En} (h : Ow b w v l) (hb : b' ≤ b) : Ow b' w v l:=by
 refine ⟨⟨h.own.1,?_⟩,Nat.le_trans hb h.le⟩
 rcases h.own.2 with e | ⟨g,cap,cur,e1,e2,e3⟩
 ·exact Or.inl e
 ·exact Or.inr ⟨g,cap,cur,e1,Nat.le_trans hb e2,e3⟩
theorem new2 {w w1 : World} {a b : Value} {t : TypeId} (h : Below (w.alloc (.cells #[a,b] t)).heap.size (w.alloc (.cells #[a,b] t)) w1) :
  w1.cell? ⟨w.heap.size,0,none⟩ = some a ∧ w1.cell? ⟨w.heap.size,1,none⟩ = some b:=by
 have hr : w1.heap[w.heap.size]? = some (.cells #[a,b] t (0,0)):=by rw [h.block _ (by simp)]; exact heap_alloc_new _ _
 exact ⟨by rw [cell_of_row _ _ _ _ _ _ hr]; rfl,by rw [cell_of_row _ _ _ _ _ _ hr]; rfl⟩
theorem take_succ' {l : List En} {k : Nat} {p : En} (h : l[k]? = some p) : l.take (k + 1) = l.take k ++ [p]:=by rw [List.take_add_one,h]; rfl
noncomputable def same (a b : List En) : Bool:=by classical exact decide (a = b)
end
section
abbrev lyA := @List.setIfInBounds_toArray
abbrev lyB := @List.set_cons_zero
abbrev lyC := @List.set_cons_succ
end
section
theorem hao4 (w : World) (o : Obj) (i : Nat) (h : i < w.heap.size) : (w.alloc o).heap[i]? = w.heap[i]?:=by
 show (w.heap.push o)[i]? = w.heap[i]?
 rw [Array.getElem?_push,if_neg (Nat.ne_of_lt h)]
end
end Go.Proofs.YtdfjlmfnkhhnjaaGreatDoor
