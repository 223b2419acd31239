import Derived.Lib.ItoaNum
import Derived.Lib.IndexLaws
set_option maxRecDepth 100000
set_option linter.unusedVariables false
set_option linter.unusedSimpArgs false
namespace Go.Proofs.YtdfjlmfnkhhnjaaGreatDoorP
open Go.Lib (decDigits nDigits decDigits_length lt_pow_nDigits nDigits_small nDigits_big nDigits_pos indexByte)
def isDig (c : UInt8) : Prop:=48 ≤ c.toNat ∧ c.toNat ≤ 57
def val (l : List UInt8) : Nat:=l.foldl (fun n c => n * 10 + (c.toNat - 48)) 0
theorem val_snoc (l : List UInt8) (c : UInt8) : val (l ++ [c]) = val l * 10 + (c.toNat - 48):=by simp [val]
theorem foldl_ge (l : List UInt8) : ∀ a : Nat,a ≤ l.foldl (fun n c => n * 10 + (c.toNat - 48)) a:=by
 induction l with
 | nil => intro a; exact Nat.le_refl _
 | cons c l ih => intro a; exact Nat.le_trans (show a ≤ a * 10 + (c.toNat - 48) by omega) (ih _)
theorem val_le_append (l r : List UInt8) : val l ≤ val (l ++ r):=by
 unfold val; rw [List.foldl_append]; exact foldl_ge r _
theorem val_pos {l : List UInt8} (hn : l ≠ []) (hd : ∀ c ∈ l,isDig c) (hh : l.head? ≠ some 48) : 1 ≤ val l:=by
 cases l with
 | nil => exact absurd rfl hn
 | cons c l =>
  have h1:=hd c (by simp)
  have h2 : c.toNat ≠ 48:=fun e => hh (by simp; exact UInt8.toNat_inj.1 e)
  have h3:=foldl_ge l (0 * 10 + (c.toNat - 48))
  have : val (c :: l) = l.foldl (fun n c => n * 10 + (c.toNat - 48)) (0 * 10 + (c.toNat - 48)):=rfl
  obtain ⟨a,b⟩:=h1
  omega
theorem toNat_dig (k : Nat) (h : k < 10) : (UInt8.ofNat (48 + k)).toNat = 48 + k:=by
 simp; omega
theorem D_small {n : Nat} (h : n < 10) : decDigits n = [UInt8.ofNat (48 + n)]:=by rw [decDigits,dif_pos h]
theorem D_big {n : Nat} (h : ¬ n < 10) : decDigits n = decDigits (n / 10) ++ [UInt8.ofNat (48 + n % 10)]:=by rw [decDigits,dif_neg h]
theorem D_dig (n : Nat) : ∀ c ∈ decDigits n,isDig c:=by
 induction n using Nat.strongRecOn with
 | _ n ih =>
  intro c hc
  by_cases h : n < 10
  ·rw [D_small h] at hc
   obtain rfl:=List.mem_singleton.1 hc
   unfold isDig; rw [toNat_dig _ h]; omega
  ·rw [D_big h,List.mem_append] at hc
   rcases hc with hc | hc
   ·exact ih _ (by omega) c hc
   ·obtain rfl:=List.mem_singleton.1 hc
    unfold isDig; rw [toNat_dig _ (by omega)]; omega
theorem val_D (n : Nat) : val (decDigits n) = n:=by
 induction n using Nat.strongRecOn with
 | _ n ih =>
  by_cases h : n < 10
  ·rw [D_small h]; show 0 * 10 + _ = _; rw [toNat_dig _ h]; omega
  ·rw [D_big h,val_snoc,ih _ (by omega),toNat_dig _ (by omega)]; omega
theorem D_ne (n : Nat) : decDigits n ≠ []:=fun h => by
 have:=decDigits_length n; rw [h] at this; have:=nDigits_pos n; simp at *; omega
theorem D_head (n : Nat) (h1 : 1 ≤ n) : (decDigits n).head? ≠ some 48:=by
 induction n using Nat.strongRecOn with
 | _ n ih =>
  by_cases h : n < 10
  ·rw [D_small h]; intro e
   simp only [List.head?_cons,Option.some.injEq] at e
   have:=congrArg UInt8.toNat e
   rw [toNat_dig _ h] at this
   simp at this; omega
  ·rw [D_big h]
   have:=ih (n / 10) (by omega) (by omega)
   cases e : decDigits (n / 10) with
   | nil => exact absurd e (D_ne _)
   | cons c l => rw [e] at this; simpa using this
theorem D_val : ∀ (m : Nat) (ds : List UInt8),ds.length = m → ds ≠ [] → (∀ c ∈ ds,isDig c) → ds.head? ≠ some 48 → decDigits (val ds) = ds:=by
 intro m
 induction m with
 | zero => intro ds h hn; exact absurd (List.length_eq_zero_iff.1 h) hn
 | succ m ih =>
  intro ds hl hn hd hh
  obtain ⟨l,c,rfl⟩ : ∃ l c,ds = l ++ [c]:=⟨ds.dropLast,ds.getLast hn,(List.dropLast_concat_getLast hn).symm⟩
  have hc:=hd c (by simp)
  obtain ⟨c1,c2⟩:=hc
  have ec : UInt8.ofNat (48 + (c.toNat - 48)) = c:=UInt8.toNat_inj.1 (by rw [toNat_dig _ (by omega)]; omega)
  rw [val_snoc]
  by_cases h0 : l = []
  ·subst h0
   have : val [] = 0:=rfl
   rw [this,D_small (by omega)]
   simp only [Nat.zero_mul,Nat.zero_add,List.nil_append]
   rw [ec]
  ·have hh' : l.head? ≠ some 48:=by
    cases l with
    | nil => exact absurd rfl h0
    | cons a l => simpa using hh
   have hd' : ∀ c ∈ l,isDig c:=fun x hx => hd x (by simp [hx])
   have hp:=val_pos h0 hd' hh'
   rw [D_big (by omega),show (val l * 10 + (c.toNat - 48)) / 10 = val l by omega,show (val l * 10 + (c.toNat - 48)) % 10 = c.toNat - 48 by omega,ec,
    ih l (by simp at hl; omega) h0 hd' hh']
theorem D_inj {a b : Nat} (h : decDigits a = decDigits b) : a = b:=by rw [← val_D a,h,val_D]
theorem pow_pred_le (u : Nat) : 2 ≤ nDigits u → 10 ^ (nDigits u - 1) ≤ u:=by
 induction u using Nat.strongRecOn with
 | _ u ih =>
  intro h
  by_cases h1 : u < 10
  ·rw [nDigits_small h1] at h; omega
  ·rw [nDigits_big h1] at h ⊢
   by_cases h2 : u / 10 < 10
   ·rw [nDigits_small h2]; simp; omega
   ·have h3:=ih (u / 10) (by omega) (by rw [nDigits_big h2]; have:=nDigits_pos (u / 10 / 10); omega)
    have h4:=nDigits_pos (u / 10)
    rw [show nDigits (u / 10) + 1 - 1 = (nDigits (u / 10) - 1) + 1 by omega,Nat.pow_succ]
    omega
theorem nDigits_le {u k : Nat} (hk : 1 ≤ k) (h : u < 10 ^ k) : nDigits u ≤ k:=by
 refine Nat.le_of_not_lt fun h1 => ?_
 have h2:=pow_pred_le u (by omega)
 have h3 : 10 ^ k ≤ 10 ^ (nDigits u - 1):=Nat.pow_le_pow_right (by decide) (by omega)
 omega
theorem lt_of_nDigits {u k : Nat} (h : nDigits u ≤ k) : u < 10 ^ k :=
 Nat.lt_of_lt_of_le (lt_pow_nDigits u) (Nat.pow_le_pow_right (by decide) h)
def digF : Nat → Nat → Nat → Nat
 | 0,_,d => d
 | f + 1,n,d => if n + d < 10 ^ d then d else digF f n (d + 1)
def dig (n : Nat) : Nat:=digF (n + 1) n 1
def LEN (n : Nat) : Nat:=n + dig n
theorem digFspec : ∀ (f n d : Nat),1 ≤ d → (∀ j,1 ≤ j → j < d → 10 ^ j ≤ n + j) → n + (d + f) < 10 ^ (d + f) →
  1 ≤ digF f n d ∧ n + digF f n d < 10 ^ digF f n d ∧ ∀ j,1 ≤ j → j < digF f n d → 10 ^ j ≤ n + j
 | 0,n,d,h1,h2,h3 => ⟨h1,by simpa [digF] using h3,h2⟩
 | f + 1,n,d,h1,h2,h3 => by
  unfold digF
  split
  ·rename_i h; exact ⟨h1,h,h2⟩
  ·rename_i h
   refine digFspec f n (d + 1) (by omega) (fun j a b => ?_) (by rw [show d + 1 + f = d + (f + 1) by omega]; exact h3)
   by_cases e : j = d
   ·subst e; omega
   ·exact h2 j a (by omega)
theorem two_le_pow : ∀ m : Nat,2 * m ≤ 10 ^ m
 | 0 => by decide
 | m + 1 => by have:=two_le_pow m; have:=Nat.one_le_pow m 10 (by decide); rw [Nat.pow_succ]; omega
theorem dig_spec (n : Nat) : 1 ≤ dig n ∧ n + dig n < 10 ^ dig n ∧ ∀ j,1 ≤ j → j < dig n → 10 ^ j ≤ n + j :=
 digFspec (n + 1) n 1 (Nat.le_refl _) (fun j a b => by omega) (by have:=two_le_pow (1 + (n + 1)); omega)
theorem dig_pos (n : Nat) : 1 ≤ dig n:=(dig_spec n).1
theorem dig_le {n d : Nat} (h1 : 1 ≤ d) (h : n + d < 10 ^ d) : dig n ≤ d:=by
 refine Nat.le_of_not_lt fun h2 => ?_
 have:=(dig_spec n).2.2 d h1 h2
 omega
theorem nDigits_LEN (n : Nat) : nDigits (LEN n) = dig n:=by
 obtain ⟨h1,h2,h3⟩:=dig_spec n
 have a:=nDigits_le h1 (show LEN n < _ from h2)
 by_cases e : dig n = 1
 ·have:=nDigits_pos (LEN n); omega
 ·have b:=h3 (dig n - 1) (by omega) (by omega)
  refine Nat.le_antisymm a (Nat.le_of_not_lt fun c => ?_)
  have:=lt_of_nDigits (u:=LEN n) (k:=dig n - 1) (by omega)
  unfold LEN at this; omega
theorem fit_exit {n d : Nat} (h1 : 1 ≤ d) (h2 : ∀ j,1 ≤ j → j < d → 10 ^ j ≤ n + j) (h : nDigits (n + d) = d) : d = dig n:=by
 have h3:=lt_of_nDigits (u:=n + d) (k:=d) (by omega)
 refine Nat.le_antisymm (Nat.le_of_not_lt fun h4 => ?_) (dig_le h1 h3)
 have:=h2 (dig n) (dig_pos n) h4
 have:=(dig_spec n).2.1
 omega
theorem fit_go {n d : Nat} (h1 : 1 ≤ d) (h2 : ∀ j,1 ≤ j → j < d → 10 ^ j ≤ n + j) (h : nDigits (n + d) ≠ d) : 10 ^ d ≤ n + d:=by
 refine Nat.le_of_not_lt fun h3 => h ?_
 have a:=nDigits_le h1 h3
 by_cases e : d = 1
 ·have:=nDigits_pos (n + d); omega
 ·have b:=h2 (d - 1) (by omega) (by omega)
  refine Nat.le_antisymm a (Nat.le_of_not_lt fun c => ?_)
  have:=lt_of_nDigits (u:=n + d) (k:=d - 1) (by omega)
  omega
theorem fit_bound {n d : Nat} (hn : n ≤ 4611686018427387904) (h2 : ∀ j,1 ≤ j → j < d → 10 ^ j ≤ n + j) : d ≤ 19:=by
 refine Nat.le_of_not_lt fun h => ?_
 have:=h2 19 (by decide) h
 omega
theorem dig_bound {n : Nat} (hn : n ≤ 4611686018427387904) : dig n ≤ 19:=fit_bound hn (dig_spec n).2.2
theorem dig_seven {n : Nat} (h : LEN n ≤ 1048576) : dig n ≤ 7:=by
 refine Nat.le_of_not_lt fun h1 => ?_
 have:=(dig_spec n).2.2 7 (by decide) h1
 unfold LEN at h; omega
theorem LEN_pos (n : Nat) : n < LEN n:=by unfold LEN; have:=dig_pos n; omega
def key (k : List UInt8) : Bool := !k.isEmpty && !k.contains 61 && !k.contains 10
theorem key_iff (k : List UInt8) : key k = true ↔ k ≠ [] ∧ (61 : UInt8) ∉ k ∧ (10 : UInt8) ∉ k:=by
 simp [key,and_assoc]
def nn (k v : List UInt8) : Nat:=k.length + v.length + 3
def tail (k v : List UInt8) : List UInt8:=32 :: (k ++ 61 :: (v ++ [10]))
def recd (k v : List UInt8) : List UInt8:=decDigits (LEN (nn k v)) ++ tail k v
theorem tail_length (k v : List UInt8) : (tail k v).length = nn k v:=by simp [tail,nn]; omega
theorem recd_length (k v : List UInt8) : (recd k v).length = LEN (nn k v):=by
 rw [recd,List.length_append,tail_length,decDigits_length,nDigits_LEN]; unfold LEN; omega
structure Rd (b k v : List UInt8) : Prop where
 kk : key k = true
 small : LEN (nn k v) ≤ 1048576
 pre : ∃ r,b = recd k v ++ r
structure Ld (b ds : List UInt8) : Prop where
 ne : ds ≠ []
 dg : ∀ c ∈ ds,isDig c
 hd : ds.head? ≠ some 48
 le : val ds ≤ 1048576
 pre : ∃ r,b = ds ++ 32 :: r
theorem split_uniq {c : UInt8} : ∀ {x y r s : List UInt8},c ∉ x → c ∉ y → x ++ c :: r = y ++ c :: s → x = y ∧ r = s
 | [],[],r,s,_,_,h => ⟨rfl,by simpa using h⟩
 | [],b :: y,r,s,_,hy,h => by
  simp only [List.nil_append,List.cons_append,List.cons.injEq] at h
  exact absurd (by rw [h.1]; simp) hy
 | a :: x,[],r,s,hx,_,h => by
  simp only [List.nil_append,List.cons_append,List.cons.injEq] at h
  exact absurd (by rw [h.1]; simp) hx
 | a :: x,b :: y,r,s,hx,hy,h => by
  simp only [List.cons_append,List.cons.injEq] at h
  obtain ⟨e,f⟩:=split_uniq (fun m => hx (by simp [m])) (fun m => hy (by simp [m])) h.2
  exact ⟨by rw [h.1,e],f⟩
theorem no_blank {ds : List UInt8} (h : ∀ c ∈ ds,isDig c) : (32 : UInt8) ∉ ds:=fun m => by
 have:=(h _ m).1; simp at this
theorem Ld.uniq {b x y : List UInt8} (h : Ld b x) (g : Ld b y) : x = y:=by
 obtain ⟨r,e⟩:=h.pre
 obtain ⟨s,f⟩:=g.pre
 exact (split_uniq (no_blank h.dg) (no_blank g.dg) (e.symm.trans f)).1
theorem Rd.ld {b k v : List UInt8} (h : Rd b k v) : Ld b (decDigits (LEN (nn k v))):=by
 obtain ⟨r,e⟩:=h.pre
 exact ⟨D_ne _,D_dig _,D_head _ (by have:=LEN_pos (nn k v); omega),by rw [val_D]; exact h.small,⟨k ++ 61 :: (v ++ [10]) ++ r,by rw [e,recd,tail]; simp⟩⟩
theorem Rd.uniq {b k v k' v' : List UInt8} (h : Rd b k v) (g : Rd b k' v') : k = k' ∧ v = v':=by
 have hL:=D_inj (h.ld.uniq g.ld)
 obtain ⟨r,e⟩:=h.pre
 obtain ⟨s,f⟩:=g.pre
 rw [e,recd,recd,hL,tail,tail,List.append_assoc,List.append_assoc] at f
 have f1:=List.append_cancel_left f
 simp only [List.cons_append,List.cons.injEq,true_and,List.append_assoc] at f1
 obtain ⟨a,c⟩:=split_uniq ((key_iff _).1 h.kk).2.1 ((key_iff _).1 g.kk).2.1 f1
 subst a
 have l1 : nn k v = nn k v':=by
  have d1:=nDigits_LEN (nn k v)
  have d2:=nDigits_LEN (nn k v')
  rw [hL,d2] at d1
  have h3:=hL; unfold LEN at h3; omega
 refine ⟨rfl,?_⟩
 exact (List.append_inj c (by unfold nn at l1; omega)).1
theorem Rd.facts {b k v ds : List UInt8} (h : Rd b k v) (g : Ld b ds) :
  val ds = LEN (nn k v) ∧ ds.length + 1 < val ds ∧ val ds ≤ b.length ∧ b[val ds - 1]? = some 10 ∧ (b.drop (ds.length + 1)).take (val ds - 1 - (ds.length + 1)) = k ++ 61 :: v:=by
 obtain rfl:=g.uniq h.ld
 rw [val_D,decDigits_length,nDigits_LEN]
 obtain ⟨r,e⟩:=h.pre
 have hl:=recd_length k v
 have hk : k ≠ []:=((key_iff _).1 h.kk).1
 have hk1 : 1 ≤ k.length:=by cases k with | nil => exact absurd rfl hk | cons => simp
 have hN : LEN (nn k v) = nn k v + dig (nn k v):=rfl
 have hnn : nn k v = k.length + v.length + 3:=rfl
 have hd : (decDigits (LEN (nn k v))).length = dig (nn k v):=by rw [decDigits_length,nDigits_LEN]
 refine ⟨rfl,by omega,by rw [e,List.length_append,hl]; omega,?_,?_⟩
 ·rw [e,List.getElem?_append_left (by omega)]
  have e2 : recd k v = (decDigits (LEN (nn k v)) ++ 32 :: (k ++ 61 :: v)) ++ [10]:=by simp [recd,tail]
  have hl2 : (decDigits (LEN (nn k v)) ++ 32 :: (k ++ 61 :: v)).length = LEN (nn k v) - 1:=by simp [hd]; omega
  rw [e2,List.getElem?_append_right (by omega),hl2,Nat.sub_self]
  rfl
 ·have e3 : b = (decDigits (LEN (nn k v)) ++ [32]) ++ ((k ++ 61 :: v) ++ (10 :: r)):=by rw [e]; simp [recd,tail]
  rw [e3,List.drop_left' (by simp [hd]),List.take_left' (by simp; omega)]
theorem ok_rd {b ds k v : List UInt8} (g : Ld b ds) (h1 : ds.length + 1 < val ds) (h2 : val ds ≤ b.length) (h3 : b[val ds - 1]? = some 10)
  (h4 : (b.drop (ds.length + 1)).take (val ds - 1 - (ds.length + 1)) = k ++ 61 :: v) (h5 : key k = true) (h6 : val ds = LEN (nn k v)) : Rd b k v:=by
 refine ⟨h5,by rw [← h6]; exact g.le,?_⟩
 obtain ⟨r,e⟩:=g.pre
 have hD:=D_val _ ds rfl g.ne g.dg g.hd
 have e1 : b.drop (ds.length + 1) = r:=by
  rw [e,show ds ++ 32 :: r = (ds ++ [32]) ++ r by simp,List.drop_left' (by simp)]
 rw [e1] at h4
 have hb : b.length = ds.length + 1 + r.length:=by rw [e]; simp; omega
 have e2 : r = r.take (val ds - 1 - (ds.length + 1)) ++ 10 :: r.drop (val ds - 1 - (ds.length + 1) + 1):=by
  have hlt : val ds - 1 - (ds.length + 1) < r.length:=by omega
  have hx : r[val ds - 1 - (ds.length + 1)] = 10:=by
   have h7 : b[val ds - 1]? = r[val ds - 1 - (ds.length + 1)]?:=by
    rw [e,show ds ++ 32 :: r = (ds ++ [32]) ++ r by simp,List.getElem?_append_right (by simp; omega)]
    simp
   rw [h3,List.getElem?_eq_getElem hlt] at h7
   exact (Option.some.inj h7).symm
  rw [← hx,List.getElem_cons_drop,List.take_append_drop]
 refine ⟨r.drop (val ds - 1 - (ds.length + 1) + 1),?_⟩
 rw [e]
 conv => lhs; rw [← hD,e2,h4]
 rw [recd,tail,h6]
 simp
theorem index_split {l : List UInt8} {c : UInt8} {o : Nat} (h : indexByte l c = (o : Int)) : o < l.length ∧ l = l.take o ++ c :: l.drop (o + 1) ∧ c ∉ l.take o:=by
 obtain ⟨h1,h2⟩:=Go.Lib.indexByte_some h
 obtain ⟨hl,hx⟩:=List.getElem?_eq_some_iff.1 h1
 refine ⟨hl,?_,fun m => ?_⟩
 ·rw [← hx,List.getElem_cons_drop,List.take_append_drop]
 ·obtain ⟨j,hj,e⟩:=List.mem_iff_getElem.1 m
  rw [List.length_take] at hj
  refine h2 j (by omega) ?_
  rw [List.getElem_take] at e
  rw [List.getElem?_eq_getElem (by omega),e]
theorem index_iff (l : List UInt8) (c : UInt8) : decide (0 ≤ indexByte l c) = l.contains c:=by
 rcases (show indexByte l c = -1 ∨ 0 ≤ indexByte l c by have:=Go.Lib.indexByte_ge l c; omega) with h | h
 ·rw [h]
  have : c ∉ l:=fun m => by
   obtain ⟨j,hj,e⟩:=List.mem_iff_getElem.1 m
   exact Go.Lib.indexByte_none h j (by rw [List.getElem?_eq_getElem hj,e])
  simp [this]
 ·obtain ⟨o,ho⟩:=Int.eq_ofNat_of_zero_le h
  obtain ⟨a,b,d⟩:=index_split ho
  have : c ∈ l:=by rw [b]; simp
  simp [this,h]
end Go.Proofs.YtdfjlmfnkhhnjaaGreatDoorP
