import Derived.Test.YtdfjlmfnkhhnjaaGreatDoorZb
import Derived.Test.YtdfjlmfnkhhnjaaGreatDoorZe
set_option maxRecDepth 100000
set_option linter.unusedVariables false
set_option linter.unusedSimpArgs false
namespace Go.Proofs.YtdfjlmfnkhhnjaaGreatDoor.Stk
section
open Go.RowKit
structure RIn (w : World) (a : Option Addr) (R : List Rv) : Prop where
 get : ∀ (k : Nat) (r : Rv),R[k]? = some r → ∃ b off,a = some ⟨b,off,none⟩ ∧ b < w.heap.size ∧ w.cell? ⟨b,off + k * 5,none⟩ = some (str r.v.key) ∧ w.cell? ⟨b,off + k * 5 + 1,none⟩ = some (.int .i64 r.v.seq) ∧ w.cell? ⟨b,off + k * 5 + 2,none⟩ = some (.bool r.v.mkr) ∧ w.cell? ⟨b,off + k * 5 + 3,none⟩ = some (str r.v.data) ∧ w.cell? ⟨b,off + k * 5 + 4,none⟩ = some (.slice r.a r.v.l.length r.c)
theorem RIn.later {w w' : World} {a : Option Addr} {R : List Rv} (h : RIn w a R) (hb : Below w.heap.size w w') : RIn w' a R:=by
 refine ⟨fun k v hk => ?_⟩
 obtain ⟨b,off,h1,h2,c0,c1,c2,c3,c4⟩:=h.get k v hk
 exact ⟨b,off,h1,Nat.lt_of_lt_of_le h2 hb.size,(hb.cell (p:=⟨b,_,none⟩) h2).trans c0,(hb.cell (p:=⟨b,_,none⟩) h2).trans c1,(hb.cell (p:=⟨b,_,none⟩) h2).trans c2,(hb.cell (p:=⟨b,_,none⟩) h2).trans c3,(hb.cell (p:=⟨b,_,none⟩) h2).trans c4⟩
def Sh (w : World) (R : List Rv) : Prop := ∀ r ∈ R,Sl w r.a r.c r.v.l ∧ r.v.l.length ≤ 4398046510976
theorem li_rows {w : World} {L : List Vs} {a : Option Addr} {n c : Nat} (h : Li w L a n c) : ∃ R : List Rv,R.map (·.v) = L ∧ RIn w a R ∧ Sh w R:=by
 have H : ∀ k : Nat,∃ r : Rv,∀ v,L[k]? = some v → r.v = v ∧ (∃ b off,a = some ⟨b,off,none⟩ ∧ b < w.heap.size ∧ w.cell? ⟨b,off + k * 5,none⟩ = some (str r.v.key) ∧ w.cell? ⟨b,off + k * 5 + 1,none⟩ = some (.int .i64 r.v.seq) ∧ w.cell? ⟨b,off + k * 5 + 2,none⟩ = some (.bool r.v.mkr) ∧ w.cell? ⟨b,off + k * 5 + 3,none⟩ = some (str r.v.data) ∧ w.cell? ⟨b,off + k * 5 + 4,none⟩ = some (.slice r.a r.v.l.length r.c)) ∧ Sl w r.a r.c r.v.l:=fun k => by
  cases hq : L[k]? with
  | none => exact ⟨⟨⟨[],0,false,[],[]⟩,[],none,0⟩,fun v hv => by cases hv⟩
  | some u =>
   obtain ⟨b,off,ma,mc,h1,h2,c0,c1,c2,c3,c4,s⟩:=h.s.at'.get k u hq
   refine ⟨⟨u,[],ma,mc⟩,fun v hv => ?_⟩
   injection hv with hv
   subst hv
   exact ⟨rfl,⟨b,off,h1,h2,c0,c1,c2,c3,c4⟩,s⟩
 have hget : ∀ (k : Nat) (r : Rv),((List.range L.length).map (fun k => Classical.choose (H k)))[k]? = some r → k < L.length ∧ r = Classical.choose (H k):=fun k r hk => by
  have hl:=(List.getElem?_eq_some_iff.1 hk).1
  rw [List.length_map,List.length_range] at hl
  rw [List.getElem?_map,List.getElem?_range hl] at hk
  simp at hk
  exact ⟨hl,hk.symm⟩
 have hspec : ∀ (k : Nat) (hk : k < L.length),_:=fun k hk => Classical.choose_spec (H k) L[k] (List.getElem?_eq_getElem hk)
 refine ⟨(List.range L.length).map (fun k => Classical.choose (H k)),?_,⟨fun k r hk => ?_⟩,fun r hr => ?_⟩
 ·apply List.ext_getElem?
  intro k
  by_cases hk : k < L.length
  ·rw [List.map_map,List.getElem?_map,List.getElem?_range hk,List.getElem?_eq_getElem hk]
   simp only [Option.map_some,Function.comp]
   rw [(hspec k hk).1]
  ·rw [List.getElem?_eq_none (by simp; omega),List.getElem?_eq_none (by omega)]
 ·obtain ⟨hl,rfl⟩:=hget k r hk
  exact (hspec k hl).2.1
 ·obtain ⟨k,hk⟩:=List.mem_iff_getElem?.1 hr
  obtain ⟨hl,rfl⟩:=hget k r hk
  refine ⟨(hspec k hl).2.2,?_⟩
  rw [(hspec k hl).1]
  exact h.z _ (List.getElem_mem hl)
theorem RIn.cells {w : World} {ad : Addr} {R : List Rv} (h : RIn w (some ad) R) : ∀ j u,(rcells R)[j]? = some u → w.cell? (ad.add j) = some u:=fun j u hj => by
 have hl:=rcells_length R
 have hlt:=(List.getElem?_eq_some_iff.1 hj).1
 have e : j = j / 5 * 5 + j % 5:=by omega
 have hm : j % 5 < 5:=Nat.mod_lt _ (by omega)
 obtain ⟨r,hr⟩ : ∃ r,R[j / 5]? = some r:=⟨R[j / 5]'(by omega),List.getElem?_eq_getElem (by omega)⟩
 obtain ⟨b,off,h1,h2,c0,c1,c2,c3,c4⟩:=h.get _ r hr
 injection h1 with h1
 subst h1
 rw [e,rcells_get hr _ hm] at hj
 rw [addr_add,e]
 generalize j / 5 = q at *
 generalize j % 5 = t at *
 clear e hl hlt
 rcases t with _ | _ | _ | _ | _ | t
 ·simp [rcs] at hj; subst hj; exact c0
 ·simp [rcs] at hj; subst hj; rw [← Nat.add_assoc]; exact c1
 ·simp [rcs] at hj; subst hj; rw [← Nat.add_assoc]; exact c2
 ·simp [rcs] at hj; subst hj; rw [← Nat.add_assoc]; exact c3
 ·simp [rcs] at hj; subst hj; rw [← Nat.add_assoc]; exact c4
 ·omega
theorem run_rol {W : World} {base : Nat} {v : Value} {R R2 : List Rv} (ty : TypeId) {ad : Option Addr} {n c : Nat} (f1 : Ro base W v R) (k1 : RIn W ad R2) (hn2 : n = R2.length) (hc : ad = none → c = 0) (hn : R.length + R2.length ≤ 1954687338260) :
  ∃ v' w',(Builtin.append_ #[22,22] ty #[v,.slice ad n c]).run Tryz.prog W = .ok v' w' ∧ Ro base w' v' (R ++ R2) ∧ Below base W w':=by
 obtain ⟨i0,hi0,hz0,hz1,hz2⟩:=infoV
 have hmx : maxLen = 9223372036854775807:=rfl
 subst hn2
 cases ad with
 | none =>
  have hq : R2 = []:=by
   cases R2 with
   | nil => rfl
   | cons r t => obtain ⟨b,off,e,_⟩:=k1.get 0 r rfl; cases e
  subst hq
  rw [hc rfl]
  exact ⟨v,W,run_append_owned_none (P:=Tryz.prog) W base 22 ty 62 i0 5 Tryz.underlying22 hi0 _ R.length (rcells R) f1.own,by simpa using f1,Below.refl _ _⟩
 | some ad =>
  obtain ⟨v',w',hr,hown,hgrow,_⟩:=run_append_own_wide (P:=Tryz.prog) (w:=W) base 22 ty 62 i0 _ 5 72 Tryz.underlying22 hi0 hz0 hz1 hz2 rfl (by omega) v R.length (rcells R) f1.own ad R2.length c (rcells R2) (rcells_length R2) k1.cells (rcells_one R2) (by rw [hmx]; omega) (by omega) f1.le
  refine ⟨v',w',hr,⟨?_,Nat.le_trans f1.le hgrow.size⟩,grown_below f1.own f1.le hgrow⟩
  rw [rcells_append,List.length_append]; exact hown
theorem rin_one {W : World} {g : Nat} (r : Rv) (h : W.heap[g]? = some (.cells (rcs r).toArray 62 (0,0))) : RIn W (some ⟨g,0,none⟩) [r]:=⟨fun k q hk => by
 have hg : g < W.heap.size:=(Array.getElem?_eq_some_iff.1 h).1
 have hk0 : k = 0:=by have:=(List.getElem?_eq_some_iff.1 hk).1; simp at this; omega
 subst hk0
 simp at hk
 subst hk
 refine ⟨g,0,rfl,hg,?_,?_,?_,?_,?_⟩
 all_goals rw [cell_of_row _ _ _ _ _ _ h]; rfl⟩
theorem run_ro1 {w : World} {base : Nat} {v : Value} {R : List Rv} (ty : TypeId) (r : Rv) (f1 : Ro base w v R) (hn : R.length + 1 ≤ 1954687338260) :
  ∃ v' w',(Builtin.append_ #[22,22] ty #[v,.slice (some ⟨w.heap.size,0,none⟩) 1 1]).run Tryz.prog (w.alloc (.cells #[str r.v.key,.int .i64 r.v.seq,.bool r.v.mkr,str r.v.data,.slice r.a r.v.l.length r.c] 62)) = .ok v' w' ∧ Ro base w' v' (R ++ [r]) ∧ Below base w w':=by
 have b0:=(Below.refl base w).alloc f1.le (.cells (rcs r).toArray 62)
 have f2 : Ro base (w.alloc (.cells (rcs r).toArray 62)) v R:=f1.later ((Below.refl w.heap.size w).alloc (Nat.le_refl _) _)
 obtain ⟨v',w',hr,h1,h2⟩:=run_rol ty f2 (rin_one r (heap_alloc_new w (.cells (rcs r).toArray 62))) (n:=1) (c:=1) rfl (fun q => by cases q) (by simpa using hn)
 exact ⟨v',w',hr,h1,b0.trans h2⟩
theorem own_cellX {w : World} {base g cap n s : Nat} {t : TypeId} {xs : List Value} (h : w.ownsRow base t s (.slice (some ⟨g,0,none⟩) n cap) n xs) (j : Nat) (u : Value) : (w.setCell ⟨g,j,none⟩ u).ownsRow base t s (.slice (some ⟨g,0,none⟩) n cap) n (xs.set j u):=by
 refine ⟨by rw [List.length_set]; exact h.1,?_⟩
 rcases h.2 with ⟨e,_⟩ | ⟨g',cap',cur,e,h2,h3,h4,h5,h6,h7⟩
 ·cases e
 ·injection e with e1 e2 e3
  have e4:=Option.some.inj e1
  have e5 : g = g':=congrArg Addr.block e4
  subst e5 e3
  refine Or.inr ⟨g,cap,_,rfl,h2,heap_setCell_same _ _ _ _ _ _ h3,h4,h5,by rw [Array.size_setIfInBounds]; exact h6,?_⟩
  rw [Array.toList_setIfInBounds,← h7,List.take_set]
theorem rcells_consX (q : Rv) (l : List Rv) : rcells (q :: l) = rcs q ++ rcells l:=by simp [rcells]
theorem rcells_setX : ∀ (R : List Rv) (k : Nat) (r : Rv) (a : Option Addr) (c : Nat),R[k]? = some r → rcells (R.set k ⟨r.v,[],a,c⟩) = (rcells R).set (k * 5 + 4) (.slice a r.v.l.length c)
 | [],k,r,a,c,h => by simp at h
 | q :: l,0,r,a,c,h => by
  simp at h
  subst h
  rw [List.set_cons_zero,rcells_consX,rcells_consX]
  simp [rcs]
 | q :: l,k + 1,r,a,c,h => by
  have:=rcells_setX l k r a c (by simpa using h)
  rw [List.set_cons_succ,rcells_consX,rcells_consX,this]
  simp [rcs,show (k + 1) * 5 + 4 = k * 5 + 4 + 1 + 1 + 1 + 1 + 1 by omega]
theorem set_getX {R : List Rv} {k j : Nat} {r' q : Rv} (h : (R.set k r')[j]? = some q) : (j = k ∧ q = r') ∨ (¬ j = k ∧ R[j]? = some q):=by
 by_cases e : j = k
 ·subst e
  have hl:=(List.getElem?_eq_some_iff.1 h).1
  rw [List.getElem?_set_self (by simpa using hl)] at h
  injection h with h
  exact .inl ⟨rfl,h.symm⟩
 ·rw [List.getElem?_set_ne (fun q => e q.symm)] at h
  exact .inr ⟨e,h⟩
theorem map_setX {R : List Rv} {k : Nat} {r : Rv} (h : R[k]? = some r) (a : Option Addr) (c : Nat) : (R.set k ⟨r.v,[],a,c⟩).map (·.v) = R.map (·.v):=by
 rw [List.map_set]
 apply List.ext_getElem?
 intro j
 by_cases e : j = k
 ·subst e
  have hl:=(List.getElem?_eq_some_iff.1 h).1
  rw [List.getElem?_set_self (by simpa using hl),List.getElem?_map,h]
  rfl
 ·rw [List.getElem?_set_ne (fun q => e q.symm)]
structure Tk (w0 w : World) (v : Value) (R : List Rv) (k : Nat) : Prop where
 own : w.ownsRow w0.heap.size 62 5 v R.length (rcells R)
 b : Below w0.heap.size w0 w
 met : ∀ (j : Nat) (r : Rv),j < k → R[j]? = some r → r.z = [] ∧ Ow w0.heap.size w r.mv r.v.l
 par : ∀ (i j : Nat) (r r' : Rv),i < k → j < k → ¬ i = j → R[i]? = some r → R[j]? = some r' → ∀ b,r.mv.ownBlock = some b → r'.mv.ownBlock ≠ some b
 sh : ∀ (j : Nat) (r : Rv),k ≤ j → R[j]? = some r → Sl w0 r.a r.c r.v.l ∧ r.v.l.length ≤ 4398046510976
theorem Tk.start {w0 w : World} {v : Value} {R : List Rv} (h : Ro w0.heap.size w v R) (hb : Below w0.heap.size w0 w) (hs : Sh w0 R) : Tk w0 w v R 0 :=
 ⟨h.own,hb,fun j r hj => by omega,fun i j r r' hi => by omega,fun j r _ hr => hs r (List.mem_of_getElem? hr)⟩
theorem Tk.step {w0 w w1 : World} {g n cap : Nat} {R : List Rv} {k : Nat} {r : Rv} {a5 : Option Addr} {c5 : Nat} (h : Tk w0 w (.slice (some ⟨g,0,none⟩) n cap) R k) (hn : n = R.length) (hr : R[k]? = some r) (hb : Below w.heap.size w w1) (ho : Ow w.heap.size w1 (.slice a5 r.v.l.length c5) r.v.l) :
  Tk w0 (w1.setCell ⟨g,k * 5 + 4,none⟩ (.slice a5 r.v.l.length c5)) (.slice (some ⟨g,0,none⟩) n cap) (R.set k ⟨r.v,[],a5,c5⟩) (k + 1):=by
 subst hn
 have hg0 : w0.heap.size ≤ g:=(h.own.lt g rfl).1
 have o1 : w1.ownsRow w0.heap.size 62 5 (.slice (some ⟨g,0,none⟩) R.length cap) R.length (rcells R):=own_later h.own hb
 have hb1 : Below w0.heap.size w0 w1:=h.b.trans (hb.mono h.b.size)
 have hle : w0.heap.size ≤ w.heap.size:=h.b.size
 have hnew : (⟨r.v,[],a5,c5⟩ : Rv).mv = .slice a5 r.v.l.length c5:=by unfold Rv.mv; simp
 have ho' : Ow w0.heap.size w1 (.slice a5 r.v.l.length c5) r.v.l:=ho.base hle
 refine ⟨?_,hb1.setCell (p:=⟨g,_,none⟩) hg0 _,fun j q hj hq => ?_,fun i j q q' hi hj hij hq hq' b hb2 hb3 => ?_,fun j q hj hq => ?_⟩
 ·rw [List.length_set,rcells_setX R k r a5 c5 hr]
  exact own_cellX o1 _ _
 ·rcases set_getX hq with ⟨rfl,rfl⟩ | ⟨hne,hq⟩
  ·refine ⟨rfl,?_⟩
   rw [hnew]
   exact ho'.other (own_apart o1 ho'.own (by decide) rfl) _
  ·obtain ⟨z,o⟩:=h.met j q (by omega) hq
   have o2:=o.later hb
   exact ⟨z,o2.other (own_apart o1 o2.own (by decide) rfl) _⟩
 ·rcases set_getX hq with ⟨rfl,rfl⟩ | ⟨hne,hq1⟩
  ·rcases set_getX hq' with ⟨rfl,rfl⟩ | ⟨hne',hq2⟩
   ·exact hij rfl
   ·rw [hnew] at hb2
    have h1:=(ho.own.lt b hb2).1
    have h2:=((h.met j q' (by omega) hq2).2.own.lt b hb3).2
    omega
  ·rcases set_getX hq' with ⟨rfl,rfl⟩ | ⟨hne',hq2⟩
   ·rw [hnew] at hb3
    have h1:=(ho.own.lt b hb3).1
    have h2:=((h.met i q (by omega) hq1).2.own.lt b hb2).2
    omega
   ·exact h.par i j q q' (by omega) (by omega) hij hq1 hq2 b hb2 hb3
 ·rcases set_getX hq with ⟨rfl,rfl⟩ | ⟨hne,hq⟩
  ·omega
  ·exact h.sh j q (by omega) hq
theorem Tk.cp {w0 w : World} {v : Value} {R : List Rv} (h : Tk w0 w v R R.length) : Cp w0.heap.size w v (R.map (·.v)):=by
 have hl : ∀ (k : Nat) (r : Rv),R[k]? = some r → k < R.length:=fun k r hk => (List.getElem?_eq_some_iff.1 hk).1
 refine ⟨R,⟨h.own,h.b.size,fun k r hk => ?_,fun j k r r' hjk hj hk => h.par j k r r' (hl j r hj) (hl k r' hk) hjk hj hk⟩,rfl,fun r hr => ?_⟩
 ·obtain ⟨z,o⟩:=h.met k r (hl k r hk) hk
  rw [z,List.append_nil]
  exact o
 ·obtain ⟨k,hk⟩:=List.mem_iff_getElem?.1 hr
  exact (h.met k r (hl k r hk) hk).1
end
section
open Go.RowKit
attribute [local go_sem ↓] Go.wp_at_zero Go.wp_at_succ
attribute [local go_sem ↓] slPe
theorem Tk.get {w0 w : World} {a : Option Addr} {c : Nat} {R : List Rv} {k : Nat} (h : Tk w0 w (.slice a R.length c) R k) {r : Rv} (hr : R[k]? = some r) :
  ∃ g,a = some ⟨g,0,none⟩ ∧ g < w.heap.size ∧ w0.heap.size ≤ g ∧ (w.cell? ⟨g,k * 5,none⟩ = some (str r.v.key) ∧ w.cell? ⟨g,k * 5 + 1,none⟩ = some (.int .i64 r.v.seq) ∧ w.cell? ⟨g,k * 5 + 2,none⟩ = some (.bool r.v.mkr) ∧ w.cell? ⟨g,k * 5 + 3,none⟩ = some (str r.v.data) ∧ w.cell? ⟨g,k * 5 + 4,none⟩ = some (.slice r.a r.v.l.length r.c)) ∧ ∀ j,w.frozen? ⟨g,j,none⟩ = false:=by
 have hk:=(List.getElem?_eq_some_iff.1 hr).1
 rcases h.own.2 with ⟨e,h0⟩ | ⟨g,cap,cur,e,h2,h3,h4,h5,h6,h7⟩
 ·omega
 ·injection e with e1 e2 e3
  subst e1 e3
  have hp : (rcells R).length = R.length * 5:=rcells_length R
  have hx : ∀ j,j < 5 → w.cell? ⟨g,k * 5 + j,none⟩ = (rcs r)[j]?:=fun j hj => by rw [h.own.cellAt _ (by omega),rcells_get hr j hj]
  exact ⟨g,rfl,(h.own.lt g rfl).2,h2,⟨hx 0 (by omega),hx 1 (by omega),hx 2 (by omega),hx 3 (by omega),hx 4 (by omega)⟩,fun j => frozen_of_row _ _ _ _ _ h3⟩
set_option maxHeartbeats 4000000 in
theorem takeOwn_any (w0 : World) (R : List Rv) (w : World) (v : Value) (h : Ro w0.heap.size w v R) (hb : Below w0.heap.size w0 w) (hs : Sh w0 R) (hl : R.length ≤ 1954687338260) :
  Calls Tryz.prog 62 #[v] w fun e w' => e = .returned (.tuple #[]) ∧ Cp w0.heap.size w' v (R.map (·.v)) ∧ Below w0.heap.size w0 w':=by
 have T0:=Hid.mk (Tk.start h hb hs)
 obtain ⟨a,c,rfl⟩:=h.sl
 clear h hb hs
 have HM : Hid (R.map (·.v) = R.map (·.v)):=⟨rfl⟩
 obtain ⟨n,hn⟩ : ∃ n,n = R.length:=⟨_,rfl⟩
 obtain ⟨L,hL⟩ : ∃ L,L = R.map (·.v):=⟨_,rfl⟩
 rw [← hL]
 rw [← hn] at T0 hl ⊢
 have HN:=Hid.mk hn
 have HL:=Hid.mk hL
 clear hn hL
 go_enter Tryz.func62,Tryz.ntmps62
 go_wp2_with fail
 go_loopw [6] (fun i wr => ∃ (k : Nat) (R' : List Rv),k ≤ n ∧ i = .int .i64 (k : Int) ∧ Hid (n = R'.length ∧ L = R'.map (·.v) ∧ Tk w0 wr (.slice a n c) R' k)) (fun i _ => n - (intOf i).toNat)
 case atStart => exact ⟨0,R,Nat.zero_le _,rfl,⟨HN.out,HL.out,T0.out⟩⟩
 case round =>
  clear T0 HN HL HM
  obtain ⟨k,R',hk,rfl,HT⟩:=hrel
  by_cases hlt : k < n
  ·have d1 : decide ((k : Int) < (n : Int)) = true:=decide_eq_true (Int.ofNat_lt.2 hlt)
   have k2 : (k : Int) < (n : Int):=Int.ofNat_lt.2 hlt
   have hw1 : wrap64 ((k : Int) + 1) = ((k + 1 : Nat) : Int):=by unfold wrap64; omega
   obtain ⟨u,hu⟩ : ∃ u,R'[k]? = some u:=⟨R'[k]'(by rw [← HT.out.1]; exact hlt),List.getElem?_eq_getElem _⟩
   have hTk:=HT.out.2.2
   have hnn:=HT.out.1
   rw [hnn] at hTk
   obtain ⟨g,rfl,hgl,hg0,⟨c0,c1,c2,c3,c4⟩,hfr⟩:=hTk.get hu
   rw [← hnn] at hTk
   have hsh:=hTk.sh k u (Nat.le_refl _) hu
   have bx:=(Below.refl wr.heap.size wr).alloc (Nat.le_refl _) (.cells #[str u.v.key,.int .i64 u.v.seq,.bool u.v.mkr,str u.v.data,.slice u.a u.v.l.length u.c] 62)
   have z1:=Bv.new wr (str u.v.key) (.int .i64 u.v.seq) (.bool u.v.mkr) (str u.v.data) (.slice u.a u.v.l.length u.c)
   obtain ⟨y0,y1,y2,y3,y4,_⟩:=z1.cells
   have hS1:=(hsh.1.later hTk.b).later bx
   have hlen:=hsh.2
   have HX : Hid (∀ a5 c5 w3,Ow (wr.heap.size + 1) w3 (.slice a5 u.v.l.length c5) u.v.l → Below (wr.heap.size + 1) (wr.alloc (.cells #[str u.v.key,.int .i64 u.v.seq,.bool u.v.mkr,str u.v.data,.slice u.a u.v.l.length u.c] 62)) w3 → (w3.cell? ⟨g,k * 5 + 4,none⟩ = some (.slice u.a u.v.l.length u.c) ∧ w3.frozen? ⟨g,k * 5 + 4,none⟩ = false) ∧ (n = (R'.set k ⟨u.v,[],a5,c5⟩).length ∧ L = (R'.set k ⟨u.v,[],a5,c5⟩).map (·.v) ∧ Tk w0 (w3.setCell ⟨g,k * 5 + 4,none⟩ (.slice a5 u.v.l.length c5)) (.slice (some ⟨g,0,none⟩) n c) (R'.set k ⟨u.v,[],a5,c5⟩) (k + 1))):=⟨fun a5 c5 w3 o3 b3 => by
    have hb3 : Below wr.heap.size wr w3:=bx.trans (b3.mono (by omega))
    refine ⟨⟨(hb3.cell (p:=⟨g,_,none⟩) hgl).trans c4,?_⟩,by rw [List.length_set]; exact hnn,by rw [map_setX hu]; exact HT.out.2.1,hTk.step hnn hu hb3 (o3.base (by omega))⟩
    rw [World.frozen?_of_block (w:=wr) (hb3.block g hgl)]
    exact hfr _⟩
   clear HT hTk hu hnn hsh hfr hl
   go_wp2_with (refine app_sliceB rfl _ _ rfl u.v.l (Ow.nil _ (wr.heap.size + 1) (by simp)) hS1 rfl (by simp; omega) rfl rfl ?_; intro v3 w3 o3 b3; rw [List.nil_append] at o3; obtain ⟨a5,c5,rfl,s3⟩:=o3.sl; obtain ⟨⟨x4,f4⟩,HF0⟩:=HX.out a5 c5 w3 o3 b3; have HF:=Hid.mk HF0; clear HF0)
   exact ⟨⟨k + 1,_,hlt,by first | (rw [hw1]; done) | go_num,HF⟩,by first | (rw [hw1]; exact lss_meas hlt) | (simp [intOf]; omega)⟩
  ·obtain rfl : k = n:=Nat.le_antisymm hk (Nat.le_of_not_lt hlt)
   have d1 : decide ((k : Int) < (k : Int)) = false:=decide_eq_false (fun q => Int.lt_irrefl _ q)
   go_wp2_with fail
   go_end0
   have hT:=HT.out.2.2
   have hq:=HT.out.1
   exact ⟨rfl,by rw [HT.out.2.1]; rw [hq] at hT ⊢; exact hT.cp,hT.b⟩
end
section
open Go.RowKit
attribute [local go_sem ↓] Go.wp_at_zero Go.wp_at_succ
attribute [local go_sem ↓] slPe
abbrev dv (since next : Int) (a : Option Addr) (n cap : Nat) : Value := .agg #[.int .i64 since,.int .i64 next,.slice a n cap]
def Bd (w : World) (g : Nat) (x y z : Value) : Prop:=w.heap[g]? = some (.cells #[x,y,z] 53 (0,0))
theorem Bd.lt {w : World} {g : Nat} {x y z : Value} (h : Bd w g x y z) : g < w.heap.size:=(Array.getElem?_eq_some_iff.1 h).1
theorem Bd.cells {w : World} {g : Nat} {x y z : Value} (h : Bd w g x y z) : w.cell? ⟨g,0,none⟩ = some x ∧ w.cell? ⟨g,1,none⟩ = some y ∧ w.cell? ⟨g,2,none⟩ = some z ∧ ∀ j,w.frozen? ⟨g,j,none⟩ = false:=by
 refine ⟨by rw [cell_of_row _ _ _ _ _ _ h]; rfl,by rw [cell_of_row _ _ _ _ _ _ h]; rfl,by rw [cell_of_row _ _ _ _ _ _ h]; rfl,fun j => ?_⟩
 exact frozen_of_row _ _ _ _ _ h
theorem Bd.later {w w' : World} {g : Nat} {x y z : Value} (h : Bd w g x y z) (hb : Below w.heap.size w w') : Bd w' g x y z:=by
 have:=hb.block g h.lt
 unfold Bd at h ⊢
 rw [this]; exact h
theorem Bd.low {B : Nat} {w w' : World} {g : Nat} {x y z : Value} (h : Bd w g x y z) (hg : g < B) (hb : Below B w w') : Bd w' g x y z:=by
 have:=hb.block g hg
 unfold Bd at h ⊢
 rw [this]; exact h
theorem Bd.new (w : World) (x y z : Value) : Bd (w.alloc (.cells #[x,y,z] 53)) w.heap.size x y z:=heap_alloc_new _ _
theorem Bd.set0 {w : World} {g : Nat} {x y z : Value} (h : Bd w g x y z) (c : Value) : Bd (w.setCell ⟨g,0,none⟩ c) g c y z:=by
 unfold Bd
 rw [heap_setCell_same _ _ _ _ _ _ h]; rfl
theorem Bd.set1 {w : World} {g : Nat} {x y z : Value} (h : Bd w g x y z) (c : Value) : Bd (w.setCell ⟨g,1,none⟩ c) g x c z:=by
 unfold Bd
 rw [heap_setCell_same _ _ _ _ _ _ h]; rfl
theorem Bd.set2 {w : World} {g : Nat} {x y z : Value} (h : Bd w g x y z) (c : Value) : Bd (w.setCell ⟨g,2,none⟩ c) g x y c:=by
 unfold Bd
 rw [heap_setCell_same _ _ _ _ _ _ h]; rfl
theorem bq_bd (w : World) (x y : Value) : ∀ w',Below (w.heap.size + 2) ((w.alloc (.cells #[x,y] 24)).alloc (.cells #[.int .i64 0,.int .i64 0,.slice none 0 0] 53)) w' → Bq w' w.heap.size x y ∧ Bd w' (w.heap.size + 1) (.int .i64 0) (.int .i64 0) (.slice none 0 0):=fun w' h => by
 refine ⟨?_,?_⟩
 ·refine Bq.low (w:=(w.alloc (.cells #[x,y] 24)).alloc (.cells #[.int .i64 0,.int .i64 0,.slice none 0 0] 53)) ?_ (by omega) h
  unfold Bq; rw [heap_alloc_old _ _ (by simp)]; exact heap_alloc_new _ _
 ·refine Bd.low (w:=(w.alloc (.cells #[x,y] 24)).alloc (.cells #[.int .i64 0,.int .i64 0,.slice none 0 0] 53)) ?_ (by omega) h
  have:=heap_alloc_new (w.alloc (.cells #[x,y] 24)) (.cells #[.int .i64 0,.int .i64 0,.slice none 0 0] 53)
  rw [World.size_alloc] at this
  exact this
def SnP (next m : Int) (L : List Vs) (w w' : World) (e : Ending) : Prop :=
 (1 ≤ m ∧ m ≤ next ∧ ∃ v,e = .returned (.tuple #[.agg #[.int .i64 m,.int .i64 next,v],.int .i64 0]) ∧ Cp w.heap.size w' v (snL m L)) ∨ (¬ (1 ≤ m ∧ m ≤ next) ∧ e = .returned (.tuple #[dv 0 0 none 0 0,.int .i64 1]))
theorem xl_lt {X : List Rv} {m : Int} {L : List Vs} {k : Nat} (h : X.map (·.v) = snL m (L.take k)) (hk : k < L.length) (hl : L.length ≤ 1954687338240) : X.length + 1 ≤ 1954687338260:=by
 have e1:=congrArg List.length h
 have e2:=snL_len m (L.take k)
 rw [List.length_map] at e1
 rw [List.length_take] at e2
 omega
theorem xl_le {X : List Rv} {m : Int} {L : List Vs} {k : Nat} (h : X.map (·.v) = snL m (L.take k)) (hl : L.length ≤ 1954687338240) : X.length ≤ 1954687338260:=by
 have e1:=congrArg List.length h
 have e2:=snL_len m (L.take k)
 rw [List.length_map] at e1
 rw [List.length_take] at e2
 omega
set_option maxHeartbeats 4000000 in
theorem dSince_any (L : List Vs) (next m : Int) (w : World) (a : Option Addr) (n cap : Nat) (hL : Li w L a n cap) :
  Calls Tryz.prog 32 #[bv next a n cap,.int .i64 m] w fun e w' => SnP next m L w w' e ∧ Below w.heap.size w w':=by
 obtain rfl:=hL.n
 have b0:=(Below.refl w.heap.size w).alloc (Nat.le_refl _) (.cells #[.int .i64 next,.slice a L.length cap] 24)
 have b1:=b0.alloc b0.size (.cells #[.int .i64 0,.int .i64 0,.slice none 0 0] 53)
 have HB:=Hid.mk (bq_bd w (.int .i64 next) (.slice a L.length cap))
 have hl:=hL.l
 have hs2 : ((w.alloc (.cells #[.int .i64 next,.slice a L.length cap] 24)).alloc (.cells #[.int .i64 0,.int .i64 0,.slice none 0 0] 53)).heap.size = w.heap.size + 2:=by simp
 have HL:=Hid.mk (hL.later b1)
 clear hL b0
 by_cases h1 : m < 1
 ·have d1 : decide (m < 1) = true:=decide_eq_true h1
  have HN : Hid (¬ (1 ≤ m ∧ m ≤ next)):=⟨fun h => by omega⟩
  clear h1
  go_enter Tryz.func32,Tryz.ntmps32
  go_wp2_with fail
  obtain ⟨x0,y0⟩:=HB.out _ (Below.refl _ _)
  obtain ⟨g0,g1,g2,_⟩:=y0.cells
  refine bodyPost_ret (v := .tuple #[dv 0 0 none 0 0,.int .i64 1]) ?_ rfl ⟨.inr ⟨HN.out,rfl⟩,b1⟩
  rw [results_ct rfl]
  go_simp
 ·have d1 : decide (m < 1) = false:=decide_eq_false h1
  by_cases h2 : next < m
  ·have d2 : decide (next < m) = true:=decide_eq_true h2
   have HN : Hid (¬ (1 ≤ m ∧ m ≤ next)):=⟨fun h => by omega⟩
   clear h1 h2
   go_enter Tryz.func32,Tryz.ntmps32
   go_wp2_with fail
   obtain ⟨x0,y0⟩:=HB.out _ (Below.refl _ _)
   obtain ⟨g0,g1,g2,_⟩:=y0.cells
   refine bodyPost_ret (v := .tuple #[dv 0 0 none 0 0,.int .i64 1]) ?_ rfl ⟨.inr ⟨HN.out,rfl⟩,b1⟩
   rw [results_ct rfl]
   go_simp
  ·have d2 : decide (next < m) = false:=decide_eq_false h2
   have HN : Hid (1 ≤ m ∧ m ≤ next):=⟨by omega⟩
   clear h1 h2
   go_enter Tryz.func32,Tryz.ntmps32
   go_wp2_with fail
   generalize (w.alloc (.cells #[.int .i64 next,.slice a L.length cap] 24)).alloc (.cells #[.int .i64 0,.int .i64 0,.slice none 0 0] 53) = W2 at *
   obtain ⟨R,hRL,hRI,hRS⟩:=li_rows HL.out
   have HR:=Hid.mk hRL
   have HI:=Hid.mk hRI
   have HS:=Hid.mk hRS
   clear hRL hRI hRS d1 d2
   go_loopw [6,21] (fun o i wr => ∃ (k : Nat) (X : List Rv),k ≤ L.length ∧ i = .int .i64 (k : Int) ∧ Hid (Ro W2.heap.size wr o X ∧ X.map (·.v) = snL m (L.take k) ∧ ∀ r ∈ X,r ∈ R) ∧ Hid (Below W2.heap.size W2 wr)) (fun _ i _ => L.length - (intOf i).toNat)
   case atStart => exact ⟨0,[],Nat.zero_le _,rfl,⟨Ro.nil _ _ (Nat.le_refl _),rfl,by simp⟩,⟨Below.refl _ _⟩⟩
   case round =>
    obtain ⟨k,X,hk,rfl,HX,hb⟩:=hrel
    by_cases hlt : k < L.length
    ·have d1 : decide ((k : Int) < (L.length : Int)) = true:=decide_eq_true (Int.ofNat_lt.2 hlt)
     have k2 : (k : Int) < (L.length : Int):=Int.ofNat_lt.2 hlt
     have hw1 : wrap64 ((k : Int) + 1) = ((k + 1 : Nat) : Int):=by unfold wrap64; omega
     obtain ⟨r,hr⟩ : ∃ r,R[k]? = some r:=⟨R[k]'(by have:=congrArg List.length HR.out; rw [List.length_map] at this; omega),List.getElem?_eq_getElem _⟩
     have hu : L[k]? = some r.v:=by rw [← HR.out,List.getElem?_map,hr]; rfl
     obtain ⟨b,off,rfl,hbl,c0,c1,c2,c3,c4⟩:=(HI.out.later hb.out).get k r hr
     have bx:=(Below.refl wr.heap.size wr).alloc (Nat.le_refl _) (.cells #[str r.v.key,.int .i64 r.v.seq,.bool r.v.mkr,str r.v.data,.slice r.a r.v.l.length r.c] 62)
     have z1:=Bv.new wr (str r.v.key) (.int .i64 r.v.seq) (.bool r.v.mkr) (str r.v.data) (.slice r.a r.v.l.length r.c)
     obtain ⟨y0,y1,y2,y3,y4,_⟩:=z1.cells
     by_cases hq : m ≤ r.v.seq
     ·have d3 : decide (m ≤ r.v.seq) = true:=decide_eq_true hq
      have d4 : decide (r.v.seq < m) = false:=decide_eq_false (Int.not_lt.2 hq)
      have hXl:=xl_lt HX.out.2.1 hlt hl
      obtain ⟨v3,w3,hr3,o3,b3⟩:=run_ro1 22 r (HX.out.1.later bx) hXl
      rw [World.size_alloc] at hr3
      have HF : Hid (Ro W2.heap.size w3 v3 (X ++ [r]) ∧ (X ++ [r]).map (·.v) = snL m (L.take (k + 1)) ∧ ∀ q ∈ X ++ [r],q ∈ R):=⟨o3,by rw [snL_yes hu hq,List.map_append,HX.out.2.1]; rfl,fun q hq => by
       rcases List.mem_append.1 hq with z | z
       ·exact HX.out.2.2 q z
       ·simp at z; subst z; exact List.mem_of_getElem? hr⟩
      have HB3 : Hid (Below W2.heap.size W2 w3):=⟨hb.out.trans ((bx.mono hb.out.size).trans b3)⟩
      clear hr hu hq hXl o3 HX b3 hb
      go_wp2_with (refine app_run rfl _ _ rfl rfl rfl hr3 ?_)
      exact ⟨⟨k + 1,_,hlt,by first | (rw [hw1]; done) | go_num,HF,HB3⟩,by first | (rw [hw1]; exact lss_meas hlt) | (simp [intOf]; omega)⟩
     ·have d3 : decide (m ≤ r.v.seq) = false:=decide_eq_false hq
      have d4 : decide (r.v.seq < m) = true:=decide_eq_true (Int.not_le.1 hq)
      have HF : Hid (Ro W2.heap.size (wr.alloc (.cells #[str r.v.key,.int .i64 r.v.seq,.bool r.v.mkr,str r.v.data,.slice r.a r.v.l.length r.c] 62)) u6 X ∧ X.map (·.v) = snL m (L.take (k + 1)) ∧ ∀ q ∈ X,q ∈ R):=⟨HX.out.1.later bx,by rw [snL_no hu hq,HX.out.2.1],HX.out.2.2⟩
      have HB3 : Hid (Below W2.heap.size W2 (wr.alloc (.cells #[str r.v.key,.int .i64 r.v.seq,.bool r.v.mkr,str r.v.data,.slice r.a r.v.l.length r.c] 62))):=⟨hb.out.trans (bx.mono hb.out.size)⟩
      clear hr hu hq HX hb
      go_wp2_with fail
      exact ⟨⟨k + 1,_,hlt,by first | (rw [hw1]; done) | go_num,HF,HB3⟩,by first | (rw [hw1]; exact lss_meas hlt) | (simp [intOf]; omega)⟩
    ·obtain rfl : k = L.length:=Nat.le_antisymm hk (Nat.le_of_not_lt hlt)
     have d1 : decide ((L.length : Int) < (L.length : Int)) = false:=decide_eq_false (fun q => Int.lt_irrefl _ q)
     have hXl:=xl_le HX.out.2.1 hl
     have ht:=takeOwn_any W2 X wr _ HX.out.1 hb.out (fun r hr => HS.out r (HX.out.2.2 r hr)) hXl
     rw [HX.out.2.1,List.take_length] at ht
     have HO:=Hid.mk HX.out.1.sl
     clear HX hb hXl
     go_wp2_with fail
     with_reducible refine Calls.mono ht ?_
     rintro e w3 ⟨rfl,o3,b3⟩
     dsimp only
     rw [hs2] at o3 b3
     obtain ⟨x0,y0⟩:=HB.out w3 b3
     obtain ⟨oa,oc,rfl,oS⟩:=o3.ls
     obtain ⟨p0,p1,_⟩:=x0.cells
     obtain ⟨y1,y2,y3,yf⟩:=y0.cells
     have f0:=yf 0
     have f1:=yf 1
     have f2:=yf 2
     have hbw : Below w.heap.size w w3:=b1.trans (b3.mono (by omega))
     have z1:=((y0.set0 (.int .i64 m)).set1 (.int .i64 next)).set2 (.slice oa (snL m L).length oc)
     have o1:=((o3.low (g:=w.heap.size + 1) (j:=0) (by omega) (.int .i64 m)).low (g:=w.heap.size + 1) (j:=1) (by omega) (.int .i64 next)).low (g:=w.heap.size + 1) (j:=2) (by omega) (.slice oa (snL m L).length oc)
     have B1:=((hbw.setCell (p:=⟨w.heap.size + 1,0,none⟩) (Nat.le_succ _) (.int .i64 m)).setCell (p:=⟨w.heap.size + 1,1,none⟩) (Nat.le_succ _) (.int .i64 next)).setCell (p:=⟨w.heap.size + 1,2,none⟩) (Nat.le_succ _) (.slice oa (snL m L).length oc)
     have HSN : Hid (SnP next m L w (((w3.setCell ⟨w.heap.size + 1,0,none⟩ (.int .i64 m)).setCell ⟨w.heap.size + 1,1,none⟩ (.int .i64 next)).setCell ⟨w.heap.size + 1,2,none⟩ (.slice oa (snL m L).length oc)) (.returned (.tuple #[.agg #[.int .i64 m,.int .i64 next,.slice oa (snL m L).length oc],.int .i64 0]))):=⟨.inl ⟨HN.out.1,HN.out.2,_,rfl,o1.base (by omega)⟩⟩
     clear ht HO x0 y0 yf hbw o3 o1 oS b3 HB HL HR HI HS
     generalize (snL m L).length = N at *
     go_wp2_with fail
     generalize ((w3.setCell ⟨w.heap.size + 1,0,none⟩ (.int .i64 m)).setCell ⟨w.heap.size + 1,1,none⟩ (.int .i64 next)).setCell ⟨w.heap.size + 1,2,none⟩ (.slice oa N oc) = W3 at *
     obtain ⟨g0,g1,g2,_⟩:=z1.cells
     refine bodyPost_ret (v := .tuple #[.agg #[.int .i64 m,.int .i64 next,.slice oa N oc],.int .i64 0]) ?_ rfl ⟨HSN.out,B1⟩
     rw [results_ct rfl]
     go_simp
end
section
open Go.RowKit
attribute [local go_sem ↓] Go.wp_at_zero Go.wp_at_succ
theorem older_any (u : Vs) (since : Int) (w : World) (a : Option Addr) (n c g : Nat) (hg : w.cell? ⟨g,0,none⟩ = some (.int .i64 since)) (hgl : g < w.heap.size) :
  Calls Tryz.prog 67 #[vv u.key u.seq u.mkr u.data a n c,.pointer (some ⟨g,0,none⟩)] w fun e w' => e = .returned (.bool (decide (u.seq < since))) ∧ Below w.heap.size w w':=by
 have b1:=(Below.refl w.heap.size w).alloc (Nat.le_refl _) (.cells #[str u.key,.int .i64 u.seq,.bool u.mkr,str u.data,.slice a n c] 62)
 have h1:=(b1.cell (p:=⟨g,0,none⟩) hgl).trans hg
 clear hg
 go_enter Tryz.func67,Tryz.ntmps67
 go_wp2_with fail
 go_ret
 exact ⟨rfl,b1⟩
set_option maxHeartbeats 2000000 in
theorem indexO_any (L : List Vs) (since : Int) (w : World) (a : Option Addr) (n cap g : Nat) (hn : L.length = n) (hS : LIn w a L) (hL : L.length ≤ 1954687338300) (hg : w.cell? ⟨g,0,none⟩ = some (.int .i64 since)) (hgl : g < w.heap.size) :
  Calls Tryz.prog 111 #[.slice a n cap,.func (.func 67) #[] #[.pointer (some ⟨g,0,none⟩)]] w fun e w' => (∃ i : Int,e = .returned (.int .i64 i) ∧ (0 ≤ i ↔ ∃ v ∈ L,v.seq < since)) ∧ Below w.heap.size w w':=by
 subst hn
 go_enter Tryz.func111,Tryz.ntmps111
 go_wp2_with fail
 go_loopw [8] (fun i wr => ∃ k : Nat,k ≤ L.length ∧ i = .int .i64 (k : Int) ∧ Hid (∀ j v,j < k → L[j]? = some v → since ≤ v.seq) ∧ Below w.heap.size w wr) (fun i _ => L.length - (intOf i).toNat)
 case atStart => exact ⟨0,by omega,rfl,⟨fun j v hj => by omega⟩,Below.refl _ _⟩
 case round =>
  obtain ⟨k,hk,rfl,hA,hb⟩:=hrel
  by_cases hlt : k < L.length
  ·have d1 : decide ((k : Int) < (L.length : Int)) = true:=decide_eq_true (by omega)
   have k2 : (k : Int) < (L.length : Int):=by omega
   obtain ⟨u,hu⟩ : ∃ u,L[k]? = some u:=⟨L[k],List.getElem?_eq_getElem hlt⟩
   obtain ⟨b,off,ma,mc,rfl,hbl,c0,c1,c2,c3,c4,hsl⟩:=(hS.later hb).get k u hu
   have hc:=older_any u since wr ma u.l.length mc g ((hb.cell (p:=⟨g,0,none⟩) hgl).trans hg) (Nat.lt_of_lt_of_le hgl hb.size)
   have hw1 : wrap64 ((k : Int) + 1) = ((k + 1 : Nat) : Int):=by unfold wrap64; omega
   by_cases hq : u.seq < since
   ·have HP : Hid (0 ≤ (k : Int) ↔ ∃ v ∈ L,v.seq < since):=⟨⟨fun _ => ⟨u,List.mem_of_getElem? hu,hq⟩,fun _ => by omega⟩⟩
    rw [decide_eq_true hq] at hc
    clear hu hS hL hq hg hA
    go_wp2_with (go_at_call 67; refine hc.mono ?_; rintro e w1 ⟨rfl,b1⟩)
    go_ret
    exact ⟨⟨_,rfl,HP.out⟩,hb.trans (b1.mono hb.size)⟩
   ·have HA : Hid (∀ j v,j < k + 1 → L[j]? = some v → since ≤ v.seq):=⟨fun j v hj hv => by
     by_cases e : j = k
     ·subst e
      rw [hu] at hv
      injection hv with hv
      subst hv
      exact Int.not_lt.1 hq
     ·exact hA.out j v (by omega) hv⟩
    rw [decide_eq_false hq] at hc
    clear hu hS hL hq hg hA
    go_wp2_with (go_at_call 67; refine hc.mono ?_; rintro e w1 ⟨rfl,b1⟩)
    exact ⟨⟨k + 1,by omega,by go_num,HA,hb.trans (b1.mono hb.size)⟩,by rw [hw1]; exact lss_meas hlt⟩
  ·obtain rfl : k = L.length:=by omega
   have d1 : decide ((L.length : Int) < (L.length : Int)) = false:=decide_eq_false (by omega)
   have HP : Hid (0 ≤ (-1 : Int) ↔ ∃ v ∈ L,v.seq < since):=⟨⟨fun h => by omega,fun ⟨v,hv,h⟩ => by
    obtain ⟨j,hj,e⟩:=List.getElem_of_mem hv
    exact absurd h (Int.not_lt.2 (hA.out j v hj (by rw [List.getElem?_eq_getElem hj,e])))⟩⟩
   go_wp2_with fail
   go_ret
   exact ⟨⟨-1,rfl,HP.out⟩,hb⟩
set_option maxHeartbeats 2000000 in
theorem contains_any (L : List Vs) (since : Int) (w : World) (a : Option Addr) (n cap g : Nat) (hn : L.length = n) (hS : LIn w a L) (hL : L.length ≤ 1954687338300) (hg : w.cell? ⟨g,0,none⟩ = some (.int .i64 since)) (hgl : g < w.heap.size) :
  Calls Tryz.prog 69 #[.slice a n cap,.func (.func 67) #[] #[.pointer (some ⟨g,0,none⟩)]] w fun e w' => (∃ t : Bool,e = .returned (.bool t) ∧ (t = true ↔ ∃ v ∈ L,v.seq < since)) ∧ Below w.heap.size w w':=by
 have hc:=indexO_any L since w a n cap g hn hS hL hg hgl
 clear hS hg
 go_enter Tryz.func69,Tryz.ntmps69
 go_wp2_with (go_at_call 111; refine hc.mono ?_; rintro e w1 ⟨⟨i,rfl,hi⟩,b1⟩; have HI:=Hid.mk hi; clear hi)
 go_ret
 exact ⟨⟨_,rfl,by rw [← HI.out]; simp⟩,b1⟩
set_option maxHeartbeats 4000000 in
theorem dRight_any (L : List Vs) (since next : Int) (w : World) (a : Option Addr) (n cap : Nat) (hL : Li w L a n cap) :
  Calls Tryz.prog 35 #[dv since next a n cap] w fun e w' => (∃ t : Bool,e = .returned (.bool t) ∧ (t = true ↔ RtD since next L)) ∧ Below w.heap.size w w':=by
 obtain rfl:=hL.n
 have b0:=(Below.refl w.heap.size w).alloc (Nat.le_refl _) (.cells #[.int .i64 since,.int .i64 next,.slice a L.length cap] 53)
 have z0:=Bd.new w (.int .i64 since) (.int .i64 next) (.slice a L.length cap)
 have HL:=Hid.mk (hL.later b0)
 have hl:=hL.l
 clear hL
 obtain ⟨p0,p1,p2,_⟩:=z0.cells
 have hr:=bRight_any L next _ a _ cap HL.out
 go_enter Tryz.func35,Tryz.ntmps35
 go_wp2_with fail
 have HZ:=Hid.mk z0
 have HB:=Hid.mk b0
 clear p0 p1 p2 z0 b0
 generalize w.alloc (.cells #[.int .i64 since,.int .i64 next,.slice a L.length cap] 53) = W1 at *
 with_reducible refine Calls.mono hr ?_
 rintro e w1 ⟨⟨t,rfl,ht⟩,c1⟩
 dsimp only
 have bw1:=Hid.mk (HB.out.trans (c1.mono HB.out.size))
 obtain ⟨p0,p1,p2,_⟩:=(HZ.out.later c1).cells
 clear hr
 cases t with
 | false =>
  have HN : Hid (¬ RtD since next L):=⟨fun h => by have:=ht.2 h.b; cases this⟩
  clear ht
  go_wp2_with fail
  go_ret
  exact ⟨⟨false,rfl,by simp [HN.out]⟩,bw1.out⟩
 | true =>
  have HR : Hid (RtB next L):=⟨ht.1 rfl⟩
  clear ht
  by_cases h1 : 1 ≤ since
  ·have d1 : decide (1 ≤ since) = true:=decide_eq_true h1
   have d1' : decide (since < 1) = false:=decide_eq_false (Int.not_lt.2 h1)
   have H1:=Hid.mk h1
   clear h1
   by_cases h2 : since ≤ next
   ·have d2 : decide (since ≤ next) = true:=decide_eq_true h2
    have d2' : decide (next < since) = false:=decide_eq_false (Int.not_lt.2 h2)
    have H2:=Hid.mk h2
    clear h2
    have hc:=contains_any L since w1 a L.length cap w.heap.size rfl (HL.out.later c1).s.at' (by omega) p0 (HZ.out.later c1).lt
    go_wp2_with fail
    with_reducible refine Calls.mono hc ?_
    rintro e w2 ⟨⟨t,rfl,ht⟩,c2⟩
    dsimp only
    have bw2:=Hid.mk (bw1.out.trans (c2.mono bw1.out.size))
    have HT : Hid (t = false ↔ RtD since next L):=⟨⟨fun h => ⟨HR.out,H1.out,H2.out,fun v hv => by
     rcases Int.lt_or_le v.seq since with q | q
     ·have:=ht.2 ⟨v,hv,q⟩
      rw [h] at this; cases this
     ·exact q⟩,fun h => by
     cases t with
     | false => rfl
     | true =>
      obtain ⟨v,hv,q⟩:=ht.1 rfl
      have:=h.s v hv
      omega⟩⟩
    clear ht hc c2
    go_wp2_with fail
    go_ret
    exact ⟨⟨_,rfl,by rw [← HT.out]; cases t <;> simp⟩,bw2.out⟩
   ·have d2 : decide (since ≤ next) = false:=decide_eq_false h2
    have d2' : decide (next < since) = true:=decide_eq_true (Int.not_le.1 h2)
    have HN : Hid (¬ RtD since next L):=⟨fun h => h2 h.s2⟩
    clear h2
    go_wp2_with fail
    go_ret
    exact ⟨⟨false,rfl,by simp [HN.out]⟩,bw1.out⟩
  ·have d1 : decide (1 ≤ since) = false:=decide_eq_false h1
   have d1' : decide (since < 1) = true:=decide_eq_true (Int.not_le.1 h1)
   have HN : Hid (¬ RtD since next L):=⟨fun h => h1 h.s1⟩
   clear h1
   go_wp2_with fail
   go_ret
   exact ⟨⟨false,rfl,by simp [HN.out]⟩,bw1.out⟩
end
end Go.Proofs.YtdfjlmfnkhhnjaaGreatDoor.Stk
