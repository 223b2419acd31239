/- TxnPlays: the log and three transactions of the program's beside the document's. -/
import Derived.Test.YtlgpodcoiioefaaGreatRw
import Derived.Test.YtlgpodcoiioefaaGreatRn
import Derived.Test.YtlgpodcoiioefaaGreatOwn
namespace Go.Proofs.YtlgpodcoiioefaaGreat
set_option linter.unusedVariables false
set_option linter.unusedSimpArgs false
open Go.RowKit Go.Maps
/-- a transaction: where it begins, its place in the list of things, its writes, whether it is over -/
structure Sl where
  x : Nat
  i : Nat
  W : Wl
  o : Bool
abbrev Sf := Nat → Option Sl
def upd (S : Sf) (k : Nat) (z : Sl) : Sf := fun j => if j = k then some z else S j
theorem upd_at (S : Sf) (k : Nat) (z : Sl) : upd S k z k = some z := if_pos rfl
theorem upd_ne (S : Sf) {k j : Nat} (z : Sl) (h : j ≠ k) : upd S k z j = S j := if_neg h
theorem upd_self {S : Sf} {k : Nat} {z : Sl} (h : S k = some z) : upd S k z = S := funext fun j => by
  by_cases e : j = k
  · subst e; rw [upd_at, h]
  · rw [upd_ne S z e]
def pv : Option Sl → Value
  | none => .pointer none
  | some z => pt z.x
def bvs (q g : Nat) (T R : Sf) (mo : Int) : Array Value := #[pt q, pt g, pv (T 0), pv (T 1), pv (T 2), pv (R 0), pv (R 1), pv (R 2), .int .i64 mo]
theorem pv_upd {S : Sf} {k : Nat} {z : Sl} (h : S k = some z) (W : Wl) (o : Bool) (j : Nat) : pv (upd S k ⟨z.x, z.i, W, o⟩ j) = pv (S j) := by
  by_cases e : j = k
  · subst e; rw [upd_at, h]; rfl
  · rw [upd_ne S _ e]
theorem bvs_t {q g : Nat} {T R : Sf} {mo : Int} {k : Nat} {z : Sl} (h : T k = some z) (W : Wl) (o : Bool) : bvs q g (upd T k ⟨z.x, z.i, W, o⟩) R mo = bvs q g T R mo := by
  unfold bvs; rw [pv_upd h, pv_upd h, pv_upd h]
theorem bvs_r {q g : Nat} {T R : Sf} {mo : Int} {k : Nat} {z : Sl} (h : R k = some z) (W : Wl) (o : Bool) : bvs q g T (upd R k ⟨z.x, z.i, W, o⟩) mo = bvs q g T R mo := by
  unfold bvs; rw [pv_upd h, pv_upd h, pv_upd h]
theorem bvs_newT {q g : Nat} {T R : Sf} {mo : Int} {k : Nat} (hk : k < 3) (z : Sl) : (bvs q g T R mo).setIfInBounds (2 + k) (pt z.x) = bvs q g (upd T k z) R mo := by
  have : k = 0 ∨ k = 1 ∨ k = 2 := by omega
  rcases this with rfl | rfl | rfl <;> rfl
theorem bvs_newR {q g : Nat} {T R : Sf} {mo : Int} {k : Nat} (hk : k < 3) (z : Sl) : (bvs q g T R mo).setIfInBounds (5 + k) (pt z.x) = bvs q g T (upd R k z) mo := by
  have : k = 0 ∨ k = 1 ∨ k = 2 := by omega
  rcases this with rfl | rfl | rfl <;> rfl
theorem bvs_tv {q g : Nat} {T R : Sf} {mo : Int} {k : Nat} (hk : k < 3) : (bvs q g T R mo)[2 + k]? = some (pv (T k)) := by
  have : k = 0 ∨ k = 1 ∨ k = 2 := by omega
  rcases this with rfl | rfl | rfl <;> rfl
theorem bvs_rv {q g : Nat} {T R : Sf} {mo : Int} {k : Nat} (hk : k < 3) : (bvs q g T R mo)[5 + k]? = some (pv (R k)) := by
  have : k = 0 ∨ k = 1 ∨ k = 2 := by omega
  rcases this with rfl | rfl | rfl <;> rfl
structure PI (X : Th → Prop) (q g bx : Nat) (mo : Int) (T R : Sf) (C : List ByteArray) (m : Nat) (rest : List (Th → Prop)) : Prop where
  hl : rest[0]? = some (rl g C)
  hb : rest[1]? = some (ob bx (bvs q g T R mo) 37)
  hx : rest[2]? = some X
  ht : ∀ k z, T k = some z → rest[z.i]? = some (tx z.x q z.W z.o) ∧ 3 ≤ z.i ∧ Rising z.W ∧ InB m z.W
  hr : ∀ k z, R k = some z → rest[z.i]? = some (rt z.x g z.W z.o) ∧ 3 ≤ z.i ∧ Rising z.W ∧ InB m z.W
  htt : ∀ k l y z, T k = some y → T l = some z → k ≠ l → y.i ≠ z.i
  hrr : ∀ k l y z, R k = some y → R l = some z → k ≠ l → y.i ≠ z.i
  htr : ∀ k l y z, T k = some y → R l = some z → y.i ≠ z.i
theorem gset_ne {α : Type} {l : List α} {i j : Nat} {a : α} (h : i ≠ j) : (l.set i a)[j]? = l[j]? := List.getElem?_set_ne h
theorem gset_at {α : Type} {l : List α} {i : Nat} {a b : α} (h : l[i]? = some b) : (l.set i a)[i]? = some a := by
  have := (List.getElem?_eq_some_iff.1 h).1
  rw [List.getElem?_set_self this]
theorem gapp {α : Type} {l : List α} {i : Nat} {b c : α} (h : l[i]? = some b) : (l ++ [c])[i]? = some b := by
  have := (List.getElem?_eq_some_iff.1 h).1
  rw [List.getElem?_append_left this, h]
variable {X : Th → Prop} {q g bx m p s n : Nat} {mo : Int} {T R : Sf} {B C : List ByteArray} {rest : List (Th → Prop)} {k : Nat} {z : Sl}
theorem PI.setT (h : PI X q g bx mo T R C m rest) (hk : T k = some z) (W : Wl) (o : Bool) (hR : Rising W) (hI : InB m W) : PI X q g bx mo (upd T k ⟨z.x, z.i, W, o⟩) R C m (rest.set z.i (tx z.x q W o)) := by
  obtain ⟨a1, a2, a3, a4⟩ := h.ht k z hk
  have key : ∀ l y, upd T k ⟨z.x, z.i, W, o⟩ l = some y → (l = k ∧ y = ⟨z.x, z.i, W, o⟩) ∨ (l ≠ k ∧ T l = some y) := fun l y hy => by
    by_cases e : l = k
    · subst e; rw [upd_at] at hy; exact .inl ⟨rfl, (Option.some.inj hy).symm⟩
    · rw [upd_ne T _ e] at hy; exact .inr ⟨e, hy⟩
  refine ⟨(gset_ne (by omega)).trans h.hl, ?_, ?_, ?_, ?_, ?_, h.hrr, ?_⟩
  · rw [bvs_t hk]; exact (gset_ne (by omega)).trans h.hb
  · exact (gset_ne (by omega)).trans h.hx
  · intro l y hy
    rcases key l y hy with ⟨rfl, rfl⟩ | ⟨hl, hy⟩
    · exact ⟨gset_at a1, a2, hR, hI⟩
    · obtain ⟨b1, b2⟩ := h.ht l y hy
      exact ⟨(gset_ne (h.htt k l z y hk hy (fun e => hl e.symm))).trans b1, b2⟩
  · intro l y hy
    obtain ⟨b1, b2⟩ := h.hr l y hy
    exact ⟨(gset_ne (h.htr k l z y hk hy)).trans b1, b2⟩
  · intro l l' y y' hy hy' hne
    rcases key l y hy with ⟨rfl, rfl⟩ | ⟨hl, hy1⟩ <;> rcases key l' y' hy' with ⟨rfl, rfl⟩ | ⟨hl', hy2⟩
    · exact absurd rfl hne
    · exact h.htt _ _ z y' hk hy2 hne
    · exact h.htt _ _ y z hy1 hk hne
    · exact h.htt _ _ _ _ hy1 hy2 hne
  · intro l l' y y' hy hy'
    rcases key l y hy with ⟨rfl, rfl⟩ | ⟨hl, hy⟩
    · exact h.htr _ _ z y' hk hy'
    · exact h.htr _ _ _ _ hy hy'
theorem PI.setR (h : PI X q g bx mo T R C m rest) (hk : R k = some z) (W : Wl) (o : Bool) (hR : Rising W) (hI : InB m W) : PI X q g bx mo T (upd R k ⟨z.x, z.i, W, o⟩) C m (rest.set z.i (rt z.x g W o)) := by
  obtain ⟨a1, a2, a3, a4⟩ := h.hr k z hk
  have key : ∀ l y, upd R k ⟨z.x, z.i, W, o⟩ l = some y → (l = k ∧ y = ⟨z.x, z.i, W, o⟩) ∨ (l ≠ k ∧ R l = some y) := fun l y hy => by
    by_cases e : l = k
    · subst e; rw [upd_at] at hy; exact .inl ⟨rfl, (Option.some.inj hy).symm⟩
    · rw [upd_ne R _ e] at hy; exact .inr ⟨e, hy⟩
  refine ⟨(gset_ne (by omega)).trans h.hl, ?_, ?_, ?_, ?_, h.htt, ?_, ?_⟩
  · rw [bvs_r hk]; exact (gset_ne (by omega)).trans h.hb
  · exact (gset_ne (by omega)).trans h.hx
  · intro l y hy
    obtain ⟨b1, b2⟩ := h.ht l y hy
    exact ⟨(gset_ne (fun e => h.htr l k y z hy hk e.symm)).trans b1, b2⟩
  · intro l y hy
    rcases key l y hy with ⟨rfl, rfl⟩ | ⟨hl, hy⟩
    · exact ⟨gset_at a1, a2, hR, hI⟩
    · obtain ⟨b1, b2⟩ := h.hr l y hy
      exact ⟨(gset_ne (h.hrr k l z y hk hy (fun e => hl e.symm))).trans b1, b2⟩
  · intro l l' y y' hy hy' hne
    rcases key l y hy with ⟨rfl, rfl⟩ | ⟨hl, hy1⟩ <;> rcases key l' y' hy' with ⟨rfl, rfl⟩ | ⟨hl', hy2⟩
    · exact absurd rfl hne
    · exact h.hrr _ _ z y' hk hy2 hne
    · exact h.hrr _ _ y z hy1 hk hne
    · exact h.hrr _ _ _ _ hy1 hy2 hne
  · intro l l' y y' hy hy'
    rcases key l' y' hy' with ⟨rfl, rfl⟩ | ⟨hl, hy'⟩
    · exact h.htr _ _ y z hy hk
    · exact h.htr _ _ _ _ hy hy'
theorem PI.setC (h : PI X q g bx mo T R C m rest) (C' : List ByteArray) : PI X q g bx mo T R C' m (rest.set 0 (rl g C')) :=
  ⟨gset_at h.hl, (gset_ne (by omega)).trans h.hb, (gset_ne (by omega)).trans h.hx, fun l y hy => ⟨(gset_ne (by have := (h.ht l y hy).2.1; omega)).trans (h.ht l y hy).1, (h.ht l y hy).2⟩, fun l y hy => ⟨(gset_ne (by have := (h.hr l y hy).2.1; omega)).trans (h.hr l y hy).1, (h.hr l y hy).2⟩, h.htt, h.hrr, h.htr⟩
theorem PI.push (h : PI X q g bx mo T R C m rest) (t : Th → Prop) : PI X q g bx mo T R C m (rest ++ [t]) :=
  ⟨gapp h.hl, gapp h.hb, gapp h.hx, fun l y hy => ⟨gapp (h.ht l y hy).1, (h.ht l y hy).2⟩, fun l y hy => ⟨gapp (h.hr l y hy).1, (h.hr l y hy).2⟩, h.htt, h.hrr, h.htr⟩
theorem PI.len2 (h : PI X q g bx mo T R C m rest) : 3 ≤ rest.length := (List.getElem?_eq_some_iff.1 h.hx).1
theorem PI.newT (h : PI X q g bx mo T R C m rest) (hk : k < 3) (x : Nat) : PI X q g bx mo (upd T k ⟨x, rest.length, [], false⟩) R C m ((rest ++ [tx x q [] false]).set 1 (ob bx ((bvs q g T R mo).setIfInBounds (2 + k) (pt x)) 37)) := by
  have hp := h.push (tx x q [] false)
  have l2 := h.len2
  have tl : ∀ l y, T l = some y → y.i < rest.length := fun l y hy => (List.getElem?_eq_some_iff.1 (h.ht l y hy).1).1
  have rlt : ∀ l y, R l = some y → y.i < rest.length := fun l y hy => (List.getElem?_eq_some_iff.1 (h.hr l y hy).1).1
  have key : ∀ l y, upd T k ⟨x, rest.length, [], false⟩ l = some y → (l = k ∧ y = ⟨x, rest.length, [], false⟩) ∨ (l ≠ k ∧ T l = some y) := fun l y hy => by
    by_cases e : l = k
    · subst e; rw [upd_at] at hy; exact .inl ⟨rfl, (Option.some.inj hy).symm⟩
    · rw [upd_ne T _ e] at hy; exact .inr ⟨e, hy⟩
  rw [bvs_newT hk ⟨x, rest.length, [], false⟩]
  refine ⟨(gset_ne (by omega)).trans hp.hl, gset_at hp.hb, (gset_ne (by omega)).trans hp.hx, ?_, ?_, ?_, h.hrr, ?_⟩
  · intro l y hy
    rcases key l y hy with ⟨rfl, rfl⟩ | ⟨hl, hy⟩
    · exact ⟨(gset_ne (by simp only; omega)).trans (by simp), l2, List.Pairwise.nil, InB.nil _⟩
    · obtain ⟨b1, b2⟩ := hp.ht l y hy
      exact ⟨(gset_ne (by omega)).trans b1, b2⟩
  · intro l y hy
    obtain ⟨b1, b2⟩ := hp.hr l y hy
    exact ⟨(gset_ne (by omega)).trans b1, b2⟩
  · intro l l' y y' hy hy' hne
    rcases key l y hy with ⟨rfl, rfl⟩ | ⟨hl, hy1⟩ <;> rcases key l' y' hy' with ⟨rfl, rfl⟩ | ⟨hl', hy2⟩
    · exact absurd rfl hne
    · have := tl _ _ hy2; simp only; omega
    · have := tl _ _ hy1; simp only; omega
    · exact h.htt _ _ _ _ hy1 hy2 hne
  · intro l l' y y' hy hy'
    rcases key l y hy with ⟨rfl, rfl⟩ | ⟨hl, hy⟩
    · have := rlt _ _ hy'; simp only; omega
    · exact h.htr _ _ _ _ hy hy'
theorem PI.newR (h : PI X q g bx mo T R C m rest) (hk : k < 3) (x : Nat) : PI X q g bx mo T (upd R k ⟨x, rest.length, [], false⟩) C m ((rest ++ [rt x g [] false]).set 1 (ob bx ((bvs q g T R mo).setIfInBounds (5 + k) (pt x)) 37)) := by
  have hp := h.push (rt x g [] false)
  have l2 := h.len2
  have tl : ∀ l y, T l = some y → y.i < rest.length := fun l y hy => (List.getElem?_eq_some_iff.1 (h.ht l y hy).1).1
  have rlt : ∀ l y, R l = some y → y.i < rest.length := fun l y hy => (List.getElem?_eq_some_iff.1 (h.hr l y hy).1).1
  have key : ∀ l y, upd R k ⟨x, rest.length, [], false⟩ l = some y → (l = k ∧ y = ⟨x, rest.length, [], false⟩) ∨ (l ≠ k ∧ R l = some y) := fun l y hy => by
    by_cases e : l = k
    · subst e; rw [upd_at] at hy; exact .inl ⟨rfl, (Option.some.inj hy).symm⟩
    · rw [upd_ne R _ e] at hy; exact .inr ⟨e, hy⟩
  rw [bvs_newR hk ⟨x, rest.length, [], false⟩]
  refine ⟨(gset_ne (by omega)).trans hp.hl, gset_at hp.hb, (gset_ne (by omega)).trans hp.hx, ?_, ?_, h.htt, ?_, ?_⟩
  · intro l y hy
    obtain ⟨b1, b2⟩ := hp.ht l y hy
    exact ⟨(gset_ne (by omega)).trans b1, b2⟩
  · intro l y hy
    rcases key l y hy with ⟨rfl, rfl⟩ | ⟨hl, hy⟩
    · exact ⟨(gset_ne (by simp only; omega)).trans (by simp), l2, List.Pairwise.nil, InB.nil _⟩
    · obtain ⟨b1, b2⟩ := hp.hr l y hy
      exact ⟨(gset_ne (by omega)).trans b1, b2⟩
  · intro l l' y y' hy hy' hne
    rcases key l y hy with ⟨rfl, rfl⟩ | ⟨hl, hy1⟩ <;> rcases key l' y' hy' with ⟨rfl, rfl⟩ | ⟨hl', hy2⟩
    · exact absurd rfl hne
    · have := rlt _ _ hy2; simp only; omega
    · have := rlt _ _ hy1; simp only; omega
    · exact h.hrr _ _ _ _ hy1 hy2 hne
  · intro l l' y y' hy hy'
    rcases key l' y' hy' with ⟨rfl, rfl⟩ | ⟨hl, hy'⟩
    · have := tl _ _ hy; simp only; omega
    · exact h.htr _ _ _ _ hy hy'
/-- the program's log with blocks B and its transactions T, the document's with blocks C and R, side by side -/
def PG (X : Th → Prop) (w0 w : World) (q p s n g bx : Nat) (mo : Int) (T R : Sf) (B C : List ByteArray) : Prop := ∃ st rest, EnvP w0 w (lg q p s false :: dk p st :: rest) ∧ (OKst NN st n s B ∧ st.fall = 0 ∧ 4 ≤ s ∧ s < n) ∧ PI X q g bx mo T R C (n - s) rest ∧ C.length = n - s
variable {w0 w w' : World}
theorem PG.nle (h : PG X w0 w q p s n g bx mo T R B C) : n ≤ 8192 := by
  obtain ⟨st, rest, E, ⟨ok, _⟩, _⟩ := h
  have := ok.wf.hi; rw [ok.len] at this; exact this
theorem PG.below (h : PG X w0 w q p s n g bx mo T R B C) (b : Below w.heap.size w w') : PG X w0 w' q p s n g bx mo T R B C := by
  obtain ⟨st, rest, E, F⟩ := h
  exact ⟨st, rest, E.below b, F⟩
theorem PG.drewN (h : PG X w0 w q p s n g bx mo T R B C) (k : Nat) : PG X w0 (w.drewN k) q p s n g bx mo T R B C := by
  obtain ⟨st, rest, E, F⟩ := h
  exact ⟨st, rest, E.drewN k, F⟩
theorem PG.drew (h : PG X w0 w q p s n g bx mo T R B C) : PG X w0 w.drew q p s n g bx mo T R B C := by
  obtain ⟨st, rest, E, F⟩ := h
  exact ⟨st, rest, E.drew, F⟩
theorem PG.bel (h : PG X w0 w q p s n g bx mo T R B C) : Below w0.heap.size w0 w := by
  obtain ⟨st, rest, E, F⟩ := h
  exact E.bel
theorem PG.cell (h : PG X w0 w q p s n g bx mo T R B C) (j : Nat) : w.cell? ⟨bx, j, none⟩ = (bvs q g T R mo)[j]? := by
  obtain ⟨st, rest, E, F, I, _⟩ := h
  exact E.cell 3 I.hb j
theorem PG.froz (h : PG X w0 w q p s n g bx mo T R B C) (j : Nat) : w.frozen? ⟨bx, j, none⟩ = false := by
  obtain ⟨st, rest, E, F, I, _⟩ := h
  exact E.frozen 3 I.hb j
theorem PG.tv (h : PG X w0 w q p s n g bx mo T R B C) (hk : k < 3) : w.cell? ⟨bx, 2 + k, none⟩ = some (pv (T k)) := (h.cell _).trans (bvs_tv hk)
theorem PG.rv (h : PG X w0 w q p s n g bx mo T R B C) (hk : k < 3) : w.cell? ⟨bx, 5 + k, none⟩ = some (pv (R k)) := (h.cell _).trans (bvs_rv hk)
theorem PG.gl (h : PG X w0 w q p s n g bx mo T R B C) : ∃ la lc, w.cell? ⟨g, 0, none⟩ = some (.slice la C.length lc) ∧ SIn w la C := by
  obtain ⟨st, rest, E, F, I, _⟩ := h
  obtain ⟨v, _, hb, hm, _⟩ := E.rl 2 I.hl
  obtain ⟨a, c, rfl, hs⟩ := own_sin hm
  exact ⟨a, c, cell_of_row w g 0 _ _ (0, 0) hb, hs⟩
def lrV (B : List ByteArray) (n : Int) : Value := if 0 ≤ n ∧ n < B.length then .tuple #[.string (B.getD n.toNat ByteArray.empty), .int .i64 0] else .tuple #[.string ⟨#[]⟩, .int .i64 1]
theorem PG.lread (h : PG X w0 w q p s n g bx mo T R B C) (N : Int) : Calls Tryz.prog 12 #[pt q, .int .i64 N] w fun e w' => e = .returned (lrV B N) ∧ PG X w0 w' q p s n g bx mo T R B C := by
  obtain ⟨st, rest, E, F, I⟩ := h
  refine (lread_on E N F.1.off (by rw [F.1.len]; omega) B (by rw [F.1.seen]; exact F.1.blk)).mono ?_
  rintro e w' ⟨rfl, E'⟩
  exact ⟨rfl, st, rest, E', F, I⟩
def trV (z : Sl) (B : List ByteArray) (n : Int) : Value := if z.o then .tuple #[.string ⟨#[]⟩, .int .i64 8] else rdV z.W B n
theorem look_sz {m : Nat} {W : Wl} (h : InB m W) {n : Int} {t : ByteArray} (hl : lookI W n = some t) : t.size = 512 := by
  unfold lookI at hl
  split at hl
  · cases hl
  · have : ∀ {W : Wl}, InB m W → ∀ {n : Nat}, lookW W n = some t → t.size = 512 := by
      intro W
      induction W with
      | nil => intro _ n h; cases h
      | cons a r ih =>
        intro hi n h
        unfold lookW at h
        split at h
        · injection h with h; subst h; exact (hi _ List.mem_cons_self).2
        · exact ih (fun p hp => hi p (List.mem_cons_of_mem _ hp)) h
    exact this h hl
theorem PG.tread (h : PG X w0 w q p s n g bx mo T R B C) (hk : T k = some z) (N : Int) (hN : -9223372036854775808 ≤ N ∧ N ≤ 9223372036854775807) : Calls Tryz.prog 16 #[pt z.x, .int .i64 N] w fun e w' => e = .returned (trV z B N) ∧ PG X w0 w' q p s n g bx mo T R B C := by
  obtain ⟨st, rest, E, F, I, lC⟩ := h
  obtain ⟨a1, a2, a3, a4⟩ := I.ht k z hk
  unfold trV
  obtain ⟨x, i, W, o⟩ := z
  simp only at a1 a2 a3 a4 ⊢
  cases o with
  | true =>
    refine (tread_over E (i + 2) (by simpa using a1) _).mono ?_
    rintro e w' ⟨rfl, E'⟩
    exact ⟨rfl, st, rest, E', F, I, lC⟩
  | false =>
    unfold rdV
    cases hl : lookI W N with
    | some t =>
      refine (tread_own E (i + 2) (by simpa using a1) N hN t (look_sz a4 hl) hl).mono ?_
      rintro e w' ⟨rfl, E'⟩
      exact ⟨rfl, st, rest, E', F, I, lC⟩
    | none =>
      refine (tread_log E i a1 N hN hl F.1.off (by rw [F.1.len]; omega) B (by rw [F.1.seen]; exact F.1.blk)).mono ?_
      rintro e w' ⟨rfl, E'⟩
      exact ⟨rfl, st, rest, E', F, I, lC⟩
theorem PG.rread (h : PG X w0 w q p s n g bx mo T R B C) (hk : R k = some z) (N : Int) : Calls Tryz.prog 23 #[pt z.x, .int .i64 N] w fun e w' => e = .returned (trV z C N) ∧ PG X w0 w' q p s n g bx mo T R B C := by
  have hn := h.nle
  obtain ⟨st, rest, E, F, I, lC⟩ := h
  obtain ⟨a1, a2, a3, a4⟩ := I.hr k z hk
  have hl := a3.length a4
  unfold trV
  obtain ⟨x, i, W, o⟩ := z
  simp only at a1 a2 a3 a4 hl ⊢
  cases o with
  | true =>
    refine (rread_over E (i + 2) (by simpa using a1) _).mono ?_
    rintro e w' ⟨rfl, k, rfl⟩
    exact ⟨rfl, st, rest, E.drewN k, F, I, lC⟩
  | false =>
    refine (rread_env E (i + 2) 2 (by simpa using a1) I.hl N (by omega) (by omega)).mono ?_
    rintro e w' ⟨rfl, k, rfl⟩
    exact ⟨rfl, st, rest, E.drewN k, F, I, lC⟩
theorem PG.tdirty (h : PG X w0 w q p s n g bx mo T R B C) (hk : T k = some z) : Calls Tryz.prog 9 #[pt z.x] w fun e w' => e = .returned (.int .i64 (z.W.length : Int)) ∧ ∃ k, w' = w.drewN k := by
  have hn := h.nle
  obtain ⟨st, rest, E, F, I, lC⟩ := h
  obtain ⟨a1, a2, a3, a4⟩ := I.ht k z hk
  have hl := a3.length a4
  exact dirty_env E (z.i + 2) (by simpa using a1) (by omega)
theorem PG.rdirty (h : PG X w0 w q p s n g bx mo T R B C) (hk : R k = some z) : Calls Tryz.prog 10 #[pt z.x] w fun e w' => e = .returned (.int .i64 (if z.o then 0 else (z.W.length : Int))) ∧ ∃ k, w' = w.drewN k := by
  obtain ⟨st, rest, E, F, I, lC⟩ := h
  obtain ⟨a1, a2, a3, a4⟩ := I.hr k z hk
  exact rdirty_env E (z.i + 2) (by simpa using a1) rfl
theorem PG.tblocks (h : PG X w0 w q p s n g bx mo T R B C) (hk : T k = some z) : Calls Tryz.prog 11 #[pt z.x] w fun e w' => e = .returned (.int .i64 (C.length : Int)) ∧ ∃ k, w' = w.drewN k := by
  obtain ⟨st, rest, E, F, I, lC⟩ := h
  obtain ⟨a1, a2, a3, a4⟩ := I.ht k z hk
  have hs : s ≤ st.safe.length := by rw [F.1.len]; omega
  have e1 : ((st.safe.length : Int) - (s : Int)) = (C.length : Int) := by rw [lC, F.1.len] ; have := F.2.2.2; omega
  rw [← e1]
  exact tblocks_env E hs z.i a1
/-- what a Write answers, and what it leaves -/
def wc (o : Bool) (m : Nat) (N : Int) (t : ByteArray) : Int := if o then 8 else if 0 ≤ N ∧ N < m ∧ t.size = 512 then 0 else 1
def ww (o : Bool) (m : Nat) (N : Int) (t : ByteArray) (W : Wl) : Wl := if o then W else if 0 ≤ N ∧ N < m ∧ t.size = 512 then insW N.toNat t W else W
theorem PG.twrite (h : PG X w0 w q p s n g bx mo T R B C) (hk : T k = some z) (N : Int) (t : ByteArray) : Calls Tryz.prog 14 #[pt z.x, .int .i64 N, .string t] w fun e w' => e = .returned (.int .i64 (wc z.o (n - s) N t)) ∧ PG X w0 w' q p s n g bx mo (upd T k ⟨z.x, z.i, ww z.o (n - s) N t z.W, z.o⟩) R B C := by
  have hn := h.nle
  obtain ⟨st, rest, E, F, I, lC⟩ := h
  obtain ⟨a1, a2, a3, a4⟩ := I.ht k z hk
  have hl := a3.length a4
  obtain ⟨x, i, W, o⟩ := z
  simp only at a1 a2 a3 a4 hl ⊢
  unfold wc ww
  have hs : s ≤ st.safe.length := by rw [F.1.len]; omega
  cases o with
  | true =>
    rw [if_pos rfl, if_pos rfl, upd_self hk]
    refine (twrite_over E (i + 2) (by simpa using a1) _ _).mono ?_
    rintro e w' ⟨rfl, E'⟩
    exact ⟨rfl, st, rest, E', F, I, lC⟩
  | false =>
    rw [if_neg Bool.false_ne_true, if_neg Bool.false_ne_true]
    by_cases hv : 0 ≤ N ∧ N < (n - s : Nat) ∧ t.size = 512
    · rw [if_pos hv, if_pos hv]
      obtain ⟨N', rfl⟩ := Int.eq_ofNat_of_zero_le hv.1
      have hN : N' < n - s := by have := hv.2.1; omega
      refine (twrite_run E hs i a1 N' t (m := n - s) (by rw [F.1.len]) hN hv.2.2 a3 (by omega)).mono ?_
      rintro e w' ⟨rfl, E'⟩
      exact ⟨rfl, st, _, E', F, I.setT hk _ _ a3.ins (a4.ins hN hv.2.2), lC⟩
    · rw [if_neg hv, if_neg hv, upd_self hk]
      refine (twrite_bad E hs i a1 N t (m := n - s) (by rw [F.1.len]) hv).mono ?_
      rintro e w' ⟨rfl, E'⟩
      exact ⟨rfl, st, rest, E', F, I, lC⟩
theorem PG.rwrite (h : PG X w0 w q p s n g bx mo T R B C) (hk : R k = some z) (N : Int) (t : ByteArray) : Calls Tryz.prog 24 #[pt z.x, .int .i64 N, .string t] w fun e w' => e = .returned (.int .i64 (wc z.o (n - s) N t)) ∧ PG X w0 w' q p s n g bx mo T (upd R k ⟨z.x, z.i, ww z.o (n - s) N t z.W, z.o⟩) B C := by
  have hn := h.nle
  obtain ⟨st, rest, E, F, I, lC⟩ := h
  obtain ⟨a1, a2, a3, a4⟩ := I.hr k z hk
  have hl := a3.length a4
  obtain ⟨x, i, W, o⟩ := z
  simp only at a1 a2 a3 a4 hl ⊢
  unfold wc ww
  cases o with
  | true =>
    rw [if_pos rfl, if_pos rfl, upd_self hk]
    refine (rwrite_over E (i + 2) (by simpa using a1) _ _).mono ?_
    rintro e w' ⟨rfl, k, rfl⟩
    exact ⟨rfl, st, rest, E.drewN k, F, I, lC⟩
  | false =>
    rw [if_neg Bool.false_ne_true, if_neg Bool.false_ne_true]
    by_cases hv : 0 ≤ N ∧ N < (n - s : Nat) ∧ t.size = 512
    · rw [if_pos hv, if_pos hv]
      obtain ⟨N', rfl⟩ := Int.eq_ofNat_of_zero_le hv.1
      have hN : N' < n - s := by have := hv.2.1; omega
      refine (rwrite_env E (i + 2) 2 (by simpa using a1) I.hl N' t (by omega) hv.2.2 a3 (by omega) (by omega)).mono ?_
      rintro e w' ⟨rfl, E'⟩
      exact ⟨rfl, st, _, E', F, I.setR hk _ _ a3.ins (a4.ins hN hv.2.2), lC⟩
    · rw [if_neg hv, if_neg hv, upd_self hk]
      refine (rwrite_bad E (i + 2) 2 (by simpa using a1) I.hl N t (by rw [lC]; exact hv)).mono ?_
      rintro e w' ⟨rfl, k, rfl⟩
      exact ⟨rfl, st, rest, E.drewN k, F, I, lC⟩
theorem PG.tabort (h : PG X w0 w q p s n g bx mo T R B C) (hk : T k = some z) : Calls Tryz.prog 26 #[pt z.x] w fun e w' => e = .returned (.tuple #[]) ∧ PG X w0 w' q p s n g bx mo (upd T k ⟨z.x, z.i, [], true⟩) R B C := by
  obtain ⟨st, rest, E, F, I, lC⟩ := h
  obtain ⟨a1, a2, a3, a4⟩ := I.ht k z hk
  refine (abort_env E (z.i + 2) (by simpa using a1)).mono ?_
  rintro e w' ⟨rfl, E'⟩
  exact ⟨rfl, st, _, E', F, I.setT hk _ _ List.Pairwise.nil (InB.nil _), lC⟩
theorem PG.rabort (h : PG X w0 w q p s n g bx mo T R B C) (hk : R k = some z) : Calls Tryz.prog 27 #[pt z.x] w fun e w' => e = .returned (.tuple #[]) ∧ PG X w0 w' q p s n g bx mo T (upd R k ⟨z.x, z.i, z.W, true⟩) B C := by
  obtain ⟨st, rest, E, F, I, lC⟩ := h
  obtain ⟨a1, a2, a3, a4⟩ := I.hr k z hk
  refine (rabort_env E (z.i + 2) (by simpa using a1)).mono ?_
  rintro e w' ⟨rfl, E'⟩
  exact ⟨rfl, st, _, E', F, I.setR hk _ _ a3 a4, lC⟩
/-- what a Commit answers -/
def cc (z : Sl) (s : Nat) : Int := if z.o then 8 else if z.W = [] ∨ fitsB s z.W.length = true then 0 else 41
def cb (z : Sl) (s : Nat) (B : List ByteArray) : List ByteArray := if z.o then B else if z.W = [] ∨ fitsB s z.W.length = true then lay B z.W else B
theorem PG.tcommit (h : PG X w0 w q p s n g bx mo T R B C) (hk : T k = some z) (ho : z.o = true → z.W = []) : Calls Tryz.prog 17 #[pt z.x] w fun e w' => e = .returned (.int .i64 (cc z s)) ∧ PG X w0 w' q p s n g bx mo (upd T k ⟨z.x, z.i, [], true⟩) R (cb z s B) C := by
  obtain ⟨st, rest, E, F, I, lC⟩ := h
  obtain ⟨a1, a2, a3, a4⟩ := I.ht k z hk
  obtain ⟨x, i, W, o⟩ := z
  simp only at a1 a2 a3 a4 ho ⊢
  unfold cc cb
  cases o with
  | true =>
    have := ho rfl
    subst this
    rw [if_pos rfl, if_pos rfl, upd_self hk]
    refine (tcommit_over E (i + 2) (by simpa using a1)).mono ?_
    rintro e w' ⟨rfl, E'⟩
    exact ⟨rfl, st, rest, E', F, I, lC⟩
  | false =>
    rw [if_neg Bool.false_ne_true, if_neg Bool.false_ne_true]
    refine (tcommit_all E i a1 F.1 F.2.1 F.2.2.1 F.2.2.2 a3 a4).mono ?_
    rintro e w' ⟨r, st', B', rfl, E', ok', f', ⟨rfl, rfl, hf⟩ | ⟨rfl, rfl, h1, h2⟩⟩
    · simp only
      rw [if_pos hf, if_pos hf]
      exact ⟨rfl, st', _, E', ⟨ok', f', F.2.2⟩, I.setT hk _ _ List.Pairwise.nil (InB.nil _), lC⟩
    · have hf : ¬ (W = [] ∨ fitsB s W.length = true) := by rw [h2]; simp [h1]
      simp only
      rw [if_neg hf, if_neg hf]
      exact ⟨rfl, st', _, E', ⟨ok', f', F.2.2⟩, I.setT hk _ _ List.Pairwise.nil (InB.nil _), lC⟩
theorem PG.rcommit (h : PG X w0 w q p s n g bx mo T R B C) (hk : R k = some z) : Calls Tryz.prog 37 #[pt z.x] w fun e w' => e = .returned (.int .i64 (if z.o then 8 else 0)) ∧ PG X w0 w' q p s n g bx mo T (upd R k ⟨z.x, z.i, z.W, true⟩) B (if z.o then C else lay C z.W) := by
  have hn := h.nle
  obtain ⟨st, rest, E, F, I, lC⟩ := h
  obtain ⟨a1, a2, a3, a4⟩ := I.hr k z hk
  have hl := a3.length a4
  obtain ⟨x, i, W, o⟩ := z
  simp only at a1 a2 a3 a4 hl ⊢
  cases o with
  | true =>
    rw [if_pos rfl, if_pos rfl, upd_self hk]
    refine (rcommit_over E (i + 2) (by simpa using a1)).mono ?_
    rintro e w' ⟨rfl, k, rfl⟩
    exact ⟨rfl, st, rest, E.drewN k, F, I, lC⟩
  | false =>
    rw [if_neg Bool.false_ne_true, if_neg Bool.false_ne_true]
    refine (rcommit_env E (i + 2) 2 (by simpa using a1) I.hl (by omega) (by rw [lC]; exact a4) (by omega) (by omega)).mono ?_
    rintro e w' ⟨rfl, E'⟩
    exact ⟨rfl, st, _, E', F, (I.setR hk W true a3 a4).setC _, by rw [lay_length]; exact lC⟩
theorem PG.tbegin (h : PG X w0 w q p s n g bx mo T R B C) (hk : k < 3) : Calls Tryz.prog 13 #[pt q] w fun e w' => ∃ x, e = .returned (pt x) ∧ PG X w0 w' q p s n g bx mo T R B C ∧ ∃ i, PG X w0 (w'.setCell ⟨bx, 2 + k, none⟩ (pt x)) q p s n g bx mo (upd T k ⟨x, i, [], false⟩) R B C := by
  obtain ⟨st, rest, E, F, I, lC⟩ := h
  refine (tbegin_env E q).mono ?_
  rintro e w' ⟨x, rfl, E'⟩
  exact ⟨x, rfl, ⟨st, _, E', F, I.push _, lC⟩, rest.length, st, _, E'.setCell 3 (I.push _).hb (2 + k) (pt x), F, I.newT hk x, lC⟩
theorem PG.rbegin (h : PG X w0 w q p s n g bx mo T R B C) (hk : k < 3) : Calls Tryz.prog 22 #[pt g] w fun e w' => ∃ x, e = .returned (pt x) ∧ PG X w0 w' q p s n g bx mo T R B C ∧ ∃ i, PG X w0 (w'.setCell ⟨bx, 5 + k, none⟩ (pt x)) q p s n g bx mo T (upd R k ⟨x, i, [], false⟩) B C := by
  obtain ⟨st, rest, E, F, I, lC⟩ := h
  refine (rbegin_env E g).mono ?_
  rintro e w' ⟨x, rfl, E'⟩
  exact ⟨x, rfl, ⟨st, _, E', F, I.push _, lC⟩, rest.length, st, _, E'.setCell 3 (I.push _).hb (5 + k) (pt x), F, I.newR hk x, lC⟩
theorem PI.box (h : PI X q g bx mo T R C m rest) (Y : Th → Prop) : PI Y q g bx mo T R C m (rest.set 2 Y) :=
  ⟨(gset_ne (by omega)).trans h.hl, (gset_ne (by omega)).trans h.hb, gset_at h.hx, fun l y hy => ⟨(gset_ne (by have := (h.ht l y hy).2.1; omega)).trans (h.ht l y hy).1, (h.ht l y hy).2⟩, fun l y hy => ⟨(gset_ne (by have := (h.hr l y hy).2.1; omega)).trans (h.hr l y hy).1, (h.hr l y hy).2⟩, h.htt, h.hrr, h.htr⟩
theorem PG.box (h : PG X w0 w q p s n g bx mo T R B C) (cs : Array Value) (ty : TypeId) : PG (ob w.heap.size cs ty) w0 (w.alloc (.cells cs ty)) q p s n g bx mo T R B C := by
  obtain ⟨st, rest, E, F, I, lC⟩ := h
  refine ⟨st, _, ?_, F, I.box _, lC⟩
  have l2 := I.len2
  have E' := E.alloc cs ty
  refine E'.remap (fun i => if i = 4 then rest.length + 2 else i) ?_ ?_
  · intro i t hi
    by_cases e : i = 4
    · subst e
      rw [if_pos rfl]
      have : (rest.set 2 (ob w.heap.size cs ty))[2]? = some t := hi
      rw [gset_at I.hx] at this
      rw [← this]
      simp
    · rw [if_neg e]
      have hi' : (lg q p s false :: dk p st :: rest)[i]? = some t := by
        match i with
        | 0 => exact hi
        | 1 => exact hi
        | j + 2 =>
          have : (rest.set 2 (ob w.heap.size cs ty))[j]? = some t := hi
          rw [gset_ne (by omega)] at this
          exact this
      exact gapp hi'
  · intro i j hi hj e
    simp only [List.length_cons, List.length_set] at hi hj
    by_cases e1 : i = 4 <;> by_cases e2 : j = 4
    · omega
    · rw [if_pos e1, if_neg e2] at e; omega
    · rw [if_neg e1, if_pos e2] at e; omega
    · rw [if_neg e1, if_neg e2] at e; omega
theorem PG.atBox {b : Nat} {cs : Array Value} {ty : TypeId} (h : PG (ob b cs ty) w0 w q p s n g bx mo T R B C) (j : Nat) : w.cell? ⟨b, j, none⟩ = cs[j]? := by
  obtain ⟨st, rest, E, F, I, lC⟩ := h
  exact E.cell 4 I.hx j
end Go.Proofs.YtlgpodcoiioefaaGreat
