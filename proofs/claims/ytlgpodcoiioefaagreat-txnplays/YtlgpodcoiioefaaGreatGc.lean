import Derived.Test.YtlgpodcoiioefaaGreatGb
import Derived.Test.YtlgpodcoiioefaaGreatOwn
/- TxnPlays: the log and three transactions of the program's beside the document's. -/
namespace Go.Proofs.YtlgpodcoiioefaaGreat
set_option linter.unusedVariables false
set_option linter.unusedSimpArgs false
open Go.RowKit Go.Maps
/-- a transaction: where it begins, its place in the list of things, its writes, whether it is over -/
structure Sl where
  x : Nat
  i : Nat
  W : Wl
  o : Bool
abbrev Sf := Nat → Option Sl
def upd (S : Sf) (k : Nat) (z : Sl) : Sf := fun j => if j = k then some z else S j
theorem upd_at (S : Sf) (k : Nat) (z : Sl) : upd S k z k = some z := if_pos rfl
theorem upd_ne (S : Sf) {k j : Nat} (z : Sl) (h : j ≠ k) : upd S k z j = S j := if_neg h
theorem upd_self {S : Sf} {k : Nat} {z : Sl} (h : S k = some z) : upd S k z = S := funext fun j => by
  by_cases e : j = k
  · subst e; rw [upd_at, h]
  · rw [upd_ne S z e]
def pv : Option Sl → Value
  | none => .pointer none
  | some z => pt z.x
def bvs (q g : Nat) (T R : Sf) (mo : Int) : Array Value := #[pt q, pt g, pv (T 0), pv (T 1), pv (T 2), pv (R 0), pv (R 1), pv (R 2), .int .i64 mo]
theorem pv_upd {S : Sf} {k : Nat} {z : Sl} (h : S k = some z) (W : Wl) (o : Bool) (j : Nat) : pv (upd S k ⟨z.x, z.i, W, o⟩ j) = pv (S j) := by
  by_cases e : j = k
  · subst e; rw [upd_at, h]; rfl
  · rw [upd_ne S _ e]
theorem bvs_t {q g : Nat} {T R : Sf} {mo : Int} {k : Nat} {z : Sl} (h : T k = some z) (W : Wl) (o : Bool) : bvs q g (upd T k ⟨z.x, z.i, W, o⟩) R mo = bvs q g T R mo := by
  unfold bvs; rw [pv_upd h, pv_upd h, pv_upd h]
theorem bvs_r {q g : Nat} {T R : Sf} {mo : Int} {k : Nat} {z : Sl} (h : R k = some z) (W : Wl) (o : Bool) : bvs q g T (upd R k ⟨z.x, z.i, W, o⟩) mo = bvs q g T R mo := by
  unfold bvs; rw [pv_upd h, pv_upd h, pv_upd h]
theorem bvs_newT {q g : Nat} {T R : Sf} {mo : Int} {k : Nat} (hk : k < 3) (z : Sl) : (bvs q g T R mo).setIfInBounds (2 + k) (pt z.x) = bvs q g (upd T k z) R mo := by
  have : k = 0 ∨ k = 1 ∨ k = 2 := by omega
  rcases this with rfl | rfl | rfl <;> rfl
theorem bvs_newR {q g : Nat} {T R : Sf} {mo : Int} {k : Nat} (hk : k < 3) (z : Sl) : (bvs q g T R mo).setIfInBounds (5 + k) (pt z.x) = bvs q g T (upd R k z) mo := by
  have : k = 0 ∨ k = 1 ∨ k = 2 := by omega
  rcases this with rfl | rfl | rfl <;> rfl
theorem bvs_tv {q g : Nat} {T R : Sf} {mo : Int} {k : Nat} (hk : k < 3) : (bvs q g T R mo)[2 + k]? = some (pv (T k)) := by
  have : k = 0 ∨ k = 1 ∨ k = 2 := by omega
  rcases this with rfl | rfl | rfl <;> rfl
theorem bvs_rv {q g : Nat} {T R : Sf} {mo : Int} {k : Nat} (hk : k < 3) : (bvs q g T R mo)[5 + k]? = some (pv (R k)) := by
  have : k = 0 ∨ k = 1 ∨ k = 2 := by omega
  rcases this with rfl | rfl | rfl <;> rfl
structure PI (X : Th → Prop) (q g bx : Nat) (mo : Int) (T R : Sf) (C : List ByteArray) (m : Nat) (rest : List (Th → Prop)) : Prop where
  hl : rest[0]? = some (rl g C)
  hb : rest[1]? = some (ob bx (bvs q g T R mo) 37)
  hx : rest[2]? = some X
  ht : ∀ k z, T k = some z → rest[z.i]? = some (tx z.x q z.W z.o) ∧ 3 ≤ z.i ∧ Rising z.W ∧ InB m z.W
  hr : ∀ k z, R k = some z → rest[z.i]? = some (rt z.x g z.W z.o) ∧ 3 ≤ z.i ∧ Rising z.W ∧ InB m z.W
  htt : ∀ k l y z, T k = some y → T l = some z → k ≠ l → y.i ≠ z.i
  hrr : ∀ k l y z, R k = some y → R l = some z → k ≠ l → y.i ≠ z.i
  htr : ∀ k l y z, T k = some y → R l = some z → y.i ≠ z.i
theorem gset_ne {α : Type} {l : List α} {i j : Nat} {a : α} (h : i ≠ j) : (l.set i a)[j]? = l[j]? := List.getElem?_set_ne h
theorem gset_at {α : Type} {l : List α} {i : Nat} {a b : α} (h : l[i]? = some b) : (l.set i a)[i]? = some a := by
  have := (List.getElem?_eq_some_iff.1 h).1
  rw [List.getElem?_set_self this]
theorem gapp {α : Type} {l : List α} {i : Nat} {b c : α} (h : l[i]? = some b) : (l ++ [c])[i]? = some b := by
  have := (List.getElem?_eq_some_iff.1 h).1
  rw [List.getElem?_append_left this, h]
variable {X : Th → Prop} {q g bx m p s n : Nat} {mo : Int} {T R : Sf} {B C : List ByteArray} {rest : List (Th → Prop)} {k : Nat} {z : Sl}
theorem PI.setT (h : PI X q g bx mo T R C m rest) (hk : T k = some z) (W : Wl) (o : Bool) (hR : Rising W) (hI : InB m W) : PI X q g bx mo (upd T k ⟨z.x, z.i, W, o⟩) R C m (rest.set z.i (tx z.x q W o)) := by
  obtain ⟨a1, a2, a3, a4⟩ := h.ht k z hk
  have key : ∀ l y, upd T k ⟨z.x, z.i, W, o⟩ l = some y → (l = k ∧ y = ⟨z.x, z.i, W, o⟩) ∨ (l ≠ k ∧ T l = some y) := fun l y hy => by
    by_cases e : l = k
    · subst e; rw [upd_at] at hy; exact .inl ⟨rfl, (Option.some.inj hy).symm⟩
    · rw [upd_ne T _ e] at hy; exact .inr ⟨e, hy⟩
  refine ⟨(gset_ne (by omega)).trans h.hl, ?_, ?_, ?_, ?_, ?_, h.hrr, ?_⟩
  · rw [bvs_t hk]; exact (gset_ne (by omega)).trans h.hb
  · exact (gset_ne (by omega)).trans h.hx
  · intro l y hy
    rcases key l y hy with ⟨rfl, rfl⟩ | ⟨hl, hy⟩
    · exact ⟨gset_at a1, a2, hR, hI⟩
    · obtain ⟨b1, b2⟩ := h.ht l y hy
      exact ⟨(gset_ne (h.htt k l z y hk hy (fun e => hl e.symm))).trans b1, b2⟩
  · intro l y hy
    obtain ⟨b1, b2⟩ := h.hr l y hy
    exact ⟨(gset_ne (h.htr k l z y hk hy)).trans b1, b2⟩
  · intro l l' y y' hy hy' hne
    rcases key l y hy with ⟨rfl, rfl⟩ | ⟨hl, hy1⟩ <;> rcases key l' y' hy' with ⟨rfl, rfl⟩ | ⟨hl', hy2⟩
    · exact absurd rfl hne
    · exact h.htt _ _ z y' hk hy2 hne
    · exact h.htt _ _ y z hy1 hk hne
    · exact h.htt _ _ _ _ hy1 hy2 hne
  · intro l l' y y' hy hy'
    rcases key l y hy with ⟨rfl, rfl⟩ | ⟨hl, hy⟩
    · exact h.htr _ _ z y' hk hy'
    · exact h.htr _ _ _ _ hy hy'
theorem PI.setR (h : PI X q g bx mo T R C m rest) (hk : R k = some z) (W : Wl) (o : Bool) (hR : Rising W) (hI : InB m W) : PI X q g bx mo T (upd R k ⟨z.x, z.i, W, o⟩) C m (rest.set z.i (rt z.x g W o)) := by
  obtain ⟨a1, a2, a3, a4⟩ := h.hr k z hk
  have key : ∀ l y, upd R k ⟨z.x, z.i, W, o⟩ l = some y → (l = k ∧ y = ⟨z.x, z.i, W, o⟩) ∨ (l ≠ k ∧ R l = some y) := fun l y hy => by
    by_cases e : l = k
    · subst e; rw [upd_at] at hy; exact .inl ⟨rfl, (Option.some.inj hy).symm⟩
    · rw [upd_ne R _ e] at hy; exact .inr ⟨e, hy⟩
  refine ⟨(gset_ne (by omega)).trans h.hl, ?_, ?_, ?_, ?_, h.htt, ?_, ?_⟩
  · rw [bvs_r hk]; exact (gset_ne (by omega)).trans h.hb
  · exact (gset_ne (by omega)).trans h.hx
  · intro l y hy
    obtain ⟨b1, b2⟩ := h.ht l y hy
    exact ⟨(gset_ne (fun e => h.htr l k y z hy hk e.symm)).trans b1, b2⟩
  · intro l y hy
    rcases key l y hy with ⟨rfl, rfl⟩ | ⟨hl, hy⟩
    · exact ⟨gset_at a1, a2, hR, hI⟩
    · obtain ⟨b1, b2⟩ := h.hr l y hy
      exact ⟨(gset_ne (h.hrr k l z y hk hy (fun e => hl e.symm))).trans b1, b2⟩
  · intro l l' y y' hy hy' hne
    rcases key l y hy with ⟨rfl, rfl⟩ | ⟨hl, hy1⟩ <;> rcases key l' y' hy' with ⟨rfl, rfl⟩ | ⟨hl', hy2⟩
    · exact absurd rfl hne
    · exact h.hrr _ _ z y' hk hy2 hne
    · exact h.hrr _ _ y z hy1 hk hne
    · exact h.hrr _ _ _ _ hy1 hy2 hne
  · intro l l' y y' hy hy'
    rcases key l' y' hy' with ⟨rfl, rfl⟩ | ⟨hl, hy'⟩
    · exact h.htr _ _ y z hy hk
    · exact h.htr _ _ _ _ hy hy'
theorem PI.setC (h : PI X q g bx mo T R C m rest) (C' : List ByteArray) : PI X q g bx mo T R C' m (rest.set 0 (rl g C')) :=
  ⟨gset_at h.hl, (gset_ne (by omega)).trans h.hb, (gset_ne (by omega)).trans h.hx, fun l y hy => ⟨(gset_ne (by have := (h.ht l y hy).2.1; omega)).trans (h.ht l y hy).1, (h.ht l y hy).2⟩, fun l y hy => ⟨(gset_ne (by have := (h.hr l y hy).2.1; omega)).trans (h.hr l y hy).1, (h.hr l y hy).2⟩, h.htt, h.hrr, h.htr⟩
theorem PI.push (h : PI X q g bx mo T R C m rest) (t : Th → Prop) : PI X q g bx mo T R C m (rest ++ [t]) :=
  ⟨gapp h.hl, gapp h.hb, gapp h.hx, fun l y hy => ⟨gapp (h.ht l y hy).1, (h.ht l y hy).2⟩, fun l y hy => ⟨gapp (h.hr l y hy).1, (h.hr l y hy).2⟩, h.htt, h.hrr, h.htr⟩
theorem PI.len2 (h : PI X q g bx mo T R C m rest) : 3 ≤ rest.length := (List.getElem?_eq_some_iff.1 h.hx).1
theorem PI.newT (h : PI X q g bx mo T R C m rest) (hk : k < 3) (x : Nat) : PI X q g bx mo (upd T k ⟨x, rest.length, [], false⟩) R C m ((rest ++ [tx x q [] false]).set 1 (ob bx ((bvs q g T R mo).setIfInBounds (2 + k) (pt x)) 37)) := by
  have hp := h.push (tx x q [] false)
  have l2 := h.len2
  have tl : ∀ l y, T l = some y → y.i < rest.length := fun l y hy => (List.getElem?_eq_some_iff.1 (h.ht l y hy).1).1
  have rlt : ∀ l y, R l = some y → y.i < rest.length := fun l y hy => (List.getElem?_eq_some_iff.1 (h.hr l y hy).1).1
  have key : ∀ l y, upd T k ⟨x, rest.length, [], false⟩ l = some y → (l = k ∧ y = ⟨x, rest.length, [], false⟩) ∨ (l ≠ k ∧ T l = some y) := fun l y hy => by
    by_cases e : l = k
    · subst e; rw [upd_at] at hy; exact .inl ⟨rfl, (Option.some.inj hy).symm⟩
    · rw [upd_ne T _ e] at hy; exact .inr ⟨e, hy⟩
  rw [bvs_newT hk ⟨x, rest.length, [], false⟩]
  refine ⟨(gset_ne (by omega)).trans hp.hl, gset_at hp.hb, (gset_ne (by omega)).trans hp.hx, ?_, ?_, ?_, h.hrr, ?_⟩
  · intro l y hy
    rcases key l y hy with ⟨rfl, rfl⟩ | ⟨hl, hy⟩
    · exact ⟨(gset_ne (by simp only; omega)).trans (by simp), l2, List.Pairwise.nil, InB.nil _⟩
    · obtain ⟨b1, b2⟩ := hp.ht l y hy
      exact ⟨(gset_ne (by omega)).trans b1, b2⟩
  · intro l y hy
    obtain ⟨b1, b2⟩ := hp.hr l y hy
    exact ⟨(gset_ne (by omega)).trans b1, b2⟩
  · intro l l' y y' hy hy' hne
    rcases key l y hy with ⟨rfl, rfl⟩ | ⟨hl, hy1⟩ <;> rcases key l' y' hy' with ⟨rfl, rfl⟩ | ⟨hl', hy2⟩
    · exact absurd rfl hne
    · have := tl _ _ hy2; simp only; omega
    · have := tl _ _ hy1; simp only; omega
    · exact h.htt _ _ _ _ hy1 hy2 hne
  · intro l l' y y' hy hy'
    rcases key l y hy with ⟨rfl, rfl⟩ | ⟨hl, hy⟩
    · have := rlt _ _ hy'; simp only; omega
    · exact h.htr _ _ _ _ hy hy'
theorem PI.newR (h : PI X q g bx mo T R C m rest) (hk : k < 3) (x : Nat) : PI X q g bx mo T (upd R k ⟨x, rest.length, [], false⟩) C m ((rest ++ [rt x g [] false]).set 1 (ob bx ((bvs q g T R mo).setIfInBounds (5 + k) (pt x)) 37)) := by
  have hp := h.push (rt x g [] false)
  have l2 := h.len2
  have tl : ∀ l y, T l = some y → y.i < rest.length := fun l y hy => (List.getElem?_eq_some_iff.1 (h.ht l y hy).1).1
  have rlt : ∀ l y, R l = some y → y.i < rest.length := fun l y hy => (List.getElem?_eq_some_iff.1 (h.hr l y hy).1).1
  have key : ∀ l y, upd R k ⟨x, rest.length, [], false⟩ l = some y → (l = k ∧ y = ⟨x, rest.length, [], false⟩) ∨ (l ≠ k ∧ R l = some y) := fun l y hy => by
    by_cases e : l = k
    · subst e; rw [upd_at] at hy; exact .inl ⟨rfl, (Option.some.inj hy).symm⟩
    · rw [upd_ne R _ e] at hy; exact .inr ⟨e, hy⟩
  rw [bvs_newR hk ⟨x, rest.length, [], false⟩]
  refine ⟨(gset_ne (by omega)).trans hp.hl, gset_at hp.hb, (gset_ne (by omega)).trans hp.hx, ?_, ?_, h.htt, ?_, ?_⟩
  · intro l y hy
    obtain ⟨b1, b2⟩ := hp.ht l y hy
    exact ⟨(gset_ne (by omega)).trans b1, b2⟩
  · intro l y hy
    rcases key l y hy with ⟨rfl, rfl⟩ | ⟨hl, hy⟩
    · exact ⟨(gset_ne (by simp only; omega)).trans (by simp), l2, List.Pairwise.nil, InB.nil _⟩
    · obtain ⟨b1, b2⟩ := hp.hr l y hy
      exact ⟨(gset_ne (by omega)).trans b1, b2⟩
  · intro l l' y y' hy hy' hne
    rcases key l y hy with ⟨rfl, rfl⟩ | ⟨hl, hy1⟩ <;> rcases key l' y' hy' with ⟨rfl, rfl⟩ | ⟨hl', hy2⟩
    · exact absurd rfl hne
    · have := rlt _ _ hy2; simp only; omega
    · have := rlt _ _ hy1; simp only; omega
    · exact h.hrr _ _ _ _ hy1 hy2 hne
  · intro l l' y y' hy hy'
    rcases key l' y' hy' with ⟨rfl, rfl⟩ | ⟨hl, hy'⟩
    · have := tl _ _ hy; simp only; omega
    · exact h.htr _ _ _ _ hy hy'
/-- the program's log with blocks B and its transactions T, the document's with blocks C and R, side by side -/
def PG (X : Th → Prop) (w0 w : World) (q p s n g bx : Nat) (mo : Int) (T R : Sf) (B C : List ByteArray) : Prop := ∃ st rest, EnvP w0 w (lg q p s false :: dk p st :: rest) ∧ (OKst NN st n s B ∧ st.fall = 0 ∧ 4 ≤ s ∧ s < n) ∧ PI X q g bx mo T R C (n - s) rest ∧ C.length = n - s
variable {w0 w w' : World}
theorem PG.nle (h : PG X w0 w q p s n g bx mo T R B C) : n ≤ 8192 := by
  obtain ⟨st, rest, E, ⟨ok, _⟩, _⟩ := h
  have := ok.wf.hi; rw [ok.len] at this; exact this
theorem PG.below (h : PG X w0 w q p s n g bx mo T R B C) (b : Below w.heap.size w w') : PG X w0 w' q p s n g bx mo T R B C := by
  obtain ⟨st, rest, E, F⟩ := h
  exact ⟨st, rest, E.below b, F⟩
theorem PG.drewN (h : PG X w0 w q p s n g bx mo T R B C) (k : Nat) : PG X w0 (w.drewN k) q p s n g bx mo T R B C := by
  obtain ⟨st, rest, E, F⟩ := h
  exact ⟨st, rest, E.drewN k, F⟩
theorem PG.drew (h : PG X w0 w q p s n g bx mo T R B C) : PG X w0 w.drew q p s n g bx mo T R B C := by
  obtain ⟨st, rest, E, F⟩ := h
  exact ⟨st, rest, E.drew, F⟩
theorem PG.bel (h : PG X w0 w q p s n g bx mo T R B C) : Below w0.heap.size w0 w := by
  obtain ⟨st, rest, E, F⟩ := h
  exact E.bel
theorem PG.cell (h : PG X w0 w q p s n g bx mo T R B C) (j : Nat) : w.cell? ⟨bx, j, none⟩ = (bvs q g T R mo)[j]? := by
  obtain ⟨st, rest, E, F, I, _⟩ := h
  exact E.cell 3 I.hb j
theorem PG.froz (h : PG X w0 w q p s n g bx mo T R B C) (j : Nat) : w.frozen? ⟨bx, j, none⟩ = false := by
  obtain ⟨st, rest, E, F, I, _⟩ := h
  exact E.frozen 3 I.hb j
theorem PG.tv (h : PG X w0 w q p s n g bx mo T R B C) (hk : k < 3) : w.cell? ⟨bx, 2 + k, none⟩ = some (pv (T k)) := (h.cell _).trans (bvs_tv hk)
theorem PG.rv (h : PG X w0 w q p s n g bx mo T R B C) (hk : k < 3) : w.cell? ⟨bx, 5 + k, none⟩ = some (pv (R k)) := (h.cell _).trans (bvs_rv hk)
theorem PG.gl (h : PG X w0 w q p s n g bx mo T R B C) : ∃ la lc, w.cell? ⟨g, 0, none⟩ = some (.slice la C.length lc) ∧ SIn w la C := by
  obtain ⟨st, rest, E, F, I, _⟩ := h
  obtain ⟨v, _, hb, hm, _⟩ := E.rl 2 I.hl
  obtain ⟨a, c, rfl, hs⟩ := own_sin hm
  exact ⟨a, c, cell_of_row w g 0 _ _ (0, 0) hb, hs⟩
def lrV (B : List ByteArray) (n : Int) : Value := if 0 ≤ n ∧ n < B.length then .tuple #[.string (B.getD n.toNat ByteArray.empty), .int .i64 0] else .tuple #[.string ⟨#[]⟩, .int .i64 1]
theorem PG.lread (h : PG X w0 w q p s n g bx mo T R B C) (N : Int) : Calls Tryz.prog 12 #[pt q, .int .i64 N] w fun e w' => e = .returned (lrV B N) ∧ PG X w0 w' q p s n g bx mo T R B C := by
  obtain ⟨st, rest, E, F, I⟩ := h
  refine (lread_on E N F.1.off (by rw [F.1.len]; omega) B (by rw [F.1.seen]; exact F.1.blk)).mono ?_
  rintro e w' ⟨rfl, E'⟩
  exact ⟨rfl, st, rest, E', F, I⟩
def trV (z : Sl) (B : List ByteArray) (n : Int) : Value := if z.o then .tuple #[.string ⟨#[]⟩, .int .i64 8] else rdV z.W B n
theorem look_sz {m : Nat} {W : Wl} (h : InB m W) {n : Int} {t : ByteArray} (hl : lookI W n = some t) : t.size = 512 := by
  unfold lookI at hl
  split at hl
  · cases hl
  · have : ∀ {W : Wl}, InB m W → ∀ {n : Nat}, lookW W n = some t → t.size = 512 := by
      intro W
      induction W with
      | nil => intro _ n h; cases h
      | cons a r ih =>
        intro hi n h
        unfold lookW at h
        split at h
        · injection h with h; subst h; exact (hi _ List.mem_cons_self).2
        · exact ih (fun p hp => hi p (List.mem_cons_of_mem _ hp)) h
    exact this h hl
theorem PG.tread (h : PG X w0 w q p s n g bx mo T R B C) (hk : T k = some z) (N : Int) (hN : -9223372036854775808 ≤ N ∧ N ≤ 9223372036854775807) : Calls Tryz.prog 16 #[pt z.x, .int .i64 N] w fun e w' => e = .returned (trV z B N) ∧ PG X w0 w' q p s n g bx mo T R B C := by
  obtain ⟨st, rest, E, F, I, lC⟩ := h
  obtain ⟨a1, a2, a3, a4⟩ := I.ht k z hk
  unfold trV
  obtain ⟨x, i, W, o⟩ := z
  simp only at a1 a2 a3 a4 ⊢
  cases o with
  | true =>
    refine (tread_over E (i + 2) (by simpa using a1) _).mono ?_
    rintro e w' ⟨rfl, E'⟩
    exact ⟨rfl, st, rest, E', F, I, lC⟩
  | false =>
    unfold rdV
    cases hl : lookI W N with
    | some t =>
      refine (tread_own E (i + 2) (by simpa using a1) N hN t (look_sz a4 hl) hl).mono ?_
      rintro e w' ⟨rfl, E'⟩
      exact ⟨rfl, st, rest, E', F, I, lC⟩
    | none =>
      refine (tread_log E i a1 N hN hl F.1.off (by rw [F.1.len]; omega) B (by rw [F.1.seen]; exact F.1.blk)).mono ?_
      rintro e w' ⟨rfl, E'⟩
      exact ⟨rfl, st, rest, E', F, I, lC⟩
theorem PG.rread (h : PG X w0 w q p s n g bx mo T R B C) (hk : R k = some z) (N : Int) : Calls Tryz.prog 23 #[pt z.x, .int .i64 N] w fun e w' => e = .returned (trV z C N) ∧ PG X w0 w' q p s n g bx mo T R B C := by
  have hn := h.nle
  obtain ⟨st, rest, E, F, I, lC⟩ := h
  obtain ⟨a1, a2, a3, a4⟩ := I.hr k z hk
  have hl := a3.length a4
  unfold trV
  obtain ⟨x, i, W, o⟩ := z
  simp only at a1 a2 a3 a4 hl ⊢
  cases o with
  | true =>
    refine (rread_over E (i + 2) (by simpa using a1) _).mono ?_
    rintro e w' ⟨rfl, k, rfl⟩
    exact ⟨rfl, st, rest, E.drewN k, F, I, lC⟩
  | false =>
    refine (rread_env E (i + 2) 2 (by simpa using a1) I.hl N (by omega) (by omega)).mono ?_
    rintro e w' ⟨rfl, k, rfl⟩
    exact ⟨rfl, st, rest, E.drewN k, F, I, lC⟩
theorem PG.tdirty (h : PG X w0 w q p s n g bx mo T R B C) (hk : T k = some z) : Calls Tryz.prog 9 #[pt z.x] w fun e w' => e = .returned (.int .i64 (z.W.length : Int)) ∧ ∃ k, w' = w.drewN k := by
  have hn := h.nle
  obtain ⟨st, rest, E, F, I, lC⟩ := h
  obtain ⟨a1, a2, a3, a4⟩ := I.ht k z hk
  have hl := a3.length a4
  exact dirty_env E (z.i + 2) (by simpa using a1) (by omega)
theorem PG.rdirty (h : PG X w0 w q p s n g bx mo T R B C) (hk : R k = some z) : Calls Tryz.prog 10 #[pt z.x] w fun e w' => e = .returned (.int .i64 (if z.o then 0 else (z.W.length : Int))) ∧ ∃ k, w' = w.drewN k := by
  obtain ⟨st, rest, E, F, I, lC⟩ := h
  obtain ⟨a1, a2, a3, a4⟩ := I.hr k z hk
  exact rdirty_env E (z.i + 2) (by simpa using a1) rfl
theorem PG.tblocks (h : PG X w0 w q p s n g bx mo T R B C) (hk : T k = some z) : Calls Tryz.prog 11 #[pt z.x] w fun e w' => e = .returned (.int .i64 (C.length : Int)) ∧ ∃ k, w' = w.drewN k := by
  obtain ⟨st, rest, E, F, I, lC⟩ := h
  obtain ⟨a1, a2, a3, a4⟩ := I.ht k z hk
  have hs : s ≤ st.safe.length := by rw [F.1.len]; omega
  have e1 : ((st.safe.length : Int) - (s : Int)) = (C.length : Int) := by rw [lC, F.1.len] ; have := F.2.2.2; omega
  rw [← e1]
  exact tblocks_env E hs z.i a1
/-- what a Write answers, and what it leaves -/
def wc (o : Bool) (m : Nat) (N : Int) (t : ByteArray) : Int := if o then 8 else if 0 ≤ N ∧ N < m ∧ t.size = 512 then 0 else 1
def ww (o : Bool) (m : Nat) (N : Int) (t : ByteArray) (W : Wl) : Wl := if o then W else if 0 ≤ N ∧ N < m ∧ t.size = 512 then insW N.toNat t W else W
theorem PG.twrite (h : PG X w0 w q p s n g bx mo T R B C) (hk : T k = some z) (N : Int) (t : ByteArray) : Calls Tryz.prog 14 #[pt z.x, .int .i64 N, .string t] w fun e w' => e = .returned (.int .i64 (wc z.o (n - s) N t)) ∧ PG X w0 w' q p s n g bx mo (upd T k ⟨z.x, z.i, ww z.o (n - s) N t z.W, z.o⟩) R B C := by
  have hn := h.nle
  obtain ⟨st, rest, E, F, I, lC⟩ := h
  obtain ⟨a1, a2, a3, a4⟩ := I.ht k z hk
  have hl := a3.length a4
  obtain ⟨x, i, W, o⟩ := z
  simp only at a1 a2 a3 a4 hl ⊢
  unfold wc ww
  have hs : s ≤ st.safe.length := by rw [F.1.len]; omega
  cases o with
  | true =>
    rw [if_pos rfl, if_pos rfl, upd_self hk]
    refine (twrite_over E (i + 2) (by simpa using a1) _ _).mono ?_
    rintro e w' ⟨rfl, E'⟩
    exact ⟨rfl, st, rest, E', F, I, lC⟩
  | false =>
    rw [if_neg Bool.false_ne_true, if_neg Bool.false_ne_true]
    by_cases hv : 0 ≤ N ∧ N < (n - s : Nat) ∧ t.size = 512
    · rw [if_pos hv, if_pos hv]
      obtain ⟨N', rfl⟩ := Int.eq_ofNat_of_zero_le hv.1
      have hN : N' < n - s := by have := hv.2.1; omega
      refine (twrite_run E hs i a1 N' t (m := n - s) (by rw [F.1.len]) hN hv.2.2 a3 (by omega)).mono ?_
      rintro e w' ⟨rfl, E'⟩
      exact ⟨rfl, st, _, E', F, I.setT hk _ _ a3.ins (a4.ins hN hv.2.2), lC⟩
    · rw [if_neg hv, if_neg hv, upd_self hk]
      refine (twrite_bad E hs i a1 N t (m := n - s) (by rw [F.1.len]) hv).mono ?_
      rintro e w' ⟨rfl, E'⟩
      exact ⟨rfl, st, rest, E', F, I, lC⟩
theorem PG.rwrite (h : PG X w0 w q p s n g bx mo T R B C) (hk : R k = some z) (N : Int) (t : ByteArray) : Calls Tryz.prog 24 #[pt z.x, .int .i64 N, .string t] w fun e w' => e = .returned (.int .i64 (wc z.o (n - s) N t)) ∧ PG X w0 w' q p s n g bx mo T (upd R k ⟨z.x, z.i, ww z.o (n - s) N t z.W, z.o⟩) B C := by
  have hn := h.nle
  obtain ⟨st, rest, E, F, I, lC⟩ := h
  obtain ⟨a1, a2, a3, a4⟩ := I.hr k z hk
  have hl := a3.length a4
  obtain ⟨x, i, W, o⟩ := z
  simp only at a1 a2 a3 a4 hl ⊢
  unfold wc ww
  cases o with
  | true =>
    rw [if_pos rfl, if_pos rfl, upd_self hk]
    refine (rwrite_over E (i + 2) (by simpa using a1) _ _).mono ?_
    rintro e w' ⟨rfl, k, rfl⟩
    exact ⟨rfl, st, rest, E.drewN k, F, I, lC⟩
  | false =>
    rw [if_neg Bool.false_ne_true, if_neg Bool.false_ne_true]
    by_cases hv : 0 ≤ N ∧ N < (n - s : Nat) ∧ t.size = 512
    · rw [if_pos hv, if_pos hv]
      obtain ⟨N', rfl⟩ := Int.eq_ofNat_of_zero_le hv.1
      have hN : N' < n - s := by have := hv.2.1; omega
      refine (rwrite_env E (i + 2) 2 (by simpa using a1) I.hl N' t (by omega) hv.2.2 a3 (by omega) (by omega)).mono ?_
      rintro e w' ⟨rfl, E'⟩
      exact ⟨rfl, st, _, E', F, I.setR hk _ _ a3.ins (a4.ins hN hv.2.2), lC⟩
    · rw [if_neg hv, if_neg hv, upd_self hk]
      refine (rwrite_bad E (i + 2) 2 (by simpa using a1) I.hl N t (by rw [lC]; exact hv)).mono ?_
      rintro e w' ⟨rfl, k, rfl⟩
      exact ⟨rfl, st, rest, E.drewN k, F, I, lC⟩
theorem PG.tabort (h : PG X w0 w q p s n g bx mo T R B C) (hk : T k = some z) : Calls Tryz.prog 26 #[pt z.x] w fun e w' => e = .returned (.tuple #[]) ∧ PG X w0 w' q p s n g bx mo (upd T k ⟨z.x, z.i, [], true⟩) R B C := by
  obtain ⟨st, rest, E, F, I, lC⟩ := h
  obtain ⟨a1, a2, a3, a4⟩ := I.ht k z hk
  refine (abort_env E (z.i + 2) (by simpa using a1)).mono ?_
  rintro e w' ⟨rfl, E'⟩
  exact ⟨rfl, st, _, E', F, I.setT hk _ _ List.Pairwise.nil (InB.nil _), lC⟩
theorem PG.rabort (h : PG X w0 w q p s n g bx mo T R B C) (hk : R k = some z) : Calls Tryz.prog 27 #[pt z.x] w fun e w' => e = .returned (.tuple #[]) ∧ PG X w0 w' q p s n g bx mo T (upd R k ⟨z.x, z.i, z.W, true⟩) B C := by
  obtain ⟨st, rest, E, F, I, lC⟩ := h
  obtain ⟨a1, a2, a3, a4⟩ := I.hr k z hk
  refine (rabort_env E (z.i + 2) (by simpa using a1)).mono ?_
  rintro e w' ⟨rfl, E'⟩
  exact ⟨rfl, st, _, E', F, I.setR hk _ _ a3 a4, lC⟩
/-- what a Commit answers -/
def cc (z : Sl) (s : Nat) : Int := if z.o then 8 else if z.W = [] ∨ fitsB s z.W.length = true then 0 else 41
def cb (z : Sl) (s : Nat) (B : List ByteArray) : List ByteArray := if z.o then B else if z.W = [] ∨ fitsB s z.W.length = true then lay B z.W else B
theorem PG.tcommit (h : PG X w0 w q p s n g bx mo T R B C) (hk : T k = some z) (ho : z.o = true → z.W = []) : Calls Tryz.prog 17 #[pt z.x] w fun e w' => e = .returned (.int .i64 (cc z s)) ∧ PG X w0 w' q p s n g bx mo (upd T k ⟨z.x, z.i, [], true⟩) R (cb z s B) C := by
  obtain ⟨st, rest, E, F, I, lC⟩ := h
  obtain ⟨a1, a2, a3, a4⟩ := I.ht k z hk
  obtain ⟨x, i, W, o⟩ := z
  simp only at a1 a2 a3 a4 ho ⊢
  unfold cc cb
  cases o with
  | true =>
    have := ho rfl
    subst this
    rw [if_pos rfl, if_pos rfl, upd_self hk]
    refine (tcommit_over E (i + 2) (by simpa using a1)).mono ?_
    rintro e w' ⟨rfl, E'⟩
    exact ⟨rfl, st, rest, E', F, I, lC⟩
  | false =>
    rw [if_neg Bool.false_ne_true, if_neg Bool.false_ne_true]
    refine (tcommit_all E i a1 F.1 F.2.1 F.2.2.1 F.2.2.2 a3 a4).mono ?_
    rintro e w' ⟨r, st', B', rfl, E', ok', f', ⟨rfl, rfl, hf⟩ | ⟨rfl, rfl, h1, h2⟩⟩
    · simp only
      rw [if_pos hf, if_pos hf]
      exact ⟨rfl, st', _, E', ⟨ok', f', F.2.2⟩, I.setT hk _ _ List.Pairwise.nil (InB.nil _), lC⟩
    · have hf : ¬ (W = [] ∨ fitsB s W.length = true) := by rw [h2]; simp [h1]
      simp only
      rw [if_neg hf, if_neg hf]
      exact ⟨rfl, st', _, E', ⟨ok', f', F.2.2⟩, I.setT hk _ _ List.Pairwise.nil (InB.nil _), lC⟩
theorem PG.rcommit (h : PG X w0 w q p s n g bx mo T R B C) (hk : R k = some z) : Calls Tryz.prog 37 #[pt z.x] w fun e w' => e = .returned (.int .i64 (if z.o then 8 else 0)) ∧ PG X w0 w' q p s n g bx mo T (upd R k ⟨z.x, z.i, z.W, true⟩) B (if z.o then C else lay C z.W) := by
  have hn := h.nle
  obtain ⟨st, rest, E, F, I, lC⟩ := h
  obtain ⟨a1, a2, a3, a4⟩ := I.hr k z hk
  have hl := a3.length a4
  obtain ⟨x, i, W, o⟩ := z
  simp only at a1 a2 a3 a4 hl ⊢
  cases o with
  | true =>
    rw [if_pos rfl, if_pos rfl, upd_self hk]
    refine (rcommit_over E (i + 2) (by simpa using a1)).mono ?_
    rintro e w' ⟨rfl, k, rfl⟩
    exact ⟨rfl, st, rest, E.drewN k, F, I, lC⟩
  | false =>
    rw [if_neg Bool.false_ne_true, if_neg Bool.false_ne_true]
    refine (rcommit_env E (i + 2) 2 (by simpa using a1) I.hl (by omega) (by rw [lC]; exact a4) (by omega) (by omega)).mono ?_
    rintro e w' ⟨rfl, E'⟩
    exact ⟨rfl, st, _, E', F, (I.setR hk W true a3 a4).setC _, by rw [lay_length]; exact lC⟩
theorem PG.tbegin (h : PG X w0 w q p s n g bx mo T R B C) (hk : k < 3) : Calls Tryz.prog 13 #[pt q] w fun e w' => ∃ x, e = .returned (pt x) ∧ PG X w0 w' q p s n g bx mo T R B C ∧ ∃ i, PG X w0 (w'.setCell ⟨bx, 2 + k, none⟩ (pt x)) q p s n g bx mo (upd T k ⟨x, i, [], false⟩) R B C := by
  obtain ⟨st, rest, E, F, I, lC⟩ := h
  refine (tbegin_env E q).mono ?_
  rintro e w' ⟨x, rfl, E'⟩
  exact ⟨x, rfl, ⟨st, _, E', F, I.push _, lC⟩, rest.length, st, _, E'.setCell 3 (I.push _).hb (2 + k) (pt x), F, I.newT hk x, lC⟩
theorem PG.rbegin (h : PG X w0 w q p s n g bx mo T R B C) (hk : k < 3) : Calls Tryz.prog 22 #[pt g] w fun e w' => ∃ x, e = .returned (pt x) ∧ PG X w0 w' q p s n g bx mo T R B C ∧ ∃ i, PG X w0 (w'.setCell ⟨bx, 5 + k, none⟩ (pt x)) q p s n g bx mo T (upd R k ⟨x, i, [], false⟩) B C := by
  obtain ⟨st, rest, E, F, I, lC⟩ := h
  refine (rbegin_env E g).mono ?_
  rintro e w' ⟨x, rfl, E'⟩
  exact ⟨x, rfl, ⟨st, _, E', F, I.push _, lC⟩, rest.length, st, _, E'.setCell 3 (I.push _).hb (5 + k) (pt x), F, I.newR hk x, lC⟩
theorem PI.box (h : PI X q g bx mo T R C m rest) (Y : Th → Prop) : PI Y q g bx mo T R C m (rest.set 2 Y) :=
  ⟨(gset_ne (by omega)).trans h.hl, (gset_ne (by omega)).trans h.hb, gset_at h.hx, fun l y hy => ⟨(gset_ne (by have := (h.ht l y hy).2.1; omega)).trans (h.ht l y hy).1, (h.ht l y hy).2⟩, fun l y hy => ⟨(gset_ne (by have := (h.hr l y hy).2.1; omega)).trans (h.hr l y hy).1, (h.hr l y hy).2⟩, h.htt, h.hrr, h.htr⟩
theorem PG.box (h : PG X w0 w q p s n g bx mo T R B C) (cs : Array Value) (ty : TypeId) : PG (ob w.heap.size cs ty) w0 (w.alloc (.cells cs ty)) q p s n g bx mo T R B C := by
  obtain ⟨st, rest, E, F, I, lC⟩ := h
  refine ⟨st, _, ?_, F, I.box _, lC⟩
  have l2 := I.len2
  have E' := E.alloc cs ty
  refine E'.remap (fun i => if i = 4 then rest.length + 2 else i) ?_ ?_
  · intro i t hi
    by_cases e : i = 4
    · subst e
      rw [if_pos rfl]
      have : (rest.set 2 (ob w.heap.size cs ty))[2]? = some t := hi
      rw [gset_at I.hx] at this
      rw [← this]
      simp
    · rw [if_neg e]
      have hi' : (lg q p s false :: dk p st :: rest)[i]? = some t := by
        match i with
        | 0 => exact hi
        | 1 => exact hi
        | j + 2 =>
          have : (rest.set 2 (ob w.heap.size cs ty))[j]? = some t := hi
          rw [gset_ne (by omega)] at this
          exact this
      exact gapp hi'
  · intro i j hi hj e
    simp only [List.length_cons, List.length_set] at hi hj
    by_cases e1 : i = 4 <;> by_cases e2 : j = 4
    · omega
    · rw [if_pos e1, if_neg e2] at e; omega
    · rw [if_neg e1, if_pos e2] at e; omega
    · rw [if_neg e1, if_neg e2] at e; omega
theorem PG.atBox {b : Nat} {cs : Array Value} {ty : TypeId} (h : PG (ob b cs ty) w0 w q p s n g bx mo T R B C) (j : Nat) : w.cell? ⟨b, j, none⟩ = cs[j]? := by
  obtain ⟨st, rest, E, F, I, lC⟩ := h
  exact E.cell 4 I.hx j
end Go.Proofs.YtlgpodcoiioefaaGreat

/- TxnPlays: ends. -/
namespace Go.Proofs.YtlgpodcoiioefaaGreat
set_option linter.unusedVariables false
set_option linter.unusedSimpArgs false
open Go.RowKit Go.Maps
variable {X : Th → Prop} {q g bx m p s n : Nat} {T R : Sf} {B C : List ByteArray} {k : Nat} {z y : Sl} {w0 w w' : World}
/-- the two transactions of a number say the same -/
def Sy : Option Sl → Option Sl → Prop
  | none, none => True
  | some z, some y => y.o = z.o ∧ z.W = if z.o then [] else y.W
  | _, _ => False
theorem sy_upd (h : ∀ j, Sy (T j) (R j)) (k : Nat) {z y : Sl} (hk : Sy (some z) (some y)) : ∀ j, Sy (upd T k z j) (upd R k y j) := fun j => by
  by_cases e : j = k
  · subst e; rw [upd_at, upd_at]; exact hk
  · rw [upd_ne T z e, upd_ne R y e]; exact h j
abbrev mos (s : Nat) : Int := (((s - 2) / 2 : Nat) : Int)
def PS (w0 w : World) (q p s n g bx : Nat) : Prop := ∃ X T R B, PG X w0 w q p s n g bx (mos s) T R B B ∧ ∀ j, Sy (T j) (R j)
theorem PG.tv' {mo : Int} (h : PG X w0 w q p s n g bx mo T R B C) (hk : k < 3) (hz : T k = some z) : w.cell? ⟨bx, 2 + k, none⟩ = some (pt z.x) := by rw [h.tv hk, hz]; rfl
theorem PG.rv' {mo : Int} (h : PG X w0 w q p s n g bx mo T R B C) (hk : k < 3) (hz : R k = some z) : w.cell? ⟨bx, 5 + k, none⟩ = some (pt z.x) := by rw [h.rv hk, hz]; rfl
set_option maxRecDepth 100000 in
set_option maxHeartbeats 1000000 in
theorem ends_over (h : PG X w0 w q p s n g bx (mos s) T R B B) (hs : ∀ j, Sy (T j) (R j)) (hk : k < 3) (hz : T k = some z) (hy : R k = some y) (ho : z.o = true) : Calls Tryz.prog 25 #[pt bx, .int .i64 (k : Int)] w fun e w' => e = .returned (.bool true) ∧ PS w0 w' q p s n g bx := by
  obtain ⟨s1, s2⟩ : y.o = z.o ∧ z.W = if z.o then [] else y.W := by have := hs k; rw [hz, hy] at this; exact this
  rw [ho] at s1 s2
  rw [if_pos rfl] at s2
  have q1 := h.rdirty hy
  rw [s1, if_pos rfl] at q1
  have q2 : Hid (∀ w', PG X w0 w' q p s n g bx (mos s) T R B B → Calls Tryz.prog 17 #[pt z.x] w' fun e w2 => e = .returned (.int .i64 8) ∧ PG X w0 w2 q p s n g bx (mos s) T R B B) := ⟨fun w' h' => by
    have := h'.tcommit hz (fun _ => s2)
    have e1 : (⟨z.x, z.i, [], true⟩ : Sl) = z := by cases z; simp only at ho s2; subst ho s2; rfl
    unfold cc cb at this
    rw [ho, if_pos rfl, if_pos rfl, e1, upd_self hz] at this
    exact this⟩
  have q3 : Hid (∀ w', PG X w0 w' q p s n g bx (mos s) T R B B → Calls Tryz.prog 37 #[pt y.x] w' fun e w2 => e = .returned (.int .i64 8) ∧ PG X w0 w2 q p s n g bx (mos s) T R B B) := ⟨fun w' h' => by
    have := h'.rcommit hy
    have e1 : (⟨y.x, y.i, y.W, true⟩ : Sl) = y := by cases y; simp only at s1; subst s1; rfl
    rw [s1, if_pos rfl, if_pos rfl, e1, upd_self hy] at this
    exact this⟩
  have HS : Hid (∀ j, Sy (T j) (R j)) := ⟨hs⟩
  have H : Hid (PG X w0 w q p s n g bx (mos s) T R B B) := ⟨h⟩
  have HT : Hid (T k = some z) := ⟨hz⟩
  have HR : Hid (R k = some y) := ⟨hy⟩
  have c5 := h.rv' hk hy
  have hki : (k : Int) < 3 := by omega
  clear h hs hz hy s1 s2 ho
  go_enter Tryz.func25, Tryz.ntmps25
  go_wp2_with fail
  refine q1.mono ?_
  rintro e w1 ⟨rfl, m1, rfl⟩
  have c2 := (H.out.drewN m1).tv' hk HT.out
  have Q2 := q2.out _ (H.out.drewN m1)
  dsimp only
  clear c5 q1 q2
  go_wp2_with fail
  refine Q2.mono ?_
  rintro e w2 ⟨rfl, h2⟩
  have c5 := h2.rv' hk HR.out
  have Q3 := q3.out _ h2
  dsimp only
  clear Q2 q3 c2 h2
  go_wp2_with fail
  refine Q3.mono ?_
  rintro e w3 ⟨rfl, h3⟩
  have H3 : Hid (PS w0 w3 q p s n g bx) := ⟨⟨X, T, R, B, h3, HS.out⟩⟩
  dsimp only
  clear Q3 h3
  go_wp2
  go_ret
  exact ⟨rfl, H3.out⟩
theorem fits_most {s N : Nat} (h4 : 4 ≤ s) (h : fitsB s N = false) : (s - 2) / 2 < N := by
  unfold fitsB at h
  have := of_decide_eq_false h
  omega
set_option maxRecDepth 100000 in
set_option maxHeartbeats 1000000 in
theorem ends_fit (h : PG X w0 w q p s n g bx (mos s) T R B B) (hs : ∀ j, Sy (T j) (R j)) (hk : k < 3) (hz : T k = some z) (hy : R k = some y) (ho : z.o = false) (hf : z.W = [] ∨ fitsB s z.W.length = true) : Calls Tryz.prog 25 #[pt bx, .int .i64 (k : Int)] w fun e w' => e = .returned (.bool true) ∧ PS w0 w' q p s n g bx := by
  obtain ⟨s1, s2⟩ : y.o = z.o ∧ z.W = if z.o then [] else y.W := by have := hs k; rw [hz, hy] at this; exact this
  rw [ho] at s1 s2
  rw [if_neg Bool.false_ne_true] at s2
  obtain ⟨N, hN⟩ : ∃ N : Int, (if y.o then 0 else (y.W.length : Int)) = N := ⟨_, rfl⟩
  have q1 := h.rdirty hy
  rw [hN] at q1
  have q2 : Hid (∀ w', PG X w0 w' q p s n g bx (mos s) T R B B → Calls Tryz.prog 17 #[pt z.x] w' fun e w2 => e = .returned (.int .i64 0) ∧ PG X w0 w2 q p s n g bx (mos s) (upd T k ⟨z.x, z.i, [], true⟩) R (lay B z.W) B) := ⟨fun w' h' => by
    have := h'.tcommit hz (fun e => by rw [ho] at e; cases e)
    unfold cc cb at this
    rw [ho, if_neg Bool.false_ne_true, if_neg Bool.false_ne_true, if_pos hf, if_pos hf] at this
    exact this⟩
  have q3 : Hid (∀ w', PG X w0 w' q p s n g bx (mos s) (upd T k ⟨z.x, z.i, [], true⟩) R (lay B z.W) B → Calls Tryz.prog 37 #[pt y.x] w' fun e w2 => e = .returned (.int .i64 0) ∧ PS w0 w2 q p s n g bx) := ⟨fun w' h' => by
    have := h'.rcommit hy
    rw [s1, if_neg Bool.false_ne_true, if_neg Bool.false_ne_true, ← s2] at this
    refine this.mono ?_
    rintro e w2 ⟨rfl, h2⟩
    exact ⟨rfl, _, _, _, _, h2, sy_upd hs k ⟨rfl, rfl⟩⟩⟩
  have H : Hid (PG X w0 w q p s n g bx (mos s) T R B B) := ⟨h⟩
  have HT : Hid (T k = some z) := ⟨hz⟩
  have HR : Hid (R k = some y) := ⟨hy⟩
  have c5 := h.rv' hk hy
  have hki : (k : Int) < 3 := by omega
  clear h hs hz hy s1 s2 ho hf hN
  go_enter Tryz.func25, Tryz.ntmps25
  go_wp2_with fail
  refine q1.mono ?_
  rintro e w1 ⟨rfl, m1, rfl⟩
  have c2 := (H.out.drewN m1).tv' hk HT.out
  have Q2 := q2.out _ (H.out.drewN m1)
  dsimp only
  clear c5 q1 q2
  go_wp2_with fail
  refine Q2.mono ?_
  rintro e w2 ⟨rfl, h2⟩
  have c5 := h2.rv' hk HR.out
  have Q3 := q3.out _ h2
  dsimp only
  clear Q2 q3 c2 h2
  go_wp2_with fail
  refine Q3.mono ?_
  rintro e w3 ⟨rfl, h3⟩
  have H3 : Hid (PS w0 w3 q p s n g bx) := ⟨h3⟩
  dsimp only
  clear Q3 h3
  go_wp2
  go_ret
  exact ⟨rfl, H3.out⟩
set_option maxRecDepth 100000 in
set_option maxHeartbeats 1000000 in
theorem ends_full (h : PG X w0 w q p s n g bx (mos s) T R B B) (hs : ∀ j, Sy (T j) (R j)) (hk : k < 3) (hz : T k = some z) (hy : R k = some y) (ho : z.o = false) (hf : ¬ (z.W = [] ∨ fitsB s z.W.length = true)) : Calls Tryz.prog 25 #[pt bx, .int .i64 (k : Int)] w fun e w' => e = .returned (.bool true) ∧ PS w0 w' q p s n g bx := by
  obtain ⟨s1, s2⟩ : y.o = z.o ∧ z.W = if z.o then [] else y.W := by have := hs k; rw [hz, hy] at this; exact this
  rw [ho] at s1 s2
  rw [if_neg Bool.false_ne_true] at s2
  have h4 : 4 ≤ s := by obtain ⟨_, _, _, F, _⟩ := h; exact F.2.2.1
  have hmo : mos s < (y.W.length : Int) := by
    have := fits_most h4 (N := z.W.length) (by cases e : fitsB s z.W.length; rfl; exact absurd (.inr e) hf)
    rw [s2] at this
    unfold mos; omega
  have q1 := h.rdirty hy
  rw [s1, if_neg Bool.false_ne_true] at q1
  obtain ⟨MO, hMO⟩ : ∃ MO, mos s = MO := ⟨_, rfl⟩
  have q2 : Hid (∀ w', PG X w0 w' q p s n g bx (mos s) T R B B → Calls Tryz.prog 17 #[pt z.x] w' fun e w2 => e = .returned (.int .i64 41) ∧ PG X w0 w2 q p s n g bx (mos s) (upd T k ⟨z.x, z.i, [], true⟩) R B B) := ⟨fun w' h' => by
    have := h'.tcommit hz (fun e => by rw [ho] at e; cases e)
    unfold cc cb at this
    rw [ho, if_neg Bool.false_ne_true, if_neg Bool.false_ne_true, if_neg hf, if_neg hf] at this
    exact this⟩
  have q3 : Hid (∀ w', PG X w0 w' q p s n g bx (mos s) (upd T k ⟨z.x, z.i, [], true⟩) R B B → Calls Tryz.prog 27 #[pt y.x] w' fun e w2 => e = .returned (.tuple #[]) ∧ PS w0 w2 q p s n g bx) := ⟨fun w' h' => by
    refine (h'.rabort hy).mono ?_
    rintro e w2 ⟨rfl, h2⟩
    exact ⟨rfl, _, _, _, _, h2, sy_upd hs k ⟨rfl, rfl⟩⟩⟩
  have H : Hid (PG X w0 w q p s n g bx (mos s) T R B B) := ⟨h⟩
  have HT : Hid (T k = some z) := ⟨hz⟩
  have HR : Hid (R k = some y) := ⟨hy⟩
  have c5 := h.rv' hk hy
  have hki : (k : Int) < 3 := by omega
  have c8 : Hid (∀ {w'} {T' : Sf} {B' : List ByteArray}, PG X w0 w' q p s n g bx (mos s) T' R B' B → w'.cell? ⟨bx, 8, none⟩ = some (.int .i64 MO)) := ⟨fun h' => by rw [h'.cell]; unfold bvs; rw [hMO]; rfl⟩
  rw [hMO] at hmo
  clear h hs hz hy s1 s2 ho hf hMO h4
  go_enter Tryz.func25, Tryz.ntmps25
  go_wp2_with fail
  refine q1.mono ?_
  rintro e w1 ⟨rfl, m1, rfl⟩
  have c2 := (H.out.drewN m1).tv' hk HT.out
  have Q2 := q2.out _ (H.out.drewN m1)
  dsimp only
  clear c5 q1 q2
  go_wp2_with fail
  refine Q2.mono ?_
  rintro e w2 ⟨rfl, h2⟩
  have c5 := h2.rv' hk HR.out
  have c88 := c8.out h2
  have Q3 := q3.out _ h2
  dsimp only
  clear Q2 q3 c2 h2 c8
  go_wp2_with fail
  refine Q3.mono ?_
  rintro e w3 ⟨rfl, h3⟩
  have H3 : Hid (PS w0 w3 q p s n g bx) := ⟨h3⟩
  dsimp only
  clear Q3 h3
  go_wp2
  go_ret
  exact ⟨rfl, H3.out⟩
theorem ends_any (h : PG X w0 w q p s n g bx (mos s) T R B B) (hs : ∀ j, Sy (T j) (R j)) (hk : k < 3) (hz : T k = some z) (hy : R k = some y) : Calls Tryz.prog 25 #[pt bx, .int .i64 (k : Int)] w fun e w' => e = .returned (.bool true) ∧ PS w0 w' q p s n g bx := by
  cases ho : z.o with
  | true => exact ends_over h hs hk hz hy ho
  | false =>
    by_cases hf : z.W = [] ∨ fitsB s z.W.length = true
    · exact ends_fit h hs hk hz hy ho hf
    · exact ends_full h hs hk hz hy ho hf
end Go.Proofs.YtlgpodcoiioefaaGreat

/- TxnPlays: a step. -/
namespace Go.Proofs.YtlgpodcoiioefaaGreat
set_option linter.unusedVariables false
set_option linter.unusedSimpArgs false
open Go.RowKit Go.Maps
variable {X : Th → Prop} {q g bx m p s n : Nat} {T R : Sf} {B C : List ByteArray} {k : Nat} {z y : Sl} {w0 w w' : World}
abbrev ov (kd tt N : Int) (t : ByteArray) : Array Value := #[.int .i64 kd, .int .i64 tt, .int .i64 N, .string t]
theorem x3 (z : Int) : ∃ k : Nat, k < 3 ∧ wrap64 ((IntKind.u64.wrap z).tmod 3) = (k : Int) := by
  have h0 : 0 ≤ IntKind.u64.wrap z := by rw [IntKind.wrap_u64]; omega
  have e1 : (IntKind.u64.wrap z).tmod 3 = (IntKind.u64.wrap z) % 3 := Int.tmod_eq_emod_of_nonneg h0
  rw [e1]
  have h1 : 0 ≤ IntKind.u64.wrap z % 3 := by omega
  have h2 : IntKind.u64.wrap z % 3 < 3 := by omega
  obtain ⟨k, hk⟩ := Int.eq_ofNat_of_zero_le h1
  refine ⟨k, by omega, ?_⟩
  rw [hk]; unfold wrap64; omega
theorem PG.c0 {mo : Int} (h : PG X w0 w q p s n g bx mo T R B C) : w.cell? ⟨bx, 0, none⟩ = some (pt q) := h.cell 0
theorem PG.c1 {mo : Int} (h : PG X w0 w q p s n g bx mo T R B C) : w.cell? ⟨bx, 1, none⟩ = some (pt g) := h.cell 1
set_option maxRecDepth 100000 in
set_option maxHeartbeats 1000000 in
theorem plays_begin (h : PG X w0 w q p s n g bx (mos s) T R B B) (hs : ∀ j, Sy (T j) (R j)) (tt N : Int) (t : ByteArray) : Calls Tryz.prog 8 #[pt bx, .agg (ov 1 tt N t)] w fun e w' => e = .returned (.bool true) ∧ PS w0 w' q p s n g bx := by
  have H1 : Hid (PG (ob w.heap.size (ov 1 tt N t) 40) w0 (w.alloc (.cells (ov 1 tt N t) 40)) q p s n g bx (mos s) T R B B) := ⟨h.box _ _⟩
  have HS : Hid (∀ j, Sy (T j) (R j)) := ⟨hs⟩
  obtain ⟨k, hk, ek⟩ := x3 tt
  have EK : Hid (wrap64 ((IntKind.u64.wrap tt).tmod 3) = (k : Int)) := ⟨ek⟩
  have hki : (k : Int) < 3 := by omega
  clear h hs ek
  go_enter Tryz.func8, Tryz.ntmps8
  go_wp2_with fail
  simp only [EK.out]
  clear EK
  have E2 := H1.out.drew
  have S2 := E2.c0
  clear H1
  go_region_held3 (fun w' => w'.cell? ⟨bx, 0, none⟩ = some (pt q)) (first | exact S2 | exact h3.c0 | exact h4.c0 | assumption)
    ((go_at_call 13; refine (PG.tbegin (k := k) (by assumption) hk).mono ?_; rintro e w3 ⟨x, rfl, h3, i3, h4⟩; have c3 := h3.tv hk; have f3 := h3.froz (2 + k)))
  have H4 : Hid (PG (ob w.heap.size (ov 1 tt N t) 40) w0 (w3.setCell ⟨bx, 2 + k, none⟩ (pt x)) q p s n g bx (mos s) (upd T k ⟨x, i3, [], false⟩) R B B) := ⟨h4⟩
  clear h3 h4 c3 f3 S2 E2
  go_wp2_with fail
  have E5 := H4.out.drew
  have S5 := E5.c1
  clear H4
  go_region_held3 (fun w' => w'.cell? ⟨bx, 1, none⟩ = some (pt g)) (first | exact S5 | exact h6.c1 | exact h7.c1 | assumption)
    ((go_at_call 22; refine (PG.rbegin (k := k) (by assumption) hk).mono ?_; rintro e w6 ⟨y, rfl, h6, i6, h7⟩; have c6 := h6.rv hk; have f6 := h6.froz (5 + k)))
  have H7 : Hid (PS w0 (w6.setCell ⟨bx, 5 + k, none⟩ (pt y)) q p s n g bx) := ⟨⟨_, _, _, _, h7, sy_upd HS.out k ⟨rfl, rfl⟩⟩⟩
  have c7 := h7.tv' hk (upd_at T k ⟨x, i3, [], false⟩)
  clear h6 h7 c6 f6 S5 E5 HS
  go_wp2
  go_ret
  exact ⟨rfl, H7.out⟩
end Go.Proofs.YtlgpodcoiioefaaGreat

/- TxnPlays: the log is asked. -/
namespace Go.Proofs.YtlgpodcoiioefaaGreat
set_option linter.unusedVariables false
set_option linter.unusedSimpArgs false
open Go.RowKit Go.Maps
variable {X : Th → Prop} {q g bx m p s n : Nat} {T R : Sf} {B C : List ByteArray} {k : Nat} {z y : Sl} {w0 w w' : World}
theorem PG.n2 {mo : Int} {b : Nat} {kd tt N : Int} {t : ByteArray} {ty : TypeId} (h : PG (ob b (ov kd tt N t) ty) w0 w q p s n g bx mo T R B C) : w.cell? ⟨b, 2, none⟩ = some (.int .i64 N) := h.atBox 2
theorem PG.n3 {mo : Int} {b : Nat} {kd tt N : Int} {t : ByteArray} {ty : TypeId} (h : PG (ob b (ov kd tt N t) ty) w0 w q p s n g bx mo T R B C) : w.cell? ⟨b, 3, none⟩ = some (.string t) := h.atBox 3
theorem PG.n0 {mo : Int} {b : Nat} {kd tt N : Int} {t : ByteArray} {ty : TypeId} (h : PG (ob b (ov kd tt N t) ty) w0 w q p s n g bx mo T R B C) : w.cell? ⟨b, 0, none⟩ = some (.int .i64 kd) := h.atBox 0
set_option maxRecDepth 100000 in
set_option maxHeartbeats 1000000 in
theorem plays_log (h : PG X w0 w q p s n g bx (mos s) T R B B) (hs : ∀ j, Sy (T j) (R j)) (tt N : Int) (t : ByteArray) : Calls Tryz.prog 8 #[pt bx, .agg (ov 6 tt N t)] w fun e w' => e = .returned (.bool true) ∧ PS w0 w' q p s n g bx := by
  have H1 : Hid (PG (ob w.heap.size (ov 6 tt N t) 40) w0 (w.alloc (.cells (ov 6 tt N t) 40)) q p s n g bx (mos s) T R B B) := ⟨h.box _ _⟩
  have HS : Hid (∀ j, Sy (T j) (R j)) := ⟨hs⟩
  obtain ⟨k, hk, ek⟩ := x3 tt
  have EK : Hid (wrap64 ((IntKind.u64.wrap tt).tmod 3) = (k : Int)) := ⟨ek⟩
  have hki : (k : Int) < 3 := by omega
  have hBn : B.length ≤ 8192 := by
    have := h.nle
    obtain ⟨_, _, _, _, _, l⟩ := h
    omega
  have qL : Hid (∀ {w'}, PG (ob w.heap.size (ov 6 tt N t) 40) w0 w' q p s n g bx (mos s) T R B B → Calls Tryz.prog 12 #[pt q, .int .i64 N] w' fun e w2 => e = .returned (lrV B N) ∧ PG (ob w.heap.size (ov 6 tt N t) 40) w0 w2 q p s n g bx (mos s) T R B B) := ⟨fun h' => h'.lread N⟩
  clear h hs ek
  by_cases hv : 0 ≤ N ∧ N < B.length
  · unfold lrV at qL
    rw [if_pos hv] at qL
    obtain ⟨M, rfl⟩ := Int.eq_ofNat_of_zero_le hv.1
    have hM : M < B.length := by have := hv.2; omega
    obtain ⟨V, hV⟩ : ∃ V, B[M]? = some V := ⟨_, List.getElem?_eq_getElem hM⟩
    have eV : B.getD ((M : Int)).toNat ByteArray.empty = V := by rw [Int.toNat_natCast, List.getD_eq_getElem?_getD, hV]; rfl
    rw [eV] at qL
    have h0 : ¬ ((M : Int) < 0) := by omega
    have h1 : ¬ ((B.length : Int) ≤ (M : Int)) := by omega
    have h2 : (M : Int) < B.length := by omega
    have HV : Hid (B[M]? = some V) := ⟨hV⟩
    clear hv eV hV hM
    go_enter Tryz.func8, Tryz.ntmps8
    go_wp2_with fail
    simp only [EK.out]
    clear EK
    have E2 := H1.out.drew
    have S2 := And.intro E2.c0 E2.n2
    clear H1
    go_region_held3 (fun w' => w'.cell? ⟨bx, 0, none⟩ = some (pt q) ∧ w'.cell? ⟨w.heap.size, 2, none⟩ = some (.int .i64 (M : Int))) (first | exact S2 | exact And.intro h3.c0 h3.n2 | assumption)
      ((go_at_call 12; refine (qL.out (by assumption)).mono ?_; rintro e w3 ⟨rfl, h3⟩))
    obtain ⟨la, lc, cg, si⟩ := h3.gl
    obtain ⟨gb, off, rfl, cv⟩ := si M V HV.out
    have c1 := h3.c1
    have c2 := h3.n2
    have HD : Hid (∀ k l, PS w0 ((w3.drewN k).drewN l) q p s n g bx) := ⟨fun k l => ⟨_, _, _, _, (h3.drewN k).drewN l, HS.out⟩⟩
    clear h3 S2 E2 HS qL HV si
    have h00 : ¬ ((M : Int) < 0) := by omega
    have h11 : ¬ ((B.length : Int) ≤ (M : Int)) := by omega
    go_wp2_with fail
    go_quiet (fail)
    go_wp2_with fail
    go_quiet (fail)
    go_wp2
    go_ret
    exact ⟨rfl, HD.out _ _⟩
  · unfold lrV at qL
    rw [if_neg hv] at qL
    have hcase : N < 0 ∨ (¬ N < 0 ∧ (B.length : Int) ≤ N) := by omega
    rcases hcase with h0 | ⟨h0, h1⟩
    · clear hv
      go_enter Tryz.func8, Tryz.ntmps8
      go_wp2_with fail
      simp only [EK.out]
      clear EK
      have E2 := H1.out.drew
      have S2 := And.intro E2.c0 E2.n2
      clear H1
      go_region_held3 (fun w' => w'.cell? ⟨bx, 0, none⟩ = some (pt q) ∧ w'.cell? ⟨w.heap.size, 2, none⟩ = some (.int .i64 N)) (first | exact S2 | exact And.intro h3.c0 h3.n2 | assumption)
        ((go_at_call 12; refine (qL.out (by assumption)).mono ?_; rintro e w3 ⟨rfl, h3⟩))
      obtain ⟨la, lc, cg, si⟩ := h3.gl
      have c1 := h3.c1
      have c2 := h3.n2
      have HD : Hid (∀ k l, PS w0 ((w3.drewN k).drewN l) q p s n g bx) := ⟨fun k l => ⟨_, _, _, _, (h3.drewN k).drewN l, HS.out⟩⟩
      clear h3 S2 E2 HS qL si
      have h00 : N < 0 := by omega
      go_wp2_with fail
      go_quiet (fail)
      go_wp2
      go_ret
      exact ⟨rfl, HD.out _ 0⟩
    · clear hv
      go_enter Tryz.func8, Tryz.ntmps8
      go_wp2_with fail
      simp only [EK.out]
      clear EK
      have E2 := H1.out.drew
      have S2 := And.intro E2.c0 E2.n2
      clear H1
      go_region_held3 (fun w' => w'.cell? ⟨bx, 0, none⟩ = some (pt q) ∧ w'.cell? ⟨w.heap.size, 2, none⟩ = some (.int .i64 N)) (first | exact S2 | exact And.intro h3.c0 h3.n2 | assumption)
        ((go_at_call 12; refine (qL.out (by assumption)).mono ?_; rintro e w3 ⟨rfl, h3⟩))
      obtain ⟨la, lc, cg, si⟩ := h3.gl
      have c1 := h3.c1
      have c2 := h3.n2
      have HD : Hid (∀ k l, PS w0 ((w3.drewN k).drewN l) q p s n g bx) := ⟨fun k l => ⟨_, _, _, _, (h3.drewN k).drewN l, HS.out⟩⟩
      clear h3 S2 E2 HS qL si
      have h00 : ¬ (N < 0) := by omega
      have h11 : (B.length : Int) ≤ N := by omega
      go_wp2_with fail
      go_quiet (fail)
      go_wp2
      go_ret
      exact ⟨rfl, HD.out _ 0⟩
end Go.Proofs.YtlgpodcoiioefaaGreat

/- TxnPlays: a Read; steps that do nothing. -/
namespace Go.Proofs.YtlgpodcoiioefaaGreat
set_option linter.unusedVariables false
set_option linter.unusedSimpArgs false
open Go.RowKit Go.Maps
variable {X : Th → Prop} {q g bx m p s n : Nat} {T R : Sf} {B C : List ByteArray} {k : Nat} {z y : Sl} {w0 w w' : World}
set_option maxRecDepth 100000 in
set_option maxHeartbeats 1000000 in
theorem plays_nil (h : PG X w0 w q p s n g bx (mos s) T R B B) (hs : ∀ j, Sy (T j) (R j)) (kd tt N : Int) (t : ByteArray) (h1 : ¬ (kd = 1)) (h6 : ¬ (kd = 6)) (hk : k < 3) (ek : wrap64 ((IntKind.u64.wrap tt).tmod 3) = (k : Int)) (hz : T k = none) : Calls Tryz.prog 8 #[pt bx, .agg (ov kd tt N t)] w fun e w' => e = .returned (.bool true) ∧ PS w0 w' q p s n g bx := by
  have H1 := h.box (ov kd tt N t) 40
  have HD : Hid (∀ k, PS w0 ((w.alloc (.cells (ov kd tt N t) 40)).drewN k) q p s n g bx) := ⟨fun k => ⟨_, _, _, _, H1.drewN k, hs⟩⟩
  have hki : (k : Int) < 3 := by omega
  have c2 : (w.alloc (.cells (ov kd tt N t) 40)).cell? ⟨bx, 2 + k, none⟩ = some (.pointer none) := by rw [H1.tv hk, hz]; rfl
  clear h hs H1 hz
  go_enter Tryz.func8, Tryz.ntmps8
  go_wp2
  go_ret
  exact ⟨rfl, HD.out 0⟩
set_option maxRecDepth 100000 in
set_option maxHeartbeats 1000000 in
theorem plays_other (h : PG X w0 w q p s n g bx (mos s) T R B B) (hs : ∀ j, Sy (T j) (R j)) (kd tt N : Int) (t : ByteArray) (h1 : ¬ (kd = 1)) (h6 : ¬ (kd = 6)) (h2 : ¬ (kd = 2)) (h3 : ¬ (kd = 3)) (h4 : ¬ (kd = 4)) (h5 : ¬ (kd = 5)) (hk : k < 3) (ek : wrap64 ((IntKind.u64.wrap tt).tmod 3) = (k : Int)) (hz : T k = some z) : Calls Tryz.prog 8 #[pt bx, .agg (ov kd tt N t)] w fun e w' => e = .returned (.bool true) ∧ PS w0 w' q p s n g bx := by
  have H1 := h.box (ov kd tt N t) 40
  have HD : Hid (∀ k, PS w0 ((w.alloc (.cells (ov kd tt N t) 40)).drewN k) q p s n g bx) := ⟨fun k => ⟨_, _, _, _, H1.drewN k, hs⟩⟩
  have hki : (k : Int) < 3 := by omega
  have c2 := H1.tv' hk hz
  clear h hs H1 hz
  go_enter Tryz.func8, Tryz.ntmps8
  go_wp2
  go_ret
  exact ⟨rfl, HD.out 0⟩
theorem trV_cases (z : Sl) (B : List ByteArray) (N : Int) : (∃ V er, ¬ (er = (1 : Int)) ∧ trV z B N = .tuple #[.string V, .int .i64 er]) ∨ (trV z B N = .tuple #[.string ⟨#[]⟩, .int .i64 1] ∧ lrV B N = .tuple #[.string ⟨#[]⟩, .int .i64 1]) := by
  unfold trV rdV lrV
  split
  · exact .inl ⟨_, _, by decide, rfl⟩
  · split
    · exact .inl ⟨_, _, by decide, rfl⟩
    · split
      · exact .inl ⟨_, _, by decide, rfl⟩
      · exact .inr ⟨rfl, rfl⟩
theorem trV_sy (h : Sy (some z) (some y)) (B : List ByteArray) (N : Int) : trV y B N = trV z B N := by
  obtain ⟨h1, h2⟩ := h
  unfold trV
  rw [h1]
  cases e : z.o with
  | true => rfl
  | false => rw [h2, e]; rfl
set_option maxRecDepth 100000 in
set_option maxHeartbeats 1000000 in
theorem plays_read1 (h : PG X w0 w q p s n g bx (mos s) T R B B) (hs : ∀ j, Sy (T j) (R j)) (tt N : Int) (hN : -9223372036854775808 ≤ N ∧ N ≤ 9223372036854775807) (t : ByteArray) (hk : k < 3) (ek : wrap64 ((IntKind.u64.wrap tt).tmod 3) = (k : Int)) (hz : T k = some z) (hy : R k = some y) (V : ByteArray) (er : Int) (her : ¬ (er = (1 : Int))) (hV : trV z B N = .tuple #[.string V, .int .i64 er]) : Calls Tryz.prog 8 #[pt bx, .agg (ov 2 tt N t)] w fun e w' => e = .returned (.bool true) ∧ PS w0 w' q p s n g bx := by
  have H1 : Hid (PG (ob w.heap.size (ov 2 tt N t) 40) w0 (w.alloc (.cells (ov 2 tt N t) 40)) q p s n g bx (mos s) T R B B) := ⟨h.box _ _⟩
  have HS : Hid (∀ j, Sy (T j) (R j)) := ⟨hs⟩
  have hki : (k : Int) < 3 := by omega
  have HT : Hid (T k = some z) := ⟨hz⟩
  have HR : Hid (R k = some y) := ⟨hy⟩
  have q1 : Hid (∀ {w'}, PG (ob w.heap.size (ov 2 tt N t) 40) w0 w' q p s n g bx (mos s) T R B B → Calls Tryz.prog 16 #[pt z.x, .int .i64 N] w' fun e w2 => e = .returned (.tuple #[.string V, .int .i64 er]) ∧ PG (ob w.heap.size (ov 2 tt N t) 40) w0 w2 q p s n g bx (mos s) T R B B) := ⟨fun h' => by rw [← hV]; exact h'.tread hz N hN⟩
  have q2 : Hid (∀ {w'}, PG (ob w.heap.size (ov 2 tt N t) 40) w0 w' q p s n g bx (mos s) T R B B → Calls Tryz.prog 23 #[pt y.x, .int .i64 N] w' fun e w2 => e = .returned (.tuple #[.string V, .int .i64 er]) ∧ PG (ob w.heap.size (ov 2 tt N t) 40) w0 w2 q p s n g bx (mos s) T R B B) := ⟨fun h' => by
    have := h'.rread hy N
    rw [trV_sy (by have := hs k; rw [hz, hy] at this; exact this), hV] at this
    exact this⟩
  have c2 := H1.out.tv' hk hz
  clear h hs hz hy hV hN
  go_enter Tryz.func8, Tryz.ntmps8
  go_wp2_with fail
  have E2 := H1.out.drew
  have S2 := And.intro (E2.tv' hk HT.out) E2.n2
  clear H1 c2
  go_region_held3 (fun w' => w'.cell? ⟨bx, 2 + k, none⟩ = some (pt z.x) ∧ w'.cell? ⟨w.heap.size, 2, none⟩ = some (.int .i64 N)) (first | exact S2 | exact And.intro (h3.tv' hk HT.out) h3.n2 | assumption)
    ((go_at_call 16; refine (q1.out (by assumption)).mono ?_; rintro e w3 ⟨rfl, h3⟩))
  have H3 : Hid (PG (ob w.heap.size (ov 2 tt N t) 40) w0 w3 q p s n g bx (mos s) T R B B) := ⟨h3⟩
  clear h3 S2 E2 q1
  go_wp2_with fail
  have E2 := H3.out.drew
  have S2 := And.intro (E2.rv' hk HR.out) E2.n2
  clear H3
  go_region_held3 (fun w' => w'.cell? ⟨bx, 5 + k, none⟩ = some (pt y.x) ∧ w'.cell? ⟨w.heap.size, 2, none⟩ = some (.int .i64 N)) (first | exact S2 | exact And.intro (h5.rv' hk HR.out) h5.n2 | assumption)
    ((go_at_call 23; refine (q2.out (by assumption)).mono ?_; rintro e w5 ⟨rfl, h5⟩))
  have H5 : Hid (PS w0 w5 q p s n g bx) := ⟨⟨_, _, _, _, h5, HS.out⟩⟩
  clear h5 S2 E2 q2
  go_wp2
  go_ret
  exact ⟨rfl, H5.out⟩
end Go.Proofs.YtlgpodcoiioefaaGreat

/- TxnPlays: a Read out of the log's blocks, Write, Commit, Abort. -/
namespace Go.Proofs.YtlgpodcoiioefaaGreat
set_option linter.unusedVariables false
set_option linter.unusedSimpArgs false
open Go.RowKit Go.Maps
variable {X : Th → Prop} {q g bx m p s n : Nat} {T R : Sf} {B C : List ByteArray} {k : Nat} {z y : Sl} {w0 w w' : World}
set_option maxRecDepth 100000 in
set_option maxHeartbeats 1000000 in
theorem plays_read2 (h : PG X w0 w q p s n g bx (mos s) T R B B) (hs : ∀ j, Sy (T j) (R j)) (tt N : Int) (hN : -9223372036854775808 ≤ N ∧ N ≤ 9223372036854775807) (t : ByteArray) (hk : k < 3) (ek : wrap64 ((IntKind.u64.wrap tt).tmod 3) = (k : Int)) (hz : T k = some z) (hy : R k = some y) (hV : trV z B N = .tuple #[.string ⟨#[]⟩, .int .i64 1]) (hL : lrV B N = .tuple #[.string ⟨#[]⟩, .int .i64 1]) : Calls Tryz.prog 8 #[pt bx, .agg (ov 2 tt N t)] w fun e w' => e = .returned (.bool true) ∧ PS w0 w' q p s n g bx := by
  have H1 : Hid (PG (ob w.heap.size (ov 2 tt N t) 40) w0 (w.alloc (.cells (ov 2 tt N t) 40)) q p s n g bx (mos s) T R B B) := ⟨h.box _ _⟩
  have HS : Hid (∀ j, Sy (T j) (R j)) := ⟨hs⟩
  have hki : (k : Int) < 3 := by omega
  have HT : Hid (T k = some z) := ⟨hz⟩
  have HR : Hid (R k = some y) := ⟨hy⟩
  have q1 : Hid (∀ {w'}, PG (ob w.heap.size (ov 2 tt N t) 40) w0 w' q p s n g bx (mos s) T R B B → Calls Tryz.prog 16 #[pt z.x, .int .i64 N] w' fun e w2 => e = .returned (.tuple #[.string ⟨#[]⟩, .int .i64 1]) ∧ PG (ob w.heap.size (ov 2 tt N t) 40) w0 w2 q p s n g bx (mos s) T R B B) := ⟨fun h' => by rw [← hV]; exact h'.tread hz N hN⟩
  have q2 : Hid (∀ {w'}, PG (ob w.heap.size (ov 2 tt N t) 40) w0 w' q p s n g bx (mos s) T R B B → Calls Tryz.prog 23 #[pt y.x, .int .i64 N] w' fun e w2 => e = .returned (.tuple #[.string ⟨#[]⟩, .int .i64 1]) ∧ PG (ob w.heap.size (ov 2 tt N t) 40) w0 w2 q p s n g bx (mos s) T R B B) := ⟨fun h' => by
    have := h'.rread hy N
    rw [trV_sy (by have := hs k; rw [hz, hy] at this; exact this), hV] at this
    exact this⟩
  have q3 : Hid (∀ {w'}, PG (ob w.heap.size (ov 2 tt N t) 40) w0 w' q p s n g bx (mos s) T R B B → Calls Tryz.prog 12 #[pt q, .int .i64 N] w' fun e w2 => e = .returned (.tuple #[.string ⟨#[]⟩, .int .i64 1]) ∧ PG (ob w.heap.size (ov 2 tt N t) 40) w0 w2 q p s n g bx (mos s) T R B B) := ⟨fun h' => by rw [← hL]; exact h'.lread N⟩
  have c2 := H1.out.tv' hk hz
  clear h hs hz hy hV hN hL
  go_enter Tryz.func8, Tryz.ntmps8
  go_wp2_with fail
  have E2 := H1.out.drew
  have S2 := And.intro (E2.tv' hk HT.out) E2.n2
  clear H1 c2
  go_region_held3 (fun w' => w'.cell? ⟨bx, 2 + k, none⟩ = some (pt z.x) ∧ w'.cell? ⟨w.heap.size, 2, none⟩ = some (.int .i64 N)) (first | exact S2 | exact And.intro (h3.tv' hk HT.out) h3.n2 | assumption)
    ((go_at_call 16; refine (q1.out (by assumption)).mono ?_; rintro e w3 ⟨rfl, h3⟩))
  have H3 : Hid (PG (ob w.heap.size (ov 2 tt N t) 40) w0 w3 q p s n g bx (mos s) T R B B) := ⟨h3⟩
  clear h3 S2 E2 q1
  go_wp2_with fail
  have E2 := H3.out.drew
  have S2 := And.intro (E2.rv' hk HR.out) E2.n2
  clear H3
  go_region_held3 (fun w' => w'.cell? ⟨bx, 5 + k, none⟩ = some (pt y.x) ∧ w'.cell? ⟨w.heap.size, 2, none⟩ = some (.int .i64 N)) (first | exact S2 | exact And.intro (h5.rv' hk HR.out) h5.n2 | assumption)
    ((go_at_call 23; refine (q2.out (by assumption)).mono ?_; rintro e w5 ⟨rfl, h5⟩))
  have H5 : Hid (PG (ob w.heap.size (ov 2 tt N t) 40) w0 w5 q p s n g bx (mos s) T R B B) := ⟨h5⟩
  clear h5 S2 E2 q2
  go_wp2_with fail
  have E2 := H5.out.drew
  have S2 := And.intro E2.c0 E2.n2
  clear H5
  go_region_held3 (fun w' => w'.cell? ⟨bx, 0, none⟩ = some (pt q) ∧ w'.cell? ⟨w.heap.size, 2, none⟩ = some (.int .i64 N)) (first | exact S2 | exact And.intro h7.c0 h7.n2 | assumption)
    ((go_at_call 12; refine (q3.out (by assumption)).mono ?_; rintro e w7 ⟨rfl, h7⟩))
  have H7 : Hid (PS w0 w7 q p s n g bx) := ⟨⟨_, _, _, _, h7, HS.out⟩⟩
  clear h7 S2 E2 q3
  go_wp2
  go_ret
  exact ⟨rfl, H7.out⟩
set_option maxRecDepth 100000 in
set_option maxHeartbeats 1000000 in
theorem plays_commit (h : PG X w0 w q p s n g bx (mos s) T R B B) (hs : ∀ j, Sy (T j) (R j)) (tt N : Int) (t : ByteArray) (hk : k < 3) (ek : wrap64 ((IntKind.u64.wrap tt).tmod 3) = (k : Int)) (hz : T k = some z) (hy : R k = some y) : Calls Tryz.prog 8 #[pt bx, .agg (ov 4 tt N t)] w fun e w' => e = .returned (.bool true) ∧ PS w0 w' q p s n g bx := by
  have h1 := h.box (ov 4 tt N t) 40
  have qE := ends_any h1 hs hk hz hy
  have hki : (k : Int) < 3 := by omega
  have c2 := h1.tv' hk hz
  clear h hs hz hy h1
  go_enter Tryz.func8, Tryz.ntmps8
  go_wp2_with fail
  refine qE.mono ?_
  rintro e w3 ⟨rfl, h3⟩
  have H3 : Hid (PS w0 w3 q p s n g bx) := ⟨h3⟩
  dsimp only
  clear h3 qE c2
  go_wp2
  go_ret
  exact ⟨rfl, H3.out⟩
set_option maxRecDepth 100000 in
set_option maxHeartbeats 1000000 in
theorem plays_abort (h : PG X w0 w q p s n g bx (mos s) T R B B) (hs : ∀ j, Sy (T j) (R j)) (tt N : Int) (t : ByteArray) (hk : k < 3) (ek : wrap64 ((IntKind.u64.wrap tt).tmod 3) = (k : Int)) (hz : T k = some z) (hy : R k = some y) : Calls Tryz.prog 8 #[pt bx, .agg (ov 5 tt N t)] w fun e w' => e = .returned (.bool true) ∧ PS w0 w' q p s n g bx := by
  have h1 := h.box (ov 5 tt N t) 40
  have q1 := h1.tabort hz
  have HS : Hid (∀ j, Sy (T j) (R j)) := ⟨hs⟩
  have HR : Hid (R k = some y) := ⟨hy⟩
  have hki : (k : Int) < 3 := by omega
  have c2 := h1.tv' hk hz
  clear h hs hz hy h1
  go_enter Tryz.func8, Tryz.ntmps8
  go_wp2_with fail
  refine q1.mono ?_
  rintro e w3 ⟨rfl, h3⟩
  have q2 := h3.rabort HR.out
  have c5 := h3.rv' hk HR.out
  dsimp only
  clear h3 q1 c2
  go_wp2_with fail
  refine q2.mono ?_
  rintro e w4 ⟨rfl, h4⟩
  have H4 : Hid (PS w0 w4 q p s n g bx) := ⟨⟨_, _, _, _, h4, sy_upd HS.out k ⟨rfl, rfl⟩⟩⟩
  dsimp only
  clear h4 q2 c5
  go_wp2
  go_ret
  exact ⟨rfl, H4.out⟩
end Go.Proofs.YtlgpodcoiioefaaGreat

/- TxnPlays: Write; any step. -/
namespace Go.Proofs.YtlgpodcoiioefaaGreat
set_option linter.unusedVariables false
set_option linter.unusedSimpArgs false
open Go.RowKit Go.Maps
variable {X : Th → Prop} {q g bx m p s n : Nat} {T R : Sf} {B C : List ByteArray} {k : Nat} {z y : Sl} {w0 w w' : World}
theorem wc_sy (h : Sy (some z) (some y)) (m : Nat) (N : Int) (t : ByteArray) : wc y.o m N t = wc z.o m N t ∧ Sy (some ⟨z.x, z.i, ww z.o m N t z.W, z.o⟩) (some ⟨y.x, y.i, ww y.o m N t y.W, y.o⟩) := by
  obtain ⟨h1, h2⟩ := h
  refine ⟨by rw [h1], h1, ?_⟩
  simp only
  unfold ww
  rw [h1]
  cases e : z.o with
  | true => rw [e] at h2; exact h2
  | false => rw [e] at h2; rw [h2]; rfl
set_option maxRecDepth 100000 in
set_option maxHeartbeats 1000000 in
theorem plays_write (h : PG X w0 w q p s n g bx (mos s) T R B B) (hs : ∀ j, Sy (T j) (R j)) (tt N : Int) (t : ByteArray) (hk : k < 3) (ek : wrap64 ((IntKind.u64.wrap tt).tmod 3) = (k : Int)) (hz : T k = some z) (hy : R k = some y) : Calls Tryz.prog 8 #[pt bx, .agg (ov 3 tt N t)] w fun e w' => e = .returned (.bool true) ∧ PS w0 w' q p s n g bx := by
  have H1 : Hid (PG (ob w.heap.size (ov 3 tt N t) 40) w0 (w.alloc (.cells (ov 3 tt N t) 40)) q p s n g bx (mos s) T R B B) := ⟨h.box _ _⟩
  have hki : (k : Int) < 3 := by omega
  have hsy : Sy (some z) (some y) := by have := hs k; rw [hz, hy] at this; exact this
  obtain ⟨cd, hcd⟩ : ∃ cd, wc z.o (n - s) N (fu t) = cd := ⟨_, rfl⟩
  obtain ⟨T2, hT2⟩ : ∃ T2, upd T k ⟨z.x, z.i, ww z.o (n - s) N (fu t) z.W, z.o⟩ = T2 := ⟨_, rfl⟩
  have HT : Hid (T k = some z) := ⟨hz⟩
  have HR : Hid (R k = some y) := ⟨hy⟩
  have qF : Hid (∀ {w'} {T' R' : Sf}, PG (ob w.heap.size (ov 3 tt N t) 40) w0 w' q p s n g bx (mos s) T' R' B B → Calls Tryz.prog 15 #[.string t] w' fun e w2 => e = .returned (.string (fu t)) ∧ PG (ob w.heap.size (ov 3 tt N t) 40) w0 w2 q p s n g bx (mos s) T' R' B B) := ⟨fun {w'} {T'} {R'} h' => by
    refine (full_any t w').mono ?_
    rintro e w2 ⟨rfl, b⟩
    exact ⟨rfl, h'.below b⟩⟩
  obtain ⟨ft, hft⟩ : ∃ ft, fu t = ft := ⟨_, rfl⟩
  rw [hft] at hcd hT2 qF
  have q1 : Hid (∀ {w'}, PG (ob w.heap.size (ov 3 tt N t) 40) w0 w' q p s n g bx (mos s) T R B B → Calls Tryz.prog 14 #[pt z.x, .int .i64 N, .string ft] w' fun e w2 => e = .returned (.int .i64 cd) ∧ PG (ob w.heap.size (ov 3 tt N t) 40) w0 w2 q p s n g bx (mos s) T2 R B B) := ⟨fun h' => by rw [← hcd, ← hT2]; exact h'.twrite hz N ft⟩
  have q2 : Hid (∀ {w'}, PG (ob w.heap.size (ov 3 tt N t) 40) w0 w' q p s n g bx (mos s) T2 R B B → Calls Tryz.prog 24 #[pt y.x, .int .i64 N, .string ft] w' fun e w2 => e = .returned (.int .i64 cd) ∧ PS w0 w2 q p s n g bx ∧ w2.cell? ⟨bx, 5 + k, none⟩ = some (pt y.x) ∧ w2.cell? ⟨w.heap.size, 2, none⟩ = some (.int .i64 N) ∧ w2.cell? ⟨w.heap.size, 3, none⟩ = some (.string t)) := ⟨fun h' => by
    have w1 := wc_sy hsy (n - s) N ft
    refine (h'.rwrite hy N ft).mono ?_
    rintro e w2 ⟨rfl, h2⟩
    refine ⟨by rw [w1.1, hcd], ⟨_, _, _, _, h2, ?_⟩, h2.rv' (z := ⟨y.x, y.i, ww y.o (n - s) N ft y.W, y.o⟩) hk (upd_at _ _ _), h2.n2, h2.n3⟩
    rw [← hT2]
    exact sy_upd hs k w1.2⟩
  have HU : Hid (∀ {w'}, PG (ob w.heap.size (ov 3 tt N t) 40) w0 w' q p s n g bx (mos s) T2 R B B → w'.cell? ⟨bx, 2 + k, none⟩ = some (pt z.x) ∧ w'.cell? ⟨w.heap.size, 2, none⟩ = some (.int .i64 N) ∧ w'.cell? ⟨w.heap.size, 3, none⟩ = some (.string t)) := ⟨fun h' => ⟨h'.tv' (z := ⟨z.x, z.i, ww z.o (n - s) N ft z.W, z.o⟩) hk (by rw [← hT2]; exact upd_at _ _ _), h'.n2, h'.n3⟩⟩
  have c2 := H1.out.tv' hk hz
  clear h hs hz hy hsy hcd hT2 hft
  go_enter Tryz.func8, Tryz.ntmps8
  go_wp2_with fail
  have E2 := H1.out.drew
  have S2 := And.intro (E2.tv' hk HT.out) (And.intro E2.n2 E2.n3)
  clear H1 c2
  go_region_held3 (fun w' => w'.cell? ⟨bx, 2 + k, none⟩ = some (pt z.x) ∧ w'.cell? ⟨w.heap.size, 2, none⟩ = some (.int .i64 N) ∧ w'.cell? ⟨w.heap.size, 3, none⟩ = some (.string t)) (first | exact S2 | exact And.intro (h3.tv' hk HT.out) (And.intro h3.n2 h3.n3) | exact HU.out h4 | assumption)
    ((first
      | (go_at_call 15; refine (qF.out (by assumption)).mono ?_; rintro e w3 ⟨rfl, h3⟩)
      | (go_at_call 14; refine (q1.out (by assumption)).mono ?_; rintro e w4 ⟨rfl, h4⟩)))
  have H4 : Hid (PG (ob w.heap.size (ov 3 tt N t) 40) w0 w4 q p s n g bx (mos s) T2 R B B) := ⟨h4⟩
  clear h4 h3 E2 S2 q1 HU
  go_wp2_with fail
  have E2 := H4.out.drew
  have S2 := And.intro (E2.rv' hk HR.out) (And.intro E2.n2 E2.n3)
  have HU : Hid (∀ {w'}, PG (ob w.heap.size (ov 3 tt N t) 40) w0 w' q p s n g bx (mos s) T2 R B B → w'.cell? ⟨bx, 5 + k, none⟩ = some (pt y.x) ∧ w'.cell? ⟨w.heap.size, 2, none⟩ = some (.int .i64 N) ∧ w'.cell? ⟨w.heap.size, 3, none⟩ = some (.string t)) := ⟨fun h' => ⟨h'.rv' hk HR.out, h'.n2, h'.n3⟩⟩
  clear H4
  go_region_held3 (fun w' => w'.cell? ⟨bx, 5 + k, none⟩ = some (pt y.x) ∧ w'.cell? ⟨w.heap.size, 2, none⟩ = some (.int .i64 N) ∧ w'.cell? ⟨w.heap.size, 3, none⟩ = some (.string t)) (first | exact S2 | exact HU.out h5 | exact s6 | assumption)
    ((first
      | (go_at_call 15; refine (qF.out (by assumption)).mono ?_; rintro e w5 ⟨rfl, h5⟩)
      | (go_at_call 24; refine (q2.out (by assumption)).mono ?_; rintro e w6 ⟨rfl, h6, s6⟩)))
  have H6 : Hid (PS w0 w6 q p s n g bx) := ⟨h6⟩
  clear h5 h6 E2 S2 q2 HU s6
  go_wp2
  go_ret
  exact ⟨rfl, H6.out⟩
/-- any step -/
theorem plays_any (h : PS w0 w q p s n g bx) (kd tt N : Int) (hN : -9223372036854775808 ≤ N ∧ N ≤ 9223372036854775807) (t : ByteArray) : Calls Tryz.prog 8 #[pt bx, .agg (ov kd tt N t)] w fun e w' => e = .returned (.bool true) ∧ PS w0 w' q p s n g bx := by
  obtain ⟨X, T, R, B, h, hs⟩ := h
  by_cases h1 : kd = 1
  · subst h1; exact plays_begin h hs tt N t
  by_cases h6 : kd = 6
  · subst h6; exact plays_log h hs tt N t
  obtain ⟨k, hk, ek⟩ := x3 tt
  have hsk := hs k
  cases hz : T k with
  | none => exact plays_nil h hs kd tt N t h1 h6 hk ek hz
  | some z =>
    cases hy : R k with
    | none => rw [hz, hy] at hsk; exact hsk.elim
    | some y =>
      by_cases h2 : kd = 2
      · subst h2
        rcases trV_cases z B N with ⟨V, er, her, hV⟩ | ⟨hV, hL⟩
        · exact plays_read1 h hs tt N hN t hk ek hz hy V er her hV
        · exact plays_read2 h hs tt N hN t hk ek hz hy hV hL
      by_cases h3 : kd = 3
      · subst h3; exact plays_write h hs tt N t hk ek hz hy
      by_cases h4 : kd = 4
      · subst h4; exact plays_commit h hs tt N t hk ek hz hy
      by_cases h5 : kd = 5
      · subst h5; exact plays_abort h hs tt N t hk ek hz hy
      exact plays_other h hs kd tt N t h1 h6 h2 h3 h4 h5 hk ek hz
end Go.Proofs.YtlgpodcoiioefaaGreat
