/- settle, Crash and On. -/
import Derived.Test.YtghdgddpdamhcaaGreatNum
namespace Go.Proofs.YtghdgddpdamhcaaGreat
set_option linter.unusedVariables false
set_option linter.unusedSimpArgs false
open Go.RowKit Go.Maps
/-- the set stays while the disk's blocks turn -/
theorem set_kept {w w' : World} {S : Nat → Prop} {B n m : Nat} {zs : List Int} (h : SetAt w B n m zs) (fr : Fr S w w') (hB : ¬ S B) : SetAt w' B n m zs := by
  have hl := h.lt
  unfold SetAt World.ownsMap at *
  rw [fr.block B hl hB]
  exact h
structure SI (w : World) (D : Dk) (st : St) (off opn : Bool) (fall : Nat) (B : Nat) (zs : List Int) (seen safe : List ByteArray) (wr : World) : Prop where
  raw : Raw wr D st.safe.length seen safe st.pend off opn fall
  stp : Stp w D wr D
  set : SetAt wr B zs.length st.pend.length zs
  nf : ¬ D.foot B
theorem SI.alloc {w : World} {D : Dk} {st : St} {off opn : Bool} {fall B : Nat} {zs : List Int} {seen safe : List ByteArray} {wr : World} (h : SI w D st off opn fall B zs seen safe wr) (o : Obj) : SI w D st off opn fall B zs seen safe (wr.alloc o) := ⟨h.raw.alloc o, ⟨rfl, h.stp.fr.alloc o, h.stp.nw⟩, h.set.alloc o, h.nf⟩
theorem SI.drew {w : World} {D : Dk} {st : St} {off opn : Bool} {fall B : Nat} {zs : List Int} {seen safe : List ByteArray} {wr : World} (h : SI w D st off opn fall B zs seen safe wr) : SI w D st off opn fall B zs seen safe wr.drew := ⟨h.raw.drew, ⟨rfl, h.stp.fr.drew, h.stp.nw⟩, h.set.drew, h.nf⟩
theorem SI.setSafe {w : World} {D : Dk} {st : St} {off opn : Bool} {fall B : Nat} {zs : List Int} {seen safe : List ByteArray} {wr : World} (h : SI w D st off opn fall B zs seen safe wr) (j : Nat) (t : ByteArray) : SI w D st off opn fall B zs seen (safe.set j t) (wr.setCell ⟨D.g2, j, none⟩ (.string t)) :=
  ⟨h.raw.setSafe j t, ⟨rfl, h.stp.fr.setCell _ _ _ (.inl (.inr (.inr (.inl rfl)))), h.stp.nw⟩, set_kept h.set (fr_set (S := fun k => k = D.g2) wr _ j _ rfl) (fun e => h.nf (.inr (.inr (.inl e)))), h.nf⟩
theorem SI.setSeen {w : World} {D : Dk} {st : St} {off opn : Bool} {fall B : Nat} {zs : List Int} {seen safe : List ByteArray} {wr : World} (h : SI w D st off opn fall B zs seen safe wr) (j : Nat) (t : ByteArray) : SI w D st off opn fall B zs (seen.set j t) safe (wr.setCell ⟨D.g1, j, none⟩ (.string t)) :=
  ⟨h.raw.setSeen j t, ⟨rfl, h.stp.fr.setCell _ _ _ (.inl (.inr (.inl rfl))), h.stp.nw⟩, set_kept h.set (fr_set (S := fun k => k = D.g1) wr _ j _ rfl) (fun e => h.nf (.inr (.inl e))), h.nf⟩
end Go.Proofs.YtghdgddpdamhcaaGreat
