/- One form: what is written is read. -/
import Derived.Test.YtibmnpkmbhjniaaRdp
namespace Go.Proofs.Ytibmnpkmbhjniaa
set_option linter.unusedVariables false
set_option linter.unusedSimpArgs false
open Go.RowKit
theorem body_cons (e : En) (l : List En) : body (e :: l) = ent e ++ body l := by simp [body]
theorem rde_body : ∀ (l : List En) (z : List UInt8), (∀ e ∈ l, lng e = false) → rde l.length (body l ++ z) = some l
  | [], z, _ => by simp [rde]
  | e :: l, z, h => by
    have hs := lng_sz (h e List.mem_cons_self)
    have ih := rde_body l z fun x hx => h x (List.mem_cons_of_mem _ hx)
    have e0 : body (e :: l) ++ z = UInt8.ofNat e.key.length :: UInt8.ofNat e.val.length :: (e.key ++ (e.val ++ (body l ++ z))) := by rw [body_cons]; simp [ent]
    have x0 : (UInt8.ofNat e.key.length).toNat = e.key.length := by simp; omega
    have y0 : (UInt8.ofNat e.val.length).toNat = e.val.length := by simp; omega
    rw [e0, List.length_cons, rde_more (by simp) (by simp; omega)]
    simp only [List.getD_cons_zero, List.getD_cons_succ, x0, y0, List.drop_succ_cons, List.drop_zero]
    have d1 : (e.key ++ (e.val ++ (body l ++ z))).drop (e.key.length + e.val.length) = body l ++ z := by
      rw [← List.append_assoc, ← List.length_append, List.drop_left]
    have d2 : (e.key ++ (e.val ++ (body l ++ z))).take e.key.length = e.key := List.take_left
    have d3 : ((e.key ++ (e.val ++ (body l ++ z))).drop e.key.length).take e.val.length = e.val := by rw [List.drop_left, List.take_left]
    rw [d1, d2, d3, ih]
    rfl
theorem n2_num (n : Nat) (h : n ≤ 65535) : (UInt8.ofNat (n / 256)).toNat * 256 + (UInt8.ofNat n).toNat = n := by simp; omega
theorem rdv_blk {k j : Int} {l : List En} (h : flt k j l = 0) : rdv (blk k j l) = some (k, j, l) := by
  obtain ⟨hk, hlg, ht, hs⟩ := flt_zero h
  have hlen := tot_len l
  have hl := any_false hlg
  have e0 : blk k j l = UInt8.ofNat k.toNat :: UInt8.ofNat (j.toNat / 256) :: UInt8.ofNat j.toNat :: UInt8.ofNat (l.length / 256) :: UInt8.ofNat l.length :: (body l ++ List.replicate (507 - tot l) 0) := by simp [blk, blk0, n2]
  have a0 : (((blk k j l).getD 0 0).toNat : Int) = k := by rw [e0, List.getD_cons_zero, byte_of]; omega
  have a1 : num2 (blk k j l) 1 = j.toNat := by
    unfold num2
    rw [e0]
    exact n2_num _ (by omega)
  have a3 : num2 (blk k j l) 3 = l.length := by
    unfold num2
    rw [e0]
    exact n2_num _ (by omega)
  have a5 : (blk k j l).drop 5 = body l ++ List.replicate (507 - tot l) 0 := by rw [e0]; rfl
  have hj : ((num2 (blk k j l) 1 : Nat) : Int) = j := by rw [a1]; omega
  unfold rdv
  rw [if_pos (blk_length ht), a3, a5, rde_body l _ hl]
  simp only
  rw [a0, hj, if_pos ⟨h, rfl⟩]
theorem rdv_some {b : List UInt8} {k j : Int} {l : List En} (h : rdv b = some (k, j, l)) : flt k j l = 0 ∧ blk k j l = b := by
  unfold rdv at h
  split at h
  · split at h
    · cases h
    · split at h
      · next hc => simp at h; obtain ⟨rfl, rfl, rfl⟩ := h; exact hc
      · cases h
  · cases h
/-- a block of such a page is no other one -/
theorem rdv_other {k j : Int} {l : List En} (h : flt k j l = 0) (b : List UInt8) (hb : b.length = 512) (h2 : b.take (5 + tot l) = (blk k j l).take (5 + tot l)) (h3 : b ≠ blk k j l) : rdv b = none := by
  cases hr : rdv b with
  | none => rfl
  | some r =>
    obtain ⟨k', j', l'⟩ := r
    exfalso
    obtain ⟨f', e'⟩ := rdv_some hr
    obtain ⟨hk, hlg, ht, hs⟩ := flt_zero h
    have hlen := tot_len l
    have hl := any_false hlg
    have e0 : blk k j l = UInt8.ofNat k.toNat :: UInt8.ofNat (j.toNat / 256) :: UInt8.ofNat j.toNat :: UInt8.ofNat (l.length / 256) :: UInt8.ofNat l.length :: (body l ++ List.replicate (507 - tot l) 0) := by simp [blk, blk0, n2]
    have eb : b = UInt8.ofNat k.toNat :: UInt8.ofNat (j.toNat / 256) :: UInt8.ofNat j.toNat :: UInt8.ofNat (l.length / 256) :: UInt8.ofNat l.length :: (body l ++ b.drop (5 + tot l)) := by
      conv => lhs; rw [← List.take_append_drop (5 + tot l) b, h2, e0]
      have hbl := body_length l
      rw [show 5 + tot l = tot l + 1 + 1 + 1 + 1 + 1 by omega]
      simp only [List.take_succ_cons, List.cons_append]
      rw [← hbl, List.take_left]
    have hr2 : rdv b = some (k, j, l) ∨ rdv b = none := by
      have a0 : ((b.getD 0 0).toNat : Int) = k := by rw [eb, List.getD_cons_zero, byte_of]; omega
      have a1 : num2 b 1 = j.toNat := by unfold num2; rw [eb]; exact n2_num _ (by omega)
      have a3 : num2 b 3 = l.length := by unfold num2; rw [eb]; exact n2_num _ (by omega)
      have a5 : b.drop 5 = body l ++ b.drop (5 + tot l) := (congrArg (List.drop 5) eb).trans rfl
      have hj : ((num2 b 1 : Nat) : Int) = j := by rw [a1]; omega
      unfold rdv
      rw [if_pos hb, a3, a5, rde_body l _ hl]
      simp only
      rw [a0, hj]
      split
      · exact Or.inl rfl
      · exact Or.inr rfl
    rcases hr2 with q | q
    · rw [q] at hr
      simp at hr
      obtain ⟨rfl, rfl, rfl⟩ := hr
      exact h3 e'.symm
    · rw [q] at hr; cases hr
end Go.Proofs.Ytibmnpkmbhjniaa
