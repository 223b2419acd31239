/- StackApart: the first loop (all are marked), step by step. -/
import Derived.Test.YtaonjmmdgfbceaaApl
namespace Go.Proofs.Ytaonjmmdgfbceaa
set_option linter.unusedVariables false
set_option linter.unusedSimpArgs false
open Go.RowKit
def Mk (j : Nat) (r : Rv) : Prop := r.v.data = cs j ∧ ∀ p ∈ r.v.l, p = mp j
def L1 (B : Nat) (w0 w : World) (ab : Nat) (mm : Nat → Nat) (i k n : Nat) : Prop := ∃ V R, Kp B w0 w ab V R 1048577 ∧ (∀ j, j < 5 → (R j).length = mm j) ∧ (∀ j idx r, j < 5 → (R j)[idx]? = some r → (j < i ∨ (j = i ∧ idx < k)) → Mk j r) ∧ (∀ r, (R i)[k]? = some r → ∀ q p, q < n → r.v.l[q]? = some p → p = mp i)
theorem L1.later {B : Nat} {w0 w w' : World} {ab : Nat} {mm : Nat → Nat} {i k n : Nat} (h : L1 B w0 w ab mm i k n) (hb : Below w.heap.size w w') : L1 B w0 w' ab mm i k n := by
  obtain ⟨V, R, h1, h2, h3, h4⟩ := h
  exact ⟨V, R, h1.later hb, h2, h3, h4⟩
theorem L1.below {B : Nat} {w0 w : World} {ab : Nat} {mm : Nat → Nat} {i k n : Nat} (h : L1 B w0 w ab mm i k n) : Below B w0 w := by
  obtain ⟨V, R, h1, _⟩ := h
  exact h1.b
theorem L1.len {B : Nat} {w0 w : World} {ab : Nat} {mm : Nat → Nat} {i k n : Nat} (h : L1 B w0 w ab mm i k n) (hi : i < 5) : ∃ a c, w.cell? ⟨ab, i, none⟩ = some (.slice a (mm i) c) := by
  obtain ⟨V, R, h1, h2, h3, h4⟩ := h
  obtain ⟨a, c, e, _⟩ := (h1.q.fo i hi).ls
  exact ⟨a, c, by rw [h1.q.cell hi, e, h2 i hi]⟩
theorem L1.nextI {B : Nat} {w0 w : World} {ab : Nat} {mm : Nat → Nat} {i : Nat} (h : L1 B w0 w ab mm i (mm i) 0) : L1 B w0 w ab mm (i + 1) 0 0 := by
  obtain ⟨V, R, h1, h2, h3, h4⟩ := h
  refine ⟨V, R, h1, h2, fun j idx r hj hr hx => ?_, fun r _ q p hq => by omega⟩
  by_cases e : j = i
  · subst e
    refine h3 j idx r hj hr (.inr ⟨rfl, ?_⟩)
    have := (List.getElem?_eq_some_iff.1 hr).1
    rw [h2 j hj] at this
    exact this
  · exact h3 j idx r hj hr (.inl (by omega))
theorem Fo.at {B : Nat} {w : World} {v : Value} {R : List Rv} (h : Fo B w v R) {k : Nat} {r : Rv} (hk : R[k]? = some r) : ∃ g c, v = .slice (some ⟨g, 0, none⟩) R.length c ∧ B ≤ g ∧ g < w.heap.size ∧ (∀ j, w.frozen? ⟨g, j, none⟩ = false) ∧ w.cell? ⟨g, k * 5 + 4, none⟩ = some (.slice r.a r.v.l.length r.c) ∧ w.cell? ⟨g, k * 5 + 3, none⟩ = some (str r.v.data) := by
  have hkl := (List.getElem?_eq_some_iff.1 hk).1
  rcases h.own.2 with ⟨_, h0⟩ | ⟨g, cap, cur, e, h2, h3, _⟩
  · omega
  · subst e
    have hlt := (h.own.lt g rfl).2
    have hp : (rcells R).length = R.length * 5 := rcells_length R
    refine ⟨g, cap, rfl, h2, hlt, fun j => frozen_of_row _ _ _ _ _ h3, ?_, ?_⟩
    · rw [h.own.cellAt _ (by omega), rcells_get hk 4 (by omega)]
      rfl
    · rw [h.own.cellAt _ (by omega), rcells_get hk 3 (by omega)]
      rfl
theorem frozen_later {w w' : World} (hb : Below w.heap.size w w') {g j : Nat} (hg : g < w.heap.size) (h : w.frozen? ⟨g, j, none⟩ = false) : w'.frozen? ⟨g, j, none⟩ = false := by
  have := hb.block g hg
  unfold World.frozen? at h ⊢
  simp only at h ⊢
  rw [this]; exact h
/-- a pair is marked -/
theorem L1.pair {B : Nat} {w0 w : World} {ab : Nat} {mm : Nat → Nat} {i k n : Nat} (h : L1 B w0 w ab mm i k n) (hi : i < 5) (hk : k < mm i) :
    ∃ g c ma mn mc, w.cell? ⟨ab, i, none⟩ = some (.slice (some ⟨g, 0, none⟩) (mm i) c) ∧ w.cell? ⟨g, k * 5 + 4, none⟩ = some (.slice ma mn mc) ∧ g < w.heap.size ∧ ab < w.heap.size ∧ mn ≤ 1048577 ∧ (∀ j, w.frozen? ⟨g, j, none⟩ = false) ∧ ¬ g = ab ∧ (∃ o, w.cell? ⟨g, k * 5 + 3, none⟩ = some o) ∧
      (n < mn → ∃ mb, ma = some ⟨mb, 0, none⟩ ∧ mb < w.heap.size ∧ (∀ j, w.frozen? ⟨mb, j, none⟩ = false) ∧ ¬ mb = ab ∧ ¬ mb = g ∧ (∃ o1 o2, w.cell? ⟨mb, n * 2, none⟩ = some o1 ∧ w.cell? ⟨mb, n * 2 + 1, none⟩ = some o2) ∧ ∀ w', Below w.heap.size w w' → L1 B w0 ((w'.setCell ⟨mb, n * 2, none⟩ (str [109])).setCell ⟨mb, n * 2 + 1, none⟩ (str (cs i))) ab mm i k (n + 1)) ∧
      (mn ≤ n → ∀ w', Below w.heap.size w w' → L1 B w0 (w'.setCell ⟨g, k * 5 + 3, none⟩ (str (cs i))) ab mm i (k + 1) 0) := by
  obtain ⟨V, R, h1, h2, h3, h4⟩ := h
  have hl := h2 i hi
  obtain ⟨r, hr⟩ : ∃ r, (R i)[k]? = some r := ⟨(R i)[k], List.getElem?_eq_getElem (by omega)⟩
  obtain ⟨g, c, e, hg1, hg2, hgf, hgc, hgd⟩ := (h1.q.fo i hi).at hr
  have hz := h1.z i r hi (List.mem_of_getElem? hr)
  refine ⟨g, c, r.a, r.v.l.length, r.c, by rw [h1.q.cell hi, e, hl], hgc, hg2, lt_of_block h1.q.arr, hz.2, hgf, fun q => h1.q.not hi (q ▸ .inl (by rw [e]; rfl)), ⟨_, hgd⟩, fun hn => ?_, fun hn w' hb => ?_⟩
  · have hm := (h1.q.fo i hi).met k r hr
    rw [hz.1, List.append_nil] at hm
    have hmv : r.mv = .slice r.a r.v.l.length r.c := by unfold Rv.mv; rw [hz.1]; rfl
    rw [hmv] at hm
    rcases hm.own.2 with ⟨_, h0⟩ | ⟨mb, mcap, cur, em, m2, m3, _⟩
    · omega
    · injection em with em1 em2 em3
      have hmb : mb < w.heap.size := lt_of_block m3
      have hmo : r.mv.ownBlock = some mb := by rw [hmv, em1]; rfl
      refine ⟨mb, em1, hmb, fun j => frozen_of_row _ _ _ _ _ m3, fun q => h1.q.not hi (q ▸ .inr ⟨k, r, hr, hmo⟩), fun q => (h1.q.fo i hi).vm hr (g := g) (by rw [e]; rfl) (q ▸ hmo), ?_, fun w' hb => ?_⟩
      · obtain ⟨p, hp⟩ : ∃ p, r.v.l[n]? = some p := ⟨r.v.l[n], List.getElem?_eq_getElem hn⟩
        obtain ⟨b', off', eb, _, y1, y2⟩ := hm.asSl.at'.get n p hp
        rw [em1] at eb
        injection eb with eb
        injection eb with eb1 eb2
        subst eb1 eb2
        rw [Nat.zero_add] at y1 y2
        exact ⟨_, _, y1, y2⟩
      have k1 := h1.later hb
      have hf := (k1.q.fo i hi).setPair hr hz.1 em1 hn (mp i)
      have hTc : Tc (V i) (R i) mb := .inr ⟨k, r, hr, by rw [hmv, em1]; rfl⟩
      have kp := k1.put hi hf (by simp) (((Below.refl B w').setCell (p := ⟨mb, n * 2, none⟩) m2 _).setCell (p := ⟨mb, n * 2 + 1, none⟩) m2 _) (fun x _ hx => heap_set2 (fun q => hx (q ▸ hTc))) (fun x hx => tc_set hr (fun b hb' => .inl (by
        have : ({ r with v := { r.v with l := r.v.l.set n (mp i) } } : Rv).mv = r.mv := by unfold Rv.mv; simp
        rw [this] at hb'; exact hb')) hx) (fun q hq => by
          rcases mem_setR hq with rfl | hq
          · exact ⟨hz.1, by show (r.v.l.set n (mp i)).length ≤ _; rw [List.length_set]; exact hz.2⟩
          · exact h1.z i q hi hq)
      refine ⟨V, _, kp, fun j hj => ?_, fun j idx q hj hq hx => ?_, fun q hq x p hx hp => ?_⟩
      · by_cases ej : j = i
        · subst ej
          rw [upd_same, List.length_set]; exact hl
        · rw [upd_other _ _ _ _ ej]; exact h2 j hj
      · by_cases ej : j = i
        · subst ej
          rw [upd_same] at hq
          rcases set_get hq with ⟨rfl, rfl⟩ | ⟨_, hq⟩
          · rcases hx with hx | ⟨_, hx⟩
            · omega
            · omega
          · exact h3 j idx q hj hq hx
        · rw [upd_other _ _ _ _ ej] at hq
          exact h3 j idx q hj hq hx
      · rw [upd_same] at hq
        rcases set_get hq with ⟨_, rfl⟩ | ⟨hne, _⟩
        · by_cases ex : x = n
          · subst ex
            rw [List.getElem?_set_self hn] at hp
            injection hp with hp
            exact hp.symm
          · rw [List.getElem?_set_ne (fun q => ex q.symm)] at hp
            exact h4 r hr x p (by omega) hp
        · exact absurd rfl hne
  · have k1 := h1.later hb
    have f1 := k1.q.fo i hi
    rw [e] at f1
    have hf := f1.setData rfl hr (cs i)
    rw [← e] at hf
    have hTc : Tc (V i) (R i) g := .inl (by rw [e]; rfl)
    have kp := k1.put hi hf (by simp) ((Below.refl B w').setCell (p := ⟨g, k * 5 + 3, none⟩) hg1 _) (fun x _ hx => by
      rw [heap_setCell_other _ _ _ _ (by intro q; exact hx (by have q : x = g := by simpa using q
                                                               rw [q]; exact hTc))]) (fun x hx => tc_set (r' := { r with v := { r.v with data := cs i } }) hr (fun b hb' => .inl hb') hx) (fun q hq => by
        rcases mem_setR hq with rfl | hq
        · exact hz
        · exact h1.z i q hi hq)
    refine ⟨V, _, kp, fun j hj => ?_, fun j idx q hj hq hx => ?_, fun q hq x p hx hp => by omega⟩
    · by_cases ej : j = i
      · subst ej
        rw [upd_same, List.length_set]; exact hl
      · rw [upd_other _ _ _ _ ej]; exact h2 j hj
    · by_cases ej : j = i
      · subst ej
        rw [upd_same] at hq
        rcases set_get hq with ⟨rfl, rfl⟩ | ⟨hne, hq⟩
        · refine ⟨rfl, fun p hp => ?_⟩
          obtain ⟨x, hx'⟩ := List.getElem?_of_mem hp
          exact h4 r hr x p (by have := (List.getElem?_eq_some_iff.1 hx').1; exact Nat.lt_of_lt_of_le this hn) hx'
        · refine h3 j idx q hj hq ?_
          rcases hx with hx | ⟨_, hx⟩
          · exact .inl hx
          · exact .inr ⟨rfl, by omega⟩
      · rw [upd_other _ _ _ _ ej] at hq
        refine h3 j idx q hj hq ?_
        rcases hx with hx | ⟨hx, _⟩
        · exact .inl hx
        · exact absurd hx ej
theorem L1.le {B : Nat} {w0 w : World} {ab : Nat} {mm : Nat → Nat} {i k n n' : Nat} (h : L1 B w0 w ab mm i k n) (hn : n' ≤ n) : L1 B w0 w ab mm i k n' := by
  obtain ⟨V, R, h1, h2, h3, h4⟩ := h
  exact ⟨V, R, h1, h2, h3, fun r hr q p hq hp => h4 r hr q p (by omega) hp⟩
end Go.Proofs.Ytaonjmmdgfbceaa
