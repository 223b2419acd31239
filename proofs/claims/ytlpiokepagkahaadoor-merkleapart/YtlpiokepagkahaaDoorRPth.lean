/- The reference's Path. -/
import Derived.Test.YtlpiokepagkahaaDoorRRt
namespace Go.Proofs.YtlpiokepagkahaaDoor
set_option linter.unusedVariables false
set_option linter.unusedSimpArgs false
open Go.RowKit
attribute [local go_sem ↓] Go.wp_at_zero Go.wp_at_succ
attribute [local go_sem ↓] ld23 st23 bs25
attribute [local go_sem] run_bs
set_option maxHeartbeats 400000 in
set_option maxRecDepth 8000 in
theorem refPath_bad (a : Option Addr) (n cap : Nat) (i : Int) (w : World) (h : i < 0 ∨ (n : Int) ≤ i) :
    Calls Tryd.prog 20 #[.slice a n cap, .int .i64 i] w fun e w' => e = .returned (.tuple #[.slice none 0 0, .int .i64 1]) ∧ w' = w := by
  go_enter Tryd.func20, Tryd.ntmps20
  by_cases h1 : i < 0
  · have d1 : decide (i < 0) = true := by simp; omega
    go_wp2_with fail
    go_ret2
    exact ⟨rfl, rfl⟩
  · have d1 : decide (i < 0) = false := by simp; omega
    have d2 : decide ((n : Int) ≤ i) = true := by simp; omega
    go_wp2_with fail
    go_ret2
    exact ⟨rfl, rfl⟩
theorem own_base {w : World} {b1 b2 e size n : Nat} {v : Value} {xs : List Value} (h : w.ownsRow b1 e size v n xs) (hb : b2 ≤ b1) : w.ownsRow b2 e size v n xs := by
  refine ⟨h.1, ?_⟩
  rcases h.2 with h | ⟨g', c', cur, h1, h2, h3⟩
  · exact .inl h
  · exact .inr ⟨g', c', cur, h1, by omega, h3⟩
theorem lvl_le (n : Nat) (F : Nat → Hs) : ∀ q, (lvl n F q).1 ≤ n
  | 0 => Nat.le_refl _
  | q + 1 => by have := lvl_le n F q; show Tree.upLen (lvl n F q).1 ≤ n; unfold Tree.upLen; omega
theorem half_nth : ∀ (i0 n : Nat) (f : Nat → Hs) (k : Nat), i0 < n → (∀ j, j < k → 1 < (lvl n f j).1) → i0 / 2 ^ k < (lvl n f k).1
  | i0, n, f, 0, h, _ => by simpa [lvl] using h
  | i0, n, f, k + 1, h, hb => by
    have := half_nth i0 n f k h (fun j hj => hb j (by omega))
    rw [Nat.pow_succ, ← Nat.div_div_eq_div_mul]
    exact Tree.half_lt this
set_option maxHeartbeats 400000 in
set_option maxRecDepth 8000 in
theorem refPath_in {w : World} {a : Option Addr} {n i0 : Nat} (cap : Nat) {t : Nat → ByteArray} (hK : KIn w) (hT : TextsIn w a n t) (hz : ∀ k, k < n → (t k).size ≤ 2097152) (hn : n ≤ 2097152) (h0 : i0 < n) :
    Calls Tryd.prog 20 #[.slice a n cap, .int .i64 (i0 : Int)] w fun e w' => ∃ v, e = .returned (.tuple #[v, .int .i64 0]) ∧ w'.ownsRow w.heap.size 23 32 v (pathOf n t i0).length (flatL (pathOf n t i0)) ∧ Below w.heap.size w w' := by
  obtain ⟨b, off, rfl, hTA, _⟩ := hT.at (by omega)
  have d1 : decide ((i0 : Int) < 0) = false := by simp
  have d2 : decide ((n : Int) ≤ (i0 : Int)) = false := by simp; omega
  have hB0 := hK.lt
  obtain ⟨R, hR⟩ : ∃ R, R = pathOf n t i0 := ⟨_, rfl⟩
  have hRl : R.length ≤ 43 := by rw [hR]; unfold pathOf; rw [Tree.path_length]; exact Tree.steps_le 43 n i0 (by omega)
  rw [← hR]
  have HR : Hid (R = pathOf n t i0) := hR
  clear hR
  obtain ⟨ti, z, e1, e2, e3, e4, e5⟩ := info23x
  go_enter Tryd.func20, Tryd.ntmps20
  go_wp2_with fail
  refine (refRows_any b off n cap t _ hK hTA hz hn (by omega)).mono ?_
  rintro e w2 ⟨v, vs, rfl, own, hRI, hv0, hlast, hbig, b2⟩
  rcases own.2 with ⟨_, h2⟩ | ⟨G, cp, cur, rfl, hG1, hG2, hG3, hG4, hG5, hG6⟩
  · omega
  have hvl : vs.length ≤ 9223372036854775807 := by unfold maxLen at hG4; omega
  have hGD : G < w2.heap.size := lt_of_row hG2
  have cR : Hid (∀ k x, vs[k]? = some x → w2.cell? ⟨G, k, none⟩ = some x) := fun k x hk => by
    have hkl := (List.getElem?_eq_some_iff.1 hk).1
    rw [own.cellAt k (by omega)]; exact hk
  obtain ⟨F, hF⟩ : ∃ F, F = leaves t := ⟨_, rfl⟩
  rw [← hF] at hRI hlast hbig
  have HRF : Hid (R = Tree.path node n F i0) := by have := HR.out; rw [hF]; exact this
  clear hF own hG1 hG2 hG3 hG4 hG5 hG6 HR
  obtain ⟨vl, hvl2⟩ : ∃ vl, vl = vs.length := ⟨_, rfl⟩
  rw [← hvl2] at hv0 hlast hvl ⊢
  have Hvl : Hid (vl = vs.length) := hvl2
  have hbig' : Hid (∀ k, k + 1 < vl → 1 < (lvl n F k).1) := fun k hk => hbig k (by omega)
  have HRI : Hid (RowsIn w2 (Value.slice (some ⟨G, 0, none⟩) vl cp).ownBlock vs n F) := hRI
  clear hvl2 hbig hRI
  obtain ⟨l1, hl1⟩ : ∃ l1, l1 = vl - 1 := ⟨_, rfl⟩
  have el1 : (vl : Int) - 1 = (l1 : Int) := by omega
  have ewl : IntKind.i64.wrap (l1 : Int) = (l1 : Int) := by rw [IntKind.wrap_i64]; omega
  have Hl1 : Hid (l1 = vl - 1 ∧ (lvl n F l1).1 ≤ 1) := ⟨hl1, by rw [hl1]; exact hlast⟩
  clear hl1 hlast
  go_wp2_with fail
  generalize hD : w2.heap.size = D at *
  go_loopw [1, 7, 8] (fun iv v kv wr => ∃ (kk j : Nat) (acc : List Hs), kk ≤ l1 ∧ iv = .int .i64 (j : Int) ∧ kv = .int .i64 (kk : Int) ∧ j < (lvl n F kk).1 ∧ Below D w2 wr ∧ wr.ownsRow D 23 32 v acc.length (flatL acc) ∧ acc ++ Tree.path node (lvl n F kk).1 (lvl n F kk).2 j = R) (fun _ _ kv _ => l1 - (intOf kv).toNat)
  case atStart => exact ⟨0, i0, [], by omega, rfl, rfl, h0, Below.refl _ _, World.ownsRow_nil _ _ _ _, HRF.out.symm⟩
  case round =>
    obtain ⟨kk, j, acc, hkl, rfl, rfl, hj, bel, own, eR⟩ := hrel
    have hbs := bel.size
    by_cases hlt : kk < l1
    · have hd : decide ((kk : Int) < (l1 : Int)) = true := by simp; omega
      have hkv : kk < vs.length := by have := Hl1.out; have := Hvl.out; omega
      have hm1 := hbig'.out kk (by have := Hl1.out; omega)
      obtain ⟨vk, hvk⟩ : ∃ vk, vs[kk]? = some vk := ⟨_, List.getElem?_eq_getElem hkv⟩
      obtain ⟨g, c, rfl, hrow, _, _⟩ := HRI.out kk vk hvk
      have cell1 := cR.out kk _ hvk
      obtain ⟨m, hm⟩ : ∃ m, m = (lvl n F kk).1 := ⟨_, rfl⟩
      obtain ⟨f', hf'⟩ : ∃ f', f' = (lvl n F kk).2 := ⟨_, rfl⟩
      have hnx : lvl n F (kk + 1) = (Tree.upLen m, Tree.up node m f') := by rw [hm, hf']; rfl
      have hml := lvl_le n F kk
      rw [← hm] at hj hm1 cell1 hrow eR hml
      rw [← hf'] at hrow eR
      have Hnx : Hid (lvl n F (kk + 1) = (Tree.upLen m, Tree.up node m f')) := hnx
      clear hnx hm hf' hvk
      have c1 : wr.cell? ⟨G, kk, none⟩ = some (.slice (some ⟨g, 0, none⟩) m c) := by
        rw [bel.cell (p := ⟨G, kk, none⟩) hGD]; exact cell1
      obtain ⟨j2, hj2⟩ : ∃ j2, j2 = j / 2 := ⟨_, rfl⟩
      have ej2 : (j : Int) / 2 = (j2 : Int) := by omega
      have Hj2 : Hid (j2 = j / 2) := hj2
      have hj2m : j2 < Tree.upLen m := by rw [hj2]; exact Tree.half_lt hj
      clear hj2
      obtain ⟨o, ho⟩ : ∃ o, o = Tree.nb j := ⟨_, rfl⟩
      have hxo := nb_bits j (by omega)
      rw [← ho] at hxo
      have ewo : IntKind.i64.wrap (o : Int) = (o : Int) := by rw [IntKind.wrap_i64, ho]; unfold Tree.nb; split <;> omega
      have Ho : Hid (o = Tree.nb j) := ho
      clear ho
      have i0' : (0 : Int) ≤ (kk : Int) := by omega
      have i1' : (kk : Int) < (vl : Int) := by have := Hl1.out; omega
      by_cases hs : o < m
      · have hd2 : decide ((o : Int) < (m : Int)) = true := by simp; omega
        have i2' : (0 : Int) ≤ (o : Int) := by omega
        have i3' : (o : Int) < (m : Int) := by omega
        have r1 : wr.rangeAt g (o * 32) (hv (f' o)) := by
          have := rangeBelow (hrow o hs) bel (by rw [← hD]; exact hrow.lt hs)
          rwa [Nat.zero_add] at this
        have hl1 := load23 r1
        have hp := Tree.path_side node f' j (n := m) (by omega) (by rw [← Ho.out]; exact hs)
        rw [← Ho.out, ← Hj2.out] at hp
        have hal : acc.length + 1 ≤ 43 := by rw [← eR, hp] at hRl; simp at hRl; omega
        have HP : Hid (Tree.path node m f' j = f' o :: Tree.path node (Tree.upLen m) (Tree.up node m f') j2) := hp
        clear hp
        go_wp2_with (refine wpList_append_lies _ rfl _ _ 25 rfl D 23 ti z 32 32 Tryd.underlying25 e1 e2 e3 e4 e5 (by omega) u7 acc.length (flatL acc) rfl (own.alloc _) _ 1 1 (hv (f' o)) rfl (hv_length _) (news_alloc _ _ _) (hv_one _) (by omega) (by unfold maxLen; omega) (by omega) (by simp; omega) _ rfl ?_; intro g3 c3 w3 own3 grow3 at3 lt3)
        go_round
        case rel =>
          have bw : Below D w2 w3 := (bel.alloc (by omega) _).grown grow3 (by simp; omega) (fun k hk => (own.lt k hk).1)
          refine ⟨kk + 1, j2, acc ++ [f' o], by omega, rfl, by go_num, by rw [Hnx.out]; exact hj2m, bw, ?_, ?_⟩
          · rw [List.length_append, flatL_snoc]; exact own3
          · rw [Hnx.out, ← eR, HP.out]; simp
        case measure => simp [intOf]; omega
      · have hd2 : decide ((o : Int) < (m : Int)) = false := by simp; omega
        have hp := Tree.path_alone node f' j (n := m) (by omega) (by rw [← Ho.out]; exact hs)
        rw [← Hj2.out] at hp
        have HP : Hid (Tree.path node m f' j = Tree.path node (Tree.upLen m) (Tree.up node m f') j2) := hp
        clear hp
        go_wp2_with fail
        go_round
        case rel => exact ⟨kk + 1, j2, acc, by omega, rfl, by go_num, by rw [Hnx.out]; exact hj2m, bel, own, by rw [Hnx.out, ← eR, HP.out]⟩
        case measure => simp [intOf]; omega
    · obtain rfl : kk = l1 := by omega
      have hd : decide ((kk : Int) < (kk : Int)) = false := by simp
      have eA : acc = R := by rw [← eR, Tree.path_one node _ j Hl1.out.2]; simp
      go_wp2_with fail
      go_ret2
      exact ⟨_, rfl, by rw [← eA]; exact own_base own (by have := b2.size; omega), b2.trans (bel.mono (by have := b2.size; omega))⟩
end Go.Proofs.YtlpiokepagkahaaDoor
