/- The path of a text. -/
import Derived.Test.YtlpiokepagkahaaDoorLed
import Derived.Laws.OwnMore
namespace Go.Proofs.YtlpiokepagkahaaDoor
set_option linter.unusedVariables false
set_option linter.unusedSimpArgs false
open Go.RowKit
attribute [local go_sem ↓] Go.wp_at_zero Go.wp_at_succ
noncomputable def flatL (l : List Hs) : List Value := l.flatMap hv
theorem flatL_length : ∀ l : List Hs, (flatL l).length = l.length * 32
  | [] => rfl
  | g :: r => by
    have ih := flatL_length r
    unfold flatL at ih ⊢
    rw [List.flatMap_cons, List.length_append, hv_length, ih, List.length_cons]; omega
theorem flatL_snoc (l : List Hs) (g : Hs) : flatL (l ++ [g]) = flatL l ++ hv g := by unfold flatL; simp
theorem flatL_get : ∀ (l : List Hs) (k j : Nat) (g : Hs), l[k]? = some g → j < 32 → (flatL l)[k * 32 + j]? = (hv g)[j]?
  | [], k, j, g, h, _ => by simp at h
  | a :: r, 0, j, g, h, hj => by
    have : a = g := by simpa using h
    subst this
    show (hv a ++ flatL r)[0 * 32 + j]? = _
    rw [List.getElem?_append_left (by rw [hv_length]; omega)]
    congr 1; omega
  | a :: r, k + 1, j, g, h, hj => by
    have h' : r[k]? = some g := by simpa using h
    show (hv a ++ flatL r)[(k + 1) * 32 + j]? = _
    rw [List.getElem?_append_right (by rw [hv_length]; omega), hv_length, ← flatL_get r k j g h' hj]
    congr 1; omega
theorem grow_range {w w' : World} {row : Option Nat} (hg : w.grownBy w' row) {b o : Nat} {cs : List Value} (h : w.rangeAt b o cs) (hne : some b ≠ row) : w'.rangeAt b o cs := fun j v hv =>
  hg.cell (a := ⟨b, o + j, none⟩) (h j v hv) hne
theorem own_next {w w' : World} {base e size n : Nat} {v : Value} {xs : List Value} (h : w.ownsRow base e size v n xs) (bq : Below w.heap.size w w') : w'.ownsRow base e size v n xs := by
  refine ⟨h.1, ?_⟩
  rcases h.2 with h0 | ⟨g, cap, cur, h1, h2, h3, h4⟩
  · exact .inl h0
  · exact .inr ⟨g, cap, cur, h1, h2, carry h3 bq, h4⟩
/-- What an owned row of hashes holds, place by place. -/
theorem own_range {w : World} {base : Nat} {v : Value} {l : List Hs} (h : w.ownsRow base 23 32 v l.length (flatL l)) {k : Nat} {x : Hs} (hk : l[k]? = some x) : ∃ g cap, v = .slice (some ⟨g, 0, none⟩) l.length cap ∧ base ≤ g ∧ w.rangeAt g (k * 32) (hv x) := by
  have hlt : k < l.length := (List.getElem?_eq_some_iff.1 hk).1
  rcases h.2 with ⟨_, h0⟩ | ⟨g, cap, cur, h1, h2, h3, h4, h5, h6, h7⟩
  · omega
  · refine ⟨g, cap, h1, h2, fun j u hj => ?_⟩
    have hj32 : j < 32 := by have := (List.getElem?_eq_some_iff.1 hj).1; rw [hv_length] at this; exact this
    have := flatL_get l k j x hk hj32
    rw [hj, ← h7, List.getElem?_take_of_lt (by omega)] at this
    rw [cell_of_row _ _ _ _ _ _ h3]
    simpa using this
attribute [local go_sem ↓] ld23 bs25
attribute [local go_sem] run_bs
set_option maxHeartbeats 400000 in
set_option maxRecDepth 8000 in
theorem path_bad (a : Option Addr) (n cap : Nat) (i : Int) (w : World) (h : i < 0 ∨ (n : Int) ≤ i) :
    Calls Tryd.prog 9 #[.slice a n cap, .int .i64 i] w fun e w' => e = .returned (.tuple #[.slice none 0 0, .int .i64 1]) ∧ w' = w := by
  go_enter Tryd.func9, Tryd.ntmps9
  by_cases h1 : i < 0
  · have d1 : decide (i < 0) = true := by simp; omega
    go_wp2_with fail
    go_ret2
    exact ⟨rfl, rfl⟩
  · have d1 : decide (i < 0) = false := by simp; omega
    have d2 : decide ((n : Int) ≤ i) = true := by simp; omega
    go_wp2_with fail
    go_ret2
    exact ⟨rfl, rfl⟩
set_option maxHeartbeats 400000 in
set_option maxRecDepth 8000 in
theorem path_some (b off n cap i0 : Nat) (t : Nat → ByteArray) (w : World) (hK : KIn w) (hT : TextsAt w b off n t) (hz : ∀ k, k < n → (t k).size < 1152921504606845000) (hn : n ≤ 8796093022208) (h0 : i0 < n) :
    Calls Tryd.prog 9 #[.slice (some ⟨b, off, none⟩) n cap, .int .i64 (i0 : Int)] w fun e w' => ∃ v, e = .returned (.tuple #[v, .int .i64 0]) ∧ w'.ownsRow w.heap.size 23 32 v (Tree.path node n (leaves t) i0).length (flatL (Tree.path node n (leaves t) i0)) ∧ Below w.heap.size w w' := by
  have d1 : decide ((i0 : Int) < 0) = false := by simp
  have d2 : decide ((n : Int) ≤ (i0 : Int)) = false := by simp; omega
  have hB0 := hK.lt
  obtain ⟨R, hR⟩ : ∃ R, R = Tree.path node n (leaves t) i0 := ⟨_, rfl⟩
  have hRl : R.length ≤ 43 := by rw [hR, Tree.path_length]; exact Tree.steps_le 43 n i0 (by omega)
  rw [← hR]
  obtain ⟨ti, z, e1, e2, e3, e4, e5⟩ := info23x
  go_enter Tryd.func9, Tryd.ntmps9
  go_wp2_with fail
  refine (lowest_any b off n cap t _ hK hT hz hn).mono ?_
  rintro e w2 ⟨rfl, hr2, _, b2⟩
  generalize hB : w.heap.size = B at *
  go_wp2_with fail
  go_loopw [1, 6, 7] (fun i v row wr => ∃ (m G j : Nat) (f : Nat → Hs) (acc : List Hs), j < m ∧ m ≤ n ∧ i = .int .i64 j ∧ row = .slice (some ⟨G, 0, none⟩) m m ∧ v.ownBlock ≠ some G ∧ Below B w wr ∧ HRow wr G 0 m f ∧ wr.ownsRow B 23 32 v acc.length (flatL acc) ∧ acc ++ Tree.path node m f j = R) (fun _ _ row _ => sLen row)
  case atStart => exact ⟨n, B, i0, leaves t, [], h0, Nat.le_refl _, rfl, rfl, by simp [Value.ownBlock], b2, hr2, World.ownsRow_nil _ _ _ _, hR.symm⟩
  case round =>
    clear hr2 b2 hR d1 d2 h0 hT hz
    obtain ⟨m, G, j, f, acc, hj, hmn, rfl, rfl, hG, bel, hr, own, eR⟩ := hrel
    have kr : KIn wr := hK.below bel hB0
    have hs1 := bel.size
    by_cases h1 : 1 < m
    · have hd : decide ((1 : Int) < (m : Int)) = true := by simp; omega
      obtain ⟨j2, hj2⟩ : ∃ j2, j2 = j / 2 := ⟨_, rfl⟩
      have ej2 : (j : Int) / 2 = (j2 : Int) := by omega
      have Hj2 : Hid (j2 = j / 2) := hj2
      clear hj2
      obtain ⟨o, ho⟩ : ∃ o, o = Tree.nb j := ⟨_, rfl⟩
      have hnb := nb_any j (by omega)
      rw [← ho] at hnb
      have Ho : Hid (o = Tree.nb j) := ho
      clear ho
      by_cases hs : o < m
      · have hd2 : decide ((o : Int) < (m : Int)) = true := by simp; omega
        have i0' : (0 : Int) ≤ (o : Int) := by omega
        have i1' : (o : Int) < (m : Int) := by omega
        have r1 : wr.rangeAt G (o * 32) (hv (f o)) := by have := hr o hs; rwa [Nat.zero_add] at this
        have hl1 := load23 r1
        have hp := Tree.path_side node f j (n := m) (by omega) (by rw [← Ho.out]; exact hs)
        rw [← Ho.out, ← Hj2.out] at hp
        have hal : acc.length + 1 ≤ 43 := by rw [← eR, hp] at hRl; simp at hRl; omega
        have HP : Hid (Tree.path node m f j = f o :: Tree.path node (Tree.upLen m) (Tree.up node m f) j2) := hp
        clear hp
        go_wp2_with fail
        refine (hnb _).mono ?_
        rintro e wq ⟨rfl, rfl⟩
        go_wp2_with (refine wpList_append_lies _ rfl _ _ 25 rfl B 23 ti z 32 32 Tryd.underlying25 e1 e2 e3 e4 e5 (by omega) u6 acc.length (flatL acc) rfl (own.alloc _) _ 1 1 (hv (f o)) rfl (hv_length _) (news_alloc _ _ _) (hv_one _) (by omega) (by unfold maxLen; omega) (by omega) (by simp; omega) _ rfl ?_; intro g3 c3 w3 own3 grow3 at3 lt3)
        have bA : Below B w (wq.alloc (.cells (hv (f o)).toArray 23)) := bel.alloc (by omega) _
        have b3 : Below B w w3 := bA.grown grow3 (by simp; omega) (fun k hk => (own.lt k hk).1)
        have hr3 : HRow w3 G 0 m f := fun k hk => grow_range grow3 (World.rangeAt_alloc (hr k hk) _) (fun h => hG h.symm)
        have k3 : KIn w3 := hK.below b3 hB0
        have hB3 := b3.size
        refine (above_any G 0 m m f w3 k3 hr3 (by omega)).mono ?_
        rintro e w4 ⟨rfl, hr4, bq⟩
        have b4 : Below B w w4 := b3.trans (bq.mono (by omega))
        have own4 := own_next own3 bq
        rw [← flatL_snoc] at own4
        have hjm : j2 < Tree.upLen m := by rw [Hj2.out]; exact Tree.half_lt hj
        have hmu : Tree.upLen m < m := Tree.upLen_lt (by omega)
        generalize hu : Tree.upLen m = u at *
        go_wp2_with fail
        go_round
        case rel =>
          refine ⟨u, w3.heap.size, j2, Tree.up node m f, acc ++ [f o], hjm, by omega, rfl, rfl, ?_, b4, hr4, ?_, ?_⟩
          · show some g3 ≠ _
            intro h; injection h with h; omega
          · rw [List.length_append]; exact own4
          · rw [← eR, HP.out]; simp
        case measure => simp [sLen]; omega
      · have hd2 : decide ((o : Int) < (m : Int)) = false := by simp; omega
        have hp := Tree.path_alone node f j (n := m) (by omega) (by rw [← Ho.out]; exact hs)
        rw [← Hj2.out] at hp
        have HP : Hid (Tree.path node m f j = Tree.path node (Tree.upLen m) (Tree.up node m f) j2) := hp
        clear hp
        go_wp2_with fail
        refine (hnb _).mono ?_
        rintro e wq ⟨rfl, rfl⟩
        go_wp2_with fail
        refine (above_any G 0 m m f wq kr hr (by omega)).mono ?_
        rintro e w4 ⟨rfl, hr4, bq⟩
        have b4 : Below B w w4 := bel.trans (bq.mono (by omega))
        have own4 := own_next own bq
        have hjm : j2 < Tree.upLen m := by rw [Hj2.out]; exact Tree.half_lt hj
        have hmu : Tree.upLen m < m := Tree.upLen_lt (by omega)
        have hlt := own.lt
        generalize hu : Tree.upLen m = u at *
        go_wp2_with fail
        go_round
        case rel =>
          refine ⟨u, wq.heap.size, j2, Tree.up node m f, acc, hjm, by omega, rfl, rfl, ?_, b4, hr4, own4, by rw [← eR, HP.out]⟩
          intro h; have := hlt _ h; omega
        case measure => simp [sLen]; omega
    · obtain rfl : m = 1 := by omega
      have hd : decide ((1 : Int) < ((1 : Nat) : Int)) = false := by simp
      have eA : acc = R := by rw [← eR, Tree.path_one node f j (by omega)]; simp
      go_wp2_with fail
      go_ret2
      subst hB
      exact ⟨_, rfl, by rw [← eA]; exact own, bel⟩
end Go.Proofs.YtlpiokepagkahaaDoor
