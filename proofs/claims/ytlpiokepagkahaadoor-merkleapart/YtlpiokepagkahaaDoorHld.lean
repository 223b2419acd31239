/- Whether a path leads a text to a root. -/
import Derived.Test.YtlpiokepagkahaaDoorPth
namespace Go.Proofs.YtlpiokepagkahaaDoor
set_option linter.unusedVariables false
set_option linter.unusedSimpArgs false
open Go.RowKit
attribute [local go_sem ↓] Go.wp_at_zero Go.wp_at_succ
theorem eqH (g h : Hs) (w : World) : (Op.equalIn 10000 23 (.agg (hv g).toArray) (.agg (hv h).toArray)).run Tryd.prog w = .ok (eqb g h) w := by
  rw [hv_b32, hv_b32]; exact eq22 g h w
def PathAt (w : World) (a : Option Addr) (p : List Hs) : Prop := ∀ k x, p[k]? = some x → ∃ b off, a = some ⟨b, off, none⟩ ∧ w.rangeAt b (off + k * 32) (hv x)
theorem PathAt.next {w w' : World} {a : Option Addr} {p : List Hs} (h : PathAt w a p) (bq : Below w.heap.size w w') : PathAt w' a p := fun k x hk => by
  obtain ⟨b, off, h1, h2⟩ := h k x hk
  exact ⟨b, off, h1, rangeNext h2 bq⟩
noncomputable def told (r : Hs) (n i : Nat) (x : Hs) (p : List Hs) : Bool := match Tree.lead node n i x p with | some y => eqb y r | none => false
noncomputable def slP (v : Value) (a b c : Option Value) : Sem Value := Instr.sliceAt 25 v a b c
theorem sl25 (v : Value) (a b c : Option Value) : Instr.sliceAt 25 v a b c = slP v a b c := rfl
theorem slice_one (g o l cap : Nat) (h1 : 1 ≤ l) (h2 : l ≤ cap) (w : World) : (slP (.slice (some ⟨g, o, none⟩) l cap) (some (.int .i64 1)) none none).run Tryd.prog w = .ok (.slice (some ⟨g, if cap = 1 then o else o + 32, none⟩) (l - 1) (cap - 1)) w := by
  unfold slP
  have i1 : (1 : Int) ≤ (l : Int) := by omega
  have i2 : (l : Int) ≤ (cap : Int) := by omega
  have i3 : ¬ (l : Int) < 1 := by omega
  have i4 : ¬ (cap : Int) < (l : Int) := by omega
  by_cases hc : cap = 1
  · subst hc; simp [Instr.sliceAt, go_sem, Tryd.underlying25, i1, i2, i3, i4]
  · simp [Instr.sliceAt, go_sem, Tryd.underlying25, i1, i2, i3, i4, hc]
theorem st23 (p v : Value) : Instr.storeAt 23 p v = stS 23 p v := rfl
theorem store_hv {w : World} {B : Nat} (h : w.there B 0 32) (g : Hs) : (stS 23 (.pointer (some ⟨B, 0, none⟩)) (.agg (hv g).toArray)).run Tryd.prog w = .ok () (w.setCells B 0 (hv g)) := by
  have := run_storeAt_mid (P := Tryd.prog) w B 0 23 (hv g).toArray (there_hv h g) (size_hv g) (all_oneCell_toArray (hv_one g))
  exact this
theorem slice_eq {a : Option Addr} {l l' c c' : Nat} (h1 : l = l') (h2 : c = c') : Value.slice a l c = Value.slice a l' c' := by rw [h1, h2]
theorem told_none (r : Hs) {n : Nat} (i : Nat) (x : Hs) (hn : ¬ n ≤ 1) (hi : Tree.nb i < n) : told r n i x [] = false := by unfold told; rw [Tree.lead_none node i x hn hi]
theorem told_side (r : Hs) {n : Nat} (i : Nat) (x q : Hs) (p : List Hs) (hn : ¬ n ≤ 1) (hi : Tree.nb i < n) : told r n i x (q :: p) = told r (Tree.upLen n) (i / 2) (Tree.led node i x q) p := by unfold told; rw [Tree.lead_side node i x q p hn hi]
theorem told_alone (r : Hs) {n : Nat} (i : Nat) (x : Hs) (p : List Hs) (hn : ¬ n ≤ 1) (hi : ¬ Tree.nb i < n) : told r n i x p = told r (Tree.upLen n) (i / 2) x p := by unfold told; rw [Tree.lead_alone node i x p hn hi]
theorem told_one (r : Hs) {n : Nat} (i : Nat) (x : Hs) (hn : n ≤ 1) : told r n i x [] = eqb x r := by unfold told; rw [Tree.lead_one node i x hn]
theorem told_left (r : Hs) {n : Nat} (i : Nat) (x q : Hs) (p : List Hs) (hn : n ≤ 1) : told r n i x (q :: p) = false := by unfold told; rw [Tree.lead_left node i x q p hn]
attribute [local go_sem ↓] ld23 sl25 st23
attribute [local go_sem] eqH
set_option maxHeartbeats 400000 in
set_option maxRecDepth 8000 in
theorem holds_bad (r : Hs) (n i : Int) (s : ByteArray) (v : Value) (w : World) (h : i < 0 ∨ n ≤ i) :
    Calls Tryd.prog 10 #[.agg (hv r).toArray, .int .i64 n, .int .i64 i, .string s, v] w fun e w' => e = .returned (.bool false) ∧ Below w.heap.size w w' := by
  go_enter Tryd.func10, Tryd.ntmps10
  by_cases h1 : i < 0
  · have d1 : decide (i < 0) = true := by simp; omega
    go_wp2_with fail
    go_ret
    exact ⟨rfl, ((Below.refl _ _).alloc (Nat.le_refl _) _)⟩
  · have d1 : decide (i < 0) = false := by simp; omega
    have d2 : decide (n ≤ i) = true := by simp; omega
    go_wp2_with fail
    go_ret
    exact ⟨rfl, ((Below.refl _ _).alloc (Nat.le_refl _) _)⟩
set_option maxHeartbeats 400000 in
set_option maxRecDepth 8000 in
theorem holds_some (r : Hs) (n0 i0 cap0 : Nat) (s : ByteArray) (a0 : Option Addr) (p0 : List Hs) (w : World) (hK : KIn w) (hP : PathAt w a0 p0) (hs : s.size < 1152921504606845000) (hn : n0 ≤ 9223372036854775807) (hi : i0 < n0) (hc : p0.length ≤ cap0) (hc2 : cap0 ≤ 9223372036854775807) :
    Calls Tryd.prog 10 #[.agg (hv r).toArray, .int .i64 (n0 : Int), .int .i64 (i0 : Int), .string s, .slice a0 p0.length cap0] w fun e w' => e = .returned (.bool (told r n0 i0 (leaf s.data.toList) p0)) ∧ Below w.heap.size w w' := by
  have d1 : decide ((i0 : Int) < 0) = false := by simp
  have d2 : decide ((n0 : Int) ≤ (i0 : Int)) = false := by simp; omega
  have hB0 := hK.lt
  obtain ⟨R, hR⟩ : ∃ R, R = told r n0 i0 (leaf s.data.toList) p0 := ⟨_, rfl⟩
  rw [← hR]
  obtain ⟨l0, hl0⟩ : ∃ l0, l0 = p0.length := ⟨_, rfl⟩
  rw [← hl0] at hc ⊢
  have Hl0 : Hid (l0 = p0.length) := hl0
  clear hl0
  go_enter Tryd.func10, Tryd.ntmps10
  go_wp2_with fail
  have b0 : Below w.heap.size w (w.alloc (.cells (hv r).toArray 23)) := (Below.refl _ _).alloc (Nat.le_refl _) _
  have q0 : (w.alloc (.cells (hv r).toArray 23)).rangeAt w.heap.size 0 (hv r) := range_of_row (heap_alloc_new _ _)
  refine (leaf_hv s _ (hK.seq b0) hs).mono ?_
  rintro e w2 ⟨rfl, bq⟩
  have b2 := below_seq b0 bq
  have q2 := rangeNext q0 bq
  have hBw2 : w.heap.size < w2.heap.size := by have := bq.size; simp at this; omega
  clear b0 q0 bq
  obtain ⟨x0, hx0⟩ : ∃ x, x = leaf s.data.toList := ⟨_, rfl⟩
  rw [← hx0] at hR ⊢
  clear hx0
  have tn := there_new w2 23
  go_wp2_with (refine wpList_store_mid rfl 23 _ _ rfl w2.heap.size 0 _ rfl rfl (there_hv tn _) (size_hv _) (all_oneCell_toArray (hv_one _)) ?_)
  have bA : Below w2.heap.size w2 ((w2.alloc (.cells zero32 23)).setCells w2.heap.size 0 (hv x0)) := below_setCells (Nat.le_refl _) _ _ ((Below.refl _ _).alloc (Nat.le_refl _) _)
  obtain ⟨W, hW, bW, qW, xW, tW⟩ : ∃ W, W = (w2.alloc (.cells zero32 23)).setCells w2.heap.size 0 (hv x0) ∧ Below w.heap.size w W ∧ W.rangeAt w.heap.size 0 (hv r) ∧ W.rangeAt w2.heap.size 0 (hv x0) ∧ W.there w2.heap.size 0 32 :=
    ⟨_, rfl, below_seq b2 bA, rangeNext q2 bA, range_new tn x0, World.there_setCells tn _ _ _⟩
  rw [← hW]
  clear hW bA tn q2 b2
  generalize hH : w2.heap.size = H at *
  generalize hB : w.heap.size = B at *
  simp only [Act.put]
  go_loopw [1, 2, 4] (fun nv iv v wr => ∃ (m j d : Nat) (a : Option Addr) (x : Hs), j < m ∧ m ≤ n0 ∧ d ≤ l0 ∧ nv = .int .i64 m ∧ iv = .int .i64 j ∧ v = .slice a (l0 - d) (cap0 - d) ∧ (∀ b off, a0 = some ⟨b, off, none⟩ → ∃ o', a = some ⟨b, o', none⟩ ∧ (d < l0 → o' = off + d * 32)) ∧ Below B w wr ∧ wr.rangeAt B 0 (hv r) ∧ wr.rangeAt H 0 (hv x) ∧ wr.there H 0 32 ∧ R = told r m j x (p0.drop d)) (fun nv _ _ _ => (intOf nv).toNat)
  case atStart => exact ⟨n0, i0, 0, a0, x0, hi, Nat.le_refl _, Nat.zero_le _, rfl, rfl, rfl, fun b off h => ⟨off, h, fun _ => by omega⟩, bW, qW, xW, tW, hR⟩
  case round =>
    clear bW qW xW tW hR d1 d2 hi
    obtain ⟨m, j, d, a, x, hj, hmn, hdl, rfl, rfl, rfl, ha, bel, q, xr, th, eR⟩ := hrel
    have kr : KIn wr := hK.below bel hB0
    have hs1 := bel.size
    by_cases h1 : 1 < m
    · have hd : decide ((1 : Int) < (m : Int)) = true := by simp; omega
      obtain ⟨j2, hj2⟩ : ∃ j2, j2 = j / 2 := ⟨_, rfl⟩
      have ej2 : (j : Int) / 2 = (j2 : Int) := by omega
      have Hj2 : Hid (j2 = j / 2) := hj2
      clear hj2
      obtain ⟨g2, hg2⟩ : ∃ g, g = m / 2 := ⟨_, rfl⟩
      have eg2 : (m : Int) / 2 = (g2 : Int) := by omega
      obtain ⟨m2, hm2⟩ : ∃ g, g = Tree.upLen m := ⟨_, rfl⟩
      have em2 : (g2 : Int) + (m : Int) % 2 = (m2 : Int) := by rw [hm2]; unfold Tree.upLen; omega
      have Hm2 : Hid (m2 = Tree.upLen m ∧ g2 = m / 2) := ⟨hm2, hg2⟩
      have hmu : m2 < m := by rw [hm2]; exact Tree.upLen_lt (by omega)
      have hjm : j2 < m2 := by rw [hm2, Hj2.out]; exact Tree.half_lt hj
      clear hm2 hg2
      have ew : IntKind.i64.wrap (m2 : Int) = (m2 : Int) := by rw [IntKind.wrap_i64]; omega
      obtain ⟨o, ho⟩ : ∃ o, o = Tree.nb j := ⟨_, rfl⟩
      have hnb := nb_any j (by omega)
      rw [← ho] at hnb
      have Ho : Hid (o = Tree.nb j) := ho
      clear ho
      by_cases hs : o < m
      · have hd2 : decide ((o : Int) < (m : Int)) = true := by simp; omega
        by_cases hl : d < l0
        · have hne : ((((l0 - d : Nat)) : Int) == 0) = false := by simp; omega
          have hlen : d < p0.length := by have := Hl0.out; omega
          have hg : p0[d]? = some p0[d] := List.getElem?_eq_getElem hlen
          obtain ⟨b, off, hab, hrng⟩ := hP d _ hg
          obtain ⟨o1, hao, ho1⟩ := ha b off hab
          have ho1' := ho1 hl
          subst hao ho1'
          have hdrop : p0.drop d = p0[d] :: p0.drop (d + 1) := List.drop_eq_getElem_cons hlen
          generalize hy : p0[d] = y at *
          have r1 : wr.rangeAt b (off + d * 32) (hv y) := rangeBelow hrng bel (by
            have h0 := hrng 0 _ (hv_get _ 0 (by omega)); rw [← hB]; exact block_lt_of_cell h0)
          have hl1 := load23 (w := wr.drew) (World.rangeAt_drew _ _ _ _ |>.2 r1)
          have hl2 := load23 (w := wr.drew) (World.rangeAt_drew _ _ _ _ |>.2 xr)
          obtain ⟨l, hlq⟩ : ∃ l, l = l0 - d := ⟨_, rfl⟩
          obtain ⟨cp, hcp⟩ : ∃ c, c = cap0 - d := ⟨_, rfl⟩
          rw [← hlq] at hne
          rw [← hlq, ← hcp]
          have Hlq : Hid (l = l0 - d ∧ cp = cap0 - d) := ⟨hlq, hcp⟩
          have l1 : 0 < l := by omega
          have hsl := slice_one b (off + d * 32) l cp (by omega) (by omega)
          clear hlq hcp
          go_wp2_with fail
          refine (hnb _).mono ?_
          rintro e wq ⟨rfl, rfl⟩
          go_wp2_with fail
          go_region_law (go_simp; go_at_call 26; refine (led_any x y j _ (kr.seq ((Below.refl _ _).drew))).mono ?_; rintro e w3 ⟨rfl, bq⟩; have t3 := thereNext (World.there_drew _ _ _ _ |>.2 th) bq; have hst := store_hv t3 (Tree.led node j x y))
          all_goals (go_wp2_with fail; go_round)
          all_goals first
            | (show (intOf (.int .i64 (m2 : Int))).toNat < (intOf (.int .i64 (m : Int))).toNat; simp [intOf]; omega)
            | (have b3 : Below wq.heap.size wq w3 := undrew bq
               have hout := Hlq.out
               refine ⟨m2, j2, d + 1, _, Tree.led node j x y, hjm, by omega, by omega, rfl, rfl, slice_eq (by omega) (by omega), fun b' off' h => ?_, below_setCells (by omega) _ _ (bel.trans (b3.mono (by omega))), World.rangeAt_setCells_apart (rangeNext q b3) _ _ _ (Or.inl (by omega)), range_new t3 _, World.there_setCells t3 _ _ _, ?_⟩
               · rw [hab] at h
                 injection h with h
                 injection h with h1 h2
                 subst h1 h2
                 refine ⟨_, rfl, fun hlt => ?_⟩
                 rw [if_neg (by omega)]; omega
               · rw [eR, hdrop, told_side r j x y _ (by omega) (by rw [← Ho.out]; exact hs), Hm2.out.1, Hj2.out])
        · have hd0 : l0 - d = 0 := by omega
          have hem : p0.drop d = [] := List.drop_eq_nil_of_le (by have := Hl0.out; omega)
          have eF : R = false := by rw [eR, hem, told_none r j x (by omega) (by rw [← Ho.out]; exact hs)]
          rw [hd0]
          clear eR
          subst eF
          go_wp2_with fail
          refine (hnb _).mono ?_
          rintro e wq ⟨rfl, rfl⟩
          go_wp2_with fail
          go_ret
          subst hB
          exact ⟨rfl, bel⟩
      · have hd2 : decide ((o : Int) < (m : Int)) = false := by simp; omega
        go_wp2_with fail
        refine (hnb _).mono ?_
        rintro e wq ⟨rfl, rfl⟩
        go_wp2_with fail
        go_round
        case rel => exact ⟨m2, j2, d, a, x, hjm, by omega, hdl, rfl, rfl, rfl, ha, bel, q, xr, th, by rw [eR, told_alone r j x _ (by omega) (by rw [← Ho.out]; exact hs), Hm2.out.1, Hj2.out]⟩
        case measure => simp [intOf]; omega
    · obtain rfl : m = 1 := by omega
      have hd : decide ((1 : Int) < ((1 : Nat) : Int)) = false := by simp
      have hl1 := load23 xr
      have hl2 := load23 q
      by_cases hl : d < l0
      · have hne : ((((l0 - d : Nat)) : Int) == 0) = false := by simp; omega
        have hlen : d < p0.length := by have := Hl0.out; omega
        have eF : R = false := by rw [eR, List.drop_eq_getElem_cons hlen, told_left r j x _ _ (by omega)]
        clear eR
        subst eF
        go_wp2_with fail
        go_ret
        subst hB
        exact ⟨rfl, bel⟩
      · have hd0 : l0 - d = 0 := by omega
        have hem : p0.drop d = [] := List.drop_eq_nil_of_le (by have := Hl0.out; omega)
        have eF : R = eqb x r := by rw [eR, hem, told_one r j x (by omega)]
        rw [hd0]
        clear eR
        subst eF
        go_wp2_with fail
        go_ret
        subst hB
        exact ⟨rfl, bel⟩
end Go.Proofs.YtlpiokepagkahaaDoor
