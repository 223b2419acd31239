/- The reference's rows. -/
import Derived.Test.YtlpiokepagkahaaDoorRAb
namespace Go.Proofs.YtlpiokepagkahaaDoor
set_option linter.unusedVariables false
set_option linter.unusedSimpArgs false
open Go.RowKit
attribute [local go_sem ↓] Go.wp_at_zero Go.wp_at_succ
noncomputable def lvl (n : Nat) (f : Nat → Hs) : Nat → Nat × (Nat → Hs)
  | 0 => (n, f)
  | k + 1 => (Tree.upLen (lvl n f k).1, Tree.up node (lvl n f k).1 (lvl n f k).2)
/-- A list of rows, none of which lies in the block 'row'. -/
def RowsIn (w : World) (row : Option Nat) (vs : List Value) (n : Nat) (f : Nat → Hs) : Prop := ∀ k v, vs[k]? = some v → ∃ g c, v = .slice (some ⟨g, 0, none⟩) (lvl n f k).1 c ∧ HRow w g 0 (lvl n f k).1 (lvl n f k).2 ∧ row ≠ some g ∧ 0 < (lvl n f k).1
theorem RowsIn.next {w w' : World} {row : Option Nat} {vs : List Value} {n : Nat} {f : Nat → Hs} (h : RowsIn w row vs n f) (bq : Below w.heap.size w w') : RowsIn w' row vs n f := fun k v hk => by
  obtain ⟨g, c, h1, h2, h3, h4⟩ := h k v hk
  exact ⟨g, c, h1, h2.next bq, h3, h4⟩
theorem info25x : ∃ (i : TypeInfo) (z : Value), Tryd.prog.info? 25 = some i ∧ i.zero = some z ∧ i.size = 1 ∧ i.bytes = 24 ∧ z.cells.size = 1 := by
  have h : ((Tryd.prog.info? 25).map fun i => (i.size, i.bytes, i.zero.map fun z => z.cells.size)) = some (1, 24, some 1) := by kernel_rfl
  cases hi : Tryd.prog.info? 25 with
  | none => rw [hi] at h; cases h
  | some i =>
    rw [hi] at h
    simp only [Option.map_some, Option.some.injEq, Prod.mk.injEq] at h
    cases hz : i.zero with
    | none => rw [hz] at h; exact absurd h.2.2 (by simp)
    | some z =>
      rw [hz] at h
      exact ⟨i, z, rfl, hz, h.1, h.2.1, by simpa using h.2.2⟩
attribute [local go_sem ↓] ld23 st23 bs25
attribute [local go_sem] run_bs
set_option maxHeartbeats 400000 in
set_option maxRecDepth 8000 in
theorem refRows_any (b off n cap : Nat) (t : Nat → ByteArray) (w : World) (hK : KIn w) (hT : TextsAt w b off n t) (hz : ∀ k, k < n → (t k).size ≤ 2097152) (hn : n ≤ 2097152) (h0 : 0 < n) :
    Calls Tryd.prog 31 #[.slice (some ⟨b, off, none⟩) n cap] w fun e w' => ∃ v vs, e = .returned v ∧ w'.ownsRow w.heap.size 25 1 v vs.length vs ∧ RowsIn w' v.ownBlock vs n (leaves t) ∧ 0 < vs.length ∧ (lvl n (leaves t) (vs.length - 1)).1 ≤ 1 ∧ (∀ k, k + 1 < vs.length → 1 < (lvl n (leaves t) k).1) ∧ Below w.heap.size w w' := by
  obtain ⟨ti, z, e1, e2, e3, e4, e5⟩ := info23x
  obtain ⟨ri, rz, r1, r2, r3, r4, r5⟩ := info25x
  have hB0 := hK.lt
  obtain ⟨F, hF⟩ : ∃ F, F = leaves t := ⟨_, rfl⟩
  have HF : Hid (F = leaves t) := hF
  rw [← hF]
  clear hF
  go_enter Tryd.func31, Tryd.ntmps31
  go_wp2_with fail
  generalize hB : w.heap.size = B at *
  go_loopw [3, 4] (fun v i wr => ∃ k : Nat, k ≤ n ∧ i = .int .i64 (k : Int) ∧ Below B w wr ∧ wr.ownsRow B 23 32 v k (flatL (rowL k F))) (fun _ i _ => n - (intOf i).toNat)
  case atStart => exact ⟨0, by omega, rfl, Below.refl _ _, World.ownsRow_nil _ _ _ _⟩
  case round =>
    obtain ⟨k, hk, rfl, bel, own⟩ := hrel
    have hbs := bel.size
    by_cases hlt : k < n
    · have hd : decide ((k : Int) < (n : Int)) = true := by simp; omega
      have i0 : (0 : Int) ≤ (k : Int) := by omega
      have i1 : (k : Int) < (n : Int) := by omega
      have c1 : wr.cell? ⟨b, off + k, none⟩ = some (.string (t k)) := by
        have hc := hT k hlt
        rw [bel.cell (p := ⟨b, off + k, none⟩) (by rw [← hB]; exact block_lt_of_cell hc)]; exact hc
      obtain ⟨x, hx⟩ : ∃ x, x = leaf (t k).data.toList := ⟨_, rfl⟩
      have Hx : Hid (x = leaf (t k).data.toList) := hx
      have cL := refLeaf_hv (t k) wr (hz k hlt)
      rw [← hx] at cL
      clear hx
      go_wp2_with fail
      refine cL.mono ?_
      rintro e w2 ⟨rfl, bq⟩
      have own2 := own_next own bq
      have hbs2 := bq.size
      go_wp2_with (refine wpList_append_lies _ rfl _ _ 25 rfl B 23 ti z 32 32 Tryd.underlying25 e1 e2 e3 e4 e5 (by omega) u3 k (flatL (rowL k F)) rfl (own2.alloc _) _ 1 1 (hv x) rfl (hv_length _) (news_alloc _ _ _) (hv_one _) (by omega) (by unfold maxLen; omega) (by omega) (by simp; omega) _ rfl ?_; intro g3 c3 w3 own3 grow3 at3 lt3)
      go_round
      case rel =>
        have bw : Below B w w3 := ((bel.trans (bq.mono (by omega))).alloc (by omega) _).grown grow3 (by simp; omega) (fun k hk => (own.lt k hk).1)
        refine ⟨k + 1, by omega, by go_num, bw, ?_⟩
        have e : F k = x := by rw [HF.out, Hx.out]; rfl
        rw [rowL_succ, flatL_snoc, e]
        exact own3
      case measure => simp [intOf]; omega
    · obtain rfl : k = n := by omega
      have hd : decide ((k : Int) < (k : Int)) = false := by simp
      obtain ⟨g, c, rfl, hg1, hg2, hrow⟩ := own_hrow own h0
      have bA : Below wr.heap.size wr (wr.alloc (.cells #[.slice (some ⟨g, 0, none⟩) k c] 25)) := (Below.refl _ _).alloc (Nat.le_refl _) _
      have ownR : (wr.alloc (.cells #[.slice (some ⟨g, 0, none⟩) k c] 25)).ownsRow B 25 1 (.slice (some ⟨wr.heap.size, 0, none⟩) 1 1) 1 [.slice (some ⟨g, 0, none⟩) k c] :=
        ⟨rfl, .inr ⟨wr.heap.size, 1, _, rfl, by omega, heap_alloc_new _ _, by omega, by unfold maxLen; omega, rfl, rfl⟩⟩
      have hrow2 := hrow.next bA
      have bel2 : Below B w (wr.alloc (.cells #[.slice (some ⟨g, 0, none⟩) k c] 25)) := bel.trans (bA.mono (by omega))
      go_wp2_with fail
      generalize hWW : wr.alloc (.cells #[.slice (some ⟨g, 0, none⟩) k c] 25) = WW at *
      generalize wr.heap.size = D at *
      go_loopw [3, 5] (fun row rv wr => ∃ (m G c : Nat) (f' : Nat → Hs) (vs : List Value), lvl k F (vs.length - 1) = (m, f') ∧ 0 < m ∧ vs.length + m ≤ k + 1 ∧ row = .slice (some ⟨G, 0, none⟩) m c ∧ rv.ownBlock ≠ some G ∧ Below B w wr ∧ HRow wr G 0 m f' ∧ wr.ownsRow B 25 1 rv vs.length vs ∧ RowsIn wr rv.ownBlock vs k F ∧ 0 < vs.length ∧ ∀ j, j + 1 < vs.length → 1 < (lvl k F j).1) (fun row _ _ => sLen row)
      case atStart =>
        refine ⟨k, g, c, F, [.slice (some ⟨g, 0, none⟩) k c], rfl, h0, by simp; omega, rfl, by simp [Value.ownBlock]; omega, bel2, hrow2, ownR, fun j v hj => ?_, by simp, fun j hj => by simp at hj⟩
        match j, hj with
        | 0, hj =>
          have : v = .slice (some ⟨g, 0, none⟩) k c := by simpa using hj.symm
          exact ⟨g, c, this, hrow2, by simp [Value.ownBlock]; omega, h0⟩
        | j + 1, hj => simp at hj
      case round =>
        clear ownR hrow2 bel2 bA own bel hrow
        obtain ⟨m, G, c', f', vs, elv, hm0, hml, rfl, hG, bel, hr, own, hR, hv0, hbig⟩ := hrel
        have kr : KIn wr := hK.below bel hB0
        have hbs1 := bel.size
        by_cases h1 : 1 < m
        · have hd : decide ((1 : Int) < (m : Int)) = true := by simp; omega
          have hup : 0 < Tree.upLen m := by unfold Tree.upLen; omega
          have hul : Tree.upLen m < m := Tree.upLen_lt (by omega)
          have ellv : lvl k F vs.length = (Tree.upLen m, Tree.up node m f') := by
            have : vs.length = (vs.length - 1) + 1 := by omega
            rw [this]; show (Tree.upLen (lvl k F (vs.length - 1)).1, Tree.up node (lvl k F (vs.length - 1)).1 (lvl k F (vs.length - 1)).2) = _
            rw [elv]
          have cA := refAbove_any G 0 m c' f' wr kr hr (by omega)
          generalize hu : Tree.upLen m = u at *
          generalize hf2 : Tree.up node m f' = f2 at *
          go_wp2_with fail
          refine cA.mono ?_
          rintro e w2 ⟨v2, rfl, own2, bq⟩
          obtain ⟨G2, c2, rfl, hG2a, hG2b, hr2⟩ := own_hrow own2 hup
          have ownR := own_next own bq
          have hbs2 := bq.size
          have hlt := own.lt
          have nws : ∀ j x, ([.slice (some ⟨G2, 0, none⟩) u c2] : List Value)[j]? = some x → (w2.alloc (.cells #[.slice (some ⟨G2, 0, none⟩) u c2] 25)).cell? ((⟨w2.heap.size, 0, none⟩ : Addr).add j) = some x := fun j x hx =>
            World.news_of_block (cs := #[.slice (some ⟨G2, 0, none⟩) u c2]) (heap_alloc_new w2 _) j x hx
          go_wp2_with (refine wpList_append_lies _ rfl _ _ 35 rfl B 25 ri rz 1 24 Tryd.underlying35 r1 r2 r3 r4 r5 (by omega) u5 vs.length vs rfl (ownR.alloc _) _ 1 1 [.slice (some ⟨G2, 0, none⟩) u c2] rfl rfl nws (by simp [Value.oneCell']) (by omega) (by unfold maxLen; omega) (by omega) (by simp; omega) _ rfl ?_; intro g3 c3 w3 own3 grow3 at3 lt3)
          go_round
          case rel =>
            have bA2 : Below w2.heap.size w2 (w2.alloc (.cells #[.slice (some ⟨G2, 0, none⟩) u c2] 25)) := (Below.refl _ _).alloc (Nat.le_refl _) _
            have bw : Below B w w3 := ((bel.trans (bq.mono (by omega))).trans (bA2.mono (by omega))).grown grow3 (by simp; omega) (fun j hj => (hlt j hj).1)
            have keep : ∀ {g n' : Nat} {h : Nat → Hs}, HRow w2 g 0 n' h → u5.ownBlock ≠ some g → HRow w3 g 0 n' h := fun hh hne j hj => grow_range grow3 (rangeNext (hh j hj) bA2) (fun e => hne e.symm)
            have hG2n : u5.ownBlock ≠ some G2 := fun e => by have := hlt _ e; omega
            have hr3 := keep hr2 hG2n
            have hne3 : ∀ {g : Nat}, g < w2.heap.size → u5.ownBlock ≠ some g → (Value.slice (some ⟨g3, 0, none⟩) (vs.length + 1) c3).ownBlock ≠ some g := @fun g hg1 hg2 e => by
              have e' : g3 = g := by injection e
              rcases at3 with h | h
              · exact hg2 (by rw [h, e'])
              · rw [h] at e'; simp at e'; omega
            refine ⟨u, G2, c2, f2, vs ++ [.slice (some ⟨G2, 0, none⟩) u c2], by rw [List.length_append]; exact ellv, hup, by rw [List.length_append]; simp; omega, rfl, hne3 hG2b hG2n, bw, hr3, by rw [List.length_append]; exact own3, fun j x hj => ?_, by simp, fun j hj => ?_⟩
            · rcases Nat.lt_or_ge j vs.length with hjl | hjl
              · rw [List.getElem?_append_left hjl] at hj
                obtain ⟨gg, cc, q1, q2, q3, q4⟩ := hR j x hj
                have q5 := q2.next bq
                exact ⟨gg, cc, q1, keep q5 q3, hne3 (q5.lt q4) q3, q4⟩
              · rw [List.getElem?_append_right hjl] at hj
                have hj0 : j = vs.length := by
                  have := (List.getElem?_eq_some_iff.1 hj).1; simp at this; omega
                subst hj0
                have : x = .slice (some ⟨G2, 0, none⟩) u c2 := by simpa using hj.symm
                rw [ellv]
                exact ⟨G2, c2, this, hr3, hne3 hG2b hG2n, hup⟩
            · rw [List.length_append] at hj
              rcases Nat.lt_or_ge (j + 1) vs.length with hjl | hjl
              · exact hbig j hjl
              · have : j = vs.length - 1 := by simp at hj; omega
                rw [this, elv]; exact h1
          case measure => simp [sLen]; omega
        · have hd : decide ((1 : Int) < (m : Int)) = false := by simp; omega
          go_wp2_with fail
          go_ret
          subst hB
          exact ⟨_, vs, rfl, own, hR, hv0, by rw [elv]; show m ≤ 1; omega, hbig, bel⟩
end Go.Proofs.YtlpiokepagkahaaDoor
