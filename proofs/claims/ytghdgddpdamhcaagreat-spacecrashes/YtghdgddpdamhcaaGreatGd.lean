import Derived.Test.YtghdgddpdamhcaaGreatSpt
import Derived.Test.YtghdgddpdamhcaaGreatSpf
/- lay: blocks of the bitmap written. -/
namespace Go.Proofs.YtghdgddpdamhcaaGreat
set_option linter.unusedVariables false
set_option linter.unusedSimpArgs false
open Go.RowKit Go.Maps
variable {w0 w w' : World} {q p n x sb first : Nat} {W : Wl} {o : Bool} {B : List ByteArray} {X : List (Th → Prop)}
theorem SS.write (h : SS w0 w q p n x sb first W false B X) (k : Nat) (hk : k < n - 24) (t : ByteArray) (ht : t.size = 512) : Calls Tryz.prog 16 #[pt x, .int .i64 (k : Int), .string t] w fun e w' => e = .returned (.int .i64 0) ∧ SS w0 w' q p n x sb first (insW k t W) false B X := by
  obtain ⟨st, E, ⟨ok, hf⟩, hn, hR, hI⟩ := h
  have hl := hR.length hI
  refine (twrite_run E (by rw [ok.len]; omega) 0 rfl k t (m := n - 24) (by rw [ok.len]) hk ht hR (by omega)).mono ?_
  rintro e w' ⟨rfl, E'⟩
  exact ⟨rfl, st, E', ⟨ok, hf⟩, hn, hR.ins, hI.ins hk ht⟩
set_option maxRecDepth 100000 in
theorem SS.lay0 (h : SS w0 w q p n x sb first W o B X) (a : Option Addr) (c : Nat) : Calls Tryz.prog 53 #[pt sb, .slice a 0 c] w fun e w' => e = .returned (.int .i64 0) ∧ SS w0 w' q p n x sb first W o B X := by
  have H : Hid (SS w0 w q p n x sb first W o B X) := ⟨h⟩
  clear h
  go_enter Tryz.func53, Tryz.ntmps53
  go_wp2
  go_loopw [10] (fun i wr => i = .int .i64 0 ∧ wr = w) (fun _ _ => 0)
  case atStart => exact ⟨rfl, rfl⟩
  case round =>
    obtain ⟨rfl, rfl⟩ := hrel
    go_wp2
    go_ret
    exact ⟨rfl, H.out⟩
set_option maxRecDepth 100000 in
theorem SS.lay1 (h : SS w0 w q p n x sb first W false B X) (g c : Nat) (k : Nat) (hk : k < n - 24) (t : ByteArray) (ht : t.size = 512)
    (hc : ∀ w1, SS w0 w1 q p n x sb first W false B X → w1.cell? ⟨g, 0, none⟩ = some (.int .i64 (k : Int)) ∧ w1.cell? ⟨g, 1, none⟩ = some (.string t)) :
    Calls Tryz.prog 53 #[pt sb, .slice (some ⟨g, 0, none⟩) 1 c] w fun e w' => e = .returned (.int .i64 0) ∧ SS w0 w' q p n x sb first (insW k t W) false B X := by
  have H : Hid (SS w0 w q p n x sb first W false B X) := ⟨h⟩
  have HW : Hid (∀ w1 X, SS w0 w1 q p n x sb first W false B X → Calls Tryz.prog 16 #[pt x, .int .i64 (k : Int), .string t] w1 fun e w' => e = .returned (.int .i64 0) ∧ SS w0 w' q p n x sb first (insW k t W) false B X) := ⟨fun w1 X h1 => h1.write k hk t ht⟩
  have HC : Hid (∀ w1, SS w0 w1 q p n x sb first W false B X → w1.cell? ⟨g, 0, none⟩ = some (.int .i64 (k : Int)) ∧ w1.cell? ⟨g, 1, none⟩ = some (.string t)) := ⟨hc⟩
  clear h hc
  go_enter Tryz.func53, Tryz.ntmps53
  go_wp2
  go_loopw [10] (fun i wr => (i = .int .i64 0 ∧ Hid (SS w0 wr q p n x sb first W false B X)) ∨ (i = .int .i64 1 ∧ Hid (SS w0 wr q p n x sb first (insW k t W) false B X))) (fun i _ => 1 - (intOf i).toNat)
  case atStart => exact .inl ⟨rfl, H⟩
  case round =>
    rcases hrel with ⟨rfl, H4⟩ | ⟨rfl, H4⟩
    · obtain ⟨c0, c1⟩ := HC.out _ H4.out
      have h5 := (H4.out.alloc #[.int .i64 (k : Int), .string t] 95).drew
      have q2 := HW.out _ _ h5
      have S5 := And.intro h5.c0 (And.intro (h5.cellM (b := wr.heap.size) (cs := #[.int .i64 (k : Int), .string t]) (ty := 95) (List.mem_append_right _ (by simp)) 0) (h5.cellM (b := wr.heap.size) (cs := #[.int .i64 (k : Int), .string t]) (ty := 95) (List.mem_append_right _ (by simp)) 1))
      clear H h5
      go_wp2_with fail
      clear c0 c1
      generalize wr.heap.size = G at *
      generalize wr.alloc (.cells #[.int .i64 (k : Int), .string t] 95) = w5 at *
      go_region_held3 (fun w' => w'.cell? ⟨sb, 0, none⟩ = some (pt x) ∧ w'.cell? ⟨G, 0, none⟩ = some (.int .i64 (k : Int)) ∧ w'.cell? ⟨G, 1, none⟩ = some (.string t)) (first | exact S5 | exact And.intro h6.c0 (And.intro (h6.cellM (b := G) (cs := #[.int .i64 (k : Int), .string t]) (ty := 95) (List.mem_append_right _ (by simp)) 0) (h6.cellM (b := G) (cs := #[.int .i64 (k : Int), .string t]) (ty := 95) (List.mem_append_right _ (by simp)) 1)) | assumption)
        ((go_at_call 16; refine q2.mono ?_; rintro e w6 ⟨rfl, h6⟩))
      all_goals
        have H6 : Hid (SS w0 w6 q p n x sb first (insW k t W) false B X) := ⟨h6.init⟩
        clear h6 S5 q2
        go_wp2
        go_roundw
        case rel => exact .inr ⟨rfl, H6⟩
        case measure => simp [intOf]
    · go_wp2
      go_ret
      exact ⟨rfl, H4.out⟩
end Go.Proofs.YtghdgddpdamhcaaGreat

/- turn. -/
namespace Go.Proofs.YtghdgddpdamhcaaGreat
set_option linter.unusedVariables false
set_option linter.unusedSimpArgs false
open Go.RowKit Go.Maps
variable {w0 w w' : World} {q p n x sb first : Nat} {W : Wl} {o : Bool} {B : List ByteArray} {X : List (Th → Prop)}
theorem search_any (b off cap : Nat) (l : List Nat) (w : World) (hl : l.length ≤ 4096) (hk : ∀ k ∈ l, k < 4096) (hr : l.Pairwise (· < ·)) (hb : b < w.heap.size)
    (hc : ∀ j, j < l.length → w.cell? ⟨b, off + j, none⟩ = some (.int .i64 ((l.getD j 0 : Nat) : Int))) :
    Calls Tryz.prog 66 #[.slice (some ⟨b, off, none⟩) l.length cap, .int .i64 4096] w fun e w' => e = .returned (.int .i64 (l.length : Int)) ∧ Below w.heap.size w w' := by
  have e1 : (l.map fun k : Nat => (k : Int)).toArray.size = l.length := by simp
  have hg : ∀ i, i < l.length → (l.map fun k : Nat => (k : Int)).toArray[i]! = ((l.getD i 0 : Nat) : Int) := fun i hi => by
    rw [getElem!_pos _ i (by simpa using hi)]
    simp [List.getD_eq_getElem?_getD, List.getElem?_eq_getElem hi]
  have hlt : ∀ i, i < l.length → l.getD i 0 < 4096 := fun i hi => hk _ (by rw [List.getD_eq_getElem?_getD, List.getElem?_eq_getElem hi]; exact List.getElem_mem _)
  have := Any.sort_SearchInts Tryz.searchInts b off cap (l.map fun k : Nat => (k : Int)).toArray 4096 w (fun i hi => by rw [e1] at hi; rw [hg i hi]; exact hc i hi) hb (by rw [e1]; omega) (fun a c hac hcl h => by
    rw [e1] at hcl
    have h2 := of_decide_eq_true h
    rw [hg a (by omega)] at h2
    have := hlt a (by omega)
    omega)
  have e2 : (l.map fun k : Nat => (k : Int)).countP (fun y => !decide ((4096 : Int) ≤ y)) = l.length := by
    rw [← List.length_map (f := fun k : Nat => (k : Int)), List.countP_eq_length]
    intro y hy
    obtain ⟨k, hk1, rfl⟩ := List.mem_map.1 hy
    have := hk k hk1
    simp; omega
  rw [e1] at this
  simp only [List.toList_toArray] at this
  rw [e2] at this
  exact this
/-- a row of block numbers that stays where it is while these things stand -/
def Nums (w0 : World) (q p n x sb first : Nat) (W : Wl) (B : List ByteArray) (X : List (Th → Prop)) (a : Option Addr) (l : List Nat) : Prop :=
  ∀ w1 Y, SS w0 w1 q p n x sb first W false B (X ++ Y) → ∀ j, j < l.length → ∃ b off, a = some ⟨b, off, none⟩ ∧ b < w1.heap.size ∧ w1.cell? ⟨b, off + j, none⟩ = some (.int .i64 ((l.getD j 0 : Nat) : Int))
theorem SS.pushW (h : SS w0 w q p n x sb first W o B X) {v : Value} {l : Il} (b : Below w.heap.size w w') (ow : w'.ownsRow 0 95 2 v l.length (wci l)) (f : ∀ k, v.ownBlock = some k → w.heap.size ≤ k) : SS w0 w' q p n x sb first W o B (X ++ [rowW v l]) := by
  obtain ⟨st, E, r⟩ := h
  exact ⟨st, E.pushW b ow f, r⟩
theorem SS.rowW1 {X Y : List (Th → Prop)} {g c k : Nat} {t : ByteArray} (h : SS w0 w q p n x sb first W o B (X ++ [rowW (rw_ g 1 c) (ints [(k, t)])])) : w.cell? ⟨g, 0, none⟩ = some (.int .i64 (k : Int)) ∧ w.cell? ⟨g, 1, none⟩ = some (.string t) := by
  obtain ⟨st, E, r⟩ := h
  have := E.rowWAt (X.length + 4) (v := rw_ g 1 c) (l := ints [(k, t)]) (by simp)
  have c0 := this.cellAt 0 (by simp [ints])
  have c1 := this.cellAt 1 (by simp [ints])
  exact ⟨c0, c1⟩
set_option maxRecDepth 100000 in
theorem SS.turn0 (h : SS w0 w q p n x sb first W false B X) (a : Option Addr) (c : Nat) (was : Bool) : Calls Tryz.prog 39 #[pt sb, .slice a 0 c, .bool was] w fun e w' => e = .returned (.int .i64 0) ∧ SS w0 w' q p n x sb first W false B X := by
  have q1 := h.lay0 none 0
  clear h
  go_enter Tryz.func39, Tryz.ntmps39
  go_wp2
  go_loopw [1, 7, 8] (fun v tu un wr => v = .slice a 0 c ∧ tu = .slice none 0 0 ∧ un = .int .i64 0 ∧ wr = w) (fun _ _ _ _ => 0)
  case atStart => exact ⟨rfl, rfl, rfl, rfl⟩
  case round =>
    obtain ⟨rfl, rfl, rfl, rfl⟩ := hrel
    go_wp2_with fail
    refine q1.mono ?_
    rintro e w2 ⟨rfl, h2⟩
    dsimp only
    go_wp2
    go_ret
    exact ⟨rfl, h2⟩
set_option maxRecDepth 100000 in
theorem SS.turn1 (h : SS w0 w q p n x sb first W false B X) (hf : first + 1 ≤ n - 24) (b off c : Nat) (l : List Nat) (was : Bool) (hl0 : l ≠ []) (hlc : l.length ≤ c) (hl : l.length ≤ 4096) (hk : ∀ k ∈ l, k < 4096) (hr : l.Pairwise (· < ·)) (hN : Nums w0 q p n x sb first W B X (some ⟨b, off, none⟩) l) :
    Calls Tryz.prog 39 #[pt sb, .slice (some ⟨b, off, none⟩) l.length c, .bool was] w fun e w' => (allB (cur W B first) was l = true ∧ e = .returned (.int .i64 0) ∧ SS w0 w' q p n x sb first (insW first (flipA (cur W B first) l) W) false B X) ∨ (allB (cur W B first) was l = false ∧ e = .returned (.int .i64 1) ∧ SS w0 w' q p n x sb first W false B X) := by
  have hn := h.nn
  have hT := h.curSz first (by omega)
  have hp : 1 ≤ l.length := List.length_pos_iff.2 hl0
  have HC : Hid (∀ w1, SS w0 w1 q p n x sb first W false B X → b < w1.heap.size ∧ ∀ j, j < l.length → w1.cell? ⟨b, off + j, none⟩ = some (.int .i64 ((l.getD j 0 : Nat) : Int))) := ⟨fun w1 h1 => by
    have hh := hN w1 [] (by simpa using h1)
    refine ⟨?_, fun j hj => ?_⟩
    · obtain ⟨b', off', e, h2, _⟩ := hh 0 (by omega)
      cases e; exact h2
    · obtain ⟨b', off', e, h2, h3⟩ := hh j hj
      cases e; exact h3⟩
  have HS : Hid (∀ w1, SS w0 w1 q p n x sb first W false B X → Calls Tryz.prog 66 #[.slice (some ⟨b, off, none⟩) l.length c, .int .i64 4096] w1 fun e w' => e = .returned (.int .i64 (l.length : Int)) ∧ SS w0 w' q p n x sb first W false B X) := ⟨fun w1 h1 => by
    obtain ⟨g1, g2⟩ := HC.out w1 h1
    refine (search_any b off c l w1 hl hk hr g1 g2).mono ?_
    rintro e w' ⟨rfl, hb⟩
    exact ⟨rfl, h1.below hb⟩⟩
  have HR : Hid (∀ w1, SS w0 w1 q p n x sb first W false B X → Calls Tryz.prog 17 #[pt x, .int .i64 (first : Int)] w1 fun e w' => e = .returned (.tuple #[.string (cur W B first), .int .i64 0]) ∧ SS w0 w' q p n x sb first W false B X) := ⟨fun w1 h1 => h1.read first (by omega)⟩
  have HF : Hid (∀ w1 c1, SS w0 w1 q p n x sb first W false B X → Calls Tryz.prog 67 #[.string (cur W B first), .slice (some ⟨b, off, none⟩) l.length c1, .bool was] w1 fun e w' => e = .returned (if allB (cur W B first) was l then .tuple #[.string (flipA (cur W B first) l), .bool true] else .tuple #[.string ⟨#[]⟩, .bool false]) ∧ SS w0 w' q p n x sb first W false B X) := ⟨fun w1 c1 h1 => by
    obtain ⟨g1, g2⟩ := HC.out w1 h1
    refine (flipped_any _ hT _ c1 l was w1 hl hk (fun j hj => ⟨b, off, rfl, g1, g2 j hj⟩)).mono ?_
    rintro e w' ⟨rfl, hb⟩
    exact ⟨rfl, h1.below hb⟩⟩
  have HL : Hid (∀ w1 g c1 t, t.size = 512 → SS w0 w1 q p n x sb first W false B (X ++ [rowW (rw_ g 1 c1) (ints [(first, t)])]) → Calls Tryz.prog 53 #[pt sb, .slice (some ⟨g, 0, none⟩) 1 c1] w1 fun e w' => e = .returned (.int .i64 0) ∧ SS w0 w' q p n x sb first (insW first t W) false B X) := ⟨fun w1 g c1 t ht h1 => by
    refine (h1.lay1 g c1 first (by omega) t ht (fun w2 h2 => h2.rowW1 (Y := []))).mono ?_
    rintro e w' ⟨rfl, h3⟩
    exact ⟨rfl, h3.init⟩⟩
  have HZ : Hid ((flipA (cur W B first) l).size = 512) := ⟨by rw [flipA_size]; exact hT⟩
  have hz : l.getD 0 0 < 4096 := hk _ (by rw [List.getD_eq_getElem?_getD, List.getElem?_eq_getElem (by omega)]; exact List.getElem_mem _)
  have H0 : Hid (SS w0 w q p n x sb first W false B X) := ⟨h⟩
  have HD : Hid (∀ w1, SS w0 w1 q p n x sb first W false B X → w1.cell? ⟨b, off, none⟩ = some (.int .i64 ((l.getD 0 0 : Nat) : Int))) := ⟨fun w1 h1 => (HC.out w1 h1).2 0 (by omega)⟩
  generalize cur W B first = T at *
  generalize l.getD 0 0 = z0 at *
  generalize hA : allB T was l = A at *
  generalize flipA T l = T2 at *
  generalize hll : l.length = L at *
  clear hN hr hk h hl0 hA HC
  have hp0 : (z0 : Int) / 4096 = 0 := by omega
  have hLi : ¬ ((L : Int) = 0) := by omega
  have hLi2 : (0 : Int) < (L : Int) := by omega
  have hLc : (L : Int) ≤ (c : Int) := by omega
  clear hll
  go_enter Tryz.func39, Tryz.ntmps39
  go_wp2
  go_loopw [1, 7, 8] (fun v tu un wr => (v = .slice (some ⟨b, off, none⟩) L c ∧ tu = .slice none 0 0 ∧ un = .int .i64 0 ∧ Hid (SS w0 wr q p n x sb first W false B X)) ∨ (∃ va cc g c1, v = .slice va 0 cc ∧ tu = .slice (some ⟨g, 0, none⟩) 1 c1 ∧ un = .int .i64 0 ∧ Hid (A = true) ∧ Hid (SS w0 wr q p n x sb first W false B (X ++ [rowW (rw_ g 1 c1) (ints [(first, T2)])])))) (fun v _ _ _ => slen v)
  case atStart => exact .inl ⟨rfl, rfl, rfl, H0⟩
  case round =>
    rcases hrel with ⟨rfl, rfl, rfl, H1⟩ | ⟨va, cc, g, c1, rfl, rfl, rfl, HA, H1⟩
    · have d0 := HD.out _ H1.out
      have q1 := HS.out _ H1.out
      clear H0
      go_wp2_with fail
      refine q1.mono ?_
      rintro e w2 ⟨rfl, h2⟩
      have H2 : Hid (SS w0 w2 q p n x sb first W false B X) := ⟨h2⟩
      clear h2 H1 d0 q1
      dsimp only
      go_wp2_with fail
      all_goals
        have S2 := And.intro H2.out.drew.c0 H2.out.drew.c1
        have q2 := HR.out _ H2.out.drew
        have hw0 : IntKind.i64.wrap ((first : Int) + 0) = (first : Int) := by rw [IntKind.wrap_i64]; omega
        have hq3 : IntKind.i64.wrap (first : Int) = (first : Int) := by rw [IntKind.wrap_i64]; omega
        go_region_held3 (fun w' => w'.cell? ⟨sb, 0, none⟩ = some (pt x) ∧ w'.cell? ⟨sb, 1, none⟩ = some (.int .i64 (first : Int))) (first | exact S2 | exact And.intro h3.c0 h3.c1 | assumption)
          ((go_at_call 17; refine q2.mono ?_; rintro e w3 ⟨rfl, h3⟩))
        all_goals
          have H3 : Hid (SS w0 w3 q p n x sb first W false B X) := ⟨h3⟩
          clear h3 H2 S2 q2
          go_wp2_with fail
          refine (HF.out _ _ H3.out).mono ?_
          rintro e w4 ⟨rfl, h4⟩
          have H4 : Hid (SS w0 w4 q p n x sb first W false B X) := ⟨h4⟩
          clear h4 H3
          cases hA : A with
          | false =>
            rw [if_neg Bool.false_ne_true]
            dsimp only
            go_wp2
            go_ret
            exact .inr ⟨hA, rfl, H4.out⟩
          | true =>
            rw [if_pos rfl]
            have HA : Hid (A = true) := ⟨hA⟩
            have e0 := H4.out.c0
            have e1 := H4.out.c1
            clear hA
            dsimp only
            go_wp2_with (at_builtin; refine app_write (v := .slice none 0 0) (g := w4.heap.size) (l := []) (i := (first : Int)) first rfl rfl rfl (World.ownsRow_nil _ _ _ _) (by decide) rfl _ _ rfl rfl rfl ?_; intro y2 c2 w8 q8 g8 n8)
            have hy : w4.heap.size ≤ y2 := by
              rcases n8 with n8 | n8
              · cases n8
              · exact n8
            have H8 : Hid (SS w0 w8 q p n x sb first W false B (X ++ [rowW (rw_ y2 1 c2) (ints [(first, T2)])])) := ⟨H4.out.pushW (l := ints [(first, T2)]) ((Below.refl _ _).grown g8 (Nat.le_refl _) (fun k e => by cases e)) (by rw [wci_ints, ints_length]; exact q8) (fun k e => by cases e; exact hy)⟩
            refine ⟨.inr ⟨_, _, y2, c2, rfl, rfl, rfl, HA, H8⟩, ?_⟩
            simp only [slen]; omega
    · have q1 := HL.out _ _ _ _ HZ.out H1.out
      go_wp2_with fail
      refine q1.mono ?_
      rintro e w2 ⟨rfl, h2⟩
      dsimp only
      go_wp2
      go_ret
      exact .inl ⟨HA.out, rfl, h2⟩
end Go.Proofs.YtghdgddpdamhcaaGreat
