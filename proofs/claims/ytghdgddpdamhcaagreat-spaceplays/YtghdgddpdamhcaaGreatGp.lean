import Derived.Test.YtghdgddpdamhcaaGreatGe
import Derived.Test.YtghdgddpdamhcaaGreatGf
import Derived.Deep.RegionLaw
import Derived.Deep.AppendLies
import Derived.Test.YtghdgddpdamhcaaGreatGh
import Derived.Deep.RegionWith
import Derived.Test.YtghdgddpdamhcaaGreatGk
/- Left of a space whose transaction is over. -/
namespace Go.Proofs.YtghdgddpdamhcaaGreat
set_option linter.unusedVariables false
set_option linter.unusedSimpArgs false
open Go.RowKit Go.Maps
variable {w0 w w' : World} {q p n x sb first : Nat} {W : Wl} {o : Bool} {B : List ByteArray} {X : List (Th → Prop)}
theorem SS.readOver (h : SS w0 w q p n x sb first W true B X) (v : Value) : Calls Tryz.prog 17 #[pt x, v] w fun e w' => e = .returned (.tuple #[.string ⟨#[]⟩, .int .i64 8]) ∧ SS w0 w' q p n x sb first W true B X := by
  obtain ⟨st, E, r⟩ := h
  refine (tread_over E 2 rfl v).mono ?_
  rintro e w' ⟨rfl, E'⟩
  exact ⟨rfl, st, E', r⟩
set_option maxRecDepth 100000 in
set_option maxHeartbeats 4000000 in
theorem free_over (g : Nat) (cb : Array Value) (hf4 : first < 4000) {Y : List (Th → Prop)} (w : World) (h : SS w0 w q p n x sb first W true B Y) :
    Calls Tryz.prog 33 #[pt sb, .func (.func g) #[] cb] w fun e w' => e = .returned (.int .i64 8) ∧ SS w0 w' q p n x sb first W true B Y := by
  have hn := h.nn
  have H : Hid (SS w0 w q p n x sb first W true B Y) := ⟨h⟩
  clear h
  go_enter Tryz.func33, Tryz.ntmps33
  go_wp2_with fail
  have H1 : Hid (SS w0 (w.alloc (.cells #[.func (.func g) #[] cb] 36)) q p n x sb first W true B (Y ++ [ob w.heap.size #[.func (.func g) #[] cb] 36])) := ⟨H.out.alloc #[.func (.func g) #[] cb] 36⟩
  have c0 := H1.out.drew.c0
  have hsz : (w.alloc (.cells #[.func (.func g) #[] cb] 36)).heap.size = w.heap.size + 1 := by simp
  generalize w.alloc (.cells #[.func (.func g) #[] cb] 36) = W1 at *
  have hlt := H1.out.lt3
  rw [hsz] at hlt
  have hne1 : ¬ (w.heap.size + 1 = sb) := by omega
  have hne2 : ¬ (w.heap.size + 1 + 1 = sb) := by omega
  have hne3 : ¬ (sb = w.heap.size + 1) := by omega
  have hne4 : ¬ (sb = w.heap.size + 1 + 1) := by omega
  rename_i Q1 K1 hK1
  obtain ⟨X1, hX1⟩ : ∃ X1, X1 = Y ++ [ob w.heap.size #[.func (.func g) #[] cb] 36] := ⟨_, rfl⟩
  have REST : Hid (∀ (bf bo : Nat) (W' : World), SS w0 W' q p n x sb first W true B (X1 ++ [ob bf #[.int .i64 ((first : Int) + 1)] 3, ob bo #[.int .i64 ((n - 24 : Nat) : Int)] 3]) → K1 { tmps := #[pt sb, .func (.func g) #[] cb, undef, pt w.heap.size, .int .i64 0, pt bf, pt bo, undef, undef, undef, undef, pt sb, .int .i64 ((first : Int) + 1), pt sb, pt sb, pt sb, pt x, .int .i64 ((n - 24 : Nat) : Int), undef, undef, undef, undef, undef, undef, undef, undef, undef, undef, undef, undef, undef, undef, undef, undef, undef, undef, undef, undef, undef, undef, undef, undef, undef, undef, undef, undef], defers := [] } W') := ⟨by
    intro bf bo W' h
    clear H1 hsz hlt hne1 hne2 hne3 hne4 c0 H
    have H2 : Hid (SS w0 W' q p n x sb first W true B (X1 ++ [ob bf #[.int .i64 ((first : Int) + 1)] 3, ob bo #[.int .i64 ((n - 24 : Nat) : Int)] 3])) := ⟨h⟩
    clear h
    refine hK1 _ _ ?_
    go_wp2_with fail
    refine H2.out.pages'.mono ?_
    rintro e w2 ⟨rfl, h3⟩
    have H3 : Hid (SS w0 w2 q p n x sb first W true B (X1 ++ [ob bf #[.int .i64 ((first : Int) + 1)] 3, ob bo #[.int .i64 ((n - 24 : Nat) : Int)] 3])) := ⟨h3⟩
    clear h3 H2
    dsimp only
    go_wp2
    go_loopw [20] (fun i wr => i = .int .i64 0 ∧ Hid (SS w0 wr q p n x sb first W true B (X1 ++ [ob bf #[.int .i64 ((first : Int) + 1)] 3, ob bo #[.int .i64 ((n - 24 : Nat) : Int)] 3]))) (fun i _ => 1 - (intOf i).toNat)
    case atStart => exact ⟨rfl, H3⟩
    case round =>
      obtain ⟨rfl, H4⟩ := hrel
      clear H3
      go_wp2_with fail
      have H5 : Hid (SS w0 (wr.alloc (.cells #[.int .i64 0] 3)) q p n x sb first W true B (X1 ++ [ob bf #[.int .i64 ((first : Int) + 1)] 3, ob bo #[.int .i64 ((n - 24 : Nat) : Int)] 3] ++ [ob wr.heap.size #[.int .i64 0] 3])) := ⟨H4.out.alloc #[.int .i64 0] 3⟩
      have HI : Hid (∀ w1, SS w0 w1 q p n x sb first W true B (X1 ++ [ob bf #[.int .i64 ((first : Int) + 1)] 3, ob bo #[.int .i64 ((n - 24 : Nat) : Int)] 3] ++ [ob wr.heap.size #[.int .i64 0] 3]) → SS w0 w1 q p n x sb first W true B Y) := ⟨fun w1 h => by have := h.init.init; rw [hX1] at this; exact this.init⟩
      have qR := H5.out.drew.readOver (.int .i64 (first : Int))
      have S5 := And.intro H5.out.drew.c0 (And.intro H5.out.drew.c1 (H5.out.drew.cellM (b := wr.heap.size) (cs := #[.int .i64 0]) (ty := 3) (List.mem_append_right _ List.mem_cons_self) 0))
      have hw0 : IntKind.i64.wrap ((first : Int) + 0) = (first : Int) := by rw [IntKind.wrap_i64]; omega
      have hq3 : IntKind.i64.wrap (first : Int) = (first : Int) := by rw [IntKind.wrap_i64]; omega
      generalize hWr : wr.heap.size = bp at *
      generalize wr.alloc (.cells #[.int .i64 0] 3) = w5 at *
      clear H4 hWr hX1
      go_region_held3 (fun w' => w'.cell? ⟨sb, 0, none⟩ = some (pt x) ∧ w'.cell? ⟨sb, 1, none⟩ = some (.int .i64 (first : Int)) ∧ w'.cell? ⟨bp, 0, none⟩ = some (.int .i64 0)) (first | exact S5 | exact And.intro h6.c0 (And.intro h6.c1 (h6.cellM (b := bp) (cs := #[.int .i64 0]) (ty := 3) (List.mem_append_right _ List.mem_cons_self) 0)) | assumption)
        ((go_at_call 17; refine qR.mono ?_; rintro e w6 ⟨rfl, h6⟩))
      all_goals
        have H6 : Hid (SS w0 w6 q p n x sb first W true B Y) := ⟨HI.out _ h6⟩
        clear h6 H5 S5 qR HI
        go_wp2
        go_ret
        exact ⟨rfl, H6.out⟩⟩
  have HR : Hid (∀ (bf bo : Nat) (W' : World), Below W1.heap.size W1 W' → W1.heap.size ≤ bf → W1.heap.size ≤ bo → bf ≠ bo → W'.heap[bf]? = some (.cells #[.int .i64 ((first : Int) + 1)] 3 (0, 0)) → W'.heap[bo]? = some (.cells #[.int .i64 ((n - 24 : Nat) : Int)] 3 (0, 0)) → K1 { tmps := #[pt sb, .func (.func g) #[] cb, undef, pt w.heap.size, .int .i64 0, pt bf, pt bo, undef, undef, undef, undef, pt sb, .int .i64 ((first : Int) + 1), pt sb, pt sb, pt sb, pt x, .int .i64 ((n - 24 : Nat) : Int), undef, undef, undef, undef, undef, undef, undef, undef, undef, undef, undef, undef, undef, undef, undef, undef, undef, undef, undef, undef, undef, undef, undef, undef, undef, undef, undef, undef], defers := [] } W') := ⟨fun bf bo W' hb g1 g2 hne h1 h2 => REST.out bf bo W' (by rw [hX1]; exact H1.out.two hb g1 g2 hne h1 h2)⟩
  clear REST hX1
  go_region_held3 (fun w' => w'.cell? ⟨sb, 0, none⟩ = some (pt x)) (first | exact c0 | assumption | exact (H1.out.below (by repeat (first | with_reducible exact Below.refl _ _ | with_reducible refine below_drewN ?_ _ | with_reducible refine Below.drew ?_ | with_reducible refine Below.alloc ?_ (by simp [hsz] <;> omega) _ | with_reducible refine Below.setCell ?_ (by simp [hsz] <;> omega) _))).c0)
    ((first
      | (go_at_call 37; refine (SS.kept (w0 := w0) (q := q) (p := p) (n := n) (x := x) (W := W) (o := true) (B := B) (X := Y ++ [ob w.heap.size #[.func (.func g) #[] cb] 36]) (H1.out.below (by repeat (first | with_reducible exact Below.refl _ _ | with_reducible refine below_drewN ?_ _ | with_reducible refine Below.drew ?_ | with_reducible refine Below.alloc ?_ (by simp [hsz] <;> omega) _ | with_reducible refine Below.setCell ?_ (by simp [hsz] <;> omega) _))) hf4).mono ?_; rintro e w2 ⟨rfl, k2, rfl⟩)
      | (go_at_call 36; refine (SS.tblocks (w0 := w0) (q := q) (p := p) (n := n) (sb := sb) (first := first) (W := W) (o := true) (B := B) (X := Y ++ [ob w.heap.size #[.func (.func g) #[] cb] 36]) (H1.out.below (by repeat (first | with_reducible exact Below.refl _ _ | with_reducible refine below_drewN ?_ _ | with_reducible refine Below.drew ?_ | with_reducible refine Below.alloc ?_ (by simp [hsz] <;> omega) _ | with_reducible refine Below.setCell ?_ (by simp [hsz] <;> omega) _)))).mono ?_; rintro e w3 ⟨rfl, k3, rfl⟩)))
  all_goals
    refine HR.out _ _ _ (by repeat (first | with_reducible exact Below.refl _ _ | with_reducible refine below_drewN ?_ _ | with_reducible refine Below.drew ?_ | with_reducible refine Below.alloc ?_ (by simp [hsz] <;> omega) _ | with_reducible refine Below.setCell ?_ (by simp [hsz] <;> omega) _)) (by omega) (by omega) (by omega) ?_ ?_
  all_goals
    clear HR hK1
    repeat (first
      | (with_reducible refine hpA ?_; focus (simp [hsz]; done))
      | (with_reducible refine Eq.trans (hpB ?_) ?_; focus (first | (simp [hsz]; done) | (simp [hsz]; omega)))
      | with_reducible refine hpC ?_
      | (with_reducible refine Eq.trans (hpD ?_) ?_; focus omega)
      | with_reducible refine hpE.trans ?_)
set_option maxRecDepth 100000 in
theorem SS.leftOver (h : SS w0 w q p n x sb first W true B X) (hf : first < 4000) : Calls Tryz.prog 12 #[pt sb] w fun e w' => e = .returned (.int .i64 0) ∧ SS w0 w' q p n x sb first W true B X := by
  have qF := free_over 34 #[pt w.heap.size] hf (Y := X ++ [ob w.heap.size #[.int .i64 0] 3]) _ (h.alloc #[.int .i64 0] 3)
  clear h
  go_enter Tryz.func12, Tryz.ntmps12
  go_wp2_with fail
  refine qF.mono ?_
  rintro e w2 ⟨rfl, h2⟩
  have H3 : Hid (SS w0 w2 q p n x sb first W true B X) := ⟨h2.init⟩
  clear h2 qF
  dsimp only
  go_wp2
  go_ret
  exact ⟨rfl, H3.out⟩
end Go.Proofs.YtghdgddpdamhcaaGreat

/- The document's model of a space: its block, Kept, Used, Left. -/
namespace Go.Proofs.YtghdgddpdamhcaaGreat
set_option linter.unusedVariables false
set_option linter.unusedSimpArgs false
open Go.RowKit Go.Maps
def bv (I : List Bool) : List Value := I.map Value.bool
/-- the model: a block with the first block's number and a row of bools -/
def rsTh (b first : Nat) (v : Value) (I : List Bool) : Th := ⟨fun k => k = b ∨ v.ownBlock = some k, fun w => w.heap[b]? = some (.cells #[.int .i64 (first : Int), v] 98 (0, 0)) ∧ w.ownsRow 0 4 1 v I.length (bv I),
  fun w h k hk => by rcases hk with rfl | hk; exact heap_lt h.1; exact (h.2.lt k hk).2,
  fun S w w' h fr hs => ⟨fr.heap h.1 (hs b (.inl rfl)), fr.own h.2 (fun k hk => hs k (.inr hk))⟩⟩
def rs (b first : Nat) (I : List Bool) : Th → Prop := fun t => ∃ v : Value, v.ownBlock ≠ some b ∧ t = rsTh b first v I
variable {w0 w w' : World} {Ls : List (Th → Prop)} {b first : Nat} {I : List Bool}
theorem EnvP.rs (h : EnvP w0 w Ls) (i : Nat) (hi : Ls[i]? = some (rs b first I)) : ∃ v : Value, v.ownBlock ≠ some b ∧ w.heap[b]? = some (.cells #[.int .i64 (first : Int), v] 98 (0, 0)) ∧ w.ownsRow 0 4 1 v I.length (bv I) ∧
    ∀ w' (v' : Value) I', w'.heap[b]? = some (.cells #[.int .i64 (first : Int), v'] 98 (0, 0)) → w'.ownsRow 0 4 1 v' I'.length (bv I') → Fr (fun k => k = b ∨ v.ownBlock = some k) w w' → (∀ k, v'.ownBlock = some k → v.ownBlock = some k ∨ w.heap.size ≤ k) → EnvP w0 w' (Ls.set i (rs b first I')) := by
  obtain ⟨t, ⟨v, hne, rfl⟩, ha, ho, hn⟩ := h.get i _ hi
  refine ⟨v, hne, ha.1, ha.2, fun w' v' I' h1 h2 fr nw => hn w' (rsTh b first v' I') _ ⟨v', fun e => ?_, rfl⟩ fr ⟨h1, h2⟩ (fun k hk => ?_)⟩
  · rcases nw b e with e | e
    · exact hne e
    · have := heap_lt ha.1; omega
  · rcases hk with rfl | hk
    · exact .inl (.inl rfl)
    · rcases nw k hk with e | e
      · exact .inl (.inr e)
      · exact .inr e
/-- its cells -/
theorem EnvP.rsc (h : EnvP w0 w Ls) (i : Nat) (hi : Ls[i]? = some (Go.Proofs.YtghdgddpdamhcaaGreat.rs b first I)) : ∃ va vc, w.cell? ⟨b, 0, none⟩ = some (.int .i64 (first : Int)) ∧ w.cell? ⟨b, 1, none⟩ = some (.slice va I.length vc) ∧ ∀ j, j < I.length → ∃ g, va = some ⟨g, 0, none⟩ ∧ w.cell? ⟨g, j, none⟩ = some (.bool (I.getD j false)) := by
  obtain ⟨v, hne, hb, ho, _⟩ := h.rs i hi
  obtain ⟨va, vc, rfl⟩ := own_slice ho
  refine ⟨va, vc, cell_of_row w b 0 _ _ (0, 0) hb, cell_of_row w b 1 _ _ (0, 0) hb, fun j hj => ?_⟩
  rcases ho.2 with ⟨_, h0⟩ | ⟨g, cap, cur, e, _⟩
  · omega
  · injection e with e1 e2 e3
    subst e1
    refine ⟨g, rfl, ?_⟩
    have := ho.cellAt j (by omega)
    rw [this]
    simp [bv, List.getElem?_map, List.getElem?_eq_getElem hj, List.getD_eq_getElem?_getD]
theorem rOwn_any (m : Nat) (w : World) (h1 : 1 ≤ m) (h2 : m ≤ 4000) : Calls Tryz.prog 54 #[.int .i64 (m : Int)] w fun e w' => e = .returned (.int .i64 1) ∧ w' = w := by
  have hw : ((m : Int) + 4096 - 1) / 4096 = 1 := by omega
  go_enter Tryz.func54, Tryz.ntmps54
  go_wp2
  go_ret
  refine ⟨?_, rfl⟩
  show Ending.returned (Value.int IntKind.i64 (((m : Int) + 4096 - 1) / 4096)) = _
  rw [hw]
set_option maxRecDepth 100000 in
theorem rKept_env (h : EnvP w0 w Ls) (i : Nat) (hi : Ls[i]? = some (rs b first I)) (z : Int) (m : Nat) (h1 : 1 ≤ m) (h2 : m ≤ 4000) (hf : first < 5000) : Calls Tryz.prog 55 #[pt b, .int .i64 z, .int .i64 (m : Int)] w fun e w' => e = .returned (.bool (decide (z < ((first + 1 : Nat) : Int)))) ∧ ∃ k, w' = w.drewN k := by
  obtain ⟨va, vc, c0, _, _⟩ := h.rsc i hi
  have qO : Hid (∀ w, Calls Tryz.prog 54 #[.int .i64 (m : Int)] w fun e w' => e = .returned (.int .i64 1) ∧ w' = w) := ⟨fun w => rOwn_any m w h1 h2⟩
  have hw : IntKind.i64.wrap ((first : Int) + 1) = ((first + 1 : Nat) : Int) := by rw [IntKind.wrap_i64]; omega
  generalize ((first + 1 : Nat) : Int) = F1 at *
  clear h hi
  go_enter Tryz.func55, Tryz.ntmps55
  go_wp2_with fail
  go_quiet ((go_at_call 54; exact Calls.quiet_of_same (qO.out _)))
  go_wp2
  go_ret
  exact ⟨rfl, _, rfl⟩
/-- what Used answers -/
def rus (I : List Bool) (z : Int) : Bool := decide (0 ≤ z) && decide (z < I.length) && I.getD z.toNat false
set_option maxRecDepth 100000 in
theorem rUsed_env (h : EnvP w0 w Ls) (i : Nat) (hi : Ls[i]? = some (rs b first I)) (z : Int) : Calls Tryz.prog 58 #[pt b, .int .i64 z] w fun e w' => e = .returned (.bool (rus I z)) ∧ ∃ k, w' = w.drewN k := by
  obtain ⟨va, vc, _, c1, hc⟩ := h.rsc i hi
  unfold rus
  by_cases h0 : 0 ≤ z
  · obtain ⟨j, rfl⟩ := Int.eq_ofNat_of_zero_le h0
    by_cases hj : j < I.length
    · obtain ⟨g, rfl, cj⟩ := hc j hj
      rw [decide_eq_true h0, decide_eq_true (by omega : (j : Int) < (I.length : Int)), show ((j : Int)).toNat = j by omega]
      have hji : (j : Int) < (I.length : Int) := by omega
      generalize I.getD j false = v at *
      generalize I.length = L at *
      clear h hi hc hj
      go_enter Tryz.func58, Tryz.ntmps58
      go_wp2
      go_ret
      exact ⟨rfl, 0, rfl⟩
    · rw [decide_eq_true h0, decide_eq_false (by omega : ¬ (j : Int) < (I.length : Int))]
      have hji : ¬ (j : Int) < (I.length : Int) := by omega
      generalize I.length = L at *
      clear h hi hc hj
      go_enter Tryz.func58, Tryz.ntmps58
      go_wp2
      go_ret
      exact ⟨rfl, 0, rfl⟩
  · rw [decide_eq_false h0]
    clear h hi hc
    go_enter Tryz.func58, Tryz.ntmps58
    go_wp2
    go_ret
    exact ⟨rfl, 0, rfl⟩
end Go.Proofs.YtghdgddpdamhcaaGreat

/- The document's model: Left, Copy. -/
namespace Go.Proofs.YtghdgddpdamhcaaGreat
set_option linter.unusedVariables false
set_option linter.unusedSimpArgs false
open Go.RowKit Go.Maps
variable {w0 w w' : World} {Ls : List (Th → Prop)} {b first : Nat} {I : List Bool}
/-- how many are free -/
def rlf (I : List Bool) : Nat := (I.filter fun u => !u).length
theorem rlf_take {I : List Bool} {j : Nat} (h : j < I.length) : rlf (I.take (j + 1)) = rlf (I.take j) + (if I.getD j false then 0 else 1) := by
  unfold rlf
  rw [List.take_add_one, List.getElem?_eq_getElem h, List.filter_append, List.length_append]
  rw [List.getD_eq_getElem?_getD, List.getElem?_eq_getElem h]
  cases I[j] <;> rfl
theorem rlf_le (I : List Bool) : rlf I ≤ I.length := List.length_filter_le _ _
set_option maxRecDepth 100000 in
theorem rLeft_env (h : EnvP w0 w Ls) (i : Nat) (hi : Ls[i]? = some (rs b first I)) (hl : I.length ≤ 5000) : Calls Tryz.prog 56 #[pt b] w fun e w' => e = .returned (.int .i64 ((rlf I : Nat) : Int)) ∧ ∃ k, w' = w.drewN k := by
  obtain ⟨va, vc, _, c1, hc⟩ := h.rsc i hi
  have HC : Hid (∀ j, j < I.length → ∃ g, va = some ⟨g, 0, none⟩ ∧ w.cell? ⟨g, j, none⟩ = some (.bool (I.getD j false))) := ⟨hc⟩
  clear h hi hc
  go_enter Tryz.func56, Tryz.ntmps56
  go_wp2
  go_loopw [3, 4] (fun vn vi wr => ∃ (j m : Nat), j ≤ I.length ∧ vi = .int .i64 (j : Int) ∧ vn = .int .i64 ((rlf (I.take j) : Nat) : Int) ∧ wr = w.drewN m) (fun _ vi _ => I.length - (intOf vi).toNat)
  case atStart => exact ⟨0, 0, Nat.zero_le _, rfl, rfl, rfl⟩
  case round =>
    obtain ⟨j, m, hj, rfl, rfl, rfl⟩ := hrel
    have d1 : (w.drewN m).cell? ⟨b, 1, none⟩ = some (.slice va I.length vc) := c1
    by_cases hlt : j < I.length
    · obtain ⟨g, rfl, cj⟩ := HC.out j hlt
      have dj : (w.drewN m).cell? ⟨g, j, none⟩ = some (.bool (I.getD j false)) := cj
      have hji : (j : Int) < (I.length : Int) := by omega
      have HT := rlf_take hlt
      have hle := rlf_le (I.take j)
      rw [List.length_take] at hle
      clear cj c1 HC
      generalize rlf (I.take j) = R at *
      cases hv : I.getD j false with
      | true =>
        rw [hv] at dj HT
        have HT2 : Hid (rlf (I.take (j + 1)) = R) := ⟨HT⟩
        clear HT hv
        generalize hW : w.drewN m = W1 at *
        go_wp2
        go_roundw
        case rel => exact ⟨j + 1, m, by omega, by go_num, by rw [HT2.out], hW.symm⟩
        case measure => simp [intOf]; omega
      | false =>
        rw [hv] at dj HT
        have HT2 : Hid (rlf (I.take (j + 1)) = R + 1) := ⟨HT⟩
        clear HT hv
        generalize hW : w.drewN m = W1 at *
        go_wp2
        go_roundw
        case rel => exact ⟨j + 1, m, by omega, by go_num, by rw [HT2.out]; go_num, hW.symm⟩
        case measure => simp [intOf]; omega
    · obtain rfl : j = I.length := by omega
      rw [List.take_length]
      clear HC c1
      go_wp2
      go_ret
      exact ⟨rfl, m, rfl⟩
end Go.Proofs.YtghdgddpdamhcaaGreat

/- The document's model of a space: Copy. -/
namespace Go.Proofs.YtghdgddpdamhcaaGreat
set_option linter.unusedVariables false
set_option linter.unusedSimpArgs false
open Go.RowKit Go.Maps
theorem infoBl : (Tryz.prog.info? 4).map (fun i => (i.zero, i.size, i.bytes)) = some (some (.bool false), 1, 1) := by kernel_rfl
theorem bv_len (I : List Bool) : (bv I).length = I.length := List.length_map ..
/-- a row of bools behind nothing, in a drawn region -/
theorem step_bools {ops : Array Oper} {o : Oper} {a : Act} {K : Act → World → Prop} {Q : Exit → Act → World → Prop} {E : Prop} {w : World} (hgd : o.guard = none) (s x : Operand) (ho : o.op = .call { callee := .builtin .append, args := #[s, x], argTypes := #[32, 32] })
    {I : List Bool} {g c : Nat} (hc : ∀ j, j < I.length → w.cell? ⟨g, j, none⟩ = some (.bool (I.getD j false))) (hn : I.length ≤ 5000) (h1 : 1 ≤ I.length)
    (hs : a.eval s = .slice none 0 0) (hx : a.eval x = .slice (some ⟨g, 0, none⟩) I.length c)
    (h : ∀ y cap w', w'.ownsRow w.heap.size 4 1 (.slice (some ⟨y, 0, none⟩) I.length cap) I.length (bv I) → Below w.heap.size w w' → w.heap.size ≤ y → K (a.put o.dst (.slice (some ⟨y, 0, none⟩) I.length cap)) w') :
    if Region.wanted o (yielded ops a.tmps) = true then Oper.wp Tryz.prog o a w K Q else E := by
  obtain ⟨i0, hi0, hz0, hz1, hz2⟩ := info_parts infoBl
  have hm : maxLen = 9223372036854775807 := rfl
  refine step_append_lies _ hgd s x 32 ho w.heap.size 4 i0 _ 1 1 Tryz.underlying32 hi0 hz0 hz1 hz2 rfl (by omega) (.slice none 0 0) 0 [] hs (World.ownsRow_nil _ _ _ _) _ I.length c (bv I) hx (by rw [bv_len]; omega) ?_ ?_ (by omega) (by rw [hm]; omega) (by omega) (Nat.le_refl _) _ rfl ?_
  · intro j u hj
    have hjl : j < I.length := by have := (List.getElem?_eq_some_iff.1 hj).1; rw [bv_len] at this; exact this
    have hadd : (⟨g, 0, none⟩ : Addr).add j = ⟨g, j, none⟩ := by unfold Addr.add; split <;> simp_all
    rw [hadd, hc j hjl, ← hj]
    simp [bv, List.getElem?_map, List.getElem?_eq_getElem hjl, List.getD_eq_getElem?_getD]
  · intro u hu; obtain ⟨t, _, rfl⟩ := List.mem_map.1 hu; rfl
  · intro y cap w' hown hgrow hat hlt
    simp only [Nat.zero_add, List.nil_append] at hown
    have hy : w.heap.size ≤ y := by
      rcases hat with e | e
      · cases e
      · exact Nat.le_of_eq e.symm
    have := h y cap w' hown ((Below.refl _ _).grown hgrow (Nat.le_refl _) (fun k hk => by cases hk)) hy
    simpa using this
theorem own_zero {w : World} {base : Nat} {ty : TypeId} {v : Value} {n : Nat} {xs : List Value} (h : w.ownsRow base ty 1 v n xs) : w.ownsRow 0 ty 1 v n xs := by
  refine ⟨h.1, ?_⟩
  rcases h.2 with e | ⟨g, cap, cur, e1, _, e3⟩
  · exact .inl e
  · exact .inr ⟨g, cap, cur, e1, Nat.zero_le _, e3⟩
section
variable {w0 w w' : World} {Ls : List (Th → Prop)} {b first : Nat} {I : List Bool}
set_option maxRecDepth 100000 in
set_option maxHeartbeats 2000000 in
theorem rCopy_env (h : EnvP w0 w Ls) (i : Nat) (hi : Ls[i]? = some (rs b first I)) (hl : I.length ≤ 5000) (h1 : 1 ≤ I.length) : Calls Tryz.prog 59 #[pt b] w fun e w' => ∃ y, e = .returned (pt y) ∧ EnvP w0 w' (Ls ++ [rs y first I]) := by
  obtain ⟨va, vc, c0, c1, hc⟩ := h.rsc i hi
  obtain ⟨g, rfl, _⟩ := hc 0 (by omega)
  have hcs : ∀ j, j < I.length → w.cell? ⟨g, j, none⟩ = some (.bool (I.getD j false)) := fun j hj => by
    obtain ⟨g', e, h2⟩ := hc j hj
    cases e
    exact h2
  have hgl : g < w.heap.size := World.block_lt_of_cell? w _ (hcs 0 (by omega))
  have hbl : b < w.heap.size := World.block_lt_of_cell? w _ c1
  have A1 : Below w.heap.size w (w.alloc (.cells #[.int .i64 (first : Int), .slice none 0 0] 98)) := (Below.refl _ _).alloc (Nat.le_refl _) _
  have d1 := (A1.cell (p := ⟨b, 1, none⟩) hbl).trans c1
  have HCS : Hid (∀ j, j < I.length → (w.alloc (.cells #[.int .i64 (first : Int), .slice none 0 0] 98)).drew.cell? ⟨g, j, none⟩ = some (.bool (I.getD j false))) := ⟨fun j hj => (A1.cell (p := ⟨g, j, none⟩) hgl).trans (hcs j hj)⟩
  have K0 := heap_alloc_new w (.cells #[.int .i64 (first : Int), .slice none 0 0] 98)
  have k1 : (w.alloc (.cells #[.int .i64 (first : Int), .slice none 0 0] 98)).cell? ⟨w.heap.size, 1, none⟩ = some (.slice none 0 0) := cell_of_row _ _ 1 _ _ (0, 0) K0
  have HE : Hid (EnvP w0 w Ls) := ⟨h⟩
  clear h hi hc hcs hgl
  go_enter Tryz.func59, Tryz.ntmps59
  go_wp2_with fail
  generalize hW1 : w.alloc (.cells #[.int .i64 (first : Int), .slice none 0 0] 98) = w1 at *
  have hsz : w1.heap.size = w.heap.size + 1 := by rw [← hW1]; simp
  have HSZ := Hid.mk hsz
  clear hW1 hsz
  go_region_law (refine step_bools rfl _ _ rfl (g := g) (I := I) (c := vc) HCS.out hl h1 rfl rfl ?_; intro y cap w3 o3 b3 hy; have K3 := (b3.block w.heap.size (by show _ < w1.heap.size; rw [HSZ.out]; omega)).trans K0; have r1 := cell_of_row w3 w.heap.size 1 _ _ (0, 0) K3; have f1 := frozen_of_row w3 w.heap.size 1 _ _ K3)
  all_goals
    have hyw : w.heap.size < y := by have := HSZ.out; have h9 : w1.heap.size ≤ y := hy; omega
    have K4 : (w3.setCell ⟨w.heap.size, 1, none⟩ (.slice (some ⟨y, 0, none⟩) I.length cap)).heap[w.heap.size]? = some (.cells #[.int .i64 (first : Int), .slice (some ⟨y, 0, none⟩) I.length cap] 98 (0, 0)) := heap_setCell_same w3 w.heap.size 1 _ _ _ K3
    have hne : (Value.slice (some ⟨y, 0, none⟩) I.length cap).ownBlock ≠ some w.heap.size := fun e => by
      have : y = w.heap.size := by simpa [Value.ownBlock] using e
      omega
    have o4 := ownsRow_setCell_other (own_zero o3) (a := ⟨w.heap.size, 1, none⟩) hne (.slice (some ⟨y, 0, none⟩) I.length cap)
    have bel : Below w.heap.size w (w3.setCell ⟨w.heap.size, 1, none⟩ (.slice (some ⟨y, 0, none⟩) I.length cap)) := ((A1.drew).trans (b3.mono (by show _ ≤ w1.heap.size; rw [HSZ.out]; omega))).setCell (p := ⟨w.heap.size, 1, none⟩) (Nat.le_refl _) _
    have E4 := Hid.mk (HE.out.push (rsTh w.heap.size first (.slice (some ⟨y, 0, none⟩) I.length cap) I) (rs w.heap.size first I) ⟨_, hne, rfl⟩ bel ⟨K4, o4⟩ (fun k hk => by
      rcases hk with rfl | hk
      · exact Nat.le_refl _
      · have : y = k := by simpa [Value.ownBlock] using hk
        omega))
    clear HE K3 K4 o3 o4 b3 bel r1 f1 d1 k1 K0 A1
    go_wp2
    go_ret
    exact ⟨w.heap.size, rfl, E4.out⟩
end
end Go.Proofs.YtghdgddpdamhcaaGreat

/- SpacePlays: over; the model's Free. -/
namespace Go.Proofs.YtghdgddpdamhcaaGreat
set_option linter.unusedVariables false
set_option linter.unusedSimpArgs false
open Go.RowKit Go.Maps
section
variable {w0 w w' : World} {q p n x sb first : Nat} {W : Wl} {B : List ByteArray} {X : List (Th → Prop)}
set_option maxRecDepth 100000 in
theorem over_ss (h : SS w0 w q p n x sb first W true B X) (hf : first < 4000) : Calls Tryz.prog 63 #[pt sb] w fun e w' => e = .returned (.bool true) ∧ SS w0 w' q p n x sb first W true B X := by
  have H := Hid.mk h
  clear h
  go_enter Tryz.func63, Tryz.ntmps63
  go_wp2_with fail
  refine (H.out.takeOver 1).mono ?_
  rintro e w1 ⟨rfl, h1⟩
  have H1 := Hid.mk h1
  clear h1 H
  dsimp only
  go_wp2_with fail
  refine (H1.out.freeOver _).mono ?_
  rintro e w2 ⟨rfl, h2⟩
  have H2 := Hid.mk h2
  clear h2 H1
  dsimp only
  go_wp2_with fail
  refine (H2.out.leftOver hf).mono ?_
  rintro e w3 ⟨rfl, h3⟩
  have H3 := Hid.mk h3
  clear h3 H2
  dsimp only
  go_wp2_with fail
  refine (H3.out.usedOver 0).mono ?_
  rintro e w4 ⟨rfl, h4⟩
  have H4 := Hid.mk h4
  clear h4 H3
  dsimp only
  go_wp2_with fail
  go_ret
  exact ⟨rfl, H4.out⟩
end
end Go.Proofs.YtghdgddpdamhcaaGreat

/- The document's model of a space: Free. -/
namespace Go.Proofs.YtghdgddpdamhcaaGreat
set_option linter.unusedVariables false
set_option linter.unusedSimpArgs false
open Go.RowKit Go.Maps
/-- may they be freed, by the model? -/
def fgd (I : List Bool) (first : Nat) (zs : List Int) : Prop := (∀ z ∈ zs, rus I z = true ∧ ¬ z < ((first + 1 : Nat) : Int)) ∧ zs.Nodup
/-- they are free -/
def fre (I : List Bool) (zs : List Int) : List Bool := zs.foldl (fun I z => I.set z.toNat false) I
theorem fre_len : ∀ (zs : List Int) (I : List Bool), (fre I zs).length = I.length
  | [], _ => rfl
  | z :: r, I => by
    show (fre (I.set z.toNat false) r).length = I.length
    rw [fre_len r, List.length_set]
theorem fre_snoc (I : List Bool) (zs : List Int) (z : Int) : fre I (zs ++ [z]) = (fre I zs).set z.toNat false := by unfold fre; rw [List.foldl_append]; rfl
theorem take_snoc {zs : List Int} {i : Nat} (h : i < zs.length) : zs.take (i + 1) = zs.take i ++ [zs.getD i 0] := by
  rw [List.take_add_one, List.getElem?_eq_getElem h, List.getD_eq_getElem?_getD, List.getElem?_eq_getElem h]; rfl
theorem getD_mem {zs : List Int} {i : Nat} (h : i < zs.length) : zs.getD i 0 ∈ zs := by
  rw [List.getD_eq_getElem?_getD, List.getElem?_eq_getElem h]; exact List.getElem_mem h
theorem fgd_step {I : List Bool} {first : Nat} {zs : List Int} {i : Nat} (h : fgd I first (zs.take i)) (hi : i < zs.length) (h1 : rus I (zs.getD i 0) = true) (h2 : ¬ zs.getD i 0 < ((first + 1 : Nat) : Int)) (h3 : ∀ k, k < i → zs.getD k 0 ≠ zs.getD i 0) : fgd I first (zs.take (i + 1)) := by
  rw [take_snoc hi]
  refine ⟨fun z hz => ?_, ?_⟩
  · rcases List.mem_append.1 hz with hz | hz
    · exact h.1 z hz
    · rw [List.mem_singleton.1 hz]; exact ⟨h1, h2⟩
  · rw [List.nodup_append]
    refine ⟨h.2, by simp, fun a ha b hb e => ?_⟩
    rw [List.mem_singleton.1 hb] at e
    obtain ⟨k, hk, rfl⟩ := List.mem_iff_getElem.1 ha
    have hkl : k < i := by rw [List.length_take] at hk; omega
    refine h3 k hkl ?_
    rw [← e, List.getElem_take, List.getD_eq_getElem?_getD, List.getElem?_eq_getElem (by omega)]; rfl
theorem fgd_no1 {I : List Bool} {first : Nat} {zs : List Int} {i : Nat} (hi : i < zs.length) (h : rus I (zs.getD i 0) = false ∨ zs.getD i 0 < ((first + 1 : Nat) : Int)) : ¬ fgd I first zs := fun g => by
  have := g.1 _ (getD_mem hi)
  rcases h with h | h
  · rw [h] at this; cases this.1
  · exact this.2 h
theorem fgd_no2 {I : List Bool} {first : Nat} {zs : List Int} {i k : Nat} (hi : i < zs.length) (hk : k < i) (h : zs.getD k 0 = zs.getD i 0) : ¬ fgd I first zs := fun g => by
  have := List.nodup_iff_pairwise_ne.1 g.2
  rw [List.pairwise_iff_getElem] at this
  refine this k i (by omega) hi hk ?_
  simpa [List.getD_eq_getElem?_getD, List.getElem?_eq_getElem hi, List.getElem?_eq_getElem (show k < zs.length by omega)] using h
section
variable {w0 w w' : World} {Ls : List (Th → Prop)} {b first : Nat} {I : List Bool}
/-- one bool is stored -/
theorem EnvP.rsSet (h : EnvP w0 w Ls) (i : Nat) (hi : Ls[i]? = some (Go.Proofs.YtghdgddpdamhcaaGreat.rs b first I)) {g vc : Nat} (hv : w.cell? ⟨b, 1, none⟩ = some (.slice (some ⟨g, 0, none⟩) I.length vc)) (j : Nat) (hj : j < I.length) (u : Bool) : w.frozen? ⟨g, j, none⟩ = false ∧ EnvP w0 (w.setCell ⟨g, j, none⟩ (.bool u)) (Ls.set i (Go.Proofs.YtghdgddpdamhcaaGreat.rs b first (I.set j u))) := by
  obtain ⟨v, hne, hb, ho, hn⟩ := h.rs i hi
  have hv2 : w.cell? ⟨b, 1, none⟩ = some v := cell_of_row w b 1 _ _ (0, 0) hb
  rw [hv2] at hv
  obtain rfl := Option.some.inj hv
  rcases ho.2 with ⟨e, _⟩ | ⟨g', c', cur, e, h2, h3, h4, h5, h6, h7⟩
  · cases e
  · injection e with e1 e2 e3
    injection e1 with e1
    injection e1 with e1
    subst e1 e3
    have hgb : b ≠ g := fun e => hne (by rw [e]; rfl)
    refine ⟨frozen_of_row _ _ _ _ _ h3, hn _ (.slice (some ⟨g, 0, none⟩) I.length vc) (I.set j u) ?_ ?_ ?_ (fun k hk => .inl hk)⟩
    · rw [heap_setCell_other _ _ _ _ hgb]; exact hb
    · rw [List.length_set]
      refine ⟨by simp [bv], .inr ⟨g, vc, _, rfl, h2, heap_setCell_same _ _ _ _ _ _ h3, h4, h5, by rw [Array.size_setIfInBounds]; exact h6, ?_⟩⟩
      have hs : bv (I.set j u) = (bv I).set j (.bool u) := by unfold bv; rw [List.map_set]
      rw [hs, Array.toList_setIfInBounds, ← h7, List.take_set]
    · have hgr : w.grownBy (w.setCell ⟨g, j, none⟩ (.bool u)) (some g) := ⟨rfl, rfl, rfl, by simp, fun k _ hk => heap_setCell_other _ _ _ _ (fun e => hk (by rw [e]))⟩
      exact Fr.of_grown hgr (fun k hk => .inr hk)
set_option maxRecDepth 100000 in
set_option maxHeartbeats 4000000 in
theorem rFree_env (h : EnvP w0 w Ls) (i : Nat) (hi : Ls[i]? = some (rs b first I)) (hl : I.length ≤ 4000) (h1 : 1 ≤ I.length) (hf : first < 5000) (zs : List Int) (a : Option Addr) (cap : Nat) (hzl : zs.length ≤ 100000)
    (hcs : ∀ w1 I1, EnvP w0 w1 (Ls.set i (rs b first I1)) → ∀ j, j < zs.length → ∃ bb off, a = some ⟨bb, off, none⟩ ∧ w1.cell? ⟨bb, off + j, none⟩ = some (.int .i64 (zs.getD j 0))) :
    Calls Tryz.prog 62 #[pt b, .slice a zs.length cap] w fun e w' => (fgd I first zs ∧ e = .returned (.int .i64 0) ∧ EnvP w0 w' (Ls.set i (rs b first (fre I zs)))) ∨ (¬ fgd I first zs ∧ e = .returned (.int .i64 1) ∧ EnvP w0 w' Ls) := by
  have hil := (List.getElem?_eq_some_iff.1 hi).1
  have hself : Ls.set i (rs b first I) = Ls := by
    apply List.ext_getElem?
    intro k
    rw [List.getElem?_set]
    by_cases e : i = k
    · subst e; rw [if_pos rfl, if_pos hil, hi]
    · rw [if_neg e]
  have H : Hid (EnvP w0 w Ls) := ⟨h⟩
  have HZ : Hid (∀ w1, EnvP w0 w1 Ls → ∀ j, j < zs.length → ∃ bb off, a = some ⟨bb, off, none⟩ ∧ w1.cell? ⟨bb, off + j, none⟩ = some (.int .i64 (zs.getD j 0))) := ⟨fun w1 h1 j hj => hcs _ I (by rw [hself]; exact h1) j hj⟩
  have qU : Hid (∀ w1, EnvP w0 w1 Ls → ∀ z k2, Calls Tryz.prog 58 #[pt b, .int .i64 z] (w1.drewN k2) fun e w' => e = .returned (.bool (rus I z)) ∧ ∃ k', w' = (w1.drewN k2).drewN k') := ⟨fun w1 h1 z k2 => rUsed_env (h1.drewN k2) i hi z⟩
  have qK : Hid (∀ w1, EnvP w0 w1 Ls → ∀ z k2, Calls Tryz.prog 55 #[pt b, .int .i64 z, .int .i64 (I.length : Int)] (w1.drewN k2) fun e w' => e = .returned (.bool (decide (z < ((first + 1 : Nat) : Int)))) ∧ ∃ k', w' = (w1.drewN k2).drewN k') := ⟨fun w1 h1' z k2 => rKept_env (h1'.drewN k2) i hi z I.length h1 hl hf⟩
  clear h
  go_enter Tryz.func62, Tryz.ntmps62
  go_wp2_with fail
  go_loopw [5] (fun vi wr => ∃ j : Nat, j ≤ zs.length ∧ vi = .int .i64 (j : Int) ∧ Hid (fgd I first (zs.take j)) ∧ Hid (EnvP w0 wr Ls)) (fun i _ => zs.length - (intOf i).toNat)
  case atStart => exact ⟨0, by omega, rfl, ⟨by simp [fgd]⟩, H⟩
  case round =>
    clear H
    obtain ⟨j, hj, rfl, HG, H⟩ := hrel
    by_cases hjl : j < zs.length
    · have d1 : decide ((j : Int) < (zs.length : Int)) = true := decide_eq_true (by omega)
      have j2 : (j : Int) < (zs.length : Int) := by omega
      obtain ⟨bb, off, rfl, cz⟩ := HZ.out _ H.out j hjl
      obtain ⟨va, vc, c0, c1, _⟩ := H.out.rsc i hi
      have HN1 := Hid.mk (fun h => fgd_no1 (I := I) (first := first) hjl h)
      have HN2 := Hid.mk (fun k hk h => fgd_no2 (I := I) (first := first) (k := k) hjl hk h)
      have HST := Hid.mk (fun h1 h2 h3 => fgd_step HG.out hjl h1 h2 h3)
      generalize hz : zs.getD j 0 = z at *
      have HZJ := Hid.mk hz
      have QU := Hid.mk (qU.out _ H.out z)
      have QK := Hid.mk (qK.out _ H.out z)
      cases hu : rus I z with
      | false =>
        have HNo := Hid.mk (HN1.out (.inl hu))
        rw [hu] at QU
        clear hu
        go_wp2_with fail
        go_quiet ((first | (go_at_call 58; exact Calls.quiet_of (QU.out _)) | (go_at_call 55; exact Calls.quiet_of (QK.out _))))
        go_wp2
        go_ret
        exact .inr ⟨HNo.out, rfl, H.out.drewN _⟩
      | true =>
        rw [hu] at QU
        cases hk2 : decide (z < ((first + 1 : Nat) : Int)) with
        | true =>
          have HNo := Hid.mk (HN1.out (.inr (of_decide_eq_true hk2)))
          rw [hk2] at QK
          clear hu hk2
          go_wp2_with fail
          go_quiet ((first | (go_at_call 58; exact Calls.quiet_of (QU.out _)) | (go_at_call 55; exact Calls.quiet_of (QK.out _))))
          go_wp2
          go_ret
          exact .inr ⟨HNo.out, rfl, H.out.drewN _⟩
        | false =>
          have HS2 := Hid.mk (fun h3 => HST.out hu (of_decide_eq_false hk2) h3)
          rw [hk2] at QK
          clear hu hk2
          go_wp2_with fail
          go_quiet ((first | (go_at_call 58; exact Calls.quiet_of (QU.out _)) | (go_at_call 55; exact Calls.quiet_of (QK.out _))))
          go_wp2
          have H2 := Hid.mk (H.out.drewN nq)
          clear H c0 c1 cz QU QK
          generalize wr.drewN nq = w5 at *
          go_loopw [6] (fun vi wr => ∃ k : Nat, k ≤ j ∧ vi = .int .i64 (k : Int) ∧ Hid (∀ t, t < k → zs.getD t 0 ≠ z) ∧ Hid (EnvP w0 wr Ls)) (fun i _ => j - (intOf i).toNat)
          case atStart => exact ⟨0, by omega, rfl, ⟨fun t ht => by omega⟩, H2⟩
          case round =>
            clear H2
            obtain ⟨k, hk, rfl, HNE, H3⟩ := hrel
            by_cases hkj : k < j
            · have d2 : decide ((k : Int) < (j : Int)) = true := decide_eq_true (by omega)
              have k2 : (k : Int) < (zs.length : Int) := by omega
              obtain ⟨bb2, off2, e2, cj⟩ := HZ.out _ H3.out j hjl
              cases e2
              rw [HZJ.out] at cj
              obtain ⟨bb2, off2, e2, ck⟩ := HZ.out _ H3.out k (by omega)
              cases e2
              cases he : (zs.getD k 0 == z) with
              | true =>
                have HNo := Hid.mk (HN2.out k hkj (by simpa using he))
                generalize zs.getD k 0 = y at *
                go_wp2_with fail
                go_quiet (fail)
                go_wp2
                go_ret
                exact .inr ⟨HNo.out, rfl, H3.out.drewN _⟩
              | false =>
                have HNE2 : Hid (∀ t, t < k + 1 → zs.getD t 0 ≠ z) := ⟨fun t ht => by
                  rcases Nat.lt_or_ge t k with h9 | h9
                  · exact HNE.out t h9
                  · obtain rfl : t = k := by omega
                    exact fun e => by rw [e] at he; simp at he⟩
                generalize zs.getD k 0 = y at *
                go_wp2_with fail
                go_quiet (fail)
                go_wp2
                exact ⟨⟨k + 1, by omega, by go_num, HNE2, ⟨H3.out.drewN _⟩⟩, by simp [intOf]; omega⟩
            · obtain rfl : k = j := by omega
              have d2 : decide ((k : Int) < (k : Int)) = false := decide_eq_false (by omega)
              have HG2 := Hid.mk (HS2.out (fun t ht => by rw [← HZJ.out] at HNE; rw [← HZJ.out]; exact HNE.out t ht))
              go_wp2
              exact ⟨⟨k + 1, by omega, by go_num, HG2, H3⟩, by simp [intOf]; omega⟩
    · obtain rfl : j = zs.length := by omega
      have d1 : decide ((zs.length : Int) < (zs.length : Int)) = false := decide_eq_false (by omega)
      rw [List.take_length] at HG
      have H4 : Hid (EnvP w0 wr (Ls.set i (rs b first (fre I (zs.take 0))))) := ⟨by rw [List.take_zero]; show EnvP w0 wr (Ls.set i (rs b first I)); rw [hself]; exact H.out⟩
      have HCS := Hid.mk hcs
      clear H hcs
      go_wp2
      go_loopw [7] (fun vi wr => ∃ t : Nat, t ≤ zs.length ∧ vi = .int .i64 (t : Int) ∧ Hid (EnvP w0 wr (Ls.set i (rs b first (fre I (zs.take t)))))) (fun i _ => zs.length - (intOf i).toNat)
      case atStart => exact ⟨0, by omega, rfl, H4⟩
      case round =>
        clear H4
        obtain ⟨t, ht, rfl, H5⟩ := hrel
        by_cases htl : t < zs.length
        · have d2 : decide ((t : Int) < (zs.length : Int)) = true := decide_eq_true (by omega)
          have t2 : (t : Int) < (zs.length : Int) := by omega
          obtain ⟨bb, off, rfl, cz⟩ := HCS.out _ _ H5.out t htl
          have hg := HG.out.1 _ (getD_mem htl)
          have hru : 0 ≤ zs.getD t 0 ∧ zs.getD t 0 < (I.length : Int) := by
            have := hg.1
            unfold rus at this
            simp at this
            exact this.1
          obtain ⟨y, hy⟩ := Int.eq_ofNat_of_zero_le hru.1
          rw [hy] at cz hru
          have hyl : y < I.length := by omega
          have hset : (Ls.set i (rs b first (fre I (zs.take t))))[i]? = some (rs b first (fre I (zs.take t))) := List.getElem?_set_self hil
          obtain ⟨va, vc, c0, c1, hc⟩ := H5.out.rsc i hset
          rw [fre_len] at c1 hc
          obtain ⟨g, rfl, cy⟩ := hc y hyl
          obtain ⟨fz, E6⟩ := H5.out.rsSet i hset (g := g) (vc := vc) (by rw [fre_len]; exact c1) y (by rw [fre_len]; exact hyl) false
          rw [List.set_set] at E6
          have e6 : (fre I (zs.take t)).set y false = fre I (zs.take (t + 1)) := by
            rw [take_snoc htl, fre_snoc, hy]; rfl
          rw [e6] at E6
          have H6 := Hid.mk E6.drew
          have y2 : (y : Int) < (I.length : Int) := by omega
          clear E6 H5 hc hset e6 c0 hg
          go_wp2_with fail
          go_region
          all_goals
            go_wp2
            exact ⟨⟨t + 1, by omega, by go_num, H6⟩, by simp [intOf]; omega⟩
        · obtain rfl : t = zs.length := by omega
          have d2 : decide ((zs.length : Int) < (zs.length : Int)) = false := decide_eq_false (by omega)
          rw [List.take_length] at H5
          go_wp2
          go_ret
          exact .inl ⟨HG.out, rfl, H5.out⟩
end
end Go.Proofs.YtghdgddpdamhcaaGreat

/- The document's model of a space: Takes. -/
namespace Go.Proofs.YtghdgddpdamhcaaGreat
set_option linter.unusedVariables false
set_option linter.unusedSimpArgs false
open Go.RowKit Go.Maps
/-- they are in use -/
def tak (I : List Bool) (l : List Nat) : List Bool := l.foldl (fun I k => I.set k true) I
theorem tak_len : ∀ (l : List Nat) (I : List Bool), (tak I l).length = I.length
  | [], _ => rfl
  | k :: r, I => by
    show (tak (I.set k true) r).length = I.length
    rw [tak_len r, List.length_set]
theorem tak_snoc (I : List Bool) (l : List Nat) (k : Nat) : tak I (l ++ [k]) = (tak I l).set k true := by unfold tak; rw [List.foldl_append]; rfl
theorem tak_get : ∀ (l : List Nat) (I : List Bool) (k : Nat), k ∉ l → (tak I l).getD k false = I.getD k false
  | [], _, _, _ => rfl
  | a :: r, I, k, h => by
    show (tak (I.set a true) r).getD k false = _
    rw [tak_get r _ k (fun e => h (List.mem_cons_of_mem _ e))]
    have hne : a ≠ k := fun e => h (by rw [e]; exact List.mem_cons_self)
    rw [List.getD_eq_getElem?_getD, List.getD_eq_getElem?_getD, List.getElem?_set_ne hne]
theorem takeN_snoc {l : List Nat} {i : Nat} (h : i < l.length) : l.take (i + 1) = l.take i ++ [l[i]] := by
  rw [List.take_add_one, List.getElem?_eq_getElem h]; rfl
theorem not_mem_take {l : List Nat} (hr : l.Pairwise (· < ·)) {i : Nat} (h : i < l.length) : l[i] ∉ l.take i := fun hm => by
  obtain ⟨k, hk, e⟩ := List.mem_iff_getElem.1 hm
  rw [List.getElem_take] at e
  have hki : k < i := by rw [List.length_take] at hk; omega
  have := List.pairwise_iff_getElem.1 hr k i (by omega) h hki
  omega
section
variable {w0 w w' : World} {Ls : List (Th → Prop)} {b first : Nat} {I : List Bool}
set_option maxRecDepth 100000 in
theorem rTakes_neg (h : EnvP w0 w Ls) (z : Int) (hz : z < 0) : Calls Tryz.prog 60 #[pt b, .int .i64 z, .slice none 0 0, .int .i64 1] w fun e w' => e = .returned (.bool true) ∧ EnvP w0 w' Ls := by
  have H := Hid.mk h
  have d1 : decide (z < 0) = true := decide_eq_true hz
  clear h
  go_enter Tryz.func60, Tryz.ntmps60
  go_wp2_with fail
  go_ret
  exact ⟨rfl, H.out⟩
set_option maxRecDepth 100000 in
theorem rTakes_more (h : EnvP w0 w Ls) (i : Nat) (hi : Ls[i]? = some (rs b first I)) (hl : I.length ≤ 5000) (z : Int) (hz : ¬ z < 0) (hm : ((rlf I : Nat) : Int) < z) : Calls Tryz.prog 60 #[pt b, .int .i64 z, .slice none 0 0, .int .i64 40] w fun e w' => e = .returned (.bool true) ∧ EnvP w0 w' Ls := by
  have H := Hid.mk h
  have qL := rLeft_env h i hi hl
  have d1 : decide (z < 0) = false := decide_eq_false hz
  have d2 : decide (((rlf I : Nat) : Int) < z) = true := decide_eq_true hm
  generalize ((rlf I : Nat) : Int) = R at *
  clear h
  go_enter Tryz.func60, Tryz.ntmps60
  go_wp2_with fail
  refine qL.mono ?_
  rintro e w1 ⟨rfl, k, rfl⟩
  dsimp only
  go_wp2_with fail
  go_ret
  exact ⟨rfl, H.out.drewN k⟩
set_option maxRecDepth 100000 in
set_option maxHeartbeats 4000000 in
theorem rTakes_env (h : EnvP w0 w Ls) (i : Nat) (hi : Ls[i]? = some (rs b first I)) (hl : I.length ≤ 4000) (l : List Nat) (hr : l.Pairwise (· < ·)) (hin : ∀ k ∈ l, k < I.length ∧ I.getD k false = false) (hle : l.length ≤ rlf I) (a : Option Addr) (cap : Nat)
    (hcs : ∀ w1 I1, EnvP w0 w1 (Ls.set i (rs b first I1)) → ∀ j (hj : j < l.length), ∃ bb off, a = some ⟨bb, off, none⟩ ∧ w1.cell? ⟨bb, off + j, none⟩ = some (.int .i64 ((l[j] : Nat) : Int))) :
    Calls Tryz.prog 60 #[pt b, .int .i64 (l.length : Int), .slice a l.length cap, .int .i64 0] w fun e w' => e = .returned (.bool true) ∧ EnvP w0 w' (Ls.set i (rs b first (tak I l))) := by
  have hil := (List.getElem?_eq_some_iff.1 hi).1
  have hself : Ls.set i (rs b first I) = Ls := by
    apply List.ext_getElem?
    intro k
    rw [List.getElem?_set]
    by_cases e : i = k
    · subst e; rw [if_pos rfl, if_pos hil, hi]
    · rw [if_neg e]
  have hrl := rlf_le I
  have qL := rLeft_env h i hi (by omega)
  have d1 : decide ((l.length : Int) < 0) = false := decide_eq_false (by omega)
  have d2 : decide (((rlf I : Nat) : Int) < (l.length : Int)) = false := decide_eq_false (by omega)
  have H := Hid.mk h
  have HCS := Hid.mk hcs
  have HIN := Hid.mk hin
  have HR := Hid.mk hr
  have hll : l.length ≤ 4000 := by omega
  generalize ((rlf I : Nat) : Int) = R at *
  clear h hcs hin hr hle hrl
  go_enter Tryz.func60, Tryz.ntmps60
  go_wp2_with fail
  refine qL.mono ?_
  rintro e w1 ⟨rfl, k, rfl⟩
  have H1 : Hid (EnvP w0 (w.drewN k) (Ls.set i (rs b first (tak I (l.take 0))))) := ⟨by rw [List.take_zero]; show EnvP w0 _ (Ls.set i (rs b first I)); rw [hself]; exact H.out.drewN k⟩
  clear H qL
  generalize w.drewN k = w1 at *
  dsimp only
  go_wp2_with fail
  go_loopw [9] (fun vi wr => ∃ t : Nat, t ≤ l.length ∧ vi = .int .i64 (t : Int) ∧ Hid (EnvP w0 wr (Ls.set i (rs b first (tak I (l.take t)))))) (fun i _ => l.length - (intOf i).toNat)
  case atStart => exact ⟨0, by omega, rfl, H1⟩
  case round =>
    clear H1
    obtain ⟨t, ht, rfl, H5⟩ := hrel
    by_cases htl : t < l.length
    · have d3 : decide ((t : Int) < (l.length : Int)) = true := decide_eq_true (by omega)
      have t2 : (t : Int) < (l.length : Int) := by omega
      obtain ⟨bb, off, rfl, cz⟩ := HCS.out _ _ H5.out t htl
      have hy := HIN.out _ (List.getElem_mem htl)
      have hset : (Ls.set i (rs b first (tak I (l.take t))))[i]? = some (rs b first (tak I (l.take t))) := List.getElem?_set_self hil
      obtain ⟨va, vc, c0, c1, hc⟩ := H5.out.rsc i hset
      rw [tak_len] at c1 hc
      obtain ⟨g, rfl, cy⟩ := hc l[t] hy.1
      rw [tak_get _ _ _ (not_mem_take HR.out htl), hy.2] at cy
      have HS : Hid (∀ w5, EnvP w0 w5 (Ls.set i (rs b first (tak I (l.take t)))) → w5.cell? ⟨b, 1, none⟩ = some (.slice (some ⟨g, 0, none⟩) I.length vc) → w5.frozen? ⟨g, l[t], none⟩ = false ∧ EnvP w0 (w5.setCell ⟨g, l[t], none⟩ (.bool true)) (Ls.set i (rs b first (tak I (l.take (t + 1)))))) := ⟨fun w5 h5 h6 => by
        have := h5.rsSet i hset (g := g) (vc := vc) (by rw [tak_len]; exact h6) l[t] (by rw [tak_len]; exact hy.1) true
        rw [List.set_set, ← tak_snoc, ← takeN_snoc htl] at this
        exact this⟩
      have y2 : ((l[t] : Nat) : Int) < (I.length : Int) := by have := hy.1; omega
      have d4 : decide (((l[t] : Nat) : Int) < 0) = false := decide_eq_false (by omega)
      have d5 : decide ((I.length : Int) ≤ ((l[t] : Nat) : Int)) = false := decide_eq_false (by omega)
      have d6 : decide (I.length ≤ l[t]) = false := decide_eq_false (by omega)
      by_cases ht0 : t = 0
      · subst ht0
        generalize l[0] = Y at *
        have cz0 : wr.cell? ⟨bb, off, none⟩ = some (.int .i64 (Y : Int)) := by simpa using cz
        clear hc hset c0 hy
        go_wp2_with fail
        go_quiet (fail)
        go_wp2_with fail
        have H5q := Hid.mk (H5.out.drewN nq)
        have c1q : (wr.drewN nq).cell? ⟨b, 1, none⟩ = some (.slice (some ⟨g, 0, none⟩) I.length vc) := c1
        have czq : (wr.drewN nq).cell? ⟨bb, off, none⟩ = some (.int .i64 (Y : Int)) := cz0
        have cyq : (wr.drewN nq).cell? ⟨g, Y, none⟩ = some (.bool false) := cy
        clear H5 c1 cz cy cz0
        generalize wr.drewN nq = wq at *
        obtain ⟨fz, E6⟩ := HS.out _ H5q.out c1q
        have H6 := Hid.mk E6.drew
        clear E6 H5q HS
        go_region
        all_goals
          go_wp2
          exact ⟨⟨0 + 1, by omega, by go_num, H6⟩, by simp [intOf]; omega⟩
      · have tp : decide ((0 : Int) < (t : Int)) = true := decide_eq_true (by omega)
        have tp2 : (t : Int) - 1 < (l.length : Int) := by omega
        obtain ⟨bb2, off2, e2, cp⟩ := HCS.out _ _ H5.out (t - 1) (by omega)
        cases e2
        have hlt := List.pairwise_iff_getElem.1 HR.out (t - 1) t (by omega) htl (by omega)
        obtain ⟨t', rfl⟩ : ∃ t', t = t' + 1 := ⟨t - 1, by omega⟩
        have d7 : decide (((l[t' + 1] : Nat) : Int) ≤ ((l[t'] : Nat) : Int)) = false := decide_eq_false (by simp only [Nat.add_sub_cancel] at hlt; omega)
        have d8 : decide (l[t' + 1] ≤ l[t']) = false := decide_eq_false (by simp only [Nat.add_sub_cancel] at hlt; omega)
        simp only [Nat.add_sub_cancel] at cp
        generalize l[t' + 1] = Y at *
        generalize l[t'] = Y0 at *
        clear hc hset c0 hy hlt
        go_wp2_with fail
        go_quiet (fail)
        go_wp2_with fail
        have H5q := Hid.mk (H5.out.drewN nq)
        have c1q : (wr.drewN nq).cell? ⟨b, 1, none⟩ = some (.slice (some ⟨g, 0, none⟩) I.length vc) := c1
        have czq : (wr.drewN nq).cell? ⟨bb, off + (t' + 1), none⟩ = some (.int .i64 (Y : Int)) := cz
        have cyq : (wr.drewN nq).cell? ⟨g, Y, none⟩ = some (.bool false) := cy
        clear H5 c1 cz cy
        generalize wr.drewN nq = wq at *
        obtain ⟨fz, E6⟩ := HS.out _ H5q.out c1q
        have H6 := Hid.mk E6.drew
        clear E6 H5q HS
        go_region
        all_goals
          go_wp2
          exact ⟨⟨t' + 1 + 1, by omega, by go_num, H6⟩, by simp [intOf]; omega⟩
    · obtain rfl : t = l.length := by omega
      have d3 : decide ((l.length : Int) < (l.length : Int)) = false := decide_eq_false (by omega)
      rw [List.take_length] at H5
      go_wp2_with fail
      go_ret
      exact ⟨rfl, H5.out⟩
end
end Go.Proofs.YtghdgddpdamhcaaGreat

/- The document's model of a space: Make. -/
namespace Go.Proofs.YtghdgddpdamhcaaGreat
set_option linter.unusedVariables false
set_option linter.unusedSimpArgs false
open Go.RowKit Go.Maps
/-- one bool behind a row of one's own, in a drawn region -/
theorem step_bool {ops : Array Oper} {o : Oper} {a : Act} {K : Act → World → Prop} {Q : Exit → Act → World → Prop} {E : Prop} {W w : World} (hgd : o.guard = none) (s x : Operand) (ho : o.op = .call { callee := .builtin .append, args := #[s, x], argTypes := #[32, 32] })
    {I : List Bool} {v : Value} {u : Bool} {g : Nat} (hW : W = w.alloc (.cells #[.bool u] 4)) (hg : g = w.heap.size) (hown : w.ownsRow 0 4 1 v I.length (bv I)) (hn : I.length ≤ 5000)
    (hs : a.eval s = v) (hx : a.eval x = .slice (some ⟨g, 0, none⟩) 1 1)
    (h : ∀ y cap w', w'.ownsRow 0 4 1 (.slice (some ⟨y, 0, none⟩) (I.length + 1) cap) (I.length + 1) (bv (I ++ [u])) → w.grownBy w' v.ownBlock → (v.ownBlock = some y ∨ w.heap.size ≤ y) → K (a.put o.dst (.slice (some ⟨y, 0, none⟩) (I.length + 1) cap)) w') :
    if Region.wanted o (yielded ops a.tmps) = true then Oper.wp Tryz.prog o a W K Q else E := by
  subst hW hg
  obtain ⟨i0, hi0, hz0, hz1, hz2⟩ := info_parts infoBl
  have hm : maxLen = 9223372036854775807 := rfl
  refine step_append_lies _ hgd s x 32 ho 0 4 i0 _ 1 1 Tryz.underlying32 hi0 hz0 hz1 hz2 rfl (by omega) v I.length (bv I) hs (hown.alloc _) _ 1 1 [.bool u] hx rfl
    (World.news_of_block (cs := #[.bool u]) (t := 4) (fr := (0, 0)) (heap_alloc_new w _)) (by simp [Value.oneCell']) (by omega) (by rw [hm]; omega) (by omega) (Nat.zero_le _) _ rfl ?_
  intro y cap w' hown' hgrow hat hlt
  refine h y cap w' ?_ ((World.grownBy_alloc _ _ _).trans hgrow) (hat.imp id (fun e => by simp at e; omega))
  unfold bv at *
  rw [List.map_append]
  exact hown'
/-- a call within a drawn region, by its contract -/
theorem step_call3 {P : Program} {ops : Array Oper} {o : Oper} {a : Act} {K : Act → World → Prop} {Q : Exit → Act → World → Prop} {E : Prop} {W : World} (hgd : o.guard = none) (f : FuncId) (x y z : Operand) (ats : Array TypeId) (ho : o.op = .call { callee := .value (.func f), args := #[x, y, z], argTypes := ats }) (eg : ∀ args w, (callFunc f args).run P w = .ok (.enter f args) w)
    {v1 v2 v3 v : Value} {G : World → Prop} (h1 : a.eval x = v1) (h2 : a.eval y = v2) (h3 : a.eval z = v3) (hc : Calls P f #[v1, v2, v3] W fun e w' => e = .returned v ∧ G w') (h : ∀ w', G w' → K (a.put o.dst v) w') :
    if Region.wanted o (yielded ops a.tmps) = true then Oper.wp P o a W K Q else E := by
  have hw : Region.wanted o (yielded ops a.tmps) = true := by simp [Region.wanted, hgd]
  rw [if_pos hw]
  have hx : (execOp a.eval o).run P W = .ok (.enter f #[v1, v2, v3]) W := by
    obtain ⟨dst, op, ty, pos, after, guard⟩ := o
    simp only at ho
    subst ho
    rw [execOp_call_go, eg, ← h1, ← h2, ← h3]
    generalize a.eval = ev
    simp
  unfold Oper.wp
  rw [hx, Oper.upon_enter]
  refine hc.mono ?_
  rintro e w' ⟨rfl, g⟩
  exact h w' g
/-- a new one -/
def inM (first k : Nat) : List Bool := (List.range k).map fun j : Nat => decide ((j : Int) < ((first + 1 : Nat) : Int))
theorem inM_len (first k : Nat) : (inM first k).length = k := by simp [inM]
theorem inM_snoc (first k : Nat) : inM first k ++ [decide ((k : Int) < ((first + 1 : Nat) : Int))] = inM first (k + 1) := by unfold inM; rw [List.range_succ, List.map_append]; rfl
section
variable {w0 w w' : World} {Ls : List (Th → Prop)} {b first : Nat} {I : List Bool}
set_option maxRecDepth 100000 in
theorem rMake_neg (M : Nat) (z : Int) (hz : z < 0) (w : World) : Calls Tryz.prog 28 #[.int .i64 (M : Int), .int .i64 z] w fun e w' => e = .returned (.tuple #[.pointer none, .int .i64 1]) ∧ w' = w := by
  have d1 : decide (z < 0) = true := decide_eq_true hz
  go_enter Tryz.func28, Tryz.ntmps28
  go_wp2_with fail
  go_ret2
  exact ⟨rfl, rfl⟩
set_option maxRecDepth 100000 in
theorem rMake_over (M : Nat) (hM : 1 ≤ M) (hM2 : M ≤ 4000) (z : Int) (hz : ¬ z < 0) (hz2 : (M : Int) < z + 1) (hz3 : z ≤ 9223372036854775807) (w : World) : Calls Tryz.prog 28 #[.int .i64 (M : Int), .int .i64 z] w fun e w' => e = .returned (.tuple #[.pointer none, .int .i64 40]) ∧ w' = w := by
  have d1 : decide (z < 0) = false := decide_eq_false hz
  have qO := fun w => rOwn_any M w hM hM2
  by_cases h1 : (M : Int) < z
  · have d2 : decide ((M : Int) < z) = true := decide_eq_true h1
    go_enter Tryz.func28, Tryz.ntmps28
    go_wp2_with fail
    go_ret2
    exact ⟨rfl, rfl⟩
  · obtain rfl : z = (M : Int) := by omega
    have d2 : decide ((M : Int) < (M : Int)) = false := decide_eq_false h1
    have d3 : decide ((M : Int) < (M : Int) + 1) = true := decide_eq_true (by omega)
    go_enter Tryz.func28, Tryz.ntmps28
    go_wp2_with fail
    refine (qO w).mono ?_
    rintro e w1 ⟨rfl, rfl⟩
    dsimp only
    go_wp2_with fail
    go_ret2
    exact ⟨rfl, rfl⟩
end
end Go.Proofs.YtghdgddpdamhcaaGreat

/- The document's model of a space: Make, the whole. -/
namespace Go.Proofs.YtghdgddpdamhcaaGreat
set_option linter.unusedVariables false
set_option linter.unusedSimpArgs false
open Go.RowKit Go.Maps
theorem step_store {ops : Array Oper} {o : Oper} {a : Act} {K : Act → World → Prop} {Q : Exit → Act → World → Prop} {E : Prop} {w : World} (hgd : o.guard = none) (hd : o.dst = none) (x y : Operand) (ho : o.op = .store 32 x y) {b j n c : Nat} {g : Option Addr} {v : Value}
    (h1 : a.eval x = .pointer (some ⟨b, j, none⟩)) (h2 : a.eval y = .slice g n c) (hc : w.cell? ⟨b, j, none⟩ = some v) (hf : w.frozen? ⟨b, j, none⟩ = false) (h : K a (w.setCell ⟨b, j, none⟩ (.slice g n c))) :
    if Region.wanted o (yielded ops a.tmps) = true then Oper.wp Tryz.prog o a w K Q else E := by
  have hw : Region.wanted o (yielded ops a.tmps) = true := by simp [Region.wanted, hgd]
  rw [if_pos hw]
  have hx : (execOp a.eval o).run Tryz.prog w = .ok .skip (w.setCell ⟨b, j, none⟩ (.slice g n c)) := by
    obtain ⟨dst, op, ty, pos, after, guard⟩ := o
    simp only at ho
    subst ho
    clear h hw hgd hd
    generalize a.eval = ev at *
    go_simp
  unfold Oper.wp
  rw [hx]
  show K (a.put o.dst undef) _
  rw [hd]
  exact h
section
variable {w0 w w' : World} {Ls : List (Th → Prop)} {b first : Nat} {I : List Bool}
set_option maxRecDepth 100000 in
set_option maxHeartbeats 4000000 in
theorem rMake_env (h : EnvP w0 w Ls) (M first : Nat) (hM2 : M ≤ 4000) (hf : first + 1 ≤ M) : Calls Tryz.prog 28 #[.int .i64 (M : Int), .int .i64 (first : Int)] w fun e w' => ∃ y, e = .returned (.tuple #[pt y, .int .i64 0]) ∧ EnvP w0 w' (Ls ++ [rs y first (inM first M)]) := by
  have d1 : decide ((first : Int) < 0) = false := decide_eq_false (by omega)
  have d2 : decide ((M : Int) < (first : Int)) = false := decide_eq_false (by omega)
  have d3 : decide ((M : Int) < (first : Int) + 1) = false := decide_eq_false (by omega)
  have qO := fun w => rOwn_any M w (by omega) hM2
  have K0 := heap_alloc_new w (.cells #[.int .i64 (first : Int), .slice none 0 0] 98)
  have E0 := Hid.mk (h.push (rsTh w.heap.size first (.slice none 0 0) []) (rs w.heap.size first []) ⟨_, (fun e => by cases e), rfl⟩ ((Below.refl _ _).alloc (Nat.le_refl _) _) ⟨K0, World.ownsRow_nil _ _ _ _⟩ (fun k hk => by
    rcases hk with rfl | hk
    · exact Nat.le_refl _
    · cases hk))
  clear h K0
  go_enter Tryz.func28, Tryz.ntmps28
  go_wp2_with fail
  refine (qO w).mono ?_
  rintro e w1 ⟨rfl, rfl⟩
  dsimp only
  go_wp2_with fail
  generalize w1.alloc (.cells #[.int .i64 (first : Int), .slice none 0 0] 98) = w2 at *
  generalize w1.heap.size = y at *
  rw [show decide (M < first) = false from decide_eq_false (by omega)]
  go_loopw [7] (fun vi wr => ∃ k : Nat, k ≤ M ∧ vi = .int .i64 (k : Int) ∧ Hid (EnvP w0 wr (Ls ++ [rs y first (inM first k)]))) (fun i _ => M - (intOf i).toNat)
  case atStart => exact ⟨0, by omega, rfl, E0⟩
  case round =>
    clear E0
    obtain ⟨k, hk, rfl, H⟩ := hrel
    by_cases hkl : k < M
    · have d4 : decide ((k : Int) < (M : Int)) = true := decide_eq_true (by omega)
      have hix : (Ls ++ [rs y first (inM first k)])[Ls.length]? = some (rs y first (inM first k)) := by simp
      have qK : Calls Tryz.prog 55 #[pt y, .int .i64 (k : Int), .int .i64 (M : Int)] wr.drew fun e w' => e = .returned (.bool (decide ((k : Int) < ((first + 1 : Nat) : Int)))) ∧ ∃ k', w' = wr.drew.drewN k' := rKept_env H.out.drew Ls.length hix (k : Int) M (by omega) hM2 (by omega)
      obtain ⟨v, hne, hb, ho, hn⟩ := H.out.rs Ls.length hix
      have HSN := Hid.mk (inM_snoc first k)
      have hil := inM_len first k
      generalize decide ((k : Int) < ((first + 1 : Nat) : Int)) = u at *
      generalize inM first k = I at *
      subst hil
      obtain ⟨va, vc, rfl⟩ := own_slice ho
      have c1 : wr.cell? ⟨y, 1, none⟩ = some (.slice va I.length vc) := cell_of_row wr y 1 _ _ (0, 0) hb
      have HB := Hid.mk hb
      have HO := Hid.mk ho
      have HNN := Hid.mk hn
      have HNE := Hid.mk hne
      have hyl : y < wr.heap.size := heap_lt hb
      have hIl : I.length ≤ 5000 := by omega
      clear hb ho hn hix hne H
      go_wp2_with fail
      have HEND : Hid (∀ k5 y9 cap9 w9, w9.ownsRow 0 4 1 (.slice (some ⟨y9, 0, none⟩) (I.length + 1) cap9) (I.length + 1) (bv (I ++ [u])) → (wr.drew.drewN k5).grownBy w9 (Value.slice va I.length vc).ownBlock → ((Value.slice va I.length vc).ownBlock = some y9 ∨ (wr.drew.drewN k5).heap.size ≤ y9) → w9.cell? ⟨y, 1, none⟩ = some (.slice va I.length vc) ∧ w9.frozen? ⟨y, 1, none⟩ = false ∧ EnvP w0 (w9.setCell ⟨y, 1, none⟩ (.slice (some ⟨y9, 0, none⟩) (I.length + 1) cap9)) (Ls ++ [rs y first (inM first (I.length + 1))])) := ⟨fun k5 y9 cap9 w9 o9 g9 n9 => by
        have K9 : w9.heap[y]? = some (.cells #[.int .i64 (first : Int), .slice va I.length vc] 98 (0, 0)) := (g9.block y hyl (fun e => HNE.out e.symm)).trans HB.out
        have hy9 : y9 ≠ y := fun e => by
          rcases n9 with h | h
          · rw [e] at h; exact HNE.out h
          · have h2 : wr.heap.size ≤ y9 := h
            omega
        refine ⟨cell_of_row w9 y 1 _ _ (0, 0) K9, frozen_of_row w9 y 1 _ _ K9, ?_⟩
        have E := HNN.out (w9.setCell ⟨y, 1, none⟩ (.slice (some ⟨y9, 0, none⟩) (I.length + 1) cap9)) (.slice (some ⟨y9, 0, none⟩) (I.length + 1) cap9) (I ++ [u]) (heap_setCell_same w9 y 1 _ _ _ K9) (by
          rw [List.length_append]
          exact ownsRow_setCell_other o9 (a := ⟨y, 1, none⟩) (fun e => hy9 (by simpa [Value.ownBlock] using e)) _) ?_ (fun k hk => by
            have : y9 = k := by simpa [Value.ownBlock] using hk
            subst this
            rcases n9 with h | h
            · exact .inl h
            · exact .inr h)
        · rw [List.set_append_right _ _ (Nat.le_refl _), Nat.sub_self, HSN.out] at E
          exact E
        · refine ⟨g9.os, g9.tape, g9.output, by simpa using g9.size, fun k hk hn => ?_⟩
          rw [heap_setCell_other _ _ _ _ (fun e => hn (.inl e))]
          exact g9.block k hk (fun e => hn (.inr e.symm))⟩
      refine wp_region_held_drew (S := fun _ => True) (by kernel_rfl) trivial (fun hHeld => ?_)
      refine take_d 0 29 (pt y) rfl rfl (by kernel_rfl) (by kernel_rfl) (by kernel_rfl) (fun _ _ _ h => h) (by kernel_rfl) ?_ (by assumption) ?_
      · intro w hSw
        rfl
      try simp only [Act.put, List.setIfInBounds_toArray, List.set_cons_zero, List.set_cons_succ]
      refine take_d 1 30 (pt y) rfl rfl (by kernel_rfl) (by kernel_rfl) (by kernel_rfl) (fun _ _ _ h => h) (by kernel_rfl) ?_ (by assumption) ?_
      · intro w hSw
        rfl
      try simp only [Act.put, List.setIfInBounds_toArray, List.set_cons_zero, List.set_cons_succ]
      refine take_d 2 31 (.pointer (some ⟨y, 0, none⟩)) rfl rfl (by kernel_rfl) (by kernel_rfl) (by kernel_rfl) (fun _ _ _ h => h) (by kernel_rfl) ?_ (by assumption) ?_
      · intro w hSw
        go_simp
      try simp only [Act.put, List.setIfInBounds_toArray, List.set_cons_zero, List.set_cons_succ]
      refine take_d 3 32 (.pointer (some ⟨y, 1, none⟩)) rfl rfl (by kernel_rfl) (by kernel_rfl) (by kernel_rfl) (fun _ _ _ h => h) (by kernel_rfl) ?_ (by assumption) ?_
      · intro w hSw
        go_simp
      try simp only [Act.put, List.setIfInBounds_toArray, List.set_cons_zero, List.set_cons_succ]
      refine take_d 5 34 (pt y) rfl rfl (by kernel_rfl) (by kernel_rfl) (by kernel_rfl) (fun _ _ _ h => h) (by kernel_rfl) ?_ (by assumption) ?_
      · intro w hSw
        rfl
      try simp only [Act.put, List.setIfInBounds_toArray, List.set_cons_zero, List.set_cons_succ]
      refine take_d 6 35 (.int .i64 (I.length : Int)) rfl rfl (by kernel_rfl) (by kernel_rfl) (by kernel_rfl) (fun _ _ _ h => h) (by kernel_rfl) ?_ (by assumption) ?_
      · intro w hSw
        rfl
      try simp only [Act.put, List.setIfInBounds_toArray, List.set_cons_zero, List.set_cons_succ]
      refine take_d 7 36 (.int .i64 (M : Int)) rfl rfl (by kernel_rfl) (by kernel_rfl) (by kernel_rfl) (fun _ _ _ h => h) (by kernel_rfl) ?_ (by assumption) ?_
      · intro w hSw
        rfl
      try simp only [Act.put, List.setIfInBounds_toArray, List.set_cons_zero, List.set_cons_succ]
      clear hHeld
      refine wpAnyH_ready (rs := [4, 8]) (by kernel_rfl) (by simp) ?_
      refine AllReadyH.cons rfl (fun K hK => ?_) (AllReadyH.cons rfl (fun K hK => ?_) AllReadyH.nil)
      · rw [if_pos (by kernel_rfl)]
        have cL : (wr.drew).cell? ⟨y, 1, none⟩ = some (.slice va I.length vc) := c1
        refine val_step (v := .slice va I.length vc) (w2 := wr.drew) 33 rfl ?_ ?_
        · go_simp
        refine hK.out _ _ trivial (fun hHeld => ?_)
        clear hK K
        try simp only [Act.put, List.setIfInBounds_toArray, List.set_cons_zero, List.set_cons_succ]
        clear hHeld
        refine wpAnyH_ready (rs := [8]) (by kernel_rfl) (by simp) ?_
        refine AllReadyH.cons rfl (fun K hK => ?_) AllReadyH.nil
        refine step_call3 rfl 55 _ _ _ _ rfl (enters_of Tryz.func55 (by kernel_rfl) rfl) rfl rfl rfl qK ?_
        rintro w5 ⟨k5, rfl⟩
        refine hK.out _ _ trivial (fun hHeld => ?_)
        clear hK K
        try simp only [Act.put, List.setIfInBounds_toArray, List.set_cons_zero, List.set_cons_succ]
        clear hHeld
        refine wpAnyH_ready (rs := [9]) (by kernel_rfl) (by simp) ?_
        refine AllReadyH.cons rfl (fun K hK => ?_) AllReadyH.nil
        rw [if_pos (by kernel_rfl)]
        refine val_step (v := .slice (some ⟨(wr.drew.drewN k5).heap.size, 0, none⟩) 1 1) (w2 := (wr.drew.drewN k5).alloc (.cells #[.bool u] 4)) 38 rfl ?_ ?_
        · go_simp
        refine hK.out _ _ trivial (fun hHeld => ?_)
        clear hK K
        try simp only [Act.put, List.setIfInBounds_toArray, List.set_cons_zero, List.set_cons_succ]
        clear hHeld
        refine wpAnyH_ready (rs := [10]) (by kernel_rfl) (by simp) ?_
        refine AllReadyH.cons rfl (fun K hK => ?_) AllReadyH.nil
        refine step_bool rfl _ _ rfl (w := wr.drew.drewN k5) rfl rfl HO.out hIl rfl rfl ?_
        intro y9 cap9 w9 o9 g9 n9
        refine hK.out _ _ trivial (fun hHeld => ?_)
        clear hK K
        try simp only [Act.put, List.setIfInBounds_toArray, List.set_cons_zero, List.set_cons_succ]
        refine take_d 11 40 (.pointer (some ⟨y, 0, none⟩)) rfl rfl (by kernel_rfl) (by kernel_rfl) (by kernel_rfl) (fun _ _ _ h => h) (by kernel_rfl) ?_ (by assumption) ?_
        · intro w hSw
          go_simp
        try simp only [Act.put, List.setIfInBounds_toArray, List.set_cons_zero, List.set_cons_succ]
        refine take_d 12 41 (.pointer (some ⟨y, 1, none⟩)) rfl rfl (by kernel_rfl) (by kernel_rfl) (by kernel_rfl) (fun _ _ _ h => h) (by kernel_rfl) ?_ (by assumption) ?_
        · intro w hSw
          go_simp
        try simp only [Act.put, List.setIfInBounds_toArray, List.set_cons_zero, List.set_cons_succ]
        clear hHeld
        refine wpAnyH_ready (rs := [13]) (by kernel_rfl) (by simp) ?_
        refine AllReadyH.cons rfl (fun K hK => ?_) AllReadyH.nil
        have h9 := HEND.out k5 y9 cap9 w9 o9 g9 n9
        with_reducible refine step_store (g := some ⟨y9, 0, none⟩) (n := I.length + 1) (c := cap9) ?_ ?_ (.tmp 41) (.tmp 39) ?_ ?_ ?_ h9.1 h9.2.1 ?_
        · exact rfl
        · exact rfl
        · exact rfl
        · exact rfl
        · exact rfl
        refine hK.out _ _ trivial (fun hHeld => ?_)
        clear hK K
        try simp only [Act.put, List.setIfInBounds_toArray, List.set_cons_zero, List.set_cons_succ]
        refine wpAnyH_done (by kernel_rfl) ?_ _
        have H9 := Hid.mk h9.2.2
        clear hHeld o9 g9 n9 h9
        go_wp2
        exact ⟨⟨I.length + 1, by omega, by go_num, H9⟩, by simp [intOf]; omega⟩
      · refine step_call3 rfl 55 _ _ _ _ rfl (enters_of Tryz.func55 (by kernel_rfl) rfl) rfl rfl rfl qK ?_
        rintro w5 ⟨k5, rfl⟩
        refine hK.out _ _ trivial (fun hHeld => ?_)
        clear hK K
        try simp only [Act.put, List.setIfInBounds_toArray, List.set_cons_zero, List.set_cons_succ]
        clear hHeld
        refine wpAnyH_ready (rs := [4, 9]) (by kernel_rfl) (by simp) ?_
        refine AllReadyH.cons rfl (fun K hK => ?_) (AllReadyH.cons rfl (fun K hK => ?_) AllReadyH.nil)
        · rw [if_pos (by kernel_rfl)]
          have cL : (wr.drew.drewN k5).cell? ⟨y, 1, none⟩ = some (.slice va I.length vc) := c1
          refine val_step (v := .slice va I.length vc) (w2 := wr.drew.drewN k5) 33 rfl ?_ ?_
          · go_simp
          refine hK.out _ _ trivial (fun hHeld => ?_)
          clear hK K
          try simp only [Act.put, List.setIfInBounds_toArray, List.set_cons_zero, List.set_cons_succ]
          clear hHeld
          refine wpAnyH_ready (rs := [9]) (by kernel_rfl) (by simp) ?_
          refine AllReadyH.cons rfl (fun K hK => ?_) AllReadyH.nil
          rw [if_pos (by kernel_rfl)]
          refine val_step (v := .slice (some ⟨(wr.drew.drewN k5).heap.size, 0, none⟩) 1 1) (w2 := (wr.drew.drewN k5).alloc (.cells #[.bool u] 4)) 38 rfl ?_ ?_
          · go_simp
          refine hK.out _ _ trivial (fun hHeld => ?_)
          clear hK K
          try simp only [Act.put, List.setIfInBounds_toArray, List.set_cons_zero, List.set_cons_succ]
          clear hHeld
          refine wpAnyH_ready (rs := [10]) (by kernel_rfl) (by simp) ?_
          refine AllReadyH.cons rfl (fun K hK => ?_) AllReadyH.nil
          refine step_bool rfl _ _ rfl (w := wr.drew.drewN k5) rfl rfl HO.out hIl rfl rfl ?_
          intro y9 cap9 w9 o9 g9 n9
          refine hK.out _ _ trivial (fun hHeld => ?_)
          clear hK K
          try simp only [Act.put, List.setIfInBounds_toArray, List.set_cons_zero, List.set_cons_succ]
          refine take_d 11 40 (.pointer (some ⟨y, 0, none⟩)) rfl rfl (by kernel_rfl) (by kernel_rfl) (by kernel_rfl) (fun _ _ _ h => h) (by kernel_rfl) ?_ (by assumption) ?_
          · intro w hSw
            go_simp
          try simp only [Act.put, List.setIfInBounds_toArray, List.set_cons_zero, List.set_cons_succ]
          refine take_d 12 41 (.pointer (some ⟨y, 1, none⟩)) rfl rfl (by kernel_rfl) (by kernel_rfl) (by kernel_rfl) (fun _ _ _ h => h) (by kernel_rfl) ?_ (by assumption) ?_
          · intro w hSw
            go_simp
          try simp only [Act.put, List.setIfInBounds_toArray, List.set_cons_zero, List.set_cons_succ]
          clear hHeld
          refine wpAnyH_ready (rs := [13]) (by kernel_rfl) (by simp) ?_
          refine AllReadyH.cons rfl (fun K hK => ?_) AllReadyH.nil
          have h9 := HEND.out k5 y9 cap9 w9 o9 g9 n9
          with_reducible refine step_store (g := some ⟨y9, 0, none⟩) (n := I.length + 1) (c := cap9) ?_ ?_ (.tmp 41) (.tmp 39) ?_ ?_ ?_ h9.1 h9.2.1 ?_
          · exact rfl
          · exact rfl
          · exact rfl
          · exact rfl
          · exact rfl
          refine hK.out _ _ trivial (fun hHeld => ?_)
          clear hK K
          try simp only [Act.put, List.setIfInBounds_toArray, List.set_cons_zero, List.set_cons_succ]
          refine wpAnyH_done (by kernel_rfl) ?_ _
          have H9 := Hid.mk h9.2.2
          clear hHeld o9 g9 n9 h9
          go_wp2
          exact ⟨⟨I.length + 1, by omega, by go_num, H9⟩, by simp [intOf]; omega⟩
        · rw [if_pos (by kernel_rfl)]
          refine val_step (v := .slice (some ⟨(wr.drew.drewN k5).heap.size, 0, none⟩) 1 1) (w2 := (wr.drew.drewN k5).alloc (.cells #[.bool u] 4)) 38 rfl ?_ ?_
          · go_simp
          refine hK.out _ _ trivial (fun hHeld => ?_)
          clear hK K
          try simp only [Act.put, List.setIfInBounds_toArray, List.set_cons_zero, List.set_cons_succ]
          clear hHeld
          refine wpAnyH_ready (rs := [4]) (by kernel_rfl) (by simp) ?_
          refine AllReadyH.cons rfl (fun K hK => ?_) AllReadyH.nil
          rw [if_pos (by kernel_rfl)]
          have cL : ((wr.drew.drewN k5).alloc (.cells #[.bool u] 4)).cell? ⟨y, 1, none⟩ = some (.slice va I.length vc) := (Below.cell (p := ⟨y, 1, none⟩) ((Below.refl (wr.drew.drewN k5).heap.size (wr.drew.drewN k5)).alloc (Nat.le_refl _) _) hyl).trans c1
          have cL2 : ((wr.drewN (1 + k5)).alloc (.cells #[.bool u] 4)).cell? ⟨y, 1, none⟩ = some (.slice va I.length vc) := (Below.cell (p := ⟨y, 1, none⟩) ((Below.refl (wr.drewN (1 + k5)).heap.size (wr.drewN (1 + k5))).alloc (Nat.le_refl _) _) hyl).trans c1
          refine val_step (v := .slice va I.length vc) (w2 := (wr.drew.drewN k5).alloc (.cells #[.bool u] 4)) 33 rfl ?_ ?_
          · go_simp
          refine hK.out _ _ trivial (fun hHeld => ?_)
          clear hK K
          try simp only [Act.put, List.setIfInBounds_toArray, List.set_cons_zero, List.set_cons_succ]
          clear hHeld
          refine wpAnyH_ready (rs := [10]) (by kernel_rfl) (by simp) ?_
          refine AllReadyH.cons rfl (fun K hK => ?_) AllReadyH.nil
          refine step_bool rfl _ _ rfl (w := wr.drew.drewN k5) rfl rfl HO.out hIl rfl rfl ?_
          intro y9 cap9 w9 o9 g9 n9
          refine hK.out _ _ trivial (fun hHeld => ?_)
          clear hK K
          try simp only [Act.put, List.setIfInBounds_toArray, List.set_cons_zero, List.set_cons_succ]
          refine take_d 11 40 (.pointer (some ⟨y, 0, none⟩)) rfl rfl (by kernel_rfl) (by kernel_rfl) (by kernel_rfl) (fun _ _ _ h => h) (by kernel_rfl) ?_ (by assumption) ?_
          · intro w hSw
            go_simp
          try simp only [Act.put, List.setIfInBounds_toArray, List.set_cons_zero, List.set_cons_succ]
          refine take_d 12 41 (.pointer (some ⟨y, 1, none⟩)) rfl rfl (by kernel_rfl) (by kernel_rfl) (by kernel_rfl) (fun _ _ _ h => h) (by kernel_rfl) ?_ (by assumption) ?_
          · intro w hSw
            go_simp
          try simp only [Act.put, List.setIfInBounds_toArray, List.set_cons_zero, List.set_cons_succ]
          clear hHeld
          refine wpAnyH_ready (rs := [13]) (by kernel_rfl) (by simp) ?_
          refine AllReadyH.cons rfl (fun K hK => ?_) AllReadyH.nil
          have h9 := HEND.out k5 y9 cap9 w9 o9 g9 n9
          with_reducible refine step_store (g := some ⟨y9, 0, none⟩) (n := I.length + 1) (c := cap9) ?_ ?_ (.tmp 41) (.tmp 39) ?_ ?_ ?_ h9.1 h9.2.1 ?_
          · exact rfl
          · exact rfl
          · exact rfl
          · exact rfl
          · exact rfl
          refine hK.out _ _ trivial (fun hHeld => ?_)
          clear hK K
          try simp only [Act.put, List.setIfInBounds_toArray, List.set_cons_zero, List.set_cons_succ]
          refine wpAnyH_done (by kernel_rfl) ?_ _
          have H9 := Hid.mk h9.2.2
          clear hHeld o9 g9 n9 h9
          go_wp2
          exact ⟨⟨I.length + 1, by omega, by go_num, H9⟩, by simp [intOf]; omega⟩
    · obtain rfl : k = M := by omega
      have d4 : decide ((k : Int) < (k : Int)) = false := decide_eq_false (by omega)
      go_wp2
      go_ret2
      exact ⟨y, rfl, H.out⟩
end
end Go.Proofs.YtghdgddpdamhcaaGreat

/- SpacePlays: what ties the bitmap to the document's model. -/
namespace Go.Proofs.YtghdgddpdamhcaaGreat
set_option linter.unusedVariables false
set_option linter.unusedSimpArgs false
open Go.RowKit Go.Maps
/-- what the model says where the bitmap says T -/
def mdl (first M : Nat) (T : ByteArray) : List Bool := (List.range M).map fun j : Nat => decide (j < first + 1) || bt T j
theorem mdl_len (first M : Nat) (T : ByteArray) : (mdl first M T).length = M := by simp [mdl]
theorem mdl_get {first M : Nat} {T : ByteArray} {j : Nat} (h : j < M) : (mdl first M T).getD j false = (decide (j < first + 1) || bt T j) := by
  unfold mdl
  rw [List.getD_eq_getElem?_getD, List.getElem?_map, List.getElem?_range h]; rfl
theorem mdl_zero (first M : Nat) : inM first M = mdl first M (fl 0) := by
  unfold inM mdl
  apply List.map_congr_left
  intro j _
  rw [bt_fl0, Bool.or_false]
  congr 1
  simp
  omega
theorem mdl_congr {first M : Nat} {T T' : ByteArray} (h : ∀ j, j < M → first + 1 ≤ j → bt T j = bt T' j) : mdl first M T = mdl first M T' := by
  unfold mdl
  apply List.map_congr_left
  intro j hj
  rw [List.mem_range] at hj
  by_cases hf : j < first + 1
  · rw [decide_eq_true hf]; rfl
  · rw [h j hj (by omega)]
theorem rlf_mdl (first M : Nat) (T : ByteArray) : rlf (mdl first M T) = (frees T (first + 1) M).length := by
  unfold rlf mdl frees
  rw [List.filter_map, List.length_map]
  congr 1
  apply List.filter_congr
  intro j _
  simp only [Function.comp]
  by_cases hf : j < first + 1
  · rw [decide_eq_true hf, decide_eq_false (by omega)]; rfl
  · rw [decide_eq_false hf, decide_eq_true (by omega)]; simp
theorem rus_mdl (first M : Nat) (T : ByteArray) (z : Int) : rus (mdl first M T) z = usd M first T z := by
  unfold rus usd
  rw [mdl_len]
  by_cases h0 : 0 ≤ z
  · by_cases h1 : z < (M : Int)
    · rw [decide_eq_true h0, decide_eq_true h1, mdl_get (by omega)]
      congr 2
      have : (z.toNat < first + 1) ↔ (z < (first : Int) + 1) := by omega
      simp only [this]
    · rw [decide_eq_false h1]; simp
  · rw [decide_eq_false h0]; simp
theorem set_mdl {I : List Bool} (M : Nat) (f : Nat → Bool) (k : Nat) (u : Bool) (hk : k < M) : ((List.range M).map f).set k u = (List.range M).map fun j => if j = k then u else f j := by
  apply List.ext_getElem
  · simp
  · intro i h1 h2
    simp at h1 h2
    rw [List.getElem_set]
    by_cases e : k = i
    · subst e; simp
    · rw [if_neg e]
      have e2 : ¬ i = k := fun h => e h.symm
      simp [e2]
theorem tak_map (M : Nat) : ∀ (l : List Nat) (f : Nat → Bool), (∀ k ∈ l, k < M) → tak ((List.range M).map f) l = (List.range M).map fun j => decide (j ∈ l) || f j
  | [], f, _ => by simp [tak]
  | k :: r, f, h => by
    show tak (((List.range M).map f).set k true) r = _
    rw [set_mdl (I := []) M f k true (h k List.mem_cons_self), tak_map M r _ (fun x hx => h x (List.mem_cons_of_mem _ hx))]
    apply List.map_congr_left
    intro j _
    by_cases e : j = k
    · subst e; simp
    · by_cases e2 : j ∈ r <;> simp [e, e2]
theorem fre_map (M : Nat) : ∀ (zs : List Int) (f : Nat → Bool), (∀ z ∈ zs, z.toNat < M) → fre ((List.range M).map f) zs = (List.range M).map fun j => !decide (j ∈ nats zs) && f j
  | [], f, _ => by simp [fre, nats]
  | z :: r, f, h => by
    show fre (((List.range M).map f).set z.toNat false) r = _
    rw [set_mdl (I := []) M f z.toNat false (h z List.mem_cons_self), fre_map M r _ (fun x hx => h x (List.mem_cons_of_mem _ hx))]
    apply List.map_congr_left
    intro j _
    have e0 : nats (z :: r) = z.toNat :: nats r := rfl
    rw [e0]
    by_cases e : j = z.toNat
    · subst e; simp
    · by_cases e2 : j ∈ nats r <;> simp [e, e2]
/-- blocks that were free are taken -/
theorem tak_mdl {first M : Nat} {T : ByteArray} {l : List Nat} (hT : T.size = 512) (hM : M ≤ 4096) (hn : l.Nodup) (hl : ∀ k ∈ l, k ∈ frees T (first + 1) M) : tak (mdl first M T) l = mdl first M (flipA T l) := by
  have hb : ∀ k ∈ l, k / 8 < T.size := fun k hk => by have := (mem_frees.1 (hl k hk)).1; rw [hT]; omega
  unfold mdl
  rw [tak_map M l _ (fun k hk => (mem_frees.1 (hl k hk)).1)]
  apply List.map_congr_left
  intro j _
  rw [bt_flipA hn hb]
  by_cases e : j ∈ l
  · have h1 := (mem_frees.1 (hl j e)).2
    rw [h1.2, decide_eq_true e]; simp
  · rw [decide_eq_false e]; simp
theorem srt_perm (zs : List Int) : (srt zs).Perm zs := List.mergeSort_perm _ _
theorem mem_srt {zs : List Int} {z : Int} : z ∈ srt zs ↔ z ∈ zs := (srt_perm zs).mem_iff
/-- what may be freed, by the program and by the document -/
theorem fgd_iff {first M : Nat} {T : ByteArray} {zs : List Int} (hM : M ≤ 4096) : fgd (mdl first M T) first zs ↔ (fgood (first + 1) M (srt zs) ∧ allB T true (nats (srt zs)) = true) := by
  constructor
  · intro ⟨h1, h2⟩
    have hs := srt_sorted zs
    have hn : (srt zs).Nodup := (srt_perm zs).nodup_iff.2 h2
    have hin : ∀ z ∈ srt zs, ((first + 1 : Nat) : Int) ≤ z ∧ z < (M : Int) ∧ bt T z.toNat = true := fun z hz => by
      obtain ⟨a1, a2⟩ := h1 z (mem_srt.1 hz)
      rw [rus_mdl] at a1
      unfold usd at a1
      simp at a1
      refine ⟨by omega, a1.1.2, ?_⟩
      rcases a1.2 with q | q
      · omega
      · exact q
    refine ⟨fun i hi => ?_, allB_true fun k hk => ?_⟩
    · rw [getD_of hi]
      have := hin _ (List.getElem_mem hi)
      refine ⟨this.1, this.2.1, fun h0 e => ?_⟩
      rw [getD_of (by omega)] at e
      have := (List.pairwise_iff_getElem.1 hn) (i - 1) i (by omega) hi (by omega)
      exact this e.symm
    · unfold nats at hk
      rw [List.mem_map] at hk
      obtain ⟨z, hz, rfl⟩ := hk
      exact (hin z hz).2.2
  · intro ⟨h1, h2⟩
    have hr := fgood_rise h1
    have hn : zs.Nodup := (srt_perm zs).nodup_iff.1 (hr.imp (fun h => by omega))
    refine ⟨fun z hz => ?_, hn⟩
    have hz' := mem_srt.2 hz
    obtain ⟨a1, a2⟩ := fgood_mem h1 hz'
    have hb := allB_mem h2 z.toNat (List.mem_map.2 ⟨z, hz', rfl⟩)
    refine ⟨?_, by omega⟩
    rw [rus_mdl]
    unfold usd
    rw [hb]
    simp
    omega
theorem fre_mdl {first M : Nat} {T : ByteArray} {zs : List Int} (hT : T.size = 512) (hM : M ≤ 4096) (h : fgood (first + 1) M (srt zs)) (h2 : allB T true (nats (srt zs)) = true) : fre (mdl first M T) zs = mdl first M (flipA T (nats (srt zs))) := by
  have hin : ∀ z ∈ zs, ((first + 1 : Nat) : Int) ≤ z ∧ z < (M : Int) := fun z hz => fgood_mem h (mem_srt.2 hz)
  have hnn : ∀ k, k ∈ nats (srt zs) ↔ k ∈ nats zs := fun k => by
    unfold nats
    rw [List.mem_map, List.mem_map]
    exact ⟨fun ⟨z, a, b⟩ => ⟨z, mem_srt.1 a, b⟩, fun ⟨z, a, b⟩ => ⟨z, mem_srt.2 a, b⟩⟩
  have hnr : (nats (srt zs)).Nodup := (nats_rise (fun z hz => by have := hin z (mem_srt.1 hz); omega) (fgood_rise h)).imp (fun h => by omega)
  have hb : ∀ k ∈ nats (srt zs), k / 8 < T.size := fun k hk => by
    rw [hnn] at hk
    unfold nats at hk
    rw [List.mem_map] at hk
    obtain ⟨z, hz, rfl⟩ := hk
    have := hin z hz
    rw [hT]; omega
  unfold mdl
  rw [fre_map M zs _ (fun z hz => by have := hin z hz; omega)]
  apply List.map_congr_left
  intro j _
  rw [bt_flipA hnr hb]
  by_cases e : j ∈ nats (srt zs)
  · have h3 := allB_mem h2 j e
    have e2 := (hnn j).1 e
    have hf : ¬ j < first + 1 := by
      unfold nats at e2
      rw [List.mem_map] at e2
      obtain ⟨z, hz, rfl⟩ := e2
      have := hin z hz
      omega
    rw [decide_eq_true e, decide_eq_true e2, h3, decide_eq_false hf]; rfl
  · rw [decide_eq_false e, decide_eq_false (fun q => e ((hnn j).2 q))]; simp
end Go.Proofs.YtghdgddpdamhcaaGreat

/- SpacePlays: same. -/
namespace Go.Proofs.YtghdgddpdamhcaaGreat
set_option linter.unusedVariables false
set_option linter.unusedSimpArgs false
open Go.RowKit Go.Maps
theorem szTx : (Tryz.prog.info? 82).map (fun i => i.size) = some 3 := by kernel_rfl
theorem eqTx0 (d x : Nat) (w : World) : (Op.equalIn (d + 1) 26 (pt x) (pt x)).run Tryz.prog w = .ok true w := by
  have h : (Go.sizeOf 82).run Tryz.prog w = .ok 3 w := by
    have := szTx
    cases hq : Tryz.prog.info? 82 with
    | none => rw [hq] at this; cases this
    | some i => rw [hq] at this; simp at this; simp [sizeOf, typeInfo, hq, this, go_sem]
  simp [Op.equalIn, run_underlying Tryz.underlying26, h, sameAddr, go_sem]
theorem eqTx (x : Nat) (w : World) : (binOp BinOp.neq 26 (pt x) (pt x)).run Tryz.prog w = .ok (.bool false) w := by
  have h2 : (Op.equal 26 (pt x) (pt x)).run Tryz.prog w = .ok true w := eqTx0 9999 x w
  simp only [binOp]
  simp [h2]
section
variable {w0 w w' : World} {q p n x sb first pb mb : Nat} {W : Wl} {o : Bool} {B : List ByteArray} {X : List (Th → Prop)} {I : List Bool} {s0 : Th → Prop} {v5 : Value}
theorem SS.rleft (h : SS w0 w q p n x sb first W o B (s0 :: rs mb first I :: X)) (hl : I.length ≤ 5000) : Calls Tryz.prog 56 #[pt mb] w fun e w' => e = .returned (.int .i64 ((rlf I : Nat) : Int)) ∧ SS w0 w' q p n x sb first W o B (s0 :: rs mb first I :: X) := by
  have h' := h
  obtain ⟨st, E, r⟩ := h
  refine (rLeft_env E 5 rfl hl).mono ?_
  rintro e w' ⟨rfl, k, rfl⟩
  exact ⟨rfl, h'.drewN k⟩
theorem SS.rused (h : SS w0 w q p n x sb first W o B (s0 :: rs mb first I :: X)) (z : Int) : Calls Tryz.prog 58 #[pt mb, .int .i64 z] w fun e w' => e = .returned (.bool (rus I z)) ∧ SS w0 w' q p n x sb first W o B (s0 :: rs mb first I :: X) := by
  have h' := h
  obtain ⟨st, E, r⟩ := h
  refine (rUsed_env E 5 rfl z).mono ?_
  rintro e w' ⟨rfl, k, rfl⟩
  exact ⟨rfl, h'.drewN k⟩
theorem SS.rcell (h : SS w0 w q p n x sb first W o B (s0 :: rs mb first I :: X)) : ∃ va vc, w.cell? ⟨mb, 1, none⟩ = some (.slice va I.length vc) ∧ ∀ j, j < I.length → ∃ g, va = some ⟨g, 0, none⟩ ∧ w.cell? ⟨g, j, none⟩ = some (.bool (I.getD j false)) := by
  obtain ⟨st, E, r⟩ := h
  obtain ⟨va, vc, _, c1, c2⟩ := E.rsc 5 rfl
  exact ⟨va, vc, c1, c2⟩
theorem SS.tx (h : SS w0 w q p n x sb first W o B X) : Calls Tryz.prog 57 #[pt sb] w fun e w' => e = .returned (pt x) ∧ SS w0 w' q p n x sb first W o B X := by
  have c0 := h.c0
  have H := Hid.mk h
  clear h
  go_enter Tryz.func57, Tryz.ntmps57
  go_wp2
  go_ret
  exact ⟨rfl, H.out⟩
/-- the pair's block -/
abbrev pr7 (pb p q x sb mb first : Nat) (v5 : Value) : Th → Prop := ob pb #[pt p, pt q, pt x, pt sb, pt mb, v5, .int .i64 (first : Int)] 63
set_option maxRecDepth 100000 in
set_option maxHeartbeats 4000000 in
theorem psame_ss (h : SS w0 w q p n x sb first W false B (pr7 pb p q x sb mb first v5 :: rs mb first (mdl first (n - 24) (cur W B first)) :: X)) (hf : first + 1 ≤ n - 24) :
    Calls Tryz.prog 29 #[pt pb] w fun e w' => e = .returned (.bool true) ∧ SS w0 w' q p n x sb first W false B (pr7 pb p q x sb mb first v5 :: rs mb first (mdl first (n - 24) (cur W B first)) :: X) := by
  have hn := h.nn
  have hlm := mdl_len first (n - 24) (cur W B first)
  have hL : Hid (∀ w, SS w0 w q p n x sb first W false B (pr7 pb p q x sb mb first v5 :: rs mb first (mdl first (n - 24) (cur W B first)) :: X) → Calls Tryz.prog 12 #[pt sb] w fun e w' => e = .returned (.int .i64 (((frees (cur W B first) (first + 1) (n - 24)).length : Nat) : Int)) ∧ SS w0 w' q p n x sb first W false B (pr7 pb p q x sb mb first v5 :: rs mb first (mdl first (n - 24) (cur W B first)) :: X)) := ⟨fun w h => h.left hf⟩
  have hR : Hid (∀ w, SS w0 w q p n x sb first W false B (pr7 pb p q x sb mb first v5 :: rs mb first (mdl first (n - 24) (cur W B first)) :: X) → Calls Tryz.prog 56 #[pt mb] w fun e w' => e = .returned (.int .i64 (((frees (cur W B first) (first + 1) (n - 24)).length : Nat) : Int)) ∧ SS w0 w' q p n x sb first W false B (pr7 pb p q x sb mb first v5 :: rs mb first (mdl first (n - 24) (cur W B first)) :: X)) := ⟨fun w h => by
    have := h.rleft (by rw [hlm]; omega)
    rw [rlf_mdl] at this
    exact this⟩
  have hU : Hid (∀ w z, SS w0 w q p n x sb first W false B (pr7 pb p q x sb mb first v5 :: rs mb first (mdl first (n - 24) (cur W B first)) :: X) → Calls Tryz.prog 14 #[pt sb, .int .i64 z] w fun e w' => e = .returned (.bool (usd (n - 24) first (cur W B first) z)) ∧ SS w0 w' q p n x sb first W false B (pr7 pb p q x sb mb first v5 :: rs mb first (mdl first (n - 24) (cur W B first)) :: X)) := ⟨fun w z h => h.used hf z⟩
  have hV : Hid (∀ w z, SS w0 w q p n x sb first W false B (pr7 pb p q x sb mb first v5 :: rs mb first (mdl first (n - 24) (cur W B first)) :: X) → Calls Tryz.prog 58 #[pt mb, .int .i64 z] w fun e w' => e = .returned (.bool (usd (n - 24) first (cur W B first) z)) ∧ SS w0 w' q p n x sb first W false B (pr7 pb p q x sb mb first v5 :: rs mb first (mdl first (n - 24) (cur W B first)) :: X)) := ⟨fun w z h => by
    have := h.rused z
    rw [rus_mdl] at this
    exact this⟩
  have hC : Hid (∀ w, SS w0 w q p n x sb first W false B (pr7 pb p q x sb mb first v5 :: rs mb first (mdl first (n - 24) (cur W B first)) :: X) → ∃ va vc, w.cell? ⟨mb, 1, none⟩ = some (.slice va (n - 24) vc)) := ⟨fun w h => by
    obtain ⟨va, vc, c, _⟩ := h.rcell
    rw [hlm] at c
    exact ⟨va, vc, c⟩⟩
  have hP : Hid (∀ w, SS w0 w q p n x sb first W false B (pr7 pb p q x sb mb first v5 :: rs mb first (mdl first (n - 24) (cur W B first)) :: X) → SS w0 w q p n x sb first W false B (pr7 pb p q x sb mb first v5 :: rs mb first (mdl first (n - 24) (cur W B first)) :: X) ∧ w.cell? ⟨pb, 2, none⟩ = some (pt x) ∧ w.cell? ⟨pb, 3, none⟩ = some (pt sb) ∧ w.cell? ⟨pb, 4, none⟩ = some (pt mb)) := ⟨fun w h => ⟨h, h.head 2, h.head 3, h.head 4⟩⟩
  have hT : Hid (∀ w, SS w0 w q p n x sb first W false B (pr7 pb p q x sb mb first v5 :: rs mb first (mdl first (n - 24) (cur W B first)) :: X) → Calls Tryz.prog 57 #[pt sb] w fun e w' => e = .returned (pt x) ∧ SS w0 w' q p n x sb first W false B (pr7 pb p q x sb mb first v5 :: rs mb first (mdl first (n - 24) (cur W B first)) :: X)) := ⟨fun w h => h.tx⟩
  have hD : Hid (∀ w, SS w0 w q p n x sb first W false B (pr7 pb p q x sb mb first v5 :: rs mb first (mdl first (n - 24) (cur W B first)) :: X) → SS w0 w.drew q p n x sb first W false B (pr7 pb p q x sb mb first v5 :: rs mb first (mdl first (n - 24) (cur W B first)) :: X)) := ⟨fun w h => h.drew⟩
  generalize hSS : (fun w => SS w0 w q p n x sb first W false B (pr7 pb p q x sb mb first v5 :: rs mb first (mdl first (n - 24) (cur W B first)) :: X)) = SX at *
  have e : ∀ w, SS w0 w q p n x sb first W false B (pr7 pb p q x sb mb first v5 :: rs mb first (mdl first (n - 24) (cur W B first)) :: X) = SX w := fun w => by rw [← hSS]
  simp only [e] at h hL hR hU hV hC hP hT hD ⊢
  generalize (frees (cur W B first) (first + 1) (n - 24)).length = LF at *
  have H := Hid.mk h
  generalize hM : n - 24 = M at *
  clear h e hSS hlm
  have hpp := fun w => eqTx x w
  go_enter Tryz.func29, Tryz.ntmps29
  go_wp2_with fail
  have S0 := hP.out _ (hD.out _ H.out)
  go_region_held3 (fun w' => SX w' ∧ w'.cell? ⟨pb, 2, none⟩ = some (pt x) ∧ w'.cell? ⟨pb, 3, none⟩ = some (pt sb) ∧ w'.cell? ⟨pb, 4, none⟩ = some (pt mb)) (first | exact S0 | exact hP.out _ h1) (first
    | (go_at_call 12; with_reducible refine Calls.mono (hL.out _ (And.left (by assumption))) ?_; rintro e w1 ⟨rfl, h1⟩)
    | (go_at_call 56; with_reducible refine Calls.mono (hR.out _ (And.left (by assumption))) ?_; rintro e w1 ⟨rfl, h1⟩)
    | (go_at_call 57; with_reducible refine Calls.mono (hT.out _ (And.left (by assumption))) ?_; rintro e w1 ⟨rfl, h1⟩))
  have H1 := Hid.mk h1
  clear S0 H h1
  go_wp2_with fail
  go_loopw [3] (fun i wr => ∃ k : Nat, k ≤ M + 2 ∧ i = .int .i64 ((k : Int) - 1) ∧ Hid (SX wr)) (fun i _ => M + 2 - (intOf i + 1).toNat)
  case atStart => exact ⟨0, by omega, rfl, H1⟩
  case round =>
    obtain ⟨k, hk, rfl, HS⟩ := hrel
    obtain ⟨_, _, c3, c4⟩ := hP.out _ HS.out
    obtain ⟨va, vc, cM⟩ := hC.out _ HS.out
    clear H1
    by_cases hlt : k < M + 2
    · have d1 : decide ((k : Int) - 1 ≤ (M : Int)) = true := decide_eq_true (by omega)
      have hw1 : wrap64 ((k : Int) - 1 + 1) = (k : Int) := by unfold wrap64; omega
      have S0 := hP.out _ (hD.out _ HS.out)
      have hU1 := fun w h => hU.out w ((k : Int) - 1) h
      have hV1 := fun w h => hV.out w ((k : Int) - 1) h
      generalize usd M first (cur W B first) ((k : Int) - 1) = US at *
      go_wp2_with fail
      go_region_held3 (fun w' => SX w' ∧ w'.cell? ⟨pb, 2, none⟩ = some (pt x) ∧ w'.cell? ⟨pb, 3, none⟩ = some (pt sb) ∧ w'.cell? ⟨pb, 4, none⟩ = some (pt mb)) (first | exact S0 | exact hP.out _ h1) (first
        | (go_at_call 14; with_reducible refine Calls.mono (hU1 _ (And.left (by assumption))) ?_; rintro e w1 ⟨rfl, h1⟩)
        | (go_at_call 58; with_reducible refine Calls.mono (hV1 _ (And.left (by assumption))) ?_; rintro e w1 ⟨rfl, h1⟩))
      all_goals
        have H2 := Hid.mk h1
        clear S0 h1
        go_wp2_with fail
        exact ⟨⟨k + 1, by omega, by go_num, H2⟩, by simp [intOf]; omega⟩
    · have d1 : decide ((k : Int) - 1 ≤ (M : Int)) = false := decide_eq_false (by omega)
      go_wp2_with fail
      go_ret
      exact ⟨rfl, HS.out⟩
end
end Go.Proofs.YtghdgddpdamhcaaGreat

/- SpacePlays: again. -/
namespace Go.Proofs.YtghdgddpdamhcaaGreat
set_option linter.unusedVariables false
set_option linter.unusedSimpArgs false
open Go.RowKit Go.Maps
section
variable {w0 w w' : World} {q p n x sb first pb mb : Nat} {W : Wl} {o : Bool} {B : List ByteArray} {X : List (Th → Prop)} {I : List Bool} {s0 : Th → Prop} {v2 v3 v4 v5 : Value} {st : St}
theorem SS.rcopy (h : SS w0 w q p n x sb first W o B (s0 :: rs mb first I :: X)) (hl : I.length ≤ 5000) (h1 : 1 ≤ I.length) : Calls Tryz.prog 59 #[pt mb] w fun e w' => ∃ y, e = .returned (pt y) ∧ SS w0 w' q p n x sb first W o B (s0 :: rs mb first I :: rs y first I :: X) := by
  obtain ⟨st, E, r⟩ := h
  refine (rCopy_env E 5 rfl hl h1).mono ?_
  rintro e w' ⟨y, rfl, E'⟩
  refine ⟨y, rfl, st, E'.perm ?_, r⟩
  refine List.Perm.cons _ (List.Perm.cons _ (List.Perm.cons _ (List.Perm.cons _ (List.Perm.cons _ (List.Perm.cons _ ?_)))))
  exact List.perm_append_singleton _ _
set_option maxRecDepth 100000 in
set_option maxHeartbeats 4000000 in
theorem again_env (h : EnvP w0 w (lg q p 24 false :: dk p st :: ob pb #[pt p, pt q, v2, v3, v4, v5, .int .i64 (first : Int)] 63 :: rs mb first (mdl first (n - 24) (B.getD first ByteArray.empty)) :: X)) (ok : OKst NN st n 24 B ∧ st.fall = 0) (hn : 24 < n ∧ n ≤ 4000) (hf : first + 1 ≤ n - 24) :
    Calls Tryz.prog 30 #[pt pb, pt mb] w fun e w' => e = .returned (.bool true) ∧ ∃ x sb yb, SS w0 w' q p n x sb first [] false B (pr7 pb p q x sb mb first (pt yb) :: rs mb first (mdl first (n - 24) (B.getD first ByteArray.empty)) :: rs yb first (mdl first (n - 24) (B.getD first ByteArray.empty)) :: X) := by
  have c1 := h.cell 2 rfl 1
  have qB := begin_s h ok hn
  have hlm := mdl_len first (n - 24) (B.getD first ByteArray.empty)
  have hcur : cur [] B first = B.getD first ByteArray.empty := rfl
  have HF := Hid.mk hf
  have HN := Hid.mk hn
  have HLM := Hid.mk hlm
  have HC := Hid.mk hcur
  clear h ok hf hn hlm hcur
  go_enter Tryz.func30, Tryz.ntmps30
  go_wp2_with fail
  refine qB.mono ?_
  rintro e w1 ⟨x, rfl, st1, E1, r1⟩
  dsimp only
  have f2 := E1.frozen 3 rfl 2
  have c2 := E1.cell 3 rfl 2
  have E2 := E1.setCell 3 rfl 2 (pt x)
  have T2 : TS w0 (w1.setCell ⟨pb, 2, none⟩ (pt x)) q p n x [] false B (ob pb #[pt p, pt q, pt x, v3, v4, v5, .int .i64 (first : Int)] 63 :: rs mb first (mdl first (n - 24) (B.getD first ByteArray.empty)) :: X) := ⟨st1, E2, r1⟩
  have d2 := E2.cell 3 rfl 2
  have d6 := E2.cell 3 rfl 6
  have qA := (T2.below (Below.refl _ _).drew).at first (by have := HF.out; have := HN.out; omega)
  clear E1 E2 r1 qB T2 c1
  go_wp2_with fail
  generalize w1.setCell ⟨pb, 2, none⟩ (pt x) = w2 at *
  have S0 : w2.drew.cell? ⟨pb, 2, none⟩ = some (pt x) ∧ w2.drew.cell? ⟨pb, 6, none⟩ = some (.int .i64 (first : Int)) := ⟨d2, d6⟩
  go_region_held3 (fun w' => w'.cell? ⟨pb, 2, none⟩ = some (pt x) ∧ w'.cell? ⟨pb, 6, none⟩ = some (.int .i64 (first : Int))) (first | exact S0 | exact ⟨h3.head 2, h3.head 6⟩) ((go_at_call 20; with_reducible refine Calls.mono qA ?_; rintro e w3 (⟨hx, _⟩ | ⟨_, sb, rfl, h3⟩); exact absurd HF.out (by omega)))
  have f3 := h3.headF 3
  have c3 := h3.head 3
  have h4 : SS w0 (w3.setCell ⟨pb, 3, none⟩ (pt sb)) q p n x sb first [] false B (ob pb #[pt p, pt q, pt x, pt sb, v4, v5, .int .i64 (first : Int)] 63 :: rs mb first (mdl first (n - 24) (B.getD first ByteArray.empty)) :: X) := h3.setHead 3 (pt sb)
  have f4 := h4.headF 4
  have c4 := h4.head 4
  have h5 : SS w0 ((w3.setCell ⟨pb, 3, none⟩ (pt sb)).setCell ⟨pb, 4, none⟩ (pt mb)) q p n x sb first [] false B (ob pb #[pt p, pt q, pt x, pt sb, pt mb, v5, .int .i64 (first : Int)] 63 :: rs mb first (mdl first (n - 24) (B.getD first ByteArray.empty)) :: X) := h4.setHead 4 (pt mb)
  have qC := h5.rcopy (by rw [HLM.out]; have := HN.out; omega) (by rw [HLM.out]; have := HF.out; omega)
  clear h3 h4 h5 S0 qA d2 d6 f2 c2
  go_wp2_with fail
  with_reducible refine Calls.mono qC ?_
  rintro e w6 ⟨y, rfl, h6⟩
  dsimp only
  have f5 := h6.headF 5
  have c5 := h6.head 5
  have h7 : SS w0 (w6.setCell ⟨pb, 5, none⟩ (pt y)) q p n x sb first [] false B (pr7 pb p q x sb mb first (pt y) :: rs mb first (mdl first (n - 24) (B.getD first ByteArray.empty)) :: rs y first (mdl first (n - 24) (B.getD first ByteArray.empty)) :: X) := h6.setHead 5 (pt y)
  have qS := psame_ss h7 HF.out
  clear h6 h7 qC f3 c3 f4 c4
  go_wp2_with fail
  with_reducible refine Calls.mono qS ?_
  rintro e w8 ⟨rfl, h8⟩
  have H8 := Hid.mk h8
  clear h8 qS f5 c5
  dsimp only
  go_wp2_with fail
  go_ret
  exact ⟨rfl, x, sb, y, H8.out⟩
end
end Go.Proofs.YtghdgddpdamhcaaGreat
