import Derived.Test.YtghdgddpdamhcaaGreatGd
/- Left. -/
namespace Go.Proofs.YtghdgddpdamhcaaGreat
set_option linter.unusedVariables false
set_option linter.unusedSimpArgs false
open Go.RowKit Go.Maps
variable {w0 w w' : World} {q p n x sb first : Nat} {W : Wl} {o : Bool} {B : List ByteArray} {X Y : List (Th → Prop)}
theorem SS.perm (h : SS w0 w q p n x sb first W o B X) (hp : List.Perm X Y) : SS w0 w q p n x sb first W o B Y := by
  obtain ⟨st, E, r⟩ := h
  exact ⟨st, E.perm ((((hp.cons _).cons _).cons _).cons _), r⟩
theorem SS.front {s : Th → Prop} (h : SS w0 w q p n x sb first W o B (X ++ [s])) : SS w0 w q p n x sb first W o B (s :: X) := h.perm (List.perm_append_singleton s X)
theorem SS.tail {s : Th → Prop} (h : SS w0 w q p n x sb first W o B (s :: X)) : SS w0 w q p n x sb first W o B X := by
  have : SS w0 w q p n x sb first W o B (X ++ [s]) := h.perm (List.perm_append_singleton s X).symm
  exact this.init
theorem SS.head {b : Nat} {cs : Array Value} {ty : TypeId} (h : SS w0 w q p n x sb first W o B (ob b cs ty :: X)) (j : Nat) : w.cell? ⟨b, j, none⟩ = cs[j]? := h.cellM (b := b) (cs := cs) (ty := ty) List.mem_cons_self j
theorem SS.headF {b : Nat} {cs : Array Value} {ty : TypeId} (h : SS w0 w q p n x sb first W o B (ob b cs ty :: X)) (j : Nat) : w.frozen? ⟨b, j, none⟩ = false := by
  obtain ⟨st, E, r⟩ := h
  exact E.frozen 4 rfl j
theorem SS.setHead {b : Nat} {cs : Array Value} {ty : TypeId} (h : SS w0 w q p n x sb first W o B (ob b cs ty :: X)) (j : Nat) (v : Value) : SS w0 (w.setCell ⟨b, j, none⟩ v) q p n x sb first W o B (ob b (cs.setIfInBounds j v) ty :: X) := by
  obtain ⟨st, E, r⟩ := h
  exact ⟨st, E.setCell 4 rfl j v, r⟩
set_option maxRecDepth 100000 in
theorem leftC_ss (cl c : Nat) (hc : c < 100000) (z : Value) (h : SS w0 w q p n x sb first W o B (ob cl #[.int .i64 (c : Int)] 3 :: Y)) : Calls Tryz.prog 34 (#[z] ++ #[pt cl]) w fun e w' => e = .returned (.bool true) ∧ SS w0 w' q p n x sb first W o B (ob cl #[.int .i64 ((c + 1 : Nat) : Int)] 3 :: Y) := by
  have c0 : w.cell? ⟨cl, 0, none⟩ = some (.int .i64 (c : Int)) := h.head 0
  have f0 := h.headF 0
  have H : Hid (SS w0 (w.setCell ⟨cl, 0, none⟩ (.int .i64 ((c : Int) + 1))) q p n x sb first W o B (ob cl #[.int .i64 ((c + 1 : Nat) : Int)] 3 :: Y)) := ⟨by
    have := h.setHead 0 (.int .i64 ((c : Int) + 1))
    rw [show ((c + 1 : Nat) : Int) = (c : Int) + 1 by omega]
    exact this⟩
  clear h
  go_enter Tryz.func34, Tryz.ntmps34
  go_wp2
  go_ret
  exact ⟨rfl, H.out⟩
theorem left_tells (hn : n ≤ 4000) (cl : Nat) : Tells w0 q p n x sb first W B 34 #[pt cl] (fun k _ => [ob cl #[.int .i64 (((fm (cur W B first) (first + 1) (n - 24) k).length : Nat) : Int)] 3]) (fun _ => [fun _ => False]) where
  eg := enters_of Tryz.func34 (by kernel_rfl) rfl
  call := fun k Y w v h1 h2 h3 h => by
    have hl : (fm (cur W B first) (first + 1) (n - 24) k).length ≤ n - 24 := by
      have := frees_len (cur W B first) (first + 1) (min k (n - 24))
      unfold fm; omega
    refine (leftC_ss cl _ (by omega) _ h).mono ?_
    rintro e w' ⟨rfl, h4⟩
    refine .inl ⟨rfl, v, ?_⟩
    rw [fm_yes h1 h2 h3, List.length_append]
    exact h4
  skip := fun k v h => by show [ob cl _ 3] = [ob cl _ 3]; rw [fm_no h]
set_option maxRecDepth 100000 in
theorem SS.left (h : SS w0 w q p n x sb first W false B X) (hf : first + 1 ≤ n - 24) : Calls Tryz.prog 12 #[pt sb] w fun e w' => e = .returned (.int .i64 (((frees (cur W B first) (first + 1) (n - 24)).length : Nat) : Int)) ∧ SS w0 w' q p n x sb first W false B X := by
  have hn := h.nn
  have h1 := (h.alloc #[.int .i64 0] 3).front
  have qF := free_ss (left_tells (w0 := w0) (q := q) (p := p) (n := n) (x := x) (sb := sb) (first := first) (W := W) (B := B) hn.2 w.heap.size) hf (Y := X) _ (.int .i64 0) (by show SS _ _ _ _ _ _ _ _ _ _ _ ([ob w.heap.size #[.int .i64 _] 3] ++ X); rw [fm_zero]; exact h1)
  have HE : Hid (∀ w1, ((∃ v' : Value, SS w0 w1 q p n x sb first W false B ([ob w.heap.size #[.int .i64 (((fm (cur W B first) (first + 1) (n - 24) 4096).length : Nat) : Int)] 3] ++ X)) ∨ (∃ v' : Value, SS w0 w1 q p n x sb first W false B ([fun _ => False] ++ X))) → w1.cell? ⟨w.heap.size, 0, none⟩ = some (.int .i64 (((frees (cur W B first) (first + 1) (n - 24)).length : Nat) : Int)) ∧ SS w0 w1 q p n x sb first W false B X) := ⟨fun w1 h1 => by
    rcases h1 with ⟨v', h1⟩ | ⟨v', h1⟩
    · rw [fm_all _ _ _ _ (by omega)] at h1
      exact ⟨SS.head (X := X) h1 0, SS.tail h1⟩
    · obtain ⟨st, E, r⟩ := h1
      obtain ⟨t, ht, _⟩ := E.get 4 (fun _ => False) rfl
      exact ht.elim⟩
  generalize ((frees (cur W B first) (first + 1) (n - 24)).length : Nat) = F at *
  clear h h1
  go_enter Tryz.func12, Tryz.ntmps12
  go_wp2_with fail
  refine qF.mono ?_
  rintro e w2 ⟨rfl, h2⟩
  obtain ⟨c2, h3⟩ := HE.out _ h2
  have H3 : Hid (SS w0 w2 q p n x sb first W false B X) := ⟨h3⟩
  clear h2 h3 HE qF
  dsimp only
  go_wp2
  go_ret
  exact ⟨rfl, H3.out⟩
end Go.Proofs.YtghdgddpdamhcaaGreat

/- Alloc's closure: it takes the first free blocks. -/
namespace Go.Proofs.YtghdgddpdamhcaaGreat
set_option linter.unusedVariables false
set_option linter.unusedSimpArgs false
open Go.RowKit Go.Maps
/-- block numbers as integers -/
def ni (l : List Nat) : List Int := l.map fun k : Nat => (k : Int)
theorem ni_len (l : List Nat) : (ni l).length = l.length := List.length_map ..
theorem ni_snoc (l : List Nat) (k : Nat) : ni (l ++ [k]) = ni l ++ [(k : Int)] := by unfold ni; simp
def iv (zs : List Int) : List Value := zs.map (Value.int .i64)
theorem app_int {ops : Array Oper} {rest : List Oper} {o : Oper} {a : Act} {Q : Exit → Act → World → Prop} {w wa : World} {v : Value} {zs : List Int} {g m : Nat} {z : Int} (hm : m = zs.length)
    (hw : wa = w.alloc (.cells #[.int .i64 z] 3)) (hg : g = w.heap.size) (hown : w.ownsRow 0 3 1 v zs.length (iv zs)) (hn : zs.length < 9000000000000)
    (hgd : o.guard = none) (s x : Operand) (ho : o.op = .call { callee := .builtin .append, args := #[s, x], argTypes := #[22, 22] })
    (hs : a.eval s = v) (hx : a.eval x = .slice (some ⟨g, 0, none⟩) 1 1)
    (h : ∀ y cap w', m + 1 ≤ cap → w'.ownsRow 0 3 1 (rw_ y (m + 1) cap) (m + 1) (iv (zs ++ [z])) → w.grownBy w' v.ownBlock → (v.ownBlock = some y ∨ w.heap.size ≤ y) → wpList Tryz.prog ops Q rest (a.put o.dst (rw_ y (m + 1) cap)) w') : wpList Tryz.prog ops Q (o :: rest) a wa := by
  subst hw hg hm
  obtain ⟨i0, hi0, hz0, hz1, hz2⟩ := info_parts infoIf
  have hm : maxLen = 9223372036854775807 := rfl
  refine wp_append_at Tryz.underlying22 hi0 hz0 hz1 hz2 rfl (by omega) 0 (hown.alloc _) (news := [.int .i64 z]) rfl
    (World.news_of_block (cs := #[.int .i64 z]) (t := 3) (fr := (0, 0)) (heap_alloc_new w _)) (by simp [Value.oneCell']) (by rw [hm]; omega) (by omega) (Nat.zero_le _) hgd s x ho hs hx ?_
  intro v' w' q1 q2 _ q4
  have q1' : w'.ownsRow 0 3 1 v' (zs.length + 1) (iv (zs ++ [z])) := by unfold iv; rw [List.map_append]; exact q1
  rcases q1'.2 with ⟨_, h0⟩ | ⟨y, cap, cur, rfl, _, _, hle, _⟩
  · simp at h0
  · exact h y cap w' hle q1' ((World.grownBy_alloc _ _ _).trans q2) ((q4 y rfl).imp id (fun e => by simp at e; omega))
/-- a plain fact among the things -/
def nullTh : Th := ⟨fun _ => False, fun _ => True, fun _ _ _ h => h.elim, fun _ _ _ _ _ _ => trivial⟩
def pr (P : Prop) : Th → Prop := fun t => t = nullTh ∧ P
variable {w0 w w' : World} {q p n x sb first : Nat} {W : Wl} {o : Bool} {B : List ByteArray} {X Y : List (Th → Prop)}
theorem EnvP.pushPr {Ls : List (Th → Prop)} (h : EnvP w0 w Ls) {P : Prop} (hP : P) : EnvP w0 w (Ls ++ [pr P]) := h.push nullTh (pr P) ⟨rfl, hP⟩ (Below.refl _ _) trivial (fun _ hk => hk.elim)
theorem EnvP.getPr {Ls : List (Th → Prop)} (h : EnvP w0 w Ls) {P : Prop} (i : Nat) (hi : Ls[i]? = some (pr P)) : P := by
  obtain ⟨t, ht, _⟩ := h.get i _ hi
  exact ht.2
theorem EnvP.setPr {Ls : List (Th → Prop)} (h : EnvP w0 w Ls) {P P' : Prop} (i : Nat) (hi : Ls[i]? = some (pr P)) (hP : P') : EnvP w0 w (Ls.set i (pr P')) := by
  obtain ⟨t, ⟨rfl, _⟩, _, _, hn⟩ := h.get i _ hi
  exact hn w nullTh (pr P') ⟨rfl, hP⟩ (Fr.refl _ _) trivial (fun k hk => .inl hk)
theorem EnvP.appI {Ls : List (Th → Prop)} {v v' : Value} {l l' : List Int} (h : EnvP w0 w Ls) (i : Nat) (hi : Ls[i]? = some (rowI v l)) (o : w'.ownsRow 0 3 1 v' l'.length (l'.map (Value.int .i64))) (g : w.grownBy w' v.ownBlock) (nw : ∀ k, v'.ownBlock = some k → v.ownBlock = some k ∨ w.heap.size ≤ k) : EnvP w0 w' (Ls.set i (rowI v' l')) := by
  obtain ⟨t, rfl, ha, _, hn⟩ := h.get i _ hi
  exact hn w' (rowTh v' l'.length (l'.map (Value.int .i64))) (rowI v' l') rfl (Fr.of_grown g (fun k hk => hk)) o nw
/-- what Alloc's closure has: the row so far, how many are wanted -/
def aD (cl cn N : Nat) (v : Value) (l : List Nat) (P : Prop) : List (Th → Prop) := [ob cl #[v] 22, rowI v (ni l), ob cn #[.int .i64 (N : Int)] 3, pr P]
set_option maxRecDepth 100000 in
theorem allocC_ss {P : Prop} (cl cn N : Nat) (l : List Nat) (v : Value) (k : Nat) (hl : l.length < N) (hN : N < 100000) (h : SS w0 w q p n x sb first W o B (aD cl cn N v l P ++ Y)) (P2 : Prop) (hP : P2) :
    Calls Tryz.prog 38 (#[.int .i64 (k : Int)] ++ #[pt cl, pt cn]) w fun e w' => e = .returned (.bool (decide (l.length + 1 < N))) ∧ ∃ v', SS w0 w' q p n x sb first W o B (aD cl cn N v' (l ++ [k]) P2 ++ Y) := by
  have c0 : w.cell? ⟨cl, 0, none⟩ = some v := by obtain ⟨st, E, r⟩ := h; exact E.cell 4 rfl 0
  have hne : Hid (∀ (y : Nat) c w8, l.length + 1 ≤ c → w8.ownsRow 0 3 1 (rw_ y (l.length + 1) c) (l.length + 1) (iv (ni l ++ [(k : Int)])) → w.grownBy w8 v.ownBlock → (v.ownBlock = some y ∨ w.heap.size ≤ y) → w8.cell? ⟨cl, 0, none⟩ = some v ∧ w8.frozen? ⟨cl, 0, none⟩ = false ∧ w8.cell? ⟨cn, 0, none⟩ = some (.int .i64 (N : Int)) ∧ (w8.setCell ⟨cl, 0, none⟩ (rw_ y (l.length + 1) c)).cell? ⟨cn, 0, none⟩ = some (.int .i64 (N : Int)) ∧ SS w0 (w8.setCell ⟨cl, 0, none⟩ (rw_ y (l.length + 1) c)) q p n x sb first W o B (aD cl cn N (rw_ y (l.length + 1) c) (l ++ [k]) P2 ++ Y)) := ⟨by
    intro y c w8 hc q8 g8 n8
    obtain ⟨st, E, r⟩ := h
    have E1 := E.appI (v' := rw_ y (l.length + 1) c) (l' := ni (l ++ [k])) 5 rfl (by rw [ni_snoc, List.length_append, ni_len]; exact q8) g8 (fun j hj => by cases hj; exact n8)
    have a0 := E1.cell 4 rfl 0
    have a1 := E1.frozen 4 rfl 0
    have a2 := E1.cell 6 rfl 0
    have E2 := (E1.setCell 4 rfl 0 (rw_ y (l.length + 1) c)).setPr (P' := P2) 7 rfl hP
    have a3 := E2.cell 6 rfl 0
    exact ⟨a0, a1, a2, a3, st, E2, r⟩⟩
  have HO : Hid (w.ownsRow 0 3 1 v (ni l).length (iv (ni l))) := ⟨by obtain ⟨st, E, r⟩ := h; exact E.rowAt 5 rfl⟩
  obtain ⟨va, vc, rfl⟩ : ∃ va vc, v = .slice va l.length vc := by
    obtain ⟨va, vc, e⟩ := own_slice HO.out
    rw [ni_len] at e
    exact ⟨va, vc, e⟩
  have hd : Hid (decide (((l.length + 1 : Nat) : Int) < (N : Int)) = decide (l.length + 1 < N)) := ⟨by congr 1; exact propext ⟨fun h => by omega, fun h => by omega⟩⟩
  have hll : Hid ((ni l).length = l.length) := ⟨ni_len l⟩
  generalize ni l = zs at *
  generalize decide (l.length + 1 < N) = R at *
  generalize l.length = L at *
  clear h
  go_enter Tryz.func38, Tryz.ntmps38
  go_wp2_with (at_builtin; refine app_int (zs := zs) (v := .slice va L vc) (g := w.heap.size) (z := (k : Int)) hll.out.symm rfl rfl HO.out (by rw [hll.out]; omega) rfl _ _ rfl rfl rfl ?_; intro y2 c2 w8 k8 q8 g8 n8; have h8 := hne.out y2 c2 w8 k8 q8 g8 n8; have a0 := h8.1; have a1 := h8.2.1; have a2 := h8.2.2.1; have a3 := h8.2.2.2.1; have H9 : Hid (SS w0 (w8.setCell ⟨cl, 0, none⟩ (rw_ y2 (L + 1) c2)) q p n x sb first W o B (aD cl cn N (rw_ y2 (L + 1) c2) (l ++ [k]) P2 ++ Y)) := ⟨h8.2.2.2.2⟩; have a4 : (w8.setCell ⟨cl, 0, none⟩ (rw_ y2 (L + 1) c2)).cell? ⟨cl, 0, none⟩ = some (rw_ y2 (L + 1) c2) := SS.head (ty := 22) (cs := #[rw_ y2 (L + 1) c2]) H9.out 0; clear h8 hne q8 g8 n8 HO)
  go_ret
  refine ⟨?_, _, H9.out⟩
  rw [← hd.out]
  rfl
end Go.Proofs.YtghdgddpdamhcaaGreat

/- Alloc. -/
namespace Go.Proofs.YtghdgddpdamhcaaGreat
set_option linter.unusedVariables false
set_option linter.unusedSimpArgs false
open Go.RowKit Go.Maps
variable {w0 w w' : World} {q p n x sb first : Nat} {W : Wl} {o : Bool} {B : List ByteArray} {X Y : List (Th → Prop)}
theorem alloc_tells (hn : n ≤ 4000) (cl cn N : Nat) (hN : N < 100000) : Tells w0 q p n x sb first W B 38 #[pt cl, pt cn] (fun k v => aD cl cn N v (fm (cur W B first) (first + 1) (n - 24) k) ((fm (cur W B first) (first + 1) (n - 24) k).length < N)) (fun v => aD cl cn N v ((frees (cur W B first) (first + 1) (n - 24)).take N) (N ≤ (frees (cur W B first) (first + 1) (n - 24)).length)) where
  eg := enters_of Tryz.func38 (by kernel_rfl) rfl
  call := fun k Y w v h1 h2 h3 h => by
    have hP : (fm (cur W B first) (first + 1) (n - 24) k).length < N := by obtain ⟨st, E, r⟩ := h; exact E.getPr 7 rfl
    obtain ⟨r, hr⟩ := fm_split (cur W B first) (first + 1) (n - 24) (k + 1)
    have e1 := fm_yes h1 h2 h3
    by_cases hc : (fm (cur W B first) (first + 1) (n - 24) k).length + 1 < N
    · refine (allocC_ss cl cn N _ v k hP hN h ((fm (cur W B first) (first + 1) (n - 24) (k + 1)).length < N) (by rw [e1, List.length_append]; exact hc)).mono ?_
      rintro e w' ⟨rfl, v', h4⟩
      refine .inl ⟨by rw [decide_eq_true hc], v', ?_⟩
      rw [← e1] at h4
      exact h4
    · have hl : N = (fm (cur W B first) (first + 1) (n - 24) (k + 1)).length := by rw [e1, List.length_append, List.length_singleton]; omega
      refine (allocC_ss cl cn N _ v k hP hN h (N ≤ (frees (cur W B first) (first + 1) (n - 24)).length) (by rw [hr, List.length_append]; omega)).mono ?_
      rintro e w' ⟨rfl, v', h4⟩
      refine .inr ⟨by rw [decide_eq_false hc], v', ?_⟩
      have e2 : (frees (cur W B first) (first + 1) (n - 24)).take N = fm (cur W B first) (first + 1) (n - 24) (k + 1) := by
        rw [hr, List.take_append_of_le_length (by omega), hl, List.take_length]
      show SS _ _ _ _ _ _ _ _ _ _ _ (aD cl cn N v' ((frees (cur W B first) (first + 1) (n - 24)).take N) _ ++ Y)
      rw [e2, e1]
      exact h4
  skip := fun k v h => by show aD _ _ _ _ _ _ = aD _ _ _ _ _ _; rw [fm_no h]
theorem allB_false {t : ByteArray} {l : List Nat} (h : ∀ k ∈ l, bt t k = false) : allB t false l = true := by
  unfold allB; rw [List.all_eq_true]; intro k hk; rw [h k hk]; rfl
set_option maxRecDepth 100000 in
theorem SS.takeNeg (h : SS w0 w q p n x sb first W false B X) (z : Int) (hz : z < 0) : Calls Tryz.prog 13 #[pt sb, .int .i64 z] w fun e w' => e = .returned (.tuple #[.slice none 0 0, .int .i64 1]) ∧ SS w0 w' q p n x sb first W false B X := by
  have h1 := h.alloc #[.int .i64 z] 3
  have H1 : Hid (SS w0 (w.alloc (.cells #[.int .i64 z] 3)) q p n x sb first W false B (X ++ [ob w.heap.size #[.int .i64 z] 3])) := ⟨h1⟩
  clear h h1
  go_enter Tryz.func13, Tryz.ntmps13
  go_wp2_with fail
  refine H1.out.over'.mono ?_
  rintro e w2 ⟨rfl, h2⟩
  have c2 : w2.cell? ⟨w.heap.size, 0, none⟩ = some (.int .i64 z) := h2.cellM (b := w.heap.size) (cs := #[.int .i64 z]) (ty := 3) (List.mem_append_right _ (by simp)) 0
  have H2 : Hid (SS w0 w2 q p n x sb first W false B X) := ⟨h2.init⟩
  clear h2 H1
  dsimp only
  go_wp2
  go_ret2
  exact ⟨rfl, H2.out⟩
set_option maxRecDepth 100000 in
theorem SS.takeOver (h : SS w0 w q p n x sb first W true B X) (z : Int) : Calls Tryz.prog 13 #[pt sb, .int .i64 z] w fun e w' => e = .returned (.tuple #[.slice none 0 0, .int .i64 8]) ∧ SS w0 w' q p n x sb first W true B X := by
  have h1 := h.alloc #[.int .i64 z] 3
  have H1 : Hid (SS w0 (w.alloc (.cells #[.int .i64 z] 3)) q p n x sb first W true B (X ++ [ob w.heap.size #[.int .i64 z] 3])) := ⟨h1⟩
  clear h h1
  go_enter Tryz.func13, Tryz.ntmps13
  go_wp2_with fail
  refine H1.out.over'.mono ?_
  rintro e w2 ⟨rfl, h2⟩
  have H2 : Hid (SS w0 w2 q p n x sb first W true B X) := ⟨h2.init⟩
  clear h2 H1
  dsimp only
  go_wp2
  go_ret2
  exact ⟨rfl, H2.out⟩
set_option maxRecDepth 100000 in
theorem SS.takeMore (h : SS w0 w q p n x sb first W false B X) (hf : first + 1 ≤ n - 24) (z : Int) (hz : ((n - 24 - (first + 1) : Nat) : Int) < z) : Calls Tryz.prog 13 #[pt sb, .int .i64 z] w fun e w' => e = .returned (.tuple #[.slice none 0 0, .int .i64 40]) ∧ SS w0 w' q p n x sb first W false B X := by
  have hn := h.nn
  have hz0 : ¬ z < 0 := by omega
  have h1 := h.alloc #[.int .i64 z] 3
  have H1 : Hid (SS w0 (w.alloc (.cells #[.int .i64 z] 3)) q p n x sb first W false B (X ++ [ob w.heap.size #[.int .i64 z] 3])) := ⟨h1⟩
  clear h h1
  go_enter Tryz.func13, Tryz.ntmps13
  go_wp2_with fail
  refine H1.out.over'.mono ?_
  rintro e w2 ⟨rfl, h2⟩
  have c2 : w2.cell? ⟨w.heap.size, 0, none⟩ = some (.int .i64 z) := h2.cellM (b := w.heap.size) (cs := #[.int .i64 z]) (ty := 3) (List.mem_append_right _ (by simp)) 0
  have H2 : Hid (SS w0 w2 q p n x sb first W false B (X ++ [ob w.heap.size #[.int .i64 z] 3])) := ⟨h2⟩
  clear h2 H1
  dsimp only
  go_wp2_with fail
  have c0 := H2.out.c0
  have qB : Hid (∀ k, Calls Tryz.prog 36 #[pt x] (w2.drewN k) fun e w' => e = .returned (.int .i64 ((n - 24 : Nat) : Int)) ∧ ∃ k', w' = (w2.drewN k).drewN k') := ⟨fun k => (H2.out.drewN k).tblocks⟩
  have qK : Hid (∀ k, Calls Tryz.prog 37 #[pt sb] (w2.drewN k) fun e w' => e = .returned (.int .i64 ((first + 1 : Nat) : Int)) ∧ ∃ k', w' = (w2.drewN k).drewN k') := ⟨fun k => (H2.out.drewN k).kept (by omega)⟩
  have hw : IntKind.i64.wrap (((n - 24 : Nat) : Int) - ((first + 1 : Nat) : Int)) = ((n - 24 - (first + 1) : Nat) : Int) := by rw [IntKind.wrap_i64]; omega
  generalize ((n - 24 - (first + 1) : Nat) : Int) = M at *
  generalize ((n - 24 : Nat) : Int) = M1 at *
  generalize ((first + 1 : Nat) : Int) = M2 at *
  go_quiet ((first | (go_at_call 36; exact Calls.quiet_of (qB.out _)) | (go_at_call 37; exact Calls.quiet_of (qK.out _))))
  go_wp2
  go_ret2
  exact ⟨rfl, (H2.out.drewN _).init⟩
end Go.Proofs.YtghdgddpdamhcaaGreat

/- Alloc of some blocks. -/
namespace Go.Proofs.YtghdgddpdamhcaaGreat
set_option linter.unusedVariables false
set_option linter.unusedSimpArgs false
open Go.RowKit Go.Maps
variable {w0 w w' : World} {q p n x sb first : Nat} {W : Wl} {o : Bool} {B : List ByteArray} {X Y : List (Th → Prop)}
theorem SS.pushI (h : SS w0 w q p n x sb first W o B X) {v : Value} {l : List Int} (b : Below w.heap.size w w') (ow : w'.ownsRow 0 3 1 v l.length (iv l)) (f : ∀ k, v.ownBlock = some k → w.heap.size ≤ k) : SS w0 w' q p n x sb first W o B (X ++ [rowI v l]) := by
  obtain ⟨st, E, r⟩ := h
  exact ⟨st, E.push (rowTh v l.length (iv l)) (rowI v l) rfl b ow f, r⟩
theorem SS.pushPr (h : SS w0 w q p n x sb first W o B X) {P : Prop} (hP : P) : SS w0 w q p n x sb first W o B (X ++ [pr P]) := by
  obtain ⟨st, E, r⟩ := h
  exact ⟨st, E.pushPr hP, r⟩
theorem perm4 {α : Type} (X : List α) (a b c d : α) : List.Perm (X ++ [a] ++ [b] ++ [c] ++ [d]) ([c, b, a, d] ++ X) := by
  have h1 : X ++ [a] ++ [b] ++ [c] ++ [d] = X ++ [a, b, c, d] := by simp
  rw [h1]
  refine List.perm_append_comm.trans (List.Perm.append_right X ?_)
  exact ((List.Perm.swap b a [c, d]).trans ((List.Perm.swap c a [d]).cons b)).trans (List.Perm.swap c b [a, d])
/-- the row that Alloc answers lies where it lies -/
theorem aD_nums (cl cn N : Nat) (v : Value) (l : List Nat) (P : Prop) (hl0 : l ≠ []) : ∃ g c, v = .slice (some ⟨g, 0, none⟩) l.length c ∨ ∀ w, ¬ SS w0 w q p n x sb first W false B (aD cl cn N v l P ++ X) := by
  by_cases h : ∃ w, SS w0 w q p n x sb first W false B (aD cl cn N v l P ++ X)
  · obtain ⟨w, st, E, r⟩ := h
    have := E.rowAt 5 rfl
    rcases this.2 with ⟨_, h0⟩ | ⟨g, cap, cur, e, _⟩
    · rw [ni_len] at h0; exact absurd (List.eq_nil_of_length_eq_zero h0) hl0
    · rw [ni_len] at e; exact ⟨g, cap, .inl e⟩
  · exact ⟨0, 0, .inr (fun w hw => h ⟨w, hw⟩)⟩
theorem row_cells {w : World} {v : Value} {l : List Nat} {g c : Nat} (ho : w.ownsRow 0 3 1 v (ni l).length (iv (ni l))) (e : v = .slice (some ⟨g, 0, none⟩) l.length c) (hl0 : l ≠ []) : g < w.heap.size ∧ l.length ≤ c ∧ ∀ j, j < l.length → w.cell? ⟨g, 0 + j, none⟩ = some (.int .i64 ((l.getD j 0 : Nat) : Int)) := by
  subst e
  refine ⟨(ho.lt g rfl).2, ?_, fun j hj => ?_⟩
  · rcases ho.2 with ⟨_, h0⟩ | ⟨g', cap, cur, e, _, _, hle, _⟩
    · rw [ni_len] at h0; exact absurd (List.eq_nil_of_length_eq_zero h0) hl0
    · injection e with _ _ e3; subst e3; rw [ni_len] at hle; exact hle
  · rw [ni_len] at ho
    have hc := ho.cellAt j (by simp [iv, ni_len]; exact hj)
    rw [show (0 + j) = j by omega, hc]
    simp [iv, ni, List.getElem?_map, List.getElem?_eq_getElem hj, List.getD_eq_getElem?_getD]
set_option maxRecDepth 100000 in
theorem SS.takeSome (h : SS w0 w q p n x sb first W false B X) (hf : first + 1 ≤ n - 24) (N : Nat) (hN : 1 ≤ N) (hN2 : N ≤ n - 24 - (first + 1)) :
    Calls Tryz.prog 13 #[pt sb, .int .i64 (N : Int)] w fun e w' => ((frees (cur W B first) (first + 1) (n - 24)).length < N ∧ e = .returned (.tuple #[.slice none 0 0, .int .i64 40]) ∧ SS w0 w' q p n x sb first W false B X) ∨
      (N ≤ (frees (cur W B first) (first + 1) (n - 24)).length ∧ ∃ g c, e = .returned (.tuple #[.slice (some ⟨g, 0, none⟩) N c, .int .i64 0]) ∧ N ≤ c ∧ SS w0 w' q p n x sb first (insW first (flipA (cur W B first) ((frees (cur W B first) (first + 1) (n - 24)).take N)) W) false B (rowI (.slice (some ⟨g, 0, none⟩) N c) (ni ((frees (cur W B first) (first + 1) (n - 24)).take N)) :: X)) := by
  have hn := h.nn
  have hz0 : ¬ (N : Int) < 0 := by omega
  have hz1 : ¬ (N : Int) = 0 := by omega
  have hz2 : ¬ ((n - 24 - (first + 1) : Nat) : Int) < (N : Int) := by omega
  have h1 := h.alloc #[.int .i64 (N : Int)] 3
  have H1 : Hid (SS w0 (w.alloc (.cells #[.int .i64 (N : Int)] 3)) q p n x sb first W false B (X ++ [ob w.heap.size #[.int .i64 (N : Int)] 3])) := ⟨h1⟩
  clear h h1
  go_enter Tryz.func13, Tryz.ntmps13
  go_wp2_with fail
  refine H1.out.over'.mono ?_
  rintro e w2 ⟨rfl, h2⟩
  have c2 : w2.cell? ⟨w.heap.size, 0, none⟩ = some (.int .i64 (N : Int)) := h2.cellM (b := w.heap.size) (cs := #[.int .i64 (N : Int)]) (ty := 3) (List.mem_append_right _ (by simp)) 0
  have H2 : Hid (SS w0 w2 q p n x sb first W false B (X ++ [ob w.heap.size #[.int .i64 (N : Int)] 3])) := ⟨h2⟩
  clear h2 H1
  dsimp only
  go_wp2_with fail
  have c0 := H2.out.c0
  have qB : Hid (∀ k, Calls Tryz.prog 36 #[pt x] (w2.drewN k) fun e w' => e = .returned (.int .i64 ((n - 24 : Nat) : Int)) ∧ ∃ k', w' = (w2.drewN k).drewN k') := ⟨fun k => (H2.out.drewN k).tblocks⟩
  have qK : Hid (∀ k, Calls Tryz.prog 37 #[pt sb] (w2.drewN k) fun e w' => e = .returned (.int .i64 ((first + 1 : Nat) : Int)) ∧ ∃ k', w' = (w2.drewN k).drewN k') := ⟨fun k => (H2.out.drewN k).kept (by omega)⟩
  have hw : IntKind.i64.wrap (((n - 24 : Nat) : Int) - ((first + 1 : Nat) : Int)) = ((n - 24 - (first + 1) : Nat) : Int) := by rw [IntKind.wrap_i64]; omega
  generalize ((n - 24 - (first + 1) : Nat) : Int) = M at *
  generalize ((n - 24 : Nat) : Int) = M1 at *
  generalize ((first + 1 : Nat) : Int) = M2 at *
  go_quiet ((first | (go_at_call 36; exact Calls.quiet_of (qB.out _)) | (go_at_call 37; exact Calls.quiet_of (qK.out _))))
  have H3 : Hid (SS w0 (w2.drewN nq) q p n x sb first W false B (X ++ [ob w.heap.size #[.int .i64 (N : Int)] 3])) := ⟨H2.out.drewN nq⟩
  have c3 : (w2.drewN nq).cell? ⟨w.heap.size, 0, none⟩ = some (.int .i64 (N : Int)) := c2
  clear H2 qB qK c0 c2
  generalize w2.drewN nq = w3 at *
  obtain ⟨i0, hi0, hzz0, hzz1, hzz2⟩ := info_parts infoIf
  obtain ⟨w4, hmk, o4, g4⟩ := run_make_own (P := Tryz.prog) w3 0 22 3 i0 _ 1 Tryz.underlying22 hi0 hzz0 hzz1 .i64 .i64 N (by rw [hzz2]; omega) (by unfold maxLen; omega) (Nat.zero_le _)
  have b4 : Below w3.heap.size w3 w4 := (Below.refl _ _).grown g4 (Nat.le_refl _) (fun j hj => by cases hj)
  have h4 := H3.out.pushI (v := .slice (some ⟨w3.heap.size, 0, none⟩) 0 N) (l := []) b4 o4 (fun k e => by cases e; exact Nat.le_refl _)
  have h5 := (h4.alloc #[.slice (some ⟨w3.heap.size, 0, none⟩) 0 N] 22).pushPr (P := (fm (cur W B first) (first + 1) (n - 24) 0).length < N) (by rw [fm_zero]; exact hN)
  have h6 := h5.perm (perm4 X _ _ _ _)
  have H6 : Hid (SS w0 (w4.alloc (.cells #[.slice (some ⟨w3.heap.size, 0, none⟩) 0 N] 22)) q p n x sb first W false B (aD w4.heap.size w.heap.size N (.slice (some ⟨w3.heap.size, 0, none⟩) 0 N) (fm (cur W B first) (first + 1) (n - 24) 0) ((fm (cur W B first) (first + 1) (n - 24) 0).length < N) ++ X)) := ⟨by rw [fm_zero]; rw [fm_zero] at h6; exact h6⟩
  have qF := free_ss (alloc_tells (w0 := w0) (q := q) (p := p) (n := n) (x := x) (sb := sb) (first := first) (W := W) (B := B) hn.2 w4.heap.size w.heap.size N (by omega)) hf (Y := X) _ (.slice (some ⟨w3.heap.size, 0, none⟩) 0 N) H6.out
  clear h4 h5 h6 o4 g4 b4
  go_wp2_with fail
  have hfr : ∀ k ∈ (frees (cur W B first) (first + 1) (n - 24)).take N, k < 4096 ∧ bt (cur W B first) k = false := fun k hk => by
    have := mem_frees.1 (List.mem_of_mem_take hk)
    exact ⟨by omega, this.2.2⟩
  have hrise : ((frees (cur W B first) (first + 1) (n - 24)).take N).Pairwise (· < ·) := (frees_rise _ _ _).sublist (List.take_sublist _ _)
  refine qF.mono ?_
  rintro e w7 ⟨rfl, (⟨v7, h7⟩ | ⟨v7, h7⟩)⟩
  · skip
    rw [fm_all _ _ _ _ (by omega)] at h7
    have hlt : (frees (cur W B first) (first + 1) (n - 24)).length < N := by obtain ⟨st, E, r⟩ := h7; exact E.getPr 7 rfl
    have d0 : w7.cell? ⟨w4.heap.size, 0, none⟩ = some v7 := SS.head (ty := 22) (cs := #[v7]) h7 0
    have d1 : w7.cell? ⟨w.heap.size, 0, none⟩ = some (.int .i64 (N : Int)) := by obtain ⟨st, E, r⟩ := h7; exact E.cell 6 rfl 0
    obtain ⟨va, vc, rfl⟩ : ∃ va vc, v7 = .slice va (frees (cur W B first) (first + 1) (n - 24)).length vc := by
      obtain ⟨st, E, r⟩ := h7
      obtain ⟨va, vc, e⟩ := own_slice (E.rowAt 5 rfl)
      rw [ni_len] at e
      exact ⟨va, vc, e⟩
    have H7 : Hid (SS w0 w7 q p n x sb first W false B X) := ⟨h7.tail.tail.tail.tail⟩
    have hlti : (((frees (cur W B first) (first + 1) (n - 24)).length : Nat) : Int) < (N : Int) := by omega
    have HL : Hid ((frees (cur W B first) (first + 1) (n - 24)).length < N) := ⟨hlt⟩
    clear h7 qF H6 H3 hfr hrise hlt
    dsimp only
    go_wp2
    go_ret2
    exact .inl ⟨HL.out, rfl, H7.out⟩
  · skip
    have hle : N ≤ (frees (cur W B first) (first + 1) (n - 24)).length := by obtain ⟨st, E, r⟩ := h7; exact E.getPr 7 rfl
    obtain ⟨l, hl⟩ : ∃ l, l = (frees (cur W B first) (first + 1) (n - 24)).take N := ⟨_, rfl⟩
    have hll : l.length = N := by rw [hl, List.length_take]; omega
    rw [← hl] at h7 hfr hrise
    have HLL : Hid (l = (frees (cur W B first) (first + 1) (n - 24)).take N) := ⟨hl⟩
    have hl0 : l ≠ [] := fun e => by rw [e] at hll; simp at hll; omega
    have d0 : w7.cell? ⟨w4.heap.size, 0, none⟩ = some v7 := SS.head (ty := 22) (cs := #[v7]) h7 0
    have d1 : w7.cell? ⟨w.heap.size, 0, none⟩ = some (.int .i64 (N : Int)) := by obtain ⟨st, E, r⟩ := h7; exact E.cell 6 rfl 0
    obtain ⟨g, c, rfl⟩ : ∃ g c, v7 = .slice (some ⟨g, 0, none⟩) l.length c := by
      obtain ⟨g, c, h | h⟩ := aD_nums (w0 := w0) (q := q) (p := p) (n := n) (x := x) (sb := sb) (first := first) (W := W) (B := B) (X := X) w4.heap.size w.heap.size N v7 l (N ≤ (frees (cur W B first) (first + 1) (n - 24)).length) hl0
      · exact ⟨g, c, h⟩
      · exact absurd h7 (h w7)
    have hrow : ∀ w1 Y, SS w0 w1 q p n x sb first W false B (aD w4.heap.size w.heap.size N (.slice (some ⟨g, 0, none⟩) l.length c) l (N ≤ (frees (cur W B first) (first + 1) (n - 24)).length) ++ X ++ Y) → g < w1.heap.size ∧ l.length ≤ c ∧ ∀ j, j < l.length → w1.cell? ⟨g, 0 + j, none⟩ = some (.int .i64 ((l.getD j 0 : Nat) : Int)) := fun w1 Y hh => by
      obtain ⟨st, E, r⟩ := hh
      exact row_cells (E.rowAt 5 rfl) rfl hl0
    have hcc := (hrow w7 [] (by simpa using h7)).2.1
    have q7 := h7.turn1 hf g 0 c l false hl0 hcc (by omega) (fun k hk => (hfr k hk).1) hrise (fun w1 Y hh j hj => ⟨g, 0, rfl, (hrow w1 Y hh).1, (hrow w1 Y hh).2.2 j hj⟩)
    rw [allB_false (fun k hk => (hfr k hk).2)] at q7
    rw [hll] at q7 h7 d0 hcc
    have H7 : Hid (∀ w1, SS w0 w1 q p n x sb first (insW first (flipA (cur W B first) l) W) false B (aD w4.heap.size w.heap.size N (.slice (some ⟨g, 0, none⟩) N c) l (N ≤ (frees (cur W B first) (first + 1) (n - 24)).length) ++ X) → w1.cell? ⟨w4.heap.size, 0, none⟩ = some (.slice (some ⟨g, 0, none⟩) N c) ∧ SS w0 w1 q p n x sb first (insW first (flipA (cur W B first) l) W) false B (rowI (.slice (some ⟨g, 0, none⟩) N c) (ni l) :: X)) := ⟨fun w1 hh => ⟨SS.head (ty := 22) (cs := #[.slice (some ⟨g, 0, none⟩) N c]) hh 0, by
      have h8 := hh.tail
      have h9 := h8.perm (List.Perm.swap _ _ _)
      have h10 := h9.tail
      exact (h10.perm (List.Perm.swap _ _ _)).tail⟩⟩
    have HL : Hid (N ≤ (frees (cur W B first) (first + 1) (n - 24)).length) := ⟨hle⟩
    have HC : Hid (N ≤ c) := ⟨hcc⟩
    clear h7 qF H6 H3 hfr hrise hle hrow hcc hl hl0
    dsimp only
    go_wp2_with fail
    refine q7.mono ?_
    rintro e w8 (⟨_, rfl, h8⟩ | ⟨hx, _⟩)
    · obtain ⟨d8, h9⟩ := H7.out _ h8
      have H9 : Hid (SS w0 w8 q p n x sb first (insW first (flipA (cur W B first) l) W) false B (rowI (.slice (some ⟨g, 0, none⟩) N c) (ni l) :: X)) := ⟨h9⟩
      clear h8 h9 q7 H7
      dsimp only
      go_wp2
      go_ret2
      exact .inr ⟨HL.out, g, c, rfl, HC.out, by rw [← HLL.out]; exact H9.out⟩
    · cases hx
end Go.Proofs.YtghdgddpdamhcaaGreat
