/- free: the free blocks, told one by one. -/
import Derived.Test.YtghdgddpdamhcaaGreatGc
namespace Go.Proofs.YtghdgddpdamhcaaGreat
set_option linter.unusedVariables false
set_option linter.unusedSimpArgs false
open Go.RowKit Go.Maps
variable {w0 w w' : World} {q p n x sb first : Nat} {W : Wl} {o : Bool} {B : List ByteArray} {X : List (Th → Prop)}
theorem SS.cellM (h : SS w0 w q p n x sb first W o B X) {b : Nat} {cs : Array Value} {ty : TypeId} (hm : ob b cs ty ∈ X) (j : Nat) : w.cell? ⟨b, j, none⟩ = cs[j]? := by
  obtain ⟨st, E, r⟩ := h
  exact E.cellM (ty := ty) (List.mem_cons_of_mem _ (List.mem_cons_of_mem _ (List.mem_cons_of_mem _ (List.mem_cons_of_mem _ hm)))) j
theorem SS.alloc (h : SS w0 w q p n x sb first W o B X) (cs : Array Value) (ty : TypeId) : SS w0 (w.alloc (.cells cs ty)) q p n x sb first W o B (X ++ [ob w.heap.size cs ty]) := by
  obtain ⟨st, E, r⟩ := h
  exact ⟨st, E.alloc cs ty, r⟩
theorem SS.drop (h : SS w0 w q p n x sb first W o B X) (ob : Obj) : SS w0 (w.alloc ob) q p n x sb first W o B X := by
  obtain ⟨st, E, r⟩ := h
  exact ⟨st, E.drop ob, r⟩
theorem SS.lt3 (h : SS w0 w q p n x sb first W o B X) : sb < w.heap.size := by
  obtain ⟨st, E, r⟩ := h
  exact heap_lt (E.heap 3 rfl)
theorem SS.init {Y : List (Th → Prop)} (h : SS w0 w q p n x sb first W o B (X ++ Y)) : SS w0 w q p n x sb first W o B X := by
  obtain ⟨st, E, r⟩ := h
  exact ⟨st, EnvP.initA (A := lg q p 24 false :: dk p st :: tx x q W o :: ob sb #[pt x, .int .i64 (first : Int)] 73 :: X) E, r⟩
theorem Env.add {L : List Th} (h : Env w0 w L) (t : Th) (ha : t.at' w) (ho : ∀ k, t.foot k → w0.heap.size ≤ k) (hp : ∀ (i : Nat) s k, L[i]? = some s → s.foot k → ¬ t.foot k) : Env w0 w (L ++ [t]) := by
  have get : ∀ (j : Nat) u, (L ++ [t])[j]? = some u → (j = L.length ∧ u = t) ∨ (j < L.length ∧ L[j]? = some u) := fun j u hj => by
    by_cases e : j < L.length
    · rw [List.getElem?_append_left e] at hj
      exact .inr ⟨e, hj⟩
    · rw [List.getElem?_append_right (by omega)] at hj
      have h1 : j - L.length = 0 := by
        have := (List.getElem?_eq_some_iff.1 hj).1
        simpa using this
      rw [h1] at hj
      exact .inl ⟨by omega, (Option.some.inj hj).symm⟩
  refine ⟨fun j u hj => ?_, fun j k u v b hne hu hv hfu => ?_, fun j u k hj hk => ?_, h.bel⟩
  · rcases get j u hj with ⟨_, rfl⟩ | ⟨_, h1⟩
    · exact ha
    · exact h.at' j u h1
  · rcases get j u hu with ⟨e1, rfl⟩ | ⟨h1, h2⟩
    · rcases get k v hv with ⟨e2, rfl⟩ | ⟨h3, h4⟩
      · exact absurd (e1.trans e2.symm) hne
      · exact fun e => hp k v b h4 e hfu
    · rcases get k v hv with ⟨e2, rfl⟩ | ⟨h3, h4⟩
      · exact hp j u b h2 hfu
      · exact h.apart j k u v b hne h2 h4 hfu
  · rcases get j u hj with ⟨_, rfl⟩ | ⟨_, h2⟩
    · exact ho k hk
    · exact h.own j u k h2 hk
theorem EnvP.two {Ls : List (Th → Prop)} (h : EnvP w0 w Ls) (b : Below w.heap.size w w') {b1 b2 : Nat} {c1 c2 : Array Value} {t1 t2 : TypeId} (g1 : w.heap.size ≤ b1) (g2 : w.heap.size ≤ b2) (hne : b1 ≠ b2) (h1 : w'.heap[b1]? = some (.cells c1 t1 (0, 0))) (h2 : w'.heap[b2]? = some (.cells c2 t2 (0, 0))) : EnvP w0 w' (Ls ++ [ob b1 c1 t1] ++ [ob b2 c2 t2]) := by
  obtain ⟨L, l1, l2, e⟩ := h
  have lt : ∀ (i : Nat) s k, L[i]? = some s → s.foot k → k < w.heap.size := fun i s k hi hk => s.lt w (e.at' i s hi) k hk
  have e1 := e.push (obTh b1 c1 t1) b h1 (fun k hk => by have : k = b1 := hk; omega)
  have hw := e.bel.size
  have e2 := e1.add (obTh b2 c2 t2) h2 (fun k hk => by have : k = b2 := hk; omega) (fun i s k hi hk hk2 => by
    have hk2' : k = b2 := hk2
    by_cases hl : i < L.length
    · rw [List.getElem?_append_left hl] at hi
      have := lt i s k hi hk; omega
    · rw [List.getElem?_append_right (by omega)] at hi
      have h0 : i - L.length = 0 := by
        have := (List.getElem?_eq_some_iff.1 hi).1
        simpa using this
      rw [h0] at hi
      cases hi
      have : k = b1 := hk
      omega)
  refine ⟨L ++ [obTh b1 c1 t1] ++ [obTh b2 c2 t2], by simp [l1], fun j s t hj hk => ?_, e2⟩
  by_cases hl : j < Ls.length
  · rw [List.append_assoc, List.getElem?_append_left hl] at hj
    rw [List.append_assoc, List.getElem?_append_left (by omega)] at hk
    exact l2 j s t hj hk
  · rw [List.append_assoc, List.getElem?_append_right (by omega)] at hj hk
    rw [l1] at hk
    have : j - Ls.length = 0 ∨ j - Ls.length = 1 := by
      have := (List.getElem?_eq_some_iff.1 hj).1
      simp at this; omega
    rcases this with h0 | h0 <;> rw [h0] at hj hk <;> cases hj <;> cases hk <;> rfl
theorem SS.two (h : SS w0 w q p n x sb first W o B X) (b : Below w.heap.size w w') {b1 b2 : Nat} {c1 c2 : Array Value} {t1 t2 : TypeId} (g1 : w.heap.size ≤ b1) (g2 : w.heap.size ≤ b2) (hne : b1 ≠ b2) (h1 : w'.heap[b1]? = some (.cells c1 t1 (0, 0))) (h2 : w'.heap[b2]? = some (.cells c2 t2 (0, 0))) : SS w0 w' q p n x sb first W o B (X ++ [ob b1 c1 t1, ob b2 c2 t2]) := by
  obtain ⟨st, E, r⟩ := h
  have := E.two b g1 g2 hne h1 h2
  refine ⟨st, ?_, r⟩
  rw [List.append_assoc] at this
  exact this
theorem hpA {k : Nat} {cs : Array Value} {t : TypeId} (h : k = w.heap.size) : (w.alloc (.cells cs t)).heap[k]? = some (.cells cs t (0, 0)) := by rw [h]; exact heap_alloc_new w _
theorem hpB {k : Nat} {b : Obj} (h : k < w.heap.size) : (w.alloc b).heap[k]? = w.heap[k]? := Below.heap_alloc w b k h
theorem hpC {k : Nat} {v : Value} {t : TypeId} (h : w.heap[k]? = some (.cells #[.int .i64 0] t (0, 0))) : (w.setCell ⟨k, 0, none⟩ v).heap[k]? = some (.cells #[v] t (0, 0)) := cell_set w k 0 _ _ v h
theorem hpD {k g : Nat} {v : Value} (h : k ≠ g) : (w.setCell ⟨g, 0, none⟩ v).heap[k]? = w.heap[k]? := Below.heap_setCell w ⟨g, 0, none⟩ v k h
theorem hpE {k j : Nat} : (w.drewN j).heap[k]? = w.heap[k]? := rfl
/-- a closure that is told the free blocks: what it keeps -/
structure Tells (w0 : World) (q p n x sb first : Nat) (W : Wl) (B : List ByteArray) (g : Nat) (cb : Array Value) (D : Nat → Value → List (Th → Prop)) (Dx : Value → List (Th → Prop)) : Prop where
  eg : ∀ args w, (callFunc g args).run Tryz.prog w = .ok (.enter g args) w
  call : ∀ k Y w v, first + 1 ≤ k → k < n - 24 → bt (cur W B first) k = false → SS w0 w q p n x sb first W false B (D k v ++ Y) → Calls Tryz.prog g (#[.int .i64 (k : Int)] ++ cb) w fun e w' => (e = .returned (.bool true) ∧ ∃ v', SS w0 w' q p n x sb first W false B (D (k + 1) v' ++ Y)) ∨ (e = .returned (.bool false) ∧ ∃ v', SS w0 w' q p n x sb first W false B (Dx v' ++ Y))
  skip : ∀ k v, (bt (cur W B first) k = true ∨ k < first + 1 ∨ n - 24 ≤ k) → D (k + 1) v = D k v
variable {g : Nat} {cb : Array Value} {D : Nat → Value → List (Th → Prop)} {Dx : Value → List (Th → Prop)}
/-- the four boxes that the inner closure reads -/
def bxs (g : Nat) (cb : Array Value) (first m bt_ bf bo bp : Nat) : List (Th → Prop) := [ob bt_ #[.func (.func g) #[] cb] 36, ob bf #[.int .i64 ((first : Int) + 1)] 3, ob bo #[.int .i64 (m : Int)] 3, ob bp #[.int .i64 0] 3]
set_option maxRecDepth 100000 in
theorem freeC_ss (t : Tells w0 q p n x sb first W B g cb D Dx) {bt_ bf bo bp : Nat} {Y : List (Th → Prop)} (k : Nat) (hk : k < 4096) (w : World) (v : Value) (h : SS w0 w q p n x sb first W false B (D k v ++ (Y ++ bxs g cb first (n - 24) bt_ bf bo bp))) :
    Calls Tryz.prog 65 (#[.int .i64 (k : Int), .bool (bt (cur W B first) k)] ++ #[pt bp, pt bf, pt bo, pt bt_]) w fun e w' => (e = .returned (.bool true) ∧ ∃ v', SS w0 w' q p n x sb first W false B (D (k + 1) v' ++ (Y ++ bxs g cb first (n - 24) bt_ bf bo bp))) ∨ (e = .returned (.bool false) ∧ ∃ v', SS w0 w' q p n x sb first W false B (Dx v' ++ (Y ++ bxs g cb first (n - 24) bt_ bf bo bp))) := by
  have hn := h.nn
  have c1 : w.cell? ⟨bt_, 0, none⟩ = some (.func (.func g) #[] cb) := h.cellM (b := bt_) (cs := #[.func (.func g) #[] cb]) (ty := 36) (List.mem_append_right _ (List.mem_append_right _ (by simp [bxs]))) 0
  have c2 : w.cell? ⟨bf, 0, none⟩ = some (.int .i64 ((first : Int) + 1)) := h.cellM (b := bf) (cs := #[.int .i64 ((first : Int) + 1)]) (ty := 3) (List.mem_append_right _ (List.mem_append_right _ (by simp [bxs]))) 0
  have c3 : w.cell? ⟨bo, 0, none⟩ = some (.int .i64 ((n - 24 : Nat) : Int)) := h.cellM (b := bo) (cs := #[.int .i64 ((n - 24 : Nat) : Int)]) (ty := 3) (List.mem_append_right _ (List.mem_append_right _ (by simp [bxs]))) 0
  have c4 : w.cell? ⟨bp, 0, none⟩ = some (.int .i64 0) := h.cellM (b := bp) (cs := #[.int .i64 0]) (ty := 3) (List.mem_append_right _ (List.mem_append_right _ (by simp [bxs]))) 0
  have eg := t.eg
  have HD : Hid (∀ j, SS w0 (w.drewN j) q p n x sb first W false B (D k v ++ (Y ++ bxs g cb first (n - 24) bt_ bf bo bp))) := ⟨fun j => h.drewN j⟩
  generalize hF : ((first : Int) + 1) = F at *
  by_cases hb : bt (cur W B first) k = true ∨ k < first + 1 ∨ n - 24 ≤ k
  · have HS : Hid (∃ v', SS w0 w q p n x sb first W false B (D (k + 1) v' ++ (Y ++ bxs g cb first (n - 24) bt_ bf bo bp))) := ⟨⟨v, by rw [t.skip k v hb]; exact h⟩⟩
    generalize n - 24 = m at *
    by_cases hu : bt (cur W B first) k = true
    · rw [hu]
      clear h hb t hu HD
      go_enter Tryz.func65, Tryz.ntmps65
      go_wp2
      go_ret
      exact .inl ⟨rfl, HS.out⟩
    · have hb0 : bt (cur W B first) k = false := by cases hx : bt (cur W B first) k; rfl; exact absurd hx hu
      rw [hb0]
      by_cases h1 : (k : Int) < F
      · clear h hb t hu hb0 HD
        go_enter Tryz.func65, Tryz.ntmps65
        go_wp2
        go_ret
        exact .inl ⟨rfl, HS.out⟩
      · have h2 : (m : Int) ≤ (k : Int) := by rcases hb with h | h | h; exact absurd h hu; omega; omega
        clear h hb t hu hb0 HD
        go_enter Tryz.func65, Tryz.ntmps65
        go_wp2
        go_ret
        exact .inl ⟨rfl, HS.out⟩
  · have hkm : k < n - 24 := by omega
    have q1 : Hid (∀ j, Calls Tryz.prog g (#[.int .i64 (k : Int)] ++ cb) (w.drewN j) fun e w' => (e = .returned (.bool true) ∧ ∃ v', SS w0 w' q p n x sb first W false B (D (k + 1) v' ++ (Y ++ bxs g cb first (n - 24) bt_ bf bo bp))) ∨ (e = .returned (.bool false) ∧ ∃ v', SS w0 w' q p n x sb first W false B (Dx v' ++ (Y ++ bxs g cb first (n - 24) bt_ bf bo bp)))) := ⟨fun j => t.call k _ _ v (by omega) hkm (by cases hx : bt (cur W B first) k; rfl; exact absurd (.inl hx) hb) (h.drewN j)⟩
    have hb0 : bt (cur W B first) k = false := by cases hx : bt (cur W B first) k; rfl; exact absurd (.inl hx) hb
    rw [hb0]
    generalize n - 24 = m at *
    have h1 : ¬ (k : Int) < F := by omega
    have h2 : ¬ (m : Int) ≤ (k : Int) := by omega
    clear h hb t
    go_enter Tryz.func65, Tryz.ntmps65
    go_wp2_with fail
    refine (q1.out 0).mono ?_
    rintro e w1 (⟨rfl, h1⟩ | ⟨rfl, h1⟩)
    · dsimp only
      go_wp2
      go_ret
      exact .inl ⟨rfl, h1⟩
    · dsimp only
      go_wp2
      go_ret
      exact .inr ⟨rfl, h1⟩
set_option maxRecDepth 100000 in
set_option maxHeartbeats 4000000 in
theorem free_ss (t : Tells w0 q p n x sb first W B g cb D Dx) (hf : first + 1 ≤ n - 24) {Y : List (Th → Prop)} (w : World) (v : Value) (h : SS w0 w q p n x sb first W false B (D 0 v ++ Y)) :
    Calls Tryz.prog 33 #[pt sb, .func (.func g) #[] cb] w fun e w' => e = .returned (.int .i64 0) ∧ ((∃ v', SS w0 w' q p n x sb first W false B (D 4096 v' ++ Y)) ∨ (∃ v', SS w0 w' q p n x sb first W false B (Dx v' ++ Y))) := by
  have hn := h.nn
  have hT := h.curSz first (by omega)
  have H : Hid (SS w0 w q p n x sb first W false B (D 0 v ++ Y)) := ⟨h⟩
  have egC : ∀ args w, (callFunc 65 args).run Tryz.prog w = .ok (.enter 65 args) w := enters_of Tryz.func65 (by kernel_rfl) rfl
  have hf4 : first < 4000 := by omega
  have hf5 : first < n - 24 := by omega
  clear h
  go_enter Tryz.func33, Tryz.ntmps33
  go_wp2_with fail
  have H1 : Hid (SS w0 (w.alloc (.cells #[.func (.func g) #[] cb] 36)) q p n x sb first W false B (D 0 v ++ (Y ++ [ob w.heap.size #[.func (.func g) #[] cb] 36]))) := ⟨by have := H.out.alloc #[.func (.func g) #[] cb] 36; rwa [List.append_assoc] at this⟩
  have c0 := H1.out.drew.c0
  have hsz : (w.alloc (.cells #[.func (.func g) #[] cb] 36)).heap.size = w.heap.size + 1 := by simp
  generalize w.alloc (.cells #[.func (.func g) #[] cb] 36) = W1 at *
  have hlt := H1.out.lt3
  rw [hsz] at hlt
  have hne1 : ¬ (w.heap.size + 1 = sb) := by omega
  have hne2 : ¬ (w.heap.size + 1 + 1 = sb) := by omega
  have hne3 : ¬ (sb = w.heap.size + 1) := by omega
  have hne4 : ¬ (sb = w.heap.size + 1 + 1) := by omega
  rename_i Q1 K1 hK1
  obtain ⟨X1, hX1⟩ : ∃ X1, X1 = D 0 v ++ (Y ++ [ob w.heap.size #[.func (.func g) #[] cb] 36]) := ⟨_, rfl⟩
  have REST : Hid (∀ (bf bo : Nat) (W' : World), SS w0 W' q p n x sb first W false B (X1 ++ [ob bf #[.int .i64 ((first : Int) + 1)] 3, ob bo #[.int .i64 ((n - 24 : Nat) : Int)] 3]) → K1 { tmps := #[pt sb, .func (.func g) #[] cb, undef, pt w.heap.size, .int .i64 0, pt bf, pt bo, undef, undef, undef, undef, pt sb, .int .i64 ((first : Int) + 1), pt sb, pt sb, pt sb, pt x, .int .i64 ((n - 24 : Nat) : Int), undef, undef, undef, undef, undef, undef, undef, undef, undef, undef, undef, undef, undef, undef, undef, undef, undef, undef, undef, undef, undef, undef, undef, undef, undef, undef, undef, undef], defers := [] } W') := ⟨by
    intro bf bo W' h
    clear H1 hsz hlt hne1 hne2 hne3 hne4 c0 H
    have H2 : Hid (SS w0 W' q p n x sb first W false B (X1 ++ [ob bf #[.int .i64 ((first : Int) + 1)] 3, ob bo #[.int .i64 ((n - 24 : Nat) : Int)] 3])) := ⟨h⟩
    clear h
    refine hK1 _ _ ?_
    go_wp2_with fail
    refine H2.out.pages'.mono ?_
    rintro e w2 ⟨rfl, h3⟩
    have H3 : Hid (SS w0 w2 q p n x sb first W false B (X1 ++ [ob bf #[.int .i64 ((first : Int) + 1)] 3, ob bo #[.int .i64 ((n - 24 : Nat) : Int)] 3])) := ⟨h3⟩
    clear h3 H2
    dsimp only
    go_wp2
    go_loopw [20] (fun i wr => (i = .int .i64 0 ∧ Hid (SS w0 wr q p n x sb first W false B (X1 ++ [ob bf #[.int .i64 ((first : Int) + 1)] 3, ob bo #[.int .i64 ((n - 24 : Nat) : Int)] 3]))) ∨ (i = .int .i64 1 ∧ Hid (∃ v', SS w0 wr q p n x sb first W false B (D 4096 v' ++ Y)))) (fun i _ => 1 - (intOf i).toNat)
    case atStart => exact .inl ⟨rfl, H3⟩
    case round =>
      rcases hrel with ⟨rfl, H4⟩ | ⟨rfl, H4⟩
      · clear H3
        go_wp2_with fail
        have H5 : Hid (SS w0 (wr.alloc (.cells #[.int .i64 0] 3)) q p n x sb first W false B (D 0 v ++ (Y ++ bxs g cb first (n - 24) w.heap.size bf bo wr.heap.size))) := ⟨by
          have h5 := H4.out.alloc #[.int .i64 0] 3
          rw [hX1] at h5
          have e5 : D 0 v ++ (Y ++ [ob w.heap.size #[.func (.func g) #[] cb] 36]) ++ [ob bf #[.int .i64 ((first : Int) + 1)] 3, ob bo #[.int .i64 ((n - 24 : Nat) : Int)] 3] ++ [ob wr.heap.size #[.int .i64 0] 3] = D 0 v ++ (Y ++ bxs g cb first (n - 24) w.heap.size bf bo wr.heap.size) := by simp [bxs]
          rw [e5] at h5
          exact h5⟩
        have HF : Hid (∀ (k : Nat) (w1 : World), k < 4096 → (∃ v, SS w0 w1 q p n x sb first W false B (D k v ++ (Y ++ bxs g cb first (n - 24) w.heap.size bf bo wr.heap.size))) → Calls Tryz.prog 65 (#[.int .i64 (k : Int), .bool (bt (cur W B first) k)] ++ #[pt wr.heap.size, pt bf, pt bo, pt w.heap.size]) w1 fun e w' => (e = .returned (.bool true) ∧ ∃ v', SS w0 w' q p n x sb first W false B (D (k + 1) v' ++ (Y ++ bxs g cb first (n - 24) w.heap.size bf bo wr.heap.size))) ∨ (e = .returned (.bool false) ∧ ∃ v', SS w0 w' q p n x sb first W false B (Dx v' ++ (Y ++ bxs g cb first (n - 24) w.heap.size bf bo wr.heap.size)))) := ⟨fun k w1 hk ⟨v, h⟩ => freeC_ss t k hk w1 v h⟩
        have HI : Hid (∀ (L : List (Th → Prop)) w1, SS w0 w1 q p n x sb first W false B (L ++ (Y ++ bxs g cb first (n - 24) w.heap.size bf bo wr.heap.size)) → SS w0 w1 q p n x sb first W false B (L ++ Y)) := ⟨fun L w1 h => by rw [← List.append_assoc] at h; exact h.init⟩
        have qR := H5.out.drew.read first hf5
        have S5 := And.intro H5.out.drew.c0 (And.intro H5.out.drew.c1 (H5.out.drew.cellM (b := wr.heap.size) (cs := #[.int .i64 0]) (ty := 3) (List.mem_append_right _ (List.mem_append_right _ (by simp [bxs]))) 0))
        have hw0 : IntKind.i64.wrap ((first : Int) + 0) = (first : Int) := by rw [IntKind.wrap_i64]; omega
        have hq3 : IntKind.i64.wrap (first : Int) = (first : Int) := by rw [IntKind.wrap_i64]; omega
        generalize hWr : wr.heap.size = bp at *
        generalize wr.alloc (.cells #[.int .i64 0] 3) = w5 at *
        clear H4 t hWr hX1
        generalize hT0 : cur W B first = T at *
        go_region_held3 (fun w' => w'.cell? ⟨sb, 0, none⟩ = some (pt x) ∧ w'.cell? ⟨sb, 1, none⟩ = some (.int .i64 (first : Int)) ∧ w'.cell? ⟨bp, 0, none⟩ = some (.int .i64 0)) (first | exact S5 | exact And.intro h6.c0 (And.intro h6.c1 (h6.cellM (b := bp) (cs := #[.int .i64 0]) (ty := 3) (List.mem_append_right _ (List.mem_append_right _ (by simp [bxs]))) 0)) | assumption)
          ((go_at_call 17; refine qR.mono ?_; rintro e w6 ⟨rfl, h6⟩))
        all_goals
          have qB := bits_any (J := fun k w1 => ∃ v, SS w0 w1 q p n x sb first W false B (D k v ++ (Y ++ bxs g cb first (n - 24) w.heap.size bf bo bp))) (Jx := fun w1 => ∃ v', SS w0 w1 q p n x sb first W false B (Dx v' ++ (Y ++ bxs g cb first (n - 24) w.heap.size bf bo bp))) T hT 65 #[pt bp, pt bf, pt bo, pt w.heap.size] egC HF.out w6 ⟨v, h6⟩
          clear h6 H5 S5 qR HF
          go_wp2_with fail
          refine qB.mono ?_
          rintro e w7 (⟨rfl, v7, h7⟩ | ⟨rfl, v7, h7⟩)
          · have H7 : Hid (∃ v', SS w0 w7 q p n x sb first W false B (D 4096 v' ++ Y)) := ⟨⟨v7, HI.out _ _ h7⟩⟩
            clear h7 qB HI
            dsimp only
            go_wp2
            go_roundw
            case rel => exact .inr ⟨rfl, H7⟩
            case measure => simp [intOf]
          · have H7 : Hid (∃ v', SS w0 w7 q p n x sb first W false B (Dx v' ++ Y)) := ⟨⟨v7, HI.out _ _ h7⟩⟩
            clear h7 qB HI
            dsimp only
            go_wp2
            go_ret
            exact ⟨rfl, .inr H7.out⟩
      · go_wp2
        go_ret
        exact ⟨rfl, .inl H4.out⟩⟩
  have HR : Hid (∀ (bf bo : Nat) (W' : World), Below W1.heap.size W1 W' → W1.heap.size ≤ bf → W1.heap.size ≤ bo → bf ≠ bo → W'.heap[bf]? = some (.cells #[.int .i64 ((first : Int) + 1)] 3 (0, 0)) → W'.heap[bo]? = some (.cells #[.int .i64 ((n - 24 : Nat) : Int)] 3 (0, 0)) → K1 { tmps := #[pt sb, .func (.func g) #[] cb, undef, pt w.heap.size, .int .i64 0, pt bf, pt bo, undef, undef, undef, undef, pt sb, .int .i64 ((first : Int) + 1), pt sb, pt sb, pt sb, pt x, .int .i64 ((n - 24 : Nat) : Int), undef, undef, undef, undef, undef, undef, undef, undef, undef, undef, undef, undef, undef, undef, undef, undef, undef, undef, undef, undef, undef, undef, undef, undef, undef, undef, undef, undef], defers := [] } W') := ⟨fun bf bo W' hb g1 g2 hne h1 h2 => REST.out bf bo W' (by rw [hX1]; exact H1.out.two hb g1 g2 hne h1 h2)⟩
  clear REST hX1
  go_region_held3 (fun w' => w'.cell? ⟨sb, 0, none⟩ = some (pt x)) (first | exact c0 | assumption | exact (H1.out.below (by repeat (first | with_reducible exact Below.refl _ _ | with_reducible refine below_drewN ?_ _ | with_reducible refine Below.drew ?_ | with_reducible refine Below.alloc ?_ (by simp [hsz] <;> omega) _ | with_reducible refine Below.setCell ?_ (by simp [hsz] <;> omega) _))).c0)
    ((first
      | (go_at_call 37; refine (SS.kept (w0 := w0) (q := q) (p := p) (n := n) (x := x) (W := W) (o := false) (B := B) (X := D 0 v ++ (Y ++ [ob w.heap.size #[.func (.func g) #[] cb] 36])) (H1.out.below (by repeat (first | with_reducible exact Below.refl _ _ | with_reducible refine below_drewN ?_ _ | with_reducible refine Below.drew ?_ | with_reducible refine Below.alloc ?_ (by simp [hsz] <;> omega) _ | with_reducible refine Below.setCell ?_ (by simp [hsz] <;> omega) _))) hf4).mono ?_; rintro e w2 ⟨rfl, k2, rfl⟩)
      | (go_at_call 36; refine (SS.tblocks (w0 := w0) (q := q) (p := p) (n := n) (sb := sb) (first := first) (W := W) (o := false) (B := B) (X := D 0 v ++ (Y ++ [ob w.heap.size #[.func (.func g) #[] cb] 36])) (H1.out.below (by repeat (first | with_reducible exact Below.refl _ _ | with_reducible refine below_drewN ?_ _ | with_reducible refine Below.drew ?_ | with_reducible refine Below.alloc ?_ (by simp [hsz] <;> omega) _ | with_reducible refine Below.setCell ?_ (by simp [hsz] <;> omega) _)))).mono ?_; rintro e w3 ⟨rfl, k3, rfl⟩)))
  all_goals
    refine HR.out _ _ _ (by repeat (first | with_reducible exact Below.refl _ _ | with_reducible refine below_drewN ?_ _ | with_reducible refine Below.drew ?_ | with_reducible refine Below.alloc ?_ (by simp [hsz] <;> omega) _ | with_reducible refine Below.setCell ?_ (by simp [hsz] <;> omega) _)) (by omega) (by omega) (by omega) ?_ ?_
  all_goals
    clear HR hK1
    repeat (first
      | (with_reducible refine hpA ?_; focus (simp [hsz]; done))
      | (with_reducible refine Eq.trans (hpB ?_) ?_; focus (first | (simp [hsz]; done) | (simp [hsz]; omega)))
      | with_reducible refine hpC ?_
      | (with_reducible refine Eq.trans (hpD ?_) ?_; focus omega)
      | with_reducible refine hpE.trans ?_)
end Go.Proofs.YtghdgddpdamhcaaGreat
