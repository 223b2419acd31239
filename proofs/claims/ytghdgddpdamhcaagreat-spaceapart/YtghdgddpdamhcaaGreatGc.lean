import Derived.Test.YtghdgddpdamhcaaGreatGb
import Derived.Test.YtghdgddpdamhcaaGreatTco
import Derived.Test.YtghdgddpdamhcaaGreatBit
/- A space: its block beside its transaction, its log and its disk; the small calls. -/
namespace Go.Proofs.YtghdgddpdamhcaaGreat
set_option linter.unusedVariables false
set_option linter.unusedSimpArgs false
open Go.RowKit Go.Maps
section
variable {w0 w w' : World} {Ls : List (Th → Prop)}
theorem EnvP.swapAt (A : List (Th → Prop)) (a b : Th → Prop) (C : List (Th → Prop)) (h : EnvP w0 w (A ++ a :: b :: C)) : EnvP w0 w (A ++ b :: a :: C) := by
  have hB : ∀ (x y : Th → Prop) (i : Nat), (A ++ x :: y :: C)[i]? = if i < A.length then A[i]? else if i = A.length then some x else if i = A.length + 1 then some y else C[i - A.length - 2]? := fun x y i => by
    by_cases h1 : i < A.length
    · rw [if_pos h1, List.getElem?_append_left h1]
    · rw [if_neg h1, List.getElem?_append_right (by omega)]
      by_cases h2 : i = A.length
      · rw [if_pos h2, h2, Nat.sub_self]; rfl
      · rw [if_neg h2]
        by_cases h3 : i = A.length + 1
        · rw [if_pos h3, h3, show A.length + 1 - A.length = 1 by omega]; rfl
        · rw [if_neg h3, show i - A.length = (i - A.length - 2) + 2 by omega]; rfl
  refine h.remap (fun i => if i = A.length then A.length + 1 else if i = A.length + 1 then A.length else i) (fun i s hi => ?_) (fun i j _ _ e => ?_)
  · rw [hB] at hi ⊢
    by_cases h2 : i = A.length
    · rw [if_pos h2, if_neg (by omega), if_neg (by omega), if_pos rfl]; rw [if_neg (by omega), if_pos h2] at hi; exact hi
    · by_cases h3 : i = A.length + 1
      · rw [if_neg h2, if_pos h3, if_neg (by omega), if_pos rfl]; rw [if_neg (by omega), if_neg h2, if_pos h3] at hi; exact hi
      · rw [if_neg h2, if_neg h3]
        rw [if_neg h2, if_neg h3] at hi ⊢
        exact hi
  · split at e <;> split at e <;> (try split at e) <;> (try split at e) <;> omega
theorem EnvP.permA {l l' : List (Th → Prop)} (p : List.Perm l l') : ∀ A : List (Th → Prop), EnvP w0 w (A ++ l) → EnvP w0 w (A ++ l') := by
  induction p with
  | nil => exact fun A h => h
  | cons x _ ih => intro A h; have := ih (A ++ [x]) (by simpa using h); simpa using this
  | swap x y l => exact fun A h => EnvP.swapAt A y x l h
  | trans _ _ i1 i2 => exact fun A h => i2 A (i1 A h)
theorem EnvP.perm {l l' : List (Th → Prop)} (h : EnvP w0 w l) (p : List.Perm l l') : EnvP w0 w l' := EnvP.permA p [] h
theorem EnvP.initA {A B : List (Th → Prop)} (h : EnvP w0 w (A ++ B)) : EnvP w0 w A := h.remap id (fun i s hi => by
  have := (List.getElem?_eq_some_iff.1 hi).1
  show (A ++ B)[i]? = some s
  rw [List.getElem?_append_left this, hi]) (fun i j _ _ e => e)
theorem EnvP.cellM {b : Nat} {cs : Array Value} {ty : TypeId} (h : EnvP w0 w Ls) (hm : ob b cs ty ∈ Ls) (j : Nat) : w.cell? ⟨b, j, none⟩ = cs[j]? := by
  obtain ⟨i, hi⟩ := List.mem_iff_getElem?.1 hm
  exact h.cell i hi j
theorem EnvP.frozM {b : Nat} {cs : Array Value} {ty : TypeId} (h : EnvP w0 w Ls) (hm : ob b cs ty ∈ Ls) (j : Nat) : w.frozen? ⟨b, j, none⟩ = false := by
  obtain ⟨i, hi⟩ := List.mem_iff_getElem?.1 hm
  exact h.frozen i hi j
end
/-- what block k holds: the transaction's own, else the log's -/
def cur (W : Wl) (B : List ByteArray) (k : Nat) : ByteArray := (lookW W k).getD (B.getD k ByteArray.empty)
/-- a log with its disk, a transaction and a space of it, beside other things -/
def SS (w0 w : World) (q p n x sb first : Nat) (W : Wl) (o : Bool) (B : List ByteArray) (X : List (Th → Prop)) : Prop :=
  ∃ st, EnvP w0 w (lg q p 24 false :: dk p st :: tx x q W o :: ob sb #[pt x, .int .i64 (first : Int)] 73 :: X) ∧ (OKst NN st n 24 B ∧ st.fall = 0) ∧ (24 < n ∧ n ≤ 4000) ∧ Rising W ∧ InB (n - 24) W
variable {w0 w w' : World} {q p n x sb first : Nat} {W : Wl} {o : Bool} {B : List ByteArray} {X : List (Th → Prop)}
theorem SS.below (h : SS w0 w q p n x sb first W o B X) (b : Below w.heap.size w w') : SS w0 w' q p n x sb first W o B X := by
  obtain ⟨st, E, r⟩ := h; exact ⟨st, E.below b, r⟩
theorem SS.drewN (h : SS w0 w q p n x sb first W o B X) (k : Nat) : SS w0 (w.drewN k) q p n x sb first W o B X := by
  obtain ⟨st, E, r⟩ := h; exact ⟨st, E.drewN k, r⟩
theorem SS.drew (h : SS w0 w q p n x sb first W o B X) : SS w0 w.drew q p n x sb first W o B X := by
  obtain ⟨st, E, r⟩ := h; exact ⟨st, E.drew, r⟩
theorem SS.bel (h : SS w0 w q p n x sb first W o B X) : Below w0.heap.size w0 w := by
  obtain ⟨st, E, r⟩ := h; exact E.bel
theorem SS.c0 (h : SS w0 w q p n x sb first W o B X) : w.cell? ⟨sb, 0, none⟩ = some (pt x) := by
  obtain ⟨st, E, r⟩ := h; exact E.cell 3 rfl 0
theorem SS.c1 (h : SS w0 w q p n x sb first W o B X) : w.cell? ⟨sb, 1, none⟩ = some (.int .i64 (first : Int)) := by
  obtain ⟨st, E, r⟩ := h; exact E.cell 3 rfl 1
theorem SS.nn (h : SS w0 w q p n x sb first W o B X) : 24 < n ∧ n ≤ 4000 := by
  obtain ⟨st, E, r⟩ := h; exact r.2.1
theorem SS.tblocks (h : SS w0 w q p n x sb first W o B X) : Calls Tryz.prog 36 #[pt x] w fun e w' => e = .returned (.int .i64 ((n - 24 : Nat) : Int)) ∧ ∃ k, w' = w.drewN k := by
  obtain ⟨st, E, ⟨ok, _⟩, hn, _⟩ := h
  have hl := ok.len
  have := tblocks_env E (by omega) 0 rfl
  rw [hl] at this
  have e : ((n - 24 : Nat) : Int) = (n : Int) - ((24 : Nat) : Int) := by omega
  rw [e]; exact this
set_option maxRecDepth 100000 in
theorem twrite_neg {Ls : List (Th → Prop)} (h : EnvP w0 w Ls) (i : Nat) (hi : Ls[i]? = some (tx x q W o)) (t : Value) : Calls Tryz.prog 16 #[pt x, .int .i64 (-1), t] w fun e w' => e = .returned (.int .i64 (if o then 8 else 1)) ∧ w' = w := by
  obtain ⟨mb, hne, hx, hm, _⟩ := h.tx i hi
  have c2 : w.cell? ⟨x, 2, none⟩ = some (.bool o) := cell_of_row w x 2 _ _ (0, 0) hx
  clear h hi hx hm
  cases o with
  | true =>
    go_enter Tryz.func16, Tryz.ntmps16
    go_wp2
    go_ret
    exact ⟨rfl, rfl⟩
  | false =>
    go_enter Tryz.func16, Tryz.ntmps16
    go_wp2
    go_ret
    exact ⟨rfl, rfl⟩
set_option maxRecDepth 100000 in
theorem SS.over (h : SS w0 w q p n x sb first W o B X) : Calls Tryz.prog 35 #[pt sb] w fun e w' => e = .returned (.bool o) ∧ ∃ k, w' = w.drewN k := by
  have c0 := h.c0
  have qW : ∀ t, Calls Tryz.prog 16 #[pt x, .int .i64 (-1), t] w fun e w' => e = .returned (.int .i64 (if o then 8 else 1)) ∧ w' = w := by
    obtain ⟨st, E, r⟩ := h; exact fun t => twrite_neg E 2 rfl t
  clear h
  cases o with
  | true =>
    go_enter Tryz.func35, Tryz.ntmps35
    go_wp2_with fail
    refine (qW _).mono ?_
    rintro e w1 ⟨rfl, rfl⟩
    dsimp only
    go_wp2
    go_ret
    exact ⟨rfl, 0, rfl⟩
  | false =>
    go_enter Tryz.func35, Tryz.ntmps35
    go_wp2_with fail
    refine (qW _).mono ?_
    rintro e w1 ⟨rfl, rfl⟩
    dsimp only
    go_wp2
    go_ret
    exact ⟨rfl, 0, rfl⟩
set_option maxRecDepth 100000 in
theorem SS.pages (h : SS w0 w q p n x sb first W o B X) : Calls Tryz.prog 47 #[pt sb] w fun e w' => e = .returned (.int .i64 1) ∧ ∃ k, w' = w.drewN k := by
  have c0 := h.c0
  have qB := h.tblocks
  have hn := h.nn
  generalize hm : n - 24 = m at qB
  have h1 : 1 ≤ m ∧ m ≤ 4000 := by omega
  have hw : ((m : Int) + 4096 - 1) / 4096 = 1 := by omega
  clear h hm hn
  go_enter Tryz.func47, Tryz.ntmps47
  go_wp2_with fail
  refine qB.mono ?_
  rintro e w1 ⟨rfl, k, rfl⟩
  dsimp only
  go_wp2
  go_ret
  refine ⟨?_, k, rfl⟩
  show Ending.returned (Value.int IntKind.i64 (((m : Int) + 4096 - 1) / 4096)) = _
  rw [hw]
set_option maxRecDepth 100000 in
theorem SS.kept (h : SS w0 w q p n x sb first W o B X) (hf : first < 4000) : Calls Tryz.prog 37 #[pt sb] w fun e w' => e = .returned (.int .i64 ((first + 1 : Nat) : Int)) ∧ ∃ k, w' = w.drewN k := by
  have c1 := h.c1
  have qP : Hid (∀ k, Calls Tryz.prog 47 #[pt sb] (w.drewN k) fun e w' => e = .returned (.int .i64 1) ∧ ∃ k', w' = (w.drewN k).drewN k') := ⟨fun k => (h.drewN k).pages⟩
  have hw : IntKind.i64.wrap ((first : Int) + 1) = ((first + 1 : Nat) : Int) := by rw [IntKind.wrap_i64]; omega
  clear h
  go_enter Tryz.func37, Tryz.ntmps37
  go_wp2_with fail
  go_quiet ((go_at_call 47; exact Calls.quiet_of (qP.out _)))
  go_wp2
  go_ret
  exact ⟨rfl, _, rfl⟩
theorem SS.len (h : SS w0 w q p n x sb first W o B X) : B.length = n - 24 := by
  obtain ⟨st, E, ⟨ok, _⟩, hn, _⟩ := h
  rw [← ok.blk, List.length_drop, ok.len]
theorem InB.look {m k : Nat} {t : ByteArray} : ∀ {W : Wl}, InB m W → lookW W k = some t → t.size = 512
  | [], _, h => by cases h
  | a :: r, hi, h => by
    unfold lookW at h
    split at h
    · injection h with h; subst h; exact (hi _ List.mem_cons_self).2
    · exact InB.look (fun p hp => hi p (List.mem_cons_of_mem _ hp)) h
theorem SS.curSz (h : SS w0 w q p n x sb first W o B X) (k : Nat) (hk : k < n - 24) : (cur W B k).size = 512 := by
  obtain ⟨st, E, ⟨ok, _⟩, hn, hR, hI⟩ := h
  unfold cur
  cases hl : lookW W k with
  | some t => exact hI.look hl
  | none =>
    show (B.getD k ByteArray.empty).size = 512
    have hlen : B.length = n - 24 := by rw [← ok.blk, List.length_drop, ok.len]
    rw [List.getD_eq_getElem?_getD, List.getElem?_eq_getElem (by omega)]
    show B[k].size = 512
    have hm : ∀ t ∈ B, t ∈ st.safe := fun t ht => by
      rw [← ok.blk] at ht
      exact List.mem_of_mem_drop ht
    exact ok.wf.sz _ (hm _ (List.getElem_mem _))
theorem SS.read (h : SS w0 w q p n x sb first W false B X) (k : Nat) (hk : k < n - 24) : Calls Tryz.prog 17 #[pt x, .int .i64 (k : Int)] w fun e w' => e = .returned (.tuple #[.string (cur W B k), .int .i64 0]) ∧ SS w0 w' q p n x sb first W false B X := by
  have hl := h.len
  obtain ⟨st, E, ⟨ok, hf⟩, hn, hR, hI⟩ := h
  unfold cur
  have hz : -9223372036854775808 ≤ (k : Int) ∧ (k : Int) ≤ 9223372036854775807 := by omega
  have hlk : lookI W (k : Int) = lookW W k := by unfold lookI; rw [if_neg (by omega)]; simp
  cases hlw : lookW W k with
  | some t =>
    refine (tread_own E 2 rfl (k : Int) hz t (hI.look hlw) (hlk.trans hlw)).mono ?_
    rintro e w' ⟨rfl, E'⟩
    exact ⟨rfl, st, E', ⟨ok, hf⟩, hn, hR, hI⟩
  | none =>
    refine (tread_log E 0 rfl (k : Int) hz (hlk.trans hlw) ok.off (by rw [ok.len]; omega) B (by rw [ok.seen]; exact ok.blk)).mono ?_
    rintro e w' ⟨rfl, E'⟩
    rw [if_pos (by omega)]
    exact ⟨by simp, st, E', ⟨ok, hf⟩, hn, hR, hI⟩
theorem SS.over' (h : SS w0 w q p n x sb first W o B X) : Calls Tryz.prog 35 #[pt sb] w fun e w' => e = .returned (.bool o) ∧ SS w0 w' q p n x sb first W o B X :=
  h.over.mono (by rintro e w' ⟨rfl, k, rfl⟩; exact ⟨rfl, h.drewN k⟩)
theorem SS.tblocks' (h : SS w0 w q p n x sb first W o B X) : Calls Tryz.prog 36 #[pt x] w fun e w' => e = .returned (.int .i64 ((n - 24 : Nat) : Int)) ∧ SS w0 w' q p n x sb first W o B X :=
  h.tblocks.mono (by rintro e w' ⟨rfl, k, rfl⟩; exact ⟨rfl, h.drewN k⟩)
theorem SS.pages' (h : SS w0 w q p n x sb first W o B X) : Calls Tryz.prog 47 #[pt sb] w fun e w' => e = .returned (.int .i64 1) ∧ SS w0 w' q p n x sb first W o B X :=
  h.pages.mono (by rintro e w' ⟨rfl, k, rfl⟩; exact ⟨rfl, h.drewN k⟩)
theorem SS.kept' (h : SS w0 w q p n x sb first W o B X) (hf : first < 4000) : Calls Tryz.prog 37 #[pt sb] w fun e w' => e = .returned (.int .i64 ((first + 1 : Nat) : Int)) ∧ SS w0 w' q p n x sb first W o B X :=
  (h.kept hf).mono (by rintro e w' ⟨rfl, k, rfl⟩; exact ⟨rfl, h.drewN k⟩)
end Go.Proofs.YtghdgddpdamhcaaGreat

/- Used. -/
namespace Go.Proofs.YtghdgddpdamhcaaGreat
set_option linter.unusedVariables false
set_option linter.unusedSimpArgs false
open Go.RowKit Go.Maps
variable {w0 w w' : World} {q p n x sb first : Nat} {W : Wl} {o : Bool} {B : List ByteArray} {X : List (Th → Prop)}
/-- is block k there and in use? -/
def usd (m first : Nat) (T : ByteArray) (z : Int) : Bool := decide (0 ≤ z) && decide (z < m) && (decide (z < first + 1) || bt T z.toNat)
set_option maxRecDepth 100000 in
theorem SS.usedOver (h : SS w0 w q p n x sb first W true B X) (z : Int) : Calls Tryz.prog 14 #[pt sb, .int .i64 z] w fun e w' => e = .returned (.bool false) ∧ SS w0 w' q p n x sb first W true B X := by
  have c0 := h.c0
  have qO : Hid (∀ k, Calls Tryz.prog 35 #[pt sb] (w.drewN k) fun e w' => e = .returned (.bool true) ∧ ∃ k', w' = (w.drewN k).drewN k') := ⟨fun k => (h.drewN k).over⟩
  have H : Hid (∀ k, SS w0 (w.drewN k) q p n x sb first W true B X) := ⟨fun k => h.drewN k⟩
  clear h
  go_enter Tryz.func14, Tryz.ntmps14
  go_wp2_with fail
  refine (qO.out 0).mono ?_
  rintro e w1 ⟨rfl, k1, rfl⟩
  dsimp only
  go_wp2
  go_ret
  exact ⟨rfl, H.out _⟩
set_option maxRecDepth 100000 in
theorem SS.used (h : SS w0 w q p n x sb first W false B X) (hf : first + 1 ≤ n - 24) (z : Int) : Calls Tryz.prog 14 #[pt sb, .int .i64 z] w fun e w' => e = .returned (.bool (usd (n - 24) first (cur W B first) z)) ∧ SS w0 w' q p n x sb first W false B X := by
  have c0 := h.c0
  have c1 := h.c1
  have hn := h.nn
  have qO : Hid (∀ k, Calls Tryz.prog 35 #[pt sb] (w.drewN k) fun e w' => e = .returned (.bool false) ∧ ∃ k', w' = (w.drewN k).drewN k') := ⟨fun k => (h.drewN k).over⟩
  have qB : Hid (∀ k, Calls Tryz.prog 36 #[pt x] (w.drewN k) fun e w' => e = .returned (.int .i64 ((n - 24 : Nat) : Int)) ∧ ∃ k', w' = (w.drewN k).drewN k') := ⟨fun k => (h.drewN k).tblocks⟩
  have qK : Hid (∀ k, Calls Tryz.prog 37 #[pt sb] (w.drewN k) fun e w' => e = .returned (.int .i64 ((first + 1 : Nat) : Int)) ∧ ∃ k', w' = (w.drewN k).drewN k') := ⟨fun k => (h.drewN k).kept (by omega)⟩
  have H : Hid (∀ k, SS w0 (w.drewN k) q p n x sb first W false B X) := ⟨fun k => h.drewN k⟩
  have hT := h.curSz first (by omega)
  have qR : Hid (∀ k, Calls Tryz.prog 17 #[pt x, .int .i64 (first : Int)] (w.drewN k) fun e w' => e = .returned (.tuple #[.string (cur W B first), .int .i64 0]) ∧ SS w0 w' q p n x sb first W false B X) := ⟨fun k => (h.drewN k).read first (by omega)⟩
  clear h
  generalize hTe : cur W B first = T at *
  unfold usd
  by_cases h0 : z < 0
  · rw [decide_eq_false (by omega : ¬ 0 ≤ z)]
    go_enter Tryz.func14, Tryz.ntmps14
    go_wp2_with fail
    refine (qO.out 0).mono ?_
    rintro e w1 ⟨rfl, k1, rfl⟩
    dsimp only
    go_wp2
    go_ret
    exact ⟨rfl, H.out _⟩
  · rw [decide_eq_true (by omega : 0 ≤ z)]
    by_cases hm : z < ((n - 24 : Nat) : Int)
    · rw [decide_eq_true hm]
      obtain ⟨k, rfl⟩ := Int.eq_ofNat_of_zero_le (by omega : 0 ≤ z)
      by_cases hk : (k : Int) < ((first + 1 : Nat) : Int)
      · rw [decide_eq_true (by omega : (k : Int) < (first : Int) + 1)]
        go_enter Tryz.func14, Tryz.ntmps14
        go_wp2_with fail
        refine (qO.out 0).mono ?_
        rintro e w1 ⟨rfl, k1, rfl⟩
        dsimp only
        go_wp2_with fail
        refine (qB.out _).mono ?_
        rintro e w1 ⟨rfl, k2, rfl⟩
        dsimp only
        go_wp2_with fail
        refine (qK.out (k1 + k2)).mono ?_
        rintro e w1 ⟨rfl, k3, rfl⟩
        dsimp only
        go_wp2
        go_ret
        exact ⟨rfl, H.out (k1 + k2 + k3)⟩
      · rw [decide_eq_false (by omega : ¬ (k : Int) < (first : Int) + 1)]
        have hd : (k : Int) / 4096 = 0 := by omega
        have hmd : (k : Int) % 4096 = (k : Int) := by omega
        have qb : Hid (∀ w, Calls Tryz.prog 40 #[.string T, .int .i64 (k : Int)] w fun e w' => e = .returned (.bool (bt T k)) ∧ w' = w) := ⟨fun w => bit_any T k w (by omega) (by omega)⟩
        have hw : IntKind.i64.wrap ((first : Int) + 0) = (first : Int) := by rw [IntKind.wrap_i64]; omega
        have e2 : ((k : Int)).toNat = k := by omega
        rw [e2]
        generalize bt T k = b at *
        clear qO qB qK qR
        have H0 : Hid (SS w0 w q p n x sb first W false B X) := ⟨H.out 0⟩
        have hf4 : first < 4000 := by omega
        have hf5 : first < n - 24 := by omega
        obtain ⟨m, hmm⟩ : ∃ m, m = n - 24 := ⟨_, rfl⟩
        have HQ : Hid (∀ w1, SS w0 w1 q p n x sb first W false B X → Calls Tryz.prog 17 #[pt x, .int .i64 (first : Int)] w1 fun e w' => e = .returned (.tuple #[.string T, .int .i64 0]) ∧ SS w0 w' q p n x sb first W false B X) := ⟨fun w1 h1 => by rw [← hTe]; exact h1.read first hf5⟩
        clear H c0 c1
        go_enter Tryz.func14, Tryz.ntmps14
        go_wp2_with fail
        refine H0.out.over'.mono ?_
        rintro e w1 ⟨rfl, h1⟩
        have H1 : Hid (SS w0 w1 q p n x sb first W false B X) := ⟨h1⟩
        have c0 := h1.c0
        clear h1 H0
        dsimp only
        go_wp2_with fail
        refine H1.out.tblocks'.mono ?_
        rintro e w2 ⟨rfl, h1⟩
        have H2 : Hid (SS w0 w2 q p n x sb first W false B X) := ⟨h1⟩
        clear h1 H1 c0
        dsimp only
        go_wp2_with fail
        refine (H2.out.kept' hf4).mono ?_
        rintro e w3 ⟨rfl, h1⟩
        have q3 := HQ.out _ h1.drew
        have S2 := And.intro h1.drew.c0 h1.drew.c1
        clear h1 H2
        dsimp only
        go_wp2_with fail
        have hw0 : IntKind.i64.wrap 0 = 0 := rfl
        have hq3 : IntKind.i64.wrap (first : Int) = (first : Int) := by rw [IntKind.wrap_i64]; omega
        go_region_held3 (fun w' => w'.cell? ⟨sb, 0, none⟩ = some (pt x) ∧ w'.cell? ⟨sb, 1, none⟩ = some (.int .i64 (first : Int))) (first | exact S2 | exact And.intro h4.c0 h4.c1 | assumption)
          ((go_at_call 17; refine q3.mono ?_; rintro e w4 ⟨rfl, h4⟩))
        have H4 : Hid (SS w0 w4 q p n x sb first W false B X) := ⟨h4⟩
        clear h4
        go_wp2_with fail
        refine (qb.out _).mono ?_
        rintro e w2 ⟨rfl, rfl⟩
        dsimp only
        go_wp2
        go_ret
        exact ⟨rfl, H4.out⟩
    · rw [decide_eq_false hm]
      go_enter Tryz.func14, Tryz.ntmps14
      go_wp2_with fail
      refine (qO.out 0).mono ?_
      rintro e w1 ⟨rfl, k1, rfl⟩
      dsimp only
      go_wp2_with fail
      refine (qB.out _).mono ?_
      rintro e w1 ⟨rfl, k2, rfl⟩
      dsimp only
      go_wp2
      go_ret
      exact ⟨rfl, H.out (k1 + k2)⟩
end Go.Proofs.YtghdgddpdamhcaaGreat
