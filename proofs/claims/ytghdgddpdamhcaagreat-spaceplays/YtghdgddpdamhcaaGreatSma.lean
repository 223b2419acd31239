/- The log's small calls: Blocks, has, off, Read, fits; rest and finish. -/
import Derived.Test.YtghdgddpdamhcaaGreatLay
namespace Go.Proofs.YtghdgddpdamhcaaGreat
set_option linter.unusedVariables false
set_option linter.unusedSimpArgs false
open Go.RowKit
section
variable {w0 w w' : World} {Ls rest : List (Th → Prop)} {x y z : Th → Prop}
theorem EnvP.drewN (h : EnvP w0 w Ls) (n : Nat) : EnvP w0 (w.drewN n) Ls := h.below ⟨rfl, rfl, rfl, Nat.le_refl _, fun _ _ => rfl⟩
theorem EnvP.wf {p : Nat} {st : St} (h : EnvP w0 w Ls) (i : Nat) (hi : Ls[i]? = some (dk p st)) : st.WF := by
  obtain ⟨D, _, d, _⟩ := h.disk i hi
  exact d.wf
theorem EnvP.init (h : EnvP w0 w (Ls ++ [x])) : EnvP w0 w Ls := h.front.tail
/-- a row of writes of the call's own -/
def rowWTh (v : Value) (n : Nat) (xs : List Value) : Th := ⟨fun k => v.ownBlock = some k, fun w => w.ownsRow 0 95 2 v n xs, fun w h k hk => (h.lt k hk).2, fun S w w' h fr hs => fr.own h (fun k hk => hs k hk)⟩
def wci : Il → List Value
  | [] => []
  | p :: r => .int .i64 p.1 :: .string p.2 :: wci r
theorem wci_ints : ∀ l : Wl, wci (ints l) = wcs l
  | [] => rfl
  | p :: r => by show Value.int .i64 (p.1 : Int) :: Value.string p.2 :: wci (ints r) = _; rw [wci_ints r]; rfl
theorem wci_length : ∀ l, (wci l).length = l.length * 2
  | [] => rfl
  | _ :: r => by simp [wci, wci_length r]; omega
theorem wci_append : ∀ a b, wci (a ++ b) = wci a ++ wci b
  | [], _ => rfl
  | _ :: r, b => by simp [wci, wci_append r b]
theorem wci_at : ∀ (l : Il) (k : Nat) (p : Int × ByteArray), l[k]? = some p → (wci l)[k * 2]? = some (.int .i64 p.1) ∧ (wci l)[k * 2 + 1]? = some (.string p.2)
  | [], _, _, h => by simp at h
  | q :: r, 0, p, h => by simp at h; subst h; simp [wci]
  | q :: r, k + 1, p, h => by
    have := wci_at r k p (by simpa using h)
    have e : (k + 1) * 2 = k * 2 + 1 + 1 := by omega
    simp only [wci, e, List.getElem?_cons_succ]
    exact this
theorem wci_one : ∀ l, ∀ u ∈ wci l, u.oneCell' = true
  | [], u, h => by simp [wci] at h
  | p :: r, u, h => by
    simp only [wci, List.mem_cons] at h
    rcases h with rfl | rfl | h
    · rfl
    · rfl
    · exact wci_one r u h
def rowW (v : Value) (l : Il) : Th → Prop := fun t => t = rowWTh v l.length (wci l)
theorem own_cell2 {w : World} {g n c : Nat} {l : Il} (h : w.ownsRow 0 95 2 (rw_ g n c) l.length (wci l)) (k : Nat) (z : Int × ByteArray) (hz : l[k]? = some z) : w.cell? ⟨g, k * 2, none⟩ = some (.int .i64 z.1) ∧ w.cell? ⟨g, k * 2 + 1, none⟩ = some (.string z.2) := by
  have hk := (List.getElem?_eq_some_iff.1 hz).1
  obtain ⟨h1, h2⟩ := wci_at l k z hz
  obtain ⟨a, c', e⟩ := own_slice h
  obtain rfl : n = l.length := by injection e
  exact ⟨(h.cellAt (k * 2) (by omega)).trans h1, (h.cellAt (k * 2 + 1) (by omega)).trans h2⟩
theorem shows_row (g n c : Nat) (l : Il) (m : Nat) : Shows (rowW (rw_ g n c) l) (some ⟨g, 0, none⟩) (l.take m) := fun t w ht ha => by
  subst ht
  intro k z hz
  have hz' : l[k]? = some z := by
    rw [List.getElem?_take] at hz
    split at hz
    · exact hz
    · cases hz
  have := own_cell2 ha k z hz'
  exact ⟨g, 0, rfl, by simpa using this.1, by simpa using this.2⟩
theorem shows_all (g n c : Nat) (l : Il) : Shows (rowW (rw_ g n c) l) (some ⟨g, 0, none⟩) l := by
  have := shows_row g n c l l.length
  rwa [List.take_length] at this
theorem EnvP.pushW {v : Value} {l : Il} (h : EnvP w0 w Ls) (b : Below w.heap.size w w') (o : w'.ownsRow 0 95 2 v l.length (wci l)) (f : ∀ k, v.ownBlock = some k → w.heap.size ≤ k) : EnvP w0 w' (Ls ++ [rowW v l]) :=
  h.push (rowWTh v l.length (wci l)) (rowW v l) rfl b o f
end
variable {w0 w : World} {rest : List (Th → Prop)} {q p s : Nat} {d : Bool} {st : St}
set_option maxRecDepth 100000 in
theorem blocks_env (h : EnvP w0 w (lg q p s d :: dk p st :: rest)) (hs : s ≤ st.safe.length) :
    Calls Tryz.prog 11 #[pt q] w fun e w' => e = .returned (.int .i64 ((st.safe.length : Int) - (s : Int))) ∧ ∃ n, w' = w.drewN n := by
  have hi := (h.wf 1 rfl).hi
  have qS : Hid (∀ n, Calls Tryz.prog 32 #[pt p] (w.drewN n) fun e w' => e = .returned (.int .i64 (st.safe.length : Int)) ∧ w' = w.drewN n) := ⟨fun n => sectors_env (h.drewN n) 1 rfl rfl⟩
  obtain ⟨c0, c1, c2⟩ := lgc h
  have hw : IntKind.i64.wrap ((st.safe.length : Int) - (s : Int)) = (st.safe.length : Int) - (s : Int) := by rw [IntKind.wrap_i64]; omega
  generalize st.safe.length = n at *
  clear h c2
  go_enter Tryz.func11, Tryz.ntmps11
  go_wp2_with fail
  go_quiet ((go_at_call 32; exact Calls.quiet_of_same (qS.out _)))
  go_wp2
  go_ret
  exact ⟨rfl, _, rfl⟩
set_option maxRecDepth 100000 in
theorem lhas_env (h : EnvP w0 w (lg q p s d :: dk p st :: rest)) (hs : s ≤ st.safe.length) (n : Int) :
    Calls Tryz.prog 72 #[pt q, .int .i64 n] w fun e w' => e = .returned (.bool (decide (0 ≤ n ∧ n < (st.safe.length : Int) - (s : Int)))) ∧ ∃ m, w' = w.drewN m := by
  have qB := blocks_env h hs
  obtain ⟨b, hb⟩ : ∃ b, decide (0 ≤ n ∧ n < (st.safe.length : Int) - (s : Int)) = b := ⟨_, rfl⟩
  rw [hb]
  by_cases h0 : 0 ≤ n
  · have hb' : decide (n < (st.safe.length : Int) - (s : Int)) = b := by rw [← hb]; simp [h0]
    have HB : Hid (decide (n < (st.safe.length : Int) - (s : Int)) = b) := ⟨hb'⟩
    clear hb hb' h
    generalize (st.safe.length : Int) - (s : Int) = m at *
    go_enter Tryz.func72, Tryz.ntmps72
    go_wp2_with fail
    refine qB.mono ?_
    rintro e w1 ⟨rfl, k, rfl⟩
    dsimp only
    go_wp2
    go_ret
    exact ⟨by rw [← HB.out]; rfl, k, rfl⟩
  · have hb' : b = false := by rw [← hb]; simp [h0]
    subst hb'
    clear hb h qB
    go_enter Tryz.func72, Tryz.ntmps72
    go_wp2
    go_ret
    exact ⟨rfl, 0, rfl⟩
set_option maxRecDepth 100000 in
theorem loff_env (h : EnvP w0 w (lg q p s d :: dk p st :: rest)) :
    Calls Tryz.prog 71 #[pt q] w fun e w' => e = .returned (.bool (d || st.off)) ∧ EnvP w0 w' (lg q p s (d || st.off) :: dk p st :: rest) := by
  have qO := off_env h 1 rfl rfl
  have H : Hid (EnvP w0 w (lg q p s d :: dk p st :: rest)) := ⟨h⟩
  have fz := h.frozen 0 rfl 2
  obtain ⟨c0, c1, c2⟩ := lgc h
  have HE : Hid (EnvP w0 (w.setCell ⟨q, 2, none⟩ (.bool true)) (lg q p s true :: dk p st :: rest)) := ⟨h.setCell 0 rfl 2 (.bool true)⟩
  clear h
  cases ho : st.off with
  | true =>
    rw [ho] at qO
    clear ho H
    have e : (d || true) = true := by cases d <;> rfl
    rw [e]
    clear e
    go_enter Tryz.func71, Tryz.ntmps71
    go_wp2_with fail
    refine qO.mono ?_
    rintro e w1 ⟨rfl, rfl⟩
    dsimp only
    go_wp2
    go_ret
    exact ⟨rfl, HE.out⟩
  | false =>
    rw [ho] at qO
    clear ho HE
    have e : (d || false) = d := by cases d <;> rfl
    rw [e]
    clear e
    go_enter Tryz.func71, Tryz.ntmps71
    go_wp2_with fail
    refine qO.mono ?_
    rintro e w1 ⟨rfl, rfl⟩
    dsimp only
    go_wp2
    go_ret
    exact ⟨rfl, H.out⟩
set_option maxRecDepth 100000 in
theorem fits_env (h : EnvP w0 w (lg q p s d :: dk p st :: rest)) (hs : s ≤ 8192) (n : Nat) (hn : n ≤ 9000000000000000) :
    Calls Tryz.prog 76 #[pt q, .int .i64 (n : Int)] w fun e w' => e = .returned (.bool (decide ((n + 255) / 256 + n < s))) ∧ ∃ m, w' = w.drewN m := by
  have qL : Hid (∀ k, Calls Tryz.prog 99 #[.int .i64 (n : Int)] (w.drewN k) fun e w' => e = .returned (.int .i64 (((n + 255) / 256 : Nat) : Int)) ∧ w' = w.drewN k) := ⟨fun k => lists_any n (by omega) _⟩
  obtain ⟨c0, c1, c2⟩ := lgc h
  have hm : (n + 255) / 256 ≤ 9000000000000000 := by omega
  have HB : Hid (decide ((((n + 255) / 256 : Nat) : Int) + (n : Int) < (s : Int)) = decide ((n + 255) / 256 + n < s)) := ⟨by rw [decide_eq_decide]; omega⟩
  obtain ⟨b, hb⟩ : ∃ b, decide ((n + 255) / 256 + n < s) = b := ⟨_, rfl⟩
  rw [hb] at HB ⊢
  generalize (n + 255) / 256 = m at *
  have hw : IntKind.i64.wrap ((m : Int) + (n : Int)) = (m : Int) + (n : Int) := by rw [IntKind.wrap_i64]; omega
  clear h c2 hb
  go_enter Tryz.func76, Tryz.ntmps76
  go_wp2_with fail
  go_quiet ((go_at_call 99; exact Calls.quiet_of_same (qL.out _)))
  go_wp2
  go_ret
  exact ⟨by rw [← HB.out]; rfl, _, rfl⟩
set_option maxRecDepth 100000 in
theorem lread_off (h : EnvP w0 w (lg q p s d :: dk p st :: rest)) (n : Int) (ho : (d || st.off) = true) :
    Calls Tryz.prog 43 #[pt q, .int .i64 n] w fun e w' => e = .returned (.tuple #[.string ⟨#[]⟩, .int .i64 9]) ∧ EnvP w0 w' (lg q p s true :: dk p st :: rest) := by
  have qO := loff_env h
  rw [ho] at qO
  clear h ho
  go_enter Tryz.func43, Tryz.ntmps43
  go_wp2_with fail
  refine qO.mono ?_
  rintro e w1 ⟨rfl, h1⟩
  dsimp only
  go_wp2
  go_ret2
  exact ⟨rfl, h1⟩
set_option maxRecDepth 100000 in
theorem lread_on (h : EnvP w0 w (lg q p s false :: dk p st :: rest)) (n : Int) (ho : st.off = false) (hs : s ≤ st.safe.length) (B : List ByteArray) (hB : st.seen.drop s = B) :
    Calls Tryz.prog 43 #[pt q, .int .i64 n] w fun e w' => e = .returned (if 0 ≤ n ∧ n < B.length then .tuple #[.string (B.getD n.toNat ByteArray.empty), .int .i64 0] else .tuple #[.string ⟨#[]⟩, .int .i64 1]) ∧ EnvP w0 w' (lg q p s false :: dk p st :: rest) := by
  have qO := loff_env h
  rw [ho] at qO
  have hlen : (B.length : Int) = (st.safe.length : Int) - (s : Int) := by rw [← hB, List.length_drop, St.seen_length]; omega
  have hi := (h.wf 1 rfl).hi
  by_cases hn : 0 ≤ n ∧ n < B.length
  · rw [if_pos hn]
    have er : st.read ((s : Int) + n) = (B.getD n.toNat ByteArray.empty, 0) := by
      unfold St.read
      have h1 : st.has ((s : Int) + n) = true := by simp [St.has]; omega
      rw [ho, h1]
      simp only [Bool.false_eq_true, if_false, if_true]
      congr 1
      rw [← hB, List.getD_eq_getElem?_getD, List.getD_eq_getElem?_getD, List.getElem?_drop]
      congr 2
      omega
    have hb : decide (0 ≤ n ∧ n < (st.safe.length : Int) - (s : Int)) = true := by rw [← hlen]; exact decide_eq_true hn
    have hw : IntKind.i64.wrap ((s : Int) + n) = (s : Int) + n := by rw [IntKind.wrap_i64]; omega
    have qH : Hid (∀ {w5 : World}, EnvP w0 w5 (lg q p s false :: dk p st :: rest) → Calls Tryz.prog 72 #[pt q, .int .i64 n] w5 fun e w' => e = .returned (.bool true) ∧ ∃ m, w' = w5.drewN m) := ⟨fun h5 => by have := lhas_env h5 hs n; rwa [hb] at this⟩
    have qR : Hid (∀ {w5 : World}, EnvP w0 w5 (lg q p s false :: dk p st :: rest) → Calls Tryz.prog 73 #[pt p, .int .i64 ((s : Int) + n)] w5 fun e w' => e = .returned (.tuple #[.string (B.getD n.toNat ByteArray.empty), .int .i64 0]) ∧ EnvP w0 w' (lg q p s false :: dk p st :: rest)) := ⟨fun h5 => read_env h5 1 rfl _ er⟩
    generalize B.getD n.toNat ByteArray.empty = X at *
    clear h er hb hlen
    go_enter Tryz.func43, Tryz.ntmps43
    go_wp2_with fail
    refine qO.mono ?_
    rintro e w1 ⟨rfl, h1⟩
    dsimp only
    go_wp2_with fail
    refine (qH.out h1).mono ?_
    rintro e w2 ⟨rfl, m, rfl⟩
    dsimp only
    go_wp2_with fail
    have E7 := (h1.drewN m).drew
    clear h1
    go_region_held3 (fun w' => w'.cell? ⟨q, 0, none⟩ = some (pt p) ∧ w'.cell? ⟨q, 1, none⟩ = some (.int .i64 (s : Int)) ∧ w'.cell? ⟨q, 2, none⟩ = some (.bool false)) (first | exact lgc E7 | exact lgc h6 | assumption)
      ((go_at_call 73; refine (qR.out (by assumption)).mono ?_; rintro e w6 ⟨rfl, h6⟩))
    go_wp2
    go_ret2
    exact ⟨rfl, h6⟩
  · rw [if_neg hn]
    have hb : decide (0 ≤ n ∧ n < (st.safe.length : Int) - (s : Int)) = false := by rw [← hlen]; exact decide_eq_false hn
    have qH : Hid (∀ {w5 : World}, EnvP w0 w5 (lg q p s false :: dk p st :: rest) → Calls Tryz.prog 72 #[pt q, .int .i64 n] w5 fun e w' => e = .returned (.bool false) ∧ ∃ m, w' = w5.drewN m) := ⟨fun h5 => by have := lhas_env h5 hs n; rwa [hb] at this⟩
    clear h hb hlen hn
    go_enter Tryz.func43, Tryz.ntmps43
    go_wp2_with fail
    refine qO.mono ?_
    rintro e w1 ⟨rfl, h1⟩
    dsimp only
    go_wp2_with fail
    refine (qH.out h1).mono ?_
    rintro e w2 ⟨rfl, m, rfl⟩
    dsimp only
    go_wp2
    go_ret2
    exact ⟨rfl, h1.drewN m⟩
set_option maxRecDepth 100000 in
theorem rest_env (h : EnvP w0 w (lg q p s d :: dk p st :: rest)) (hs : s < 65536) (hp : st.pend.length ≤ 100000) :
    Calls Tryz.prog 79 #[pt q] w fun e w' => e = .returned (.int .i64 (layR st [(0, NN.hd s 0)]).2) ∧ EnvP w0 w' (lg q p s d :: dk p (layR st [(0, NN.hd s 0)]).1 :: rest) := by
  have qW := hwrites_any s 0 hs (by decide) w
  have qL : Hid (∀ (g : Nat) (w5 : World), EnvP w0 w5 (lg q p s d :: dk p st :: (rest ++ [rowW (rw_ g 1 1) (ints [(0, NN.hd s 0)])])) → Calls Tryz.prog 100 #[pt q, .int .i64 0, .slice (some ⟨g, 0, none⟩) 1 1] w5 fun e w' => e = .returned (.int .i64 (layR st [(0, NN.hd s 0)]).2) ∧ EnvP w0 w' (lg q p s d :: dk p (layR st [(0, NN.hd s 0)]).1 :: (rest ++ [rowW (rw_ g 1 1) (ints [(0, NN.hd s 0)])]))) := ⟨fun g w5 h5 => by
    have := lay_env h5 0 (f' := 0) rfl (some ⟨g, 0, none⟩) 1 [(0, NN.hd s 0)] (n := 1) rfl (.inr ⟨rest.length, rowW (rw_ g 1 1) (ints [(0, NN.hd s 0)]), by simp, shows_all g 1 1 _⟩) (fun x hx => by simp at hx; subst hx; simp) (by simp; omega)
    rwa [shift_zero] at this⟩
  have HP : Hid (∀ (g : Nat) (w5 : World), w5.ownsRow 0 95 2 (rw_ g 1 1) 1 (wcs [(0, NN.hd s 0)]) → Below w.heap.size w w5 → w.heap.size ≤ g → EnvP w0 w5 (lg q p s d :: dk p st :: (rest ++ [rowW (rw_ g 1 1) (ints [(0, NN.hd s 0)])]))) := ⟨fun g w5 o b hg => h.pushW (l := ints [(0, NN.hd s 0)]) b (by rw [wci_ints]; exact o) (fun k hk => by cases hk; exact hg)⟩
  obtain ⟨c0, c1, c2⟩ := lgc h
  generalize layR st [(0, NN.hd s 0)] = R at *
  generalize NN.hd s 0 = X at *
  clear h
  go_enter Tryz.func79, Tryz.ntmps79
  go_wp2_with fail
  refine qW.mono ?_
  rintro e w1 ⟨g, rfl, o1, b1, hg⟩
  dsimp only
  go_wp2_with fail
  refine (qL.out g w1 (HP.out g w1 o1 b1 hg)).mono ?_
  rintro e w2 ⟨rfl, h2⟩
  dsimp only
  go_wp2
  go_ret
  exact ⟨rfl, EnvP.init (Ls := lg q p s d :: dk p R.1 :: rest) h2⟩
set_option maxRecDepth 100000 in
theorem finish_env (h : EnvP w0 w (lg q p s d :: dk p st :: rest)) (hs : s < 8192) (a : Option Addr) (cap : Nat) (l : Wl) (ha : Arg rest a (ints l)) (hb : ∀ x ∈ l, x.1 < 8192) (hl : l.length ≤ 8192) (hp : st.pend.length ≤ 10000) (hR : (layR st (shift s l)).1.pend.length ≤ 100000) {n : Nat} (hn : n = l.length) :
    Calls Tryz.prog 103 #[pt q, .slice a n cap] w fun e w' => e = .returned (.int .i64 (finR NN st s l).2) ∧ EnvP w0 w' (lg q p s d :: dk p (finR NN st s l).1 :: rest) := by
  subst hn
  have qL := lay_env h s (f' := (s : Int)) rfl a cap l rfl ha (fun x hx => by have := hb x hx; omega) (by omega)
  have qR : Hid (∀ (w5 : World), EnvP w0 w5 (lg q p s d :: dk p (layR st (shift s l)).1 :: rest) → Calls Tryz.prog 79 #[pt q] w5 fun e w' => e = .returned (.int .i64 (layR (layR st (shift s l)).1 [(0, NN.hd s 0)]).2) ∧ EnvP w0 w' (lg q p s d :: dk p (layR (layR st (shift s l)).1 [(0, NN.hd s 0)]).1 :: rest)) := ⟨fun w5 h5 => rest_env h5 (by omega) hR⟩
  obtain ⟨c0, c1, c2⟩ := lgc h
  have HF : Hid (finR NN st s l = if (layR st (shift s l)).2 = 0 then layR (layR st (shift s l)).1 [(0, NN.hd s 0)] else layR st (shift s l)) := ⟨rfl⟩
  generalize finR NN st s l = F at *
  generalize hX : layR (layR st (shift s l)).1 [(0, NN.hd s 0)] = X at *
  generalize hY : layR st (shift s l) = Y at *
  clear h hX hY
  obtain ⟨y1, y2⟩ := Y
  simp only at qL qR HF
  by_cases h0 : y2 = 0
  · subst h0
    go_enter Tryz.func103, Tryz.ntmps103
    go_wp2_with fail
    refine qL.mono ?_
    rintro e w1 ⟨rfl, h1⟩
    dsimp only
    go_wp2_with fail
    refine (qR.out _ h1).mono ?_
    rintro e w2 ⟨rfl, h2⟩
    dsimp only
    go_wp2
    go_ret
    have e := HF.out
    rw [if_pos (by trivial)] at e
    subst e
    exact ⟨rfl, h2⟩
  · go_enter Tryz.func103, Tryz.ntmps103
    go_wp2_with fail
    refine qL.mono ?_
    rintro e w1 ⟨rfl, h1⟩
    dsimp only
    go_wp2
    go_ret
    have e := HF.out
    rw [if_neg h0] at e
    subst e
    exact ⟨rfl, h1⟩
end Go.Proofs.YtghdgddpdamhcaaGreat
