/- Commit. -/
import Derived.Test.YtmcdohpeibipkaaCom
namespace Go.Proofs.Ytmcdohpeibipkaa
set_option linter.unusedVariables false
set_option linter.unusedSimpArgs false
open Go.RowKit
variable {w0 w : World} {Ls rest : List (Th → Prop)} {q p s : Nat} {d : Bool} {st : St}
def natL (l : Il) : Wl := l.map fun p => (p.1.toNat, p.2)
theorem natL_length (l : Il) : (natL l).length = l.length := by simp [natL]
theorem ints_natL {n : Nat} {l : Il} (h : rightB n l = true) : ints (natL l) = l := by
  unfold rightB at h
  rw [decide_eq_true_iff] at h
  unfold ints natL
  rw [List.map_map]
  conv => rhs; rw [← List.map_id l]
  refine List.map_congr_left fun p hp => ?_
  have := (h.1 p hp).1
  simp [okN] at this
  show ((p.1.toNat : Int), p.2) = p
  rw [Int.toNat_of_nonneg this.1]
theorem right_good {n s : Nat} {l : Il} (h : rightB (n - s) l = true) (h1 : 1 + l.length < s) (h2 : l.length ≤ 256) : Good n s (natL l) := by
  have h' := h
  unfold rightB at h'
  rw [decide_eq_true_iff] at h'
  refine ⟨fun p hp => ?_, ?_, by rw [natL_length]; exact h1, by rw [natL_length]; exact h2⟩
  · obtain ⟨x, hx, rfl⟩ := List.mem_map.1 hp
    have := h'.1 x hx
    simp [okN] at this
    exact ⟨by simp; omega, this.2⟩
  · have e : (natL l).map Prod.fst = (l.map Prod.fst).map Int.toNat := by simp [natL]
    rw [e]
    have hnn : ∀ x ∈ l.map Prod.fst, (0 : Int) ≤ x := fun x hx => by
      obtain ⟨y, hy, rfl⟩ := List.mem_map.1 hx
      have := (h'.1 y hy).1
      simp [okN] at this
      exact this.1
    have hnd := h'.2
    generalize l.map Prod.fst = zs at *
    clear e h h' h1 h2
    induction zs with
    | nil => simp
    | cons z r ih =>
      rw [List.nodup_cons] at hnd
      rw [List.map_cons, List.nodup_cons]
      refine ⟨fun hm => ?_, ih (fun x hx => hnn x (List.mem_cons_of_mem _ hx)) hnd.2⟩
      obtain ⟨y, hy, e⟩ := List.mem_map.1 hm
      have a := hnn y (List.mem_cons_of_mem _ hy)
      have b := hnn z List.mem_cons_self
      have : y = z := by omega
      subst this
      exact hnd.1 hy
set_option maxRecDepth 100000 in
theorem commit_off (h : EnvP w0 w (lg q p s d :: dk p st :: rest)) (ho : (d || st.off) = true) (v : Value) :
    Calls Try.prog 10 #[pt q, v] w fun e w' => e = .returned (.int .i64 9) ∧ EnvP w0 w' (lg q p s true :: dk p st :: rest) := by
  have qO := loff_env h
  rw [ho] at qO
  clear h ho
  go_enter Try.func10, Try.ntmps10
  go_wp2_with fail
  refine qO.mono ?_
  rintro e w1 ⟨rfl, h1⟩
  dsimp only
  go_wp2
  go_ret
  exact ⟨rfl, h1⟩
set_option maxRecDepth 100000 in
theorem commit_bad (h : EnvP w0 w (lg q p s false :: dk p st :: rest)) (ho : st.off = false) (hs : s ≤ st.safe.length) (a : Option Addr) (cap : Nat) (l : Il) {n : Nat} (hn : n = l.length) (ha : Arg rest a l) (hl : l.length ≤ 20000000000000) {m : Nat} (hm : m = st.safe.length - s) (hr : rightB m l = false) : Calls Try.prog 10 #[pt q, .slice a n cap] w fun e w' => e = .returned (.int .i64 1) ∧ EnvP w0 w' (lg q p s false :: dk p st :: rest) := by
  have qO := loff_env h
  rw [ho] at qO
  have qR : Hid (∀ w5, EnvP w0 w5 (lg q p s false :: dk p st :: rest) → Calls Try.prog 36 #[pt q, .slice a n cap] w5 fun e w' => e = .returned (.bool false) ∧ Below w5.heap.size w5 w') := ⟨fun w5 h5 => by have := right_env h5 hs a cap l hn ha hl hm; rwa [hr] at this⟩
  clear h ho hm hn
  go_enter Try.func10, Try.ntmps10
  go_wp2_with fail
  refine qO.mono ?_
  rintro e w1 ⟨rfl, h1⟩
  dsimp only
  go_wp2_with fail
  refine (qR.out _ h1).mono ?_
  rintro e w2 ⟨rfl, b2⟩
  dsimp only
  go_wp2
  go_ret
  exact ⟨rfl, h1.below b2⟩
set_option maxRecDepth 100000 in
theorem commit_nil (h : EnvP w0 w (lg q p s false :: dk p st :: rest)) (ho : st.off = false) (hs : s ≤ st.safe.length) (a : Option Addr) (cap : Nat) (l : Il) {n : Nat} (hn : n = l.length) (ha : Arg rest a l) (hl : l.length ≤ 20000000000000) {m : Nat} (hm : m = st.safe.length - s) (h0 : l = []) : Calls Try.prog 10 #[pt q, .slice a n cap] w fun e w' => e = .returned (.int .i64 0) ∧ EnvP w0 w' (lg q p s false :: dk p st :: rest) := by
  have qO := loff_env h
  rw [ho] at qO
  have hr : rightB m l = true := by subst h0; simp [rightB]
  have qR : Hid (∀ w5, EnvP w0 w5 (lg q p s false :: dk p st :: rest) → Calls Try.prog 36 #[pt q, .slice a n cap] w5 fun e w' => e = .returned (.bool true) ∧ Below w5.heap.size w5 w') := ⟨fun w5 h5 => by have := right_env h5 hs a cap l hn ha hl hm; rwa [hr] at this⟩
  obtain rfl : n = 0 := by rw [hn, h0]; rfl
  clear h ho hm hn h0
  go_enter Try.func10, Try.ntmps10
  go_wp2_with fail
  refine qO.mono ?_
  rintro e w1 ⟨rfl, h1⟩
  dsimp only
  go_wp2_with fail
  refine (qR.out _ h1).mono ?_
  rintro e w2 ⟨rfl, b2⟩
  dsimp only
  go_wp2
  go_ret
  exact ⟨rfl, h1.below b2⟩
set_option maxRecDepth 100000 in
theorem commit_full (h : EnvP w0 w (lg q p s false :: dk p st :: rest)) (ho : st.off = false) (hs : s ≤ st.safe.length) (a : Option Addr) (cap : Nat) (l : Il) {n : Nat} (hn : n = l.length) (ha : Arg rest a l) (hl : l.length ≤ 20000000000000) {m : Nat} (hm : m = st.safe.length - s) (hr : rightB m l = true) (hs2 : s ≤ 250) (h0 : l ≠ []) (hf : s ≤ 1 + l.length) : Calls Try.prog 10 #[pt q, .slice a n cap] w fun e w' => e = .returned (.int .i64 41) ∧ EnvP w0 w' (lg q p s false :: dk p st :: rest) := by
  subst hn
  have qO := loff_env h
  rw [ho] at qO
  have qR : Hid (∀ w5, EnvP w0 w5 (lg q p s false :: dk p st :: rest) → Calls Try.prog 36 #[pt q, .slice a l.length cap] w5 fun e w' => e = .returned (.bool true) ∧ Below w5.heap.size w5 w') := ⟨fun w5 h5 => by have := right_env h5 hs a cap l rfl ha hl hm; rwa [hr] at this⟩
  have hl0 : 1 ≤ l.length := List.length_pos_iff.2 h0
  have hfd : decide ((l.length + 255) / 256 + l.length < s) = false := decide_eq_false (by omega)
  have qF : Hid (∀ w5, EnvP w0 w5 (lg q p s false :: dk p st :: rest) → Calls Try.prog 37 #[pt q, .int .i64 (l.length : Int)] w5 fun e w' => e = .returned (.bool false) ∧ ∃ m, w' = w5.drewN m) := ⟨fun w5 h5 => by have := fits_env h5 (by omega) l.length (by omega); rwa [hfd] at this⟩
  have hne : ¬ ((l.length : Int) = 0) := by omega
  clear h ho hm h0
  go_enter Try.func10, Try.ntmps10
  go_wp2_with fail
  refine qO.mono ?_
  rintro e w1 ⟨rfl, h1⟩
  dsimp only
  go_wp2_with fail
  refine (qR.out _ h1).mono ?_
  rintro e w2 ⟨rfl, b2⟩
  have E2 := h1.below b2
  clear h1 b2
  dsimp only
  go_wp2_with fail
  refine (qF.out _ E2).mono ?_
  rintro e w3 ⟨rfl, j, rfl⟩
  dsimp only
  go_wp2
  go_ret
  exact ⟨rfl, E2.drewN j⟩
set_option maxRecDepth 100000 in
theorem commit_run (h : EnvP w0 w (lg q p s false :: dk p st :: rest)) (ho : st.off = false) (hs : s ≤ st.safe.length) (a : Option Addr) (cap : Nat) (l : Il) {n : Nat} (hn : n = l.length) (ha : Arg rest a l) (hl : l.length ≤ 20000000000000) {m : Nat} (hm : m = st.safe.length - s) (hr : rightB m l = true) (hs2 : s ≤ 250) (h0 : l ≠ []) (hf : 1 + l.length < s) (hp : st.pend.length ≤ 1000) : Calls Try.prog 10 #[pt q, .slice a n cap] w fun e w' => e = .returned (.int .i64 (comR NN st s (natL l)).2) ∧ EnvP w0 w' (lg q p s (decide ((comR NN st s (natL l)).2 = 9)) :: dk p (comR NN st s (natL l)).1 :: rest) := by
  subst hn
  have qO := loff_env h
  rw [ho] at qO
  have qR : Hid (∀ w5, EnvP w0 w5 (lg q p s false :: dk p st :: rest) → Calls Try.prog 36 #[pt q, .slice a l.length cap] w5 fun e w' => e = .returned (.bool true) ∧ Below w5.heap.size w5 w') := ⟨fun w5 h5 => by have := right_env h5 hs a cap l rfl ha hl hm; rwa [hr] at this⟩
  have hl0 : 1 ≤ l.length := List.length_pos_iff.2 h0
  have hhi := (h.wf 1 rfl).hi
  have hfd : decide ((l.length + 255) / 256 + l.length < s) = true := decide_eq_true (by omega)
  have qF : Hid (∀ w5, EnvP w0 w5 (lg q p s false :: dk p st :: rest) → Calls Try.prog 37 #[pt q, .int .i64 (l.length : Int)] w5 fun e w' => e = .returned (.bool true) ∧ ∃ m, w' = w5.drewN m) := ⟨fun w5 h5 => by have := fits_env h5 (by omega) l.length (by omega); rwa [hfd] at this⟩
  have gd := right_good (n := st.safe.length) (s := s) (l := l) (by rw [← hm]; exact hr) hf (by omega)
  have qC : Hid (∀ w5, EnvP w0 w5 (lg q p s false :: dk p st :: rest) → Calls Try.prog 38 #[pt q, .slice a l.length cap] w5 fun e w' => e = .returned (.int .i64 (comR NN st s (natL l)).2) ∧ EnvP w0 w' (lg q p s false :: dk p (comR NN st s (natL l)).1 :: rest)) := ⟨fun w5 h5 => lcommit_env h5 (by omega) hp a cap (natL l) (by rw [ints_natL hr]; exact ha) (by rw [natL_length]; exact hl0) (by rw [natL_length]; omega) (fun x hx => by have := (gd.num x hx).1; omega) (natL_length l).symm⟩
  have hne : ¬ ((l.length : Int) = 0) := by omega
  generalize comR NN st s (natL l) = C at *
  obtain ⟨c1, r⟩ := C
  simp only at *
  have HE : Hid (∀ w5, EnvP w0 w5 (lg q p s false :: dk p c1 :: rest) → EnvP w0 (w5.setCell ⟨q, 2, none⟩ (.bool (decide (r = 9)))) (lg q p s (decide (r = 9)) :: dk p c1 :: rest)) := ⟨fun w5 h5 => h5.setCell 0 rfl 2 (.bool (decide (r = 9)))⟩
  clear h ho hm h0 gd
  go_enter Try.func10, Try.ntmps10
  go_wp2_with fail
  refine qO.mono ?_
  rintro e w1 ⟨rfl, h1⟩
  dsimp only
  go_wp2_with fail
  refine (qR.out _ h1).mono ?_
  rintro e w2 ⟨rfl, b2⟩
  have E2 := h1.below b2
  clear h1 b2
  dsimp only
  go_wp2_with fail
  refine (qF.out _ E2).mono ?_
  rintro e w3 ⟨rfl, j, rfl⟩
  have E3 := E2.drewN j
  clear E2
  dsimp only
  go_wp2_with fail
  refine (qC.out _ E3).mono ?_
  rintro e w4 ⟨rfl, h4⟩
  have E5 := HE.out _ h4
  have c42 := (lgc h4).2.2
  have f42 := h4.frozen 0 rfl 2
  clear h4 E3
  dsimp only
  by_cases h9 : r = 9
  · subst h9
    go_wp2
    go_ret
    exact ⟨rfl, E5⟩
  · rw [decide_eq_false h9] at E5
    go_wp2
    go_ret
    refine ⟨rfl, ?_⟩
    have h9b : (r == 9) = false := beq_eq_false_iff_ne.2 h9
    rw [decide_eq_false h9, h9b]
    exact E5
/-- the four ways of a Commit on a log that is on -/
theorem commit_env (h : EnvP w0 w (lg q p s false :: dk p st :: rest)) {n : Nat} {B : List ByteArray} (ok : OKst NN st n s B) (h4 : 4 ≤ s) (hs : s < n) (hs2 : s ≤ 250) (a : Option Addr) (cap : Nat) (l : Il) {k : Nat} (hk : k = l.length) (ha : Arg rest a l) (hl : l.length ≤ 20000000000000) :
    Calls Try.prog 10 #[pt q, .slice a k cap] w fun e w' =>
      (rightB (n - s) l = false ∧ e = .returned (.int .i64 1) ∧ EnvP w0 w' (lg q p s false :: dk p st :: rest)) ∨
      (rightB (n - s) l = true ∧ l = [] ∧ e = .returned (.int .i64 0) ∧ EnvP w0 w' (lg q p s false :: dk p st :: rest)) ∨
      (rightB (n - s) l = true ∧ s ≤ 1 + l.length ∧ e = .returned (.int .i64 41) ∧ EnvP w0 w' (lg q p s false :: dk p st :: rest)) ∨
      (rightB (n - s) l = true ∧ l ≠ [] ∧ 1 + l.length < s ∧ (st.fall = 0 ∨ 2 * l.length + 7 < st.fall) ∧ ∃ st', e = .returned (.int .i64 0) ∧ EnvP w0 w' (lg q p s false :: dk p st' :: rest) ∧ OKst NN st' n s (lay B (natL l)) ∧ (st.fall = 0 → st'.fall = 0)) ∨
      (rightB (n - s) l = true ∧ l ≠ [] ∧ 1 + l.length < s ∧ 1 ≤ st.fall ∧ st.fall ≤ 2 * l.length + 7 ∧ ∃ st', e = .returned (.int .i64 9) ∧ EnvP w0 w' (lg q p s true :: dk p st' :: rest) ∧ OFFst st' n (fun L => RecL NN L s B ∨ RecL NN L s (lay B (natL l))) ∧ (st.fall = 1 → OFFst st' n (fun L => L[0]? = some (NN.hd s 0) ∧ L.drop s = B))) := by
  have hm : n - s = st.safe.length - s := by rw [ok.len]
  have hss : s ≤ st.safe.length := by rw [ok.len]; omega
  have hp : st.pend.length ≤ 1000 := by rw [ok.pend]; simp
  cases hr : rightB (n - s) l with
  | false =>
    refine (commit_bad h ok.off hss a cap l hk ha hl hm hr).mono ?_
    rintro e w' ⟨rfl, h1⟩
    exact .inl ⟨rfl, rfl, h1⟩
  | true =>
    by_cases h0 : l = []
    · refine (commit_nil h ok.off hss a cap l hk ha hl hm h0).mono ?_
      rintro e w' ⟨rfl, h1⟩
      exact .inr (.inl ⟨rfl, h0, rfl, h1⟩)
    · by_cases hf : s ≤ 1 + l.length
      · refine (commit_full h ok.off hss a cap l hk ha hl hm hr hs2 h0 hf).mono ?_
        rintro e w' ⟨rfl, h1⟩
        exact .inr (.inr (.inl ⟨rfl, hf, rfl, h1⟩))
      · refine (commit_run h ok.off hss a cap l hk ha hl hm hr hs2 h0 (by omega) hp).mono ?_
        rintro e w' ⟨rfl, h1⟩
        have gd := right_good hr (by omega) (by omega)
        have out := com_out (N := NN) hd_size nums_size ok hs (fun e => h0 (List.length_eq_zero_iff.1 (by rw [← natL_length, e]; rfl))) gd
        rw [natL_length] at out
        rcases out with ⟨f, r0, ok', ff⟩ | ⟨f1, f2, r9, off, off1⟩
        · rw [r0] at h1 ⊢
          exact .inr (.inr (.inr (.inl ⟨rfl, h0, by omega, f, _, rfl, h1, ok', fun hf => by rw [ff]; omega⟩)))
        · rw [r9] at h1 ⊢
          exact .inr (.inr (.inr (.inr ⟨rfl, h0, by omega, f1, f2, _, rfl, h1, off, off1⟩)))
end Go.Proofs.Ytmcdohpeibipkaa
