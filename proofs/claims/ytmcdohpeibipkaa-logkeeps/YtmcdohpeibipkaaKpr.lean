/- The keeper: the document's New; the log is opened anew. -/
import Derived.Test.YtmcdohpeibipkaaRfb
import Derived.Test.YtmcdohpeibipkaaRef
namespace Go.Proofs.Ytmcdohpeibipkaa
set_option linter.unusedVariables false
set_option linter.unusedSimpArgs false
open Go.RowKit
variable {w0 w : World} {Ls rest : List (Th → Prop)}
theorem wps2 (s k n : Nat) (h : k < n - s) (hn : n ≤ 8192) : wrap64 (((s + k : Nat) : Int) + 1) = ((s + (k + 1) : Nat) : Int) := by unfold wrap64; omega
theorem lt2 (s k n : Nat) (h : k < n - s) : ((s + k : Nat) : Int) < (n : Int) := by omega
theorem nlt2 (s n : Nat) (h : s < n) : ¬ (((s + (n - s) : Nat) : Int) < (n : Int)) := by omega
theorem meas2 (s k n : Nat) (h : k < n - s) : n - (intOf (.int .i64 ((s + (k + 1) : Nat) : Int))).toNat < n - (intOf (.int .i64 ((s + k : Nat) : Int))).toNat := by simp [intOf]; omega
set_option maxRecDepth 100000 in
theorem refNew_env (h : EnvP w0 w Ls) (n s : Nat) (h4 : 4 ≤ s) (hs : s < n) (hn : n ≤ 8192) :
    Calls Try.prog 26 #[.int .i64 (n : Int), .int .i64 (s : Int)] w fun e w' => ∃ r v, e = .returned (.tuple #[pt r, .int .i64 0]) ∧ EnvP w0 w' (ob r #[.int .i64 (s : Int), v] 86 :: rowS v (List.replicate (n - s) (fl 0)) :: Ls) := by
  have E0 : Hid (EnvP w0 (w.alloc (.cells #[.int .i64 (s : Int), .slice none 0 0] 86)) (ob w.heap.size #[.int .i64 (s : Int), .slice none 0 0] 86 :: rowS (.slice none 0 0) [] :: Ls)) := ⟨((EnvP.nilS h).front.alloc _ _).front⟩
  have h4i : ¬ ((s : Int) < 4) := by omega
  have hsi : (s : Int) < (n : Int) := by omega
  obtain ⟨w1, hmk, hcv, b1⟩ := made_b 512 (w.alloc (.cells #[.int .i64 (s : Int), .slice none 0 0] 86)) (by decide)
  have hz : (⟨(List.replicate 512 (0 : UInt8)).toArray⟩ : ByteArray) = fl 0 := rfl
  rw [hz] at hcv
  have hmk' : (Instr.makeSlice 78 (.int .i64 512) (.int .i64 512)).run Try.prog (w.alloc (.cells #[.int .i64 (s : Int), .slice none 0 0] 86)) = .ok (.slice (some ⟨w.heap.size + 1, 0, none⟩) 512 512) w1 := by rw [← World.size_alloc w (.cells #[.int .i64 (s : Int), .slice none 0 0] 86)]; exact hmk
  rw [World.size_alloc] at hcv
  have E1 : Hid (EnvP w0 w1 (ob w.heap.size #[.int .i64 (s : Int), .slice none 0 0] 86 :: rowS (.slice none 0 0) (List.replicate 0 (fl 0)) :: Ls)) := ⟨E0.out.below b1⟩
  generalize fl 0 = Z at *
  clear hmk b1 E0 hz h
  go_enter Try.func26, Try.ntmps26
  go_wp2_with fail
  clear hmk' hcv
  generalize w.heap.size = r at *
  go_loopw [8] (fun i wr => ∃ (k : Nat) (v : Value), k ≤ n - s ∧ i = .int .i64 ((s + k : Nat) : Int) ∧ Hid (EnvP w0 wr (ob r #[.int .i64 (s : Int), v] 86 :: rowS v (List.replicate k Z) :: Ls))) (fun i _ => n - (intOf i).toNat)
  case atStart => exact ⟨0, _, Nat.zero_le _, rfl, E1⟩
  case round =>
    obtain ⟨k, v, hk, rfl, E⟩ := hrel
    clear E1
    by_cases hlt : k < n - s
    · have hi := lt2 s k n hlt
      have hw1 := wps2 s k n hlt hn
      have HM : Hid (n - (intOf (.int .i64 ((s + (k + 1) : Nat) : Int))).toNat < n - (intOf (.int .i64 ((s + k : Nat) : Int))).toNat) := ⟨meas2 s k n hlt⟩
      have HW : Hid (wrap64 (((s + k : Nat) : Int) + 1) = ((s + (k + 1) : Nat) : Int)) := ⟨hw1⟩
      have cB := E.out.cell 0 rfl 1
      simp only [List.getElem?_toArray, List.getElem?_cons_zero, List.getElem?_cons_succ] at cB
      obtain ⟨va, vc, hv⟩ := own_slice (E.out.rowSAt 1 rfl)
      rw [List.length_replicate] at hv
      subst hv
      have HLR : Hid ((List.replicate k Z).length = k) := ⟨List.length_replicate ..⟩
      have hk9 : k < 9000000000000 := by omega
      have HII : Hid (((s + k : Nat) : Int) + 1 = ((s + (k + 1) : Nat) : Int)) := ⟨by omega⟩
      generalize hI : ((s + k : Nat) : Int) = I at *
      go_wp2_with (at_builtin; refine app_text1 (g := wr.heap.size) (l := List.replicate k Z) (m := k) HLR.out rfl rfl (E.out.rowSAt 1 rfl) (by rw [HLR.out]; exact hk9) rfl _ _ rfl rfl rfl ?_; intro y c w8 q8 g8 n8; have E8 := E.out.appS 1 rfl (v' := rw_ y (k + 1) c) (l' := List.replicate (k + 1) Z) (by rw [List.length_replicate, List.replicate_succ']; exact q8) g8 (fun j hj => by cases hj; exact n8); have c81 := E8.cell 0 rfl 1; have f81 := E8.frozen 0 rfl 1; simp only [List.getElem?_toArray, List.getElem?_cons_zero, List.getElem?_cons_succ] at c81)
      have E9 : Hid (EnvP w0 (w8.setCell ⟨r, 1, none⟩ (rw_ y (k + 1) c)) (ob r #[.int .i64 (s : Int), rw_ y (k + 1) c] 86 :: rowS (rw_ y (k + 1) c) (List.replicate (k + 1) Z) :: Ls)) := ⟨E8.setCell 0 rfl 1 _⟩
      exact ⟨⟨k + 1, _, hlt, (by rw [← HII.out]), E9⟩, (by rw [HII.out]; exact HM.out)⟩
    · have hke : k = n - s := Nat.le_antisymm hk (Nat.le_of_not_lt hlt)
      subst hke
      have hi := nlt2 s n hs
      go_wp2
      go_ret2
      exact ⟨r, rfl, v, E.out⟩
set_option maxRecDepth 100000 in
theorem refNew_bad (w : World) (n s : Int) (h : ¬ (4 ≤ s ∧ s < n)) : Calls Try.prog 26 #[.int .i64 n, .int .i64 s] w fun e w' => e = .returned (.tuple #[.pointer none, .int .i64 1]) ∧ w' = w := by
  by_cases h4 : s < 4
  · go_enter Try.func26, Try.ntmps26
    go_wp2
    go_ret2
    exact ⟨rfl, rfl⟩
  · have h5 : n ≤ s := by omega
    clear h
    go_enter Try.func26, Try.ntmps26
    go_wp2
    go_ret2
    exact ⟨rfl, rfl⟩
/-- what Open leaves -/
def OPost (w0 : World) (p s n : Nat) (G : List ByteArray) (rest : List (Th → Prop)) (Lq : Value) (er : Int) (w' : World) : Prop :=
  (∃ q st', Lq = pt q ∧ er = 0 ∧ EnvP w0 w' (lg q p s false :: dk p st' :: rest) ∧ OKst NN st' n s G) ∨ (∃ st', Lq = .pointer none ∧ er = 9 ∧ EnvP w0 w' (dk p st' :: rest) ∧ OFFst st' n (fun L => RecL NN L s G))
theorem open_post {p s n : Nat} {st : St} {G : List ByteArray} (h : EnvP w0 w (dk p st :: rest)) (ho : st.off = false) (hopn : st.opn = false) (hp : st.pend = []) (h4 : 4 ≤ s) (hn : st.safe.length = n) (hs : s < n) (hr : RecL NN st.safe s G) :
    Calls Try.prog 9 #[pt p, .int .i64 (s : Int)] w fun e w' => ∃ Lq er, e = .returned (.tuple #[Lq, .int .i64 er]) ∧ OPost w0 p s n G rest Lq er w' := by
  refine (open_rec h ho hopn hp h4 hn hs hr).mono ?_
  rintro e w' (⟨q, st', rfl, h1, ok, _⟩ | ⟨st', rfl, h1, off, _⟩)
  · exact ⟨_, _, rfl, .inl ⟨q, st', rfl, rfl, h1, ok⟩⟩
  · exact ⟨_, _, rfl, .inr ⟨st', rfl, rfl, h1, off⟩⟩
abbrev kpo (kp p r : Nat) (L M : Value) : Th → Prop := ob kp #[pt p, L, pt r, M] 63
abbrev rfo (r s : Nat) (v : Value) : Th → Prop := ob r #[.int .i64 (s : Int), v] 86
theorem kcell {pre : List (Th → Prop)} {kp p r s : Nat} {L M v : Value} (i : Nat) (h : EnvP w0 w Ls) (hi : Ls[i]? = some (kpo kp p r L M)) (hj : Ls[i + 1]? = some (rfo r s v)) : w.cell? ⟨kp, 0, none⟩ = some (pt p) ∧ w.cell? ⟨kp, 2, none⟩ = some (pt r) ∧ w.cell? ⟨r, 0, none⟩ = some (.int .i64 (s : Int)) := ⟨h.cell i hi 0, h.cell i hi 2, h.cell (i + 1) hj 0⟩
theorem OPost.cells {p s n kp r : Nat} {G : List ByteArray} {L M v : Value} {rest : List (Th → Prop)} {Lq : Value} {er : Int} (h : OPost w0 p s n G (kpo kp p r L M :: rfo r s v :: rest) Lq er w) : w.cell? ⟨kp, 0, none⟩ = some (pt p) ∧ w.cell? ⟨kp, 2, none⟩ = some (pt r) ∧ w.cell? ⟨r, 0, none⟩ = some (.int .i64 (s : Int)) := by
  rcases h with ⟨q, st', _, _, h, _⟩ | ⟨st', _, _, h, _⟩
  · exact kcell (pre := []) 2 h rfl rfl
  · exact kcell (pre := []) 1 h rfl rfl
theorem EnvP.canon {a b g k r x y : Th → Prop} (h : EnvP w0 w [a, b, g, k, r, x, y]) : EnvP w0 w [a, b, k, r, g] := by
  refine h.remap (fun i => match i with | 0 => 0 | 1 => 1 | 2 => 3 | 3 => 4 | _ => 2) ?_ ?_
  · intro i s hi
    match i with
    | 0 => exact hi
    | 1 => exact hi
    | 2 => exact hi
    | 3 => exact hi
    | 4 => exact hi
    | i + 5 => simp at hi
  · intro i j hi hj e
    simp at hi hj
    match i, j with
    | 0, 0 => rfl
    | 1, 1 => rfl
    | 2, 2 => rfl
    | 3, 3 => rfl
    | 4, 4 => rfl
    | 0, 1 => simp at e
    | 0, 2 => simp at e
    | 0, 3 => simp at e
    | 0, 4 => simp at e
    | 1, 0 => simp at e
    | 1, 2 => simp at e
    | 1, 3 => simp at e
    | 1, 4 => simp at e
    | 2, 0 => simp at e
    | 2, 1 => simp at e
    | 2, 3 => simp at e
    | 2, 4 => simp at e
    | 3, 0 => simp at e
    | 3, 1 => simp at e
    | 3, 2 => simp at e
    | 3, 4 => simp at e
    | 4, 0 => simp at e
    | 4, 1 => simp at e
    | 4, 2 => simp at e
    | 4, 3 => simp at e
    | i + 5, _ => omega
    | _, j + 5 => omega
end Go.Proofs.Ytmcdohpeibipkaa
