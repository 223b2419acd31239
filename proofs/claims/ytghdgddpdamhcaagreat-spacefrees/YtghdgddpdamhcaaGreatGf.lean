import Derived.Test.YtghdgddpdamhcaaGreatGe
import Derived.Test.YtghdgddpdamhcaaGreatNew
import Derived.Test.YtghdgddpdamhcaaGreatGa
/- Free. -/
namespace Go.Proofs.YtghdgddpdamhcaaGreat
set_option linter.unusedVariables false
set_option linter.unusedSimpArgs false
open Go.RowKit Go.Maps
variable {w0 w w' : World} {q p n x sb first : Nat} {W : Wl} {o : Bool} {B : List ByteArray} {X Y : List (Th → Prop)}
/-- may all of these be freed, as far as their numbers tell? -/
def fgood (a m : Nat) (S : List Int) : Prop := ∀ i, i < S.length → (a : Int) ≤ S.getD i 0 ∧ S.getD i 0 < (m : Int) ∧ (0 < i → S.getD i 0 ≠ S.getD (i - 1) 0)
def nats (S : List Int) : List Nat := S.map Int.toNat
theorem srt_sorted (zs : List Int) : (srt zs).Pairwise (· ≤ ·) := by
  have := List.pairwise_mergeSort (le := fun x y : Int => decide (x ≤ y)) (fun a b c h1 h2 => by have := of_decide_eq_true h1; have := of_decide_eq_true h2; exact decide_eq_true (by omega)) (fun a b => by simp; omega) zs
  exact this.imp (fun h => of_decide_eq_true h)
theorem getD_of {S : List Int} {i : Nat} (h : i < S.length) : S.getD i 0 = S[i] := by rw [List.getD_eq_getElem?_getD, List.getElem?_eq_getElem h]; rfl
theorem fgood_rise {a m : Nat} {zs : List Int} (h : fgood a m (srt zs)) : (srt zs).Pairwise (· < ·) := by
  have hs := srt_sorted zs
  generalize srt zs = S at *
  have adj : ∀ i, i + 1 < S.length → S.getD i 0 < S.getD (i + 1) 0 := fun i hi => by
    have h1 := (h (i + 1) hi).2.2 (Nat.succ_pos i)
    have h2 : S[i] ≤ S[i + 1] := (List.pairwise_iff_getElem.1 hs) i (i + 1) (by omega) hi (by omega)
    rw [← getD_of (by omega), ← getD_of hi] at h2
    rw [Nat.add_sub_cancel] at h1
    omega
  have key : ∀ j i, i < j → j < S.length → S.getD i 0 < S.getD j 0 := by
    intro j
    induction j with
    | zero => intro i hi; omega
    | succ j ih =>
      intro i hi hj
      have h1 := adj j hj
      by_cases e : i = j
      · rw [e]; exact h1
      · have h0 := ih i (by omega) (by omega)
        omega
  rw [List.pairwise_iff_getElem]
  intro i j hi hj hij
  have := key j i hij hj
  rw [getD_of hi, getD_of hj] at this
  exact this
theorem fgood_mem {a m : Nat} {S : List Int} (h : fgood a m S) {z : Int} (hz : z ∈ S) : (a : Int) ≤ z ∧ z < (m : Int) := by
  obtain ⟨i, hi, rfl⟩ := List.getElem_of_mem hz
  have := h i hi
  rw [getD_of hi] at this
  exact ⟨this.1, this.2.1⟩
theorem nats_len (S : List Int) : (nats S).length = S.length := List.length_map ..
theorem nats_get {S : List Int} (h : ∀ z ∈ S, 0 ≤ z) {j : Nat} (hj : j < S.length) : (((nats S).getD j 0 : Nat) : Int) = S.getD j 0 := by
  have h1 := h S[j] (List.getElem_mem hj)
  unfold nats
  rw [List.getD_eq_getElem?_getD, List.getElem?_map, List.getElem?_eq_getElem hj, getD_of hj]
  simp; omega
theorem nats_rise {S : List Int} (h0 : ∀ z ∈ S, 0 ≤ z) (h : S.Pairwise (· < ·)) : (nats S).Pairwise (· < ·) := by
  unfold nats
  rw [List.pairwise_map]
  refine List.Pairwise.imp_of_mem ?_ h
  intro a b ha hb hab
  have := h0 a ha; have := h0 b hb; omega
set_option maxRecDepth 100000 in
theorem SS.freeOver (h : SS w0 w q p n x sb first W true B X) (v : Value) : Calls Tryz.prog 15 #[pt sb, v] w fun e w' => e = .returned (.int .i64 8) ∧ SS w0 w' q p n x sb first W true B X := by
  have H : Hid (SS w0 w q p n x sb first W true B X) := ⟨h⟩
  clear h
  go_enter Tryz.func15, Tryz.ntmps15
  go_wp2_with fail
  refine H.out.over'.mono ?_
  rintro e w2 ⟨rfl, h2⟩
  dsimp only
  go_wp2
  go_ret
  exact ⟨rfl, h2⟩
def FP (w0 w' : World) (q p n x sb first : Nat) (W : Wl) (B : List ByteArray) (X : List (Th → Prop)) (zs : List Int) (e : Ending) : Prop :=
  (zs = [] ∧ e = .returned (.int .i64 0) ∧ SS w0 w' q p n x sb first W false B X) ∨
  (zs ≠ [] ∧ fgood (first + 1) (n - 24) (srt zs) ∧ allB (cur W B first) true (nats (srt zs)) = true ∧ e = .returned (.int .i64 0) ∧ SS w0 w' q p n x sb first (insW first (flipA (cur W B first) (nats (srt zs))) W) false B X) ∨
  (¬ (fgood (first + 1) (n - 24) (srt zs) ∧ allB (cur W B first) true (nats (srt zs)) = true) ∧ e = .returned (.int .i64 1) ∧ SS w0 w' q p n x sb first W false B X)
set_option maxRecDepth 100000 in
theorem SS.freeL (h : SS w0 w q p n x sb first W false B X) (hf : first + 1 ≤ n - 24) (a : Option Addr) (cap : Nat) (zs : List Int) (hN : zs.length ≤ 4096)
    (hcs : ∀ w1, SS w0 w1 q p n x sb first W false B X → ∀ j, j < zs.length → ∃ b off, a = some ⟨b, off, none⟩ ∧ b < w1.heap.size ∧ w1.cell? ⟨b, off + j, none⟩ = some (.int .i64 (zs.getD j 0))) :
    Calls Tryz.prog 15 #[pt sb, .slice a zs.length cap] w fun e w' => FP w0 w' q p n x sb first W B X zs e := by
  have hn := h.nn
  have H : Hid (SS w0 w q p n x sb first W false B X) := ⟨h⟩
  have HC : Hid (∀ w1, SS w0 w1 q p n x sb first W false B X → ∀ j, j < zs.length → ∃ b off, a = some ⟨b, off, none⟩ ∧ b < w1.heap.size ∧ w1.cell? ⟨b, off + j, none⟩ = some (.int .i64 (zs.getD j 0))) := ⟨hcs⟩
  clear h hcs
  go_enter Tryz.func15, Tryz.ntmps15
  go_wp2_with fail
  refine H.out.over'.mono ?_
  rintro e w2 ⟨rfl, h2⟩
  have qV := values_any a zs.length cap w2
  have qS := sorted_vals a cap zs (by omega) w2 (HC.out w2 h2)
  have H2 : Hid (SS w0 w2 q p n x sb first W false B X) := ⟨h2⟩
  clear h2 H HC
  dsimp only
  go_wp2_with fail
  refine qV.mono ?_
  rintro e w3 ⟨rfl, rfl⟩
  dsimp only
  go_wp2_with fail
  refine qS.mono ?_
  rintro e w4 ⟨v4, rfl, o4, b4⟩
  have e4 : (srt zs).length = zs.length := srt_len zs
  have h4 : SS w0 w4 q p n x sb first W false B (X ++ [rowI v4 (srt zs)]) := H2.out.pushI b4 (by rw [e4]; exact ownsRow_base_a (base' := 0) o4 (Nat.zero_le _)) (fun k hk => (o4.lt k hk).1)
  have H4 : Hid (SS w0 w4 q p n x sb first W false B (X ++ [rowI v4 (srt zs)])) := ⟨h4⟩
  obtain ⟨va, vc, rfl⟩ := own_slice o4
  have HLc : Hid (zs.length ≤ vc ∨ zs = []) := ⟨by
    rcases o4.2 with ⟨_, h0⟩ | ⟨g', cap', cur', e, _, _, hle, _⟩
    · exact .inr (List.eq_nil_of_length_eq_zero h0)
    · injection e with _ _ e3; subst e3; exact .inl hle⟩
  have HG : Hid (∀ w1, SS w0 w1 q p n x sb first W false B (X ++ [rowI (.slice va zs.length vc) (srt zs)]) → ∀ j, j < zs.length → ∃ g, va = some ⟨g, 0, none⟩ ∧ g < w1.heap.size ∧ w1.cell? ⟨g, j, none⟩ = some (.int .i64 ((srt zs).getD j 0))) := ⟨fun w1 hh j hj => by
    obtain ⟨st, E, r⟩ := hh
    have ho := E.rowAt (X.length + 4) (v := .slice va zs.length vc) (zs := srt zs) (by simp)
    rw [e4] at ho
    rcases ho.2 with ⟨_, h0⟩ | ⟨g, cap', cur', e, _⟩
    · omega
    · injection e with e1 e2 e3
      subst e1
      have hc := ho.cellAt j (by omega)
      refine ⟨g, rfl, (ho.lt g rfl).2, ?_⟩
      rw [hc]
      simp [List.getElem?_map, List.getElem?_eq_getElem (show j < (srt zs).length by omega), List.getD_eq_getElem?_getD]⟩
  clear qV qS o4 b4 h4 H2
  dsimp only
  go_wp2
  go_loopw [15] (fun i wr => ∃ k : Nat, k ≤ zs.length ∧ i = .int .i64 (k : Int) ∧ Hid (SS w0 wr q p n x sb first W false B (X ++ [rowI (.slice va zs.length vc) (srt zs)])) ∧ Hid (∀ i, i < k → ((first + 1 : Nat) : Int) ≤ (srt zs).getD i 0 ∧ (srt zs).getD i 0 < ((n - 24 : Nat) : Int) ∧ (0 < i → (srt zs).getD i 0 ≠ (srt zs).getD (i - 1) 0))) (fun i _ => zs.length - (intOf i).toNat)
  case atStart => exact ⟨0, Nat.zero_le _, rfl, H4, ⟨fun i hi => by omega⟩⟩
  case round =>
    obtain ⟨k, hk, rfl, H5, HK⟩ := hrel
    clear H4
    by_cases hlt : k < zs.length
    · obtain ⟨g, rfl, hg, ck⟩ := HG.out _ H5.out k hlt
      have hki : (k : Int) < (zs.length : Int) := by omega
      have HN : Hid (∀ (hx : ¬ (((first + 1 : Nat) : Int) ≤ (srt zs).getD k 0 ∧ (srt zs).getD k 0 < ((n - 24 : Nat) : Int) ∧ (0 < k → (srt zs).getD k 0 ≠ (srt zs).getD (k - 1) 0))) w1, SS w0 w1 q p n x sb first W false B (X ++ [rowI (.slice (some ⟨g, 0, none⟩) zs.length vc) (srt zs)]) → FP w0 w1 q p n x sb first W B X zs (.returned (.int .i64 1))) := ⟨fun hx w1 hh => .inr (.inr ⟨fun hy => hx (hy.1 k (by omega)), rfl, hh.init⟩)⟩
      have HY : Hid (((first + 1 : Nat) : Int) ≤ (srt zs).getD k 0 ∧ (srt zs).getD k 0 < ((n - 24 : Nat) : Int) ∧ (0 < k → (srt zs).getD k 0 ≠ (srt zs).getD (k - 1) 0) → ∀ i, i < k + 1 → ((first + 1 : Nat) : Int) ≤ (srt zs).getD i 0 ∧ (srt zs).getD i 0 < ((n - 24 : Nat) : Int) ∧ (0 < i → (srt zs).getD i 0 ≠ (srt zs).getD (i - 1) 0)) := ⟨fun hx i hi => by
        by_cases e : i = k
        · rw [e]; exact hx
        · exact HK.out i (by omega)⟩
      have HP : Hid (∀ w1, SS w0 w1 q p n x sb first W false B (X ++ [rowI (.slice (some ⟨g, 0, none⟩) zs.length vc) (srt zs)]) → 0 < k → w1.cell? ⟨g, k - 1, none⟩ = some (.int .i64 ((srt zs).getD (k - 1) 0))) := ⟨fun w1 hh hk0 => by
        obtain ⟨g', e, _, h3⟩ := HG.out w1 hh (k - 1) (by omega)
        cases e; exact h3⟩
      clear HG HK hg
      generalize (srt zs).getD k 0 = z at *
      generalize (srt zs).getD (k - 1) 0 = y at *
      have hf4 : first < 4000 := by omega
      go_wp2_with fail
      refine (H5.out.kept' hf4).mono ?_
      rintro e w6 ⟨rfl, h6⟩
      have H6 : Hid (SS w0 w6 q p n x sb first W false B (X ++ [rowI (.slice (some ⟨g, 0, none⟩) zs.length vc) (srt zs)])) := ⟨h6⟩
      have c0 := h6.c0
      clear h6 H5 ck
      dsimp only
      by_cases h1 : z < ((first + 1 : Nat) : Int)
      · have R := HN.out (by omega) w6 H6.out
        generalize ((first + 1 : Nat) : Int) = F1 at *
        go_wp2
        go_ret
        exact R
      · have hge : ((first + 1 : Nat) : Int) ≤ z := by omega
        have HT := H6.out.tblocks'
        by_cases h2 : ((n - 24 : Nat) : Int) ≤ z
        · have HN2 : Hid (∀ w1, SS w0 w1 q p n x sb first W false B (X ++ [rowI (.slice (some ⟨g, 0, none⟩) zs.length vc) (srt zs)]) → FP w0 w1 q p n x sb first W B X zs (.returned (.int .i64 1))) := ⟨HN.out (by omega)⟩
          clear HN HY HP
          generalize ((first + 1 : Nat) : Int) = F1 at *
          generalize ((n - 24 : Nat) : Int) = F2 at *
          go_wp2_with fail
          refine HT.mono ?_
          rintro e w7 ⟨rfl, h7⟩
          have R := HN2.out w7 h7
          dsimp only
          go_wp2
          go_ret
          exact R
        · have hlt2 : z < ((n - 24 : Nat) : Int) := by omega
          by_cases h3 : 0 < k
          · have h3i : (0 : Int) < (k : Int) := by omega
            have hsb : wrap64 ((k : Int) - 1) = ((k - 1 : Nat) : Int) := by unfold wrap64; omega
            have hsb2 : (k : Int) - 1 = ((k - 1 : Nat) : Int) := by omega
            have hil : ((k - 1 : Nat) : Int) < (zs.length : Int) := by omega
            by_cases h4 : z = y
            · have HN2 : Hid (∀ w1, SS w0 w1 q p n x sb first W false B (X ++ [rowI (.slice (some ⟨g, 0, none⟩) zs.length vc) (srt zs)]) → FP w0 w1 q p n x sb first W B X zs (.returned (.int .i64 1))) := ⟨HN.out (fun hx => hx.2.2 h3 h4)⟩
              clear HN HY
              generalize ((first + 1 : Nat) : Int) = F1 at *
              generalize ((n - 24 : Nat) : Int) = F2 at *
              go_wp2_with fail
              refine HT.mono ?_
              rintro e w7 ⟨rfl, h7⟩
              have R := HN2.out w7 h7
              have cp := HP.out w7 h7 h3
              clear HP
              dsimp only
              go_wp2
              go_ret
              exact R
            · have HY2 := HY.out ⟨hge, hlt2, fun _ => h4⟩
              have HY3 : Hid (∀ i, i < k + 1 → ((first + 1 : Nat) : Int) ≤ (srt zs).getD i 0 ∧ (srt zs).getD i 0 < ((n - 24 : Nat) : Int) ∧ (0 < i → (srt zs).getD i 0 ≠ (srt zs).getD (i - 1) 0)) := ⟨HY2⟩
              have h4b : (z == y) = false := by rw [beq_eq_false_iff_ne]; exact h4
              clear HN HY HY2 h4
              go_wp2_with fail
              refine HT.mono ?_
              rintro e w7 ⟨rfl, h7⟩
              have H7 : Hid (SS w0 w7 q p n x sb first W false B (X ++ [rowI (.slice (some ⟨g, 0, none⟩) zs.length vc) (srt zs)])) := ⟨h7⟩
              have cp := HP.out w7 h7 h3
              clear HP h7
              dsimp only
              go_wp2
              go_roundw
              case rel => exact ⟨k + 1, by omega, by go_num, H7, HY3⟩
              case measure => simp [intOf]; omega
          · obtain rfl : k = 0 := by omega
            have HY2 := HY.out ⟨hge, hlt2, fun h => absurd h h3⟩
            have HY3 : Hid (∀ i, i < 0 + 1 → ((first + 1 : Nat) : Int) ≤ (srt zs).getD i 0 ∧ (srt zs).getD i 0 < ((n - 24 : Nat) : Int) ∧ (0 < i → (srt zs).getD i 0 ≠ (srt zs).getD (i - 1) 0)) := ⟨HY2⟩
            clear HN HY HY2 HP
            go_wp2_with fail
            refine HT.mono ?_
            rintro e w7 ⟨rfl, h7⟩
            have H7 : Hid (SS w0 w7 q p n x sb first W false B (X ++ [rowI (.slice (some ⟨g, 0, none⟩) zs.length vc) (srt zs)])) := ⟨h7⟩
            clear h7
            dsimp only
            go_wp2
            go_roundw
            case rel => exact ⟨0 + 1, by omega, by go_num, H7, HY3⟩
            case measure => simp [intOf]; omega
    · obtain rfl : k = zs.length := by omega
      clear hk hlt
      have hgood : fgood (first + 1) (n - 24) (srt zs) := fun i hi => HK.out i (by omega)
      by_cases hz : zs = []
      · subst hz
        have q1 := H5.out.turn0 va vc true
        clear HG HK hgood
        have hll : (([] : List Int).length : Int) = 0 := rfl
        go_wp2_with fail
        refine q1.mono ?_
        rintro e w7 ⟨rfl, h7⟩
        have R : FP w0 w7 q p n x sb first W B X [] (.returned (.int .i64 0)) := .inl ⟨rfl, rfl, h7.init⟩
        dsimp only
        go_wp2
        go_ret
        exact R
      · have hpos : 0 < zs.length := List.length_pos_iff.2 hz
        obtain ⟨g, rfl, _, _⟩ := HG.out _ H5.out 0 hpos
        have h0 : ∀ z ∈ srt zs, 0 ≤ z := fun z hzm => by have := (fgood_mem hgood hzm).1; omega
        have hnl : (nats (srt zs)).length = zs.length := by rw [nats_len, e4]
        have q1 := H5.out.turn1 hf g 0 vc (nats (srt zs)) true (fun e => by rw [e] at hnl; simp at hnl; omega) (by rw [hnl]; rcases HLc.out with h | h; exact h; exact absurd h hz) (by omega) (fun k hk => by
          obtain ⟨z, hzm, rfl⟩ := List.mem_map.1 hk
          have := fgood_mem hgood hzm; omega) (nats_rise h0 (fgood_rise hgood)) (fun w1 Y hh j hj => by
          obtain ⟨g', e, hb, hc⟩ := HG.out w1 hh.init j (by omega)
          cases e
          refine ⟨g, 0, rfl, hb, ?_⟩
          rw [show 0 + j = j by omega, nats_get h0 (by omega)]
          exact hc)
        rw [hnl] at q1
        have HGD : Hid (fgood (first + 1) (n - 24) (srt zs)) := ⟨hgood⟩
        have HZ : Hid (zs ≠ []) := ⟨hz⟩
        clear HG HK hgood h0 hnl hpos hz
        go_wp2_with fail
        refine q1.mono ?_
        rintro e w7 (⟨hA, rfl, h7⟩ | ⟨hA, rfl, h7⟩)
        · have R : FP w0 w7 q p n x sb first W B X zs (.returned (.int .i64 0)) := .inr (.inl ⟨HZ.out, HGD.out, hA, rfl, h7.init⟩)
          clear h7 q1
          dsimp only
          go_wp2
          go_ret
          exact R
        · have R : FP w0 w7 q p n x sb first W B X zs (.returned (.int .i64 1)) := .inr (.inr ⟨fun hx => by rw [hA] at hx; exact absurd hx.2 Bool.false_ne_true, rfl, h7.init⟩)
          clear h7 q1
          dsimp only
          go_wp2
          go_ret
          exact R
end Go.Proofs.YtghdgddpdamhcaaGreat

/- At, Make. -/
namespace Go.Proofs.YtghdgddpdamhcaaGreat
set_option linter.unusedVariables false
set_option linter.unusedSimpArgs false
open Go.RowKit Go.Maps
variable {w0 w w' : World} {q p n x sb first : Nat} {W : Wl} {o : Bool} {B : List ByteArray} {X Y : List (Th → Prop)}
/-- a log with its disk and a transaction, beside other things -/
def TS (w0 w : World) (q p n x : Nat) (W : Wl) (o : Bool) (B : List ByteArray) (X : List (Th → Prop)) : Prop :=
  ∃ st, EnvP w0 w (lg q p 24 false :: dk p st :: tx x q W o :: X) ∧ (OKst NN st n 24 B ∧ st.fall = 0) ∧ (24 < n ∧ n ≤ 4000) ∧ Rising W ∧ InB (n - 24) W
theorem TS.below (h : TS w0 w q p n x W o B X) (b : Below w.heap.size w w') : TS w0 w' q p n x W o B X := by
  obtain ⟨st, E, r⟩ := h; exact ⟨st, E.below b, r⟩
theorem TS.sp (h : TS w0 w q p n x W o B X) (first : Nat) : SS w0 (w.alloc (.cells #[pt x, .int .i64 (first : Int)] 73)) q p n x w.heap.size first W o B X := by
  obtain ⟨st, E, r⟩ := h
  exact ⟨st, (E.alloc #[pt x, .int .i64 (first : Int)] 73).perm ((((List.perm_append_singleton _ X).cons _).cons _).cons _), r⟩
theorem SS.ts (h : SS w0 w q p n x sb first W o B X) : TS w0 w q p n x W o B X := by
  obtain ⟨st, E, r⟩ := h
  have E2 := E.perm (l' := ob sb #[pt x, .int .i64 (first : Int)] 73 :: lg q p 24 false :: dk p st :: tx x q W o :: X) (by
    exact ((((List.Perm.swap _ _ X).cons _).cons _).trans ((List.Perm.swap _ _ _).cons _)).trans (List.Perm.swap _ _ _))
  exact ⟨st, E2.tail, r⟩
set_option maxRecDepth 100000 in
theorem over_e {Ls : List (Th → Prop)} (h : EnvP w0 w Ls) (i j : Nat) (v : Value) (hi : Ls[i]? = some (tx x q W o)) (hj : Ls[j]? = some (ob sb #[pt x, v] 73)) : Calls Tryz.prog 35 #[pt sb] w fun e w' => e = .returned (.bool o) ∧ ∃ k, w' = w.drewN k := by
  have c0 : w.cell? ⟨sb, 0, none⟩ = some (pt x) := h.cell j hj 0
  have qW : ∀ t, Calls Tryz.prog 16 #[pt x, .int .i64 (-1), t] w fun e w' => e = .returned (.int .i64 (if o then 8 else 1)) ∧ w' = w := fun t => twrite_neg h i hi t
  clear h
  cases o with
  | true =>
    go_enter Tryz.func35, Tryz.ntmps35
    go_wp2_with fail
    refine (qW _).mono ?_
    rintro e w1 ⟨rfl, rfl⟩
    dsimp only
    go_wp2
    go_ret
    exact ⟨rfl, 0, rfl⟩
  | false =>
    go_enter Tryz.func35, Tryz.ntmps35
    go_wp2_with fail
    refine (qW _).mono ?_
    rintro e w1 ⟨rfl, rfl⟩
    dsimp only
    go_wp2
    go_ret
    exact ⟨rfl, 0, rfl⟩
set_option maxRecDepth 100000 in
theorem TS.atNeg (h : TS w0 w q p n x W false B X) (z : Int) (hz : z < 0) : Calls Tryz.prog 20 #[pt x, .int .i64 z] w fun e w' => e = .returned (.tuple #[.pointer none, .int .i64 1]) ∧ TS w0 w' q p n x W false B X := by
  have qO : Calls Tryz.prog 35 #[pt w.heap.size] (w.alloc (.cells #[pt x, .int .i64 z] 73)) fun e w' => e = .returned (.bool false) ∧ ∃ k, w' = (w.alloc (.cells #[pt x, .int .i64 z] 73)).drewN k := by
    obtain ⟨st, E, r⟩ := h
    exact over_e (E.alloc #[pt x, .int .i64 z] 73) 2 (X.length + 3) (.int .i64 z) rfl (by simp)
  have H : Hid (∀ k, TS w0 ((w.alloc (.cells #[pt x, .int .i64 z] 73)).drewN k) q p n x W false B X) := ⟨fun k => h.below (below_drewN ((Below.refl _ _).alloc (Nat.le_refl _) _) k)⟩
  clear h
  go_enter Tryz.func20, Tryz.ntmps20
  go_wp2_with fail
  refine qO.mono ?_
  rintro e w1 ⟨rfl, k, rfl⟩
  dsimp only
  go_wp2
  go_ret2
  exact ⟨rfl, H.out k⟩
set_option maxRecDepth 100000 in
theorem TS.at (h : TS w0 w q p n x W false B X) (first : Nat) (hf : first ≤ 9000000000000000000) : Calls Tryz.prog 20 #[pt x, .int .i64 (first : Int)] w fun e w' => (n - 24 < first + 1 ∧ e = .returned (.tuple #[.pointer none, .int .i64 40]) ∧ TS w0 w' q p n x W false B X) ∨ (first + 1 ≤ n - 24 ∧ ∃ sb, e = .returned (.tuple #[pt sb, .int .i64 0]) ∧ SS w0 w' q p n x sb first W false B X) := by
  have h1 := h.sp first
  have hn := h1.nn
  have H1 : Hid (SS w0 (w.alloc (.cells #[pt x, .int .i64 (first : Int)] 73)) q p n x w.heap.size first W false B X) := ⟨h1⟩
  clear h h1
  have hf0 : ¬ (first : Int) < 0 := by omega
  go_enter Tryz.func20, Tryz.ntmps20
  go_wp2_with fail
  refine H1.out.over'.mono ?_
  rintro e w2 ⟨rfl, h2⟩
  have H2 : Hid (SS w0 w2 q p n x w.heap.size first W false B X) := ⟨h2⟩
  clear h2 H1
  generalize w.heap.size = sb at *
  dsimp only
  go_wp2_with fail
  have qB : Hid (∀ k, Calls Tryz.prog 36 #[pt x] (w2.drewN k) fun e w' => e = .returned (.int .i64 ((n - 24 : Nat) : Int)) ∧ ∃ k', w' = (w2.drewN k).drewN k') := ⟨fun k => (H2.out.drewN k).tblocks⟩
  have qP : Hid (∀ k, Calls Tryz.prog 47 #[pt sb] (w2.drewN k) fun e w' => e = .returned (.int .i64 1) ∧ ∃ k', w' = (w2.drewN k).drewN k') := ⟨fun k => (H2.out.drewN k).pages⟩
  have HE : Hid (∀ k, SS w0 (w2.drewN k) q p n x sb first W false B X) := ⟨fun k => H2.out.drewN k⟩
  have hw : IntKind.i64.wrap (((n - 24 : Nat) : Int) - 1) = ((n - 25 : Nat) : Int) := by rw [IntKind.wrap_i64]; omega
  clear H2
  by_cases hc : n - 24 < first + 1
  · have hc2 : ((n - 25 : Nat) : Int) < (first : Int) := by omega
    have HC : Hid (n - 24 < first + 1) := ⟨hc⟩
    clear hc
    generalize ((n - 24 : Nat) : Int) = M1 at *
    generalize ((n - 25 : Nat) : Int) = M2 at *
    refine (qB.out 0).mono ?_
    rintro e w3 ⟨rfl, k3, rfl⟩
    dsimp only
    go_wp2_with fail
    refine (qP.out k3).mono ?_
    rintro e w4 ⟨rfl, k4, rfl⟩
    dsimp only
    go_wp2
    go_ret2
    exact .inl ⟨HC.out, rfl, (HE.out (k3 + k4)).ts⟩
  · have hc2 : ¬ ((n - 25 : Nat) : Int) < (first : Int) := by omega
    have HC : Hid (first + 1 ≤ n - 24) := ⟨by omega⟩
    clear hc
    generalize ((n - 24 : Nat) : Int) = M1 at *
    generalize ((n - 25 : Nat) : Int) = M2 at *
    refine (qB.out 0).mono ?_
    rintro e w3 ⟨rfl, k3, rfl⟩
    dsimp only
    go_wp2_with fail
    refine (qP.out k3).mono ?_
    rintro e w4 ⟨rfl, k4, rfl⟩
    dsimp only
    go_wp2
    go_ret2
    exact .inr ⟨HC.out, _, rfl, HE.out (k3 + k4)⟩
set_option maxRecDepth 100000 in
theorem TS.mkNeg (h : TS w0 w q p n x W false B X) (z : Int) (hz : z < 0) : Calls Tryz.prog 27 #[pt x, .int .i64 z] w fun e w' => e = .returned (.tuple #[.pointer none, .int .i64 1]) ∧ TS w0 w' q p n x W false B X := by
  have qA := h.atNeg z hz
  clear h
  go_enter Tryz.func27, Tryz.ntmps27
  go_wp2_with fail
  refine qA.mono ?_
  rintro e w1 ⟨rfl, h1⟩
  have H1 : Hid (TS w0 w1 q p n x W false B X) := ⟨h1⟩
  clear h1 qA
  dsimp only
  go_wp2
  go_ret2
  exact ⟨rfl, H1.out⟩
set_option maxRecDepth 100000 in
theorem TS.mk (h : TS w0 w q p n x W false B X) (first : Nat) (hf : first ≤ 9000000000000000000) : Calls Tryz.prog 27 #[pt x, .int .i64 (first : Int)] w fun e w' => (n - 24 < first + 1 ∧ e = .returned (.tuple #[.pointer none, .int .i64 40]) ∧ TS w0 w' q p n x W false B X) ∨ (first + 1 ≤ n - 24 ∧ ∃ sb, e = .returned (.tuple #[pt sb, .int .i64 0]) ∧ SS w0 w' q p n x sb first (insW first (fl 0) W) false B X) := by
  have qA := h.at first hf
  clear h
  have hz : (⟨(Lib.repeatL (⟨#[0]⟩ : ByteArray).data.toList 512).toArray⟩ : ByteArray) = fl 0 := by
    show (⟨(Lib.repeatL [(0 : UInt8)] 512).toArray⟩ : ByteArray) = _
    rw [repeat_fl]; rfl
  go_enter Tryz.func27, Tryz.ntmps27
  go_wp2_with fail
  refine qA.mono ?_
  rintro e w1 (⟨hc, rfl, h1⟩ | ⟨hc, sb, rfl, h1⟩)
  · have H1 : Hid (TS w0 w1 q p n x W false B X) := ⟨h1⟩
    have HC : Hid (n - 24 < first + 1) := ⟨hc⟩
    clear h1 qA hc
    dsimp only
    go_wp2
    go_ret2
    exact .inl ⟨HC.out, rfl, H1.out⟩
  · have H1 : Hid (SS w0 w1 q p n x sb first W false B X) := ⟨h1⟩
    have HC : Hid (first + 1 ≤ n - 24) := ⟨hc⟩
    have hn := h1.nn
    have HL : Hid (∀ w1 g c1, SS w0 w1 q p n x sb first W false B (X ++ [rowW (rw_ g 1 c1) (ints [(first, fl 0)])]) → Calls Tryz.prog 53 #[pt sb, .slice (some ⟨g, 0, none⟩) 1 c1] w1 fun e w' => e = .returned (.int .i64 0) ∧ SS w0 w' q p n x sb first (insW first (fl 0) W) false B X) := ⟨fun w1 g c1 h1 => by
      refine (h1.lay1 g c1 first (by omega) (fl 0) (fl_size 0) (fun w2 h2 => h2.rowW1 (Y := []))).mono ?_
      rintro e w' ⟨rfl, h3⟩
      exact ⟨rfl, h3.init⟩⟩
    obtain ⟨z0, hz0⟩ : ∃ z, z = fl 0 := ⟨_, rfl⟩
    rw [← hz0] at hz HL
    have HZ : Hid (z0 = fl 0) := ⟨hz0⟩
    clear h1 qA hc hz0
    dsimp only
    go_wp2_with fail
    refine H1.out.pages'.mono ?_
    rintro e w2 ⟨rfl, h2⟩
    have H2 : Hid (SS w0 w2 q p n x sb first W false B X) := ⟨h2⟩
    clear h2 H1
    dsimp only
    go_wp2
    go_loopw [8, 22] (fun tu i wr => (i = .int .i64 0 ∧ tu = .slice none 0 0 ∧ Hid (SS w0 wr q p n x sb first W false B X)) ∨ (∃ g c1, i = .int .i64 1 ∧ tu = .slice (some ⟨g, 0, none⟩) 1 c1 ∧ Hid (SS w0 wr q p n x sb first W false B (X ++ [rowW (rw_ g 1 c1) (ints [(first, z0)])])))) (fun _ i _ => 1 - (intOf i).toNat)
    case atStart => exact .inl ⟨rfl, rfl, H2⟩
    case round =>
      rcases hrel with ⟨rfl, rfl, H3⟩ | ⟨g, c1, rfl, rfl, H3⟩
      · clear H2
        have hfw : wrap64 (first : Int) = (first : Int) := by unfold wrap64; omega
        go_wp2_with fail
        refine (Tryz.strings_Repeat ⟨#[0]⟩ 512 _ (by omega) (by show 1 * 512 ≤ _; omega)).mono ?_
        rintro e w4 ⟨rfl, b4⟩
        rw [hz]
        clear hz
        have H4 : Hid (SS w0 w4 q p n x sb first W false B X) := ⟨H3.out.below b4⟩
        clear b4 H3
        dsimp only
        go_wp2_with (at_builtin; refine app_write (v := .slice none 0 0) (g := w4.heap.size) (l := []) (i := (first : Int)) first rfl rfl rfl (World.ownsRow_nil _ _ _ _) (by decide) rfl _ _ rfl rfl rfl ?_; intro y2 c2 w8 q8 g8 n8)
        have hy : w4.heap.size ≤ y2 := by
          rcases n8 with n8 | n8
          · cases n8
          · exact n8
        have H8 : Hid (SS w0 w8 q p n x sb first W false B (X ++ [rowW (rw_ y2 1 c2) (ints [(first, z0)])])) := ⟨H4.out.pushW (l := ints [(first, z0)]) ((Below.refl _ _).grown g8 (Nat.le_refl _) (fun k e => by cases e)) (by rw [wci_ints, ints_length]; exact q8) (fun k e => by cases e; exact hy)⟩
        exact ⟨.inr ⟨y2, c2, rfl, rfl, H8⟩, by simp [intOf]⟩
      · have q1 := HL.out _ _ _ H3.out
        go_wp2_with fail
        refine q1.mono ?_
        rintro e w5 ⟨rfl, h5⟩
        rw [HZ.out] at h5
        have H5 : Hid (SS w0 w5 q p n x sb first (insW first (fl 0) W) false B X) := ⟨h5⟩
        clear h5 q1
        dsimp only
        go_wp2
        go_ret2
        exact .inr ⟨HC.out, sb, rfl, H5.out⟩
end Go.Proofs.YtghdgddpdamhcaaGreat

/- A space by what its bitmap says alone. -/
namespace Go.Proofs.YtghdgddpdamhcaaGreat
set_option linter.unusedVariables false
set_option linter.unusedSimpArgs false
open Go.RowKit Go.Maps
variable {w0 w w' : World} {q p n x sb first : Nat} {W : Wl} {o : Bool} {B : List ByteArray} {X Y : List (Th → Prop)} {T : ByteArray}
set_option maxRecDepth 100000 in
theorem SS.takeZero (h : SS w0 w q p n x sb first W false B X) (hf : first + 1 ≤ n - 24) : Calls Tryz.prog 13 #[pt sb, .int .i64 0] w fun e w' => e = .returned (.tuple #[.slice none 0 0, .int .i64 0]) ∧ SS w0 w' q p n x sb first W false B X := by
  have hn := h.nn
  have h1 := h.alloc #[.int .i64 0] 3
  have hz2 : ¬ ((n - 24 - (first + 1) : Nat) : Int) < 0 := by omega
  have H1 : Hid (SS w0 (w.alloc (.cells #[.int .i64 0] 3)) q p n x sb first W false B (X ++ [ob w.heap.size #[.int .i64 0] 3])) := ⟨h1⟩
  clear h h1
  go_enter Tryz.func13, Tryz.ntmps13
  go_wp2_with fail
  refine H1.out.over'.mono ?_
  rintro e w2 ⟨rfl, h2⟩
  have c2 : w2.cell? ⟨w.heap.size, 0, none⟩ = some (.int .i64 0) := h2.cellM (b := w.heap.size) (cs := #[.int .i64 0]) (ty := 3) (List.mem_append_right _ (by simp)) 0
  have H2 : Hid (SS w0 w2 q p n x sb first W false B (X ++ [ob w.heap.size #[.int .i64 0] 3])) := ⟨h2⟩
  clear h2 H1
  dsimp only
  go_wp2_with fail
  have c0 := H2.out.c0
  have qB : Hid (∀ k, Calls Tryz.prog 36 #[pt x] (w2.drewN k) fun e w' => e = .returned (.int .i64 ((n - 24 : Nat) : Int)) ∧ ∃ k', w' = (w2.drewN k).drewN k') := ⟨fun k => (H2.out.drewN k).tblocks⟩
  have qK : Hid (∀ k, Calls Tryz.prog 37 #[pt sb] (w2.drewN k) fun e w' => e = .returned (.int .i64 ((first + 1 : Nat) : Int)) ∧ ∃ k', w' = (w2.drewN k).drewN k') := ⟨fun k => (H2.out.drewN k).kept (by omega)⟩
  have hw : IntKind.i64.wrap (((n - 24 : Nat) : Int) - ((first + 1 : Nat) : Int)) = ((n - 24 - (first + 1) : Nat) : Int) := by rw [IntKind.wrap_i64]; omega
  generalize ((n - 24 - (first + 1) : Nat) : Int) = M at *
  generalize ((n - 24 : Nat) : Int) = M1 at *
  generalize ((first + 1 : Nat) : Int) = M2 at *
  go_quiet ((first | (go_at_call 36; exact Calls.quiet_of (qB.out _)) | (go_at_call 37; exact Calls.quiet_of (qK.out _))))
  have c3 : (w2.drewN nq).cell? ⟨w.heap.size, 0, none⟩ = some (.int .i64 0) := c2
  go_wp2
  go_ret2
  exact ⟨rfl, (H2.out.drewN _).init⟩
/-- a live space: what its bitmap says -/
def SU (w0 w : World) (q p n x sb first : Nat) (T : ByteArray) (X : List (Th → Prop)) : Prop := ∃ W B, SS w0 w q p n x sb first W false B X ∧ cur W B first = T ∧ first + 1 ≤ n - 24
theorem cur_ins {k : Nat} {t : ByteArray} (h : Rising W) : cur (insW k t W) B k = t := by unfold cur; rw [lookW_ins h, if_pos rfl]; rfl
theorem SS.ris (h : SS w0 w q p n x sb first W o B X) : Rising W := by obtain ⟨st, E, r⟩ := h; exact r.2.2.1
theorem insW_ris {k : Nat} {t : ByteArray} (h : Rising (insW k t W)) (hR : Rising W) : cur (insW k t W) B k = t := cur_ins hR
theorem SU.below (h : SU w0 w q p n x sb first T X) (b : Below w.heap.size w w') : SU w0 w' q p n x sb first T X := by
  obtain ⟨W, B, h1, r⟩ := h; exact ⟨W, B, h1.below b, r⟩
theorem SU.perm (h : SU w0 w q p n x sb first T X) (hp : List.Perm X Y) : SU w0 w q p n x sb first T Y := by
  obtain ⟨W, B, h1, r⟩ := h; exact ⟨W, B, h1.perm hp, r⟩
theorem SU.tail {s : Th → Prop} (h : SU w0 w q p n x sb first T (s :: X)) : SU w0 w q p n x sb first T X := by
  obtain ⟨W, B, h1, r⟩ := h; exact ⟨W, B, h1.tail, r⟩
theorem SU.init (h : SU w0 w q p n x sb first T (X ++ Y)) : SU w0 w q p n x sb first T X := by
  obtain ⟨W, B, h1, r⟩ := h; exact ⟨W, B, h1.init, r⟩
theorem SU.bel (h : SU w0 w q p n x sb first T X) : Below w0.heap.size w0 w := by
  obtain ⟨W, B, h1, r⟩ := h; exact h1.bel
theorem SU.sz (h : SU w0 w q p n x sb first T X) : T.size = 512 ∧ 24 < n ∧ n ≤ 4000 ∧ first + 1 ≤ n - 24 := by
  obtain ⟨W, B, h1, rfl, hf⟩ := h; exact ⟨h1.curSz first (by omega), h1.nn.1, h1.nn.2, hf⟩
theorem SU.left (h : SU w0 w q p n x sb first T X) : Calls Tryz.prog 12 #[pt sb] w fun e w' => e = .returned (.int .i64 (((frees T (first + 1) (n - 24)).length : Nat) : Int)) ∧ SU w0 w' q p n x sb first T X := by
  obtain ⟨W, B, h1, rfl, hf⟩ := h
  refine (h1.left hf).mono ?_
  rintro e w' ⟨rfl, h2⟩
  exact ⟨rfl, W, B, h2, rfl, hf⟩
theorem SU.used (h : SU w0 w q p n x sb first T X) (z : Int) : Calls Tryz.prog 14 #[pt sb, .int .i64 z] w fun e w' => e = .returned (.bool (usd (n - 24) first T z)) ∧ SU w0 w' q p n x sb first T X := by
  obtain ⟨W, B, h1, rfl, hf⟩ := h
  refine (h1.used hf z).mono ?_
  rintro e w' ⟨rfl, h2⟩
  exact ⟨rfl, W, B, h2, rfl, hf⟩
/-- what an Alloc answers, and what it leaves -/
def AP (w0 w' : World) (q p n x sb first : Nat) (T : ByteArray) (X : List (Th → Prop)) (z : Int) (e : Ending) : Prop :=
  (z < 0 ∧ e = .returned (.tuple #[.slice none 0 0, .int .i64 1]) ∧ SU w0 w' q p n x sb first T X) ∨
  ((((frees T (first + 1) (n - 24)).length : Nat) : Int) < z ∧ e = .returned (.tuple #[.slice none 0 0, .int .i64 40]) ∧ SU w0 w' q p n x sb first T X) ∨
  (z = 0 ∧ e = .returned (.tuple #[.slice none 0 0, .int .i64 0]) ∧ SU w0 w' q p n x sb first T X) ∨
  (∃ N g c : Nat, z = (N : Int) ∧ 1 ≤ N ∧ N ≤ (frees T (first + 1) (n - 24)).length ∧ N ≤ c ∧ e = .returned (.tuple #[.slice (some ⟨g, 0, none⟩) N c, .int .i64 0]) ∧ SU w0 w' q p n x sb first (flipA T ((frees T (first + 1) (n - 24)).take N)) (rowI (.slice (some ⟨g, 0, none⟩) N c) (ni ((frees T (first + 1) (n - 24)).take N)) :: X))
theorem SU.alloc (h : SU w0 w q p n x sb first T X) (z : Int) : Calls Tryz.prog 13 #[pt sb, .int .i64 z] w fun e w' => AP w0 w' q p n x sb first T X z e := by
  obtain ⟨W, B, h1, rfl, hf⟩ := h
  have hl := frees_len (cur W B first) (first + 1) (n - 24)
  by_cases c1 : z < 0
  · refine (h1.takeNeg z c1).mono ?_
    rintro e w' ⟨rfl, h2⟩
    exact .inl ⟨c1, rfl, W, B, h2, rfl, hf⟩
  · by_cases c2 : ((n - 24 - (first + 1) : Nat) : Int) < z
    · refine (h1.takeMore hf z c2).mono ?_
      rintro e w' ⟨rfl, h2⟩
      exact .inr (.inl ⟨by omega, rfl, W, B, h2, rfl, hf⟩)
    · by_cases c3 : z = 0
      · subst c3
        refine (h1.takeZero hf).mono ?_
        rintro e w' ⟨rfl, h2⟩
        exact .inr (.inr (.inl ⟨rfl, rfl, W, B, h2, rfl, hf⟩))
      · obtain ⟨N, rfl⟩ := Int.eq_ofNat_of_zero_le (by omega : 0 ≤ z)
        refine (h1.takeSome hf N (by omega) (by omega)).mono ?_
        rintro e w' (⟨hlt, rfl, h2⟩ | ⟨hle, g, c, rfl, hc, h2⟩)
        · exact .inr (.inl ⟨by omega, rfl, W, B, h2, rfl, hf⟩)
        · exact .inr (.inr (.inr ⟨N, g, c, rfl, by omega, hle, hc, rfl, _, B, h2, cur_ins h1.ris, hf⟩))
/-- what a Free answers, and what it leaves -/
def GP (w0 w' : World) (q p n x sb first : Nat) (T : ByteArray) (X : List (Th → Prop)) (zs : List Int) (e : Ending) : Prop :=
  ((fgood (first + 1) (n - 24) (srt zs) ∧ allB T true (nats (srt zs)) = true) ∧ e = .returned (.int .i64 0) ∧ SU w0 w' q p n x sb first (flipA T (nats (srt zs))) X) ∨
  (¬ (fgood (first + 1) (n - 24) (srt zs) ∧ allB T true (nats (srt zs)) = true) ∧ e = .returned (.int .i64 1) ∧ SU w0 w' q p n x sb first T X)
theorem SU.free (h : SU w0 w q p n x sb first T X) (a : Option Addr) (cap : Nat) (zs : List Int) (hN : zs.length ≤ 4096)
    (hcs : ∀ w1, SU w0 w1 q p n x sb first T X → ∀ j, j < zs.length → ∃ b off, a = some ⟨b, off, none⟩ ∧ b < w1.heap.size ∧ w1.cell? ⟨b, off + j, none⟩ = some (.int .i64 (zs.getD j 0))) :
    Calls Tryz.prog 15 #[pt sb, .slice a zs.length cap] w fun e w' => GP w0 w' q p n x sb first T X zs e := by
  obtain ⟨W, B, h1, rfl, hf⟩ := h
  refine (h1.freeL hf a cap zs hN (fun w1 hh => hcs w1 ⟨W, B, hh, rfl, hf⟩)).mono ?_
  rintro e w' (⟨rfl, rfl, h2⟩ | ⟨_, hg, ha, rfl, h2⟩ | ⟨hx, rfl, h2⟩)
  · refine .inl ⟨⟨fun i hi => by rw [srt_len] at hi; simp at hi, ?_⟩, rfl, W, B, h2, ?_, hf⟩
    · have e : srt [] = [] := List.eq_nil_of_length_eq_zero (srt_len [])
      rw [e]; rfl
    · have e : srt [] = [] := List.eq_nil_of_length_eq_zero (srt_len [])
      rw [e]; rfl
  · exact .inl ⟨⟨hg, ha⟩, rfl, _, B, h2, cur_ins h1.ris, hf⟩
  · exact .inr ⟨hx, rfl, W, B, h2, rfl, hf⟩
end Go.Proofs.YtghdgddpdamhcaaGreat
