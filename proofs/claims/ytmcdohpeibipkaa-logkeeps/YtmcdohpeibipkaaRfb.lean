/- The document's log: Sure, Read, With, New. -/
import Derived.Test.YtmcdohpeibipkaaCraW
namespace Go.Proofs.Ytmcdohpeibipkaa
set_option linter.unusedVariables false
set_option linter.unusedSimpArgs false
open Go.RowKit
theorem sureb (k s : Nat) (h4 : 4 ≤ s) : decide ((k : Int) ≤ ((s : Int) - 2) / 2) = decide (k ≤ (s - 2) / 2) := by rw [decide_eq_decide]; omega
set_option maxRecDepth 100000 in
theorem sure_any (w : World) (r s : Nat) (h4 : 4 ≤ s) (hs : s ≤ 8192) (c0 : w.cell? ⟨r, 0, none⟩ = some (.int .i64 (s : Int))) (a : Option Addr) (k cap : Nat) :
    Calls Try.prog 69 #[pt r, .slice a k cap] w fun e w' => e = .returned (.bool (decide (k ≤ (s - 2) / 2))) ∧ w' = w := by
  have H : Hid (decide ((k : Int) ≤ ((s : Int) - 2) / 2) = decide (k ≤ (s - 2) / 2)) := ⟨sureb k s h4⟩
  go_enter Try.func69, Try.ntmps69
  go_wp2
  go_ret
  exact ⟨by rw [← H.out]; rfl, rfl⟩
set_option maxRecDepth 100000 in
theorem refRead_any (w : World) (r gB cB : Nat) (B : List ByteArray) (c1 : w.cell? ⟨r, 1, none⟩ = some (rw_ gB B.length cB)) (hin : SIn w (some ⟨gB, 0, none⟩) B) (n : Int) :
    Calls Try.prog 49 #[pt r, .int .i64 n] w fun e w' => e = .returned (if 0 ≤ n ∧ n < B.length then .tuple #[.string (B.getD n.toNat ByteArray.empty), .int .i64 0] else .tuple #[.string ⟨#[]⟩, .int .i64 1]) ∧ w' = w := by
  by_cases hn : 0 ≤ n ∧ n < B.length
  · rw [if_pos hn]
    obtain ⟨N, rfl⟩ : ∃ N : Nat, n = (N : Int) := ⟨n.toNat, by omega⟩
    obtain ⟨t, ht⟩ : ∃ t, B[N]? = some t := ⟨_, List.getElem?_eq_getElem (by omega)⟩
    obtain ⟨b, off, e, ct⟩ := hin N t ht
    injection e with e
    injection e with e1 e2
    subst e1 e2
    rw [Nat.zero_add] at ct
    have hg : B.getD ((N : Int).toNat) ByteArray.empty = t := by rw [Int.toNat_natCast, List.getD_eq_getElem?_getD, ht]; rfl
    rw [hg]
    have h1 : ¬ ((N : Int) < 0) := by omega
    have h2 : (N : Int) < B.length := hn.2
    clear hn hin ht hg
    go_enter Try.func49, Try.ntmps49
    go_wp2
    go_ret2
    exact ⟨rfl, rfl⟩
  · rw [if_neg hn]
    by_cases h0 : n < 0
    · clear hn
      go_enter Try.func49, Try.ntmps49
      go_wp2
      go_ret2
      exact ⟨rfl, rfl⟩
    · have h2 : (B.length : Int) ≤ n := by omega
      clear hn
      go_enter Try.func49, Try.ntmps49
      go_wp2
      go_ret2
      exact ⟨rfl, rfl⟩
set_option maxRecDepth 100000 in
theorem with_any (w : World) (r gB cB nb : Nat) (B : List ByteArray) (hnb : B.length = nb) (hn0 : 0 < nb) (hn8 : nb ≤ 8192) (c1 : w.cell? ⟨r, 1, none⟩ = some (rw_ gB nb cB)) (hB : SIn w (some ⟨gB, 0, none⟩) B) (a : Option Addr) (cap : Nat) (l : Il) (k : Nat) (hk : l.length = k) (hk2 : k ≤ 20000000000000) (hin : WIn w a l) (hr : rightB nb l = true) :
    Calls Try.prog 68 #[pt r, .slice a k cap] w fun e w' => ∃ y c, e = .returned (rw_ y nb c) ∧ w'.ownsRow 0 9 1 (rw_ y nb c) nb (strv (lay B (natL l))) ∧ Below w.heap.size w w' ∧ w.heap.size ≤ y := by
  have HI : Hid (WIn w a l) := ⟨hin⟩
  have HS : Hid (SIn w (some ⟨gB, 0, none⟩) B) := ⟨hB⟩
  have HL : Hid (l.length = k) := ⟨hk⟩
  have HNB : Hid (B.length = nb) := ⟨hnb⟩
  have HR : Hid (rightB nb l = true) := ⟨hr⟩
  have HN8 : Hid (nb < 9000000000000) := ⟨Nat.lt_of_le_of_lt hn8 (by decide)⟩
  clear hin hB hk hnb hr
  go_enter Try.func68, Try.ntmps68
  go_wp2_with (at_builtin; refine app_cs (l := B) (m := nb) HNB.out HS.out hn0 HN8.out rfl _ _ rfl rfl rfl ?_; intro y c w5 q5 b5 hy)
  have O5 : Hid (w5.ownsRow 0 9 1 (rw_ y nb c) nb (strv (lay B (natL (l.take 0))))) := ⟨q5⟩
  have B5 : Hid (Below w.heap.size w w5) := ⟨b5⟩
  have HY : Hid (w.heap.size ≤ y) := ⟨hy⟩
  clear q5 b5 hy
  go_loopw [6] (fun i wr => ∃ j : Nat, j ≤ k ∧ i = .int .i64 (j : Int) ∧ Hid (wr.ownsRow 0 9 1 (rw_ y nb c) nb (strv (lay B (natL (l.take j))))) ∧ Hid (Below w.heap.size w wr)) (fun i _ => k - (intOf i).toNat)
  case atStart => exact ⟨0, Nat.zero_le _, rfl, O5, B5⟩
  case round =>
    obtain ⟨j, hj, rfl, O, Bl⟩ := hrel
    clear O5 B5
    by_cases hjl : j < k
    · obtain ⟨⟨z, T⟩, hz⟩ : ∃ z, l[j]? = some z := ⟨_, List.getElem?_eq_getElem (by rw [HL.out]; exact hjl)⟩
      obtain ⟨b, off, rfl, cN, cT⟩ := (HI.out.below Bl.out) j _ hz
      simp only at cN cT
      have hzr : 0 ≤ z ∧ z < nb := by
        have h := HR.out
        unfold rightB at h
        rw [decide_eq_true_iff] at h
        have := (h.1 _ (List.mem_of_getElem? hz)).1
        simpa [okN] using this
      obtain ⟨N, rfl⟩ : ∃ N : Nat, z = (N : Int) := ⟨z.toNat, by omega⟩
      have hNn : N < nb := by omega
      have hNi : (N : Int) < nb := hzr.2
      have hls : (lay B (natL (l.take j))).length = nb := by rw [lay_length]; exact HNB.out
      obtain ⟨u0, hc0⟩ : ∃ v, wr.cell? ⟨y, N, none⟩ = some v := by
        rw [O.out.cellAt N (by omega), List.getElem?_eq_getElem (by rw [strv_length, hls]; exact hNn)]
        exact ⟨_, rfl⟩
      have f0 := O.out.frozenAt N
      have hst := lay_take B l j _ hz
      have O2 : Hid ((wr.setCell ⟨y, N, none⟩ (.string T)).ownsRow 0 9 1 (rw_ y nb c) nb (strv (lay B (natL (l.take (j + 1)))))) := ⟨by
        obtain ⟨o1, _⟩ := O.out.stored N (.string T)
        rw [strv_set] at o1
        rw [hst]; exact o1⟩
      have B2 : Hid (Below w.heap.size w (wr.setCell ⟨y, N, none⟩ (.string T))) := ⟨Bl.out.setCell HY.out _⟩
      have hji := ltk j _ hjl
      have hwj : wrap64 ((j : Int) + 1) = ((j + 1 : Nat) : Int) := by unfold wrap64; omega
      clear hz hzr hls hst O Bl
      go_wp2_with fail
      go_region
      all_goals
        go_wp2
        exact ⟨⟨j + 1, hjl, by go_num, ⟨O2.out⟩, ⟨below_drewN B2.out 1⟩⟩, meask j _ hjl⟩
    · have hje : j = k := Nat.le_antisymm hj (Nat.le_of_not_lt hjl)
      subst hje
      have hji := nlt j
      rw [show l.take j = l from by rw [← HL.out]; exact List.take_length] at O
      go_wp2
      go_ret
      exact ⟨y, c, rfl, O.out, Bl.out, HY.out⟩
end Go.Proofs.Ytmcdohpeibipkaa
