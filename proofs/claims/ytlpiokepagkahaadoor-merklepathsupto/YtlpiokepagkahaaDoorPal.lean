/- MerklePaths: paths and Holds at any numbers; the walk. -/
import Derived.Test.YtlpiokepagkahaaDoorLen
import Derived.Test.YtlpiokepagkahaaDoorSam
import Derived.Test.YtlpiokepagkahaaDoorRPth
import Derived.Test.YtlpiokepagkahaaDoorRHld
import Derived.Test.YtlpiokepagkahaaDoorFst
namespace Go.Proofs.YtlpiokepagkahaaDoor
set_option linter.unusedVariables false
set_option linter.unusedSimpArgs false
open Go.RowKit
noncomputable def pathI (n : Nat) (t : Nat → ByteArray) (i : Int) : List Hs := if 0 ≤ i ∧ i < n then pathOf n t i.toNat else []
def errI (n : Nat) (i : Int) : Int := if 0 ≤ i ∧ i < n then 0 else 1
theorem path_all {w : World} {a : Option Addr} {n : Nat} (i : Int) (cap : Nat) {t : Nat → ByteArray} (hK : KIn w) (hT : TextsIn w a n t) (hz : ∀ k, k < n → (t k).size ≤ 2097152) (hn : n ≤ 2097152) :
    Calls Tryd.prog 9 #[.slice a n cap, .int .i64 i] w fun e w' => ∃ v, e = .returned (.tuple #[v, .int .i64 (errI n i)]) ∧ w'.ownsRow w.heap.size 23 32 v (pathI n t i).length (flatL (pathI n t i)) ∧ Below w.heap.size w w' := by
  unfold pathI errI
  by_cases h : 0 ≤ i ∧ i < n
  · rw [if_pos h, if_pos h]
    have := path_in (i := i.toNat) cap hK hT (fun k hk => by have := hz k hk; omega) (by omega) (by omega)
    rwa [show ((i.toNat : Nat) : Int) = i by omega] at this
  · rw [if_neg h, if_neg h]
    refine (path_bad a n cap i w (by omega)).mono ?_
    rintro e w' ⟨rfl, rfl⟩
    exact ⟨_, rfl, World.ownsRow_nil _ _ _ _, Below.refl _ _⟩
theorem refPath_all {w : World} {a : Option Addr} {n : Nat} (i : Int) (cap : Nat) {t : Nat → ByteArray} (hK : KIn w) (hT : TextsIn w a n t) (hz : ∀ k, k < n → (t k).size ≤ 2097152) (hn : n ≤ 2097152) :
    Calls Tryd.prog 20 #[.slice a n cap, .int .i64 i] w fun e w' => ∃ v, e = .returned (.tuple #[v, .int .i64 (errI n i)]) ∧ w'.ownsRow w.heap.size 23 32 v (pathI n t i).length (flatL (pathI n t i)) ∧ Below w.heap.size w w' := by
  unfold pathI errI
  by_cases h : 0 ≤ i ∧ i < n
  · rw [if_pos h, if_pos h]
    have := refPath_in (i0 := i.toNat) cap hK hT hz hn (by omega)
    rwa [show ((i.toNat : Nat) : Int) = i by omega] at this
  · rw [if_neg h, if_neg h]
    refine (refPath_bad a n cap i w (by omega)).mono ?_
    rintro e w' ⟨rfl, rfl⟩
    exact ⟨_, rfl, World.ownsRow_nil _ _ _ _, Below.refl _ _⟩
noncomputable def toldI (r : Hs) (n i : Int) (s : ByteArray) (p : List Hs) : Bool := if 0 ≤ i ∧ i < n then told r n.toNat i.toNat (leaf s.data.toList) p else false
theorem holds_all (r : Hs) (n i : Int) (s : ByteArray) (a0 : Option Addr) (p0 : List Hs) (l0 cap0 : Nat) {w : World} (hK : KIn w) (hP : PathAt w a0 p0) (hs : s.size ≤ 2097152) (hn : n ≤ 9223372036854775807) (hl : l0 = p0.length) (hc : l0 ≤ cap0) (hc2 : cap0 ≤ 9223372036854775807) :
    Calls Tryd.prog 10 #[.agg (hv r).toArray, .int .i64 n, .int .i64 i, .string s, .slice a0 l0 cap0] w fun e w' => e = .returned (.bool (toldI r n i s p0)) ∧ Below w.heap.size w w' := by
  unfold toldI
  by_cases h : 0 ≤ i ∧ i < n
  · rw [if_pos h]
    have := holds_some r n.toNat i.toNat cap0 s a0 p0 w hK hP (by omega) (by omega) (by omega) (by omega) hc2
    rwa [show ((i.toNat : Nat) : Int) = i by omega, show ((n.toNat : Nat) : Int) = n by omega, ← hl] at this
  · rw [if_neg h]
    exact holds_bad r n i s _ w (by omega)
theorem refHolds_all (r : Hs) (n i : Int) (s : ByteArray) (a0 : Option Addr) (p0 : List Hs) (l0 cap0 : Nat) {w : World} (hK : KIn w) (hP : PathAt w a0 p0) (hs : s.size ≤ 2097152) (hn : n ≤ 9223372036854775807) (hl : l0 = p0.length) (hc : l0 ≤ 9223372036854775807) :
    Calls Tryd.prog 21 #[.agg (hv r).toArray, .int .i64 n, .int .i64 i, .string s, .slice a0 l0 cap0] w fun e w' => e = .returned (.bool (toldI r n i s p0)) ∧ Below w.heap.size w w' := by
  unfold toldI
  by_cases h : 0 ≤ i ∧ i < n
  · rw [if_pos h]
    have := refHolds_some r n.toNat i.toNat cap0 s a0 p0 w hK hP hs (by omega) (by omega) (by omega)
    rwa [show ((i.toNat : Nat) : Int) = i by omega, show ((n.toNat : Nat) : Int) = n by omega, ← hl] at this
  · rw [if_neg h]
    exact refHolds_bad r n i s _ w (by omega)
theorem own_tx2 {w : World} {base g n c : Nat} {t : Nat → ByteArray} {x : Value} (h : w.ownsRow base 9 1 (.slice (some ⟨g, 0, none⟩) (n + 1) c) (n + 1) (strL t n ++ [x])) : TextsIn w (some ⟨g, 0, none⟩) n t := fun k hk =>
  ⟨g, 0, rfl, by rw [Nat.zero_add, h.cellAt k (by omega), List.getElem?_append_left (by rw [strL_length]; exact hk), strL_get t n k hk]⟩
theorem path_news {w : World} {b off : Nat} : ∀ {l : List Hs}, (∀ k x, l[k]? = some x → w.rangeAt b (off + k * 32) (hv x)) → ∀ j u, (flatL l)[j]? = some u → w.cell? ((⟨b, off, none⟩ : Addr).add j) = some u := @fun l h j u hu => by
  have hj : j < l.length * 32 := by have := (List.getElem?_eq_some_iff.1 hu).1; rw [flatL_length] at this; exact this
  have hk : j / 32 < l.length := by omega
  have e : j = j / 32 * 32 + j % 32 := by omega
  have hx := List.getElem?_eq_getElem hk
  have h1 := flatL_get l (j / 32) (j % 32) _ hx (by omega)
  rw [← e, hu] at h1
  have := h (j / 32) _ hx (j % 32) u h1.symm
  rw [Addr.add_mid]
  rw [show off + j / 32 * 32 + j % 32 = off + j by omega] at this
  exact this
namespace merklePaths
attribute [local go_sem ↓] Go.wp_at_zero Go.wp_at_succ
attribute [local go_sem ↓] ld23 st23
attribute [local go_sem] eqH
structure PB (w : World) (Mb : Nat) (r : Hs) (w' : World) : Prop where
  k : KIn w'
  bel : Below w.heap.size w w'
  rr : w'.rangeAt Mb 0 (hv r)
theorem PB.next {w w2 w3 : World} {Mb : Nat} {r : Hs} (h : PB w Mb r w2) (bq : Below w2.heap.size w2 w3) : PB w Mb r w3 := ⟨h.k.seq bq, below_seq h.bel bq, rangeNext h.rr bq⟩
theorem PB.drew {w w2 : World} {Mb : Nat} {r : Hs} (h : PB w Mb r w2) : PB w Mb r w2.drew := h.next ((Below.refl _ _).drew)
set_option maxHeartbeats 1000000 in
set_option maxRecDepth 8000 in
theorem walk (a : Option Addr) (nl cap : Nat) (t : Nat → ByteArray) (i : Int) (r : Hs) (n : Int) (s : ByteArray) (ap : Option Addr) (lp cp : Nat) (f : List Hs) (w : World) (hT : TextsIn w a nl t) (hz : ∀ k, k < nl → (t k).size ≤ 1048576) (hnl : nl ≤ 1048576) (hn : n ≤ 9223372036854775807) (zs : s.size ≤ 1048576) (hf : lp = f.length) (hP : PathAt w ap f) (hlp : lp ≤ 1048576) (hcp : lp ≤ cp) (hK : KIn w) :
    Calls Tryd.prog 7 #[.slice a nl cap, .int .i64 i, .agg (hv r).toArray, .int .i64 n, .string s, .slice ap lp cp] w fun e w' => e = .returned (.bool true) ∧ Below w.heap.size w w' := by
  have Hf : Hid (lp = f.length) := hf
  clear hf
  have hz2 : ∀ k, k < nl → (t k).size ≤ 2097152 := fun k hk => by have := hz k hk; omega
  have ba : Below w.heap.size w (w.alloc (.cells (hv r).toArray 23)) := (Below.refl _ _).alloc (Nat.le_refl _) _
  have S0 : PB w w.heap.size r (w.alloc (.cells (hv r).toArray 23)) := ⟨hK.seq ba, ba, range_of_row (heap_alloc_new _ _)⟩
  clear ba
  obtain ⟨W0, hW0⟩ : ∃ W0, W0 = w.alloc (.cells (hv r).toArray 23) := ⟨_, rfl⟩
  go_enter Tryd.func7, Tryd.ntmps7
  go_wp2_with fail
  rw [← hW0] at S0 ⊢
  clear hW0
  obtain ⟨Mb, hMb⟩ : ∃ Mb, Mb = w.heap.size := ⟨_, rfl⟩
  rw [← hMb] at S0 ⊢
  have HMb : Hid (Mb = w.heap.size) := hMb
  clear hMb
  refine (lent_any cap S0.k (hT.next S0.bel) (by omega)).mono ?_
  rintro e w1 ⟨g, c, rfl, own1, b1⟩
  have S1 := S0.next b1
  go_wp2_with fail
  refine (path_all i c S1.k (own_tx2 own1) hz2 (by omega)).mono ?_
  rintro e w2 ⟨v, rfl, own2, b2⟩
  have S2 := S1.next b2
  have cQ := refPath_all i cap S2.k (hT.next S2.bel) hz2 (by omega)
  obtain ⟨P, hPe⟩ : ∃ P, P = pathI nl t i := ⟨_, rfl⟩
  rw [← hPe] at own2 cQ
  generalize errI nl i = ec at *
  clear hPe own1 b1 S0 S1
  go_wp2_with fail
  refine cQ.mono ?_
  rintro e w3 ⟨v3, rfl, own3, b3⟩
  have S3 := S2.next b3
  have own2' := own_next own2 b3
  obtain ⟨pa, pc, rfl, hp1, hp2, hPA, _⟩ := own_path own2'
  obtain ⟨qa, qc, rfl, hq1, hq2, hQA, _⟩ := own_path own3
  have hPl : P.length ≤ 9223372036854775807 := by omega
  obtain ⟨pl, hpl⟩ : ∃ pl, pl = P.length := ⟨_, rfl⟩
  rw [← hpl] at hPl ⊢
  have Hpl : Hid (pl = P.length) := hpl
  clear hpl S2 own2 own2' own3 b2 b3 cQ hp1 hp2 hq1 hq2
  have hP3 := hP.next S3.bel
  have hbs3 := S3.bel.size
  obtain ⟨ti, z, e1, e2, e3, e4, e5⟩ := info23x
  go_upto_region 4 with fail
  go_cut [17] (fun ov wx => ∃ oa oc, ov = .slice oa lp oc ∧ lp ≤ oc ∧ oc ≤ 9223372036854775807 ∧ PathAt wx oa f ∧ PB w Mb r wx ∧ Below w3.heap.size w3 wx)
  case first =>
    by_cases h0 : lp = 0
    · have hfn : f = [] := List.length_eq_zero_iff.1 (by rw [← Hf.out]; exact h0)
      subst h0
      cases ap with
      | none =>
        go_wp2_with fail
        go_meet
        exact ⟨none, 0, rfl, by omega, by omega, fun k x hk => by rw [hfn] at hk; simp at hk, S3, Below.refl _ _⟩
      | some ad =>
        go_wp2_with fail
        go_meet
        exact ⟨none, 0, rfl, by omega, by omega, fun k x hk => by rw [hfn] at hk; simp at hk, S3, Below.refl _ _⟩
    · obtain ⟨b, off, rfl, hrg⟩ := hP3.get (by rw [← Hf.out]; omega)
      have hfl : (flatL f).length = lp * 32 := by rw [flatL_length, ← Hf.out]
      go_wp2_with (refine wpList_append_lies _ rfl _ _ 25 rfl w3.heap.size 23 ti z 32 32 Tryd.underlying25 e1 e2 e3 e4 e5 (by omega) (.slice none 0 0) 0 [] rfl (World.ownsRow_nil _ _ _ _) ⟨b, off, none⟩ lp cp (flatL f) rfl hfl (path_news hrg) (flatL_one f) (by omega) (by unfold maxLen; omega) (by omega) (Nat.le_refl _) _ rfl ?_; intro g6 c6 w6 own6 grow6 at6 lt6; rw [Nat.zero_add, List.nil_append] at own6)
      have b6 : Below w3.heap.size w3 w6 := (Below.refl _ _).grown grow6 (Nat.le_refl _) (fun k hk => by simp [Value.ownBlock] at hk)
      have own6' := own6
      rw [Hf.out] at own6'
      obtain ⟨oa, oc, ev, h1, h2, h3, _⟩ := own_path own6'
      go_meet
      refine ⟨some ⟨g6, 0, none⟩, c6, rfl, (own_cap2 own6).1, (own_cap2 own6).2, ?_, S3.next b6, b6⟩
      injection ev with ev1
      rw [ev1]; exact h3
  case rest =>
    obtain ⟨oa, oc, rfl, ho1, ho2, hOA, S4, b4⟩ := hcut
    have hPA4 := hPA.next b4
    have hQA4 := hQA.next b4
    clear S3 hPA hQA b4 hP3
    generalize wc = w4 at *
    have hl4 := load23 S4.rr
    have c5 := holds_all r n i s oa f lp oc S4.k hOA (by omega) hn Hf.out ho1 ho2
    obtain ⟨B, hB⟩ : ∃ B, B = toldI r n i s f := ⟨_, rfl⟩
    rw [← hB] at c5
    have HB : Hid (B = toldI r n i s f) := hB
    clear hB
    go_wp2_with fail
    refine c5.mono ?_
    rintro e w5 ⟨rfl, b5⟩
    have S5 := S4.next b5
    have hl5 := load23 S5.rr
    have c6 := refHolds_all r n i s ap f lp cp S5.k (hP.next S5.bel) (by omega) hn Hf.out (by omega)
    rw [← HB.out] at c6
    clear c5 hl4
    go_wp2_with fail
    refine c6.mono ?_
    rintro e w6 ⟨rfl, b6⟩
    have S6 := S5.next b6
    have b46 := below_seq b5 b6
    have hPA6 := hPA4.next b46
    have hQA6 := hQA4.next b46
    have hOA6 := hOA.next b46
    clear c6 hl5 S4 S5 hPA4 hQA4 hOA b5 b6 b46
    go_wp2_with fail
    refine (same_any pl pc qc Hpl.out hPA6 hQA6 hPl).mono ?_
    rintro e w7 ⟨rfl, b7⟩
    have S7 := S6.next b7
    have hOA7 := hOA6.next b7
    go_wp2_with fail
    refine (same_any lp oc cp Hf.out hOA7 (hP.next S7.bel) (by omega)).mono ?_
    rintro e w8 ⟨rfl, b8⟩
    have S8 := S7.next b8
    go_wp2_with fail
    refine (first_any _ S8.k).mono ?_
    rintro e w9 ⟨rfl, b9⟩
    go_wp2_with fail
    go_ret
    exact ⟨rfl, (S8.next b9).bel⟩
end merklePaths
end Go.Proofs.YtlpiokepagkahaaDoor
