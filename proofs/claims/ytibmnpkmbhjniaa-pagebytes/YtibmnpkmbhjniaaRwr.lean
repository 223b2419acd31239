/- The document's Sorted and Write. -/
import Derived.Test.YtibmnpkmbhjniaaBig
import Derived.Test.YtibmnpkmbhjniaaBacW
namespace Go.Proofs.Ytibmnpkmbhjniaa
set_option linter.unusedVariables false
set_option linter.unusedSimpArgs false
open Go.RowKit
attribute [local go_sem ↓] Go.wp_at_zero Go.wp_at_succ
attribute [local go_sem ↓] slPe sl9 ad9
set_option maxHeartbeats 1000000 in
theorem rSorted_any (l : List En) (w : World) (a : Option Addr) (n cap : Nat) (hn : l.length = n) (hP : PIn w a l) (hl : l.length ≤ 4500000000000) :
    Calls Try.prog 45 #[.slice a n cap] w fun e w' => e = .returned (.bool (srtb l)) ∧ Below w.heap.size w w' := by
  subst hn
  go_enter Try.func45, Try.ntmps45
  go_wp2_with fail
  go_loopw [3] (fun i wr => ∃ k : Nat, 1 ≤ k ∧ k ≤ l.length + 1 ∧ i = .int .i64 (k : Int) ∧ Hid (∀ q x y, q + 1 < k → l[q]? = some x → l[q + 1]? = some y → lt x.key y.key) ∧ Below w.heap.size w wr) (fun i _ => l.length + 1 - (intOf i).toNat)
  case atStart => exact ⟨1, by omega, by omega, rfl, ⟨fun q x y h => by omega⟩, Below.refl _ _⟩
  case round =>
    obtain ⟨k, hk0, hk, rfl, HI, hb⟩ := hrel
    by_cases h1 : k < l.length
    · have d1 : decide ((k : Int) < (l.length : Int)) = true := decide_eq_true (by omega)
      have k2 : (k : Int) < (l.length : Int) := by omega
      have k3 : (k : Int) - 1 < (l.length : Int) := by omega
      obtain ⟨p, hp⟩ : ∃ p, l[k - 1]? = some p := ⟨l[k - 1]'(by omega), List.getElem?_eq_getElem (by omega)⟩
      obtain ⟨q, hq⟩ : ∃ p, l[k]? = some p := ⟨l[k], List.getElem?_eq_getElem h1⟩
      obtain ⟨b, off, rfl, hbl, c0, c1⟩ := (hP.later hb).get (k - 1) p hp
      obtain ⟨b2, off2, e2, _, f0, f1⟩ := (hP.later hb).get k q hq
      injection e2 with e2
      injection e2 with e3 e4
      subst e3 e4
      by_cases h2 : lt p.key q.key
      · have HN : Hid (∀ q x y, q + 1 < k + 1 → l[q]? = some x → l[q + 1]? = some y → lt x.key y.key) := ⟨fun j x y hj hx hy => by
          rcases Nat.lt_or_ge (j + 1) k with h3 | h3
          · exact HI.out j x y h3 hx hy
          · have : j = k - 1 := by omega
            subst this
            rw [hp] at hx; rw [show k - 1 + 1 = k by omega, hq] at hy
            cases hx; cases hy; exact h2⟩
        have d2 : Go.Op.bytesLess p.key q.key = true := by rw [bytesLess_eq]; exact decide_eq_true h2
        clear h2
        go_wp2_with fail
        go_quiet (fail)
        go_wp2_with fail
        exact ⟨⟨k + 1, by omega, by omega, by go_num, HN, below_dN hb nq⟩, by simp [intOf]; omega⟩
      · have HS : Hid (srtb l = false) := ⟨srtb_false fun hs => h2 (hs.get (by omega) hp hq)⟩
        have d2 : Go.Op.bytesLess p.key q.key = false := by rw [bytesLess_eq]; exact decide_eq_false h2
        clear h2
        go_wp2_with fail
        go_quiet (fail)
        go_wp2_with fail
        go_ret
        exact ⟨by rw [HS.out]; rfl, below_dN hb nq⟩
    · have d1 : decide ((k : Int) < (l.length : Int)) = false := decide_eq_false (by omega)
      have HS : Hid (srtb l = true) := ⟨srtb_true (srt_of fun i x y hx hy => HI.out i x y (by have := (List.getElem?_eq_some_iff.1 hy).1; omega) hx hy)⟩
      go_wp2_with fail
      go_ret
      exact ⟨by rw [HS.out]; rfl, hb⟩
theorem step_two {ops : Array Oper} {o : Oper} {a : Act} {K : Act → World → Prop} {Q : Exit → Act → World → Prop} {E : Prop} {W : World} (hgd : o.guard = none) (s x : Operand) (ho : o.op = .call { callee := .builtin .append, args := #[s, x], argTypes := #[62, 62] })
    {base : Nat} {w : World} {v : Value} {L : List UInt8} {c d : Int} {g : Nat} (C D : UInt8) (hW : W = w.alloc (.cells #[.int .u8 c, .int .u8 d] 5)) (hO : Ob base w v L) (hg : g = w.heap.size) (hn : L.length ≤ 1000000000) (hC : c = (C.toNat : Int)) (hD : d = (D.toNat : Int))
    (hs : a.eval s = v) (hx : a.eval x = .slice (some ⟨g, 0, none⟩) 2 2)
    (h : ∀ v' w', Ob base w' v' (L ++ [C, D]) → Below base w w' → K (a.put o.dst v') w') :
    if Region.wanted o (yielded ops a.tmps) = true then Oper.wp Try.prog o a W K Q else E := by
  obtain ⟨i0, hi0, hz0, hz1, hz2⟩ := info5
  subst hW hC hD hg
  have hm : maxLen = 9223372036854775807 := rfl
  refine step_append_lies _ hgd s x 62 ho base 5 i0 _ 1 1 Try.underlying62 hi0 hz0 hz1 hz2 rfl (by omega) v L.length (vals L) hs (hO.own.alloc _) _ 2 2 [.int .u8 C.toNat, .int .u8 D.toNat] hx rfl
    (World.news_of_block (cs := #[.int .u8 C.toNat, .int .u8 D.toNat]) (t := 5) (fr := (0, 0)) (heap_alloc_new w _)) (by simp [Value.oneCell']) (by omega) (by rw [hm]; omega) (by omega) (by have := hO.le; simp; omega) _ rfl ?_
  intro g2 cap2 w' hown hgrow _ _
  refine h _ w' ⟨?_, ?_⟩ ?_
  · rw [vals_append, List.length_append]; exact hown
  · have := hgrow.size; have h2 := hO.le; simp at this; omega
  · exact ((Below.refl _ _).alloc hO.le _).trans (grown_below (hO.own.alloc _) (by have := hO.le; simp; omega) hgrow)
theorem made_b (m : Nat) (w : World) (hm : m ≤ 1000) : ∃ w', (Instr.makeSlice 62 (.int .i64 (m : Int)) (.int .i64 (m : Int))).run Try.prog w = .ok (.slice (some ⟨w.heap.size, 0, none⟩) m m) w' ∧ (convert 62 9 (.slice (some ⟨w.heap.size, 0, none⟩) m m)).run Try.prog w' = .ok (str (List.replicate m 0)) w' ∧ Below w.heap.size w w' := by
  obtain ⟨i0, hi0, hz0, hz1, hz2⟩ := info5
  obtain ⟨w', a, b, c⟩ := run_makeSlice_full (P := Try.prog) w 0 62 5 i0 _ 1 Try.underlying62 hi0 hz0 hz1 .i64 .i64 m (by omega) (by rw [hz2]; omega) (by unfold maxLen; omega) (Nat.zero_le _)
  refine ⟨w', a, ?_, (Below.refl _ _).grown c (Nat.le_refl _) (fun k hk => by cases hk)⟩
  have e : (madeCells (Value.int .u8 0).cells (m * 1)).toList = vals (List.replicate m 0) := by
    show (madeCells #[Value.int .u8 0] (m * 1)).toList = _
    rw [toList_madeCells_one, Nat.mul_one]; simp [vals]
  rw [e] at b
  exact conv_own (base := 0) (w := w') (v := .slice (some ⟨w.heap.size, 0, none⟩) m m) (l := List.replicate m 0) ⟨by rw [List.length_replicate]; exact b, Nat.zero_le _⟩
/-- five bytes in a row of one's own -/
theorem ob_five {w : World} (A B C D E : UInt8) {a b c d e : Int} (ha : a = (A.toNat : Int)) (hb : b = (B.toNat : Int)) (hc : c = (C.toNat : Int)) (hd : d = (D.toNat : Int)) (he : e = (E.toNat : Int)) {base : Nat} (hB : base ≤ w.heap.size) :
    Ob base (w.alloc (.cells #[.int .u8 a, .int .u8 b, .int .u8 c, .int .u8 d, .int .u8 e] 5)) (.slice (some ⟨w.heap.size, 0, none⟩) 5 5) [A, B, C, D, E] := by
  subst ha hb hc hd he
  exact ⟨⟨rfl, Or.inr ⟨w.heap.size, 5, _, rfl, hB, heap_alloc_new _ _, Nat.le_refl _, by unfold maxLen; omega, rfl, rfl⟩⟩, by simp; omega⟩
set_option maxHeartbeats 4000000 in
theorem rWrite_any (kind link : Int) (l : List En) (w : World) (a : Option Addr) (n cap : Nat) (hn : l.length = n) (hP : PIn w a l) (hl : l.length ≤ 4500000000000) :
    Calls Try.prog 25 #[pgv kind link (.slice a n cap)] w fun e w' => e = .returned (wrote kind link l) ∧ Below w.heap.size w w' := by
  subst hn
  by_cases h0 : kind < 0 ∨ 255 < kind ∨ link < 0 ∨ 65535 < link
  · have HV : Hid (wrote kind link l = .tuple #[str [], .int .i64 1]) := ⟨by
      have hf : flt kind link l = 1 := by unfold flt; rw [if_pos h0]
      unfold wrote; rw [hf]; rfl⟩
    rcases Int.lt_or_le kind 0 with q1 | q1
    · have d1 := decide_eq_true q1
      go_enter Try.func25, Try.ntmps25
      go_wp2_with fail
      go_ret2
      exact ⟨by rw [HV.out]; rfl, (Below.refl _ _).alloc (Nat.le_refl _) _⟩
    · have d1 : decide (kind < 0) = false := decide_eq_false (by omega)
      rcases Int.lt_or_le 255 kind with q2 | q2
      · have d2 := decide_eq_true q2
        go_enter Try.func25, Try.ntmps25
        go_wp2_with fail
        go_ret2
        exact ⟨by rw [HV.out]; rfl, (Below.refl _ _).alloc (Nat.le_refl _) _⟩
      · have d2 : decide (255 < kind) = false := decide_eq_false (by omega)
        rcases Int.lt_or_le link 0 with q3 | q3
        · have d3 := decide_eq_true q3
          go_enter Try.func25, Try.ntmps25
          go_wp2_with fail
          go_ret2
          exact ⟨by rw [HV.out]; rfl, (Below.refl _ _).alloc (Nat.le_refl _) _⟩
        · have d3 : decide (link < 0) = false := decide_eq_false (by omega)
          have d4 : decide (65535 < link) = true := decide_eq_true (by omega)
          go_enter Try.func25, Try.ntmps25
          go_wp2_with fail
          go_ret2
          exact ⟨by rw [HV.out]; rfl, (Below.refl _ _).alloc (Nat.le_refl _) _⟩
  · have d1 : decide (kind < 0) = false := decide_eq_false (by omega)
    have d2 : decide (255 < kind) = false := decide_eq_false (by omega)
    have d3 : decide (link < 0) = false := decide_eq_false (by omega)
    have d4 : decide (65535 < link) = false := decide_eq_false (by omega)
    obtain ⟨K, rfl⟩ : ∃ K : Nat, kind = (K : Int) := ⟨kind.toNat, by omega⟩
    obtain ⟨J, rfl⟩ : ∃ J : Nat, link = (J : Int) := ⟨link.toNat, by omega⟩
    have hK : K ≤ 255 := by omega
    have hJ : J ≤ 65535 := by omega
    have hPL : Hid (∀ w', Below (w.heap.size + 1) (w.alloc (.cells #[.int .i64 (K : Int), .int .i64 (J : Int), .slice a l.length cap] 57)) w' → PIn w' a l) := ⟨fun w' hb => (hP.later ((Below.refl _ _).alloc (Nat.le_refl _) _)).later (hb.mono (by simp))⟩
    have PB : Hid (∀ w', Below (w.heap.size + 1) (w.alloc (.cells #[.int .i64 (K : Int), .int .i64 (J : Int), .slice a l.length cap] 57)) w' → w'.cell? ⟨w.heap.size, 0, none⟩ = some (.int .i64 (K : Int)) ∧ w'.cell? ⟨w.heap.size, 1, none⟩ = some (.int .i64 (J : Int)) ∧ w'.cell? ⟨w.heap.size, 2, none⟩ = some (.slice a l.length cap)) := ⟨fun w' hb => box3 (t := 57) (by rw [hb.block _ (by omega)]; exact heap_alloc_new _ _)⟩
    have HE : Hid (∀ w', Below (w.heap.size + 1) (w.alloc (.cells #[.int .i64 (K : Int), .int .i64 (J : Int), .slice a l.length cap] 57)) w' → Below w.heap.size w w') := ⟨fun w' hb => ((Below.refl _ _).alloc (Nat.le_refl _) _).trans (hb.mono (by omega))⟩
    have HF : Hid (∀ (b : Bool), l.any lng = true → wrote (K : Int) (J : Int) l = .tuple #[str [], .int .i64 3]) := ⟨fun _ h => by
      have hf : flt (K : Int) (J : Int) l = 3 := by unfold flt; rw [if_neg h0, if_pos (Or.inl h)]
      unfold wrote; rw [hf]; rfl⟩
    have hSz := fun w h => rSize_any l w a l.length cap rfl h (by omega)
    have hSo := fun w h => rSorted_any l w a l.length cap rfl h hl
    clear hP
    go_enter Try.func25, Try.ntmps25
    go_wp2_with fail
    go_loopw [4] (fun i wr => ∃ k : Nat, k ≤ l.length ∧ i = .int .i64 (k : Int) ∧ Hid ((l.take k).any lng = false ∧ wr = w.alloc (.cells #[.int .i64 (K : Int), .int .i64 (J : Int), .slice a l.length cap] 57))) (fun i _ => l.length - (intOf i).toNat)
    case atStart => exact ⟨0, by omega, rfl, ⟨rfl, rfl⟩⟩
    case round =>
      obtain ⟨k, hk, rfl, HI⟩ := hrel
      obtain ⟨e0, e1, e2⟩ := PB.out wr (by rw [HI.out.2]; exact Below.refl _ _)
      by_cases h1 : k < l.length
      · have c1 : decide ((k : Int) < (l.length : Int)) = true := decide_eq_true (by omega)
        have k2 : (k : Int) < (l.length : Int) := by omega
        obtain ⟨p, hp⟩ : ∃ p, l[k]? = some p := ⟨l[k], List.getElem?_eq_getElem h1⟩
        obtain ⟨b, off, rfl, hbl, f0, f1⟩ := (hPL.out wr (by rw [HI.out.2]; exact Below.refl _ _)).get k p hp
        have hBw : Below w.heap.size w wr := HE.out wr (by rw [HI.out.2]; exact Below.refl _ _)
        by_cases hg : lng p = true
        · have HV := Hid.mk (HF.out true (by rw [List.any_eq_true]; exact ⟨p, List.mem_of_getElem? hp, hg⟩))
          by_cases hg1 : 100 < p.key.length
          · have g1 : decide ((100 : Int) < (p.key.length : Int)) = true := decide_eq_true (by omega)
            clear hg
            go_wp2_with fail
            go_ret2
            exact ⟨by rw [HV.out]; rfl, hBw⟩
          · have g1 : decide ((100 : Int) < (p.key.length : Int)) = false := decide_eq_false (by omega)
            have g2 : decide ((150 : Int) < (p.val.length : Int)) = true := decide_eq_true (by simp [lng] at hg; omega)
            clear hg
            go_wp2_with fail
            go_ret2
            exact ⟨by rw [HV.out]; rfl, hBw⟩
        · have hg' : lng p = false := by simpa using hg
          have hlp := lng_sz hg'
          have g1 : decide ((100 : Int) < (p.key.length : Int)) = false := decide_eq_false (by omega)
          have g2 : decide ((150 : Int) < (p.val.length : Int)) = false := decide_eq_false (by omega)
          have HI2 : Hid ((l.take (k + 1)).any lng = false ∧ wr = w.alloc (.cells #[.int .i64 (K : Int), .int .i64 (J : Int), .slice (some ⟨b, off, none⟩) l.length cap] 57)) := ⟨by rw [take_succ' hp, List.any_append, HI.out.1]; simp [hg'], HI.out.2⟩
          clear hg hg' HI hlp
          go_wp2_with fail
          exact ⟨⟨k + 1, by omega, by go_num, HI2⟩, by simp [intOf]; omega⟩
      · obtain rfl : k = l.length := by omega
        have c1 : decide ((l.length : Int) < (l.length : Int)) = false := decide_eq_false (by omega)
        have hI := HI.out
        rw [List.take_length] at hI
        have htl := tot_short (any_false hI.1)
        have htw : totw l = (tot l : Int) := wrap_small (by omega) (by omega)
        rw [htw] at hSz
        have hB0 : Below (w.heap.size + 1) (w.alloc (.cells #[.int .i64 (K : Int), .int .i64 (J : Int), .slice a l.length cap] 57)) wr := by rw [hI.2]; exact Below.refl _ _
        have hsz := hSz wr (hPL.out wr hB0)
        have hI1 := hI.1
        clear HI hSz hI
        by_cases ht : 507 < tot l
        · have HV : Hid (wrote (K : Int) (J : Int) l = .tuple #[str [], .int .i64 3]) := ⟨by
            have hf : flt (K : Int) (J : Int) l = 3 := by unfold flt; rw [if_neg h0, if_pos (Or.inr ht)]
            unfold wrote; rw [hf]; rfl⟩
          have dt : decide ((507 : Int) < (tot l : Int)) = true := decide_eq_true (by omega)
          generalize tot l = TT at *
          go_wp2_with fail
          with_reducible refine Calls.mono hsz ?_
          rintro e w1 ⟨rfl, b1⟩
          dsimp only
          go_wp2_with fail
          go_ret2
          exact ⟨by rw [HV.out]; rfl, below_seq (HE.out _ hB0) b1⟩
        · have dt : decide ((507 : Int) < (tot l : Int)) = false := decide_eq_false (by omega)
          have hflt : flt (K : Int) (J : Int) l = if srtb l = true then 0 else 4 := by unfold flt; rw [if_neg h0, if_neg (by rw [hI1]; simp; omega)]
          by_cases hsr : srtb l = true
          · have HW : Hid (wrote (K : Int) (J : Int) l = .tuple #[str (blk (K : Int) (J : Int) l), .int .i64 0]) := ⟨by rw [if_pos hsr] at hflt; exact wrote_good hflt⟩
            rw [hsr] at hSo
            have hl2 := tot_len l
            have hl3 : l.length ≤ 253 := by omega
            have H0 : Hid (blk (K : Int) (J : Int) l = [UInt8.ofNat K] ++ n2 J ++ n2 l.length ++ body l ++ List.replicate (507 - tot l) 0) := ⟨by simp [blk, blk0]⟩
            have HS : Hid (∀ (k : Nat) (e : En), l[k]? = some e → e.key.length ≤ 100 ∧ e.val.length ≤ 150) := ⟨fun k e he => lng_sz (any_false hI1 e (List.mem_of_getElem? he))⟩
            have HTT := Hid.mk (show tot l ≤ 507 by omega)
            generalize blk (K : Int) (J : Int) l = BB at *
            have hTd := dt
            generalize hTT : (tot l : Int) = TI at hTd hsz
            clear dt
            go_wp2_with fail
            with_reducible refine Calls.mono hsz ?_
            rintro e w1 ⟨rfl, b1⟩
            dsimp only
            have B1 : Below (w.heap.size + 1) (w.alloc (.cells #[.int .i64 (K : Int), .int .i64 (J : Int), .slice a l.length cap] 57)) w1 := hB0.trans (b1.mono (by have := hB0.size; simp at this; omega))
            obtain ⟨f0, f1, f2⟩ := PB.out w1 B1
            clear e0 e1 e2 hsz b1 hB0
            go_wp2_with fail
            with_reducible refine Calls.mono (hSo w1 (hPL.out w1 B1)) ?_
            rintro e w2 ⟨rfl, b2⟩
            dsimp only
            have B2 : Below (w.heap.size + 1) (w.alloc (.cells #[.int .i64 (K : Int), .int .i64 (J : Int), .slice a l.length cap] 57)) w2 := B1.trans (b2.mono (by have := B1.size; simp at this; omega))
            obtain ⟨g0, g1, g2⟩ := PB.out w2 B2
            have hw2 : w.heap.size + 1 ≤ w2.heap.size := by have := B2.size; simp at this; omega
            clear f0 f1 f2 b2 B1 hSo
            go_wp2_with fail
            go_loopw [6, 7] (fun b i wr => ∃ k : Nat, k ≤ l.length ∧ i = .int .i64 (k : Int) ∧ Hid (Ob (w.heap.size + 1) wr b ([UInt8.ofNat K] ++ n2 J ++ n2 l.length ++ body (l.take k)) ∧ Below (w.heap.size + 1) (w.alloc (.cells #[.int .i64 (K : Int), .int .i64 (J : Int), .slice a l.length cap] 57)) wr)) (fun _ i _ => l.length - (intOf i).toNat)
            case atStart =>
              refine ⟨0, by omega, rfl, ⟨?_, B2.alloc hw2 _⟩⟩
              have := ob_five (w := w2) (UInt8.ofNat K) (UInt8.ofNat (J / 256)) (UInt8.ofNat J) (UInt8.ofNat (l.length / 256)) (UInt8.ofNat l.length) (a := (K : Int)) (b := (J : Int) / 256) (c := (J : Int) % 256) (d := (l.length : Int) / 256) (e := (l.length : Int)) (by rw [byte_of]; omega) (by rw [byte_of]; omega) (by rw [byte_of]) (by rw [byte_of]; omega) (by rw [byte_of]; omega) (base := w.heap.size + 1) hw2
              simpa [n2, body] using this
            case round =>
              clear g0 g1 g2 B2
              obtain ⟨k, hk, rfl, HO⟩ := hrel
              obtain ⟨j0, j1, j2⟩ := PB.out _ HO.out.2
              by_cases hlt : k < l.length
              · have hd : decide ((k : Int) < (l.length : Int)) = true := decide_eq_true (by omega)
                have kk2 : (k : Int) < (l.length : Int) := by omega
                obtain ⟨p, hp⟩ : ∃ p, l[k]? = some p := ⟨l[k], List.getElem?_eq_getElem hlt⟩
                obtain ⟨s1, s2⟩ := HS.out k p hp
                have hbo : (body (l.take k)).length ≤ 507 := by
                  rw [body_length]
                  have := tot_split l k
                  have := HTT.out
                  omega
                have HN := Hid.mk (body_take hp)
                have HL : Hid (([UInt8.ofNat K] ++ n2 J ++ n2 l.length ++ body (l.take k)).length ≤ 1000) := ⟨by simp [n2]; omega⟩
                have hsz1 : w.heap.size + 1 ≤ wr.heap.size := by have := HO.out.2.size; simp at this; omega
                have XC : Hid (∀ w', Below (w.heap.size + 1) (w.alloc (.cells #[.int .i64 (K : Int), .int .i64 (J : Int), .slice a l.length cap] 57)) w' → ∃ b off, a = some ⟨b, off, none⟩ ∧ w'.cell? ⟨w.heap.size, 2, none⟩ = some (.slice a l.length cap) ∧ w'.cell? ⟨b, off + k * 2, none⟩ = some (str p.key) ∧ w'.cell? ⟨b, off + k * 2 + 1, none⟩ = some (str p.val)) := ⟨fun w' h => by
                  obtain ⟨b, off, e, _, x, y⟩ := (hPL.out _ h).get k p hp
                  exact ⟨b, off, e, (PB.out _ h).2.2, x, y⟩⟩
                obtain ⟨b, off, rfl, x2, x0, x1⟩ := XC.out _ HO.out.2
                have XC2 : Hid (∀ w', Below (w.heap.size + 1) (w.alloc (.cells #[.int .i64 (K : Int), .int .i64 (J : Int), .slice (some ⟨b, off, none⟩) l.length cap] 57)) w' → w'.cell? ⟨w.heap.size, 2, none⟩ = some (.slice (some ⟨b, off, none⟩) l.length cap) ∧ w'.cell? ⟨b, off + k * 2, none⟩ = some (str p.key) ∧ w'.cell? ⟨b, off + k * 2 + 1, none⟩ = some (str p.val)) := ⟨fun w' h => by
                  obtain ⟨b', off', e, x, y, z⟩ := XC.out _ h
                  injection e with e
                  injection e with e1 e2
                  subst e1 e2
                  exact ⟨x, y, z⟩⟩
                clear XC j0 j1 j2
                have u1 : IntKind.u8.wrap (p.key.length : Int) = (p.key.length : Int) := by rw [IntKind.wrap_u8]; omega
                have u2 : IntKind.u8.wrap (p.val.length : Int) = (p.val.length : Int) := by rw [IntKind.wrap_u8]; omega
                generalize hLL : [UInt8.ofNat K] ++ n2 J ++ n2 l.length ++ body (l.take k) = LL at *
                go_wp2_with fail
                go_region_held3 (fun w' => w'.cell? ⟨w.heap.size, 2, none⟩ = some (.slice (some ⟨b, off, none⟩) l.length cap) ∧ w'.cell? ⟨b, off + k * 2, none⟩ = some (str p.key) ∧ w'.cell? ⟨b, off + k * 2 + 1, none⟩ = some (str p.val)) (first
                  | exact ⟨x2, x0, x1⟩
                  | exact XC2.out _ ((HO.out.2.alloc hsz1 _).drew)
                  | exact XC2.out _ (HO.out.2.drew.alloc hsz1 _)
                  | exact XC2.out _ (HO.out.2.drew.trans b3)
                  | exact XC2.out _ (HO.out.2.trans b3)) ((refine step_two rfl _ _ rfl (UInt8.ofNat p.key.length) (UInt8.ofNat p.val.length) rfl HO.out.1.drew (by simp) (by have := HL.out; omega) (by rw [byte_of]; omega) (by rw [byte_of]; omega) rfl rfl ?_; intro v3 w3 o3 b3))
                have B3 : Below (w.heap.size + 1) (w.alloc (.cells #[.int .i64 (K : Int), .int .i64 (J : Int), .slice (some ⟨b, off, none⟩) l.length cap] 57)) w3 := HO.out.2.drew.trans b3
                obtain ⟨y2, y0, y1⟩ := XC2.out _ B3
                clear x2 x0 x1 u1 u2
                go_wp2_with (first
                  | (refine app_str p.key o3 (by have := HL.out; simp; omega) rfl _ _ rfl rfl rfl ?_; intro v4 w4 o4 b4; have B4 := B3.trans b4; obtain ⟨z2, z0, z1⟩ := XC2.out _ B4; clear y2 y0 y1)
                  | (refine app_str p.val o4 (by have := HL.out; simp; omega) rfl _ _ rfl rfl rfl ?_; intro v5 w5 o5 b5))
                exact ⟨⟨k + 1, by omega, by go_num, ⟨by rw [HN.out]; simpa [hLL.symm, ent] using o5, B4.trans b5⟩⟩, by simp [intOf]; omega⟩
              · obtain rfl : k = l.length := by omega
                have hd : decide ((l.length : Int) < (l.length : Int)) = false := decide_eq_false (by omega)
                rw [List.take_length] at HO
                have hLn : ([UInt8.ofNat K] ++ n2 J ++ n2 l.length ++ body l).length = 5 + tot l := by simp [n2, body_length]; omega
                obtain ⟨ab, cb, rfl, hcb⟩ := HO.out.1.form
                have hcv := conv_own HO.out.1
                have hTle := HTT.out
                have HBw := Hid.mk (HE.out _ HO.out.2)
                obtain ⟨w9, hmk, hcv2, b9⟩ : ∃ w', (Instr.makeSlice 62 (.int .i64 ((507 - tot l : Nat) : Int)) (.int .i64 ((507 - tot l : Nat) : Int))).run Try.prog wr.drew = .ok (.slice (some ⟨wr.heap.size, 0, none⟩) (507 - tot l) (507 - tot l)) w' ∧ (convert 62 9 (.slice (some ⟨wr.heap.size, 0, none⟩) (507 - tot l) (507 - tot l))).run Try.prog w' = .ok (str (List.replicate (507 - tot l) 0)) w' ∧ Below wr.drew.heap.size wr.drew w' := made_b (507 - tot l) wr.drew (by omega)
                have hadd := run_ad ([UInt8.ofNat K] ++ n2 J ++ n2 l.length ++ body l) (List.replicate (507 - tot l) 0) (by rw [hLn, List.length_replicate]; omega)
                rw [← H0.out] at hadd
                have HC : Hid (∀ w', Below wr.heap.size wr w' → (convert 62 9 (.slice ab ([UInt8.ofNat K] ++ n2 J ++ n2 l.length ++ body l).length cb)).run Try.prog w' = .ok (str ([UInt8.ofNat K] ++ n2 J ++ n2 l.length ++ body l)) w') := ⟨fun w' h => conv_own (HO.out.1.later h)⟩
                clear hcv
                rw [hLn] at HC ⊢
                have hnum : IntKind.i64.wrap (512 - ((5 + tot l : Nat) : Int)) = ((507 - tot l : Nat) : Int) := by rw [IntKind.wrap_i64]; omega
                generalize hZ : List.replicate (507 - tot l) (0 : UInt8) = ZL at *
                generalize hLL : [UInt8.ofNat K] ++ n2 J ++ n2 l.length ++ body l = LL at *
                generalize hZZ : 507 - tot l = ZZ at *
                generalize hYY : 5 + tot l = YY at *
                clear hLn HO hZZ hYY hTle htl htw hl2 hTT hTd j0 j1 j2
                have b9' : Below wr.heap.size wr w9 := below_seq (Below.refl _ _).drew b9
                go_wp2_with fail
                have hc1 := HC.out _ (Below.refl wr.heap.size wr).drew
                have hc2 := HC.out _ b9'
                go_region_with (fail)
                all_goals go_wp2_with fail
                all_goals go_ret2
                all_goals exact ⟨by rw [HW.out]; rfl, below_seq HBw.out b9'⟩
          · have hsr' : srtb l = false := by simpa using hsr
            have HV : Hid (wrote (K : Int) (J : Int) l = .tuple #[str [], .int .i64 4]) := ⟨by
              rw [if_neg hsr] at hflt
              unfold wrote; rw [hflt]; rfl⟩
            rw [hsr'] at hSo
            generalize tot l = TT at *
            go_wp2_with fail
            with_reducible refine Calls.mono hsz ?_
            rintro e w1 ⟨rfl, b1⟩
            dsimp only
            have B1 : Below (w.heap.size + 1) (w.alloc (.cells #[.int .i64 (K : Int), .int .i64 (J : Int), .slice a l.length cap] 57)) w1 := hB0.trans (b1.mono (by have := hB0.size; simp at this; omega))
            obtain ⟨f0, f1, f2⟩ := PB.out w1 B1
            clear e0 e1 e2
            go_wp2_with fail
            with_reducible refine Calls.mono (hSo w1 (hPL.out w1 B1)) ?_
            rintro e w2 ⟨rfl, b2⟩
            dsimp only
            go_wp2_with fail
            go_ret2
            exact ⟨by rw [HV.out]; rfl, below_seq (HE.out _ B1) b2⟩
end Go.Proofs.Ytibmnpkmbhjniaa
