/- Long lists: what is asked of them. -/
import Derived.Test.YtibmnpkmbhjniaaLst
namespace Go.Proofs.Ytibmnpkmbhjniaa
set_option linter.unusedVariables false
set_option linter.unusedSimpArgs false
open Go.RowKit
attribute [local go_sem ↓] Go.wp_at_zero Go.wp_at_succ
attribute [local go_sem ↓] slPe sl9
theorem app_oneB {ops : Array Oper} {rest : List Oper} {o : Oper} {a : Act} {Q : Exit → Act → World → Prop} {W : World} (hgd : o.guard = none) (s x : Operand) (ho : o.op = .call { callee := .builtin .append, args := #[s, x], argTypes := #[22, 22] })
    {base : Nat} {w : World} {v : Value} {l : List En} {g : Nat} (p : En) (hW : W = w.alloc (.cells #[str p.key, str p.val] 43)) (hO : Ow base w v l) (hg : g = w.heap.size) (hn : l.length ≤ 4500000000000)
    (hs : a.eval s = v) (hx : a.eval x = .slice (some ⟨g, 0, none⟩) 1 1)
    (h : ∀ v' w', Ow base w' v' (l ++ [p]) → Below base w w' → wpList Try.prog ops Q rest (a.put o.dst v') w') :
    wpList Try.prog ops Q (o :: rest) a W := by
  obtain ⟨i0, hi0, hz0, hz1, hz2⟩ := infoP
  subst hW hg
  have hm : maxLen = 9223372036854775807 := rfl
  refine wpList_append_own_wide _ hgd s x 22 ho base 43 i0 _ 2 32 Try.underlying22 hi0 hz0 hz1 hz2 rfl (by omega) v l.length (pcells l) hs (hO.own.alloc _) _ 1 1 (pcs p) hx rfl
    (World.news_of_block (cs := #[str p.key, str p.val]) (t := 43) (fr := (0, 0)) (heap_alloc_new w _)) (by simp [pcs, Value.oneCell']) (by rw [hm]; omega) (by omega) (by have := hO.le; simp; omega) ?_
  intro v' w' hown hgrow _
  refine h v' w' ⟨?_, ?_⟩ ?_
  · rw [pcells_append, List.length_append]
    have : pcells [p] = pcs p := by simp [pcells]
    rw [this]; exact hown
  · have := hgrow.size; have h2 := hO.le; simp at this; omega
  · exact ((Below.refl _ _).alloc hO.le _).trans (grown_below (hO.own.alloc _) (by have := hO.le; simp; omega) hgrow)
theorem app_sliceB {ops : Array Oper} {rest : List Oper} {o : Oper} {a : Act} {Q : Exit → Act → World → Prop} {w : World} (hgd : o.guard = none) (s x : Operand) (ho : o.op = .call { callee := .builtin .append, args := #[s, x], argTypes := #[22, 22] })
    {base : Nat} {v : Value} {l : List En} {ad : Option Addr} {k c : Nat} (q : List En) (hO : Ow base w v l) (hS : Sl w ad c q) (hk : q.length = k) (hn : l.length + q.length ≤ 4500000000000)
    (hs : a.eval s = v) (hx : a.eval x = .slice ad k c)
    (h : ∀ v' w', Ow base w' v' (l ++ q) → Below base w w' → wpList Try.prog ops Q rest (a.put o.dst v') w') :
    wpList Try.prog ops Q (o :: rest) a w := by
  obtain ⟨i0, hi0, hz0, hz1, hz2⟩ := infoP
  have hm : maxLen = 9223372036854775807 := rfl
  subst hk
  cases ad with
  | none =>
    have hc := hS.nil rfl
    have h0 : q.length = 0 := by have := hS.le; omega
    have hq : q = [] := List.eq_nil_of_length_eq_zero h0
    subst hq hc
    refine wpList_plain hgd fun K hK' => ?_
    have hrun := run_append_owned_none (P := Try.prog) w base 22 o.type 43 i0 2 Try.underlying22 hi0 _ l.length (pcells l) hO.own
    unfold Oper.wp
    simp [execOp, ho, resolve, invoke, builtin, hs, hx, hrun, Result.andThen]
    exact hK' _ _ (h v w (by simpa using hO) (Below.refl _ _))
  | some ad =>
    have hspot : q.length = 0 ∨ ad.spot = none := by
      rcases Nat.eq_zero_or_pos q.length with h0 | h0
      · exact Or.inl h0
      · obtain ⟨b, off, e, _⟩ := hS.at'.get 0 q[0] (List.getElem?_eq_getElem h0)
        injection e with e
        exact Or.inr (by rw [e])
    have hcells : ∀ j u, (pcells q)[j]? = some u → w.cell? (ad.add j) = some u := by
      rcases hspot with h0 | h0
      · intro j u hj
        have hq : q = [] := List.eq_nil_of_length_eq_zero h0
        subst hq
        simp [pcells] at hj
      · obtain ⟨b, off, sp⟩ := ad
        simp at h0
        subst h0
        exact hS.at'.cells
    refine wpList_append_own_wide _ hgd s x 22 ho base 43 i0 _ 2 32 Try.underlying22 hi0 hz0 hz1 hz2 rfl (by omega) v l.length (pcells l) hs hO.own ad q.length c (pcells q) hx (pcells_length q) hcells (pcells_one q) (by rw [hm]; omega) (by omega) hO.le ?_
    intro v' w' hown hgrow _
    refine h v' w' ⟨?_, ?_⟩ (grown_below hO.own hO.le hgrow)
    · rw [pcells_append, List.length_append]; exact hown
    · have := hgrow.size; have h2 := hO.le; omega
theorem indexFunc_anyB (l : List En) (w : World) (a : Option Addr) (cap : Nat) (hP : PIn w a l) (hl : l.length ≤ 4500000000000) :
    Calls Try.prog 52 #[.slice a l.length cap, .func (.func 47) #[] #[]] w fun e w' => ∃ z : Int, e = .returned (.int .i64 z) ∧ decide (0 ≤ z) = l.any lng ∧ Below w.heap.size w w' := by
  go_enter Try.func52, Try.ntmps52
  go_wp2_with fail
  go_loopw [8] (fun i wr => ∃ k : Nat, k ≤ l.length ∧ i = .int .i64 (k : Int) ∧ (l.take k).any lng = false ∧ Below w.heap.size w wr) (fun i _ => l.length - (intOf i).toNat)
  case atStart => exact ⟨0, by omega, rfl, rfl, Below.refl _ _⟩
  case round =>
    obtain ⟨k, hk, rfl, ha, hb⟩ := hrel
    by_cases h1 : k < l.length
    · have d1 : decide ((k : Int) < (l.length : Int)) = true := decide_eq_true (by omega)
      have k2 : (k : Int) < (l.length : Int) := by omega
      obtain ⟨p, hp⟩ : ∃ p, l[k]? = some p := ⟨l[k], List.getElem?_eq_getElem h1⟩
      obtain ⟨b, off, rfl, hbl, c0, c1⟩ := (hP.later hb).get k p hp
      have hi := fun w => isLong_any p w
      by_cases hg : lng p = true
      · rw [hg] at hi
        have HA : Hid (l.any lng = true) := ⟨by rw [List.any_eq_true]; exact ⟨p, List.mem_of_getElem? hp, hg⟩⟩
        clear hg ha
        go_wp2_with (go_at_call 47; refine (hi _).mono ?_; rintro e w1 ⟨rfl, hb1⟩)
        go_ret
        exact ⟨_, rfl, by rw [HA.out]; exact decide_eq_true (by omega), hb.trans (hb1.mono hb.size)⟩
      · have hg' : lng p = false := by simpa using hg
        rw [hg'] at hi
        have HA : Hid ((l.take (k + 1)).any lng = false) := ⟨by rw [take_succ' hp, List.any_append, ha]; simp [hg']⟩
        clear hg hg' ha
        go_wp2_with (go_at_call 47; refine (hi _).mono ?_; rintro e w1 ⟨rfl, hb1⟩)
        exact ⟨⟨k + 1, by omega, by go_num, HA.out, hb.trans (hb1.mono hb.size)⟩, by simp [intOf]; omega⟩
    · obtain rfl : k = l.length := by omega
      have d1 : decide ((l.length : Int) < (l.length : Int)) = false := decide_eq_false (by omega)
      rw [List.take_length] at ha
      have HA := Hid.mk ha
      clear ha
      go_wp2_with fail
      go_ret
      exact ⟨_, rfl, by rw [HA.out]; decide, hb⟩
theorem containsFunc_anyB (l : List En) (w : World) (a : Option Addr) (cap : Nat) (hP : PIn w a l) (hl : l.length ≤ 4500000000000) :
    Calls Try.prog 46 #[.slice a l.length cap, .func (.func 47) #[] #[]] w fun e w' => e = .returned (.bool (l.any lng)) ∧ Below w.heap.size w w' := by
  have hi := indexFunc_anyB l w a cap hP hl
  go_enter Try.func46, Try.ntmps46
  go_wp2_with (go_at_call 52; refine hi.mono ?_; rintro e w1 ⟨z, rfl, hz, hb1⟩)
  go_ret
  exact ⟨by rw [← hz]; rfl, hb1⟩
set_option maxHeartbeats 1000000 in
theorem isSorted_anyB (l : List En) (w : World) (a : Option Addr) (cap : Nat) (hP : PIn w a l) (hl : l.length ≤ 4500000000000) :
    Calls Try.prog 48 #[.slice a l.length cap] w fun e w' => e = .returned (.bool (srtb l)) ∧ Below w.heap.size w w' := by
  go_enter Try.func48, Try.ntmps48
  go_wp2_with fail
  go_loopw [3] (fun i wr => ∃ k : Nat, 1 ≤ k ∧ k ≤ l.length + 1 ∧ i = .int .i64 (k : Int) ∧ Hid (∀ q x y, q + 1 < k → l[q]? = some x → l[q + 1]? = some y → lt x.key y.key) ∧ Below w.heap.size w wr) (fun i _ => l.length + 1 - (intOf i).toNat)
  case atStart => exact ⟨1, by omega, by omega, rfl, ⟨fun q x y h => by omega⟩, Below.refl _ _⟩
  case round =>
    obtain ⟨k, hk0, hk, rfl, HI, hb⟩ := hrel
    by_cases h1 : k < l.length
    · have d1 : decide ((k : Int) < (l.length : Int)) = true := decide_eq_true (by omega)
      have k2 : (k : Int) < (l.length : Int) := by omega
      have k3 : (k : Int) - 1 < (l.length : Int) := by omega
      obtain ⟨p, hp⟩ : ∃ p, l[k - 1]? = some p := ⟨l[k - 1]'(by omega), List.getElem?_eq_getElem (by omega)⟩
      obtain ⟨q, hq⟩ : ∃ p, l[k]? = some p := ⟨l[k], List.getElem?_eq_getElem h1⟩
      obtain ⟨b, off, rfl, hbl, c0, c1⟩ := (hP.later hb).get (k - 1) p hp
      obtain ⟨b2, off2, e2, _, f0, f1⟩ := (hP.later hb).get k q hq
      injection e2 with e2
      injection e2 with e3 e4
      subst e3 e4
      by_cases h2 : lt p.key q.key
      · have HN : Hid (∀ q x y, q + 1 < k + 1 → l[q]? = some x → l[q + 1]? = some y → lt x.key y.key) := ⟨fun j x y hj hx hy => by
          rcases Nat.lt_or_ge (j + 1) k with h3 | h3
          · exact HI.out j x y h3 hx hy
          · have : j = k - 1 := by omega
            subst this
            rw [hp] at hx; rw [show k - 1 + 1 = k by omega, hq] at hy
            cases hx; cases hy; exact h2⟩
        have d2 : Go.Op.bytesLess p.key q.key = true := by rw [bytesLess_eq]; exact decide_eq_true h2
        clear h2
        go_wp2_with fail
        go_quiet (fail)
        go_wp2_with fail
        exact ⟨⟨k + 1, by omega, by omega, by go_num, HN, below_dN hb nq⟩, by simp [intOf]; omega⟩
      · have HS : Hid (srtb l = false) := ⟨srtb_false fun hs => h2 (hs.get (by omega) hp hq)⟩
        have d2 : Go.Op.bytesLess p.key q.key = false := by rw [bytesLess_eq]; exact decide_eq_false h2
        clear h2
        go_wp2_with fail
        go_quiet (fail)
        go_wp2_with fail
        go_ret
        exact ⟨by rw [HS.out]; rfl, below_dN hb nq⟩
    · have d1 : decide ((k : Int) < (l.length : Int)) = false := decide_eq_false (by omega)
      have HS : Hid (srtb l = true) := ⟨srtb_true (srt_of fun i x y hx hy => HI.out i x y (by have := (List.getElem?_eq_some_iff.1 hy).1; omega) hx hy)⟩
      go_wp2_with fail
      go_ret
      exact ⟨by rw [HS.out]; rfl, hb⟩
set_option maxHeartbeats 2000000 in
theorem fault_anyB (kind link : Int) (l : List En) (w : World) (a : Option Addr) (cap : Nat) (hP : PIn w a l) (hl : l.length ≤ 4500000000000) :
    Calls Try.prog 33 #[pgv kind link (.slice a l.length cap)] w fun e w' => e = .returned (.int .i64 (flt kind link l)) ∧ Below w.heap.size w w' := by
  by_cases h0 : kind < 0 ∨ 255 < kind ∨ link < 0 ∨ 65535 < link
  · have HV : Hid (flt kind link l = 1) := ⟨by unfold flt; rw [if_pos h0]⟩
    generalize flt kind link l = FF at *
    obtain ⟨rfl⟩ := HV
    rcases Int.lt_or_le kind 0 with q1 | q1
    · have d1 := decide_eq_true q1
      go_enter Try.func33, Try.ntmps33
      go_wp2_with fail
      go_ret
      exact ⟨rfl, (Below.refl _ _).alloc (Nat.le_refl _) _⟩
    · have d1 : decide (kind < 0) = false := decide_eq_false (by omega)
      rcases Int.lt_or_le 255 kind with q2 | q2
      · have d2 := decide_eq_true q2
        go_enter Try.func33, Try.ntmps33
        go_wp2_with fail
        go_ret
        exact ⟨rfl, (Below.refl _ _).alloc (Nat.le_refl _) _⟩
      · have d2 : decide (255 < kind) = false := decide_eq_false (by omega)
        rcases Int.lt_or_le link 0 with q3 | q3
        · have d3 := decide_eq_true q3
          go_enter Try.func33, Try.ntmps33
          go_wp2_with fail
          go_ret
          exact ⟨rfl, (Below.refl _ _).alloc (Nat.le_refl _) _⟩
        · have d3 : decide (link < 0) = false := decide_eq_false (by omega)
          have d4 : decide (65535 < link) = true := decide_eq_true (by omega)
          go_enter Try.func33, Try.ntmps33
          go_wp2_with fail
          go_ret
          exact ⟨rfl, (Below.refl _ _).alloc (Nat.le_refl _) _⟩
  · have d1 : decide (kind < 0) = false := decide_eq_false (by omega)
    have d2 : decide (255 < kind) = false := decide_eq_false (by omega)
    have d3 : decide (link < 0) = false := decide_eq_false (by omega)
    have d4 : decide (65535 < link) = false := decide_eq_false (by omega)
    have hc := fun w h => containsFunc_anyB l w a cap h hl
    have hz := fun w h => Size_any l w a cap h (by omega)
    have hi := fun w h => isSorted_anyB l w a cap h hl
    by_cases h1 : l.any lng = true
    · have HV : Hid (flt kind link l = 3) := ⟨by unfold flt; rw [if_neg h0, if_pos (Or.inl h1)]⟩
      rw [h1] at hc
      generalize flt kind link l = FF at *
      obtain ⟨rfl⟩ := HV
      clear h0 h1
      go_enter Try.func33, Try.ntmps33
      go_wp2_with (go_at_call 46; refine (hc _ (hP.later ((Below.refl _ _).alloc (Nat.le_refl _) _))).mono ?_; rintro e w1 ⟨rfl, hb1⟩; obtain ⟨e0, e1, e2⟩ := new3 hb1)
      go_ret
      exact ⟨rfl, ((Below.refl _ _).alloc (Nat.le_refl _) _).trans (hb1.mono (by simp))⟩
    · have h1' : l.any lng = false := by simpa using h1
      rw [h1'] at hc
      have ht := tot_short (any_false h1')
      have htw : totw l = (tot l : Int) := wrap_small (by omega) (by omega)
      rw [htw] at hz
      by_cases h2 : 507 < tot l
      · have HV : Hid (flt kind link l = 3) := ⟨by unfold flt; rw [if_neg h0, if_pos (Or.inr h2)]⟩
        have d5 : decide ((507 : Int) < (tot l : Int)) = true := decide_eq_true (by omega)
        generalize flt kind link l = FF at *
        obtain ⟨rfl⟩ := HV
        generalize tot l = TT at *
        clear h0 h1 h1' h2 htw
        go_enter Try.func33, Try.ntmps33
        go_wp2_with (first
          | (go_at_call 46; refine (hc _ (hP.later ((Below.refl _ _).alloc (Nat.le_refl _) _))).mono ?_; rintro e w1 ⟨rfl, hb1⟩; obtain ⟨e0, e1, e2⟩ := new3 hb1)
          | (go_at_call 14; refine (hz _ ((hP.later ((Below.refl _ _).alloc (Nat.le_refl _) _)).later hb1)).mono ?_; rintro e w2 ⟨rfl, hb2⟩; obtain ⟨f0, f1, f2⟩ := new3 (below_seq hb1 hb2)))
        go_ret
        exact ⟨rfl, ((Below.refl _ _).alloc (Nat.le_refl _) _).trans ((below_seq hb1 hb2).mono (by simp))⟩
      · have d5 : decide ((507 : Int) < (tot l : Int)) = false := decide_eq_false (by omega)
        have HV : Hid (flt kind link l = if srtb l = true then 0 else 4) := ⟨by unfold flt; rw [if_neg h0, if_neg (by rw [h1']; simp; omega)]⟩
        generalize flt kind link l = FF at *
        obtain ⟨rfl⟩ := HV
        generalize tot l = TT at *
        clear h0 h1 h1' h2 htw
        generalize srtb l = BB at *
        cases BB
        all_goals go_enter Try.func33, Try.ntmps33
        all_goals go_wp2_with (first
          | (go_at_call 46; refine (hc _ (hP.later ((Below.refl _ _).alloc (Nat.le_refl _) _))).mono ?_; rintro e w1 ⟨rfl, hb1⟩; obtain ⟨e0, e1, e2⟩ := new3 hb1)
          | (go_at_call 14; refine (hz _ ((hP.later ((Below.refl _ _).alloc (Nat.le_refl _) _)).later hb1)).mono ?_; rintro e w2 ⟨rfl, hb2⟩; obtain ⟨f0, f1, f2⟩ := new3 (below_seq hb1 hb2))
          | (go_at_call 48; refine (hi _ ((hP.later ((Below.refl _ _).alloc (Nat.le_refl _) _)).later (below_seq hb1 hb2))).mono ?_; rintro e w3 ⟨rfl, hb3⟩))
        all_goals go_ret
        all_goals exact ⟨rfl, ((Below.refl _ _).alloc (Nat.le_refl _) _).trans ((below_seq (below_seq hb1 hb2) hb3).mono (by simp))⟩
set_option maxHeartbeats 4000000 in
theorem write_anyB (kind link : Int) (l : List En) (w : World) (a : Option Addr) (n cap : Nat) (hn : l.length = n) (hP : PIn w a l) (hl : l.length ≤ 4500000000000) :
    Calls Try.prog 11 #[pgv kind link (.slice a n cap)] w fun e w' => e = .returned (wrote kind link l) ∧ Below w.heap.size w w' := by
  subst hn
  have hf := fault_anyB kind link l
  by_cases h0 : flt kind link l = 0
  · have HW : Hid (wrote kind link l = .tuple #[str (blk kind link l), .int .i64 0]) := ⟨by unfold wrote; rw [h0]; rfl⟩
    obtain ⟨hk, hlg, ht, hs⟩ := flt_zero h0
    rw [h0] at hf
    obtain ⟨K, rfl⟩ : ∃ K : Nat, kind = (K : Int) := ⟨kind.toNat, by omega⟩
    obtain ⟨J, rfl⟩ : ∃ J : Nat, link = (J : Int) := ⟨link.toNat, by omega⟩
    have hK : K ≤ 255 := by omega
    have hJ : J ≤ 65535 := by omega
    have hl2 := tot_len l
    have hl3 : l.length ≤ 253 := by omega
    have H0 : Hid (blk (K : Int) (J : Int) l = [UInt8.ofNat K] ++ n2 J ++ n2 l.length ++ body l ++ List.replicate (507 - tot l) 0) := ⟨by simp [blk, blk0]⟩
    have HS : Hid (∀ (k : Nat) (e : En), l[k]? = some e → e.key.length ≤ 100 ∧ e.val.length ≤ 150) := ⟨fun k e he => lng_sz (any_false hlg e (List.mem_of_getElem? he))⟩
    generalize blk (K : Int) (J : Int) l = BB at *
    have HF : Hid (∀ w1 : World, w.heap.size + 1 ≤ w1.heap.size → ∃ w', (Instr.makeSlice 62 (.int .i64 0) (.int .i64 512)).run Try.prog w1 = .ok (.slice (some ⟨w1.heap.size, 0, none⟩) 0 512) w' ∧ Ob (w.heap.size + 1) w' (.slice (some ⟨w1.heap.size, 0, none⟩) 0 512) [] ∧ Below (w.heap.size + 1) w1 w') := ⟨fun w1 h1 => by
      obtain ⟨i0, hi0, hz0, hz1, hz2⟩ := info5
      obtain ⟨w', a1, a2, a3⟩ := run_make_own (P := Try.prog) w1 (w.heap.size + 1) 62 5 i0 _ 1 Try.underlying62 hi0 hz0 hz1 .i64 .i64 512 (by rw [hz2]; omega) (by unfold maxLen; omega) h1
      exact ⟨w', a1, ⟨a2, Nat.le_trans h1 a3.size⟩, (Below.refl _ _).grown a3 h1 (fun k0 hk0 => by cases hk0)⟩⟩
    have PB : Hid (∀ w', Below (w.heap.size + 1) (w.alloc (.cells #[.int .i64 (K : Int), .int .i64 (J : Int), .slice a l.length cap] 29)) w' → w'.cell? ⟨w.heap.size, 0, none⟩ = some (.int .i64 (K : Int)) ∧ w'.cell? ⟨w.heap.size, 1, none⟩ = some (.int .i64 (J : Int)) ∧ w'.cell? ⟨w.heap.size, 2, none⟩ = some (.slice a l.length cap)) := ⟨fun w' hb => box3 (t := 29) (by rw [hb.block _ (by omega)]; exact heap_alloc_new _ _)⟩
    have PL : Hid (∀ w', Below (w.heap.size + 1) (w.alloc (.cells #[.int .i64 (K : Int), .int .i64 (J : Int), .slice a l.length cap] 29)) w' → PIn w' a l) := ⟨fun w' hb => (hP.later ((Below.refl _ _).alloc (Nat.le_refl _) _)).later (hb.mono (by simp))⟩
    have HE : Hid (∀ w', Below (w.heap.size + 1) (w.alloc (.cells #[.int .i64 (K : Int), .int .i64 (J : Int), .slice a l.length cap] 29)) w' → Below w.heap.size w w') := ⟨fun w' hb => ((Below.refl _ _).alloc (Nat.le_refl _) _).trans (hb.mono (by omega))⟩
    clear h0 hlg hs hk
    go_enter Try.func11, Try.ntmps11
    go_wp2_with (first
      | (go_at_call 33; refine (hf _ a cap (hP.later ((Below.refl _ _).alloc (Nat.le_refl _) _)) hl).mono ?_; rintro e w1 ⟨rfl, hb1⟩; obtain ⟨e0, e1, e2⟩ := new3 hb1; have hz1 := hb1.size; simp only [World.size_alloc] at hz1; obtain ⟨w2, hm2, o2, b2⟩ := HF.out w1 hz1; have X2 := Hid.mk ((hb1.mono (by simp)).trans b2); obtain ⟨f0, f1, f2⟩ := PB.out _ X2.out)
      | (refine app_byteg (UInt8.ofNat K) o2 rfl (by simp) (by rw [byte_of]; omega) rfl _ _ rfl rfl rfl ?_; intro v3 w3 o3 b3; have X3 := Hid.mk (X2.out.trans b3); obtain ⟨g0, g1, g2⟩ := PB.out _ X3.out; clear hm2 f0 f1 f2 e0 e1 e2)
      | (go_at_call 34; refine (appendNumber_any J hJ o3 (by simp)).mono ?_; rintro e w4 ⟨v4, rfl, o4, b4⟩; have X4 := Hid.mk (X3.out.trans b4); obtain ⟨h0, h1, h2⟩ := PB.out _ X4.out; clear g0 g1 g2 o3)
      | (go_at_call 34; refine (appendNumber_any l.length (by omega) o4 (by simp [n2])).mono ?_; rintro e w5 ⟨v5, rfl, o5, b5⟩; have X5 := Hid.mk (X4.out.trans b5); obtain ⟨i0, i1, i2⟩ := PB.out _ X5.out; clear h0 h1 h2))
    clear b2 b3 b4 b5 X2 X3 X4 o2 o4 hb1
    go_loopw [5, 32] (fun b i wr => ∃ k : Nat, k ≤ l.length ∧ i = .int .i64 (k : Int) ∧ Hid (Ob (w.heap.size + 1) wr b ([UInt8.ofNat K] ++ n2 J ++ n2 l.length ++ body (l.take k)) ∧ Below (w.heap.size + 1) (w.alloc (.cells #[.int .i64 (K : Int), .int .i64 (J : Int), .slice a l.length cap] 29)) wr)) (fun _ i _ => l.length - (intOf i).toNat)
    case atStart => exact ⟨0, by omega, rfl, ⟨by simpa [body] using o5, X5.out⟩⟩
    case round =>
      clear o5 X5 i0 i1 i2
      obtain ⟨k, hk, rfl, HO⟩ := hrel
      by_cases hlt : k < l.length
      · have hd : decide ((k : Int) < (l.length : Int)) = true := decide_eq_true (by omega)
        obtain ⟨p, hp⟩ : ∃ p, l[k]? = some p := ⟨l[k], List.getElem?_eq_getElem hlt⟩
        obtain ⟨b, off, rfl, hbl, c0, c1⟩ := (PL.out _ HO.out.2).get k p hp
        obtain ⟨s1, s2⟩ := HS.out k p hp
        have hbo : (body (l.take k)).length ≤ 507 := by
          rw [body_length]
          have := tot_split l k
          omega
        have HN := Hid.mk (body_take hp)
        have HL : Hid (([UInt8.ofNat K] ++ n2 J ++ n2 l.length ++ body (l.take k)).length ≤ 1000) := ⟨by simp [n2]; omega⟩
        generalize hLL : [UInt8.ofNat K] ++ n2 J ++ n2 l.length ++ body (l.take k) = LL at *
        have HO1 := Hid.mk (HO.out.1.alloc (.cells #[str p.key, str p.val] 43))
        have hne := ob_lt HO.out.1
        go_wp2_with (first
          | (refine app_twok rfl _ _ rfl (UInt8.ofNat p.key.length) (UInt8.ofNat p.val.length) rfl HO1.out (by simp) (by have := HL.out; omega) (by rw [byte_of]; omega) (by rw [byte_of]; omega) rfl rfl ?_; intro v3 w3 o3 b3 k3; obtain ⟨q3, q4⟩ := k3 wr.heap.size (by simp) hne; rw [heap_alloc_new] at q3; obtain ⟨j0, j1⟩ := box2 q3)
          | (refine app_strk p.key o3 (by have := HL.out; simp; omega) rfl _ _ rfl rfl rfl ?_; intro v4 w4 o4 b4 k4; have q5 := k4 wr.heap.size (by have := b3.size; simp at this; omega) q4; rw [q3] at q5; obtain ⟨m0, m1⟩ := box2 q5; clear j0 j1)
          | (refine app_strk p.val o4 (by have := HL.out; simp; omega) rfl _ _ rfl rfl rfl ?_; intro v5 w5 o5 b5 k5))
        exact ⟨⟨k + 1, by omega, by go_num, ⟨by rw [HN.out]; simpa [hLL.symm, ent] using o5, (((HO.out.2.alloc (by have := HO.out.2.size; simp at this; omega) _).trans b3).trans b4).trans b5⟩⟩, by simp [intOf]; omega⟩
      · obtain rfl : k = l.length := by omega
        have hd : decide ((l.length : Int) < (l.length : Int)) = false := decide_eq_false (by omega)
        rw [List.take_length] at HO
        have hLn : ([UInt8.ofNat K] ++ n2 J ++ n2 l.length ++ body l).length = 5 + tot l := by simp [n2, body_length]; omega
        obtain ⟨ab, cb, rfl, hcb⟩ := HO.out.1.form
        obtain ⟨v9, w9, hr, o9, b9⟩ := run_append_str wr (List.replicate (507 - tot l) 0) 62 HO.out.1 (by rw [hLn, List.length_replicate]; omega)
        have hr2 := run_append_zeros wr 62 ab ([UInt8.ofNat K] ++ n2 J ++ n2 l.length ++ body l).length cb (507 - tot l) (by omega) (by omega) hcb
        rw [hr] at hr2
        rw [← H0.out] at o9
        have hcv := conv_own o9
        rw [hLn] at hr2 ⊢
        have hnum : wrap64 (512 - ((5 + tot l : Nat) : Int)) = ((507 - tot l : Nat) : Int) := by rw [wrap_small] <;> omega
        have HB := Hid.mk (HE.out _ (HO.out.2.trans b9))
        generalize 507 - tot l = ZZ at *
        generalize 5 + tot l = YY at *
        clear hLn hr HO b9 o9
        go_wp2_with (refine app_run rfl _ _ rfl rfl (by simp [Act.eval, Act.put, hnum]) hr2 ?_)
        go_ret2
        exact ⟨by rw [HW.out]; rfl, HB.out⟩
  · have HW : Hid (wrote kind link l = .tuple #[str [], .int .i64 (flt kind link l)]) := ⟨by unfold wrote; rw [if_neg h0]⟩
    have d0 : (flt kind link l != 0) = true := by rw [bne_iff_ne]; exact h0
    generalize flt kind link l = FF at *
    clear h0
    go_enter Try.func11, Try.ntmps11
    go_wp2_with (go_at_call 33; refine (hf _ a cap (hP.later ((Below.refl _ _).alloc (Nat.le_refl _) _)) hl).mono ?_; rintro e w1 ⟨rfl, hb1⟩)
    go_ret2
    exact ⟨by rw [HW.out]; rfl, ((Below.refl _ _).alloc (Nat.le_refl _) _).trans (hb1.mono (by simp))⟩
set_option maxHeartbeats 1000000 in
theorem same_anyB (a b : List En) (w : World) (pa pb : Option Addr) (na nb ca cb : Nat) (hna : a.length = na) (hnb : b.length = nb) (hA : PIn w pa a) (hB : PIn w pb b) (la : a.length ≤ 4500000000000) (lb : b.length ≤ 4500000000000) :
    Calls Try.prog 13 #[.slice pa na ca, .slice pb nb cb] w fun e w' => e = .returned (.bool (same a b)) ∧ Below w.heap.size w w' := by
  subst hna hnb
  by_cases hl : a.length = b.length
  · have d0 : ((a.length : Int) != (b.length : Int)) = false := by rw [bne_eq_false_iff_eq]; omega
    go_enter Try.func13, Try.ntmps13
    have HL : Hid (a.length = b.length) := ⟨hl⟩
    clear hl
    go_wp2_with fail
    go_loopw [5] (fun i wr => ∃ k : Nat, k ≤ a.length ∧ i = .int .i64 (k : Int) ∧ a.take k = b.take k ∧ Below w.heap.size w wr) (fun i _ => a.length - (intOf i).toNat)
    case atStart => exact ⟨0, by omega, rfl, by simp, Below.refl _ _⟩
    case round =>
      obtain ⟨k, hk, rfl, hab, hb⟩ := hrel
      by_cases h1 : k < a.length
      · have d1 : decide ((k : Int) < (a.length : Int)) = true := decide_eq_true (by omega)
        have h2 : k < b.length := by rw [← HL.out]; exact h1
        have k2 : (k : Int) < (b.length : Int) := by omega
        obtain ⟨p, hp⟩ : ∃ p, a[k]? = some p := ⟨a[k], List.getElem?_eq_getElem h1⟩
        obtain ⟨b1, off1, rfl, hbl, c0, c1⟩ := (hA.later hb).get k p hp
        obtain ⟨q, hq⟩ : ∃ q, b[k]? = some q := ⟨b[k], List.getElem?_eq_getElem h2⟩
        obtain ⟨b2, off2, rfl, hbl2, e0, e1⟩ := (hB.later hb).get k q hq
        by_cases hpq : p = q
        · subst hpq
          have HT : Hid (a.take (k + 1) = b.take (k + 1)) := ⟨take_next hp hq hab⟩
          clear hab
          go_wp2_with fail
          go_quiet (fail)
          go_wp2_with fail
          exact ⟨⟨k + 1, by omega, by go_num, HT.out, below_dN hb nq⟩, by simp [intOf]; omega⟩
        · have HS : Hid (same a b = false) := ⟨same_false (take_ne hp hq hpq)⟩
          clear hab
          obtain ⟨pk, pt⟩ := p
          obtain ⟨qk, qt⟩ := q
          dsimp only at *
          by_cases h3 : pk = qk
          · subst h3
            have d5 : (pt == qt) = false := by rw [beq_eq_false_iff_ne]; rintro rfl; exact hpq rfl
            clear hpq
            go_wp2_with fail
            go_quiet (fail)
            go_wp2_with fail
            go_ret
            exact ⟨by rw [HS.out]; rfl, below_dN hb nq⟩
          · have d5 : (pk == qk) = false := by rw [beq_eq_false_iff_ne]; exact h3
            clear hpq
            go_wp2_with fail
            go_quiet (fail)
            go_wp2_with fail
            go_ret
            exact ⟨by rw [HS.out]; rfl, below_dN hb nq⟩
      · obtain rfl : k = a.length := by omega
        have d1 : decide ((a.length : Int) < (a.length : Int)) = false := decide_eq_false (by omega)
        have HS : Hid (same a b = true) := ⟨same_true (by have e := HL.out; rw [List.take_length] at hab; rw [hab, e, List.take_length])⟩
        clear hab
        go_wp2_with fail
        go_ret
        exact ⟨by rw [HS.out]; rfl, hb⟩
  · have d0 : ((a.length : Int) != (b.length : Int)) = true := by rw [bne_iff_ne]; omega
    have HS : Hid (same a b = false) := ⟨same_false (fun e => hl (by rw [e]))⟩
    go_enter Try.func13, Try.ntmps13
    go_wp2_with fail
    go_ret
    exact ⟨by rw [HS.out]; rfl, Below.refl _ _⟩
theorem lent_anyB (l : List En) (w : World) (a : Option Addr) (n cap : Nat) (hn : l.length = n) (hS : Sl w a cap l) (hl : l.length ≤ 4400000000000) :
    Calls Try.prog 24 #[.slice a n cap] w fun e w' => ∃ ad c, e = .returned (.slice ad l.length c) ∧ Ow w.heap.size w' (.slice ad (l.length + 1) c) (l ++ [mk]) ∧ Below w.heap.size w w' := by
  subst hn
  go_enter Try.func24, Try.ntmps24
  go_wp2_with (first
    | (refine app_sliceB rfl _ _ rfl l (Ow.nil _ w.heap.size (Nat.le_refl _)) hS rfl (by simp; omega) rfl rfl ?_; intro v1 w1 o1 b1)
    | (refine app_oneB rfl _ _ rfl mk rfl o1 rfl (by simp; omega) rfl rfl ?_; intro v2 w2 o2 b2; obtain ⟨a2, c2, rfl, s2⟩ := o2.sl; rw [List.nil_append] at s2 o2; have hr := fun w => run_slP a2 (l.length + 1) c2 l.length (by have := s2.le; simp at this; omega) s2.max s2.nil w))
  go_ret
  refine ⟨a2, c2, rfl, ?_, b1.trans b2⟩
  simpa using o2
theorem kept_anyB (l : List En) (w : World) (ad a : Option Addr) (n c cap : Nat) (hn : l.length = n) (hM : Sl w ad c (l ++ [mk])) (hL : PIn w a l) (hl : l.length ≤ 4400000000000) :
    Calls Try.prog 27 #[.slice ad n c, .slice a n cap] w fun e w' => e = .returned (.bool true) ∧ Below w.heap.size w w' := by
  subst hn
  have hs := same_anyB l l w ad a l.length l.length c cap rfl rfl hM.head.at' hL (by omega) (by omega)
  rw [same_true rfl] at hs
  have hle : l.length + 1 ≤ c := by have := hM.le; simp at this; exact this
  have hr : ∀ w, (slP (.slice ad l.length c) none (some (.int .i64 ((l.length : Int) + 1))) none).run Try.prog w = .ok (.slice ad (l.length + 1) c) w := fun w => run_slP ad l.length c (l.length + 1) hle hM.max hM.nil w
  go_enter Try.func27, Try.ntmps27
  go_wp2_with fail
  with_reducible refine Calls.mono hs ?_
  rintro e w1 ⟨rfl, b1⟩
  dsimp only
  obtain ⟨b, off, rfl, hbl, c0, c1⟩ := (hM.later b1).at'.get l.length mk (by simp)
  have hlt : (l.length : Int) < (l.length : Int) + 1 := by omega
  go_wp2_with fail
  go_ret
  exact ⟨rfl, b1⟩
end Go.Proofs.Ytibmnpkmbhjniaa
