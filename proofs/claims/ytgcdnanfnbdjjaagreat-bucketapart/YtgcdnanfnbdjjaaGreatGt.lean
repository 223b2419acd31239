import Derived.Test.YtgcdnanfnbdjjaaGreatRem
import Derived.Test.YtgcdnanfnbdjjaaGreatBm
/- Where the versions of a key stand. -/
namespace Go.Proofs.YtgcdnanfnbdjjaaGreat
set_option linter.unusedVariables false
set_option linter.unusedSimpArgs false
open Go.RowKit
attribute [local go_sem ↓] Go.wp_at_zero Go.wp_at_succ
theorem bL_lt {a b : List UInt8} (h : lt a b) : Go.Op.bytesLess a b = true := by rw [bytesLess_eq]; exact decide_eq_true h
theorem bL_not {a b : List UInt8} (h : ¬ lt a b) : Go.Op.bytesLess a b = false := by rw [bytesLess_eq]; exact decide_eq_false h
theorem cmpS_any (a b : List UInt8) (w : World) : Calls Tryz.prog 61 #[str a, str b] w fun e w' => e = .returned (.int .i64 (bcmp a b)) ∧ w' = w := by
  rcases tri a b with h | h | h
  · have h1 := bL_lt h
    have e : bcmp a b = -1 := h
    rw [e]
    clear h e
    go_enter Tryz.func61, Tryz.ntmps61
    go_wp2
    go_ret
    exact ⟨rfl, rfl⟩
  · subst h
    have h1 := bL_not (lt_irrefl (a := a))
    rw [bcmp_self]
    go_enter Tryz.func61, Tryz.ntmps61
    go_wp2
    go_ret
    exact ⟨rfl, rfl⟩
  · have h1 := bL_lt h
    have h2 := bL_not (lt_asymm h)
    have h3 : (a == b) = false := by rw [beq_eq_false_iff_ne]; rintro rfl; exact lt_irrefl h
    have e : bcmp a b = 1 := by rw [bcmp_neg b a, h]; rfl
    rw [e]
    clear h e
    go_enter Tryz.func61, Tryz.ntmps61
    go_wp2
    go_ret
    exact ⟨rfl, rfl⟩
theorem bplaces1_any (u : Vs) (k : List UInt8) (w : World) (a : Option Addr) (n c : Nat) :
    Calls Tryz.prog 75 #[vv u.key u.seq u.mkr u.data a n c, str k] w fun e w' => e = .returned (.int .i64 (bcmp u.key k)) ∧ Below w.heap.size w w' := by
  have b1 := (Below.refl w.heap.size w).alloc (Nat.le_refl _) (.cells #[str u.key, .int .i64 u.seq, .bool u.mkr, str u.data, .slice a n c] 39)
  have hc := fun w => cmpS_any u.key k w
  generalize bcmp u.key k = C at *
  go_enter Tryz.func75, Tryz.ntmps75
  go_wp2_with (go_at_call 61; refine (hc _).mono ?_; rintro e w1 ⟨rfl, rfl⟩)
  go_ret
  exact ⟨rfl, b1⟩
theorem keyEnd1_any (u : Vs) (k : List UInt8) (w : World) (a : Option Addr) (n c g : Nat) (hg : w.cell? ⟨g, 0, none⟩ = some (str k)) (hgl : g < w.heap.size) :
    Calls Tryz.prog 91 #[vv u.key u.seq u.mkr u.data a n c, .pointer (some ⟨g, 0, none⟩)] w fun e w' => e = .returned (.bool (!(u.key == k))) ∧ Below w.heap.size w w' := by
  have b1 := (Below.refl w.heap.size w).alloc (Nat.le_refl _) (.cells #[str u.key, .int .i64 u.seq, .bool u.mkr, str u.data, .slice a n c] 39)
  have h1 := (b1.cell (p := ⟨g, 0, none⟩) hgl).trans hg
  clear hg
  go_enter Tryz.func91, Tryz.ntmps91
  go_wp2_with fail
  go_ret
  exact ⟨rfl, b1⟩
theorem ken_step {L : List Vs} {k : List UInt8} {i : Nat} {u : Vs} (hu : L[i]? = some u) (he : u.key = k) (h : ∀ j v, j < i → L[j]? = some v → v.key = k) : ∀ j v, j < i + 1 → L[j]? = some v → v.key = k := fun j v hj hv => by
  by_cases e : j = i
  · subst e
    rw [hu] at hv
    injection hv with hv
    subst hv
    exact he
  · exact h j v (by omega) hv
set_option maxHeartbeats 2000000 in
theorem indexK_any (L : List Vs) (s : List UInt8) (w : World) (a : Option Addr) (n cap g : Nat) (hn : L.length = n) (hS : LIn w a L) (hL : L.length ≤ 1954687338300) (hg : w.cell? ⟨g, 0, none⟩ = some (str s)) (hgl : g < w.heap.size) :
    Calls Tryz.prog 90 #[.slice a n cap, .func (.func 91) #[] #[.pointer (some ⟨g, 0, none⟩)]] w fun e w' => e = .returned (.int .i64 (kenI L s)) ∧ Below w.heap.size w w' := by
  subst hn
  go_enter Tryz.func90, Tryz.ntmps90
  go_wp2_with fail
  go_loopw [8] (fun i wr => ∃ k : Nat, k ≤ L.length ∧ i = .int .i64 (k : Int) ∧ Hid (∀ j v, j < k → L[j]? = some v → v.key = s) ∧ Below w.heap.size w wr) (fun i _ => L.length - (intOf i).toNat)
  case atStart => exact ⟨0, by omega, rfl, ⟨fun j v hj => by omega⟩, Below.refl _ _⟩
  case round =>
    obtain ⟨k, hk, rfl, hA, hb⟩ := hrel
    by_cases hlt : k < L.length
    · have d1 : decide ((k : Int) < (L.length : Int)) = true := decide_eq_true (by omega)
      have k2 : (k : Int) < (L.length : Int) := by omega
      obtain ⟨u, hu⟩ : ∃ u, L[k]? = some u := ⟨L[k], List.getElem?_eq_getElem hlt⟩
      obtain ⟨b, off, ma, mc, rfl, hbl, c0, c1, c2, c3, c4, hsl⟩ := (hS.later hb).get k u hu
      have hc := keyEnd1_any u s wr ma u.l.length mc g ((hb.cell (p := ⟨g, 0, none⟩) hgl).trans hg) (Nat.lt_of_lt_of_le hgl hb.size)
      have hw1 : wrap64 ((k : Int) + 1) = ((k + 1 : Nat) : Int) := by unfold wrap64; omega
      by_cases hq : u.key = s
      · have HA : Hid (∀ j v, j < k + 1 → L[j]? = some v → v.key = s) := ⟨ken_step hu hq hA.out⟩
        have dq : (!(u.key == s)) = false := by rw [beq_iff_eq.2 hq]; rfl
        rw [dq] at hc
        clear hu hS hL hq hg hA
        go_wp2_with (go_at_call 91; refine hc.mono ?_; rintro e w1 ⟨rfl, b1⟩)
        exact ⟨⟨k + 1, by omega, by go_num, HA, hb.trans (b1.mono hb.size)⟩, by rw [hw1]; exact lss_meas hlt⟩
      · have HP : Hid (kenI L s = (k : Int)) := ⟨by unfold kenI; rw [ken_at hu hq hA.out, if_pos hlt]⟩
        have dq : (!(u.key == s)) = true := by rw [beq_eq_false_iff_ne.2 hq]; rfl
        rw [dq] at hc
        clear hu hS hL hq hg hA
        go_wp2_with (go_at_call 91; refine hc.mono ?_; rintro e w1 ⟨rfl, b1⟩)
        go_ret
        exact ⟨by rw [HP.out]; rfl, hb.trans (b1.mono hb.size)⟩
    · obtain rfl : k = L.length := by omega
      have d1 : decide ((L.length : Int) < (L.length : Int)) = false := decide_eq_false (by omega)
      have HP : Hid (kenI L s = -1) := ⟨by unfold kenI; rw [ken_all hA.out, if_neg (by omega)]⟩
      go_wp2_with fail
      go_ret
      exact ⟨by rw [HP.out]; rfl, hb⟩
theorem keyEnd_any (L : List Vs) (s : List UInt8) (w : World) (a : Option Addr) (n cap : Nat) (hn : L.length = n) (hS : LIn w a L) (hL : L.length ≤ 1954687338300) :
    Calls Tryz.prog 76 #[.slice a n cap, str s] w fun e w' => e = .returned (.int .i64 (ken L s : Int)) ∧ Below w.heap.size w w' := by
  subst hn
  have b1 := (Below.refl w.heap.size w).alloc (Nat.le_refl _) (.cells #[str s] 9)
  have h1 : (w.alloc (.cells #[str s] 9)).cell? ⟨w.heap.size, 0, none⟩ = some (str s) := by rw [cell_of_row _ _ _ _ _ _ (heap_alloc_new w _)]; rfl
  have hc := indexK_any L s (w.alloc (.cells #[str s] 9)) a L.length cap w.heap.size rfl (hS.later b1) hL h1 (by simp)
  have hk := ken_le L s
  unfold kenI at hc
  by_cases hq : ken L s < L.length
  · rw [if_pos hq] at hc
    generalize ken L s = K at *
    have d1 : decide ((K : Int) < 0) = false := decide_eq_false (by omega)
    clear hS h1 hq hk
    go_enter Tryz.func76, Tryz.ntmps76
    go_wp2_with (go_at_call 90; refine hc.mono ?_; rintro e w1 ⟨rfl, b2⟩)
    go_ret
    exact ⟨rfl, b1.trans (b2.mono b1.size)⟩
  · rw [if_neg hq] at hc
    obtain e : ken L s = L.length := by omega
    rw [e]
    clear hS h1 hq hk e
    go_enter Tryz.func76, Tryz.ntmps76
    go_wp2_with (go_at_call 90; refine hc.mono ?_; rintro e w1 ⟨rfl, b2⟩)
    go_ret
    exact ⟨rfl, b1.trans (b2.mono b1.size)⟩
set_option maxHeartbeats 2000000 in
theorem bsearch_any (L : List Vs) (k : List UInt8) (w : World) (a : Option Addr) (n cap : Nat) (hn : L.length = n) (hP : LIn w a L) (hl : L.length ≤ 1954687338300) :
    Calls Tryz.prog 74 #[.slice a n cap, str k, .func (.func 75) #[] #[]] w fun e w' => (∃ (i : Nat) (t : Bool), e = .returned (.tuple #[.int .i64 (i : Int), .bool t]) ∧ i ≤ L.length ∧ (SrtV L → i = fndV L k)) ∧ Below w.heap.size w w' := by
  subst hn
  have HE : Hid (∀ i : Nat, i ≤ L.length → (∀ j e, j < i → L[j]? = some e → lt e.key k) → (∀ j e, i ≤ j → L[j]? = some e → ¬ lt e.key k) → i = fndV L k) := ⟨fun i h0 h1 h2 => fndV_is h0 h1 h2⟩
  have HS : Hid (SrtV L → ∀ (i j : Nat) (a b : Vs), i ≤ j → L[i]? = some a → L[j]? = some b → ¬ lt b.key a.key) := ⟨fun h i j a b => h.le⟩
  go_enter Tryz.func74, Tryz.ntmps74
  go_wp2_with fail
  go_loopw [9, 10] (fun iv jv wr => ∃ i j : Nat, i ≤ j ∧ j ≤ L.length ∧ iv = .int .i64 (i : Int) ∧ jv = .int .i64 (j : Int) ∧ Hid (SrtV L → (∀ q e, q < i → L[q]? = some e → lt e.key k) ∧ (∀ q e, j ≤ q → L[q]? = some e → ¬ lt e.key k)) ∧ Below w.heap.size w wr) (fun iv jv _ => (intOf jv).toNat - (intOf iv).toNat)
  case atStart => exact ⟨0, L.length, by omega, Nat.le_refl _, rfl, rfl, ⟨fun _ => ⟨fun q e h => by omega, fun q e h he => by rw [List.getElem?_eq_none h] at he; cases he⟩⟩, Below.refl _ _⟩
  case round =>
    obtain ⟨i, j, hij, hj, rfl, rfl, HI, hb⟩ := hrel
    by_cases h1 : i < j
    · have d1 : decide ((i : Int) < (j : Int)) = true := decide_eq_true (by omega)
      obtain ⟨p, hp⟩ : ∃ p, L[(i + j) / 2]? = some p := ⟨L[(i + j) / 2]'(by omega), List.getElem?_eq_getElem (by omega)⟩
      have h2 : i ≤ (i + j) / 2 ∧ (i + j) / 2 < j := by omega
      generalize hh : (i + j) / 2 = h at *
      obtain ⟨b, off, ma, mc, rfl, hbl, c0, c1, c2, c3, c4, hsl⟩ := (hP.later hb).get h p hp
      have hc := fun w => bplaces1_any p k w ma p.l.length mc
      by_cases h3 : lt p.key k
      · rw [h3] at hc
        have HN : Hid (SrtV L → (∀ q e, q < h + 1 → L[q]? = some e → lt e.key k) ∧ (∀ q e, j ≤ q → L[q]? = some e → ¬ lt e.key k)) := ⟨fun hs => ⟨fun q e hq he => by
          rcases Nat.lt_or_ge q h with h4 | h4
          · have := HS.out hs q h e p (Nat.le_of_lt h4) he hp
            rcases tri e.key p.key with z | z | z
            · exact bcmp_trans z h3
            · rw [z]; exact h3
            · exact absurd z this
          · have : q = h := by omega
            subst this; rw [hp] at he; cases he; exact h3, (HI.out hs).2⟩⟩
        have hneg : decide ((-1 : Int) < 0) = true := by decide
        go_wp2_with (go_at_call 75; refine (hc _).mono ?_; rintro e w1 ⟨rfl, hb1⟩)
        exact ⟨⟨h + 1, j, by omega, hj, by rw [← hh]; go_num, rfl, HN, hb.trans (hb1.mono hb.size)⟩, by simp [intOf]; omega⟩
      · have HN : Hid (SrtV L → (∀ q e, q < i → L[q]? = some e → lt e.key k) ∧ (∀ q e, h ≤ q → L[q]? = some e → ¬ lt e.key k)) := ⟨fun hs => ⟨(HI.out hs).1, fun q e hq he h5 => by
          have := HS.out hs h q p e hq hp he
          rcases tri p.key e.key with z | z | z
          · exact h3 (bcmp_trans z h5)
          · exact h3 (by rw [z]; exact h5)
          · exact this z⟩⟩
        have hneg : decide (bcmp p.key k < 0) = false := by rcases bcmp_cases p.key k with q | q | q <;> first | exact absurd q h3 | (rw [q]; decide)
        clear h3
        generalize bcmp p.key k = C at *
        go_wp2_with (go_at_call 75; refine (hc _).mono ?_; rintro e w1 ⟨rfl, hb1⟩)
        exact ⟨⟨i, h, by omega, by omega, rfl, by rw [← hh]; go_num, HN, hb.trans (hb1.mono hb.size)⟩, by simp [intOf]; omega⟩
    · obtain rfl : i = j := by omega
      have d1 : decide ((i : Int) < (i : Int)) = false := decide_eq_false (by omega)
      have HF : Hid (SrtV L → i = fndV L k) := ⟨fun hs => HE.out i hj (HI.out hs).1 (HI.out hs).2⟩
      by_cases h2 : i < L.length
      · have d2 : decide ((i : Int) < (L.length : Int)) = true := decide_eq_true (by omega)
        have k2 : (i : Int) < (L.length : Int) := by omega
        obtain ⟨p, hp⟩ : ∃ p, L[i]? = some p := ⟨L[i], List.getElem?_eq_getElem h2⟩
        obtain ⟨b, off, ma, mc, rfl, hbl, c0, c1, c2, c3, c4, hsl⟩ := (hP.later hb).get i p hp
        have hc := fun w => bplaces1_any p k w ma p.l.length mc
        generalize bcmp p.key k = C at *
        go_wp2_with (go_at_call 75; refine (hc _).mono ?_; rintro e w1 ⟨rfl, hb1⟩)
        go_ret2
        exact ⟨⟨i, _, rfl, hj, HF.out⟩, hb.trans (hb1.mono hb.size)⟩
      · have d2 : decide ((i : Int) < (L.length : Int)) = false := decide_eq_false (by omega)
        go_wp2_with fail
        go_ret2
        exact ⟨⟨i, _, rfl, hj, HF.out⟩, hb⟩
end Go.Proofs.YtgcdnanfnbdjjaaGreat

/- places. -/
namespace Go.Proofs.YtgcdnanfnbdjjaaGreat
set_option linter.unusedVariables false
set_option linter.unusedSimpArgs false
open Go.RowKit
attribute [local go_sem ↓] Go.wp_at_zero Go.wp_at_succ
attribute [local go_sem ↓] slVe
set_option maxHeartbeats 2000000 in
theorem places_any (L : List Vs) (k : List UInt8) (w : World) (a : Option Addr) (n cap : Nat) (hL : Li w L a n cap) :
    Calls Tryz.prog 48 #[.slice a n cap, str k] w fun e w' => (∃ i : Nat, e = .returned (.tuple #[.int .i64 (i : Int), .int .i64 ((i + ken (L.drop i) k : Nat) : Int)]) ∧ i ≤ L.length ∧ (SrtV L → i = fndV L k)) ∧ Below w.heap.size w w' := by
  obtain rfl := hL.n
  have hl := hL.l
  have hb := bsearch_any L k w a L.length cap rfl hL.s.at' (by omega)
  go_enter Tryz.func48, Tryz.ntmps48
  go_wp2_with fail
  with_reducible refine Calls.mono hb ?_
  rintro e w1 ⟨⟨i, t, rfl, hi, hs⟩, b1⟩
  dsimp only
  have HS := Hid.mk hs
  clear hs hb
  have hL1 := hL.later b1
  have hr := fun w => run_slV_lo a L.length cap i hi hL1.s.le hL1.s.max hL1.s.nil w
  have hke := fun w' hb => keyEnd_any (L.drop i) k w' (dropV a cap i) (L.length - i) (cap - i) (by rw [List.length_drop]) ((hL1.s.drop i hi).at'.later (w' := w') hb) (by rw [List.length_drop]; omega)
  have hkl := ken_le (L.drop i) k
  rw [List.length_drop] at hkl
  have hw : wrap64 ((i : Int) + (ken (L.drop i) k : Int)) = ((i + ken (L.drop i) k : Nat) : Int) := by unfold wrap64; omega
  go_wp2_with fail
  with_reducible refine Calls.mono (hke w1 (Below.refl _ _)) ?_
  rintro e w2 ⟨rfl, b2⟩
  dsimp only
  go_wp2_with fail
  go_ret2
  exact ⟨⟨i, rfl, hi, HS.out⟩, b1.trans (b2.mono b1.size)⟩
end Go.Proofs.YtgcdnanfnbdjjaaGreat
