/- The laws' own looks at lists: same, rises; the document's Find and Put; Sorted. -/
import Derived.Test.YtibmnpkmbhjniaaPut
import Derived.Test.YtibmnpkmbhjniaaFau
namespace Go.Proofs.Ytibmnpkmbhjniaa
set_option linter.unusedVariables false
set_option linter.unusedSimpArgs false
open Go.RowKit
attribute [local go_sem ↓] Go.wp_at_zero Go.wp_at_succ
attribute [local go_sem ↓] slPe
theorem take_ne {a b : List En} {k : Nat} {p q : En} (hp : a[k]? = some p) (hq : b[k]? = some q) (h : ¬ p = q) : ¬ a = b := by
  intro e
  subst e
  rw [hp] at hq
  exact h (Option.some.inj hq)
theorem take_next {a b : List En} {k : Nat} {p : En} (hp : a[k]? = some p) (hq : b[k]? = some p) (h : a.take k = b.take k) : a.take (k + 1) = b.take (k + 1) := by
  rw [List.take_add_one, List.take_add_one, hp, hq, h]
set_option maxHeartbeats 1000000 in
theorem same_any (a b : List En) (w : World) (pa pb : Option Addr) (na nb ca cb : Nat) (hna : a.length = na) (hnb : b.length = nb) (hA : PIn w pa a) (hB : PIn w pb b) (la : a.length ≤ 1000000000000) (lb : b.length ≤ 1000000000000) :
    Calls Try.prog 13 #[.slice pa na ca, .slice pb nb cb] w fun e w' => e = .returned (.bool (same a b)) ∧ Below w.heap.size w w' := by
  subst hna hnb
  by_cases hl : a.length = b.length
  · have d0 : ((a.length : Int) != (b.length : Int)) = false := by rw [bne_eq_false_iff_eq]; omega
    go_enter Try.func13, Try.ntmps13
    have HL : Hid (a.length = b.length) := ⟨hl⟩
    clear hl
    go_wp2_with fail
    go_loopw [5] (fun i wr => ∃ k : Nat, k ≤ a.length ∧ i = .int .i64 (k : Int) ∧ a.take k = b.take k ∧ Below w.heap.size w wr) (fun i _ => a.length - (intOf i).toNat)
    case atStart => exact ⟨0, by omega, rfl, by simp, Below.refl _ _⟩
    case round =>
      obtain ⟨k, hk, rfl, hab, hb⟩ := hrel
      by_cases h1 : k < a.length
      · have d1 : decide ((k : Int) < (a.length : Int)) = true := decide_eq_true (by omega)
        have h2 : k < b.length := by rw [← HL.out]; exact h1
        have k2 : (k : Int) < (b.length : Int) := by omega
        obtain ⟨p, hp⟩ : ∃ p, a[k]? = some p := ⟨a[k], List.getElem?_eq_getElem h1⟩
        obtain ⟨b1, off1, rfl, hbl, c0, c1⟩ := (hA.later hb).get k p hp
        obtain ⟨q, hq⟩ : ∃ q, b[k]? = some q := ⟨b[k], List.getElem?_eq_getElem h2⟩
        obtain ⟨b2, off2, rfl, hbl2, e0, e1⟩ := (hB.later hb).get k q hq
        by_cases hpq : p = q
        · subst hpq
          have HT : Hid (a.take (k + 1) = b.take (k + 1)) := ⟨take_next hp hq hab⟩
          clear hab
          go_wp2_with fail
          go_quiet (fail)
          go_wp2_with fail
          exact ⟨⟨k + 1, by omega, by go_num, HT.out, below_dN hb nq⟩, by simp [intOf]; omega⟩
        · have HS : Hid (same a b = false) := ⟨same_false (take_ne hp hq hpq)⟩
          clear hab
          obtain ⟨pk, pt⟩ := p
          obtain ⟨qk, qt⟩ := q
          dsimp only at *
          by_cases h3 : pk = qk
          · subst h3
            have d5 : (pt == qt) = false := by rw [beq_eq_false_iff_ne]; rintro rfl; exact hpq rfl
            clear hpq
            go_wp2_with fail
            go_quiet (fail)
            go_wp2_with fail
            go_ret
            exact ⟨by rw [HS.out]; rfl, below_dN hb nq⟩
          · have d5 : (pk == qk) = false := by rw [beq_eq_false_iff_ne]; exact h3
            clear hpq
            go_wp2_with fail
            go_quiet (fail)
            go_wp2_with fail
            go_ret
            exact ⟨by rw [HS.out]; rfl, below_dN hb nq⟩
      · obtain rfl : k = a.length := by omega
        have d1 : decide ((a.length : Int) < (a.length : Int)) = false := decide_eq_false (by omega)
        have HS : Hid (same a b = true) := ⟨same_true (by have e := HL.out; rw [List.take_length] at hab; rw [hab, e, List.take_length])⟩
        clear hab
        go_wp2_with fail
        go_ret
        exact ⟨by rw [HS.out]; rfl, hb⟩
  · have d0 : ((a.length : Int) != (b.length : Int)) = true := by rw [bne_iff_ne]; omega
    have HS : Hid (same a b = false) := ⟨same_false (fun e => hl (by rw [e]))⟩
    go_enter Try.func13, Try.ntmps13
    go_wp2_with fail
    go_ret
    exact ⟨by rw [HS.out]; rfl, Below.refl _ _⟩
set_option maxHeartbeats 1000000 in
theorem rises_any (l : List En) (w : World) (a : Option Addr) (n cap : Nat) (hn : l.length = n) (hP : PIn w a l) (hl : l.length ≤ 1000000000000) :
    Calls Try.prog 19 #[.slice a n cap] w fun e w' => e = .returned (.bool (srtb l)) ∧ Below w.heap.size w w' := by
  subst hn
  go_enter Try.func19, Try.ntmps19
  go_wp2_with fail
  go_loopw [3] (fun i wr => ∃ k : Nat, 1 ≤ k ∧ k ≤ l.length + 1 ∧ i = .int .i64 (k : Int) ∧ Hid (∀ q x y, q + 1 < k → l[q]? = some x → l[q + 1]? = some y → lt x.key y.key) ∧ Below w.heap.size w wr) (fun i _ => l.length + 1 - (intOf i).toNat)
  case atStart => exact ⟨1, by omega, by omega, rfl, ⟨fun q x y h => by omega⟩, Below.refl _ _⟩
  case round =>
    obtain ⟨k, hk0, hk, rfl, HI, hb⟩ := hrel
    by_cases h1 : k < l.length
    · have d1 : decide ((k : Int) < (l.length : Int)) = true := decide_eq_true (by omega)
      have k2 : (k : Int) < (l.length : Int) := by omega
      have k3 : (k : Int) - 1 < (l.length : Int) := by omega
      obtain ⟨p, hp⟩ : ∃ p, l[k - 1]? = some p := ⟨l[k - 1]'(by omega), List.getElem?_eq_getElem (by omega)⟩
      obtain ⟨q, hq⟩ : ∃ p, l[k]? = some p := ⟨l[k], List.getElem?_eq_getElem h1⟩
      obtain ⟨b, off, rfl, hbl, c0, c1⟩ := (hP.later hb).get (k - 1) p hp
      obtain ⟨b2, off2, e2, _, f0, f1⟩ := (hP.later hb).get k q hq
      injection e2 with e2
      injection e2 with e3 e4
      subst e3 e4
      by_cases h2 : lt p.key q.key
      · have HN : Hid (∀ q x y, q + 1 < k + 1 → l[q]? = some x → l[q + 1]? = some y → lt x.key y.key) := ⟨fun j x y hj hx hy => by
          rcases Nat.lt_or_ge (j + 1) k with h3 | h3
          · exact HI.out j x y h3 hx hy
          · have : j = k - 1 := by omega
            subst this
            rw [hp] at hx; rw [show k - 1 + 1 = k by omega, hq] at hy
            cases hx; cases hy; exact h2⟩
        have d2 : Go.Op.bytesLess p.key q.key = true := by rw [bytesLess_eq]; exact decide_eq_true h2
        clear h2
        go_wp2_with fail
        go_quiet (fail)
        go_wp2_with fail
        exact ⟨⟨k + 1, by omega, by omega, by go_num, HN, below_dN hb nq⟩, by simp [intOf]; omega⟩
      · have HS : Hid (srtb l = false) := ⟨srtb_false fun hs => h2 (hs.get (by omega) hp hq)⟩
        have d2 : Go.Op.bytesLess p.key q.key = false := by rw [bytesLess_eq]; exact decide_eq_false h2
        clear h2
        go_wp2_with fail
        go_quiet (fail)
        go_wp2_with fail
        go_ret
        exact ⟨by rw [HS.out]; rfl, below_dN hb nq⟩
    · have d1 : decide ((k : Int) < (l.length : Int)) = false := decide_eq_false (by omega)
      have HS : Hid (srtb l = true) := ⟨srtb_true (srt_of fun i x y hx hy => HI.out i x y (by have := (List.getElem?_eq_some_iff.1 hy).1; omega) hx hy)⟩
      go_wp2_with fail
      go_ret
      exact ⟨by rw [HS.out]; rfl, hb⟩
set_option maxHeartbeats 1000000 in
theorem rFind_any (l : List En) (k : List UInt8) (w : World) (a : Option Addr) (cap : Nat) (hP : PIn w a l) (hl : l.length ≤ 1000000000000) :
    Calls Try.prog 29 #[.slice a l.length cap, str k] w fun e w' => e = .returned (found l k) ∧ Below w.heap.size w w' := by
  have hle := fnd_le l k
  go_enter Try.func29, Try.ntmps29
  go_wp2_with fail
  go_loopw [6] (fun i wr => ∃ n : Nat, n ≤ fnd l k ∧ i = .int .i64 (n : Int) ∧ wr = w) (fun i _ => l.length - (intOf i).toNat)
  case atStart => exact ⟨0, by omega, rfl, rfl⟩
  case round =>
    obtain ⟨n, hn, rfl, rfl⟩ := hrel
    by_cases h1 : n < fnd l k
    · have d1 : decide ((n : Int) < (l.length : Int)) = true := decide_eq_true (by omega)
      have k2 : (n : Int) < (l.length : Int) := by omega
      obtain ⟨p, hp⟩ : ∃ p, l[n]? = some p := ⟨l[n]'(by omega), List.getElem?_eq_getElem (by omega)⟩
      obtain ⟨b, off, rfl, hbl, c0, c1⟩ := hP.get n p hp
      have d2 : Go.Op.bytesLess p.key k = true := by rw [bytesLess_eq]; exact decide_eq_true (fnd_lt h1 hp)
      go_wp2_with fail
      exact ⟨⟨n + 1, by omega, by go_num, trivial⟩, by simp [intOf]; omega⟩
    · obtain rfl : n = fnd l k := by omega
      by_cases h2 : fnd l k < l.length
      · have d1 : decide ((fnd l k : Int) < (l.length : Int)) = true := decide_eq_true (by omega)
        have k2 : (fnd l k : Int) < (l.length : Int) := by omega
        obtain ⟨p, hp⟩ : ∃ p, l[fnd l k]? = some p := ⟨l[fnd l k], List.getElem?_eq_getElem h2⟩
        obtain ⟨b, off, rfl, hbl, c0, c1⟩ := hP.get _ p hp
        have d2 : Go.Op.bytesLess p.key k = false := by rw [bytesLess_eq]; exact decide_eq_false (fnd_at hp)
        have HV : Hid (found l k = .tuple #[.int .i64 (fnd l k : Int), .bool (p.key == k)]) := ⟨by unfold found; rw [hit_some hp]⟩
        generalize fnd l k = f at *
        by_cases h3 : p.key = k
        · have d3 : (p.key == k) = true := by rw [beq_iff_eq]; exact h3
          rw [d3] at HV
          clear h3
          go_wp2_with fail
          go_quiet (fail)
          go_wp2_with fail
          go_ret2
          exact ⟨by rw [HV.out]; rfl, below_dN (Below.refl _ _) nq⟩
        · have d3 : (p.key == k) = false := by rw [beq_eq_false_iff_ne]; exact h3
          rw [d3] at HV
          clear h3
          go_wp2_with fail
          go_quiet (fail)
          go_wp2_with fail
          go_ret2
          exact ⟨by rw [HV.out]; rfl, below_dN (Below.refl _ _) nq⟩
      · have d1 : decide ((fnd l k : Int) < (l.length : Int)) = false := decide_eq_false (by omega)
        have HV : Hid (found l k = .tuple #[.int .i64 (fnd l k : Int), .bool false]) := ⟨by unfold found; rw [hit_none (by omega)]⟩
        generalize fnd l k = f at *
        go_wp2_with fail
        go_quiet (fail)
        go_wp2_with fail
        go_ret2
        exact ⟨by rw [HV.out]; rfl, below_dN (Below.refl _ _) nq⟩
set_option maxHeartbeats 1000000 in
theorem rPut_any (l : List En) (k v : List UInt8) (w : World) (a : Option Addr) (n cap : Nat) (hn : l.length = n) (hS : Sl w a cap l) (hl : l.length ≤ 100000000000) :
    Calls Try.prog 32 #[.slice a n cap, str k, str v] w fun e w' => ∃ r, e = .returned r ∧ Ow w.heap.size w' r (put l k v) ∧ Below w.heap.size w w' := by
  subst hn
  have hf := rFind_any l k w a cap hS.at' (by omega)
  have hle := fnd_le l k
  unfold found at hf
  have hit1 : hit l k = true → fnd l k + 1 ≤ l.length := fun hh => by
    rcases Nat.lt_or_ge (fnd l k) l.length with q | q
    · omega
    · rw [hit_none (by omega)] at hh; cases hh
  have r1 := fun w => run_slP a l.length cap (fnd l k) (by have := hS.le; omega) hS.max hS.nil w
  have s1 := hS.take (fnd l k)
  have l1 : (l.take (fnd l k)).length = fnd l k := by rw [List.length_take]; omega
  by_cases hh : hit l k = true
  · have h1 := hit1 hh
    rw [hh] at hf
    have HP : Hid (put l k v = l.take (fnd l k) ++ [⟨k, v⟩] ++ l.drop (fnd l k + 1)) := ⟨by unfold put; rw [hh]; simp⟩
    have r2 : ∀ w, (slP (.slice a l.length cap) (some (.int .i64 ((fnd l k : Int) + 1))) none none).run Try.prog w = .ok (.slice (dropA a cap (fnd l k + 1)) (l.length - (fnd l k + 1)) (cap - (fnd l k + 1))) w := fun w => run_slP_lo a l.length cap (fnd l k + 1) h1 hS.le hS.max hS.nil w
    have s2 := hS.drop (fnd l k + 1) h1
    have l2 : (l.drop (fnd l k + 1)).length = l.length - (fnd l k + 1) := List.length_drop
    generalize l.take (fnd l k) = X at *
    generalize l.drop (fnd l k + 1) = Y at *
    generalize dropA a cap (fnd l k + 1) = a2 at *
    generalize put l k v = PP at *
    generalize fnd l k = f at *
    clear hh hit1
    go_enter Try.func32, Try.ntmps32
    go_wp2_with (first
      | (go_at_call 29; refine hf.mono ?_; rintro e w0 ⟨rfl, HB⟩)
      | (refine app_slice rfl _ _ rfl X (Ow.nil _ _ HB.size) (s1.later HB) l1 (by simp; omega) rfl rfl ?_; intro v1 w1 o1 b1)
      | (refine app_one rfl _ _ rfl ⟨k, v⟩ rfl o1 rfl (by simp; omega) rfl rfl ?_; intro v2 w2 o2 b2)
      | (refine app_slice rfl _ _ rfl Y o2 (s2.later ((HB.trans b1).trans b2)) l2 (by simp; omega) rfl rfl ?_; intro v3 w3 o3 b3))
    go_ret
    exact ⟨_, rfl, by rw [HP.out]; simpa using o3, ((HB.trans b1).trans b2).trans b3⟩
  · have hh' : hit l k = false := by simpa using hh
    rw [hh'] at hf
    have HP : Hid (put l k v = l.take (fnd l k) ++ [⟨k, v⟩] ++ l.drop (fnd l k)) := ⟨by unfold put; rw [hh']; simp⟩
    have r2 := fun w => run_slP_lo a l.length cap (fnd l k) hle hS.le hS.max hS.nil w
    have s2 := hS.drop (fnd l k) hle
    have l2 : (l.drop (fnd l k)).length = l.length - fnd l k := List.length_drop
    generalize l.take (fnd l k) = X at *
    generalize l.drop (fnd l k) = Y at *
    generalize dropA a cap (fnd l k) = a2 at *
    generalize put l k v = PP at *
    generalize fnd l k = f at *
    clear hh hh' hit1
    go_enter Try.func32, Try.ntmps32
    go_wp2_with (first
      | (go_at_call 29; refine hf.mono ?_; rintro e w0 ⟨rfl, HB⟩)
      | (refine app_slice rfl _ _ rfl X (Ow.nil _ _ HB.size) (s1.later HB) l1 (by simp; omega) rfl rfl ?_; intro v1 w1 o1 b1)
      | (refine app_one rfl _ _ rfl ⟨k, v⟩ rfl o1 rfl (by simp; omega) rfl rfl ?_; intro v2 w2 o2 b2)
      | (refine app_slice rfl _ _ rfl Y o2 (s2.later ((HB.trans b1).trans b2)) l2 (by simp; omega) rfl rfl ?_; intro v3 w3 o3 b3))
    go_ret
    exact ⟨_, rfl, by rw [HP.out]; simpa using o3, ((HB.trans b1).trans b2).trans b3⟩
end Go.Proofs.Ytibmnpkmbhjniaa
