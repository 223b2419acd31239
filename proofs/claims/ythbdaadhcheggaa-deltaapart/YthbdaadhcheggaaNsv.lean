/- The document's SameMeta and SameVersion. -/
import Derived.Test.YthbdaadhcheggaaBq
import Derived.Deep.QuietTactic
namespace Go.Proofs.Ythbdaadhcheggaa
set_option linter.unusedVariables false
set_option linter.unusedSimpArgs false
open Go.RowKit
attribute [local go_sem ↓] Go.wp_at_zero Go.wp_at_succ
noncomputable def smP (a b : List En) : Bool := by classical exact decide (a = b)
theorem smP_true {a b : List En} (h : a = b) : smP a b = true := by unfold smP; simp [h]
theorem smP_false {a b : List En} (h : ¬ a = b) : smP a b = false := by unfold smP; simp [h]
set_option maxRecDepth 100000 in
set_option maxHeartbeats 4000000 in
theorem qSameMeta_any (l l' : List En) (w : World) (a : Option Addr) (n cap : Nat) (hn : l.length = n) (hP : PIn w a l) (hz : l.length ≤ 9223372036854775806) (a' : Option Addr) (n' cap' : Nat) (hn' : l'.length = n') (hP' : PIn w a' l') (hz' : l'.length ≤ 9223372036854775806) :
    Calls Try.prog 36 #[.slice a n cap, .slice a' n' cap'] w fun e w' => e = .returned (.bool (smP l l')) ∧ Below w.heap.size w w' := by
  subst hn hn'
  by_cases h5 : l.length = l'.length
  · have d5 : ((l.length : Int) != (l'.length : Int)) = false := by rw [bne_eq_false_iff_eq]; omega
    have HL := Hid.mk h5
    clear h5
    have HS1 : Hid (l = l' → smP l l' = true) := ⟨smP_true⟩
    have HS2 : Hid (¬ l = l' → smP l l' = false) := ⟨smP_false⟩
    generalize smP l l' = SV at *
    go_enter Try.func36, Try.ntmps36
    go_wp2_with fail
    go_loopw [5] (fun i wr => ∃ k : Nat, k ≤ l.length ∧ i = .int .i64 (k : Int) ∧ l.take k = l'.take k ∧ Hid (Below w.heap.size w wr)) (fun i _ => l.length - (intOf i).toNat)
    case atStart => exact ⟨0, by omega, rfl, by simp, ⟨Below.refl _ _⟩⟩
    case round =>
      obtain ⟨k, hk, rfl, hab, HB⟩ := hrel
      have hbe := HB.out
      by_cases h1 : k < l.length
      · have d1 : decide ((k : Int) < (l.length : Int)) = true := decide_eq_true (by omega)
        have k1 : (k : Int) < (l.length : Int) := by omega
        have h2 : k < l'.length := by rw [← HL.out]; exact h1
        have k2 : (k : Int) < (l'.length : Int) := by omega
        obtain ⟨p, hp⟩ : ∃ p, l[k]? = some p := ⟨l[k], List.getElem?_eq_getElem h1⟩
        obtain ⟨b1, off1, rfl, hbl, c0, c1⟩ := (hP.later hbe).get k p hp
        obtain ⟨q, hq⟩ : ∃ q, l'[k]? = some q := ⟨l'[k], List.getElem?_eq_getElem h2⟩
        obtain ⟨b2, off2, rfl, hbl2, e0, e1⟩ := (hP'.later hbe).get k q hq
        by_cases hpq : p = q
        · subst hpq
          have HT : Hid (l.take (k + 1) = l'.take (k + 1)) := ⟨take_nextV hp hq hab⟩
          clear hab
          go_wp2_with fail
          go_quiet (fail)
          go_wp2_with fail
          exact ⟨⟨k + 1, by omega, by go_num, HT.out, ⟨below_dN HB.out nq⟩⟩, by simp [intOf]; omega⟩
        · have HS : Hid (SV = false) := ⟨HS2.out (take_neV hp hq hpq)⟩
          clear hab
          obtain ⟨pk, pt⟩ := p
          obtain ⟨qk, qt⟩ := q
          dsimp only at *
          by_cases h3 : pk = qk
          · subst h3
            have d5 : (pt == qt) = false := by rw [beq_eq_false_iff_ne]; rintro rfl; exact hpq rfl
            clear hpq
            go_wp2_with fail
            go_quiet (fail)
            go_wp2_with fail
            go_ret
            exact ⟨by rw [HS.out]; rfl, below_dN hbe nq⟩
          · have d5 : (pk == qk) = false := by rw [beq_eq_false_iff_ne]; exact h3
            clear hpq
            go_wp2_with fail
            go_quiet (fail)
            go_wp2_with fail
            go_ret
            exact ⟨by rw [HS.out]; rfl, below_dN hbe nq⟩
      · obtain rfl : k = l.length := by omega
        have d1 : decide ((l.length : Int) < (l.length : Int)) = false := decide_eq_false (by omega)
        have HS : Hid (SV = true) := ⟨HS1.out (by
          have e := hab
          rw [List.take_length] at e
          rw [HL.out, List.take_length] at e
          exact e)⟩
        clear hab
        go_wp2_with fail
        go_ret
        exact ⟨by rw [HS.out]; rfl, hbe⟩
  · have HS : Hid (smP l l' = false) := ⟨smP_false (by rintro rfl; exact h5 rfl)⟩
    generalize smP l l' = SV at *
    have d5 : ((l.length : Int) != (l'.length : Int)) = true := by rw [bne_iff_ne]; omega
    clear h5
    go_enter Try.func36, Try.ntmps36
    go_wp2_with fail
    go_ret
    exact ⟨by rw [HS.out]; rfl, Below.refl _ _⟩
set_option maxRecDepth 100000 in
set_option maxHeartbeats 4000000 in
theorem qSameVersion_any (v u : Vs) (w : World) (a : Option Addr) (n cap : Nat) (hn : v.l.length = n) (hP : PIn w a v.l) (hz : v.l.length ≤ 9223372036854775806) (a' : Option Addr) (n' cap' : Nat) (hn' : u.l.length = n') (hP' : PIn w a' u.l) (hz' : u.l.length ≤ 9223372036854775806) :
    Calls Try.prog 25 #[vv v.key v.seq v.mkr v.data a n cap, vv u.key u.seq u.mkr u.data a' n' cap'] w fun e w' => e = .returned (.bool (sv v u)) ∧ Below w.heap.size w w' := by
  subst hn hn'
  have b1 := (Below.refl w.heap.size w).alloc (Nat.le_refl _) (.cells #[str v.key, .int .i64 v.seq, .bool v.mkr, str v.data, .slice a v.l.length cap] 41)
  have b2 := b1.alloc b1.size (.cells #[str u.key, .int .i64 u.seq, .bool u.mkr, str u.data, .slice a' u.l.length cap'] 41)
  clear b1
  have hc := qSameMeta_any v.l u.l _ a _ cap rfl (hP.later b2) hz a' _ cap' rfl (hP'.later b2) hz'
  clear hP hP' hz hz'
  obtain ⟨key, seq, mk, data, l⟩ := v
  obtain ⟨key', seq', mk', data', l'⟩ := u
  simp only at *
  by_cases h1 : key = key'
  · subst h1
    by_cases h2 : seq = seq'
    · subst h2
      by_cases h3 : mk = mk'
      · subst h3
        by_cases h4 : data = data'
        · subst h4
          have HS : Hid (sv ⟨key, seq, mk, data, l⟩ ⟨key, seq, mk, data, l'⟩ = smP l l') := ⟨by
            by_cases h : l = l'
            · rw [sv_true (by rw [h]), smP_true h]
            · rw [sv_false (by intro q; injection q with _ _ _ _ q; exact h q), smP_false h]⟩
          generalize smP l l' = SM at *
          go_enter Try.func25, Try.ntmps25
          go_wp2_with (go_at_call 36; refine hc.mono ?_; rintro e w3 ⟨rfl, b3⟩)
          go_ret
          exact ⟨by rw [HS.out]; rfl, below_seq b2 b3⟩
        · have HS : Hid (sv ⟨key, seq, mk, data, l⟩ ⟨key, seq, mk, data', l'⟩ = false) := ⟨sv_false (by intro q; injection q with _ _ _ q; exact h4 q)⟩
          have d5 : (data == data') = false := by rw [beq_eq_false_iff_ne]; exact h4
          clear h4 hc
          go_enter Try.func25, Try.ntmps25
          go_wp2_with fail
          go_ret
          exact ⟨by rw [HS.out]; rfl, b2⟩
      · have HS : Hid (sv ⟨key, seq, mk, data, l⟩ ⟨key, seq, mk', data', l'⟩ = false) := ⟨sv_false (by intro q; injection q with _ _ q; exact h3 q)⟩
        have d5 : (mk == mk') = false := by rw [beq_eq_false_iff_ne]; exact h3
        clear h3 hc
        go_enter Try.func25, Try.ntmps25
        go_wp2_with fail
        go_ret
        exact ⟨by rw [HS.out]; rfl, b2⟩
    · have HS : Hid (sv ⟨key, seq, mk, data, l⟩ ⟨key, seq', mk', data', l'⟩ = false) := ⟨sv_false (by intro q; injection q with _ q; exact h2 q)⟩
      have d5 : (seq == seq') = false := by rw [beq_eq_false_iff_ne]; exact h2
      have d6 : (seq != seq') = true := by rw [bne_iff_ne]; exact h2
      have d7 : decide (seq = seq') = false := decide_eq_false h2
      clear h2 hc
      go_enter Try.func25, Try.ntmps25
      go_wp2_with fail
      go_ret
      exact ⟨by rw [HS.out]; rfl, b2⟩
  · have HS : Hid (sv ⟨key, seq, mk, data, l⟩ ⟨key', seq', mk', data', l'⟩ = false) := ⟨sv_false (by intro q; injection q with q; exact h1 q)⟩
    have d5 : (key == key') = false := by rw [beq_eq_false_iff_ne]; exact h1
    clear h1 hc
    go_enter Try.func25, Try.ntmps25
    go_wp2_with fail
    go_ret
    exact ⟨by rw [HS.out]; rfl, b2⟩
end Go.Proofs.Ythbdaadhcheggaa
