/- Meta, and the document's. -/
import Derived.Test.YthbdaadhcheggaaTxt
namespace Go.Proofs.Ythbdaadhcheggaa
set_option linter.unusedVariables false
set_option linter.unusedSimpArgs false
open Go.RowKit
attribute [local go_sem ↓] Go.wp_at_zero Go.wp_at_succ
noncomputable def mtE (l : List En) : Int := by classical exact if l.length ≤ 8 ∧ (∀ p ∈ l, prb p = true) ∧ Srt l then 0 else 62
/-- the first k are right -/
def gm (l : List En) (k : Nat) : Prop := (∀ i p, i < k → l[i]? = some p → prb p = true) ∧ ∀ i x y, i + 1 < k → l[i]? = some x → l[i + 1]? = some y → lt x.key y.key
theorem gm_zero (l : List En) : gm l 0 := ⟨fun i p h => by omega, fun i x y h => by omega⟩
theorem gm_next {l : List En} {k : Nat} {p : En} (h : gm l k) (hp : l[k]? = some p) (h1 : prb p = true) (h2 : ∀ q, 1 ≤ k → l[k - 1]? = some q → lt q.key p.key) : gm l (k + 1) := by
  refine ⟨fun i q hi hq => ?_, fun i x y hi hx hy => ?_⟩
  · rcases Nat.lt_or_ge i k with h3 | h3
    · exact h.1 i q h3 hq
    · obtain rfl : i = k := by omega
      rw [hp] at hq; cases hq; exact h1
  · rcases Nat.lt_or_ge (i + 1) k with h3 | h3
    · exact h.2 i x y h3 hx hy
    · obtain rfl : k = i + 1 := by omega
      rw [hp] at hy; cases hy
      exact h2 x (by omega) (by simpa using hx)
theorem mtE_ok {l : List En} (hl : l.length ≤ 8) (h : gm l l.length) : mtE l = 0 := by
  unfold mtE
  rw [if_pos]
  refine ⟨hl, fun p hp => ?_, srt_of fun i a b ha hb => h.2 i a b (List.getElem?_eq_some_iff.1 hb).1 ha hb⟩
  obtain ⟨i, hi⟩ := List.getElem?_of_mem hp
  exact h.1 i p (List.getElem?_eq_some_iff.1 hi).1 hi
theorem mtE_long {l : List En} (hl : 8 < l.length) : mtE l = 62 := by unfold mtE; rw [if_neg (by rintro ⟨h, _⟩; omega)]
theorem mtE_pr {l : List En} {k : Nat} {p : En} (hp : l[k]? = some p) (h : prb p = false) : mtE l = 62 := by
  unfold mtE; rw [if_neg]
  rintro ⟨_, h2, _⟩
  have := h2 p (List.mem_of_getElem? hp)
  rw [h] at this; cases this
theorem mtE_ord {l : List En} {k : Nat} {p q : En} (hk : 1 ≤ k) (hp : l[k - 1]? = some p) (hq : l[k]? = some q) (h : ¬ lt p.key q.key) : mtE l = 62 := by
  unfold mtE; rw [if_neg]
  rintro ⟨_, _, h2⟩
  exact h (h2.get (by omega) hp hq)
/-- the name ahead -/
def lastN (l : List En) (k : Nat) : List UInt8 := if k = 0 then [] else ((l[k - 1]?).getD ⟨[], []⟩).key
theorem lastN_next {l : List En} {k : Nat} {p : En} (hp : l[k]? = some p) : lastN l (k + 1) = p.key := by unfold lastN; rw [if_neg (by omega), Nat.add_sub_cancel, hp]; rfl
theorem lastN_get {l : List En} {k : Nat} {q : En} (hk : 1 ≤ k) (hq : l[k - 1]? = some q) : lastN l k = q.key := by unfold lastN; rw [if_neg (by omega), hq]; rfl
theorem prb_ne {p : En} (h : prb p = true) : 1 ≤ p.key.length := by
  unfold prb smN at h
  simp at h
  omega
theorem lt_nil {a : List UInt8} (h : 1 ≤ a.length) : lt [] a := by
  cases a with
  | nil => simp at h
  | cons x y => rfl
theorem less_ff {a b : List UInt8} (h : lt a b) : Go.Op.bytesLess b a = false ∧ (b == a) = false ∧ (a == b) = false := by
  refine ⟨by rw [bytesLess_eq]; exact decide_eq_false (lt_asymm h), ?_, ?_⟩
  all_goals rw [beq_eq_false_iff_ne]; rintro rfl; exact lt_irrefl h
theorem less_or {a b : List UInt8} (h : ¬ lt a b) : a = b ∨ (¬ a = b ∧ lt b a) := by
  rcases tri a b with q | q | q
  · exact absurd q h
  · exact .inl q
  · exact .inr ⟨fun e => lt_irrefl (e ▸ q), q⟩
set_option maxHeartbeats 1000000 in
theorem meta_any (l : List En) (w : World) (a : Option Addr) (n cap : Nat) (hn : l.length = n) (hP : PIn w a l) (hz : l.length ≤ 9223372036854775806) :
    Calls Try.prog 51 #[.slice a n cap] w fun e w' => e = .returned (.int .i64 (mtE l)) ∧ Below w.heap.size w w' := by
  subst hn
  by_cases h8 : l.length ≤ 8
  · have d0 : decide ((8 : Int) < (l.length : Int)) = false := decide_eq_false (by omega)
    go_enter Try.func51, Try.ntmps51
    go_wp2_with fail
    go_loopw [3, 11] (fun la i wr => ∃ k : Nat, k ≤ l.length ∧ i = .int .i64 (k : Int) ∧ la = str (lastN l k) ∧ Hid (gm l k) ∧ Below w.heap.size w wr) (fun _ i _ => l.length - (intOf i).toNat)
    case atStart => exact ⟨0, by omega, rfl, rfl, ⟨gm_zero l⟩, Below.refl _ _⟩
    case round =>
      obtain ⟨k, hk, rfl, rfl, HG, hb⟩ := hrel
      by_cases hlt : k < l.length
      · have d1 : decide ((k : Int) < (l.length : Int)) = true := decide_eq_true (by omega)
        have k2 : (k : Int) < (l.length : Int) := by omega
        obtain ⟨p, hp⟩ : ∃ p, l[k]? = some p := ⟨l[k], List.getElem?_eq_getElem hlt⟩
        obtain ⟨b, off, rfl, hbl, c0, c1⟩ := (hP.later hb).get k p hp
        have hi := fun w => isPair_any p w
        have hbx : Below wr.heap.size wr (wr.alloc (.cells #[str p.key, str p.val] 51)) := (Below.refl _ _).alloc (Nat.le_refl _) _
        by_cases hpr : prb p = true
        · rw [hpr] at hi
          by_cases hlast : lt (lastN l k) p.key
          · have HN : Hid (gm l (k + 1)) := ⟨gm_next HG.out hp hpr fun q h1 h2 => by rw [← lastN_get h1 h2]; exact hlast⟩
            have HL : Hid (lastN l (k + 1) = p.key) := ⟨lastN_next hp⟩
            obtain ⟨d2, d3, d4⟩ := less_ff hlast
            generalize lastN l k = la at *
            clear hpr hlast hp
            go_wp2_with (go_at_call 54; refine (hi _).mono ?_; rintro e w1 ⟨rfl, b1⟩; obtain ⟨x0, x1⟩ := new2 b1)
            exact ⟨⟨k + 1, by omega, by go_num, by rw [HL.out], HN, hb.trans ((hbx.trans (b1.mono (by simp))).mono hb.size)⟩, by simp [intOf]; omega⟩
          · have h1k : 1 ≤ k := by
              rcases Nat.eq_zero_or_pos k with h0 | h0
              · subst h0
                exact absurd (lt_nil (prb_ne hpr)) hlast
              · exact h0
            obtain ⟨q, hq⟩ : ∃ p, l[k - 1]? = some p := ⟨l[k - 1]'(by omega), List.getElem?_eq_getElem (by omega)⟩
            have HV : Hid (mtE l = 62) := ⟨mtE_ord h1k hq hp (by rw [← lastN_get h1k hq]; exact hlast)⟩
            generalize lastN l k = la at *
            clear hpr hp hq
            obtain ⟨pk, pw⟩ := p
            dsimp only at *
            rcases less_or hlast with rfl | ⟨hne, hl2⟩
            · clear hlast
              go_wp2_with (go_at_call 54; refine (hi _).mono ?_; rintro e w1 ⟨rfl, b1⟩; obtain ⟨x0, x1⟩ := new2 b1)
              go_ret
              exact ⟨by rw [HV.out]; rfl, hb.trans ((hbx.trans (b1.mono (by simp))).mono hb.size)⟩
            · have d2 : Go.Op.bytesLess pk la = true := by rw [bytesLess_eq]; exact decide_eq_true hl2
              clear hlast hne hl2
              go_wp2_with (go_at_call 54; refine (hi _).mono ?_; rintro e w1 ⟨rfl, b1⟩; obtain ⟨x0, x1⟩ := new2 b1)
              go_ret
              exact ⟨by rw [HV.out]; rfl, hb.trans ((hbx.trans (b1.mono (by simp))).mono hb.size)⟩
        · have hpr' : prb p = false := by simpa using hpr
          rw [hpr'] at hi
          have HV : Hid (mtE l = 62) := ⟨mtE_pr hp hpr'⟩
          generalize lastN l k = la at *
          clear hpr hpr' hp
          go_wp2_with (go_at_call 54; refine (hi _).mono ?_; rintro e w1 ⟨rfl, b1⟩; obtain ⟨x0, x1⟩ := new2 b1)
          go_ret
          exact ⟨by rw [HV.out]; rfl, hb.trans ((hbx.trans (b1.mono (by simp))).mono hb.size)⟩
      · obtain rfl : k = l.length := by omega
        have d1 : decide ((l.length : Int) < (l.length : Int)) = false := decide_eq_false (by omega)
        have HV : Hid (mtE l = 0) := ⟨mtE_ok h8 HG.out⟩
        go_wp2_with fail
        go_ret
        exact ⟨by rw [HV.out]; rfl, hb⟩
  · have d0 : decide ((8 : Int) < (l.length : Int)) = true := decide_eq_true (by omega)
    have HV : Hid (mtE l = 62) := ⟨mtE_long (by omega)⟩
    go_enter Try.func51, Try.ntmps51
    go_wp2_with fail
    go_ret
    exact ⟨by rw [HV.out]; rfl, Below.refl _ _⟩
set_option maxHeartbeats 2000000 in
theorem rMeta_any (l : List En) (w : World) (a : Option Addr) (n cap : Nat) (hn : l.length = n) (hP : PIn w a l) (hs : ∀ (k : Nat) (e : En), l[k]? = some e → e.key.length ≤ 9223372036854775806 ∧ e.val.length ≤ 9223372036854775806) (hz : l.length ≤ 9223372036854775806) :
    Calls Try.prog 34 #[.slice a n cap] w fun e w' => e = .returned (.int .i64 (mtE l)) ∧ Below w.heap.size w w' := by
  subst hn
  by_cases h8 : l.length ≤ 8
  · have d0 : decide ((8 : Int) < (l.length : Int)) = false := decide_eq_false (by omega)
    go_enter Try.func34, Try.ntmps34
    go_wp2_with fail
    go_loopw [3] (fun i wr => ∃ k : Nat, k ≤ l.length ∧ i = .int .i64 (k : Int) ∧ Hid (gm l k) ∧ Below w.heap.size w wr) (fun i _ => l.length - (intOf i).toNat)
    case atStart => exact ⟨0, by omega, rfl, ⟨gm_zero l⟩, Below.refl _ _⟩
    case round =>
      obtain ⟨k, hk, rfl, HG, hb⟩ := hrel
      by_cases hlt : k < l.length
      · have d1 : decide ((k : Int) < (l.length : Int)) = true := decide_eq_true (by omega)
        have k2 : (k : Int) < (l.length : Int) := by omega
        obtain ⟨p, hp⟩ : ∃ p, l[k]? = some p := ⟨l[k], List.getElem?_eq_getElem hlt⟩
        obtain ⟨b, off, rfl, hbl, c0, c1⟩ := (hP.later hb).get k p hp
        have qS : Hid (∀ w, Calls Try.prog 46 #[str p.key, .int .i64 16] w fun e w' => e = .returned (.bool (smN p.key 16)) ∧ w' = w) := ⟨fun w => rsmall_any p.key 16 (by omega) (hs k p hp).1 w⟩
        by_cases hsm : smN p.key 16 = true
        · rw [hsm] at qS
          by_cases hv : p.val.length ≤ 64
          · have hpr : prb p = true := by unfold prb; rw [hsm, decide_eq_true hv]; rfl
            have d3 : decide ((64 : Int) < (p.val.length : Int)) = false := decide_eq_false (by omega)
            by_cases hk0 : k = 0
            · have HN : Hid (gm l (k + 1)) := ⟨gm_next HG.out hp hpr fun q h1 h2 => by omega⟩
              have d4 : decide ((0 : Int) < (k : Int)) = false := decide_eq_false (by omega)
              have d5 : decide (0 < k) = false := decide_eq_false (by omega)
              clear hpr hp hsm hk0
              go_wp2_with fail
              go_quiet ((go_at_call 46; exact Calls.quiet_of_same (qS.out _)))
              go_wp2_with fail
              exact ⟨⟨k + 1, by omega, by go_num, HN, below_dN hb nq⟩, by simp [intOf]; omega⟩
            · have d4 : decide ((0 : Int) < (k : Int)) = true := decide_eq_true (by omega)
              have d7 : decide (0 < k) = true := decide_eq_true (by omega)
              have k3 : (k : Int) - 1 < (l.length : Int) := by omega
              obtain ⟨q, hq⟩ : ∃ p, l[k - 1]? = some p := ⟨l[k - 1]'(by omega), List.getElem?_eq_getElem (by omega)⟩
              obtain ⟨b2, off2, e2, _, f0, f1⟩ := (hP.later hb).get (k - 1) q hq
              injection e2 with e2
              injection e2 with e3 e4
              subst e3 e4
              by_cases hlast : lt q.key p.key
              · have HN : Hid (gm l (k + 1)) := ⟨gm_next HG.out hp hpr fun q' h1 h2 => by rw [hq] at h2; cases h2; exact hlast⟩
                have d2 : Go.Op.bytesLess q.key p.key = true := by rw [bytesLess_eq]; exact decide_eq_true hlast
                clear hpr hp hsm hlast hq
                go_wp2_with fail
                go_quiet ((go_at_call 46; exact Calls.quiet_of_same (qS.out _)))
                go_wp2_with fail
                exact ⟨⟨k + 1, by omega, by go_num, HN, below_dN hb nq⟩, by simp [intOf]; omega⟩
              · have HV : Hid (mtE l = 62) := ⟨mtE_ord (by omega) hq hp hlast⟩
                have d2 : Go.Op.bytesLess q.key p.key = false := by rw [bytesLess_eq]; exact decide_eq_false hlast
                clear hpr hp hsm hlast hq
                go_wp2_with fail
                go_quiet ((go_at_call 46; exact Calls.quiet_of_same (qS.out _)))
                go_wp2_with fail
                go_ret
                exact ⟨by rw [HV.out]; rfl, below_dN hb nq⟩
          · have hpr : prb p = false := by unfold prb; rw [hsm, decide_eq_false hv]; rfl
            have d3 : decide ((64 : Int) < (p.val.length : Int)) = true := decide_eq_true (by omega)
            have HV : Hid (mtE l = 62) := ⟨mtE_pr hp hpr⟩
            clear hpr hp hsm
            go_wp2_with fail
            go_quiet ((go_at_call 46; exact Calls.quiet_of_same (qS.out _)))
            go_wp2_with fail
            go_ret
            exact ⟨by rw [HV.out]; rfl, below_dN hb nq⟩
        · have hsm' : smN p.key 16 = false := by simpa using hsm
          rw [hsm'] at qS
          have hpr : prb p = false := by unfold prb; rw [hsm']; rfl
          have HV : Hid (mtE l = 62) := ⟨mtE_pr hp hpr⟩
          clear hpr hp hsm hsm'
          go_wp2_with fail
          go_quiet ((go_at_call 46; exact Calls.quiet_of_same (qS.out _)))
          go_wp2_with fail
          go_ret
          exact ⟨by rw [HV.out]; rfl, below_dN hb nq⟩
      · obtain rfl : k = l.length := by omega
        have d1 : decide ((l.length : Int) < (l.length : Int)) = false := decide_eq_false (by omega)
        have HV : Hid (mtE l = 0) := ⟨mtE_ok h8 HG.out⟩
        go_wp2_with fail
        go_ret
        exact ⟨by rw [HV.out]; rfl, hb⟩
  · have d0 : decide ((8 : Int) < (l.length : Int)) = true := decide_eq_true (by omega)
    have HV : Hid (mtE l = 62) := ⟨mtE_long (by omega)⟩
    go_enter Try.func34, Try.ntmps34
    go_wp2_with fail
    go_ret
    exact ⟨by rw [HV.out]; rfl, Below.refl _ _⟩
end Go.Proofs.Ythbdaadhcheggaa
