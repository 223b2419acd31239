/- The document's Same of two versions (as wip/version/Sam). -/
import Derived.Test.YtkoaojhldcacbaaGreatDoorGo
import Derived.Deep.QuietTactic
namespace Go.Proofs.YtkoaojhldcacbaaGreatDoor
set_option maxRecDepth 100000
set_option linter.unusedVariables false
set_option linter.unusedSimpArgs false
open Go.RowKit
def Bv (w : World) (g : Nat) (x y z u v : Value) : Prop := w.heap[g]? = some (.cells #[x, y, z, u, v] 33 (0, 0))
theorem Bv.lt {w : World} {g : Nat} {x y z u v : Value} (h : Bv w g x y z u v) : g < w.heap.size := (Array.getElem?_eq_some_iff.1 h).1
theorem Bv.cells {w : World} {g : Nat} {x y z u v : Value} (h : Bv w g x y z u v) : w.cell? ⟨g, 0, none⟩ = some x ∧ w.cell? ⟨g, 1, none⟩ = some y ∧ w.cell? ⟨g, 2, none⟩ = some z ∧ w.cell? ⟨g, 3, none⟩ = some u ∧ w.cell? ⟨g, 4, none⟩ = some v ∧ ∀ j, w.frozen? ⟨g, j, none⟩ = false := by
  refine ⟨?_, ?_, ?_, ?_, ?_, fun j => frozen_of_row _ _ _ _ _ h⟩
  all_goals rw [cell_of_row _ _ _ _ _ _ h]; rfl
theorem Bv.later {w w' : World} {g : Nat} {x y z u v : Value} (h : Bv w g x y z u v) (hb : Below w.heap.size w w') : Bv w' g x y z u v := by
  unfold Bv
  rw [hb.block g h.lt]; exact h
attribute [local go_sem ↓] Go.wp_at_zero Go.wp_at_succ
theorem take_next {a b : List En} {k : Nat} {p : En} (hp : a[k]? = some p) (hq : b[k]? = some p) (h : a.take k = b.take k) : a.take (k + 1) = b.take (k + 1) := by
  rw [take_succ' hp, take_succ' hq, h]
theorem take_ne {a b : List En} {k : Nat} {p q : En} (hp : a[k]? = some p) (hq : b[k]? = some q) (h : ¬ p = q) : ¬ a = b := by
  rintro rfl
  rw [hp] at hq
  injection hq with hq
  exact h hq
noncomputable def sv (v u : Vs) : Bool := by classical exact decide (v = u)
theorem sv_true {v u : Vs} (h : v = u) : sv v u = true := by unfold sv; simp [h]
theorem sv_false {v u : Vs} (h : ¬ v = u) : sv v u = false := by unfold sv; simp [h]
theorem sv_iff {v u : Vs} : sv v u = true ↔ v = u := by unfold sv; simp
set_option maxHeartbeats 4000000 in
theorem vsame_any (v u : Vs) (w : World) (a : Option Addr) (n cap : Nat) (hn : v.l.length = n) (hP : PIn w a v.l) (hz : v.l.length ≤ 9223372036854775806) (a' : Option Addr) (n' cap' : Nat) (hn' : u.l.length = n') (hP' : PIn w a' u.l) (hz' : u.l.length ≤ 9223372036854775806) :
    Calls Tryz.prog 43 #[vv v.key v.seq v.mkr v.data a n cap, vv u.key u.seq u.mkr u.data a' n' cap'] w fun e w' => e = .returned (.bool (sv v u)) ∧ Below w.heap.size w w' := by
  subst hn hn'
  have b1 := (Below.refl w.heap.size w).alloc (Nat.le_refl _) (.cells #[str v.key, .int .i64 v.seq, .bool v.mkr, str v.data, .slice a v.l.length cap] 33)
  have b2 := b1.alloc b1.size (.cells #[str u.key, .int .i64 u.seq, .bool u.mkr, str u.data, .slice a' u.l.length cap'] 33)
  have HX : Hid (∀ w1, Below (w.heap.size + 2) ((w.alloc (.cells #[str v.key, .int .i64 v.seq, .bool v.mkr, str v.data, .slice a v.l.length cap] 33)).alloc (.cells #[str u.key, .int .i64 u.seq, .bool u.mkr, str u.data, .slice a' u.l.length cap'] 33)) w1 → Bv w1 w.heap.size (str v.key) (.int .i64 v.seq) (.bool v.mkr) (str v.data) (.slice a v.l.length cap) ∧ Bv w1 (w.heap.size + 1) (str u.key) (.int .i64 u.seq) (.bool u.mkr) (str u.data) (.slice a' u.l.length cap')) := ⟨fun w1 h => by
    refine ⟨?_, ?_⟩
    · unfold Bv; rw [h.block _ (by omega), heap_alloc_old _ _ (by simp)]; exact heap_alloc_new _ _
    · unfold Bv; rw [h.block _ (by omega)]
      have := heap_alloc_new (w.alloc (.cells #[str v.key, .int .i64 v.seq, .bool v.mkr, str v.data, .slice a v.l.length cap] 33)) (.cells #[str u.key, .int .i64 u.seq, .bool u.mkr, str u.data, .slice a' u.l.length cap'] 33)
      rw [World.size_alloc] at this
      exact this⟩
  have PV := hP.later b2
  have PU := hP'.later b2
  by_cases h1 : v.key = u.key
  · by_cases h2 : v.seq = u.seq
    · by_cases h3 : v.mkr = u.mkr
      · by_cases h4 : v.data = u.data
        · by_cases h5 : v.l.length = u.l.length
          · obtain ⟨key, seq, mk, data, l⟩ := v
            obtain ⟨key', seq', mk', data', l'⟩ := u
            simp only at h1 h2 h3 h4 h5 hz hz' hP hP' b1 b2 HX PV PU ⊢
            subst h1 h2 h3 h4
            have d5 : ((l.length : Int) == (l'.length : Int)) = true := by rw [beq_iff_eq]; omega
            have HL := Hid.mk h5
            clear h5
            have bb := Hid.mk b2
            generalize hSV : sv ⟨key, seq, mk, data, l⟩ ⟨key, seq, mk, data, l'⟩ = SV at *
            have HS1 : Hid (l = l' → SV = true) := ⟨fun h => by rw [← hSV]; exact sv_true (by rw [h])⟩
            have HS2 : Hid (¬ l = l' → SV = false) := ⟨fun h => by rw [← hSV]; exact sv_false (by intro q; injection q with _ _ _ _ q; exact h q)⟩
            clear hSV
            go_enter Tryz.func43, Tryz.ntmps43
            go_wp2_with fail
            have B0 := (Below.refl (w.heap.size + 2) ((w.alloc (.cells #[str key, .int .i64 seq, .bool mk, str data, .slice a l.length cap] 33)).alloc (.cells #[str key, .int .i64 seq, .bool mk, str data, .slice a' l'.length cap'] 33)))
            go_loopw [5] (fun i wr => ∃ k : Nat, k ≤ l.length ∧ i = .int .i64 (k : Int) ∧ l.take k = l'.take k ∧ Hid (Below (w.heap.size + 2) ((w.alloc (.cells #[str key, .int .i64 seq, .bool mk, str data, .slice a l.length cap] 33)).alloc (.cells #[str key, .int .i64 seq, .bool mk, str data, .slice a' l'.length cap'] 33)) wr)) (fun i _ => l.length - (intOf i).toNat)
            case atStart => exact ⟨0, by omega, rfl, by simp, ⟨B0⟩⟩
            case round =>
              obtain ⟨k, hk, rfl, hab, HB⟩ := hrel
              obtain ⟨va, ua⟩ := HX.out wr HB.out
              obtain ⟨_, _, _, _, x4, _⟩ := va.cells
              obtain ⟨_, _, _, _, y4, _⟩ := ua.cells
              have hbe : Below w.heap.size w wr := bb.out.trans (HB.out.mono (by omega))
              clear B0
              by_cases h1 : k < l.length
              · have d1 : decide ((k : Int) < (l.length : Int)) = true := decide_eq_true (by omega)
                have h2 : k < l'.length := by rw [← HL.out]; exact h1
                have k2 : (k : Int) < (l'.length : Int) := by omega
                obtain ⟨p, hp⟩ : ∃ p, l[k]? = some p := ⟨l[k], List.getElem?_eq_getElem h1⟩
                obtain ⟨b1, off1, rfl, hbl, c0, c1⟩ := (hP.later hbe).get k p hp
                obtain ⟨q, hq⟩ : ∃ q, l'[k]? = some q := ⟨l'[k], List.getElem?_eq_getElem h2⟩
                obtain ⟨b2, off2, rfl, hbl2, e0, e1⟩ := (hP'.later hbe).get k q hq
                by_cases hpq : p = q
                · subst hpq
                  have HT : Hid (l.take (k + 1) = l'.take (k + 1)) := ⟨take_next hp hq hab⟩
                  clear hab
                  go_wp2_with fail
                  go_quiet (fail)
                  go_wp2_with fail
                  exact ⟨⟨k + 1, by omega, by go_num, HT.out, ⟨below_dN HB.out nq⟩⟩, by simp [intOf]; omega⟩
                · have HS : Hid (SV = false) := ⟨HS2.out (take_ne hp hq hpq)⟩
                  clear hab
                  obtain ⟨pk, pt⟩ := p
                  obtain ⟨qk, qt⟩ := q
                  dsimp only at *
                  by_cases h3 : pk = qk
                  · subst h3
                    have d5 : (pt == qt) = false := by rw [beq_eq_false_iff_ne]; rintro rfl; exact hpq rfl
                    clear hpq
                    go_wp2_with fail
                    go_quiet (fail)
                    go_wp2_with fail
                    go_ret
                    exact ⟨by rw [HS.out]; rfl, below_dN hbe nq⟩
                  · have d5 : (pk == qk) = false := by rw [beq_eq_false_iff_ne]; exact h3
                    clear hpq
                    go_wp2_with fail
                    go_quiet (fail)
                    go_wp2_with fail
                    go_ret
                    exact ⟨by rw [HS.out]; rfl, below_dN hbe nq⟩
              · obtain rfl : k = l.length := by omega
                have d1 : decide ((l.length : Int) < (l.length : Int)) = false := decide_eq_false (by omega)
                have HS : Hid (SV = true) := ⟨HS1.out (by
                  have e := hab
                  rw [List.take_length] at e
                  rw [HL.out, List.take_length] at e
                  exact e)⟩
                clear hab
                go_wp2_with fail
                go_ret
                exact ⟨by rw [HS.out]; rfl, hbe⟩
          · have HS : Hid (sv v u = false) := ⟨sv_false (by rintro rfl; exact h5 rfl)⟩
            generalize sv v u = SV at *
            obtain ⟨key, seq, mk, data, l⟩ := v
            obtain ⟨key', seq', mk', data', l'⟩ := u
            simp only at h1 h2 h3 h4 h5 b2 ⊢
            subst h1 h2 h3 h4
            have d5 : ((l.length : Int) == (l'.length : Int)) = false := by rw [beq_eq_false_iff_ne]; omega
            clear h5
            clear HX PV PU
            go_enter Tryz.func43, Tryz.ntmps43
            go_wp2_with fail
            go_ret
            exact ⟨by rw [HS.out]; rfl, b2⟩
        · have HS : Hid (sv v u = false) := ⟨sv_false (by rintro rfl; exact h4 rfl)⟩
          generalize sv v u = SV at *
          obtain ⟨key, seq, mk, data, l⟩ := v
          obtain ⟨key', seq', mk', data', l'⟩ := u
          simp only at h1 h2 h3 h4 b2 ⊢
          subst h1 h2 h3
          have d5 : (data == data') = false := by rw [beq_eq_false_iff_ne]; exact h4
          clear h4
          clear HX PV PU
          go_enter Tryz.func43, Tryz.ntmps43
          go_wp2_with fail
          go_ret
          exact ⟨by rw [HS.out]; rfl, b2⟩
      · have HS : Hid (sv v u = false) := ⟨sv_false (by rintro rfl; exact h3 rfl)⟩
        generalize sv v u = SV at *
        obtain ⟨key, seq, mk, data, l⟩ := v
        obtain ⟨key', seq', mk', data', l'⟩ := u
        simp only at h1 h2 h3 b2 ⊢
        subst h1 h2
        have d5 : (mk == mk') = false := by rw [beq_eq_false_iff_ne]; exact h3
        clear h3
        clear HX PV PU
        go_enter Tryz.func43, Tryz.ntmps43
        go_wp2_with fail
        go_ret
        exact ⟨by rw [HS.out]; rfl, b2⟩
    · have HS : Hid (sv v u = false) := ⟨sv_false (by rintro rfl; exact h2 rfl)⟩
      generalize sv v u = SV at *
      obtain ⟨key, seq, mk, data, l⟩ := v
      obtain ⟨key', seq', mk', data', l'⟩ := u
      simp only at h1 h2 b2 ⊢
      subst h1
      have d5 : (seq == seq') = false := by rw [beq_eq_false_iff_ne]; exact h2
      have d6 : (seq != seq') = true := by rw [bne_iff_ne]; exact h2
      have d7 : decide (seq = seq') = false := decide_eq_false h2
      clear HX PV PU
      go_enter Tryz.func43, Tryz.ntmps43
      go_wp2_with fail
      go_ret
      exact ⟨by rw [HS.out]; rfl, b2⟩
  · have HS : Hid (sv v u = false) := ⟨sv_false (by rintro rfl; exact h1 rfl)⟩
    generalize sv v u = SV at *
    obtain ⟨key, seq, mk, data, l⟩ := v
    obtain ⟨key', seq', mk', data', l'⟩ := u
    simp only at h1 b2 ⊢
    have d5 : (key == key') = false := by rw [beq_eq_false_iff_ne]; exact h1
    clear h1
    clear HX PV PU
    go_enter Tryz.func43, Tryz.ntmps43
    go_wp2_with fail
    go_ret
    exact ⟨by rw [HS.out]; rfl, b2⟩
end Go.Proofs.YtkoaojhldcacbaaGreatDoor
