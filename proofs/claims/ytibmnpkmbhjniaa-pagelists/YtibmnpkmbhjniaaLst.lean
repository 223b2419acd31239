/- lent, kept; the document's Size and Delete. -/
import Derived.Test.YtibmnpkmbhjniaaFst
namespace Go.Proofs.Ytibmnpkmbhjniaa
set_option linter.unusedVariables false
set_option linter.unusedSimpArgs false
open Go.RowKit
attribute [local go_sem ↓] Go.wp_at_zero Go.wp_at_succ
attribute [local go_sem ↓] slPe sl9
def mk : En := ⟨[109, 97, 114, 107], []⟩
theorem Sl.head {w : World} {a : Option Addr} {cap : Nat} {l : List En} {m : En} (h : Sl w a cap (l ++ [m])) : Sl w a cap l := by
  have := h.take l.length
  rw [List.take_left] at this
  exact this
theorem lent_any (l : List En) (w : World) (a : Option Addr) (n cap : Nat) (hn : l.length = n) (hS : Sl w a cap l) (hl : l.length ≤ 100000000000) :
    Calls Try.prog 24 #[.slice a n cap] w fun e w' => ∃ ad c, e = .returned (.slice ad l.length c) ∧ Ow w.heap.size w' (.slice ad (l.length + 1) c) (l ++ [mk]) ∧ Below w.heap.size w w' := by
  subst hn
  go_enter Try.func24, Try.ntmps24
  go_wp2_with (first
    | (refine app_slice rfl _ _ rfl l (Ow.nil _ w.heap.size (Nat.le_refl _)) hS rfl (by simp; omega) rfl rfl ?_; intro v1 w1 o1 b1)
    | (refine app_one rfl _ _ rfl mk rfl o1 rfl (by simp; omega) rfl rfl ?_; intro v2 w2 o2 b2; obtain ⟨a2, c2, rfl, s2⟩ := o2.sl; rw [List.nil_append] at s2 o2; have hr := fun w => run_slP a2 (l.length + 1) c2 l.length (by have := s2.le; simp at this; omega) s2.max s2.nil w))
  go_ret
  refine ⟨a2, c2, rfl, ?_, b1.trans b2⟩
  simpa using o2
theorem kept_any (l : List En) (w : World) (ad a : Option Addr) (n c cap : Nat) (hn : l.length = n) (hM : Sl w ad c (l ++ [mk])) (hL : PIn w a l) (hl : l.length ≤ 100000000000) :
    Calls Try.prog 27 #[.slice ad n c, .slice a n cap] w fun e w' => e = .returned (.bool true) ∧ Below w.heap.size w w' := by
  subst hn
  have hs := same_any l l w ad a l.length l.length c cap rfl rfl hM.head.at' hL (by omega) (by omega)
  rw [same_true rfl] at hs
  have hle : l.length + 1 ≤ c := by have := hM.le; simp at this; exact this
  have hr : ∀ w, (slP (.slice ad l.length c) none (some (.int .i64 ((l.length : Int) + 1))) none).run Try.prog w = .ok (.slice ad (l.length + 1) c) w := fun w => run_slP ad l.length c (l.length + 1) hle hM.max hM.nil w
  go_enter Try.func27, Try.ntmps27
  go_wp2_with fail
  with_reducible refine Calls.mono hs ?_
  rintro e w1 ⟨rfl, b1⟩
  dsimp only
  obtain ⟨b, off, rfl, hbl, c0, c1⟩ := (hM.later b1).at'.get l.length mk (by simp)
  have hlt : (l.length : Int) < (l.length : Int) + 1 := by omega
  go_wp2_with fail
  go_ret
  exact ⟨rfl, b1⟩
theorem totw_next {l : List En} {k : Nat} {e : En} (h : l[k]? = some e) : wrap64 (wrap64 (wrap64 (totw (l.take k) + 2) + (e.key.length : Int)) + (e.val.length : Int)) = totw (l.take (k + 1)) := by
  unfold totw
  rw [tot_take h]
  unfold sz
  simp only [wrap_eq]
  omega
set_option maxHeartbeats 1000000 in
theorem rSize_any (l : List En) (w : World) (a : Option Addr) (n cap : Nat) (hn : l.length = n) (hP : PIn w a l) (hl : l.length ≤ 9223372036854775807) :
    Calls Try.prog 28 #[.slice a n cap] w fun e w' => e = .returned (.int .i64 (totw l)) ∧ Below w.heap.size w w' := by
  subst hn
  go_enter Try.func28, Try.ntmps28
  go_wp2_with fail
  go_loopw [3, 4] (fun s i wr => ∃ k : Nat, k ≤ l.length ∧ i = .int .i64 (k : Int) ∧ s = .int .i64 (totw (l.take k)) ∧ Below w.heap.size w wr) (fun _ i _ => l.length - (intOf i).toNat)
  case atStart => exact ⟨0, by omega, rfl, by rw [List.take_zero, totw_nil], Below.refl _ _⟩
  case round =>
    obtain ⟨k, hk, rfl, rfl, hb⟩ := hrel
    by_cases hlt : k < l.length
    · have hd : decide ((k : Int) < (l.length : Int)) = true := decide_eq_true (by omega)
      have k2 : (k : Int) < (l.length : Int) := by omega
      obtain ⟨p, hp⟩ : ∃ p, l[k]? = some p := ⟨l[k], List.getElem?_eq_getElem hlt⟩
      obtain ⟨b, off, rfl, hbl, c0, c1⟩ := (hP.later hb).get k p hp
      have HX := Hid.mk (totw_next hp)
      generalize totw (l.take k) = A at *
      go_wp2_with fail
      go_quiet (fail)
      go_wp2_with fail
      exact ⟨⟨k + 1, by omega, by go_num, by rw [← HX.out], below_dN hb nq⟩, by simp [intOf]; omega⟩
    · obtain rfl : k = l.length := by omega
      have hd : decide ((l.length : Int) < (l.length : Int)) = false := decide_eq_false (by omega)
      rw [List.take_length]
      go_wp2_with fail
      go_ret
      exact ⟨rfl, hb⟩
set_option maxHeartbeats 1000000 in
theorem rDelete_any (l : List En) (k : List UInt8) (w : World) (a : Option Addr) (n cap : Nat) (hn : l.length = n) (hS : Sl w a cap l) (hl : l.length ≤ 100000000000) :
    Calls Try.prog 30 #[.slice a n cap, str k] w (DelP w l k) := by
  subst hn
  have hf := rFind_any l k w a cap hS.at' (by omega)
  have hle := fnd_le l k
  unfold found at hf
  have r1 := fun w => run_slP a l.length cap (fnd l k) (by have := hS.le; omega) hS.max hS.nil w
  have s1 := hS.take (fnd l k)
  have l1 : (l.take (fnd l k)).length = fnd l k := by rw [List.length_take]; omega
  by_cases hh : hit l k = true
  · have h1 : fnd l k + 1 ≤ l.length := by
      rcases Nat.lt_or_ge (fnd l k) l.length with q | q
      · omega
      · rw [hit_none (by omega)] at hh; cases hh
    rw [hh] at hf
    have HP : Hid (∀ v w', Ow w.heap.size w' v (l.take (fnd l k) ++ l.drop (fnd l k + 1)) → Below w.heap.size w w' → DelP w l k (.returned (.tuple #[v, .bool true])) w') := ⟨fun v w' o b => ⟨v, by rw [hh], by unfold del; rw [hh]; exact o, b⟩⟩
    have r2 : ∀ w, (slP (.slice a l.length cap) (some (.int .i64 ((fnd l k : Int) + 1))) none none).run Try.prog w = .ok (.slice (dropA a cap (fnd l k + 1)) (l.length - (fnd l k + 1)) (cap - (fnd l k + 1))) w := fun w => run_slP_lo a l.length cap (fnd l k + 1) h1 hS.le hS.max hS.nil w
    have s2 := hS.drop (fnd l k + 1) h1
    have l2 : (l.drop (fnd l k + 1)).length = l.length - (fnd l k + 1) := List.length_drop
    generalize l.take (fnd l k) = X at *
    generalize l.drop (fnd l k + 1) = Y at *
    generalize dropA a cap (fnd l k + 1) = a2 at *
    generalize DelP w l k = PP at *
    generalize fnd l k = f at *
    clear hh
    go_enter Try.func30, Try.ntmps30
    go_wp2_with (first
      | (go_at_call 29; refine hf.mono ?_; rintro e w0 ⟨rfl, HB⟩)
      | (refine app_slice rfl _ _ rfl X (Ow.nil _ _ HB.size) (s1.later HB) l1 (by simp; omega) rfl rfl ?_; intro v1 w1 o1 b1)
      | (refine app_slice rfl _ _ rfl Y o1 (s2.later (HB.trans b1)) l2 (by simp; omega) rfl rfl ?_; intro v3 w3 o3 b3))
    exact HP.out _ _ (by simpa using o3) ((HB.trans b1).trans b3)
  · have hh' : hit l k = false := by simpa using hh
    rw [hh'] at hf
    have HP : Hid (∀ v w', Ow w.heap.size w' v (l.take (fnd l k) ++ l.drop (fnd l k)) → Below w.heap.size w w' → DelP w l k (.returned (.tuple #[v, .bool false])) w') := ⟨fun v w' o b => ⟨v, by rw [hh'], by unfold del; rw [hh']; simpa using o, b⟩⟩
    have r2 := fun w => run_slP_lo a l.length cap (fnd l k) hle hS.le hS.max hS.nil w
    have s2 := hS.drop (fnd l k) hle
    have l2 : (l.drop (fnd l k)).length = l.length - fnd l k := List.length_drop
    generalize l.take (fnd l k) = X at *
    generalize l.drop (fnd l k) = Y at *
    generalize dropA a cap (fnd l k) = a2 at *
    generalize DelP w l k = PP at *
    generalize fnd l k = f at *
    clear hh hh'
    go_enter Try.func30, Try.ntmps30
    go_wp2_with (first
      | (go_at_call 29; refine hf.mono ?_; rintro e w0 ⟨rfl, HB⟩)
      | (refine app_slice rfl _ _ rfl X (Ow.nil _ _ HB.size) (s1.later HB) l1 (by simp; omega) rfl rfl ?_; intro v1 w1 o1 b1)
      | (refine app_slice rfl _ _ rfl Y o1 (s2.later (HB.trans b1)) l2 (by simp; omega) rfl rfl ?_; intro v3 w3 o3 b3))
    exact HP.out _ _ (by simpa using o3) ((HB.trans b1).trans b3)
end Go.Proofs.Ytibmnpkmbhjniaa
