/- own and stays: a list that is lent, with marks behind it. -/
import Derived.Test.YtijkabnhedmimabSlB
import Derived.Test.YtijkabnhedmimabSam
import Derived.Test.YtijkabnhedmimabAppW
import Derived.RegionCalls
import Derived.Deep.RegionHeld3
namespace Go.Proofs.Ytijkabnhedmimab
set_option linter.unusedVariables false
set_option linter.unusedSimpArgs false
open Go.RowKit
abbrev k77 : Pt := ⟨77, [], 0⟩
abbrev kmk : Pt := ⟨0, [109, 97, 114, 107], 0⟩
theorem PIn.cell3 {w : World} {b off : Nat} {l : List Pt} {k : Nat} {p : Pt} (h : PIn w (some ⟨b, off, none⟩) l) (hk : l[k]? = some p) : w.cell? ⟨b, off + k * 3, none⟩ = some (.int .i64 p.kind) ∧ w.cell? ⟨b, off + k * 3 + 1, none⟩ = some (str p.text) ∧ w.cell? ⟨b, off + k * 3 + 2, none⟩ = some (.int .i64 p.n) := by
  obtain ⟨b', off', e, _, k0, k1, k2⟩ := h.get _ _ hk
  injection e with e
  injection e with e1 e2
  subst e1 e2
  exact ⟨k0, k1, k2⟩
theorem own_sl {base : Nat} {w : World} {v : Value} {l : List Pt} (h : Ow base w v (l ++ [k77, kmk])) : ∃ ad c, v = .slice ad (l.length + 2) c ∧ Sl w ad c (l ++ [k77, kmk]) ∧ (∀ w', (slP (.slice ad (l.length + 2) c) none (some (.int .i64 (l.length : Int))) none).run Try.prog w' = .ok (.slice ad l.length c) w') := by
  obtain ⟨ad, c, e, s⟩ := h.sl
  have e2 : (l ++ [k77, kmk]).length = l.length + 2 := by simp
  rw [e2] at e
  exact ⟨ad, c, e, s, run_slP ad (l.length + 2) c l.length (by omega) (by rw [← e2]; exact s.le) s.max s.nil⟩
attribute [local go_sem ↓] Go.wp_at_zero Go.wp_at_succ
attribute [local go_sem ↓] slPe
set_option maxHeartbeats 2000000 in
theorem own_any (l : List Pt) (w : World) (a : Option Addr) (cap : Nat) (hP : PIn w a l) (hl : l.length ≤ 100000000) :
    Calls Try.prog 8 #[.slice a l.length cap] w fun e w' => ∃ ad c, e = .returned (.tuple #[.slice ad l.length c, .slice ad (l.length + 2) c]) ∧ Ow w.heap.size w' (.slice ad (l.length + 2) c) (l ++ [k77, kmk]) ∧ Below w.heap.size w w' := by
  go_enter Try.func8, Try.ntmps8
  go_wp2_with fail
  go_loopw [4, 5] (fun v i wr => ∃ k : Nat, k ≤ l.length ∧ i = .int .i64 (k : Int) ∧ Ow w.heap.size wr v (l.take k) ∧ Below w.heap.size w wr) (fun _ i _ => l.length - (intOf i).toNat)
  case atStart => exact ⟨0, by omega, rfl, Ow.nil _ _ (Nat.le_refl _), Below.refl _ _⟩
  case round =>
    obtain ⟨k, hk, rfl, hO, hb⟩ := hrel
    by_cases h1 : k < l.length
    · have d1 : decide ((k : Int) < (l.length : Int)) = true := decide_eq_true (by omega)
      have k2 : (k : Int) < (l.length : Int) := by omega
      obtain ⟨p, hp⟩ : ∃ p, l[k]? = some p := ⟨l[k], List.getElem?_eq_getElem h1⟩
      obtain ⟨b1, off1, rfl, hbl, c0, c1, c2⟩ := (hP.later hb).get k p hp
      have hll : (l.take k).length ≤ 1000000000000 := by rw [List.length_take]; omega
      have HF : ∀ vm wm, Ow w.heap.size wm vm (l.take k ++ [p]) → Ow w.heap.size wm vm (l.take (k + 1)) := fun vm wm h => by rw [take_succ' hp]; exact h
      go_wp2_with fail
      go_region_held3 (fun w' => w'.cell? ⟨b1, off1 + k * 3, none⟩ = some (.int .i64 p.kind) ∧ w'.cell? ⟨b1, off1 + k * 3 + 1, none⟩ = some (str p.text) ∧ w'.cell? ⟨b1, off1 + k * 3 + 2, none⟩ = some (.int .i64 p.n)) (first | (go_keep; done) | exact ⟨c0, c1, c2⟩ | exact (hP.later (hb.trans hb2)).cell3 hp) ((refine step_part (by rfl) _ _ (by rfl) ⟨p.kind, p.text, p.n⟩ rfl hO rfl hll (by rfl) (by rfl) ?_; intro v2 w2 hO2 hb2))
      go_wp2_with fail
      trace_state
      exact ⟨⟨k + 1, by omega, by go_num, HF _ _ hO2, hb.trans hb2⟩, by simp [intOf]; omega⟩
    · obtain rfl : k = l.length := by omega
      have d1 : decide ((l.length : Int) < (l.length : Int)) = false := decide_eq_false (by omega)
      rw [List.take_length] at hO
      have sm : Sl (wr.alloc (.cells #[.int .i64 77, .string ⟨#[]⟩, .int .i64 0, .int .i64 0, .string ⟨#[109, 97, 114, 107]⟩, .int .i64 0] 39)) (some ⟨wr.heap.size, 0, none⟩) 2 [k77, kmk] := ⟨PIn.new wr [k77, kmk], by decide, by decide, fun h => by cases h⟩
      have hln : l.length + [k77, kmk].length ≤ 1000000000000 := by simp; omega
      go_wp2_with ((refine app_slice rfl _ _ rfl (base := w.heap.size) (l := l) [k77, kmk] (hO.alloc _) sm rfl hln rfl rfl ?_; intro vm w4 hO4 hb4; obtain ⟨ad, c, rfl, s4, hsp⟩ := own_sl hO4))
      go_ret2
      exact ⟨ad, c, rfl, hO4, (hb.alloc hb.size _).trans hb4⟩
end Go.Proofs.Ytijkabnhedmimab
