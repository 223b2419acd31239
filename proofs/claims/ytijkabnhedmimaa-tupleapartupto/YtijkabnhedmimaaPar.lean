/- The laws' own lists: parts made right. -/
import Derived.Test.YtijkabnhedmimaaRd
import Derived.Test.YtijkabnhedmimaaEql
import Derived.RegionCalls
import Derived.Deep.RegionHeld3
namespace Go.Proofs.Ytijkabnhedmimaa
set_option linter.unusedVariables false
set_option linter.unusedSimpArgs false
open Go.RowKit
/-- made right -/
def fix (p : Pt) : Pt := if p.kind = 2 ∨ p.kind = 3 then ⟨p.kind, [], p.n⟩ else ⟨1, p.text, 0⟩
theorem fix_ok {p : Pt} (h1 : -9223372036854775808 ≤ p.n) (h2 : p.n ≤ 9223372036854775807) : (fix p).ok := by
  unfold fix
  split
  · next h => exact ⟨h1, h2, Or.inr ⟨h, rfl⟩⟩
  · exact ⟨by show (-9223372036854775808 : Int) ≤ 0; decide, by show (0 : Int) ≤ 9223372036854775807; decide, Or.inl ⟨rfl, rfl⟩⟩
theorem fixL_ok {l : List Pt} (h : N64 l) : okL (l.map fix) := fun q hq => by
  obtain ⟨p, hp, rfl⟩ := List.mem_map.1 hq
  exact fix_ok (h p hp).1 (h p hp).2
theorem okL_n64 {l : List Pt} (h : okL l) : N64 l := fun p hp => ⟨(h p hp).lo, (h p hp).hi⟩
theorem okL_all {l : List Pt} (h : okL l) : l.all isP = true := by rw [List.all_eq_true]; exact fun p hp => isP_of (h p hp)
theorem ngr_mono {a b : Nat} (h : a ≤ b) : ngr a ≤ ngr b := by unfold ngr; split <;> split <;> omega
theorem bulk_fix (l : List Pt) : bulk (l.map fix) ≤ bulk l := by
  induction l with
  | nil => simp
  | cons p l ih =>
    have : ngr (fix p).text.length ≤ ngr p.text.length := by
      unfold fix; split
      · exact ngr_mono (by simp)
      · exact Nat.le_refl _
    simp [bulk] at ih ⊢
    omega
theorem map_take_succ {l : List Pt} {k : Nat} {p : Pt} (h : l[k]? = some p) : (l.take (k + 1)).map fix = (l.take k).map fix ++ [fix p] := by rw [take_succ' h]; simp
theorem Ow.drew {base : Nat} {w : World} {v : Value} {l : List Pt} (h : Ow base w v l) : Ow base w.drew v l := ⟨h.own.drew, h.le⟩
theorem app_partd {ops : Array Oper} {rest : List Oper} {o : Oper} {a : Act} {Q : Exit → Act → World → Prop} {base : Nat} {w : World} {v : Value} {l : List Pt} {g : Nat} (p : Pt) (hO : Ow base w v l) (hg : g = w.heap.size) (hn : l.length ≤ 1000000000000)
    (hgd : o.guard = none) (s x : Operand) (ho : o.op = .call { callee := .builtin .append, args := #[s, x], argTypes := #[28, 28] })
    (hs : a.eval s = v) (hx : a.eval x = .slice (some ⟨g, 0, none⟩) 1 1)
    (h : ∀ v' w', Ow base w' v' (l ++ [p]) → Below base w w' → wpList Try.prog ops Q rest (a.put o.dst v') w') :
    wpList Try.prog ops Q (o :: rest) a (w.alloc (.cells #[.int .i64 p.kind, str p.text, .int .i64 p.n] 27)).drew :=
  app_part (w := w.drew) p hO.drew hg hn hgd s x ho hs hx fun v' w' h1 h2 _ => h v' w' h1 ((Below.refl base w).drew.trans h2)
theorem app_partw {ops : Array Oper} {rest : List Oper} {o : Oper} {a : Act} {Q : Exit → Act → World → Prop} {W : World} (hgd : o.guard = none) (s x : Operand) (ho : o.op = .call { callee := .builtin .append, args := #[s, x], argTypes := #[28, 28] })
    {base : Nat} {w : World} {v : Value} {l : List Pt} {g : Nat} (p : Pt) (hW : W = (w.alloc (.cells #[.int .i64 p.kind, str p.text, .int .i64 p.n] 27)).drew) (hO : Ow base w v l) (hg : g = w.heap.size) (hn : l.length ≤ 1000000000000)
    (hs : a.eval s = v) (hx : a.eval x = .slice (some ⟨g, 0, none⟩) 1 1)
    (h : ∀ v' w', Ow base w' v' (l ++ [p]) → Below base w w' → wpList Try.prog ops Q rest (a.put o.dst v') w') :
    wpList Try.prog ops Q (o :: rest) a W := by
  subst hW
  exact app_partd p hO hg hn hgd s x ho hs hx h
attribute [local go_sem ↓] Go.wp_at_zero Go.wp_at_succ
set_option maxHeartbeats 2000000 in
theorem parts_any (l : List Pt) (w : World) (a : Option Addr) (cap : Nat) (hP : PIn w a l) (hl : l.length ≤ 1000000000000) :
    Calls Try.prog 11 #[.slice a l.length cap] w fun e w' => ∃ v, e = .returned v ∧ Ow w.heap.size w' v (l.map fix) ∧ Below w.heap.size w w' := by
  go_enter Try.func11, Try.ntmps11
  go_wp2_with fail
  go_loopw [3, 4] (fun v i wr => ∃ k : Nat, k ≤ l.length ∧ i = .int .i64 (k : Int) ∧ Ow w.heap.size wr v ((l.take k).map fix) ∧ Below w.heap.size w wr) (fun _ i _ => l.length - (intOf i).toNat)
  case atStart => exact ⟨0, by omega, rfl, Ow.nil _ _ (Nat.le_refl _), Below.refl _ _⟩
  case round =>
    obtain ⟨k, hk, rfl, hO, hb⟩ := hrel
    by_cases h1 : k < l.length
    · have d1 : decide ((k : Int) < (l.length : Int)) = true := decide_eq_true (by omega)
      have k2 : (k : Int) < (l.length : Int) := by omega
      obtain ⟨p, hp⟩ : ∃ p, l[k]? = some p := ⟨l[k], List.getElem?_eq_getElem h1⟩
      obtain ⟨b1, off1, rfl, hbl, c0, c1, c2⟩ := (hP.later hb).get k p hp
      have hll : ((l.take k).map fix).length ≤ 1000000000000 := by rw [List.length_map, List.length_take]; omega
      have n0 := World.new_ne wr _ c0
      have n1 : wr.heap.size ≠ b1 := by omega
      have HF : Hid (∀ v w', Ow w.heap.size w' v ((l.take k).map fix ++ [fix p]) → Ow w.heap.size w' v ((l.take (k + 1)).map fix)) := ⟨fun v w' h => by rw [map_take_succ hp]; exact h⟩
      by_cases e2 : p.kind = 2
      · have q2 : (p.kind == 2) = true := by rw [beq_iff_eq]; exact e2
        have ef : fix p = ⟨p.kind, [], p.n⟩ := by unfold fix; rw [if_pos (Or.inl e2)]
        rw [ef] at HF
        clear e2 ef
        go_wp2_with fail
        go_region_held3 (fun w' => w'.cell? ⟨b1, off1 + k * 3, none⟩ = some (.int .i64 p.kind) ∧ w'.cell? ⟨b1, off1 + k * 3 + 1, none⟩ = some (str p.text) ∧ w'.cell? ⟨b1, off1 + k * 3 + 2, none⟩ = some (.int .i64 p.n)) (first | (go_keep; done) | exact ⟨c0, c1, c2⟩) (fail)
        go_wp2_with (refine app_partw rfl _ _ rfl ⟨p.kind, [], p.n⟩ rfl (hO.alloc _) (by simp) hll rfl rfl ?_; intro v2 w2 hO2 hb2)
        exact ⟨⟨k + 1, by omega, by go_num, HF.out _ _ hO2, (hb.alloc hb.size _).trans hb2⟩, by simp [intOf]; omega⟩
      · by_cases e3 : p.kind = 3
        · have q2 : (p.kind == 2) = false := by rw [beq_eq_false_iff_ne]; exact e2
          have q3 : (p.kind == 3) = true := by rw [beq_iff_eq]; exact e3
          have ef : fix p = ⟨p.kind, [], p.n⟩ := by unfold fix; rw [if_pos (Or.inr e3)]
          rw [ef] at HF
          clear e2 e3 ef
          go_wp2_with fail
          go_region_held3 (fun w' => w'.cell? ⟨b1, off1 + k * 3, none⟩ = some (.int .i64 p.kind) ∧ w'.cell? ⟨b1, off1 + k * 3 + 1, none⟩ = some (str p.text) ∧ w'.cell? ⟨b1, off1 + k * 3 + 2, none⟩ = some (.int .i64 p.n)) (first | (go_keep; done) | exact ⟨c0, c1, c2⟩) (fail)
          go_wp2_with (refine app_partw rfl _ _ rfl ⟨p.kind, [], p.n⟩ rfl (hO.alloc _) (by simp) hll rfl rfl ?_; intro v2 w2 hO2 hb2)
          exact ⟨⟨k + 1, by omega, by go_num, HF.out _ _ hO2, (hb.alloc hb.size _).trans hb2⟩, by simp [intOf]; omega⟩
        · have q2 : (p.kind == 2) = false := by rw [beq_eq_false_iff_ne]; exact e2
          have q3 : (p.kind == 3) = false := by rw [beq_eq_false_iff_ne]; exact e3
          have ef : fix p = ⟨1, p.text, 0⟩ := by unfold fix; rw [if_neg (by omega)]
          rw [ef] at HF
          clear e2 e3 ef
          go_wp2_with fail
          go_region_held3 (fun w' => w'.cell? ⟨b1, off1 + k * 3, none⟩ = some (.int .i64 p.kind) ∧ w'.cell? ⟨b1, off1 + k * 3 + 1, none⟩ = some (str p.text) ∧ w'.cell? ⟨b1, off1 + k * 3 + 2, none⟩ = some (.int .i64 p.n)) (first | (go_keep; done) | exact ⟨c0, c1, c2⟩) (fail)
          go_wp2_with (refine app_partw rfl _ _ rfl ⟨1, p.text, 0⟩ rfl (hO.alloc _) (by simp) hll rfl rfl ?_; intro v2 w2 hO2 hb2)
          exact ⟨⟨k + 1, by omega, by go_num, HF.out _ _ hO2, (hb.alloc hb.size _).trans hb2⟩, by simp [intOf]; omega⟩
    · obtain rfl : k = l.length := by omega
      have d1 : decide ((l.length : Int) < (l.length : Int)) = false := decide_eq_false (by omega)
      rw [List.take_length] at hO
      go_wp2_with fail
      go_ret
      exact ⟨_, rfl, hO, hb⟩
end Go.Proofs.Ytijkabnhedmimaa
