import Derived.Test.YtjoaiagiankfdaaDoorHead
namespace Go.Proofs.YtjoaiagiankfdaaDoor
set_option linter.unusedVariables false
set_option linter.unusedSimpArgs false
open Go.RowKit
/-- Whether two hashes are one. -/
def eqb (g h : Nat → UInt8) : Bool := (List.range 32).all fun i => g i == h i
theorem part5 (g : Nat → UInt8) (i : Nat) (hi : i < 32) (w : World) : (part 5 (b32 g) i).run Tryd.prog w = .ok (.int .u8 ((g i).toNat : Int)) w := by
  have h3 : i < (b32 g).size := by rw [b32_size]; exact hi
  have hv := b32_get g i hi
  rw [Array.getElem?_eq_getElem h3] at hv
  have h4 := Option.some.inj hv
  simp [go_sem, h3, h4]
theorem byte_beq (a b : UInt8) : ((a.toNat : Int) == (b.toNat : Int)) = (a == b) := by
  rw [Bool.eq_iff_iff, beq_iff_eq, beq_iff_eq]
  constructor
  · intro h; exact UInt8.toNat_inj.1 (by omega)
  · intro h; rw [h]
theorem eq22 (g h : Nat → UInt8) (w : World) : (Op.equalIn 10000 22 (.agg (b32 g)) (.agg (b32 h))).run Tryd.prog w = .ok (eqb g h) w := by
  unfold Op.equalIn
  rw [Sem.run_bind, run_underlying Tryd.underlying22 w, Result.andThen_ok]
  simp only [Sem.run_bind, Tryd.sizeOf5, Result.andThen_ok, Nat.mul_one]
  rw [Std.Legacy.Range.forIn_eq_forIn_range']
  have main : ∀ l : List Nat, (∀ i ∈ l, i < 32) → Sem.run Tryd.prog (forIn l ((none : Option Bool), ()) fun i __s => do
            let __do_lift ← part 5 (b32 g) i
            let __do_lift_1 ← part 5 (b32 h) i
            let __do_lift ← Op.equalIn 9999 5 __do_lift __do_lift_1
            if (!__do_lift) = true then pure (ForInStep.done (some false, ())) else pure (ForInStep.yield (none, ()))) w = .ok (if (l.all fun i => g i == h i) then (none, ()) else (some false, ())) w := by
    intro l
    induction l with
    | nil => intro _; simp
    | cons i r ih =>
      intro hl
      have ih' := ih (fun j hj => hl j (List.mem_cons_of_mem _ hj))
      have hi := hl i (List.mem_cons_self ..)
      rw [List.forIn_cons]
      simp only [Sem.run_bind, part5 g i hi, part5 h i hi, Result.andThen_ok, run_equalIn_int w 9998 5 .u8 .u8 _ _ Tryd.underlying5, byte_beq, List.all_cons]
      by_cases hb : (g i == h i) = true
      · rw [if_neg (by rw [hb]; decide)]
        simp only [Sem.run_pure, Result.andThen_ok, hb, Bool.true_and]
        exact ih'
      · have hb' : (g i == h i) = false := by simpa using hb
        rw [if_pos (by rw [hb']; rfl)]
        simp only [Sem.run_pure, Result.andThen_ok, hb', Bool.false_and]
        rfl
  rw [main _ (by intro i hi; simp [List.mem_range'] at hi; have : [:32].size = 32 := rfl; omega), Result.andThen_ok]
  have e : (List.range' [:32].start [:32].size [:32].step) = List.range 32 := rfl
  rw [e]
  show _ = Result.ok (eqb g h) w
  unfold eqb
  cases (List.range 32).all fun i => g i == h i <;> rfl
theorem eqb_self (g : Nat → UInt8) : eqb g g = true := by unfold eqb; rw [List.all_eq_true]; intro i _; simp
theorem eqb_of {g h : Nat → UInt8} (e : ∀ i, i < 32 → g i = h i) : eqb g h = true := by
  unfold eqb; rw [List.all_eq_true]; intro i hi; rw [List.mem_range] at hi; rw [e i hi]; simp
end Go.Proofs.YtjoaiagiankfdaaDoor
