/- Clone, Split. -/
import Derived.Test.YtibmnpkmbhjniaaSiz
import Derived.RegionCalls
import Derived.Laws.Cover3
import Derived.Deep.RegionHeld3
namespace Go.Proofs.Ytibmnpkmbhjniaa
set_option linter.unusedVariables false
set_option linter.unusedSimpArgs false
open Go.RowKit
theorem run_slP_lo (a : Option Addr) (len cap n : Nat) (h1 : n ≤ len) (h2 : len ≤ cap) (h3 : cap ≤ 9223372036854775807) (hn : a = none → cap = 0) (w : World) : (slP (.slice a len cap) (some (.int .i64 (n : Int))) none none).run Try.prog w = .ok (.slice (dropA a cap n) (len - n) (cap - n)) w := by
  unfold slP
  cases a with
  | none =>
    obtain rfl := hn rfl
    obtain rfl : len = 0 := by omega
    obtain rfl : n = 0 := by omega
    simp [Instr.slice, Try.underlying22, go_sem, dropA]
  | some ad =>
    obtain ⟨i0, hi0, hz0, hz1, hz2⟩ := infoP
    have c : ¬ ((len : Int) < (n : Int)) := by omega
    have c2 : ¬ ((cap : Int) < (len : Int)) := by omega
    by_cases h : cap - n = 0
    · have : cap = n := by omega
      subst this
      have : len = cap := by omega
      subst this
      simp [Instr.slice, Try.underlying22, go_sem, dropA, c, c2, hi0, hz1, sizeOf, typeInfo]
    · have h' : cap ≠ n := by omega
      simp [Instr.slice, Try.underlying22, go_sem, dropA, h, h', h1, c, c2, hi0, hz1, sizeOf, typeInfo]
theorem run_slP_3 (a : Option Addr) (len cap n : Nat) (h1 : n ≤ cap) (h3 : cap ≤ 9223372036854775807) (hn : a = none → cap = 0) (w : World) : (slP (.slice a len cap) none (some (.int .i64 (n : Int))) (some (.int .i64 (n : Int)))).run Try.prog w = .ok (.slice a n n) w := by
  unfold slP
  cases a with
  | none =>
    obtain rfl := hn rfl
    obtain rfl : n = 0 := by omega
    simp [Instr.slice, Try.underlying22, go_sem]
  | some ad =>
    have c : ¬ ((cap : Int) < (n : Int)) := by omega
    simp [Instr.slice, Try.underlying22, go_sem, c]
    intro hc
    omega
attribute [local go_sem ↓] Go.wp_at_zero Go.wp_at_succ
attribute [local go_sem ↓] slPe
theorem run_nil (a : Option Addr) (len cap : Nat) (w : World) : (binOp BinOp.eql 22 (.slice a len cap) (.slice none 0 0)).run Try.prog w = .ok (.bool a.isNone) w := by
  simp [binOp, run_equal_slice_nil (P := Try.prog) w 22 43 a len cap Try.underlying22, go_sem]
theorem clone_any (l : List En) (w : World) (a : Option Addr) (n cap : Nat) (hS : Sl w a cap l) (hn : l.length = n) (hl : l.length ≤ 1000000000000) :
    Calls Try.prog 38 #[.slice a n cap] w fun e w' => ∃ v, e = .returned v ∧ Ow w.heap.size w' v l ∧ Below w.heap.size w w' := by
  subst hn
  cases a with
  | none =>
    have hc := hS.nil rfl
    have h0 : l.length = 0 := by have := hS.le; omega
    have : l = [] := List.eq_nil_of_length_eq_zero h0
    subst this hc
    have hr := fun w => run_nil none 0 0 w
    go_enter Try.func38, Try.ntmps38
    go_wp2_with fail
    go_ret
    exact ⟨_, rfl, Ow.nil _ _ (Nat.le_refl _), Below.refl _ _⟩
  | some ad =>
    have hr := fun w => run_nil (some ad) l.length cap w
    go_enter Try.func38, Try.ntmps38
    go_wp2_with (refine app_slice rfl _ _ rfl l (Ow.empty (base := w.heap.size) w (Nat.le_refl _)) (hS.later ((Below.refl _ _).alloc (Nat.le_refl _) _)) rfl (by simp; omega) rfl rfl ?_; intro v' w' hO hb)
    go_ret
    exact ⟨_, rfl, by simpa using hO, ((Below.refl _ _).alloc (Nat.le_refl _) _).trans hb⟩
/-- two rows of one's own that lie apart -/
structure Tw (B : Nat) (w : World) (x : Value) (X : List En) (y : Value) (Y : List En) : Prop where
  ox : Ow B w x X
  oy : Ow B w y Y
  ne : ∀ g, x.ownBlock = some g → y.ownBlock ≠ some g
theorem Tw.symm {B : Nat} {w : World} {x y : Value} {X Y : List En} (h : Tw B w x X y Y) : Tw B w y Y x X := ⟨h.oy, h.ox, fun g hg hx => h.ne g hx hg⟩
theorem tw_of {B : Nat} {w0 w1 w2 w3 : World} {x y : Value} {X Y : List En} (hB : B ≤ w0.heap.size) (ox : Ow w0.heap.size w1 x X) (b : Below w1.heap.size w1 w2) (oy : Ow w2.heap.size w3 y Y) (b2 : Below w2.heap.size w2 w3) : Tw B w3 x X y Y := by
  have h1 := ox.le
  have h2 := b.size
  refine ⟨(ox.later (below_seq b b2)).base hB, oy.base (by omega), fun g hg hy => ?_⟩
  have l1 := (ox.own.lt g hg).2
  have l2 := (oy.own.lt g hy).1
  omega
def SplitP (w : World) (l : List En) (n : Nat) (e : Ending) (w' : World) : Prop := ∃ x y, e = .returned (.tuple #[x, y]) ∧ Tw w.heap.size w' x (l.take n) y (l.drop n) ∧ Below w.heap.size w w'
set_option maxHeartbeats 1000000 in
theorem split_any (l : List En) (w : World) (a : Option Addr) (cap : Nat) (hS : Sl w a cap l) (hl : l.length ≤ 1000000000000) :
    Calls Try.prog 22 #[.slice a l.length cap] w (SplitP w l (cutw l)) := by
  have hle := cutw_le l
  have hc := cut_any l w a cap hS.at' (by omega)
  have HP : Hid (∀ x y w', Tw w.heap.size w' x (l.take (cutw l)) y (l.drop (cutw l)) → Below w.heap.size w w' → SplitP w l (cutw l) (.returned (.tuple #[x, y])) w') := ⟨fun x y w' h1 h2 => ⟨x, y, rfl, h1, h2⟩⟩
  have c1 := fun w' (hb : Below w.heap.size w w') => clone_any (l.take (cutw l)) w' a (cutw l) cap ((hS.later hb).take _) (by rw [List.length_take]; omega) (by rw [List.length_take]; omega)
  have c2 := fun w' (hb : Below w.heap.size w w') => clone_any (l.drop (cutw l)) w' (dropA a cap (cutw l)) (l.length - cutw l) (cap - cutw l) ((hS.later hb).drop _ hle) (by rw [List.length_drop]) (by rw [List.length_drop]; omega)
  have r1 := fun w => run_slP a l.length cap (cutw l) (by have := hS.le; omega) hS.max hS.nil w
  have r2 := fun w => run_slP_lo a l.length cap (cutw l) hle hS.le hS.max hS.nil w
  generalize hX : l.take (cutw l) = X at *
  generalize hY : l.drop (cutw l) = Y at *
  generalize SplitP w l (cutw l) = PP at *
  generalize cutw l = n at *
  generalize dropA a cap n = ad2 at *
  clear hX hY hS
  go_enter Try.func22, Try.ntmps22
  go_wp2_with (go_at_call 43; refine hc.mono ?_; rintro e w0 ⟨rfl, HB⟩)
  clear hc
  go_region_held3 (fun w' => Below w.heap.size w w') (first | exact HB.drew | exact below_seq (by assumption) bx | exact below_seq (by assumption) bY) (first
    | (go_at_call 38; with_reducible refine Calls.mono (c1 _ (by assumption)) ?_; rintro e w1 ⟨x, rfl, ox, bx⟩)
    | (go_at_call 38; with_reducible refine Calls.mono (c2 _ (by assumption)) ?_; rintro e w2 ⟨y, rfl, oy, bY⟩))
  go_wp2_with fail
  exact HP.out _ _ _ (tw_of (w0 := w0.drew) HB.size ox (Below.refl _ _) oy bY) (by assumption)
end Go.Proofs.Ytibmnpkmbhjniaa
