/- The document's Rows, and SameRows of the same. -/
import Derived.Test.YtaonjmmdgfbceaaRws
namespace Go.Proofs.Ytaonjmmdgfbceaa
set_option linter.unusedVariables false
set_option linter.unusedSimpArgs false
open Go.RowKit Go.Shelf
attribute [local go_sem ↓] Go.wp_at_zero Go.wp_at_succ
theorem wcs_one (r : Rw) : ∀ u ∈ wcs r, u.oneCell' = true := by
  intro u hu
  simp [wcs] at hu
  rcases hu with rfl | rfl | rfl | rfl <;> rfl
theorem Wo.nil (w : World) (base : Nat) (h : base ≤ w.heap.size) : Wo base w (.slice none 0 0) [] := ⟨World.ownsRow_nil _ _ _ _, h⟩
theorem Wo.base {b b' : Nat} {w : World} {v : Value} {X : List Rw} (h : Wo b w v X) (hb : b' ≤ b) : Wo b' w v X := by
  refine ⟨⟨h.own.1, ?_⟩, Nat.le_trans hb h.le⟩
  rcases h.own.2 with e | ⟨g, cap, cur, e1, e2, e3⟩
  · exact Or.inl e
  · exact Or.inr ⟨g, cap, cur, e1, Nat.le_trans hb e2, e3⟩
/-- a row behind one's own -/
theorem run_wo {W : World} {base : Nat} {w : World} {v : Value} {X : List Rw} {g : Nat} (ty : TypeId) (r : Rw) (hW : W.heap = (w.alloc (.cells (wcs r).toArray 37)).heap) (hO : Wo base w v X) (hg : g = w.heap.size) (hn : X.length ≤ 1954687338260) :
    ∃ v' w', (Builtin.append_ #[34, 34] ty #[v, .slice (some ⟨g, 0, none⟩) 1 1]).run Try.prog W = .ok v' w' ∧ Wo base w' v' (X ++ [r]) ∧ Below base W w' := by
  subst hg
  obtain ⟨i0, hi, hz0, hz1, hz2⟩ := info_parts infoWf
  have hmx : maxLen = 9223372036854775807 := rfl
  have hWs : W.heap.size = w.heap.size + 1 := by rw [hW]; simp
  have hWn : W.heap[w.heap.size]? = some (.cells (wcs r).toArray 37 (0, 0)) := by rw [hW]; exact heap_alloc_new _ _
  have hle := hO.le
  have o1 : W.ownsRow base 37 4 v X.length (wcells X) := own_same hO.own (fun k hk => by rw [hW]; exact heap_alloc_old _ _ (hO.own.lt k hk).2)
  obtain ⟨v', w', hr, hown, hgrow, _⟩ := run_append_own_wide (P := Try.prog) (w := W) base 34 ty 37 i0 _ 4 40 Try.underlying34 hi hz0 hz1 hz2 rfl (by omega) v X.length (wcells X) o1 ⟨w.heap.size, 0, none⟩ 1 1 (wcs r) rfl
    (World.news_of_block (cs := (wcs r).toArray) (t := 37) (fr := (0, 0)) hWn) (wcs_one r) (by rw [hmx]; omega) (by omega) (by omega)
  refine ⟨v', w', hr, ⟨?_, by have := hgrow.size; omega⟩, grown_below o1 (by omega) hgrow⟩
  rw [wcells_append, List.length_append]
  have : wcells [r] = wcs r := by simp [wcells]
  rw [this]; exact hown
theorem step_wo {ops : Array Oper} {o : Oper} {a : Act} {K : Act → World → Prop} {Q : Exit → Act → World → Prop} {E : Prop} {W : World} (hgd : o.guard = none) (s x : Operand) (ho : o.op = .call { callee := .builtin .append, args := #[s, x], argTypes := #[34, 34] })
    {base : Nat} {w : World} {v : Value} {X : List Rw} {g : Nat} (r : Rw) (hO : Wo base w v X) (hW : W.heap = (w.alloc (.cells (wcs r).toArray 37)).heap) (hg : g = w.heap.size) (hn : X.length ≤ 1954687338260)
    (hs : a.eval s = v) (hx : a.eval x = .slice (some ⟨g, 0, none⟩) 1 1)
    (h : ∀ v' w', Wo base w' v' (X ++ [r]) → Below base W w' → K (a.put o.dst v') w') : if Region.wanted o (yielded ops a.tmps) = true then Oper.wp Try.prog o a W K Q else E := by
  obtain ⟨v', w', hr, h1, h2⟩ := run_wo (W := W) o.type r hW hO hg hn
  exact step_run hgd s x ho hs hx hr (h v' w' h1 h2)
theorem rwsL_len (L : List Vs) : (rwsL L).length = L.length := by simp [rwsL]
theorem rwsL_get {L : List Vs} {m : Nat} {u : Vs} (h : L[m]? = some u) : (rwsL L)[L.length - (m + 1)]? = some (rwOf u) := by
  have hm := (List.getElem?_eq_some_iff.1 h).1
  unfold rwsL
  rw [List.getElem?_map, List.getElem?_reverse (by omega), show L.length - 1 - (L.length - (m + 1)) = m by omega, h]
  rfl
theorem rwsL_step {L : List Vs} {m : Nat} {u : Vs} (h : L[m]? = some u) : (rwsL L).take (L.length - m) = (rwsL L).take (L.length - (m + 1)) ++ [rwOf u] := by
  have hm := (List.getElem?_eq_some_iff.1 h).1
  rw [show L.length - m = L.length - (m + 1) + 1 by omega]
  exact takeV (rwsL_get h)
set_option maxHeartbeats 4000000 in
theorem rRows_any (L : List Vs) (w : World) (a : Option Addr) (n cap : Nat) (hL : Li w L a n cap) :
    Calls Try.prog 32 #[.slice a n cap] w fun e w' => ∃ v, e = .returned v ∧ Wo w.heap.size w' v (rwsL L) ∧ Below w.heap.size w w' := by
  obtain rfl := hL.n
  have hlen := hL.l
  have hw0 : wrap64 ((L.length : Int) - 1) = (L.length : Int) - 1 := by unfold wrap64; omega
  have C0 := Wo.nil w w.heap.size (Nat.le_refl _)
  go_enter Try.func32, Try.ntmps32
  go_wp2_with fail
  go_loopw [3, 4] (fun o i wr => ∃ k : Nat, k ≤ L.length ∧ i = .int .i64 ((k : Int) - 1) ∧ Hid (Wo w.heap.size wr o ((rwsL L).take (L.length - k))) ∧ Below w.heap.size w wr) (fun o i _ => (intOf i + 1).toNat)
  case atStart => exact ⟨L.length, by omega, by go_num, ⟨by simpa using C0⟩, Below.refl _ _⟩
  case round =>
    clear C0
    obtain ⟨k, hk, rfl, hO, hb⟩ := hrel
    cases k with
    | zero =>
      have d1 : decide ((0 : Int) ≤ (((0 : Nat) : Int) - 1)) = false := by decide
      clear hL
      go_wp2_with fail
      go_ret
      exact ⟨_, rfl, by have := hO.out; rwa [Nat.sub_zero, ← rwsL_len, List.take_length] at this, hb⟩
    | succ m =>
      have e1 : (((m + 1 : Nat) : Int) - 1) = (m : Int) := by omega
      rw [e1]
      have d1 : decide ((0 : Int) ≤ (m : Int)) = true := decide_eq_true (by omega)
      have k2 : (m : Int) < (L.length : Int) := by omega
      have hlt : m < L.length := by omega
      obtain ⟨u, hu⟩ : ∃ u, L[m]? = some u := ⟨L[m], List.getElem?_eq_getElem hlt⟩
      have hw1 : wrap64 ((m : Int) - 1) = (m : Int) - 1 := by unfold wrap64; omega
      obtain ⟨b, off, ma, mc, rfl, hbl, c0, c1, c2, c3, c4, hsl⟩ := hL.s.at'.get m u hu
      have hT := Hid.mk (rwsL_step hu)
      have hlk : Hid (((rwsL L).take (L.length - (m + 1))).length ≤ 1954687338260) := ⟨by rw [List.length_take, rwsL_len]; omega⟩
      have hzd : (⟨u.data.toArray⟩ : ByteArray).size = u.data.length := str_size _
      clear hu hL hsl c4
      have HS : Hid (∀ w', Below w.heap.size w w' → Below w.heap.size w w' ∧ w'.cell? ⟨b, off + m * 5, none⟩ = some (str u.key) ∧ w'.cell? ⟨b, off + m * 5 + 1, none⟩ = some (.int .i64 u.seq) ∧ w'.cell? ⟨b, off + m * 5 + 2, none⟩ = some (.bool u.mkr) ∧ w'.cell? ⟨b, off + m * 5 + 3, none⟩ = some (str u.data)) := ⟨fun w' hB => ⟨hB, (hB.cell (p := ⟨b, _, none⟩) hbl).trans c0, (hB.cell (p := ⟨b, _, none⟩) hbl).trans c1, (hB.cell (p := ⟨b, _, none⟩) hbl).trans c2, (hB.cell (p := ⟨b, _, none⟩) hbl).trans c3⟩⟩
      clear c0 c1 c2 c3
      go_wp2_with fail
      go_region_held3 (fun w' => Below w.heap.size w w' ∧ w'.cell? ⟨b, off + m * 5, none⟩ = some (str u.key) ∧ w'.cell? ⟨b, off + m * 5 + 1, none⟩ = some (.int .i64 u.seq) ∧ w'.cell? ⟨b, off + m * 5 + 2, none⟩ = some (.bool u.mkr) ∧ w'.cell? ⟨b, off + m * 5 + 3, none⟩ = some (str u.data)) (first
        | exact HS.out _ hb.drew
        | exact HS.out _ (Below.trans (And.left (by assumption)) b2)
        | exact HS.out _ (Below.alloc (And.left (by assumption)) hb.size _)
        | exact HS.out _ (hb.drew.alloc hb.size _)) (
        (refine step_wo rfl _ _ rfl (rwOf u) hO.out rfl rfl hlk.out rfl rfl ?_; intro v2 w2 o2 b2))
      have B2 : Below w.heap.size w w2 := And.left (by assumption)
      go_wp2_with fail
      exact ⟨⟨m, by omega, by go_num, ⟨by rw [hT.out]; exact o2⟩, B2⟩, by first | (simp [intOf]; done) | (simp [intOf]; omega)⟩
set_option maxHeartbeats 4000000 in
theorem rSameRows_same (X : List Rw) (w : World) (a : Option Addr) (n cap : Nat) (a' : Option Addr) (n' cap' : Nat) (hn : n = X.length) (hn' : n' = X.length) (hA : WIn w a X) (hB : WIn w a' X) (hl : X.length ≤ 1954687338260) :
    Calls Try.prog 33 #[.slice a n cap, .slice a' n' cap'] w fun e w' => e = .returned (.bool true) ∧ Below w.heap.size w w' := by
  subst hn hn'
  go_enter Try.func33, Try.ntmps33
  go_wp2_with fail
  go_loopw [5] (fun i wr => ∃ k : Nat, k ≤ X.length ∧ i = .int .i64 (k : Int) ∧ Below w.heap.size w wr) (fun i _ => X.length - (intOf i).toNat)
  case atStart => exact ⟨0, by omega, rfl, Below.refl _ _⟩
  case round =>
    obtain ⟨k, hk, rfl, hb⟩ := hrel
    by_cases hlt : k < X.length
    · have d1 : decide ((k : Int) < (X.length : Int)) = true := decide_eq_true (by omega)
      have k2 : (k : Int) < (X.length : Int) := by omega
      have hw1 : wrap64 ((k : Int) + 1) = ((k + 1 : Nat) : Int) := by unfold wrap64; omega
      obtain ⟨u, hu⟩ : ∃ u, X[k]? = some u := ⟨X[k], List.getElem?_eq_getElem hlt⟩
      obtain ⟨b1, off1, rfl, hbl, c0, c1, c2, c3⟩ := (hA.later hb).get k u hu
      obtain ⟨b2, off2, rfl, hbl2, e0, e1, e2, e3⟩ := (hB.later hb).get k u hu
      clear hA hB
      go_wp2_with fail
      go_quiet (fail)
      go_wp2_with fail
      exact ⟨⟨k + 1, by omega, by go_num, below_dN hb nq⟩, by first | (rw [hw1]; exact lss_meas hlt) | exact meas1 hlt⟩
    · obtain rfl : k = X.length := by omega
      have d1 : decide ((X.length : Int) < (X.length : Int)) = false := decide_eq_false (by omega)
      go_wp2_with fail
      go_ret
      exact ⟨rfl, hb⟩
end Go.Proofs.Ytaonjmmdgfbceaa
