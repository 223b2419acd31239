/- The record that a text begins with. -/
import Derived.Test.YtokkoacfmdnmaaaDoorFst
namespace Go.Proofs.YtokkoacfmdnmaaaDoor
set_option linter.unusedVariables false
set_option linter.unusedSimpArgs false
open Go.RowKit
noncomputable def slS (v : Value) (a b c : Option Value) : Sem Value := Instr.slice 9 v a b c
theorem sl9 (v : Value) (a b c : Option Value) : Instr.slice 9 v a b c = slS v a b c := rfl
noncomputable def ixS (v i : Value) : Sem Value := Instr.index 9 v i
theorem ix9 (v i : Value) : Instr.index 9 v i = ixS v i := rfl
theorem run_slS (s : ByteArray) (i j : Nat) (h1 : i ≤ j) (h2 : j ≤ s.size) (w : World) : (slS (.string s) (some (.int .i64 (i : Int))) (some (.int .i64 (j : Int))) none).run Tryd.prog w = .ok (.string (s.extract i j)) w := by
  unfold slS
  rw [run_slice_string_if (P := Tryd.prog) (w := w) 9 s .i64 .i64 i j Tryd.underlying9, if_pos ⟨by omega, by omega⟩, if_pos ⟨by omega, by omega⟩]
  rfl
theorem ext_mid (s : ByteArray) (i j : Nat) : (s.extract i j).data.toList = (s.data.toList.drop i).take (j - i) := by
  simp [ByteArray.data_extract, List.extract_eq_take_drop]
theorem getD_some {l : List UInt8} {j : Nat} {c : UInt8} (h : j < l.length) (e : l.getD j 0 = c) : l[j]? = some c := by
  rw [List.getD_eq_getElem?_getD] at e
  rw [List.getElem?_eq_getElem h] at e ⊢
  rw [← e]; rfl
attribute [local go_sem ↓] Go.wp_at_zero Go.wp_at_succ
attribute [local go_sem ↓] sl9 ix9
set_option maxHeartbeats 1000000 in
theorem first_any (s : ByteArray) (h0 : 0 < s.size) (hs : s.size ≤ 4611686018427387904) (w : World) (hT : TB w) :
    Calls Tryd.prog 16 #[.string s] w (Told s.data.toList w) := by
  have hmf : ∀ (fn : Fn) (first cap : Array Value) (w : World), (Instr.makeFunc fn first cap).run Tryd.prog w = .ok (.func fn first cap) w := fun _ _ _ _ => rfl
  have hsl := run_slS s
  obtain ⟨l, hl⟩ : ∃ l, l = s.data.toList := ⟨_, rfl⟩
  have hlen := getD_of hl
  have hld := fun w => leading_any s h0 (by omega) w
  have hix : ∀ (p : Nat) (h : p < s.size) (w : World), (ixS (.string s) (.int .i64 (p : Int))).run Tryd.prog w = .ok (.int .u8 ((l.getD p 0).toNat : Int)) w := idxs s l hl
  have hxt : ∀ i j, (s.extract i j).data.toList = (l.drop i).take (j - i) := fun i j => by rw [hl]; exact ext_mid s i j
  rw [← hl] at hld ⊢
  clear hl
  have hE0 := ES.made w
  go_enter_defers Tryd.func16, Tryd.ntmps16
  go_wp2_with (fail)
  generalize w.alloc (.cells #[.int .i64 0] 23) = W0 at *
  refine (hld W0).mono ?_
  rintro e w1 ⟨⟨ds, hL, rfl⟩ | ⟨rfl, hno⟩, rfl⟩
  · clear hld hmf
    dsimp only
    obtain ⟨z, hz⟩ : ∃ z, z = val ds := ⟨_, rfl⟩
    obtain ⟨g, hg⟩ : ∃ g, g = ds.length := ⟨_, rfl⟩
    have hF : Hid (∀ x y, Rd l x y → z = LEN (nn x y) ∧ g + 1 < z ∧ z ≤ s.size ∧ l[z - 1]? = some 10 ∧ (l.drop (g + 1)).take (z - 1 - (g + 1)) = x ++ 61 :: y) := ⟨fun x y h => by
      rw [← hlen, hz, hg]; exact h.facts hL⟩
    have hO : Hid (∀ x y, g + 1 < z → z ≤ s.size → l[z - 1]? = some 10 → (l.drop (g + 1)).take (z - 1 - (g + 1)) = x ++ 61 :: y → key x = true → z = LEN (nn x y) → Rd l x y) := ⟨fun x y a b c d e f => by
      rw [← hlen] at b; rw [hz] at a b c d f; rw [hg] at a d; exact ok_rd hL a b c d e f⟩
    have hz2 : z ≤ 1048576 := by rw [hz]; exact hL.le
    rw [← hz, ← hg]
    clear hL hz hg
    by_cases h1 : g + 1 < z
    · have d1 : decide ((g : Int) + 1 < (z : Int)) = true := decide_eq_true (by omega)
      by_cases h2 : z ≤ s.size
      · have d2 : decide ((z : Int) ≤ (s.size : Int)) = true := decide_eq_true (by omega)
        have hx : ∀ w, (ixS (.string s) (.int .i64 ((z : Int) - 1))).run Tryd.prog w = .ok (.int .u8 ((l.getD (z - 1) 0).toNat : Int)) w := fun w => by
          have := hix (z - 1) (by omega) w
          rwa [show ((z - 1 : Nat) : Int) = (z : Int) - 1 by omega] at this
        clear hix
        by_cases h3 : l.getD (z - 1) 0 = 10
        · have H3 : Hid (l[z - 1]? = some 10) := ⟨getD_some (by omega) h3⟩
          rw [h3] at hx
          clear h3
          obtain ⟨q, hq⟩ : ∃ q, q = s.extract (g + 1) (z - 1) := ⟨_, rfl⟩
          have hsl1 : ∀ w, (slS (.string s) (some (.int .i64 ((g : Int) + 1))) (some (.int .i64 ((z : Int) - 1))) none).run Tryd.prog w = .ok (.string q) w := fun w => by
            have := hsl (g + 1) (z - 1) (by omega) (by omega) w
            rw [← hq] at this
            rwa [show ((z - 1 : Nat) : Int) = (z : Int) - 1 by omega, show ((g + 1 : Nat) : Int) = (g : Int) + 1 by omega] at this
          have hql : q.data.toList = (l.drop (g + 1)).take (z - 1 - (g + 1)) := by rw [hq]; exact hxt _ _
          have hqs : q.size ≤ 1048576 := by
            have : q.size = q.data.toList.length := by rw [Array.length_toList]; rfl
            rw [this, hql, List.length_take]; omega
          have hcut := fun w => cut_any q 61 (by omega) w
          rw [hql] at hcut
          clear hsl hq hxt hql
          go_wp2_with (first | (go_at_call 28; refine (must_true _).mono ?_; rintro e w' ⟨rfl, rfl⟩))
          refine (hcut _).mono ?_
          rintro e w2 ⟨a, b, f, rfl, hC, hb⟩
          dsimp only
          have hE2 := hE0.next hb
          cases f
          · have hno : Hid (∀ x y, ¬ Rd l x y) := ⟨fun x y h => by
              rcases hC with ⟨e, _⟩ | ⟨_, e⟩
              · cases e
              · exact e (by rw [(hF.out x y h).2.2.2.2]; simp)⟩
            go_wp2_with (first | (go_at_call 28; refine (must_false _).mono ?_; rintro e w' ⟨rfl, rfl⟩))
            exact door_panic _ _ _ hE2 rfl rfl rfl rfl hno.out
          · have hC2 : Hid ((l.drop (g + 1)).take (z - 1 - (g + 1)) = a.data.toList ++ 61 :: b.data.toList ∧ (61 : UInt8) ∉ a.data.toList) := ⟨by
              rcases hC with ⟨_, e⟩ | ⟨e, _⟩
              · exact e
              · cases e⟩
            clear hC
            have hab : a.size + b.size ≤ 1048576 := by
              have h5 := congrArg List.length hC2.out.1
              rw [List.length_append, List.length_cons, List.length_take] at h5
              have h6 : a.data.toList.length = a.size := Array.length_toList
              have h7 : b.data.toList.length = b.size := Array.length_toList
              omega
            have hkey := fun w => isKey_any a w
            have hlng := fun w ht => length_any a b (by omega) w ht
            have hU : Hid (∀ x y, Rd l x y → a.data.toList = x ∧ b.data.toList = y) := ⟨fun x y h => by
              have := (hF.out x y h).2.2.2.2
              rw [hC2.out.1] at this
              exact split_uniq hC2.out.2 ((key_iff _).1 h.kk).2.1 this⟩
            by_cases h5 : key a.data.toList = true
            · rw [h5] at hkey
              by_cases h6 : z = LEN (nn a.data.toList b.data.toList)
              · have hR : Hid (Rd l a.data.toList b.data.toList ∧ (z : Int) = (LEN (nn a.data.toList b.data.toList) : Nat)) := ⟨hO.out _ _ h1 h2 H3.out hC2.out.1 h5 h6, by rw [← h6]⟩
                rw [nn_size] at h6
                rw [← h6] at hlng
                clear h6
                go_wp2_with (first | (go_at_call 18; refine (hkey _).mono ?_; rintro e w' ⟨rfl, rfl⟩) | (go_at_call 28; refine (must_true _).mono ?_; rintro e w' ⟨rfl, rfl⟩))
                refine (hlng _ (hT.below hE2.bel)).mono ?_
                rintro e w3 ⟨rfl, hb3⟩
                dsimp only
                have hE3 := hE2.next hb3
                have hc3 := hE3.cell
                have hz3 := hE3.frz
                have hbs := hE3.bel.setCell (p := ⟨w.heap.size, 0, none⟩) (Nat.le_refl _) (.int .i64 0)
                have hcs : (w3.setCell ⟨w.heap.size, 0, none⟩ (.int .i64 0)).cell? ⟨w.heap.size, 0, none⟩ = some (.int .i64 0) := World.cell?_setCell_same _ _ _ hc3
                go_wp2_with (first | (go_at_call 28; refine (must_true _).mono ?_; rintro e w' ⟨rfl, rfl⟩))
                exact door_ret _ _ _ hbs hcs rfl rfl rfl rfl hR.out
              · have hno : Hid (∀ x y, ¬ Rd l x y) := ⟨fun x y h => by
                  obtain ⟨e1, e2⟩ := hU.out x y h
                  exact h6 (by rw [e1, e2]; exact (hF.out x y h).1)⟩
                rw [nn_size] at h6
                generalize LEN (a.size + b.size + 3) = L at h6 hlng
                have d6 : ((z : Int) == (L : Int)) = false := beq_eq_false_iff_ne.2 (by omega)
                go_wp2_with (first | (go_at_call 18; refine (hkey _).mono ?_; rintro e w' ⟨rfl, rfl⟩))
                refine (hlng _ (hT.below hE2.bel)).mono ?_
                rintro e w3 ⟨rfl, hb3⟩
                dsimp only
                have hE3 := hE2.next hb3
                go_wp2_with (first | (go_at_call 28; refine (must_false _).mono ?_; rintro e w' ⟨rfl, rfl⟩))
                exact door_panic _ _ _ hE3 rfl rfl rfl rfl hno.out
            · rw [Bool.not_eq_true] at h5
              have hno : Hid (∀ x y, ¬ Rd l x y) := ⟨fun x y h => by
                have := (hU.out x y h).1
                rw [this, h.kk] at h5; cases h5⟩
              rw [h5] at hkey
              go_wp2_with (first | (go_at_call 18; refine (hkey _).mono ?_; rintro e w' ⟨rfl, rfl⟩) | (go_at_call 28; refine (must_false _).mono ?_; rintro e w' ⟨rfl, rfl⟩))
              exact door_panic _ _ _ hE2 rfl rfl rfl rfl hno.out
        · have hno : Hid (∀ x y, ¬ Rd l x y) := ⟨fun x y h => by
            obtain ⟨_, _, _, a, _⟩ := hF.out x y h
            rw [List.getElem?_eq_getElem (by omega)] at a
            exact h3 (by rw [List.getD_eq_getElem?_getD, List.getElem?_eq_getElem (by omega), a]; rfl)⟩
          generalize l.getD (z - 1) 0 = c at hx h3
          have d3 : ((c.toNat : Int) == 10) = false := by simpa using fun e => h3 (UInt8.toNat_inj.1 (Int.ofNat.inj e))
          go_wp2_with (first | (go_at_call 28; refine (must_false _).mono ?_; rintro e w' ⟨rfl, rfl⟩))
          exact door_panic _ _ _ hE0 rfl rfl rfl rfl hno.out
      · have d2 : decide ((z : Int) ≤ (s.size : Int)) = false := decide_eq_false (by omega)
        have hno : Hid (∀ x y, ¬ Rd l x y) := ⟨fun x y h => h2 (hF.out x y h).2.2.1⟩
        go_wp2_with (first | (go_at_call 28; refine (must_false _).mono ?_; rintro e w' ⟨rfl, rfl⟩))
        exact door_panic _ _ _ hE0 rfl rfl rfl rfl hno.out
    · have d1 : decide ((g : Int) + 1 < (z : Int)) = false := decide_eq_false (by omega)
      have hno : Hid (∀ x y, ¬ Rd l x y) := ⟨fun x y h => h1 (hF.out x y h).2.1⟩
      go_wp2_with (first | (go_at_call 28; refine (must_false _).mono ?_; rintro e w' ⟨rfl, rfl⟩))
      exact door_panic _ _ _ hE0 rfl rfl rfl rfl hno.out
  · exact door_panic _ _ _ hE0 rfl rfl rfl rfl (fun x y h => hno _ h.ld)
end Go.Proofs.YtokkoacfmdnmaaaDoor
