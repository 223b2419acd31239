/- TxnPlays: the log is asked. -/
import Derived.Test.YtlgpodcoiioefaaGreatPp
namespace Go.Proofs.YtlgpodcoiioefaaGreat
set_option linter.unusedVariables false
set_option linter.unusedSimpArgs false
open Go.RowKit Go.Maps
variable {X : Th → Prop} {q g bx m p s n : Nat} {T R : Sf} {B C : List ByteArray} {k : Nat} {z y : Sl} {w0 w w' : World}
theorem PG.n2 {mo : Int} {b : Nat} {kd tt N : Int} {t : ByteArray} {ty : TypeId} (h : PG (ob b (ov kd tt N t) ty) w0 w q p s n g bx mo T R B C) : w.cell? ⟨b, 2, none⟩ = some (.int .i64 N) := h.atBox 2
theorem PG.n3 {mo : Int} {b : Nat} {kd tt N : Int} {t : ByteArray} {ty : TypeId} (h : PG (ob b (ov kd tt N t) ty) w0 w q p s n g bx mo T R B C) : w.cell? ⟨b, 3, none⟩ = some (.string t) := h.atBox 3
theorem PG.n0 {mo : Int} {b : Nat} {kd tt N : Int} {t : ByteArray} {ty : TypeId} (h : PG (ob b (ov kd tt N t) ty) w0 w q p s n g bx mo T R B C) : w.cell? ⟨b, 0, none⟩ = some (.int .i64 kd) := h.atBox 0
set_option maxRecDepth 100000 in
set_option maxHeartbeats 1000000 in
theorem plays_log (h : PG X w0 w q p s n g bx (mos s) T R B B) (hs : ∀ j, Sy (T j) (R j)) (tt N : Int) (t : ByteArray) : Calls Tryz.prog 8 #[pt bx, .agg (ov 6 tt N t)] w fun e w' => e = .returned (.bool true) ∧ PS w0 w' q p s n g bx := by
  have H1 : Hid (PG (ob w.heap.size (ov 6 tt N t) 40) w0 (w.alloc (.cells (ov 6 tt N t) 40)) q p s n g bx (mos s) T R B B) := ⟨h.box _ _⟩
  have HS : Hid (∀ j, Sy (T j) (R j)) := ⟨hs⟩
  obtain ⟨k, hk, ek⟩ := x3 tt
  have EK : Hid (wrap64 ((IntKind.u64.wrap tt).tmod 3) = (k : Int)) := ⟨ek⟩
  have hki : (k : Int) < 3 := by omega
  have hBn : B.length ≤ 8192 := by
    have := h.nle
    obtain ⟨_, _, _, _, _, l⟩ := h
    omega
  have qL : Hid (∀ {w'}, PG (ob w.heap.size (ov 6 tt N t) 40) w0 w' q p s n g bx (mos s) T R B B → Calls Tryz.prog 12 #[pt q, .int .i64 N] w' fun e w2 => e = .returned (lrV B N) ∧ PG (ob w.heap.size (ov 6 tt N t) 40) w0 w2 q p s n g bx (mos s) T R B B) := ⟨fun h' => h'.lread N⟩
  clear h hs ek
  by_cases hv : 0 ≤ N ∧ N < B.length
  · unfold lrV at qL
    rw [if_pos hv] at qL
    obtain ⟨M, rfl⟩ := Int.eq_ofNat_of_zero_le hv.1
    have hM : M < B.length := by have := hv.2; omega
    obtain ⟨V, hV⟩ : ∃ V, B[M]? = some V := ⟨_, List.getElem?_eq_getElem hM⟩
    have eV : B.getD ((M : Int)).toNat ByteArray.empty = V := by rw [Int.toNat_natCast, List.getD_eq_getElem?_getD, hV]; rfl
    rw [eV] at qL
    have h0 : ¬ ((M : Int) < 0) := by omega
    have h1 : ¬ ((B.length : Int) ≤ (M : Int)) := by omega
    have h2 : (M : Int) < B.length := by omega
    have HV : Hid (B[M]? = some V) := ⟨hV⟩
    clear hv eV hV hM
    go_enter Tryz.func8, Tryz.ntmps8
    go_wp2_with fail
    simp only [EK.out]
    clear EK
    have E2 := H1.out.drew
    have S2 := And.intro E2.c0 E2.n2
    clear H1
    go_region_held3 (fun w' => w'.cell? ⟨bx, 0, none⟩ = some (pt q) ∧ w'.cell? ⟨w.heap.size, 2, none⟩ = some (.int .i64 (M : Int))) (first | exact S2 | exact And.intro h3.c0 h3.n2 | assumption)
      ((go_at_call 12; refine (qL.out (by assumption)).mono ?_; rintro e w3 ⟨rfl, h3⟩))
    obtain ⟨la, lc, cg, si⟩ := h3.gl
    obtain ⟨gb, off, rfl, cv⟩ := si M V HV.out
    have c1 := h3.c1
    have c2 := h3.n2
    have HD : Hid (∀ k l, PS w0 ((w3.drewN k).drewN l) q p s n g bx) := ⟨fun k l => ⟨_, _, _, _, (h3.drewN k).drewN l, HS.out⟩⟩
    clear h3 S2 E2 HS qL HV si
    have h00 : ¬ ((M : Int) < 0) := by omega
    have h11 : ¬ ((B.length : Int) ≤ (M : Int)) := by omega
    go_wp2_with fail
    go_quiet (fail)
    go_wp2_with fail
    go_quiet (fail)
    go_wp2
    go_ret
    exact ⟨rfl, HD.out _ _⟩
  · unfold lrV at qL
    rw [if_neg hv] at qL
    have hcase : N < 0 ∨ (¬ N < 0 ∧ (B.length : Int) ≤ N) := by omega
    rcases hcase with h0 | ⟨h0, h1⟩
    · clear hv
      go_enter Tryz.func8, Tryz.ntmps8
      go_wp2_with fail
      simp only [EK.out]
      clear EK
      have E2 := H1.out.drew
      have S2 := And.intro E2.c0 E2.n2
      clear H1
      go_region_held3 (fun w' => w'.cell? ⟨bx, 0, none⟩ = some (pt q) ∧ w'.cell? ⟨w.heap.size, 2, none⟩ = some (.int .i64 N)) (first | exact S2 | exact And.intro h3.c0 h3.n2 | assumption)
        ((go_at_call 12; refine (qL.out (by assumption)).mono ?_; rintro e w3 ⟨rfl, h3⟩))
      obtain ⟨la, lc, cg, si⟩ := h3.gl
      have c1 := h3.c1
      have c2 := h3.n2
      have HD : Hid (∀ k l, PS w0 ((w3.drewN k).drewN l) q p s n g bx) := ⟨fun k l => ⟨_, _, _, _, (h3.drewN k).drewN l, HS.out⟩⟩
      clear h3 S2 E2 HS qL si
      have h00 : N < 0 := by omega
      go_wp2_with fail
      go_quiet (fail)
      go_wp2
      go_ret
      exact ⟨rfl, HD.out _ 0⟩
    · clear hv
      go_enter Tryz.func8, Tryz.ntmps8
      go_wp2_with fail
      simp only [EK.out]
      clear EK
      have E2 := H1.out.drew
      have S2 := And.intro E2.c0 E2.n2
      clear H1
      go_region_held3 (fun w' => w'.cell? ⟨bx, 0, none⟩ = some (pt q) ∧ w'.cell? ⟨w.heap.size, 2, none⟩ = some (.int .i64 N)) (first | exact S2 | exact And.intro h3.c0 h3.n2 | assumption)
        ((go_at_call 12; refine (qL.out (by assumption)).mono ?_; rintro e w3 ⟨rfl, h3⟩))
      obtain ⟨la, lc, cg, si⟩ := h3.gl
      have c1 := h3.c1
      have c2 := h3.n2
      have HD : Hid (∀ k l, PS w0 ((w3.drewN k).drewN l) q p s n g bx) := ⟨fun k l => ⟨_, _, _, _, (h3.drewN k).drewN l, HS.out⟩⟩
      clear h3 S2 E2 HS qL si
      have h00 : ¬ (N < 0) := by omega
      have h11 : (B.length : Int) ≤ N := by omega
      go_wp2_with fail
      go_quiet (fail)
      go_wp2
      go_ret
      exact ⟨rfl, HD.out _ 0⟩
end Go.Proofs.YtlgpodcoiioefaaGreat
