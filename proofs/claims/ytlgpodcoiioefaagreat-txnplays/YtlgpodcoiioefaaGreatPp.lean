/- TxnPlays: a step. -/
import Derived.Test.YtlgpodcoiioefaaGreatPe
namespace Go.Proofs.YtlgpodcoiioefaaGreat
set_option linter.unusedVariables false
set_option linter.unusedSimpArgs false
open Go.RowKit Go.Maps
variable {X : Th → Prop} {q g bx m p s n : Nat} {T R : Sf} {B C : List ByteArray} {k : Nat} {z y : Sl} {w0 w w' : World}
abbrev ov (kd tt N : Int) (t : ByteArray) : Array Value := #[.int .i64 kd, .int .i64 tt, .int .i64 N, .string t]
theorem x3 (z : Int) : ∃ k : Nat, k < 3 ∧ wrap64 ((IntKind.u64.wrap z).tmod 3) = (k : Int) := by
  have h0 : 0 ≤ IntKind.u64.wrap z := by rw [IntKind.wrap_u64]; omega
  have e1 : (IntKind.u64.wrap z).tmod 3 = (IntKind.u64.wrap z) % 3 := Int.tmod_eq_emod_of_nonneg h0
  rw [e1]
  have h1 : 0 ≤ IntKind.u64.wrap z % 3 := by omega
  have h2 : IntKind.u64.wrap z % 3 < 3 := by omega
  obtain ⟨k, hk⟩ := Int.eq_ofNat_of_zero_le h1
  refine ⟨k, by omega, ?_⟩
  rw [hk]; unfold wrap64; omega
theorem PG.c0 {mo : Int} (h : PG X w0 w q p s n g bx mo T R B C) : w.cell? ⟨bx, 0, none⟩ = some (pt q) := h.cell 0
theorem PG.c1 {mo : Int} (h : PG X w0 w q p s n g bx mo T R B C) : w.cell? ⟨bx, 1, none⟩ = some (pt g) := h.cell 1
set_option maxRecDepth 100000 in
set_option maxHeartbeats 1000000 in
theorem plays_begin (h : PG X w0 w q p s n g bx (mos s) T R B B) (hs : ∀ j, Sy (T j) (R j)) (tt N : Int) (t : ByteArray) : Calls Tryz.prog 8 #[pt bx, .agg (ov 1 tt N t)] w fun e w' => e = .returned (.bool true) ∧ PS w0 w' q p s n g bx := by
  have H1 : Hid (PG (ob w.heap.size (ov 1 tt N t) 40) w0 (w.alloc (.cells (ov 1 tt N t) 40)) q p s n g bx (mos s) T R B B) := ⟨h.box _ _⟩
  have HS : Hid (∀ j, Sy (T j) (R j)) := ⟨hs⟩
  obtain ⟨k, hk, ek⟩ := x3 tt
  have EK : Hid (wrap64 ((IntKind.u64.wrap tt).tmod 3) = (k : Int)) := ⟨ek⟩
  have hki : (k : Int) < 3 := by omega
  clear h hs ek
  go_enter Tryz.func8, Tryz.ntmps8
  go_wp2_with fail
  simp only [EK.out]
  clear EK
  have E2 := H1.out.drew
  have S2 := E2.c0
  clear H1
  go_region_held3 (fun w' => w'.cell? ⟨bx, 0, none⟩ = some (pt q)) (first | exact S2 | exact h3.c0 | exact h4.c0 | assumption)
    ((go_at_call 13; refine (PG.tbegin (k := k) (by assumption) hk).mono ?_; rintro e w3 ⟨x, rfl, h3, i3, h4⟩; have c3 := h3.tv hk; have f3 := h3.froz (2 + k)))
  have H4 : Hid (PG (ob w.heap.size (ov 1 tt N t) 40) w0 (w3.setCell ⟨bx, 2 + k, none⟩ (pt x)) q p s n g bx (mos s) (upd T k ⟨x, i3, [], false⟩) R B B) := ⟨h4⟩
  clear h3 h4 c3 f3 S2 E2
  go_wp2_with fail
  have E5 := H4.out.drew
  have S5 := E5.c1
  clear H4
  go_region_held3 (fun w' => w'.cell? ⟨bx, 1, none⟩ = some (pt g)) (first | exact S5 | exact h6.c1 | exact h7.c1 | assumption)
    ((go_at_call 22; refine (PG.rbegin (k := k) (by assumption) hk).mono ?_; rintro e w6 ⟨y, rfl, h6, i6, h7⟩; have c6 := h6.rv hk; have f6 := h6.froz (5 + k)))
  have H7 : Hid (PS w0 (w6.setCell ⟨bx, 5 + k, none⟩ (pt y)) q p s n g bx) := ⟨⟨_, _, _, _, h7, sy_upd HS.out k ⟨rfl, rfl⟩⟩⟩
  have c7 := h7.tv' hk (upd_at T k ⟨x, i3, [], false⟩)
  clear h6 h7 c6 f6 S5 E5 HS
  go_wp2
  go_ret
  exact ⟨rfl, H7.out⟩
end Go.Proofs.YtlgpodcoiioefaaGreat
