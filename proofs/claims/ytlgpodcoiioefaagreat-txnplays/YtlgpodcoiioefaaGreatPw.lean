/- TxnPlays: a Read out of the log's blocks, Write, Commit, Abort. -/
import Derived.Test.YtlgpodcoiioefaaGreatPr
namespace Go.Proofs.YtlgpodcoiioefaaGreat
set_option linter.unusedVariables false
set_option linter.unusedSimpArgs false
open Go.RowKit Go.Maps
variable {X : Th → Prop} {q g bx m p s n : Nat} {T R : Sf} {B C : List ByteArray} {k : Nat} {z y : Sl} {w0 w w' : World}
set_option maxRecDepth 100000 in
set_option maxHeartbeats 1000000 in
theorem plays_read2 (h : PG X w0 w q p s n g bx (mos s) T R B B) (hs : ∀ j, Sy (T j) (R j)) (tt N : Int) (hN : -9223372036854775808 ≤ N ∧ N ≤ 9223372036854775807) (t : ByteArray) (hk : k < 3) (ek : wrap64 ((IntKind.u64.wrap tt).tmod 3) = (k : Int)) (hz : T k = some z) (hy : R k = some y) (hV : trV z B N = .tuple #[.string ⟨#[]⟩, .int .i64 1]) (hL : lrV B N = .tuple #[.string ⟨#[]⟩, .int .i64 1]) : Calls Tryz.prog 8 #[pt bx, .agg (ov 2 tt N t)] w fun e w' => e = .returned (.bool true) ∧ PS w0 w' q p s n g bx := by
  have H1 : Hid (PG (ob w.heap.size (ov 2 tt N t) 40) w0 (w.alloc (.cells (ov 2 tt N t) 40)) q p s n g bx (mos s) T R B B) := ⟨h.box _ _⟩
  have HS : Hid (∀ j, Sy (T j) (R j)) := ⟨hs⟩
  have hki : (k : Int) < 3 := by omega
  have HT : Hid (T k = some z) := ⟨hz⟩
  have HR : Hid (R k = some y) := ⟨hy⟩
  have q1 : Hid (∀ {w'}, PG (ob w.heap.size (ov 2 tt N t) 40) w0 w' q p s n g bx (mos s) T R B B → Calls Tryz.prog 16 #[pt z.x, .int .i64 N] w' fun e w2 => e = .returned (.tuple #[.string ⟨#[]⟩, .int .i64 1]) ∧ PG (ob w.heap.size (ov 2 tt N t) 40) w0 w2 q p s n g bx (mos s) T R B B) := ⟨fun h' => by rw [← hV]; exact h'.tread hz N hN⟩
  have q2 : Hid (∀ {w'}, PG (ob w.heap.size (ov 2 tt N t) 40) w0 w' q p s n g bx (mos s) T R B B → Calls Tryz.prog 23 #[pt y.x, .int .i64 N] w' fun e w2 => e = .returned (.tuple #[.string ⟨#[]⟩, .int .i64 1]) ∧ PG (ob w.heap.size (ov 2 tt N t) 40) w0 w2 q p s n g bx (mos s) T R B B) := ⟨fun h' => by
    have := h'.rread hy N
    rw [trV_sy (by have := hs k; rw [hz, hy] at this; exact this), hV] at this
    exact this⟩
  have q3 : Hid (∀ {w'}, PG (ob w.heap.size (ov 2 tt N t) 40) w0 w' q p s n g bx (mos s) T R B B → Calls Tryz.prog 12 #[pt q, .int .i64 N] w' fun e w2 => e = .returned (.tuple #[.string ⟨#[]⟩, .int .i64 1]) ∧ PG (ob w.heap.size (ov 2 tt N t) 40) w0 w2 q p s n g bx (mos s) T R B B) := ⟨fun h' => by rw [← hL]; exact h'.lread N⟩
  have c2 := H1.out.tv' hk hz
  clear h hs hz hy hV hN hL
  go_enter Tryz.func8, Tryz.ntmps8
  go_wp2_with fail
  have E2 := H1.out.drew
  have S2 := And.intro (E2.tv' hk HT.out) E2.n2
  clear H1 c2
  go_region_held3 (fun w' => w'.cell? ⟨bx, 2 + k, none⟩ = some (pt z.x) ∧ w'.cell? ⟨w.heap.size, 2, none⟩ = some (.int .i64 N)) (first | exact S2 | exact And.intro (h3.tv' hk HT.out) h3.n2 | assumption)
    ((go_at_call 16; refine (q1.out (by assumption)).mono ?_; rintro e w3 ⟨rfl, h3⟩))
  have H3 : Hid (PG (ob w.heap.size (ov 2 tt N t) 40) w0 w3 q p s n g bx (mos s) T R B B) := ⟨h3⟩
  clear h3 S2 E2 q1
  go_wp2_with fail
  have E2 := H3.out.drew
  have S2 := And.intro (E2.rv' hk HR.out) E2.n2
  clear H3
  go_region_held3 (fun w' => w'.cell? ⟨bx, 5 + k, none⟩ = some (pt y.x) ∧ w'.cell? ⟨w.heap.size, 2, none⟩ = some (.int .i64 N)) (first | exact S2 | exact And.intro (h5.rv' hk HR.out) h5.n2 | assumption)
    ((go_at_call 23; refine (q2.out (by assumption)).mono ?_; rintro e w5 ⟨rfl, h5⟩))
  have H5 : Hid (PG (ob w.heap.size (ov 2 tt N t) 40) w0 w5 q p s n g bx (mos s) T R B B) := ⟨h5⟩
  clear h5 S2 E2 q2
  go_wp2_with fail
  have E2 := H5.out.drew
  have S2 := And.intro E2.c0 E2.n2
  clear H5
  go_region_held3 (fun w' => w'.cell? ⟨bx, 0, none⟩ = some (pt q) ∧ w'.cell? ⟨w.heap.size, 2, none⟩ = some (.int .i64 N)) (first | exact S2 | exact And.intro h7.c0 h7.n2 | assumption)
    ((go_at_call 12; refine (q3.out (by assumption)).mono ?_; rintro e w7 ⟨rfl, h7⟩))
  have H7 : Hid (PS w0 w7 q p s n g bx) := ⟨⟨_, _, _, _, h7, HS.out⟩⟩
  clear h7 S2 E2 q3
  go_wp2
  go_ret
  exact ⟨rfl, H7.out⟩
set_option maxRecDepth 100000 in
set_option maxHeartbeats 1000000 in
theorem plays_commit (h : PG X w0 w q p s n g bx (mos s) T R B B) (hs : ∀ j, Sy (T j) (R j)) (tt N : Int) (t : ByteArray) (hk : k < 3) (ek : wrap64 ((IntKind.u64.wrap tt).tmod 3) = (k : Int)) (hz : T k = some z) (hy : R k = some y) : Calls Tryz.prog 8 #[pt bx, .agg (ov 4 tt N t)] w fun e w' => e = .returned (.bool true) ∧ PS w0 w' q p s n g bx := by
  have h1 := h.box (ov 4 tt N t) 40
  have qE := ends_any h1 hs hk hz hy
  have hki : (k : Int) < 3 := by omega
  have c2 := h1.tv' hk hz
  clear h hs hz hy h1
  go_enter Tryz.func8, Tryz.ntmps8
  go_wp2_with fail
  refine qE.mono ?_
  rintro e w3 ⟨rfl, h3⟩
  have H3 : Hid (PS w0 w3 q p s n g bx) := ⟨h3⟩
  dsimp only
  clear h3 qE c2
  go_wp2
  go_ret
  exact ⟨rfl, H3.out⟩
set_option maxRecDepth 100000 in
set_option maxHeartbeats 1000000 in
theorem plays_abort (h : PG X w0 w q p s n g bx (mos s) T R B B) (hs : ∀ j, Sy (T j) (R j)) (tt N : Int) (t : ByteArray) (hk : k < 3) (ek : wrap64 ((IntKind.u64.wrap tt).tmod 3) = (k : Int)) (hz : T k = some z) (hy : R k = some y) : Calls Tryz.prog 8 #[pt bx, .agg (ov 5 tt N t)] w fun e w' => e = .returned (.bool true) ∧ PS w0 w' q p s n g bx := by
  have h1 := h.box (ov 5 tt N t) 40
  have q1 := h1.tabort hz
  have HS : Hid (∀ j, Sy (T j) (R j)) := ⟨hs⟩
  have HR : Hid (R k = some y) := ⟨hy⟩
  have hki : (k : Int) < 3 := by omega
  have c2 := h1.tv' hk hz
  clear h hs hz hy h1
  go_enter Tryz.func8, Tryz.ntmps8
  go_wp2_with fail
  refine q1.mono ?_
  rintro e w3 ⟨rfl, h3⟩
  have q2 := h3.rabort HR.out
  have c5 := h3.rv' hk HR.out
  dsimp only
  clear h3 q1 c2
  go_wp2_with fail
  refine q2.mono ?_
  rintro e w4 ⟨rfl, h4⟩
  have H4 : Hid (PS w0 w4 q p s n g bx) := ⟨⟨_, _, _, _, h4, sy_upd HS.out k ⟨rfl, rfl⟩⟩⟩
  dsimp only
  clear h4 q2 c5
  go_wp2
  go_ret
  exact ⟨rfl, H4.out⟩
end Go.Proofs.YtlgpodcoiioefaaGreat
