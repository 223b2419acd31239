/- TxnPlays: a Read; steps that do nothing. -/
import Derived.Test.YtlgpodcoiioefaaGreatPl
namespace Go.Proofs.YtlgpodcoiioefaaGreat
set_option linter.unusedVariables false
set_option linter.unusedSimpArgs false
open Go.RowKit Go.Maps
variable {X : Th → Prop} {q g bx m p s n : Nat} {T R : Sf} {B C : List ByteArray} {k : Nat} {z y : Sl} {w0 w w' : World}
set_option maxRecDepth 100000 in
set_option maxHeartbeats 1000000 in
theorem plays_nil (h : PG X w0 w q p s n g bx (mos s) T R B B) (hs : ∀ j, Sy (T j) (R j)) (kd tt N : Int) (t : ByteArray) (h1 : ¬ (kd = 1)) (h6 : ¬ (kd = 6)) (hk : k < 3) (ek : wrap64 ((IntKind.u64.wrap tt).tmod 3) = (k : Int)) (hz : T k = none) : Calls Tryz.prog 8 #[pt bx, .agg (ov kd tt N t)] w fun e w' => e = .returned (.bool true) ∧ PS w0 w' q p s n g bx := by
  have H1 := h.box (ov kd tt N t) 40
  have HD : Hid (∀ k, PS w0 ((w.alloc (.cells (ov kd tt N t) 40)).drewN k) q p s n g bx) := ⟨fun k => ⟨_, _, _, _, H1.drewN k, hs⟩⟩
  have hki : (k : Int) < 3 := by omega
  have c2 : (w.alloc (.cells (ov kd tt N t) 40)).cell? ⟨bx, 2 + k, none⟩ = some (.pointer none) := by rw [H1.tv hk, hz]; rfl
  clear h hs H1 hz
  go_enter Tryz.func8, Tryz.ntmps8
  go_wp2
  go_ret
  exact ⟨rfl, HD.out 0⟩
set_option maxRecDepth 100000 in
set_option maxHeartbeats 1000000 in
theorem plays_other (h : PG X w0 w q p s n g bx (mos s) T R B B) (hs : ∀ j, Sy (T j) (R j)) (kd tt N : Int) (t : ByteArray) (h1 : ¬ (kd = 1)) (h6 : ¬ (kd = 6)) (h2 : ¬ (kd = 2)) (h3 : ¬ (kd = 3)) (h4 : ¬ (kd = 4)) (h5 : ¬ (kd = 5)) (hk : k < 3) (ek : wrap64 ((IntKind.u64.wrap tt).tmod 3) = (k : Int)) (hz : T k = some z) : Calls Tryz.prog 8 #[pt bx, .agg (ov kd tt N t)] w fun e w' => e = .returned (.bool true) ∧ PS w0 w' q p s n g bx := by
  have H1 := h.box (ov kd tt N t) 40
  have HD : Hid (∀ k, PS w0 ((w.alloc (.cells (ov kd tt N t) 40)).drewN k) q p s n g bx) := ⟨fun k => ⟨_, _, _, _, H1.drewN k, hs⟩⟩
  have hki : (k : Int) < 3 := by omega
  have c2 := H1.tv' hk hz
  clear h hs H1 hz
  go_enter Tryz.func8, Tryz.ntmps8
  go_wp2
  go_ret
  exact ⟨rfl, HD.out 0⟩
theorem trV_cases (z : Sl) (B : List ByteArray) (N : Int) : (∃ V er, ¬ (er = (1 : Int)) ∧ trV z B N = .tuple #[.string V, .int .i64 er]) ∨ (trV z B N = .tuple #[.string ⟨#[]⟩, .int .i64 1] ∧ lrV B N = .tuple #[.string ⟨#[]⟩, .int .i64 1]) := by
  unfold trV rdV lrV
  split
  · exact .inl ⟨_, _, by decide, rfl⟩
  · split
    · exact .inl ⟨_, _, by decide, rfl⟩
    · split
      · exact .inl ⟨_, _, by decide, rfl⟩
      · exact .inr ⟨rfl, rfl⟩
theorem trV_sy (h : Sy (some z) (some y)) (B : List ByteArray) (N : Int) : trV y B N = trV z B N := by
  obtain ⟨h1, h2⟩ := h
  unfold trV
  rw [h1]
  cases e : z.o with
  | true => rfl
  | false => rw [h2, e]; rfl
set_option maxRecDepth 100000 in
set_option maxHeartbeats 1000000 in
theorem plays_read1 (h : PG X w0 w q p s n g bx (mos s) T R B B) (hs : ∀ j, Sy (T j) (R j)) (tt N : Int) (hN : -9223372036854775808 ≤ N ∧ N ≤ 9223372036854775807) (t : ByteArray) (hk : k < 3) (ek : wrap64 ((IntKind.u64.wrap tt).tmod 3) = (k : Int)) (hz : T k = some z) (hy : R k = some y) (V : ByteArray) (er : Int) (her : ¬ (er = (1 : Int))) (hV : trV z B N = .tuple #[.string V, .int .i64 er]) : Calls Tryz.prog 8 #[pt bx, .agg (ov 2 tt N t)] w fun e w' => e = .returned (.bool true) ∧ PS w0 w' q p s n g bx := by
  have H1 : Hid (PG (ob w.heap.size (ov 2 tt N t) 40) w0 (w.alloc (.cells (ov 2 tt N t) 40)) q p s n g bx (mos s) T R B B) := ⟨h.box _ _⟩
  have HS : Hid (∀ j, Sy (T j) (R j)) := ⟨hs⟩
  have hki : (k : Int) < 3 := by omega
  have HT : Hid (T k = some z) := ⟨hz⟩
  have HR : Hid (R k = some y) := ⟨hy⟩
  have q1 : Hid (∀ {w'}, PG (ob w.heap.size (ov 2 tt N t) 40) w0 w' q p s n g bx (mos s) T R B B → Calls Tryz.prog 16 #[pt z.x, .int .i64 N] w' fun e w2 => e = .returned (.tuple #[.string V, .int .i64 er]) ∧ PG (ob w.heap.size (ov 2 tt N t) 40) w0 w2 q p s n g bx (mos s) T R B B) := ⟨fun h' => by rw [← hV]; exact h'.tread hz N hN⟩
  have q2 : Hid (∀ {w'}, PG (ob w.heap.size (ov 2 tt N t) 40) w0 w' q p s n g bx (mos s) T R B B → Calls Tryz.prog 23 #[pt y.x, .int .i64 N] w' fun e w2 => e = .returned (.tuple #[.string V, .int .i64 er]) ∧ PG (ob w.heap.size (ov 2 tt N t) 40) w0 w2 q p s n g bx (mos s) T R B B) := ⟨fun h' => by
    have := h'.rread hy N
    rw [trV_sy (by have := hs k; rw [hz, hy] at this; exact this), hV] at this
    exact this⟩
  have c2 := H1.out.tv' hk hz
  clear h hs hz hy hV hN
  go_enter Tryz.func8, Tryz.ntmps8
  go_wp2_with fail
  have E2 := H1.out.drew
  have S2 := And.intro (E2.tv' hk HT.out) E2.n2
  clear H1 c2
  go_region_held3 (fun w' => w'.cell? ⟨bx, 2 + k, none⟩ = some (pt z.x) ∧ w'.cell? ⟨w.heap.size, 2, none⟩ = some (.int .i64 N)) (first | exact S2 | exact And.intro (h3.tv' hk HT.out) h3.n2 | assumption)
    ((go_at_call 16; refine (q1.out (by assumption)).mono ?_; rintro e w3 ⟨rfl, h3⟩))
  have H3 : Hid (PG (ob w.heap.size (ov 2 tt N t) 40) w0 w3 q p s n g bx (mos s) T R B B) := ⟨h3⟩
  clear h3 S2 E2 q1
  go_wp2_with fail
  have E2 := H3.out.drew
  have S2 := And.intro (E2.rv' hk HR.out) E2.n2
  clear H3
  go_region_held3 (fun w' => w'.cell? ⟨bx, 5 + k, none⟩ = some (pt y.x) ∧ w'.cell? ⟨w.heap.size, 2, none⟩ = some (.int .i64 N)) (first | exact S2 | exact And.intro (h5.rv' hk HR.out) h5.n2 | assumption)
    ((go_at_call 23; refine (q2.out (by assumption)).mono ?_; rintro e w5 ⟨rfl, h5⟩))
  have H5 : Hid (PS w0 w5 q p s n g bx) := ⟨⟨_, _, _, _, h5, HS.out⟩⟩
  clear h5 S2 E2 q2
  go_wp2
  go_ret
  exact ⟨rfl, H5.out⟩
end Go.Proofs.YtlgpodcoiioefaaGreat
