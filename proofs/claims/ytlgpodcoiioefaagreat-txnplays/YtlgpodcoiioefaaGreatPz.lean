/- TxnPlays: Write; any step. -/
import Derived.Test.YtlgpodcoiioefaaGreatPw
namespace Go.Proofs.YtlgpodcoiioefaaGreat
set_option linter.unusedVariables false
set_option linter.unusedSimpArgs false
open Go.RowKit Go.Maps
variable {X : Th → Prop} {q g bx m p s n : Nat} {T R : Sf} {B C : List ByteArray} {k : Nat} {z y : Sl} {w0 w w' : World}
theorem wc_sy (h : Sy (some z) (some y)) (m : Nat) (N : Int) (t : ByteArray) : wc y.o m N t = wc z.o m N t ∧ Sy (some ⟨z.x, z.i, ww z.o m N t z.W, z.o⟩) (some ⟨y.x, y.i, ww y.o m N t y.W, y.o⟩) := by
  obtain ⟨h1, h2⟩ := h
  refine ⟨by rw [h1], h1, ?_⟩
  simp only
  unfold ww
  rw [h1]
  cases e : z.o with
  | true => rw [e] at h2; exact h2
  | false => rw [e] at h2; rw [h2]; rfl
set_option maxRecDepth 100000 in
set_option maxHeartbeats 1000000 in
theorem plays_write (h : PG X w0 w q p s n g bx (mos s) T R B B) (hs : ∀ j, Sy (T j) (R j)) (tt N : Int) (t : ByteArray) (hk : k < 3) (ek : wrap64 ((IntKind.u64.wrap tt).tmod 3) = (k : Int)) (hz : T k = some z) (hy : R k = some y) : Calls Tryz.prog 8 #[pt bx, .agg (ov 3 tt N t)] w fun e w' => e = .returned (.bool true) ∧ PS w0 w' q p s n g bx := by
  have H1 : Hid (PG (ob w.heap.size (ov 3 tt N t) 40) w0 (w.alloc (.cells (ov 3 tt N t) 40)) q p s n g bx (mos s) T R B B) := ⟨h.box _ _⟩
  have hki : (k : Int) < 3 := by omega
  have hsy : Sy (some z) (some y) := by have := hs k; rw [hz, hy] at this; exact this
  obtain ⟨cd, hcd⟩ : ∃ cd, wc z.o (n - s) N (fu t) = cd := ⟨_, rfl⟩
  obtain ⟨T2, hT2⟩ : ∃ T2, upd T k ⟨z.x, z.i, ww z.o (n - s) N (fu t) z.W, z.o⟩ = T2 := ⟨_, rfl⟩
  have HT : Hid (T k = some z) := ⟨hz⟩
  have HR : Hid (R k = some y) := ⟨hy⟩
  have qF : Hid (∀ {w'} {T' R' : Sf}, PG (ob w.heap.size (ov 3 tt N t) 40) w0 w' q p s n g bx (mos s) T' R' B B → Calls Tryz.prog 15 #[.string t] w' fun e w2 => e = .returned (.string (fu t)) ∧ PG (ob w.heap.size (ov 3 tt N t) 40) w0 w2 q p s n g bx (mos s) T' R' B B) := ⟨fun {w'} {T'} {R'} h' => by
    refine (full_any t w').mono ?_
    rintro e w2 ⟨rfl, b⟩
    exact ⟨rfl, h'.below b⟩⟩
  obtain ⟨ft, hft⟩ : ∃ ft, fu t = ft := ⟨_, rfl⟩
  rw [hft] at hcd hT2 qF
  have q1 : Hid (∀ {w'}, PG (ob w.heap.size (ov 3 tt N t) 40) w0 w' q p s n g bx (mos s) T R B B → Calls Tryz.prog 14 #[pt z.x, .int .i64 N, .string ft] w' fun e w2 => e = .returned (.int .i64 cd) ∧ PG (ob w.heap.size (ov 3 tt N t) 40) w0 w2 q p s n g bx (mos s) T2 R B B) := ⟨fun h' => by rw [← hcd, ← hT2]; exact h'.twrite hz N ft⟩
  have q2 : Hid (∀ {w'}, PG (ob w.heap.size (ov 3 tt N t) 40) w0 w' q p s n g bx (mos s) T2 R B B → Calls Tryz.prog 24 #[pt y.x, .int .i64 N, .string ft] w' fun e w2 => e = .returned (.int .i64 cd) ∧ PS w0 w2 q p s n g bx ∧ w2.cell? ⟨bx, 5 + k, none⟩ = some (pt y.x) ∧ w2.cell? ⟨w.heap.size, 2, none⟩ = some (.int .i64 N) ∧ w2.cell? ⟨w.heap.size, 3, none⟩ = some (.string t)) := ⟨fun h' => by
    have w1 := wc_sy hsy (n - s) N ft
    refine (h'.rwrite hy N ft).mono ?_
    rintro e w2 ⟨rfl, h2⟩
    refine ⟨by rw [w1.1, hcd], ⟨_, _, _, _, h2, ?_⟩, h2.rv' (z := ⟨y.x, y.i, ww y.o (n - s) N ft y.W, y.o⟩) hk (upd_at _ _ _), h2.n2, h2.n3⟩
    rw [← hT2]
    exact sy_upd hs k w1.2⟩
  have HU : Hid (∀ {w'}, PG (ob w.heap.size (ov 3 tt N t) 40) w0 w' q p s n g bx (mos s) T2 R B B → w'.cell? ⟨bx, 2 + k, none⟩ = some (pt z.x) ∧ w'.cell? ⟨w.heap.size, 2, none⟩ = some (.int .i64 N) ∧ w'.cell? ⟨w.heap.size, 3, none⟩ = some (.string t)) := ⟨fun h' => ⟨h'.tv' (z := ⟨z.x, z.i, ww z.o (n - s) N ft z.W, z.o⟩) hk (by rw [← hT2]; exact upd_at _ _ _), h'.n2, h'.n3⟩⟩
  have c2 := H1.out.tv' hk hz
  clear h hs hz hy hsy hcd hT2 hft
  go_enter Tryz.func8, Tryz.ntmps8
  go_wp2_with fail
  have E2 := H1.out.drew
  have S2 := And.intro (E2.tv' hk HT.out) (And.intro E2.n2 E2.n3)
  clear H1 c2
  go_region_held3 (fun w' => w'.cell? ⟨bx, 2 + k, none⟩ = some (pt z.x) ∧ w'.cell? ⟨w.heap.size, 2, none⟩ = some (.int .i64 N) ∧ w'.cell? ⟨w.heap.size, 3, none⟩ = some (.string t)) (first | exact S2 | exact And.intro (h3.tv' hk HT.out) (And.intro h3.n2 h3.n3) | exact HU.out h4 | assumption)
    ((first
      | (go_at_call 15; refine (qF.out (by assumption)).mono ?_; rintro e w3 ⟨rfl, h3⟩)
      | (go_at_call 14; refine (q1.out (by assumption)).mono ?_; rintro e w4 ⟨rfl, h4⟩)))
  have H4 : Hid (PG (ob w.heap.size (ov 3 tt N t) 40) w0 w4 q p s n g bx (mos s) T2 R B B) := ⟨h4⟩
  clear h4 h3 E2 S2 q1 HU
  go_wp2_with fail
  have E2 := H4.out.drew
  have S2 := And.intro (E2.rv' hk HR.out) (And.intro E2.n2 E2.n3)
  have HU : Hid (∀ {w'}, PG (ob w.heap.size (ov 3 tt N t) 40) w0 w' q p s n g bx (mos s) T2 R B B → w'.cell? ⟨bx, 5 + k, none⟩ = some (pt y.x) ∧ w'.cell? ⟨w.heap.size, 2, none⟩ = some (.int .i64 N) ∧ w'.cell? ⟨w.heap.size, 3, none⟩ = some (.string t)) := ⟨fun h' => ⟨h'.rv' hk HR.out, h'.n2, h'.n3⟩⟩
  clear H4
  go_region_held3 (fun w' => w'.cell? ⟨bx, 5 + k, none⟩ = some (pt y.x) ∧ w'.cell? ⟨w.heap.size, 2, none⟩ = some (.int .i64 N) ∧ w'.cell? ⟨w.heap.size, 3, none⟩ = some (.string t)) (first | exact S2 | exact HU.out h5 | exact s6 | assumption)
    ((first
      | (go_at_call 15; refine (qF.out (by assumption)).mono ?_; rintro e w5 ⟨rfl, h5⟩)
      | (go_at_call 24; refine (q2.out (by assumption)).mono ?_; rintro e w6 ⟨rfl, h6, s6⟩)))
  have H6 : Hid (PS w0 w6 q p s n g bx) := ⟨h6⟩
  clear h5 h6 E2 S2 q2 HU s6
  go_wp2
  go_ret
  exact ⟨rfl, H6.out⟩
/-- any step -/
theorem plays_any (h : PS w0 w q p s n g bx) (kd tt N : Int) (hN : -9223372036854775808 ≤ N ∧ N ≤ 9223372036854775807) (t : ByteArray) : Calls Tryz.prog 8 #[pt bx, .agg (ov kd tt N t)] w fun e w' => e = .returned (.bool true) ∧ PS w0 w' q p s n g bx := by
  obtain ⟨X, T, R, B, h, hs⟩ := h
  by_cases h1 : kd = 1
  · subst h1; exact plays_begin h hs tt N t
  by_cases h6 : kd = 6
  · subst h6; exact plays_log h hs tt N t
  obtain ⟨k, hk, ek⟩ := x3 tt
  have hsk := hs k
  cases hz : T k with
  | none => exact plays_nil h hs kd tt N t h1 h6 hk ek hz
  | some z =>
    cases hy : R k with
    | none => rw [hz, hy] at hsk; exact hsk.elim
    | some y =>
      by_cases h2 : kd = 2
      · subst h2
        rcases trV_cases z B N with ⟨V, er, her, hV⟩ | ⟨hV, hL⟩
        · exact plays_read1 h hs tt N hN t hk ek hz hy V er her hV
        · exact plays_read2 h hs tt N hN t hk ek hz hy hV hL
      by_cases h3 : kd = 3
      · subst h3; exact plays_write h hs tt N t hk ek hz hy
      by_cases h4 : kd = 4
      · subst h4; exact plays_commit h hs tt N t hk ek hz hy
      by_cases h5 : kd = 5
      · subst h5; exact plays_abort h hs tt N t hk ek hz hy
      exact plays_other h hs kd tt N t h1 h6 h2 h3 h4 h5 hk ek hz
end Go.Proofs.YtlgpodcoiioefaaGreat
