import Derived.Test.YtkkhmlcnfnaadaaGreatDoorQa
import Derived.Test.YtkkhmlcnfnaadaaGreatDoorGq
import Derived.Test.YtkkhmlcnfnaadaaGreatDoorGp
import Derived.Test.YtkkhmlcnfnaadaaGreatDoorHc
import Derived.Test.YtkkhmlcnfnaadaaGreatDoorGn
import Derived.Test.YtkkhmlcnfnaadaaGreatDoorGr
/- ManifestReads: answers in one form; the walk. -/
namespace Go.Proofs.YtkkhmlcnfnaadaaGreatDoor
set_option maxRecDepth 100000
set_option linter.unusedVariables false
set_option linter.unusedSimpArgs false
open Go.RowKit
open Go.Proofs.YtkkhmlcnfnaadaaGreatDoorP (TB)
open Go.Proofs.YtkkhmlcnfnaadaaGreatDoorH (KIn)
attribute [local go_sem ↓] Go.wp_at_zero Go.wp_at_succ
/-- the manifest that a text begins with, else none -/
noncomputable def rdM (b : List UInt8) : Ma := by
  classical exact if h : ∃ m, Beg b m ∧ nzM m = m then Classical.choose h else ⟨0, 0, []⟩
noncomputable def rdN (b : List UInt8) : Int := by
  classical exact if ∃ m, Beg b m ∧ nzM m = m then ((mtx (rdM b)).length : Int) else 0
noncomputable def rdC (b : List UInt8) : Int := by
  classical exact if ∃ m, Beg b m ∧ nzM m = m then 0 else 90
theorem rdM_eq {b : List UInt8} {m : Ma} (h : Beg b m) (hz : nzM m = m) : rdM b = m ∧ rdN b = ((mtx m).length : Int) ∧ rdC b = 0 := by
  have hx : ∃ m, Beg b m ∧ nzM m = m := ⟨m, h, hz⟩
  have hc := Classical.choose_spec hx
  have e : rdM b = m := by
    unfold rdM
    rw [dif_pos hx, ← hc.2, ← hz]
    exact (hc.1.two h).1
  refine ⟨e, ?_, ?_⟩
  · unfold rdN; rw [if_pos hx, e]
  · unfold rdC; rw [if_pos hx]
theorem rdM_no {b : List UInt8} (h : ∀ m, ¬ Beg b m) : rdM b = ⟨0, 0, []⟩ ∧ rdN b = 0 ∧ rdC b = 90 := by
  have hx : ¬ ∃ m, Beg b m ∧ nzM m = m := fun ⟨m, q, _⟩ => h m q
  refine ⟨?_, ?_, ?_⟩
  · unfold rdM; rw [dif_neg hx]
  · unfold rdN; rw [if_neg hx]
  · unfold rdC; rw [if_neg hx]
theorem RdP.uni {b : List UInt8} {w w' : World} {e : Ending} (h : RdP b w e w') : ∃ xa xc, e = .returned (.tuple #[.agg #[.int .i64 (rdM b).since, .int .i64 (rdM b).next, .slice xa (rdM b).items.length xc], .int .i64 (rdN b), .int .i64 (rdC b)]) ∧ (∃ R : List Ri, R.map (·.1) = (rdM b).items ∧ Fi w.heap.size w' (.slice xa (rdM b).items.length xc) R) ∧ Below w.heap.size w w' := by
  obtain ⟨h | h, hb⟩ := h
  · obtain ⟨m, R, a, c, hB, hz, rfl, hR, hF⟩ := h
    obtain ⟨e1, e2, e3⟩ := rdM_eq hB hz
    have hl : R.length = m.items.length := by rw [← hR, List.length_map]
    rw [e1, e2, e3]
    rw [hl] at hF
    exact ⟨a, c, by rw [hl], ⟨R, hR, hF⟩, hb⟩
  · obtain ⟨hn, rfl⟩ := h
    obtain ⟨e1, e2, e3⟩ := rdM_no hn
    rw [e1, e2, e3]
    exact ⟨none, 0, rfl, ⟨[], rfl, Fi.nil w' _ hb.size⟩, hb⟩
theorem QRdP.uni {b : List UInt8} {w w' : World} {e : Ending} (h : QRdP b w e w') : ∃ xa xc, e = .returned (.tuple #[.agg #[.int .i64 (rdM b).since, .int .i64 (rdM b).next, .slice xa (rdM b).items.length xc], .int .i64 (rdN b), .int .i64 (rdC b)]) ∧ IIt w' xa (rdM b).items ∧ Below w.heap.size w w' := by
  obtain ⟨h | h, hb⟩ := h
  · obtain ⟨m, a, c, hB, hz, rfl, hi⟩ := h
    obtain ⟨e1, e2, e3⟩ := rdM_eq hB hz
    rw [e1, e2, e3]
    exact ⟨a, c, rfl, hi, hb⟩
  · obtain ⟨hn, rfl⟩ := h
    obtain ⟨e1, e2, e3⟩ := rdM_no hn
    rw [e1, e2, e3]
    exact ⟨none, 0, rfl, IIt.nil w', hb⟩
theorem rdM_l (b : List UInt8) : (rdM b).items.length ≤ 256 ∧ ∀ x ∈ (rdM b).items, x.l.length ≤ 8 := by
  by_cases hx : ∃ m, Beg b m ∧ nzM m = m
  · obtain ⟨m, hB, hz⟩ := hx
    rw [(rdM_eq hB hz).1]
    refine ⟨hB.1.len, fun x hx => ?_⟩
    have hi := hB.1.it x hx
    cases hm : x.mkr with
    | true => rw [(hi.mk1 hm).2]; exact Nat.zero_le _
    | false => exact (mtE_iff (hi.mk0 hm).2.2).1
  · unfold rdM; rw [dif_neg hx]; exact ⟨Nat.zero_le _, fun x hx => by simp at hx⟩
theorem fi_iit {base : Nat} {w : World} {a : Option Addr} {n c : Nat} {R : List Ri} {L : List It} (hR : R.map (·.1) = L) (h : Fi base w (.slice a n c) R) : IIt w a L := by rw [← hR]; exact h.it
set_option maxHeartbeats 4000000 in
theorem reads_walk (b : List UInt8) (w : World) (hbl : b.length ≤ 1048576) (hT : TB w) (hE : EG w) (hK : KIn w) :
    Calls Tryz.prog 4 #[str b] w fun e w' => e = .returned (.bool true) ∧ Below w.heap.size w w' := by
  go_enter Tryz.func4, Tryz.ntmps4
  go_wp2_with fail
  with_reducible refine Calls.mono (head_any _ hT hE hK) ?_
  rintro e w1 ⟨rfl, b1⟩
  dsimp only
  have HB1 := Hid.mk b1
  have hr := mRead_any b w1 (by omega) (hT.below b1) (hE.below b1)
  clear b1
  go_wp2_with fail
  with_reducible refine Calls.mono hr ?_
  rintro e w2 h2
  obtain ⟨xa, xc, rfl, ⟨R, hR, hF⟩, b2⟩ := h2.uni
  have hi := fi_iit hR hF
  clear hr h2 hR hF
  dsimp only
  obtain ⟨M, hM⟩ : ∃ M, Hid (rdM b = M) := ⟨_, ⟨rfl⟩⟩
  have HL := Hid.mk (rdM_l b)
  have hq := fun w => qRead_any b w hbl
  have hq := fun w => (hq w).mono (R' := fun e w' => ∃ xa xc, e = .returned (.tuple #[.agg #[.int .i64 M.since, .int .i64 M.next, .slice xa M.items.length xc], .int .i64 (rdN b), .int .i64 (rdC b)]) ∧ IIt w' xa M.items ∧ Below w.heap.size w w') (fun e w' h => by rw [← hM.out]; exact h.uni)
  rw [hM.out] at hi HL ⊢
  generalize rdN b = rn at *
  generalize rdC b = rc at *
  have bx := (Below.refl w2.heap.size w2).alloc (Nat.le_refl _) (.cells #[.int .i64 M.since, .int .i64 M.next, .slice xa M.items.length xc] 28)
  have zx := Bm3.new w2 M.since M.next (.slice xa M.items.length xc)
  have HX : Hid (Bm3 (w2.alloc (.cells #[.int .i64 M.since, .int .i64 M.next, .slice xa M.items.length xc] 28)) w2.heap.size M.since M.next (.slice xa M.items.length xc) ∧ IIt (w2.alloc (.cells #[.int .i64 M.since, .int .i64 M.next, .slice xa M.items.length xc] 28)) xa M.items) := ⟨zx, hi.later bx⟩
  have HB2 := Hid.mk (below_seq (below_seq HB1.out b2) bx)
  clear bx zx hi b2 HB1
  go_wp2_with fail
  generalize w2.alloc (.cells #[.int .i64 M.since, .int .i64 M.next, .slice xa M.items.length xc] 28) = w3 at *
  generalize w2.heap.size = g3 at *
  with_reducible refine Calls.mono (hq _) ?_
  rintro e w4 ⟨ya, yc, rfl, hy, b4⟩
  clear hq
  dsimp only
  have bx := (Below.refl w4.heap.size w4).alloc (Nat.le_refl _) (.cells #[.int .i64 M.since, .int .i64 M.next, .slice ya M.items.length yc] 38)
  have zy := Bn3.new w4 M.since M.next (.slice ya M.items.length yc)
  have b5 := below_seq b4 bx
  have HX2 := Hid.mk (And.intro (HX.out.1.later b5) (HX.out.2.later b5))
  have HY : Hid (Bn3 (w4.alloc (.cells #[.int .i64 M.since, .int .i64 M.next, .slice ya M.items.length yc] 38)) w4.heap.size M.since M.next (.slice ya M.items.length yc) ∧ IIt (w4.alloc (.cells #[.int .i64 M.since, .int .i64 M.next, .slice ya M.items.length yc] 38)) ya M.items) := ⟨zy, hy.later bx⟩
  have HB5 := Hid.mk (below_seq HB2.out b5)
  clear bx zy hy b4 b5 HX HB2
  go_upto_region 5 with fail
  generalize w4.alloc (.cells #[.int .i64 M.since, .int .i64 M.next, .slice ya M.items.length yc] 38) = w5 at *
  generalize w4.heap.size = g5 at *
  have hdo := fun (w' : World) (h : Below w5.heap.size w5 w') => (doc_any M w' xa xc (HX2.out.2.later h) (by have := HL.out.1; omega)).mono (R' := fun e w'' => ∃ za zc, e = .returned (.agg #[.int .i64 M.since, .int .i64 M.next, .slice za M.items.length zc]) ∧ IIt w'' za M.items ∧ Below w'.heap.size w' w'') (fun e w'' h => h)
  have hsa := fun (w' : World) (za : Option Addr) (zc : Nat) (h : Below w5.heap.size w5 w') (hz : IIt w' za M.items) => (qSame_any M M w' za ya zc yc hz (HY.out.2.later h) (fun x hx => by have := HL.out.2 x hx; omega) (by have := HL.out.1; omega)).mono (R' := fun e w'' => e = .returned (.bool true) ∧ Below w'.heap.size w' w'') (by
    rintro e w'' ⟨t, rfl, ht, hb⟩
    exact ⟨by rw [ht.2 (sam_refl M)], hb⟩)
  have HSC : Hid (∀ w', Below w5.heap.size w5 w' → Below w5.heap.size w5 w' ∧ w'.cell? ⟨g3, 0, none⟩ = some (.int .i64 M.since) ∧ w'.cell? ⟨g3, 1, none⟩ = some (.int .i64 M.next) ∧ w'.cell? ⟨g3, 2, none⟩ = some (.slice xa M.items.length xc) ∧ w'.cell? ⟨g5, 0, none⟩ = some (.int .i64 M.since) ∧ w'.cell? ⟨g5, 1, none⟩ = some (.int .i64 M.next) ∧ w'.cell? ⟨g5, 2, none⟩ = some (.slice ya M.items.length yc)) := ⟨fun w' h => by
    obtain ⟨a0, a1, a2⟩ := (HX2.out.1.later h).cells
    obtain ⟨b0, b1, b2⟩ := (HY.out.1.later h).cells
    exact ⟨h, a0, a1, a2, b0, b1, b2⟩⟩
  clear HX2 HY HL
  go_region_held3 (fun w' => Below w5.heap.size w5 w' ∧ w'.cell? ⟨g3, 0, none⟩ = some (.int .i64 M.since) ∧ w'.cell? ⟨g3, 1, none⟩ = some (.int .i64 M.next) ∧ w'.cell? ⟨g3, 2, none⟩ = some (.slice xa M.items.length xc) ∧ w'.cell? ⟨g5, 0, none⟩ = some (.int .i64 M.since) ∧ w'.cell? ⟨g5, 1, none⟩ = some (.int .i64 M.next) ∧ w'.cell? ⟨g5, 2, none⟩ = some (.slice ya M.items.length yc)) ((refine HSC.out _ ?_; first
      | with_reducible exact (Below.refl _ _).drew
      | with_reducible exact B3
      | with_reducible exact B2)) (first
      | (go_at_call 12; with_reducible refine Calls.mono (hsa _ _ _ (And.left (by assumption)) hzi) ?_; rintro e w23 ⟨rfl, y3⟩; have B3 := below_seq (And.left (by assumption)) y3)
      | (go_at_call 10; with_reducible refine Calls.mono (hdo _ (And.left (by assumption))) ?_; rintro e w22 ⟨za, zc, rfl, hzi, y2⟩; have B2 := below_seq (And.left (by assumption)) y2))
  all_goals (go_wp2_with fail)
  go_ret
  exact ⟨rfl, HB5.out.trans (B3.mono HB5.out.size)⟩
end Go.Proofs.YtkkhmlcnfnaadaaGreatDoor

/- Where the bulk of what came in is bounded. -/
namespace Go.Proofs.YtkkhmlcnfnaadaaGreatDoor
set_option maxRecDepth 100000
set_option linter.unusedVariables false
set_option linter.unusedSimpArgs false
open Go.ChangeShapes Go.WideShapes Go.ChangeAt Go.RowKit
theorem bulk_pos {H : Type} (d : DataW H) : 1 ≤ Rows.uptoBulk d := by
  cases d with
  | lit l => cases l <;> simp [Rows.uptoBulk]
  | _ => simp [Rows.uptoBulk]
theorem bulk_mem {H : Type} : ∀ (l : List (DataW H)) (d : DataW H), d ∈ l → Rows.uptoBulk d ≤ Rows.uptoBulkAll l
  | x :: r, d, h => by
    simp only [Rows.uptoBulkAll]
    rcases List.mem_cons.1 h with rfl | h
    · omega
    · have := bulk_mem r d h; omega
theorem bulk_str {H : Type} {enc : TypeId × Value → H} {W : World} {d : DataW H} {p : List MemPlace} (h : DataW.Trod enc Tryz.prog W 0 (fun _ => true) true 9 (.string ByteArray.empty) d p) : Rows.uptoBulk d ≤ 64 := by
  obtain ⟨fuel, hf⟩ := h
  obtain ⟨s, e, y, -⟩ := DataW.trod_string Tryz.underlying9 hf
  simp [Value.cells] at e
  subst e
  have hd := congrArg Prod.fst y
  simp at hd
  rw [hd]
  simp [Rows.uptoBulk]
end Go.Proofs.YtkkhmlcnfnaadaaGreatDoor
