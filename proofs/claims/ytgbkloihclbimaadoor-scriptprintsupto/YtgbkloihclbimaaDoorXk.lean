/- Layer 22: parseLine. -/
import Derived.Test.YtgbkloihclbimaaDoorXj
namespace Go.Proofs.YtgbkloihclbimaaDoor
set_option maxRecDepth 100000
set_option linter.unusedVariables false
set_option linter.unusedSimpArgs false
open Go.RowKit
attribute [local go_sem ↓] Go.wp_at_zero Go.wp_at_succ sl9 ix9 slTe ldCe stCe
theorem So.room {base : Nat} {w : World} {v : Value} {l : List By} (h : So base w v l) : ∃ a cap, v = .slice a l.length cap ∧ TIn w a l ∧ l.length ≤ cap ∧ cap ≤ 9223372036854775807 := by
  obtain ⟨a, cap, e, ht⟩ := h.slice
  refine ⟨a, cap, e, ht, ?_⟩
  subst e
  rcases h.own.2 with ⟨e, h0⟩ | ⟨g, cap', cur, e, _, _, h1, h2, _⟩
  · injection e with e1 e2 e3
    rw [e3, e2]; exact ⟨Nat.le_refl _, by decide⟩
  · injection e with e1 e2 e3
    rw [e3]
    exact ⟨h1, h2⟩
theorem pl_none {line : By} (h : shpNamed (nxtW (wds line)) = none) : plF line = none := by unfold plF; rw [h]
theorem pl_bad {line : By} {s : Shp} (h : shpNamed (nxtW (wds line)) = some s) (q : (rdAll s (wds line).tail).2.2 = true) : plF line = none := by
  unfold plF; rw [h]; exact if_pos (.inl q)
theorem pl_more {line : By} {s : Shp} (h : shpNamed (nxtW (wds line)) = some s) (q : (rdAll s (wds line).tail).2.1 ≠ []) : plF line = none := by
  unfold plF; rw [h]; exact if_pos (.inr q)
theorem pl_ok {line : By} {s : Shp} (h : shpNamed (nxtW (wds line)) = some s) (q : (rdAll s (wds line).tail).2.2 = false) (q2 : (rdAll s (wds line).tail).2.1 = []) : plF line = some (rdAll s (wds line).tail).1 := by
  unfold plF; rw [h]; exact if_neg (by rw [q, q2]; simp)
theorem shps_plen : ∀ s ∈ shps, s.parts.length ≤ 4 := by decide +kernel
theorem KO.shape {gc gr g : Nat} {w w' : World} {s : Shp} (h : KO gc gr w w') (hb : Bs4 w g s) (h1 : g ≠ gc) (h2 : g ≠ gr) : Bs4 w' g s := h g _ hb h1 h2 (fun cs fz q => by injection q with _ q _; revert q; decide) (fun cs fz q => by injection q with _ q _; revert q; decide)
set_option maxHeartbeats 4000000 in
theorem parseLine_any (line : By) (hn : line.length ≤ 100000000) (w : World) (hS : SG w) (hT : TB w) (hE : EG w) :
    Calls Tryd.prog 26 #[str line] w (PlP line w) := by
  have b0 := (Below.refl w.heap.size w).alloc (Nat.le_refl _) (.cells zC 36)
  have z0 : (w.alloc (.cells zC 36)).heap[w.heap.size]? = some (.cells zC 36 (0, 0)) := heap_alloc_new _ _
  obtain ⟨w1, hw1⟩ : ∃ w1, w1 = w.alloc (.cells zC 36) := ⟨_, rfl⟩
  rw [← hw1] at b0 z0
  have hsz1 : w1.heap.size = w.heap.size + 1 := by rw [hw1]; simp
  have hwo := wordsOf_any line (by omega) w1
  have hws := wds_small _ line (Nat.le_refl _)
  have hwl := wds_le _ line (Nat.le_refl _)
  have hpn := @pl_none line
  have hps1 := @pl_bad line
  have hps2 := @pl_more line
  have hps3 := @pl_ok line
  have hne := wds_ne line
  subst hw1
  go_enter Tryd.func26, Tryd.ntmps26
  go_wp2_with fail
  with_reducible refine Calls.mono hwo ?_
  rintro e w2 ⟨v, rfl, hO, b1⟩
  dsimp only
  clear hwo
  obtain ⟨a, cap, rfl, hTi, hcl, hcm⟩ := hO.room
  clear hO
  have B2 := b0.trans (b1.mono b0.size)
  have z2 : w2.heap[w.heap.size]? = some (.cells zC 36 (0, 0)) := by rw [b1.block _ (by rw [hsz1]; omega)]; exact z0
  have hsz2 : w.heap.size < w2.heap.size := lt_of_block z2
  clear b0 z0 hsz1 b1
  have HP : Hid (∀ e w', PlP line w e w' = (Below w.heap.size w w' ∧ match plF line with
  | none => e = .returned (.tuple #[cV (cm0 0 0) none 0 none 0, .bool false])
  | some c => ∃ ma mc ka kc, e = .returned (.tuple #[cV c ma mc ka kc, .bool true]) ∧ RowsOf w.heap.size w' c ma mc ka kc)) := ⟨fun _ _ => rfl⟩
  generalize wds line = W at *
  cases W with
  | nil => exact absurd rfl hne
  | cons t ws =>
    clear hne
    obtain ⟨tb, toff, rfl, htb, htc⟩ := hTi.get 0 t rfl
    have htc : w2.cell? ⟨tb, toff, none⟩ = some (str t) := htc
    have hsh := shapeNamed_any t w2 (hS.below B2)
    obtain ⟨a', hsl, ha'⟩ := run_slT ⟨tb, toff, none⟩ (t :: ws).length cap (by simp) hcl hcm
    simp only [nxtW, List.headD_cons, List.tail_cons] at hpn hps1 hps2 hps3
    have hL : (t :: ws).length = ws.length + 1 := rfl
    generalize (t :: ws).length = L at *
    have hLp : (0 : Int) < (L : Int) := by omega
    have hL1 : L - 1 = ws.length := by omega
    rw [hL1] at hsl
    go_wp2_with fail
    with_reducible refine Calls.mono hsh ?_
    rintro e w3 ⟨rfl, b3⟩
    dsimp only
    clear hsh htc
    have B3 := B2.trans (b3.mono (Nat.le_of_lt hsz2))
    have z3 : w3.heap[w.heap.size]? = some (.cells zC 36 (0, 0)) := by rw [b3.block _ hsz2]; exact z2
    cases hq : shpNamed t with
    | none =>
      have HV := Hid.mk (hpn hq)
      clear hpn hps1 hps2 hps3
      simp only [Option.getD_none, Option.isSome_none]
      have b4 := (Below.refl w3.heap.size w3).alloc (Nat.le_refl _) (.cells #[str sh0.name, .int .i64 sh0.kind, .int .i64 sh0.step, str sh0.parts] 52)
      have B4 := below_seq B3 b4
      have z4 : (w3.alloc (.cells #[str sh0.name, .int .i64 sh0.kind, .int .i64 sh0.step, str sh0.parts] 52)).heap[w.heap.size]? = some (.cells zC 36 (0, 0)) := by rw [b4.block _ (lt_of_block z3)]; exact z3
      have hst : (stC (.pointer (some ⟨w.heap.size, 0, none⟩)) (.agg zC)).run Tryd.prog (w3.alloc (.cells #[str sh0.name, .int .i64 sh0.kind, .int .i64 sh0.step, str sh0.parts] 52)) = .ok () (sC (w3.alloc (.cells #[str sh0.name, .int .i64 sh0.kind, .int .i64 sh0.step, str sh0.parts] 52)) w.heap.size (cm0 0 0) none 0 none 0) := run_stC2 z4 rfl (cm0 0 0) none 0 none 0
      have HZ := Hid.mk (sC_heap z4 rfl (cm0 0 0) none 0 none 0)
      have HB := Hid.mk ((sC_oth (w3.alloc (.cells #[str sh0.name, .int .i64 sh0.kind, .int .i64 sh0.step, str sh0.parts] 52)) w.heap.size (cm0 0 0) none 0 none 0).bel B4 (fun b e => by rw [e]; exact Nat.le_refl _))
      clear b4 B4 z4 b3 B3 z3 hq
      go_wp2_with fail
      refine bodyPost_ret (res_c rfl rfl rfl HZ.out) rfl ?_
      refine ⟨HB.out, ?_⟩
      rw [HV.out]
    | some s =>
      have hs1 := hps1 hq
      have hs2 := hps2 hq
      have hs3 := hps3 hq
      have hmem : s ∈ shps := List.mem_of_find?_eq_some hq
      have hlet := shps_letters s hmem
      clear hpn hps1 hps2 hps3
      simp only [Option.getD_some, Option.isSome_some]
      obtain ⟨w4, hw4⟩ : ∃ w4, w3.alloc (.cells #[str s.name, .int .i64 s.kind, .int .i64 s.step, str s.parts] 52) = w4 := ⟨_, rfl⟩
      have b4 : Below w3.heap.size w3 w4 := by rw [← hw4]; exact (Below.refl _ _).alloc (Nat.le_refl _) _
      have y4 : Bs4 w4 w3.heap.size s := by rw [← hw4]; exact heap_alloc_new _ _
      have s4' : w4.heap.size = w3.heap.size + 1 := by rw [← hw4]; simp
      obtain ⟨w5, hw5⟩ : ∃ w5, w5 = w4.alloc (.cells (ccs (cm0 s.kind s.step) none 0 none 0) 36) := ⟨_, rfl⟩
      have hst : (stC (.pointer (some ⟨w4.heap.size, 0, none⟩)) (.agg #[.int .i64 s.kind, .int .i64 0, .int .i64 0, .int .i64 s.step, .string ⟨#[]⟩, .string ⟨#[]⟩, .string ⟨#[]⟩, .slice none 0 0, .int .i64 0, .int .i64 0, .slice none 0 0, .string ⟨#[]⟩])).run Tryd.prog (w4.alloc (.cells zC 36)) = .ok () w5 := by rw [hw5]; exact run_stC w4 (cm0 s.kind s.step) none 0 none 0
      have b5 : Below w4.heap.size w4 w5 := by rw [hw5]; exact (Below.refl _ _).alloc (Nat.le_refl _) _
      have y5 : Bc w5 w4.heap.size (cm0 s.kind s.step) none 0 none 0 := by rw [hw5]; exact heap_alloc_new _ _
      have s5' : w5.heap.size = w4.heap.size + 1 := by rw [hw5]; simp
      obtain ⟨w6, hw6⟩ : ∃ w6, w6 = w5.alloc (.cells #[.slice a' ws.length (cap - 1), .bool false] 86) := ⟨_, rfl⟩
      have b6 : Below w5.heap.size w5 w6 := by rw [hw6]; exact (Below.refl _ _).alloc (Nat.le_refl _) _
      have y6 : w6.heap[w5.heap.size]? = some (.cells #[.slice a' ws.length (cap - 1), .bool false] 86 (0, 0)) := by rw [hw6]; exact heap_alloc_new _ _
      have s6' : w6.heap.size = w5.heap.size + 1 := by rw [hw6]; simp
      clear hw5
      have hM3 : w2.heap.size ≤ w3.heap.size := b3.size
      have b26 : Below w2.heap.size w2 w6 := below_seq (below_seq (below_seq b3 b4) b5) b6
      have b56 := below_seq b5 b6
      have y46 : Bs4 w6 w3.heap.size s := by unfold Bs4; rw [b56.block _ (by omega)]; exact y4
      have y56 : Bc w6 w4.heap.size (cm0 s.kind s.step) none 0 none 0 := by unfold Bc; rw [b6.block _ (by omega)]; exact y5
      have hCS : CS w6 w2.heap.size w4.heap.size w5.heap.size (cm0 s.kind s.step) (ws, false) none 0 none 0 a' (cap - 1) := by
        refine ⟨y56, World.ownsRow_nil _ _ _ _, World.ownsRow_nil _ _ _ _, ⟨y6, fun k u hk => ?_, by omega, by simp; omega, by omega, fun u hu => ?_⟩, by omega, by omega⟩
        · have hk1 : k < ws.length := (List.getElem?_eq_some_iff.1 hk).1
          obtain ⟨b2, off2, e2, hb2, hc2⟩ := hTi.get (k + 1) u (by simpa using hk)
          injection e2 with e2; injection e2 with e3 e4
          subst e3 e4
          refine ⟨tb, toff + 1, ?_, hb2, ?_⟩
          · rw [ha' (by omega), addr_add]
          · rw [b26.cell (p := ⟨tb, toff + 1 + k, none⟩) hb2, show toff + 1 + k = toff + (k + 1) by omega]
            exact hc2
        · have := hws u (by simp [hu]); omega
      have HTI := Hid.mk hTi
      have z6 : w6.heap[w.heap.size]? = some (.cells zC 36 (0, 0)) := by rw [b26.block _ hsz2]; exact z2
      have B6 := B2.trans (b26.mono (Nat.le_of_lt hsz2))
      obtain ⟨q0, q1, q2, q3, qf⟩ := y4.cells
      obtain ⟨p0, p1, p2, p3, pf⟩ := y46.cells
      clear hTi ha' hws b3 B3 z3 hq z2 qf pf
      have HCS := Hid.mk hCS
      have HY := Hid.mk y46
      clear hCS y46 y56 y4 y5 y6 b4 b5 b6 b56
      have hwl2 : ws.length ≤ 1000000000 := by rw [hL] at hwl; omega
      have HNE : Hid (w3.heap.size ≠ w4.heap.size ∧ w3.heap.size ≠ w5.heap.size ∧ w2.heap.size ≤ w5.heap.size ∧ w2.heap.size ≤ w4.heap.size) := ⟨by omega, by omega, by omega, by omega⟩
      have hLcm := hcm
      clear s4' s5' s6' hM3 hL hL1 hcl hwl hLcm
      subst hw6
      go_wp2_with fail
      go_loopw [9, 34] (fun v i wr => ∃ k : Nat, i = .int .i64 k ∧ k ≤ s.parts.length ∧ Hid (RS w2.heap.size w4.heap.size w5.heap.size ((s.parts.take k).foldl rdp (cm0 s.kind s.step, (ws, false))) (w5.alloc (.cells #[.slice a' ws.length (cap - 1), .bool false] 86)) wr)) (fun _ i _ => s.parts.length - (intOf i).toNat)
      case atStart => exact ⟨0, rfl, by omega, ⟨⟨_, _, _, _, _, _, HCS.out⟩, Below.refl _ _, KO.refl _ _ _⟩⟩
      case round =>
        obtain ⟨k, rfl, hk, HR⟩ := hrel
        have hyr := HR.out.ko.shape HY.out HNE.out.1 HNE.out.2.1
        obtain ⟨r0, r1, r2, r3, rf⟩ := hyr.cells
        have BR := B6.trans (HR.out.bel.mono (Nat.le_of_lt hsz2))
        obtain ⟨ma, mc, ka, kc, ra, rc, hcs⟩ := HR.out.cs
        clear p0 p1 p2 p3 rf hyr
        by_cases hlt : k < s.parts.length
        · have d1 : decide ((k : Int) < (s.parts.length : Int)) = true := decide_eq_true (by omega)
          have hix := run_ix s.parts k hlt
          have hget : s.parts[k]? = some (s.parts.getD k 0) := by rw [List.getD_eq_getElem?_getD, List.getElem?_eq_getElem hlt]; rfl
          have hpl : s.parts.getD k 0 ∈ letters := hlet _ (List.mem_of_getElem? hget)
          have hln := rds_len (s.parts.take k) (cm0 s.kind s.step, (ws, false)) (fun p hp => hlet p (List.mem_of_mem_take hp))
          have hrd := read_any (s.parts.getD k 0) hpl _ _ _ _ _ w wr ma mc ka kc ra rc hcs BR (Nat.le_of_lt hsz2) hT hE (Nat.le_trans hln.1 (by show 0 + ws.length ≤ _; omega)) (Nat.le_trans hln.2 (by show 0 + ws.length ≤ _; omega))
          have hnx : Hid ((s.parts.take (k + 1)).foldl rdp (cm0 s.kind s.step, (ws, false)) = rdp ((s.parts.take k).foldl rdp (cm0 s.kind s.step, (ws, false))) (s.parts.getD k 0)) := ⟨by rw [take_succ hget, List.foldl_append]; rfl⟩
          have hwk : Hid (wrap64 ((k : Int) + 1) = ((k + 1 : Nat) : Int)) := ⟨by have := shps_plen s hmem; unfold wrap64; omega⟩
          generalize s.parts.getD k 0 = p at *
          clear hget hpl hln hcs
          go_wp2_with fail
          with_reducible refine Calls.mono hrd ?_
          rintro e w7 ⟨rfl, h7⟩
          dsimp only
          clear hrd
          go_wp2_with fail
          go_roundw
          case rel => exact ⟨k + 1, by rw [hwk.out], by omega, ⟨by rw [hnx.out]; exact ⟨h7.cs, HR.out.bel.trans h7.bel, HR.out.ko.trans h7.ko⟩⟩⟩
          case measure => rw [hwk.out]; simp [intOf]; omega
        · have d1 : decide ((k : Int) < (s.parts.length : Int)) = false := decide_eq_false (by omega)
          have hkk : k = s.parts.length := by omega
          have hx : (s.parts.take k).foldl rdp (cm0 s.kind s.step, (ws, false)) = rdAll s ws := by rw [hkk, List.take_length]; rfl
          have zr : wr.heap[w.heap.size]? = some (.cells zC 36 (0, 0)) := by rw [HR.out.bel.block _ hsz2]; exact z6
          rw [hx] at hcs
          have hm := hasMore_any _ _ _ _ _ wr hcs.rx
          obtain ⟨c0, c1, cf⟩ := hcs.rx.cells
          have hstz : (stC (.pointer (some ⟨w.heap.size, 0, none⟩)) (.agg zC)).run Tryd.prog wr = .ok () (sC wr w.heap.size (cm0 0 0) none 0 none 0) := run_stC2 zr rfl (cm0 0 0) none 0 none 0
          have HZ := Hid.mk (sC_heap zr rfl (cm0 0 0) none 0 none 0)
          have HB := Hid.mk ((sC_oth wr w.heap.size (cm0 0 0) none 0 none 0).bel BR (fun b e => by rw [e]; exact Nat.le_refl _))
          have hld := run_ldC hcs.bc.range
          have hstc := run_stC2 zr rfl (rdAll s ws).1 ma mc ka kc
          have HZ2 := Hid.mk (sC_heap zr rfl (rdAll s ws).1 ma mc ka kc)
          have hot := sC_oth wr w.heap.size (rdAll s ws).1 ma mc ka kc
          have HB2 := Hid.mk (hot.bel BR (fun b e => by rw [e]; exact Nat.le_refl _))
          have HRO : Hid (RowsOf w.heap.size (sC wr w.heap.size (rdAll s ws).1 ma mc ka kc) (rdAll s ws).1 ma mc ka kc) := ⟨⟨own_base (own_oth hcs.ow hot (fun b e => (show b = w.heap.size from e) ▸ ⟨_, _, _, zr, by decide⟩)) (Nat.le_of_lt hsz2), own_base (own_oth hcs.oi hot (fun b e => (show b = w.heap.size from e) ▸ ⟨_, _, _, zr, by decide⟩)) (Nat.le_of_lt hsz2)⟩⟩
          have HS1 := Hid.mk hs1
          have HS2 := Hid.mk hs2
          have HS3 := Hid.mk hs3
          clear hot hcs zr hx hkk HR cf HCS HY hs1 hs2 hs3
          generalize rdAll s ws = x at *
          obtain ⟨xc, xw, xb⟩ := x
          dsimp only at *
          cases xb with
          | true =>
            have HV := Hid.mk (HS1.out rfl)
            clear HRO hstc HZ2 HB2 hld
            go_wp2_with fail
            refine bodyPost_ret (res_c rfl rfl rfl HZ.out) rfl ?_
            refine ⟨HB.out, ?_⟩
            rw [HV.out]
          | false =>
            cases xw with
            | nil =>
              have HV := Hid.mk (HS3.out rfl rfl)
              clear HS1 HS2 HS3 hstz HZ HB
              go_wp2_with fail
              with_reducible refine Calls.mono hm ?_
              rintro e wr ⟨rfl, rfl⟩
              dsimp only
              clear hm
              go_wp2_with fail
              refine bodyPost_ret (res_c rfl rfl rfl HZ2.out) rfl ?_
              refine ⟨HB2.out, ?_⟩
              rw [HV.out]
              exact ⟨_, _, _, _, rfl, HRO.out⟩
            | cons y xw =>
              have HV := Hid.mk (HS2.out (by simp))
              rw [show decide (0 < (y :: xw).length) = true from rfl] at hm
              clear HS1 HS2 HS3 HRO hstc HZ2 HB2 hld
              go_wp2_with fail
              with_reducible refine Calls.mono hm ?_
              rintro e wr ⟨rfl, rfl⟩
              dsimp only
              clear hm
              go_wp2_with fail
              refine bodyPost_ret (res_c rfl rfl rfl HZ.out) rfl ?_
              refine ⟨HB.out, ?_⟩
              rw [HV.out]
end Go.Proofs.YtgbkloihclbimaaDoor
