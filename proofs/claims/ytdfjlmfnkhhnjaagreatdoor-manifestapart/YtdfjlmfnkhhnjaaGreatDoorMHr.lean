/- decimal; the records ahead of the items'. -/
import Derived.Test.YtdfjlmfnkhhnjaaGreatDoorMTl
import Derived.Test.YtdfjlmfnkhhnjaaGreatDoorGl
import Derived.Test.YtdfjlmfnkhhnjaaGreatDoorGj
namespace Go.Proofs.YtdfjlmfnkhhnjaaGreatDoor
set_option maxRecDepth 100000
set_option linter.unusedVariables false
set_option linter.unusedSimpArgs false
open Go.RowKit Go.Shelf
open Go.Proofs.YtdfjlmfnkhhnjaaGreatDoorP (TB)
attribute [local go_sem] Oper.semAt_some
theorem fmt_any (n : Int) (h0 : 0 ≤ n) (h1 : n ≤ 9223372036854775807) (w : World) (hT : TB w) :
    Calls Tryz.prog 145 #[.int .i64 n, .int .i64 10] w fun e w' => e = .returned (str (dec n)) ∧ Below w.heap.size w w' := by
  go_enter Tryz.func145, Tryz.ntmps145
  go_wp2_with fail
  with_reducible refine Calls.mono (Tryz.internal_strconv_FormatInt_10 n (by omega) h1 w hT.out) ?_
  rintro e w' ⟨rfl, k, os, rfl⟩
  dsimp only
  have hb : Below w.heap.size w (Go.Sort.grow (w.drewN k) os) := Lib.below_grow _ _ (Nat.le_refl _) _ _
  have he : Lib.itoa n = dec n := by
    obtain ⟨m, rfl⟩ : ∃ m : Nat, n = m := ⟨n.toNat, by omega⟩
    rw [Lib.itoa_nonneg]; rfl
  rw [he]
  generalize Go.Sort.grow (w.drewN k) os = w2 at *
  go_wp2_with fail
  go_ret
  exact ⟨rfl, hb⟩
theorem mdecimal_any (n : Int) (h0 : 0 ≤ n) (h1 : n ≤ 9223372036854775807) (w : World) (hT : TB w) :
    Calls Tryz.prog 97 #[.int .i64 n] w fun e w' => e = .returned (str (dec n)) ∧ Below w.heap.size w w' := by
  go_enter Tryz.func97, Tryz.ntmps97
  go_wp2_with fail
  with_reducible refine Calls.mono (fmt_any n h0 h1 w hT) ?_
  rintro e w' ⟨rfl, hb⟩
  dsimp only
  go_wp2_with fail
  go_ret
  exact ⟨rfl, hb⟩
abbrev nob : Bs := fun _ => False
theorem own_bel {J : Nat → World → Bs → Prop} (hJ : Abid J) {k : Nat} {W W' : World} {X : Bs} (h : J k W X) (b : Below W.heap.size W W') : J k W' X := hJ.bel h b
theorem headRecords_any (s n : Int) (v : Value) (hv : v.oneCell' = true) (w : World) :
    Calls Tryz.prog 53 #[.agg #[.int .i64 s, .int .i64 n, v]] w fun e w' => e = .returned (.func (.func 96) #[] #[.pointer (some ⟨w.heap.size, 0, none⟩)]) ∧ w' = w.alloc (.cells #[.int .i64 s, .int .i64 n, v] 28) := by
  go_enter Tryz.func53, Tryz.ntmps53
  go_wp2_with fail
  go_ret
  exact ⟨rfl, rfl⟩
set_option maxRecDepth 100000 in
set_option maxHeartbeats 4000000 in
theorem head_tells (m : Ma) (g : Nat) (a : Option Addr) (cap : Nat) (h0 : 0 ≤ m.since) (h1 : m.since ≤ 1099511627777) (h2 : 0 ≤ m.next) (h3 : m.next ≤ 1099511627777) (h4 : m.items.length ≤ 256) :
    Tells Tryz.prog 96 #[.pointer (some ⟨g, 0, none⟩)] (headR m) (fun W => Bm3 W g m.since m.next (.slice a m.items.length cap) ∧ TB W) := by
  intro mm l J W hJ hJb hY hJ0
  have HY := Hid.mk hY
  have HJ := Hid.mk hJ
  have HC : Hid (∀ k W1, J k W1 nob → W1.cell? ⟨g, 0, none⟩ = some (.int .i64 m.since) ∧ W1.cell? ⟨g, 1, none⟩ = some (.int .i64 m.next) ∧ W1.cell? ⟨g, 2, none⟩ = some (.slice a m.items.length cap) ∧ TB W1) := ⟨fun k W1 h => by
    obtain ⟨p0, p1, p2⟩ := (hJb k W1 _ h).1.cells
    exact ⟨p0, p1, p2, (hJb k W1 _ h).2⟩⟩
  have H4 : Hid (m.items.length ≤ 256 ∧ 0 ≤ m.next ∧ m.next ≤ 1099511627777 ∧ 0 ≤ m.since ∧ m.since ≤ 1099511627777) := ⟨h4, h2, h3, h0, h1⟩
  clear hY hJ hJb h0 h1 h2 h3 h4
  refine callsIn_of_wp Tryz.func96 rfl trivial ?_ rfl
  simp only [Tryz.ntmps96, List.size_toArray, List.length_cons, List.length_nil, Nat.reduceAdd, Nat.reduceSub, Array.replicate_succ, Array.replicate_zero, List.push_toArray, List.append_toArray, List.nil_append, List.cons_append]
  by_cases hs : m.since = 0
  · have e : headR m = [(sKind, sFull), (sFormat, sCoffer), (sNext, dec m.next), (sCount, dec m.items.length)] := by
      unfold headR; rw [if_pos hs, if_pos hs]; rfl
    rw [e] at HY ⊢
    obtain ⟨p0, p1, p2, _⟩ := HC.out _ _ hJ0
    rw [hs] at p0
    have Y0 : YieldAt Fence.wide (mm - 1) Tryz.prog l #[.string ⟨#[107, 105, 110, 100]⟩, .string ⟨#[102, 117, 108, 108]⟩] W (fun e W' => e = .returned (.bool true) ∧ J 1 W' nob ∧ Stay nob W W') := HY.out 0 (sKind, sFull) W nob rfl hJ0 (mm - 1)
    obtain ⟨fn0, t0, as0, bo0, hy0, hR0⟩ := Y0
    gi_wp2
    clear p0 p1 p2
    clear hy0
    refine ⟨(fun h => (by cases h)), hR0.mono ?_⟩
    rintro e W1 ⟨rfl, hJ1, -⟩
    have Y1 : YieldAt Fence.wide (mm - 1) Tryz.prog l #[.string ⟨#[102, 111, 114, 109, 97, 116]⟩, .string ⟨#[99, 111, 102, 102, 101, 114, 45, 49]⟩] W1 (fun e W' => e = .returned (.bool true) ∧ J 2 W' nob ∧ Stay nob W1 W') := HY.out 1 (sFormat, sCoffer) W1 nob rfl hJ1 (mm - 1)
    obtain ⟨fn1, t1, as1, bo1, hy1, hR1⟩ := Y1
    gi_wp2
    clear hy1
    refine ⟨(fun h => (by cases h)), hR1.mono ?_⟩
    rintro e W2 ⟨rfl, hJ2, -⟩
    obtain ⟨p0, p1, p2, hT2⟩ := HC.out _ _ hJ2
    rw [hs] at p0
    have hd := (callsIn_wide (n := mm - 1)).2 (mdecimal_any m.next (by have := H4.out; omega) (by have := H4.out; omega) W2 hT2)
    gi_wp2
    refine ⟨trivial, (fun h => (by cases h)), hd.mono ?_⟩
    rintro e V0 ⟨rfl, bb⟩
    have hV0 := own_bel HJ.out hJ2 bb
    have Y2 : YieldAt Fence.wide (mm - 1) Tryz.prog l #[.string ⟨#[110, 101, 120, 116]⟩, str (dec m.next)] V0 (fun e W' => e = .returned (.bool true) ∧ J 3 W' nob ∧ Stay nob V0 W') := HY.out 2 (sNext, dec m.next) V0 nob rfl hV0 (mm - 1)
    obtain ⟨fn2, t2, as2, bo2, hy2, hR2⟩ := Y2
    gi_wp2
    clear hd hT2 p0 p1 p2 bb
    clear hy2
    refine ⟨(fun h => (by cases h)), hR2.mono ?_⟩
    rintro e U0 ⟨rfl, hU0, -⟩
    obtain ⟨p0, p1, p2, hT2⟩ := HC.out _ _ hU0
    rw [hs] at p0
    have hd := (callsIn_wide (n := mm - 1)).2 (mdecimal_any (m.items.length : Int) (by have := H4.out; omega) (by have := H4.out; omega) U0 hT2)
    gi_wp2
    refine ⟨trivial, (fun h => (by cases h)), hd.mono ?_⟩
    rintro e V1 ⟨rfl, bb⟩
    have hV1 := own_bel HJ.out hU0 bb
    have Y3 : YieldAt Fence.wide (mm - 1) Tryz.prog l #[.string ⟨#[99, 111, 117, 110, 116]⟩, str (dec (m.items.length : Int))] V1 (fun e W' => e = .returned (.bool true) ∧ J 4 W' nob ∧ Stay nob V1 W') := HY.out 3 (sCount, dec (m.items.length : Int)) V1 nob rfl hV1 (mm - 1)
    obtain ⟨fn3, t3, as3, bo3, hy3, hR3⟩ := Y3
    gi_wp2
    clear hd hT2 p0 p1 p2 bb
    clear hy3
    refine ⟨(fun h => (by cases h)), hR3.mono ?_⟩
    rintro e U1 ⟨rfl, hU1, -⟩
    gi_wp2
    go_end0
    exact ⟨⟨_, rfl⟩, hU1⟩
  · have e : headR m = [(sKind, sDelta), (sFormat, sCoffer), (sNext, dec m.next), (sSince, dec m.since), (sCount, dec m.items.length)] := by
      unfold headR; rw [if_neg hs, if_neg hs]; rfl
    rw [e] at HY ⊢
    have d0 : (m.since == 0) = false := beq_eq_false_iff_ne.2 hs
    obtain ⟨p0, p1, p2, _⟩ := HC.out _ _ hJ0
    have Y0 : YieldAt Fence.wide (mm - 1) Tryz.prog l #[.string ⟨#[107, 105, 110, 100]⟩, .string ⟨#[100, 101, 108, 116, 97]⟩] W (fun e W' => e = .returned (.bool true) ∧ J 1 W' nob ∧ Stay nob W W') := HY.out 0 (sKind, sDelta) W nob rfl hJ0 (mm - 1)
    obtain ⟨fn0, t0, as0, bo0, hy0, hR0⟩ := Y0
    gi_wp2
    clear p0 p1 p2
    clear hy0
    refine ⟨(fun h => (by cases h)), hR0.mono ?_⟩
    rintro e W1 ⟨rfl, hJ1, -⟩
    have Y1 : YieldAt Fence.wide (mm - 1) Tryz.prog l #[.string ⟨#[102, 111, 114, 109, 97, 116]⟩, .string ⟨#[99, 111, 102, 102, 101, 114, 45, 49]⟩] W1 (fun e W' => e = .returned (.bool true) ∧ J 2 W' nob ∧ Stay nob W1 W') := HY.out 1 (sFormat, sCoffer) W1 nob rfl hJ1 (mm - 1)
    obtain ⟨fn1, t1, as1, bo1, hy1, hR1⟩ := Y1
    gi_wp2
    clear hy1
    refine ⟨(fun h => (by cases h)), hR1.mono ?_⟩
    rintro e W2 ⟨rfl, hJ2, -⟩
    obtain ⟨p0, p1, p2, hT2⟩ := HC.out _ _ hJ2
    have hd := (callsIn_wide (n := mm - 1)).2 (mdecimal_any m.next (by have := H4.out; omega) (by have := H4.out; omega) W2 hT2)
    gi_wp2
    refine ⟨trivial, (fun h => (by cases h)), hd.mono ?_⟩
    rintro e V0 ⟨rfl, bb⟩
    have hV0 := own_bel HJ.out hJ2 bb
    have Y2 : YieldAt Fence.wide (mm - 1) Tryz.prog l #[.string ⟨#[110, 101, 120, 116]⟩, str (dec m.next)] V0 (fun e W' => e = .returned (.bool true) ∧ J 3 W' nob ∧ Stay nob V0 W') := HY.out 2 (sNext, dec m.next) V0 nob rfl hV0 (mm - 1)
    obtain ⟨fn2, t2, as2, bo2, hy2, hR2⟩ := Y2
    gi_wp2
    clear hd hT2 p0 p1 p2 bb
    clear hy2
    refine ⟨(fun h => (by cases h)), hR2.mono ?_⟩
    rintro e U0 ⟨rfl, hU0, -⟩
    obtain ⟨p0, p1, p2, hT2⟩ := HC.out _ _ hU0
    have hd := (callsIn_wide (n := mm - 1)).2 (mdecimal_any m.since (by have := H4.out; omega) (by have := H4.out; omega) U0 hT2)
    gi_wp2
    refine ⟨trivial, (fun h => (by cases h)), hd.mono ?_⟩
    rintro e V1 ⟨rfl, bb⟩
    have hV1 := own_bel HJ.out hU0 bb
    have Y3 : YieldAt Fence.wide (mm - 1) Tryz.prog l #[.string ⟨#[115, 105, 110, 99, 101]⟩, str (dec m.since)] V1 (fun e W' => e = .returned (.bool true) ∧ J 4 W' nob ∧ Stay nob V1 W') := HY.out 3 (sSince, dec m.since) V1 nob rfl hV1 (mm - 1)
    obtain ⟨fn3, t3, as3, bo3, hy3, hR3⟩ := Y3
    gi_wp2
    clear hd hT2 p0 p1 p2 bb
    clear hy3
    refine ⟨(fun h => (by cases h)), hR3.mono ?_⟩
    rintro e U1 ⟨rfl, hU1, -⟩
    obtain ⟨p0, p1, p2, hT2⟩ := HC.out _ _ hU1
    have hd := (callsIn_wide (n := mm - 1)).2 (mdecimal_any (m.items.length : Int) (by have := H4.out; omega) (by have := H4.out; omega) U1 hT2)
    gi_wp2
    refine ⟨trivial, (fun h => (by cases h)), hd.mono ?_⟩
    rintro e V2 ⟨rfl, bb⟩
    have hV2 := own_bel HJ.out hU1 bb
    have Y4 : YieldAt Fence.wide (mm - 1) Tryz.prog l #[.string ⟨#[99, 111, 117, 110, 116]⟩, str (dec (m.items.length : Int))] V2 (fun e W' => e = .returned (.bool true) ∧ J 5 W' nob ∧ Stay nob V2 W') := HY.out 4 (sCount, dec (m.items.length : Int)) V2 nob rfl hV2 (mm - 1)
    obtain ⟨fn4, t4, as4, bo4, hy4, hR4⟩ := Y4
    gi_wp2
    clear hd hT2 p0 p1 p2 bb
    clear hy4
    refine ⟨(fun h => (by cases h)), hR4.mono ?_⟩
    rintro e U2 ⟨rfl, hU2, -⟩
    gi_wp2
    go_end0
    exact ⟨⟨_, rfl⟩, hU2⟩
end Go.Proofs.YtdfjlmfnkhhnjaaGreatDoor
