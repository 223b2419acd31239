/- HashWriters: the law and its card, where what it reads is short. -/
import Derived.Test.YtjoaiagiankfdaaDoorWrW
import Derived.Test.YtjoaiagiankfdaaDoorCards
import Derived.Test.YtjoaiagiankfdaaDoorTie
import Derived.SevenTiedAt
import Derived.JoinedCond
namespace Go.Proofs.YtjoaiagiankfdaaDoor
open Go.ChangeShapes Go.WideShapes Go.ChangeAt Go.RowKit
open Go.ChangeMaps (open_string shut_string)
set_option linter.unusedVariables false
set_option linter.unusedSimpArgs false
namespace hashWriters
theorem bulk_pos {H : Type} (d : DataW H) : 1 ≤ Rows.uptoBulk d := by
  cases d with
  | lit l => cases l <;> simp [Rows.uptoBulk]
  | _ => simp [Rows.uptoBulk]
theorem bulk_mem {H : Type} : ∀ (l : List (DataW H)) (d : DataW H), d ∈ l → Rows.uptoBulk d ≤ Rows.uptoBulkAll l
  | [], _, h => by cases h
  | x :: r, d, h => by
    rcases List.mem_cons.1 h with rfl | h
    · simp [Rows.uptoBulkAll]
    · have := bulk_mem r d h; simp [Rows.uptoBulkAll]; omega
theorem bulk_len {H : Type} : ∀ (l : List (DataW H)), l.length ≤ Rows.uptoBulkAll l
  | [] => by simp [Rows.uptoBulkAll]
  | x :: r => by have := bulk_len r; have := bulk_pos x; simp [Rows.uptoBulkAll]; omega
theorem ops_in {H : Type} {enc : TypeId × Value → H} {W : World} {a : Option Addr} {len cap N : Nat} {d : DataW H} {p : List MemPlace} (h : DataW.Trod enc Tryd.prog W 0 (fun _ => true) true 39 (.slice a len cap) d p) (hN : Rows.uptoBulk d ≤ N) : OpsIn W a len N ∧ len ≤ N := by
  obtain ⟨fuel, hf⟩ := h
  rcases Go.Deep.open_slice Tryd.underlying39 hf with ⟨hcs, _⟩ | ⟨x, l, c, m, n, D, Pl, hcs, _, hl, hm, hmm, hx, hel⟩
  · simp [Value.cells] at hcs
    obtain ⟨rfl, rfl, rfl⟩ := hcs
    exact ⟨fun k hk => by omega, by omega⟩
  · simp [Value.cells] at hcs
    obtain ⟨rfl, rfl, rfl⟩ := hcs
    have hmc : m = cap := by simpa using hmm
    have hd : d = .slice ((List.range len).map D) ((List.range (m - len)).map fun j => D (len + j)) := congrArg Prod.fst hx
    rw [hd] at hN
    simp only [Rows.uptoBulk] at hN
    refine ⟨fun k hk => ?_, by have := bulk_len ((List.range len).map D); simp at this; omega⟩
    have hDk : Rows.uptoBulk (D k) ≤ N := by
      have := bulk_mem ((List.range len).map D) (D k) (List.mem_map.2 ⟨k, List.mem_range.2 hk, rfl⟩)
      omega
    obtain ⟨b, off, spot⟩ := x
    obtain ⟨cs', h1, h2⟩ := hel k (by omega)
    rw [cells43] at h1
    obtain ⟨_, hlen, hcell⟩ := World.cells?_some h1
    obtain ⟨f0, f1, f2, f3, hu, ⟨t0, t1, t2, t3⟩, o0, o1, o2, o3⟩ := und43
    obtain ⟨xs, n', _, hxd, _, hxl, hfs⟩ := DataW.trod_struct hu h2
    match xs, hxl, cs', hlen with
    | [y0, y1, y2, y3], _, [v0, v1, v2, v3], _ =>
      have g0 := hfs 0 f0 rfl
      have g1 := hfs 1 f1 rfl
      have g2 := hfs 2 f2 rfl
      have g3 := hfs 3 f3 rfl
      simp [o0, o1, o2, o3, t0, t1, t2, t3, cells4, cells9, cells3] at g0 g1 g2 g3
      obtain ⟨two, e0, _⟩ := DataW.trod_bool Tryd.underlying4 g0
      obtain ⟨s, e1, y1e, hs⟩ := DataW.trod_string Tryd.underlying9 g1
      obtain ⟨z, e2, _, hz⟩ := DataW.trod_int Tryd.underlying3 g2
      obtain ⟨ask, e3, _⟩ := DataW.trod_bool Tryd.underlying4 g3
      simp at e0 e1 e2 e3
      subst e0 e1 e2 e3
      have hDe : D k = .agg [y0.1, y1.1, y2.1, y3.1] := congrArg Prod.fst hxd
      have hsN : s.size ≤ N := by
        rw [hDe, y1e] at hDk
        simp [Rows.uptoBulk, Rows.uptoBulkAll] at hDk
        omega
      have c0 := hcell 0 (by omega)
      have c1 := hcell 1 (by omega)
      have c2 := hcell 2 (by omega)
      have c3 := hcell 3 (by omega)
      have hspot : spot = none := by
        obtain ⟨cs0, h10, _⟩ := hel 0 (by omega)
        rw [cells43] at h10
        obtain ⟨_, hlen0, hcell0⟩ := World.cells?_some h10
        match cs0, hlen0 with
        | [u0, u1, u2, u3], _ =>
          have q0 := hcell0 0 (by omega)
          simpa [Addr.add] using World.cell?_spot q0
      subst hspot
      have hadd : ∀ j i, ((⟨b, off, none⟩ : Addr).add j).add i = ⟨b, off + j + i, none⟩ := fun j i => by rw [Addr.add_mid, Addr.add_mid]
      rw [hadd] at c0 c1 c2 c3
      rw [Nat.mul_comm k 4] at c0 c1 c2 c3
      exact ⟨b, off, two, s, z, ask, rfl, block_lt_of_cell c0, by simpa using c0, by simpa using c1, by simpa using c2, by simpa using c3, hsN, hz⟩
set_option maxRecDepth 100000 in
theorem lifted (os : Os) (started : os.Started) (H : Type) (enc : TypeId × Value → H) (F : Stop.Interp) :
    ReturnsInHanded {} Tryd.checked os 8 .any (fun w args => ((Rows.OpenSpec.upto Rows.hashWritersSpec).pre enc Tryd.prog Tryd.f8 [] false w args ∧ laidMetH Tryd.prog laid1 w) ∧ sizedMet enc Tryd.prog Tryd.f8 (Rows.OpenSpec.upto Rows.hashWritersSpec) false w args)
      (((Rows.OpenSpec.upto Rows.hashWritersSpec).at F).post enc Tryd.prog Tryd.f8 false true false false) := by
  refine returnsInHanded_of_calls own started (by kernel_rfl) ?_ ?_
  · obtain ⟨w, tape, i, h1, h2, h3, h4, ⟨⟨⟨ds, gs, before, hw, hc⟩, hx⟩, hz⟩, hh⟩ := (ChangeSpec.witness_at (enc := enc) (C := Tryd.checked) (s := Rows.hashWritersSpec) (fn := Tryd.f8) (f := 8) (os := os) (X := fun w args => laidMetH Tryd.prog laid1 w ∧ args = #[.slice none 0 0]) false (laidWorld os) #[.slice none 0 0] 8 rfl (by kernel_rfl) (by kernel_rfl) (by kernel_rfl) (by kernel_rfl) (by kernel_rfl) ⟨laidWorld_met os _, rfl⟩)
    refine ⟨w, tape, i, h1, h2, h3, h4, ⟨⟨⟨ds, gs, before, hw, hc, ?_⟩, hx.1⟩, hz⟩, hh⟩
    obtain ⟨p, q, hA0, hV, rfl, hfz, hnd⟩ := hw
    have hA : DataW.TrodAll enc Tryd.prog _ 0 (fun _ => true) true Tryd.f8.params.toList i.args.toList ds p := hA0
    rw [hx.2, Tryd.params8] at hA
    obtain ⟨v0, vs0, d0, ds0, p0, q0, hargs, rfl, rfl, h0, r0⟩ := trodAll_cons hA
    obtain ⟨rfl, rfl, rfl⟩ := trodAll_nil r0
    obtain ⟨rfl, rfl⟩ := trodVars_none hV
    obtain rfl : v0 = .slice none 0 0 := by simpa using hargs.symm
    obtain ⟨fuel, hf⟩ := h0
    rcases Go.Deep.open_slice Tryd.underlying39 hf with ⟨_, hd⟩ | ⟨x, l, c, m, n, D, Pl, hcs, _⟩
    · obtain rfl : d0 = .nil := congrArg Prod.fst hd
      simp [Rows.uptoSmall, Rows.uptoBulkAll, Rows.uptoBulk]
    · simp [Value.cells] at hcs
  intro w tape i _ _ _ hok hpre hholds
  obtain ⟨_, _, _, fn', hfn', _, _, _, _, hval0⟩ := hok
  have e : fn' = Tryd.f8 := Option.some.inj (hfn'.symm.trans Tryd.func8)
  subst e
  obtain ⟨⟨⟨ds, gs, before, hw, hc, hkk⟩, hx⟩, hz⟩ := hpre
  have hW := DataW.Whole.of_heap (w' := w.forCall tape i) (by rfl) hw
  have hL : laidMetH Tryd.prog laid1 (w.forCall tape i) := hx.of_heap (by rfl)
  generalize w.forCall tape i = W at *
  generalize i.args = args at *
  have hval : ∀ (j : Nat) t v, Tryd.f8.params[j]? = some t → args[j]? = some v → Value.okWide Tryd.prog W .any w.heap.size t v := hval0
  have hW' := hW
  obtain ⟨p, q, hA0, hV, rfl, hfz, hnd⟩ := hW
  have hA : DataW.TrodAll enc Tryd.prog W 0 (fun _ => true) true Tryd.f8.params.toList args.toList ds p := hA0
  rw [Tryd.params8] at hA hval
  obtain ⟨v0, vs0, d0, ds0, p0, q0, hargs, rfl, rfl, h0, r0⟩ := trodAll_cons hA
  obtain ⟨rfl, rfl, rfl⟩ := trodAll_nil r0
  obtain rfl : args = #[v0] := by cases args; simp_all
  obtain ⟨rfl, rfl⟩ := trodVars_none hV
  obtain ⟨a0, len0, cap0, rfl⟩ := okWide_slice Tryd.underlying39 (hval 0 39 v0 rfl rfl)
  have kp0 := h0
  have lt0 : ∀ x ∈ p0, x.block < W.heap.size := by obtain ⟨m, hm⟩ := kp0; exact DataW.trod_lt m _ _ _ hm
  have hb : Rows.uptoBulk d0 ≤ 1048576 := by
    have h9 : decide (Rows.uptoBulkAll ([d0] ++ []) ≤ 1048576) = true := hkk
    simp [Rows.uptoBulkAll] at h9
    omega
  obtain ⟨ia0, il0⟩ := ops_in h0 hb
  refine (walk a0 len0 cap0 W ia0 il0 (kin_of_laid hL)).mono fun e W' ⟨he, bel⟩ => ?_
  subst he
  exact ChangeSpec.post_blind ⟨_, _, _, [], _, [], hW', trodAll_mk1 (shut_bool Tryd.underlying4 _), (trodAll_cons_mk (Below.trod (P := Tryd.prog) (by kernel_rfl) (by kernel_rfl) (of_decide_eq_true (by kernel_rfl)) kp0 bel lt0) trodAll_mk0), rfl, bel.frame _, fun h => by cases h⟩
theorem over : Rows.hashWritersUptoRow.holds Tryd.pinned (Rows.OpenSpec.upto Rows.hashWritersSpec) :=
  OpenClaim.holds_of_cond 8 Tryd.f8 rfl rfl rfl rfl rfl rfl rfl ⟨rfl, rfl, rfl, rfl, rfl⟩ rfl rfl rfl rfl rfl (by kernel_rfl) Tryd.func8 (by kernel_rfl)
    (of_decide_eq_true (by kernel_rfl)) (by unfold Func.isWrapper; first | (rw [if_pos (by decide +kernel)]; kernel_rfl) | (rw [if_neg (by decide +kernel)]; exact ⟨rfl, rfl⟩))
    (fun os started H enc _ F => lifted os started H enc F)
end hashWriters

theorem hashWritersUpto_holds : Rows.HashWritersUptoCardSaid :=
  Claim7.holds_tied_plain_at .later [] [.data] true (true, "0faf704b421a3bfb61ae8aab87bfb717a25f9c206630b02b54ca05421e9be05e") false
    hashWriters.over (fun _ h => by cases h) (by kernel_rfl) (fun _ h => by cases h) hashWritersUpto_row_tie rfl ⟨rfl, rfl⟩ (by kernel_rfl) rfl
    (fun f fn hf hfn => by
      obtain rfl : f = 8 := Option.some.inj ((show Tryd.prog.funcNamed "coffer/cofferlaw02.HashWriters" = some 8 by kernel_rfl).symm.trans hf) |>.symm
      obtain rfl : fn = Tryd.f8 := (Option.some.inj (Tryd.func8.symm.trans hfn)).symm
      exact ⟨by kernel_rfl, fun j t ht => by
        rw [Tryd.params8] at ht
        have h3 : t = 39 := by
          match j, ht with
          | 0, ht => have e : 39 = t := by simpa using ht
                     exact e.symm
          | j + 1, ht => exact absurd ht (by simp)
        subst h3
        all_goals (first | exact (show Tryd.prog.wantsStandIn 22 = false by kernel_rfl) | exact (show Tryd.prog.wantsStandIn 9 = false by kernel_rfl) | exact (show Tryd.prog.wantsStandIn 3 = false by kernel_rfl) | exact (show Tryd.prog.wantsStandIn 5 = false by kernel_rfl) | exact (show Tryd.prog.wantsStandIn 34 = false by kernel_rfl) | exact (show Tryd.prog.wantsStandIn 39 = false by kernel_rfl))⟩)
    (by kernel_rfl)
#print axioms hashWritersUpto_holds
end Go.Proofs.YtjoaiagiankfdaaDoor
