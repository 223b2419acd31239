import Derived.Test.YtcmmbdcflblekaaGreatDoorQg
import Derived.Test.YtcmmbdcflblekaaGreatDoorAMd
import Derived.Test.YtcmmbdcflblekaaGreatDoorQf
import Derived.Deep.RegionHeld3
import Derived.Deep.DeepCutAuto
/- What ArchiveBack needs of the texts. No model. -/
namespace Go.Proofs.YtcmmbdcflblekaaGreatDoor
set_option maxRecDepth 100000
set_option linter.unusedVariables false
set_option linter.unusedSimpArgs false
theorem OfR.since {L : List Vs} {next c : Int} (h : OfR L next 0) (h0 : 0 ≤ c) (h1 : c ≤ next) (h2 : ∀ v ∈ L, c ≤ v.seq) : OfR L next c := by
  obtain ⟨a, b, r⟩ := h
  refine ⟨a, b, ⟨r.n1, r.n2, h0, h1, r.len, fun x hx => ?_, r.srt, r.nod, r.byt⟩⟩
  obtain ⟨k, s1, s2, s3, m1, m0⟩ := r.it x hx
  obtain ⟨v, hv, rfl⟩ := List.mem_map.1 hx
  exact ⟨k, s1, s2, h2 v hv, m1, m0⟩
theorem arc_pos (L : List Vs) (n c : Int) : 1 ≤ (arc L n c).length := by
  have := mtx_pos ⟨c, n, ofI L⟩
  unfold arc bod
  simp only [List.length_append]
  omega
/-- a byte fewer: nothing's archive -/
theorem no_less {L : List Vs} {n c : Int} (h : OfR L n c) (M : List Vs) (n' c' : Int) : ¬ Arc ((arc L n c).take ((arc L n c).length - 1)) M n' c' := fun q => by
  have hp := arc_pos L n c
  have e : arc L n c = arc M n' c' ++ (arc L n c).drop ((arc L n c).length - 1) := by rw [← q.2, List.take_append_drop]
  have := Arc.whole h q.1 e
  have h2 := congrArg List.length this
  rw [List.length_drop, List.length_nil] at h2
  omega
/-- a byte more -/
theorem no_more {L : List Vs} {n c : Int} (h : OfR L n c) (b : UInt8) (M : List Vs) (n' c' : Int) : ¬ Arc (arc L n c ++ [b]) M n' c' := fun q => by
  have := Arc.whole q.1 h q.2.symm
  cases this
/-- a delta is no full archive -/
theorem no_full {L : List Vs} {n c : Int} (h : OfR L n c) (hc : c ≠ 0) (M : List Vs) (n' : Int) : ¬ Arc (arc L n c) M n' 0 := fun q => hc (Arc.two ⟨h, rfl⟩ q).2.2
/-- unlike values have unlike archives -/
theorem arc_inj {L M : List Vs} {n n' : Int} (h : OfR L n 0) (h' : OfR M n' 0) : arc L n 0 = arc M n' 0 ↔ L = M ∧ n = n' := by
  constructor
  · intro e
    obtain ⟨a, b, _⟩ := Arc.two (s := arc L n 0) ⟨h, rfl⟩ ⟨h', e⟩
    exact ⟨a, b⟩
  · rintro ⟨rfl, rfl⟩; rfl
end Go.Proofs.YtcmmbdcflblekaaGreatDoor

/- ArchiveBack: two values that Made told, in their boxes. -/
namespace Go.Proofs.YtcmmbdcflblekaaGreatDoor
set_option maxRecDepth 100000
set_option linter.unusedVariables false
set_option linter.unusedSimpArgs false
open Go.RowKit
theorem call_step3 {P : Program} {o : Oper} {a : Act} {w : World} {next : Act → World → Prop} {Q : Exit → Act → World → Prop} {f : Nat} {args : Array Value} {X : Type} {v : X → Value} {G : X → World → Prop} (d : Nat) (hd : o.dst = some d) (hx : (execOp a.eval o).run P w = .ok (.enter f args) w)
    (hc : Calls P f args w fun e w' => ∃ x, e = .returned (v x) ∧ G x w') (hn : ∀ x w', G x w' → next (a.put (some d) (v x)) w') : Oper.wp P o a w next Q := by
  unfold Oper.wp; rw [hx, Oper.upon_enter]; refine hc.mono ?_; rintro e w' ⟨x, rfl, g⟩; show next (a.put o.dst (v x)) w'; rw [hd]; exact hn x w' g
/-- what Made tells -/
structure MdA where
  L : List Vs
  n : Int
  sq : Int
  va : Option Addr
  vc : Nat
structure MdA.On (m : MdA) (w : World) : Prop where
  vin : VIn w m.va m.L
  mdl : Mdl m.sq m.L
  n1 : m.sq < m.n
  n2 : m.n ≤ m.sq + 1024
theorem MdA.On.later {m : MdA} {w w' : World} (h : m.On w) (hb : Below w.heap.size w w') : m.On w' := ⟨h.vin.later hb, h.mdl, h.n1, h.n2⟩
theorem MdA.On.of {m : MdA} {w : World} (h : m.On w) : OfR m.L m.n 0 := h.mdl.of h.n1 h.n2
theorem made2_any (L : List Vs) (n : Int) (w : World) (a : Option Addr) (cap : Nat) (hL : VIn w a L) (hz : L.length ≤ 4611686018427387904) :
    Calls Tryz.prog 16 #[.agg #[.int .i64 n, .slice a L.length cap]] w fun e w' => ∃ m : MdA, e = .returned (.agg #[.int .i64 m.n, .slice m.va m.L.length m.vc]) ∧ m.On w' ∧ Below w.heap.size w w' :=
  (made_any L n w a cap hL hz).mono (by
    rintro e w' ⟨L', n', sq, va, vc, rfl, h1, h2, h3, h4, h5⟩
    exact ⟨⟨L', n', sq, va, vc⟩, rfl, ⟨h1, h2, h3, h4⟩, h5⟩)
/-- a value that Made told, in its box -/
structure Mb9 (w : World) (g : Nat) (m : MdA) : Prop where
  box : Bb2 w g m.n (.slice m.va m.L.length m.vc)
  on : m.On w
theorem Mb9.later {w w' : World} {g : Nat} {m : MdA} (h : Mb9 w g m) (hb : Below w.heap.size w w') : Mb9 w' g m := ⟨h.box.later hb, h.on.later hb⟩
theorem MdA.On.box {m : MdA} {w : World} (h : m.On w) {g : Nat} {n : Int} {q : Value} (hb : Bb2 w g n q) (hq : ∀ s, q ≠ .string s) (x y : Value) : m.On ((w.setCell ⟨g, 0, none⟩ x).setCell ⟨g, 1, none⟩ y) := ⟨vin_box h.vin hb hq x y, h.mdl, h.n1, h.n2⟩
theorem Bb2.lt2 {w : World} {g : Nat} {n : Int} {v : Value} (h : Bb2 w g n v) : g < w.heap.size := lt_of_block h
theorem Bb2.oth2 {w : World} {g g' : Nat} {n : Int} {v : Value} (h : Bb2 w g n v) (hn : g ≠ g') (x y : Value) : Bb2 ((w.setCell ⟨g', 0, none⟩ x).setCell ⟨g', 1, none⟩ y) g n v := h.oth ((hso _ _ hn).trans (hso _ _ hn))
/-- two boxes, not filled yet -/
structure Two0 (w0 W : World) (g7 g8 : Nat) : Prop where
  h7 : Bb2 W g7 0 (.slice none 0 0)
  h8 : Bb2 W g8 0 (.slice none 0 0)
  ne : g7 ≠ g8
  r7 : w0.heap.size ≤ g7
  r8 : w0.heap.size ≤ g8
  bel : Below w0.heap.size w0 W
theorem Two0.put1 {w0 W : World} {g7 g8 : Nat} (h : Two0 w0 W g7 g8) (x y : Value) : Bb2 ((W.setCell ⟨g7, 0, none⟩ x).setCell ⟨g7, 1, none⟩ y) g8 0 (.slice none 0 0) ∧ Below w0.heap.size w0 ((W.setCell ⟨g7, 0, none⟩ x).setCell ⟨g7, 1, none⟩ y) := ⟨h.h8.oth2 h.ne.symm _ _, below2 h.bel h.r7 _ _⟩
theorem Two0.put2 {w0 W : World} {g7 g8 : Nat} (h : Two0 w0 W g7 g8) {m1 m2 : MdA} (o1 : m1.On W) (o2 : m2.On W) :
    Below w0.heap.size w0 ((((W.setCell ⟨g7, 0, none⟩ (.int .i64 m1.n)).setCell ⟨g7, 1, none⟩ (.slice m1.va m1.L.length m1.vc)).setCell ⟨g8, 0, none⟩ (.int .i64 m2.n)).setCell ⟨g8, 1, none⟩ (.slice m2.va m2.L.length m2.vc)) ∧
    Mb9 ((((W.setCell ⟨g7, 0, none⟩ (.int .i64 m1.n)).setCell ⟨g7, 1, none⟩ (.slice m1.va m1.L.length m1.vc)).setCell ⟨g8, 0, none⟩ (.int .i64 m2.n)).setCell ⟨g8, 1, none⟩ (.slice m2.va m2.L.length m2.vc)) g7 m1 ∧
    Mb9 ((((W.setCell ⟨g7, 0, none⟩ (.int .i64 m1.n)).setCell ⟨g7, 1, none⟩ (.slice m1.va m1.L.length m1.vc)).setCell ⟨g8, 0, none⟩ (.int .i64 m2.n)).setCell ⟨g8, 1, none⟩ (.slice m2.va m2.L.length m2.vc)) g8 m2 := by
  obtain ⟨k8, kb⟩ := h.put1 (.int .i64 m1.n) (.slice m1.va m1.L.length m1.vc)
  have k7 := h.h7.set2 m1.n (.slice m1.va m1.L.length m1.vc)
  have p1 := o1.box h.h7 (fun s q => by cases q) (.int .i64 m1.n) (.slice m1.va m1.L.length m1.vc)
  have p2 := o2.box h.h7 (fun s q => by cases q) (.int .i64 m1.n) (.slice m1.va m1.L.length m1.vc)
  generalize (W.setCell ⟨g7, 0, none⟩ (.int .i64 m1.n)).setCell ⟨g7, 1, none⟩ (.slice m1.va m1.L.length m1.vc) = W1 at *
  exact ⟨below2 kb h.r8 _ _, ⟨k7.oth2 h.ne _ _, p1.box k8 (fun s q => by cases q) _ _⟩, ⟨k8.set2 _ _, p2.box k8 (fun s q => by cases q) _ _⟩⟩
def a1 (s : Int) : Int := bits .and .i64 s 1
theorem a1_eq (s : Int) : bits .and .i64 s 1 = a1 s := rfl
theorem a1_bd (s : Int) : 0 ≤ a1 s ∧ a1 s ≤ 1 := and_bd s 1 (by decide)
theorem pk_of {L : List Vs} {n c : Int} (hO : OfR L n c) {w : World} {a : Option Addr} {cap : Nat} (hv : VIn w a L) (hT : Go.Proofs.YtcmmbdcflblekaaGreatDoorP.TB w) (hK : Go.Proofs.YtcmmbdcflblekaaGreatDoorH.KIn w) :
    Calls Tryz.prog 17 #[.agg #[.int .i64 n, .slice a L.length cap], .int .i64 c] w fun e w' => e = .returned (.tuple #[str (arc L n c), .int .i64 0]) ∧ Below w.heap.size w w' := by
  have h := pack_any L n c w a cap hv (by have := hO.1; omega) (fun v hv => by have := (rt_of (hO.2.1 v hv)).n; omega) hT hK
  rw [(pk_yes hO).1, (pk_yes hO).2] at h
  exact h
theorem en_of {L : List Vs} {n : Int} (hO : OfR L n 0) {w : World} {a : Option Addr} {cap : Nat} (hv : VIn w a L) (hT : Go.Proofs.YtcmmbdcflblekaaGreatDoorP.TB w) (hK : Go.Proofs.YtcmmbdcflblekaaGreatDoorH.KIn w) :
    Calls Tryz.prog 21 #[.agg #[.int .i64 n, .slice a L.length cap]] w fun e w' => e = .returned (.tuple #[str (arc L n 0), .int .i64 0]) ∧ Below w.heap.size w w' := by
  have h := encode_any L n w a cap hv (by have := hO.1; omega) (fun v hv => by have := (rt_of (hO.2.1 v hv)).n; omega) hT hK
  rw [(pk_yes hO).1, (pk_yes hO).2] at h
  exact h
theorem sm_of {L M : List Vs} {n n' c c' : Int} (hO : OfR L n c) (hO' : OfR M n' c') {w : World} {a b : Option Addr} {cap cap' : Nat} (hv : VIn w a L) (hv' : VIn w b M) :
    Calls Tryz.prog 19 #[.agg #[.int .i64 n, .slice a L.length cap], .agg #[.int .i64 n', .slice b M.length cap']] w fun e w' => e = .returned (.bool (svB n L n' M)) ∧ Below w.heap.size w w' :=
  asame_any n n' L M w a b cap cap' hv hv' (by have := hO.1; omega) (fun v hv => by have := (rt_of (hO.2.1 v hv)).n; omega) (fun v hv => by have := (rt_of (hO'.2.1 v hv)).n; omega)
end Go.Proofs.YtcmmbdcflblekaaGreatDoor

/- ArchiveBack: the walk. -/
namespace Go.Proofs.YtcmmbdcflblekaaGreatDoor
set_option maxRecDepth 100000
set_option linter.unusedVariables false
set_option linter.unusedSimpArgs false
open Go.RowKit
open Go.Proofs.YtcmmbdcflblekaaGreatDoorP (TB)
open Go.Proofs.YtcmmbdcflblekaaGreatDoorH (KIn)
attribute [local go_sem ↓] Go.wp_at_zero Go.wp_at_succ ad9 Go.Proofs.YtcmmbdcflblekaaGreatDoorP.sl9
attribute [local go_sem] a1_eq
set_option maxRecDepth 100000 in
set_option maxHeartbeats 8000000 in
theorem back_walk (L M : List Vs) (n m since : Int) (w : World) (a : Option Addr) (cap : Nat) (b : Option Addr) (capb : Nat) (hL : VIn w a L) (hz : L.length ≤ 4611686018427387904) (hM : VIn w b M) (hz2 : M.length ≤ 4611686018427387904) (hT : TB w) (hE : EG w) (hK : KIn w) :
    Calls Tryz.prog 4 #[.agg #[.int .i64 n, .slice a L.length cap], .agg #[.int .i64 m, .slice b M.length capb], .int .i64 since] w fun e w' => e = .returned (.bool true) ∧ Below w.heap.size w w' := by
  have HT := Hid.mk hT
  have HE := Hid.mk hE
  have HK := Hid.mk hK
  have b1 := (Below.refl w.heap.size w).alloc (Nat.le_refl _) (.cells #[.int .i64 n, .slice a L.length cap] 24)
  have b2 := b1.alloc b1.size (.cells #[.int .i64 m, .slice b M.length capb] 24)
  have z0 : Bb2 ((w.alloc (.cells #[.int .i64 n, .slice a L.length cap] 24)).alloc (.cells #[.int .i64 m, .slice b M.length capb] 24)) w.heap.size n (.slice a L.length cap) := (Bb2.new w n (.slice a L.length cap)).later ((Below.refl _ _).alloc (Nat.le_refl _) _)
  have z1 : Bb2 ((w.alloc (.cells #[.int .i64 n, .slice a L.length cap] 24)).alloc (.cells #[.int .i64 m, .slice b M.length capb] 24)) (w.heap.size + 1) m (.slice b M.length capb) := by
    have := Bb2.new (w.alloc (.cells #[.int .i64 n, .slice a L.length cap] 24)) m (.slice b M.length capb)
    rw [World.size_alloc] at this
    exact this
  have HB := Hid.mk b2
  have HX : Hid (Bb2 ((w.alloc (.cells #[.int .i64 n, .slice a L.length cap] 24)).alloc (.cells #[.int .i64 m, .slice b M.length capb] 24)) w.heap.size n (.slice a L.length cap) ∧ Bb2 ((w.alloc (.cells #[.int .i64 n, .slice a L.length cap] 24)).alloc (.cells #[.int .i64 m, .slice b M.length capb] 24)) (w.heap.size + 1) m (.slice b M.length capb) ∧ VIn ((w.alloc (.cells #[.int .i64 n, .slice a L.length cap] 24)).alloc (.cells #[.int .i64 m, .slice b M.length capb] 24)) a L ∧ VIn ((w.alloc (.cells #[.int .i64 n, .slice a L.length cap] 24)).alloc (.cells #[.int .i64 m, .slice b M.length capb] 24)) b M) := ⟨z0, z1, hL.later b2, hM.later b2⟩
  have hf := first_any _ (hT.below b2) (hE.below b2) (hK.seq b2)
  clear hT hE hK b1 b2 z0 z1 hL hM
  go_enter Tryz.func4, Tryz.ntmps4
  go_wp2_with fail
  generalize (w.alloc (.cells #[.int .i64 n, .slice a L.length cap] 24)).alloc (.cells #[.int .i64 m, .slice b M.length capb] 24) = w1 at *
  generalize hg3 : w.heap.size = g3 at HX ⊢
  have HG3 := Hid.mk hg3
  clear hg3
  with_reducible refine Calls.mono hf ?_
  rintro e W2 ⟨rfl, b2⟩
  have HB2 := Hid.mk (below_seq HB.out b2)
  have HS : Hid (∀ w', Below W2.heap.size W2 w' → w'.cell? ⟨g3, 0, none⟩ = some (.int .i64 n) ∧ w'.cell? ⟨g3, 1, none⟩ = some (.slice a L.length cap) ∧ w'.cell? ⟨g3 + 1, 0, none⟩ = some (.int .i64 m) ∧ w'.cell? ⟨g3 + 1, 1, none⟩ = some (.slice b M.length capb)) := ⟨fun w' h => by
    obtain ⟨x0, x1⟩ := ((HX.out.1.later b2).later h).cells
    obtain ⟨y0, y1⟩ := ((HX.out.2.1.later b2).later h).cells
    exact ⟨x0, x1, y0, y1⟩⟩
  have HM1 : Hid (∀ w', Below W2.heap.size W2 w' → Calls Tryz.prog 16 #[.agg #[.int .i64 n, .slice a L.length cap]] w' fun e w'' => ∃ m : MdA, e = .returned (.agg #[.int .i64 m.n, .slice m.va m.L.length m.vc]) ∧ m.On w'' ∧ Below w'.heap.size w' w'') := ⟨fun w' h => made2_any L n w' a cap ((HX.out.2.2.1.later b2).later h) hz⟩
  have HM2 : Hid (∀ w', Below W2.heap.size W2 w' → Calls Tryz.prog 16 #[.agg #[.int .i64 m, .slice b M.length capb]] w' fun e w'' => ∃ m : MdA, e = .returned (.agg #[.int .i64 m.n, .slice m.va m.L.length m.vc]) ∧ m.On w'' ∧ Below w'.heap.size w' w'') := ⟨fun w' h => made2_any M m w' b capb ((HX.out.2.2.2.later b2).later h) hz2⟩
  clear hf b2 HX HB
  dsimp only
  go_upto_region 3 with fail
  go_cut [7, 8] from 9 (fun v7 v8 wx => ∃ (g7 g8 : Nat) (m1 m2 : MdA), v7 = .pointer (some ⟨g7, 0, none⟩) ∧ v8 = .pointer (some ⟨g8, 0, none⟩) ∧ Hid (Below W2.heap.size W2 wx ∧ Mb9 wx g7 m1 ∧ Mb9 wx g8 m2))
  case first =>
    refine wp_region_held (S := fun w' => w'.cell? ⟨g3, 0, none⟩ = some (.int .i64 n) ∧ w'.cell? ⟨g3, 1, none⟩ = some (.slice a L.length cap) ∧ w'.cell? ⟨g3 + 1, 0, none⟩ = some (.int .i64 m) ∧ w'.cell? ⟨g3 + 1, 1, none⟩ = some (.slice b M.length capb)) (by kernel_rfl) ?_
    try (change wpAnyH _ _ _ _ _ _ _ _ (World.drew _))
    have bq0 := (Below.refl W2.heap.size W2).drew
    have hHeld := HS.out _ bq0
    generalize W2.drew = wq at *
    refine take2 0 30 (.agg #[.int .i64 n, .slice a L.length cap]) rfl rfl (by kernel_rfl) (by kernel_rfl) (by kernel_rfl) (fun _ _ _ h => h) (by kernel_rfl) ?_ (by assumption) ?_
    · intro w' hSw
      obtain ⟨s0, s1, s2, s3⟩ := hSw
      go_simp
    try simp only [Act.put, List.setIfInBounds_toArray, List.set_cons_zero, List.set_cons_succ]
    refine take2 2 32 (.agg #[.int .i64 m, .slice b M.length capb]) rfl rfl (by kernel_rfl) (by kernel_rfl) (by kernel_rfl) (fun _ _ _ h => h) (by kernel_rfl) ?_ (by assumption) ?_
    · intro w' hSw
      obtain ⟨s0, s1, s2, s3⟩ := hSw
      go_simp
    try simp only [Act.put, List.setIfInBounds_toArray, List.set_cons_zero, List.set_cons_succ]
    refine wpAnyH_ready (rs := [1, 4, 5]) (by kernel_rfl) (by simp) ?_
    refine AllReadyH.cons rfl (fun K hK => ?_) (AllReadyH.cons rfl (fun K hK => ?_) (AllReadyH.cons rfl (fun K hK => ?_) AllReadyH.nil))
    · skip
      rw [if_pos (by kernel_rfl)]
      refine call_step3 31 rfl (by go_simp) (HM1.out _ bq0) ?_
      rintro m1 w2 ⟨om1, y3⟩
      have b4 := below_seq bq0 y3
      refine hK.out _ _ (HS.out _ b4) (fun hHeld => ?_)
      clear hK K
      try simp only [Act.put, List.setIfInBounds_toArray, List.set_cons_zero, List.set_cons_succ]
      refine wpAnyH_ready (rs := [3, 4, 5]) (by kernel_rfl) (by simp) ?_
      refine AllReadyH.cons rfl (fun K hK => ?_) (AllReadyH.cons rfl (fun K hK => ?_) (AllReadyH.cons rfl (fun K hK => ?_) AllReadyH.nil))
      · skip
        rw [if_pos (by kernel_rfl)]
        refine call_step3 33 rfl (by go_simp) (HM2.out _ b4) ?_
        rintro m5 w6 ⟨om5, y7⟩
        have b8 := below_seq b4 y7
        have o9 := MdA.On.later om1 y7
        refine hK.out _ _ (HS.out _ b8) (fun hHeld => ?_)
        clear hK K
        try simp only [Act.put, List.setIfInBounds_toArray, List.set_cons_zero, List.set_cons_succ]
        refine wpAnyH_ready (rs := [4, 5]) (by kernel_rfl) (by simp) ?_
        refine AllReadyH.cons rfl (fun K hK => ?_) (AllReadyH.cons rfl (fun K hK => ?_) AllReadyH.nil)
        · skip
          rw [if_pos (by kernel_rfl)]
          have b10 := bal2 b8 (.cells #[.int .i64 0, .slice none 0 0] 24)
          have y11 := (Below.refl w6.heap.size w6).alloc (Nat.le_refl _) (.cells #[.int .i64 0, .slice none 0 0] 24)
          have h12 := Bb2.new w6 0 (.slice none 0 0)
          have r13 := Below.size b8
          have o14 := MdA.On.later o9 y11
          have o15 := MdA.On.later om5 y11
          refine val_step2 (v := .pointer (some ⟨w6.heap.size, 0, none⟩)) (w2 := (w6.alloc (.cells #[.int .i64 0, .slice none 0 0] 24))) 7 rfl ?_ ?_
          · go_simp
          refine hK.out _ _ (HS.out _ b10) (fun hHeld => ?_)
          clear hK K
          try simp only [Act.put, List.setIfInBounds_toArray, List.set_cons_zero, List.set_cons_succ]
          generalize (w6.alloc (.cells #[.int .i64 0, .slice none 0 0] 24)) = V16 at *
          generalize w6.heap.size = k17 at *
          refine wpAnyH_ready (rs := [5]) (by kernel_rfl) (by simp) ?_
          refine AllReadyH.cons rfl (fun K hK => ?_) AllReadyH.nil
          rw [if_pos (by kernel_rfl)]
          have b18 := bal2 b10 (.cells #[.int .i64 0, .slice none 0 0] 24)
          have y19 := (Below.refl V16.heap.size V16).alloc (Nat.le_refl _) (.cells #[.int .i64 0, .slice none 0 0] 24)
          have h20 := Bb2.later h12 y19
          have ne21 : k17 ≠ V16.heap.size := Nat.ne_of_lt (Bb2.lt2 h12)
          have h22 := Bb2.new V16 0 (.slice none 0 0)
          have r23 := Below.size b10
          have o24 := MdA.On.later o14 y19
          have o25 := MdA.On.later o15 y19
          refine val_step2 (v := .pointer (some ⟨V16.heap.size, 0, none⟩)) (w2 := (V16.alloc (.cells #[.int .i64 0, .slice none 0 0] 24))) 8 rfl ?_ ?_
          · go_simp
          refine hK.out _ _ (HS.out _ b18) (fun hHeld => ?_)
          clear hK K
          try simp only [Act.put, List.setIfInBounds_toArray, List.set_cons_zero, List.set_cons_succ]
          generalize (V16.alloc (.cells #[.int .i64 0, .slice none 0 0] 24)) = V26 at *
          generalize V16.heap.size = k27 at *
          have tw : Two0 W2 V26 k17 k27 := ⟨h20, h22, ne21, r13, r23, b18⟩
          obtain ⟨e70, e71⟩ := tw.h7.cells
          have f70 := tw.h7.fz 0
          have f71 := tw.h7.fz 1
          obtain ⟨k8, kb⟩ := tw.put1 (.int .i64 m1.n) (.slice m1.va m1.L.length m1.vc)
          obtain ⟨qb, p7, p8⟩ := tw.put2 o24 o25
          refine wpAnyH_ready (rs := [6]) (by kernel_rfl) (by simp) ?_
          refine AllReadyH.cons rfl (fun K hK => ?_) AllReadyH.nil
          rw [if_pos (by kernel_rfl)]
          go_simp
          refine hK.out _ _ (HS.out _ kb) (fun hHeld => ?_)
          clear hK K
          try simp only [Act.put, List.setIfInBounds_toArray, List.set_cons_zero, List.set_cons_succ]
          obtain ⟨e80, e81⟩ := k8.cells
          have f80 := k8.fz 0
          have f81 := k8.fz 1
          clear e70 e71 f70 f71
          refine wpAnyH_ready (rs := [7]) (by kernel_rfl) (by simp) ?_
          refine AllReadyH.cons rfl (fun K hK => ?_) AllReadyH.nil
          rw [if_pos (by kernel_rfl)]
          go_simp
          refine hK.out _ _ (HS.out _ qb) (fun hHeld => ?_)
          clear hK K
          try simp only [Act.put, List.setIfInBounds_toArray, List.set_cons_zero, List.set_cons_succ]
          refine wpAnyH_done (by kernel_rfl) ?_ _
          clear e80 e81 f80 f81 k8 kb tw hHeld
          go_wp2_with fail
          go_meet
          exact ⟨_, _, m1, m5, rfl, rfl, ⟨qb, p7, p8⟩⟩
        · skip
          rw [if_pos (by kernel_rfl)]
          have b28 := bal2 b8 (.cells #[.int .i64 0, .slice none 0 0] 24)
          have y29 := (Below.refl w6.heap.size w6).alloc (Nat.le_refl _) (.cells #[.int .i64 0, .slice none 0 0] 24)
          have h30 := Bb2.new w6 0 (.slice none 0 0)
          have r31 := Below.size b8
          have o32 := MdA.On.later o9 y29
          have o33 := MdA.On.later om5 y29
          refine val_step2 (v := .pointer (some ⟨w6.heap.size, 0, none⟩)) (w2 := (w6.alloc (.cells #[.int .i64 0, .slice none 0 0] 24))) 8 rfl ?_ ?_
          · go_simp
          refine hK.out _ _ (HS.out _ b28) (fun hHeld => ?_)
          clear hK K
          try simp only [Act.put, List.setIfInBounds_toArray, List.set_cons_zero, List.set_cons_succ]
          generalize (w6.alloc (.cells #[.int .i64 0, .slice none 0 0] 24)) = V34 at *
          generalize w6.heap.size = k35 at *
          refine wpAnyH_ready (rs := [4]) (by kernel_rfl) (by simp) ?_
          refine AllReadyH.cons rfl (fun K hK => ?_) AllReadyH.nil
          rw [if_pos (by kernel_rfl)]
          have b36 := bal2 b28 (.cells #[.int .i64 0, .slice none 0 0] 24)
          have y37 := (Below.refl V34.heap.size V34).alloc (Nat.le_refl _) (.cells #[.int .i64 0, .slice none 0 0] 24)
          have h38 := Bb2.later h30 y37
          have ne39 : V34.heap.size ≠ k35 := Nat.ne_of_gt (Bb2.lt2 h30)
          have h40 := Bb2.new V34 0 (.slice none 0 0)
          have r41 := Below.size b28
          have o42 := MdA.On.later o32 y37
          have o43 := MdA.On.later o33 y37
          refine val_step2 (v := .pointer (some ⟨V34.heap.size, 0, none⟩)) (w2 := (V34.alloc (.cells #[.int .i64 0, .slice none 0 0] 24))) 7 rfl ?_ ?_
          · go_simp
          refine hK.out _ _ (HS.out _ b36) (fun hHeld => ?_)
          clear hK K
          try simp only [Act.put, List.setIfInBounds_toArray, List.set_cons_zero, List.set_cons_succ]
          generalize (V34.alloc (.cells #[.int .i64 0, .slice none 0 0] 24)) = V44 at *
          generalize V34.heap.size = k45 at *
          have tw : Two0 W2 V44 k45 k35 := ⟨h40, h38, ne39, r41, r31, b36⟩
          obtain ⟨e70, e71⟩ := tw.h7.cells
          have f70 := tw.h7.fz 0
          have f71 := tw.h7.fz 1
          obtain ⟨k8, kb⟩ := tw.put1 (.int .i64 m1.n) (.slice m1.va m1.L.length m1.vc)
          obtain ⟨qb, p7, p8⟩ := tw.put2 o42 o43
          refine wpAnyH_ready (rs := [6]) (by kernel_rfl) (by simp) ?_
          refine AllReadyH.cons rfl (fun K hK => ?_) AllReadyH.nil
          rw [if_pos (by kernel_rfl)]
          go_simp
          refine hK.out _ _ (HS.out _ kb) (fun hHeld => ?_)
          clear hK K
          try simp only [Act.put, List.setIfInBounds_toArray, List.set_cons_zero, List.set_cons_succ]
          obtain ⟨e80, e81⟩ := k8.cells
          have f80 := k8.fz 0
          have f81 := k8.fz 1
          clear e70 e71 f70 f71
          refine wpAnyH_ready (rs := [7]) (by kernel_rfl) (by simp) ?_
          refine AllReadyH.cons rfl (fun K hK => ?_) AllReadyH.nil
          rw [if_pos (by kernel_rfl)]
          go_simp
          refine hK.out _ _ (HS.out _ qb) (fun hHeld => ?_)
          clear hK K
          try simp only [Act.put, List.setIfInBounds_toArray, List.set_cons_zero, List.set_cons_succ]
          refine wpAnyH_done (by kernel_rfl) ?_ _
          clear e80 e81 f80 f81 k8 kb tw hHeld
          go_wp2_with fail
          go_meet
          exact ⟨_, _, m1, m5, rfl, rfl, ⟨qb, p7, p8⟩⟩
      · skip
        rw [if_pos (by kernel_rfl)]
        have b46 := bal2 b4 (.cells #[.int .i64 0, .slice none 0 0] 24)
        have y47 := (Below.refl w2.heap.size w2).alloc (Nat.le_refl _) (.cells #[.int .i64 0, .slice none 0 0] 24)
        have h48 := Bb2.new w2 0 (.slice none 0 0)
        have r49 := Below.size b4
        have o50 := MdA.On.later om1 y47
        refine val_step2 (v := .pointer (some ⟨w2.heap.size, 0, none⟩)) (w2 := (w2.alloc (.cells #[.int .i64 0, .slice none 0 0] 24))) 7 rfl ?_ ?_
        · go_simp
        refine hK.out _ _ (HS.out _ b46) (fun hHeld => ?_)
        clear hK K
        try simp only [Act.put, List.setIfInBounds_toArray, List.set_cons_zero, List.set_cons_succ]
        generalize (w2.alloc (.cells #[.int .i64 0, .slice none 0 0] 24)) = V51 at *
        generalize w2.heap.size = k52 at *
        refine wpAnyH_ready (rs := [3, 5]) (by kernel_rfl) (by simp) ?_
        refine AllReadyH.cons rfl (fun K hK => ?_) (AllReadyH.cons rfl (fun K hK => ?_) AllReadyH.nil)
        · skip
          rw [if_pos (by kernel_rfl)]
          refine call_step3 33 rfl (by go_simp) (HM2.out _ b46) ?_
          rintro m53 w54 ⟨om53, y55⟩
          have b56 := below_seq b46 y55
          have h57 := Bb2.later h48 y55
          have o58 := MdA.On.later o50 y55
          refine hK.out _ _ (HS.out _ b56) (fun hHeld => ?_)
          clear hK K
          try simp only [Act.put, List.setIfInBounds_toArray, List.set_cons_zero, List.set_cons_succ]
          refine wpAnyH_ready (rs := [5]) (by kernel_rfl) (by simp) ?_
          refine AllReadyH.cons rfl (fun K hK => ?_) AllReadyH.nil
          rw [if_pos (by kernel_rfl)]
          have b59 := bal2 b56 (.cells #[.int .i64 0, .slice none 0 0] 24)
          have y60 := (Below.refl w54.heap.size w54).alloc (Nat.le_refl _) (.cells #[.int .i64 0, .slice none 0 0] 24)
          have h61 := Bb2.later h57 y60
          have ne62 : k52 ≠ w54.heap.size := Nat.ne_of_lt (Bb2.lt2 h57)
          have h63 := Bb2.new w54 0 (.slice none 0 0)
          have r64 := Below.size b56
          have o65 := MdA.On.later o58 y60
          have o66 := MdA.On.later om53 y60
          refine val_step2 (v := .pointer (some ⟨w54.heap.size, 0, none⟩)) (w2 := (w54.alloc (.cells #[.int .i64 0, .slice none 0 0] 24))) 8 rfl ?_ ?_
          · go_simp
          refine hK.out _ _ (HS.out _ b59) (fun hHeld => ?_)
          clear hK K
          try simp only [Act.put, List.setIfInBounds_toArray, List.set_cons_zero, List.set_cons_succ]
          generalize (w54.alloc (.cells #[.int .i64 0, .slice none 0 0] 24)) = V67 at *
          generalize w54.heap.size = k68 at *
          have tw : Two0 W2 V67 k52 k68 := ⟨h61, h63, ne62, r49, r64, b59⟩
          obtain ⟨e70, e71⟩ := tw.h7.cells
          have f70 := tw.h7.fz 0
          have f71 := tw.h7.fz 1
          obtain ⟨k8, kb⟩ := tw.put1 (.int .i64 m1.n) (.slice m1.va m1.L.length m1.vc)
          obtain ⟨qb, p7, p8⟩ := tw.put2 o65 o66
          refine wpAnyH_ready (rs := [6]) (by kernel_rfl) (by simp) ?_
          refine AllReadyH.cons rfl (fun K hK => ?_) AllReadyH.nil
          rw [if_pos (by kernel_rfl)]
          go_simp
          refine hK.out _ _ (HS.out _ kb) (fun hHeld => ?_)
          clear hK K
          try simp only [Act.put, List.setIfInBounds_toArray, List.set_cons_zero, List.set_cons_succ]
          obtain ⟨e80, e81⟩ := k8.cells
          have f80 := k8.fz 0
          have f81 := k8.fz 1
          clear e70 e71 f70 f71
          refine wpAnyH_ready (rs := [7]) (by kernel_rfl) (by simp) ?_
          refine AllReadyH.cons rfl (fun K hK => ?_) AllReadyH.nil
          rw [if_pos (by kernel_rfl)]
          go_simp
          refine hK.out _ _ (HS.out _ qb) (fun hHeld => ?_)
          clear hK K
          try simp only [Act.put, List.setIfInBounds_toArray, List.set_cons_zero, List.set_cons_succ]
          refine wpAnyH_done (by kernel_rfl) ?_ _
          clear e80 e81 f80 f81 k8 kb tw hHeld
          go_wp2_with fail
          go_meet
          exact ⟨_, _, m1, m53, rfl, rfl, ⟨qb, p7, p8⟩⟩
        · skip
          rw [if_pos (by kernel_rfl)]
          have b69 := bal2 b46 (.cells #[.int .i64 0, .slice none 0 0] 24)
          have y70 := (Below.refl V51.heap.size V51).alloc (Nat.le_refl _) (.cells #[.int .i64 0, .slice none 0 0] 24)
          have h71 := Bb2.later h48 y70
          have ne72 : k52 ≠ V51.heap.size := Nat.ne_of_lt (Bb2.lt2 h48)
          have h73 := Bb2.new V51 0 (.slice none 0 0)
          have r74 := Below.size b46
          have o75 := MdA.On.later o50 y70
          refine val_step2 (v := .pointer (some ⟨V51.heap.size, 0, none⟩)) (w2 := (V51.alloc (.cells #[.int .i64 0, .slice none 0 0] 24))) 8 rfl ?_ ?_
          · go_simp
          refine hK.out _ _ (HS.out _ b69) (fun hHeld => ?_)
          clear hK K
          try simp only [Act.put, List.setIfInBounds_toArray, List.set_cons_zero, List.set_cons_succ]
          generalize (V51.alloc (.cells #[.int .i64 0, .slice none 0 0] 24)) = V76 at *
          generalize V51.heap.size = k77 at *
          refine wpAnyH_ready (rs := [3]) (by kernel_rfl) (by simp) ?_
          refine AllReadyH.cons rfl (fun K hK => ?_) AllReadyH.nil
          rw [if_pos (by kernel_rfl)]
          refine call_step3 33 rfl (by go_simp) (HM2.out _ b69) ?_
          rintro m78 w79 ⟨om78, y80⟩
          have b81 := below_seq b69 y80
          have h82 := Bb2.later h71 y80
          have h83 := Bb2.later h73 y80
          have o84 := MdA.On.later o75 y80
          refine hK.out _ _ (HS.out _ b81) (fun hHeld => ?_)
          clear hK K
          try simp only [Act.put, List.setIfInBounds_toArray, List.set_cons_zero, List.set_cons_succ]
          have tw : Two0 W2 w79 k52 k77 := ⟨h82, h83, ne72, r49, r74, b81⟩
          obtain ⟨e70, e71⟩ := tw.h7.cells
          have f70 := tw.h7.fz 0
          have f71 := tw.h7.fz 1
          obtain ⟨k8, kb⟩ := tw.put1 (.int .i64 m1.n) (.slice m1.va m1.L.length m1.vc)
          obtain ⟨qb, p7, p8⟩ := tw.put2 o84 om78
          refine wpAnyH_ready (rs := [6]) (by kernel_rfl) (by simp) ?_
          refine AllReadyH.cons rfl (fun K hK => ?_) AllReadyH.nil
          rw [if_pos (by kernel_rfl)]
          go_simp
          refine hK.out _ _ (HS.out _ kb) (fun hHeld => ?_)
          clear hK K
          try simp only [Act.put, List.setIfInBounds_toArray, List.set_cons_zero, List.set_cons_succ]
          obtain ⟨e80, e81⟩ := k8.cells
          have f80 := k8.fz 0
          have f81 := k8.fz 1
          clear e70 e71 f70 f71
          refine wpAnyH_ready (rs := [7]) (by kernel_rfl) (by simp) ?_
          refine AllReadyH.cons rfl (fun K hK => ?_) AllReadyH.nil
          rw [if_pos (by kernel_rfl)]
          go_simp
          refine hK.out _ _ (HS.out _ qb) (fun hHeld => ?_)
          clear hK K
          try simp only [Act.put, List.setIfInBounds_toArray, List.set_cons_zero, List.set_cons_succ]
          refine wpAnyH_done (by kernel_rfl) ?_ _
          clear e80 e81 f80 f81 k8 kb tw hHeld
          go_wp2_with fail
          go_meet
          exact ⟨_, _, m1, m78, rfl, rfl, ⟨qb, p7, p8⟩⟩
      · skip
        rw [if_pos (by kernel_rfl)]
        have b85 := bal2 b4 (.cells #[.int .i64 0, .slice none 0 0] 24)
        have y86 := (Below.refl w2.heap.size w2).alloc (Nat.le_refl _) (.cells #[.int .i64 0, .slice none 0 0] 24)
        have h87 := Bb2.new w2 0 (.slice none 0 0)
        have r88 := Below.size b4
        have o89 := MdA.On.later om1 y86
        refine val_step2 (v := .pointer (some ⟨w2.heap.size, 0, none⟩)) (w2 := (w2.alloc (.cells #[.int .i64 0, .slice none 0 0] 24))) 8 rfl ?_ ?_
        · go_simp
        refine hK.out _ _ (HS.out _ b85) (fun hHeld => ?_)
        clear hK K
        try simp only [Act.put, List.setIfInBounds_toArray, List.set_cons_zero, List.set_cons_succ]
        generalize (w2.alloc (.cells #[.int .i64 0, .slice none 0 0] 24)) = V90 at *
        generalize w2.heap.size = k91 at *
        refine wpAnyH_ready (rs := [3, 4]) (by kernel_rfl) (by simp) ?_
        refine AllReadyH.cons rfl (fun K hK => ?_) (AllReadyH.cons rfl (fun K hK => ?_) AllReadyH.nil)
        · skip
          rw [if_pos (by kernel_rfl)]
          refine call_step3 33 rfl (by go_simp) (HM2.out _ b85) ?_
          rintro m92 w93 ⟨om92, y94⟩
          have b95 := below_seq b85 y94
          have h96 := Bb2.later h87 y94
          have o97 := MdA.On.later o89 y94
          refine hK.out _ _ (HS.out _ b95) (fun hHeld => ?_)
          clear hK K
          try simp only [Act.put, List.setIfInBounds_toArray, List.set_cons_zero, List.set_cons_succ]
          refine wpAnyH_ready (rs := [4]) (by kernel_rfl) (by simp) ?_
          refine AllReadyH.cons rfl (fun K hK => ?_) AllReadyH.nil
          rw [if_pos (by kernel_rfl)]
          have b98 := bal2 b95 (.cells #[.int .i64 0, .slice none 0 0] 24)
          have y99 := (Below.refl w93.heap.size w93).alloc (Nat.le_refl _) (.cells #[.int .i64 0, .slice none 0 0] 24)
          have h100 := Bb2.later h96 y99
          have ne101 : w93.heap.size ≠ k91 := Nat.ne_of_gt (Bb2.lt2 h96)
          have h102 := Bb2.new w93 0 (.slice none 0 0)
          have r103 := Below.size b95
          have o104 := MdA.On.later o97 y99
          have o105 := MdA.On.later om92 y99
          refine val_step2 (v := .pointer (some ⟨w93.heap.size, 0, none⟩)) (w2 := (w93.alloc (.cells #[.int .i64 0, .slice none 0 0] 24))) 7 rfl ?_ ?_
          · go_simp
          refine hK.out _ _ (HS.out _ b98) (fun hHeld => ?_)
          clear hK K
          try simp only [Act.put, List.setIfInBounds_toArray, List.set_cons_zero, List.set_cons_succ]
          generalize (w93.alloc (.cells #[.int .i64 0, .slice none 0 0] 24)) = V106 at *
          generalize w93.heap.size = k107 at *
          have tw : Two0 W2 V106 k107 k91 := ⟨h102, h100, ne101, r103, r88, b98⟩
          obtain ⟨e70, e71⟩ := tw.h7.cells
          have f70 := tw.h7.fz 0
          have f71 := tw.h7.fz 1
          obtain ⟨k8, kb⟩ := tw.put1 (.int .i64 m1.n) (.slice m1.va m1.L.length m1.vc)
          obtain ⟨qb, p7, p8⟩ := tw.put2 o104 o105
          refine wpAnyH_ready (rs := [6]) (by kernel_rfl) (by simp) ?_
          refine AllReadyH.cons rfl (fun K hK => ?_) AllReadyH.nil
          rw [if_pos (by kernel_rfl)]
          go_simp
          refine hK.out _ _ (HS.out _ kb) (fun hHeld => ?_)
          clear hK K
          try simp only [Act.put, List.setIfInBounds_toArray, List.set_cons_zero, List.set_cons_succ]
          obtain ⟨e80, e81⟩ := k8.cells
          have f80 := k8.fz 0
          have f81 := k8.fz 1
          clear e70 e71 f70 f71
          refine wpAnyH_ready (rs := [7]) (by kernel_rfl) (by simp) ?_
          refine AllReadyH.cons rfl (fun K hK => ?_) AllReadyH.nil
          rw [if_pos (by kernel_rfl)]
          go_simp
          refine hK.out _ _ (HS.out _ qb) (fun hHeld => ?_)
          clear hK K
          try simp only [Act.put, List.setIfInBounds_toArray, List.set_cons_zero, List.set_cons_succ]
          refine wpAnyH_done (by kernel_rfl) ?_ _
          clear e80 e81 f80 f81 k8 kb tw hHeld
          go_wp2_with fail
          go_meet
          exact ⟨_, _, m1, m92, rfl, rfl, ⟨qb, p7, p8⟩⟩
        · skip
          rw [if_pos (by kernel_rfl)]
          have b108 := bal2 b85 (.cells #[.int .i64 0, .slice none 0 0] 24)
          have y109 := (Below.refl V90.heap.size V90).alloc (Nat.le_refl _) (.cells #[.int .i64 0, .slice none 0 0] 24)
          have h110 := Bb2.later h87 y109
          have ne111 : V90.heap.size ≠ k91 := Nat.ne_of_gt (Bb2.lt2 h87)
          have h112 := Bb2.new V90 0 (.slice none 0 0)
          have r113 := Below.size b85
          have o114 := MdA.On.later o89 y109
          refine val_step2 (v := .pointer (some ⟨V90.heap.size, 0, none⟩)) (w2 := (V90.alloc (.cells #[.int .i64 0, .slice none 0 0] 24))) 7 rfl ?_ ?_
          · go_simp
          refine hK.out _ _ (HS.out _ b108) (fun hHeld => ?_)
          clear hK K
          try simp only [Act.put, List.setIfInBounds_toArray, List.set_cons_zero, List.set_cons_succ]
          generalize (V90.alloc (.cells #[.int .i64 0, .slice none 0 0] 24)) = V115 at *
          generalize V90.heap.size = k116 at *
          refine wpAnyH_ready (rs := [3]) (by kernel_rfl) (by simp) ?_
          refine AllReadyH.cons rfl (fun K hK => ?_) AllReadyH.nil
          rw [if_pos (by kernel_rfl)]
          refine call_step3 33 rfl (by go_simp) (HM2.out _ b108) ?_
          rintro m117 w118 ⟨om117, y119⟩
          have b120 := below_seq b108 y119
          have h121 := Bb2.later h110 y119
          have h122 := Bb2.later h112 y119
          have o123 := MdA.On.later o114 y119
          refine hK.out _ _ (HS.out _ b120) (fun hHeld => ?_)
          clear hK K
          try simp only [Act.put, List.setIfInBounds_toArray, List.set_cons_zero, List.set_cons_succ]
          have tw : Two0 W2 w118 k116 k91 := ⟨h122, h121, ne111, r113, r88, b120⟩
          obtain ⟨e70, e71⟩ := tw.h7.cells
          have f70 := tw.h7.fz 0
          have f71 := tw.h7.fz 1
          obtain ⟨k8, kb⟩ := tw.put1 (.int .i64 m1.n) (.slice m1.va m1.L.length m1.vc)
          obtain ⟨qb, p7, p8⟩ := tw.put2 o123 om117
          refine wpAnyH_ready (rs := [6]) (by kernel_rfl) (by simp) ?_
          refine AllReadyH.cons rfl (fun K hK => ?_) AllReadyH.nil
          rw [if_pos (by kernel_rfl)]
          go_simp
          refine hK.out _ _ (HS.out _ kb) (fun hHeld => ?_)
          clear hK K
          try simp only [Act.put, List.setIfInBounds_toArray, List.set_cons_zero, List.set_cons_succ]
          obtain ⟨e80, e81⟩ := k8.cells
          have f80 := k8.fz 0
          have f81 := k8.fz 1
          clear e70 e71 f70 f71
          refine wpAnyH_ready (rs := [7]) (by kernel_rfl) (by simp) ?_
          refine AllReadyH.cons rfl (fun K hK => ?_) AllReadyH.nil
          rw [if_pos (by kernel_rfl)]
          go_simp
          refine hK.out _ _ (HS.out _ qb) (fun hHeld => ?_)
          clear hK K
          try simp only [Act.put, List.setIfInBounds_toArray, List.set_cons_zero, List.set_cons_succ]
          refine wpAnyH_done (by kernel_rfl) ?_ _
          clear e80 e81 f80 f81 k8 kb tw hHeld
          go_wp2_with fail
          go_meet
          exact ⟨_, _, m1, m117, rfl, rfl, ⟨qb, p7, p8⟩⟩
    · skip
      rw [if_pos (by kernel_rfl)]
      have b124 := bal2 bq0 (.cells #[.int .i64 0, .slice none 0 0] 24)
      have y125 := (Below.refl wq.heap.size wq).alloc (Nat.le_refl _) (.cells #[.int .i64 0, .slice none 0 0] 24)
      have h126 := Bb2.new wq 0 (.slice none 0 0)
      have r127 := Below.size bq0
      refine val_step2 (v := .pointer (some ⟨wq.heap.size, 0, none⟩)) (w2 := (wq.alloc (.cells #[.int .i64 0, .slice none 0 0] 24))) 7 rfl ?_ ?_
      · go_simp
      refine hK.out _ _ (HS.out _ b124) (fun hHeld => ?_)
      clear hK K
      try simp only [Act.put, List.setIfInBounds_toArray, List.set_cons_zero, List.set_cons_succ]
      generalize (wq.alloc (.cells #[.int .i64 0, .slice none 0 0] 24)) = V128 at *
      generalize wq.heap.size = k129 at *
      refine wpAnyH_ready (rs := [1, 5]) (by kernel_rfl) (by simp) ?_
      refine AllReadyH.cons rfl (fun K hK => ?_) (AllReadyH.cons rfl (fun K hK => ?_) AllReadyH.nil)
      · skip
        rw [if_pos (by kernel_rfl)]
        refine call_step3 31 rfl (by go_simp) (HM1.out _ b124) ?_
        rintro m130 w131 ⟨om130, y132⟩
        have b133 := below_seq b124 y132
        have h134 := Bb2.later h126 y132
        refine hK.out _ _ (HS.out _ b133) (fun hHeld => ?_)
        clear hK K
        try simp only [Act.put, List.setIfInBounds_toArray, List.set_cons_zero, List.set_cons_succ]
        refine wpAnyH_ready (rs := [3, 5]) (by kernel_rfl) (by simp) ?_
        refine AllReadyH.cons rfl (fun K hK => ?_) (AllReadyH.cons rfl (fun K hK => ?_) AllReadyH.nil)
        · skip
          rw [if_pos (by kernel_rfl)]
          refine call_step3 33 rfl (by go_simp) (HM2.out _ b133) ?_
          rintro m135 w136 ⟨om135, y137⟩
          have b138 := below_seq b133 y137
          have h139 := Bb2.later h134 y137
          have o140 := MdA.On.later om130 y137
          refine hK.out _ _ (HS.out _ b138) (fun hHeld => ?_)
          clear hK K
          try simp only [Act.put, List.setIfInBounds_toArray, List.set_cons_zero, List.set_cons_succ]
          refine wpAnyH_ready (rs := [5]) (by kernel_rfl) (by simp) ?_
          refine AllReadyH.cons rfl (fun K hK => ?_) AllReadyH.nil
          rw [if_pos (by kernel_rfl)]
          have b141 := bal2 b138 (.cells #[.int .i64 0, .slice none 0 0] 24)
          have y142 := (Below.refl w136.heap.size w136).alloc (Nat.le_refl _) (.cells #[.int .i64 0, .slice none 0 0] 24)
          have h143 := Bb2.later h139 y142
          have ne144 : k129 ≠ w136.heap.size := Nat.ne_of_lt (Bb2.lt2 h139)
          have h145 := Bb2.new w136 0 (.slice none 0 0)
          have r146 := Below.size b138
          have o147 := MdA.On.later o140 y142
          have o148 := MdA.On.later om135 y142
          refine val_step2 (v := .pointer (some ⟨w136.heap.size, 0, none⟩)) (w2 := (w136.alloc (.cells #[.int .i64 0, .slice none 0 0] 24))) 8 rfl ?_ ?_
          · go_simp
          refine hK.out _ _ (HS.out _ b141) (fun hHeld => ?_)
          clear hK K
          try simp only [Act.put, List.setIfInBounds_toArray, List.set_cons_zero, List.set_cons_succ]
          generalize (w136.alloc (.cells #[.int .i64 0, .slice none 0 0] 24)) = V149 at *
          generalize w136.heap.size = k150 at *
          have tw : Two0 W2 V149 k129 k150 := ⟨h143, h145, ne144, r127, r146, b141⟩
          obtain ⟨e70, e71⟩ := tw.h7.cells
          have f70 := tw.h7.fz 0
          have f71 := tw.h7.fz 1
          obtain ⟨k8, kb⟩ := tw.put1 (.int .i64 m130.n) (.slice m130.va m130.L.length m130.vc)
          obtain ⟨qb, p7, p8⟩ := tw.put2 o147 o148
          refine wpAnyH_ready (rs := [6]) (by kernel_rfl) (by simp) ?_
          refine AllReadyH.cons rfl (fun K hK => ?_) AllReadyH.nil
          rw [if_pos (by kernel_rfl)]
          go_simp
          refine hK.out _ _ (HS.out _ kb) (fun hHeld => ?_)
          clear hK K
          try simp only [Act.put, List.setIfInBounds_toArray, List.set_cons_zero, List.set_cons_succ]
          obtain ⟨e80, e81⟩ := k8.cells
          have f80 := k8.fz 0
          have f81 := k8.fz 1
          clear e70 e71 f70 f71
          refine wpAnyH_ready (rs := [7]) (by kernel_rfl) (by simp) ?_
          refine AllReadyH.cons rfl (fun K hK => ?_) AllReadyH.nil
          rw [if_pos (by kernel_rfl)]
          go_simp
          refine hK.out _ _ (HS.out _ qb) (fun hHeld => ?_)
          clear hK K
          try simp only [Act.put, List.setIfInBounds_toArray, List.set_cons_zero, List.set_cons_succ]
          refine wpAnyH_done (by kernel_rfl) ?_ _
          clear e80 e81 f80 f81 k8 kb tw hHeld
          go_wp2_with fail
          go_meet
          exact ⟨_, _, m130, m135, rfl, rfl, ⟨qb, p7, p8⟩⟩
        · skip
          rw [if_pos (by kernel_rfl)]
          have b151 := bal2 b133 (.cells #[.int .i64 0, .slice none 0 0] 24)
          have y152 := (Below.refl w131.heap.size w131).alloc (Nat.le_refl _) (.cells #[.int .i64 0, .slice none 0 0] 24)
          have h153 := Bb2.later h134 y152
          have ne154 : k129 ≠ w131.heap.size := Nat.ne_of_lt (Bb2.lt2 h134)
          have h155 := Bb2.new w131 0 (.slice none 0 0)
          have r156 := Below.size b133
          have o157 := MdA.On.later om130 y152
          refine val_step2 (v := .pointer (some ⟨w131.heap.size, 0, none⟩)) (w2 := (w131.alloc (.cells #[.int .i64 0, .slice none 0 0] 24))) 8 rfl ?_ ?_
          · go_simp
          refine hK.out _ _ (HS.out _ b151) (fun hHeld => ?_)
          clear hK K
          try simp only [Act.put, List.setIfInBounds_toArray, List.set_cons_zero, List.set_cons_succ]
          generalize (w131.alloc (.cells #[.int .i64 0, .slice none 0 0] 24)) = V158 at *
          generalize w131.heap.size = k159 at *
          refine wpAnyH_ready (rs := [3]) (by kernel_rfl) (by simp) ?_
          refine AllReadyH.cons rfl (fun K hK => ?_) AllReadyH.nil
          rw [if_pos (by kernel_rfl)]
          refine call_step3 33 rfl (by go_simp) (HM2.out _ b151) ?_
          rintro m160 w161 ⟨om160, y162⟩
          have b163 := below_seq b151 y162
          have h164 := Bb2.later h153 y162
          have h165 := Bb2.later h155 y162
          have o166 := MdA.On.later o157 y162
          refine hK.out _ _ (HS.out _ b163) (fun hHeld => ?_)
          clear hK K
          try simp only [Act.put, List.setIfInBounds_toArray, List.set_cons_zero, List.set_cons_succ]
          have tw : Two0 W2 w161 k129 k159 := ⟨h164, h165, ne154, r127, r156, b163⟩
          obtain ⟨e70, e71⟩ := tw.h7.cells
          have f70 := tw.h7.fz 0
          have f71 := tw.h7.fz 1
          obtain ⟨k8, kb⟩ := tw.put1 (.int .i64 m130.n) (.slice m130.va m130.L.length m130.vc)
          obtain ⟨qb, p7, p8⟩ := tw.put2 o166 om160
          refine wpAnyH_ready (rs := [6]) (by kernel_rfl) (by simp) ?_
          refine AllReadyH.cons rfl (fun K hK => ?_) AllReadyH.nil
          rw [if_pos (by kernel_rfl)]
          go_simp
          refine hK.out _ _ (HS.out _ kb) (fun hHeld => ?_)
          clear hK K
          try simp only [Act.put, List.setIfInBounds_toArray, List.set_cons_zero, List.set_cons_succ]
          obtain ⟨e80, e81⟩ := k8.cells
          have f80 := k8.fz 0
          have f81 := k8.fz 1
          clear e70 e71 f70 f71
          refine wpAnyH_ready (rs := [7]) (by kernel_rfl) (by simp) ?_
          refine AllReadyH.cons rfl (fun K hK => ?_) AllReadyH.nil
          rw [if_pos (by kernel_rfl)]
          go_simp
          refine hK.out _ _ (HS.out _ qb) (fun hHeld => ?_)
          clear hK K
          try simp only [Act.put, List.setIfInBounds_toArray, List.set_cons_zero, List.set_cons_succ]
          refine wpAnyH_done (by kernel_rfl) ?_ _
          clear e80 e81 f80 f81 k8 kb tw hHeld
          go_wp2_with fail
          go_meet
          exact ⟨_, _, m130, m160, rfl, rfl, ⟨qb, p7, p8⟩⟩
      · skip
        rw [if_pos (by kernel_rfl)]
        have b167 := bal2 b124 (.cells #[.int .i64 0, .slice none 0 0] 24)
        have y168 := (Below.refl V128.heap.size V128).alloc (Nat.le_refl _) (.cells #[.int .i64 0, .slice none 0 0] 24)
        have h169 := Bb2.later h126 y168
        have ne170 : k129 ≠ V128.heap.size := Nat.ne_of_lt (Bb2.lt2 h126)
        have h171 := Bb2.new V128 0 (.slice none 0 0)
        have r172 := Below.size b124
        refine val_step2 (v := .pointer (some ⟨V128.heap.size, 0, none⟩)) (w2 := (V128.alloc (.cells #[.int .i64 0, .slice none 0 0] 24))) 8 rfl ?_ ?_
        · go_simp
        refine hK.out _ _ (HS.out _ b167) (fun hHeld => ?_)
        clear hK K
        try simp only [Act.put, List.setIfInBounds_toArray, List.set_cons_zero, List.set_cons_succ]
        generalize (V128.alloc (.cells #[.int .i64 0, .slice none 0 0] 24)) = V173 at *
        generalize V128.heap.size = k174 at *
        refine wpAnyH_ready (rs := [1]) (by kernel_rfl) (by simp) ?_
        refine AllReadyH.cons rfl (fun K hK => ?_) AllReadyH.nil
        rw [if_pos (by kernel_rfl)]
        refine call_step3 31 rfl (by go_simp) (HM1.out _ b167) ?_
        rintro m175 w176 ⟨om175, y177⟩
        have b178 := below_seq b167 y177
        have h179 := Bb2.later h169 y177
        have h180 := Bb2.later h171 y177
        refine hK.out _ _ (HS.out _ b178) (fun hHeld => ?_)
        clear hK K
        try simp only [Act.put, List.setIfInBounds_toArray, List.set_cons_zero, List.set_cons_succ]
        refine wpAnyH_ready (rs := [3]) (by kernel_rfl) (by simp) ?_
        refine AllReadyH.cons rfl (fun K hK => ?_) AllReadyH.nil
        rw [if_pos (by kernel_rfl)]
        refine call_step3 33 rfl (by go_simp) (HM2.out _ b178) ?_
        rintro m181 w182 ⟨om181, y183⟩
        have b184 := below_seq b178 y183
        have h185 := Bb2.later h179 y183
        have h186 := Bb2.later h180 y183
        have o187 := MdA.On.later om175 y183
        refine hK.out _ _ (HS.out _ b184) (fun hHeld => ?_)
        clear hK K
        try simp only [Act.put, List.setIfInBounds_toArray, List.set_cons_zero, List.set_cons_succ]
        have tw : Two0 W2 w182 k129 k174 := ⟨h185, h186, ne170, r127, r172, b184⟩
        obtain ⟨e70, e71⟩ := tw.h7.cells
        have f70 := tw.h7.fz 0
        have f71 := tw.h7.fz 1
        obtain ⟨k8, kb⟩ := tw.put1 (.int .i64 m175.n) (.slice m175.va m175.L.length m175.vc)
        obtain ⟨qb, p7, p8⟩ := tw.put2 o187 om181
        refine wpAnyH_ready (rs := [6]) (by kernel_rfl) (by simp) ?_
        refine AllReadyH.cons rfl (fun K hK => ?_) AllReadyH.nil
        rw [if_pos (by kernel_rfl)]
        go_simp
        refine hK.out _ _ (HS.out _ kb) (fun hHeld => ?_)
        clear hK K
        try simp only [Act.put, List.setIfInBounds_toArray, List.set_cons_zero, List.set_cons_succ]
        obtain ⟨e80, e81⟩ := k8.cells
        have f80 := k8.fz 0
        have f81 := k8.fz 1
        clear e70 e71 f70 f71
        refine wpAnyH_ready (rs := [7]) (by kernel_rfl) (by simp) ?_
        refine AllReadyH.cons rfl (fun K hK => ?_) AllReadyH.nil
        rw [if_pos (by kernel_rfl)]
        go_simp
        refine hK.out _ _ (HS.out _ qb) (fun hHeld => ?_)
        clear hK K
        try simp only [Act.put, List.setIfInBounds_toArray, List.set_cons_zero, List.set_cons_succ]
        refine wpAnyH_done (by kernel_rfl) ?_ _
        clear e80 e81 f80 f81 k8 kb tw hHeld
        go_wp2_with fail
        go_meet
        exact ⟨_, _, m175, m181, rfl, rfl, ⟨qb, p7, p8⟩⟩
    · skip
      rw [if_pos (by kernel_rfl)]
      have b188 := bal2 bq0 (.cells #[.int .i64 0, .slice none 0 0] 24)
      have y189 := (Below.refl wq.heap.size wq).alloc (Nat.le_refl _) (.cells #[.int .i64 0, .slice none 0 0] 24)
      have h190 := Bb2.new wq 0 (.slice none 0 0)
      have r191 := Below.size bq0
      refine val_step2 (v := .pointer (some ⟨wq.heap.size, 0, none⟩)) (w2 := (wq.alloc (.cells #[.int .i64 0, .slice none 0 0] 24))) 8 rfl ?_ ?_
      · go_simp
      refine hK.out _ _ (HS.out _ b188) (fun hHeld => ?_)
      clear hK K
      try simp only [Act.put, List.setIfInBounds_toArray, List.set_cons_zero, List.set_cons_succ]
      generalize (wq.alloc (.cells #[.int .i64 0, .slice none 0 0] 24)) = V192 at *
      generalize wq.heap.size = k193 at *
      refine wpAnyH_ready (rs := [1, 4]) (by kernel_rfl) (by simp) ?_
      refine AllReadyH.cons rfl (fun K hK => ?_) (AllReadyH.cons rfl (fun K hK => ?_) AllReadyH.nil)
      · skip
        rw [if_pos (by kernel_rfl)]
        refine call_step3 31 rfl (by go_simp) (HM1.out _ b188) ?_
        rintro m194 w195 ⟨om194, y196⟩
        have b197 := below_seq b188 y196
        have h198 := Bb2.later h190 y196
        refine hK.out _ _ (HS.out _ b197) (fun hHeld => ?_)
        clear hK K
        try simp only [Act.put, List.setIfInBounds_toArray, List.set_cons_zero, List.set_cons_succ]
        refine wpAnyH_ready (rs := [3, 4]) (by kernel_rfl) (by simp) ?_
        refine AllReadyH.cons rfl (fun K hK => ?_) (AllReadyH.cons rfl (fun K hK => ?_) AllReadyH.nil)
        · skip
          rw [if_pos (by kernel_rfl)]
          refine call_step3 33 rfl (by go_simp) (HM2.out _ b197) ?_
          rintro m199 w200 ⟨om199, y201⟩
          have b202 := below_seq b197 y201
          have h203 := Bb2.later h198 y201
          have o204 := MdA.On.later om194 y201
          refine hK.out _ _ (HS.out _ b202) (fun hHeld => ?_)
          clear hK K
          try simp only [Act.put, List.setIfInBounds_toArray, List.set_cons_zero, List.set_cons_succ]
          refine wpAnyH_ready (rs := [4]) (by kernel_rfl) (by simp) ?_
          refine AllReadyH.cons rfl (fun K hK => ?_) AllReadyH.nil
          rw [if_pos (by kernel_rfl)]
          have b205 := bal2 b202 (.cells #[.int .i64 0, .slice none 0 0] 24)
          have y206 := (Below.refl w200.heap.size w200).alloc (Nat.le_refl _) (.cells #[.int .i64 0, .slice none 0 0] 24)
          have h207 := Bb2.later h203 y206
          have ne208 : w200.heap.size ≠ k193 := Nat.ne_of_gt (Bb2.lt2 h203)
          have h209 := Bb2.new w200 0 (.slice none 0 0)
          have r210 := Below.size b202
          have o211 := MdA.On.later o204 y206
          have o212 := MdA.On.later om199 y206
          refine val_step2 (v := .pointer (some ⟨w200.heap.size, 0, none⟩)) (w2 := (w200.alloc (.cells #[.int .i64 0, .slice none 0 0] 24))) 7 rfl ?_ ?_
          · go_simp
          refine hK.out _ _ (HS.out _ b205) (fun hHeld => ?_)
          clear hK K
          try simp only [Act.put, List.setIfInBounds_toArray, List.set_cons_zero, List.set_cons_succ]
          generalize (w200.alloc (.cells #[.int .i64 0, .slice none 0 0] 24)) = V213 at *
          generalize w200.heap.size = k214 at *
          have tw : Two0 W2 V213 k214 k193 := ⟨h209, h207, ne208, r210, r191, b205⟩
          obtain ⟨e70, e71⟩ := tw.h7.cells
          have f70 := tw.h7.fz 0
          have f71 := tw.h7.fz 1
          obtain ⟨k8, kb⟩ := tw.put1 (.int .i64 m194.n) (.slice m194.va m194.L.length m194.vc)
          obtain ⟨qb, p7, p8⟩ := tw.put2 o211 o212
          refine wpAnyH_ready (rs := [6]) (by kernel_rfl) (by simp) ?_
          refine AllReadyH.cons rfl (fun K hK => ?_) AllReadyH.nil
          rw [if_pos (by kernel_rfl)]
          go_simp
          refine hK.out _ _ (HS.out _ kb) (fun hHeld => ?_)
          clear hK K
          try simp only [Act.put, List.setIfInBounds_toArray, List.set_cons_zero, List.set_cons_succ]
          obtain ⟨e80, e81⟩ := k8.cells
          have f80 := k8.fz 0
          have f81 := k8.fz 1
          clear e70 e71 f70 f71
          refine wpAnyH_ready (rs := [7]) (by kernel_rfl) (by simp) ?_
          refine AllReadyH.cons rfl (fun K hK => ?_) AllReadyH.nil
          rw [if_pos (by kernel_rfl)]
          go_simp
          refine hK.out _ _ (HS.out _ qb) (fun hHeld => ?_)
          clear hK K
          try simp only [Act.put, List.setIfInBounds_toArray, List.set_cons_zero, List.set_cons_succ]
          refine wpAnyH_done (by kernel_rfl) ?_ _
          clear e80 e81 f80 f81 k8 kb tw hHeld
          go_wp2_with fail
          go_meet
          exact ⟨_, _, m194, m199, rfl, rfl, ⟨qb, p7, p8⟩⟩
        · skip
          rw [if_pos (by kernel_rfl)]
          have b215 := bal2 b197 (.cells #[.int .i64 0, .slice none 0 0] 24)
          have y216 := (Below.refl w195.heap.size w195).alloc (Nat.le_refl _) (.cells #[.int .i64 0, .slice none 0 0] 24)
          have h217 := Bb2.later h198 y216
          have ne218 : w195.heap.size ≠ k193 := Nat.ne_of_gt (Bb2.lt2 h198)
          have h219 := Bb2.new w195 0 (.slice none 0 0)
          have r220 := Below.size b197
          have o221 := MdA.On.later om194 y216
          refine val_step2 (v := .pointer (some ⟨w195.heap.size, 0, none⟩)) (w2 := (w195.alloc (.cells #[.int .i64 0, .slice none 0 0] 24))) 7 rfl ?_ ?_
          · go_simp
          refine hK.out _ _ (HS.out _ b215) (fun hHeld => ?_)
          clear hK K
          try simp only [Act.put, List.setIfInBounds_toArray, List.set_cons_zero, List.set_cons_succ]
          generalize (w195.alloc (.cells #[.int .i64 0, .slice none 0 0] 24)) = V222 at *
          generalize w195.heap.size = k223 at *
          refine wpAnyH_ready (rs := [3]) (by kernel_rfl) (by simp) ?_
          refine AllReadyH.cons rfl (fun K hK => ?_) AllReadyH.nil
          rw [if_pos (by kernel_rfl)]
          refine call_step3 33 rfl (by go_simp) (HM2.out _ b215) ?_
          rintro m224 w225 ⟨om224, y226⟩
          have b227 := below_seq b215 y226
          have h228 := Bb2.later h217 y226
          have h229 := Bb2.later h219 y226
          have o230 := MdA.On.later o221 y226
          refine hK.out _ _ (HS.out _ b227) (fun hHeld => ?_)
          clear hK K
          try simp only [Act.put, List.setIfInBounds_toArray, List.set_cons_zero, List.set_cons_succ]
          have tw : Two0 W2 w225 k223 k193 := ⟨h229, h228, ne218, r220, r191, b227⟩
          obtain ⟨e70, e71⟩ := tw.h7.cells
          have f70 := tw.h7.fz 0
          have f71 := tw.h7.fz 1
          obtain ⟨k8, kb⟩ := tw.put1 (.int .i64 m194.n) (.slice m194.va m194.L.length m194.vc)
          obtain ⟨qb, p7, p8⟩ := tw.put2 o230 om224
          refine wpAnyH_ready (rs := [6]) (by kernel_rfl) (by simp) ?_
          refine AllReadyH.cons rfl (fun K hK => ?_) AllReadyH.nil
          rw [if_pos (by kernel_rfl)]
          go_simp
          refine hK.out _ _ (HS.out _ kb) (fun hHeld => ?_)
          clear hK K
          try simp only [Act.put, List.setIfInBounds_toArray, List.set_cons_zero, List.set_cons_succ]
          obtain ⟨e80, e81⟩ := k8.cells
          have f80 := k8.fz 0
          have f81 := k8.fz 1
          clear e70 e71 f70 f71
          refine wpAnyH_ready (rs := [7]) (by kernel_rfl) (by simp) ?_
          refine AllReadyH.cons rfl (fun K hK => ?_) AllReadyH.nil
          rw [if_pos (by kernel_rfl)]
          go_simp
          refine hK.out _ _ (HS.out _ qb) (fun hHeld => ?_)
          clear hK K
          try simp only [Act.put, List.setIfInBounds_toArray, List.set_cons_zero, List.set_cons_succ]
          refine wpAnyH_done (by kernel_rfl) ?_ _
          clear e80 e81 f80 f81 k8 kb tw hHeld
          go_wp2_with fail
          go_meet
          exact ⟨_, _, m194, m224, rfl, rfl, ⟨qb, p7, p8⟩⟩
      · skip
        rw [if_pos (by kernel_rfl)]
        have b231 := bal2 b188 (.cells #[.int .i64 0, .slice none 0 0] 24)
        have y232 := (Below.refl V192.heap.size V192).alloc (Nat.le_refl _) (.cells #[.int .i64 0, .slice none 0 0] 24)
        have h233 := Bb2.later h190 y232
        have ne234 : V192.heap.size ≠ k193 := Nat.ne_of_gt (Bb2.lt2 h190)
        have h235 := Bb2.new V192 0 (.slice none 0 0)
        have r236 := Below.size b188
        refine val_step2 (v := .pointer (some ⟨V192.heap.size, 0, none⟩)) (w2 := (V192.alloc (.cells #[.int .i64 0, .slice none 0 0] 24))) 7 rfl ?_ ?_
        · go_simp
        refine hK.out _ _ (HS.out _ b231) (fun hHeld => ?_)
        clear hK K
        try simp only [Act.put, List.setIfInBounds_toArray, List.set_cons_zero, List.set_cons_succ]
        generalize (V192.alloc (.cells #[.int .i64 0, .slice none 0 0] 24)) = V237 at *
        generalize V192.heap.size = k238 at *
        refine wpAnyH_ready (rs := [1]) (by kernel_rfl) (by simp) ?_
        refine AllReadyH.cons rfl (fun K hK => ?_) AllReadyH.nil
        rw [if_pos (by kernel_rfl)]
        refine call_step3 31 rfl (by go_simp) (HM1.out _ b231) ?_
        rintro m239 w240 ⟨om239, y241⟩
        have b242 := below_seq b231 y241
        have h243 := Bb2.later h233 y241
        have h244 := Bb2.later h235 y241
        refine hK.out _ _ (HS.out _ b242) (fun hHeld => ?_)
        clear hK K
        try simp only [Act.put, List.setIfInBounds_toArray, List.set_cons_zero, List.set_cons_succ]
        refine wpAnyH_ready (rs := [3]) (by kernel_rfl) (by simp) ?_
        refine AllReadyH.cons rfl (fun K hK => ?_) AllReadyH.nil
        rw [if_pos (by kernel_rfl)]
        refine call_step3 33 rfl (by go_simp) (HM2.out _ b242) ?_
        rintro m245 w246 ⟨om245, y247⟩
        have b248 := below_seq b242 y247
        have h249 := Bb2.later h243 y247
        have h250 := Bb2.later h244 y247
        have o251 := MdA.On.later om239 y247
        refine hK.out _ _ (HS.out _ b248) (fun hHeld => ?_)
        clear hK K
        try simp only [Act.put, List.setIfInBounds_toArray, List.set_cons_zero, List.set_cons_succ]
        have tw : Two0 W2 w246 k238 k193 := ⟨h250, h249, ne234, r236, r191, b248⟩
        obtain ⟨e70, e71⟩ := tw.h7.cells
        have f70 := tw.h7.fz 0
        have f71 := tw.h7.fz 1
        obtain ⟨k8, kb⟩ := tw.put1 (.int .i64 m239.n) (.slice m239.va m239.L.length m239.vc)
        obtain ⟨qb, p7, p8⟩ := tw.put2 o251 om245
        refine wpAnyH_ready (rs := [6]) (by kernel_rfl) (by simp) ?_
        refine AllReadyH.cons rfl (fun K hK => ?_) AllReadyH.nil
        rw [if_pos (by kernel_rfl)]
        go_simp
        refine hK.out _ _ (HS.out _ kb) (fun hHeld => ?_)
        clear hK K
        try simp only [Act.put, List.setIfInBounds_toArray, List.set_cons_zero, List.set_cons_succ]
        obtain ⟨e80, e81⟩ := k8.cells
        have f80 := k8.fz 0
        have f81 := k8.fz 1
        clear e70 e71 f70 f71
        refine wpAnyH_ready (rs := [7]) (by kernel_rfl) (by simp) ?_
        refine AllReadyH.cons rfl (fun K hK => ?_) AllReadyH.nil
        rw [if_pos (by kernel_rfl)]
        go_simp
        refine hK.out _ _ (HS.out _ qb) (fun hHeld => ?_)
        clear hK K
        try simp only [Act.put, List.setIfInBounds_toArray, List.set_cons_zero, List.set_cons_succ]
        refine wpAnyH_done (by kernel_rfl) ?_ _
        clear e80 e81 f80 f81 k8 kb tw hHeld
        go_wp2_with fail
        go_meet
        exact ⟨_, _, m239, m245, rfl, rfl, ⟨qb, p7, p8⟩⟩
  case rest =>
  obtain ⟨g7, g8, ⟨P1, n1, sq1, va1, vc1⟩, ⟨P2, n2, sq2, va2, vc2⟩, rfl, rfl, HC⟩ := hcut
  clear HM1 HM2 HS HG3
  generalize wc = W3 at *
  have hO1 : OfR P1 n1 0 := HC.out.2.1.on.of
  have hO2 : OfR P2 n2 0 := HC.out.2.2.on.of
  have HO := Hid.mk hO1
  have HO' := Hid.mk hO2
  have HSq : Hid (∀ v ∈ P1, 1 ≤ v.seq) := ⟨fun v hv => (HC.out.2.1.on.mdl.ok v hv).s1⟩
  have HB3 := Hid.mk (below_seq HB2.out HC.out.1)
  have HPn : Hid (P1.length ≤ 40) := ⟨HC.out.2.1.on.mdl.len⟩
  have H7 : Hid (Bb2 W3 g7 n1 (.slice va1 P1.length vc1) ∧ VIn W3 va1 P1) := ⟨HC.out.2.1.box, HC.out.2.1.on.vin⟩
  have H8 : Hid (Bb2 W3 g8 n2 (.slice va2 P2.length vc2) ∧ VIn W3 va2 P2) := ⟨HC.out.2.2.box, HC.out.2.2.on.vin⟩
  clear HC HB2 hO1 hO2
  obtain ⟨e70, e71⟩ := H7.out.1.cells
  have ha := a1_bd since
  have hn1 : 1 ≤ n1 := HO.out.2.2.n1
  have hk0 : 1 ≤ min (wrap64 (1 + a1 since)) n1 ∧ min (wrap64 (1 + a1 since)) n1 ≤ n1 ∧ min (wrap64 (1 + a1 since)) n1 ≤ 2 := by
    have hw1 : wrap64 (1 + a1 since) = 1 + a1 since := by unfold wrap64; omega
    rw [hw1]
    omega
  have HK0 : Hid (1 ≤ min (wrap64 (1 + a1 since)) n1 ∧ min (wrap64 (1 + a1 since)) n1 ≤ n1 ∧ min (wrap64 (1 + a1 since)) n1 ≤ 2 ∧ ∀ (j : Nat) (v : Vs), j < 0 → P1[j]? = some v → min (wrap64 (1 + a1 since)) n1 ≤ v.seq) := ⟨hk0.1, hk0.2.1, hk0.2.2, fun j v hj => absurd hj (Nat.not_lt_zero _)⟩
  clear ha hn1 hk0
  go_wp2_with fail
  go_loopw [9, 10] (fun v9 v10 wr => ∃ (i : Nat) (k : Int), v9 = .int .i64 k ∧ v10 = .int .i64 (i : Int) ∧ i ≤ P1.length ∧ Hid (1 ≤ k ∧ k ≤ n1 ∧ k ≤ 2 ∧ ∀ (j : Nat) (v : Vs), j < i → P1[j]? = some v → k ≤ v.seq) ∧ Hid (wr = W3)) (fun _ v10 _ => P1.length - (intOf v10).toNat)
  case atStart => exact ⟨0, _, rfl, rfl, Nat.zero_le _, HK0, ⟨rfl⟩⟩
  case round =>
    clear HK0
    obtain ⟨i, k, rfl, rfl, hi, HKk, HW⟩ := hrel
    have hwr := HW.out
    subst hwr
    by_cases hlt : i < P1.length
    · have d1 : decide ((i : Int) < (P1.length : Int)) = true := decide_eq_true (Int.ofNat_lt.2 hlt)
      have i0 : (0 : Int) ≤ (i : Int) := Int.natCast_nonneg i
      have i2 : (i : Int) < (P1.length : Int) := Int.ofNat_lt.2 hlt
      have hwi : wrap64 ((i : Int) + 1) = ((i + 1 : Nat) : Int) := by unfold wrap64; have := HPn.out; omega
      obtain ⟨v, hvk⟩ : ∃ v, P1[i]? = some v := ⟨P1[i], List.getElem?_eq_getElem hlt⟩
      obtain ⟨b9, off, ma, mc, hab, hbl, c0, c1, c2, c3, c4, hsl⟩ := H7.out.2.get i v hvk
      subst hab
      have HK1 : Hid (1 ≤ min k v.seq ∧ min k v.seq ≤ n1 ∧ min k v.seq ≤ 2 ∧ ∀ (j : Nat) (u : Vs), j < i + 1 → P1[j]? = some u → min k v.seq ≤ u.seq) := ⟨by
        have h1 := HKk.out.1
        have h2 := HKk.out.2.1
        have h3 := HKk.out.2.2.1
        have h4 := HSq.out v (List.mem_of_getElem? hvk)
        refine ⟨by omega, by omega, by omega, fun j u hj hu => ?_⟩
        by_cases e : j = i
        · subst e
          rw [hvk] at hu
          injection hu with hu
          subst hu
          exact Int.min_le_right _ _
        · exact Int.le_trans (Int.min_le_left _ _) (HKk.out.2.2.2 j u (by omega) hu)⟩
      clear hvk hsl hbl c0 c2 c3 c4
      go_wp2_with fail
      exact ⟨⟨i + 1, _, rfl, by first | (rw [hwi]; done) | rfl | go_num, hlt, HK1, ⟨by first | trivial | rfl⟩⟩, by first | (rw [hwi]; exact Nat.sub_lt_sub_left hlt (Nat.lt_succ_self i)) | (simp [intOf]; omega)⟩
    · obtain rfl : i = P1.length := Nat.le_antisymm hi (Nat.le_of_not_lt hlt)
      have d1 : decide ((P1.length : Int) < (P1.length : Int)) = false := decide_eq_false (fun h => Int.lt_irrefl _ h)
      have hKk := HKk.out
      have HC : Hid (∀ X : Int, ∃ c, wrap64 (k * a1 X) = c ∧ 0 ≤ c ∧ OfR P1 n1 c) := ⟨fun X => by
        have hx := a1_bd X
        rcases (show a1 X = 0 ∨ a1 X = 1 by omega) with q | q
        · exact ⟨0, by rw [q]; simp [wrap64], by omega, HO.out⟩
        · refine ⟨k, by rw [q, Int.mul_one]; unfold wrap64; omega, by omega, OfR.since HO.out (by omega) hKk.2.1 (fun v hv => ?_)⟩
          obtain ⟨j, hj, rfl⟩ := List.getElem_of_mem hv
          exact hKk.2.2.2 j _ hj (List.getElem?_eq_getElem hj)⟩
      clear hKk hlt hi HKk
      go_wp2_with fail
      obtain ⟨c, hcw, hc0, hOc⟩ := HC.out (since / 2)
      rw [hcw]
      have HOc := Hid.mk hOc
      clear hcw hOc HC
      have hp := pk_of HOc.out (cap := vc1) H7.out.2 (HT.out.below HB3.out) (HK.out.seq HB3.out)
      have HAc : Hid (Arc (arc P1 n1 c) P1 n1 c) := ⟨⟨HOc.out, rfl⟩⟩
      have HSl : Hid (1 ≤ (arc P1 n1 c).length ∧ (arc P1 n1 c).length ≤ 1048576) := ⟨arc_pos _ _ _, arc_len2 HOc.out HPn.out⟩
      have HN1 : Hid (∀ M n' c', ¬ Arc ((arc P1 n1 c).take ((arc P1 n1 c).length - 1)) M n' c') := ⟨no_less HOc.out⟩
      have HN2 : Hid (∀ M n' c', ¬ Arc (arc P1 n1 c ++ [0]) M n' c') := ⟨no_more HOc.out 0⟩
      have HN3 : Hid (c ≠ 0 → ∀ M n', ¬ Arc (arc P1 n1 c) M n' 0) := ⟨fun h => no_full HOc.out h⟩
      have HEq : Hid ((arc P2 n2 0 == arc P1 n1 0) = svB n1 P1 n2 P2) := ⟨by
        by_cases q : n1 = n2 ∧ P1 = P2
        · rw [svB_true q, q.1, q.2]; simp
        · rw [svB_false q]
          refine beq_eq_false_iff_ne.2 (fun h => q ?_)
          obtain ⟨h1, h2⟩ := (arc_inj HO'.out HO.out).1 h
          exact ⟨h2.symm, h1.symm⟩⟩
      generalize arc P1 n1 c = s at *
      with_reducible refine Calls.mono hp ?_
      rintro e w4 ⟨rfl, b4⟩
      have HB4 := Hid.mk (below_seq HB3.out b4)
      have H74 : Hid (Bb2 w4 g7 n1 (.slice va1 P1.length vc1) ∧ VIn w4 va1 P1 ∧ Bb2 w4 g8 n2 (.slice va2 P2.length vc2) ∧ VIn w4 va2 P2) := ⟨H7.out.1.later b4, H7.out.2.later b4, H8.out.1.later b4, H8.out.2.later b4⟩
      have hu := unpack_any s w4 (by have := HSl.out; omega) (HT.out.below HB4.out) (HE.out.below HB4.out) (HK.out.seq HB4.out)
      have dl : decide ((1048576 : Int) < (s.length : Int)) = false := decide_eq_false (by have := HSl.out; omega)
      have dl' : decide (1048576 < s.length) = false := decide_eq_false (by have := HSl.out; omega)
      have HDl := Hid.mk (And.intro dl dl')
      clear hp b4 H7 H8 HB3 e70 e71 d1 dl dl'
      dsimp only
      go_wp2_with fail
      with_reducible refine Calls.mono hu ?_
      rintro e w5 h5
      obtain ⟨R, xa, xc, rfl, hR, _, hF, b5⟩ := h5.yes HAc.out
      have bx := (Below.refl w5.heap.size w5).alloc (Nat.le_refl _) (.cells #[.int .i64 n1, .slice xa P1.length xc] 24)
      have b45 := below_seq b5 bx
      have HB5 := Hid.mk (below_seq HB4.out b45)
      have H75 : Hid (Bb2 (w5.alloc (.cells #[.int .i64 n1, .slice xa P1.length xc] 24)) g7 n1 (.slice va1 P1.length vc1) ∧ VIn (w5.alloc (.cells #[.int .i64 n1, .slice xa P1.length xc] 24)) va1 P1 ∧ Bb2 (w5.alloc (.cells #[.int .i64 n1, .slice xa P1.length xc] 24)) g8 n2 (.slice va2 P2.length vc2) ∧ VIn (w5.alloc (.cells #[.int .i64 n1, .slice xa P1.length xc] 24)) va2 P2) := ⟨H74.out.1.later b45, H74.out.2.1.later b45, H74.out.2.2.1.later b45, H74.out.2.2.2.later b45⟩
      have HX5 : Hid (Bb2 (w5.alloc (.cells #[.int .i64 n1, .slice xa P1.length xc] 24)) w5.heap.size n1 (.slice xa P1.length xc) ∧ VIn (w5.alloc (.cells #[.int .i64 n1, .slice xa P1.length xc] 24)) xa P1) := ⟨Bb2.new _ _ _, (fo_vin2 hR hF).later bx⟩
      clear hu h5 hR hF b5 bx b45 H74 HB4
      obtain ⟨e70, e71⟩ := H75.out.1.cells
      obtain ⟨x0, x1⟩ := HX5.out.1.cells
      obtain ⟨dl, dl'⟩ := HDl.out
      dsimp only
      go_wp2_with fail
      generalize w5.alloc (.cells #[.int .i64 n1, .slice xa P1.length xc] 24) = W5 at *
      generalize w5.heap.size = g13 at *
      have hs := sm_of HOc.out HOc.out (cap := xc) (cap' := vc1) HX5.out.2 H75.out.2.1
      rw [svB_true ⟨rfl, rfl⟩] at hs
      with_reducible refine Calls.mono hs ?_
      rintro e w6 ⟨rfl, b6⟩
      have HB6 := Hid.mk (below_seq HB5.out b6)
      have H76 : Hid (Bb2 w6 g7 n1 (.slice va1 P1.length vc1) ∧ VIn w6 va1 P1 ∧ Bb2 w6 g8 n2 (.slice va2 P2.length vc2) ∧ VIn w6 va2 P2) := ⟨H75.out.1.later b6, H75.out.2.1.later b6, H75.out.2.2.1.later b6, H75.out.2.2.2.later b6⟩
      obtain ⟨t1, ht1⟩ : ∃ t, t = s.take (s.length - 1) := ⟨_, rfl⟩
      obtain ⟨t2, ht2⟩ : ∃ t, t = s ++ [0] := ⟨_, rfl⟩
      rw [← ht1] at HN1
      rw [← ht2] at HN2
      have htk := fun w => run_take s (s.length - 1) (Nat.sub_le _ _) w
      have had : ∀ w, (Go.Proofs.YtcmmbdcflblekaaGreatDoor.adS (str s) (.string ⟨#[0]⟩)).run Tryz.prog w = .ok (str (s ++ [0])) w := fun w => run_ad s [0] (by have := HSl.out; simp; omega) w
      rw [← ht1] at htk
      rw [← ht2] at had
      have hwl : wrap64 ((s.length : Int) - 1) = ((s.length - 1 : Nat) : Int) := by unfold wrap64; have := HSl.out; omega
      have HL12 : Hid (t1.length ≤ 281474976710656 ∧ t2.length ≤ 281474976710656) := ⟨by have := HSl.out; rw [ht1, List.length_take]; omega, by have := HSl.out; rw [ht2]; simp; omega⟩
      have hu := unpack_any t1 w6 HL12.out.1 (HT.out.below HB6.out) (HE.out.below HB6.out) (HK.out.seq HB6.out)
      have HAd := Hid.mk had
      have hsl0 : 1 ≤ s.length := HSl.out.1
      clear hs b6 H75 HX5 HB5 e70 e71 x0 x1 ht1 ht2 HDl had
      dsimp only
      go_wp2_with fail
      with_reducible refine Calls.mono hu ?_
      rintro e w7 hh
      obtain ⟨rfl, bu⟩ := hh.no HN1.out
      have bx := (Below.refl w7.heap.size w7).alloc (Nat.le_refl _) (.cells #[.int .i64 0, .slice none 0 0] 24)
      have bux := below_seq bu bx
      have HB7 := Hid.mk (below_seq HB6.out bux)
      have H77 : Hid (Bb2 (w7.alloc (.cells #[.int .i64 0, .slice none 0 0] 24)) g7 n1 (.slice va1 P1.length vc1) ∧ VIn (w7.alloc (.cells #[.int .i64 0, .slice none 0 0] 24)) va1 P1 ∧ Bb2 (w7.alloc (.cells #[.int .i64 0, .slice none 0 0] 24)) g8 n2 (.slice va2 P2.length vc2) ∧ VIn (w7.alloc (.cells #[.int .i64 0, .slice none 0 0] 24)) va2 P2) := ⟨H76.out.1.later bux, H76.out.2.1.later bux, H76.out.2.2.1.later bux, H76.out.2.2.2.later bux⟩
      clear hu hh bu bx bux H76 HB6
      have hu := unpack_any t2 (w7.alloc (.cells #[.int .i64 0, .slice none 0 0] 24)) HL12.out.2 (HT.out.below HB7.out) (HE.out.below HB7.out) (HK.out.seq HB7.out)
      have had := HAd.out
      clear htk hwl hsl0 dl dl'
      dsimp only
      go_wp2_with fail
      generalize w7.alloc (.cells #[.int .i64 0, .slice none 0 0] 24) = W7 at *
      generalize w7.heap.size = g16 at *
      with_reducible refine Calls.mono hu ?_
      rintro e w8 hh
      obtain ⟨rfl, bu⟩ := hh.no HN2.out
      have bx := (Below.refl w8.heap.size w8).alloc (Nat.le_refl _) (.cells #[.int .i64 0, .slice none 0 0] 24)
      have bux := below_seq bu bx
      have HB8 := Hid.mk (below_seq HB7.out bux)
      have H78 : Hid (Bb2 (w8.alloc (.cells #[.int .i64 0, .slice none 0 0] 24)) g7 n1 (.slice va1 P1.length vc1) ∧ VIn (w8.alloc (.cells #[.int .i64 0, .slice none 0 0] 24)) va1 P1 ∧ Bb2 (w8.alloc (.cells #[.int .i64 0, .slice none 0 0] 24)) g8 n2 (.slice va2 P2.length vc2) ∧ VIn (w8.alloc (.cells #[.int .i64 0, .slice none 0 0] 24)) va2 P2) := ⟨H77.out.1.later bux, H77.out.2.1.later bux, H77.out.2.2.1.later bux, H77.out.2.2.2.later bux⟩
      clear hu hh bu bx bux H77 HB7
      have hd := decode_any s (w8.alloc (.cells #[.int .i64 0, .slice none 0 0] 24)) (by have := HSl.out; omega) (HT.out.below HB8.out) (HE.out.below HB8.out) (HK.out.seq HB8.out)
      clear had HAd HL12 HN1 HN2
      dsimp only
      go_wp2_with fail
      generalize w8.alloc (.cells #[.int .i64 0, .slice none 0 0] 24) = W8 at *
      generalize w8.heap.size = g19 at *
      with_reducible refine Calls.mono hd ?_
      rintro e w9 h9
      by_cases hc : c = 0
      · subst hc
        obtain ⟨R2, ya, yc, rfl, hR2, _, hF2, b9⟩ := h9.yes HAc.out
        have by' := (Below.refl w9.heap.size w9).alloc (Nat.le_refl _) (.cells #[.int .i64 n1, .slice ya P1.length yc] 24)
        have b89 := below_seq b9 by'
        have HB9 := Hid.mk (below_seq HB8.out b89)
        have H79 : Hid (Bb2 (w9.alloc (.cells #[.int .i64 n1, .slice ya P1.length yc] 24)) g7 n1 (.slice va1 P1.length vc1) ∧ VIn (w9.alloc (.cells #[.int .i64 n1, .slice ya P1.length yc] 24)) va1 P1 ∧ Bb2 (w9.alloc (.cells #[.int .i64 n1, .slice ya P1.length yc] 24)) g8 n2 (.slice va2 P2.length vc2) ∧ VIn (w9.alloc (.cells #[.int .i64 n1, .slice ya P1.length yc] 24)) va2 P2) := ⟨H78.out.1.later b89, H78.out.2.1.later b89, H78.out.2.2.1.later b89, H78.out.2.2.2.later b89⟩
        have HY : Hid (Bb2 (w9.alloc (.cells #[.int .i64 n1, .slice ya P1.length yc] 24)) w9.heap.size n1 (.slice ya P1.length yc) ∧ VIn (w9.alloc (.cells #[.int .i64 n1, .slice ya P1.length yc] 24)) ya P1) := ⟨Bb2.new _ _ _, (fo_vin2 hR2 hF2).later by'⟩
        clear hd h9 hR2 hF2 b9 by' b89 H78 HB8 HN3 HAc HOc hc0
        obtain ⟨e70, e71⟩ := H79.out.1.cells
        obtain ⟨y0, y1⟩ := HY.out.1.cells
        dsimp only
        go_wp2_with fail
        generalize w9.alloc (.cells #[.int .i64 n1, .slice ya P1.length yc] 24) = W9 at *
        generalize w9.heap.size = g22 at *
        have hs := sm_of HO.out HO.out (cap := yc) (cap' := vc1) HY.out.2 H79.out.2.1
        rw [svB_true ⟨rfl, rfl⟩] at hs
        with_reducible refine Calls.mono hs ?_
        rintro e w10 ⟨rfl, b10⟩
        have HB10 := Hid.mk (below_seq HB9.out b10)
        have H710 : Hid (Bb2 w10 g7 n1 (.slice va1 P1.length vc1) ∧ VIn w10 va1 P1 ∧ Bb2 w10 g8 n2 (.slice va2 P2.length vc2) ∧ VIn w10 va2 P2) := ⟨H79.out.1.later b10, H79.out.2.1.later b10, H79.out.2.2.1.later b10, H79.out.2.2.2.later b10⟩
        clear hs b10 H79 HB9 HY e70 e71 y0 y1
        dsimp only
        have hc1 := en_of HO'.out (cap := vc2) H710.out.2.2.2 (HT.out.below HB10.out) (HK.out.seq HB10.out)
        obtain ⟨e80, e81⟩ := H710.out.2.2.1.cells
        have HEq2 : ∃ (t u : List UInt8) (q : Bool), arc P2 n2 0 = t ∧ arc P1 n1 0 = u ∧ svB n1 P1 n2 P2 = q ∧ Hid ((t == u) = q) := ⟨_, _, _, rfl, rfl, rfl, HEq⟩
        obtain ⟨t, u, q, ht, hu, hq, HQ⟩ := HEq2
        rw [ht] at hc1
        clear HEq
        go_wp2_with fail
        with_reducible refine Calls.mono hc1 ?_
        rintro e w21 ⟨rfl, b21⟩
        have H21 : Hid (Bb2 w21 g7 n1 (.slice va1 P1.length vc1) ∧ VIn w21 va1 P1 ∧ Bb2 w21 g8 n2 (.slice va2 P2.length vc2) ∧ VIn w21 va2 P2) := ⟨H710.out.1.later b21, H710.out.2.1.later b21, H710.out.2.2.1.later b21, H710.out.2.2.2.later b21⟩
        have HB21 := Hid.mk (below_seq HB10.out b21)
        have hc1 := en_of HO.out (cap := vc1) H21.out.2.1 (HT.out.below HB21.out) (HK.out.seq HB21.out)
        rw [hu] at hc1
        obtain ⟨e70, e71⟩ := H21.out.1.cells
        clear b21 e80 e81 H710 HB10
        dsimp only
        go_wp2_with fail
        with_reducible refine Calls.mono hc1 ?_
        rintro e w22 ⟨rfl, b22⟩
        have H22 : Hid (Bb2 w22 g7 n1 (.slice va1 P1.length vc1) ∧ VIn w22 va1 P1 ∧ Bb2 w22 g8 n2 (.slice va2 P2.length vc2) ∧ VIn w22 va2 P2) := ⟨H21.out.1.later b22, H21.out.2.1.later b22, H21.out.2.2.1.later b22, H21.out.2.2.2.later b22⟩
        have HB22 := Hid.mk (below_seq HB21.out b22)
        obtain ⟨e70, e71⟩ := H22.out.1.cells
        obtain ⟨e80, e81⟩ := H22.out.2.2.1.cells
        have hs := sm_of HO.out HO'.out (cap := vc1) (cap' := vc2) H22.out.2.1 H22.out.2.2.2
        rw [hq] at hs
        clear b22 H21 HB21 ht hu hq
        have hqq := HQ.out
        dsimp only
        cases q
        all_goals (go_wp2_with fail)
        all_goals (with_reducible refine Calls.mono hs ?_)
        all_goals (rintro e w23 ⟨rfl, b23⟩)
        all_goals dsimp only
        all_goals (go_wp2_with fail)
        all_goals go_ret
        all_goals exact ⟨rfl, below_seq HB22.out b23⟩
      · obtain ⟨rfl, b9⟩ := h9.no (HN3.out hc)
        have dc : decide (c = 0) = false := decide_eq_false hc
        have dc' : (c == 0) = false := beq_eq_false_iff_ne.2 hc
        have by' := (Below.refl w9.heap.size w9).alloc (Nat.le_refl _) (.cells #[.int .i64 0, .slice none 0 0] 24)
        have b89 := below_seq b9 by'
        have HB9 := Hid.mk (below_seq HB8.out b89)
        have H79 : Hid (Bb2 (w9.alloc (.cells #[.int .i64 0, .slice none 0 0] 24)) g7 n1 (.slice va1 P1.length vc1) ∧ VIn (w9.alloc (.cells #[.int .i64 0, .slice none 0 0] 24)) va1 P1 ∧ Bb2 (w9.alloc (.cells #[.int .i64 0, .slice none 0 0] 24)) g8 n2 (.slice va2 P2.length vc2) ∧ VIn (w9.alloc (.cells #[.int .i64 0, .slice none 0 0] 24)) va2 P2) := ⟨H78.out.1.later b89, H78.out.2.1.later b89, H78.out.2.2.1.later b89, H78.out.2.2.2.later b89⟩
        clear hd h9 b9 by' b89 H78 HB8 HN3 HAc HOc hc0 hc
        dsimp only
        have hc1 := en_of HO'.out (cap := vc2) H79.out.2.2.2 (HT.out.below HB9.out) (HK.out.seq HB9.out)
        obtain ⟨e80, e81⟩ := H79.out.2.2.1.cells
        have HEq2 : ∃ (t u : List UInt8) (q : Bool), arc P2 n2 0 = t ∧ arc P1 n1 0 = u ∧ svB n1 P1 n2 P2 = q ∧ Hid ((t == u) = q) := ⟨_, _, _, rfl, rfl, rfl, HEq⟩
        obtain ⟨t, u, q, ht, hu, hq, HQ⟩ := HEq2
        rw [ht] at hc1
        clear HEq
        go_wp2_with fail
        with_reducible refine Calls.mono hc1 ?_
        rintro e w21 ⟨rfl, b21⟩
        have H21 : Hid (Bb2 w21 g7 n1 (.slice va1 P1.length vc1) ∧ VIn w21 va1 P1 ∧ Bb2 w21 g8 n2 (.slice va2 P2.length vc2) ∧ VIn w21 va2 P2) := ⟨H79.out.1.later b21, H79.out.2.1.later b21, H79.out.2.2.1.later b21, H79.out.2.2.2.later b21⟩
        have HB21 := Hid.mk (below_seq HB9.out b21)
        have hc1 := en_of HO.out (cap := vc1) H21.out.2.1 (HT.out.below HB21.out) (HK.out.seq HB21.out)
        rw [hu] at hc1
        obtain ⟨e70, e71⟩ := H21.out.1.cells
        clear b21 e80 e81 H79 HB9
        dsimp only
        go_wp2_with fail
        with_reducible refine Calls.mono hc1 ?_
        rintro e w22 ⟨rfl, b22⟩
        have H22 : Hid (Bb2 w22 g7 n1 (.slice va1 P1.length vc1) ∧ VIn w22 va1 P1 ∧ Bb2 w22 g8 n2 (.slice va2 P2.length vc2) ∧ VIn w22 va2 P2) := ⟨H21.out.1.later b22, H21.out.2.1.later b22, H21.out.2.2.1.later b22, H21.out.2.2.2.later b22⟩
        have HB22 := Hid.mk (below_seq HB21.out b22)
        obtain ⟨e70, e71⟩ := H22.out.1.cells
        obtain ⟨e80, e81⟩ := H22.out.2.2.1.cells
        have hs := sm_of HO.out HO'.out (cap := vc1) (cap' := vc2) H22.out.2.1 H22.out.2.2.2
        rw [hq] at hs
        clear b22 H21 HB21 ht hu hq
        have hqq := HQ.out
        dsimp only
        cases q
        all_goals (go_wp2_with fail)
        all_goals (with_reducible refine Calls.mono hs ?_)
        all_goals (rintro e w23 ⟨rfl, b23⟩)
        all_goals dsimp only
        all_goals (go_wp2_with fail)
        all_goals go_ret
        all_goals exact ⟨rfl, below_seq HB22.out b23⟩
end Go.Proofs.YtcmmbdcflblekaaGreatDoor
