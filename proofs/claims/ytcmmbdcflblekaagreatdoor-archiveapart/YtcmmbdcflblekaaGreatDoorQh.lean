import Derived.Test.YtcmmbdcflblekaaGreatDoorQg
import Derived.Test.YtcmmbdcflblekaaGreatDoorAMd
import Derived.Test.YtcmmbdcflblekaaGreatDoorQf
import Derived.Test.YtcmmbdcflblekaaGreatDoorGv
import Derived.Deep.AppendLies
import Derived.Deep.RegionHeld3
import Derived.BigRegion
/- What ArchiveBack needs of the texts. No model. -/
namespace Go.Proofs.YtcmmbdcflblekaaGreatDoor
set_option maxRecDepth 100000
set_option linter.unusedVariables false
set_option linter.unusedSimpArgs false
theorem OfR.since {L : List Vs} {next c : Int} (h : OfR L next 0) (h0 : 0 ≤ c) (h1 : c ≤ next) (h2 : ∀ v ∈ L, c ≤ v.seq) : OfR L next c := by
  obtain ⟨a, b, r⟩ := h
  refine ⟨a, b, ⟨r.n1, r.n2, h0, h1, r.len, fun x hx => ?_, r.srt, r.nod, r.byt⟩⟩
  obtain ⟨k, s1, s2, s3, m1, m0⟩ := r.it x hx
  obtain ⟨v, hv, rfl⟩ := List.mem_map.1 hx
  exact ⟨k, s1, s2, h2 v hv, m1, m0⟩
theorem arc_pos (L : List Vs) (n c : Int) : 1 ≤ (arc L n c).length := by
  have := mtx_pos ⟨c, n, ofI L⟩
  unfold arc bod
  simp only [List.length_append]
  omega
/-- a byte fewer: nothing's archive -/
theorem no_less {L : List Vs} {n c : Int} (h : OfR L n c) (M : List Vs) (n' c' : Int) : ¬ Arc ((arc L n c).take ((arc L n c).length - 1)) M n' c' := fun q => by
  have hp := arc_pos L n c
  have e : arc L n c = arc M n' c' ++ (arc L n c).drop ((arc L n c).length - 1) := by rw [← q.2, List.take_append_drop]
  have := Arc.whole h q.1 e
  have h2 := congrArg List.length this
  rw [List.length_drop, List.length_nil] at h2
  omega
/-- a byte more -/
theorem no_more {L : List Vs} {n c : Int} (h : OfR L n c) (b : UInt8) (M : List Vs) (n' c' : Int) : ¬ Arc (arc L n c ++ [b]) M n' c' := fun q => by
  have := Arc.whole q.1 h q.2.symm
  cases this
/-- a delta is no full archive -/
theorem no_full {L : List Vs} {n c : Int} (h : OfR L n c) (hc : c ≠ 0) (M : List Vs) (n' : Int) : ¬ Arc (arc L n c) M n' 0 := fun q => hc (Arc.two ⟨h, rfl⟩ q).2.2
/-- unlike values have unlike archives -/
theorem arc_inj {L M : List Vs} {n n' : Int} (h : OfR L n 0) (h' : OfR M n' 0) : arc L n 0 = arc M n' 0 ↔ L = M ∧ n = n' := by
  constructor
  · intro e
    obtain ⟨a, b, _⟩ := Arc.two (s := arc L n 0) ⟨h, rfl⟩ ⟨h', e⟩
    exact ⟨a, b⟩
  · rintro ⟨rfl, rfl⟩; rfl
end Go.Proofs.YtcmmbdcflblekaaGreatDoor

/- ArchiveBack: two values that Made told, in their boxes. -/
namespace Go.Proofs.YtcmmbdcflblekaaGreatDoor
set_option maxRecDepth 100000
set_option linter.unusedVariables false
set_option linter.unusedSimpArgs false
open Go.RowKit
theorem call_step3 {P : Program} {o : Oper} {a : Act} {w : World} {next : Act → World → Prop} {Q : Exit → Act → World → Prop} {f : Nat} {args : Array Value} {X : Type} {v : X → Value} {G : X → World → Prop} (d : Nat) (hd : o.dst = some d) (hx : (execOp a.eval o).run P w = .ok (.enter f args) w)
    (hc : Calls P f args w fun e w' => ∃ x, e = .returned (v x) ∧ G x w') (hn : ∀ x w', G x w' → next (a.put (some d) (v x)) w') : Oper.wp P o a w next Q := by
  unfold Oper.wp; rw [hx, Oper.upon_enter]; refine hc.mono ?_; rintro e w' ⟨x, rfl, g⟩; show next (a.put o.dst (v x)) w'; rw [hd]; exact hn x w' g
/-- what Made tells -/
structure MdA where
  L : List Vs
  n : Int
  sq : Int
  va : Option Addr
  vc : Nat
structure MdA.On (m : MdA) (w : World) : Prop where
  vin : VIn w m.va m.L
  mdl : Mdl m.sq m.L
  n1 : m.sq < m.n
  n2 : m.n ≤ m.sq + 1024
theorem MdA.On.later {m : MdA} {w w' : World} (h : m.On w) (hb : Below w.heap.size w w') : m.On w' := ⟨h.vin.later hb, h.mdl, h.n1, h.n2⟩
theorem MdA.On.of {m : MdA} {w : World} (h : m.On w) : OfR m.L m.n 0 := h.mdl.of h.n1 h.n2
theorem made2_any (L : List Vs) (n : Int) (w : World) (a : Option Addr) (cap : Nat) (hL : VIn w a L) (hz : L.length ≤ 4611686018427387904) :
    Calls Tryz.prog 16 #[.agg #[.int .i64 n, .slice a L.length cap]] w fun e w' => ∃ m : MdA, e = .returned (.agg #[.int .i64 m.n, .slice m.va m.L.length m.vc]) ∧ m.On w' ∧ Below w.heap.size w w' :=
  (made_any L n w a cap hL hz).mono (by
    rintro e w' ⟨L', n', sq, va, vc, rfl, h1, h2, h3, h4, h5⟩
    exact ⟨⟨L', n', sq, va, vc⟩, rfl, ⟨h1, h2, h3, h4⟩, h5⟩)
/-- a value that Made told, in its box -/
structure Mb9 (w : World) (g : Nat) (m : MdA) : Prop where
  box : Bb2 w g m.n (.slice m.va m.L.length m.vc)
  on : m.On w
theorem Mb9.later {w w' : World} {g : Nat} {m : MdA} (h : Mb9 w g m) (hb : Below w.heap.size w w') : Mb9 w' g m := ⟨h.box.later hb, h.on.later hb⟩
theorem MdA.On.box {m : MdA} {w : World} (h : m.On w) {g : Nat} {n : Int} {q : Value} (hb : Bb2 w g n q) (hq : ∀ s, q ≠ .string s) (x y : Value) : m.On ((w.setCell ⟨g, 0, none⟩ x).setCell ⟨g, 1, none⟩ y) := ⟨vin_box h.vin hb hq x y, h.mdl, h.n1, h.n2⟩
theorem Bb2.lt2 {w : World} {g : Nat} {n : Int} {v : Value} (h : Bb2 w g n v) : g < w.heap.size := lt_of_block h
theorem Bb2.oth2 {w : World} {g g' : Nat} {n : Int} {v : Value} (h : Bb2 w g n v) (hn : g ≠ g') (x y : Value) : Bb2 ((w.setCell ⟨g', 0, none⟩ x).setCell ⟨g', 1, none⟩ y) g n v := h.oth ((hso _ _ hn).trans (hso _ _ hn))
/-- two boxes, not filled yet -/
structure Two0 (w0 W : World) (g7 g8 : Nat) : Prop where
  h7 : Bb2 W g7 0 (.slice none 0 0)
  h8 : Bb2 W g8 0 (.slice none 0 0)
  ne : g7 ≠ g8
  r7 : w0.heap.size ≤ g7
  r8 : w0.heap.size ≤ g8
  bel : Below w0.heap.size w0 W
theorem Two0.put1 {w0 W : World} {g7 g8 : Nat} (h : Two0 w0 W g7 g8) (x y : Value) : Bb2 ((W.setCell ⟨g7, 0, none⟩ x).setCell ⟨g7, 1, none⟩ y) g8 0 (.slice none 0 0) ∧ Below w0.heap.size w0 ((W.setCell ⟨g7, 0, none⟩ x).setCell ⟨g7, 1, none⟩ y) := ⟨h.h8.oth2 h.ne.symm _ _, below2 h.bel h.r7 _ _⟩
theorem Two0.put2 {w0 W : World} {g7 g8 : Nat} (h : Two0 w0 W g7 g8) {m1 m2 : MdA} (o1 : m1.On W) (o2 : m2.On W) :
    Below w0.heap.size w0 ((((W.setCell ⟨g7, 0, none⟩ (.int .i64 m1.n)).setCell ⟨g7, 1, none⟩ (.slice m1.va m1.L.length m1.vc)).setCell ⟨g8, 0, none⟩ (.int .i64 m2.n)).setCell ⟨g8, 1, none⟩ (.slice m2.va m2.L.length m2.vc)) ∧
    Mb9 ((((W.setCell ⟨g7, 0, none⟩ (.int .i64 m1.n)).setCell ⟨g7, 1, none⟩ (.slice m1.va m1.L.length m1.vc)).setCell ⟨g8, 0, none⟩ (.int .i64 m2.n)).setCell ⟨g8, 1, none⟩ (.slice m2.va m2.L.length m2.vc)) g7 m1 ∧
    Mb9 ((((W.setCell ⟨g7, 0, none⟩ (.int .i64 m1.n)).setCell ⟨g7, 1, none⟩ (.slice m1.va m1.L.length m1.vc)).setCell ⟨g8, 0, none⟩ (.int .i64 m2.n)).setCell ⟨g8, 1, none⟩ (.slice m2.va m2.L.length m2.vc)) g8 m2 := by
  obtain ⟨k8, kb⟩ := h.put1 (.int .i64 m1.n) (.slice m1.va m1.L.length m1.vc)
  have k7 := h.h7.set2 m1.n (.slice m1.va m1.L.length m1.vc)
  have p1 := o1.box h.h7 (fun s q => by cases q) (.int .i64 m1.n) (.slice m1.va m1.L.length m1.vc)
  have p2 := o2.box h.h7 (fun s q => by cases q) (.int .i64 m1.n) (.slice m1.va m1.L.length m1.vc)
  generalize (W.setCell ⟨g7, 0, none⟩ (.int .i64 m1.n)).setCell ⟨g7, 1, none⟩ (.slice m1.va m1.L.length m1.vc) = W1 at *
  exact ⟨below2 kb h.r8 _ _, ⟨k7.oth2 h.ne _ _, p1.box k8 (fun s q => by cases q) _ _⟩, ⟨k8.set2 _ _, p2.box k8 (fun s q => by cases q) _ _⟩⟩
def a1 (s : Int) : Int := bits .and .i64 s 1
theorem a1_eq (s : Int) : bits .and .i64 s 1 = a1 s := rfl
theorem a1_bd (s : Int) : 0 ≤ a1 s ∧ a1 s ≤ 1 := and_bd s 1 (by decide)
theorem pk_of {L : List Vs} {n c : Int} (hO : OfR L n c) {w : World} {a : Option Addr} {cap : Nat} (hv : VIn w a L) (hT : Go.Proofs.YtcmmbdcflblekaaGreatDoorP.TB w) (hK : Go.Proofs.YtcmmbdcflblekaaGreatDoorH.KIn w) :
    Calls Tryz.prog 17 #[.agg #[.int .i64 n, .slice a L.length cap], .int .i64 c] w fun e w' => e = .returned (.tuple #[str (arc L n c), .int .i64 0]) ∧ Below w.heap.size w w' := by
  have h := pack_any L n c w a cap hv (by have := hO.1; omega) (fun v hv => by have := (rt_of (hO.2.1 v hv)).n; omega) hT hK
  rw [(pk_yes hO).1, (pk_yes hO).2] at h
  exact h
theorem en_of {L : List Vs} {n : Int} (hO : OfR L n 0) {w : World} {a : Option Addr} {cap : Nat} (hv : VIn w a L) (hT : Go.Proofs.YtcmmbdcflblekaaGreatDoorP.TB w) (hK : Go.Proofs.YtcmmbdcflblekaaGreatDoorH.KIn w) :
    Calls Tryz.prog 21 #[.agg #[.int .i64 n, .slice a L.length cap]] w fun e w' => e = .returned (.tuple #[str (arc L n 0), .int .i64 0]) ∧ Below w.heap.size w w' := by
  have h := encode_any L n w a cap hv (by have := hO.1; omega) (fun v hv => by have := (rt_of (hO.2.1 v hv)).n; omega) hT hK
  rw [(pk_yes hO).1, (pk_yes hO).2] at h
  exact h
theorem sm_of {L M : List Vs} {n n' c c' : Int} (hO : OfR L n c) (hO' : OfR M n' c') {w : World} {a b : Option Addr} {cap cap' : Nat} (hv : VIn w a L) (hv' : VIn w b M) :
    Calls Tryz.prog 19 #[.agg #[.int .i64 n, .slice a L.length cap], .agg #[.int .i64 n', .slice b M.length cap']] w fun e w' => e = .returned (.bool (svB n L n' M)) ∧ Below w.heap.size w w' :=
  asame_any n n' L M w a b cap cap' hv hv' (by have := hO.1; omega) (fun v hv => by have := (rt_of (hO.2.1 v hv)).n; omega) (fun v hv => by have := (rt_of (hO'.2.1 v hv)).n; omega)
end Go.Proofs.YtcmmbdcflblekaaGreatDoor

/- ArchiveApart: the first told value, marked and grown; what is kept. -/
namespace Go.Proofs.YtcmmbdcflblekaaGreatDoor
set_option maxRecDepth 100000
set_option linter.unusedVariables false
set_option linter.unusedSimpArgs false
open Go.RowKit
open Stk (Rv rcs rcells rcells_append rcells_length rcells_get Fo Tc Ot set_get tc_set own_cellT)
def kmrk : List UInt8 := [109, 97, 114, 107, 101, 100]
def kgrw : List UInt8 := [103, 114, 111, 119, 110]
/-- the list that is marked, in its box: its blocks lie from B up to the box, or are new -/
structure XA (B : Nat) (W w : World) (gx : Nat) (n : Int) (a : Option Addr) (m c : Nat) (R : List Rv) : Prop where
  fo : Fo B w (.slice a m c) R
  len : R.length = m
  box : Bb2 w gx n (.slice a m c)
  tc : ∀ g, Tc (.slice a m c) R g → g < gx ∨ W.heap.size ≤ g
  ot : Ot (fun g => B ≤ g ∧ g ≤ gx) W w
  le : B ≤ gx
  lt : gx < W.heap.size
theorem Bb2.nown {w : World} {g B n s : Nat} {x : Int} {v' v : Value} {t : TypeId} {xs : List Value} (h : Bb2 w g x v') (ho : w.ownsRow B t s v n xs) (ht : t ≠ 24) : v.ownBlock ≠ some g := fun q => by
  obtain ⟨cs, e⟩ := own_type ho q
  unfold Bb2 at h
  rw [h] at e
  injection e with e
  injection e with _ e _
  exact ht e.symm
theorem Bb2.ntc {w : World} {g B : Nat} {x : Int} {v' v : Value} {R : List Rv} (h : Bb2 w g x v') (hF : Fo B w v R) : ¬ Tc v R g := fun q => by
  rcases q with q | ⟨k, r, hr, q⟩
  · exact h.nown hF.own (by decide) q
  · exact h.nown (hF.met k r hr).own (by decide) q
theorem tc_setl {v : Value} {R : List Rv} {k : Nat} {r r' : Rv} (hk : R[k]? = some r) (hm : r'.mv = r.mv) {g : Nat} (h : Tc v (R.set k r') g) : Tc v R g := by
  rcases h with q | ⟨j, x, h1, h2⟩
  · exact .inl q
  · rcases set_get h1 with ⟨rfl, rfl⟩ | ⟨_, h1⟩
    · exact .inr ⟨j, r, hk, by rw [← hm]; exact h2⟩
    · exact .inr ⟨j, x, h1, h2⟩
theorem XA.later {B : Nat} {W w w' : World} {gx : Nat} {n : Int} {a : Option Addr} {m c : Nat} {R : List Rv} (h : XA B W w gx n a m c R) (hb : Below w.heap.size w w') : XA B W w' gx n a m c R :=
  ⟨h.fo.later hb, h.len, h.box.later hb, h.tc, h.ot.trans (Ot.bel hb), h.le, h.lt⟩
theorem Stk.Ot.put {X : Nat → Prop} {W w : World} {g j : Nat} {v : Value} (h : Ot X W w) (hx : X g ∨ W.heap.size ≤ g) : Ot X W (w.setCell ⟨g, j, none⟩ v) :=
  ⟨h.os, h.tape, h.output, by simpa using h.size, fun k hk hn => by
    refine (Below.heap_setCell _ _ _ _ (fun e => ?_)).trans (h.block k hk hn)
    have e : k = g := e
    subst e
    rcases hx with q | q
    · exact hn q
    · omega⟩
theorem XA.xs {B : Nat} {W w : World} {gx : Nat} {n : Int} {a : Option Addr} {m c : Nat} {R : List Rv} (h : XA B W w gx n a m c R) {g : Nat} (ht : Tc (.slice a m c) R g) : (B ≤ g ∧ g ≤ gx) ∨ W.heap.size ≤ g := by
  have := (h.fo.tc ht).1
  rcases h.tc g ht with q | q
  · left; omega
  · exact .inr q
/-- a pair is marked -/
theorem XA.pair {B : Nat} {W w : World} {gx : Nat} {n : Int} {a : Option Addr} {m c : Nat} {R : List Rv} (h : XA B W w gx n a m c R) {k : Nat} {r : Rv} (hk : R[k]? = some r) (hz : r.z = []) {mb q : Nat} (ha : r.a = some ⟨mb, 0, none⟩) (hm : q < r.v.l.length) (p : En) :
    XA B W ((w.setCell ⟨mb, q * 2, none⟩ (str p.key)).setCell ⟨mb, q * 2 + 1, none⟩ (str p.val)) gx n a m c (R.set k { r with v := { r.v with l := r.v.l.set q p } }) := by
  have hb : r.mv.ownBlock = some mb := by unfold Rv.mv; rw [ha]; rfl
  have ht : Tc (.slice a m c) R mb := .inr ⟨k, r, hk, hb⟩
  have hne : gx ≠ mb := fun e => h.box.ntc h.fo (by rw [e]; exact ht)
  have hmv : ({ r with v := { r.v with l := r.v.l.set q p } } : Rv).mv = r.mv := by unfold Rv.mv; simp
  exact ⟨h.fo.setPair hk hz ha hm p, by rw [List.length_set]; exact h.len, h.box.oth ((hso _ _ hne).trans (hso _ _ hne)), fun g hg => h.tc g (tc_setl hk hmv hg), (h.ot.put (h.xs ht)).put (h.xs ht), h.le, h.lt⟩
/-- a version's pairs are grown -/
theorem XA.grow {B : Nat} {W w w' : World} {gx : Nat} {n : Int} {g m c : Nat} {R : List Rv} (h : XA B W w gx n (some ⟨g, 0, none⟩) m c R) {k : Nat} {r : Rv} (hk : R[k]? = some r) {g' c' : Nat} {l' : List En}
    (ho : Ow B w' (.slice (some ⟨g', 0, none⟩) l'.length c') l') (hb : Below B w w') (hf : ∀ b, b < w.heap.size → r.mv.ownBlock ≠ some b → w'.heap[b]? = w.heap[b]?) (hg : r.mv.ownBlock = some g' ∨ w.heap.size ≤ g') :
    Bb2 w' gx n (.slice (some ⟨g, 0, none⟩) m c) ∧ w'.heap[g]? = w.heap[g]? ∧ XA B W (w'.setCell ⟨g, k * 5 + 4, none⟩ (.slice (some ⟨g', 0, none⟩) l'.length c')) gx n (some ⟨g, 0, none⟩) m c (R.set k ⟨{ r.v with l := l' }, [], some ⟨g', 0, none⟩, c'⟩) := by
  have hv : (Value.slice (some ⟨g, 0, none⟩) m c).ownBlock = some g := rfl
  have ht : Tc (.slice (some ⟨g, 0, none⟩) m c) R g := .inl hv
  have hne : gx ≠ g := fun e => h.box.ntc h.fo (by rw [e]; exact ht)
  have hbx : w'.heap[gx]? = w.heap[gx]? := hf gx (lt_of_block h.box) (fun q => h.box.ntc h.fo (.inr ⟨k, r, hk, q⟩))
  have hgg : w'.heap[g]? = w.heap[g]? := hf g (h.fo.tc ht).2 (h.fo.vm hk hv)
  have hsz := h.ot.size
  have hO : Ot (fun g => B ≤ g ∧ g ≤ gx) W w' := ⟨hb.os.trans h.ot.os, hb.tape.trans h.ot.tape, hb.output.trans h.ot.output, Nat.le_trans h.ot.size hb.size, fun j hj hn => by
    refine (hf j (by omega) (fun q => ?_)).trans (h.ot.block j hj hn)
    rcases h.xs (.inr ⟨k, r, hk, q⟩) with q | q
    · exact hn q
    · omega⟩
  refine ⟨h.box.oth hbx, hgg, ⟨h.fo.setMeta h.len.symm hk ho hb.size hf hg, by rw [List.length_set]; exact h.len, (h.box.oth hbx).oth (hso _ _ hne), fun b hb' => ?_, hO.put (h.xs ht), h.le, h.lt⟩⟩
  have := tc_set (s := w.heap.size) hk (fun x hx => by
    have e : g' = x := by simpa [Rv.mv, Value.ownBlock] using hx
    rw [← e]; exact hg) hb'
  rcases this with q | q
  · exact h.tc b q
  · right; omega
/-- a pair behind a version's pairs -/
theorem XA.growp {B : Nat} {W w : World} {gx : Nat} {n : Int} {g m c : Nat} {R : List Rv} (h : XA B W w gx n (some ⟨g, 0, none⟩) m c R) {k : Nat} {r : Rv} (hk : R[k]? = some r) (hz : r.z = []) (hn : r.v.l.length ≤ 1000000) (p : En) (w1 : World) (hw : Below w.heap.size w w1) :
    ∃ g' c' w', (Builtin.append_ #[43, 43] 43 #[.slice r.a r.v.l.length r.c, .slice (some ⟨w1.heap.size, 0, none⟩) 1 1]).run Tryz.prog (w1.alloc (.cells #[str p.key, str p.val] 49)) = .ok (.slice (some ⟨g', 0, none⟩) (r.v.l.length + 1) c') w' ∧
      Bb2 w' gx n (.slice (some ⟨g, 0, none⟩) m c) ∧ w'.heap[g]? = w.heap[g]? ∧ XA B W (w'.setCell ⟨g, k * 5 + 4, none⟩ (.slice (some ⟨g', 0, none⟩) (r.v.l.length + 1) c')) gx n (some ⟨g, 0, none⟩) m c (R.set k ⟨{ r.v with l := r.v.l ++ [p] }, [], some ⟨g', 0, none⟩, c'⟩) := by
  have h1 := h.later hw
  have hO := h1.fo.met k r hk
  have hmv : r.mv = .slice r.a r.v.l.length r.c := by unfold Rv.mv; rw [hz]; rfl
  rw [hz, List.append_nil, hmv] at hO
  obtain ⟨i0, hi0, hz0, hz1, hz2⟩ := infoP
  have hmx : maxLen = 9223372036854775807 := rfl
  obtain ⟨g2, cap2, w', hr, hown, hgrow, hat, hlt⟩ := run_append_lies (P := Tryz.prog) (w := w1.alloc (.cells #[str p.key, str p.val] 49)) 43 43 B 49 i0 _ 2 32 Tryz.underlying43 hi0 hz0 hz1 hz2 rfl (by omega) _ r.v.l.length (pcells r.v.l) (hO.own.alloc _) ⟨w1.heap.size, 0, none⟩ 1 1 (pcs p) rfl
    (World.news_of_block (cs := #[str p.key, str p.val]) (t := 49) (fr := (0, 0)) (heap_alloc_new w1 _)) (by simp [pcs, Value.oneCell']) (by omega) (by rw [hmx]; omega) (by omega) (by have := hO.le; simp; omega) _ rfl
  have hb : Below B w1 w' := ((Below.refl _ _).alloc hO.le _).trans (grown_below (hO.own.alloc _) (by have := hO.le; simp; omega) hgrow)
  have hkk : ∀ b, b < w1.heap.size → r.mv.ownBlock ≠ some b → w'.heap[b]? = w1.heap[b]? := fun b hb1 hne => by
    rw [hmv] at hne
    rw [hgrow.block b (by simp; omega) (Ne.symm hne)]
    first | exact heap_alloc_old _ _ hb1 | exact heap_alloc_old _ _ _ hb1
  have ho2 : Ow B w' (.slice (some ⟨g2, 0, none⟩) (r.v.l ++ [p]).length cap2) (r.v.l ++ [p]) := by
    refine ⟨?_, Nat.le_trans hO.le hb.size⟩
    rw [pcells_append, List.length_append]
    have : pcells [p] = pcs p := by simp [pcells]
    rw [this]; exact hown
  obtain ⟨q1, q2, q3⟩ := h1.grow hk ho2 hb hkk (by
    rw [hmv]
    rcases hat with q | q
    · exact .inl q
    · right; rw [q]; simp)
  rw [List.length_append] at q3
  exact ⟨g2, cap2, w', hr, q1, q2.trans (hw.block g (h.fo.tc (.inl rfl)).2), q3⟩
/-- rows beside the rows that were told first -/
structure Rl0 (P : Nat → Rv → Rv → Prop) (R0 R : List Rv) : Prop where
  len : R.length = R0.length
  at' : ∀ (j : Nat) (r0 r : Rv), R0[j]? = some r0 → R[j]? = some r → P j r0 r
theorem Rl0.get {P : Nat → Rv → Rv → Prop} {R0 R : List Rv} (h : Rl0 P R0 R) {j : Nat} (hj : j < R0.length) : ∃ r0 r, R0[j]? = some r0 ∧ R[j]? = some r ∧ P j r0 r := by
  have hj' : j < R.length := by rw [h.len]; exact hj
  exact ⟨R0[j], R[j], List.getElem?_eq_getElem hj, List.getElem?_eq_getElem hj', h.at' j _ _ (List.getElem?_eq_getElem hj) (List.getElem?_eq_getElem hj')⟩
theorem Rl0.set {P Q : Nat → Rv → Rv → Prop} {R0 R : List Rv} (h : Rl0 P R0 R) {k : Nat} {r0 r' : Rv} (hk : R0[k]? = some r0) (hq : Q k r0 r') (ho : ∀ (j : Nat) (r0 r : Rv), ¬ j = k → P j r0 r → Q j r0 r) : Rl0 Q R0 (R.set k r') := by
  refine ⟨by rw [List.length_set]; exact h.len, fun j x r hx hr => ?_⟩
  rcases set_get hr with ⟨rfl, rfl⟩ | ⟨hj, hr⟩
  · rw [hk] at hx
    injection hx with hx
    subst hx
    exact hq
  · exact ho j x r hj (h.at' j x r hx hr)
theorem Rl0.mono {P Q : Nat → Rv → Rv → Prop} {R0 R : List Rv} (h : Rl0 P R0 R) (ho : ∀ (j : Nat) (r0 r : Rv), R0[j]? = some r0 → P j r0 r → Q j r0 r) : Rl0 Q R0 R :=
  ⟨h.len, fun j x r hx hr => ho j x r hx (h.at' j x r hx hr)⟩
theorem Rl0.here {P : Nat → Rv → Rv → Prop} {R0 R : List Rv} (h : Rl0 P R0 R) {j : Nat} {r0 : Rv} (hr : R0[j]? = some r0) : ∃ r, R[j]? = some r ∧ P j r0 r := by
  obtain ⟨x, r, h1, h2, h3⟩ := h.get (List.getElem?_eq_some_iff.1 hr).1
  rw [hr] at h1
  injection h1 with h1
  subst h1
  exact ⟨r, h2, h3⟩
/-- of a version's pairs the first m are marked -/
structure Mk0 (m : Nat) (r0 r : Rv) : Prop where
  z : r.z = []
  key : r.v.key = r0.v.key
  len : r.v.l.length = r0.v.l.length
  mrk : ∀ (j : Nat) (p : En), j < m → r.v.l[j]? = some p → p.key = kmrk
theorem Mk0.next {m : Nat} {r0 r : Rv} (h : Mk0 m r0 r) : Mk0 (m + 1) r0 { r with v := { r.v with l := r.v.l.set m ⟨kmrk, []⟩ } } := by
  refine ⟨h.z, h.key, by rw [← h.len]; exact List.length_set, fun j p hj hp => ?_⟩
  have hp : (r.v.l.set m ⟨kmrk, []⟩)[j]? = some p := hp
  by_cases e : j = m
  · subst e
    have hl := (List.getElem?_eq_some_iff.1 hp).1
    rw [List.getElem?_set_self (by simpa using hl)] at hp
    injection hp with hp
    rw [← hp]
  · rw [List.getElem?_set_ne (fun q => e q.symm)] at hp
    exact h.mrk j p (by omega) hp
/-- m pairs are grown behind the marked ones -/
structure Gr0 (m : Nat) (r0 r : Rv) : Prop where
  z : r.z = []
  key : r.v.key = r0.v.key
  l : ∃ l, r.v.l = l ++ List.replicate m ⟨kgrw, []⟩ ∧ l.length = r0.v.l.length ∧ ∀ p ∈ l, p.key = kmrk
theorem Mk0.gr {m : Nat} {r0 r : Rv} (h : Mk0 m r0 r) (hm : r0.v.l.length ≤ m) : Gr0 0 r0 r := ⟨h.z, h.key, r.v.l, by simp, h.len, fun p hp => by
  obtain ⟨j, hj, e⟩ := List.getElem_of_mem hp
  exact h.mrk j p (by rw [h.len] at hj; omega) (by rw [List.getElem?_eq_getElem hj, e])⟩
theorem Gr0.len {m : Nat} {r0 r : Rv} (h : Gr0 m r0 r) : r.v.l.length = r0.v.l.length + m := by
  obtain ⟨l, e, h1, _⟩ := h.l
  rw [e, List.length_append, List.length_replicate, h1]
theorem Gr0.next {m : Nat} {r0 r : Rv} (h : Gr0 m r0 r) (a : Option Addr) (c : Nat) : Gr0 (m + 1) r0 ⟨{ r.v with l := r.v.l ++ [⟨kgrw, []⟩] }, [], a, c⟩ := by
  obtain ⟨l, e, h1, h2⟩ := h.l
  exact ⟨rfl, h.key, l, by show r.v.l ++ _ = _; rw [e, List.replicate_succ', List.append_assoc], h1, h2⟩
theorem Gr0.pair {m : Nat} {r0 r : Rv} (h : Gr0 m r0 r) {j : Nat} {p : En} (hp : r.v.l[j]? = some p) : (j < r0.v.l.length ∧ p.key = kmrk) ∨ (¬ j < r0.v.l.length ∧ p.key = kgrw) := by
  obtain ⟨l, e, h1, h2⟩ := h.l
  rw [e] at hp
  by_cases hj : j < l.length
  · rw [List.getElem?_append_left hj] at hp
    exact .inl ⟨by omega, h2 p (List.mem_of_getElem? hp)⟩
  · rw [List.getElem?_append_right (by omega)] at hp
    have := List.eq_of_mem_replicate (List.mem_of_getElem? hp)
    exact .inr ⟨by omega, by rw [this]⟩
/-- what is asked of the rows, at a place of the loops -/
def Pm (i q : Nat) (j : Nat) (r0 r : Rv) : Prop := Mk0 (if j < i then r0.v.l.length else if j = i then q else 0) r0 r
def Pg (i q : Nat) (j : Nat) (r0 r : Rv) : Prop := Gr0 (if j < i then 8 else if j = i then q else 0) r0 r
theorem Pm.at' {i q : Nat} {r0 r : Rv} (h : Pm i q i r0 r) : Mk0 q r0 r := by unfold Pm at h; rw [if_neg (Nat.lt_irrefl i), if_pos rfl] at h; exact h
theorem Pg.at' {i q : Nat} {r0 r : Rv} (h : Pg i q i r0 r) : Gr0 q r0 r := by unfold Pg at h; rw [if_neg (Nat.lt_irrefl i), if_pos rfl] at h; exact h
theorem pm_start {R : List Rv} (hz : ∀ r ∈ R, r.z = []) : Rl0 (Pm 0 0) R R := ⟨rfl, fun j r0 r h0 h1 => by
  rw [h0] at h1
  injection h1 with h1
  subst h1
  unfold Pm
  rw [if_neg (Nat.not_lt_zero _)]
  exact ⟨hz _ (List.mem_of_getElem? h0), rfl, rfl, fun k p hk => by split at hk <;> omega⟩⟩
theorem pm_step {i q : Nat} {R0 R : List Rv} (h : Rl0 (Pm i q) R0 R) {r0 r : Rv} (h0 : R0[i]? = some r0) (h1 : Mk0 q r0 r) : Rl0 (Pm i (q + 1)) R0 (R.set i { r with v := { r.v with l := r.v.l.set q ⟨kmrk, []⟩ } }) :=
  h.set h0 (by unfold Pm; rw [if_neg (Nat.lt_irrefl i), if_pos rfl]; exact h1.next) (fun j x y hj hp => by unfold Pm at hp ⊢; rw [if_neg hj] at hp ⊢; exact hp)
theorem pm_next {i : Nat} {R0 R : List Rv} {r0 : Rv} (h0 : R0[i]? = some r0) (h : Rl0 (Pm i r0.v.l.length) R0 R) : Rl0 (Pm (i + 1) 0) R0 R :=
  h.mono (fun j x y hx hp => by
    unfold Pm at hp ⊢
    by_cases hj : j < i
    · rw [if_pos hj] at hp; rw [if_pos (by omega)]; exact hp
    · by_cases e : j = i
      · subst e
        rw [if_neg hj, if_pos rfl] at hp
        rw [h0] at hx
        injection hx with hx
        subst hx
        rw [if_pos (by omega)]; exact hp
      · rw [if_neg hj, if_neg e] at hp
        rw [if_neg (by omega)]
        split <;> exact hp)
theorem pm_end {R0 R : List Rv} (h : Rl0 (Pm R0.length 0) R0 R) : Rl0 (Pg 0 0) R0 R :=
  h.mono (fun j x y hx hp => by
    unfold Pm at hp
    rw [if_pos (List.getElem?_eq_some_iff.1 hx).1] at hp
    unfold Pg
    rw [if_neg (Nat.not_lt_zero _)]
    have := hp.gr (Nat.le_refl _)
    split <;> exact this)
theorem pg_step {i q : Nat} {R0 R : List Rv} (h : Rl0 (Pg i q) R0 R) {r0 r : Rv} (h0 : R0[i]? = some r0) (h1 : Gr0 q r0 r) (a : Option Addr) (c : Nat) : Rl0 (Pg i (q + 1)) R0 (R.set i ⟨{ r.v with l := r.v.l ++ [⟨kgrw, []⟩] }, [], a, c⟩) :=
  h.set h0 (by unfold Pg; rw [if_neg (Nat.lt_irrefl i), if_pos rfl]; exact h1.next a c) (fun j x y hj hp => by unfold Pg at hp ⊢; rw [if_neg hj] at hp ⊢; exact hp)
theorem pg_next {i : Nat} {R0 R : List Rv} (h : Rl0 (Pg i 8) R0 R) : Rl0 (Pg (i + 1) 0) R0 R :=
  h.mono (fun j x y hx hp => by
    unfold Pg at hp ⊢
    by_cases hj : j < i
    · rw [if_pos hj] at hp; rw [if_pos (by omega)]; exact hp
    · by_cases e : j = i
      · subst e
        rw [if_neg hj, if_pos rfl] at hp
        rw [if_pos (by omega)]; exact hp
      · rw [if_neg hj, if_neg e] at hp
        rw [if_neg (by omega)]
        split <;> exact hp)
theorem pg_end {R0 R : List Rv} (h : Rl0 (Pg R0.length 0) R0 R) : Rl0 (fun _ r0 r => Gr0 8 r0 r) R0 R :=
  h.mono (fun j x y hx hp => by
    unfold Pg at hp
    rw [if_pos (List.getElem?_eq_some_iff.1 hx).1] at hp
    exact hp)
/-- the list itself, in its box, whatever it holds -/
structure XB (B : Nat) (W w : World) (gx : Nat) (n : Int) (a : Option Addr) (m c : Nat) : Prop where
  own : ∃ xs, w.ownsRow B 54 5 (.slice a m c) m xs ∧ xs.length = m * 5
  box : Bb2 w gx n (.slice a m c)
  tc : ∀ g, (Value.slice a m c).ownBlock = some g → g < gx ∨ W.heap.size ≤ g
  ot : Ot (fun g => B ≤ g ∧ g ≤ gx) W w
  le : B ≤ gx
  lt : gx < W.heap.size
theorem XA.xb {B : Nat} {W w : World} {gx : Nat} {n : Int} {a : Option Addr} {m c : Nat} {R : List Rv} (h : XA B W w gx n a m c R) : XB B W w gx n a m c := ⟨⟨_, by rw [← h.len]; have := h.fo.own; rw [← h.len] at this; exact this, by rw [rcells_length, h.len]⟩, h.box, fun g hg => h.tc g (.inl hg), h.ot, h.le, h.lt⟩
theorem XB.later {B : Nat} {W w w' : World} {gx : Nat} {n : Int} {a : Option Addr} {m c : Nat} (h : XB B W w gx n a m c) (hb : Below w.heap.size w w') : XB B W w' gx n a m c := by
  obtain ⟨xs, h1, h2⟩ := h.own
  exact ⟨⟨xs, own_later h1 hb, h2⟩, h.box.later hb, h.tc, h.ot.trans (Ot.bel hb), h.le, h.lt⟩
/-- the place of a version -/
theorem XB.row {B : Nat} {W w : World} {gx : Nat} {n : Int} {a : Option Addr} {m c : Nat} (h : XB B W w gx n a m c) {k : Nat} (hk : k < m) : ∃ g, a = some ⟨g, 0, none⟩ ∧ gx ≠ g ∧ (∀ j, j < 5 → ∃ u, w.cell? ⟨g, k * 5 + j, none⟩ = some u) ∧ (∀ j, w.frozen? ⟨g, j, none⟩ = false) ∧
    ∀ (j : Nat) (v : Value), XB B W (w.setCell ⟨g, j, none⟩ v) gx n (some ⟨g, 0, none⟩) m c := by
  obtain ⟨xs, ho, hl⟩ := h.own
  have h0 := ho.2
  rcases h0 with ⟨e, e0⟩ | ⟨g, cp, cur, e, h2, h3, h4, h5, h6, h7⟩
  · omega
  · injection e with e1 e2 e3
    subst e1 e3
    have hne : gx ≠ g := fun q => h.box.nown ho (by decide) (by rw [q]; rfl)
    have hx : (B ≤ g ∧ g ≤ gx) ∨ W.heap.size ≤ g := by
      rcases h.tc g rfl with q | q
      · left; have := (ho.lt g rfl).1; omega
      · exact .inr q
    refine ⟨g, rfl, hne, fun j hj => ?_, fun j => frozen_of_row _ _ _ _ _ h3, fun j v => ⟨⟨_, own_cellT ho j v, by rw [List.length_set]; exact hl⟩, h.box.oth (hso _ _ hne), h.tc, h.ot.put hx, h.le, h.lt⟩⟩
    have hj2 : k * 5 + j < xs.length := by omega
    exact ⟨xs[k * 5 + j], by rw [ho.cellAt _ (by omega), List.getElem?_eq_getElem hj2]⟩
/-- a version behind it -/
theorem XB.app {B : Nat} {W w : World} {gx : Nat} {n : Int} {a : Option Addr} {m c : Nat} (h : XB B W w gx n a m c) (hm : m ≤ 1000000) (r : Rv) :
    ∃ g' c' w', ((Builtin.append_ #[22, 22] 22 #[.slice a m c, .slice (some ⟨w.heap.size, 0, none⟩) 1 1]).run Tryz.prog (w.alloc (.cells (rcs r).toArray 54)) = .ok (.slice (some ⟨g', 0, none⟩) (m + 1) c') w') ∧ Bb2 w' gx n (.slice a m c) ∧ XB B W (w'.setCell ⟨gx, 1, none⟩ (.slice (some ⟨g', 0, none⟩) (m + 1) c')) gx n (some ⟨g', 0, none⟩) (m + 1) c' := by
  obtain ⟨xs, ho, hl⟩ := h.own
  obtain ⟨i0, hi, hz0, hz1, hz2⟩ := Stk.infoV
  have hmx : maxLen = 9223372036854775807 := rfl
  have hsz := h.ot.size
  have hle : B ≤ w.heap.size := by have := h.le; have := h.lt; omega
  have o1 := ho.alloc (.cells (rcs r).toArray 54)
  obtain ⟨g2, cap2, w', hr, hown, hgrow, hat, hlt⟩ := run_append_lies (P := Tryz.prog) (w := w.alloc (.cells (rcs r).toArray 54)) 22 22 B 54 i0 _ 5 72 Tryz.underlying22 hi hz0 hz1 hz2 rfl (by omega) (.slice a m c) m xs o1 ⟨w.heap.size, 0, none⟩ 1 1 (rcs r) rfl
    (World.news_of_block (cs := (rcs r).toArray) (t := 54) (fr := (0, 0)) (heap_alloc_new w _)) (by simp [rcs, Value.oneCell']) (by omega) (by rw [hmx]; omega) (by omega) (by simp; omega) _ rfl
  have hk : ∀ k, k < w.heap.size → (Value.slice a m c).ownBlock ≠ some k → w'.heap[k]? = w.heap[k]? := fun k hk hne => by
    rw [hgrow.block k (by simp; omega) (Ne.symm hne)]
    first | exact heap_alloc_old _ _ hk | exact heap_alloc_old _ _ _ hk
  have hb : Below B w w' := ((Below.refl _ _).alloc hle _).trans (grown_below o1 (by simp; omega) hgrow)
  have hbx := h.box.oth (hk gx (lt_of_block h.box) (h.box.nown ho (by decide)))
  have hg2 : ∀ g, (Value.slice (some ⟨g2, 0, none⟩) (m + 1) cap2).ownBlock = some g → g < gx ∨ W.heap.size ≤ g := fun g hg => by
    have e : g2 = g := by simpa [Value.ownBlock] using hg
    subst e
    rcases hat with q | q
    · exact h.tc _ q
    · right; rw [q]; simp; omega
  refine ⟨g2, cap2, w', hr, hbx, ⟨⟨_, own_keep hown (fun g hg => hso _ _ (fun q => ?_)), by simp [hl, rcs]; omega⟩, hbx.set1 _, hg2, ?_, h.le, h.lt⟩⟩
  · rw [q] at hg
    exact hbx.nown hown (by decide) hg
  · refine Ot.put ⟨hb.os.trans h.ot.os, hb.tape.trans h.ot.tape, hb.output.trans h.ot.output, Nat.le_trans h.ot.size hb.size, fun j hj hn => ?_⟩ (.inl ⟨h.le, Nat.le_refl _⟩)
    refine (hk j (by omega) (fun q => ?_)).trans (h.ot.block j hj hn)
    rcases h.tc j q with q2 | q2
    · exact hn ⟨(ho.lt j q).1, by omega⟩
    · omega
theorem XB.put5 {B : Nat} {W w : World} {gx : Nat} {n : Int} {a : Option Addr} {m c : Nat} (h : XB B W w gx n a m c) {k : Nat} (hk : k < m) : ∃ g, a = some ⟨g, 0, none⟩ ∧ (∃ u0 u1 u2 u3 u4, w.cell? ⟨g, k * 5, none⟩ = some u0 ∧ w.cell? ⟨g, k * 5 + 1, none⟩ = some u1 ∧ w.cell? ⟨g, k * 5 + 2, none⟩ = some u2 ∧ w.cell? ⟨g, k * 5 + 3, none⟩ = some u3 ∧ w.cell? ⟨g, k * 5 + 4, none⟩ = some u4) ∧ (∀ j, w.frozen? ⟨g, j, none⟩ = false) ∧
    ∀ (v0 v1 v2 v3 v4 : Value), XB B W (((((w.setCell ⟨g, k * 5, none⟩ v0).setCell ⟨g, k * 5 + 1, none⟩ v1).setCell ⟨g, k * 5 + 2, none⟩ v2).setCell ⟨g, k * 5 + 3, none⟩ v3).setCell ⟨g, k * 5 + 4, none⟩ v4) gx n a m c := by
  obtain ⟨g, rfl, _, hc, hf, hx⟩ := h.row hk
  obtain ⟨u0, h0⟩ := hc 0 (by omega)
  obtain ⟨u1, h1⟩ := hc 1 (by omega)
  obtain ⟨u2, h2⟩ := hc 2 (by omega)
  obtain ⟨u3, h3⟩ := hc 3 (by omega)
  obtain ⟨u4, h4⟩ := hc 4 (by omega)
  refine ⟨g, rfl, ⟨u0, u1, u2, u3, u4, h0, h1, h2, h3, h4⟩, hf, fun v0 v1 v2 v3 v4 => ?_⟩
  have step : ∀ {w' : World}, XB B W w' gx n (some ⟨g, 0, none⟩) m c → ∀ (j : Nat) (v : Value), XB B W (w'.setCell ⟨g, j, none⟩ v) gx n (some ⟨g, 0, none⟩) m c := fun h' j v => by
    obtain ⟨g', e, _, _, _, hx'⟩ := h'.row hk
    injection e with e
    injection e with e
    subst e
    exact hx' j v
  exact step (step (step (step (step h _ _) _ _) _ _) _ _) _ _
end Go.Proofs.YtcmmbdcflblekaaGreatDoor

/- ArchiveApart: the walk. -/
namespace Go.Proofs.YtcmmbdcflblekaaGreatDoor
set_option maxRecDepth 100000
set_option linter.unusedVariables false
set_option linter.unusedSimpArgs false
open Go.RowKit
open Go.Proofs.YtcmmbdcflblekaaGreatDoorP (TB)
open Go.Proofs.YtcmmbdcflblekaaGreatDoorH (KIn)
open Stk (Rv rcs rcells rcells_append rcells_length rcells_get Fo Tc Ot set_get tc_set own_cellT)
attribute [local go_sem ↓] Go.wp_at_zero Go.wp_at_succ ad9 Go.Proofs.YtcmmbdcflblekaaGreatDoorP.sl9
attribute [-go_sem] Go.Builtin.append_
/-- what the walk keeps beside the list that turns -/
structure Ak (w4 w : World) (P : List Vs) (n : Int) (gb : Nat) (va : Option Addr) (vc : Nat) (gy : Nat) (ya : Option Addr) (yc : Nat) : Prop where
  bel : Below w4.heap.size w4 w
  b : Bb2 w gb n (.slice va P.length vc)
  vb : VIn w va P
  y : Bb2 w gy n (.slice ya P.length yc)
  vy : VIn w ya P
theorem Ak.later {w4 w w' : World} {P : List Vs} {n : Int} {gb : Nat} {va : Option Addr} {vc : Nat} {gy : Nat} {ya : Option Addr} {yc : Nat} (h : Ak w4 w P n gb va vc gy ya yc) (hb : Below w.heap.size w w') : Ak w4 w' P n gb va vc gy ya yc :=
  ⟨h.bel.trans (hb.mono h.bel.size), h.b.later hb, h.vb.later hb, h.y.later hb, h.vy.later hb⟩
theorem ak_ot {w4 W : World} {P : List Vs} {n : Int} {gb : Nat} {va : Option Addr} {vc : Nat} {gx gy : Nat} {ya : Option Addr} {yc : Nat} {Ry : List Rv} (hb : Below w4.heap.size w4 W) (hbb : Bb2 w4 gb n (.slice va P.length vc)) (hv : VIn w4 va P) (hle : w4.heap.size ≤ gx)
    (hF : Fo (gx + 1) W (.slice ya P.length yc) Ry) (hR : Ry.map (·.v) = P) (hy : Bb2 W gy n (.slice ya P.length yc)) (hgy : gx < gy) {w : World} (ho : Ot (fun g => w4.heap.size ≤ g ∧ g ≤ gx) W w) : Ak w4 w P n gb va vc gy ya yc := by
  have h1 : Below w4.heap.size w4 w := hb.trans (ho.below hb.size (fun k hk => hk.1))
  refine ⟨h1, hbb.later h1, hv.later h1, hy.oth (ho.block gy (lt_of_block hy) (fun q => by omega)), fo_vin2 hR (hF.frame ho.size (fun g hg => ho.block g (hF.tc hg).2 (fun q => ?_)))⟩
  have := (hF.tc hg).1
  omega
theorem froz_heap {w w' : World} {b : Nat} (h : w'.heap[b]? = w.heap[b]?) (j : Nat) : w'.frozen? ⟨b, j, none⟩ = w.frozen? ⟨b, j, none⟩ := by
  unfold World.frozen?
  simp only [h]
theorem w8a {K N : Nat} (h : N = K + 8) (hk : K ≤ 5) : wrap64 ((K : Int) + 8) = (N : Int) := by
  subst h
  have : ((K + 8 : Nat) : Int) = (K : Int) + 8 := rfl
  unfold wrap64
  omega
theorem w8b {K N : Nat} (h : N = K + 8) (hk : K ≤ 5) : IntKind.i64.wrap ((K : Int) + 8) = (N : Int) := by
  subst h
  rw [IntKind.wrap_i64]
  omega
set_option maxRecDepth 100000 in
set_option maxHeartbeats 8000000 in
theorem apart_walk (L : List Vs) (n : Int) (w : World) (a : Option Addr) (cap : Nat) (hL : VIn w a L) (hz : L.length ≤ 4611686018427387904) (hT : TB w) (hE : EG w) (hK : KIn w) :
    Calls Tryz.prog 6 #[.agg #[.int .i64 n, .slice a L.length cap]] w fun e w' => e = .returned (.bool true) ∧ Below w.heap.size w w' := by
  have HT := Hid.mk hT
  have HE := Hid.mk hE
  have HK := Hid.mk hK
  have b1 := (Below.refl w.heap.size w).alloc (Nat.le_refl _) (.cells #[.int .i64 n, .slice a L.length cap] 24)
  have z1 := Bb2.new w n (.slice a L.length cap)
  have HV := Hid.mk (hL.later b1)
  have HZ := Hid.mk z1
  have HB := Hid.mk b1
  have hf := first_any _ (hT.below b1) (hE.below b1) (hK.seq b1)
  clear hT hE hK b1 z1 hL
  go_enter Tryz.func6, Tryz.ntmps6
  go_wp2_with fail
  generalize w.alloc (.cells #[.int .i64 n, .slice a L.length cap] 24) = w1 at *
  generalize hg1 : w.heap.size = g1 at HZ ⊢
  have HG1 := Hid.mk hg1
  clear hg1
  with_reducible refine Calls.mono hf ?_
  rintro e w2 ⟨rfl, b2⟩
  have HB2 := Hid.mk (below_seq HB.out b2)
  obtain ⟨c0, c1⟩ := (HZ.out.later b2).cells
  have hm := made2_any L n w2 a cap (HV.out.later b2) hz
  clear hf b2 HV HZ HB
  dsimp only
  go_wp2_with fail
  with_reducible refine Calls.mono hm ?_
  rintro e w3 ⟨⟨P, m, sq, va, vc⟩, rfl, hon, b3⟩
  have hO : OfR P m 0 := hon.of
  have HPn : Hid (P.length ≤ 40) := ⟨hon.mdl.len⟩
  have HPl : Hid (∀ v ∈ P, v.l.length ≤ 5) := ⟨fun v hv => (hon.mdl.ok v hv).t⟩
  have hvin : VIn w3 va P := hon.vin
  have bx := (Below.refl w3.heap.size w3).alloc (Nat.le_refl _) (.cells #[.int .i64 m, .slice va P.length vc] 24)
  have HB3 := Hid.mk (below_seq (below_seq HB2.out b3) bx)
  have HX3 : Hid (Bb2 (w3.alloc (.cells #[.int .i64 m, .slice va P.length vc] 24)) w3.heap.size m (.slice va P.length vc) ∧ VIn (w3.alloc (.cells #[.int .i64 m, .slice va P.length vc] 24)) va P) := ⟨Bb2.new _ _ _, hvin.later bx⟩
  have HO := Hid.mk hO
  clear hm hon b3 hvin bx hO c0 c1 HB2
  dsimp only
  go_wp2_with fail
  generalize w3.alloc (.cells #[.int .i64 m, .slice va P.length vc] 24) = W3 at *
  generalize w3.heap.size = gb at *
  have hc := en_of HO.out (cap := vc) HX3.out.2 (HT.out.below HB3.out) (HK.out.seq HB3.out)
  have HArc : Hid (Arc (arc P m 0) P m 0 ∧ (arc P m 0).length ≤ 6010000000) := ⟨⟨HO.out, rfl⟩, arc_len_le HO.out⟩
  generalize arc P m 0 = s at *
  with_reducible refine Calls.mono hc ?_
  rintro e w4 ⟨rfl, b4⟩
  have HB4 := Hid.mk (below_seq HB3.out b4)
  have HX4 : Hid (Bb2 w4 gb m (.slice va P.length vc) ∧ VIn w4 va P) := ⟨HX3.out.1.later b4, HX3.out.2.later b4⟩
  have hd := decode_any s w4 (by have := HArc.out.2; omega) (HT.out.below HB4.out) (HE.out.below HB4.out) (HK.out.seq HB4.out)
  clear hc b4 HB3 HX3
  dsimp only
  go_wp2_with fail
  with_reducible refine Calls.mono hd ?_
  rintro e w5 h5
  obtain ⟨R, xa, xc, rfl, hR, hRz, hF, b5⟩ := h5.yes HArc.out.1
  have bx := (Below.refl w5.heap.size w5).alloc (Nat.le_refl _) (.cells #[.int .i64 m, .slice xa P.length xc] 24)
  have HB45 := Hid.mk (below_seq b5 bx)
  have HB5 := Hid.mk (below_seq HB4.out HB45.out)
  have HF := Hid.mk (hF.later bx)
  have HTc : Hid (∀ g, Tc (.slice xa P.length xc) R g → g < w5.heap.size) := ⟨fun g hg => (hF.tc hg).2⟩
  have HX5 := Hid.mk (Bb2.new w5 m (.slice xa P.length xc))
  have HS5 : Hid ((w5.alloc (.cells #[.int .i64 m, .slice xa P.length xc] 24)).heap.size = w5.heap.size + 1 ∧ w4.heap.size ≤ w5.heap.size) := ⟨by simp, b5.size⟩
  have HR : Hid (R.map (·.v) = P ∧ R.length = P.length ∧ ∀ r ∈ R, r.z = []) := ⟨hR, by rw [← hR, List.length_map], hRz⟩
  clear hd h5 hR hRz hF b5 bx
  dsimp only
  go_wp2_with fail
  generalize w5.alloc (.cells #[.int .i64 m, .slice xa P.length xc] 24) = W5 at *
  generalize w5.heap.size = gx at *
  have hd := decode_any s W5 (by have := HArc.out.2; omega) (HT.out.below HB5.out) (HE.out.below HB5.out) (HK.out.seq HB5.out)
  with_reducible refine Calls.mono hd ?_
  rintro e w6 h6
  obtain ⟨Ry, ya, yc, rfl, hRy, _, hFy, b6⟩ := h6.yes HArc.out.1
  have bx := (Below.refl w6.heap.size w6).alloc (Nat.le_refl _) (.cells #[.int .i64 m, .slice ya P.length yc] 24)
  have b56 := below_seq b6 bx
  have HB46 := Hid.mk (below_seq HB45.out b56)
  have HB6 := Hid.mk (below_seq HB5.out b56)
  have HF6 := Hid.mk (HF.out.later b56)
  have HX6 := Hid.mk (HX5.out.later b56)
  have HY6 : Hid (Fo (gx + 1) (w6.alloc (.cells #[.int .i64 m, .slice ya P.length yc] 24)) (.slice ya P.length yc) Ry ∧ Ry.map (·.v) = P ∧ Bb2 (w6.alloc (.cells #[.int .i64 m, .slice ya P.length yc] 24)) w6.heap.size m (.slice ya P.length yc) ∧ gx < w6.heap.size) := ⟨by rw [HS5.out.1] at hFy; exact hFy.later bx, hRy, Bb2.new _ _ _, by have := b6.size; rw [HS5.out.1] at this; omega⟩
  have HX46 : Hid (VIn (w6.alloc (.cells #[.int .i64 m, .slice ya P.length yc] 24)) xa P ∧ VIn (w6.alloc (.cells #[.int .i64 m, .slice ya P.length yc] 24)) ya P ∧ VIn (w6.alloc (.cells #[.int .i64 m, .slice ya P.length yc] 24)) va P) := ⟨fo_vin2 HR.out.1 HF6.out, (fo_vin2 hRy hFy).later bx, HX4.out.2.later HB46.out⟩
  clear hd h6 hFy hRy b6 bx b56 HB45 HB5 HF HX5
  obtain ⟨x0, x1⟩ := HX6.out.cells
  obtain ⟨y0, y1⟩ := HY6.out.2.2.1.cells
  obtain ⟨q0, q1⟩ := (HX4.out.1.later HB46.out).cells
  dsimp only
  go_wp2_with fail
  generalize w6.alloc (.cells #[.int .i64 m, .slice ya P.length yc] 24) = W6 at *
  generalize w6.heap.size = gy at *
  have hs := sm_of HO.out HO.out (cap := xc) (cap' := vc) HX46.out.1 HX46.out.2.2
  rw [svB_true ⟨rfl, rfl⟩] at hs
  with_reducible refine Calls.mono hs ?_
  rintro e w7 ⟨rfl, b7⟩
  clear hs x0 x1 y0 y1 q0 q1
  have hs := sm_of HO.out HO.out (cap := yc) (cap' := vc) (HX46.out.2.1.later b7) (HX46.out.2.2.later b7)
  rw [svB_true ⟨rfl, rfl⟩] at hs
  obtain ⟨x0, x1⟩ := (HX6.out.later b7).cells
  obtain ⟨y0, y1⟩ := (HY6.out.2.2.1.later b7).cells
  obtain ⟨q0, q1⟩ := ((HX4.out.1.later HB46.out).later b7).cells
  dsimp only
  go_wp2_with fail
  with_reducible refine Calls.mono hs ?_
  rintro e w8 ⟨rfl, b8⟩
  have b68 := below_seq b7 b8
  clear hs x0 x1 y0 y1 q0 q1 b7 b8
  have HB8 := Hid.mk (below_seq HB6.out b68)
  have HB48 := Hid.mk (below_seq HB46.out b68)
  have HXA : Hid (XA w4.heap.size w8 w8 gx m xa P.length xc R) := ⟨⟨HF6.out.later b68, HR.out.2.1, HX6.out.later b68, fun g hg => .inl (HTc.out g hg), Ot.refl _ _, HS5.out.2, (HX6.out.later b68).lt2⟩⟩
  have HAk : Hid (∀ w', Ot (fun g => w4.heap.size ≤ g ∧ g ≤ gx) w8 w' → Ak w4 w' P m gb va vc gy ya yc) := ⟨fun w' ho => ak_ot HB48.out HX4.out.1 HX4.out.2 HS5.out.2 (HY6.out.1.later b68) HY6.out.2.1 (HY6.out.2.2.1.later b68) HY6.out.2.2.2 ho⟩
  have HR0 : Hid (Rl0 (Pm 0 0) R R) := ⟨pm_start HR.out.2.2⟩
  have HRl : Hid (R.length = P.length ∧ ∀ r0 ∈ R, r0.v.l.length ≤ 5) := ⟨HR.out.2.1, fun r0 h0 => HPl.out r0.v (by rw [← HR.out.1]; exact List.mem_map_of_mem h0)⟩
  have HRv : Hid (∀ (j : Nat) (r0 : Rv), R[j]? = some r0 → P[j]? = some r0.v) := ⟨fun j r0 h0 => by rw [← HR.out.1, List.getElem?_map, h0]; rfl⟩
  clear b68 HX6 HY6 HX46 HF6 HTc HB46 HB6 HX4 HR
  go_wp2_with fail
  -- marked
  go_loopw [10, 11] (fun v10 _ wr => ∃ (i : Nat) (R' : List Rv), v10 = .int .i64 (i : Int) ∧ i ≤ P.length ∧ Hid (XA w4.heap.size w8 wr gx m xa P.length xc R') ∧ Hid (Rl0 (Pm i 0) R R')) (fun v10 _ _ => P.length - (intOf v10).toNat)
  case atStart => exact ⟨0, R, rfl, Nat.zero_le _, HXA, HR0⟩
  case round =>
    clear HXA HR0
    obtain ⟨i, R', rfl, hi, HA, HP⟩ := hrel
    obtain ⟨p0, p1⟩ := HA.out.box.cells
    by_cases hlt : i < P.length
    · have d1 : decide ((i : Int) < (P.length : Int)) = true := decide_eq_true (Int.ofNat_lt.2 hlt)
      have i0 : (0 : Int) ≤ (i : Int) := Int.natCast_nonneg i
      have i2 : (i : Int) < (P.length : Int) := Int.ofNat_lt.2 hlt
      have hwi : wrap64 ((i : Int) + 1) = ((i + 1 : Nat) : Int) := by unfold wrap64; have := HPn.out; omega
      obtain ⟨r0, hr0⟩ : ∃ r0, R[i]? = some r0 := ⟨_, List.getElem?_eq_getElem (by rw [HRl.out.1]; exact hlt)⟩
      obtain ⟨K, hK⟩ : ∃ K, K = r0.v.l.length := ⟨_, rfl⟩
      have HK5 : Hid (K = r0.v.l.length ∧ K ≤ 5 ∧ R[i]? = some r0) := ⟨hK, by rw [hK]; exact HRl.out.2 r0 (List.mem_of_getElem? hr0), hr0⟩
      have HWi := Hid.mk hwi
      clear hwi hK hr0
      go_wp2_with fail
      go_loopw [11] (fun v11 wr2 => ∃ (q : Nat) (R2 : List Rv), v11 = .int .i64 (q : Int) ∧ q ≤ K ∧ Hid (XA w4.heap.size w8 wr2 gx m xa P.length xc R2) ∧ Hid (Rl0 (Pm i q) R R2)) (fun v11 _ => K - (intOf v11).toNat)
      case atStart => exact ⟨0, R', rfl, Nat.zero_le _, HA, HP⟩
      case round =>
        clear HA HP p0 p1
        obtain ⟨q, R2, rfl, hq, HA, HP⟩ := hrel
        obtain ⟨p0, p1⟩ := HA.out.box.cells
        obtain ⟨r, hr, hpm⟩ := HP.out.here HK5.out.2.2
        have hmk := hpm.at'
        obtain ⟨g, rfl, -, hg, ⟨-, -, -, -, c4⟩, -⟩ := HA.out.fo.row hr
        rw [hmk.len, ← HK5.out.1] at c4
        have HRr := Hid.mk hr
        have HMk := Hid.mk hmk
        clear hr hpm hmk
        by_cases hlq : q < K
        · have d2 : decide ((q : Int) < (K : Int)) = true := decide_eq_true (Int.ofNat_lt.2 hlq)
          have q0 : (0 : Int) ≤ (q : Int) := Int.natCast_nonneg q
          have q2 : (q : Int) < (K : Int) := Int.ofNat_lt.2 hlq
          have hwq : wrap64 ((q : Int) + 1) = ((q + 1 : Nat) : Int) := by unfold wrap64; have := HK5.out.2.1; omega
          have hql : q < r.v.l.length := by rw [HMk.out.len, ← HK5.out.1]; exact hlq
          obtain ⟨p9, hp9⟩ : ∃ p, (r.v.l ++ r.z)[q]? = some p := ⟨r.v.l[q], by rw [List.getElem?_append_left hql]; exact List.getElem?_eq_getElem hql⟩
          obtain ⟨mb, ea, hmb, k0, k1, -, -, hfz⟩ := HA.out.fo.pairs HRr.out (n := q) (p := p9) hp9
          rw [ea] at c4
          have f0 := hfz (q * 2)
          have f1 := hfz (q * 2 + 1)
          have HN : Hid (XA w4.heap.size w8 ((wr.setCell ⟨mb, q * 2, none⟩ (.string ⟨#[109, 97, 114, 107, 101, 100]⟩)).setCell ⟨mb, q * 2 + 1, none⟩ (.string ⟨#[]⟩)) gx m (some ⟨g, 0, none⟩) P.length xc (R2.set i { r with v := { r.v with l := r.v.l.set q ⟨kmrk, []⟩ } })) := ⟨HA.out.pair HRr.out HMk.out.z ea hql ⟨kmrk, []⟩⟩
          have HN2 := Hid.mk (pm_step HP.out HK5.out.2.2 HMk.out)
          clear hp9 hql hfz hmb hg
          go_wp2_with fail
          exact ⟨⟨q + 1, _, by first | (rw [hwq]; done) | rfl | go_num, hlq, HN, HN2⟩, by first | (rw [hwq]; exact Nat.sub_lt_sub_left hlq (Nat.lt_succ_self q)) | (simp [intOf]; omega)⟩
        · obtain rfl : q = K := Nat.le_antisymm hq (Nat.le_of_not_lt hlq)
          have d2 : decide ((q : Int) < (q : Int)) = false := decide_eq_false (fun h => Int.lt_irrefl _ h)
          have HN2 : Hid (Rl0 (Pm (i + 1) 0) R R2) := ⟨pm_next HK5.out.2.2 (by rw [← HK5.out.1]; exact HP.out)⟩
          have hwi := HWi.out
          clear hlq hg
          go_wp2_with fail
          exact ⟨⟨i + 1, R2, by first | (rw [hwi]; done) | rfl | go_num, hlt, HA, HN2⟩, by first | (rw [hwi]; exact Nat.sub_lt_sub_left hlt (Nat.lt_succ_self i)) | (simp [intOf]; omega)⟩
    · obtain rfl : i = P.length := Nat.le_antisymm hi (Nat.le_of_not_lt hlt)
      have d1 : decide ((P.length : Int) < (P.length : Int)) = false := decide_eq_false (fun h => Int.lt_irrefl _ h)
      have HP0 : Hid (Rl0 (Pg 0 0) R R') := ⟨pm_end (by rw [HRl.out.1]; exact HP.out)⟩
      clear HP hlt hi
      go_wp2_with fail
      -- grown
      go_loopw [12, 13] (fun v12 _ wr => ∃ (i : Nat) (R' : List Rv), v12 = .int .i64 (i : Int) ∧ i ≤ P.length ∧ Hid (XA w4.heap.size w8 wr gx m xa P.length xc R') ∧ Hid (Rl0 (Pg i 0) R R')) (fun v12 _ _ => P.length - (intOf v12).toNat)
      case atStart => exact ⟨0, R', rfl, Nat.zero_le _, HA, HP0⟩
      case round =>
        clear HA HP0 p0 p1
        obtain ⟨i, R', rfl, hi, HA, HP⟩ := hrel
        obtain ⟨p0, p1⟩ := HA.out.box.cells
        by_cases hlt : i < P.length
        · have d1 : decide ((i : Int) < (P.length : Int)) = true := decide_eq_true (Int.ofNat_lt.2 hlt)
          have i0 : (0 : Int) ≤ (i : Int) := Int.natCast_nonneg i
          have i2 : (i : Int) < (P.length : Int) := Int.ofNat_lt.2 hlt
          have hwi : wrap64 ((i : Int) + 1) = ((i + 1 : Nat) : Int) := by unfold wrap64; have := HPn.out; omega
          obtain ⟨r0, hr0⟩ : ∃ r0, R[i]? = some r0 := ⟨_, List.getElem?_eq_getElem (by rw [HRl.out.1]; exact hlt)⟩
          have HK5 : Hid (r0.v.l.length ≤ 5 ∧ R[i]? = some r0) := ⟨HRl.out.2 r0 (List.mem_of_getElem? hr0), hr0⟩
          have HWi := Hid.mk hwi
          clear hwi hr0
          go_wp2_with fail
          go_loopw [13] (fun v13 wr2 => ∃ (q : Nat) (R2 : List Rv), v13 = .int .i64 (q : Int) ∧ q ≤ 8 ∧ Hid (XA w4.heap.size w8 wr2 gx m xa P.length xc R2) ∧ Hid (Rl0 (Pg i q) R R2)) (fun v13 _ => 8 - (intOf v13).toNat)
          case atStart => exact ⟨0, R', rfl, Nat.zero_le _, HA, HP⟩
          case round =>
            clear HA HP p0 p1
            obtain ⟨q, R2, rfl, hq, HA, HP⟩ := hrel
            by_cases hlq : q < 8
            · have d2 : decide ((q : Int) < 8) = true := decide_eq_true (by omega)
              have hwq : wrap64 ((q : Int) + 1) = ((q + 1 : Nat) : Int) := by unfold wrap64; omega
              obtain ⟨p0, p1⟩ := HA.out.box.cells
              obtain ⟨r, hr, hpm⟩ := HP.out.here HK5.out.2
              have hgr := hpm.at'
              obtain ⟨g, rfl, -, hg, ⟨-, -, -, -, c4⟩, hfz⟩ := HA.out.fo.row hr
              obtain ⟨g', c', w', hrun, hbx, hgg, hxa⟩ := HA.out.growp hr hgr.z (by have := hgr.len; have := HK5.out.1; omega) ⟨kgrw, []⟩ wr.drew (Below.refl _ _).drew
              have hrun' : (Builtin.append_ #[43, 43] 43 #[.slice r.a r.v.l.length r.c, .slice (some ⟨wr.heap.size, 0, none⟩) 1 1]).run Tryz.prog ((wr.alloc (.cells #[.string ⟨#[103, 114, 111, 119, 110]⟩, .string ⟨#[]⟩] 49)).drew) = .ok (.slice (some ⟨g', 0, none⟩) (r.v.l.length + 1) c') w' := hrun
              have bP : Below wr.heap.size wr ((wr.alloc (.cells #[.string ⟨#[103, 114, 111, 119, 110]⟩, .string ⟨#[]⟩] 49)).drew) := ((Below.refl _ _).alloc (Nat.le_refl _) _).drew
              have p1' := (HA.out.box.later bP).cells.2
              have c4' := (bP.cell (p := ⟨g, i * 5 + 4, none⟩) hg).trans c4
              have p6 := hbx.cells.2
              have c6 := (cell_heap hgg (i * 5 + 4)).trans c4
              have f6 : w'.frozen? ⟨g, i * 5 + 4, none⟩ = false := (froz_heap hgg (i * 5 + 4)).trans (hfz _)
              have HN := Hid.mk hxa
              have HN2 := Hid.mk (pg_step HP.out HK5.out.2 hgr (some ⟨g', 0, none⟩) c')
              clear hrun hbx hgg hxa hpm hgr hfz hg bP p0 hr
              generalize r.v.l.length = xl at *
              go_wp2_with fail
              go_region
              all_goals (go_wp2_with fail)
              all_goals exact ⟨⟨q + 1, _, by first | (rw [hwq]; done) | rfl | go_num, hlq, HN, HN2⟩, by first | (rw [hwq]; omega) | (simp [intOf]; omega)⟩
            · obtain rfl : q = 8 := by omega
              have HN2 : Hid (Rl0 (Pg (i + 1) 0) R R2) := ⟨pg_next HP.out⟩
              have hwi := HWi.out
              clear hlq
              go_wp2_with fail
              exact ⟨⟨i + 1, R2, by first | (rw [hwi]; done) | rfl | go_num, hlt, HA, HN2⟩, by first | (rw [hwi]; exact Nat.sub_lt_sub_left hlt (Nat.lt_succ_self i)) | (simp [intOf]; omega)⟩
        · obtain rfl : i = P.length := Nat.le_antisymm hi (Nat.le_of_not_lt hlt)
          have d1 : decide ((P.length : Int) < (P.length : Int)) = false := decide_eq_false (fun h => Int.lt_irrefl _ h)
          have HG : Hid (Rl0 (fun _ r0 r => Gr0 8 r0 r) R R') := ⟨pg_end (by rw [HRl.out.1]; exact HP.out)⟩
          have HAk2 := Hid.mk (HAk.out wr HA.out.ot)
          clear HP hlt hi
          go_wp2_with fail
          -- looked at
          clear HAk2 p0 p1
          go_loopw [14, 15, 16] (fun v14 _ _ wr3 => ∃ (i : Nat), v14 = .int .i64 (i : Int) ∧ i ≤ P.length ∧ Hid (XA w4.heap.size w8 wr3 gx m xa P.length xc R')) (fun v14 _ _ _ => P.length - (intOf v14).toNat)
          case atStart => exact ⟨0, rfl, Nat.zero_le _, HA⟩
          case round =>
            clear HA
            obtain ⟨i, rfl, hi, HA⟩ := hrel
            have HAk2 := Hid.mk (HAk.out wr HA.out.ot)
            obtain ⟨p0, p1⟩ := HA.out.box.cells
            obtain ⟨b0, b1⟩ := HAk2.out.b.cells
            by_cases hlt : i < P.length
            · have d1 : decide ((i : Int) < (P.length : Int)) = true := decide_eq_true (Int.ofNat_lt.2 hlt)
              have i0 : (0 : Int) ≤ (i : Int) := Int.natCast_nonneg i
              have i2 : (i : Int) < (P.length : Int) := Int.ofNat_lt.2 hlt
              have hwi : wrap64 ((i : Int) + 1) = ((i + 1 : Nat) : Int) := by unfold wrap64; have := HPn.out; omega
              obtain ⟨r0, hr0⟩ : ∃ r0, R[i]? = some r0 := ⟨_, List.getElem?_eq_getElem (by rw [HRl.out.1]; exact hlt)⟩
              obtain ⟨r, hr, hg8⟩ := HG.out.here hr0
              obtain ⟨bb, off, ma, mc, hab, hbl, e0, -, -, -, e4, -⟩ := HAk2.out.vb.get i _ (HRv.out i r0 hr0)
              subst hab
              obtain ⟨g, rfl, -, hg, ⟨c0, -, -, -, c4⟩, -⟩ := HA.out.fo.row hr
              rw [hg8.key] at c0
              obtain ⟨N, hN⟩ : ∃ N, N = r.v.l.length := ⟨_, rfl⟩
              rw [← hN] at c4
              have hK5 := HRl.out.2 r0 (List.mem_of_getElem? hr0)
              have hNK : N = r0.v.l.length + 8 := by rw [hN]; exact hg8.len
              have HPr : Hid (∀ q, q < N → ∀ w', Below wr.heap.size wr w' → ∃ mb, r.a = some ⟨mb, 0, none⟩ ∧ ((q < r0.v.l.length ∧ w'.cell? ⟨mb, q * 2, none⟩ = some (.string ⟨#[109, 97, 114, 107, 101, 100]⟩)) ∨ (¬ q < r0.v.l.length ∧ w'.cell? ⟨mb, q * 2, none⟩ = some (.string ⟨#[103, 114, 111, 119, 110]⟩)))) := ⟨fun q hq w' hb => by
                have hql : q < r.v.l.length := by rw [← hN]; exact hq
                have hp0 : r.v.l[q]? = some r.v.l[q] := List.getElem?_eq_getElem hql
                obtain ⟨mb, ea, _, k0, _⟩ := (HA.out.fo.later hb).pairs hr (n := q) (p := r.v.l[q]) (by rw [List.getElem?_append_left hql]; exact hp0)
                refine ⟨mb, ea, ?_⟩
                rcases hg8.pair hp0 with ⟨h1, h2⟩ | ⟨h1, h2⟩
                · rw [h2] at k0; exact .inl ⟨h1, k0⟩
                · rw [h2] at k0; exact .inr ⟨h1, k0⟩⟩
              obtain ⟨K, hKe⟩ : ∃ K, K = r0.v.l.length := ⟨_, rfl⟩
              rw [← hKe] at hNK e4 hK5 HPr
              have hw8 : wrap64 ((K : Int) + 8) = (N : Int) := w8a hNK hK5
              have hw8' : IntKind.i64.wrap ((K : Int) + 8) = (N : Int) := w8b hNK hK5
              have HNK : Hid (N = K + 8 ∧ K ≤ 5) := ⟨hNK, hK5⟩
              have HCs : Hid (∀ w', Below wr.heap.size wr w' → w'.cell? ⟨gx, 0, none⟩ = some (.int .i64 m) ∧ w'.cell? ⟨gx, 1, none⟩ = some (.slice (some ⟨g, 0, none⟩) P.length xc) ∧ w'.cell? ⟨gb, 1, none⟩ = some (.slice (some ⟨bb, off, none⟩) P.length vc) ∧ w'.cell? ⟨bb, off + i * 5, none⟩ = some (str r0.v.key) ∧ w'.cell? ⟨g, i * 5, none⟩ = some (str r0.v.key) ∧ w'.cell? ⟨g, i * 5 + 4, none⟩ = some (.slice r.a N r.c) ∧ XA w4.heap.size w8 w' gx m (some ⟨g, 0, none⟩) P.length xc R') := ⟨fun w' hb => ⟨(HA.out.box.later hb).cells.1, (HA.out.box.later hb).cells.2, (HAk2.out.b.later hb).cells.2, (hb.cell (p := ⟨bb, off + i * 5, none⟩) hbl).trans e0, (hb.cell (p := ⟨g, i * 5, none⟩) hg).trans c0, (hb.cell (p := ⟨g, i * 5 + 4, none⟩) hg).trans c4, HA.out.later hb⟩⟩
              have HWi := Hid.mk hwi
              clear hNK hK5 hKe hN hg8 hr hr0 hbl hg HA hwi e0 c0 c4
              generalize r0.v.key = key at *
              generalize r.a = ra at *
              generalize r.c = rc at *
              go_wp2_with fail
              clear p0 p1 b0 b1 e4
              go_loopw [16] (fun v16 wr4 => ∃ (q : Nat), v16 = .int .i64 (q : Int) ∧ q ≤ N ∧ Hid (Below wr.heap.size wr wr4)) (fun v16 _ => N - (intOf v16).toNat)
              case atStart => exact ⟨0, rfl, Nat.zero_le _, ⟨Below.refl _ _⟩⟩
              case round =>
                obtain ⟨q, rfl, hq, HBq⟩ := hrel
                obtain ⟨p0, p1, b1, e0, c0, c4, hXA⟩ := HCs.out _ HBq.out
                have HXA := Hid.mk hXA
                clear hXA
                by_cases hlq : q < N
                · have d2 : decide ((q : Int) < (N : Int)) = true := decide_eq_true (Int.ofNat_lt.2 hlq)
                  have q0 : (0 : Int) ≤ (q : Int) := Int.natCast_nonneg q
                  have q2 : (q : Int) < (N : Int) := Int.ofNat_lt.2 hlq
                  have hwq : wrap64 ((q : Int) + 1) = ((q + 1 : Nat) : Int) := by unfold wrap64; have := HNK.out; omega
                  obtain ⟨mb, ea, hk⟩ := HPr.out q hlq _ HBq.out
                  rw [ea] at c4
                  rcases hk with ⟨hqK, k0⟩ | ⟨hqK, k0⟩
                  · have d3 : decide ((q : Int) < (K : Int)) = true := decide_eq_true (Int.ofNat_lt.2 hqK)
                    have d4 : decide (q < K) = true := decide_eq_true hqK
                    clear hqK ea
                    go_wp2_with fail
                    exact ⟨⟨q + 1, by first | (rw [hwq]; done) | rfl | go_num, hlq, HBq⟩, by first | (rw [hwq]; exact Nat.sub_lt_sub_left hlq (Nat.lt_succ_self q)) | (simp [intOf]; omega)⟩
                  · have d3 : decide ((q : Int) < (K : Int)) = false := decide_eq_false (fun h => hqK (Int.ofNat_lt.1 h))
                    have d4 : decide (q < K) = false := decide_eq_false hqK
                    clear hqK ea
                    go_wp2_with fail
                    exact ⟨⟨q + 1, by first | (rw [hwq]; done) | rfl | go_num, hlq, HBq⟩, by first | (rw [hwq]; exact Nat.sub_lt_sub_left hlq (Nat.lt_succ_self q)) | (simp [intOf]; omega)⟩
                · obtain rfl : q = N := Nat.le_antisymm hq (Nat.le_of_not_lt hlq)
                  have d2 : decide ((q : Int) < (q : Int)) = false := decide_eq_false (fun h => Int.lt_irrefl _ h)
                  have hwi := HWi.out
                  clear hlq hq
                  go_wp2_with fail
                  go_quiet (fail)
                  have HX2 := Hid.mk (HXA.out.later (below_dN (Below.refl wr.heap.size wr) nq))
                  clear p0 p1 b1 e0 c0 c4
                  go_wp2_with fail
                  exact ⟨⟨i + 1, by first | (rw [hwi]; done) | rfl | go_num, hlt, HX2⟩, by first | (rw [hwi]; exact Nat.sub_lt_sub_left hlt (Nat.lt_succ_self i)) | (simp [intOf]; omega)⟩
            · obtain rfl : i = P.length := Nat.le_antisymm hi (Nat.le_of_not_lt hlt)
              have d1 : decide ((P.length : Int) < (P.length : Int)) = false := decide_eq_false (fun h => Int.lt_irrefl _ h)
              have HX0 := Hid.mk HA.out.xb
              clear hlt hi HA
              go_wp2_with fail
              clear p0 p1 b0 b1 HAk2
              -- written over
              go_loopw [17] (fun v17 wr5 => ∃ (i : Nat), v17 = .int .i64 (i : Int) ∧ i ≤ P.length ∧ Hid (XB w4.heap.size w8 wr5 gx m xa P.length xc)) (fun v17 _ => P.length - (intOf v17).toNat)
              case atStart => exact ⟨0, rfl, Nat.zero_le _, HX0⟩
              case round =>
                clear HX0
                obtain ⟨i, rfl, hi, HX⟩ := hrel
                obtain ⟨p0, p1⟩ := HX.out.box.cells
                by_cases hlt : i < P.length
                · have d1 : decide ((i : Int) < (P.length : Int)) = true := decide_eq_true (Int.ofNat_lt.2 hlt)
                  have i0 : (0 : Int) ≤ (i : Int) := Int.natCast_nonneg i
                  have i2 : (i : Int) < (P.length : Int) := Int.ofNat_lt.2 hlt
                  have hwi : wrap64 ((i : Int) + 1) = ((i + 1 : Nat) : Int) := by unfold wrap64; have := HPn.out; omega
                  obtain ⟨g, rfl, ⟨u0, u1, u2, u3, u4, h0, h1, h2, h3, h4⟩, hfz, hput⟩ := HX.out.put5 hlt
                  have f0 := hfz (i * 5)
                  have f1 := hfz (i * 5 + 1)
                  have f2 := hfz (i * 5 + 2)
                  have f3 := hfz (i * 5 + 3)
                  have f4 := hfz (i * 5 + 4)
                  have HN := Hid.mk (hput (.string ⟨#[109, 97, 114, 107, 101, 100]⟩) (.int .i64 0) (.bool false) (.string ⟨#[]⟩) (.slice none 0 0))
                  clear hfz hput
                  go_wp2_with fail
                  exact ⟨⟨i + 1, by first | (rw [hwi]; done) | rfl | go_num, hlt, HN⟩, by first | (rw [hwi]; exact Nat.sub_lt_sub_left hlt (Nat.lt_succ_self i)) | (simp [intOf]; omega)⟩
                · obtain rfl : i = P.length := Nat.le_antisymm hi (Nat.le_of_not_lt hlt)
                  have d1 : decide ((P.length : Int) < (P.length : Int)) = false := decide_eq_false (fun h => Int.lt_irrefl _ h)
                  have HX0 : Hid (XB w4.heap.size w8 wr gx m xa (P.length + 0) xc) := HX
                  clear hlt hi
                  go_wp2_with fail
                  clear p0 p1
                  -- longer
                  go_loopw [18] (fun v18 wr6 => ∃ (q : Nat) (xa' : Option Addr) (xc' : Nat), v18 = .int .i64 (q : Int) ∧ q ≤ 8 ∧ Hid (XB w4.heap.size w8 wr6 gx m xa' (P.length + q) xc')) (fun v18 _ => 8 - (intOf v18).toNat)
                  case atStart => exact ⟨0, xa, xc, rfl, Nat.zero_le _, HX0⟩
                  case round =>
                    clear HX0 HX
                    obtain ⟨q, xa', xc', rfl, hq, HX⟩ := hrel
                    obtain ⟨p0, p1⟩ := HX.out.box.cells
                    by_cases hlq : q < 8
                    · have d2 : decide ((q : Int) < 8) = true := decide_eq_true (by omega)
                      have hwq : wrap64 ((q : Int) + 1) = ((q + 1 : Nat) : Int) := by unfold wrap64; omega
                      obtain ⟨g', c', w', hrun, hbx, hxb⟩ := HX.out.app (by have := HPn.out; omega) ⟨⟨kgrw, 0, false, [], []⟩, [], none, 0⟩
                      have hrun' : (Builtin.append_ #[22, 22] 22 #[.slice xa' (P.length + q) xc', .slice (some ⟨wr.heap.size, 0, none⟩) 1 1]).run Tryz.prog (wr.alloc (.cells #[.string ⟨#[103, 114, 111, 119, 110]⟩, .int .i64 0, .bool false, .string ⟨#[]⟩, .slice none 0 0] 54)) = .ok (.slice (some ⟨g', 0, none⟩) (P.length + q + 1) c') w' := hrun
                      have p6 := hbx.cells.2
                      have f6 := hbx.fz 1
                      have HN := Hid.mk hxb
                      clear hrun hbx hxb
                      generalize hNe : P.length + q = N at *
                      have HNe := Hid.mk hNe
                      clear hNe
                      go_wp2_with fail
                      exact ⟨⟨q + 1, _, _, by first | (rw [hwq]; done) | rfl | go_num, hlq, ⟨by rw [← Nat.add_assoc, HNe.out]; exact HN.out⟩⟩, by first | (rw [hwq]; omega) | (simp [intOf]; omega)⟩
                    · obtain rfl : q = 8 := by omega
                      have hAk := HAk.out wr HX.out.ot
                      have HAk2 := Hid.mk hAk
                      have HBe := Hid.mk (below_seq HB4.out hAk.bel)
                      have hd := decode_any s wr (by have := HArc.out.2; omega) (HT.out.below HBe.out) (HE.out.below HBe.out) (HK.out.seq HBe.out)
                      have hw8 : wrap64 ((P.length : Int) + 8) = ((P.length + 8 : Nat) : Int) := by unfold wrap64; have := HPn.out; omega
                      have HW8 := Hid.mk hw8
                      clear hAk hlq hq p0 p1 hw8
                      go_wp2_with fail
                      with_reducible refine Calls.mono hd ?_
                      rintro e w9 h9
                      obtain ⟨Rz, za, zc, rfl, hRz, _, hFz, b9⟩ := h9.yes HArc.out.1
                      have bz := (Below.refl w9.heap.size w9).alloc (Nat.le_refl _) (.cells #[.int .i64 m, .slice za P.length zc] 24)
                      have b9z := below_seq b9 bz
                      have HZ9 : Hid (Bb2 (w9.alloc (.cells #[.int .i64 m, .slice za P.length zc] 24)) w9.heap.size m (.slice za P.length zc) ∧ VIn (w9.alloc (.cells #[.int .i64 m, .slice za P.length zc] 24)) za P) := ⟨Bb2.new _ _ _, (fo_vin2 hRz hFz).later bz⟩
                      have HK9 := Hid.mk (HAk2.out.later b9z)
                      have HX9 := Hid.mk (HX.out.later b9z)
                      clear hd h9 hRz hFz b9 bz b9z HAk2 HX HBe
                      obtain ⟨z0, z1⟩ := HZ9.out.1.cells
                      obtain ⟨y0, y1⟩ := HK9.out.y.cells
                      obtain ⟨q0, q1⟩ := HK9.out.b.cells
                      dsimp only
                      go_wp2_with fail
                      generalize w9.alloc (.cells #[.int .i64 m, .slice za P.length zc] 24) = W9 at *
                      generalize w9.heap.size = gz at *
                      have hs := sm_of HO.out HO.out (cap := yc) (cap' := vc) HK9.out.vy HK9.out.vb
                      rw [svB_true ⟨rfl, rfl⟩] at hs
                      with_reducible refine Calls.mono hs ?_
                      rintro e w10 ⟨rfl, b10⟩
                      clear hs z0 z1 y0 y1 q0 q1
                      have HZ10 := Hid.mk (HZ9.out.1.later b10)
                      have HK10 := Hid.mk (HK9.out.later b10)
                      have HX10 := Hid.mk (HX9.out.later b10)
                      have hs := sm_of HO.out HO.out (cap := zc) (cap' := vc) (HZ9.out.2.later b10) HK10.out.vb
                      rw [svB_true ⟨rfl, rfl⟩] at hs
                      clear b10 HZ9 HK9 HX9
                      obtain ⟨z0, z1⟩ := HZ10.out.cells
                      obtain ⟨q0, q1⟩ := HK10.out.b.cells
                      dsimp only
                      go_wp2_with fail
                      with_reducible refine Calls.mono hs ?_
                      rintro e w11 ⟨rfl, b11⟩
                      have HK11 := Hid.mk (HK10.out.later b11)
                      obtain ⟨q0', q1'⟩ := HK11.out.b.cells
                      obtain ⟨p0, p1⟩ := (HX10.out.later b11).box.cells
                      have hw8 := HW8.out
                      clear hs b11 HZ10 HK10 HX10 z0 z1 q0 q1
                      dsimp only
                      go_wp2_with fail
                      go_ret
                      exact ⟨rfl, below_seq HB4.out HK11.out.bel⟩
end Go.Proofs.YtcmmbdcflblekaaGreatDoor
