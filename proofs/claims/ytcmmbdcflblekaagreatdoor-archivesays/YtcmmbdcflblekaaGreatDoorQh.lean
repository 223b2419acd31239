import Derived.Test.YtcmmbdcflblekaaGreatDoorQg
import Derived.Test.YtcmmbdcflblekaaGreatDoorAMd
import Derived.Test.YtcmmbdcflblekaaGreatDoorQf
import Derived.Test.YtcmmbdcflblekaaGreatDoorGs
import Derived.Test.YtcmmbdcflblekaaGreatDoorQk
import Derived.Laws.MakeOwn
import Derived.Laws.OwnMore
import Derived.Test.YtcmmbdcflblekaaGreatDoorGp
import Derived.Test.YtcmmbdcflblekaaGreatDoorGn
import Derived.Deep.RegionHeld3
/- What ArchiveBack needs of the texts. No model. -/
namespace Go.Proofs.YtcmmbdcflblekaaGreatDoor
set_option maxRecDepth 100000
set_option linter.unusedVariables false
set_option linter.unusedSimpArgs false
theorem OfR.since {L : List Vs} {next c : Int} (h : OfR L next 0) (h0 : 0 ≤ c) (h1 : c ≤ next) (h2 : ∀ v ∈ L, c ≤ v.seq) : OfR L next c := by
  obtain ⟨a, b, r⟩ := h
  refine ⟨a, b, ⟨r.n1, r.n2, h0, h1, r.len, fun x hx => ?_, r.srt, r.nod, r.byt⟩⟩
  obtain ⟨k, s1, s2, s3, m1, m0⟩ := r.it x hx
  obtain ⟨v, hv, rfl⟩ := List.mem_map.1 hx
  exact ⟨k, s1, s2, h2 v hv, m1, m0⟩
theorem arc_pos (L : List Vs) (n c : Int) : 1 ≤ (arc L n c).length := by
  have := mtx_pos ⟨c, n, ofI L⟩
  unfold arc bod
  simp only [List.length_append]
  omega
/-- a byte fewer: nothing's archive -/
theorem no_less {L : List Vs} {n c : Int} (h : OfR L n c) (M : List Vs) (n' c' : Int) : ¬ Arc ((arc L n c).take ((arc L n c).length - 1)) M n' c' := fun q => by
  have hp := arc_pos L n c
  have e : arc L n c = arc M n' c' ++ (arc L n c).drop ((arc L n c).length - 1) := by rw [← q.2, List.take_append_drop]
  have := Arc.whole h q.1 e
  have h2 := congrArg List.length this
  rw [List.length_drop, List.length_nil] at h2
  omega
/-- a byte more -/
theorem no_more {L : List Vs} {n c : Int} (h : OfR L n c) (b : UInt8) (M : List Vs) (n' c' : Int) : ¬ Arc (arc L n c ++ [b]) M n' c' := fun q => by
  have := Arc.whole q.1 h q.2.symm
  cases this
/-- a delta is no full archive -/
theorem no_full {L : List Vs} {n c : Int} (h : OfR L n c) (hc : c ≠ 0) (M : List Vs) (n' : Int) : ¬ Arc (arc L n c) M n' 0 := fun q => hc (Arc.two ⟨h, rfl⟩ q).2.2
/-- unlike values have unlike archives -/
theorem arc_inj {L M : List Vs} {n n' : Int} (h : OfR L n 0) (h' : OfR M n' 0) : arc L n 0 = arc M n' 0 ↔ L = M ∧ n = n' := by
  constructor
  · intro e
    obtain ⟨a, b, _⟩ := Arc.two (s := arc L n 0) ⟨h, rfl⟩ ⟨h', e⟩
    exact ⟨a, b⟩
  · rintro ⟨rfl, rfl⟩; rfl
end Go.Proofs.YtcmmbdcflblekaaGreatDoor

/- ArchiveBack: two values that Made told, in their boxes. -/
namespace Go.Proofs.YtcmmbdcflblekaaGreatDoor
set_option maxRecDepth 100000
set_option linter.unusedVariables false
set_option linter.unusedSimpArgs false
open Go.RowKit
theorem call_step3 {P : Program} {o : Oper} {a : Act} {w : World} {next : Act → World → Prop} {Q : Exit → Act → World → Prop} {f : Nat} {args : Array Value} {X : Type} {v : X → Value} {G : X → World → Prop} (d : Nat) (hd : o.dst = some d) (hx : (execOp a.eval o).run P w = .ok (.enter f args) w)
    (hc : Calls P f args w fun e w' => ∃ x, e = .returned (v x) ∧ G x w') (hn : ∀ x w', G x w' → next (a.put (some d) (v x)) w') : Oper.wp P o a w next Q := by
  unfold Oper.wp; rw [hx, Oper.upon_enter]; refine hc.mono ?_; rintro e w' ⟨x, rfl, g⟩; show next (a.put o.dst (v x)) w'; rw [hd]; exact hn x w' g
/-- what Made tells -/
structure MdA where
  L : List Vs
  n : Int
  sq : Int
  va : Option Addr
  vc : Nat
structure MdA.On (m : MdA) (w : World) : Prop where
  vin : VIn w m.va m.L
  mdl : Mdl m.sq m.L
  n1 : m.sq < m.n
  n2 : m.n ≤ m.sq + 1024
theorem MdA.On.later {m : MdA} {w w' : World} (h : m.On w) (hb : Below w.heap.size w w') : m.On w' := ⟨h.vin.later hb, h.mdl, h.n1, h.n2⟩
theorem MdA.On.of {m : MdA} {w : World} (h : m.On w) : OfR m.L m.n 0 := h.mdl.of h.n1 h.n2
theorem made2_any (L : List Vs) (n : Int) (w : World) (a : Option Addr) (cap : Nat) (hL : VIn w a L) (hz : L.length ≤ 4611686018427387904) :
    Calls Tryz.prog 16 #[.agg #[.int .i64 n, .slice a L.length cap]] w fun e w' => ∃ m : MdA, e = .returned (.agg #[.int .i64 m.n, .slice m.va m.L.length m.vc]) ∧ m.On w' ∧ Below w.heap.size w w' :=
  (made_any L n w a cap hL hz).mono (by
    rintro e w' ⟨L', n', sq, va, vc, rfl, h1, h2, h3, h4, h5⟩
    exact ⟨⟨L', n', sq, va, vc⟩, rfl, ⟨h1, h2, h3, h4⟩, h5⟩)
/-- a value that Made told, in its box -/
structure Mb9 (w : World) (g : Nat) (m : MdA) : Prop where
  box : Bb2 w g m.n (.slice m.va m.L.length m.vc)
  on : m.On w
theorem Mb9.later {w w' : World} {g : Nat} {m : MdA} (h : Mb9 w g m) (hb : Below w.heap.size w w') : Mb9 w' g m := ⟨h.box.later hb, h.on.later hb⟩
theorem MdA.On.box {m : MdA} {w : World} (h : m.On w) {g : Nat} {n : Int} {q : Value} (hb : Bb2 w g n q) (hq : ∀ s, q ≠ .string s) (x y : Value) : m.On ((w.setCell ⟨g, 0, none⟩ x).setCell ⟨g, 1, none⟩ y) := ⟨vin_box h.vin hb hq x y, h.mdl, h.n1, h.n2⟩
theorem Bb2.lt2 {w : World} {g : Nat} {n : Int} {v : Value} (h : Bb2 w g n v) : g < w.heap.size := lt_of_block h
theorem Bb2.oth2 {w : World} {g g' : Nat} {n : Int} {v : Value} (h : Bb2 w g n v) (hn : g ≠ g') (x y : Value) : Bb2 ((w.setCell ⟨g', 0, none⟩ x).setCell ⟨g', 1, none⟩ y) g n v := h.oth ((hso _ _ hn).trans (hso _ _ hn))
/-- two boxes, not filled yet -/
structure Two0 (w0 W : World) (g7 g8 : Nat) : Prop where
  h7 : Bb2 W g7 0 (.slice none 0 0)
  h8 : Bb2 W g8 0 (.slice none 0 0)
  ne : g7 ≠ g8
  r7 : w0.heap.size ≤ g7
  r8 : w0.heap.size ≤ g8
  bel : Below w0.heap.size w0 W
theorem Two0.put1 {w0 W : World} {g7 g8 : Nat} (h : Two0 w0 W g7 g8) (x y : Value) : Bb2 ((W.setCell ⟨g7, 0, none⟩ x).setCell ⟨g7, 1, none⟩ y) g8 0 (.slice none 0 0) ∧ Below w0.heap.size w0 ((W.setCell ⟨g7, 0, none⟩ x).setCell ⟨g7, 1, none⟩ y) := ⟨h.h8.oth2 h.ne.symm _ _, below2 h.bel h.r7 _ _⟩
theorem Two0.put2 {w0 W : World} {g7 g8 : Nat} (h : Two0 w0 W g7 g8) {m1 m2 : MdA} (o1 : m1.On W) (o2 : m2.On W) :
    Below w0.heap.size w0 ((((W.setCell ⟨g7, 0, none⟩ (.int .i64 m1.n)).setCell ⟨g7, 1, none⟩ (.slice m1.va m1.L.length m1.vc)).setCell ⟨g8, 0, none⟩ (.int .i64 m2.n)).setCell ⟨g8, 1, none⟩ (.slice m2.va m2.L.length m2.vc)) ∧
    Mb9 ((((W.setCell ⟨g7, 0, none⟩ (.int .i64 m1.n)).setCell ⟨g7, 1, none⟩ (.slice m1.va m1.L.length m1.vc)).setCell ⟨g8, 0, none⟩ (.int .i64 m2.n)).setCell ⟨g8, 1, none⟩ (.slice m2.va m2.L.length m2.vc)) g7 m1 ∧
    Mb9 ((((W.setCell ⟨g7, 0, none⟩ (.int .i64 m1.n)).setCell ⟨g7, 1, none⟩ (.slice m1.va m1.L.length m1.vc)).setCell ⟨g8, 0, none⟩ (.int .i64 m2.n)).setCell ⟨g8, 1, none⟩ (.slice m2.va m2.L.length m2.vc)) g8 m2 := by
  obtain ⟨k8, kb⟩ := h.put1 (.int .i64 m1.n) (.slice m1.va m1.L.length m1.vc)
  have k7 := h.h7.set2 m1.n (.slice m1.va m1.L.length m1.vc)
  have p1 := o1.box h.h7 (fun s q => by cases q) (.int .i64 m1.n) (.slice m1.va m1.L.length m1.vc)
  have p2 := o2.box h.h7 (fun s q => by cases q) (.int .i64 m1.n) (.slice m1.va m1.L.length m1.vc)
  generalize (W.setCell ⟨g7, 0, none⟩ (.int .i64 m1.n)).setCell ⟨g7, 1, none⟩ (.slice m1.va m1.L.length m1.vc) = W1 at *
  exact ⟨below2 kb h.r8 _ _, ⟨k7.oth2 h.ne _ _, p1.box k8 (fun s q => by cases q) _ _⟩, ⟨k8.set2 _ _, p2.box k8 (fun s q => by cases q) _ _⟩⟩
def a1 (s : Int) : Int := bits .and .i64 s 1
theorem a1_eq (s : Int) : bits .and .i64 s 1 = a1 s := rfl
theorem a1_bd (s : Int) : 0 ≤ a1 s ∧ a1 s ≤ 1 := and_bd s 1 (by decide)
theorem pk_of {L : List Vs} {n c : Int} (hO : OfR L n c) {w : World} {a : Option Addr} {cap : Nat} (hv : VIn w a L) (hT : Go.Proofs.YtcmmbdcflblekaaGreatDoorP.TB w) (hK : Go.Proofs.YtcmmbdcflblekaaGreatDoorH.KIn w) :
    Calls Tryz.prog 17 #[.agg #[.int .i64 n, .slice a L.length cap], .int .i64 c] w fun e w' => e = .returned (.tuple #[str (arc L n c), .int .i64 0]) ∧ Below w.heap.size w w' := by
  have h := pack_any L n c w a cap hv (by have := hO.1; omega) (fun v hv => by have := (rt_of (hO.2.1 v hv)).n; omega) hT hK
  rw [(pk_yes hO).1, (pk_yes hO).2] at h
  exact h
theorem en_of {L : List Vs} {n : Int} (hO : OfR L n 0) {w : World} {a : Option Addr} {cap : Nat} (hv : VIn w a L) (hT : Go.Proofs.YtcmmbdcflblekaaGreatDoorP.TB w) (hK : Go.Proofs.YtcmmbdcflblekaaGreatDoorH.KIn w) :
    Calls Tryz.prog 21 #[.agg #[.int .i64 n, .slice a L.length cap]] w fun e w' => e = .returned (.tuple #[str (arc L n 0), .int .i64 0]) ∧ Below w.heap.size w w' := by
  have h := encode_any L n w a cap hv (by have := hO.1; omega) (fun v hv => by have := (rt_of (hO.2.1 v hv)).n; omega) hT hK
  rw [(pk_yes hO).1, (pk_yes hO).2] at h
  exact h
theorem sm_of {L M : List Vs} {n n' c c' : Int} (hO : OfR L n c) (hO' : OfR M n' c') {w : World} {a b : Option Addr} {cap cap' : Nat} (hv : VIn w a L) (hv' : VIn w b M) :
    Calls Tryz.prog 19 #[.agg #[.int .i64 n, .slice a L.length cap], .agg #[.int .i64 n', .slice b M.length cap']] w fun e w' => e = .returned (.bool (svB n L n' M)) ∧ Below w.heap.size w w' :=
  asame_any n n' L M w a b cap cap' hv hv' (by have := hO.1; omega) (fun v hv => by have := (rt_of (hO.2.1 v hv)).n; omega) (fun v hv => by have := (rt_of (hO'.2.1 v hv)).n; omega)
end Go.Proofs.YtcmmbdcflblekaaGreatDoor

/- ArchiveSays: what stands where in an archive. -/
namespace Go.Proofs.YtcmmbdcflblekaaGreatDoor
set_option maxRecDepth 100000
set_option linter.unusedVariables false
set_option linter.unusedSimpArgs false
open Go.RowKit
open Go.Proofs.YtcmmbdcflblekaaGreatDoorP (TB recd nn LEN key Rd RdAt recd_length)
open Go.Proofs.YtcmmbdcflblekaaGreatDoorH (hv leaf KIn)
/-- where the k-th version's data begins -/
noncomputable def pos (P : List Vs) (n : Int) (k : Nat) : Nat := (mtx ⟨0, n, ofI P⟩).length + (con (P.take k)).length
theorem con_split {P : List Vs} {k : Nat} {v : Vs} (h : P[k]? = some v) : con P = con (P.take k) ++ (conV v.data ++ con (P.drop (k + 1))) := by
  have e : P = P.take k ++ (v :: P.drop (k + 1)) := by
    obtain ⟨hk, e⟩ := List.getElem?_eq_some_iff.1 h
    rw [← e, ← List.drop_eq_getElem_cons hk, List.take_append_drop]
  conv => lhs; rw [e]
  rw [con_append, con_cons]
theorem con_take_next {P : List Vs} {k : Nat} {v : Vs} (h : P[k]? = some v) : con (P.take (k + 1)) = con (P.take k) ++ conV v.data := by
  rw [List.take_add_one, h, con_append]
  simp [con]
theorem pos_next {P : List Vs} {n : Int} {k : Nat} {v : Vs} (h : P[k]? = some v) : pos P n (k + 1) = pos P n k + (v.data.length + fil v.data.length) := by
  unfold pos
  rw [con_take_next h, List.length_append, conV_len]
  omega
theorem pos_end {P : List Vs} {n : Int} : pos P n P.length = (bod P n 0).length := by
  unfold pos bod
  rw [List.take_length, List.length_append]
theorem arc_at {P : List Vs} {n : Int} {k : Nat} {v : Vs} (h : P[k]? = some v) : ∃ X Y, arc P n 0 = X ++ (v.data ++ (List.replicate (fil v.data.length) 0 ++ Y)) ∧ X.length = pos P n k := by
  refine ⟨mtx ⟨0, n, ofI P⟩ ++ con (P.take k), con (P.drop (k + 1)) ++ trl (P.map enc) (bod P n 0).length, ?_, by rw [List.length_append]; rfl⟩
  have e : arc P n 0 = mtx ⟨0, n, ofI P⟩ ++ con P ++ trl (P.map enc) (bod P n 0).length := rfl
  rw [e, con_split h]
  unfold conV
  simp only [List.append_assoc]
theorem arc_le {P : List Vs} {n : Int} {k : Nat} {v : Vs} (h : P[k]? = some v) : pos P n k + (v.data.length + fil v.data.length) ≤ (arc P n 0).length := by
  obtain ⟨X, Y, e, hx⟩ := arc_at (n := n) h
  rw [e]
  simp only [List.length_append, List.length_replicate]
  omega
theorem run_cutS (s : List UInt8) (i j : Nat) (h1 : i ≤ j) (h2 : j ≤ s.length) (w : World) : (Go.Proofs.YtcmmbdcflblekaaGreatDoorP.slS (str s) (some (.int .i64 (i : Int))) (some (.int .i64 (j : Int))) none).run Tryz.prog w = .ok (str ((s.drop i).take (j - i))) w := by
  have h := Go.Proofs.YtcmmbdcflblekaaGreatDoorP.run_slS ⟨s.toArray⟩ i j h1 (by rw [str_size]; exact h2) w
  have e : Value.string ((⟨s.toArray⟩ : ByteArray).extract i j) = str ((s.drop i).take (j - i)) := by
    rw [← str_data, Go.Proofs.YtcmmbdcflblekaaGreatDoorP.ext_mid]
  rw [e] at h
  exact h
/-- the data stand there, and zeros behind them -/
theorem run_data {P : List Vs} {n : Int} {k : Nat} {v : Vs} (h : P[k]? = some v) {p d e : Nat} (hp : p = pos P n k) (hd : d = v.data.length) (he : e = p + (d + fil d)) :
    (∀ w, (Go.Proofs.YtcmmbdcflblekaaGreatDoorP.slS (str (arc P n 0)) (some (.int .i64 (p : Int))) (some (.int .i64 ((p + d : Nat) : Int))) none).run Tryz.prog w = .ok (str v.data) w) ∧
    (∀ w, (Go.Proofs.YtcmmbdcflblekaaGreatDoorP.slS (str (arc P n 0)) (some (.int .i64 ((p + d : Nat) : Int))) (some (.int .i64 (e : Int))) none).run Tryz.prog w = .ok (str (List.replicate (fil d) 0)) w) := by
  subst hp hd he
  have hle := arc_le (n := n) h
  obtain ⟨X, Y, e, hx⟩ := arc_at (n := n) h
  refine ⟨fun w => ?_, fun w => ?_⟩
  · rw [run_cutS _ _ _ (by omega) (by omega), e, List.drop_left' hx, Nat.add_sub_cancel_left, List.take_left' rfl]
  · rw [run_cutS _ _ _ (by omega) (by omega), e]
    have e2 : (X ++ (v.data ++ (List.replicate (fil v.data.length) 0 ++ Y))).drop (pos P n k + v.data.length) = List.replicate (fil v.data.length) 0 ++ Y := by
      rw [← List.drop_drop, List.drop_left' hx, List.drop_left' rfl]
    rw [e2]
    have e3 : pos P n k + (v.data.length + fil v.data.length) - (pos P n k + v.data.length) = fil v.data.length := by omega
    rw [e3, List.take_left' (by simp)]
theorem fil_eq (d : Nat) : (d + 63) / 64 * 64 = d + fil d := by unfold fil; omega
/-- a record that stands there is read -/
theorem pread_at {l : List UInt8} {p : Nat} {k v : List UInt8} (h : Rd (l.drop p) k v) (hp : p ≤ l.length) (hl : l.length ≤ 4611686018427387904) (w : World) (hT : TB w) :
    Calls Tryz.prog 24 #[str l, .int .i64 (p : Int)] w fun e w' => e = .returned (.tuple #[str k, str v, .int .i64 ((p + LEN (nn k v) : Nat) : Int), .int .i64 0]) ∧ Below w.heap.size w w' := by
  refine (rd_any l p hp hl w hT).mono ?_
  rintro e w' ⟨kl, vl, n, er, rfl, hat, hb⟩
  rcases rd_link hat hp with ⟨rfl, m, rfl, hr⟩ | ⟨_, _, _, _, hr⟩
  · rw [rdFsome h] at hr
    injection hr with hr
    injection hr with h1 h2
    injection h1 with h3 h4
    subst h3 h4 h2
    exact ⟨rfl, hb⟩
  · rw [rdFsome h] at hr
    cases hr
theorem rd_root (P : List Vs) (n : Int) : Rd ((arc P n 0).drop (pos P n P.length)) sRoot (rtX (P.map enc)) := by
  refine ⟨key_root, nn_root _, recd sLength (dec ((bod P n 0).length : Int)), ?_⟩
  rw [pos_end]
  unfold arc
  rw [List.drop_left]
  rfl
theorem rd_len {P : List Vs} {n : Int} (h : OfR P n 0) : Rd ((arc P n 0).drop (pos P n P.length + LEN (nn sRoot (rtX (P.map enc))))) sLength (dec ((pos P n P.length : Nat) : Int)) := by
  have hb := bod_le h
  refine ⟨key_length, by rw [pos_end]; exact nn_length (by omega), [], ?_⟩
  rw [pos_end, List.append_nil]
  unfold arc trl
  rw [← List.drop_drop, List.drop_left, ← recd_length, List.drop_left]
theorem arc_last {P : List Vs} {n : Int} : pos P n P.length + LEN (nn sRoot (rtX (P.map enc))) + LEN (nn sLength (dec ((pos P n P.length : Nat) : Int))) = (arc P n 0).length := by
  rw [pos_end]
  unfold arc trl
  rw [List.length_append, List.length_append, recd_length, recd_length]
  omega
theorem pos_le {P : List Vs} {n : Int} : pos P n P.length ≤ (arc P n 0).length ∧ pos P n P.length + LEN (nn sRoot (rtX (P.map enc))) ≤ (arc P n 0).length := by
  have := arc_last (P := P) (n := n)
  omega
/-- what Read tells of an archive's manifest -/
theorem mread_arc {P : List Vs} {n : Int} (hO : OfR P n 0) (w : World) (hT : TB w) (hE : EG w) (hK : KIn w) :
    Calls Tryz.prog 10 #[str (arc P n 0)] w fun e w' => ∃ (R : List Ri) (a : Option Addr) (c : Nat), e = .returned (.tuple #[.agg #[.int .i64 0, .int .i64 n, .slice a P.length c], .int .i64 ((pos P n 0 : Nat) : Int), .int .i64 0]) ∧ (∀ (k : Nat) (v : Vs), P[k]? = some v → ∃ (ma : Option Addr) (mc : Nat), R[k]? = some (nz (itOf v (enc v)), ma, mc)) ∧ Fi w.heap.size w' (.slice a P.length c) R ∧ Below w.heap.size w w' := by
  have hA : Arc (arc P n 0) P n 0 := ⟨hO, rfl⟩
  have hB := hA.beg
  refine (mRead_any (arc P n 0) w (by have := arc_len_le hO; omega) hT hE).mono ?_
  rintro e w' ⟨⟨m, R, a, c, hBm, hnz, rfl, hR, hF⟩ | ⟨hno, _⟩, hb⟩
  · obtain ⟨e1, e2⟩ := hBm.two hB
    rw [hnz] at e1
    subst e1
    have hl : R.length = P.length := by
      have := congrArg List.length hR
      simpa [nzM, ofI] using this
    rw [hl] at hF ⊢
    refine ⟨R, a, c, ?_, fun k v hv => ?_, hF, hb⟩
    · have e3 : pos P n 0 = (mtx (nzM ⟨0, n, ofI P⟩)).length := by rw [e2]; unfold pos; simp [con]
      rw [e3]; rfl
    · have hk : (R.map (·.1))[k]? = some (nz (itOf v (enc v))) := by
        rw [hR]
        show ((ofI P).map nz)[k]? = _
        unfold ofI
        rw [List.map_map, List.getElem?_map, hv]
        rfl
      rw [List.getElem?_map] at hk
      cases hr : R[k]? with
      | none => rw [hr] at hk; cases hk
      | some r =>
        rw [hr] at hk
        injection hk with hk
        obtain ⟨x, ma, mc⟩ := r
        exact ⟨ma, mc, by rw [← hk]⟩
  · exact absurd hB (hno _)
end Go.Proofs.YtcmmbdcflblekaaGreatDoor

/- Rows of texts that grow: what is no row of texts stays (as in MOa). -/
namespace Go.Proofs.YtcmmbdcflblekaaGreatDoor
set_option maxRecDepth 100000
set_option linter.unusedVariables false
set_option linter.unusedSimpArgs false
open Go.RowKit
theorem svs_one (ps : List (List UInt8)) : ∀ u ∈ svs ps, u.oneCell' = true := by
  intro u hu
  unfold svs at hu
  obtain ⟨q, _, rfl⟩ := List.mem_map.1 hu
  rfl
/-- what is no row of texts stays -/
structure Kp9 (w w' : World) : Prop where
  keep : ∀ (g : Nat) (cs : Array Value) (t : TypeId), w.heap[g]? = some (.cells cs t (0, 0)) → t ≠ 9 → w'.heap[g]? = some (.cells cs t (0, 0))
theorem Kp9.of {w w' : World} (h : Below w.heap.size w w') : Kp9 w w' := ⟨fun g cs t hg _ => (h.block g (Array.getElem?_eq_some_iff.1 hg).1).trans hg⟩
theorem Kp9.trans {w w1 w2 : World} (h : Kp9 w w1) (h2 : Kp9 w1 w2) : Kp9 w w2 := ⟨fun g cs t hg ht => h2.keep g cs t (h.keep g cs t hg ht) ht⟩
theorem kp9_own {base n : Nat} {w w' : World} {v : Value} {xs : List Value} (o : w.ownsRow base 9 1 v n xs) (hk : ∀ x, x < w.heap.size → v.ownBlock ≠ some x → w'.heap[x]? = w.heap[x]?) : Kp9 w w' := ⟨fun g cs t hg ht => by
  rw [hk g (Array.getElem?_eq_some_iff.1 hg).1 (fun q => by
    obtain ⟨c1, e1⟩ := own_type o q
    rw [hg] at e1
    injection e1 with e1
    injection e1 with _ e2
    exact ht e2)]
  exact hg⟩
theorem run_s {base : Nat} {w1 : World} {v : Value} {l : List (List UInt8)} (ps : List (List UInt8)) (hp : 1 ≤ ps.length) (hp2 : ps.length ≤ 16) (hO : So base w1 v l) (hn : l.length ≤ 1000000000) :
    ∃ v' w', (∀ ty, (Builtin.append_ #[64, 64] ty #[v, .slice (some ⟨w1.heap.size, 0, none⟩) ps.length ps.length]).run Tryz.prog (w1.alloc (.cells (svs ps).toArray 9)) = .ok v' w') ∧ So base w' v' (l ++ ps) ∧ Below base w1 w' ∧ Kp9 w1 w' := by
  obtain ⟨i0, hi, hz0, hz1, hz2⟩ := info9
  have hmx : maxLen = 9223372036854775807 := rfl
  have o1 : (w1.alloc (.cells (svs ps).toArray 9)).ownsRow base 9 1 v l.length (svs l) := hO.own.alloc _
  have hle := hO.le
  have hlen : (svs ps).length = ps.length := by simp [svs]
  obtain ⟨g2, cap2, w', hr, hown, hgrow, hat, hlt⟩ := run_append_lies (P := Tryz.prog) (w := w1.alloc (.cells (svs ps).toArray 9)) 64 64 base 9 i0 _ 1 16 Tryz.underlying64 hi hz0 hz1 hz2 rfl (by omega) v l.length (svs l) o1 ⟨w1.heap.size, 0, none⟩ ps.length ps.length (svs ps) (by rw [hlen, Nat.mul_one])
    (World.news_of_block (cs := (svs ps).toArray) (t := 9) (fr := (0, 0)) (heap_alloc_new w1 _)) (svs_one ps) (by omega) (by rw [hmx]; omega) (by omega) (by simp; omega) _ rfl
  have hsz : w1.heap.size ≤ w'.heap.size := by have := hgrow.size; simp at this; omega
  refine ⟨_, w', fun ty => hr, ⟨?_, by omega⟩, ((Below.refl _ _).alloc hle _).trans (grown_below o1 (by simp; omega) hgrow), kp9_own hO.own (fun x hx hne => by rw [hgrow.block x (by simp; omega) (Ne.symm hne)]; first | exact heap_alloc_old _ _ hx | exact heap_alloc_old _ _ _ hx)⟩
  unfold svs
  rw [List.map_append, List.length_append]
  exact hown
/-- the same in a plain region -/
theorem app_s2 {ops : Array Oper} {rest : List Oper} {o : Oper} {a : Act} {Q : Exit → Act → World → Prop} {W : World} (hgd : o.guard = none) (s x : Operand) (ho : o.op = .call { callee := .builtin .append, args := #[s, x], argTypes := #[64, 64] })
    {base : Nat} {w : World} {v : Value} {l : List (List UInt8)} {g : Nat} (ps : List (List UInt8)) (hp1 : 1 ≤ ps.length) (hp : ps.length ≤ 16) (hW : W = w.alloc (.cells (svs ps).toArray 9)) (hO : So base w v l) (hg : g = w.heap.size) (hn : l.length ≤ 1000000000)
    (hs : a.eval s = v) (hx : a.eval x = .slice (some ⟨g, 0, none⟩) ps.length ps.length)
    (h : ∀ v' w', So base w' v' (l ++ ps) → Below base w w' → Kp9 w w' → wpList Tryz.prog ops Q rest (a.put o.dst v') w') :
    wpList Tryz.prog ops Q (o :: rest) a W := by
  subst hW hg
  refine wpList_plain hgd fun K hK => ?_
  obtain ⟨v', w', hr, h2, h3, h4⟩ := run_s ps hp1 hp hO hn
  unfold Oper.wp execOp
  simp only [ho, resolve, invoke, builtin, Sem.run_bind, Sem.run_pure, Result.andThen_ok, List.map_toArray, List.map_cons, List.map_nil, hs, hx, hr]
  exact hK _ _ (h v' w' h2 h3 h4)
theorem So.lit (w : World) (ts : List (List UInt8)) (h : ts.length ≤ 1000) : So w.heap.size (w.alloc (.cells (svs ts).toArray 9)) (.slice (some ⟨w.heap.size, 0, none⟩) ts.length ts.length) ts := by
  refine ⟨⟨by simp [svs], Or.inr ⟨w.heap.size, ts.length, (svs ts).toArray, rfl, Nat.le_refl _, heap_alloc_new w _, Nat.le_refl _, ?_, by simp [svs], by simp only [svs, Nat.mul_one]; exact List.take_of_length_le (by simp)⟩⟩, by simp⟩
  have : maxLen = 9223372036854775807 := rfl
  omega
theorem So.mon {b b' : Nat} {w : World} {v : Value} {ts : List (List UInt8)} (h : So b w v ts) (hb : b' ≤ b) : So b' w v ts := by
  refine ⟨⟨h.own.1, ?_⟩, Nat.le_trans hb h.le⟩
  rcases h.own.2 with q | ⟨g, cap, cur, h1, h2, h3⟩
  · exact Or.inl q
  · exact Or.inr ⟨g, cap, cur, h1, Nat.le_trans hb h2, h3⟩
theorem info5zf : (Tryz.prog.info? 5).map (fun i => (i.zero, i.size, i.bytes)) = some (some (.int .u8 0), 1, 1) := by kernel_rfl
theorem info5z : ∃ i, Tryz.prog.info? 5 = some i ∧ i.zero = some (.int .u8 0) ∧ i.size = 1 ∧ i.bytes = 1 := by
  have h := info5zf
  cases hi : Tryz.prog.info? 5 with
  | none => rw [hi] at h; cases h
  | some i =>
    rw [hi] at h
    injection h with h
    injection h with h1 h
    injection h with h2 h3
    exact ⟨i, rfl, h1, h2, h3⟩
/-- some zeros, made -/
def zO (F : Nat) : Obj := .cells (madeCells #[.int .u8 0] F) 5
theorem mk_zero (F : Nat) (hF : F ≤ 1000) (w : World) : (Instr.makeSlice 47 (.int .i64 (F : Int)) (.int .i64 (F : Int))).run Tryz.prog w = .ok (.slice (some ⟨w.heap.size, 0, none⟩) F F) (w.alloc (zO F)) := by
  obtain ⟨i, hi, hz, h1, h2⟩ := info5z
  have h := run_make (P := Tryz.prog) (w := w) 47 5 i (.int .u8 0) Tryz.underlying47 hi hz .i64 .i64 (F : Int) (F : Int) (by omega) (by omega) (by rw [h2]; omega) (by omega)
  rw [h1, Nat.mul_one, Int.toNat_natCast] at h
  exact h
theorem conv_zero (F : Nat) (w : World) : (convert 47 9 (.slice (some ⟨w.heap.size, 0, none⟩) F F)).run Tryz.prog (w.alloc (zO F)) = .ok (str (List.replicate F 0)) (w.alloc (zO F)) := by
  have h := run_convert_bytes_back (P := Tryz.prog) (w.alloc (zO F)) 47 9 5 ⟨w.heap.size, 0, none⟩ F (List.replicate F (0 : UInt8)) Tryz.underlying47 Tryz.underlying5 Tryz.underlying9 (fun j hj => by
    have hg : (w.alloc (zO F)).heap[w.heap.size]? = some (.cells (madeCells #[.int .u8 0] F) 5 (0, 0)) := heap_alloc_new w _
    have hj2 : j < F := by simpa using hj
    have hadd : (⟨w.heap.size, 0, none⟩ : Addr).add j = ⟨w.heap.size, j, none⟩ := by unfold Addr.add; split <;> simp_all
    rw [hadd, cell_of_row _ _ _ _ _ _ hg, ← Array.getElem?_toList, toList_madeCells_one, List.getElem?_replicate, if_pos hj2, List.getElem_replicate]
    rfl)
  rw [List.length_replicate] at h
  exact h
end Go.Proofs.YtcmmbdcflblekaaGreatDoor

/- ArchiveSays: the walk. -/
namespace Go.Proofs.YtcmmbdcflblekaaGreatDoor
set_option maxRecDepth 100000
set_option linter.unusedVariables false
set_option linter.unusedSimpArgs false
open Go.RowKit
open Go.Proofs.YtcmmbdcflblekaaGreatDoorP (TB recd nn LEN key itoa_any)
open Go.Proofs.YtcmmbdcflblekaaGreatDoorH (hv hv_length hv_one hv_eq hv_b32 KIn leaf leaf_hv eqb hexL hex_any rootOf)
attribute [local go_sem ↓] Go.wp_at_zero Go.wp_at_succ ad9 Go.Proofs.YtcmmbdcflblekaaGreatDoorP.sl9 ldHe eqHe ldIe stIe
theorem hv_cut2 (f : Nat → UInt8) : hv (cut32 f) = hv f := by
  rw [hv_eq, hv_eq]
  refine List.map_congr_left fun j hj => ?_
  unfold cut32
  rw [if_pos (by simpa using hj)]
theorem eqb_cut (f : Nat → UInt8) : eqb (cut32 f) f = true := eqb_hv.2 (hv_cut2 f)
theorem end_eq {D p e F : Nat} (hF : F = fil D) (he : e = p + (D + F)) (hl : e ≤ 6010000000) : wrap64 ((p : Int) + wrap64 (wrap64 ((wrap64 ((D : Int) + 63)).tdiv 64) * 64)) = (e : Int) := by
  have w : ∀ n : Nat, n ≤ 7000000000 → wrap64 (n : Int) = (n : Int) := fun n hn => by unfold wrap64; omega
  have h1 : (D : Int) + 63 = ((D + 63 : Nat) : Int) := rfl
  have h2 : ((D + 63 : Nat) : Int).tdiv 64 = (((D + 63) / 64 : Nat) : Int) := by rw [Int.tdiv_eq_ediv_of_nonneg (by omega)]; omega
  have h3 : (((D + 63) / 64 : Nat) : Int) * 64 = ((D + F : Nat) : Int) := by have := fil_eq D; rw [← hF] at this; omega
  have h4 : (p : Int) + ((D + F : Nat) : Int) = (e : Int) := by omega
  rw [h1, w _ (by omega), h2, w _ (by omega), h3, w _ (by omega), h4, w _ (by omega)]
theorem w_add {p d q : Nat} (h : q = p + d) (hl : q ≤ 7000000000) : IntKind.i64.wrap ((p : Int) + (d : Int)) = (q : Int) ∧ wrap64 ((p : Int) + (d : Int)) = (q : Int) := by
  subst h
  refine ⟨?_, ?_⟩
  · rw [IntKind.wrap_i64]; omega
  · unfold wrap64; omega
theorem w_sub {p d q : Nat} (h : p = q + d) (hl : p ≤ 7000000000) : IntKind.i64.wrap ((p : Int) - (d : Int)) = (q : Int) ∧ wrap64 ((p : Int) - (d : Int)) = (q : Int) := by
  subst h
  refine ⟨?_, ?_⟩
  · rw [IntKind.wrap_i64]; omega
  · unfold wrap64; omega
theorem say_nums {D p e F S PD DF : Nat} (hF : F = fil D) (he : e = p + (D + F)) (hle : p + (D + F) ≤ S) (hS : S ≤ 6010000000) (h1 : PD = p + D) (h2 : DF = D + F) :
    wrap64 ((p : Int) + wrap64 (wrap64 ((wrap64 ((D : Int) + 63)).tdiv 64) * 64)) = (e : Int) ∧
    Hid (IntKind.i64.wrap ((p : Int) + (D : Int)) = (PD : Int) ∧ IntKind.i64.wrap ((e : Int) - (p : Int)) = (DF : Int) ∧ IntKind.i64.wrap ((DF : Int) - (D : Int)) = (F : Int)) ∧
    Hid (decide ((S : Int) < (e : Int)) = false ∧ decide (S < e) = false) :=
  ⟨end_eq hF he (by omega), ⟨(w_add h1 (by omega)).1, (w_sub (by omega) (by omega)).1, (w_sub (by omega) (by omega)).1⟩, ⟨decide_eq_false (by omega), decide_eq_false (by omega)⟩⟩
/-- what the loop keeps -/
structure Sk (w5 wr : World) (v9 : Value) (ts : List (List UInt8)) : Prop where
  bel : Below w5.heap.size w5 wr
  so : So w5.heap.size wr v9 ts
theorem Sk.later {w5 wr w' : World} {v9 : Value} {ts : List (List UInt8)} (h : Sk w5 wr v9 ts) (hb : Below wr.heap.size wr w') : Sk w5 w' v9 ts := ⟨h.bel.trans (hb.mono h.bel.size), h.so.later hb⟩
set_option maxRecDepth 100000 in
set_option maxHeartbeats 8000000 in
theorem says_walk (L : List Vs) (n : Int) (w : World) (a : Option Addr) (cap : Nat) (hL : VIn w a L) (hz : L.length ≤ 4611686018427387904) (hT : TB w) (hE : EG w) (hK : KIn w) :
    Calls Tryz.prog 5 #[.agg #[.int .i64 n, .slice a L.length cap]] w fun e w' => e = .returned (.bool true) ∧ Below w.heap.size w w' := by
  have HT := Hid.mk hT
  have HE := Hid.mk hE
  have HK := Hid.mk hK
  have b1 := (Below.refl w.heap.size w).alloc (Nat.le_refl _) (.cells #[.int .i64 n, .slice a L.length cap] 24)
  have z1 := Bb2.new w n (.slice a L.length cap)
  have HV := Hid.mk (hL.later b1)
  have HZ := Hid.mk z1
  have HB := Hid.mk b1
  have hf := first_any _ (hT.below b1) (hE.below b1) (hK.seq b1)
  clear hT hE hK b1 z1 hL
  go_enter Tryz.func5, Tryz.ntmps5
  go_wp2_with fail
  generalize w.alloc (.cells #[.int .i64 n, .slice a L.length cap] 24) = w1 at *
  generalize hg1 : w.heap.size = g1 at HZ ⊢
  have HG1 := Hid.mk hg1
  clear hg1
  with_reducible refine Calls.mono hf ?_
  rintro e w2 ⟨rfl, b2⟩
  have HB2 := Hid.mk (below_seq HB.out b2)
  obtain ⟨c0, c1⟩ := (HZ.out.later b2).cells
  have hm := made2_any L n w2 a cap (HV.out.later b2) hz
  clear hf b2 HV HZ HB
  dsimp only
  go_wp2_with fail
  with_reducible refine Calls.mono hm ?_
  rintro e w3 ⟨⟨P, m, sq, va, vc⟩, rfl, hon, b3⟩
  have hO : OfR P m 0 := hon.of
  have HPn : Hid (P.length ≤ 40) := ⟨hon.mdl.len⟩
  have HPl : Hid (∀ v ∈ P, v.l.length ≤ 5) := ⟨fun v hv => (hon.mdl.ok v hv).t⟩
  have hvin : VIn w3 va P := hon.vin
  have bx := (Below.refl w3.heap.size w3).alloc (Nat.le_refl _) (.cells #[.int .i64 m, .slice va P.length vc] 24)
  have HB3 := Hid.mk (below_seq (below_seq HB2.out b3) bx)
  have HX3 : Hid (Bb2 (w3.alloc (.cells #[.int .i64 m, .slice va P.length vc] 24)) w3.heap.size m (.slice va P.length vc) ∧ VIn (w3.alloc (.cells #[.int .i64 m, .slice va P.length vc] 24)) va P) := ⟨Bb2.new _ _ _, hvin.later bx⟩
  have HO := Hid.mk hO
  clear hm hon b3 hvin bx hO c0 c1 HB2
  dsimp only
  go_wp2_with fail
  generalize w3.alloc (.cells #[.int .i64 m, .slice va P.length vc] 24) = W3 at *
  generalize w3.heap.size = gb at *
  have hc := en_of HO.out (cap := vc) HX3.out.2 (HT.out.below HB3.out) (HK.out.seq HB3.out)
  have hd0 : ∀ w', TB w' → EG w' → KIn w' → _ := fun w' t e k => mread_arc HO.out w' t e k
  have HRec : Hid (∀ w', TB w' → Calls Tryz.prog 24 #[str (arc P m 0), .int .i64 ((pos P m P.length : Nat) : Int)] w' fun e w'' => e = .returned (.tuple #[str sRoot, str (rtX (P.map enc)), .int .i64 ((pos P m P.length + LEN (nn sRoot (rtX (P.map enc))) : Nat) : Int), .int .i64 0]) ∧ Below w'.heap.size w' w'') := ⟨fun w' t => pread_at (rd_root P m) pos_le.1 (by have := arc_len_le HO.out; omega) w' t⟩
  have HRec2 : Hid (∀ w', TB w' → Calls Tryz.prog 24 #[str (arc P m 0), .int .i64 ((pos P m P.length + LEN (nn sRoot (rtX (P.map enc))) : Nat) : Int)] w' fun e w'' => e = .returned (.tuple #[str sLength, str (dec ((pos P m P.length : Nat) : Int)), .int .i64 (((arc P m 0).length : Nat) : Int), .int .i64 0]) ∧ Below w'.heap.size w' w'') := ⟨fun w' t => by
    have h := pread_at (rd_len HO.out) pos_le.2 (by have := arc_len_le HO.out; omega) w' t
    rw [arc_last] at h
    exact h⟩
  have HDat : Hid (∀ (k : Nat) (v : Vs), P[k]? = some v → pos P m (k + 1) = pos P m k + (v.data.length + fil v.data.length) ∧ pos P m k + (v.data.length + fil v.data.length) ≤ (arc P m 0).length ∧ (∀ w, (Go.Proofs.YtcmmbdcflblekaaGreatDoorP.slS (str (arc P m 0)) (some (.int .i64 ((pos P m k : Nat) : Int))) (some (.int .i64 ((pos P m k + v.data.length : Nat) : Int))) none).run Tryz.prog w = .ok (str v.data) w) ∧ (∀ w, (Go.Proofs.YtcmmbdcflblekaaGreatDoorP.slS (str (arc P m 0)) (some (.int .i64 ((pos P m k + v.data.length : Nat) : Int))) (some (.int .i64 ((pos P m (k + 1) : Nat) : Int))) none).run Tryz.prog w = .ok (str (List.replicate (fil v.data.length) 0)) w)) := ⟨fun k v hv => ⟨pos_next hv, arc_le hv, (run_data hv rfl rfl (pos_next hv)).1, (run_data hv rfl rfl (pos_next hv)).2⟩⟩
  have HAl : Hid ((arc P m 0).length ≤ 6010000000) := ⟨arc_len_le HO.out⟩
  generalize hss : arc P m 0 = s at *
  obtain ⟨pz, hpz⟩ : ∃ f : Nat → Nat, ∀ k, f k = pos P m k := ⟨pos P m, fun _ => rfl⟩
  have HPl2 : Hid (pos P m P.length ≤ 6010000000) := ⟨Nat.le_trans (pos_le (P := P) (n := m)).1 (by rw [hss]; exact HAl.out)⟩
  simp only [← hpz] at hd0 HRec HRec2 HDat HPl2
  with_reducible refine Calls.mono hc ?_
  rintro e w4 ⟨rfl, b4⟩
  have HB4 := Hid.mk (below_seq HB3.out b4)
  have HX4 : Hid (Bb2 w4 gb m (.slice va P.length vc) ∧ VIn w4 va P) := ⟨HX3.out.1.later b4, HX3.out.2.later b4⟩
  have hd := hd0 w4 (HT.out.below HB4.out) (HE.out.below HB4.out) (HK.out.seq HB4.out)
  clear hc b4 HB3 HX3 hd0 hpz hss
  dsimp only
  go_wp2_with fail
  with_reducible refine Calls.mono hd ?_
  rintro e w5 ⟨R, xa, xc, rfl, hRk, hFi, b5⟩
  have bx := (Below.refl w5.heap.size w5).alloc (Nat.le_refl _) (.cells #[.int .i64 0, .int .i64 m, .slice xa P.length xc] 28)
  have b45 := below_seq b5 bx
  have HB5 := Hid.mk (below_seq HB4.out b45)
  have HX5 : Hid (Bb2 (w5.alloc (.cells #[.int .i64 0, .int .i64 m, .slice xa P.length xc] 28)) gb m (.slice va P.length vc) ∧ VIn (w5.alloc (.cells #[.int .i64 0, .int .i64 m, .slice xa P.length xc] 28)) va P) := ⟨HX4.out.1.later b45, HX4.out.2.later b45⟩
  have HM5 := Hid.mk (Bm3.new w5 0 m (.slice xa P.length xc))
  have HI5 := Hid.mk (hFi.it.later bx)
  have HRk := Hid.mk hRk
  clear hd hRk hFi b5 bx b45 HX4 HB4
  obtain ⟨x0, x1⟩ := HX5.out.1.cells
  obtain ⟨y0, y1, y2⟩ := HM5.out.cells
  dsimp only
  go_wp2_with fail
  generalize w5.alloc (.cells #[.int .i64 0, .int .i64 m, .slice xa P.length xc] 28) = W5 at *
  generalize w5.heap.size = gm at *
  have HJ0 : Hid (Sk W5 W5 (.slice none 0 0) ((P.take 0).map enc)) := ⟨⟨Below.refl _ _, So.nil _ _ (Nat.le_refl _)⟩⟩
  clear x0 x1 y0 y1 y2
  go_loopw [7, 9, 10, 11, 12, 13, 14, 15] (fun v7 v9 v10 _ _ _ _ _ wr => ∃ k : Nat, v7 = .int .i64 ((pz k : Nat) : Int) ∧ v10 = .int .i64 (k : Int) ∧ k ≤ P.length ∧ Hid (Sk W5 wr v9 ((P.take k).map enc))) (fun _ _ v10 _ _ _ _ _ _ => P.length - (intOf v10).toNat)
  case atStart => exact ⟨0, rfl, rfl, Nat.zero_le _, HJ0⟩
  case round =>
    clear HJ0
    obtain ⟨k, rfl, rfl, hk, HJ⟩ := hrel
    obtain ⟨x0, x1⟩ := (HX5.out.1.later HJ.out.bel).cells
    by_cases hlt : k < P.length
    · have d1 : decide ((k : Int) < (P.length : Int)) = true := decide_eq_true (Int.ofNat_lt.2 hlt)
      have k0 : (0 : Int) ≤ (k : Int) := Int.natCast_nonneg k
      have k2 : (k : Int) < (P.length : Int) := Int.ofNat_lt.2 hlt
      have hw1 : wrap64 ((k : Int) + 1) = ((k + 1 : Nat) : Int) := by unfold wrap64; have := HPn.out; omega
      obtain ⟨v, hvk⟩ : ∃ v, P[k]? = some v := ⟨P[k], List.getElem?_eq_getElem hlt⟩
      have hrv := HO.out.2.1 v (List.mem_of_getElem? hvk)
      obtain ⟨b, off, ma, mc, hab, hbl, c0, c1, c2, c3, c4, hsl⟩ := (HX5.out.2.later HJ.out.bel).get k v hvk
      subst hab
      obtain ⟨ra, rc, hrk⟩ := HRk.out k v hvk
      have hit : (R.map (·.1))[k]? = some (nz (itOf v (enc v))) := by rw [List.getElem?_map, hrk]; rfl
      obtain ⟨b', off', ya, yc, hra, hbl', hr0, hys⟩ := HI5.out.get k _ hit
      subst hra
      have HTk : Hid ((P.take (k + 1)).map enc = (P.take k).map enc ++ [enc v]) := ⟨by rw [List.take_add_one, hvk]; simp⟩
      have HLk : Hid (((P.take k).map enc).length ≤ 1000) := ⟨by rw [List.length_map, List.length_take]; have := HPn.out; omega⟩
      have HDv := Hid.mk (HDat.out k v hvk)
      have HEl : Hid ((enc v).length ≤ 1048576) := ⟨enc_le hrv⟩
      have bx := (Below.refl wr.heap.size wr).alloc (Nat.le_refl _) (.cells #[str v.key, .int .i64 v.seq, .bool v.mkr, str v.data, .slice ma v.l.length mc] 54)
      have HV1 := Hid.mk (B5v.new wr v.key v.seq v.mkr v.data (.slice ma v.l.length mc))
      have HJ1 := Hid.mk (HJ.out.later bx)
      have hwr := write_some hrv (wr.alloc (.cells #[str v.key, .int .i64 v.seq, .bool v.mkr, str v.data, .slice ma v.l.length mc] 54)) ma v.l.length mc rfl (hsl.later bx).at'
      obtain ⟨x, hx⟩ : ∃ x, x = nz (itOf v (enc v)) := ⟨_, rfl⟩
      have hxk : x.key = v.key ∧ x.seq = v.seq ∧ x.mkr = v.mkr ∧ x.size = (v.data.length : Int) ∧ x.l = v.l ∧ hv x.g = hv (leaf (enc v)) := by rw [hx]; exact ⟨rfl, rfl, rfl, rfl, rfl, hv_cut2 _⟩
      rw [← hx] at hr0
      have HR0 := Hid.mk (And.intro hbl' hr0)
      clear hx hit hrk hys hbl' hr0 hvk hsl bx hrv
      obtain ⟨xk, xs, xm, xz, xl, xg⟩ := x
      generalize (P.take k).map enc = ts at *
      generalize htx : enc v = tx at *
      obtain ⟨key, seq, mkr, data, l⟩ := v
      dsimp only at *
      obtain ⟨rfl, rfl, rfl, rfl, rfl, hxg⟩ := hxk
      have HXg := Hid.mk hxg
      clear hxg htx
      go_wp2_with fail
      generalize wr.alloc (.cells #[str xk, .int .i64 xs, .bool xm, str data, .slice ma xl.length mc] 54) = W2 at *
      generalize wr.heap.size = gv at *
      with_reducible refine Calls.mono hwr ?_
      rintro e w1 ⟨rfl, b1⟩
      have HJ2 := Hid.mk (HJ1.out.later b1)
      have HV2 := Hid.mk (HV1.out.later b1)
      clear hwr b1 HJ1 HV1 HJ c0 c1 c2 c3 c4 x0 x1 hbl
      obtain ⟨y0, y1, y2⟩ := (HM5.out.later HJ2.out.bel).cells
      have hr := Go.Proofs.YtcmmbdcflblekaaGreatDoorH.rangeBelow HR0.out.2 HJ2.out.bel HR0.out.1
      have l1 := run_ldI hr
      have s1 := run_stI w1 ⟨xk, xs, xm, (data.length : Int), xl, xg⟩ ya yc
      have by' := (Below.refl w1.heap.size w1).alloc (Nat.le_refl _) (.cells (ic ⟨xk, xs, xm, (data.length : Int), xl, xg⟩ ya yc).toArray 46)
      have HI3 := Hid.mk (Bi.new w1 ⟨xk, xs, xm, (data.length : Int), xl, xg⟩ ya yc)
      have HJ3 := Hid.mk (HJ2.out.later by')
      have HV3 := Hid.mk (HV2.out.later by')
      clear by' hr HJ2 HV2
      dsimp only
      go_wp2_with fail
      generalize w1.alloc (.cells (ic ⟨xk, xs, xm, (data.length : Int), xl, xg⟩ ya yc).toArray 46) = W3 at *
      generalize w1.heap.size = gx at *
      have Hlf : Hid (Calls Tryz.prog 23 #[str tx] W3.drew fun e w' => e = .returned (.agg (hv (leaf tx)).toArray) ∧ Below W3.drew.heap.size W3.drew w') := ⟨leaf_hv ⟨tx.toArray⟩ W3.drew ((HK.out.seq (below_seq HB5.out HJ3.out.bel)).seq (Below.refl _ _).drew) (by rw [str_size]; have := HEl.out; omega)⟩
      generalize leaf tx = lg at *
      have XC : Hid (∀ w', Below W3.heap.size W3 w' → Below W3.heap.size W3 w' ∧ w'.cell? ⟨gv, 0, none⟩ = some (str xk) ∧ w'.cell? ⟨gv, 1, none⟩ = some (.int .i64 xs) ∧ w'.cell? ⟨gv, 2, none⟩ = some (.bool xm) ∧ w'.cell? ⟨gv, 3, none⟩ = some (str data) ∧ w'.cell? ⟨gx, 0, none⟩ = some (str xk) ∧ w'.cell? ⟨gx, 1, none⟩ = some (.int .i64 xs) ∧ w'.cell? ⟨gx, 2, none⟩ = some (.bool xm) ∧ w'.cell? ⟨gx, 3, none⟩ = some (.int .i64 (data.length : Int)) ∧ w'.rangeAt gx 5 (hv lg)) := ⟨fun w' h => by
        have hi := HI3.out.later h
        obtain ⟨c0, c1, c2, c3, c4⟩ := (HV3.out.later h).cells
        obtain ⟨e0, e1, e2, e3, e4⟩ := hi.cells
        refine ⟨h, c0, c1, c2, c3, e0, e1, e2, e3, ?_⟩
        rw [← HXg.out]
        exact fun j v hj => by refine hi.range (5 + j) v ?_ |> fun q => by simpa using q
                               unfold ic; rw [List.getElem?_append_right (by simp)]; simpa using hj⟩
      have hu32 := Tryz.underlying44
      have hi32 : (Tryz.prog.info? 44).map (·.size) = some (hv lg).length := by rw [hv_length]; exact infoH
      have heq : ∀ w, (eqH (.agg (hv lg).toArray) (.agg (hv lg).toArray)).run Tryz.prog w = .ok true w := fun w => by have := run_eqH lg lg w; rwa [eqb_hv.2 rfl] at this
      have f1 : (xk == xk) = true := by simp
      have f2 : (xs != xs) = false := by simp
      have f3 : (xm == xm) = true := by simp
      have f4 : ((data.length : Int) != (data.length : Int)) = false := by simp
      have HBd : Hid (Below W3.heap.size W3 W3.drew) := ⟨(Below.refl _ _).drew⟩
      have hlf := Hlf.out
      clear y0 y1 y2 l1 s1
      go_region_held3 (fun w' => Below W3.heap.size W3 w' ∧ w'.cell? ⟨gv, 0, none⟩ = some (str xk) ∧ w'.cell? ⟨gv, 1, none⟩ = some (.int .i64 xs) ∧ w'.cell? ⟨gv, 2, none⟩ = some (.bool xm) ∧ w'.cell? ⟨gv, 3, none⟩ = some (str data) ∧ w'.cell? ⟨gx, 0, none⟩ = some (str xk) ∧ w'.cell? ⟨gx, 1, none⟩ = some (.int .i64 xs) ∧ w'.cell? ⟨gx, 2, none⟩ = some (.bool xm) ∧ w'.cell? ⟨gx, 3, none⟩ = some (.int .i64 (data.length : Int)) ∧ w'.rangeAt gx 5 (hv lg)) (first
        | with_reducible exact XC.out _ HBd.out
        | with_reducible exact XC.out _ (below_seq HBd.out b9)) (first
        | (go_at_call 23; with_reducible refine Calls.mono hlf ?_; rintro e w9 ⟨rfl, b9⟩))
      have hb39 := below_seq HBd.out b9
      have HJ5 := Hid.mk (HJ3.out.later hb39)
      have HV5 := Hid.mk (HV3.out.later hb39)
      clear hb39 b9 HJ3 HV3 HI3 XC hu32 hi32 heq f1 f2 f3 f4 HBd hlf Hlf
      generalize w9 = wd at *
      have hJ5 := HJ5.out
      go_upto_region 18 with (refine app_s2 rfl _ _ rfl [tx] (by simp) (by simp) rfl hJ5.so rfl (by have := HLk.out; omega) rfl rfl ?_; intro v9 w7 hs7 hb7 hk7)
      have HJ7 : Hid (Sk W5 w7 v9 (ts ++ [tx])) := ⟨⟨hJ5.bel.trans hb7, hs7⟩⟩
      have hv7 : B5v w7 gv xk xs xm data (.slice ma xl.length mc) := hk7.keep _ _ _ HV5.out (by decide)
      have HS7 : Hid (∀ w', Below w7.heap.size w7 w' → w'.cell? ⟨gv, 3, none⟩ = some (str data)) := ⟨fun w' h => (hv7.later h).cells.2.2.2.1⟩
      have c3 := hv7.cells.2.2.2.1
      clear hJ5 hs7 hb7 hk7 hv7 HJ5 HV5
      obtain ⟨hp1, hp2, hs1, hs2⟩ := HDv.out
      obtain ⟨F, hF⟩ : ∃ F, F = fil data.length := ⟨_, rfl⟩
      have HF : Hid (F ≤ 1000) := ⟨by rw [hF]; have := fil_lt data.length; omega⟩
      rw [← hF] at hp1 hp2 hs2
      obtain ⟨PD, hPD⟩ : ∃ PD, PD = pz k + data.length := ⟨_, rfl⟩
      obtain ⟨DF, hDF⟩ : ∃ DF, DF = data.length + F := ⟨_, rfl⟩
      rw [← hPD] at hs1 hs2
      obtain ⟨EN, hEN⟩ : ∃ EN, EN = pz (k + 1) := ⟨_, rfl⟩
      rw [← hEN] at hp1 hs2
      obtain ⟨hq15, HW, HD9⟩ := say_nums hF hp1 hp2 HAl.out hPD hDF
      have HMk : Hid ((∀ w, (Instr.makeSlice 47 (.int .i64 (F : Int)) (.int .i64 (F : Int))).run Tryz.prog w = .ok (.slice (some ⟨w.heap.size, 0, none⟩) F F) (w.alloc (zO F))) ∧ ∀ w : World, (convert 47 9 (.slice (some ⟨w.heap.size, 0, none⟩) F F)).run Tryz.prog (w.alloc (zO F)) = .ok (str (List.replicate F 0)) (w.alloc (zO F))) := ⟨fun w => mk_zero F HF.out w, fun w => conv_zero F w⟩
      have HEn := Hid.mk hEN
      generalize List.replicate F (0 : UInt8) = ZZ at *
      clear hp1 hp2 hF hPD hDF hEN HF HDv
      go_upto_region 19 with fail
      rw [hq15]
      obtain ⟨dg, dg'⟩ := HD9.out
      obtain ⟨ww1, ww2, ww3⟩ := HW.out
      clear hq15 c3
      refine wp_region_held (S := fun w' => w'.cell? ⟨gv, 3, none⟩ = some (str data)) (by kernel_rfl) ?_
      try (change wpAnyH _ _ _ _ _ _ _ _ (World.drew _))
      have bq0 := (Below.refl w7.heap.size w7).drew
      have hHeld := HS7.out _ bq0
      generalize w7.drew = wq at *
      refine take2 0 138 (.int .i64 ((EN : Nat) : Int)) rfl rfl (by kernel_rfl) (by kernel_rfl) (by kernel_rfl) (fun _ _ _ h => h) (by kernel_rfl) ?_ (by assumption) ?_
      · intro w' s0
        go_simp
      try simp only [Act.put, List.setIfInBounds_toArray, List.set_cons_zero, List.set_cons_succ]
      refine take2 1 139 (str s) rfl rfl (by kernel_rfl) (by kernel_rfl) (by kernel_rfl) (fun _ _ _ h => h) (by kernel_rfl) ?_ (by assumption) ?_
      · intro w' s0
        go_simp
      try simp only [Act.put, List.setIfInBounds_toArray, List.set_cons_zero, List.set_cons_succ]
      refine take2 2 140 (.int .i64 ((s.length : Nat) : Int)) rfl rfl (by kernel_rfl) (by kernel_rfl) (by kernel_rfl) (fun _ _ _ h => h) (by kernel_rfl) ?_ (by assumption) ?_
      · intro w' s0
        go_simp
      try simp only [Act.put, List.setIfInBounds_toArray, List.set_cons_zero, List.set_cons_succ]
      refine take2 3 141 (.bool false) rfl rfl (by kernel_rfl) (by kernel_rfl) (by kernel_rfl) (fun _ _ _ h => h) (by kernel_rfl) ?_ (by assumption) ?_
      · intro w' s0
        go_simp
      try simp only [Act.put, List.setIfInBounds_toArray, List.set_cons_zero, List.set_cons_succ]
      refine take2 4 142 (.bool false) rfl rfl (by kernel_rfl) (by kernel_rfl) (by kernel_rfl) (fun _ _ _ h => h) (by kernel_rfl) ?_ (by assumption) ?_
      · intro w' s0
        go_simp
      try simp only [Act.put, List.setIfInBounds_toArray, List.set_cons_zero, List.set_cons_succ]
      refine take2 5 143 (str s) rfl rfl (by kernel_rfl) (by kernel_rfl) (by kernel_rfl) (fun _ _ _ h => h) (by kernel_rfl) ?_ (by assumption) ?_
      · intro w' s0
        go_simp
      try simp only [Act.put, List.setIfInBounds_toArray, List.set_cons_zero, List.set_cons_succ]
      refine take2 6 144 (.int .i64 ((pz k : Nat) : Int)) rfl rfl (by kernel_rfl) (by kernel_rfl) (by kernel_rfl) (fun _ _ _ h => h) (by kernel_rfl) ?_ (by assumption) ?_
      · intro w' s0
        go_simp
      try simp only [Act.put, List.setIfInBounds_toArray, List.set_cons_zero, List.set_cons_succ]
      refine take2 7 145 (.int .i64 ((pz k : Nat) : Int)) rfl rfl (by kernel_rfl) (by kernel_rfl) (by kernel_rfl) (fun _ _ _ h => h) (by kernel_rfl) ?_ (by assumption) ?_
      · intro w' s0
        go_simp
      try simp only [Act.put, List.setIfInBounds_toArray, List.set_cons_zero, List.set_cons_succ]
      refine take2 8 146 (.pointer (some ⟨gv, 3, none⟩)) rfl rfl (by kernel_rfl) (by kernel_rfl) (by kernel_rfl) (fun _ _ _ h => h) (by kernel_rfl) ?_ (by assumption) ?_
      · intro w' s0
        go_simp
      try simp only [Act.put, List.setIfInBounds_toArray, List.set_cons_zero, List.set_cons_succ]
      refine take2 9 147 (str data) rfl rfl (by kernel_rfl) (by kernel_rfl) (by kernel_rfl) (fun _ _ _ h => h) (by kernel_rfl) ?_ (by assumption) ?_
      · intro w' s0
        go_simp
      try simp only [Act.put, List.setIfInBounds_toArray, List.set_cons_zero, List.set_cons_succ]
      refine take2 10 148 (.int .i64 ((data.length : Nat) : Int)) rfl rfl (by kernel_rfl) (by kernel_rfl) (by kernel_rfl) (fun _ _ _ h => h) (by kernel_rfl) ?_ (by assumption) ?_
      · intro w' s0
        go_simp
      try simp only [Act.put, List.setIfInBounds_toArray, List.set_cons_zero, List.set_cons_succ]
      refine take2 11 149 (.int .i64 ((PD : Nat) : Int)) rfl rfl (by kernel_rfl) (by kernel_rfl) (by kernel_rfl) (fun _ _ _ h => h) (by kernel_rfl) ?_ (by assumption) ?_
      · intro w' s0
        go_simp
      try simp only [Act.put, List.setIfInBounds_toArray, List.set_cons_zero, List.set_cons_succ]
      refine take2 12 150 (str data) rfl rfl (by kernel_rfl) (by kernel_rfl) (by kernel_rfl) (fun _ _ _ h => h) (by kernel_rfl) ?_ (by assumption) ?_
      · intro w' s0
        go_simp
      try simp only [Act.put, List.setIfInBounds_toArray, List.set_cons_zero, List.set_cons_succ]
      refine take2 13 151 (.pointer (some ⟨gv, 3, none⟩)) rfl rfl (by kernel_rfl) (by kernel_rfl) (by kernel_rfl) (fun _ _ _ h => h) (by kernel_rfl) ?_ (by assumption) ?_
      · intro w' s0
        go_simp
      try simp only [Act.put, List.setIfInBounds_toArray, List.set_cons_zero, List.set_cons_succ]
      refine take2 14 152 (str data) rfl rfl (by kernel_rfl) (by kernel_rfl) (by kernel_rfl) (fun _ _ _ h => h) (by kernel_rfl) ?_ (by assumption) ?_
      · intro w' s0
        go_simp
      try simp only [Act.put, List.setIfInBounds_toArray, List.set_cons_zero, List.set_cons_succ]
      refine take2 15 153 (.bool false) rfl rfl (by kernel_rfl) (by kernel_rfl) (by kernel_rfl) (fun _ _ _ h => h) (by kernel_rfl) ?_ (by assumption) ?_
      · intro w' s0
        go_simp
      try simp only [Act.put, List.setIfInBounds_toArray, List.set_cons_zero, List.set_cons_succ]
      refine take2 16 154 (.bool false) rfl rfl (by kernel_rfl) (by kernel_rfl) (by kernel_rfl) (fun _ _ _ h => h) (by kernel_rfl) ?_ (by assumption) ?_
      · intro w' s0
        go_simp
      try simp only [Act.put, List.setIfInBounds_toArray, List.set_cons_zero, List.set_cons_succ]
      refine take2 17 155 (.bool false) rfl rfl (by kernel_rfl) (by kernel_rfl) (by kernel_rfl) (fun _ _ _ h => h) (by kernel_rfl) ?_ (by assumption) ?_
      · intro w' s0
        go_simp
      try simp only [Act.put, List.setIfInBounds_toArray, List.set_cons_zero, List.set_cons_succ]
      refine take2 18 156 (str s) rfl rfl (by kernel_rfl) (by kernel_rfl) (by kernel_rfl) (fun _ _ _ h => h) (by kernel_rfl) ?_ (by assumption) ?_
      · intro w' s0
        go_simp
      try simp only [Act.put, List.setIfInBounds_toArray, List.set_cons_zero, List.set_cons_succ]
      refine take2 19 157 (.int .i64 ((pz k : Nat) : Int)) rfl rfl (by kernel_rfl) (by kernel_rfl) (by kernel_rfl) (fun _ _ _ h => h) (by kernel_rfl) ?_ (by assumption) ?_
      · intro w' s0
        go_simp
      try simp only [Act.put, List.setIfInBounds_toArray, List.set_cons_zero, List.set_cons_succ]
      refine take2 20 158 (.pointer (some ⟨gv, 3, none⟩)) rfl rfl (by kernel_rfl) (by kernel_rfl) (by kernel_rfl) (fun _ _ _ h => h) (by kernel_rfl) ?_ (by assumption) ?_
      · intro w' s0
        go_simp
      try simp only [Act.put, List.setIfInBounds_toArray, List.set_cons_zero, List.set_cons_succ]
      refine take2 21 159 (str data) rfl rfl (by kernel_rfl) (by kernel_rfl) (by kernel_rfl) (fun _ _ _ h => h) (by kernel_rfl) ?_ (by assumption) ?_
      · intro w' s0
        go_simp
      try simp only [Act.put, List.setIfInBounds_toArray, List.set_cons_zero, List.set_cons_succ]
      refine take2 22 160 (.int .i64 ((data.length : Nat) : Int)) rfl rfl (by kernel_rfl) (by kernel_rfl) (by kernel_rfl) (fun _ _ _ h => h) (by kernel_rfl) ?_ (by assumption) ?_
      · intro w' s0
        go_simp
      try simp only [Act.put, List.setIfInBounds_toArray, List.set_cons_zero, List.set_cons_succ]
      refine take2 23 161 (.int .i64 ((PD : Nat) : Int)) rfl rfl (by kernel_rfl) (by kernel_rfl) (by kernel_rfl) (fun _ _ _ h => h) (by kernel_rfl) ?_ (by assumption) ?_
      · intro w' s0
        go_simp
      try simp only [Act.put, List.setIfInBounds_toArray, List.set_cons_zero, List.set_cons_succ]
      refine take2 24 162 (.int .i64 ((EN : Nat) : Int)) rfl rfl (by kernel_rfl) (by kernel_rfl) (by kernel_rfl) (fun _ _ _ h => h) (by kernel_rfl) ?_ (by assumption) ?_
      · intro w' s0
        go_simp
      try simp only [Act.put, List.setIfInBounds_toArray, List.set_cons_zero, List.set_cons_succ]
      refine take2 25 163 (str ZZ) rfl rfl (by kernel_rfl) (by kernel_rfl) (by kernel_rfl) (fun _ _ _ h => h) (by kernel_rfl) ?_ (by assumption) ?_
      · intro w' s0
        go_simp
      try simp only [Act.put, List.setIfInBounds_toArray, List.set_cons_zero, List.set_cons_succ]
      refine take2 26 164 (.int .i64 ((EN : Nat) : Int)) rfl rfl (by kernel_rfl) (by kernel_rfl) (by kernel_rfl) (fun _ _ _ h => h) (by kernel_rfl) ?_ (by assumption) ?_
      · intro w' s0
        go_simp
      try simp only [Act.put, List.setIfInBounds_toArray, List.set_cons_zero, List.set_cons_succ]
      refine take2 27 165 (.int .i64 ((pz k : Nat) : Int)) rfl rfl (by kernel_rfl) (by kernel_rfl) (by kernel_rfl) (fun _ _ _ h => h) (by kernel_rfl) ?_ (by assumption) ?_
      · intro w' s0
        go_simp
      try simp only [Act.put, List.setIfInBounds_toArray, List.set_cons_zero, List.set_cons_succ]
      refine take2 28 166 (.int .i64 ((DF : Nat) : Int)) rfl rfl (by kernel_rfl) (by kernel_rfl) (by kernel_rfl) (fun _ _ _ h => h) (by kernel_rfl) ?_ (by assumption) ?_
      · intro w' s0
        go_simp
      try simp only [Act.put, List.setIfInBounds_toArray, List.set_cons_zero, List.set_cons_succ]
      refine take2 29 167 (.pointer (some ⟨gv, 3, none⟩)) rfl rfl (by kernel_rfl) (by kernel_rfl) (by kernel_rfl) (fun _ _ _ h => h) (by kernel_rfl) ?_ (by assumption) ?_
      · intro w' s0
        go_simp
      try simp only [Act.put, List.setIfInBounds_toArray, List.set_cons_zero, List.set_cons_succ]
      refine take2 30 168 (str data) rfl rfl (by kernel_rfl) (by kernel_rfl) (by kernel_rfl) (fun _ _ _ h => h) (by kernel_rfl) ?_ (by assumption) ?_
      · intro w' s0
        go_simp
      try simp only [Act.put, List.setIfInBounds_toArray, List.set_cons_zero, List.set_cons_succ]
      refine take2 31 169 (.int .i64 ((data.length : Nat) : Int)) rfl rfl (by kernel_rfl) (by kernel_rfl) (by kernel_rfl) (fun _ _ _ h => h) (by kernel_rfl) ?_ (by assumption) ?_
      · intro w' s0
        go_simp
      try simp only [Act.put, List.setIfInBounds_toArray, List.set_cons_zero, List.set_cons_succ]
      refine take2 32 170 (.int .i64 ((F : Nat) : Int)) rfl rfl (by kernel_rfl) (by kernel_rfl) (by kernel_rfl) (fun _ _ _ h => h) (by kernel_rfl) ?_ (by assumption) ?_
      · intro w' s0
        go_simp
      try simp only [Act.put, List.setIfInBounds_toArray, List.set_cons_zero, List.set_cons_succ]
      have b1 := bal2 bq0 (zO F)
      have hh1 := HS7.out _ b1
      have hmz := HMk.out.1 wq
      refine wpAnyH_ready (rs := [33]) (by kernel_rfl) (by simp) ?_
      refine AllReadyH.cons rfl (fun K9 hK9 => ?_) AllReadyH.nil
      rw [if_pos (by kernel_rfl)]
      refine val_step2 (v := .slice (some ⟨wq.heap.size, 0, none⟩) F F) (w2 := (wq.alloc (zO F))) 171 rfl ?_ ?_
      · go_simp
      refine hK9.out _ _ (hh1) (fun hHeld => ?_)
      clear hK9 K9
      try simp only [Act.put, List.setIfInBounds_toArray, List.set_cons_zero, List.set_cons_succ]
      have hcv := HMk.out.2 wq
      try clear hmz
      refine wpAnyH_ready (rs := [34]) (by kernel_rfl) (by simp) ?_
      refine AllReadyH.cons rfl (fun K9 hK9 => ?_) AllReadyH.nil
      rw [if_pos (by kernel_rfl)]
      refine val_step2 (v := str ZZ) (w2 := (wq.alloc (zO F))) 172 rfl ?_ ?_
      · go_simp
      refine hK9.out _ _ (hh1) (fun hHeld => ?_)
      clear hK9 K9
      try simp only [Act.put, List.setIfInBounds_toArray, List.set_cons_zero, List.set_cons_succ]
      refine take2 35 173 (.bool false) rfl rfl (by kernel_rfl) (by kernel_rfl) (by kernel_rfl) (fun _ _ _ h => h) (by kernel_rfl) ?_ (by assumption) ?_
      · intro w' s0
        go_simp
      try simp only [Act.put, List.setIfInBounds_toArray, List.set_cons_zero, List.set_cons_succ]
      refine take2 36 174 (.bool false) rfl rfl (by kernel_rfl) (by kernel_rfl) (by kernel_rfl) (fun _ _ _ h => h) (by kernel_rfl) ?_ (by assumption) ?_
      · intro w' s0
        go_simp
      try simp only [Act.put, List.setIfInBounds_toArray, List.set_cons_zero, List.set_cons_succ]
      have HJ9 := Hid.mk (HJ7.out.later b1)
      refine wpAnyH_done (by kernel_rfl) ?_ _
      clear hcv hh1 hHeld bq0 b1
      have hfin : (EN : Int) = ((pz (k + 1) : Nat) : Int) := by rw [HEn.out]
      clear hs1 hs2 dg dg' ww1 ww2 ww3
      go_wp2_with fail
      exact ⟨⟨k + 1, by rw [hfin], by first | (rw [hw1]; done) | rfl | go_num, hlt, ⟨by rw [HTk.out]; exact HJ9.out⟩⟩, by first | (rw [hw1]; exact Nat.sub_lt_sub_left hlt (Nat.lt_succ_self k)) | (simp [intOf]; omega)⟩
    · obtain rfl : k = P.length := Nat.le_antisymm hk (Nat.le_of_not_lt hlt)
      have d1 : decide ((P.length : Int) < (P.length : Int)) = false := decide_eq_false (fun h => Int.lt_irrefl _ h)
      have hJ := HJ.out
      rw [List.take_length] at hJ
      have HJe := Hid.mk hJ
      have HBe := Hid.mk (below_seq HB5.out hJ.bel)
      obtain ⟨ts, hts⟩ : ∃ ts, ts = P.map enc := ⟨_, rfl⟩
      have HTs : Hid ((∀ t ∈ ts, t.length ≤ 1048576) ∧ ts.length ≤ 1000) := ⟨by
        rw [hts]
        refine ⟨fun t ht => ?_, by rw [List.length_map]; have := HPn.out; omega⟩
        obtain ⟨v, hvm, rfl⟩ := List.mem_map.1 ht
        exact enc_le (HO.out.2.1 v hvm)⟩
      rw [← hts] at HJe HRec HRec2
      obtain ⟨LE, hLE⟩ : ∃ LE, LE = pz P.length + LEN (nn sRoot (rtX ts)) := ⟨_, rfl⟩
      rw [← hLE] at HRec HRec2
      have h1 : hexL (rootOf ts.length (txF ts)) = rtX ts := rfl
      have hx := fun w => hex_any (rootOf ts.length (txF ts)) w
      rw [← hv_b32, h1] at hx
      have hr1 : Calls Tryz.prog 24 #[str s, .int .i64 ((pz P.length : Nat) : Int)] wr fun e w' => e = .returned (.tuple #[.string ⟨#[114, 111, 111, 116]⟩, str (rtX ts), .int .i64 ((LE : Nat) : Int), .int .i64 0]) ∧ Below wr.heap.size wr w' := HRec.out wr (HT.out.below HBe.out)
      have HR2 : Hid (∀ w', TB w' → Calls Tryz.prog 24 #[str s, .int .i64 ((LE : Nat) : Int)] w' fun e w'' => e = .returned (.tuple #[.string ⟨#[108, 101, 110, 103, 116, 104]⟩, str (dec ((pz P.length : Nat) : Int)), .int .i64 ((s.length : Nat) : Int), .int .i64 0]) ∧ Below w'.heap.size w' w'') := ⟨HRec2.out⟩
      have HIt : Hid (∀ w', TB w' → Calls Tryz.prog 27 #[.int .i64 ((pz P.length : Nat) : Int)] w' fun e w'' => e = .returned (str (dec ((pz P.length : Nat) : Int))) ∧ Below w'.heap.size w' w'') := ⟨fun w' t => (itoa_any (pz P.length) (by have := HPl2.out; omega) w' t).mono fun e w' h => ⟨h.1.trans rfl, h.2⟩⟩
      have hro := fun w' (hb : Below wr.heap.size wr w') => root_so (HJe.out.later hb).so (HK.out.seq (below_seq HBe.out hb)) HTs.out.1 HTs.out.2
      have HRo := Hid.mk hro
      generalize rootOf ts.length (txF ts) = rt at *
      generalize rtX ts = rx at *
      generalize dec ((pz P.length : Nat) : Int) = dx at *
      clear hJ HJ hlt hk hts hLE h1 hro HRec HRec2 HDat
      go_wp2_with fail
      with_reducible refine Calls.mono hr1 ?_
      rintro e w10 ⟨rfl, b10⟩
      have HB10 := Hid.mk b10
      have hr2 := HR2.out w10 (HT.out.below (below_seq HBe.out b10))
      clear hr1 b10
      dsimp only
      go_wp2_with fail
      with_reducible refine Calls.mono hr2 ?_
      rintro e w11 ⟨rfl, b11⟩
      have HB11 := Hid.mk (below_seq HB10.out b11)
      have hro := HRo.out w11 HB11.out
      clear hr2 b11
      dsimp only
      go_wp2_with fail
      with_reducible refine Calls.mono hro ?_
      rintro e w12 ⟨rfl, b12⟩
      have HB12 := Hid.mk (below_seq HB11.out b12)
      clear hro b12
      dsimp only
      go_wp2_with fail
      with_reducible refine Calls.mono (hx _) ?_
      rintro e w13 ⟨rfl, b13⟩
      have HB13 := Hid.mk (below_seq HB12.out b13)
      have hit := HIt.out w13 (HT.out.below (below_seq HBe.out HB13.out))
      clear b13
      dsimp only
      go_wp2_with fail
      with_reducible refine Calls.mono hit ?_
      rintro e w14 ⟨rfl, b14⟩
      have HB14 := Hid.mk (below_seq HB13.out b14)
      clear b14 hit hx
      dsimp only
      go_wp2_with fail
      go_ret
      exact ⟨rfl, below_seq HBe.out HB14.out⟩
end Go.Proofs.YtcmmbdcflblekaaGreatDoor
