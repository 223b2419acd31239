import Derived.Test.YthbdaadhcheggaaFv
import Derived.Test.YthbdaadhcheggaaBq
import Derived.Deep.MidRow
import Derived.Deep.RegionHeld3
/- DeltaApart: marked. -/
namespace Go.Proofs.Ythbdaadhcheggaa
set_option linter.unusedVariables false
set_option linter.unusedSimpArgs false
open Go.RowKit
attribute [local go_sem ↓] Go.wp_at_zero Go.wp_at_succ
def b2 (i k : Nat) : List UInt8 := [UInt8.ofNat i, UInt8.ofNat k]
def mpr (i k : Nat) : En := ⟨[109], b2 i k⟩
def gpr (i k : Nat) : En := ⟨[103], b2 i k⟩
theorem wrap8 (n : Nat) : IntKind.u8.wrap ((n : Nat) : Int) = ((UInt8.ofNat n).toNat : Int) := by
  have h : (UInt8.ofNat n).toNat = n % 256 := by simp
  rw [h]
  simp [IntKind.wrap, IntKind.signed, IntKind.bits]
theorem conv_b2 (x y : UInt8) (w : World) : (convert 56 9 (.slice (some ⟨w.heap.size, 0, none⟩) 2 2)).run Try.prog (w.alloc (.cells #[.int .u8 (x.toNat : Int), .int .u8 (y.toNat : Int)] 5)) = .ok (str [x, y]) (w.alloc (.cells #[.int .u8 (x.toNat : Int), .int .u8 (y.toNat : Int)] 5)) := by
  refine conv_own (base := 0) (l := [x, y]) ⟨⟨rfl, Or.inr ⟨w.heap.size, 2, _, rfl, Nat.zero_le _, heap_alloc_new _ _, Nat.le_refl _, by decide, rfl, ?_⟩⟩, Nat.zero_le _⟩
  rfl
/-- rows of the same shape -/
structure Shp (R0 R : List Rv) : Prop where
  len : R.length = R0.length
  at' : ∀ (j : Nat) (r r0 : Rv), R[j]? = some r → R0[j]? = some r0 → r.a = r0.a ∧ r.c = r0.c ∧ r.z = r0.z ∧ r.v.l.length = r0.v.l.length
theorem Shp.refl (R : List Rv) : Shp R R := ⟨rfl, fun j r r0 h h0 => by rw [h] at h0; injection h0 with h0; subst h0; exact ⟨rfl, rfl, rfl, rfl⟩⟩
theorem Shp.mv {R0 R : List Rv} (h : Shp R0 R) {j : Nat} {r r0 : Rv} (hr : R[j]? = some r) (h0 : R0[j]? = some r0) : r.mv = r0.mv := by
  obtain ⟨e1, e2, e3, e4⟩ := h.at' j r r0 hr h0
  unfold Rv.mv
  rw [e1, e2, e3, e4]
theorem Shp.tc {R0 R : List Rv} (h : Shp R0 R) {v : Value} {g : Nat} (ht : Tc v R g) : Tc v R0 g := by
  rcases ht with q | ⟨k, r, h1, h2⟩
  · exact .inl q
  · have hk := (List.getElem?_eq_some_iff.1 h1).1
    have h0 : R0[k]? = some (R0[k]'(by rw [← h.len]; exact hk)) := List.getElem?_eq_getElem _
    exact .inr ⟨k, _, h0, by rw [← h.mv h1 h0]; exact h2⟩
theorem Shp.set {R0 R : List Rv} (h : Shp R0 R) {k : Nat} {r r' : Rv} (hk : R[k]? = some r) (h1 : r'.a = r.a) (h2 : r'.c = r.c) (h3 : r'.z = r.z) (h4 : r'.v.l.length = r.v.l.length) : Shp R0 (R.set k r') := by
  refine ⟨by rw [List.length_set]; exact h.len, fun j q r0 hq h0 => ?_⟩
  rcases set_get hq with ⟨rfl, rfl⟩ | ⟨_, hq⟩
  · obtain ⟨e1, e2, e3, e4⟩ := h.at' j r r0 hk h0
    exact ⟨h1.trans e1, h2.trans e2, h3.trans e3, h4.trans e4⟩
  · exact h.at' j q r0 hq h0
def mkd : List UInt8 := [109, 97, 114, 107, 101, 100]
structure Mkr (j : Nat) (r : Rv) : Prop where
  key : r.v.key = mkd
  seq : r.v.seq = -(j : Int) - 1
  l : ∀ (k : Nat) (p : En), r.v.l[k]? = some p → p = mpr j k
/-- what is kept while a list is marked -/
structure Mq (lo : Nat) (w0 : World) (v : Value) (R0 : List Rv) (i k : Nat) (wr : World) : Prop where
  ex : ∃ R, Fo lo wr v R ∧ Shp R0 R ∧ (∀ (j : Nat) (r : Rv), j < i → R[j]? = some r → Mkr j r) ∧ (∀ r : Rv, R[i]? = some r → ∀ (j : Nat) (p : En), j < k → r.v.l[j]? = some p → p = mpr i j)
  ot : Ot (Tc v R0) w0 wr
theorem Mq.start {lo : Nat} {w w0 : World} {v : Value} {R0 : List Rv} (h : Fo lo w v R0) (ho : Ot (Tc v R0) w0 w) : Mq lo w0 v R0 0 0 w := ⟨⟨R0, h, Shp.refl R0, fun j r hj => by omega, fun r _ j p hj => by omega⟩, ho⟩
theorem Fo.row {B : Nat} {w : World} {a : Option Addr} {n cap : Nat} {R : List Rv} (h : Fo B w (.slice a n cap) R) {k : Nat} {r : Rv} (hk : R[k]? = some r) : ∃ g, a = some ⟨g, 0, none⟩ ∧ n = R.length ∧ g < w.heap.size ∧ (w.cell? ⟨g, k * 5, none⟩ = some (str r.v.key) ∧ w.cell? ⟨g, k * 5 + 1, none⟩ = some (.int .i64 r.v.seq) ∧ w.cell? ⟨g, k * 5 + 2, none⟩ = some (.bool r.v.mkr) ∧ w.cell? ⟨g, k * 5 + 3, none⟩ = some (str r.v.data) ∧ w.cell? ⟨g, k * 5 + 4, none⟩ = some (.slice r.a r.v.l.length r.c)) ∧ ∀ j, w.frozen? ⟨g, j, none⟩ = false := by
  have hl := (List.getElem?_eq_some_iff.1 hk).1
  rcases h.own.2 with ⟨e, h0⟩ | ⟨g, cp, cur, e, h2, h3, h4, h5, h6, h7⟩
  · omega
  · injection e with e1 e2 e3
    subst e1 e2 e3
    have hp : (rcells R).length = R.length * 5 := rcells_length R
    have hx : ∀ j, j < 5 → w.cell? ⟨g, k * 5 + j, none⟩ = (rcs r)[j]? := fun j hj => by rw [h.own.cellAt _ (by omega), rcells_get hk j hj]
    exact ⟨g, rfl, rfl, (h.own.lt g rfl).2, ⟨hx 0 (by omega), hx 1 (by omega), hx 2 (by omega), hx 3 (by omega), hx 4 (by omega)⟩, fun j => frozen_of_row _ _ _ _ _ h3⟩
theorem Fo.pairs {B : Nat} {w : World} {v : Value} {R : List Rv} (h : Fo B w v R) {k : Nat} {r : Rv} (hk : R[k]? = some r) {n : Nat} {p : En} (hp : (r.v.l ++ r.z)[n]? = some p) : ∃ q, r.a = some ⟨q, 0, none⟩ ∧ q < w.heap.size ∧ w.cell? ⟨q, n * 2, none⟩ = some (str p.key) ∧ w.cell? ⟨q, n * 2 + 1, none⟩ = some (str p.val) ∧ r.v.l.length + r.z.length ≤ r.c ∧ r.c ≤ 9223372036854775807 ∧ ∀ j, w.frozen? ⟨q, j, none⟩ = false := by
  have o := h.met k r hk
  have hl := (List.getElem?_eq_some_iff.1 hp).1
  rcases o.own.2 with ⟨e, h0⟩ | ⟨g, cp, cur, e, h2, h3, h4, h5, h6, h7⟩
  · omega
  · unfold Rv.mv at e
    injection e with e1 e2 e3
    have o2 : w.ownsRow B 51 2 (.slice (some ⟨g, 0, none⟩) (r.v.l ++ r.z).length r.c) (r.v.l ++ r.z).length (pcells (r.v.l ++ r.z)) := by
      have := o.own
      unfold Rv.mv at this
      rw [e1] at this
      rw [List.length_append] at this ⊢
      exact this
    obtain ⟨c0, c1⟩ := pcells_get hp
    have hpl : (pcells (r.v.l ++ r.z)).length = (r.v.l ++ r.z).length * 2 := pcells_length _
    refine ⟨g, e1, (o2.lt g rfl).2, ?_, ?_, by rw [List.length_append] at h4; rw [e3]; omega, by rw [e3]; exact h5, fun j => frozen_of_row _ _ _ _ _ h3⟩
    · rw [o2.cellAt _ (by omega)]; exact c0
    · rw [o2.cellAt _ (by omega)]; exact c1
theorem Fo.blk {B : Nat} {w : World} {v : Value} {R : List Rv} (h : Fo B w v R) {k : Nat} {r : Rv} (hk : R[k]? = some r) {q : Nat} (hq : r.a = some ⟨q, 0, none⟩) : ∃ cs, w.heap[q]? = some (.cells cs 51 (0, 0)) ∧ (r.v.l.length + r.z.length) * 2 ≤ cs.size := by
  have o := h.met k r hk
  rcases o.own.2 with ⟨e, h0⟩ | ⟨g, cp, cur, e, h2, h3, h4, h5, h6, h7⟩
  · unfold Rv.mv at e
    rw [hq] at e
    cases e
  · unfold Rv.mv at e
    rw [hq] at e
    injection e with e1 e2 e3
    injection e1 with e1
    injection e1 with e1 _ _
    subst e1
    rw [List.length_append] at h4
    exact ⟨cur, h3, by rw [h6]; exact Nat.mul_le_mul_right 2 h4⟩
theorem infoE2 : (Try.prog.info? 51).map (·.size) = some 2 := by kernel_rfl
noncomputable def stE (p v : Value) : Sem Unit := Instr.storeAt 51 p v
theorem stEe (p v : Value) : Instr.storeAt 51 p v = stE p v := rfl
theorem there_of_row {w : World} {b n : Nat} {C : Array Value} {T : TypeId} (h : w.heap[b]? = some (.cells C T (0, 0))) (o : Nat) (hn : o + n ≤ C.size) : w.there b o n := fun j hj => by
  refine ⟨?_, frozen_of_row _ _ _ _ _ h⟩
  rw [cell_of_row _ _ _ _ _ _ h, Array.getElem?_eq_getElem (by omega)]; rfl
theorem run_stE {w : World} {g o : Nat} {cs : Array Value} (h : w.heap[g]? = some (.cells cs 51 (0, 0))) (ho : o + 2 ≤ cs.size) (a b : List UInt8) : (stE (.pointer (some ⟨g, o, none⟩)) (.agg #[str a, str b])).run Try.prog w = .ok () ((w.setCell ⟨g, o, none⟩ (str a)).setCell ⟨g, o + 1, none⟩ (str b)) := by
  unfold stE
  exact run_storeAt_mid (P := Try.prog) w g o 51 #[str a, str b] (there_of_row h o ho) infoE2 (by simp [Value.oneCell'])
theorem Mq.place {lo : Nat} {w0 wr : World} {a : Option Addr} {cap : Nat} {R0 : List Rv} {i k : Nat} (h : Mq lo w0 (.slice a R0.length cap) R0 i k wr) {r0 : Rv} (hi : R0[i]? = some r0) : ∃ g ky sq, a = some ⟨g, 0, none⟩ ∧ g < wr.heap.size ∧ wr.cell? ⟨g, i * 5, none⟩ = some (str ky) ∧ wr.cell? ⟨g, i * 5 + 1, none⟩ = some (.int .i64 sq) ∧ wr.cell? ⟨g, i * 5 + 4, none⟩ = some (.slice r0.a r0.v.l.length r0.c) ∧ ∀ j, wr.frozen? ⟨g, j, none⟩ = false := by
  obtain ⟨R, hF, hS, h1, h2⟩ := h.ex
  have hlt := (List.getElem?_eq_some_iff.1 hi).1
  have hr : R[i]? = some (R[i]'(by rw [hS.len]; exact hlt)) := List.getElem?_eq_getElem _
  obtain ⟨e1, e2, e3, e4⟩ := hS.at' i _ _ hr hi
  obtain ⟨g, ea, en, hg, ⟨c0, c1, c2, c3, c4⟩, hf⟩ := hF.row hr
  exact ⟨g, _, _, ea, hg, c0, c1, by rw [c4, e1, e2, e4], hf⟩
theorem Mq.pair {lo : Nat} {w0 wr : World} {a : Option Addr} {cap : Nat} {R0 : List Rv} {i k : Nat} (h : Mq lo w0 (.slice a R0.length cap) R0 i k wr) {r0 : Rv} (hi : R0[i]? = some r0) (hz : r0.z = []) (hk : k < r0.v.l.length) : ∃ q cs, r0.a = some ⟨q, 0, none⟩ ∧ q < wr.heap.size ∧ wr.heap[q]? = some (.cells cs 51 (0, 0)) ∧ k * 2 + 2 ≤ cs.size ∧ ∀ w', Below wr.heap.size wr w' → Mq lo w0 (.slice a R0.length cap) R0 i (k + 1) ((w'.setCell ⟨q, k * 2, none⟩ (str (mpr i k).key)).setCell ⟨q, k * 2 + 1, none⟩ (str (mpr i k).val)) := by
  obtain ⟨R, hF, hS, h1, h2⟩ := h.ex
  have hlt := (List.getElem?_eq_some_iff.1 hi).1
  obtain ⟨r, hr⟩ : ∃ r, R[i]? = some r := ⟨_, List.getElem?_eq_getElem (by rw [hS.len]; exact hlt)⟩
  obtain ⟨e1, e2, e3, e4⟩ := hS.at' i _ _ hr hi
  have hkr : k < r.v.l.length := by rw [e4]; exact hk
  obtain ⟨p, hp⟩ : ∃ p, (r.v.l ++ r.z)[k]? = some p := ⟨_, by rw [List.getElem?_append_left hkr]; exact List.getElem?_eq_getElem hkr⟩
  obtain ⟨q, ea, hq, c0, c1, -, -, hf⟩ := hF.pairs hr hp
  obtain ⟨cs, hcs, hsz⟩ := hF.blk hr ea
  refine ⟨q, cs, by rw [← e1]; exact ea, hq, hcs, by omega, fun w' hb => ?_⟩
  have hF' := (hF.later hb).setPair hr (by rw [e3]; exact hz) ea hkr (mpr i k)
  have hb0 : r.mv.ownBlock = some q := by unfold Rv.mv; rw [ea]; rfl
  have hT : Tc (.slice a R0.length cap) R0 q := hS.tc (.inr ⟨i, r, hr, hb0⟩)
  refine ⟨⟨_, hF', hS.set hr rfl rfl rfl List.length_set, fun j x hj hx => ?_, fun x hx j y hj hy => ?_⟩, ((h.ot.trans (Ot.bel hb)).set (g := q) hT).set (g := q) hT⟩
  · rcases set_get hx with ⟨rfl, _⟩ | ⟨_, hx⟩
    · omega
    · exact h1 j x hj hx
  · rcases set_get hx with ⟨_, rfl⟩ | ⟨hne, _⟩
    · dsimp only at hy
      by_cases e : j = k
      · subst e
        rw [List.getElem?_set_self hkr] at hy
        injection hy with hy
        exact hy.symm
      · rw [List.getElem?_set_ne (fun q => e q.symm)] at hy
        exact h2 r hr j y (by omega) hy
    · exact absurd rfl hne
theorem Mq.later {lo : Nat} {w0 wr w' : World} {v : Value} {R0 : List Rv} {i k : Nat} (h : Mq lo w0 v R0 i k wr) (hb : Below wr.heap.size wr w') : Mq lo w0 v R0 i k w' := by
  obtain ⟨R, hF, hS, h1, h2⟩ := h.ex
  exact ⟨⟨R, hF.later hb, hS, h1, h2⟩, h.ot.trans (Ot.bel hb)⟩
theorem Mq.next {lo : Nat} {w0 wr : World} {g : Nat} {cap : Nat} {R0 : List Rv} {i : Nat} {r0 : Rv} (hi : R0[i]? = some r0) (h : Mq lo w0 (.slice (some ⟨g, 0, none⟩) R0.length cap) R0 i r0.v.l.length wr) : Mq lo w0 (.slice (some ⟨g, 0, none⟩) R0.length cap) R0 (i + 1) 0 ((wr.setCell ⟨g, i * 5, none⟩ (.string ⟨#[109, 97, 114, 107, 101, 100]⟩)).setCell ⟨g, i * 5 + 1, none⟩ (.int .i64 (-(i : Int) - 1))) := by
  obtain ⟨R, hF, hS, h1, h2⟩ := h.ex
  have hlt := (List.getElem?_eq_some_iff.1 hi).1
  obtain ⟨r, hr⟩ : ∃ r, R[i]? = some r := ⟨_, List.getElem?_eq_getElem (by rw [hS.len]; exact hlt)⟩
  obtain ⟨e1, e2, e3, e4⟩ := hS.at' i _ _ hr hi
  have hT : Tc (.slice (some ⟨g, 0, none⟩) R0.length cap) R0 g := .inl rfl
  have f1 := hF.setCellV (r' := { r with v := { r.v with key := mkd } }) (by rw [hS.len]) hr (i * 5) (str mkd) (rcells_set0 R i r mkd hr) rfl rfl
  have hr2 : (R.set i { r with v := { r.v with key := mkd } })[i]? = some { r with v := { r.v with key := mkd } } := List.getElem?_set_self (by rw [hS.len]; exact hlt)
  have f2 := f1.setSeq (by rw [List.length_set, hS.len]) hr2 (-(i : Int) - 1)
  rw [List.set_set] at f2
  refine ⟨⟨_, f2, hS.set hr rfl rfl rfl rfl, fun j x hj hx => ?_, fun x hx j y hj hy => by omega⟩, (h.ot.set (g := g) hT).set (g := g) hT⟩
  rcases set_get hx with ⟨rfl, rfl⟩ | ⟨hne, hx⟩
  · refine ⟨rfl, rfl, fun k p hp => ?_⟩
    have hkl : k < r0.v.l.length := by
      have := (List.getElem?_eq_some_iff.1 hp).1
      dsimp only at this
      omega
    exact h2 r hr k p hkl hp
  · exact h1 j x (by omega) hx
end Go.Proofs.Ythbdaadhcheggaa

/- DeltaApart: marked, the walk. -/
namespace Go.Proofs.Ythbdaadhcheggaa
set_option linter.unusedVariables false
set_option linter.unusedSimpArgs false
open Go.RowKit
attribute [local go_sem ↓] Go.wp_at_zero Go.wp_at_succ stEe
theorem Bq.ot {X : Nat → Prop} {w w' : World} {g : Nat} {x y : Value} (h : Bq w g x y) (ho : Ot X w w') (hx : ¬ X g) : Bq w' g x y := by
  unfold Bq at *
  rw [ho.block g (Array.getElem?_eq_some_iff.1 h).1 hx]; exact h
theorem Mq.box {lo : Nat} {w0 wr : World} {v : Value} {R0 : List Rv} {i k g : Nat} {x y : Value} (h : Mq lo w0 v R0 i k wr) (hb : Bq w0 g x y) (hx : ¬ Tc v R0 g) : Bq wr g x y := hb.ot h.ot hx
theorem mod8 (n : Nat) : ((n : Nat) : Int) % 256 = ((UInt8.ofNat n).toNat : Int) := by
  have h : (UInt8.ofNat n).toNat = n % 256 := by simp
  rw [h]; omega
theorem conv_b2d (k m : Nat) (w : World) : (convert 56 9 (.slice (some ⟨w.heap.size, 0, none⟩) 2 2)).run Try.prog (w.alloc (.cells #[.int .u8 ((k : Int) % 256), .int .u8 ((m : Int) % 256)] 5)).drew = .ok (str (b2 k m)) (w.alloc (.cells #[.int .u8 ((k : Int) % 256), .int .u8 ((m : Int) % 256)] 5)).drew := by
  rw [mod8, mod8]
  refine conv_own (base := 0) (l := b2 k m) ⟨⟨rfl, Or.inr ⟨w.heap.size, 2, _, rfl, Nat.zero_le _, heap_alloc_new w _, Nat.le_refl _, by decide, rfl, rfl⟩⟩, Nat.zero_le _⟩
set_option maxRecDepth 100000 in
set_option maxHeartbeats 2000000 in
theorem marked_any (next : Int) (R0 : List Rv) (a : Option Addr) (cap lo : Nat) (w : World) (hF : Fo lo w (.slice a R0.length cap) R0) (hz : ∀ r ∈ R0, r.z = []) (hn : R0.length ≤ 1000000) (hl : ∀ r ∈ R0, r.v.l.length ≤ 1000000) :
    Calls Try.prog 14 #[bv next a R0.length cap] w fun e w' => e = .returned (.tuple #[]) ∧ Mq lo w (.slice a R0.length cap) R0 R0.length 0 w' := by
  have b1 := (Below.refl w.heap.size w).alloc (Nat.le_refl _) (.cells #[.int .i64 next, .slice a R0.length cap] 24)
  have z1 := Bq.new w (.int .i64 next) (.slice a R0.length cap)
  have HM := Hid.mk (Mq.start (hF.later b1) (Ot.refl _ _))
  have HNT : Hid (¬ Tc (.slice a R0.length cap) R0 w.heap.size) := ⟨fun q => by have := (hF.tc q).2; omega⟩
  have HZ := Hid.mk hz
  have HL := Hid.mk hl
  have HB1 := Hid.mk b1
  clear hF hz hl b1
  go_enter Try.func14, Try.ntmps14
  go_wp2_with fail
  have Z1 := Hid.mk z1
  clear z1
  generalize w.alloc (.cells #[.int .i64 next, .slice a R0.length cap] 24) = W1 at *
  go_loopw [2, 3] (fun i _ wr => ∃ k : Nat, i = .int .i64 (k : Int) ∧ k ≤ R0.length ∧ Hid (Mq lo W1 (.slice a R0.length cap) R0 k 0 wr)) (fun i _ _ => R0.length - (intOf i).toNat)
  case atStart => exact ⟨0, rfl, Nat.zero_le _, HM⟩
  case round =>
    clear HM
    obtain ⟨k, rfl, hk, HM⟩ := hrel
    obtain ⟨p0, p1, _⟩ := (HM.out.box Z1.out HNT.out).cells
    by_cases hlt : k < R0.length
    · have d1 : decide ((k : Int) < (R0.length : Int)) = true := decide_eq_true (Int.ofNat_lt.2 hlt)
      have k0 : (0 : Int) ≤ (k : Int) := Int.natCast_nonneg k
      have k1 : (k : Int) < (R0.length : Int) := Int.ofNat_lt.2 hlt
      obtain ⟨r, hr⟩ : ∃ r, R0[k]? = some r := ⟨_, List.getElem?_eq_getElem hlt⟩
      have hrz := HZ.out r (List.mem_of_getElem? hr)
      have hrl := HL.out r (List.mem_of_getElem? hr)
      have HR := Hid.mk hr
      have HRZ := Hid.mk hrz
      clear hr hrz
      go_wp2_with fail
      clear p0 p1
      go_loopw [3] (fun j wr => ∃ m : Nat, j = .int .i64 (m : Int) ∧ m ≤ r.v.l.length ∧ Hid (Mq lo W1 (.slice a R0.length cap) R0 k m wr)) (fun j _ => r.v.l.length - (intOf j).toNat)
      case atStart => exact ⟨0, rfl, Nat.zero_le _, HM⟩
      case round =>
        clear HM
        obtain ⟨m, rfl, hm, HM⟩ := hrel
        obtain ⟨p0, p1, _⟩ := (HM.out.box Z1.out HNT.out).cells
        obtain ⟨g, ky, sq, rfl, hg, c0, c1, c4, hf⟩ := HM.out.place HR.out
        by_cases hlm : m < r.v.l.length
        · have d2 : decide ((m : Int) < (r.v.l.length : Int)) = true := decide_eq_true (Int.ofNat_lt.2 hlm)
          have m0 : (0 : Int) ≤ (m : Int) := Int.natCast_nonneg m
          have m1 : (m : Int) < (r.v.l.length : Int) := Int.ofNat_lt.2 hlm
          obtain ⟨q, cs, ea, hq, hcs, hsz, hnext⟩ := HM.out.pair HR.out HRZ.out hlm
          rw [ea] at c4
          have hcv := conv_b2d k m wr
          have bW : Below wr.heap.size wr ((wr.alloc (.cells #[.int .u8 ((k : Int) % 256), .int .u8 ((m : Int) % 256)] 5)).drew) := ((Below.refl _ _).alloc (Nat.le_refl _) _).drew
          have hgb : w.heap.size < wr.heap.size := (HM.out.box Z1.out HNT.out).lt
          have p1' := (bW.cell (p := ⟨w.heap.size, 1, none⟩) hgb).trans p1
          have c4' := (bW.cell (p := ⟨g, k * 5 + 4, none⟩) hg).trans c4
          have hst := run_stE (w := (wr.alloc (.cells #[.int .u8 ((k : Int) % 256), .int .u8 ((m : Int) % 256)] 5)).drew) (by rw [bW.block q hq]; exact hcs) hsz (mpr k m).key (mpr k m).val
          have hst' : (stE (.pointer (some ⟨q, m * 2, none⟩)) (.agg #[.string ⟨#[109]⟩, str (b2 k m)])).run Try.prog (wr.alloc (.cells #[.int .u8 ((k : Int) % 256), .int .u8 ((m : Int) % 256)] 5)).drew = .ok () (((wr.alloc (.cells #[.int .u8 ((k : Int) % 256), .int .u8 ((m : Int) % 256)] 5)).drew.setCell ⟨q, m * 2, none⟩ (str (mpr k m).key)).setCell ⟨q, m * 2 + 1, none⟩ (str (mpr k m).val)) := hst
          have HBW := Hid.mk bW
          have HNX := Hid.mk hnext
          have HEA := Hid.mk ea
          have HN2 := Hid.mk (hnext wr (Below.refl _ _))
          clear hnext c0 c1 hf ea p0 bW hgb hst hcs hsz
          go_wp2_with fail
          go_region
          all_goals go_wp2_with fail
          all_goals exact ⟨⟨m + 1, rfl, hlm, ⟨HN2.out.later ((Below.refl _ _).alloc (Nat.le_refl _) _).drew⟩⟩, by simp only [intOf, Int.toNat_natCast]; exact Nat.sub_lt_sub_left hlm (Nat.lt_succ_self m)⟩
        · have d2 : decide ((m : Int) < (r.v.l.length : Int)) = false := decide_eq_false (fun q => hlm (Int.ofNat_lt.1 q))
          have d2' : decide (m < r.v.l.length) = false := decide_eq_false hlm
          have hme : m = r.v.l.length := Nat.le_antisymm hm (Nat.le_of_not_lt hlm)
          have hmm := HM.out
          rw [hme] at hmm
          have HN3 := Hid.mk (Mq.next HR.out hmm)
          have hgb : g ≠ w.heap.size := fun e => HNT.out (.inl (by rw [e]; rfl))
          have f0 := hf (k * 5)
          have f1 := hf (k * 5 + 1)
          clear hmm hme hlm hf
          go_wp2_with fail
          exact ⟨⟨k + 1, rfl, hlt, HN3⟩, by simp only [intOf, Int.toNat_natCast]; exact Nat.sub_lt_sub_left hlt (Nat.lt_succ_self k)⟩
    · have d1 : decide ((k : Int) < (R0.length : Int)) = false := decide_eq_false (fun q => hlt (Int.ofNat_lt.1 q))
      have d1' : decide (k < R0.length) = false := decide_eq_false hlt
      have hke : k = R0.length := Nat.le_antisymm hk (Nat.le_of_not_lt hlt)
      have hM := HM.out
      rw [hke] at hM
      have HE : Hid (Mq lo w (.slice a R0.length cap) R0 R0.length 0 wr) := ⟨⟨hM.ex, (Ot.bel HB1.out).trans hM.ot⟩⟩
      clear hM hke hlt hk
      go_wp2_with fail
      go_end0
      exact ⟨rfl, HE.out⟩
end Go.Proofs.Ythbdaadhcheggaa
