/- VersionApart: what lies where. -/
import Derived.Test.YtahdndmmakdamaaBmp
namespace Go.Proofs.Ytahdndmmakdamaa
set_option linter.unusedVariables false
set_option linter.unusedSimpArgs false
open Go.RowKit
def t3 {α : Type} (a b c : α) : Nat → α := fun i => if i = 0 then a else if i = 1 then b else c
theorem t3_0 {α : Type} (a b c : α) : t3 a b c 0 = a := rfl
theorem t3_1 {α : Type} (a b c : α) : t3 a b c 1 = b := rfl
theorem t3_2 {α : Type} (a b c : α) : t3 a b c 2 = c := rfl
theorem t3_u0 {α : Type} (a b c x : α) : ∀ i, upd (t3 a b c) 0 x i = t3 x b c i := fun i => by
  unfold upd t3
  by_cases h : i = 0
  · rw [if_pos h, if_pos h]
  · rw [if_neg h, if_neg h, if_neg h]
theorem t3_u2 {α : Type} (a b c x : α) : ∀ i, i < 3 → upd (t3 a b c) 2 x i = t3 a b x i := fun i hi => by
  unfold upd t3
  rcases (by omega : i = 0 ∨ i = 1 ∨ i = 2) with rfl | rfl | rfl <;> simp
def xE : En := ⟨[120], []⟩
def zE : En := ⟨[122], []⟩
theorem ver_ne_ent : (24 : TypeId) ≠ 34 := by decide
theorem Bv.ne {w : World} {gb : Nat} {x y z u v : Value} (h : Bv w gb x y z u v) {base : Nat} {r : Value} {l : List En} (o : Ow base w r l) {g : Nat} (hg : r.ownBlock = some g) : gb ≠ g := fun q => by
  obtain ⟨cs, h2⟩ := o.type hg
  subst q
  unfold Bv at h
  rw [h2] at h
  injection h with h
  injection h with _ h
  exact ver_ne_ent h.symm
theorem Bv.noOwn {w : World} {gb : Nat} {x y z u v : Value} (h : Bv w gb x y z u v) {base : Nat} {r : Value} {l : List En} (o : Ow base w r l) : r.ownBlock ≠ some gb := fun q => h.ne o q rfl
structure AS (W : World) (B : Nat) (V U : Vs) (sv su : Value) (gv gw gx gy gz : Nat) (wr : World) (vx vy vz : Value) (X Y Z : List En) : Prop where
  v : Bv wr gv (str V.key) (.int .i64 V.seq) (.bool V.mkr) (str V.data) sv
  u : Bv wr gw (str U.key) (.int .i64 U.seq) (.bool U.mkr) (str U.data) su
  x : Bv wr gx (str V.key) (.int .i64 V.seq) (.bool V.mkr) (str V.data) vx
  y : Bv wr gy (str V.key) (.int .i64 V.seq) (.bool V.mkr) (str V.data) vy
  z : Bv wr gz (str U.key) (.int .i64 U.seq) (.bool U.mkr) (str U.data) vz
  r : Rs B wr 3 (t3 vx vy vz) (t3 X Y Z)
  b : Below W.heap.size W wr
  hB : W.heap.size ≤ B
variable {W : World} {B : Nat} {V U : Vs} {sv su : Value} {gv gw gx gy gz : Nat} {wr : World} {vx vy vz : Value} {X Y Z : List En}
theorem AS.ox (h : AS W B V U sv su gv gw gx gy gz wr vx vy vz X Y Z) : Ow B wr vx X := h.r.ow 0 (by omega)
theorem AS.oy (h : AS W B V U sv su gv gw gx gy gz wr vx vy vz X Y Z) : Ow B wr vy Y := h.r.ow 1 (by omega)
theorem AS.oz (h : AS W B V U sv su gv gw gx gy gz wr vx vy vz X Y Z) : Ow B wr vz Z := h.r.ow 2 (by omega)
theorem AS.later (h : AS W B V U sv su gv gw gx gy gz wr vx vy vz X Y Z) {w' : World} (hb : Below wr.heap.size wr w') : AS W B V U sv su gv gw gx gy gz w' vx vy vz X Y Z :=
  ⟨h.v.later hb, h.u.later hb, h.x.later hb, h.y.later hb, h.z.later hb, h.r.later hb, h.b.trans (hb.mono h.b.size), h.hB⟩
theorem AS.setx (h : AS W B V U sv su gv gw gx gy gz wr vx vy vz X Y Z) {g cap : Nat} (hv : vx = .slice (some ⟨g, 0, none⟩) X.length cap) (k : Nat) (hk : k < X.length) (p : En) :
    AS W B V U sv su gv gw gx gy gz ((wr.setCell ⟨g, k * 2, none⟩ (str p.key)).setCell ⟨g, k * 2 + 1, none⟩ (str p.val)) vx vy vz (X.set k p) Y Z := by
  have hob : vx.ownBlock = some g := by rw [hv]; rfl
  have hg := (h.ox.own.lt g hob).1
  have hhB := h.hB
  refine ⟨(h.v.other (h.v.ne h.ox hob) _).other (h.v.ne h.ox hob) _, (h.u.other (h.u.ne h.ox hob) _).other (h.u.ne h.ox hob) _, (h.x.other (h.x.ne h.ox hob) _).other (h.x.ne h.ox hob) _, (h.y.other (h.y.ne h.ox hob) _).other (h.y.ne h.ox hob) _, (h.z.other (h.z.ne h.ox hob) _).other (h.z.ne h.ox hob) _, ?_, (h.b.setCell (p := ⟨g, _, none⟩) (by show _ ≤ g; omega) _).setCell (p := ⟨g, _, none⟩) (by show _ ≤ g; omega) _, h.hB⟩
  exact (h.r.set 0 (by omega) (g := g) (cap := cap) hv k hk p).congr (fun i hi => rfl) (fun i hi => (t3_u0 X Y Z (X.set k p) i).symm)
theorem AS.setz (h : AS W B V U sv su gv gw gx gy gz wr vx vy vz X Y Z) {g cap : Nat} (hv : vz = .slice (some ⟨g, 0, none⟩) Z.length cap) (k : Nat) (hk : k < Z.length) (p : En) :
    AS W B V U sv su gv gw gx gy gz ((wr.setCell ⟨g, k * 2, none⟩ (str p.key)).setCell ⟨g, k * 2 + 1, none⟩ (str p.val)) vx vy vz X Y (Z.set k p) := by
  have hob : vz.ownBlock = some g := by rw [hv]; rfl
  have hg := (h.oz.own.lt g hob).1
  have hhB := h.hB
  refine ⟨(h.v.other (h.v.ne h.oz hob) _).other (h.v.ne h.oz hob) _, (h.u.other (h.u.ne h.oz hob) _).other (h.u.ne h.oz hob) _, (h.x.other (h.x.ne h.oz hob) _).other (h.x.ne h.oz hob) _, (h.y.other (h.y.ne h.oz hob) _).other (h.y.ne h.oz hob) _, (h.z.other (h.z.ne h.oz hob) _).other (h.z.ne h.oz hob) _, ?_, (h.b.setCell (p := ⟨g, _, none⟩) (by show _ ≤ g; omega) _).setCell (p := ⟨g, _, none⟩) (by show _ ≤ g; omega) _, h.hB⟩
  exact (h.r.set 2 (by omega) (g := g) (cap := cap) hv k hk p).congr (fun i hi => rfl) (fun i hi => (t3_u2 X Y Z (Z.set k p) i hi).symm)
theorem AS.no (h : AS W B V U sv su gv gw gx gy gz wr vx vy vz X Y Z) {gb : Nat} {a b c d e : Value} (hb : Bv wr gb a b c d e) : ∀ j, j < 3 → (t3 vx vy vz j).ownBlock ≠ some gb := fun j hj => by
  rcases (by omega : j = 0 ∨ j = 1 ∨ j = 2) with rfl | rfl | rfl
  · exact hb.noOwn h.ox
  · exact hb.noOwn h.oy
  · exact hb.noOwn h.oz
/-- behind an append to the first -/
theorem AS.appx (h : AS W B V U sv su gv gw gx gy gz wr vx vy vz X Y Z) (hd : gv ≠ gx ∧ gw ≠ gx ∧ gy ≠ gx ∧ gz ≠ gx) (hx : W.heap.size ≤ gx) {p : En} {w' : World} {vn : Value} (hr : Rs B w' 3 (upd (t3 vx vy vz) 0 vn) (upd (t3 X Y Z) 0 (X ++ [p]))) (hb : Below B wr w') (hk : ∀ R, R < wr.heap.size → (∀ j, j < 3 → (t3 vx vy vz j).ownBlock ≠ some R) → w'.heap[R]? = wr.heap[R]?) :
    AS W B V U sv su gv gw gx gy gz (w'.setCell ⟨gx, 4, none⟩ vn) vn vy vz (X ++ [p]) Y Z ∧ Bv w' gx (str V.key) (.int .i64 V.seq) (.bool V.mkr) (str V.data) vx := by
  have kp : ∀ {gb : Nat} {a b c d e : Value}, Bv wr gb a b c d e → Bv w' gb a b c d e := fun hb2 => by
    unfold Bv
    rw [hk _ hb2.lt (h.no hb2)]
    exact hb2
  have hx' := kp h.x
  have hr' : Rs B w' 3 (t3 vn vy vz) (t3 (X ++ [p]) Y Z) := hr.congr (fun i hi => (t3_u0 vx vy vz vn i).symm) (fun i hi => (t3_u0 X Y Z (X ++ [p]) i).symm)
  refine ⟨⟨(kp h.v).other hd.1 _, (kp h.u).other hd.2.1 _, hx'.set4 _, (kp h.y).other hd.2.2.1 _, (kp h.z).other hd.2.2.2 _, hr'.store hx' ver_ne_ent _ _, (h.b.trans (hb.mono h.hB)).setCell (p := ⟨gx, 4, none⟩) hx _, h.hB⟩, hx'⟩
/-- behind an append to the third -/
theorem AS.appz (h : AS W B V U sv su gv gw gx gy gz wr vx vy vz X Y Z) (hd : gv ≠ gz ∧ gw ≠ gz ∧ gx ≠ gz ∧ gy ≠ gz) (hx : W.heap.size ≤ gz) {p : En} {w' : World} {vn : Value} (hr : Rs B w' 3 (upd (t3 vx vy vz) 2 vn) (upd (t3 X Y Z) 2 (Z ++ [p]))) (hb : Below B wr w') (hk : ∀ R, R < wr.heap.size → (∀ j, j < 3 → (t3 vx vy vz j).ownBlock ≠ some R) → w'.heap[R]? = wr.heap[R]?) :
    AS W B V U sv su gv gw gx gy gz (w'.setCell ⟨gz, 4, none⟩ vn) vx vy vn X Y (Z ++ [p]) ∧ Bv w' gz (str U.key) (.int .i64 U.seq) (.bool U.mkr) (str U.data) vz := by
  have kp : ∀ {gb : Nat} {a b c d e : Value}, Bv wr gb a b c d e → Bv w' gb a b c d e := fun hb2 => by
    unfold Bv
    rw [hk _ hb2.lt (h.no hb2)]
    exact hb2
  have hx' := kp h.z
  have hr' : Rs B w' 3 (t3 vx vy vn) (t3 X Y (Z ++ [p])) := hr.congr (fun i hi => (t3_u2 vx vy vz vn i hi).symm) (fun i hi => (t3_u2 X Y Z (Z ++ [p]) i hi).symm)
  refine ⟨⟨(kp h.v).other hd.1 _, (kp h.u).other hd.2.1 _, (kp h.x).other hd.2.2.1 _, (kp h.y).other hd.2.2.2 _, hx'.set4 _, hr'.store hx' ver_ne_ent _ _, (h.b.trans (hb.mono h.hB)).setCell (p := ⟨gz, 4, none⟩) hx _, h.hB⟩, hx'⟩
/-- three rows that were made one behind the other -/
theorem Rs.three {w : World} {B b1 b2 : Nat} {vx vy vz : Value} {X Y Z : List En} (ox : Ow B w vx X) (oy : Ow b1 w vy Y) (oz : Ow b2 w vz Z) (h0 : B ≤ b1) (h1 : b1 ≤ b2) (hx : ∀ g, vx.ownBlock = some g → g < b1) (hy : ∀ g, vy.ownBlock = some g → g < b2) : Rs B w 3 (t3 vx vy vz) (t3 X Y Z) := by
  refine ⟨fun i hi => ?_, fun i j hi hj hne g h => ?_⟩
  · rcases (by omega : i = 0 ∨ i = 1 ∨ i = 2) with rfl | rfl | rfl
    · exact ox
    · exact oy.base h0
    · exact oz.base (by omega)
  · rcases (by omega : i = 0 ∨ i = 1 ∨ i = 2) with rfl | rfl | rfl
    · rcases (by omega : j = 1 ∨ j = 2) with rfl | rfl
      · intro q
        have := hx g h
        have := (oy.own.lt g q).1
        omega
      · intro q
        have := hx g h
        have := (oz.own.lt g q).1
        omega
    · rcases (by omega : j = 0 ∨ j = 2) with rfl | rfl
      · intro q
        have := hx g q
        have := (oy.own.lt g h).1
        omega
      · intro q
        have := hy g h
        have := (oz.own.lt g q).1
        omega
    · rcases (by omega : j = 0 ∨ j = 1) with rfl | rfl
      · intro q
        have := hx g q
        have := (oz.own.lt g h).1
        omega
      · intro q
        have := hy g q
        have := (oz.own.lt g h).1
        omega
end Go.Proofs.Ytahdndmmakdamaa
