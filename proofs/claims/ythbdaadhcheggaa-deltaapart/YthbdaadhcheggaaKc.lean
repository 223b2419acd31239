/- DeltaApart: kept. -/
import Derived.Test.YthbdaadhcheggaaGe
import Derived.Test.YthbdaadhcheggaaGb
import Derived.Test.YthbdaadhcheggaaDps
import Derived.Deep.RegionHeld3
namespace Go.Proofs.Ythbdaadhcheggaa
set_option linter.unusedVariables false
set_option linter.unusedSimpArgs false
open Go.RowKit
attribute [local go_sem ↓] Go.wp_at_zero Go.wp_at_succ slVe slPe
def mark : List UInt8 := [109, 97, 114, 107]
def mkP : En := ⟨mark, []⟩
/-- a list with spare room, a mark in it, and one behind each version's pairs -/
structure Fm (lo : Nat) (w : World) (a : Option Addr) (cap : Nat) (L : List Vs) : Prop where
  ex : ∃ (R : List Rv) (mk : Rv), Fo lo w (.slice a (L.length + 1) cap) (R ++ [mk]) ∧ R.map (·.v) = L ∧ (∀ r ∈ R, r.z = [mkP]) ∧ mk.v.key = mark ∧ mk.z = []
theorem Fm.later {lo : Nat} {w w' : World} {a : Option Addr} {cap : Nat} {L : List Vs} (h : Fm lo w a cap L) (hb : Below w.heap.size w w') : Fm lo w' a cap L := by
  obtain ⟨R, mk, hF, h1, h2, h3⟩ := h.ex
  exact ⟨R, mk, hF.later hb, h1, h2, h3⟩
theorem Fm.ls {lo : Nat} {w : World} {a : Option Addr} {cap : Nat} {L : List Vs} (h : Fm lo w a cap L) : Ls w a cap L := by
  obtain ⟨R, mk, hF, h1, h2, h3⟩ := h.ex
  obtain ⟨a', c', e, hs⟩ := hF.ls
  injection e with e1 e2 e3
  subst e1 e3
  have := hs.take L.length
  rw [List.map_append, h1, List.take_left' rfl] at this
  exact this
theorem Fm.li {lo : Nat} {w : World} {a : Option Addr} {cap : Nat} {L : List Vs} (h : Fm lo w a cap L) (hn : L.length ≤ 1954687338240) (hz : ∀ u ∈ L, u.l.length ≤ 4398046510976) : Li w L a L.length cap := ⟨rfl, h.ls, hn, hz⟩
theorem Fm.end' {lo : Nat} {w : World} {a : Option Addr} {cap : Nat} {L : List Vs} (h : Fm lo w a cap L) : ∃ g, a = some ⟨g, 0, none⟩ ∧ g < w.heap.size ∧ L.length + 1 ≤ cap ∧ cap ≤ 9223372036854775807 ∧ w.cell? ⟨g, L.length * 5, none⟩ = some (.string ⟨#[109, 97, 114, 107]⟩) := by
  obtain ⟨R, mk, hF, h1, h2, h3, h4⟩ := h.ex
  have hl : R.length = L.length := by rw [← h1, List.length_map]
  have hg : (R ++ [mk])[L.length]? = some mk := by rw [← hl]; simp
  obtain ⟨g, ea, en, hgl, ⟨c0, _⟩, _⟩ := hF.row hg
  rw [h3] at c0
  rcases hF.own.2 with ⟨e, h0⟩ | ⟨g', cp, cur, e, x2, x3, x4, x5, _⟩
  · simp at h0
  · injection e with e1 e2 e3
    rw [List.length_append, List.length_singleton, hl] at x4
    exact ⟨g, ea, hgl, by rw [e3]; exact x4, by rw [e3]; exact x5, c0⟩
theorem Fm.at' {lo : Nat} {w : World} {g : Nat} {cap : Nat} {L : List Vs} (h : Fm lo w (some ⟨g, 0, none⟩) cap L) {k : Nat} {u : Vs} (hk : L[k]? = some u) : ∃ q mc, w.cell? ⟨g, k * 5 + 4, none⟩ = some (.slice (some ⟨q, 0, none⟩) u.l.length mc) ∧ q < w.heap.size ∧ u.l.length + 1 ≤ mc ∧ mc ≤ 9223372036854775807 ∧ w.cell? ⟨q, u.l.length * 2, none⟩ = some (.string ⟨#[109, 97, 114, 107]⟩) := by
  obtain ⟨R, mk, hF, h1, h2, h3⟩ := h.ex
  rw [← h1, List.getElem?_map] at hk
  cases hq : R[k]? with
  | none => rw [hq] at hk; cases hk
  | some r =>
    rw [hq] at hk
    injection hk with hk
    subst hk
    have hlt := (List.getElem?_eq_some_iff.1 hq).1
    have hr : (R ++ [mk])[k]? = some r := by rw [List.getElem?_append_left hlt]; exact hq
    have hz := h2 r (List.mem_of_getElem? hq)
    obtain ⟨g', ea, en, hgl, ⟨_, _, _, _, c4⟩, _⟩ := hF.row hr
    injection ea with ea
    injection ea with ea _ _
    subst ea
    have hp : (r.v.l ++ r.z)[r.v.l.length]? = some mkP := by rw [hz]; simp
    obtain ⟨q, er, hql, s0, s1, x1, x2, _⟩ := hF.pairs hr hp
    rw [er] at c4
    rw [hz] at x1
    exact ⟨q, r.c, c4, hql, x1, x2, s0⟩
set_option maxRecDepth 100000 in
set_option maxHeartbeats 2000000 in
theorem kept_any (next : Int) (L : List Vs) (a a2 : Option Addr) (cap c2 lo : Nat) (w : World) (hF : Fm lo w a cap L) (hL : Li w L a2 L.length c2) (hn : L.length ≤ 1000000) (hz : ∀ u ∈ L, u.l.length ≤ 1000000) :
    Calls Try.prog 12 #[bv next a L.length cap, bv next a2 L.length c2] w fun e w' => e = .returned (.bool true) ∧ Below w.heap.size w w' := by
  have b1 := (Below.refl w.heap.size w).alloc (Nat.le_refl _) (.cells #[.int .i64 next, .slice a L.length cap] 24)
  have bb := b1.alloc b1.size (.cells #[.int .i64 next, .slice a2 L.length c2] 24)
  have z1 := (Bq.new w (.int .i64 next) (.slice a L.length cap)).later ((Below.refl (w.alloc (.cells #[.int .i64 next, .slice a L.length cap] 24)).heap.size _).alloc (Nat.le_refl _) (.cells #[.int .i64 next, .slice a2 L.length c2] 24))
  have z2 := Bq.new (w.alloc (.cells #[.int .i64 next, .slice a L.length cap] 24)) (.int .i64 next) (.slice a2 L.length c2)
  rw [World.size_alloc] at z2
  have hF1 := hF.later bb
  have hL1 := hL.later bb
  have hw1 : w.heap.size + 1 < ((w.alloc (.cells #[.int .i64 next, .slice a L.length cap] 24)).alloc (.cells #[.int .i64 next, .slice a2 L.length c2] 24)).heap.size := by simp
  clear hF hL b1
  go_enter Try.func12, Try.ntmps12
  go_wp2_with fail
  generalize (w.alloc (.cells #[.int .i64 next, .slice a L.length cap] 24)).alloc (.cells #[.int .i64 next, .slice a2 L.length c2] 24) = W2 at *
  have hsm := fun (w' : World) (hb : Below W2.heap.size W2 w') => qSame_eq next L w' a cap a2 c2 ((hF1.later hb).li (by omega) (fun u hu => by have := hz u hu; omega)) (hL1.later hb) hn
  have HSM := Hid.mk hsm
  obtain ⟨g, rfl, hg, m1, m2, mk⟩ := hF1.end'
  have XC : Hid (∀ w', Below W2.heap.size W2 w' → Below W2.heap.size W2 w' ∧ w'.cell? ⟨w.heap.size, 0, none⟩ = some (.int .i64 next) ∧ w'.cell? ⟨w.heap.size, 1, none⟩ = some (.slice (some ⟨g, 0, none⟩) L.length cap) ∧ w'.cell? ⟨w.heap.size + 1, 0, none⟩ = some (.int .i64 next) ∧ w'.cell? ⟨w.heap.size + 1, 1, none⟩ = some (.slice a2 L.length c2) ∧ w'.cell? ⟨g, L.length * 5, none⟩ = some (.string ⟨#[109, 97, 114, 107]⟩)) := ⟨fun w' hb => by
    obtain ⟨p0, p1, _⟩ := (z1.later hb).cells
    obtain ⟨q0, q1, _⟩ := (z2.later hb).cells
    exact ⟨hb, p0, p1, q0, q1, (hb.cell (p := ⟨g, _, none⟩) hg).trans mk⟩⟩
  have hsl : ∀ w, (slV (.slice (some ⟨g, 0, none⟩) L.length cap) none (some (.int .i64 ((L.length : Int) + 1))) none).run Try.prog w = .ok (.slice (some ⟨g, 0, none⟩) (L.length + 1) cap) w := fun w => run_slV _ L.length cap (L.length + 1) m1 m2 (fun q => by cases q) w
  have HF := Hid.mk hF1
  have HL := Hid.mk hL1
  have HZ := Hid.mk hz
  have HBB := Hid.mk bb
  have i1 : (L.length : Int) < ((L.length : Int) + 1) := by omega
  have i3 : (0 : Int) ≤ (L.length : Int) := Int.natCast_nonneg _
  have iw : IntKind.i64.wrap ((L.length : Int) + 1) = (L.length : Int) + 1 := by rw [IntKind.wrap_i64]; omega
  clear hsm z1 z2 hF1 hL1 hz bb mk m1 m2
  go_region_held3 (fun w' => Below W2.heap.size W2 w' ∧ w'.cell? ⟨w.heap.size, 0, none⟩ = some (.int .i64 next) ∧ w'.cell? ⟨w.heap.size, 1, none⟩ = some (.slice (some ⟨g, 0, none⟩) L.length cap) ∧ w'.cell? ⟨w.heap.size + 1, 0, none⟩ = some (.int .i64 next) ∧ w'.cell? ⟨w.heap.size + 1, 1, none⟩ = some (.slice a2 L.length c2) ∧ w'.cell? ⟨g, L.length * 5, none⟩ = some (.string ⟨#[109, 97, 114, 107]⟩)) (first
    | (with_reducible exact XC.out _ (Below.refl _ _).drew)
    | (with_reducible exact XC.out _ B8)) (first
    | (go_at_call 11; with_reducible refine Calls.mono (HSM.out _ (And.left (by assumption))) ?_; rintro e v8 ⟨rfl, c8⟩; have B8 := below_seq (And.left (by assumption)) c8))
  have HB := Hid.mk B8
  clear B8 c8 HSM iw i1 i3 hsl
  go_wp2_with fail
  go_loopw [5, 6] (fun i _ wr => ∃ k : Nat, i = .int .i64 (k : Int) ∧ k ≤ L.length ∧ Hid (Below W2.heap.size W2 wr)) (fun i _ _ => L.length - (intOf i).toNat)
  case atStart => exact ⟨0, rfl, Nat.zero_le _, HB⟩
  case round =>
    clear HB
    obtain ⟨k, rfl, hk, HB⟩ := hrel
    obtain ⟨-, p0, p1, q0, q1, -⟩ := XC.out _ HB.out
    by_cases hlt : k < L.length
    · have d1 : decide ((k : Int) < (L.length : Int)) = true := decide_eq_true (Int.ofNat_lt.2 hlt)
      have k0 : (0 : Int) ≤ (k : Int) := Int.natCast_nonneg k
      have k1 : (k : Int) < (L.length : Int) := Int.ofNat_lt.2 hlt
      obtain ⟨u, hu⟩ : ∃ u, L[k]? = some u := ⟨_, List.getElem?_eq_getElem hlt⟩
      obtain ⟨b2, off, ma, mc2, rfl, hbl, c0, c1, c2, c3, c4, -⟩ := (HL.out.later HB.out).s.at'.get k u hu
      obtain ⟨q, mc, e4, hq, n1, n2, mk⟩ := (HF.out.later HB.out).at' hu
      have hul := HZ.out u (List.mem_of_getElem? hu)
      have s1 : ∀ w, (slP (.slice (some ⟨q, 0, none⟩) u.l.length mc) none (some (.int .i64 ((u.l.length : Int) + 1))) none).run Try.prog w = .ok (.slice (some ⟨q, 0, none⟩) (u.l.length + 1) mc) w := fun w => run_slP _ u.l.length mc (u.l.length + 1) n1 n2 (fun q => by cases q) w
      have j0 : (0 : Int) ≤ (u.l.length : Int) := Int.natCast_nonneg _
      have j1 : (u.l.length : Int) < ((u.l.length : Int) + 1) := by omega
      clear c0 c1 c2 c3 p0 q0 n1 n2 hu hbl hq
      go_wp2_with fail
      refine ⟨⟨k + 1, rfl, hlt, HB⟩, ?_⟩
      show L.length - ((k : Int) + 1).toNat < L.length - ((k : Int)).toNat
      omega
    · have d1 : decide ((k : Int) < (L.length : Int)) = false := decide_eq_false (fun q => hlt (Int.ofNat_lt.1 q))
      have d2 : decide (k < L.length) = false := decide_eq_false hlt
      go_wp2_with fail
      go_ret
      exact ⟨rfl, HBB.out.trans (HB.out.mono HBB.out.size)⟩
end Go.Proofs.Ythbdaadhcheggaa
