import Derived.Test.YtkkhmlcnfnaadaaGreatDoorGp
import Derived.Test.YtkkhmlcnfnaadaaGreatDoorMOw
/- What ManifestBack needs of the texts. -/
namespace Go.Proofs.YtkkhmlcnfnaadaaGreatDoor
set_option maxRecDepth 100000
set_option linter.unusedVariables false
set_option linter.unusedSimpArgs false
open Go.RowKit
open Go.Proofs.YtkkhmlcnfnaadaaGreatDoorH (hv hv_length hv_one hv_eq)
theorem mtx_pos (m : Ma) : 1 ≤ (mtx m).length := by
  have := mtx_ne (m := m)
  cases h : mtx m with
  | nil => exact absurd h this
  | cons a l => simp
theorem itemR_len {m : Ma} {x : It} (h : RtI m x) : (itemR x).length ≤ 20 := by
  unfold itemR
  cases hm : x.mkr with
  | true => rw [(h.mk1 hm).2]; simp [metaR]
  | false =>
    have := (mtE_iff (h.mk0 hm).2.2).1
    simp [metaR]; omega
theorem items_len {m : Ma} : ∀ (L : List It), (∀ x ∈ L, RtI m x) → ((L.map itemR).flatten).length ≤ L.length * 20
  | [], _ => by simp
  | x :: L, h => by
    have h1 := items_len L (fun y hy => h y (by simp [hy]))
    have h2 := itemR_len (h x (by simp))
    simp only [List.map_cons, List.flatten_cons, List.length_append, List.length_cons]
    omega
theorem mtx_le {m : Ma} (h : RtM m) : (mtx m).length ≤ 6000000000 := by
  have h1 := txt_len (recs m) (recs_ok h)
  have h2 := items_len m.items h.it
  have h3 := h.len
  have h4 : (headR m).length ≤ 5 := by unfold headR; split <;> simp
  have h5 : (recs m).length ≤ 5 + 256 * 20 + 1 := by
    unfold recs
    simp only [List.length_append, List.length_cons, List.length_nil]
    have : m.items.length * 20 ≤ 256 * 20 := by omega
    omega
  unfold mtx
  omega
/-- the two begin alike: one text, one manifest -/
theorem Beg.two {b : List UInt8} {m n : Ma} (h : Beg b m) (h' : Beg b n) : nzM m = nzM n ∧ (mtx m).length = (mtx n).length := by
  have e := h.at'
  rw [h'.at'] at e
  exact ⟨(congrArg Prod.fst e).symm, (congrArg (fun p => p.2.1) e).symm⟩
theorem Beg.cut {m n : Ma} {k : Nat} (h : RtM m) (hk : k < (mtx m).length) : ¬ Beg ((mtx m).take k) n := by
  rintro ⟨h1, r, e⟩
  have e1 : Beg (mtx m) n := ⟨h1, r ++ (mtx m).drop k, by rw [← List.append_assoc, ← e, List.take_append_drop]⟩
  have e2 : Beg (mtx m) m := ⟨h, [], by simp⟩
  have e3 := (e1.two e2).2
  have e4 := congrArg List.length e
  simp at e4
  omega
theorem sam_nz (m : Ma) : SaM (nzM m) m := ⟨rfl, rfl, by simp [nzM], fun k x y hx hy => by
  unfold nzM at hx
  rw [List.getElem?_map, hy] at hx
  simp at hx
  subst hx
  exact ⟨rfl, rfl, rfl, rfl, hv_cut _, rfl⟩⟩
theorem Mk.it {base : Nat} {w : World} {a : Option Addr} {n c : Nat} {R S : List Ri} (h : Mk base w (.slice a n c) R S) : IIt w a (R.map (·.1)) := by
  refine ⟨fun k x hk => ?_⟩
  rw [List.getElem?_map] at hk
  cases hq : R[k]? with
  | none => rw [hq] at hk; cases hk
  | some r =>
    rw [hq] at hk
    simp at hk
    subst hk
    have hkl := (List.getElem?_eq_some_iff.1 hq).1
    have hq2 : (R ++ S)[k]? = some r := by rw [List.getElem?_append_left hkl]; exact hq
    rcases h.own.2 with ⟨e, h0⟩ | ⟨g, cap', cur, e, hbg, hg, _⟩
    · rw [List.length_append] at h0; omega
    · injection e with e1 e2 e3
      subst e1 e2
      refine ⟨g, 0, r.2.1, r.2.2, rfl, lt_of_block hg, fun j v hj => ?_, ?_⟩
      · have hj2 : j < 37 := by have := (List.getElem?_eq_some_iff.1 hj).1; rw [ic_length] at this; exact this
        have hl := rics_len (R ++ S)
        have hl2 : (R ++ S).length = R.length + S.length := List.length_append
        rw [Nat.zero_add, h.own.cellAt _ (by omega), rics_get (R ++ S) k r hq2 j hj2]
        exact hj
      · have hs := (h.met k r hq).asSl2
        have := hs.take r.1.l.length
        rwa [List.take_left] at this
/-- a remainder, made not negative -/
theorem tm_lt (x : Int) {n : Nat} (hn : 1 ≤ n) : ∃ j : Nat, j < n ∧ ((x.tmod (n : Int) = (j : Int) ∧ ¬ x.tmod (n : Int) < 0) ∨ (x.tmod (n : Int) = -(j : Int) ∧ x.tmod (n : Int) < 0)) := by
  have h1 := Int.natAbs_tmod x (n : Int)
  have h2 : (x.tmod (n : Int)).natAbs < n := by
    rw [h1]
    exact Nat.mod_lt _ (by simp; omega)
  refine ⟨(x.tmod (n : Int)).natAbs, h2, ?_⟩
  by_cases h : x.tmod (n : Int) < 0
  · exact .inr ⟨by omega, h⟩
  · exact .inl ⟨by omega, h⟩
end Go.Proofs.YtkkhmlcnfnaadaaGreatDoor

/- The law's stays: what was lent is as it was. -/
namespace Go.Proofs.YtkkhmlcnfnaadaaGreatDoor
set_option maxRecDepth 100000
set_option linter.unusedVariables false
set_option linter.unusedSimpArgs false
open Go.RowKit
open Go.Proofs.YtkkhmlcnfnaadaaGreatDoorH (hv hv_length hv_one hv_eq)
attribute [local go_sem ↓] Go.wp_at_zero Go.wp_at_succ slIe slPe
/-- two that are one -/
theorem sam_refl (m : Ma) : SaM m m := ⟨rfl, rfl, rfl, fun k x y hx hy => by
  rw [hx] at hy
  injection hy with hy
  subst hy
  exact ⟨rfl, rfl, rfl, rfl, rfl, rfl⟩⟩
theorem Mk.last {base : Nat} {w : World} {a : Option Addr} {n c : Nat} {R : List Ri} (h : Mk base w (.slice a n c) R [(mkI, none, 0)]) : ∃ g, a = some ⟨g, 0, none⟩ ∧ g < w.heap.size ∧ w.cell? ⟨g, R.length * 37, none⟩ = some (str [109, 97, 114, 107]) ∧ w.cell? ⟨g, R.length * 37 + 1, none⟩ = some (.int .i64 (-77)) ∧ n = R.length + 1 ∧ n ≤ c ∧ c ≤ 9223372036854775807 := by
  rcases h.own.2 with ⟨e, h0⟩ | ⟨g, cap', cur, e, hbg, hg, h1, h2, _⟩
  · simp at h0
  · injection e with e1 e2 e3
    subst e1 e2 e3
    have hq : (R ++ [(mkI, none, 0)])[R.length]? = some (mkI, none, 0) := by simp
    have hl := rics_len (R ++ [(mkI, none, 0)])
    have hl2 : (R ++ [((mkI, none, 0) : Ri)]).length = R.length + 1 := by simp
    refine ⟨g, rfl, lt_of_block hg, ?_, ?_, hl2, h1, h2⟩
    · rw [h.own.cellAt _ (by omega)]
      have := rics_get _ _ _ hq 0 (by omega)
      rw [Nat.add_zero] at this
      rw [this]; rfl
    · rw [h.own.cellAt _ (by omega), rics_get _ _ _ hq 1 (by omega)]; rfl
theorem Mk.at5 {base : Nat} {w : World} {a : Option Addr} {n c : Nat} {R S : List Ri} (h : Mk base w (.slice a n c) R S) {k : Nat} {r : Ri} (hk : R[k]? = some r) : ∃ g, a = some ⟨g, 0, none⟩ ∧ g < w.heap.size ∧ w.cell? ⟨g, k * 37 + 4, none⟩ = some (.slice r.2.1 r.1.l.length r.2.2) ∧ Sl w r.2.1 r.2.2 (r.1.l ++ [mkE]) := by
  have hkl := (List.getElem?_eq_some_iff.1 hk).1
  have hq2 : (R ++ S)[k]? = some r := by rw [List.getElem?_append_left hkl]; exact hk
  rcases h.own.2 with ⟨e, h0⟩ | ⟨g, cap', cur, e, hbg, hg, _⟩
  · rw [List.length_append] at h0; omega
  · injection e with e1 e2 e3
    subst e1 e2
    have hl := rics_len (R ++ S)
    have hl2 : (R ++ S).length = R.length + S.length := List.length_append
    refine ⟨g, rfl, lt_of_block hg, ?_, ?_⟩
    · rw [h.own.cellAt _ (by omega), rics_get (R ++ S) k r hq2 4 (by omega)]; rfl
    · exact (h.met k r hk).asSl2
set_option maxHeartbeats 8000000 in
theorem stays_any (m : Ma) (w : World) (a : Option Addr) (cap : Nat) (hL : IIt w a m.items) (hz : ∀ x ∈ m.items, x.l.length ≤ 4398046510976) (hl : m.items.length ≤ 1466015503658) (R : List Ri) (ra : Option Addr) (rc B : Nat) (hR : R.map (·.1) = m.items) (hM : Mk B w (.slice ra (R.length + 1) rc) R [(mkI, none, 0)]) :
    Calls Tryz.prog 19 #[.slice ra (m.items.length + 1) rc, .agg #[.int .i64 m.since, .int .i64 m.next, .slice a m.items.length cap]] w fun e w' => e = .returned (.bool true) ∧ Below w.heap.size w w' := by
  have b0 := (Below.refl w.heap.size w).alloc (Nat.le_refl _) (.cells #[.int .i64 m.since, .int .i64 m.next, .slice a m.items.length cap] 38)
  have z0 := Bn3.new w m.since m.next (.slice a m.items.length cap)
  have hRl : R.length = m.items.length := by rw [← hR, List.length_map]
  have hM0 := hM.later b0
  obtain ⟨g, rfl, hg, c0, c1, _, hrc, hrm⟩ := hM0.last
  rw [hRl] at c0 c1 hrc
  have hI := hM0.it
  rw [hR] at hI
  have HL := Hid.mk (hL.later b0)
  have HM := Hid.mk hM0
  have HB0 := Hid.mk b0
  have Z0 := Hid.mk z0
  have HR := Hid.mk hR
  have HZ := Hid.mk hz
  have hsl := fun w => run_slI (some ⟨g, 0, none⟩) (m.items.length + 1) rc m.items.length (by omega) hrm (fun q => by cases q) w
  have HC : Hid ((w.alloc (.cells #[.int .i64 m.since, .int .i64 m.next, .slice a m.items.length cap] 38)).cell? ⟨g, m.items.length * 37, none⟩ = some (str [109, 97, 114, 107]) ∧ (w.alloc (.cells #[.int .i64 m.since, .int .i64 m.next, .slice a m.items.length cap] 38)).cell? ⟨g, m.items.length * 37 + 1, none⟩ = some (.int .i64 (-77)) ∧ g < (w.alloc (.cells #[.int .i64 m.since, .int .i64 m.next, .slice a m.items.length cap] 38)).heap.size) := ⟨c0, c1, hg⟩
  have HI := Hid.mk hI
  obtain ⟨p0, p1, p2⟩ := z0.cells
  have hw1 : wrap64 ((m.items.length : Int) + 1) = ((m.items.length + 1 : Nat) : Int) := by unfold wrap64; omega
  clear hL hM hM0 z0 c0 c1 hI b0 hz hrc hrm hg
  go_enter Tryz.func19, Tryz.ntmps19
  go_upto_region 2 with fail
  generalize w.alloc (.cells #[.int .i64 m.since, .int .i64 m.next, .slice a m.items.length cap] 38) = W1 at *
  have XC : Hid (∀ w', Below W1.heap.size W1 w' → Below W1.heap.size W1 w' ∧ w'.cell? ⟨g, m.items.length * 37, none⟩ = some (str [109, 97, 114, 107]) ∧ w'.cell? ⟨g, m.items.length * 37 + 1, none⟩ = some (.int .i64 (-77)) ∧ w'.cell? ⟨w.heap.size, 0, none⟩ = some (.int .i64 m.since) ∧ w'.cell? ⟨w.heap.size, 1, none⟩ = some (.int .i64 m.next) ∧ w'.cell? ⟨w.heap.size, 2, none⟩ = some (.slice a m.items.length cap)) := ⟨fun w' h => by
    obtain ⟨u0, u1, u2⟩ := (Z0.out.later h).cells
    exact ⟨h, by rw [h.cell (p := ⟨g, _, none⟩) HC.out.2.2]; exact HC.out.1, by rw [h.cell (p := ⟨g, _, none⟩) HC.out.2.2]; exact HC.out.2.1, u0, u1, u2⟩⟩
  have hdo := doc_any m W1.drew (some ⟨g, 0, none⟩) rc (HI.out.later (Below.refl _ _).drew) hl
  have hdo : Calls Tryz.prog 10 #[.agg #[.int .i64 m.since, .int .i64 m.next, .slice (some ⟨g, 0, none⟩) m.items.length rc]] W1.drew fun e w' => ∃ da dc, e = .returned (.agg #[.int .i64 m.since, .int .i64 m.next, .slice da m.items.length dc]) ∧ IIt w' da m.items ∧ Below W1.drew.heap.size W1.drew w' := hdo.mono (by rintro e w9 ⟨da, dc, rfl, di, b9⟩; exact ⟨da, dc, rfl, di, b9⟩)
  have HBd : Hid (Below W1.heap.size W1 W1.drew) := ⟨(Below.refl _ _).drew⟩
  have k1 : (m.items.length : Int) < ((m.items.length + 1 : Nat) : Int) := by omega
  have k2 : (m.items.length : Int) < (m.items.length : Int) + 1 := by omega
  have f0 : (((m.items.length + 1 : Nat) : Int) != ((m.items.length + 1 : Nat) : Int)) = false := by simp
  have hi1 : IntKind.i64.wrap ((m.items.length : Int) + 1) = ((m.items.length + 1 : Nat) : Int) := by rw [i64w]; exact hw1
  go_region_held3 (fun w' => Below W1.heap.size W1 w' ∧ w'.cell? ⟨g, m.items.length * 37, none⟩ = some (str [109, 97, 114, 107]) ∧ w'.cell? ⟨g, m.items.length * 37 + 1, none⟩ = some (.int .i64 (-77)) ∧ w'.cell? ⟨w.heap.size, 0, none⟩ = some (.int .i64 m.since) ∧ w'.cell? ⟨w.heap.size, 1, none⟩ = some (.int .i64 m.next) ∧ w'.cell? ⟨w.heap.size, 2, none⟩ = some (.slice a m.items.length cap)) (first
    | with_reducible exact XC.out _ HBd.out
    | with_reducible exact XC.out _ (below_seq HBd.out b9)
    | with_reducible exact XC.out _ (below_seq (below_seq HBd.out b9) b10)) (first
    | (go_at_call 10; with_reducible refine Calls.mono hdo ?_; rintro e w9 ⟨da, dc, rfl, di, b9⟩; have hsm := qSame_any m m w9 da a dc cap di (HL.out.later (below_seq HBd.out b9)) HZ.out (by omega); have hsm : Calls Tryz.prog 12 #[.agg #[.int .i64 m.since, .int .i64 m.next, .slice da m.items.length dc], .agg #[.int .i64 m.since, .int .i64 m.next, .slice a m.items.length cap]] w9 fun e w' => e = .returned (.bool true) ∧ Below w9.heap.size w9 w' := hsm.mono (by rintro e w10 ⟨t10, rfl, ht10, b10⟩; exact ⟨by rw [ht10.2 (sam_refl m)], b10⟩))
    | (go_at_call 12; with_reducible refine Calls.mono hsm ?_; rintro e w10 ⟨rfl, b10⟩))
  have HB1 := Hid.mk (below_seq (below_seq HBd.out b9) b10)
  clear XC hdo HBd HC hi1 f0 k2 hsm di b9 b10
  generalize w10 = wc at *
  go_wp2_with fail
  go_loopw [6] (fun i wx => ∃ k : Nat, k ≤ m.items.length ∧ i = .int .i64 (k : Int) ∧ Hid (wx = wc)) (fun i _ => m.items.length - (intOf i).toNat)
  case atStart => exact ⟨0, Nat.zero_le _, rfl, ⟨rfl⟩⟩
  case round =>
    obtain ⟨k, hk, rfl, hwx⟩ := hrel
    have hw := hwx.out
    subst hw
    obtain ⟨p0, p1, p2⟩ := (Z0.out.later HB1.out).cells
    by_cases hlt : k < m.items.length
    · have d1 : decide ((k : Int) < (m.items.length : Int)) = true := decide_eq_true (Int.ofNat_lt.2 hlt)
      have k2 : (k : Int) < (m.items.length : Int) := Int.ofNat_lt.2 hlt
      have k3 : (k : Int) < ((m.items.length + 1 : Nat) : Int) := by omega
      have k4 : (k : Int) < (m.items.length : Int) + 1 := by omega
      have hwk : wrap64 ((k : Int) + 1) = ((k + 1 : Nat) : Int) := by unfold wrap64; omega
      have HMe : Hid (m.items.length - (k + 1) < m.items.length - k) := ⟨by omega⟩
      obtain ⟨x, hx⟩ : ∃ x, m.items[k]? = some x := ⟨m.items[k], List.getElem?_eq_getElem hlt⟩
      obtain ⟨b, off, ma, mc, rfl, hbl, hr, _⟩ := (HL.out.later HB1.out).get k x hx
      have e4 : wr.cell? ⟨b, off + k * 37 + 4, none⟩ = some (.slice ma x.l.length mc) := hr 4 _ (ic_get x ma mc).2.2.2.2
      obtain ⟨r, hrk⟩ : ∃ r, R[k]? = some r := ⟨R[k]'(by omega), List.getElem?_eq_getElem _⟩
      have hrx : r.1 = x := by
        have h1 : (R.map (·.1))[k]? = some r.1 := by rw [List.getElem?_map, hrk]; rfl
        rw [HR.out, hx] at h1
        exact (Option.some.inj h1).symm
      obtain ⟨g', eg, hg', c4, hs⟩ := (HM.out.later HB1.out).at5 hrk
      have eg := Option.some.inj eg
      injection eg with eg1 _
      subst eg1
      rw [hrx] at c4 hs
      obtain ⟨rl, ra', rc'⟩ := r
      dsimp only at c4 hs hrx
      have hxl : x.l.length ≤ 4398046510976 := HZ.out x (List.mem_of_getElem? hx)
      have hlen : (x.l ++ [mkE]).length = x.l.length + 1 := by simp
      have hle := hs.le
      rw [hlen] at hle
      have hsp : ∀ w, (slP (.slice ra' x.l.length rc') none (some (.int .i64 ((x.l.length : Int) + 1))) none).run Tryz.prog w = .ok (.slice ra' (x.l.length + 1) rc') w := fun w => run_slP ra' x.l.length rc' (x.l.length + 1) hle hs.max hs.nil w
      obtain ⟨pb, po, hpa, hpb, q0, q1⟩ := hs.at'.get x.l.length mkE (by simp)
      subst hpa
      have hwl : wrap64 ((x.l.length : Int) + 1) = ((x.l.length + 1 : Nat) : Int) := by unfold wrap64; omega
      have k5 : (x.l.length : Int) < ((x.l.length + 1 : Nat) : Int) := by omega
      have k6 : (x.l.length : Int) < (x.l.length : Int) + 1 := by omega
      have q0 : wr.cell? ⟨pb, po + x.l.length * 2, none⟩ = some (.string ⟨#[109, 97, 114, 107]⟩) := q0
      have q1 : wr.cell? ⟨pb, po + x.l.length * 2 + 1, none⟩ = some (.string ⟨#[]⟩) := q1
      have Hlt := Hid.mk hlt
      clear hr hx hrk hrx hs hxl hlen hle hlt hk hbl hpb
      go_wp2_with fail
      exact ⟨⟨k + 1, Hlt.out, by first | rfl | (rw [hwk]), ⟨by first | trivial | rfl⟩⟩, by first | exact HMe.out | (rw [hwk]; exact HMe.out)⟩
    · obtain rfl : k = m.items.length := by omega
      have d1 : decide ((m.items.length : Int) < (m.items.length : Int)) = false := decide_eq_false (by omega)
      go_wp2_with fail
      go_ret
      exact ⟨rfl, HB0.out.trans (HB1.out.mono HB0.out.size)⟩
end Go.Proofs.YtkkhmlcnfnaadaaGreatDoor
