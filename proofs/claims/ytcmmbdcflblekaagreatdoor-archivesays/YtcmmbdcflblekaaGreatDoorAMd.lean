/- Made: the walk. -/
import Derived.Test.YtcmmbdcflblekaaGreatDoorQg
import Derived.Deep.RegionHeld3
import Derived.Deep.DeepCutAuto
namespace Go.Proofs.YtcmmbdcflblekaaGreatDoor
set_option maxRecDepth 100000
set_option linter.unusedVariables false
set_option linter.unusedSimpArgs false
open Go.RowKit
open Stk (Rv rcs rcells)
attribute [local go_sem ↓] Go.wp_at_zero Go.wp_at_succ slVme ad9 Go.Proofs.YtcmmbdcflblekaaGreatDoorP.sl9
attribute [local go_sem] a7_eq a10_eq
attribute [-go_sem] Go.Builtin.append_
theorem cell_heap {w w' : World} {b : Nat} (h : w'.heap[b]? = w.heap[b]?) (j : Nat) : w'.cell? ⟨b, j, none⟩ = w.cell? ⟨b, j, none⟩ := by
  unfold World.cell?
  simp only [h]
theorem vin_box {w : World} {a : Option Addr} {L : List Vs} (h : VIn w a L) {g : Nat} {n : Int} {q : Value} (hb : Bb2 w g n q) (hq : ∀ s, q ≠ .string s) (x y : Value) : VIn ((w.setCell ⟨g, 0, none⟩ x).setCell ⟨g, 1, none⟩ y) a L := by
  have hk : ∀ k, k ≠ g → ((w.setCell ⟨g, 0, none⟩ x).setCell ⟨g, 1, none⟩ y).heap[k]? = w.heap[k]? := fun k hk => by rw [hso _ _ hk, hso _ _ hk]
  have hne : ∀ b j s, w.cell? ⟨b, j, none⟩ = some (.string s) → b ≠ g := fun b j s hc e => by
    subst e
    rw [cell_of_row _ _ _ _ _ _ hb] at hc
    rcases j with _ | _ | j
    · injection hc with hc; cases hc
    · injection hc with hc; exact hq _ hc
    · cases hc
  refine ⟨fun k v hv => ?_⟩
  obtain ⟨b, off, ma, mc, h1, h2, c0, c1, c2, c3, c4, s⟩ := h.get k v hv
  have hb1 := hk b (hne _ _ _ c0)
  refine ⟨b, off, ma, mc, h1, by simpa using h2, (cell_heap hb1 _).trans c0, (cell_heap hb1 _).trans c1, (cell_heap hb1 _).trans c2, (cell_heap hb1 _).trans c3, (cell_heap hb1 _).trans c4, ⟨⟨fun i p hp => ?_⟩, s.le, s.max, s.nil⟩⟩
  obtain ⟨b', off', e1, e2, k0, k1⟩ := s.at'.get i p hp
  have hb2 := hk b' (hne _ _ _ k0)
  exact ⟨b', off', e1, by simpa using e2, (cell_heap hb2 _).trans k0, (cell_heap hb2 _).trans k1⟩
theorem leq_true {a b : List UInt8} (h : bcmp a b ≤ 0) : (Go.Op.bytesLess a b || a == b) = true := by
  rw [bytesLess_eq]
  rcases bcmp_cases a b with e | e | e
  · rw [e]; rfl
  · rw [bcmp_zero e]; simp
  · omega
theorem leq_false {a b : List UInt8} (h : ¬ bcmp a b ≤ 0) : (Go.Op.bytesLess a b || a == b) = false := by
  rw [bytesLess_eq]
  rcases bcmp_cases a b with e | e | e
  · omega
  · omega
  · rw [e, beq_eq_false_iff_ne.2 (fun q => by rw [q, bcmp_self] at e; cases e)]; rfl
/-- the pairs that are made -/
structure Mp (vs : List En) : Prop where
  at' : ∀ i e, vs[i]? = some e → e.key = [UInt8.ofNat (97 + i)] ∧ e.val.length ≤ 64
theorem Mp.nil : Mp [] := ⟨fun i e h => by simp at h⟩
theorem Mp.more {vs : List En} (h : Mp vs) {v : List UInt8} (hv : v.length ≤ 64) : Mp (vs ++ [⟨[UInt8.ofNat (97 + vs.length)], v⟩]) := ⟨fun i e he => by
  by_cases hi : i < vs.length
  · rw [List.getElem?_append_left hi] at he
    exact h.at' i e he
  · have hl := (List.getElem?_eq_some_iff.1 he).1
    rw [List.length_append, List.length_singleton] at hl
    obtain rfl : i = vs.length := by omega
    rw [List.getElem?_append_right (Nat.le_refl _), Nat.sub_self] at he
    injection he with he
    subst he
    exact ⟨rfl, hv⟩⟩
theorem Mp.ok {vs : List En} (h : Mp vs) (hl : vs.length ≤ 5) : mtE vs = 0 := by
  unfold mtE
  rw [if_pos]
  refine ⟨by omega, fun p hp => ?_, ?_⟩
  · obtain ⟨i, hi, e⟩ := List.getElem_of_mem hp
    obtain ⟨h1, h2⟩ := h.at' i p (by rw [List.getElem?_eq_getElem hi, e])
    have hs : ∀ i : Fin 5, smN [UInt8.ofNat (97 + i.val)] 16 = true := by decide
    unfold prb
    rw [h1, hs ⟨i, by omega⟩, decide_eq_true h2]
    rfl
  · refine List.pairwise_iff_getElem.2 fun i j hi hj hij => ?_
    have a := (h.at' i _ (List.getElem?_eq_getElem hi)).1
    have b := (h.at' j _ (List.getElem?_eq_getElem hj)).1
    show bcmp _ _ = -1
    rw [a, b]
    have hs : ∀ i j : Fin 5, i.val < j.val → bcmp [UInt8.ofNat (97 + i.val)] [UInt8.ofNat (97 + j.val)] = -1 := by decide
    exact hs ⟨i, by omega⟩ ⟨j, by omega⟩ hij
/-- what the loop over the pairs keeps -/
structure Mw (W2 w : World) (g7 : Nat) (K : List UInt8) (S : Int) (data : List UInt8) (vs : List En) (v : Value) : Prop where
  bel : Below W2.heap.size W2 w
  box : B5v w g7 K S false data v
  own : Ow (g7 + 1) w v vs
  mp : Mp vs
  le : W2.heap.size ≤ g7
theorem Mw.later {W2 w w' : World} {g7 : Nat} {K : List UInt8} {S : Int} {data : List UInt8} {vs : List En} {v : Value} (h : Mw W2 w g7 K S data vs v) (hb : Below w.heap.size w w') : Mw W2 w' g7 K S data vs v := ⟨h.bel.trans (hb.mono h.bel.size), h.box.later hb, h.own.later hb, h.mp, h.le⟩
theorem run_e1 {base : Nat} {w1 : World} {v : Value} {l : List En} (p : En) (hO : Ow base w1 v l) (hn : l.length ≤ 1000000000) :
    ∃ a' c' w', (∀ ty, (Builtin.append_ #[43, 43] ty #[v, .slice (some ⟨w1.heap.size, 0, none⟩) 1 1]).run Tryz.prog (w1.alloc (.cells #[str p.key, str p.val] 49)) = .ok (.slice a' (l.length + 1) c') w') ∧ Ow base w' (.slice a' (l.length + 1) c') (l ++ [p]) ∧ Below base w1 w' := by
  obtain ⟨i0, hi, hz0, hz1, hz2⟩ := infoP
  have hm : maxLen = 9223372036854775807 := rfl
  obtain ⟨v', w', hr, hown, hgrow, _⟩ := run_append_own_wide (P := Tryz.prog) (w := w1.alloc (.cells #[str p.key, str p.val] 49)) base 43 43 49 i0 _ 2 32 Tryz.underlying43 hi hz0 hz1 hz2 rfl (by omega) v l.length (pcells l) (hO.own.alloc _) ⟨w1.heap.size, 0, none⟩ 1 1 (pcs p) rfl
    (World.news_of_block (cs := #[str p.key, str p.val]) (t := 49) (fr := (0, 0)) (heap_alloc_new w1 _)) (by simp [pcs, Value.oneCell']) (by rw [hm]; omega) (by omega) (by have := hO.le; simp; omega)
  have hO2 : Ow base w' v' (l ++ [p]) := by
    refine ⟨?_, ?_⟩
    · rw [pcells_append, List.length_append]
      have : pcells [p] = pcs p := by simp [pcells]
      rw [this]; exact hown
    · have := hgrow.size; have h2 := hO.le; simp at this; omega
  obtain ⟨a', c', rfl, _⟩ := hO2.sl
  rw [List.length_append] at hO2 hr
  exact ⟨a', c', w', (fun ty => hr), hO2, ((Below.refl _ _).alloc hO.le _).trans (grown_below (hO.own.alloc _) (by have := hO.le; simp; omega) hgrow)⟩
theorem Mw.more {W2 w w3 : World} {g7 : Nat} {K : List UInt8} {S : Int} {data : List UInt8} {vs : List En} {v v' : Value} {p : En} (h : Mw W2 w g7 K S data vs v) (hO : Ow (g7 + 1) w3 v' (vs ++ [p])) (hb : Below (g7 + 1) w w3) (hp : Mp (vs ++ [p])) :
    B5v w3 g7 K S false data v ∧ Below W2.heap.size W2 w3 ∧ Mw W2 (w3.setCell ⟨g7, 4, none⟩ v') g7 K S data (vs ++ [p]) v' := by
  have hlt := h.box.lt
  have hle := h.le
  have b3 : B5v w3 g7 K S false data v := h.box.oth (hb.block _ (by omega))
  have hB : Below W2.heap.size W2 w3 := h.bel.trans (hb.mono (by omega))
  refine ⟨b3, hB, hB.setCell (p := ⟨g7, 4, none⟩) hle _, b3.set4 v', ?_, hp, hle⟩
  exact hO.same (by simp) (fun g hg => hso _ _ (by have := (hO.own.lt g hg).1; omega))
set_option maxRecDepth 100000 in
set_option maxHeartbeats 8000000 in
theorem made_any (L : List Vs) (n : Int) (w : World) (a : Option Addr) (cap : Nat) (hL : VIn w a L) (hz : L.length ≤ 4611686018427387904) :
    Calls Tryz.prog 16 #[.agg #[.int .i64 n, .slice a L.length cap]] w fun e w' => ∃ (L' : List Vs) (n' sq : Int) (va : Option Addr) (vc : Nat), e = .returned (.agg #[.int .i64 n', .slice va L'.length vc]) ∧ VIn w' va L' ∧ Mdl sq L' ∧ sq < n' ∧ n' ≤ sq + 1024 ∧ Below w.heap.size w w' := by
  have b1 := (Below.refl w.heap.size w).alloc (Nat.le_refl _) (.cells #[.int .i64 n, .slice a L.length cap] 24)
  have b2 := b1.alloc b1.size (.cells #[.int .i64 0, .slice none 0 0] 24)
  have z0 : Bb2 ((w.alloc (.cells #[.int .i64 n, .slice a L.length cap] 24)).alloc (.cells #[.int .i64 0, .slice none 0 0] 24)) w.heap.size n (.slice a L.length cap) := (Bb2.new w n (.slice a L.length cap)).later ((Below.refl _ _).alloc (Nat.le_refl _) _)
  have z1 : Bb2 ((w.alloc (.cells #[.int .i64 n, .slice a L.length cap] 24)).alloc (.cells #[.int .i64 0, .slice none 0 0] 24)) (w.heap.size + 1) 0 (.slice none 0 0) := by
    have := Bb2.new (w.alloc (.cells #[.int .i64 n, .slice a L.length cap] 24)) 0 (.slice none 0 0)
    rw [World.size_alloc] at this
    exact this
  have HZ0 := Hid.mk z0
  have HZ1 := Hid.mk z1
  have HV := Hid.mk (hL.later b2)
  have HB := Hid.mk b2
  have HZ := Hid.mk hz
  clear b1 b2 z0 z1 hL
  go_enter Tryz.func16, Tryz.ntmps16
  go_wp2_with fail
  generalize (w.alloc (.cells #[.int .i64 n, .slice a L.length cap] 24)).alloc (.cells #[.int .i64 0, .slice none 0 0] 24) = W1 at *
  go_loopw [3, 4, 5] (fun lv sv i wr => ∃ (k : Nat) (R : List Rv) (la : Option Addr) (lc : Nat) (sq : Int), i = .int .i64 (k : Int) ∧ sv = .int .i64 sq ∧ lv = .slice la R.length lc ∧ k ≤ L.length ∧ k ≤ 40 ∧ Hid (R.length = k ∧ Mdl sq (R.map (·.v)) ∧ (∃ W0, Lv W0 wr (.slice la R.length lc) R) ∧ Below W1.heap.size W1 wr)) (fun _ _ i _ => 40 - (intOf i).toNat)
  case atStart => exact ⟨0, [], none, 0, 0, rfl, rfl, rfl, Nat.zero_le _, Nat.zero_le _, ⟨rfl, Mdl.nil, ⟨W1, Lv.nil _⟩, Below.refl _ _⟩⟩
  case round =>
    obtain ⟨k, R, la, lc, sq, rfl, rfl, rfl, hk, hk40, HI⟩ := hrel
    obtain ⟨p0, p1⟩ := (HZ0.out.later HI.out.2.2.2).cells
    by_cases hlt : k < L.length ∧ k < 40
    · have d1 : decide ((k : Int) < (L.length : Int)) = true := decide_eq_true (by omega)
      have d2 : decide ((k : Int) < 40) = true := decide_eq_true (by omega)
      have k0 : (0 : Int) ≤ (k : Int) := Int.natCast_nonneg k
      have k2 : (k : Int) < (L.length : Int) := by omega
      have hw0 : wrap64 ((k : Int) + 1) = ((k + 1 : Nat) : Int) := by unfold wrap64; omega
      obtain ⟨v, hv⟩ : ∃ v, L[k]? = some v := ⟨L[k]'hlt.1, List.getElem?_eq_getElem hlt.1⟩
      obtain ⟨b, off, ma, mc, rfl, hbl, c0, c1, c2, c3, c4, hsl⟩ := (HV.out.later HI.out.2.2.2).get k v hv
      obtain ⟨key, seq, mkr, data, l⟩ := v
      dsimp only at c0 c1 c2 c3 c4 hsl
      have HA := Hid.mk (a7_bd seq)
      have hs0 := HI.out.2.1.s0
      have hs1 := HI.out.2.1.s1
      have hs2 := HI.out.2.1.len
      obtain ⟨S, hS⟩ : ∃ S, S = sq + 1 + a7 seq := ⟨_, rfl⟩
      have hw1 : wrap64 (sq + 1) = sq + 1 := by unfold wrap64; omega
      have hw2 : wrap64 (sq + 1 + a7 seq) = S := by have := HA.out; unfold wrap64; omega
      have HS := Hid.mk hS
      have bx := (Below.refl wr.heap.size wr).alloc (Nat.le_refl _) (.cells #[str key, .int .i64 seq, .bool mkr, str data, .slice ma l.length mc] 54)
      have z6 := Hid.mk (B5v.new wr key seq mkr data (.slice ma l.length mc))
      have HBx := Hid.mk bx
      have HSl := Hid.mk (hsl.later bx)
      have hcut := fun w => alcut_any key 31 w
      have hadd : ∀ w, (Go.Proofs.YtcmmbdcflblekaaGreatDoor.adS (.string ⟨#[107]⟩) (str (key.take 31))).run Tryz.prog w = .ok (str (107 :: key.take 31)) w := fun w => run_ad [107] (key.take 31) (by simp; omega) w
      obtain ⟨K, hK⟩ : ∃ K, K = 107 :: key.take 31 := ⟨_, rfl⟩
      rw [← hK] at hadd
      have HKk := Hid.mk hK
      clear hS bx hsl hs0 hs1 hs2 hK
      go_upto_region 8 with fail
      generalize wr.alloc (.cells #[str key, .int .i64 seq, .bool mkr, str data, .slice ma l.length mc] 54) = W2 at *
      generalize hg6 : wr.heap.size = g6 at *
      have HG6 := Hid.mk hg6
      clear hg6
      rw [hw2]
      clear c0 c1 c2 c3 c4 p0 p1 hw1 hw2
      have HS8 : Hid (∀ w', Below W2.heap.size W2 w' → Below W2.heap.size W2 w' ∧ w'.cell? ⟨g6, 0, none⟩ = some (str key) ∧ w'.cell? ⟨g6, 2, none⟩ = some (.bool mkr)) := ⟨fun w' h => by
        obtain ⟨e0, e1, e2, _⟩ := (z6.out.later h).cells
        exact ⟨h, e0, e2⟩⟩
      go_cut [7] (fun v7 wx => ∃ g7 : Nat, v7 = .pointer (some ⟨g7, 0, none⟩) ∧ Hid (Below W2.heap.size W2 wx ∧ W2.heap.size ≤ g7 ∧ B5v wx g7 K S mkr [] (.slice none 0 0)))
      case first =>
        go_region_held3 (fun w' => Below W2.heap.size W2 w' ∧ w'.cell? ⟨g6, 0, none⟩ = some (str key) ∧ w'.cell? ⟨g6, 2, none⟩ = some (.bool mkr)) ((refine HS8.out _ ?_; first
          | with_reducible exact (Below.refl _ _).drew
          | with_reducible exact bal2 (Below.refl _ _).drew _
          | with_reducible exact (bal2 (Below.refl _ _) _).drew)) ((go_at_call 37; with_reducible refine Calls.mono (hcut _) ?_; rintro e w10 ⟨rfl, rfl⟩))
        all_goals (go_wp2_with fail)
        all_goals go_meet
        all_goals (exact ⟨_, rfl, ⟨(bal2 (Below.refl _ _) _).drew, Nat.le_refl _, B5v.new W2 K S mkr [] (.slice none 0 0)⟩⟩)
      case rest =>
      obtain ⟨g7, rfl, HC⟩ := hcut
      clear HS8 hadd
      generalize wc = W3 at *
      have HG2 : Hid (g6 < W2.heap.size) := ⟨z6.out.lt⟩
      have HVI : Hid (∀ j p, l[j]? = some p → ∃ pb po, ma = some ⟨pb, po, none⟩ ∧ ∀ w', Below W2.heap.size W2 w' → w'.cell? ⟨g6, 4, none⟩ = some (.slice ma l.length mc) ∧ w'.cell? ⟨pb, po + j * 2 + 1, none⟩ = some (str p.val)) := ⟨fun j p hp => by
        obtain ⟨pb, po, e, _⟩ := HSl.out.at'.get j p hp
        refine ⟨pb, po, e, fun w' hb => ⟨(z6.out.later hb).cells.2.2.2.2, ?_⟩⟩
        obtain ⟨pb', po', e', _, _, q⟩ := (HSl.out.later hb).at'.get j p hp
        rw [e] at e'
        injection e' with e'
        injection e' with e1 e2
        subst e1 e2
        exact q⟩
      obtain ⟨e0, e1, e2, e3, e4⟩ := (z6.out.later HC.out.1).cells
      go_upto_if 43 with fail
      go_cut [8] (fun _ wx => ∃ (d' : List UInt8) (l' : List En) (na : Option Addr) (nc : Nat), Hid (Below W2.heap.size W2 wx ∧ W2.heap.size ≤ g7 ∧ B5v wx g7 K S mkr d' (.slice na l'.length nc) ∧ Sl wx na nc l' ∧ d'.length ≤ 1024 ∧ (mkr = true → d' = [] ∧ l' = []) ∧ mtE l' = 0 ∧ l'.length ≤ 5))
      case first =>
        cases mkr with
        | true =>
          go_wp2_with fail
          go_meet
          exact ⟨[], [], none, 0, ⟨HC.out.1, HC.out.2.1, HC.out.2.2, (Ow.nil _ 0 (Nat.zero_le _)).asSl2, by simp, fun _ => ⟨rfl, rfl⟩, Mp.nil.ok (by simp), by simp⟩⟩
        | false =>
          obtain ⟨q0, q1, q2, q3, q4⟩ := HC.out.2.2.cells
          have f3 := HC.out.2.2.fz 3
          have hcd := fun w => alcut_any data 1024 w
          obtain ⟨dt, hdt⟩ : ∃ dt, dt = data.take 1024 := ⟨_, rfl⟩
          have HDl : Hid (dt.length ≤ 1024) := ⟨by rw [hdt, List.length_take]; omega⟩
          rw [← hdt] at hcd
          have HM0 : Hid (Mw W2 (W3.setCell ⟨g7, 3, none⟩ (str dt)) g7 K S dt [] (.slice none 0 0)) := ⟨(HC.out.1).setCell (p := ⟨g7, 3, none⟩) HC.out.2.1 _, HC.out.2.2.set3 dt, Ow.nil _ _ (by have := HC.out.2.2.lt; simp; omega), Mp.nil, HC.out.2.1⟩
          clear hdt
          go_wp2_with (go_at_call 37; with_reducible refine Calls.mono (hcd _) ?_; rintro e w10 ⟨rfl, rfl⟩)
          clear e0 e1 e2 e3 e4 q0 q1 q2 q3 q4 f3 HC hcd
          generalize w10.setCell ⟨g7, 3, none⟩ (str dt) = W4 at *
          go_loopw [8] (fun jv wr2 => ∃ (j : Nat) (vs : List En) (na : Option Addr) (nc : Nat), jv = .int .i64 (j : Int) ∧ vs.length = j ∧ j ≤ l.length ∧ j ≤ 5 ∧ Hid (Mw W2 wr2 g7 K S dt vs (.slice na vs.length nc))) (fun jv _ => 5 - (intOf jv).toNat)
          case atStart => exact ⟨0, [], none, 0, rfl, rfl, Nat.zero_le _, Nat.zero_le _, HM0⟩
          case round =>
            clear HM0
            obtain ⟨j, vs, na, nc, rfl, hvs, hj, hj5, HM⟩ := hrel
            have HJ := Hid.mk hvs
            obtain ⟨e0, e1, e2, e3, e4⟩ := (z6.out.later HM.out.bel).cells
            clear hvs e0 e1 e2 e3
            by_cases hlj : j < l.length ∧ j < 5
            · have d1 : decide ((j : Int) < (l.length : Int)) = true := decide_eq_true (by omega)
              have d2 : decide ((j : Int) < 5) = true := decide_eq_true (by omega)
              have j0 : (0 : Int) ≤ (j : Int) := Int.natCast_nonneg j
              have j2 : (j : Int) < (l.length : Int) := by omega
              have hj1 : j + 1 ≤ l.length := hlj.1
              have hj2 : j + 1 ≤ 5 := hlj.2
              have hwj : wrap64 ((j : Int) + 1) = ((j + 1 : Nat) : Int) := by unfold wrap64; omega
              obtain ⟨p, hp⟩ : ∃ p, l[j]? = some p := ⟨l[j]'hlj.1, List.getElem?_eq_getElem hlj.1⟩
              obtain ⟨pb, po, rfl, hpc⟩ := HVI.out j p hp
              obtain ⟨pkey, pv⟩ := p
              obtain ⟨ch, hch⟩ : ∃ ch : UInt8, ch = UInt8.ofNat (97 + j) := ⟨_, rfl⟩
              have hcn : ch.toNat = 97 + j := by rw [hch]; simp; omega
              have hw97 : IntKind.i64.wrap (97 + (j : Int)) = ((ch.toNat : Nat) : Int) := by rw [hcn, IntKind.wrap_i64]; omega
              have hc8 : IntKind.u8.wrap ((ch.toNat : Nat) : Int) = ((ch.toNat : Nat) : Int) := by rw [hcn, IntKind.wrap_u8]; omega
              clear hcn
              have hcv1 := fun w' => Go.Proofs.YtcmmbdcflblekaaGreatDoorP.conv_one ch w'
              have hct := fun w' => alcut_any pv 64 w'
              obtain ⟨pt, hpt⟩ : ∃ pt, pt = pv.take 64 := ⟨_, rfl⟩
              rw [← hpt] at hct
              have HPt : Hid (pt.length ≤ 64) := ⟨by rw [hpt, List.length_take]; omega⟩
              have HVC : Hid (∀ w', Below wr.heap.size wr w' → w'.cell? ⟨g6, 4, none⟩ = some (.slice (some ⟨pb, po, none⟩) l.length mc) ∧ w'.cell? ⟨pb, po + j * 2 + 1, none⟩ = some (str pv)) := ⟨fun w' hb => hpc w' (HM.out.bel.trans (hb.mono HM.out.bel.size))⟩
              have HVC2 : Hid (∀ w', Below wr.heap.size wr w' → w'.cell? ⟨g7, 4, none⟩ = some (.slice na vs.length nc)) := ⟨fun w' hb => (HM.out.later hb).box.cells.2.2.2.2⟩
              have HEn : Hid (∀ w2, Below wr.heap.size wr w2 → ∃ (na' : Option Addr) (nc' : Nat) (w3 : World), (∀ ty, (Builtin.append_ #[43, 43] ty #[.slice na vs.length nc, .slice (some ⟨w2.heap.size, 0, none⟩) 1 1]).run Tryz.prog (w2.alloc (.cells #[str [ch], str pt] 49)) = .ok (.slice na' (vs.length + 1) nc') w3) ∧ w3.cell? ⟨g7, 4, none⟩ = some (.slice na vs.length nc) ∧ w3.frozen? ⟨g7, 4, none⟩ = false ∧ (w3.cell? ⟨g6, 4, none⟩ = some (.slice (some ⟨pb, po, none⟩) l.length mc) ∧ w3.cell? ⟨pb, po + j * 2 + 1, none⟩ = some (str pv)) ∧ ((w3.setCell ⟨g7, 4, none⟩ (.slice na' (vs.length + 1) nc')).cell? ⟨g6, 4, none⟩ = some (.slice (some ⟨pb, po, none⟩) l.length mc) ∧ (w3.setCell ⟨g7, 4, none⟩ (.slice na' (vs.length + 1) nc')).cell? ⟨pb, po + j * 2 + 1, none⟩ = some (str pv)) ∧ Mw W2 (w3.setCell ⟨g7, 4, none⟩ (.slice na' (vs.length + 1) nc')) g7 K S dt (vs ++ [⟨[ch], pt⟩]) (.slice na' (vs ++ [(⟨[ch], pt⟩ : En)]).length nc')) := ⟨fun w2 hb => by
                have K2 := HM.out.later hb
                obtain ⟨na', nc', w3, hr, hO3, hb3⟩ := run_e1 ⟨[ch], pt⟩ K2.own (by have := HJ.out; omega)
                have hmp := K2.mp.more HPt.out
                rw [HJ.out, ← hch] at hmp
                obtain ⟨x1, x2, x3⟩ := K2.more hO3 hb3 hmp
                exact ⟨na', nc', w3, hr, x1.cells.2.2.2.2, x1.fz 4, hpc _ x2, hpc _ x3.bel, by rw [List.length_append]; exact x3⟩⟩
              clear hpt hp hlj hch hpc
              go_wp2_with fail
              refine wp_region_held (S := fun w' => w'.cell? ⟨g6, 4, none⟩ = some (.slice (some ⟨pb, po, none⟩) l.length mc) ∧ w'.cell? ⟨pb, po + j * 2 + 1, none⟩ = some (str pv)) (by kernel_rfl) ?_
              try (change wpAnyH _ _ _ _ _ _ _ _ (World.drew _))
              have bq0 := (Below.refl wr.heap.size wr).drew
              have hHeld := HVC.out _ bq0
              generalize wr.drew = wq at *
              refine take2 0 59 (.pointer (some ⟨g7, 4, none⟩)) rfl rfl (by kernel_rfl) (by kernel_rfl) (by kernel_rfl) (fun _ _ _ h => h) (by kernel_rfl) ?_ (by assumption) ?_
              · intro w' hSw
                obtain ⟨s0, s1⟩ := hSw
                go_simp
              try simp only [Act.put, List.setIfInBounds_toArray, List.set_cons_zero, List.set_cons_succ]
              refine take2 2 61 (.int .i64 (j : Int)) rfl rfl (by kernel_rfl) (by kernel_rfl) (by kernel_rfl) (fun _ _ _ h => h) (by kernel_rfl) ?_ (by assumption) ?_
              · intro w' hSw
                obtain ⟨s0, s1⟩ := hSw
                go_simp
              try simp only [Act.put, List.setIfInBounds_toArray, List.set_cons_zero, List.set_cons_succ]
              refine take2 3 62 (.int .i64 ((ch.toNat : Nat) : Int)) rfl rfl (by kernel_rfl) (by kernel_rfl) (by kernel_rfl) (fun _ _ _ h => h) (by kernel_rfl) ?_ (by assumption) ?_
              · intro w' hSw
                obtain ⟨s0, s1⟩ := hSw
                go_simp
              try simp only [Act.put, List.setIfInBounds_toArray, List.set_cons_zero, List.set_cons_succ]
              refine take2 4 63 (.int .u8 ((ch.toNat : Nat) : Int)) rfl rfl (by kernel_rfl) (by kernel_rfl) (by kernel_rfl) (fun _ _ _ h => h) (by kernel_rfl) ?_ (by assumption) ?_
              · intro w' hSw
                obtain ⟨s0, s1⟩ := hSw
                go_simp
              try simp only [Act.put, List.setIfInBounds_toArray, List.set_cons_zero, List.set_cons_succ]
              refine take2 7 66 (.pointer (some ⟨g6, 4, none⟩)) rfl rfl (by kernel_rfl) (by kernel_rfl) (by kernel_rfl) (fun _ _ _ h => h) (by kernel_rfl) ?_ (by assumption) ?_
              · intro w' hSw
                obtain ⟨s0, s1⟩ := hSw
                go_simp
              try simp only [Act.put, List.setIfInBounds_toArray, List.set_cons_zero, List.set_cons_succ]
              refine take2 8 67 (.slice (some ⟨pb, po, none⟩) l.length mc) rfl rfl (by kernel_rfl) (by kernel_rfl) (by kernel_rfl) (fun _ _ _ h => h) (by kernel_rfl) ?_ (by assumption) ?_
              · intro w' hSw
                obtain ⟨s0, s1⟩ := hSw
                go_simp
              try simp only [Act.put, List.setIfInBounds_toArray, List.set_cons_zero, List.set_cons_succ]
              refine take2 9 68 (.int .i64 (j : Int)) rfl rfl (by kernel_rfl) (by kernel_rfl) (by kernel_rfl) (fun _ _ _ h => h) (by kernel_rfl) ?_ (by assumption) ?_
              · intro w' hSw
                obtain ⟨s0, s1⟩ := hSw
                go_simp
              try simp only [Act.put, List.setIfInBounds_toArray, List.set_cons_zero, List.set_cons_succ]
              refine take2 10 69 (.pointer (some ⟨pb, po + j * 2, none⟩)) rfl rfl (by kernel_rfl) (by kernel_rfl) (by kernel_rfl) (fun _ _ _ h => h) (by kernel_rfl) ?_ (by assumption) ?_
              · intro w' hSw
                obtain ⟨s0, s1⟩ := hSw
                go_simp
              try simp only [Act.put, List.setIfInBounds_toArray, List.set_cons_zero, List.set_cons_succ]
              refine take2 11 70 (.pointer (some ⟨pb, po + j * 2 + 1, none⟩)) rfl rfl (by kernel_rfl) (by kernel_rfl) (by kernel_rfl) (fun _ _ _ h => h) (by kernel_rfl) ?_ (by assumption) ?_
              · intro w' hSw
                obtain ⟨s0, s1⟩ := hSw
                go_simp
              try simp only [Act.put, List.setIfInBounds_toArray, List.set_cons_zero, List.set_cons_succ]
              refine take2 12 71 (str pv) rfl rfl (by kernel_rfl) (by kernel_rfl) (by kernel_rfl) (fun _ _ _ h => h) (by kernel_rfl) ?_ (by assumption) ?_
              · intro w' hSw
                obtain ⟨s0, s1⟩ := hSw
                go_simp
              try simp only [Act.put, List.setIfInBounds_toArray, List.set_cons_zero, List.set_cons_succ]
              refine wpAnyH_ready (rs := [1, 5, 13]) (by kernel_rfl) (by simp) ?_
              refine AllReadyH.cons rfl (fun K hK => ?_) (AllReadyH.cons rfl (fun K hK => ?_) (AllReadyH.cons rfl (fun K hK => ?_) AllReadyH.nil))
              · skip
                rw [if_pos (by kernel_rfl)]
                have mc0 := HVC2.out _ bq0
                refine val_step2 (v := .slice na vs.length nc) (w2 := wq) 60 rfl ?_ ?_
                · go_simp
                clear mc0
                refine hK.out _ _ (HVC.out _ (bq0)) (fun hHeld => ?_)
                clear hK K
                try simp only [Act.put, List.setIfInBounds_toArray, List.set_cons_zero, List.set_cons_succ]
                refine wpAnyH_ready (rs := [5, 13]) (by kernel_rfl) (by simp) ?_
                refine AllReadyH.cons rfl (fun K hK => ?_) (AllReadyH.cons rfl (fun K hK => ?_) AllReadyH.nil)
                · skip
                  rw [if_pos (by kernel_rfl)]
                  have b1 := bal2 bq0 (.cells #[.int .u8 ((ch.toNat : Nat) : Int)] 5)
                  refine val_step2 (v := .slice (some ⟨wq.heap.size, 0, none⟩) 1 1) (w2 := (wq.alloc (.cells #[.int .u8 ((ch.toNat : Nat) : Int)] 5))) 64 rfl ?_ ?_
                  · go_simp
                  refine hK.out _ _ (HVC.out _ (b1)) (fun hHeld => ?_)
                  clear hK K
                  try simp only [Act.put, List.setIfInBounds_toArray, List.set_cons_zero, List.set_cons_succ]
                  refine wpAnyH_ready (rs := [6, 13]) (by kernel_rfl) (by simp) ?_
                  refine AllReadyH.cons rfl (fun K hK => ?_) (AllReadyH.cons rfl (fun K hK => ?_) AllReadyH.nil)
                  · skip
                    rw [if_pos (by kernel_rfl)]
                    have hcv := hcv1 wq
                    refine val_step2 (v := str [ch]) (w2 := (wq.alloc (.cells #[.int .u8 ((ch.toNat : Nat) : Int)] 5))) 65 rfl ?_ ?_
                    · go_simp
                    clear hcv
                    refine hK.out _ _ (HVC.out _ (b1)) (fun hHeld => ?_)
                    clear hK K
                    try simp only [Act.put, List.setIfInBounds_toArray, List.set_cons_zero, List.set_cons_succ]
                    refine wpAnyH_ready (rs := [13]) (by kernel_rfl) (by simp) ?_
                    refine AllReadyH.cons rfl (fun K hK => ?_) AllReadyH.nil
                    rw [if_pos (by kernel_rfl)]
                    refine call_step2 72 rfl (G := fun w' => w' = (wq.alloc (.cells #[.int .u8 ((ch.toNat : Nat) : Int)] 5))) (by go_simp) (hct _) ?_
                    intro w9 hw9
                    have hw9 := hw9.symm
                    subst hw9
                    refine hK.out _ _ (HVC.out _ (b1)) (fun hHeld => ?_)
                    clear hK K
                    try simp only [Act.put, List.setIfInBounds_toArray, List.set_cons_zero, List.set_cons_succ]
                    refine take2 14 73 (.agg #[str [ch], str pt]) rfl rfl (by kernel_rfl) (by kernel_rfl) (by kernel_rfl) (fun _ _ _ h => h) (by kernel_rfl) ?_ (by assumption) ?_
                    · intro w' hSw
                      obtain ⟨s0, s1⟩ := hSw
                      go_simp
                    try simp only [Act.put, List.setIfInBounds_toArray, List.set_cons_zero, List.set_cons_succ]
                    refine wpAnyH_ready (rs := [15]) (by kernel_rfl) (by simp) ?_
                    refine AllReadyH.cons rfl (fun K hK => ?_) AllReadyH.nil
                    rw [if_pos (by kernel_rfl)]
                    have b2 := bal2 b1 (.cells #[str [ch], str pt] 49)
                    refine val_step2 (v := .slice (some ⟨(wq.alloc (.cells #[.int .u8 ((ch.toNat : Nat) : Int)] 5)).heap.size, 0, none⟩) 1 1) (w2 := ((wq.alloc (.cells #[.int .u8 ((ch.toNat : Nat) : Int)] 5)).alloc (.cells #[str [ch], str pt] 49))) 74 rfl ?_ ?_
                    · go_simp
                    refine hK.out _ _ (HVC.out _ (b2)) (fun hHeld => ?_)
                    clear hK K
                    try simp only [Act.put, List.setIfInBounds_toArray, List.set_cons_zero, List.set_cons_succ]
                    obtain ⟨na3, nc4, w5, hr, m0, m1, HFa, HFb, HFc⟩ := HEn.out (wq.alloc (.cells #[.int .u8 ((ch.toNat : Nat) : Int)] 5)) b1
                    simp only [World.size_alloc] at hr
                    refine wpAnyH_ready (rs := [16]) (by kernel_rfl) (by simp) ?_
                    refine AllReadyH.cons rfl (fun K hK => ?_) AllReadyH.nil
                    rw [if_pos (by kernel_rfl)]
                    refine val_step2 (v := .slice na3 (vs.length + 1) nc4) (w2 := w5) 75 rfl ?_ ?_
                    · go_simp
                    refine hK.out _ _ HFa (fun hHeld => ?_)
                    clear hK K
                    try simp only [Act.put, List.setIfInBounds_toArray, List.set_cons_zero, List.set_cons_succ]
                    refine take2 17 76 (.pointer (some ⟨g7, 4, none⟩)) rfl rfl (by kernel_rfl) (by kernel_rfl) (by kernel_rfl) (fun _ _ _ h => h) (by kernel_rfl) ?_ (by assumption) ?_
                    · intro w' hSw
                      obtain ⟨s0, s1⟩ := hSw
                      go_simp
                    try simp only [Act.put, List.setIfInBounds_toArray, List.set_cons_zero, List.set_cons_succ]
                    refine wpAnyH_ready (rs := [18]) (by kernel_rfl) (by simp) ?_
                    refine AllReadyH.cons rfl (fun K hK => ?_) AllReadyH.nil
                    rw [if_pos (by kernel_rfl)]
                    go_simp
                    refine hK.out _ _ HFb (fun hHeld => ?_)
                    clear hK K
                    try simp only [Act.put, List.setIfInBounds_toArray, List.set_cons_zero, List.set_cons_succ]
                    refine wpAnyH_done (by kernel_rfl) ?_ _
                    have HQ2 := Hid.mk HFc
                    clear hHeld hr m0 m1 HFa HFb HFc
                    go_wp2_with fail
                    exact ⟨⟨j + 1, vs ++ [⟨[ch], pt⟩], _, _, by first | (rw [hwj]; done) | rfl | go_num, by simp [HJ.out], hj1, hj2, HQ2⟩, by first | (rw [hwj]; omega) | (simp [intOf]; omega)⟩
                  · skip
                    rw [if_pos (by kernel_rfl)]
                    refine call_step2 72 rfl (G := fun w' => w' = (wq.alloc (.cells #[.int .u8 ((ch.toNat : Nat) : Int)] 5))) (by go_simp) (hct _) ?_
                    intro w9 hw9
                    have hw9 := hw9.symm
                    subst hw9
                    refine hK.out _ _ (HVC.out _ (b1)) (fun hHeld => ?_)
                    clear hK K
                    try simp only [Act.put, List.setIfInBounds_toArray, List.set_cons_zero, List.set_cons_succ]
                    refine wpAnyH_ready (rs := [6]) (by kernel_rfl) (by simp) ?_
                    refine AllReadyH.cons rfl (fun K hK => ?_) AllReadyH.nil
                    rw [if_pos (by kernel_rfl)]
                    have hcv := hcv1 wq
                    refine val_step2 (v := str [ch]) (w2 := (wq.alloc (.cells #[.int .u8 ((ch.toNat : Nat) : Int)] 5))) 65 rfl ?_ ?_
                    · go_simp
                    clear hcv
                    refine hK.out _ _ (HVC.out _ (b1)) (fun hHeld => ?_)
                    clear hK K
                    try simp only [Act.put, List.setIfInBounds_toArray, List.set_cons_zero, List.set_cons_succ]
                    refine take2 14 73 (.agg #[str [ch], str pt]) rfl rfl (by kernel_rfl) (by kernel_rfl) (by kernel_rfl) (fun _ _ _ h => h) (by kernel_rfl) ?_ (by assumption) ?_
                    · intro w' hSw
                      obtain ⟨s0, s1⟩ := hSw
                      go_simp
                    try simp only [Act.put, List.setIfInBounds_toArray, List.set_cons_zero, List.set_cons_succ]
                    refine wpAnyH_ready (rs := [15]) (by kernel_rfl) (by simp) ?_
                    refine AllReadyH.cons rfl (fun K hK => ?_) AllReadyH.nil
                    rw [if_pos (by kernel_rfl)]
                    have b6 := bal2 b1 (.cells #[str [ch], str pt] 49)
                    refine val_step2 (v := .slice (some ⟨(wq.alloc (.cells #[.int .u8 ((ch.toNat : Nat) : Int)] 5)).heap.size, 0, none⟩) 1 1) (w2 := ((wq.alloc (.cells #[.int .u8 ((ch.toNat : Nat) : Int)] 5)).alloc (.cells #[str [ch], str pt] 49))) 74 rfl ?_ ?_
                    · go_simp
                    refine hK.out _ _ (HVC.out _ (b6)) (fun hHeld => ?_)
                    clear hK K
                    try simp only [Act.put, List.setIfInBounds_toArray, List.set_cons_zero, List.set_cons_succ]
                    obtain ⟨na7, nc8, w9, hr, m0, m1, HFa, HFb, HFc⟩ := HEn.out (wq.alloc (.cells #[.int .u8 ((ch.toNat : Nat) : Int)] 5)) b1
                    simp only [World.size_alloc] at hr
                    refine wpAnyH_ready (rs := [16]) (by kernel_rfl) (by simp) ?_
                    refine AllReadyH.cons rfl (fun K hK => ?_) AllReadyH.nil
                    rw [if_pos (by kernel_rfl)]
                    refine val_step2 (v := .slice na7 (vs.length + 1) nc8) (w2 := w9) 75 rfl ?_ ?_
                    · go_simp
                    refine hK.out _ _ HFa (fun hHeld => ?_)
                    clear hK K
                    try simp only [Act.put, List.setIfInBounds_toArray, List.set_cons_zero, List.set_cons_succ]
                    refine take2 17 76 (.pointer (some ⟨g7, 4, none⟩)) rfl rfl (by kernel_rfl) (by kernel_rfl) (by kernel_rfl) (fun _ _ _ h => h) (by kernel_rfl) ?_ (by assumption) ?_
                    · intro w' hSw
                      obtain ⟨s0, s1⟩ := hSw
                      go_simp
                    try simp only [Act.put, List.setIfInBounds_toArray, List.set_cons_zero, List.set_cons_succ]
                    refine wpAnyH_ready (rs := [18]) (by kernel_rfl) (by simp) ?_
                    refine AllReadyH.cons rfl (fun K hK => ?_) AllReadyH.nil
                    rw [if_pos (by kernel_rfl)]
                    go_simp
                    refine hK.out _ _ HFb (fun hHeld => ?_)
                    clear hK K
                    try simp only [Act.put, List.setIfInBounds_toArray, List.set_cons_zero, List.set_cons_succ]
                    refine wpAnyH_done (by kernel_rfl) ?_ _
                    have HQ2 := Hid.mk HFc
                    clear hHeld hr m0 m1 HFa HFb HFc
                    go_wp2_with fail
                    exact ⟨⟨j + 1, vs ++ [⟨[ch], pt⟩], _, _, by first | (rw [hwj]; done) | rfl | go_num, by simp [HJ.out], hj1, hj2, HQ2⟩, by first | (rw [hwj]; omega) | (simp [intOf]; omega)⟩
                · skip
                  rw [if_pos (by kernel_rfl)]
                  refine call_step2 72 rfl (G := fun w' => w' = wq) (by go_simp) (hct _) ?_
                  intro w9 hw9
                  have hw9 := hw9.symm
                  subst hw9
                  refine hK.out _ _ (HVC.out _ (bq0)) (fun hHeld => ?_)
                  clear hK K
                  try simp only [Act.put, List.setIfInBounds_toArray, List.set_cons_zero, List.set_cons_succ]
                  refine wpAnyH_ready (rs := [5]) (by kernel_rfl) (by simp) ?_
                  refine AllReadyH.cons rfl (fun K hK => ?_) AllReadyH.nil
                  rw [if_pos (by kernel_rfl)]
                  have b10 := bal2 bq0 (.cells #[.int .u8 ((ch.toNat : Nat) : Int)] 5)
                  refine val_step2 (v := .slice (some ⟨wq.heap.size, 0, none⟩) 1 1) (w2 := (wq.alloc (.cells #[.int .u8 ((ch.toNat : Nat) : Int)] 5))) 64 rfl ?_ ?_
                  · go_simp
                  refine hK.out _ _ (HVC.out _ (b10)) (fun hHeld => ?_)
                  clear hK K
                  try simp only [Act.put, List.setIfInBounds_toArray, List.set_cons_zero, List.set_cons_succ]
                  refine wpAnyH_ready (rs := [6]) (by kernel_rfl) (by simp) ?_
                  refine AllReadyH.cons rfl (fun K hK => ?_) AllReadyH.nil
                  rw [if_pos (by kernel_rfl)]
                  have hcv := hcv1 wq
                  refine val_step2 (v := str [ch]) (w2 := (wq.alloc (.cells #[.int .u8 ((ch.toNat : Nat) : Int)] 5))) 65 rfl ?_ ?_
                  · go_simp
                  clear hcv
                  refine hK.out _ _ (HVC.out _ (b10)) (fun hHeld => ?_)
                  clear hK K
                  try simp only [Act.put, List.setIfInBounds_toArray, List.set_cons_zero, List.set_cons_succ]
                  refine take2 14 73 (.agg #[str [ch], str pt]) rfl rfl (by kernel_rfl) (by kernel_rfl) (by kernel_rfl) (fun _ _ _ h => h) (by kernel_rfl) ?_ (by assumption) ?_
                  · intro w' hSw
                    obtain ⟨s0, s1⟩ := hSw
                    go_simp
                  try simp only [Act.put, List.setIfInBounds_toArray, List.set_cons_zero, List.set_cons_succ]
                  refine wpAnyH_ready (rs := [15]) (by kernel_rfl) (by simp) ?_
                  refine AllReadyH.cons rfl (fun K hK => ?_) AllReadyH.nil
                  rw [if_pos (by kernel_rfl)]
                  have b11 := bal2 b10 (.cells #[str [ch], str pt] 49)
                  refine val_step2 (v := .slice (some ⟨(wq.alloc (.cells #[.int .u8 ((ch.toNat : Nat) : Int)] 5)).heap.size, 0, none⟩) 1 1) (w2 := ((wq.alloc (.cells #[.int .u8 ((ch.toNat : Nat) : Int)] 5)).alloc (.cells #[str [ch], str pt] 49))) 74 rfl ?_ ?_
                  · go_simp
                  refine hK.out _ _ (HVC.out _ (b11)) (fun hHeld => ?_)
                  clear hK K
                  try simp only [Act.put, List.setIfInBounds_toArray, List.set_cons_zero, List.set_cons_succ]
                  obtain ⟨na12, nc13, w14, hr, m0, m1, HFa, HFb, HFc⟩ := HEn.out (wq.alloc (.cells #[.int .u8 ((ch.toNat : Nat) : Int)] 5)) b10
                  simp only [World.size_alloc] at hr
                  refine wpAnyH_ready (rs := [16]) (by kernel_rfl) (by simp) ?_
                  refine AllReadyH.cons rfl (fun K hK => ?_) AllReadyH.nil
                  rw [if_pos (by kernel_rfl)]
                  refine val_step2 (v := .slice na12 (vs.length + 1) nc13) (w2 := w14) 75 rfl ?_ ?_
                  · go_simp
                  refine hK.out _ _ HFa (fun hHeld => ?_)
                  clear hK K
                  try simp only [Act.put, List.setIfInBounds_toArray, List.set_cons_zero, List.set_cons_succ]
                  refine take2 17 76 (.pointer (some ⟨g7, 4, none⟩)) rfl rfl (by kernel_rfl) (by kernel_rfl) (by kernel_rfl) (fun _ _ _ h => h) (by kernel_rfl) ?_ (by assumption) ?_
                  · intro w' hSw
                    obtain ⟨s0, s1⟩ := hSw
                    go_simp
                  try simp only [Act.put, List.setIfInBounds_toArray, List.set_cons_zero, List.set_cons_succ]
                  refine wpAnyH_ready (rs := [18]) (by kernel_rfl) (by simp) ?_
                  refine AllReadyH.cons rfl (fun K hK => ?_) AllReadyH.nil
                  rw [if_pos (by kernel_rfl)]
                  go_simp
                  refine hK.out _ _ HFb (fun hHeld => ?_)
                  clear hK K
                  try simp only [Act.put, List.setIfInBounds_toArray, List.set_cons_zero, List.set_cons_succ]
                  refine wpAnyH_done (by kernel_rfl) ?_ _
                  have HQ2 := Hid.mk HFc
                  clear hHeld hr m0 m1 HFa HFb HFc
                  go_wp2_with fail
                  exact ⟨⟨j + 1, vs ++ [⟨[ch], pt⟩], _, _, by first | (rw [hwj]; done) | rfl | go_num, by simp [HJ.out], hj1, hj2, HQ2⟩, by first | (rw [hwj]; omega) | (simp [intOf]; omega)⟩
              · skip
                rw [if_pos (by kernel_rfl)]
                have b15 := bal2 bq0 (.cells #[.int .u8 ((ch.toNat : Nat) : Int)] 5)
                refine val_step2 (v := .slice (some ⟨wq.heap.size, 0, none⟩) 1 1) (w2 := (wq.alloc (.cells #[.int .u8 ((ch.toNat : Nat) : Int)] 5))) 64 rfl ?_ ?_
                · go_simp
                refine hK.out _ _ (HVC.out _ (b15)) (fun hHeld => ?_)
                clear hK K
                try simp only [Act.put, List.setIfInBounds_toArray, List.set_cons_zero, List.set_cons_succ]
                refine wpAnyH_ready (rs := [1, 6, 13]) (by kernel_rfl) (by simp) ?_
                refine AllReadyH.cons rfl (fun K hK => ?_) (AllReadyH.cons rfl (fun K hK => ?_) (AllReadyH.cons rfl (fun K hK => ?_) AllReadyH.nil))
                · skip
                  rw [if_pos (by kernel_rfl)]
                  have mc0 := HVC2.out _ b15
                  refine val_step2 (v := .slice na vs.length nc) (w2 := (wq.alloc (.cells #[.int .u8 ((ch.toNat : Nat) : Int)] 5))) 60 rfl ?_ ?_
                  · go_simp
                  clear mc0
                  refine hK.out _ _ (HVC.out _ (b15)) (fun hHeld => ?_)
                  clear hK K
                  try simp only [Act.put, List.setIfInBounds_toArray, List.set_cons_zero, List.set_cons_succ]
                  refine wpAnyH_ready (rs := [6, 13]) (by kernel_rfl) (by simp) ?_
                  refine AllReadyH.cons rfl (fun K hK => ?_) (AllReadyH.cons rfl (fun K hK => ?_) AllReadyH.nil)
                  · skip
                    rw [if_pos (by kernel_rfl)]
                    have hcv := hcv1 wq
                    refine val_step2 (v := str [ch]) (w2 := (wq.alloc (.cells #[.int .u8 ((ch.toNat : Nat) : Int)] 5))) 65 rfl ?_ ?_
                    · go_simp
                    clear hcv
                    refine hK.out _ _ (HVC.out _ (b15)) (fun hHeld => ?_)
                    clear hK K
                    try simp only [Act.put, List.setIfInBounds_toArray, List.set_cons_zero, List.set_cons_succ]
                    refine wpAnyH_ready (rs := [13]) (by kernel_rfl) (by simp) ?_
                    refine AllReadyH.cons rfl (fun K hK => ?_) AllReadyH.nil
                    rw [if_pos (by kernel_rfl)]
                    refine call_step2 72 rfl (G := fun w' => w' = (wq.alloc (.cells #[.int .u8 ((ch.toNat : Nat) : Int)] 5))) (by go_simp) (hct _) ?_
                    intro w9 hw9
                    have hw9 := hw9.symm
                    subst hw9
                    refine hK.out _ _ (HVC.out _ (b15)) (fun hHeld => ?_)
                    clear hK K
                    try simp only [Act.put, List.setIfInBounds_toArray, List.set_cons_zero, List.set_cons_succ]
                    refine take2 14 73 (.agg #[str [ch], str pt]) rfl rfl (by kernel_rfl) (by kernel_rfl) (by kernel_rfl) (fun _ _ _ h => h) (by kernel_rfl) ?_ (by assumption) ?_
                    · intro w' hSw
                      obtain ⟨s0, s1⟩ := hSw
                      go_simp
                    try simp only [Act.put, List.setIfInBounds_toArray, List.set_cons_zero, List.set_cons_succ]
                    refine wpAnyH_ready (rs := [15]) (by kernel_rfl) (by simp) ?_
                    refine AllReadyH.cons rfl (fun K hK => ?_) AllReadyH.nil
                    rw [if_pos (by kernel_rfl)]
                    have b16 := bal2 b15 (.cells #[str [ch], str pt] 49)
                    refine val_step2 (v := .slice (some ⟨(wq.alloc (.cells #[.int .u8 ((ch.toNat : Nat) : Int)] 5)).heap.size, 0, none⟩) 1 1) (w2 := ((wq.alloc (.cells #[.int .u8 ((ch.toNat : Nat) : Int)] 5)).alloc (.cells #[str [ch], str pt] 49))) 74 rfl ?_ ?_
                    · go_simp
                    refine hK.out _ _ (HVC.out _ (b16)) (fun hHeld => ?_)
                    clear hK K
                    try simp only [Act.put, List.setIfInBounds_toArray, List.set_cons_zero, List.set_cons_succ]
                    obtain ⟨na17, nc18, w19, hr, m0, m1, HFa, HFb, HFc⟩ := HEn.out (wq.alloc (.cells #[.int .u8 ((ch.toNat : Nat) : Int)] 5)) b15
                    simp only [World.size_alloc] at hr
                    refine wpAnyH_ready (rs := [16]) (by kernel_rfl) (by simp) ?_
                    refine AllReadyH.cons rfl (fun K hK => ?_) AllReadyH.nil
                    rw [if_pos (by kernel_rfl)]
                    refine val_step2 (v := .slice na17 (vs.length + 1) nc18) (w2 := w19) 75 rfl ?_ ?_
                    · go_simp
                    refine hK.out _ _ HFa (fun hHeld => ?_)
                    clear hK K
                    try simp only [Act.put, List.setIfInBounds_toArray, List.set_cons_zero, List.set_cons_succ]
                    refine take2 17 76 (.pointer (some ⟨g7, 4, none⟩)) rfl rfl (by kernel_rfl) (by kernel_rfl) (by kernel_rfl) (fun _ _ _ h => h) (by kernel_rfl) ?_ (by assumption) ?_
                    · intro w' hSw
                      obtain ⟨s0, s1⟩ := hSw
                      go_simp
                    try simp only [Act.put, List.setIfInBounds_toArray, List.set_cons_zero, List.set_cons_succ]
                    refine wpAnyH_ready (rs := [18]) (by kernel_rfl) (by simp) ?_
                    refine AllReadyH.cons rfl (fun K hK => ?_) AllReadyH.nil
                    rw [if_pos (by kernel_rfl)]
                    go_simp
                    refine hK.out _ _ HFb (fun hHeld => ?_)
                    clear hK K
                    try simp only [Act.put, List.setIfInBounds_toArray, List.set_cons_zero, List.set_cons_succ]
                    refine wpAnyH_done (by kernel_rfl) ?_ _
                    have HQ2 := Hid.mk HFc
                    clear hHeld hr m0 m1 HFa HFb HFc
                    go_wp2_with fail
                    exact ⟨⟨j + 1, vs ++ [⟨[ch], pt⟩], _, _, by first | (rw [hwj]; done) | rfl | go_num, by simp [HJ.out], hj1, hj2, HQ2⟩, by first | (rw [hwj]; omega) | (simp [intOf]; omega)⟩
                  · skip
                    rw [if_pos (by kernel_rfl)]
                    refine call_step2 72 rfl (G := fun w' => w' = (wq.alloc (.cells #[.int .u8 ((ch.toNat : Nat) : Int)] 5))) (by go_simp) (hct _) ?_
                    intro w9 hw9
                    have hw9 := hw9.symm
                    subst hw9
                    refine hK.out _ _ (HVC.out _ (b15)) (fun hHeld => ?_)
                    clear hK K
                    try simp only [Act.put, List.setIfInBounds_toArray, List.set_cons_zero, List.set_cons_succ]
                    refine wpAnyH_ready (rs := [6]) (by kernel_rfl) (by simp) ?_
                    refine AllReadyH.cons rfl (fun K hK => ?_) AllReadyH.nil
                    rw [if_pos (by kernel_rfl)]
                    have hcv := hcv1 wq
                    refine val_step2 (v := str [ch]) (w2 := (wq.alloc (.cells #[.int .u8 ((ch.toNat : Nat) : Int)] 5))) 65 rfl ?_ ?_
                    · go_simp
                    clear hcv
                    refine hK.out _ _ (HVC.out _ (b15)) (fun hHeld => ?_)
                    clear hK K
                    try simp only [Act.put, List.setIfInBounds_toArray, List.set_cons_zero, List.set_cons_succ]
                    refine take2 14 73 (.agg #[str [ch], str pt]) rfl rfl (by kernel_rfl) (by kernel_rfl) (by kernel_rfl) (fun _ _ _ h => h) (by kernel_rfl) ?_ (by assumption) ?_
                    · intro w' hSw
                      obtain ⟨s0, s1⟩ := hSw
                      go_simp
                    try simp only [Act.put, List.setIfInBounds_toArray, List.set_cons_zero, List.set_cons_succ]
                    refine wpAnyH_ready (rs := [15]) (by kernel_rfl) (by simp) ?_
                    refine AllReadyH.cons rfl (fun K hK => ?_) AllReadyH.nil
                    rw [if_pos (by kernel_rfl)]
                    have b20 := bal2 b15 (.cells #[str [ch], str pt] 49)
                    refine val_step2 (v := .slice (some ⟨(wq.alloc (.cells #[.int .u8 ((ch.toNat : Nat) : Int)] 5)).heap.size, 0, none⟩) 1 1) (w2 := ((wq.alloc (.cells #[.int .u8 ((ch.toNat : Nat) : Int)] 5)).alloc (.cells #[str [ch], str pt] 49))) 74 rfl ?_ ?_
                    · go_simp
                    refine hK.out _ _ (HVC.out _ (b20)) (fun hHeld => ?_)
                    clear hK K
                    try simp only [Act.put, List.setIfInBounds_toArray, List.set_cons_zero, List.set_cons_succ]
                    obtain ⟨na21, nc22, w23, hr, m0, m1, HFa, HFb, HFc⟩ := HEn.out (wq.alloc (.cells #[.int .u8 ((ch.toNat : Nat) : Int)] 5)) b15
                    simp only [World.size_alloc] at hr
                    refine wpAnyH_ready (rs := [16]) (by kernel_rfl) (by simp) ?_
                    refine AllReadyH.cons rfl (fun K hK => ?_) AllReadyH.nil
                    rw [if_pos (by kernel_rfl)]
                    refine val_step2 (v := .slice na21 (vs.length + 1) nc22) (w2 := w23) 75 rfl ?_ ?_
                    · go_simp
                    refine hK.out _ _ HFa (fun hHeld => ?_)
                    clear hK K
                    try simp only [Act.put, List.setIfInBounds_toArray, List.set_cons_zero, List.set_cons_succ]
                    refine take2 17 76 (.pointer (some ⟨g7, 4, none⟩)) rfl rfl (by kernel_rfl) (by kernel_rfl) (by kernel_rfl) (fun _ _ _ h => h) (by kernel_rfl) ?_ (by assumption) ?_
                    · intro w' hSw
                      obtain ⟨s0, s1⟩ := hSw
                      go_simp
                    try simp only [Act.put, List.setIfInBounds_toArray, List.set_cons_zero, List.set_cons_succ]
                    refine wpAnyH_ready (rs := [18]) (by kernel_rfl) (by simp) ?_
                    refine AllReadyH.cons rfl (fun K hK => ?_) AllReadyH.nil
                    rw [if_pos (by kernel_rfl)]
                    go_simp
                    refine hK.out _ _ HFb (fun hHeld => ?_)
                    clear hK K
                    try simp only [Act.put, List.setIfInBounds_toArray, List.set_cons_zero, List.set_cons_succ]
                    refine wpAnyH_done (by kernel_rfl) ?_ _
                    have HQ2 := Hid.mk HFc
                    clear hHeld hr m0 m1 HFa HFb HFc
                    go_wp2_with fail
                    exact ⟨⟨j + 1, vs ++ [⟨[ch], pt⟩], _, _, by first | (rw [hwj]; done) | rfl | go_num, by simp [HJ.out], hj1, hj2, HQ2⟩, by first | (rw [hwj]; omega) | (simp [intOf]; omega)⟩
                · skip
                  rw [if_pos (by kernel_rfl)]
                  have hcv := hcv1 wq
                  refine val_step2 (v := str [ch]) (w2 := (wq.alloc (.cells #[.int .u8 ((ch.toNat : Nat) : Int)] 5))) 65 rfl ?_ ?_
                  · go_simp
                  clear hcv
                  refine hK.out _ _ (HVC.out _ (b15)) (fun hHeld => ?_)
                  clear hK K
                  try simp only [Act.put, List.setIfInBounds_toArray, List.set_cons_zero, List.set_cons_succ]
                  refine wpAnyH_ready (rs := [1, 13]) (by kernel_rfl) (by simp) ?_
                  refine AllReadyH.cons rfl (fun K hK => ?_) (AllReadyH.cons rfl (fun K hK => ?_) AllReadyH.nil)
                  · skip
                    rw [if_pos (by kernel_rfl)]
                    have mc0 := HVC2.out _ b15
                    refine val_step2 (v := .slice na vs.length nc) (w2 := (wq.alloc (.cells #[.int .u8 ((ch.toNat : Nat) : Int)] 5))) 60 rfl ?_ ?_
                    · go_simp
                    clear mc0
                    refine hK.out _ _ (HVC.out _ (b15)) (fun hHeld => ?_)
                    clear hK K
                    try simp only [Act.put, List.setIfInBounds_toArray, List.set_cons_zero, List.set_cons_succ]
                    refine wpAnyH_ready (rs := [13]) (by kernel_rfl) (by simp) ?_
                    refine AllReadyH.cons rfl (fun K hK => ?_) AllReadyH.nil
                    rw [if_pos (by kernel_rfl)]
                    refine call_step2 72 rfl (G := fun w' => w' = (wq.alloc (.cells #[.int .u8 ((ch.toNat : Nat) : Int)] 5))) (by go_simp) (hct _) ?_
                    intro w9 hw9
                    have hw9 := hw9.symm
                    subst hw9
                    refine hK.out _ _ (HVC.out _ (b15)) (fun hHeld => ?_)
                    clear hK K
                    try simp only [Act.put, List.setIfInBounds_toArray, List.set_cons_zero, List.set_cons_succ]
                    refine take2 14 73 (.agg #[str [ch], str pt]) rfl rfl (by kernel_rfl) (by kernel_rfl) (by kernel_rfl) (fun _ _ _ h => h) (by kernel_rfl) ?_ (by assumption) ?_
                    · intro w' hSw
                      obtain ⟨s0, s1⟩ := hSw
                      go_simp
                    try simp only [Act.put, List.setIfInBounds_toArray, List.set_cons_zero, List.set_cons_succ]
                    refine wpAnyH_ready (rs := [15]) (by kernel_rfl) (by simp) ?_
                    refine AllReadyH.cons rfl (fun K hK => ?_) AllReadyH.nil
                    rw [if_pos (by kernel_rfl)]
                    have b24 := bal2 b15 (.cells #[str [ch], str pt] 49)
                    refine val_step2 (v := .slice (some ⟨(wq.alloc (.cells #[.int .u8 ((ch.toNat : Nat) : Int)] 5)).heap.size, 0, none⟩) 1 1) (w2 := ((wq.alloc (.cells #[.int .u8 ((ch.toNat : Nat) : Int)] 5)).alloc (.cells #[str [ch], str pt] 49))) 74 rfl ?_ ?_
                    · go_simp
                    refine hK.out _ _ (HVC.out _ (b24)) (fun hHeld => ?_)
                    clear hK K
                    try simp only [Act.put, List.setIfInBounds_toArray, List.set_cons_zero, List.set_cons_succ]
                    obtain ⟨na25, nc26, w27, hr, m0, m1, HFa, HFb, HFc⟩ := HEn.out (wq.alloc (.cells #[.int .u8 ((ch.toNat : Nat) : Int)] 5)) b15
                    simp only [World.size_alloc] at hr
                    refine wpAnyH_ready (rs := [16]) (by kernel_rfl) (by simp) ?_
                    refine AllReadyH.cons rfl (fun K hK => ?_) AllReadyH.nil
                    rw [if_pos (by kernel_rfl)]
                    refine val_step2 (v := .slice na25 (vs.length + 1) nc26) (w2 := w27) 75 rfl ?_ ?_
                    · go_simp
                    refine hK.out _ _ HFa (fun hHeld => ?_)
                    clear hK K
                    try simp only [Act.put, List.setIfInBounds_toArray, List.set_cons_zero, List.set_cons_succ]
                    refine take2 17 76 (.pointer (some ⟨g7, 4, none⟩)) rfl rfl (by kernel_rfl) (by kernel_rfl) (by kernel_rfl) (fun _ _ _ h => h) (by kernel_rfl) ?_ (by assumption) ?_
                    · intro w' hSw
                      obtain ⟨s0, s1⟩ := hSw
                      go_simp
                    try simp only [Act.put, List.setIfInBounds_toArray, List.set_cons_zero, List.set_cons_succ]
                    refine wpAnyH_ready (rs := [18]) (by kernel_rfl) (by simp) ?_
                    refine AllReadyH.cons rfl (fun K hK => ?_) AllReadyH.nil
                    rw [if_pos (by kernel_rfl)]
                    go_simp
                    refine hK.out _ _ HFb (fun hHeld => ?_)
                    clear hK K
                    try simp only [Act.put, List.setIfInBounds_toArray, List.set_cons_zero, List.set_cons_succ]
                    refine wpAnyH_done (by kernel_rfl) ?_ _
                    have HQ2 := Hid.mk HFc
                    clear hHeld hr m0 m1 HFa HFb HFc
                    go_wp2_with fail
                    exact ⟨⟨j + 1, vs ++ [⟨[ch], pt⟩], _, _, by first | (rw [hwj]; done) | rfl | go_num, by simp [HJ.out], hj1, hj2, HQ2⟩, by first | (rw [hwj]; omega) | (simp [intOf]; omega)⟩
                  · skip
                    rw [if_pos (by kernel_rfl)]
                    refine call_step2 72 rfl (G := fun w' => w' = (wq.alloc (.cells #[.int .u8 ((ch.toNat : Nat) : Int)] 5))) (by go_simp) (hct _) ?_
                    intro w9 hw9
                    have hw9 := hw9.symm
                    subst hw9
                    refine hK.out _ _ (HVC.out _ (b15)) (fun hHeld => ?_)
                    clear hK K
                    try simp only [Act.put, List.setIfInBounds_toArray, List.set_cons_zero, List.set_cons_succ]
                    refine take2 14 73 (.agg #[str [ch], str pt]) rfl rfl (by kernel_rfl) (by kernel_rfl) (by kernel_rfl) (fun _ _ _ h => h) (by kernel_rfl) ?_ (by assumption) ?_
                    · intro w' hSw
                      obtain ⟨s0, s1⟩ := hSw
                      go_simp
                    try simp only [Act.put, List.setIfInBounds_toArray, List.set_cons_zero, List.set_cons_succ]
                    refine wpAnyH_ready (rs := [1, 15]) (by kernel_rfl) (by simp) ?_
                    refine AllReadyH.cons rfl (fun K hK => ?_) (AllReadyH.cons rfl (fun K hK => ?_) AllReadyH.nil)
                    · skip
                      rw [if_pos (by kernel_rfl)]
                      have mc0 := HVC2.out _ b15
                      refine val_step2 (v := .slice na vs.length nc) (w2 := (wq.alloc (.cells #[.int .u8 ((ch.toNat : Nat) : Int)] 5))) 60 rfl ?_ ?_
                      · go_simp
                      clear mc0
                      refine hK.out _ _ (HVC.out _ (b15)) (fun hHeld => ?_)
                      clear hK K
                      try simp only [Act.put, List.setIfInBounds_toArray, List.set_cons_zero, List.set_cons_succ]
                      refine wpAnyH_ready (rs := [15]) (by kernel_rfl) (by simp) ?_
                      refine AllReadyH.cons rfl (fun K hK => ?_) AllReadyH.nil
                      rw [if_pos (by kernel_rfl)]
                      have b28 := bal2 b15 (.cells #[str [ch], str pt] 49)
                      refine val_step2 (v := .slice (some ⟨(wq.alloc (.cells #[.int .u8 ((ch.toNat : Nat) : Int)] 5)).heap.size, 0, none⟩) 1 1) (w2 := ((wq.alloc (.cells #[.int .u8 ((ch.toNat : Nat) : Int)] 5)).alloc (.cells #[str [ch], str pt] 49))) 74 rfl ?_ ?_
                      · go_simp
                      refine hK.out _ _ (HVC.out _ (b28)) (fun hHeld => ?_)
                      clear hK K
                      try simp only [Act.put, List.setIfInBounds_toArray, List.set_cons_zero, List.set_cons_succ]
                      obtain ⟨na29, nc30, w31, hr, m0, m1, HFa, HFb, HFc⟩ := HEn.out (wq.alloc (.cells #[.int .u8 ((ch.toNat : Nat) : Int)] 5)) b15
                      simp only [World.size_alloc] at hr
                      refine wpAnyH_ready (rs := [16]) (by kernel_rfl) (by simp) ?_
                      refine AllReadyH.cons rfl (fun K hK => ?_) AllReadyH.nil
                      rw [if_pos (by kernel_rfl)]
                      refine val_step2 (v := .slice na29 (vs.length + 1) nc30) (w2 := w31) 75 rfl ?_ ?_
                      · go_simp
                      refine hK.out _ _ HFa (fun hHeld => ?_)
                      clear hK K
                      try simp only [Act.put, List.setIfInBounds_toArray, List.set_cons_zero, List.set_cons_succ]
                      refine take2 17 76 (.pointer (some ⟨g7, 4, none⟩)) rfl rfl (by kernel_rfl) (by kernel_rfl) (by kernel_rfl) (fun _ _ _ h => h) (by kernel_rfl) ?_ (by assumption) ?_
                      · intro w' hSw
                        obtain ⟨s0, s1⟩ := hSw
                        go_simp
                      try simp only [Act.put, List.setIfInBounds_toArray, List.set_cons_zero, List.set_cons_succ]
                      refine wpAnyH_ready (rs := [18]) (by kernel_rfl) (by simp) ?_
                      refine AllReadyH.cons rfl (fun K hK => ?_) AllReadyH.nil
                      rw [if_pos (by kernel_rfl)]
                      go_simp
                      refine hK.out _ _ HFb (fun hHeld => ?_)
                      clear hK K
                      try simp only [Act.put, List.setIfInBounds_toArray, List.set_cons_zero, List.set_cons_succ]
                      refine wpAnyH_done (by kernel_rfl) ?_ _
                      have HQ2 := Hid.mk HFc
                      clear hHeld hr m0 m1 HFa HFb HFc
                      go_wp2_with fail
                      exact ⟨⟨j + 1, vs ++ [⟨[ch], pt⟩], _, _, by first | (rw [hwj]; done) | rfl | go_num, by simp [HJ.out], hj1, hj2, HQ2⟩, by first | (rw [hwj]; omega) | (simp [intOf]; omega)⟩
                    · skip
                      rw [if_pos (by kernel_rfl)]
                      have b32 := bal2 b15 (.cells #[str [ch], str pt] 49)
                      refine val_step2 (v := .slice (some ⟨(wq.alloc (.cells #[.int .u8 ((ch.toNat : Nat) : Int)] 5)).heap.size, 0, none⟩) 1 1) (w2 := ((wq.alloc (.cells #[.int .u8 ((ch.toNat : Nat) : Int)] 5)).alloc (.cells #[str [ch], str pt] 49))) 74 rfl ?_ ?_
                      · go_simp
                      refine hK.out _ _ (HVC.out _ (b32)) (fun hHeld => ?_)
                      clear hK K
                      try simp only [Act.put, List.setIfInBounds_toArray, List.set_cons_zero, List.set_cons_succ]
                      refine wpAnyH_ready (rs := [1]) (by kernel_rfl) (by simp) ?_
                      refine AllReadyH.cons rfl (fun K hK => ?_) AllReadyH.nil
                      rw [if_pos (by kernel_rfl)]
                      have mc0 := HVC2.out _ b32
                      refine val_step2 (v := .slice na vs.length nc) (w2 := ((wq.alloc (.cells #[.int .u8 ((ch.toNat : Nat) : Int)] 5)).alloc (.cells #[str [ch], str pt] 49))) 60 rfl ?_ ?_
                      · go_simp
                      clear mc0
                      refine hK.out _ _ (HVC.out _ (b32)) (fun hHeld => ?_)
                      clear hK K
                      try simp only [Act.put, List.setIfInBounds_toArray, List.set_cons_zero, List.set_cons_succ]
                      obtain ⟨na33, nc34, w35, hr, m0, m1, HFa, HFb, HFc⟩ := HEn.out (wq.alloc (.cells #[.int .u8 ((ch.toNat : Nat) : Int)] 5)) b15
                      simp only [World.size_alloc] at hr
                      refine wpAnyH_ready (rs := [16]) (by kernel_rfl) (by simp) ?_
                      refine AllReadyH.cons rfl (fun K hK => ?_) AllReadyH.nil
                      rw [if_pos (by kernel_rfl)]
                      refine val_step2 (v := .slice na33 (vs.length + 1) nc34) (w2 := w35) 75 rfl ?_ ?_
                      · go_simp
                      refine hK.out _ _ HFa (fun hHeld => ?_)
                      clear hK K
                      try simp only [Act.put, List.setIfInBounds_toArray, List.set_cons_zero, List.set_cons_succ]
                      refine take2 17 76 (.pointer (some ⟨g7, 4, none⟩)) rfl rfl (by kernel_rfl) (by kernel_rfl) (by kernel_rfl) (fun _ _ _ h => h) (by kernel_rfl) ?_ (by assumption) ?_
                      · intro w' hSw
                        obtain ⟨s0, s1⟩ := hSw
                        go_simp
                      try simp only [Act.put, List.setIfInBounds_toArray, List.set_cons_zero, List.set_cons_succ]
                      refine wpAnyH_ready (rs := [18]) (by kernel_rfl) (by simp) ?_
                      refine AllReadyH.cons rfl (fun K hK => ?_) AllReadyH.nil
                      rw [if_pos (by kernel_rfl)]
                      go_simp
                      refine hK.out _ _ HFb (fun hHeld => ?_)
                      clear hK K
                      try simp only [Act.put, List.setIfInBounds_toArray, List.set_cons_zero, List.set_cons_succ]
                      refine wpAnyH_done (by kernel_rfl) ?_ _
                      have HQ2 := Hid.mk HFc
                      clear hHeld hr m0 m1 HFa HFb HFc
                      go_wp2_with fail
                      exact ⟨⟨j + 1, vs ++ [⟨[ch], pt⟩], _, _, by first | (rw [hwj]; done) | rfl | go_num, by simp [HJ.out], hj1, hj2, HQ2⟩, by first | (rw [hwj]; omega) | (simp [intOf]; omega)⟩
                · skip
                  rw [if_pos (by kernel_rfl)]
                  refine call_step2 72 rfl (G := fun w' => w' = (wq.alloc (.cells #[.int .u8 ((ch.toNat : Nat) : Int)] 5))) (by go_simp) (hct _) ?_
                  intro w9 hw9
                  have hw9 := hw9.symm
                  subst hw9
                  refine hK.out _ _ (HVC.out _ (b15)) (fun hHeld => ?_)
                  clear hK K
                  try simp only [Act.put, List.setIfInBounds_toArray, List.set_cons_zero, List.set_cons_succ]
                  refine wpAnyH_ready (rs := [1, 6]) (by kernel_rfl) (by simp) ?_
                  refine AllReadyH.cons rfl (fun K hK => ?_) (AllReadyH.cons rfl (fun K hK => ?_) AllReadyH.nil)
                  · skip
                    rw [if_pos (by kernel_rfl)]
                    have mc0 := HVC2.out _ b15
                    refine val_step2 (v := .slice na vs.length nc) (w2 := (wq.alloc (.cells #[.int .u8 ((ch.toNat : Nat) : Int)] 5))) 60 rfl ?_ ?_
                    · go_simp
                    clear mc0
                    refine hK.out _ _ (HVC.out _ (b15)) (fun hHeld => ?_)
                    clear hK K
                    try simp only [Act.put, List.setIfInBounds_toArray, List.set_cons_zero, List.set_cons_succ]
                    refine wpAnyH_ready (rs := [6]) (by kernel_rfl) (by simp) ?_
                    refine AllReadyH.cons rfl (fun K hK => ?_) AllReadyH.nil
                    rw [if_pos (by kernel_rfl)]
                    have hcv := hcv1 wq
                    refine val_step2 (v := str [ch]) (w2 := (wq.alloc (.cells #[.int .u8 ((ch.toNat : Nat) : Int)] 5))) 65 rfl ?_ ?_
                    · go_simp
                    clear hcv
                    refine hK.out _ _ (HVC.out _ (b15)) (fun hHeld => ?_)
                    clear hK K
                    try simp only [Act.put, List.setIfInBounds_toArray, List.set_cons_zero, List.set_cons_succ]
                    refine take2 14 73 (.agg #[str [ch], str pt]) rfl rfl (by kernel_rfl) (by kernel_rfl) (by kernel_rfl) (fun _ _ _ h => h) (by kernel_rfl) ?_ (by assumption) ?_
                    · intro w' hSw
                      obtain ⟨s0, s1⟩ := hSw
                      go_simp
                    try simp only [Act.put, List.setIfInBounds_toArray, List.set_cons_zero, List.set_cons_succ]
                    refine wpAnyH_ready (rs := [15]) (by kernel_rfl) (by simp) ?_
                    refine AllReadyH.cons rfl (fun K hK => ?_) AllReadyH.nil
                    rw [if_pos (by kernel_rfl)]
                    have b36 := bal2 b15 (.cells #[str [ch], str pt] 49)
                    refine val_step2 (v := .slice (some ⟨(wq.alloc (.cells #[.int .u8 ((ch.toNat : Nat) : Int)] 5)).heap.size, 0, none⟩) 1 1) (w2 := ((wq.alloc (.cells #[.int .u8 ((ch.toNat : Nat) : Int)] 5)).alloc (.cells #[str [ch], str pt] 49))) 74 rfl ?_ ?_
                    · go_simp
                    refine hK.out _ _ (HVC.out _ (b36)) (fun hHeld => ?_)
                    clear hK K
                    try simp only [Act.put, List.setIfInBounds_toArray, List.set_cons_zero, List.set_cons_succ]
                    obtain ⟨na37, nc38, w39, hr, m0, m1, HFa, HFb, HFc⟩ := HEn.out (wq.alloc (.cells #[.int .u8 ((ch.toNat : Nat) : Int)] 5)) b15
                    simp only [World.size_alloc] at hr
                    refine wpAnyH_ready (rs := [16]) (by kernel_rfl) (by simp) ?_
                    refine AllReadyH.cons rfl (fun K hK => ?_) AllReadyH.nil
                    rw [if_pos (by kernel_rfl)]
                    refine val_step2 (v := .slice na37 (vs.length + 1) nc38) (w2 := w39) 75 rfl ?_ ?_
                    · go_simp
                    refine hK.out _ _ HFa (fun hHeld => ?_)
                    clear hK K
                    try simp only [Act.put, List.setIfInBounds_toArray, List.set_cons_zero, List.set_cons_succ]
                    refine take2 17 76 (.pointer (some ⟨g7, 4, none⟩)) rfl rfl (by kernel_rfl) (by kernel_rfl) (by kernel_rfl) (fun _ _ _ h => h) (by kernel_rfl) ?_ (by assumption) ?_
                    · intro w' hSw
                      obtain ⟨s0, s1⟩ := hSw
                      go_simp
                    try simp only [Act.put, List.setIfInBounds_toArray, List.set_cons_zero, List.set_cons_succ]
                    refine wpAnyH_ready (rs := [18]) (by kernel_rfl) (by simp) ?_
                    refine AllReadyH.cons rfl (fun K hK => ?_) AllReadyH.nil
                    rw [if_pos (by kernel_rfl)]
                    go_simp
                    refine hK.out _ _ HFb (fun hHeld => ?_)
                    clear hK K
                    try simp only [Act.put, List.setIfInBounds_toArray, List.set_cons_zero, List.set_cons_succ]
                    refine wpAnyH_done (by kernel_rfl) ?_ _
                    have HQ2 := Hid.mk HFc
                    clear hHeld hr m0 m1 HFa HFb HFc
                    go_wp2_with fail
                    exact ⟨⟨j + 1, vs ++ [⟨[ch], pt⟩], _, _, by first | (rw [hwj]; done) | rfl | go_num, by simp [HJ.out], hj1, hj2, HQ2⟩, by first | (rw [hwj]; omega) | (simp [intOf]; omega)⟩
                  · skip
                    rw [if_pos (by kernel_rfl)]
                    have hcv := hcv1 wq
                    refine val_step2 (v := str [ch]) (w2 := (wq.alloc (.cells #[.int .u8 ((ch.toNat : Nat) : Int)] 5))) 65 rfl ?_ ?_
                    · go_simp
                    clear hcv
                    refine hK.out _ _ (HVC.out _ (b15)) (fun hHeld => ?_)
                    clear hK K
                    try simp only [Act.put, List.setIfInBounds_toArray, List.set_cons_zero, List.set_cons_succ]
                    refine take2 14 73 (.agg #[str [ch], str pt]) rfl rfl (by kernel_rfl) (by kernel_rfl) (by kernel_rfl) (fun _ _ _ h => h) (by kernel_rfl) ?_ (by assumption) ?_
                    · intro w' hSw
                      obtain ⟨s0, s1⟩ := hSw
                      go_simp
                    try simp only [Act.put, List.setIfInBounds_toArray, List.set_cons_zero, List.set_cons_succ]
                    refine wpAnyH_ready (rs := [1, 15]) (by kernel_rfl) (by simp) ?_
                    refine AllReadyH.cons rfl (fun K hK => ?_) (AllReadyH.cons rfl (fun K hK => ?_) AllReadyH.nil)
                    · skip
                      rw [if_pos (by kernel_rfl)]
                      have mc0 := HVC2.out _ b15
                      refine val_step2 (v := .slice na vs.length nc) (w2 := (wq.alloc (.cells #[.int .u8 ((ch.toNat : Nat) : Int)] 5))) 60 rfl ?_ ?_
                      · go_simp
                      clear mc0
                      refine hK.out _ _ (HVC.out _ (b15)) (fun hHeld => ?_)
                      clear hK K
                      try simp only [Act.put, List.setIfInBounds_toArray, List.set_cons_zero, List.set_cons_succ]
                      refine wpAnyH_ready (rs := [15]) (by kernel_rfl) (by simp) ?_
                      refine AllReadyH.cons rfl (fun K hK => ?_) AllReadyH.nil
                      rw [if_pos (by kernel_rfl)]
                      have b40 := bal2 b15 (.cells #[str [ch], str pt] 49)
                      refine val_step2 (v := .slice (some ⟨(wq.alloc (.cells #[.int .u8 ((ch.toNat : Nat) : Int)] 5)).heap.size, 0, none⟩) 1 1) (w2 := ((wq.alloc (.cells #[.int .u8 ((ch.toNat : Nat) : Int)] 5)).alloc (.cells #[str [ch], str pt] 49))) 74 rfl ?_ ?_
                      · go_simp
                      refine hK.out _ _ (HVC.out _ (b40)) (fun hHeld => ?_)
                      clear hK K
                      try simp only [Act.put, List.setIfInBounds_toArray, List.set_cons_zero, List.set_cons_succ]
                      obtain ⟨na41, nc42, w43, hr, m0, m1, HFa, HFb, HFc⟩ := HEn.out (wq.alloc (.cells #[.int .u8 ((ch.toNat : Nat) : Int)] 5)) b15
                      simp only [World.size_alloc] at hr
                      refine wpAnyH_ready (rs := [16]) (by kernel_rfl) (by simp) ?_
                      refine AllReadyH.cons rfl (fun K hK => ?_) AllReadyH.nil
                      rw [if_pos (by kernel_rfl)]
                      refine val_step2 (v := .slice na41 (vs.length + 1) nc42) (w2 := w43) 75 rfl ?_ ?_
                      · go_simp
                      refine hK.out _ _ HFa (fun hHeld => ?_)
                      clear hK K
                      try simp only [Act.put, List.setIfInBounds_toArray, List.set_cons_zero, List.set_cons_succ]
                      refine take2 17 76 (.pointer (some ⟨g7, 4, none⟩)) rfl rfl (by kernel_rfl) (by kernel_rfl) (by kernel_rfl) (fun _ _ _ h => h) (by kernel_rfl) ?_ (by assumption) ?_
                      · intro w' hSw
                        obtain ⟨s0, s1⟩ := hSw
                        go_simp
                      try simp only [Act.put, List.setIfInBounds_toArray, List.set_cons_zero, List.set_cons_succ]
                      refine wpAnyH_ready (rs := [18]) (by kernel_rfl) (by simp) ?_
                      refine AllReadyH.cons rfl (fun K hK => ?_) AllReadyH.nil
                      rw [if_pos (by kernel_rfl)]
                      go_simp
                      refine hK.out _ _ HFb (fun hHeld => ?_)
                      clear hK K
                      try simp only [Act.put, List.setIfInBounds_toArray, List.set_cons_zero, List.set_cons_succ]
                      refine wpAnyH_done (by kernel_rfl) ?_ _
                      have HQ2 := Hid.mk HFc
                      clear hHeld hr m0 m1 HFa HFb HFc
                      go_wp2_with fail
                      exact ⟨⟨j + 1, vs ++ [⟨[ch], pt⟩], _, _, by first | (rw [hwj]; done) | rfl | go_num, by simp [HJ.out], hj1, hj2, HQ2⟩, by first | (rw [hwj]; omega) | (simp [intOf]; omega)⟩
                    · skip
                      rw [if_pos (by kernel_rfl)]
                      have b44 := bal2 b15 (.cells #[str [ch], str pt] 49)
                      refine val_step2 (v := .slice (some ⟨(wq.alloc (.cells #[.int .u8 ((ch.toNat : Nat) : Int)] 5)).heap.size, 0, none⟩) 1 1) (w2 := ((wq.alloc (.cells #[.int .u8 ((ch.toNat : Nat) : Int)] 5)).alloc (.cells #[str [ch], str pt] 49))) 74 rfl ?_ ?_
                      · go_simp
                      refine hK.out _ _ (HVC.out _ (b44)) (fun hHeld => ?_)
                      clear hK K
                      try simp only [Act.put, List.setIfInBounds_toArray, List.set_cons_zero, List.set_cons_succ]
                      refine wpAnyH_ready (rs := [1]) (by kernel_rfl) (by simp) ?_
                      refine AllReadyH.cons rfl (fun K hK => ?_) AllReadyH.nil
                      rw [if_pos (by kernel_rfl)]
                      have mc0 := HVC2.out _ b44
                      refine val_step2 (v := .slice na vs.length nc) (w2 := ((wq.alloc (.cells #[.int .u8 ((ch.toNat : Nat) : Int)] 5)).alloc (.cells #[str [ch], str pt] 49))) 60 rfl ?_ ?_
                      · go_simp
                      clear mc0
                      refine hK.out _ _ (HVC.out _ (b44)) (fun hHeld => ?_)
                      clear hK K
                      try simp only [Act.put, List.setIfInBounds_toArray, List.set_cons_zero, List.set_cons_succ]
                      obtain ⟨na45, nc46, w47, hr, m0, m1, HFa, HFb, HFc⟩ := HEn.out (wq.alloc (.cells #[.int .u8 ((ch.toNat : Nat) : Int)] 5)) b15
                      simp only [World.size_alloc] at hr
                      refine wpAnyH_ready (rs := [16]) (by kernel_rfl) (by simp) ?_
                      refine AllReadyH.cons rfl (fun K hK => ?_) AllReadyH.nil
                      rw [if_pos (by kernel_rfl)]
                      refine val_step2 (v := .slice na45 (vs.length + 1) nc46) (w2 := w47) 75 rfl ?_ ?_
                      · go_simp
                      refine hK.out _ _ HFa (fun hHeld => ?_)
                      clear hK K
                      try simp only [Act.put, List.setIfInBounds_toArray, List.set_cons_zero, List.set_cons_succ]
                      refine take2 17 76 (.pointer (some ⟨g7, 4, none⟩)) rfl rfl (by kernel_rfl) (by kernel_rfl) (by kernel_rfl) (fun _ _ _ h => h) (by kernel_rfl) ?_ (by assumption) ?_
                      · intro w' hSw
                        obtain ⟨s0, s1⟩ := hSw
                        go_simp
                      try simp only [Act.put, List.setIfInBounds_toArray, List.set_cons_zero, List.set_cons_succ]
                      refine wpAnyH_ready (rs := [18]) (by kernel_rfl) (by simp) ?_
                      refine AllReadyH.cons rfl (fun K hK => ?_) AllReadyH.nil
                      rw [if_pos (by kernel_rfl)]
                      go_simp
                      refine hK.out _ _ HFb (fun hHeld => ?_)
                      clear hK K
                      try simp only [Act.put, List.setIfInBounds_toArray, List.set_cons_zero, List.set_cons_succ]
                      refine wpAnyH_done (by kernel_rfl) ?_ _
                      have HQ2 := Hid.mk HFc
                      clear hHeld hr m0 m1 HFa HFb HFc
                      go_wp2_with fail
                      exact ⟨⟨j + 1, vs ++ [⟨[ch], pt⟩], _, _, by first | (rw [hwj]; done) | rfl | go_num, by simp [HJ.out], hj1, hj2, HQ2⟩, by first | (rw [hwj]; omega) | (simp [intOf]; omega)⟩
              · skip
                rw [if_pos (by kernel_rfl)]
                refine call_step2 72 rfl (G := fun w' => w' = wq) (by go_simp) (hct _) ?_
                intro w9 hw9
                have hw9 := hw9.symm
                subst hw9
                refine hK.out _ _ (HVC.out _ (bq0)) (fun hHeld => ?_)
                clear hK K
                try simp only [Act.put, List.setIfInBounds_toArray, List.set_cons_zero, List.set_cons_succ]
                refine wpAnyH_ready (rs := [1, 5]) (by kernel_rfl) (by simp) ?_
                refine AllReadyH.cons rfl (fun K hK => ?_) (AllReadyH.cons rfl (fun K hK => ?_) AllReadyH.nil)
                · skip
                  rw [if_pos (by kernel_rfl)]
                  have mc0 := HVC2.out _ bq0
                  refine val_step2 (v := .slice na vs.length nc) (w2 := wq) 60 rfl ?_ ?_
                  · go_simp
                  clear mc0
                  refine hK.out _ _ (HVC.out _ (bq0)) (fun hHeld => ?_)
                  clear hK K
                  try simp only [Act.put, List.setIfInBounds_toArray, List.set_cons_zero, List.set_cons_succ]
                  refine wpAnyH_ready (rs := [5]) (by kernel_rfl) (by simp) ?_
                  refine AllReadyH.cons rfl (fun K hK => ?_) AllReadyH.nil
                  rw [if_pos (by kernel_rfl)]
                  have b48 := bal2 bq0 (.cells #[.int .u8 ((ch.toNat : Nat) : Int)] 5)
                  refine val_step2 (v := .slice (some ⟨wq.heap.size, 0, none⟩) 1 1) (w2 := (wq.alloc (.cells #[.int .u8 ((ch.toNat : Nat) : Int)] 5))) 64 rfl ?_ ?_
                  · go_simp
                  refine hK.out _ _ (HVC.out _ (b48)) (fun hHeld => ?_)
                  clear hK K
                  try simp only [Act.put, List.setIfInBounds_toArray, List.set_cons_zero, List.set_cons_succ]
                  refine wpAnyH_ready (rs := [6]) (by kernel_rfl) (by simp) ?_
                  refine AllReadyH.cons rfl (fun K hK => ?_) AllReadyH.nil
                  rw [if_pos (by kernel_rfl)]
                  have hcv := hcv1 wq
                  refine val_step2 (v := str [ch]) (w2 := (wq.alloc (.cells #[.int .u8 ((ch.toNat : Nat) : Int)] 5))) 65 rfl ?_ ?_
                  · go_simp
                  clear hcv
                  refine hK.out _ _ (HVC.out _ (b48)) (fun hHeld => ?_)
                  clear hK K
                  try simp only [Act.put, List.setIfInBounds_toArray, List.set_cons_zero, List.set_cons_succ]
                  refine take2 14 73 (.agg #[str [ch], str pt]) rfl rfl (by kernel_rfl) (by kernel_rfl) (by kernel_rfl) (fun _ _ _ h => h) (by kernel_rfl) ?_ (by assumption) ?_
                  · intro w' hSw
                    obtain ⟨s0, s1⟩ := hSw
                    go_simp
                  try simp only [Act.put, List.setIfInBounds_toArray, List.set_cons_zero, List.set_cons_succ]
                  refine wpAnyH_ready (rs := [15]) (by kernel_rfl) (by simp) ?_
                  refine AllReadyH.cons rfl (fun K hK => ?_) AllReadyH.nil
                  rw [if_pos (by kernel_rfl)]
                  have b49 := bal2 b48 (.cells #[str [ch], str pt] 49)
                  refine val_step2 (v := .slice (some ⟨(wq.alloc (.cells #[.int .u8 ((ch.toNat : Nat) : Int)] 5)).heap.size, 0, none⟩) 1 1) (w2 := ((wq.alloc (.cells #[.int .u8 ((ch.toNat : Nat) : Int)] 5)).alloc (.cells #[str [ch], str pt] 49))) 74 rfl ?_ ?_
                  · go_simp
                  refine hK.out _ _ (HVC.out _ (b49)) (fun hHeld => ?_)
                  clear hK K
                  try simp only [Act.put, List.setIfInBounds_toArray, List.set_cons_zero, List.set_cons_succ]
                  obtain ⟨na50, nc51, w52, hr, m0, m1, HFa, HFb, HFc⟩ := HEn.out (wq.alloc (.cells #[.int .u8 ((ch.toNat : Nat) : Int)] 5)) b48
                  simp only [World.size_alloc] at hr
                  refine wpAnyH_ready (rs := [16]) (by kernel_rfl) (by simp) ?_
                  refine AllReadyH.cons rfl (fun K hK => ?_) AllReadyH.nil
                  rw [if_pos (by kernel_rfl)]
                  refine val_step2 (v := .slice na50 (vs.length + 1) nc51) (w2 := w52) 75 rfl ?_ ?_
                  · go_simp
                  refine hK.out _ _ HFa (fun hHeld => ?_)
                  clear hK K
                  try simp only [Act.put, List.setIfInBounds_toArray, List.set_cons_zero, List.set_cons_succ]
                  refine take2 17 76 (.pointer (some ⟨g7, 4, none⟩)) rfl rfl (by kernel_rfl) (by kernel_rfl) (by kernel_rfl) (fun _ _ _ h => h) (by kernel_rfl) ?_ (by assumption) ?_
                  · intro w' hSw
                    obtain ⟨s0, s1⟩ := hSw
                    go_simp
                  try simp only [Act.put, List.setIfInBounds_toArray, List.set_cons_zero, List.set_cons_succ]
                  refine wpAnyH_ready (rs := [18]) (by kernel_rfl) (by simp) ?_
                  refine AllReadyH.cons rfl (fun K hK => ?_) AllReadyH.nil
                  rw [if_pos (by kernel_rfl)]
                  go_simp
                  refine hK.out _ _ HFb (fun hHeld => ?_)
                  clear hK K
                  try simp only [Act.put, List.setIfInBounds_toArray, List.set_cons_zero, List.set_cons_succ]
                  refine wpAnyH_done (by kernel_rfl) ?_ _
                  have HQ2 := Hid.mk HFc
                  clear hHeld hr m0 m1 HFa HFb HFc
                  go_wp2_with fail
                  exact ⟨⟨j + 1, vs ++ [⟨[ch], pt⟩], _, _, by first | (rw [hwj]; done) | rfl | go_num, by simp [HJ.out], hj1, hj2, HQ2⟩, by first | (rw [hwj]; omega) | (simp [intOf]; omega)⟩
                · skip
                  rw [if_pos (by kernel_rfl)]
                  have b53 := bal2 bq0 (.cells #[.int .u8 ((ch.toNat : Nat) : Int)] 5)
                  refine val_step2 (v := .slice (some ⟨wq.heap.size, 0, none⟩) 1 1) (w2 := (wq.alloc (.cells #[.int .u8 ((ch.toNat : Nat) : Int)] 5))) 64 rfl ?_ ?_
                  · go_simp
                  refine hK.out _ _ (HVC.out _ (b53)) (fun hHeld => ?_)
                  clear hK K
                  try simp only [Act.put, List.setIfInBounds_toArray, List.set_cons_zero, List.set_cons_succ]
                  refine wpAnyH_ready (rs := [1, 6]) (by kernel_rfl) (by simp) ?_
                  refine AllReadyH.cons rfl (fun K hK => ?_) (AllReadyH.cons rfl (fun K hK => ?_) AllReadyH.nil)
                  · skip
                    rw [if_pos (by kernel_rfl)]
                    have mc0 := HVC2.out _ b53
                    refine val_step2 (v := .slice na vs.length nc) (w2 := (wq.alloc (.cells #[.int .u8 ((ch.toNat : Nat) : Int)] 5))) 60 rfl ?_ ?_
                    · go_simp
                    clear mc0
                    refine hK.out _ _ (HVC.out _ (b53)) (fun hHeld => ?_)
                    clear hK K
                    try simp only [Act.put, List.setIfInBounds_toArray, List.set_cons_zero, List.set_cons_succ]
                    refine wpAnyH_ready (rs := [6]) (by kernel_rfl) (by simp) ?_
                    refine AllReadyH.cons rfl (fun K hK => ?_) AllReadyH.nil
                    rw [if_pos (by kernel_rfl)]
                    have hcv := hcv1 wq
                    refine val_step2 (v := str [ch]) (w2 := (wq.alloc (.cells #[.int .u8 ((ch.toNat : Nat) : Int)] 5))) 65 rfl ?_ ?_
                    · go_simp
                    clear hcv
                    refine hK.out _ _ (HVC.out _ (b53)) (fun hHeld => ?_)
                    clear hK K
                    try simp only [Act.put, List.setIfInBounds_toArray, List.set_cons_zero, List.set_cons_succ]
                    refine take2 14 73 (.agg #[str [ch], str pt]) rfl rfl (by kernel_rfl) (by kernel_rfl) (by kernel_rfl) (fun _ _ _ h => h) (by kernel_rfl) ?_ (by assumption) ?_
                    · intro w' hSw
                      obtain ⟨s0, s1⟩ := hSw
                      go_simp
                    try simp only [Act.put, List.setIfInBounds_toArray, List.set_cons_zero, List.set_cons_succ]
                    refine wpAnyH_ready (rs := [15]) (by kernel_rfl) (by simp) ?_
                    refine AllReadyH.cons rfl (fun K hK => ?_) AllReadyH.nil
                    rw [if_pos (by kernel_rfl)]
                    have b54 := bal2 b53 (.cells #[str [ch], str pt] 49)
                    refine val_step2 (v := .slice (some ⟨(wq.alloc (.cells #[.int .u8 ((ch.toNat : Nat) : Int)] 5)).heap.size, 0, none⟩) 1 1) (w2 := ((wq.alloc (.cells #[.int .u8 ((ch.toNat : Nat) : Int)] 5)).alloc (.cells #[str [ch], str pt] 49))) 74 rfl ?_ ?_
                    · go_simp
                    refine hK.out _ _ (HVC.out _ (b54)) (fun hHeld => ?_)
                    clear hK K
                    try simp only [Act.put, List.setIfInBounds_toArray, List.set_cons_zero, List.set_cons_succ]
                    obtain ⟨na55, nc56, w57, hr, m0, m1, HFa, HFb, HFc⟩ := HEn.out (wq.alloc (.cells #[.int .u8 ((ch.toNat : Nat) : Int)] 5)) b53
                    simp only [World.size_alloc] at hr
                    refine wpAnyH_ready (rs := [16]) (by kernel_rfl) (by simp) ?_
                    refine AllReadyH.cons rfl (fun K hK => ?_) AllReadyH.nil
                    rw [if_pos (by kernel_rfl)]
                    refine val_step2 (v := .slice na55 (vs.length + 1) nc56) (w2 := w57) 75 rfl ?_ ?_
                    · go_simp
                    refine hK.out _ _ HFa (fun hHeld => ?_)
                    clear hK K
                    try simp only [Act.put, List.setIfInBounds_toArray, List.set_cons_zero, List.set_cons_succ]
                    refine take2 17 76 (.pointer (some ⟨g7, 4, none⟩)) rfl rfl (by kernel_rfl) (by kernel_rfl) (by kernel_rfl) (fun _ _ _ h => h) (by kernel_rfl) ?_ (by assumption) ?_
                    · intro w' hSw
                      obtain ⟨s0, s1⟩ := hSw
                      go_simp
                    try simp only [Act.put, List.setIfInBounds_toArray, List.set_cons_zero, List.set_cons_succ]
                    refine wpAnyH_ready (rs := [18]) (by kernel_rfl) (by simp) ?_
                    refine AllReadyH.cons rfl (fun K hK => ?_) AllReadyH.nil
                    rw [if_pos (by kernel_rfl)]
                    go_simp
                    refine hK.out _ _ HFb (fun hHeld => ?_)
                    clear hK K
                    try simp only [Act.put, List.setIfInBounds_toArray, List.set_cons_zero, List.set_cons_succ]
                    refine wpAnyH_done (by kernel_rfl) ?_ _
                    have HQ2 := Hid.mk HFc
                    clear hHeld hr m0 m1 HFa HFb HFc
                    go_wp2_with fail
                    exact ⟨⟨j + 1, vs ++ [⟨[ch], pt⟩], _, _, by first | (rw [hwj]; done) | rfl | go_num, by simp [HJ.out], hj1, hj2, HQ2⟩, by first | (rw [hwj]; omega) | (simp [intOf]; omega)⟩
                  · skip
                    rw [if_pos (by kernel_rfl)]
                    have hcv := hcv1 wq
                    refine val_step2 (v := str [ch]) (w2 := (wq.alloc (.cells #[.int .u8 ((ch.toNat : Nat) : Int)] 5))) 65 rfl ?_ ?_
                    · go_simp
                    clear hcv
                    refine hK.out _ _ (HVC.out _ (b53)) (fun hHeld => ?_)
                    clear hK K
                    try simp only [Act.put, List.setIfInBounds_toArray, List.set_cons_zero, List.set_cons_succ]
                    refine take2 14 73 (.agg #[str [ch], str pt]) rfl rfl (by kernel_rfl) (by kernel_rfl) (by kernel_rfl) (fun _ _ _ h => h) (by kernel_rfl) ?_ (by assumption) ?_
                    · intro w' hSw
                      obtain ⟨s0, s1⟩ := hSw
                      go_simp
                    try simp only [Act.put, List.setIfInBounds_toArray, List.set_cons_zero, List.set_cons_succ]
                    refine wpAnyH_ready (rs := [1, 15]) (by kernel_rfl) (by simp) ?_
                    refine AllReadyH.cons rfl (fun K hK => ?_) (AllReadyH.cons rfl (fun K hK => ?_) AllReadyH.nil)
                    · skip
                      rw [if_pos (by kernel_rfl)]
                      have mc0 := HVC2.out _ b53
                      refine val_step2 (v := .slice na vs.length nc) (w2 := (wq.alloc (.cells #[.int .u8 ((ch.toNat : Nat) : Int)] 5))) 60 rfl ?_ ?_
                      · go_simp
                      clear mc0
                      refine hK.out _ _ (HVC.out _ (b53)) (fun hHeld => ?_)
                      clear hK K
                      try simp only [Act.put, List.setIfInBounds_toArray, List.set_cons_zero, List.set_cons_succ]
                      refine wpAnyH_ready (rs := [15]) (by kernel_rfl) (by simp) ?_
                      refine AllReadyH.cons rfl (fun K hK => ?_) AllReadyH.nil
                      rw [if_pos (by kernel_rfl)]
                      have b58 := bal2 b53 (.cells #[str [ch], str pt] 49)
                      refine val_step2 (v := .slice (some ⟨(wq.alloc (.cells #[.int .u8 ((ch.toNat : Nat) : Int)] 5)).heap.size, 0, none⟩) 1 1) (w2 := ((wq.alloc (.cells #[.int .u8 ((ch.toNat : Nat) : Int)] 5)).alloc (.cells #[str [ch], str pt] 49))) 74 rfl ?_ ?_
                      · go_simp
                      refine hK.out _ _ (HVC.out _ (b58)) (fun hHeld => ?_)
                      clear hK K
                      try simp only [Act.put, List.setIfInBounds_toArray, List.set_cons_zero, List.set_cons_succ]
                      obtain ⟨na59, nc60, w61, hr, m0, m1, HFa, HFb, HFc⟩ := HEn.out (wq.alloc (.cells #[.int .u8 ((ch.toNat : Nat) : Int)] 5)) b53
                      simp only [World.size_alloc] at hr
                      refine wpAnyH_ready (rs := [16]) (by kernel_rfl) (by simp) ?_
                      refine AllReadyH.cons rfl (fun K hK => ?_) AllReadyH.nil
                      rw [if_pos (by kernel_rfl)]
                      refine val_step2 (v := .slice na59 (vs.length + 1) nc60) (w2 := w61) 75 rfl ?_ ?_
                      · go_simp
                      refine hK.out _ _ HFa (fun hHeld => ?_)
                      clear hK K
                      try simp only [Act.put, List.setIfInBounds_toArray, List.set_cons_zero, List.set_cons_succ]
                      refine take2 17 76 (.pointer (some ⟨g7, 4, none⟩)) rfl rfl (by kernel_rfl) (by kernel_rfl) (by kernel_rfl) (fun _ _ _ h => h) (by kernel_rfl) ?_ (by assumption) ?_
                      · intro w' hSw
                        obtain ⟨s0, s1⟩ := hSw
                        go_simp
                      try simp only [Act.put, List.setIfInBounds_toArray, List.set_cons_zero, List.set_cons_succ]
                      refine wpAnyH_ready (rs := [18]) (by kernel_rfl) (by simp) ?_
                      refine AllReadyH.cons rfl (fun K hK => ?_) AllReadyH.nil
                      rw [if_pos (by kernel_rfl)]
                      go_simp
                      refine hK.out _ _ HFb (fun hHeld => ?_)
                      clear hK K
                      try simp only [Act.put, List.setIfInBounds_toArray, List.set_cons_zero, List.set_cons_succ]
                      refine wpAnyH_done (by kernel_rfl) ?_ _
                      have HQ2 := Hid.mk HFc
                      clear hHeld hr m0 m1 HFa HFb HFc
                      go_wp2_with fail
                      exact ⟨⟨j + 1, vs ++ [⟨[ch], pt⟩], _, _, by first | (rw [hwj]; done) | rfl | go_num, by simp [HJ.out], hj1, hj2, HQ2⟩, by first | (rw [hwj]; omega) | (simp [intOf]; omega)⟩
                    · skip
                      rw [if_pos (by kernel_rfl)]
                      have b62 := bal2 b53 (.cells #[str [ch], str pt] 49)
                      refine val_step2 (v := .slice (some ⟨(wq.alloc (.cells #[.int .u8 ((ch.toNat : Nat) : Int)] 5)).heap.size, 0, none⟩) 1 1) (w2 := ((wq.alloc (.cells #[.int .u8 ((ch.toNat : Nat) : Int)] 5)).alloc (.cells #[str [ch], str pt] 49))) 74 rfl ?_ ?_
                      · go_simp
                      refine hK.out _ _ (HVC.out _ (b62)) (fun hHeld => ?_)
                      clear hK K
                      try simp only [Act.put, List.setIfInBounds_toArray, List.set_cons_zero, List.set_cons_succ]
                      refine wpAnyH_ready (rs := [1]) (by kernel_rfl) (by simp) ?_
                      refine AllReadyH.cons rfl (fun K hK => ?_) AllReadyH.nil
                      rw [if_pos (by kernel_rfl)]
                      have mc0 := HVC2.out _ b62
                      refine val_step2 (v := .slice na vs.length nc) (w2 := ((wq.alloc (.cells #[.int .u8 ((ch.toNat : Nat) : Int)] 5)).alloc (.cells #[str [ch], str pt] 49))) 60 rfl ?_ ?_
                      · go_simp
                      clear mc0
                      refine hK.out _ _ (HVC.out _ (b62)) (fun hHeld => ?_)
                      clear hK K
                      try simp only [Act.put, List.setIfInBounds_toArray, List.set_cons_zero, List.set_cons_succ]
                      obtain ⟨na63, nc64, w65, hr, m0, m1, HFa, HFb, HFc⟩ := HEn.out (wq.alloc (.cells #[.int .u8 ((ch.toNat : Nat) : Int)] 5)) b53
                      simp only [World.size_alloc] at hr
                      refine wpAnyH_ready (rs := [16]) (by kernel_rfl) (by simp) ?_
                      refine AllReadyH.cons rfl (fun K hK => ?_) AllReadyH.nil
                      rw [if_pos (by kernel_rfl)]
                      refine val_step2 (v := .slice na63 (vs.length + 1) nc64) (w2 := w65) 75 rfl ?_ ?_
                      · go_simp
                      refine hK.out _ _ HFa (fun hHeld => ?_)
                      clear hK K
                      try simp only [Act.put, List.setIfInBounds_toArray, List.set_cons_zero, List.set_cons_succ]
                      refine take2 17 76 (.pointer (some ⟨g7, 4, none⟩)) rfl rfl (by kernel_rfl) (by kernel_rfl) (by kernel_rfl) (fun _ _ _ h => h) (by kernel_rfl) ?_ (by assumption) ?_
                      · intro w' hSw
                        obtain ⟨s0, s1⟩ := hSw
                        go_simp
                      try simp only [Act.put, List.setIfInBounds_toArray, List.set_cons_zero, List.set_cons_succ]
                      refine wpAnyH_ready (rs := [18]) (by kernel_rfl) (by simp) ?_
                      refine AllReadyH.cons rfl (fun K hK => ?_) AllReadyH.nil
                      rw [if_pos (by kernel_rfl)]
                      go_simp
                      refine hK.out _ _ HFb (fun hHeld => ?_)
                      clear hK K
                      try simp only [Act.put, List.setIfInBounds_toArray, List.set_cons_zero, List.set_cons_succ]
                      refine wpAnyH_done (by kernel_rfl) ?_ _
                      have HQ2 := Hid.mk HFc
                      clear hHeld hr m0 m1 HFa HFb HFc
                      go_wp2_with fail
                      exact ⟨⟨j + 1, vs ++ [⟨[ch], pt⟩], _, _, by first | (rw [hwj]; done) | rfl | go_num, by simp [HJ.out], hj1, hj2, HQ2⟩, by first | (rw [hwj]; omega) | (simp [intOf]; omega)⟩
            · have HE : Hid (j = l.length ∨ (j < l.length ∧ j = 5)) := ⟨by omega⟩
              clear hlj
              rcases HE.out with e | ⟨e, e2⟩
              · subst e
                have d1 : decide ((l.length : Int) < (l.length : Int)) = false := decide_eq_false (fun q => Int.lt_irrefl _ q)
                clear HE
                go_wp2_with fail
                go_meet
                obtain ⟨a9, c9, e9, s9⟩ := HM.out.own.sl
                injection e9 with q1 q2 q3
                subst q1 q3
                exact ⟨dt, vs, _, _, ⟨HM.out.bel, HM.out.le, HM.out.box, s9, HDl.out, (fun q => by cases q), HM.out.mp.ok (by rw [HJ.out]; exact hj5), by rw [HJ.out]; exact hj5⟩⟩
              · have d1 : decide ((j : Int) < (l.length : Int)) = true := decide_eq_true (by omega)
                subst e2
                clear HE
                go_wp2_with fail
                go_meet
                obtain ⟨a9, c9, e9, s9⟩ := HM.out.own.sl
                injection e9 with q1 q2 q3
                subst q1 q3
                exact ⟨dt, vs, _, _, ⟨HM.out.bel, HM.out.le, HM.out.box, s9, HDl.out, (fun q => by cases q), HM.out.mp.ok (by rw [HJ.out]; exact hj5), by rw [HJ.out]; exact hj5⟩⟩
      case rest =>
      obtain ⟨d', l', na, nc, HD⟩ := hcut
      generalize wc = W5 at *
      have h1 : Below wr.heap.size wr W2 := by rw [HG6.out]; exact HBx.out
      have HBW : Hid (Below W1.heap.size W1 W5) := ⟨below_seq (below_seq HI.out.2.2.2 h1) HD.out.1⟩
      obtain ⟨W0, hLv0⟩ := HI.out.2.2.1
      have HLv : Hid (Lv W0 W5 (.slice la R.length lc) R) := ⟨hLv0.later (below_seq h1 HD.out.1)⟩
      have hk1 : k + 1 ≤ L.length := hlt.1
      have hk2 : k + 1 ≤ 40 := hlt.2
      have hRk := HI.out.1
      have hR40 : R.length < 40 := by omega
      clear h1 hLv0 HC HVI HSl HBx z6 HG2 HG6 e0 e1 e2 e3 e4 hcut hlt hRk hv d1 d2 k0 k2
      go_wp2_with fail
      go_loopw [9] (fun av wx => ∃ j : Nat, av = .int .i64 (j : Int) ∧ j ≤ R.length ∧ Hid (Below W5.heap.size W5 wx ∧ ∀ i u, i < j → R[i]? = some u → bcmp u.v.key K ≤ 0)) (fun av _ => R.length - (intOf av).toNat)
      case atStart => exact ⟨0, rfl, Nat.zero_le _, ⟨Below.refl _ _, fun i u h => absurd h (Nat.not_lt_zero _)⟩⟩
      case round =>
        obtain ⟨j, rfl, hj, HJ⟩ := hrel
        obtain ⟨q0, q1, q2, q3, q4⟩ := (HD.out.2.2.1.later HJ.out.1).cells
        clear q1 q2 q3 q4
        by_cases hlj : j < R.length
        · have d1 : decide ((j : Int) < (R.length : Int)) = true := decide_eq_true (by omega)
          have j0 : (0 : Int) ≤ (j : Int) := Int.natCast_nonneg j
          have j2 : (j : Int) < (R.length : Int) := by omega
          have hwj : wrap64 ((j : Int) + 1) = ((j + 1 : Nat) : Int) := by unfold wrap64; omega
          obtain ⟨u, hu⟩ : ∃ u, R[j]? = some u := ⟨R[j], List.getElem?_eq_getElem hlj⟩
          obtain ⟨b2, off2, ma2, mc2, hla, hb2, e0, _⟩ := ((HLv.out.later HJ.out.1).vin).get j u.v (by rw [List.getElem?_map, hu]; rfl)
          subst hla
          have HU := Hid.mk hu
          by_cases hc : bcmp u.v.key K ≤ 0
          · have HN : Hid (∀ i x, i < j + 1 → R[i]? = some x → bcmp x.v.key K ≤ 0) := ⟨fun i x hi hx => by
              rcases Nat.lt_or_ge i j with h | h
              · exact HJ.out.2 i x h hx
              · obtain rfl : i = j := by omega
                rw [HU.out] at hx; injection hx with hx; subst hx; exact hc⟩
            have d5 : (Go.Op.bytesLess u.v.key K || u.v.key == K) = true := leq_true hc
            obtain ⟨⟨ukey, useq, umkr, udata, ul⟩, uz, ua, uc⟩ := u
            dsimp only at e0 d5
            clear hc hu HU
            go_wp2_with fail
            go_quiet (fail)
            go_wp2_with fail
            exact ⟨⟨j + 1, by first | (rw [hwj]; done) | rfl | go_num, hlj, ⟨below_dN HJ.out.1 nq, HN.out⟩⟩, by first | (rw [hwj]; omega) | (simp [intOf]; omega)⟩
          · have HJ2 : Hid (∀ x, R[j]? = some x → 0 < bcmp x.v.key K) := ⟨fun x hx => by rw [HU.out] at hx; injection hx with hx; subst hx; omega⟩
            have d5 : (Go.Op.bytesLess u.v.key K || u.v.key == K) = false := leq_false hc
            obtain ⟨⟨ukey, useq, umkr, udata, ul⟩, uz, ua, uc⟩ := u
            dsimp only at e0 d5
            clear hc hu HU
            go_wp2_with fail
            go_quiet (fail)
            generalize hla : (some ⟨b2, off2, none⟩ : Option Addr) = la at *
            clear e0 d5 hla
            have bq : Below W5.heap.size W5 (wr.drewN nq) := below_dN HJ.out.1 nq
            generalize wr.drewN nq = W6 at *
            have HL6 := Hid.mk (HLv.out.later bq)
            have z7 := HD.out.2.2.1.later bq
            have HBq := Hid.mk bq
            obtain ⟨a', c', e', hRc, hc6, hnil, _⟩ := HL6.out.sl
            injection e' with q1 q2 q3
            subst q1 q3
            clear q2
            have Hnil := Hid.mk hnil
            clear hnil
            have hs1 := fun w => run_slVm la R.length lc j (Nat.le_trans hj hRc) hc6 Hnil.out w
            have hs2 := fun w => run_slVm_lo la R.length lc j hj hRc hc6 Hnil.out w
            have hm6 : ∀ r ∈ R, r.z = [] ∧ Sl W6 r.a r.c r.v.l := fun r hr => ⟨(HL6.out.met r hr).1, (HL6.out.met r hr).2.later HL6.out.bel⟩
            have ht : (R.take j).length = j := by rw [List.length_take]; omega
            obtain ⟨v1, w1, hr1, L1, b1⟩ := run_lvs (W0 := W6) (W := W6) (R := []) (R2 := R.take j) 22 (Lv.nil W6) Hnil.out (fun i u hi => by obtain ⟨b, off, x1, _, x2⟩ := HL6.out.front j i u hi; exact ⟨b, off, x1, x2⟩) (fun r hr => hm6 r (List.mem_of_mem_take hr)) (by rw [ht]; simp; omega)
            rw [ht] at hr1
            rw [List.nil_append] at L1
            obtain ⟨a1, c1, rfl, _⟩ := L1.sl
            rw [ht] at hr1
            obtain ⟨g2, c2, w2, hr2, L2, b2⟩ := run_lv1 ⟨⟨K, S, mkr, d', l'⟩, [], na, nc⟩ L1 ⟨rfl, HD.out.2.2.2.1.later bq⟩ (by rw [ht]; omega)
            have hr2' : (Builtin.append_ #[22, 22] 22 #[.slice a1 j c1, .slice (some ⟨w1.heap.size, 0, none⟩) 1 1]).run Tryz.prog (w1.alloc (.cells #[str K, .int .i64 S, .bool mkr, str d', .slice na l'.length nc] 54)) = .ok (.slice (some ⟨g2, 0, none⟩) (j + 1) c2) w2 := by have := hr2 22; rw [ht] at this; exact this
            have HL62 := b1.trans b2
            obtain ⟨v3, w3, hr3, L3, b3⟩ := run_lvs 22 (ad := Stk.dropV la lc j) (c := lc - j) (R2 := R.drop j) L2 (dropV_nil Hnil.out) (fun i u hi => by obtain ⟨b, off, x1, _, x2⟩ := (HL6.out.later HL62).back j hj i u hi; exact ⟨b, off, x1, x2⟩) (fun r hr => hm6 r (List.mem_of_mem_drop hr)) (by simp; omega)
            rw [List.length_drop, ht] at hr3
            obtain ⟨a3, c3, rfl, _⟩ := L3.sl
            obtain ⟨p0, p1, p2, p3, p4⟩ := (z7.later b1).cells
            have HNX : Hid ((R.take j ++ [(⟨⟨K, S, mkr, d', l'⟩, [], na, nc⟩ : Rv)] ++ R.drop j).length = k + 1 ∧ Mdl S ((R.take j ++ [(⟨⟨K, S, mkr, d', l'⟩, [], na, nc⟩ : Rv)] ++ R.drop j).map (·.v)) ∧ (∃ W0, Lv W0 w3 (.slice a3 (R.take j ++ [(⟨⟨K, S, mkr, d', l'⟩, [], na, nc⟩ : Rv)] ++ R.drop j).length c3) (R.take j ++ [⟨⟨K, S, mkr, d', l'⟩, [], na, nc⟩] ++ R.drop j)) ∧ Below W1.heap.size W1 w3) := ⟨by
              have hRk := HI.out.1
              refine ⟨by simp; omega, ?_, ⟨W6, L3⟩, below_seq HBW.out (below_seq bq (HL62.trans b3))⟩
              have hmap : (R.take j ++ [(⟨⟨K, S, mkr, d', l'⟩, [], na, nc⟩ : Rv)] ++ R.drop j).map (·.v) = (R.map (·.v)).take j ++ [⟨K, S, mkr, d', l'⟩] ++ (R.map (·.v)).drop j := by simp [List.map_take, List.map_drop]
              rw [hmap]
              have hA := HA.out
              have hSS := HS.out
              have hs0 := HI.out.2.1.s0
              obtain ⟨_, _, _, _, x5, x6, x7, x8⟩ := HD.out
              refine HI.out.2.1.put (by rw [List.length_map]; omega) (by omega) (by omega) ⟨by rw [HKk.out]; simp, by rw [HKk.out]; simp; omega, by show 1 ≤ S; omega, by show S ≤ S; omega, x5, x6, x7, x8⟩ rfl (by rw [List.length_map]; exact hj) (fun i u hi hu => ?_) (fun u hu => ?_)
              · rw [List.getElem?_map] at hu
                cases hr : R[i]? with
                | none => rw [hr] at hu; cases hu
                | some x => rw [hr] at hu; injection hu with hu; subst hu; exact HJ.out.2 i x hi hr
              · rw [List.getElem?_map] at hu
                cases hr : R[j]? with
                | none => rw [hr] at hu; cases hu
                | some x => rw [hr] at hu; injection hu with hu; subst hu; exact HJ2.out x hr⟩
            clear L1 L2 L3 b1 b2 b3 HL62 hm6 hr2 bq z7 HL6 HJ HJ2 HI HLv HD Hnil hRc hc6 ht HBq HBW
            generalize R.take j ++ [(⟨⟨K, S, mkr, d', l'⟩, [], na, nc⟩ : Rv)] ++ R.drop j = RR at *
            go_upto_region 20 with (refine app_run rfl _ _ rfl rfl rfl hr1 ?_)
            clear hr1 hs1
            go_upto_region 21 with (refine app_run rfl _ _ rfl rfl rfl hr2' ?_)
            clear hr2' p0 p1 p2 p3 p4
            go_wp2_with (refine app_run rfl _ _ rfl rfl rfl hr3 ?_)
            exact ⟨⟨k + 1, RR, a3, c3, S, by first | (rw [hw0]; done) | rfl | go_num, rfl, rfl, hk1, hk2, HNX⟩, by first | (rw [hw0]; omega) | (simp [intOf]; omega)⟩
        · have HJ2 : Hid (∀ x, R[j]? = some x → 0 < bcmp x.v.key K) := ⟨fun x hx => absurd (List.getElem?_eq_some_iff.1 hx).1 hlj⟩
          have d1 : decide ((j : Int) < (R.length : Int)) = false := decide_eq_false (by omega)
          have d1n : decide (j < R.length) = false := decide_eq_false hlj
          have j3 : ¬ ((j : Int) < (R.length : Int)) := by omega
          go_wp2_with fail
          go_quiet (fail)
          have bq : Below W5.heap.size W5 (wr.drewN nq) := below_dN HJ.out.1 nq
          generalize wr.drewN nq = W6 at *
          have HL6 := Hid.mk (HLv.out.later bq)
          have z7 := HD.out.2.2.1.later bq
          have HBq := Hid.mk bq
          obtain ⟨a', c', e', hRc, hc6, hnil, _⟩ := HL6.out.sl
          injection e' with q1 q2 q3
          subst q1 q3
          clear q2
          have Hnil := Hid.mk hnil
          clear hnil
          have hs1 := fun w => run_slVm la R.length lc j (Nat.le_trans hj hRc) hc6 Hnil.out w
          have hs2 := fun w => run_slVm_lo la R.length lc j hj hRc hc6 Hnil.out w
          have hm6 : ∀ r ∈ R, r.z = [] ∧ Sl W6 r.a r.c r.v.l := fun r hr => ⟨(HL6.out.met r hr).1, (HL6.out.met r hr).2.later HL6.out.bel⟩
          have ht : (R.take j).length = j := by rw [List.length_take]; omega
          obtain ⟨v1, w1, hr1, L1, b1⟩ := run_lvs (W0 := W6) (W := W6) (R := []) (R2 := R.take j) 22 (Lv.nil W6) Hnil.out (fun i u hi => by obtain ⟨b, off, x1, _, x2⟩ := HL6.out.front j i u hi; exact ⟨b, off, x1, x2⟩) (fun r hr => hm6 r (List.mem_of_mem_take hr)) (by rw [ht]; simp; omega)
          rw [ht] at hr1
          rw [List.nil_append] at L1
          obtain ⟨a1, c1, rfl, _⟩ := L1.sl
          rw [ht] at hr1
          obtain ⟨g2, c2, w2, hr2, L2, b2⟩ := run_lv1 ⟨⟨K, S, mkr, d', l'⟩, [], na, nc⟩ L1 ⟨rfl, HD.out.2.2.2.1.later bq⟩ (by rw [ht]; omega)
          have hr2' : (Builtin.append_ #[22, 22] 22 #[.slice a1 j c1, .slice (some ⟨w1.heap.size, 0, none⟩) 1 1]).run Tryz.prog (w1.alloc (.cells #[str K, .int .i64 S, .bool mkr, str d', .slice na l'.length nc] 54)) = .ok (.slice (some ⟨g2, 0, none⟩) (j + 1) c2) w2 := by have := hr2 22; rw [ht] at this; exact this
          have HL62 := b1.trans b2
          obtain ⟨v3, w3, hr3, L3, b3⟩ := run_lvs 22 (ad := Stk.dropV la lc j) (c := lc - j) (R2 := R.drop j) L2 (dropV_nil Hnil.out) (fun i u hi => by obtain ⟨b, off, x1, _, x2⟩ := (HL6.out.later HL62).back j hj i u hi; exact ⟨b, off, x1, x2⟩) (fun r hr => hm6 r (List.mem_of_mem_drop hr)) (by simp; omega)
          rw [List.length_drop, ht] at hr3
          obtain ⟨a3, c3, rfl, _⟩ := L3.sl
          obtain ⟨p0, p1, p2, p3, p4⟩ := (z7.later b1).cells
          have HNX : Hid ((R.take j ++ [(⟨⟨K, S, mkr, d', l'⟩, [], na, nc⟩ : Rv)] ++ R.drop j).length = k + 1 ∧ Mdl S ((R.take j ++ [(⟨⟨K, S, mkr, d', l'⟩, [], na, nc⟩ : Rv)] ++ R.drop j).map (·.v)) ∧ (∃ W0, Lv W0 w3 (.slice a3 (R.take j ++ [(⟨⟨K, S, mkr, d', l'⟩, [], na, nc⟩ : Rv)] ++ R.drop j).length c3) (R.take j ++ [⟨⟨K, S, mkr, d', l'⟩, [], na, nc⟩] ++ R.drop j)) ∧ Below W1.heap.size W1 w3) := ⟨by
            have hRk := HI.out.1
            refine ⟨by simp; omega, ?_, ⟨W6, L3⟩, below_seq HBW.out (below_seq bq (HL62.trans b3))⟩
            have hmap : (R.take j ++ [(⟨⟨K, S, mkr, d', l'⟩, [], na, nc⟩ : Rv)] ++ R.drop j).map (·.v) = (R.map (·.v)).take j ++ [⟨K, S, mkr, d', l'⟩] ++ (R.map (·.v)).drop j := by simp [List.map_take, List.map_drop]
            rw [hmap]
            have hA := HA.out
            have hSS := HS.out
            have hs0 := HI.out.2.1.s0
            obtain ⟨_, _, _, _, x5, x6, x7, x8⟩ := HD.out
            refine HI.out.2.1.put (by rw [List.length_map]; omega) (by omega) (by omega) ⟨by rw [HKk.out]; simp, by rw [HKk.out]; simp; omega, by show 1 ≤ S; omega, by show S ≤ S; omega, x5, x6, x7, x8⟩ rfl (by rw [List.length_map]; exact hj) (fun i u hi hu => ?_) (fun u hu => ?_)
            · rw [List.getElem?_map] at hu
              cases hr : R[i]? with
              | none => rw [hr] at hu; cases hu
              | some x => rw [hr] at hu; injection hu with hu; subst hu; exact HJ.out.2 i x hi hr
            · rw [List.getElem?_map] at hu
              cases hr : R[j]? with
              | none => rw [hr] at hu; cases hu
              | some x => rw [hr] at hu; injection hu with hu; subst hu; exact HJ2.out x hr⟩
          clear L1 L2 L3 b1 b2 b3 HL62 hm6 hr2 bq z7 HL6 HJ HJ2 HI HLv HD Hnil hRc hc6 ht HBq HBW
          generalize R.take j ++ [(⟨⟨K, S, mkr, d', l'⟩, [], na, nc⟩ : Rv)] ++ R.drop j = RR at *
          go_upto_region 20 with (refine app_run rfl _ _ rfl rfl rfl hr1 ?_)
          clear hr1 hs1
          go_upto_region 21 with (refine app_run rfl _ _ rfl rfl rfl hr2' ?_)
          clear hr2' p0 p1 p2 p3 p4
          go_wp2_with (refine app_run rfl _ _ rfl rfl rfl hr3 ?_)
          exact ⟨⟨k + 1, RR, a3, c3, S, by first | (rw [hw0]; done) | rfl | go_num, rfl, rfl, hk1, hk2, HNX⟩, by first | (rw [hw0]; omega) | (simp [intOf]; omega)⟩
    · have HN := Hid.mk (a10_bd n)
      have HM := Hid.mk HI.out.2.1
      have hs0 := HM.out.s0
      have hs1 := HM.out.s1
      have hs2 := HM.out.len
      have hw1 : wrap64 (sq + 1) = sq + 1 := by unfold wrap64; omega
      have hw2 : wrap64 (sq + 1 + a10 n) = sq + 1 + a10 n := by have := HN.out; unfold wrap64; omega
      have hw3 : wrap64 (wrap64 (sq + 1) + a10 n) = sq + 1 + a10 n := by rw [hw1, hw2]
      have z1 := HZ1.out.later HI.out.2.2.2
      obtain ⟨q0, q1⟩ := z1.cells
      have f0 := z1.fz 0
      have f1 := z1.fz 1
      have n3 := z1.set2 (sq + 1 + a10 n) (.slice la R.length lc)
      have B5 := Hid.mk (below2 (r := w.heap.size + 1) (HB.out.trans (HI.out.2.2.2.mono HB.out.size)) (Nat.le_succ _) (.int .i64 (sq + 1 + a10 n)) (.slice la R.length lc))
      have HF : Hid (VIn ((wr.setCell ⟨w.heap.size + 1, 0, none⟩ (.int .i64 (sq + 1 + a10 n))).setCell ⟨w.heap.size + 1, 1, none⟩ (.slice la R.length lc)) la (R.map (·.v))) := ⟨by
        obtain ⟨W0, h⟩ := HI.out.2.2.1
        exact vin_box h.vin z1 (fun s q => by cases q) _ _⟩
      have HE : Hid (k = L.length ∨ (k < L.length ∧ k = 40)) := ⟨by omega⟩
      clear z1 hlt hs0 hs1 hs2
      rcases HE.out with e | ⟨e, e2⟩
      · subst e
        have d1 : decide ((L.length : Int) < (L.length : Int)) = false := decide_eq_false (fun q => Int.lt_irrefl _ q)
        clear HE
        go_wp2_with fail
        generalize (wr.setCell ⟨w.heap.size + 1, 0, none⟩ (.int .i64 (sq + 1 + a10 n))).setCell ⟨w.heap.size + 1, 1, none⟩ (.slice la R.length lc) = W9 at *
        obtain ⟨y0, y1⟩ := n3.cells
        refine bodyPost_ret (v := .agg #[.int .i64 (sq + 1 + a10 n), .slice la R.length lc]) ?_ rfl ⟨R.map (·.v), _, sq, la, lc, by rw [List.length_map], HF.out, HM.out, by have := HN.out; omega, by have := HN.out; omega, B5.out⟩
        rw [results_c1 rfl]
        go_simp
      · have d1 : decide ((k : Int) < (L.length : Int)) = true := decide_eq_true (by omega)
        subst e2
        clear HE
        go_wp2_with fail
        generalize (wr.setCell ⟨w.heap.size + 1, 0, none⟩ (.int .i64 (sq + 1 + a10 n))).setCell ⟨w.heap.size + 1, 1, none⟩ (.slice la R.length lc) = W9 at *
        obtain ⟨y0, y1⟩ := n3.cells
        refine bodyPost_ret (v := .agg #[.int .i64 (sq + 1 + a10 n), .slice la R.length lc]) ?_ rfl ⟨R.map (·.v), _, sq, la, lc, by rw [List.length_map], HF.out, HM.out, by have := HN.out; omega, by have := HN.out; omega, B5.out⟩
        rw [results_c1 rfl]
        go_simp
end Go.Proofs.YtcmmbdcflblekaaGreatDoor
