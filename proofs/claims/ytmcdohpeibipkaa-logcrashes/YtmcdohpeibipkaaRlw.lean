/- Puts made right. -/
import Derived.Test.YtmcdohpeibipkaaKep
namespace Go.Proofs.Ytmcdohpeibipkaa
set_option linter.unusedVariables false
set_option linter.unusedSimpArgs false
open Go.RowKit
structure GoodP (R : List Px) : Prop where
  num : ∀ p ∈ R, (0 ≤ p.n ∧ p.n < 18) ∧ p.odd = false ∧ p.t.size ≤ 140737488351232
  nd : (R.map Px.n).Nodup
  len : R.length ≤ 10
theorem GoodP.nil : GoodP [] := ⟨fun p hp => by simp at hp, by simp, by simp⟩
theorem GoodP.snoc {R : List Px} (h : GoodP R) (x : Int) (t : ByteArray) (hx : 0 ≤ x ∧ x < 18) (ht : t.size ≤ 140737488351232) (hn : x ∉ R.map Px.n) (hl : R.length < 10) : GoodP (R ++ [⟨x, t, false⟩]) := by
  refine ⟨fun p hp => ?_, ?_, by simp; omega⟩
  · rcases List.mem_append.1 hp with hp | hp
    · exact h.num p hp
    · simp at hp; subst hp; exact ⟨hx, rfl, ht⟩
  · rw [List.map_append, List.nodup_append]
    exact ⟨h.nd, by simp, fun a ha b hb e => by simp at hb; subst hb; subst e; exact hn ha⟩
theorem GoodP.right {R : List Px} (h : GoodP R) : rightB 18 (pw R) = true := by
  unfold rightB
  rw [decide_eq_true_iff]
  refine ⟨fun p hp => ?_, ?_⟩
  · obtain ⟨x, hx, rfl⟩ := List.mem_map.1 hp
    have := h.num x hx
    refine ⟨by simp [okN, Px.w, this.1.1, this.1.2], ?_⟩
    show (if x.odd then x.t else bk x.t).size = 512
    rw [this.2.1]; exact bk_size _
  · have e : (pw R).map Prod.fst = R.map Px.n := by simp [pw, Px.w]
    rw [e]; exact h.nd
theorem own_pin {w : World} {v : Value} {R : List Px} (h : w.ownsRow 0 82 3 v R.length (pcs R)) (g : GoodP R) : ∃ a c, v = .slice a R.length c ∧ PIn w a R := by
  rcases h.2 with ⟨rfl, h0⟩ | ⟨b, cap, cur, rfl, _, hb, _⟩
  · have : R = [] := List.eq_nil_of_length_eq_zero h0
    subst this
    exact ⟨none, 0, rfl, ⟨fun k p hp => by simp at hp⟩⟩
  · refine ⟨some ⟨b, 0, none⟩, cap, rfl, ⟨fun k p hp => ⟨b, 0, rfl, heap_lt hb, ?_, ?_, (g.num p (List.mem_of_getElem? hp)).2.2⟩⟩⟩
    · have hk := (List.getElem?_eq_some_iff.1 hp).1
      obtain ⟨h1, h2, h3⟩ := pcs_at R k p hp
      exact ⟨by rw [Nat.zero_add, h.cellAt _ (by omega)]; exact h1, by rw [Nat.zero_add, h.cellAt _ (by omega)]; exact h2, by rw [Nat.zero_add, h.cellAt _ (by omega)]; exact h3⟩
    · have := (g.num p (List.mem_of_getElem? hp)).1
      constructor <;> omega
theorem own_ints {w : World} {v : Value} {l : List Int} (h : w.ownsRow 0 3 1 v l.length (intv l)) : ∃ a c, v = .slice a l.length c ∧ ∀ (k : Nat) x, l[k]? = some x → ∃ b, a = some ⟨b, 0, none⟩ ∧ w.cell? ⟨b, k, none⟩ = some (.int .i64 x) := by
  rcases h.2 with ⟨rfl, h0⟩ | ⟨b, cap, cur, rfl, _, hb, _⟩
  · have : l = [] := List.eq_nil_of_length_eq_zero h0
    subst this
    exact ⟨none, 0, rfl, fun k p hp => by simp at hp⟩
  · refine ⟨some ⟨b, 0, none⟩, cap, rfl, fun k x hx => ⟨b, rfl, ?_⟩⟩
    have hk := (List.getElem?_eq_some_iff.1 hx).1
    rw [h.cellAt _ (by omega)]
    simp [intv, hx]
/-- both rows, side by side -/
structure RI (w : World) (wr : World) (vo vu : Value) (R : List Px) : Prop where
  out : wr.ownsRow 0 82 3 vo R.length (pcs R)
  used : wr.ownsRow 0 3 1 vu R.length (intv (R.map Px.n))
  bel : Below w.heap.size w wr
  fo : ∀ j, vo.ownBlock = some j → w.heap.size ≤ j
  fu : ∀ j, vu.ownBlock = some j → w.heap.size ≤ j
  ap : ∀ j, vo.ownBlock = some j → vu.ownBlock ≠ some j
  good : GoodP R
theorem keep_cell {w wr w8 : World} {vu : Value} {b j : Nat} {x : Value} (hb : b < w.heap.size) (bel : Below w.heap.size w wr) (fu : ∀ j, vu.ownBlock = some j → w.heap.size ≤ j) (g8 : wr.grownBy w8 vu.ownBlock) (c : wr.cell? ⟨b, j, none⟩ = some x) : w8.cell? ⟨b, j, none⟩ = some x :=
  (((bel.grown g8 bel.size fu).cell (p := ⟨b, j, none⟩) hb).trans ((bel.cell (p := ⟨b, j, none⟩) hb).symm)).trans c
theorem RI.step1 {w wr w8 : World} {vo vu : Value} {R : List Px} (h : RI w wr vo vu R) (g8 : wr.grownBy w8 vu.ownBlock) : w8.ownsRow 0 82 3 vo R.length (pcs R) :=
  (Fr.of_grown (S := fun k => vu.ownBlock = some k) g8 (fun k hk => hk)).own h.out (fun k hk e => h.ap k hk e)
theorem RI.step2 {w wr w8 w9 : World} {vo vu : Value} {R : List Px} (h : RI w wr vo vu R) {x : Int} {T : ByteArray} {y c y2 c2 : Nat} (g8 : wr.grownBy w8 vu.ownBlock) (q8 : w8.ownsRow 0 3 1 (rw_ y (R.length + 1) c) (R.length + 1) (intv (R.map Px.n ++ [x]))) (n8 : vu.ownBlock = some y ∨ wr.heap.size ≤ y)
    (g9 : w8.grownBy w9 vo.ownBlock) (q9 : w9.ownsRow 0 82 3 (rw_ y2 (R.length + 1) c2) (R.length + 1) (pcs (R ++ [⟨x, T, false⟩]))) (n9 : vo.ownBlock = some y2 ∨ w8.heap.size ≤ y2) (hx : 0 ≤ x ∧ x < 18) (ht : T.size ≤ 140737488351232) (hn : x ∉ R.map Px.n) (hl : R.length < 10) :
    RI w w9 (rw_ y2 (R.length + 1) c2) (rw_ y (R.length + 1) c) (R ++ [⟨x, T, false⟩]) := by
  have b8 := h.bel.grown g8 h.bel.size h.fu
  have hyl : y < w8.heap.size := (q8.lt _ rfl).2
  have hvo : ∀ k, vo.ownBlock = some k → k < wr.heap.size := fun k hk => (h.out.lt k hk).2
  have hyo : vo.ownBlock ≠ some y := fun e => by
    rcases n8 with n8 | n8
    · exact h.ap y e n8
    · have := hvo y e; omega
  refine ⟨by rw [List.length_append]; exact q9, ?_, b8.grown g9 b8.size h.fo, fun j hj => ?_, fun j hj => ?_, fun j hj e => ?_, h.good.snoc x T hx ht hn hl⟩
  · rw [List.length_append, List.map_append]
    exact (Fr.of_grown (S := fun k => vo.ownBlock = some k) g9 (fun k hk => hk)).own q8 (fun k hk e => by cases hk; exact hyo e)
  · cases hj
    rcases n9 with n9 | n9
    · exact h.fo _ n9
    · exact Nat.le_trans b8.size n9
  · cases hj
    rcases n8 with n8 | n8
    · exact h.fu _ n8
    · exact Nat.le_trans h.bel.size n8
  · cases hj
    cases e
    rcases n9 with n9 | n9
    · exact hyo n9
    · omega
theorem x18 (z : Int) : 0 ≤ wrap64 ((IntKind.u64.wrap z).tmod 18) ∧ wrap64 ((IntKind.u64.wrap z).tmod 18) < 18 := by
  rw [IntKind.wrap_u64, Int.tmod_eq_emod_of_nonneg (Int.emod_nonneg _ (by decide))]
  have h1 := Int.emod_nonneg (z % 18446744073709551616) (show (18 : Int) ≠ 0 by decide)
  have h2 := Int.emod_lt_of_pos (z % 18446744073709551616) (show (0 : Int) < 18 by decide)
  unfold wrap64
  omega
theorem mem_take_succ (zs : List Int) (i : Nat) (x y : Int) (h : zs[i]? = some y) : decide (x ∈ zs.take (i + 1)) = (decide (x ∈ zs.take i) || (y == x)) := by
  have hk := (List.getElem?_eq_some_iff.1 h).1
  rw [List.take_succ_eq_append_getElem hk, Option.some.inj ((List.getElem?_eq_getElem hk).symm.trans h)]
  rw [Bool.eq_iff_iff]
  simp
  constructor
  · rintro (h | h)
    · exact .inl h
    · exact .inr h.symm
  · rintro (h | h)
    · exact .inl h
    · exact .inr h.symm
theorem wps (k n : Nat) (h : k < n) (hn : n < 10) : wrap64 ((k : Int) + 1) = ((k + 1 : Nat) : Int) := by unfold wrap64; omega
theorem u18 (z : Int) (h1 : -9223372036854775808 ≤ z) (h2 : z ≤ 9223372036854775807) : 0 ≤ (z % 18446744073709551616) % 18 ∧ (z % 18446744073709551616) % 18 < 18 := by omega
set_option maxRecDepth 100000 in
theorem right_any (a : Option Addr) (cap : Nat) (l : List Px) (w : World) (hin : PIn w a l) (hl : l.length ≤ 4398046510976) :
    Calls Try.prog 24 #[.slice a l.length cap, .int .i64 18, .int .i64 10] w fun e w' => ∃ v R, e = .returned v ∧ w'.ownsRow 0 82 3 v R.length (pcs R) ∧ Below w.heap.size w w' ∧ GoodP R := by
  have HI : Hid (PIn w a l) := ⟨hin⟩
  clear hin
  go_enter Try.func24, Try.ntmps24
  go_wp2_with fail
  go_loopw [7, 8, 9] (fun vo vu i wr => ∃ (k : Nat) (R : List Px) (c : Nat) (ao : Option Addr), k ≤ l.length ∧ i = .int .i64 (k : Int) ∧ vo = .slice ao R.length c ∧ Hid (RI w wr vo vu R)) (fun _ _ i _ => l.length - (intOf i).toNat)
  case atStart => exact ⟨0, [], 0, none, Nat.zero_le _, rfl, rfl, ⟨⟨World.ownsRow_nil _ _ _ _, World.ownsRow_nil _ _ _ _, Below.refl _ _, (fun j hj => by cases hj), (fun j hj => by cases hj), (fun j hj => by cases hj), GoodP.nil⟩⟩⟩
  case round =>
    obtain ⟨k, R, c, ao, hk, rfl, rfl, H⟩ := hrel
    by_cases hlt : k < l.length
    · by_cases h10 : R.length < 10
      · obtain ⟨⟨z, T, odd⟩, hz⟩ : ∃ z, l[k]? = some z := ⟨_, List.getElem?_eq_getElem hlt⟩
        obtain ⟨b0, off0, e0, hb0, _⟩ := HI.out.get k _ hz
        obtain ⟨b, off, rfl, hb, ⟨c0, c1, c2⟩, hr, hts⟩ := (HI.out.later H.out.bel).get k _ hz
        injection e0 with e0
        injection e0 with e1 e2
        subst e1
        have HB0 : Hid (b < w.heap.size) := ⟨hb0⟩
        clear hb0 e2
        simp only at c0 c1 c2 hr hts
        have hi := ltk k _ hlt
        have h10i := ltk _ _ h10
        have hw1 := wpk k _ hlt hl
        obtain ⟨au, cu, hu, hcu⟩ := own_ints (l := R.map Px.n) (by rw [List.length_map]; exact H.out.used)
        rw [List.length_map] at hu
        subst hu
        have HU : Hid (∀ (k : Nat) y, (R.map Px.n)[k]? = some y → ∃ b, au = some ⟨b, 0, none⟩ ∧ wr.cell? ⟨b, k, none⟩ = some (.int .i64 y)) := ⟨hcu⟩
        have HX : Hid (0 ≤ wrap64 ((IntKind.u64.wrap z).tmod 18) ∧ wrap64 ((IntKind.u64.wrap z).tmod 18) < 18) := ⟨x18 z⟩
        have HTS : Hid (T.size ≤ 140737488351232) := ⟨hts⟩
        have H1 : Hid (wrap64 ((k : Int) + 1) = ((k + 1 : Nat) : Int)) := ⟨hw1⟩
        clear hz hcu hr hts hw1
        go_wp2_with fail
        generalize wrap64 ((IntKind.u64.wrap z).tmod 18) = x at *
        go_loopw [11, 12] (fun ag j w' => ∃ i : Nat, i ≤ R.length ∧ j = .int .i64 (i : Int) ∧ ag = .bool (decide (x ∈ (R.map Px.n).take i)) ∧ w' = wr) (fun _ j _ => R.length - (intOf j).toNat)
        case atStart => exact ⟨0, Nat.zero_le _, rfl, by simp, rfl⟩
        case round =>
          obtain ⟨i, hi2, rfl, rfl, rfl⟩ := hrel
          by_cases hil : i < R.length
          · obtain ⟨y, hy⟩ : ∃ y, (R.map Px.n)[i]? = some y := ⟨_, List.getElem?_eq_getElem (by simpa using hil)⟩
            obtain ⟨bu, rfl, cy⟩ := HU.out i y hy
            have hst := mem_take_succ _ i x y hy
            have hii := ltk i _ hil
            have hwi := wps i _ hil h10
            clear hy
            cases hd : decide (x ∈ (R.map Px.n).take i) with
            | true =>
              rw [hd, Bool.true_or] at hst
              have HST : Hid (decide (x ∈ (R.map Px.n).take (i + 1)) = true) := ⟨hst⟩
              clear hst hd
              go_wp2
              exact ⟨⟨i + 1, hil, by go_num, by rw [HST.out], by trivial⟩, meask i _ hil⟩
            | false =>
              rw [hd, Bool.false_or] at hst
              have HST : Hid (decide (x ∈ (R.map Px.n).take (i + 1)) = (y == x)) := ⟨hst⟩
              clear hst hd
              go_wp2
              exact ⟨⟨i + 1, hil, by go_num, by rw [HST.out], by trivial⟩, meask i _ hil⟩
          · have hie : i = R.length := Nat.le_antisymm hi2 (Nat.le_of_not_lt hil)
            subst hie
            have hii := nlt R.length
            have htk : (R.map Px.n).take R.length = R.map Px.n := by rw [← List.length_map (f := Px.n), List.take_length]
            rw [htk]
            have hw1 := H1.out
            clear htk hil
            cases hd : decide (x ∈ R.map Px.n) with
            | true =>
              clear hd
              go_wp2
              exact ⟨⟨k + 1, R, c, ao, hlt, by go_num, rfl, H⟩, meask k _ hlt⟩
            | false =>
              have HD : Hid (x ∉ R.map Px.n) := ⟨of_decide_eq_false hd⟩
              have HLN : Hid ((R.map Px.n).length = R.length) := ⟨List.length_map ..⟩
              have HT10 : Hid (R.length < 10) := ⟨h10⟩
              clear hd
              go_wp2_with (first
                | (at_builtin; refine app_int (l := R.map Px.n) (m := R.length) HLN.out rfl rfl (by rw [HLN.out]; exact H.out.used) (by rw [HLN.out]; exact Nat.lt_trans HT10.out (by decide)) rfl _ _ rfl rfl rfl ?_; intro y2 c2 w8 q8 g8 n8; have d1 := keep_cell HB0.out H.out.bel H.out.fu g8 c1; have o8 := H.out.step1 g8)
                | (at_builtin; refine app_put (l := R) (m := R.length) rfl rfl rfl o8 (Nat.lt_trans HT10.out (by decide)) rfl _ _ rfl rfl rfl ?_; intro y3 c3 w9 q9 g9 n9))
              have HR : Hid (RI w w9 (rw_ y3 (R.length + 1) c3) (rw_ y2 (R.length + 1) c2) (R ++ [⟨x, T, false⟩])) := ⟨H.out.step2 g8 q8 n8 g9 q9 n9 HX.out HTS.out HD.out HT10.out⟩
              exact ⟨⟨k + 1, R ++ [⟨x, T, false⟩], c3, some ⟨y3, 0, none⟩, hlt, by go_num, by rw [List.length_append]; rfl, HR⟩, meask k _ hlt⟩
      · have h10i : ¬ ((R.length : Int) < 10) := by omega
        have hi := ltk k _ hlt
        go_wp2
        go_ret
        exact ⟨_, rfl, R, H.out.out, H.out.bel, H.out.good⟩
    · have hke : k = l.length := Nat.le_antisymm hk (Nat.le_of_not_lt hlt)
      subst hke
      have hi := nlt l.length
      go_wp2
      go_ret
      exact ⟨_, rfl, R, H.out.out, H.out.bel, H.out.good⟩
end Go.Proofs.Ytmcdohpeibipkaa
