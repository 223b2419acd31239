/- own: the document's manifest as the program's, with marks behind each list. -/
import Derived.Test.YtkkhmlcnfnaadaaGreatDoorGq
import Derived.Test.YtkkhmlcnfnaadaaGreatDoorQIt
namespace Go.Proofs.YtkkhmlcnfnaadaaGreatDoor
set_option maxRecDepth 100000
set_option linter.unusedVariables false
set_option linter.unusedSimpArgs false
open Go.RowKit
open Go.Proofs.YtkkhmlcnfnaadaaGreatDoorH (hv hv_length hv_one hv_eq)
attribute [local go_sem ↓] Go.wp_at_zero Go.wp_at_succ bsIe bdIe slPe ldQe stQe
attribute [local go_sem] run_bsI
noncomputable def slI (v : Value) (a b c : Option Value) : Sem Value := Instr.slice 26 v a b c
theorem slIe (v : Value) (a b c : Option Value) : Instr.slice 26 v a b c = slI v a b c := rfl
theorem run_slI (a : Option Addr) (len cap n : Nat) (h1 : n ≤ cap) (h3 : cap ≤ 9223372036854775807) (hn : a = none → cap = 0) (w : World) : (slI (.slice a len cap) none (some (.int .i64 (n : Int))) none).run Tryz.prog w = .ok (.slice a n cap) w := by
  unfold slI
  cases a with
  | none =>
    obtain rfl := hn rfl
    obtain rfl : n = 0 := by omega
    simp [Instr.slice, Tryz.underlying26, go_sem]
  | some ad =>
    simp [Instr.slice, Tryz.underlying26, go_sem]
    intro hc
    omega
attribute [local go_sem ↓] slIe
abbrev mkE : En := ⟨[109, 97, 114, 107], []⟩
abbrev mkI : It := it0 [109, 97, 114, 107] (-77)
theorem run_bdM (w : World) : (bdI #[(0, .string ⟨#[109, 97, 114, 107]⟩), (1, .int .i64 (-77))]).run Tryz.prog w = .ok (.agg (ic mkI none 0).toArray) w := by
  unfold bdI
  refine run_build w 46 _ _ ?_
  rw [it0_cells]
  kernel_rfl
theorem run_rk {base : Nat} {w1 : World} {v : Value} {R : List Ri} (r : Ri) (hO : w1.ownsRow base 46 37 v R.length (rics R)) (hle : base ≤ w1.heap.size) (hn : R.length ≤ 1466015503680) :
    ∃ g' c' w', (∀ ty, (Builtin.append_ #[26, 26] ty #[v, .slice (some ⟨w1.heap.size, 0, none⟩) 1 1]).run Tryz.prog (w1.alloc (.cells (ri r).toArray 46)) = .ok (.slice (some ⟨g', 0, none⟩) (R.length + 1) c') w') ∧ w'.ownsRow base 46 37 (.slice (some ⟨g', 0, none⟩) (R.length + 1) c') (R.length + 1) (rics (R ++ [r])) ∧ w1.heap.size ≤ w'.heap.size ∧ Below base w1 w' ∧ (∀ x, x < w1.heap.size → v.ownBlock ≠ some x → w'.heap[x]? = w1.heap[x]?) := by
  obtain ⟨i0, hi, hz0, hz1, hz2⟩ := info_parts infoIf
  have hmx : maxLen = 9223372036854775807 := rfl
  have o1 : (w1.alloc (.cells (ri r).toArray 46)).ownsRow base 46 37 v R.length (rics R) := hO.alloc _
  obtain ⟨g2, cap2, w', hr, hown, hgrow, hat, hlt⟩ := run_append_lies (P := Tryz.prog) (w := w1.alloc (.cells (ri r).toArray 46)) 26 26 base 46 i0 _ 37 96 Tryz.underlying26 hi hz0 hz1 hz2 rfl (by omega) v R.length (rics R) o1 ⟨w1.heap.size, 0, none⟩ 1 1 (ri r) (by rw [ri_len])
    (World.news_of_block (cs := (ri r).toArray) (t := 46) (fr := (0, 0)) (heap_alloc_new w1 _)) (ic_one _ _ _) (by omega) (by rw [hmx]; omega) (by omega) (by simp; omega) _ rfl
  have hsz : w1.heap.size ≤ w'.heap.size := by have := hgrow.size; simp at this; omega
  refine ⟨g2, cap2, w', fun ty => hr, ?_, hsz, ((Below.refl _ _).alloc hle _).trans (grown_below o1 (by simp; omega) hgrow), fun x hx hne => by rw [hgrow.block x (by simp; omega) (Ne.symm hne)]; exact heap_alloc_old _ _ _ hx⟩
  rw [rics_append, rics_one']
  exact hown
/-- what own tells: a list with a mark behind it, marks behind the pairs -/
structure Mk (base : Nat) (w : World) (v : Value) (R S : List Ri) : Prop where
  own : w.ownsRow base 46 37 v (R ++ S).length (rics (R ++ S))
  le : base ≤ w.heap.size
  met : ∀ (k : Nat) (r : Ri), R[k]? = some r → Ow base w (.slice r.2.1 (r.1.l.length + 1) r.2.2) (r.1.l ++ [mkE])
theorem Mk.stay {base : Nat} {w w' : World} {v : Value} {R S : List Ri} (h : Mk base w v R S) (hs : w.heap.size ≤ w'.heap.size) (hb : ∀ g, base ≤ g → g < w.heap.size → w'.heap[g]? = w.heap[g]?) : Mk base w' v R S :=
  ⟨own_keep h.own (fun g hg => hb g (h.own.lt g hg).1 (h.own.lt g hg).2), Nat.le_trans h.le hs, fun k r hk => (h.met k r hk).stay hs (fun g hg => hb g ((h.met k r hk).own.lt g hg).1 ((h.met k r hk).own.lt g hg).2)⟩
theorem Mk.later {base : Nat} {w w' : World} {v : Value} {R S : List Ri} (h : Mk base w v R S) (hb : Below w.heap.size w w') : Mk base w' v R S := h.stay hb.size (fun g _ hg => hb.block g hg)
theorem Mk.base {b b' : Nat} {w : World} {v : Value} {R S : List Ri} (h : Mk b w v R S) (hb : b' ≤ b) : Mk b' w v R S := by
  refine ⟨⟨h.own.1, ?_⟩, Nat.le_trans hb h.le, fun k r hk => (h.met k r hk).base hb⟩
  rcases h.own.2 with e | ⟨g, cap, cur, e1, e2, e3⟩
  · exact Or.inl e
  · exact Or.inr ⟨g, cap, cur, e1, Nat.le_trans hb e2, e3⟩
/-- what is kept while it is made -/
structure Ok (w W : World) (m : Ma) (a : Option Addr) (cap : Nat) (v : Value) (R : List Ri) : Prop where
  g0 : Bn3 W w.heap.size m.since m.next (.slice a m.items.length cap)
  g1 : Bm3 W (w.heap.size + 1) 0 0 (.slice none 0 0)
  mq : Mk (w.heap.size + 2) W v R []
  bel : Below w.heap.size w W
theorem Ok.later {w W W' : World} {m : Ma} {a : Option Addr} {cap : Nat} {v : Value} {R : List Ri} (h : Ok w W m a cap v R) (hb : Below W.heap.size W W') : Ok w W' m a cap v R := ⟨h.g0.later hb, h.g1.later hb, h.mq.later hb, h.bel.trans (hb.mono h.bel.size)⟩
theorem sl_one {w : World} {g : Nat} (p : En) (h : w.heap[g]? = some (.cells #[str p.key, str p.val] 49 (0, 0))) : Sl w (some ⟨g, 0, none⟩) 1 [p] := by
  refine ⟨⟨fun k q hk => ?_⟩, Nat.le_refl _, by omega, fun h => by cases h⟩
  match k, hk with
  | 0, hk =>
    simp at hk; subst hk
    exact ⟨g, 0, rfl, lt_of_block h, by rw [cell_of_row _ _ _ _ _ _ h]; rfl, by rw [cell_of_row _ _ _ _ _ _ h]; rfl⟩
  | k + 1, hk => simp at hk
/-- one item more, with pairs of its own and a mark behind them -/
theorem Ok.more {w W W1 w2 : World} {m : Ma} {a : Option Addr} {cap : Nat} {v v' : Value} {R : List Ri} (r : Ri) (h : Ok w W m a cap v R) (hb : Below W.heap.size W W1)
    (ho : Ow W.heap.size W1 (.slice r.2.1 (r.1.l.length + 1) r.2.2) (r.1.l ++ [mkE])) (hown : w2.ownsRow (w.heap.size + 2) 46 37 v' (R.length + 1) (rics (R ++ [r]))) (hs : W1.heap.size ≤ w2.heap.size) (h2 : Below (w.heap.size + 2) W1 w2)
    (hk : ∀ x, x < W1.heap.size → v.ownBlock ≠ some x → w2.heap[x]? = W1.heap[x]?) : Ok w w2 m a cap v' (R ++ [r]) := by
  have h1 := h.later hb
  have hapt : ∀ base v2 l, Ow base W1 v2 l → Ow base w2 v2 l := fun base v2 l hx => hx.stay hs (fun g hg => hk g (hx.own.lt g hg).2 (fun q => own_apart hx.own h1.mq.own (by decide) hg q))
  refine ⟨?_, h1.g1.oth (h2.block _ (by omega)), ⟨by simpa using hown, by have := h.mq.le; have := hb.size; omega, fun k q hq => ?_⟩, h1.bel.trans (h2.mono (by omega))⟩
  · have := h1.g0; unfold Bn3 at this ⊢; rw [h2.block _ (by omega)]; exact this
  by_cases hkl : k < R.length
  · rw [List.getElem?_append_left hkl] at hq
    exact hapt _ _ _ (h1.mq.met k q hq)
  · have hkl' : k = R.length := by
      have := (List.getElem?_eq_some_iff.1 hq).1
      simp at this; omega
    subst hkl'
    simp at hq
    subst hq
    exact (hapt _ _ _ ho).base h.mq.le
def OwP (m : Ma) (w : World) (e : Ending) (w' : World) : Prop := ∃ (R : List Ri) (a : Option Addr) (c : Nat), e = .returned (.tuple #[.agg #[.int .i64 m.since, .int .i64 m.next, .slice a R.length c], .slice a (R.length + 1) c]) ∧ R.map (·.1) = m.items ∧ Mk w.heap.size w' (.slice a (R.length + 1) c) R [(mkI, none, 0)] ∧ Below w.heap.size w w'
set_option maxHeartbeats 8000000 in
theorem own_any (m : Ma) (w : World) (a : Option Addr) (cap : Nat) (hL : IIt w a m.items) (hz : ∀ x ∈ m.items, x.l.length ≤ 4398046510976) (hl : m.items.length ≤ 1466015503658) :
    Calls Tryz.prog 17 #[.agg #[.int .i64 m.since, .int .i64 m.next, .slice a m.items.length cap]] w (OwP m w) := by
  have b0 := (Below.refl w.heap.size w).alloc (Nat.le_refl _) (.cells #[.int .i64 m.since, .int .i64 m.next, .slice a m.items.length cap] 38)
  have b1 := b0.alloc b0.size (.cells #[.int .i64 0, .int .i64 0, .slice none 0 0] 28)
  have HK0 : Hid (Ok w ((w.alloc (.cells #[.int .i64 m.since, .int .i64 m.next, .slice a m.items.length cap] 38)).alloc (.cells #[.int .i64 0, .int .i64 0, .slice none 0 0] 28)) m a cap (.slice none 0 0) []) := ⟨by
    refine ⟨?_, ?_, ⟨World.ownsRow_nil _ _ _ _, by simp, fun k r h => by simp at h⟩, b1⟩
    · unfold Bn3; rw [heap_alloc_old _ _ _ (by simp)]; exact heap_alloc_new _ _
    · have := Bm3.new (w.alloc (.cells #[.int .i64 m.since, .int .i64 m.next, .slice a m.items.length cap] 38)) 0 0 (.slice none 0 0)
      rw [World.size_alloc] at this
      exact this⟩
  have HL := Hid.mk hL
  have HZ := Hid.mk hz
  clear hL hz b0 b1
  obtain ⟨since, next, items⟩ := m
  dsimp only at *
  go_enter Tryz.func17, Tryz.ntmps17
  go_wp2_with fail
  go_loopw [4, 5] (fun l i wr => ∃ (k : Nat) (R : List Ri) (ra : Option Addr) (rc : Nat), k ≤ items.length ∧ i = .int .i64 (k : Int) ∧ l = .slice ra R.length rc ∧ Hid (R.length = k) ∧ Hid (Ok w wr ⟨since, next, items⟩ a cap (.slice ra R.length rc) R) ∧ Hid (R.map (·.1) = items.take k)) (fun _ i _ => items.length - (intOf i).toNat)
  case atStart => exact ⟨0, [], none, 0, Nat.zero_le _, rfl, rfl, ⟨rfl⟩, HK0, ⟨rfl⟩⟩
  case round =>
    obtain ⟨k, R, ra, rc, hk, rfl, rfl, hRk, HO, HR⟩ := hrel
    obtain ⟨p0, p1, p2⟩ := HO.out.g0.cells
    dsimp only at p0 p1 p2
    by_cases hlt : k < items.length
    · have d3 : decide ((k : Int) < (items.length : Int)) = true := decide_eq_true (by omega)
      have k2 : (k : Int) < (items.length : Int) := by omega
      have hw1 : wrap64 ((k : Int) + 1) = ((k + 1 : Nat) : Int) := by unfold wrap64; omega
      obtain ⟨x, hx⟩ : ∃ x, items[k]? = some x := ⟨items[k], List.getElem?_eq_getElem hlt⟩
      have hzx := HZ.out x (List.mem_of_getElem? hx)
      obtain ⟨b, off, ma, mc, hab, hbl, hra, hsl⟩ := (HL.out.later HO.out.bel).get k x hx
      subst hab
      have l1 := run_ldQ hra
      have s1 := run_stQ wr x ma mc
      have z1 := Hid.mk (Bj.new wr x ma mc)
      have bx := (Below.refl wr.heap.size wr).alloc (Nat.le_refl _) (.cells (ic x ma mc).toArray 84)
      obtain ⟨W1, hW1⟩ : ∃ W1, W1 = wr.alloc (.cells (ic x ma mc).toArray 84) := ⟨_, rfl⟩
      rw [← hW1] at s1 z1 bx
      have HS1 : Hid (W1.heap.size = wr.heap.size + 1) := ⟨by rw [hW1]; simp⟩
      clear hW1
      have be := (Below.refl W1.heap.size W1).alloc (Nat.le_refl _) (.cells #[] 49)
      obtain ⟨c0, c1, c2, c3, c4⟩ := (z1.out.later be).cells
      obtain ⟨v3, w3, hr3, o3, b3⟩ := run_ow (base := W1.heap.size) (w := W1.alloc (.cells #[] 49)) 43 x.l (Ow.empty W1 (Nat.le_refl _)) ((hsl.later bx).later be) rfl (by simp; omega)
      rw [List.nil_append] at o3
      obtain ⟨a3, c3', rfl, _⟩ := o3.sl
      have b4 := (Below.refl w3.heap.size w3).alloc (Nat.le_refl _) (.cells #[str mkE.key, str mkE.val] 49)
      obtain ⟨v5, w5, hr5, o5, b5⟩ := run_ow (base := W1.heap.size) (w := w3.alloc (.cells #[str mkE.key, str mkE.val] 49)) 43 [mkE] (o3.later b4) (sl_one mkE (heap_alloc_new _ _)) rfl (by simp; omega)
      obtain ⟨a5, c5, rfl, s5⟩ := o5.sl
      have HB5 : Hid (Below W1.heap.size W1 w5) := ⟨((be.trans b3).trans (b4.mono o3.le)).trans b5⟩
      have HX := Hid.mk hx
      have HS5 := Hid.mk s5
      have HO5 := Hid.mk o5
      clear hra hsl hx be b3 b4 b5 o3 o5 s5
      go_wp2_with (first
        | (refine app_run rfl _ _ rfl rfl rfl hr3 ?_; clear hr3)
        | (refine app_run rfl _ _ rfl rfl rfl hr5 ?_; clear hr5))
      have z5 := (z1.out.later HB5.out).later (Below.refl _ _).drew
      clear c0 c1 c2 c3 c4 l1 s1 p0 p1 p2
      obtain ⟨c0, c1, c2, c3, c4⟩ := z5.cells
      have hsl := fun w => run_slP a5 (x.l.length + 1) c5 x.l.length (by have := HS5.out.le; simp at this; omega) HS5.out.max HS5.out.nil w
      have hbd := fun w => run_bdI x a5 c5 w
      have hle5 : Hid (w.heap.size + 2 ≤ w5.drew.heap.size) := ⟨by have h1 := HO.out.mq.le; have h2 := HB5.out.size; have h3 := HS1.out; show _ ≤ w5.heap.size; omega⟩
      have hB5 : Hid (Below wr.heap.size wr w5.drew) := ⟨(bx.trans (HB5.out.mono (by have := HS1.out; omega))).drew⟩
      obtain ⟨g', c', w6, hr6, o6, s6, b6, k6⟩ := run_rk (x, a5, c5) (HO.out.later hB5.out).mq.own hle5.out (by have := hRk.out; simp; omega)
      have HF : Hid (Ok w w6 ⟨since, next, items⟩ (some ⟨b, off, none⟩) cap (.slice (some ⟨g', 0, none⟩) (R.length + 1) c') (R ++ [(x, a5, c5)])) := ⟨HO.out.more (x, a5, c5) hB5.out (by simpa using (HO5.out.later (Below.refl _ _).drew).base (by have := HS1.out; omega)) (by simpa using o6) s6 b6 k6⟩
      have hr : ∀ ty, (Builtin.append_ #[26, 26] ty #[.slice ra R.length rc, .slice (some ⟨w5.drew.heap.size, 0, none⟩) 1 1]).run Tryz.prog (w5.drew.alloc (.cells (ic x a5 c5).toArray 46)) = .ok (.slice (some ⟨g', 0, none⟩) (R.length + 1) c') w6 := fun ty => by have := hr6 ty; rw [List.append_nil] at this; exact this
      have HTk : Hid (items.take (k + 1) = items.take k ++ [x]) := ⟨by rw [List.take_add_one, HX.out]; rfl⟩
      have hz6 : Bj w6 wr.heap.size x ma mc := by
        unfold Bj
        rw [k6 _ (by have h2 := HB5.out.size; have h3 := HS1.out; show _ < w5.heap.size; omega) (fun q => by
          have := own_type (HO.out.later hB5.out).mq.own q
          obtain ⟨cs, e⟩ := this
          unfold Bj at z5
          rw [z5] at e
          injection e with e
          injection e with _ e
          exact absurd e (by decide))]
        exact z5
      have HZ6 := Hid.mk hz6
      clear hr6 o6 s6 b6 k6 bx hz6 c0 c1 c2 c3 c4
      have XC : Hid (∀ w', Bj w' wr.heap.size x ma mc → w'.cell? ⟨wr.heap.size, 0, none⟩ = some (str x.key) ∧ w'.cell? ⟨wr.heap.size, 1, none⟩ = some (.int .i64 x.seq) ∧ w'.cell? ⟨wr.heap.size, 2, none⟩ = some (.bool x.mkr) ∧ w'.cell? ⟨wr.heap.size, 3, none⟩ = some (.int .i64 x.size) ∧ w'.cell? ⟨wr.heap.size, 4, none⟩ = some (.slice ma x.l.length mc) ∧ w'.rangeAt wr.heap.size 5 (hv x.g)) := ⟨fun w' h => by
        obtain ⟨c0, c1, c2, c3, c4⟩ := h.cells
        exact ⟨c0, c1, c2, c3, c4, fun j v hj => by refine h.range (5 + j) v ?_ |> fun q => by simpa using q
                                                    unfold ic; rw [List.getElem?_append_right (by simp)]; simpa using hj⟩⟩
      have HZ5 : Hid (Bj w5.drew wr.heap.size x ma mc ∧ ∀ o, Bj (w5.drew.alloc o) wr.heap.size x ma mc) := ⟨z5, fun o => z5.later ((Below.refl _ _).alloc (Nat.le_refl _) o)⟩
      have hu32 := Tryz.underlying44
      have hi32 : (Tryz.prog.info? 44).map (·.size) = some (hv x.g).length := by rw [hv_length]; exact infoH
      clear z5
      go_region_held3 (fun w' => w'.cell? ⟨wr.heap.size, 0, none⟩ = some (str x.key) ∧ w'.cell? ⟨wr.heap.size, 1, none⟩ = some (.int .i64 x.seq) ∧ w'.cell? ⟨wr.heap.size, 2, none⟩ = some (.bool x.mkr) ∧ w'.cell? ⟨wr.heap.size, 3, none⟩ = some (.int .i64 x.size) ∧ w'.cell? ⟨wr.heap.size, 4, none⟩ = some (.slice ma x.l.length mc) ∧ w'.rangeAt wr.heap.size 5 (hv x.g)) (first
        | exact XC.out _ HZ5.out.1
        | exact XC.out _ (HZ5.out.2 _)
        | exact XC.out _ HZ6.out) (((with_reducible (refine at_sta rfl ?_)); refine step_run rfl _ _ rfl rfl rfl (hr _) ?_))
      all_goals (
        clear hr hsl hbd XC HZ5 hu32 hi32
        go_wp2_with fail
        refine ⟨⟨k + 1, R ++ [(x, a5, c5)], _, _, hlt, by first | (rw [hw1]; done) | rfl | go_num, by rw [List.length_append]; rfl, ⟨by simp [hRk.out]⟩, ⟨by rw [List.length_append]; exact HF.out⟩, ⟨by rw [List.map_append, HR.out, HTk.out]; rfl⟩⟩, by first | (rw [hw1]; exact Nat.sub_lt_sub_left hlt (Nat.lt_succ_self k)) | (simp [intOf]; omega)⟩)
    · obtain rfl : k = items.length := Nat.le_antisymm hk (Nat.le_of_not_lt hlt)
      have d3 : decide ((items.length : Int) < (items.length : Int)) = false := decide_eq_false (fun q => Int.lt_irrefl _ q)
      have HR1 : Hid (R.map (·.1) = items) := ⟨by have := HR.out; rwa [List.take_length] at this⟩
      have hle5 : w.heap.size + 2 ≤ wr.heap.size := HO.out.mq.le
      obtain ⟨g', c', w6, hr6, o6, s6, b6, k6⟩ := run_rk (mkI, none, 0) HO.out.mq.own hle5 (by have := hRk.out; simp; omega)
      have hr : ∀ ty, (Builtin.append_ #[26, 26] ty #[.slice ra R.length rc, .slice (some ⟨wr.heap.size, 0, none⟩) 1 1]).run Tryz.prog (wr.alloc (.cells (ic mkI none 0).toArray 46)) = .ok (.slice (some ⟨g', 0, none⟩) (R.length + 1) c') w6 := fun ty => by have := hr6 ty; rw [List.append_nil] at this; exact this
      have hg0 : Bn3 w6 w.heap.size since next (.slice a items.length cap) := by have h := HO.out.g0; unfold Bn3 at h ⊢; rw [b6.block _ (by omega)]; exact h
      have hg1 : Bm3 w6 (w.heap.size + 1) 0 0 (.slice none 0 0) := HO.out.g1.oth (b6.block _ (by omega))
      have HM : Hid (Mk (w.heap.size + 2) w6 (.slice (some ⟨g', 0, none⟩) (R.length + 1) c') R [(mkI, none, 0)]) := ⟨by
        refine ⟨by simpa using o6, Nat.le_trans hle5 s6, fun k r hk => ?_⟩
        have hx := HO.out.mq.met k r hk
        exact hx.stay s6 (fun g hg => k6 g (hx.own.lt g hg).2 (fun q => own_apart hx.own HO.out.mq.own (by decide) hg q))⟩
      have HB6 : Hid (Below w.heap.size w w6) := ⟨HO.out.bel.trans (b6.mono (by omega))⟩
      obtain ⟨cap6, hc6⟩ : ∃ n, n = R.length + 1 := ⟨_, rfl⟩
      have hcap : Hid (items.length ≤ c' ∧ c' ≤ 9223372036854775807) := ⟨by
        rcases o6.2 with ⟨e, _⟩ | ⟨g2, cap2, cur, e, h2, h3, h4, h5, h6⟩
        · cases e
        · injection e with _ e1 e2
          simp only [List.append_nil] at h4
          rw [e2]
          exact ⟨by have := hRk.out; omega, h5⟩⟩
      have hbm := run_bdM
      have hsI := fun w => run_slI (some ⟨g', 0, none⟩) (R.length + 1) c' items.length hcap.out.1 hcap.out.2 (fun q => by cases q) w
      clear hr6 o6 s6 b6 k6 hle5 hc6
      go_wp2_with (refine app_run rfl _ _ rfl rfl rfl (hr _) ?_; clear hr)
      have hd0 : Bn3 w6.drew w.heap.size since next (.slice a items.length cap) := hg0
      have hd1 : Bm3 w6.drew (w.heap.size + 1) 0 0 (.slice none 0 0) := hg1
      obtain ⟨t0, t1, t2⟩ := hd1.cells
      have f0 := hd1.fz 0
      have f1 := hd1.fz 1
      have f2 := hd1.fz 2
      have XC : Hid (∀ w', Below (w.heap.size + 1) w6.drew w' → w'.cell? ⟨w.heap.size, 0, none⟩ = some (.int .i64 since) ∧ w'.cell? ⟨w.heap.size, 1, none⟩ = some (.int .i64 next) ∧ w'.cell? ⟨w.heap.size, 2, none⟩ = some (.slice a items.length cap)) := ⟨fun w' h => by
        have hb := fun j => h.cell (p := ⟨w.heap.size, j, none⟩) (Nat.lt_succ_self _)
        obtain ⟨c0, c1, c2⟩ := hd0.cells
        exact ⟨(hb 0).trans c0, (hb 1).trans c1, (hb 2).trans c2⟩⟩
      have HBw : Hid (Below w.heap.size w (((w6.setCell ⟨w.heap.size + 1, 0, none⟩ (.int .i64 since)).setCell ⟨w.heap.size + 1, 1, none⟩ (.int .i64 next)).setCell ⟨w.heap.size + 1, 2, none⟩ (.slice (some ⟨g', 0, none⟩) items.length c')).drew) := ⟨(below3 (r := w.heap.size + 1) HB6.out (Nat.le_succ _) (.int .i64 since) (.int .i64 next) (.slice (some ⟨g', 0, none⟩) items.length c')).drew⟩
      have HG : Hid (Bm3 (((w6.setCell ⟨w.heap.size + 1, 0, none⟩ (.int .i64 since)).setCell ⟨w.heap.size + 1, 1, none⟩ (.int .i64 next)).setCell ⟨w.heap.size + 1, 2, none⟩ (.slice (some ⟨g', 0, none⟩) items.length c')).drew (w.heap.size + 1) since next (.slice (some ⟨g', 0, none⟩) items.length c')) := ⟨hg1.set3 since next (.slice (some ⟨g', 0, none⟩) items.length c')⟩
      obtain ⟨t0', t1', t2'⟩ := hg1.cells
      have f0' := hg1.fz 0
      have f1' := hg1.fz 1
      have f2' := hg1.fz 2
      have HM2 : Hid (Mk w.heap.size ((((w6.setCell ⟨w.heap.size + 1, 0, none⟩ (.int .i64 since)).setCell ⟨w.heap.size + 1, 1, none⟩ (.int .i64 next)).setCell ⟨w.heap.size + 1, 2, none⟩ (.slice (some ⟨g', 0, none⟩) items.length c')).drew) (.slice (some ⟨g', 0, none⟩) (R.length + 1) c') R [(mkI, none, 0)]) := ⟨((HM.out.stay (w' := (((w6.setCell ⟨w.heap.size + 1, 0, none⟩ (.int .i64 since)).setCell ⟨w.heap.size + 1, 1, none⟩ (.int .i64 next)).setCell ⟨w.heap.size + 1, 2, none⟩ (.slice (some ⟨g', 0, none⟩) items.length c')).drew) (by show w6.heap.size ≤ (((w6.setCell _ _).setCell _ _).setCell _ _).heap.size; simp) (fun g hg hg2 => by show (((w6.setCell _ _).setCell _ _).setCell _ _).heap[g]? = _; rw [hso _ _ (by omega), hso _ _ (by omega), hso _ _ (by omega)]))).base (by omega)⟩
      clear hg0 hg1 hd0 hd1
      obtain ⟨c0, c1, c2⟩ := XC.out _ (Below.refl _ _)
      go_region_law (fail)
      all_goals (
        go_wp2_with fail
        generalize (((w6.setCell ⟨w.heap.size + 1, 0, none⟩ (.int .i64 since)).setCell ⟨w.heap.size + 1, 1, none⟩ (.int .i64 next)).setCell ⟨w.heap.size + 1, 2, none⟩ (.slice (some ⟨g', 0, none⟩) items.length c')).drew = W8 at *
        obtain ⟨q0, q1, q2⟩ := HG.out.cells
        refine bodyPost_ret (v := .tuple #[.agg #[.int .i64 since, .int .i64 next, .slice (some ⟨g', 0, none⟩) items.length c'], .slice (some ⟨g', 0, none⟩) (R.length + 1) c']) ?_ rfl ⟨R, some ⟨g', 0, none⟩, c', by rw [hRk.out], HR1.out, HM2.out, HBw.out⟩
        rw [results_ct2 rfl]
        go_simp)
end Go.Proofs.YtkkhmlcnfnaadaaGreatDoor
