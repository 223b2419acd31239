import Derived.Test.YtdfjlmfnkhhnjaaGreatDoorQRt
import Derived.Deep.QuietTactic
import Derived.Test.YtdfjlmfnkhhnjaaGreatDoorGd
/- The document's SamePairs. -/
namespace Go.Proofs.YtdfjlmfnkhhnjaaGreatDoor
set_option maxRecDepth 100000
set_option linter.unusedVariables false
set_option linter.unusedSimpArgs false
open Go.RowKit
attribute [local go_sem ↓] Go.wp_at_zero Go.wp_at_succ
theorem takeP {α : Type} {a b : List α} {k : Nat} {p : α} (hp : a[k]? = some p) (hq : b[k]? = some p) (h : a.take k = b.take k) : a.take (k + 1) = b.take (k + 1) := by
  rw [List.take_add_one, List.take_add_one, hp, hq, h]
theorem takeN {α : Type} {a b : List α} {k : Nat} {p q : α} (hp : a[k]? = some p) (hq : b[k]? = some q) (h : ¬ p = q) : ¬ a = b := by
  rintro rfl
  rw [hp] at hq
  injection hq with hq
  exact h hq
def SaP {α : Type} (x y : α) (w : World) (e : Ending) (w' : World) : Prop := ∃ t, e = .returned (.bool t) ∧ (t = true ↔ x = y) ∧ Below w.heap.size w w'
theorem sa_no {α : Type} {x y : α} (h : ¬ x = y) : (false = true ↔ x = y) := ⟨fun q => (by cases q), fun q => absurd q h⟩
theorem sa_yes {α : Type} {x y : α} (h : x = y) : (true = true ↔ x = y) := ⟨fun _ => h, fun _ => rfl⟩
set_option maxHeartbeats 4000000 in
theorem samePairs_any (l l' : List En) (w : World) (a a' : Option Addr) (cap cap' : Nat) (hP : PIn w a l) (hP' : PIn w a' l') (hz : l.length ≤ 9223372036854775806) :
    Calls Tryz.prog 30 #[.slice a l.length cap, .slice a' l'.length cap'] w (SaP l l' w) := by
  have HP := Hid.mk hP
  have HP' := Hid.mk hP'
  clear hP hP'
  go_enter Tryz.func30, Tryz.ntmps30
  by_cases h5 : l.length = l'.length
  · have d5 : ((l.length : Int) == (l'.length : Int)) = true := by rw [beq_iff_eq]; omega
    have HL := Hid.mk h5
    clear h5
    go_wp2_with fail
    go_loopw [5] (fun i wr => ∃ k : Nat, k ≤ l.length ∧ i = .int .i64 (k : Int) ∧ Hid (l.take k = l'.take k) ∧ Hid (Below w.heap.size w wr)) (fun i _ => l.length - (intOf i).toNat)
    case atStart => exact ⟨0, Nat.zero_le _, rfl, ⟨by simp⟩, ⟨Below.refl _ _⟩⟩
    case round =>
      obtain ⟨k, hk, rfl, hab, HB⟩ := hrel
      by_cases h1 : k < l.length
      · have d1 : decide ((k : Int) < (l.length : Int)) = true := decide_eq_true (by omega)
        have h2 : k < l'.length := by rw [← HL.out]; exact h1
        have k1 : (k : Int) < (l.length : Int) := by omega
        have k2 : (k : Int) < (l'.length : Int) := by omega
        obtain ⟨p, hp⟩ : ∃ p, l[k]? = some p := ⟨l[k], List.getElem?_eq_getElem h1⟩
        obtain ⟨b1, off1, rfl, hbl, c0, c1⟩ := (HP.out.later HB.out).get k p hp
        obtain ⟨q, hq⟩ : ∃ q, l'[k]? = some q := ⟨l'[k], List.getElem?_eq_getElem h2⟩
        obtain ⟨b2, off2, rfl, hbl2, e0, e1⟩ := (HP'.out.later HB.out).get k q hq
        by_cases hpq : p = q
        · subst hpq
          have HT : Hid (l.take (k + 1) = l'.take (k + 1)) := ⟨takeP hp hq hab.out⟩
          clear hab
          go_wp2_with fail
          go_quiet (fail)
          go_wp2_with fail
          exact ⟨⟨k + 1, by omega, by go_num, HT, ⟨below_dN HB.out nq⟩⟩, by simp [intOf]; omega⟩
        · have HS : Hid (¬ l = l') := ⟨takeN hp hq hpq⟩
          clear hab
          obtain ⟨pk, pt⟩ := p
          obtain ⟨qk, qt⟩ := q
          dsimp only at *
          by_cases h3 : pk = qk
          · subst h3
            have d5 : (pt == qt) = false := by rw [beq_eq_false_iff_ne]; rintro rfl; exact hpq rfl
            clear hpq
            go_wp2_with fail
            go_quiet (fail)
            go_wp2_with fail
            go_ret
            exact ⟨_, rfl, sa_no HS.out, below_dN HB.out nq⟩
          · have d5 : (pk == qk) = false := by rw [beq_eq_false_iff_ne]; exact h3
            clear hpq
            go_wp2_with fail
            go_quiet (fail)
            go_wp2_with fail
            go_ret
            exact ⟨_, rfl, sa_no HS.out, below_dN HB.out nq⟩
      · obtain rfl : k = l.length := by omega
        have d1 : decide ((l.length : Int) < (l.length : Int)) = false := decide_eq_false (by omega)
        have HS : Hid (l = l') := ⟨by
          have e := hab.out
          rw [List.take_length] at e
          rw [HL.out, List.take_length] at e
          exact e⟩
        clear hab
        go_wp2_with fail
        go_ret
        exact ⟨_, rfl, sa_yes HS.out, HB.out⟩
  · have d5 : ((l.length : Int) == (l'.length : Int)) = false := by rw [beq_eq_false_iff_ne]; omega
    have d6 : (l.length == l'.length) = false := by rw [beq_eq_false_iff_ne]; exact h5
    have HS : Hid (¬ l = l') := ⟨by rintro rfl; exact h5 rfl⟩
    clear h5
    go_wp2_with fail
    go_ret
    exact ⟨_, rfl, sa_no HS.out, Below.refl _ _⟩
end Go.Proofs.YtdfjlmfnkhhnjaaGreatDoor

/- The document's Same. -/
namespace Go.Proofs.YtdfjlmfnkhhnjaaGreatDoor
set_option maxRecDepth 100000
set_option linter.unusedVariables false
set_option linter.unusedSimpArgs false
open Go.RowKit
open Go.Proofs.YtdfjlmfnkhhnjaaGreatDoorH (hv hv_length hv_one hv_eq hv_b32 hv_inj eqb eq22 eqb_of)
/-- two items are one, but for what lies behind the leaf's 32 bytes -/
def sI (x y : It) : Prop := x.key = y.key ∧ x.seq = y.seq ∧ x.mkr = y.mkr ∧ x.size = y.size ∧ hv x.g = hv y.g ∧ x.l = y.l
structure SaM (m n : Ma) : Prop where
  since : m.since = n.since
  next : m.next = n.next
  len : m.items.length = n.items.length
  it : ∀ (k : Nat) (x y : It), m.items[k]? = some x → n.items[k]? = some y → sI x y
theorem eqb_hv {g h : Nat → UInt8} : eqb g h = true ↔ hv g = hv h := by
  constructor
  · intro e
    rw [hv_eq, hv_eq]
    refine List.map_congr_left fun j hj => ?_
    unfold eqb at e
    have := List.all_eq_true.1 e j hj
    rw [beq_iff_eq.1 this]
  · intro e
    exact eqb_of fun i hi => hv_inj e i hi
noncomputable def ldH (v : Value) : Sem Value := Instr.loadAt 44 v
theorem ldHe (v : Value) : Instr.loadAt 44 v = ldH v := rfl
noncomputable def eqH (p q : Value) : Sem Bool := Op.equalIn 10000 44 p q
theorem eqHe (p q : Value) : Op.equalIn 10000 44 p q = eqH p q := rfl
theorem infoH : (Tryz.prog.info? 44).map (·.size) = some 32 := by kernel_rfl
theorem run_ldH {w : World} {g : Nat} {x : It} {a : Option Addr} {c : Nat} (h : Bj w g x a c) : (ldH (.pointer (some ⟨g, 5, none⟩))).run Tryz.prog w = .ok (.agg (hv x.g).toArray) w := by
  unfold ldH
  refine run_loadAt_mid (P := Tryz.prog) w g 5 44 (hv x.g) _ ?_ Tryz.underlying44 rfl (by rw [hv_length]; exact infoH)
  intro j v hj
  refine h.range (5 + j) v ?_ |> fun q => by simpa using q
  unfold ic
  rw [List.getElem?_append_right (by simp)]
  simpa using hj
theorem run_eqH (g h : Nat → UInt8) (w : World) : (eqH (.agg (hv g).toArray) (.agg (hv h).toArray)).run Tryz.prog w = .ok (eqb g h) w := by
  unfold eqH
  rw [hv_b32, hv_b32]
  exact eq22 g h w
attribute [local go_sem ↓] Go.wp_at_zero Go.wp_at_succ ldQe stQe ldHe eqHe
theorem sam_no {m n : Ma} {k : Nat} {x y : It} (hx : m.items[k]? = some x) (hy : n.items[k]? = some y) (h : ¬ sI x y) : ¬ SaM m n := fun q => h (q.it k x y hx hy)
set_option maxHeartbeats 8000000 in
theorem qSame_any (m n : Ma) (w : World) (a a' : Option Addr) (cap cap' : Nat) (hL : IIt w a m.items) (hL' : IIt w a' n.items) (hz : ∀ x ∈ m.items, x.l.length ≤ 4398046510976) (hl : m.items.length ≤ 1466015503700) :
    Calls Tryz.prog 12 #[.agg #[.int .i64 m.since, .int .i64 m.next, .slice a m.items.length cap], .agg #[.int .i64 n.since, .int .i64 n.next, .slice a' n.items.length cap']] w fun e w' => ∃ t, e = .returned (.bool t) ∧ (t = true ↔ SaM m n) ∧ Below w.heap.size w w' := by
  have b0 := (Below.refl w.heap.size w).alloc (Nat.le_refl _) (.cells #[.int .i64 m.since, .int .i64 m.next, .slice a m.items.length cap] 38)
  have b1 := b0.alloc b0.size (.cells #[.int .i64 n.since, .int .i64 n.next, .slice a' n.items.length cap'] 38)
  have bq := (Below.refl (w.alloc (.cells #[.int .i64 m.since, .int .i64 m.next, .slice a m.items.length cap] 38)).heap.size _).alloc (Nat.le_refl _) (.cells #[.int .i64 n.since, .int .i64 n.next, .slice a' n.items.length cap'] 38)
  have z0 := Hid.mk ((Bn3.new w m.since m.next (.slice a m.items.length cap)).later bq)
  have z1 := Bn3.new (w.alloc (.cells #[.int .i64 m.since, .int .i64 m.next, .slice a m.items.length cap] 38)) n.since n.next (.slice a' n.items.length cap')
  rw [World.size_alloc] at z1
  have z1 := Hid.mk z1
  obtain ⟨p0, p1, p2⟩ := z0.out.cells
  obtain ⟨y0, y1, y2⟩ := z1.out.cells
  have HL := Hid.mk (hL.later b1)
  have HL' := Hid.mk (hL'.later b1)
  have HZ := Hid.mk hz
  have HB0 := Hid.mk b1
  clear hL hL' hz b0 b1 bq
  obtain ⟨since, next, items⟩ := m
  obtain ⟨since', next', items'⟩ := n
  dsimp only at *
  go_enter Tryz.func12, Tryz.ntmps12
  by_cases h1 : since = since'
  case neg =>
    have d1 : (since != since') = true := bne_iff_ne.2 h1
    have HN : Hid (¬ SaM ⟨since, next, items⟩ ⟨since', next', items'⟩) := ⟨fun q => h1 q.since⟩
    clear h1
    go_wp2_with fail
    go_ret
    exact ⟨_, rfl, ff HN.out, HB0.out⟩
  by_cases h2 : next = next'
  case neg =>
    have d2 : (next != next') = true := bne_iff_ne.2 h2
    have HN : Hid (¬ SaM ⟨since, next, items⟩ ⟨since', next', items'⟩) := ⟨fun q => h2 q.next⟩
    have d1 : (since != since') = false := bne_eq_false_iff_eq.2 h1
    clear h1 h2
    go_wp2_with fail
    go_ret
    exact ⟨_, rfl, ff HN.out, HB0.out⟩
  subst h1 h2
  by_cases h3 : items.length = items'.length
  case neg =>
    have d3 : ((items.length : Int) != (items'.length : Int)) = true := by rw [bne_iff_ne]; omega
    have d3' : (items.length != items'.length) = true := by rw [bne_iff_ne]; exact h3
    have HN : Hid (¬ SaM ⟨since, next, items⟩ ⟨since, next, items'⟩) := ⟨fun q => h3 q.len⟩
    clear h3
    go_wp2_with fail
    go_ret
    exact ⟨_, rfl, ff HN.out, HB0.out⟩
  have d3 : ((items.length : Int) != (items'.length : Int)) = false := by rw [bne_eq_false_iff_eq]; omega
  have d3' : (items.length != items'.length) = false := by rw [bne_eq_false_iff_eq]; exact h3
  have H3 := Hid.mk h3
  clear h3
  go_wp2_with fail
  clear d3 d3' p0 p1 p2 y0 y1 y2
  generalize (w.alloc (.cells #[.int .i64 since, .int .i64 next, .slice a items.length cap] 38)).alloc (.cells #[.int .i64 since, .int .i64 next, .slice a' items'.length cap'] 38) = W1 at *
  have HBw : Hid (∀ w', Below W1.heap.size W1 w' → Below w.heap.size w w') := ⟨fun w' h => HB0.out.trans (h.mono HB0.out.size)⟩
  go_loopw [5] (fun i wr => ∃ k : Nat, k ≤ items.length ∧ i = .int .i64 (k : Int) ∧ Hid (∀ (j : Nat) (x y : It), j < k → items[j]? = some x → items'[j]? = some y → sI x y) ∧ Hid (Below W1.heap.size W1 wr)) (fun i _ => items.length - (intOf i).toNat)
  case atStart => exact ⟨0, Nat.zero_le _, rfl, ⟨fun j x y h => by omega⟩, ⟨Below.refl _ _⟩⟩
  case round =>
    obtain ⟨k, hk, rfl, HJ, hb⟩ := hrel
    obtain ⟨p0, p1, p2⟩ := (z0.out.later hb.out).cells
    obtain ⟨y0, y1, y2⟩ := (z1.out.later hb.out).cells
    by_cases hlt : k < items.length
    · have d1 : decide ((k : Int) < (items.length : Int)) = true := decide_eq_true (Int.ofNat_lt.2 hlt)
      have k2 : (k : Int) < (items.length : Int) := Int.ofNat_lt.2 hlt
      have hlt' : k < items'.length := by rw [← H3.out]; exact hlt
      have k3 : (k : Int) < (items'.length : Int) := Int.ofNat_lt.2 hlt'
      have hw1 : wrap64 ((k : Int) + 1) = ((k + 1 : Nat) : Int) := by unfold wrap64; omega
      obtain ⟨x, hx⟩ : ∃ x, items[k]? = some x := ⟨items[k], List.getElem?_eq_getElem hlt⟩
      obtain ⟨y, hy⟩ : ∃ y, items'[k]? = some y := ⟨items'[k], List.getElem?_eq_getElem hlt'⟩
      obtain ⟨b, off, ma, mc, rfl, hbl, hr, hs⟩ := (HL.out.later hb.out).get k x hx
      have l1 := run_ldQ hr
      have s1 := run_stQ wr x ma mc
      have bx := (Below.refl wr.heap.size wr).alloc (Nat.le_refl _) (.cells (ic x ma mc).toArray 81)
      have hb2 := hb.out.trans (bx.mono hb.out.size)
      obtain ⟨b', off', na, nc, rfl, hbl', hr', hs'⟩ := (HL'.out.later hb2).get k y hy
      have l2 := run_ldQ hr'
      have s2 := run_stQ (wr.alloc (.cells (ic x ma mc).toArray 81)) y na nc
      have by' := (Below.refl (wr.alloc (.cells (ic x ma mc).toArray 81)).heap.size _).alloc (Nat.le_refl _) (.cells (ic y na nc).toArray 81)
      have hb3 := Hid.mk (hb2.trans (by'.mono hb2.size))
      obtain ⟨v0, v1, v2⟩ := ((z1.out.later hb.out).later bx).cells
      rw [World.size_alloc] at s2
      have zx := Hid.mk ((Bj.new wr x ma mc).later by')
      have zy := Bj.new (wr.alloc (.cells (ic x ma mc).toArray 81)) y na nc
      rw [World.size_alloc] at zy
      have zy := Hid.mk zy
      have Hs := Hid.mk ((hs.later bx).later by')
      have Hs' := Hid.mk (hs'.later by')
      obtain ⟨c0, c1, c2, c3, c4⟩ := zx.out.cells
      obtain ⟨e0, e1, e2, e3, e4⟩ := zy.out.cells
      have lx := run_ldH zx.out
      have ly := run_ldH zy.out
      clear hs hs' hr hr' bx by' hb2
      have hN : ¬ sI x y → Hid (¬ SaM ⟨since, next, items⟩ ⟨since, next, items'⟩) := fun h => ⟨sam_no hx hy h⟩
      by_cases g1 : x.key = y.key
      case neg =>
        have f1 : (x.key != y.key) = true := bne_iff_ne.2 g1
        have f1' : (x.key == y.key) = false := beq_eq_false_iff_ne.2 g1
        have HN := hN (fun q => g1 q.1)
        clear hN g1
        go_wp2_with fail
        go_ret
        exact ⟨_, rfl, ff HN.out, HBw.out _ hb3.out⟩
      have f1 : (x.key != y.key) = false := bne_eq_false_iff_eq.2 g1
      have f1' : (x.key == y.key) = true := beq_iff_eq.2 g1
      by_cases g2 : x.seq = y.seq
      case neg =>
        have f2 : (x.seq != y.seq) = true := bne_iff_ne.2 g2
        have HN := hN (fun q => g2 q.2.1)
        clear hN g1 g2
        go_wp2_with fail
        go_ret
        exact ⟨_, rfl, ff HN.out, HBw.out _ hb3.out⟩
      have f2 : (x.seq != y.seq) = false := bne_eq_false_iff_eq.2 g2
      by_cases g3 : x.mkr = y.mkr
      case neg =>
        have f3 : (x.mkr != y.mkr) = true := bne_iff_ne.2 g3
        have f3' : (x.mkr == y.mkr) = false := beq_eq_false_iff_ne.2 g3
        have HN := hN (fun q => g3 q.2.2.1)
        clear hN g1 g2 g3
        go_wp2_with fail
        go_ret
        exact ⟨_, rfl, ff HN.out, HBw.out _ hb3.out⟩
      have f3 : (x.mkr != y.mkr) = false := bne_eq_false_iff_eq.2 g3
      have f3' : (x.mkr == y.mkr) = true := beq_iff_eq.2 g3
      by_cases g4 : x.size = y.size
      case neg =>
        have f4 : (x.size != y.size) = true := bne_iff_ne.2 g4
        have HN := hN (fun q => g4 q.2.2.2.1)
        clear hN g1 g2 g3 g4
        go_wp2_with fail
        go_ret
        exact ⟨_, rfl, ff HN.out, HBw.out _ hb3.out⟩
      have f4 : (x.size != y.size) = false := bne_eq_false_iff_eq.2 g4
      by_cases g5 : hv x.g = hv y.g
      case neg =>
        have f5 : eqb x.g y.g = false := by
          cases h : eqb x.g y.g with
          | false => rfl
          | true => exact absurd (eqb_hv.1 h) g5
        have f6 := run_eqH x.g y.g
        rw [f5] at f6
        have HN := hN (fun q => g5 q.2.2.2.2.1)
        clear hN g1 g2 g3 g4 g5
        go_wp2_with fail
        go_ret
        exact ⟨_, rfl, ff HN.out, HBw.out _ hb3.out⟩
      have f5 : eqb x.g y.g = true := eqb_hv.2 g5
      have f6 := run_eqH x.g y.g
      rw [f5] at f6
      have HY : Hid (x.l = y.l → sI x y) := ⟨fun h => ⟨g1, g2, g3, g4, g5, h⟩⟩
      have hca := samePairs_any x.l y.l _ ma na mc nc Hs.out.at' Hs'.out.at' (Nat.le_trans (HZ.out x (List.mem_of_getElem? hx)) (by decide))
      clear g1 g2 g3 g4 g5
      go_wp2_with fail
      with_reducible refine Calls.mono hca ?_
      rintro e w2 ⟨t, rfl, ht, b2⟩
      dsimp only
      clear hca
      have HB2 : Hid (Below W1.heap.size W1 w2) := ⟨below_seq hb3.out b2⟩
      clear b2
      cases t with
      | false =>
        have HN := hN (fun q => by have := ht.2 q.2.2.2.2.2; cases this)
        clear hN ht
        go_wp2_with fail
        go_ret
        exact ⟨_, rfl, ff HN.out, HBw.out _ HB2.out⟩
      | true =>
        have HI : Hid (∀ (j : Nat) (x y : It), j < k + 1 → items[j]? = some x → items'[j]? = some y → sI x y) := ⟨fun j u v hj hu hv => by
          by_cases e : j = k
          · subst e
            rw [hx] at hu
            rw [hy] at hv
            injection hu with hu
            injection hv with hv
            subst hu hv
            exact HY.out (ht.1 rfl)
          · exact HJ.out j u v (by omega) hu hv⟩
        clear hN ht
        go_wp2_with fail
        exact ⟨⟨k + 1, hlt, rfl, HI, HB2⟩, by simp only [intOf, Int.toNat_natCast]; omega⟩
    · obtain rfl : k = items.length := by omega
      have d1 : decide ((items.length : Int) < (items.length : Int)) = false := decide_eq_false (by omega)
      have HI : Hid (SaM ⟨since, next, items⟩ ⟨since, next, items'⟩) := ⟨⟨rfl, rfl, H3.out, fun k x y hx hy => HJ.out k x y (List.getElem?_eq_some_iff.1 hx).1 hx hy⟩⟩
      go_wp2_with fail
      go_ret
      exact ⟨_, rfl, ⟨fun _ => HI.out, fun _ => rfl⟩, HBw.out _ hb.out⟩
end Go.Proofs.YtdfjlmfnkhhnjaaGreatDoor
