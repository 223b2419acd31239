import Derived.Test.YtbiponnchppndaaGreatDoorMRx
import Derived.Test.YtbiponnchppndaaGreatDoorGs
/- Rows of texts of one's own. -/
namespace Go.Proofs.YtbiponnchppndaaGreatDoor
set_option maxRecDepth 100000
set_option linter.unusedVariables false
set_option linter.unusedSimpArgs false
open Go.RowKit
def svs (ts : List (List UInt8)) : List Value := ts.map str
/-- a row of texts of one's own -/
structure So (base : Nat) (w : World) (v : Value) (ts : List (List UInt8)) : Prop where
  own : w.ownsRow base 9 1 v ts.length (svs ts)
  le : base ≤ w.heap.size
theorem So.nil (w : World) (base : Nat) (h : base ≤ w.heap.size) : So base w (.slice none 0 0) [] := ⟨World.ownsRow_nil _ _ _ _, h⟩
theorem So.later {base : Nat} {w w' : World} {v : Value} {R : List (List UInt8)} (h : So base w v R) (hb : Below w.heap.size w w') : So base w' v R := ⟨own_later h.own hb, Nat.le_trans h.le hb.size⟩
theorem info9f : (Tryz.prog.info? 9).map (fun i => (i.zero, i.size, i.bytes)) = some (some (.string ⟨#[]⟩), 1, 16) := by kernel_rfl
theorem info9 : ∃ i, Tryz.prog.info? 9 = some i ∧ i.zero = some (.string ⟨#[]⟩) ∧ i.size = 1 ∧ i.bytes = 16 := by
  have h := info9f
  cases hi : Tryz.prog.info? 9 with
  | none => rw [hi] at h; cases h
  | some i => rw [hi] at h; simp at h; exact ⟨i, rfl, h.1, h.2.1, h.2.2⟩
theorem app_s {ops : Array Oper} {rest : List Oper} {o : Oper} {a : Act} {Q : Exit → Act → World → Prop} {W : World} (hgd : o.guard = none) (s x : Operand) (ho : o.op = .call { callee := .builtin .append, args := #[s, x], argTypes := #[34, 34] })
    {base : Nat} {w : World} {v : Value} {l : List (List UInt8)} {g : Nat} (ps : List (List UInt8)) (hp : ps.length ≤ 16) (hW : W = w.alloc (.cells (svs ps).toArray 9)) (hO : So base w v l) (hg : g = w.heap.size) (hn : l.length ≤ 4500000000000)
    (hs : a.eval s = v) (hx : a.eval x = .slice (some ⟨g, 0, none⟩) ps.length ps.length)
    (h : ∀ v' w', So base w' v' (l ++ ps) → Below base w w' → wpList Tryz.prog ops Q rest (a.put o.dst v') w') :
    wpList Tryz.prog ops Q (o :: rest) a W := by
  obtain ⟨i0, hi0, hz0, hz1, hz2⟩ := info9
  subst hW hg
  have hm : maxLen = 9223372036854775807 := rfl
  refine wpList_append_own_wide _ hgd s x 34 ho base 9 i0 _ 1 16 Tryz.underlying34 hi0 hz0 hz1 hz2 rfl (by omega) v l.length (svs l) hs (hO.own.alloc _) _ ps.length ps.length (svs ps) hx (by simp [svs])
    (World.news_of_block (cs := (svs ps).toArray) (t := 9) (fr := (0, 0)) (heap_alloc_new w _)) (by intro u hu; unfold svs at hu; obtain ⟨q, _, rfl⟩ := List.mem_map.1 hu; rfl) (by rw [hm]; omega) (by omega) (by have := hO.le; simp; omega) ?_
  intro v' w' hown hgrow _
  refine h v' w' ⟨?_, ?_⟩ ?_
  · unfold svs; rw [List.map_append, List.length_append]; exact hown
  · have := hgrow.size; have h2 := hO.le; simp at this; omega
  · exact ((Below.refl _ _).alloc hO.le _).trans (grown_below (hO.own.alloc _) (by have := hO.le; simp; omega) hgrow)
/-- the texts that a slice holds -/
structure TIn (w : World) (a : Option Addr) (ts : List (List UInt8)) : Prop where
  get : ∀ k t, ts[k]? = some t → ∃ b off, a = some ⟨b, off, none⟩ ∧ b < w.heap.size ∧ w.cell? ⟨b, off + k, none⟩ = some (str t)
theorem TIn.later {w w' : World} {a : Option Addr} {l : List (List UInt8)} (h : TIn w a l) (hb : Below w.heap.size w w') : TIn w' a l := by
  refine ⟨fun k p hk => ?_⟩
  obtain ⟨b, off, h1, h2, h3⟩ := h.get k p hk
  exact ⟨b, off, h1, Nat.lt_of_lt_of_le h2 hb.size, by rw [hb.cell (p := ⟨b, _, none⟩) h2]; exact h3⟩
theorem So.slice {base : Nat} {w : World} {v : Value} {l : List (List UInt8)} (h : So base w v l) : ∃ a cap, v = .slice a l.length cap ∧ TIn w a l := by
  rcases h.own.2 with ⟨rfl, h0⟩ | ⟨g, cap, cur, rfl, _⟩
  · have : l = [] := List.eq_nil_of_length_eq_zero h0
    subst this
    exact ⟨none, 0, rfl, ⟨fun k p hk => by simp at hk⟩⟩
  · refine ⟨_, _, rfl, ⟨fun k p hk => ?_⟩⟩
    have hkl := (List.getElem?_eq_some_iff.1 hk).1
    have hlt := (h.own.lt g rfl).2
    refine ⟨g, 0, rfl, hlt, ?_⟩
    rw [Nat.zero_add, h.own.cellAt _ (by omega)]
    unfold svs
    rw [List.getElem?_map, hk]
    rfl
end Go.Proofs.YtbiponnchppndaaGreatDoor

/- The law's records: a text's records as texts. -/
namespace Go.Proofs.YtbiponnchppndaaGreatDoor
set_option maxRecDepth 100000
set_option linter.unusedVariables false
set_option linter.unusedSimpArgs false
open Go.RowKit
open Go.Proofs.YtbiponnchppndaaGreatDoorP (TB recd nn LEN key Rd RdAt)
attribute [local go_sem ↓] Go.wp_at_zero Go.wp_at_succ sl9
theorem txt_split {R : List Kv} {k : Nat} {q : Kv} (hq : R[k]? = some q) : txt R = txt (R.take k) ++ (recd q.1 q.2 ++ txt (R.drop (k + 1))) := by
  obtain ⟨hk, he⟩ := List.getElem?_eq_some_iff.1 hq
  have e : R = R.take k ++ (q :: R.drop (k + 1)) := by
    rw [← he, List.getElem_cons_drop]
    simp
  conv => lhs; rw [e]
  rw [txt_append, txt_cons]
theorem rd_at {R : List Kv} (hR : Kvs R) {k : Nat} {q : Kv} (hq : R[k]? = some q) : Rd ((txt R).drop (txt (R.take k)).length) q.1 q.2 := by
  have h := hR q (List.mem_of_getElem? hq)
  refine ⟨h.1, h.2, txt (R.drop (k + 1)), ?_⟩
  rw [txt_split hq, List.drop_left]
theorem mid_at {R : List Kv} {k : Nat} {q : Kv} (hq : R[k]? = some q) : ((txt R).drop (txt (R.take k)).length).take ((txt (R.take (k + 1))).length - (txt (R.take k)).length) = recd q.1 q.2 := by
  rw [txt_take hq, List.length_append, Nat.add_sub_cancel_left]
  rw [txt_split hq, List.drop_left, List.take_left]
theorem pos_le (R : List Kv) (k : Nat) : (txt (R.take k)).length ≤ (txt R).length := by
  have e : txt R = txt (R.take k) ++ txt (R.drop k) := by rw [← txt_append, List.take_append_drop]
  rw [e, List.length_append]; omega
set_option maxHeartbeats 4000000 in
theorem records_any (R : List Kv) (hR : Kvs R) (hl : (txt R).length ≤ 200000000000) (hn : R.length ≤ 100000) (w : World) (hT : TB w) :
    Calls Tryz.prog 12 #[str (txt R)] w fun e w' => ∃ v, e = .returned v ∧ So w.heap.size w' v (R.map fun p => recd p.1 p.2) ∧ Below w.heap.size w w' := by
  obtain ⟨P, hP⟩ : ∃ P : Nat → Nat, P = fun k => (txt (R.take k)).length := ⟨_, rfl⟩
  obtain ⟨X, hX⟩ : ∃ X, X = txt R := ⟨_, rfl⟩
  have HP0 : Hid (P 0 = 0) := ⟨by rw [hP]; rfl⟩
  have HPn : Hid (P R.length = X.length) := ⟨by rw [hP, hX]; simp only [List.take_length]⟩
  have HPl : Hid (∀ k, P k ≤ X.length) := ⟨fun k => by rw [hP, hX]; exact pos_le R k⟩
  have HPs : Hid (∀ k q, R[k]? = some q → P (k + 1) = P k + LEN (nn q.1 q.2) ∧ P k < P (k + 1) ∧ Rd (X.drop (P k)) q.1 q.2 ∧ (X.drop (P k)).take (P (k + 1) - P k) = recd q.1 q.2) := ⟨fun k q hq => by
    have e1 : P (k + 1) = P k + LEN (nn q.1 q.2) := by rw [hP]; simp only; rw [txt_take hq, List.length_append, Go.Proofs.YtbiponnchppndaaGreatDoorP.recd_length]
    have e2 := Go.Proofs.YtbiponnchppndaaGreatDoorP.LEN_pos (nn q.1 q.2)
    refine ⟨e1, by omega, ?_, ?_⟩
    · rw [hP, hX]; exact rd_at hR hq
    · rw [hP, hX]; exact mid_at hq⟩
  have Hl : Hid (X.length ≤ 200000000000) := ⟨by rw [hX]; exact hl⟩
  have Hn := Hid.mk hn
  rw [← hX]
  clear hP hX hl hn hR
  go_enter Tryz.func12, Tryz.ntmps12
  go_wp2_with fail
  go_loopw [3, 4] (fun l p wr => ∃ k : Nat, k ≤ R.length ∧ p = .int .i64 (P k : Int) ∧ Hid (So w.heap.size wr l ((R.take k).map fun p => recd p.1 p.2)) ∧ Hid (Below w.heap.size w wr)) (fun _ p _ => X.length - (intOf p).toNat)
  case atStart => exact ⟨0, Nat.zero_le _, by rw [HP0.out]; rfl, ⟨So.nil w _ (Nat.le_refl _)⟩, ⟨Below.refl _ _⟩⟩
  case round =>
    obtain ⟨k, hk, rfl, hs, hb⟩ := hrel
    have hpk := HPl.out k
    have hxl := Hl.out
    have hrd := Go.Proofs.YtbiponnchppndaaGreatDoorP.read_any ⟨X.toArray⟩ (P k : Int) (by rw [str_size]; omega) (by omega) wr (hT.below hb.out)
    by_cases hlt : k < R.length
    · obtain ⟨q, hq⟩ : ∃ q, R[k]? = some q := ⟨R[k], List.getElem?_eq_getElem hlt⟩
      obtain ⟨s1, s2, s3, s4⟩ := HPs.out k q hq
      have hpk2 := HPl.out (k + 1)
      have hmd := fun w => run_mid X (P k) (P (k + 1)) (by omega) hpk2 (by omega) w
      rw [s4] at hmd
      have d1 : decide ((P (k + 1) : Int) ≤ (P k : Int)) = false := decide_eq_false (by omega)
      have d2 : decide ((X.length : Int) < (P (k + 1) : Int)) = false := decide_eq_false (by omega)
      have d3 : decide (P (k + 1) ≤ P k) = false := decide_eq_false (by omega)
      have d4 : decide (X.length < P (k + 1)) = false := decide_eq_false (by omega)
      have HM : Hid (X.length - P (k + 1) < X.length - P k) := ⟨by omega⟩
      have HTk : Hid ((R.take (k + 1)).map (fun p => recd p.1 p.2) = (R.take k).map (fun p => recd p.1 p.2) ++ [recd q.1 q.2]) := ⟨by rw [List.take_add_one, hq]; simp⟩
      have HLn : Hid (((R.take k).map fun p => recd p.1 p.2).length ≤ 4500000000000) := ⟨by have := Hn.out; simp; omega⟩
      have HE : Hid (∀ (ky vl : List UInt8) (n er : Int), RdAt X (P k : Int) ky vl n er → n = (P (k + 1) : Int) ∧ er = 0) := ⟨fun ky vl n er h => by
        rcases h.at' (by omega) (by omega) with ⟨h1, h2, h3⟩ | ⟨_, _, _, _, h5⟩
        · rw [Int.toNat_natCast] at h2
          obtain ⟨e1, e2⟩ := h2.uniq s3
          rw [e1, e2] at h3
          exact ⟨by rw [h3, s1]; simp, h1⟩
        · exact absurd (by rw [Int.toNat_natCast]; exact s3) (h5 q.1 q.2)⟩
      clear s1 s2 s3 s4 hpk hpk2 hxl hq
      go_wp2_with fail
      with_reducible refine Calls.mono hrd ?_
      rintro e w1 ⟨ky, vl, n, er, rfl, hat, b1⟩
      obtain ⟨rfl, rfl⟩ := HE.out _ _ _ _ hat
      have HS1 := Hid.mk (hs.out.later b1)
      have HB1 := Hid.mk (below_seq hb.out b1)
      clear hat hrd hs hb b1
      dsimp only
      generalize (recd q.1 q.2) = rr at *
      go_wp2_with (refine app_s rfl _ _ rfl [rr] (by simp) rfl HS1.out rfl HLn.out rfl rfl ?_; intro v' w' hs' hb')
      exact ⟨⟨k + 1, hlt, rfl, ⟨by rw [HTk.out]; exact hs'⟩, ⟨HB1.out.trans hb'⟩⟩, by simpa [intOf] using HM.out⟩
    · obtain rfl : k = R.length := by omega
      have HE : Hid (∀ (ky vl : List UInt8) (n er : Int), RdAt X (P R.length : Int) ky vl n er → n = 0 ∧ er = 5) := ⟨fun ky vl n er h => by
        obtain ⟨_, _, h3, h4⟩ := h.none (by rw [HPn.out])
        exact ⟨h3, h4⟩⟩
      clear hpk hxl
      go_wp2_with fail
      with_reducible refine Calls.mono hrd ?_
      rintro e w1 ⟨ky, vl, n, er, rfl, hat, b1⟩
      obtain ⟨rfl, rfl⟩ := HE.out _ _ _ _ hat
      have HS1 := Hid.mk (hs.out.later b1)
      have HB1 := Hid.mk (below_seq hb.out b1)
      clear hat hrd hs hb b1
      dsimp only
      go_wp2_with fail
      go_ret
      exact ⟨_, rfl, by simpa using HS1.out, HB1.out⟩
end Go.Proofs.YtbiponnchppndaaGreatDoor
