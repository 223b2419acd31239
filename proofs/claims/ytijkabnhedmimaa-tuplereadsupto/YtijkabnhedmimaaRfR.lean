/- The reference: Read. -/
import Derived.Test.YtijkabnhedmimaaRfT
import Derived.Test.YtijkabnhedmimaaRd
namespace Go.Proofs.Ytijkabnhedmimaa
set_option linter.unusedVariables false
set_option linter.unusedSimpArgs false
open Go.RowKit
theorem infoRf : (Try.prog.info? 54).map (fun i => (i.zero, i.size, i.bytes)) = some (some (.agg #[.int .i64 0, .string ⟨#[]⟩, .int .i64 0]), 3, 32) := by kernel_rfl
theorem infoR : ∃ i, Try.prog.info? 54 = some i ∧ i.zero = some (.agg #[.int .i64 0, .string ⟨#[]⟩, .int .i64 0]) ∧ i.size = 3 ∧ i.bytes = 32 := by
  have := infoRf
  cases hq : Try.prog.info? 54 with
  | none => rw [hq] at this; cases this
  | some i => rw [hq] at this; simp at this; exact ⟨i, rfl, this.1, this.2.1, this.2.2⟩
/-- a row of parts of its own, made behind 'base' -/
structure OwR (base : Nat) (w : World) (v : Value) (l : List Pt) : Prop where
  own : w.ownsRow base 54 3 v l.length (pcells l)
  le : base ≤ w.heap.size
theorem OwR.nil (w : World) (base : Nat) (h : base ≤ w.heap.size) : OwR base w (.slice none 0 0) [] := ⟨World.ownsRow_nil _ _ _ _, h⟩
theorem OwR.alloc {base : Nat} {w : World} {v : Value} {l : List Pt} (h : OwR base w v l) (o : Obj) : OwR base (w.alloc o) v l := ⟨h.own.alloc o, by have := h.le; simp; omega⟩
theorem OwR.later {base : Nat} {w w' : World} {v : Value} {l : List Pt} (h : OwR base w v l) (hb : Below w.heap.size w w') : OwR base w' v l := ⟨own_later h.own hb, Nat.le_trans h.le hb.size⟩
theorem OwR.slice {base : Nat} {w : World} {v : Value} {l : List Pt} (h : OwR base w v l) : ∃ a cap, v = .slice a l.length cap ∧ PIn w a l := by
  rcases h.own.2 with ⟨rfl, h0⟩ | ⟨g, cap, cur, rfl, _⟩
  · have : l = [] := List.eq_nil_of_length_eq_zero h0
    subst this
    exact ⟨none, 0, rfl, ⟨fun k p hk => by simp at hk⟩⟩
  · refine ⟨_, _, rfl, ⟨fun k p hk => ?_⟩⟩
    obtain ⟨hkl, _⟩ := List.getElem?_eq_some_iff.1 hk
    obtain ⟨c0, c1, c2⟩ := pcells_get hk
    have hlt := (h.own.lt g rfl).2
    have hp : (pcells l).length = l.length * 3 := pcells_length l
    refine ⟨g, 0, rfl, hlt, ?_, ?_, ?_⟩
    · rw [Nat.zero_add, h.own.cellAt _ (by omega), c0]
    · rw [Nat.zero_add, h.own.cellAt _ (by omega), c1]
    · rw [Nat.zero_add, h.own.cellAt _ (by omega), c2]
theorem app_partR {ops : Array Oper} {rest : List Oper} {o : Oper} {a : Act} {Q : Exit → Act → World → Prop} {base : Nat} {w : World} {v : Value} {l : List Pt} {g : Nat} (p : Pt) (hO : OwR base w v l) (hg : g = w.heap.size) (hn : l.length ≤ 1000000000000)
    (hgd : o.guard = none) (s x : Operand) (ho : o.op = .call { callee := .builtin .append, args := #[s, x], argTypes := #[32, 32] })
    (hs : a.eval s = v) (hx : a.eval x = .slice (some ⟨g, 0, none⟩) 1 1)
    (h : ∀ v' w', OwR base w' v' (l ++ [p]) → Below base w w' → (∀ k, k < w.heap.size → v.ownBlock ≠ some k → w'.heap[k]? = w.heap[k]?) → wpList Try.prog ops Q rest (a.put o.dst v') w') :
    wpList Try.prog ops Q (o :: rest) a (w.alloc (.cells #[.int .i64 p.kind, str p.text, .int .i64 p.n] 54)) := by
  obtain ⟨i0, hi0, hz0, hz1, hz2⟩ := infoR
  subst hg
  have hm : maxLen = 9223372036854775807 := rfl
  refine wpList_append_own_wide _ hgd s x 32 ho base 54 i0 _ 3 32 Try.underlying32 hi0 hz0 hz1 hz2 rfl (by omega) v l.length (pcells l) hs (hO.own.alloc _) _ 1 1 (pcs p) hx rfl
    (World.news_of_block (cs := #[.int .i64 p.kind, str p.text, .int .i64 p.n]) (t := 54) (fr := (0, 0)) (heap_alloc_new w _)) (by simp [pcs, Value.oneCell']) (by rw [hm]; omega) (by omega) (by have := hO.le; simp; omega) ?_
  intro v' w' hown hgrow _
  refine h v' w' ⟨?_, ?_⟩ ?_ ?_
  · rw [pcells_append, List.length_append]
    have : pcells [p] = pcs p := by simp [pcells]
    rw [this]; exact hown
  · have := hgrow.size; have h2 := hO.le; simp at this; omega
  · exact ((Below.refl _ _).alloc hO.le _).trans (grown_below (hO.own.alloc _) (by have := hO.le; simp; omega) hgrow)
  · intro k hk hne
    rw [hgrow.block k (by simp; omega) (Ne.symm hne), heap_alloc_old _ _ hk]
theorem app_partRw {ops : Array Oper} {rest : List Oper} {o : Oper} {a : Act} {Q : Exit → Act → World → Prop} {W : World} (hgd : o.guard = none) (s x : Operand) (ho : o.op = .call { callee := .builtin .append, args := #[s, x], argTypes := #[32, 32] })
    {base : Nat} {w : World} {v : Value} {l : List Pt} {g : Nat} (p : Pt) (hW : W = w.alloc (.cells #[.int .i64 p.kind, str p.text, .int .i64 p.n] 54)) (hO : OwR base w v l) (hg : g = w.heap.size) (hn : l.length ≤ 1000000000000)
    (hs : a.eval s = v) (hx : a.eval x = .slice (some ⟨g, 0, none⟩) 1 1)
    (h : ∀ v' w', OwR base w' v' (l ++ [p]) → Below base w w' → wpList Try.prog ops Q rest (a.put o.dst v') w') :
    wpList Try.prog ops Q (o :: rest) a W := by
  subst hW
  exact app_partR p hO hg hn hgd s x ho hs hx fun v' w' h1 h2 _ => h v' w' h1 h2
/-- what the reference's Read answers -/
def refReadTold (base : Nat) (b : List UInt8) (e : Ending) (w' : World) : Prop :=
  (∃ v l, okL l ∧ b = wt l ∧ e = .returned (.tuple #[v, .int .i64 0]) ∧ OwR base w' v l) ∨ ((∀ l, okL l → b ≠ wt l) ∧ e = .returned (.tuple #[.slice none 0 0, .int .i64 4]))
theorem part_number (k : Int) (c : UInt8) (hk : k = 2 ∧ c = 2 ∨ k = 3 ∧ c = 3) (b : List UInt8) (h8 : 8 ≤ b.length) : (⟨k, [], wrap64 (trn k (nval (b.take 8)))⟩ : Pt).ok ∧ c :: b = ptx ⟨k, [], wrap64 (trn k (nval (b.take 8)))⟩ ++ b.drop 8 := by
  have hlt : nval (b.take 8) < 18446744073709551616 := by
    have := nval_lt (b.take 8)
    rw [List.length_take, show min 8 b.length = 8 by omega] at this
    exact this
  obtain ⟨t1, t2, t3⟩ := tv_back k (nval (b.take 8)) hlt
  refine ⟨⟨t1, t2, Or.inr ⟨by rcases hk with h | h <;> simp [h.1], rfl⟩⟩, ?_⟩
  have e := bek_nval (b.take 8)
  rw [List.length_take, show min 8 b.length = 8 by omega] at e
  have e2 : ptx ⟨k, [], wrap64 (trn k (nval (b.take 8)))⟩ = c :: bek 8 (nval (b.take 8)) := by
    unfold ptx
    rw [if_neg (by show ¬ k = 1; omega)]
    show UInt8.ofNat k.toNat :: bek 8 (tv k (wrap64 (trn k (nval (b.take 8))))) = _
    rw [t3]
    rcases hk with ⟨rfl, rfl⟩ | ⟨rfl, rfl⟩ <;> rfl
  rw [e2, e, List.cons_append, List.take_append_drop]
attribute [local go_sem ↓] Go.wp_at_zero Go.wp_at_succ
attribute [local go_sem ↓] sl9 ix9
set_option maxHeartbeats 4000000 in
theorem refRead_any (b : List UInt8) (w : World) (hl : b.length ≤ 10000000) :
    Calls Try.prog 19 #[str b] w fun e w' => refReadTold w.heap.size b e w' ∧ Below w.heap.size w w' := by
  go_enter Try.func19, Try.ntmps19
  go_wp2_with fail
  go_loopw [0, 4] (fun x v wr => ∃ (R : List UInt8) (l : List Pt), x = str R ∧ OwR w.heap.size wr v l ∧ okL l ∧ b = wt l ++ R ∧ Below w.heap.size w wr) (fun x _ _ => szOf x)
  case atStart => exact ⟨b, [], rfl, OwR.nil _ _ (Nat.le_refl _), fun p hp => by simp at hp, by simp [wt], Below.refl _ _⟩
  case round =>
    obtain ⟨R, l, rfl, hO, hok, hbe, hb⟩ := hrel
    have hbl : (wt l).length + R.length ≤ 10000000 := by rw [hbe, List.length_append] at hl; exact hl
    have hll : l.length ≤ 1000000000000 := Nat.le_trans (len_wt l) (by omega)
    cases R with
    | nil =>
      have HT : ∀ v w', OwR w.heap.size w' v l → refReadTold w.heap.size b (.returned (.tuple #[v, .int .i64 0])) w' := fun v w' h => Or.inl ⟨v, l, hok, by simpa using hbe, rfl, h⟩
      clear hbe
      go_wp2_with fail
      go_ret2
      exact ⟨HT _ _ hO, hb⟩
    | cons c R =>
      have HB : ∀ w', (∀ p r, p.ok → c :: R ≠ ptx p ++ r) → refReadTold w.heap.size b (.returned (.tuple #[.slice none 0 0, .int .i64 4])) w' := by
        intro w' hno
        refine Or.inr ⟨fun m hm e => ?_, rfl⟩
        rw [hbe] at e
        obtain ⟨m', _, h2⟩ := wt_split hok hm e
        cases m' with
        | nil => cases h2
        | cons p m' =>
          rw [wt_cons] at h2
          have hpo : p.ok := by
            have : p ∈ m := by rw [‹m = l ++ p :: m'›]; simp
            exact hm p this
          exact hno p _ hpo h2
      have HG : ∀ p r, p.ok → Hid (c :: R = ptx p ++ r) → Hid (okL (l ++ [p]) ∧ b = wt (l ++ [p]) ++ r ∧ r.length < (c :: R).length) := by
        intro p r hp h
        refine ⟨fun q hq => ?_, ?_, ?_⟩
        · rcases List.mem_append.1 hq with h | h
          · exact hok q h
          · simp at h; subst h; exact hp
        · rw [hbe, h.out, wt_append, wt_cons, wt_nil, List.append_nil, List.append_assoc]
        · rw [h.out, List.length_append, ptx_length]
          split <;> omega
      clear hbe
      have g1 : ∀ w, (ixS (str (c :: R)) (.int .i64 0)).run Try.prog w = .ok (.int .u8 (c.toNat : Int)) w := run_ix (c :: R) 0 (by simp)
      have g2 : ∀ w, (slS (str (c :: R)) (some (.int .i64 1)) none none).run Try.prog w = .ok (str R) w := run_lo (c :: R) 1 (by simp) (by simp at hbl ⊢; omega)
      have n0 : (c.toNat : Int) = 1 ∨ (c.toNat : Int) = 2 ∨ (c.toNat : Int) = 3 ∨ ¬ ((c.toNat : Int) = 1 ∨ (c.toNat : Int) = 2 ∨ (c.toNat : Int) = 3) := by omega
      have hc := c.toNat_lt
      have hRl : R.length ≤ 9999999 := by simp at hbl; omega
      rcases n0 with h1 | h1 | h1 | h1
      · rw [h1] at g1
        have hc1 : c = 1 := UInt8.toNat.inj (by rw [show (1 : UInt8).toNat = 1 from rfl]; omega)
        subst hc1
        have hct := fun w => refText_any R w (by omega)
        have hlo : ∀ t r, R = grp t ++ r → Hid (∀ w, (slS (str (1 :: R)) (some (.int .i64 (((grp t).length : Int) + 1))) none none).run Try.prog w = .ok (str r) w) := fun t r e => ⟨fun w => by
          have := run_lo (1 :: R) ((grp t).length + 1) (by rw [e]; simp) (by simp; omega) w
          rw [show (((grp t).length + 1 : Nat) : Int) = ((grp t).length : Int) + 1 by omega] at this
          rw [this, e]
          simp⟩
        have hgl : ∀ t r, R = grp t ++ r → (grp t).length ≤ 9999999 := fun t r e => by rw [e, List.length_append] at hRl; omega
        go_wp2_with (first
          | (go_at_call 26; refine (hct _).mono ?_; rintro e w1 ⟨⟨v, rfl, hv⟩, hb1⟩; obtain ⟨d0, d1, d2⟩ := new3 hb1; have f1 := new3f hb1; have bW := (((Below.refl wr.heap.size wr).alloc (Nat.le_refl _) _).trans (hb1.mono (by simp))); rcases hv with ⟨t, r, hbt, rfl⟩ | ⟨hno, t, kk, rfl, hkk⟩; have hlo1 := (hlo t r hbt).out; have hgl1 := hgl t r hbt; replace hbt := Hid.mk hbt)
          | (refine app_partRw rfl _ _ rfl ⟨1, t, 0⟩ rfl (hO.later (bW.setCell (p := ⟨wr.heap.size, 1, none⟩) (Nat.le_refl _) _)) (by simp) hll rfl rfl ?_; intro v2 w2 hO2 hb2))
        · have he := HG ⟨1, t, 0⟩ r ⟨by show (-9223372036854775808 : Int) ≤ 0; decide, by show (0 : Int) ≤ 9223372036854775807; decide, Or.inl ⟨rfl, rfl⟩⟩ ⟨by rw [hbt.out]; rfl⟩
          exact ⟨⟨r, l ++ [⟨1, t, 0⟩], rfl, hO2, he.out.1, he.out.2.1, (hb.trans ((bW.setCell (p := ⟨wr.heap.size, 1, none⟩) (Nat.le_refl _) _).mono hb.size)).trans hb2⟩, by simp only [szOf, str_size]; exact he.out.2.2⟩
        · go_ret2
          exact ⟨HB _ (head_no_text hno), hb.trans ((bW.setCell (p := ⟨wr.heap.size, 1, none⟩) (Nat.le_refl _) _).mono hb.size)⟩
      · rw [h1] at g1
        have hc1 : c = 2 := UInt8.toNat.inj (by rw [show (2 : UInt8).toNat = 2 from rfl]; omega)
        subst hc1
        by_cases h8 : 8 ≤ R.length
        · have hcv := fun w => refValue_any R w h8 (by omega)
          have d8 : decide ((9 : Int) ≤ (R.length : Int) + 1) = true := decide_eq_true (by omega)
          obtain ⟨pok, peq⟩ := part_number 2 2 (by simp) R h8
          have he := HG _ _ pok ⟨peq⟩
          have hlt : nval (R.take 8) < 18446744073709551616 := by
            have := nval_lt (R.take 8)
            rw [List.length_take, show min 8 R.length = 8 by omega] at this
            exact this
          have hlo : ∀ w, (slS (str (2 :: R)) (some (.int .i64 9)) none none).run Try.prog w = .ok (str (R.drop 8)) w := run_lo (2 :: R) 9 (by simp; omega) (by simp; omega)
          have hx1 : bits BinOp.xor IntKind.u64 (nval (R.take 8) : Int) 9223372036854775808 = (trn 2 (nval (R.take 8)) : Int) := by
            have : trn 2 (nval (R.take 8)) = (nval (R.take 8) + 9223372036854775808) % 18446744073709551616 := by unfold trn; rw [if_neg (by decide)]
            rw [this, ← xor63 _ hlt]; exact u64_xor_nat _ 9223372036854775808 hlt (by decide)
          clear pok peq HG HB hlt
          generalize nval (R.take 8) = M at *
          generalize trn 2 M = N at *
          generalize R.drop 8 = D at *
          go_wp2_with (first
            | (go_at_call 27; refine (hcv _).mono ?_; rintro e w1 ⟨rfl, rfl⟩)
            | (refine app_partRw rfl _ _ rfl ⟨2, [], wrap64 N⟩ rfl (hO.alloc _) (by simp) hll rfl rfl ?_; intro v2 w2 hO2 hb2))
          exact ⟨⟨D, l ++ [⟨2, [], wrap64 N⟩], rfl, hO2, he.out.1, he.out.2.1, (hb.alloc hb.size _).trans hb2⟩, by simp only [szOf, str_size]; exact he.out.2.2⟩
        · have d8 : decide ((9 : Int) ≤ (R.length : Int) + 1) = false := decide_eq_false (by omega)
          have HB' := fun w' => HB w' (fun p r hp e => by
            obtain ⟨e1, _, e2⟩ := kind_head hp e
            have e1' : p.kind = 2 := e1
            have := congrArg List.length (e2 (by omega))
            rw [List.length_append, bek_length] at this
            omega)
          clear HG HB
          go_wp2_with fail
          go_ret2
          exact ⟨HB' _, hb.alloc hb.size _⟩
      · rw [h1] at g1
        have hc1 : c = 3 := UInt8.toNat.inj (by rw [show (3 : UInt8).toNat = 3 from rfl]; omega)
        subst hc1
        by_cases h8 : 8 ≤ R.length
        · have hcv := fun w => refValue_any R w h8 (by omega)
          have d8 : decide ((9 : Int) ≤ (R.length : Int) + 1) = true := decide_eq_true (by omega)
          obtain ⟨pok, peq⟩ := part_number 3 3 (by simp) R h8
          have he := HG _ _ pok ⟨peq⟩
          have hlt : nval (R.take 8) < 18446744073709551616 := by
            have := nval_lt (R.take 8)
            rw [List.length_take, show min 8 R.length = 8 by omega] at this
            exact this
          have hlo : ∀ w, (slS (str (3 :: R)) (some (.int .i64 9)) none none).run Try.prog w = .ok (str (R.drop 8)) w := run_lo (3 :: R) 9 (by simp; omega) (by simp; omega)
          have hx0 : bits BinOp.xor IntKind.u64 IntKind.u64.max (nval (R.take 8) : Int) = ((18446744073709551615 - nval (R.take 8) : Nat) : Int) := by
            rw [← xor_all _ hlt]; exact u64_xor_nat 18446744073709551615 _ (by decide) hlt
          have hx1 : bits BinOp.xor IntKind.u64 ((18446744073709551615 - nval (R.take 8) : Nat) : Int) 9223372036854775808 = (trn 3 (nval (R.take 8)) : Int) := by
            have : trn 3 (nval (R.take 8)) = (18446744073709551615 - nval (R.take 8) + 9223372036854775808) % 18446744073709551616 := by unfold trn; rw [if_pos rfl]; omega
            rw [this, ← xor63 _ (by omega)]; exact u64_xor_nat _ 9223372036854775808 (by omega) (by decide)
          generalize 18446744073709551615 - nval (R.take 8) = NM at *
          have hsg : IntKind.u64.signed = false := rfl
          clear pok peq HG HB hlt
          generalize nval (R.take 8) = M at *
          generalize trn 3 M = N at *
          generalize R.drop 8 = D at *
          go_wp2_with (first
            | (go_at_call 27; refine (hcv _).mono ?_; rintro e w1 ⟨rfl, rfl⟩)
            | (refine app_partRw rfl _ _ rfl ⟨3, [], wrap64 N⟩ rfl (hO.alloc _) (by simp) hll rfl rfl ?_; intro v2 w2 hO2 hb2))
          exact ⟨⟨D, l ++ [⟨3, [], wrap64 N⟩], rfl, hO2, he.out.1, he.out.2.1, (hb.alloc hb.size _).trans hb2⟩, by simp only [szOf, str_size]; exact he.out.2.2⟩
        · have d8 : decide ((9 : Int) ≤ (R.length : Int) + 1) = false := decide_eq_false (by omega)
          have HB' := fun w' => HB w' (fun p r hp e => by
            obtain ⟨e1, _, e2⟩ := kind_head hp e
            have e1' : p.kind = 3 := e1
            have := congrArg List.length (e2 (by omega))
            rw [List.length_append, bek_length] at this
            omega)
          clear HG HB
          go_wp2_with fail
          go_ret2
          exact ⟨HB' _, hb.alloc hb.size _⟩
      · have HB' := fun w' => HB w' (fun p r hp e => by
          obtain ⟨e1, _, _⟩ := kind_head hp e
          have := ofKind hp
          omega)
        have e1 : ((c.toNat : Int) == 1) = false := by rw [beq_eq_false_iff_ne]; omega
        have e2 : ((c.toNat : Int) == 2) = false := by rw [beq_eq_false_iff_ne]; omega
        have e3 : ((c.toNat : Int) == 3) = false := by rw [beq_eq_false_iff_ne]; omega
        clear HG HB
        generalize c.toNat = C at *
        go_wp2_with fail
        all_goals go_ret2
        all_goals exact ⟨HB' _, hb.alloc hb.size _⟩
end Go.Proofs.Ytijkabnhedmimaa
