/- ManifestOf: the walk. -/
import Derived.Test.YtbiponnchppndaaGreatDoorGu
import Derived.Deep.CutRange
namespace Go.Proofs.YtbiponnchppndaaGreatDoor
set_option maxRecDepth 100000
set_option linter.unusedVariables false
set_option linter.unusedSimpArgs false
open Go.RowKit
open Go.Proofs.YtbiponnchppndaaGreatDoorP (TB recd nn LEN key)
open Go.Proofs.YtbiponnchppndaaGreatDoorH (hv hv_length hv_one hv_eq KIn leaf leaf_hv hexL)
attribute [local go_sem ↓] Go.wp_at_zero Go.wp_at_succ ad9 ldIe stIe eqHe
/-- what stands while the records are told -/
structure OW (W : World) (wr : World) (v : Value) (R : List Kv) : Prop where
  so : So W.heap.size wr v (wnt R)
  bel : Below W.heap.size W wr
theorem OW.later {W wr w' : World} {v : Value} {R : List Kv} (h : OW W wr v R) (hb : Below wr.heap.size wr w') : OW W w' v R := ⟨h.so.later hb, h.bel.trans (hb.mono h.bel.size)⟩
theorem OW.more {W wr : World} {v : Value} {R : List Kv} (h : OW W wr v R) (S : List Kv) (hS : 1 ≤ S.length) (h2 : S.length ≤ 8) (hR : R.length ≤ 100000000) :
    ∃ v' w', (∀ ty, (Builtin.append_ #[34, 34] ty #[v, .slice (some ⟨wr.heap.size, 0, none⟩) (wnt S).length (wnt S).length]).run Tryz.prog (wr.alloc (.cells (svs (wnt S)).toArray 9)) = .ok v' w') ∧ OW W w' v' (R ++ S) ∧ Kp9 wr w' := by
  obtain ⟨v', w', h1, h3, h4, h5⟩ := run_s (wnt S) (by rw [wnt_len]; omega) (by rw [wnt_len]; omega) h.so (by rw [wnt_len]; omega)
  exact ⟨v', w', h1, ⟨by rw [wnt_append]; exact h3, h.bel.trans h4⟩, h5⟩
theorem app_w {ops : Array Oper} {rest : List Oper} {o : Oper} {a : Act} {Q : Exit → Act → World → Prop} {W' : World} (hgd : o.guard = none) (s x : Operand) (ho : o.op = .call { callee := .builtin .append, args := #[s, x], argTypes := #[34, 34] })
    {W w : World} {v : Value} {R : List Kv} {g : Nat} (S : List Kv) (hS : 1 ≤ S.length) (hp : S.length ≤ 8) (hW : W' = w.alloc (.cells (svs (wnt S)).toArray 9)) (hO : OW W w v R) (hg : g = w.heap.size) (hn : R.length ≤ 100000000)
    (hs : a.eval s = v) (hx : a.eval x = .slice (some ⟨g, 0, none⟩) (wnt S).length (wnt S).length)
    (h : ∀ v' w', OW W w' v' (R ++ S) → Kp9 w w' → wpList Tryz.prog ops Q rest (a.put o.dst v') w') :
    wpList Tryz.prog ops Q (o :: rest) a W' := by
  refine app_s2 hgd s x ho (wnt S) (by rw [wnt_len]; omega) (by rw [wnt_len]; omega) hW hO.so hg (by rw [wnt_len]; omega) hs hx fun v' w' h1 h2 h3 => h v' w' ⟨by rw [wnt_append]; exact h1, hO.bel.trans h2⟩ h3
/-- the round's two boxes -/
structure Bx2 (wx : World) (gv gx : Nat) (v : Vs) (ma : Option Addr) (mc : Nat) (x : It) (xa : Option Addr) (xc : Nat) : Prop where
  bv : B5 wx gv v ma mc
  bx : Bi wx gx x xa xc
theorem Bx2.kp {wx w' : World} {gv gx : Nat} {v : Vs} {ma : Option Addr} {mc : Nat} {x : It} {xa : Option Addr} {xc : Nat} (h : Bx2 wx gv gx v ma mc x xa xc) (hk : Kp9 wx w') : Bx2 w' gv gx v ma mc x xa xc := ⟨h.bv.kp hk, h.bx.kp hk⟩
theorem Bx2.later {wx w' : World} {gv gx : Nat} {v : Vs} {ma : Option Addr} {mc : Nat} {x : It} {xa : Option Addr} {xc : Nat} (h : Bx2 wx gv gx v ma mc x xa xc) (hb : Below wx.heap.size wx w') : Bx2 w' gv gx v ma mc x xa xc := h.kp (Kp9.of hb)
set_option maxHeartbeats 16000000 in
theorem of_walk (L : List Vs) (next since : Int) (w : World) (a : Option Addr) (cap : Nat) (hL : VIn w a L) (hl : L.length ≤ 1954687338211) (hz : ∀ v ∈ L, v.l.length ≤ 4398046510976) (hT : TB w) (hE : EG w) (hK : KIn w) :
    Calls Tryz.prog 4 #[.agg #[.int .i64 next, .slice a L.length cap], .int .i64 since] w fun e w' => e = .returned (.bool true) ∧ Below w.heap.size w w' := by
  have b1 := (Below.refl w.heap.size w).alloc (Nat.le_refl _) (.cells #[.int .i64 next, .slice a L.length cap] 44)
  have z1 := Bb.new w next (.slice a L.length cap)
  have hhd := head_any _ (hT.below b1) (hE.below b1) (hK.seq b1)
  go_enter Tryz.func4, Tryz.ntmps4
  go_wp2_with fail
  refine Calls.mono hhd ?_
  rintro e w2 ⟨rfl, b2⟩
  have B2 := below_seq b1 b2
  have z2 := z1.later b2
  clear hhd b1 b2 z1
  dsimp only
  obtain ⟨p0, p1⟩ := z2.cells
  have hof := of_any L next since w2 a L.length cap rfl (hL.later B2) (hK.seq B2) (by omega) (fun v hv => Nat.le_trans (hz v hv) (by decide))
  go_wp2_with fail
  refine Calls.mono hof ?_
  rintro e w3 ⟨h3, b3⟩
  have B3 := below_seq B2 b3
  have z3 := z2.later b3
  clear hof z2 p0 p1 b3
  rcases h3 with ⟨R, ra, rc, hOf, rfl, hR, hFi⟩ | ⟨hOf, rfl⟩
  case inr =>
    have b4 := (Below.refl w3.heap.size w3).alloc (Nat.le_refl _) (.cells #[.int .i64 0, .int .i64 0, .slice none 0 0] 28)
    have z4 := Bm3.new w3 0 0 (.slice none 0 0)
    obtain ⟨q0, q1, q2⟩ := z4.cells
    have B4 := below_seq B3 b4
    dsimp only
    go_wp2_with fail
    go_ret
    exact ⟨rfl, B4⟩
  obtain ⟨h256, hrt, hrm⟩ := hOf
  have hRl : R.length = L.length := by have := congrArg List.length hR; simpa [ofI] using this
  have b4 := (Below.refl w3.heap.size w3).alloc (Nat.le_refl _) (.cells #[.int .i64 since, .int .i64 next, .slice ra L.length rc] 28)
  have z4 := Hid.mk (Bm3.new w3 since next (.slice ra L.length rc))
  have i4 := hFi.it.later b4
  rw [hR] at i4
  have I4 := Hid.mk i4
  have Z4 := Hid.mk (z3.later b4)
  have HB4 := Hid.mk (below_seq B3 b4)
  rw [hRl]
  have HRt := Hid.mk hrt
  have HRm := Hid.mk hrm
  have H256 := Hid.mk h256
  have HL4 := Hid.mk (hL.later HB4.out)
  have HK4 := Hid.mk (hK.seq HB4.out)
  have HT4 := Hid.mk (hT.below HB4.out)
  have HZ := Hid.mk hz
  clear hFi hRl z3 i4 B3 b4 hR B2 hrt hrm h256 hL hK hT hE hz R
  dsimp only
  obtain ⟨q0, q1, q2⟩ := z4.out.cells
  obtain ⟨p0, p1⟩ := Z4.out.cells
  have hn0 : 0 ≤ next := by have := HRm.out.n1; simp at this; omega
  have hn1 : next ≤ 9223372036854775807 := by have := HRm.out.n2; simp at this; omega
  have hs0 : 0 ≤ since := by have := HRm.out.c1; simpa using this
  have hs1 : since ≤ 9223372036854775807 := by have := HRm.out.c2; simp at this; omega
  have hdn := decimal_any next hn0 hn1 (w3.alloc (.cells #[.int .i64 since, .int .i64 next, .slice ra L.length rc] 28))
  go_wp2_with fail
  generalize w3.alloc (.cells #[.int .i64 since, .int .i64 next, .slice ra L.length rc] 28) = W4 at *
  generalize w3.heap.size = g4 at *
  refine Calls.mono hdn ?_
  rintro e w5 ⟨rfl, b5⟩
  have Hb5 := Hid.mk b5
  have HD0 : Hid (OW W4 (w5.alloc (.cells #[str sKind, str sFull, str sFormat, str sCoffer, str sNext, str (dec next)] 9)) (.slice (some ⟨w5.heap.size, 0, none⟩) 6 6) [(sKind, sFull), (sFormat, sCoffer), (sNext, dec next)]) := ⟨(So.lit w5 [sKind, sFull, sFormat, sCoffer, sNext, dec next] (by simp)).mon b5.size, b5.alloc b5.size _⟩
  have HD1 : Hid (OW W4 (w5.alloc (.cells #[str sKind, str sDelta, str sFormat, str sCoffer, str sNext, str (dec next)] 9)) (.slice (some ⟨w5.heap.size, 0, none⟩) 6 6) [(sKind, sDelta), (sFormat, sCoffer), (sNext, dec next)]) := ⟨(So.lit w5 [sKind, sDelta, sFormat, sCoffer, sNext, dec next] (by simp)).mon b5.size, b5.alloc b5.size _⟩
  clear hdn b5 q0 q1 q2 p0 p1
  dsimp only
  go_upto_if 63 with fail
  go_cut [7] from 15 (fun v wx => Hid (OW W4 wx v (hd3 next since)))
  case first =>
    as_aux_lemma =>
      by_cases hs : since = 0
      · subst hs
        go_wp2_with fail
        go_meet
        case rel => exact HD0
      · have d1 : decide (0 < since) = true := decide_eq_true (by omega)
        first | rw [d1] | skip
        have Hsn := Hid.mk hs
        clear hs
        go_wp2_with fail
        refine Calls.mono (decimal_any since hs0 hs1 _) ?_
        rintro e w6 ⟨rfl, b6⟩
        have HD2 := Hid.mk (HD1.out.later b6)
        clear b6
        dsimp only
        go_wp2_with (refine app_w rfl _ _ rfl [(sSince, dec since)] (by simp) (by simp) rfl HD2.out rfl (by simp) rfl rfl ?_; intro v' w' hs' hk')
        go_meet
        case rel => exact ⟨by
          have : hd3 next since = [(sKind, sDelta), (sFormat, sCoffer), (sNext, dec next)] ++ [(sSince, dec since)] := by unfold hd3; rw [if_neg Hsn.out, if_neg Hsn.out]
          rw [this]; exact hs'⟩
  case rest =>
    have HW := hcut
    clear hcut HD0 HD1 Hb5
    obtain ⟨m, hm⟩ : ∃ m : Ma, m = ⟨since, next, ofI L⟩ := ⟨_, rfl⟩
    rw [← hm] at HRm
    have Hhd : Hid (hd3 next since ++ [(sCount, dec (L.length : Int))] = upR m 0) := ⟨by rw [hm]; unfold upR; rw [hd3_recs]; simp [ofI]⟩
    obtain ⟨p0, p1⟩ := (Z4.out.later HW.out.bel).cells
    have hdl := decimal_any (L.length : Int) (by omega) (by have := H256.out; omega) wc
    have Hm := Hid.mk hm
    have hd3l : Hid ((hd3 next since).length ≤ 100000000) := ⟨by unfold hd3; split <;> simp⟩
    clear hm
    go_wp2_with fail
    refine Calls.mono hdl ?_
    rintro e w7 ⟨rfl, b7⟩
    have HW7 := Hid.mk (HW.out.later b7)
    clear HW hdl b7 p0 p1
    dsimp only
    go_wp2_with (refine app_w rfl _ _ rfl [(sCount, dec (L.length : Int))] (by simp) (by simp) rfl HW7.out rfl hd3l.out rfl rfl ?_; intro v' w' hs' hk')
    have HW8 : Hid (OW W4 w' v' (upR m 0)) := ⟨by rw [← Hhd.out]; exact hs'⟩
    clear hs' HW7 Hhd hd3l
    go_loopw [7, 8] (fun v i wr => ∃ k : Nat, k ≤ L.length ∧ i = .int .i64 (k : Int) ∧ Hid (OW W4 wr v (upR m k))) (fun _ i _ => L.length - (intOf i).toNat)
    case atStart => exact ⟨0, Nat.zero_le _, rfl, HW8⟩
    case round =>
      obtain ⟨k, hk, rfl, HW⟩ := hrel
      by_cases hlt : k < L.length
      · have d1 : decide ((k : Int) < (L.length : Int)) = true := decide_eq_true (Int.ofNat_lt.2 hlt)
        have k2 : (k : Int) < (L.length : Int) := Int.ofNat_lt.2 hlt
        have hw1 : wrap64 ((k : Int) + 1) = ((k + 1 : Nat) : Int) := by have := H256.out; unfold wrap64; omega
        obtain ⟨p0, p1⟩ := (Z4.out.later HW.out.bel).cells
        obtain ⟨v, hv⟩ : ∃ v, L[k]? = some v := ⟨L[k], List.getElem?_eq_getElem hlt⟩
        have hrt := HRt.out v (List.mem_of_getElem? hv)
        have Hvl : Hid (v.l.length ≤ 4398046510976) := ⟨HZ.out v (List.mem_of_getElem? hv)⟩
        obtain ⟨b, off, ma, mc, hab, hbl, c0, c1, c2, c3, c4, hsl⟩ := HL4.out.get k v hv
        subst hab
        have cc := fun (o : Nat) => HW.out.bel.cell (p := ⟨b, o, none⟩) hbl
        rw [← cc] at c0 c1 c2 c3 c4
        clear cc
        have Hsl := Hid.mk hsl
        have hit : (ofI L)[k]? = some (itOf v (enc v)) := by rw [List.getElem?_map, hv]; rfl
        have hitm : m.items[k]? = some (itOf v (enc v)) := by rw [Hm.out]; exact hit
        have Hup : Hid (upR m (k + 1) = upR m k ++ itemR (itOf v (enc v))) := ⟨upR_succ hitm⟩
        have HrtI : Hid (RtI m (itOf v (enc v))) := ⟨HRm.out.it _ (List.mem_of_getElem? hitm)⟩
        have Hupl : Hid ((upR m k).length ≤ 1000000) := ⟨by
          have e2 := upR_all m
          have h9 := recs_max HRm.out
          have h1 : (upR m k).length ≤ (upR m m.items.length).length := by
            unfold upR
            rw [List.length_append, List.length_append, List.take_length]
            have : (m.items.map itemR).flatten = ((m.items.take k).map itemR).flatten ++ ((m.items.drop k).map itemR).flatten := by rw [← List.flatten_append, ← List.map_append, List.take_append_drop]
            rw [this, List.length_append]
            omega
          have h2 := congrArg List.length e2
          rw [List.length_append] at h2
          omega⟩
        have bx := (Below.refl wr.heap.size wr).alloc (Nat.le_refl _) (.cells #[str v.key, .int .i64 v.seq, .bool v.mkr, str v.data, .slice ma v.l.length mc] 50)
        have HW1 := Hid.mk (HW.out.later bx)
        have z5 := B5.new wr v ma mc
        obtain ⟨b', off', xa, xc, hra, hbl', hr0, hxs⟩ := I4.out.get k _ hit
        subst hra
        have hr := Go.Proofs.YtbiponnchppndaaGreatDoorH.rangeBelow hr0 HW1.out.bel hbl'
        have Hxsl := Hid.mk hxs
        have l1 := run_ldI hr
        have s1 := run_stI (wr.alloc (.cells #[str v.key, .int .i64 v.seq, .bool v.mkr, str v.data, .slice ma v.l.length mc] 50)) (itOf v (enc v)) xa xc
        have by' := (Below.refl (wr.alloc (.cells #[str v.key, .int .i64 v.seq, .bool v.mkr, str v.data, .slice ma v.l.length mc] 50)).heap.size _).alloc (Nat.le_refl _) (.cells (ic (itOf v (enc v)) xa xc).toArray 53)
        obtain ⟨q0, q1, q2⟩ := (z4.out.later HW1.out.bel).cells
        have zv := Hid.mk (z5.later by')
        have zx := Bi.new (wr.alloc (.cells #[str v.key, .int .i64 v.seq, .bool v.mkr, str v.data, .slice ma v.l.length mc] 50)) (itOf v (enc v)) xa xc
        rw [World.size_alloc] at zx s1
        have zx := Hid.mk zx
        have HW2 := Hid.mk (HW1.out.later by')
        have Hs := Hid.mk (hsl.later HW2.out.bel)
        obtain ⟨v0, v1, v2, v3, v4⟩ := zv.out.cells
        have hwr := write_some hrt ((wr.alloc (.cells #[str v.key, .int .i64 v.seq, .bool v.mkr, str v.data, .slice ma v.l.length mc] 50)).alloc (.cells (ic (itOf v (enc v)) xa xc).toArray 53)) ma v.l.length mc rfl Hs.out.at'
        have Hrt := Hid.mk hrt
        have HEl : Hid ((enc v).length ≤ 1048576) := ⟨enc_le hrt⟩
        have HB2 := Hid.mk (⟨zv.out, zx.out⟩ : Bx2 _ wr.heap.size (wr.heap.size + 1) v ma mc (itOf v (enc v)) xa xc)
        clear hrt hsl bx hv hit hitm z5 hr hr0 hxs by' HW HW1 hbl hbl' zv zx
        go_wp2_with fail
        refine Calls.mono hwr ?_
        rintro e w1 ⟨rfl, b1⟩
        have HW3 := Hid.mk (HW2.out.later b1)
        have HB3 := Hid.mk (HB2.out.later b1)
        clear hwr l1 s1 b1 HW2 HB2 v0 v1 v2 v3 v4 q0 q1 q2 p0 p1 c0 c1 c2 c3 c4 Hs
        obtain ⟨x, hx⟩ : ∃ x, x = itOf v (enc v) := ⟨_, rfl⟩
        have hxk : x.key = v.key ∧ x.seq = v.seq ∧ x.mkr = v.mkr ∧ x.size = (v.data.length : Int) ∧ x.l = v.l ∧ x.g = leaf (enc v) := by rw [hx]; exact ⟨rfl, rfl, rfl, rfl, rfl, rfl⟩
        rw [← hx] at HB3 Hup HrtI
        have Hxl2 : Hid (Sl W4 xa xc x.l) := ⟨by rw [hx]; exact Hxsl.out⟩
        clear hx Hxsl
        generalize wr.heap.size = gv at *
        obtain ⟨xk, xs, xm, xz, xl, xg⟩ := x
        obtain ⟨key, seq, mkr, data, l⟩ := v
        dsimp only at hxk HEl
        obtain ⟨rfl, rfl, rfl, rfl, rfl, rfl⟩ := hxk
        generalize enc ⟨xk, xs, xm, data, xl⟩ = tx at *
        dsimp only
        have Hlf : Hid (Calls Tryz.prog 19 #[str tx] w1.drew fun e w' => e = .returned (.agg (hv (leaf tx)).toArray) ∧ Below w1.drew.heap.size w1.drew w') := ⟨leaf_hv ⟨tx.toArray⟩ w1.drew ((HK4.out.seq HW3.out.bel).seq (Below.refl _ _).drew) (by rw [str_size]; have := HEl.out; omega)⟩
        generalize leaf tx = lg at *
        have XC : Hid (∀ w', Below w1.heap.size w1 w' → Below w1.heap.size w1 w' ∧ w'.cell? ⟨gv, 0, none⟩ = some (str xk) ∧ w'.cell? ⟨gv, 1, none⟩ = some (.int .i64 xs) ∧ w'.cell? ⟨gv, 2, none⟩ = some (.bool xm) ∧ w'.cell? ⟨gv, 3, none⟩ = some (str data) ∧ w'.cell? ⟨gv, 4, none⟩ = some (.slice ma xl.length mc) ∧ w'.cell? ⟨gv + 1, 0, none⟩ = some (str xk) ∧ w'.cell? ⟨gv + 1, 1, none⟩ = some (.int .i64 xs) ∧ w'.cell? ⟨gv + 1, 2, none⟩ = some (.bool xm) ∧ w'.cell? ⟨gv + 1, 3, none⟩ = some (.int .i64 (data.length : Int)) ∧ w'.cell? ⟨gv + 1, 4, none⟩ = some (.slice xa xl.length xc) ∧ w'.rangeAt (gv + 1) 5 (hv lg)) := ⟨fun w' h => by
          have hh := HB3.out.later h
          obtain ⟨c0, c1, c2, c3, c4⟩ := hh.bv.cells
          obtain ⟨e0, e1, e2, e3, e4⟩ := hh.bx.cells
          exact ⟨h, c0, c1, c2, c3, c4, e0, e1, e2, e3, e4, fun j v hj => by refine hh.bx.range (5 + j) v ?_ |> fun q => by simpa using q
                                                                             unfold ic; rw [List.getElem?_append_right (by simp)]; simpa using hj⟩⟩
        have hu32 := Tryz.underlying51
        have hi32 : (Tryz.prog.info? 51).map (·.size) = some (hv lg).length := by rw [hv_length]; exact infoH
        have heq : ∀ w, (eqH (.agg (hv lg).toArray) (.agg (hv lg).toArray)).run Tryz.prog w = .ok true w := fun w => by have := run_eqH lg lg w; rwa [eqb_hv.2 rfl] at this
        have f1 : (xk == xk) = true := by simp
        have f2 : (xs != xs) = false := by simp
        have f3 : (xm == xm) = true := by simp
        have f4 : ((data.length : Int) != (data.length : Int)) = false := by simp
        have HSP : Hid (∀ w', Below W4.heap.size W4 w' → Calls Tryz.prog 20 #[.slice xa xl.length xc, .slice ma xl.length mc] w' fun e w'' => e = .returned (.bool true) ∧ Below w'.heap.size w' w'') := ⟨fun w' h => (samePairs_any xl xl w' xa ma xc mc (Hxl2.out.later h).at' (Hsl.out.later h).at' (by have := Hvl.out; simp only at this; omega)).mono (by rintro e w2 ⟨t, rfl, ht, b2⟩; exact ⟨by rw [ht.2 rfl], b2⟩)⟩
        have HBd : Hid (Below w1.heap.size w1 w1.drew) := ⟨(Below.refl _ _).drew⟩
        have hlf := Hlf.out
        go_wp2_with fail
        go_region_held3 (fun w' => Below w1.heap.size w1 w' ∧ w'.cell? ⟨gv, 0, none⟩ = some (str xk) ∧ w'.cell? ⟨gv, 1, none⟩ = some (.int .i64 xs) ∧ w'.cell? ⟨gv, 2, none⟩ = some (.bool xm) ∧ w'.cell? ⟨gv, 3, none⟩ = some (str data) ∧ w'.cell? ⟨gv, 4, none⟩ = some (.slice ma xl.length mc) ∧ w'.cell? ⟨gv + 1, 0, none⟩ = some (str xk) ∧ w'.cell? ⟨gv + 1, 1, none⟩ = some (.int .i64 xs) ∧ w'.cell? ⟨gv + 1, 2, none⟩ = some (.bool xm) ∧ w'.cell? ⟨gv + 1, 3, none⟩ = some (.int .i64 (data.length : Int)) ∧ w'.cell? ⟨gv + 1, 4, none⟩ = some (.slice xa xl.length xc) ∧ w'.rangeAt (gv + 1) 5 (hv lg)) (first
          | with_reducible exact XC.out _ HBd.out
          | with_reducible exact XC.out _ (below_seq HBd.out b9)
          | with_reducible exact XC.out _ (below_seq (below_seq HBd.out b9) b10)) (first
          | (go_at_call 19; with_reducible refine Calls.mono hlf ?_; rintro e w9 ⟨rfl, b9⟩; have hsp := HSP.out w9 (HW3.out.later (below_seq HBd.out b9)).bel)
          | (go_at_call 20; with_reducible refine Calls.mono hsp ?_; rintro e w10 ⟨rfl, b10⟩))
        have HW5 := Hid.mk (HW3.out.later (below_seq (below_seq HBd.out b9) b10))
        have HB5 := Hid.mk (HB3.out.later (below_seq (below_seq HBd.out b9) b10))
        clear HW3 HB3 XC hu32 hi32 heq f1 f2 f3 f4 HSP HBd hlf Hlf hsp b9 b10
        generalize w10 = wc at *
        have hq0 : 0 ≤ xs ∧ xs ≤ 9223372036854775807 := by
          have h1 := HrtI.out.s1
          have h2 := HrtI.out.s2
          have h3 := HRm.out.n2
          simp only at h1 h2
          omega
        have hdc := decimal_any xs hq0.1 hq0.2 wc.drew
        have HBd : Hid (Below wc.heap.size wc wc.drew) := ⟨(Below.refl _ _).drew⟩
        obtain ⟨dx, hdx⟩ : ∃ d, d = dec xs := ⟨_, rfl⟩
        rw [← hdx] at hdc
        have HE1 : Hid (∀ w2, Below wc.drew.heap.size wc.drew w2 → ∃ v' w', (∀ ty, (Builtin.append_ #[34, 34] ty #[u7, .slice (some ⟨w2.heap.size, 0, none⟩) 4 4]).run Tryz.prog (w2.alloc (.cells #[.string ⟨#[107, 101, 121]⟩, str xk, .string ⟨#[115, 101, 113]⟩, str dx] 9)) = .ok v' w') ∧ Hid (OW W4 w' v' (upR m k ++ [(sKey, xk), (sSeq, dx)])) ∧ Hid (Bx2 w' gv (gv + 1) ⟨xk, xs, xm, data, xl⟩ ma mc ⟨xk, xs, xm, (data.length : Int), xl, lg⟩ xa xc)) := ⟨fun w2 hb2 => by
          obtain ⟨v', w', h1, h2, h3⟩ := ((HW5.out.later HBd.out).later hb2).more [(sKey, xk), (sSeq, dx)] (by simp) (by simp) (by have := Hupl.out; omega)
          exact ⟨v', w', h1, ⟨h2⟩, ⟨((HB5.out.later HBd.out).later hb2).kp h3⟩⟩⟩
        have XC : Hid (∀ w', Bx2 w' gv (gv + 1) ⟨xk, xs, xm, data, xl⟩ ma mc ⟨xk, xs, xm, (data.length : Int), xl, lg⟩ xa xc → w'.cell? ⟨gv, 0, none⟩ = some (str xk) ∧ w'.cell? ⟨gv, 1, none⟩ = some (.int .i64 xs)) := ⟨fun w' h => ⟨h.bv.cells.1, h.bv.cells.2.1⟩⟩
        have Hdx := Hid.mk hdx
        clear hdx
        go_wp2_with fail
        go_region_held3 (fun w' => w'.cell? ⟨gv, 0, none⟩ = some (str xk) ∧ w'.cell? ⟨gv, 1, none⟩ = some (.int .i64 xs)) (first
          | with_reducible exact XC.out _ (HB5.out.later HBd.out)
          | with_reducible exact XC.out _ ((HB5.out.later HBd.out).later b9)
          | with_reducible exact XC.out _ (((HB5.out.later HBd.out).later b9).later ((Below.refl _ _).alloc (Nat.le_refl _) _))
          | with_reducible exact XC.out _ HB6.out) (first
          | (go_at_call 17; with_reducible refine Calls.mono hdc ?_; rintro e w9 ⟨rfl, b9⟩; have ⟨v6, w6, hr6, HW6, HB6⟩ := HE1.out w9 b9)
          | ((with_reducible (refine at_sta rfl ?_)); refine step_run rfl _ _ rfl rfl rfl (hr6 _) ?_))
        clear hdc HE1 XC hr6 HBd HW5 HB5
        have Hdx2 := Hid.mk (show Hid (dx = dec xs) from Hdx)
        obtain ⟨c0, c1, c2, c3, c4⟩ := HB6.out.bv.cells
        obtain ⟨A, hA⟩ : ∃ A, A = [(sKey, xk), (sSeq, dx)] ++ (if xm = true then [(sType, sMarker)] else [(sType, sData), (sSize, dec (data.length : Int))]) ++ metaR xl := ⟨_, rfl⟩
        have HA : Hid (upR m (k + 1) = (upR m k ++ A) ++ [(sLeaf, hexL lg)] ∧ A.length ≤ 1000) := ⟨by
          rw [Hup.out, hA, Hdx.out]
          refine ⟨by unfold itemR; simp only [List.append_assoc], ?_⟩
          have h8 : xl.length ≤ 8 := (rt_of Hrt.out).n
          have h9 : (metaR xl).length = xl.length := by simp [metaR]
          simp only [List.length_append, h9]
          split <;> simp <;> omega⟩
        have HxmI : Hid (xm = true → xl = []) := ⟨fun h => (HrtI.out.mk1 h).2⟩
        have HAd := Hid.mk hA
        clear hA Hup
        go_upto_if 155 with fail
        go_cut [7] from 78 to 194 (fun v wx => Hid (OW W4 wx v (upR m k ++ A)) ∧ Hid (Bx2 wx gv (gv + 1) ⟨xk, xs, xm, data, xl⟩ ma mc ⟨xk, xs, xm, (data.length : Int), xl, lg⟩ xa xc))
        case first =>
          as_aux_lemma =>
            cases xm with
            | true =>
              have HAe : Hid (upR m k ++ A = upR m k ++ [(sKey, xk), (sSeq, dx)] ++ [(sType, sMarker)]) := ⟨by rw [HAd.out, if_pos rfl, HxmI.out rfl]; simp [metaR]⟩
              go_wp2_with (refine app_w rfl _ _ rfl [(sType, sMarker)] (by simp) (by simp) rfl HW6.out rfl (by have := Hupl.out; simp; omega) rfl rfl ?_; intro v7 w7 hs7 hk7)
              go_meet
              case rel => exact ⟨⟨by rw [HAe.out]; exact hs7⟩, ⟨HB6.out.kp hk7⟩⟩
            | false =>
              have hdl := decimal_any (data.length : Int) (by omega) (by have := (HrtI.out.mk0 rfl).2.1; simp only at this; omega) w6
              obtain ⟨dz, hdz⟩ : ∃ d, d = dec (data.length : Int) := ⟨_, rfl⟩
              rw [← hdz] at hdl
              have Hdz := Hid.mk hdz
              clear hdz
              go_wp2_with fail
              refine Calls.mono hdl ?_
              rintro e w7 ⟨rfl, b7⟩
              have HW7 := Hid.mk (HW6.out.later b7)
              have HB7 := Hid.mk (HB6.out.later b7)
              clear hdl b7 HW6 HB6 c0 c1 c2 c3 c4
              dsimp only
              go_wp2_with (refine app_w rfl _ _ rfl [(sType, sData), (sSize, dz)] (by simp) (by simp) rfl HW7.out rfl (by have := Hupl.out; simp; omega) rfl rfl ?_; intro v8 w8 hs8 hk8)
              have HW8' := Hid.mk hs8
              have HB8 := Hid.mk (HB7.out.kp hk8)
              clear hs8 hk8 HW7 HB7
              have h8 : xl.length ≤ 8 := (rt_of Hrt.out).n
              have H8 := Hid.mk h8
              clear h8
              obtain ⟨Q, hQ⟩ : ∃ Q, Q = upR m k ++ [(sKey, xk), (sSeq, dx)] ++ [(sType, sData), (sSize, dz)] := ⟨_, rfl⟩
              rw [← hQ] at HW8'
              have HQ : Hid (upR m k ++ A = Q ++ metaR xl ∧ Q.length ≤ 10000000) := ⟨by
                rw [HAd.out, hQ, if_neg (by decide), Hdz.out]
                refine ⟨by simp only [List.append_assoc], ?_⟩
                have := Hupl.out
                simp; omega⟩
              clear hQ
              go_loopw [7, 13] (fun v i wx => ∃ u : Nat, u ≤ xl.length ∧ i = .int .i64 (u : Int) ∧ Hid (OW W4 wx v (Q ++ metaR (xl.take u))) ∧ Hid (Bx2 wx gv (gv + 1) ⟨xk, xs, false, data, xl⟩ ma mc ⟨xk, xs, false, (data.length : Int), xl, lg⟩ xa xc)) (fun _ i _ => xl.length - (intOf i).toNat)
              case atStart => exact ⟨0, Nat.zero_le _, rfl, ⟨by simpa [metaR] using HW8'.out⟩, HB8⟩
              case round =>
                obtain ⟨u, hu, rfl, HWu, HBu⟩ := hrel
                obtain ⟨c0, c1, c2, c3, c4⟩ := HBu.out.bv.cells
                by_cases hlu : u < xl.length
                · have d1 : decide ((u : Int) < (xl.length : Int)) = true := decide_eq_true (Int.ofNat_lt.2 hlu)
                  have k3 : (u : Int) < (xl.length : Int) := Int.ofNat_lt.2 hlu
                  have hw2 : wrap64 ((u : Int) + 1) = ((u + 1 : Nat) : Int) := by have := H8.out; unfold wrap64; omega
                  have HM : Hid (xl.length - (u + 1) < xl.length - u) := ⟨by omega⟩
                  obtain ⟨p, hp⟩ : ∃ p, xl[u]? = some p := ⟨xl[u], List.getElem?_eq_getElem hlu⟩
                  obtain ⟨pb, po, hma, hpb, e0, e1⟩ := Hsl.out.at'.get u p hp
                  have HTk : Hid (Q ++ metaR (xl.take (u + 1)) = Q ++ metaR (xl.take u) ++ [(sMeta ++ p.key, p.val)]) := ⟨by rw [meta_succ hp, List.append_assoc]⟩
                  have hpk : p.key.length ≤ 1000 := by
                    have h1 := (mtE_iff (HrtI.out.mk0 rfl).2.2).2.1 p (List.mem_of_getElem? hp)
                    have := (small_key (prb_iff h1).1).2.2.2
                    omega
                  subst hma
                  have XC : Hid (∀ w', Bx2 w' gv (gv + 1) ⟨xk, xs, false, data, xl⟩ (some ⟨pb, po, none⟩) mc ⟨xk, xs, false, (data.length : Int), xl, lg⟩ xa xc → Below W4.heap.size W4 w' → w'.cell? ⟨gv, 4, none⟩ = some (.slice (some ⟨pb, po, none⟩) xl.length mc) ∧ w'.cell? ⟨pb, po + u * 2, none⟩ = some (str p.key) ∧ w'.cell? ⟨pb, po + u * 2 + 1, none⟩ = some (str p.val)) := ⟨fun w' h h2 => ⟨h.bv.cells.2.2.2.2, by rw [h2.cell (p := ⟨pb, _, none⟩) hpb]; exact e0, by rw [h2.cell (p := ⟨pb, _, none⟩) hpb]; exact e1⟩⟩
                  obtain ⟨v9, w9, hr9, h92, h93⟩ := (HWu.out.later (Below.refl _ _).drew).more [(sMeta ++ p.key, p.val)] (by simp) (by simp) (by have := HQ.out.2; have := H8.out; simp [metaR]; omega)
                  have hr9 : ∀ ty, (Builtin.append_ #[34, 34] ty #[u7, .slice (some ⟨wr.heap.size, 0, none⟩) 2 2]).run Tryz.prog (wr.alloc (.cells #[str (sMeta ++ p.key), str p.val] 9)).drew = .ok v9 w9 := hr9
                  have HW9 := Hid.mk h92
                  have HB9 := Hid.mk ((HBu.out.later (Below.refl _ _).drew).kp h93)
                  have HBa : Hid (∀ o, Bx2 (wr.alloc o).drew gv (gv + 1) ⟨xk, xs, false, data, xl⟩ (some ⟨pb, po, none⟩) mc ⟨xk, xs, false, (data.length : Int), xl, lg⟩ xa xc ∧ Below W4.heap.size W4 (wr.alloc o).drew) := ⟨fun o => ⟨(HBu.out.later (Below.refl _ _).drew).later ((Below.refl _ _).alloc (Nat.le_refl _) o), ((HWu.out.later (Below.refl _ _).drew).later ((Below.refl _ _).alloc (Nat.le_refl _) o)).bel⟩⟩
                  have HBd : Hid (Bx2 wr.drew gv (gv + 1) ⟨xk, xs, false, data, xl⟩ (some ⟨pb, po, none⟩) mc ⟨xk, xs, false, (data.length : Int), xl, lg⟩ xa xc ∧ Below W4.heap.size W4 wr.drew) := ⟨HBu.out.later (Below.refl _ _).drew, (HWu.out.later (Below.refl _ _).drew).bel⟩
                  have had : ∀ w, (adS (.string ⟨#[109, 101, 116, 97, 46]⟩) (str p.key)).run Tryz.prog w = .ok (str (sMeta ++ p.key)) w := fun w => run_ad sMeta p.key (by simp [sMeta]; omega) w
                  clear h92 h93 hp hpk e0 e1 HWu HBu
                  go_wp2_with fail
                  clear c0 c1 c2 c3 c4
                  generalize sMeta ++ p.key = mk at *
                  go_region_held3 (fun w' => w'.cell? ⟨gv, 4, none⟩ = some (.slice (some ⟨pb, po, none⟩) xl.length mc) ∧ w'.cell? ⟨pb, po + u * 2, none⟩ = some (str p.key) ∧ w'.cell? ⟨pb, po + u * 2 + 1, none⟩ = some (str p.val)) (first
                    | with_reducible exact XC.out _ HBd.out.1 HBd.out.2
                    | with_reducible exact XC.out _ (HBa.out _).1 (HBa.out _).2
                    | with_reducible exact XC.out _ HB9.out HW9.out.bel) (((with_reducible (refine at_sta rfl ?_)); refine step_run rfl _ _ rfl rfl rfl (hr9 _) ?_))
                  all_goals (
                    clear hr9 had XC HBd HBa
                    go_wp2_with fail
                    exact ⟨⟨u + 1, hlu, by first | rfl | (rw [hw2]), ⟨by rw [HTk.out]; exact HW9.out⟩, HB9⟩, by first | exact HM.out | (rw [hw2]; exact HM.out)⟩)
                · obtain rfl : u = xl.length := by omega
                  have d1 : decide ((xl.length : Int) < (xl.length : Int)) = false := decide_eq_false (by omega)
                  go_wp2_with fail
                  go_meet
                  case rel => exact ⟨⟨by rw [HQ.out.1]; have := HWu.out; rwa [List.take_length] at this⟩, HBu⟩
        case rest =>
          obtain ⟨HW7, HB7⟩ := hcut
          clear HW6 HB6 c0 c1 c2 c3 c4
          have hrg : wc.rangeAt (gv + 1) 5 (hv lg) := fun j v hj => by
            refine HB7.out.bx.range (5 + j) v ?_ |> fun q => by simpa using q
            unfold ic; rw [List.getElem?_append_right (by simp)]; simpa using hj
          have hi32 : (Tryz.prog.info? 51).map (·.size) = some (hv lg).length := by rw [hv_length]; exact infoH
          have hhx : Calls Tryz.prog 21 #[.agg (hv lg).toArray] wc fun e w' => e = .returned (str (hexL lg)) ∧ Below wc.heap.size wc w' := by rw [Go.Proofs.YtbiponnchppndaaGreatDoorH.hv_b32]; exact Go.Proofs.YtbiponnchppndaaGreatDoorH.hex_any lg wc
          obtain ⟨hx, hhx2⟩ : ∃ h, h = hexL lg := ⟨_, rfl⟩
          rw [← hhx2] at hhx HA
          clear hhx2
          have HM : Hid (L.length - (k + 1) < L.length - k) := ⟨by omega⟩
          go_wp2_with (refine wpList_load_mid rfl 51 _ rfl _ _ rfl _ _ hrg Tryz.underlying51 rfl hi32 ?_)
          with_reducible refine Calls.mono hhx ?_
          rintro e w8 ⟨rfl, b8⟩
          have HW8'' := Hid.mk (HW7.out.later b8)
          clear b8 hhx hrg hi32
          dsimp only
          have Hbd : Hid ((upR m k ++ A).length ≤ 100000000) := ⟨by rw [List.length_append]; exact Nat.le_trans (Nat.add_le_add Hupl.out HA.out.2) (by decide)⟩
          go_wp2_with (refine app_w rfl _ _ rfl [(sLeaf, hx)] (by simp) (by simp) rfl HW8''.out rfl Hbd.out rfl rfl ?_; intro v9 w9 hs9 hk9)
          exact ⟨⟨k + 1, hlt, by first | rfl | (rw [hw1]), ⟨by rw [HA.out.1]; exact hs9⟩⟩, by first | exact HM.out | (rw [hw1]; exact HM.out)⟩
      · as_aux_lemma =>
          obtain rfl : k = L.length := by omega
          have d1 : decide ((L.length : Int) < (L.length : Int)) = false := decide_eq_false (by omega)
          obtain ⟨p0, p1⟩ := (Z4.out.later HW.out.bel).cells
          have HWl : Hid (upR m L.length ++ [(sEnd, sMani)] = recs m ∧ (upR m L.length).length ≤ 100000000) := ⟨by
            have e : m.items.length = L.length := by rw [Hm.out]; simp [ofI]
            have e2 := upR_all m
            rw [e] at e2
            refine ⟨e2, ?_⟩
            have := congrArg List.length e2
            have h9 := recs_max HRm.out
            rw [List.length_append] at this
            omega⟩
          have HB := Hid.mk HW.out.bel
          clear p0 p1
          obtain ⟨p0, p1⟩ := (Z4.out.later HW.out.bel).cells
          go_wp2_with (refine app_w rfl _ _ rfl [(sEnd, sMani)] (by simp) (by simp) rfl HW.out rfl HWl.out.2 rfl rfl ?_; intro v9 w9 hs9 hk9; have ⟨q0, q1, q2⟩ := (z4.out.later hs9.bel).cells)
          rw [HWl.out.1] at hs9
          obtain ⟨wa, wcap, rfl, hTI⟩ := hs9.so.slice
          have HTI := Hid.mk hTI
          have Hb9 := Hid.mk hs9.bel
          clear hs9 hTI p0 p1 HW HWl HB HW8
          have hwr : Calls Tryz.prog 11 #[.agg #[.int .i64 since, .int .i64 next, .slice ra L.length rc]] w9 (WrP m w9) := by
            have := mWrite_any ⟨since, next, ofI L⟩ w9 ra rc (I4.out.later Hb9.out) (fun x hx => by
              obtain ⟨v, hv, rfl⟩ := List.mem_map.1 hx
              exact HZ.out v hv) (by have := H256.out; simp [ofI]; omega) (HT4.out.below Hb9.out)
            rw [← Hm.out] at this
            have e : m.items.length = L.length := by rw [Hm.out]; simp [ofI]
            have e1 : m.since = since := by rw [Hm.out]
            have e2 : m.next = next := by rw [Hm.out]
            rw [e, e1, e2] at this
            exact this
          refine Calls.mono hwr ?_
          rintro e w10 ⟨h10, b10⟩
          rcases h10 with ⟨_, rfl⟩ | ⟨hno, _⟩
          case inr => exact absurd HRm.out hno
          have hsy := says_any (recs m) (recs_ok HRm.out) (by show (mtx m).length ≤ _; have := mtx_le HRm.out; omega) (recs_max HRm.out) w10 wa wcap (HTI.out.later b10) ((HT4.out.below Hb9.out).below b10)
          rw [show txt (recs m) = mtx m from rfl] at hsy
          have HBe := Hid.mk (below_seq (below_seq HB4.out Hb9.out) b10)
          clear hwr b10 q0 q1 q2
          dsimp only
          go_wp2_with fail
          refine Calls.mono hsy ?_
          rintro e w11 ⟨rfl, b11⟩
          dsimp only
          go_wp2_with fail
          go_ret
          exact ⟨rfl, below_seq HBe.out b11⟩
end Go.Proofs.YtbiponnchppndaaGreatDoor
