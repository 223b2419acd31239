import Derived.Test.YtdfjlmfnkhhnjaaGreatDoorZa
import Derived.Deep.QuietTactic
/- The document's SameMeta and SameVersion. -/
namespace Go.Proofs.YtdfjlmfnkhhnjaaGreatDoor.Stk
set_option maxRecDepth 100000
set_option linter.unusedVariables false
set_option linter.unusedSimpArgs false
open Go.RowKit
attribute [local go_sem ↓] Go.wp_at_zero Go.wp_at_succ
noncomputable def smP (a b : List En) : Bool := by classical exact decide (a = b)
theorem smP_true {a b : List En} (h : a = b) : smP a b = true := by unfold smP; simp [h]
theorem smP_false {a b : List En} (h : ¬ a = b) : smP a b = false := by unfold smP; simp [h]
set_option maxRecDepth 100000 in
set_option maxHeartbeats 4000000 in
theorem qSameMeta_any (l l' : List En) (w : World) (a : Option Addr) (n cap : Nat) (hn : l.length = n) (hP : PIn w a l) (hz : l.length ≤ 9223372036854775806) (a' : Option Addr) (n' cap' : Nat) (hn' : l'.length = n') (hP' : PIn w a' l') (hz' : l'.length ≤ 9223372036854775806) :
    Calls Tryz.prog 107 #[.slice a n cap, .slice a' n' cap'] w fun e w' => e = .returned (.bool (smP l l')) ∧ Below w.heap.size w w' := by
  subst hn hn'
  by_cases h5 : l.length = l'.length
  · have d5 : ((l.length : Int) != (l'.length : Int)) = false := by rw [bne_eq_false_iff_eq]; omega
    have HL := Hid.mk h5
    clear h5
    have HS1 : Hid (l = l' → smP l l' = true) := ⟨smP_true⟩
    have HS2 : Hid (¬ l = l' → smP l l' = false) := ⟨smP_false⟩
    generalize smP l l' = SV at *
    go_enter Tryz.func107, Tryz.ntmps107
    go_wp2_with fail
    go_loopw [5] (fun i wr => ∃ k : Nat, k ≤ l.length ∧ i = .int .i64 (k : Int) ∧ l.take k = l'.take k ∧ Hid (Below w.heap.size w wr)) (fun i _ => l.length - (intOf i).toNat)
    case atStart => exact ⟨0, by omega, rfl, by simp, ⟨Below.refl _ _⟩⟩
    case round =>
      obtain ⟨k, hk, rfl, hab, HB⟩ := hrel
      have hbe := HB.out
      by_cases h1 : k < l.length
      · have d1 : decide ((k : Int) < (l.length : Int)) = true := decide_eq_true (by omega)
        have k1 : (k : Int) < (l.length : Int) := by omega
        have h2 : k < l'.length := by rw [← HL.out]; exact h1
        have k2 : (k : Int) < (l'.length : Int) := by omega
        obtain ⟨p, hp⟩ : ∃ p, l[k]? = some p := ⟨l[k], List.getElem?_eq_getElem h1⟩
        obtain ⟨b1, off1, rfl, hbl, c0, c1⟩ := (hP.later hbe).get k p hp
        obtain ⟨q, hq⟩ : ∃ q, l'[k]? = some q := ⟨l'[k], List.getElem?_eq_getElem h2⟩
        obtain ⟨b2, off2, rfl, hbl2, e0, e1⟩ := (hP'.later hbe).get k q hq
        by_cases hpq : p = q
        · subst hpq
          have HT : Hid (l.take (k + 1) = l'.take (k + 1)) := ⟨take_nextV hp hq hab⟩
          clear hab
          go_wp2_with fail
          go_quiet (fail)
          go_wp2_with fail
          exact ⟨⟨k + 1, by omega, by go_num, HT.out, ⟨below_dN HB.out nq⟩⟩, by simp [intOf]; omega⟩
        · have HS : Hid (SV = false) := ⟨HS2.out (take_neV hp hq hpq)⟩
          clear hab
          obtain ⟨pk, pt⟩ := p
          obtain ⟨qk, qt⟩ := q
          dsimp only at *
          by_cases h3 : pk = qk
          · subst h3
            have d5 : (pt == qt) = false := by rw [beq_eq_false_iff_ne]; rintro rfl; exact hpq rfl
            clear hpq
            go_wp2_with fail
            go_quiet (fail)
            go_wp2_with fail
            go_ret
            exact ⟨by rw [HS.out]; rfl, below_dN hbe nq⟩
          · have d5 : (pk == qk) = false := by rw [beq_eq_false_iff_ne]; exact h3
            clear hpq
            go_wp2_with fail
            go_quiet (fail)
            go_wp2_with fail
            go_ret
            exact ⟨by rw [HS.out]; rfl, below_dN hbe nq⟩
      · obtain rfl : k = l.length := by omega
        have d1 : decide ((l.length : Int) < (l.length : Int)) = false := decide_eq_false (by omega)
        have HS : Hid (SV = true) := ⟨HS1.out (by
          have e := hab
          rw [List.take_length] at e
          rw [HL.out, List.take_length] at e
          exact e)⟩
        clear hab
        go_wp2_with fail
        go_ret
        exact ⟨by rw [HS.out]; rfl, hbe⟩
  · have HS : Hid (smP l l' = false) := ⟨smP_false (by rintro rfl; exact h5 rfl)⟩
    generalize smP l l' = SV at *
    have d5 : ((l.length : Int) != (l'.length : Int)) = true := by rw [bne_iff_ne]; omega
    clear h5
    go_enter Tryz.func107, Tryz.ntmps107
    go_wp2_with fail
    go_ret
    exact ⟨by rw [HS.out]; rfl, Below.refl _ _⟩
set_option maxRecDepth 100000 in
set_option maxHeartbeats 4000000 in
theorem qSameVersion_any (v u : Vs) (w : World) (a : Option Addr) (n cap : Nat) (hn : v.l.length = n) (hP : PIn w a v.l) (hz : v.l.length ≤ 9223372036854775806) (a' : Option Addr) (n' cap' : Nat) (hn' : u.l.length = n') (hP' : PIn w a' u.l) (hz' : u.l.length ≤ 9223372036854775806) :
    Calls Tryz.prog 66 #[vv v.key v.seq v.mkr v.data a n cap, vv u.key u.seq u.mkr u.data a' n' cap'] w fun e w' => e = .returned (.bool (sv v u)) ∧ Below w.heap.size w w' := by
  subst hn hn'
  have b1 := (Below.refl w.heap.size w).alloc (Nat.le_refl _) (.cells #[str v.key, .int .i64 v.seq, .bool v.mkr, str v.data, .slice a v.l.length cap] 62)
  have b2 := b1.alloc b1.size (.cells #[str u.key, .int .i64 u.seq, .bool u.mkr, str u.data, .slice a' u.l.length cap'] 62)
  clear b1
  have hc := qSameMeta_any v.l u.l _ a _ cap rfl (hP.later b2) hz a' _ cap' rfl (hP'.later b2) hz'
  clear hP hP' hz hz'
  obtain ⟨key, seq, mk, data, l⟩ := v
  obtain ⟨key', seq', mk', data', l'⟩ := u
  simp only at *
  by_cases h1 : key = key'
  · subst h1
    by_cases h2 : seq = seq'
    · subst h2
      by_cases h3 : mk = mk'
      · subst h3
        by_cases h4 : data = data'
        · subst h4
          have HS : Hid (sv ⟨key, seq, mk, data, l⟩ ⟨key, seq, mk, data, l'⟩ = smP l l') := ⟨by
            by_cases h : l = l'
            · rw [sv_true (by rw [h]), smP_true h]
            · rw [sv_false (by intro q; injection q with _ _ _ _ q; exact h q), smP_false h]⟩
          generalize smP l l' = SM at *
          go_enter Tryz.func66, Tryz.ntmps66
          go_wp2_with (go_at_call 107; refine hc.mono ?_; rintro e w3 ⟨rfl, b3⟩)
          go_ret
          exact ⟨by rw [HS.out]; rfl, below_seq b2 b3⟩
        · have HS : Hid (sv ⟨key, seq, mk, data, l⟩ ⟨key, seq, mk, data', l'⟩ = false) := ⟨sv_false (by intro q; injection q with _ _ _ q; exact h4 q)⟩
          have d5 : (data == data') = false := by rw [beq_eq_false_iff_ne]; exact h4
          clear h4 hc
          go_enter Tryz.func66, Tryz.ntmps66
          go_wp2_with fail
          go_ret
          exact ⟨by rw [HS.out]; rfl, b2⟩
      · have HS : Hid (sv ⟨key, seq, mk, data, l⟩ ⟨key, seq, mk', data', l'⟩ = false) := ⟨sv_false (by intro q; injection q with _ _ q; exact h3 q)⟩
        have d5 : (mk == mk') = false := by rw [beq_eq_false_iff_ne]; exact h3
        clear h3 hc
        go_enter Tryz.func66, Tryz.ntmps66
        go_wp2_with fail
        go_ret
        exact ⟨by rw [HS.out]; rfl, b2⟩
    · have HS : Hid (sv ⟨key, seq, mk, data, l⟩ ⟨key, seq', mk', data', l'⟩ = false) := ⟨sv_false (by intro q; injection q with _ q; exact h2 q)⟩
      have d5 : (seq == seq') = false := by rw [beq_eq_false_iff_ne]; exact h2
      have d6 : (seq != seq') = true := by rw [bne_iff_ne]; exact h2
      have d7 : decide (seq = seq') = false := decide_eq_false h2
      clear h2 hc
      go_enter Tryz.func66, Tryz.ntmps66
      go_wp2_with fail
      go_ret
      exact ⟨by rw [HS.out]; rfl, b2⟩
  · have HS : Hid (sv ⟨key, seq, mk, data, l⟩ ⟨key', seq', mk', data', l'⟩ = false) := ⟨sv_false (by intro q; injection q with q; exact h1 q)⟩
    have d5 : (key == key') = false := by rw [beq_eq_false_iff_ne]; exact h1
    clear h1 hc
    go_enter Tryz.func66, Tryz.ntmps66
    go_wp2_with fail
    go_ret
    exact ⟨by rw [HS.out]; rfl, b2⟩
end Go.Proofs.YtdfjlmfnkhhnjaaGreatDoor.Stk
/- The document's Same, of two that are the same. -/
namespace Go.Proofs.YtdfjlmfnkhhnjaaGreatDoor.Stk
set_option maxRecDepth 100000
set_option linter.unusedVariables false
set_option linter.unusedSimpArgs false
open Go.RowKit
attribute [local go_sem ↓] Go.wp_at_zero Go.wp_at_succ
set_option maxRecDepth 100000 in
set_option maxHeartbeats 4000000 in
theorem qSame_eq (next : Int) (L : List Vs) (w : World) (a : Option Addr) (c : Nat) (a' : Option Addr) (c' : Nat) (h1 : Li w L a L.length c) (h2 : Li w L a' L.length c') (hl : L.length ≤ 1000000) :
    Calls Tryz.prog 34 #[bv next a L.length c, bv next a' L.length c'] w fun e w' => e = .returned (.bool true) ∧ Below w.heap.size w w' := by
  have b1 := (Below.refl w.heap.size w).alloc (Nat.le_refl _) (.cells #[.int .i64 next, .slice a L.length c] 24)
  have b2 := b1.alloc b1.size (.cells #[.int .i64 next, .slice a' L.length c'] 24)
  have z1 := (Bq.new w (.int .i64 next) (.slice a L.length c)).later ((Below.refl (w.alloc (.cells #[.int .i64 next, .slice a L.length c] 24)).heap.size _).alloc (Nat.le_refl _) (.cells #[.int .i64 next, .slice a' L.length c'] 24))
  have z2 := Bq.new (w.alloc (.cells #[.int .i64 next, .slice a L.length c] 24)) (.int .i64 next) (.slice a' L.length c')
  rw [World.size_alloc] at z2
  have H1 := Hid.mk (h1.later b2)
  have H2 := Hid.mk (h2.later b2)
  clear h1 h2 b1
  go_enter Tryz.func34, Tryz.ntmps34
  go_wp2_with fail
  have Z1 := Hid.mk z1
  have Z2 := Hid.mk z2
  clear z1 z2
  generalize (w.alloc (.cells #[.int .i64 next, .slice a L.length c] 24)).alloc (.cells #[.int .i64 next, .slice a' L.length c'] 24) = W2 at *
  go_loopw [5] (fun i wr => ∃ k : Nat, k ≤ L.length ∧ i = .int .i64 (k : Int) ∧ Hid (Below W2.heap.size W2 wr)) (fun i _ => L.length - (intOf i).toNat)
  case atStart => exact ⟨0, Nat.zero_le _, rfl, ⟨Below.refl _ _⟩⟩
  case round =>
    obtain ⟨k, hk, rfl, HB⟩ := hrel
    obtain ⟨p0, p1, _⟩ := (Z1.out.later HB.out).cells
    obtain ⟨q0, q1, _⟩ := (Z2.out.later HB.out).cells
    by_cases hlt : k < L.length
    · have d1 : decide ((k : Int) < (L.length : Int)) = true := decide_eq_true (Int.ofNat_lt.2 hlt)
      have k2 : (k : Int) < (L.length : Int) := Int.ofNat_lt.2 hlt
      have hw1 : wrap64 ((k : Int) + 1) = ((k + 1 : Nat) : Int) := by unfold wrap64; omega
      obtain ⟨u, hu⟩ : ∃ u, L[k]? = some u := ⟨L[k], List.getElem?_eq_getElem hlt⟩
      have hul := H1.out.z u (List.mem_of_getElem? hu)
      obtain ⟨b, off, ma, mc, rfl, hbl, c0, c1, c2, c3, c4, hsl⟩ := (H1.out.later HB.out).s.at'.get k u hu
      obtain ⟨b', off', ma', mc', rfl, hbl', e0, e1, e2, e3, e4, hsl'⟩ := (H2.out.later HB.out).s.at'.get k u hu
      have hsv : ∀ w', Below wr.heap.size wr w' → Calls Tryz.prog 66 #[vv u.key u.seq u.mkr u.data ma u.l.length mc, vv u.key u.seq u.mkr u.data ma' u.l.length mc'] w' fun e w'' => e = .returned (.bool true) ∧ Below w'.heap.size w' w'' := fun w' h => by
        have := qSameVersion_any u u w' ma _ mc rfl (hsl.later h).at' (by omega) ma' _ mc' rfl (hsl'.later h).at' (by omega)
        rw [sv_true rfl] at this
        exact this
      have HS1 : Hid (∀ w', Below wr.heap.size wr w' → Below wr.heap.size wr w' ∧ w'.cell? ⟨w.heap.size, 1, none⟩ = some (.slice (some ⟨b, off, none⟩) L.length c) ∧ w'.cell? ⟨w.heap.size + 1, 1, none⟩ = some (.slice (some ⟨b', off', none⟩) L.length c') ∧ w'.cell? ⟨b, off + k * 5, none⟩ = some (str u.key) ∧ w'.cell? ⟨b, off + k * 5 + 1, none⟩ = some (.int .i64 u.seq) ∧ w'.cell? ⟨b, off + k * 5 + 2, none⟩ = some (.bool u.mkr) ∧ w'.cell? ⟨b, off + k * 5 + 3, none⟩ = some (str u.data) ∧ w'.cell? ⟨b, off + k * 5 + 4, none⟩ = some (.slice ma u.l.length mc) ∧ w'.cell? ⟨b', off' + k * 5, none⟩ = some (str u.key) ∧ w'.cell? ⟨b', off' + k * 5 + 1, none⟩ = some (.int .i64 u.seq) ∧ w'.cell? ⟨b', off' + k * 5 + 2, none⟩ = some (.bool u.mkr) ∧ w'.cell? ⟨b', off' + k * 5 + 3, none⟩ = some (str u.data) ∧ w'.cell? ⟨b', off' + k * 5 + 4, none⟩ = some (.slice ma' u.l.length mc')) := ⟨fun w' h => by
        obtain ⟨_, t1, _⟩ := ((Z1.out.later HB.out).later h).cells
        obtain ⟨_, t2, _⟩ := ((Z2.out.later HB.out).later h).cells
        exact ⟨h, t1, t2, (h.cell (p := ⟨b, _, none⟩) hbl).trans c0, (h.cell (p := ⟨b, _, none⟩) hbl).trans c1, (h.cell (p := ⟨b, _, none⟩) hbl).trans c2, (h.cell (p := ⟨b, _, none⟩) hbl).trans c3, (h.cell (p := ⟨b, _, none⟩) hbl).trans c4, (h.cell (p := ⟨b', _, none⟩) hbl').trans e0, (h.cell (p := ⟨b', _, none⟩) hbl').trans e1, (h.cell (p := ⟨b', _, none⟩) hbl').trans e2, (h.cell (p := ⟨b', _, none⟩) hbl').trans e3, (h.cell (p := ⟨b', _, none⟩) hbl').trans e4⟩⟩
      clear hu hsl hsl' hul c0 c1 c2 c3 c4 e0 e1 e2 e3 e4 q1
      go_wp2_with fail
      go_region_held3 (fun w' => Below wr.heap.size wr w' ∧ w'.cell? ⟨w.heap.size, 1, none⟩ = some (.slice (some ⟨b, off, none⟩) L.length c) ∧ w'.cell? ⟨w.heap.size + 1, 1, none⟩ = some (.slice (some ⟨b', off', none⟩) L.length c') ∧ w'.cell? ⟨b, off + k * 5, none⟩ = some (str u.key) ∧ w'.cell? ⟨b, off + k * 5 + 1, none⟩ = some (.int .i64 u.seq) ∧ w'.cell? ⟨b, off + k * 5 + 2, none⟩ = some (.bool u.mkr) ∧ w'.cell? ⟨b, off + k * 5 + 3, none⟩ = some (str u.data) ∧ w'.cell? ⟨b, off + k * 5 + 4, none⟩ = some (.slice ma u.l.length mc) ∧ w'.cell? ⟨b', off' + k * 5, none⟩ = some (str u.key) ∧ w'.cell? ⟨b', off' + k * 5 + 1, none⟩ = some (.int .i64 u.seq) ∧ w'.cell? ⟨b', off' + k * 5 + 2, none⟩ = some (.bool u.mkr) ∧ w'.cell? ⟨b', off' + k * 5 + 3, none⟩ = some (str u.data) ∧ w'.cell? ⟨b', off' + k * 5 + 4, none⟩ = some (.slice ma' u.l.length mc')) ((refine HS1.out _ ?_; first
        | with_reducible exact (Below.refl _ _).drew
        | with_reducible exact (below_seq (And.left (by assumption)) x1))) (
        (go_at_call 66; with_reducible refine Calls.mono (hsv _ (And.left (by assumption))) ?_; rintro e w5 ⟨rfl, x1⟩))
      have hb5 : Below wr.heap.size wr w5 := And.left (by assumption)
      have HB5 := Hid.mk (HB.out.trans (hb5.mono HB.out.size))
      clear x1 HS1 hsv hb5 p0 p1 q0
      go_wp2_with fail
      exact ⟨⟨k + 1, hlt, by first | (rw [hw1]; done) | go_num, HB5⟩, by first | (rw [hw1]; exact Nat.sub_lt_sub_left hlt (Nat.lt_succ_self k)) | (simp [intOf]; omega)⟩
    · obtain rfl : k = L.length := by omega
      have d1 : decide ((L.length : Int) < (L.length : Int)) = false := decide_eq_false (by omega)
      have HW := Hid.mk (b2.trans (HB.out.mono b2.size))
      clear HB
      go_wp2_with fail
      go_ret
      exact ⟨rfl, HW.out⟩
end Go.Proofs.YtdfjlmfnkhhnjaaGreatDoor.Stk
/- Operations of a drawn region, taken one by one. -/
namespace Go.Proofs.YtdfjlmfnkhhnjaaGreatDoor.Stk
set_option maxRecDepth 100000
set_option linter.unusedVariables false
set_option linter.unusedSimpArgs false
open Go.RowKit
theorem take_d {P : Program} {ops : Array Oper} {Q : Exit → Act → World → Prop} {md : Region.Mode} {S : World → Prop} {oi : Oper} {fuel : Nat} {listed : Array Bool} {a : Act} {w : World} (i d : Nat) (v : Value) (hi : ops[i]? = some oi) (hd : oi.dst = some d)
    (hs : Region.noSelect ops = true) (hf : Region.free md ops listed i = true) (hr : (Region.ready md ops listed).contains i = true)
    (hQ : ∀ c a w, Q (.panic c) (a.put (some d) v) w → Q (.panic c) a w) (hw : Region.wanted oi (yielded ops a.tmps) = true) (hy : ∀ w, S w → (execOp a.eval oi).run P w = .ok (.value v) w) (hS : S w)
    (h : wpAnyH P md ops Q S fuel (listed.setIfInBounds i true) (a.put (some d) v) w) : wpAnyH P md ops Q S (fuel + 1) listed a w :=
  wpAnyH_take hi hs hf hr (by rw [hd]; exact hQ) (Or.inl ⟨hw, hy⟩) hS (by rw [hd]; exact h)
theorem take_u {P : Program} {ops : Array Oper} {Q : Exit → Act → World → Prop} {md : Region.Mode} {S : World → Prop} {oi : Oper} {fuel : Nat} {listed : Array Bool} {a : Act} {w : World} (i d : Nat) (hi : ops[i]? = some oi) (hd : oi.dst = some d)
    (hs : Region.noSelect ops = true) (hf : Region.free md ops listed i = true) (hr : (Region.ready md ops listed).contains i = true)
    (hQ : ∀ c a w, Q (.panic c) (a.put (some d) undef) w → Q (.panic c) a w) (hw : Region.wanted oi (yielded ops a.tmps) = false) (hS : S w)
    (h : wpAnyH P md ops Q S fuel (listed.setIfInBounds i true) (a.put (some d) undef) w) : wpAnyH P md ops Q S (fuel + 1) listed a w :=
  wpAnyH_take hi hs hf hr (by rw [hd]; exact hQ) (Or.inr ⟨hw, rfl⟩) hS (by rw [hd]; exact h)
theorem call_step {P : Program} {o : Oper} {a : Act} {w : World} {next : Act → World → Prop} {Q : Exit → Act → World → Prop} {f : Nat} {args : Array Value} {v : Value} {G : World → Prop} (d : Nat) (hd : o.dst = some d) (hx : (execOp a.eval o).run P w = .ok (.enter f args) w)
    (hc : Calls P f args w fun e w' => e = .returned v ∧ G w') (hn : ∀ w', G w' → next (a.put (some d) v) w') : Oper.wp P o a w next Q := by
  unfold Oper.wp; rw [hx, Oper.upon_enter]; refine hc.mono ?_; rintro e w' ⟨rfl, g⟩; show next (a.put o.dst v) w'; rw [hd]; exact hn w' g
end Go.Proofs.YtdfjlmfnkhhnjaaGreatDoor.Stk
