import Derived.Test.YtgbkloihclbimaaDoorXt
import Derived.Test.YtgbkloihclbimaaDoorXb
import Derived.Test.YtgbkloihclbimaaDoorGh
import Derived.Test.YtgbkloihclbimaaDoorXq
/- Layer 22: the document's lines of a text. -/
namespace Go.Proofs.YtgbkloihclbimaaDoor
set_option maxRecDepth 100000
set_option linter.unusedVariables false
set_option linter.unusedSimpArgs false
open Go.RowKit
attribute [local go_sem ↓] Go.wp_at_zero Go.wp_at_succ sl9 ix9
theorem lnl_none : ∀ (a : By), (10 : UInt8) ∉ a → lnl a = if a = [] then [] else [a]
  | [], _ => rfl
  | c :: a, h => by rw [lnl_last (c :: a) h (by simp)]; rfl
/-- what is known behind k bytes: lines ls, the next one begins at f -/
structure Ls9 (t : By) (ls : List By) (f k : Nat) : Prop where
  fk : f ≤ k
  kt : k ≤ t.length
  eq : lnl t = ls ++ lnl (t.drop f)
  no : (10 : UInt8) ∉ (t.drop f).take (k - f)
  le : ls.length ≤ f
theorem Ls9.start (t : By) : Ls9 t [] 0 0 := ⟨Nat.le_refl _, Nat.zero_le _, by simp, by simp, Nat.zero_le _⟩
theorem drop_cut {t : By} {f k : Nat} (h1 : f ≤ k) (h2 : k < t.length) : t.drop f = (t.drop f).take (k - f) ++ t.getD k 0 :: t.drop (k + 1) := by
  have e1 : (t.drop f).drop (k - f) = t.drop k := by rw [List.drop_drop]; congr 1; omega
  have e2 : t.drop k = t.getD k 0 :: t.drop (k + 1) := by
    rw [List.getD_eq_getElem?_getD, List.getElem?_eq_getElem h2]
    exact List.drop_eq_getElem_cons h2
  rw [← e2, ← e1, List.take_append_drop]
theorem Ls9.line {t : By} {ls : List By} {f k : Nat} (h : Ls9 t ls f k) (hk : k < t.length) (hc : t.getD k 0 = 10) : Ls9 t (ls ++ [(t.drop f).take (k - f)]) (k + 1) (k + 1) := by
  have h1 := h.fk
  have e := drop_cut h1 hk
  rw [hc] at e
  have e3 : lnl (t.drop f) = (t.drop f).take (k - f) :: lnl (t.drop (k + 1)) := by
    conv => lhs; rw [e]
    exact lnl_cons _ _ h.no
  refine ⟨Nat.le_refl _, hk, ?_, by simp, ?_⟩
  · rw [h.eq, e3]; simp
  · have := h.le
    rw [List.length_append, List.length_singleton]; omega
theorem Ls9.next {t : By} {ls : List By} {f k : Nat} (h : Ls9 t ls f k) (hk : k < t.length) (hc : t.getD k 0 ≠ 10) : Ls9 t ls f (k + 1) := by
  have h1 := h.fk
  refine ⟨by omega, hk, h.eq, ?_, h.le⟩
  have e : (t.drop f).take (k + 1 - f) = (t.drop f).take (k - f) ++ [t.getD k 0] := by
    rw [show k + 1 - f = (k - f) + 1 by omega, List.take_add_one, List.getElem?_drop, show f + (k - f) = k by omega, List.getElem?_eq_getElem hk, List.getD_eq_getElem?_getD, List.getElem?_eq_getElem hk]; rfl
  rw [e]
  intro q
  rcases List.mem_append.1 q with q | q
  · exact h.no q
  · rw [List.mem_singleton] at q; exact hc q.symm
theorem Ls9.done {t : By} {ls : List By} {f k : Nat} (h : Ls9 t ls f k) (hk : ¬ k < t.length) : lnl t = if f < t.length then ls ++ [t.drop f] else ls := by
  have h1 := h.fk
  have h2 := h.kt
  have hn := h.no
  rw [List.take_of_length_le (by rw [List.length_drop]; omega)] at hn
  rw [h.eq, lnl_none _ hn]
  by_cases q : f < t.length
  · rw [if_pos q, if_neg (fun e => by have := congrArg List.length e; rw [List.length_drop] at this; simp at this; omega)]
  · rw [if_neg q, if_pos (List.drop_of_length_le (by omega)), List.append_nil]
def lnOk (ls : List By) : Bool := !(ls.any (fun l => decide (8192 < l.length)) || decide (1024 < ls.length))
theorem long_ok {t : By} {ls : List By} (h : ¬ 65536 < t.length) (e : lnl t = ls) : (!isLongF t) = lnOk ls := by
  unfold isLongF lnOk
  rw [e, decide_eq_false h, Bool.false_or]
def Qln (w : World) (b : Bool) (e : Ending) (w' : World) : Prop := (∃ v, e = .returned (.tuple #[v, .bool b])) ∧ Below w.heap.size w w'
set_option maxHeartbeats 1000000 in
theorem qlines_any (t : By) (ht : t.length ≤ 4611686018427387904) (w : World) : Calls Tryd.prog 21 #[str t] w (Qln w (!isLongF t)) := by
  by_cases hlong : 65536 < t.length
  · have d0 : decide ((65536 : Int) < (t.length : Int)) = true := decide_eq_true (by omega)
    have HL : Hid (isLongF t = true) := ⟨by unfold isLongF; rw [decide_eq_true hlong]; rfl⟩
    clear hlong
    go_enter Tryd.func21, Tryd.ntmps21
    go_wp2_with fail
    refine bodyPost_ret (results_tmp2 rfl _ _ _) rfl ?_
    exact ⟨⟨_, by rw [HL.out]; rfl⟩, Below.refl _ _⟩
  have d0 : decide ((65536 : Int) < (t.length : Int)) = false := decide_eq_false (by omega)
  have hsz : t.length ≤ 65536 := Nat.le_of_not_lt hlong
  have HLO : Hid (∀ ls, lnl t = ls → (!isLongF t) = lnOk ls) := ⟨fun ls e => long_ok hlong e⟩
  generalize (!isLongF t) = ok at *
  clear hlong ht
  go_enter Tryd.func21, Tryd.ntmps21
  go_wp2_with fail
  go_loopw [4, 5, 6] (fun v f i wr => ∃ (ls : List By) (k g : Nat), i = .int .i64 k ∧ f = .int .i64 g ∧ k ≤ t.length ∧ g ≤ t.length ∧ ls.length ≤ 65536 ∧ Hid (So w.heap.size wr v ls) ∧ Hid (Ls9 t ls g k) ∧ Hid (Below w.heap.size w wr)) (fun _ _ i _ => t.length - (intOf i).toNat)
  case atStart => exact ⟨[], 0, 0, rfl, rfl, Nat.zero_le _, Nat.zero_le _, Nat.zero_le _, ⟨So.nil _ _ (Nat.le_refl _)⟩, ⟨Ls9.start t⟩, ⟨Below.refl _ _⟩⟩
  case round =>
    obtain ⟨ls, k, g, rfl, rfl, hk, hg, hl, HS, HL, HB⟩ := hrel
    by_cases hlt : k < t.length
    · have d1 : decide ((k : Int) < (t.length : Int)) = true := decide_eq_true (by omega)
      have hix := run_ix t k hlt
      have HN : Hid (t.getD k 0 ≠ 10 → Ls9 t ls g (k + 1)) := ⟨fun h => HL.out.next hlt h⟩
      have HY : Hid (t.getD k 0 = 10 → Ls9 t (ls ++ [(t.drop g).take (k - g)]) (k + 1) (k + 1)) := ⟨fun h => HL.out.line hlt h⟩
      generalize t.getD k 0 = c at *
      by_cases hc : c = 10
      · subst hc
        have e1 : (((10 : UInt8).toNat : Int) == 10) = true := rfl
        have HLn := Hid.mk (HY.out rfl)
        have hml := run_mid t g k HL.out.fk (by omega) (by omega)
        have hll : ls.length ≤ 4500000000000 := by omega
        have HQ : Hid ((ls ++ [(t.drop g).take (k - g)]).length ≤ 65536) := ⟨by have := HLn.out.le; omega⟩
        generalize (t.drop g).take (k - g) = x at *
        clear HN HY HL
        go_wp2_with (refine app_s rfl _ _ rfl [x] (by simp) rfl HS.out rfl hll rfl rfl ?_; intro v2 w2 o2 b2)
        refine ⟨⟨ls ++ [x], k + 1, k + 1, rfl, rfl, hlt, hlt, HQ.out, ⟨o2⟩, HLn, ⟨HB.out.trans b2⟩⟩, ?_⟩
        show t.length - ((k : Int) + 1).toNat < t.length - ((k : Int)).toNat
        omega
      · have e1 : ((c.toNat : Int) == 10) = false := u8ne (n := 10) (by decide) hc
        have HLn := Hid.mk (HN.out hc)
        clear HN HY HL
        go_wp2_with fail
        refine ⟨⟨ls, k + 1, g, rfl, rfl, hlt, hg, hl, HS, HLn, HB⟩, ?_⟩
        show t.length - ((k : Int) + 1).toNat < t.length - ((k : Int)).toNat
        omega
    · have d1 : decide ((k : Int) < (t.length : Int)) = false := decide_eq_false (by omega)
      have d1' : decide (k < t.length) = false := decide_eq_false hlt
      have HD := Hid.mk (HL.out.done hlt)
      have hgk := HL.out.le
      by_cases hf : g < t.length
      case' pos =>
        have d2 : decide ((g : Int) < (t.length : Int)) = true := decide_eq_true (by omega)
        have d2' : decide (g < t.length) = true := decide_eq_true hf
        have hlo := run_lo t g (by omega) (by omega)
        have hll : ls.length ≤ 4500000000000 := by omega
        have HO := Hid.mk (HLO.out _ (by rw [HD.out, if_pos hf]))
        have hLl : (ls ++ [t.drop g]).length ≤ 65537 := by rw [List.length_append, List.length_singleton]; omega
        generalize t.drop g = x at *
        clear HL hlt HD HLO hf
        go_wp2_with (refine app_s rfl _ _ rfl [x] (by simp) rfl HS.out rfl hll rfl rfl ?_; intro v2 w2 o2 b2)
        have HB2 := Hid.mk (HB.out.trans b2)
        clear b2 hlo hll d2 d2' HS HB
        obtain ⟨a2, c2, rfl, hT⟩ := o2.slice
        generalize ls ++ [x] = L at *
      case' neg =>
        have d2 : decide ((g : Int) < (t.length : Int)) = false := decide_eq_false (by omega)
        have d2' : decide (g < t.length) = false := decide_eq_false hf
        have HO := Hid.mk (HLO.out _ (by rw [HD.out, if_neg hf]))
        have hLl : ls.length ≤ 65537 := by omega
        have o2 := HS.out
        obtain ⟨a2, c2, rfl, hT⟩ := o2.slice
        have HB2 := HB
        clear HL hlt HD HLO hf HS HB
        generalize ls = L at *
        obtain ⟨w2, hw2⟩ : ∃ w2, w2 = wr := ⟨_, rfl⟩
        subst hw2
        go_wp2_with fail
      all_goals
        clear o2
        go_loopw [7] (fun i wr => ∃ k : Nat, i = .int .i64 k ∧ k ≤ L.length ∧ wr = w2 ∧ Hid ((L.take k).any (fun l => decide (8192 < l.length)) = false)) (fun i _ => L.length - (intOf i).toNat)
        case atStart => exact ⟨0, rfl, Nat.zero_le _, rfl, ⟨by simp⟩⟩
        case round =>
          obtain ⟨k, rfl, hk, rfl, HA⟩ := hrel
          by_cases hlt : k < L.length
          · have d3 : decide ((k : Int) < (L.length : Int)) = true := decide_eq_true (Int.ofNat_lt.2 hlt)
            have k0 : (0 : Int) ≤ (k : Int) := Int.natCast_nonneg k
            have k1 : (k : Int) < (L.length : Int) := Int.ofNat_lt.2 hlt
            obtain ⟨x, hx⟩ : ∃ x, L[k]? = some x := ⟨_, List.getElem?_eq_getElem hlt⟩
            obtain ⟨b, off, ea, hb, hc⟩ := hT.get k x hx
            subst ea
            have HT : Hid (L.take (k + 1) = L.take k ++ [x]) := ⟨by rw [List.take_add_one, hx]; rfl⟩
            have HM : Hid (x ∈ L) := ⟨List.mem_of_getElem? hx⟩
            clear hx
            by_cases h8 : 8192 < x.length
            · have d4 : decide ((8192 : Int) < (x.length : Int)) = true := decide_eq_true (by omega)
              have HF : Hid (ok = false) := ⟨by
                rw [HO.out]
                unfold lnOk
                rw [List.any_eq_true.2 ⟨x, HM.out, decide_eq_true h8⟩]; rfl⟩
              clear HT HM h8 HO HA
              go_wp2_with fail
              refine bodyPost_ret (results_tmp2 rfl _ _ _) rfl ?_
              have hf := HF.out
              subst hf
              exact ⟨⟨_, rfl⟩, HB2.out⟩
            · have d4 : decide ((8192 : Int) < (x.length : Int)) = false := decide_eq_false (by omega)
              have HA2 : Hid ((L.take (k + 1)).any (fun l => decide (8192 < l.length)) = false) := ⟨by rw [HT.out, List.any_append, HA.out]; simp [h8]⟩
              clear HT HM h8 HA
              go_wp2_with fail
              refine ⟨⟨k + 1, rfl, hlt, by first | trivial | rfl, HA2⟩, ?_⟩
              show L.length - ((k : Int) + 1).toNat < L.length - ((k : Int)).toNat
              omega
          · have d3 : decide ((k : Int) < (L.length : Int)) = false := decide_eq_false (fun q => hlt (Int.ofNat_lt.1 q))
            have d3' : decide (k < L.length) = false := decide_eq_false hlt
            have HF : Hid (ok = decide ((L.length : Int) ≤ 1024)) := ⟨by
              have ha := HA.out
              rw [show k = L.length by omega, List.take_length] at ha
              rw [HO.out]
              unfold lnOk
              rw [ha, Bool.false_or]
              by_cases q : 1024 < L.length
              · rw [decide_eq_true q, decide_eq_false (by omega)]; rfl
              · rw [decide_eq_false q, decide_eq_true (by omega)]; rfl⟩
            generalize hdd : decide ((L.length : Int) ≤ 1024) = dd at *
            clear hlt HA HO hk
            go_wp2_with fail
            refine bodyPost_ret (results_tmp2 rfl _ _ _) rfl ?_
            have hf := HF.out
            subst hf
            exact ⟨⟨_, rfl⟩, HB2.out⟩
end Go.Proofs.YtgbkloihclbimaaDoor

/- Layer 22: the document's Quote. -/
namespace Go.Proofs.YtgbkloihclbimaaDoor
set_option maxRecDepth 100000
set_option linter.unusedVariables false
set_option linter.unusedSimpArgs false
open Go.RowKit
attribute [local go_sem ↓] Go.wp_at_zero Go.wp_at_succ sl9 ix9
theorem wrq16 (x : UInt8) : IntKind.u8.wrap ((x.toNat : Int) / 16) = ((x.toNat / 16 : Nat) : Int) := by
  have h : ∀ n : Fin 256, IntKind.u8.wrap (((n.val : Nat) : Int) / 16) = ((n.val / 16 : Nat) : Int) := by decide +kernel
  exact h ⟨x.toNat, x.toNat_lt⟩
theorem ob_new (l : By) (w : World) (n : Nat) (hn : l.length = n) (cs : Array Value) (hc : cs = (vals l).toArray) (h0 : 0 < n) (hm : n ≤ 100) : Ob w.heap.size (w.alloc (.cells cs 5)) (.slice (some ⟨w.heap.size, 0, none⟩) n n) l := by
  subst hn hc
  have hl : (vals l).length = l.length := by simp [vals]
  refine ⟨⟨?_, .inr ⟨w.heap.size, l.length, (vals l).toArray, rfl, Nat.le_refl _, heap_alloc_new w _, Nat.le_refl _, ?_, ?_⟩⟩, by simp⟩
  · rw [hl, Nat.mul_one]
  · have : maxLen = 9223372036854775807 := rfl
    omega
  · refine ⟨by simp [vals], ?_⟩
    rw [List.take_of_length_le (by simp [vals])]
set_option maxHeartbeats 1000000 in
theorem qQuote_any (s : By) (w : World) (hn : s.length ≤ 1000000000000) : Calls Tryd.prog 10 #[str s] w fun e w' => e = .returned (str (quo s)) ∧ Below w.heap.size w w' := by
  have o0 := ob_new [34] w 1 rfl #[.int .u8 34] rfl (by decide) (by decide)
  have b0 : Below w.heap.size w (w.alloc (.cells #[.int .u8 34] 5)) := (Below.refl _ _).alloc (Nat.le_refl _) _
  go_enter Tryd.func10, Tryd.ntmps10
  go_wp2_with fail
  go_loopw [4, 5, 6] (fun b i _ wr => ∃ k : Nat, k ≤ s.length ∧ i = .int .i64 k ∧ Ob w.heap.size wr b (34 :: (s.take k).flatMap qb) ∧ Below w.heap.size w wr) (fun _ i _ _ => s.length - (intOf i).toNat)
  case atStart => exact ⟨0, by omega, rfl, by simpa using o0, b0⟩
  case round =>
    clear o0 b0
    obtain ⟨k, hk, rfl, hO, hB⟩ := hrel
    replace hO := Hid.mk hO
    replace hB := Hid.mk hB
    by_cases hlt : k < s.length
    · have hc : s[k]? = some (s.getD k 0) := by rw [List.getD_eq_getElem?_getD, List.getElem?_eq_getElem hlt]; rfl
      have ht := take_succ hc
      have hql := qbs_le (s.take k)
      rw [List.length_take] at hql
      have hix := run_ix s k hlt
      generalize hcc : s.getD k 0 = c at *
      have hlen : (34 :: (s.take k).flatMap qb).length ≤ 100000000000000 := by
        rw [List.length_cons]; omega
      have d1 : decide ((k : Int) < (s.length : Int)) = true := decide_eq_true (by omega)
      have hc8 : c.toNat < 256 := c.toNat_lt
      have HN : Hid (∀ b wr, Ob w.heap.size wr b ((34 :: (s.take k).flatMap qb) ++ qb c) → Ob w.heap.size wr b (34 :: (s.take (k + 1)).flatMap qb)) := ⟨fun b wr h => by rw [ht, List.flatMap_append]; simpa using h⟩
      clear ht hql hcc hc
      by_cases h34 : c = 34 ∨ c = 92
      · have hq : Hid (qb c = [92, c]) := ⟨by unfold qb; rw [if_pos h34]⟩
        rcases h34 with rfl | rfl
        · have t1 : (((34 : UInt8).toNat : Int) == 34) = true := rfl
          go_wp2_with (refine app_bs rfl _ _ rfl [92, 34] _ rfl (by decide) rfl hO.out rfl hlen rfl rfl rfl ?_; intro v2 w2 o2 b2 k2)
          refine ⟨⟨k + 1, by omega, rfl, HN.out _ _ (by rw [hq.out]; exact o2), hB.out.trans b2⟩, ?_⟩
          show s.length - ((k : Int) + 1).toNat < s.length - ((k : Int)).toNat
          omega
        · have t1 : (((92 : UInt8).toNat : Int) == 34) = false := rfl
          have t2 : (((92 : UInt8).toNat : Int) == 92) = true := rfl
          go_wp2_with (refine app_bs rfl _ _ rfl [92, 92] _ rfl (by decide) rfl hO.out rfl hlen rfl rfl rfl ?_; intro v2 w2 o2 b2 k2)
          refine ⟨⟨k + 1, by omega, rfl, HN.out _ _ (by rw [hq.out]; exact o2), hB.out.trans b2⟩, ?_⟩
          show s.length - ((k : Int) + 1).toNat < s.length - ((k : Int)).toNat
          omega
      have n34 : c ≠ 34 := fun q => h34 (.inl q)
      have n92 : c ≠ 92 := fun q => h34 (.inr q)
      have t1 : ((c.toNat : Int) == 34) = false := u8ne (n := 34) (by decide) n34
      have t2 : ((c.toNat : Int) == 92) = false := u8ne (n := 92) (by decide) n92
      by_cases hh : c < 32 ∨ 126 < c
      · have hq : Hid (qb c = [92, 120, hxd (c.toNat / 16), hxd (c.toNat % 16)]) := ⟨by unfold qb; rw [if_neg h34, if_pos hh]⟩
        have i1 : ∀ w, (ixS (.string ⟨#[48, 49, 50, 51, 52, 53, 54, 55, 56, 57, 97, 98, 99, 100, 101, 102]⟩) (.int .u8 (IntKind.u8.wrap ((c.toNat : Int) / 16)))).run Tryd.prog w = .ok (.int .u8 ((hxd (c.toNat / 16)).toNat : Int)) w := fun w => by
          have h := idxdig (c.toNat / 16) (by omega) w
          rw [wrq16 c]
          exact h
        have i2 : ∀ w, (ixS (.string ⟨#[48, 49, 50, 51, 52, 53, 54, 55, 56, 57, 97, 98, 99, 100, 101, 102]⟩) (.int .u8 ((c.toNat : Int).tmod 16))).run Tryd.prog w = .ok (.int .u8 ((hxd (c.toNat % 16)).toNat : Int)) w := fun w => idxdig (c.toNat % 16) (by omega) w
        generalize hxd (c.toNat / 16) = da at *
        generalize hxd (c.toNat % 16) = db at *
        obtain ⟨v2, w2, hr, o2, b2, k2⟩ := run_bs (w1 := wr.drew) [92, 120, da, db] #[.int .u8 92, .int .u8 120, .int .u8 da.toNat, .int .u8 db.toNat] rfl (by simp) hO.out.drew hlen
        have HF : Hid (Ob w.heap.size w2 v2 (34 :: (s.take (k + 1)).flatMap qb) ∧ Below w.heap.size w w2) := ⟨HN.out _ _ (by rw [hq.out]; exact o2), (hB.out.drew).trans b2⟩
        clear o2 b2 k2 HN hq
        by_cases h32 : c.toNat < 32
        · have t3 : decide ((c.toNat : Int) < 32) = true := decide_eq_true (by omega)
          go_wp2_with fail
          go_region_law (refine step_run rfl _ _ rfl rfl rfl (hr _) ?_)
          all_goals go_wp2_with fail
          all_goals exact ⟨⟨k + 1, by omega, rfl, HF.out⟩, by simp [intOf]; omega⟩
        · have t3 : decide ((c.toNat : Int) < 32) = false := decide_eq_false (by omega)
          have t4 : decide ((126 : Int) < (c.toNat : Int)) = true := decide_eq_true (by
            rcases hh with z | z
            · exact absurd (UInt8.lt_iff_toNat_lt.1 z) h32
            · have := UInt8.lt_iff_toNat_lt.1 z
              have e : (126 : UInt8).toNat = 126 := rfl
              omega)
          go_wp2_with fail
          go_region_law (refine step_run rfl _ _ rfl rfl rfl (hr _) ?_)
          all_goals go_wp2_with fail
          all_goals exact ⟨⟨k + 1, by omega, rfl, HF.out⟩, by simp [intOf]; omega⟩
      · have hq : Hid (qb c = [c]) := ⟨by unfold qb; rw [if_neg h34, if_neg hh]⟩
        have g1 : ¬ c.toNat < 32 := fun q => hh (.inl (UInt8.lt_iff_toNat_lt.2 q))
        have g2 : ¬ 126 < c.toNat := fun q => hh (.inr (UInt8.lt_iff_toNat_lt.2 q))
        have t3 : decide ((c.toNat : Int) < 32) = false := decide_eq_false (by omega)
        have t5 : decide ((126 : Int) < (c.toNat : Int)) = false := decide_eq_false (by omega)
        go_wp2_with (refine app_bs rfl _ _ rfl [c] _ rfl (by simp) rfl hO.out rfl hlen rfl rfl rfl ?_; intro v2 w2 o2 b2 k2)
        refine ⟨⟨k + 1, by omega, rfl, HN.out _ _ (by rw [hq.out]; exact o2), hB.out.trans b2⟩, ?_⟩
        show s.length - ((k : Int) + 1).toNat < s.length - ((k : Int)).toNat
        omega
    · have d1 : decide ((k : Int) < (s.length : Int)) = false := decide_eq_false (by omega)
      have d2 : decide (k < s.length) = false := decide_eq_false hlt
      have hks : Hid (k = s.length) := ⟨by omega⟩
      have hql := qbs_le (s.take k)
      rw [List.length_take] at hql
      have hlen : (34 :: (s.take k).flatMap qb).length ≤ 100000000000000 := by
        rw [List.length_cons]; omega
      clear hql
      go_wp2_with (refine app_bs rfl _ _ rfl [34] _ rfl (by decide) rfl hO.out rfl hlen rfl rfl rfl ?_; intro v2 w2 o2 b2 k2; have hcv := conv_own o2)
      go_ret
      refine ⟨?_, hB.out.trans b2⟩
      rw [hks.out, List.take_length]
      rfl
end Go.Proofs.YtgbkloihclbimaaDoor
