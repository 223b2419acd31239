/- full: a list as full as may be. -/
import Derived.Test.YtibmnpkmbhjniaaLawb
namespace Go.Proofs.Ytibmnpkmbhjniaa
set_option linter.unusedVariables false
set_option linter.unusedSimpArgs false
open Go.RowKit
attribute [local go_sem ↓] Go.wp_at_zero Go.wp_at_succ
attribute [local go_sem ↓] slPe sl9
theorem step_run {ops : Array Oper} {o : Oper} {a : Act} {K : Act → World → Prop} {Q : Exit → Act → World → Prop} {E : Prop} {w w' : World} {v x' r : Value} {t1 t2 : TypeId} (hgd : o.guard = none) (s x : Operand) (ho : o.op = .call { callee := .builtin .append, args := #[s, x], argTypes := #[t1, t2] })
    (hs : a.eval s = v) (hx : a.eval x = x') (hr : (Builtin.append_ #[t1, t2] o.type #[v, x']).run Try.prog w = .ok r w')
    (h : K (a.put o.dst r) w') : if Region.wanted o (yielded ops a.tmps) = true then Oper.wp Try.prog o a w K Q else E := by
  have hw : Region.wanted o (yielded ops a.tmps) = true := by simp [Region.wanted, hgd]
  rw [if_pos hw]
  unfold Oper.wp execOp
  simp only [ho, resolve, invoke, builtin, Sem.run_bind, Sem.run_pure, Result.andThen_ok, List.map_toArray, List.map_cons, List.map_nil, hs, hx, hr]
  exact h
theorem run_slice {w : World} {base : Nat} {v : Value} {l : List En} (ty : TypeId) {ad : Option Addr} {k c : Nat} (q : List En) (hO : Ow base w v l) (hS : Sl w ad c q) (hk : q.length = k) (hn : l.length + q.length ≤ 1000000000000) :
    ∃ v' w', (Builtin.append_ #[22, 22] ty #[v, .slice ad k c]).run Try.prog w = .ok v' w' ∧ Ow base w' v' (l ++ q) ∧ Below base w w' := by
  obtain ⟨i0, hi0, hz0, hz1, hz2⟩ := infoP
  have hm : maxLen = 9223372036854775807 := rfl
  subst hk
  cases ad with
  | none =>
    have hc := hS.nil rfl
    have h0 : q.length = 0 := by have := hS.le; omega
    have hq : q = [] := List.eq_nil_of_length_eq_zero h0
    subst hq hc
    exact ⟨v, w, run_append_owned_none (P := Try.prog) w base 22 ty 43 i0 2 Try.underlying22 hi0 _ l.length (pcells l) hO.own, by simpa using hO, Below.refl _ _⟩
  | some ad =>
    have hcells : ∀ j u, (pcells q)[j]? = some u → w.cell? (ad.add j) = some u := by
      rcases Nat.eq_zero_or_pos q.length with h0 | h0
      · intro j u hj
        have hq : q = [] := List.eq_nil_of_length_eq_zero h0
        subst hq
        simp [pcells] at hj
      · obtain ⟨b, off, e, _⟩ := hS.at'.get 0 q[0] (List.getElem?_eq_getElem h0)
        injection e with e
        subst e
        exact hS.at'.cells
    obtain ⟨v', w', hr, hown, hgrow, _⟩ := run_append_own_wide (P := Try.prog) w base 22 ty 43 i0 _ 2 32 Try.underlying22 hi0 hz0 hz1 hz2 rfl (by omega) v l.length (pcells l) hO.own ad q.length c (pcells q) (pcells_length q) hcells (pcells_one q) (by rw [hm]; omega) (by omega) hO.le
    refine ⟨v', w', hr, ⟨?_, ?_⟩, grown_below hO.own hO.le hgrow⟩
    · rw [pcells_append, List.length_append]; exact hown
    · have := hgrow.size; have h2 := hO.le; omega
theorem sl_one {w : World} {g : Nat} (p : En) (h : w.heap[g]? = some (.cells #[str p.key, str p.val] 43 (0, 0))) : Sl w (some ⟨g, 0, none⟩) 1 [p] := by
  have hg : g < w.heap.size := (Array.getElem?_eq_some_iff.1 h).1
  refine ⟨⟨fun k q hk => ?_⟩, by simp, by omega, fun q => by cases q⟩
  cases k with
  | zero =>
    simp at hk
    subst hk
    obtain ⟨c0, c1⟩ := box2 h
    exact ⟨g, 0, rfl, hg, c0, c1⟩
  | succ k => simp at hk
theorem step_app {ops : Array Oper} {o : Oper} {a : Act} {K : Act → World → Prop} {Q : Exit → Act → World → Prop} {E : Prop} {w : World} (hgd : o.guard = none) (s x : Operand) (ho : o.op = .call { callee := .builtin .append, args := #[s, x], argTypes := #[22, 22] })
    {base : Nat} {v : Value} {l : List En} {ad : Option Addr} {k c : Nat} (q : List En) (hO : Ow base w v l) (hS : Sl w ad c q) (hk : q.length = k) (hn : l.length + q.length ≤ 1000000000000)
    (hs : a.eval s = v) (hx : a.eval x = .slice ad k c)
    (h : ∀ v' w', Ow base w' v' (l ++ q) → Below base w w' → K (a.put o.dst v') w') :
    if Region.wanted o (yielded ops a.tmps) = true then Oper.wp Try.prog o a w K Q else E := by
  obtain ⟨v', w', hr, h1, h2⟩ := run_slice o.type q hO hS hk hn
  exact step_run hgd s x ho hs hx hr (h v' w' h1 h2)
set_option maxHeartbeats 4000000 in
theorem full_any (raw : List En) (w : World) (a : Option Addr) (cap : Nat) (hP : PIn w a raw) (hl : raw.length ≤ 9223372036854775807) (hz : ∀ (k : Nat) (e : En), raw[k]? = some e → e.key.length ≤ 9223372036854775807 ∧ e.val.length ≤ 9223372036854775807) :
    Calls Try.prog 10 #[.slice a raw.length cap, .int .i64 507] w fun e w' => ∃ v, e = .returned v ∧ Ow w.heap.size w' v (fulL 507 raw) ∧ Below w.heap.size w w' := by
  have HE : Hid (∀ k, k ≤ 300 → (k = raw.length ∨ k = 300) → fulU 507 raw k = fulL 507 raw) := ⟨fun k h1 h2 => by
    rcases h2 with rfl | rfl
    · exact fulU_all (Nat.le_refl _) h1
    · rfl⟩
  go_enter Try.func10, Try.ntmps10
  go_wp2_with fail
  go_loopw [5, 6] (fun v i wr => ∃ k : Nat, k ≤ raw.length ∧ k ≤ 300 ∧ i = .int .i64 (k : Int) ∧ Hid (Ow w.heap.size wr v (fulU 507 raw k)) ∧ Below w.heap.size w wr) (fun _ i _ => raw.length - (intOf i).toNat)
  case atStart => exact ⟨0, by omega, by omega, rfl, ⟨Ow.nil _ _ (Nat.le_refl _)⟩, Below.refl _ _⟩
  case round =>
    obtain ⟨k, hk, hk2, rfl, HO, hb⟩ := hrel
    by_cases h1 : k < raw.length
    · have d1 : decide ((k : Int) < (raw.length : Int)) = true := decide_eq_true (by omega)
      have k2 : (k : Int) < (raw.length : Int) := by omega
      by_cases h2 : k < 300
      · have d2 : decide ((k : Int) < 300) = true := decide_eq_true (by omega)
        obtain ⟨p, hp⟩ : ∃ p, raw[k]? = some p := ⟨raw[k], List.getElem?_eq_getElem h1⟩
        obtain ⟨b1, off1, rfl, hbl, c0, c1⟩ := (hP.later hb).get k p hp
        have HS := Hid.mk (fulU_succ (room := 507) hp)
        have hle := fulU_len raw k
        have hinv := fulU_inv 507 raw k
        have htot : tot (srtd (fulU 507 raw k ++ [ctE p])) ≤ 50400 := srtd_tot_small (fun e he => by
          rcases List.mem_append.1 he with q | q
          · exact hinv.2.1 e q
          · rw [List.mem_singleton.1 q]; exact ctE_short p)
        have htw := wrap_small (a := (tot (srtd (fulU 507 raw k ++ [ctE p])) : Int)) (by omega) (by omega)
        have hlc := fun w => lcut_any p w (hz k p hp).1 (hz k p hp).2
        have hsl := srtd_len (fulU 507 raw k ++ [ctE p])
        obtain ⟨av, cv, rfl, hSv⟩ := HO.out.sl
        clear hinv
        have hSz : ∀ w a cap, PIn w a (srtd (fulU 507 raw k ++ [ctE p])) → Calls Try.prog 14 #[.slice a (srtd (fulU 507 raw k ++ [ctE p])).length cap] w fun e w' => e = .returned (.int .i64 (tot (srtd (fulU 507 raw k ++ [ctE p])) : Int)) ∧ Below w.heap.size w w' := fun w a cap h => by
          have := Size_any (srtd (fulU 507 raw k ++ [ctE p])) w a cap h (by omega)
          unfold totw at this
          rw [htw] at this
          exact this
        have hso := fun w a n cap hn h => sorted_any (fulU 507 raw k ++ [ctE p]) w a n cap hn h (by simp; omega)
        have hxe : pv (ctE p) = .agg #[str (ctE p).key, str (ctE p).val] := rfl
        generalize fulU 507 raw k = U at *
        generalize ctE p = X at *
        generalize hM : srtd (U ++ [X]) = M at *
        generalize hT : tot M = TM at *
        clear htw
        go_wp2_with (go_at_call 21; refine (hlc _).mono ?_; rintro e w1 ⟨rfl, hb1⟩)
        have HB1 : Hid (Below w.heap.size w (w1.alloc (.cells #[str X.key, str X.val] 43))) := ⟨(hb.trans (hb1.mono hb.size)).alloc (Nat.le_trans hb.size hb1.size) _⟩
        have hSv2 := hSv.later (hb1.alloc hb1.size (.cells #[str X.key, str X.val] 43))
        have HO2 : Hid (Ow w.heap.size (w1.alloc (.cells #[str X.key, str X.val] 43)) (.slice av U.length cv) U) := ⟨(HO.out.later hb1).alloc _⟩
        have hxb : (w1.alloc (.cells #[str X.key, str X.val] 43)).heap[w1.heap.size]? = some (.cells #[str X.key, str X.val] 43 (0, 0)) := heap_alloc_new _ _
        obtain ⟨x0, x1⟩ := box2 hxb
        have hxl : w1.heap.size < (w1.alloc (.cells #[str X.key, str X.val] 43)).heap.size := by simp
        generalize w1.alloc (.cells #[str X.key, str X.val] 43) = W2 at *
        generalize w1.heap.size = gx at *
        have XC : Hid (∀ w', Below W2.heap.size W2 w' → Below W2.heap.size W2 w' ∧ w'.cell? ⟨gx, 0, none⟩ = some (str X.key) ∧ w'.cell? ⟨gx, 1, none⟩ = some (str X.val)) := ⟨fun w' h => ⟨h, (Below.cell (p := ⟨gx, _, none⟩) h hxl).trans x0, (Below.cell (p := ⟨gx, _, none⟩) h hxl).trans x1⟩⟩
        go_region_held3 (fun w' => Below W2.heap.size W2 w' ∧ w'.cell? ⟨gx, 0, none⟩ = some (str X.key) ∧ w'.cell? ⟨gx, 1, none⟩ = some (str X.val)) (first
          | exact XC.out _ ((Below.refl _ _).drew)
          | exact XC.out _ (below_seq (Below.refl _ _).drew b3)
          | exact XC.out _ ((below_seq (Below.refl _ _).drew b3).alloc b3.size _)
          | exact XC.out _ (((Below.refl _ _).alloc (Nat.le_refl _) _).drew)
          | exact XC.out _ (below_seq ((Below.refl _ _).alloc (Nat.le_refl _) _).drew b3)
          | exact XC.out _ (((below_seq (Below.refl _ _).drew b3).alloc b3.size _).trans b4)
          | exact XC.out _ ((below_seq ((Below.refl _ _).alloc (Nat.le_refl _) _).drew b3).trans (b4.mono (by simp)))
          | exact XC.out _ (below_seq (((below_seq (Below.refl _ _).drew b3).alloc b3.size _).trans b4) b5)
          | exact XC.out _ (below_seq ((below_seq ((Below.refl _ _).alloc (Nat.le_refl _) _).drew b3).trans (b4.mono (by simp))) b5)) (first
          | (refine step_app rfl _ _ rfl U (Ow.nil _ _ (Nat.le_refl _)) (hSv2.later (And.left (by assumption))) rfl (by simp; omega) rfl rfl ?_; intro v3 w3 o3 b3)
          | (refine step_app rfl _ _ rfl [X] (o3.alloc _) (sl_one X (heap_alloc_new _ _)) rfl (by simp; omega) rfl rfl ?_; intro v4 w4 o4 b4; obtain ⟨a4, c4, rfl, s4⟩ := o4.sl; rw [List.nil_append] at s4)
          | (refine step_app rfl _ _ rfl [X] o3 (sl_one X ((b3.block _ (by simp)).trans (heap_alloc_new _ _))) rfl (by simp; omega) rfl rfl ?_; intro v4 w4 o4 b4; obtain ⟨a4, c4, rfl, s4⟩ := o4.sl; rw [List.nil_append] at s4)
          | (go_at_call 15; with_reducible refine Calls.mono (hso _ _ _ _ (by simp) s4.at') ?_; rintro e w5 ⟨v5, rfl, o5, b5⟩; obtain ⟨a5, c5, rfl, s5⟩ := o5.sl))
        all_goals
          have HB5 : Below W2.heap.size W2 w5 := And.left (by assumption)
          have HO5 : Hid (Ow w.heap.size w5 (.slice a5 M.length c5) M) := ⟨o5.base (by have h1 := HB1.out.size; have h2 := b3.size; have h3 := b4.size; simp at h2 h3; omega)⟩
          have HOU := Hid.mk (HO2.out.later HB5)
          have HBW := Hid.mk (HB1.out.trans (HB5.mono HB1.out.size))
          have hsz5 := hSz w5 a5 c5 s5.at'
          clear HB5 o5 o4 o3 b3 b4 b5 HO2 HB1 hb1 s4 hSv2 hSv HO hb XC x0 x1 hxb hxl
          by_cases hfit : TM ≤ 507
          · have dT : decide ((TM : Int) ≤ 507) = true := decide_eq_true (by omega)
            go_wp2_with (go_at_call 14; refine hsz5.mono ?_; rintro e w6 ⟨rfl, b6⟩)
            exact ⟨⟨k + 1, by omega, by omega, by go_num, ⟨by rw [HS.out, if_pos hfit]; exact HO5.out.later b6⟩, HBW.out.trans (b6.mono HBW.out.size)⟩, by simp [intOf]; omega⟩
          · have dT : decide ((TM : Int) ≤ 507) = false := decide_eq_false (by omega)
            go_wp2_with (go_at_call 14; refine hsz5.mono ?_; rintro e w6 ⟨rfl, b6⟩)
            exact ⟨⟨k + 1, by omega, by omega, by go_num, ⟨by rw [HS.out, if_neg hfit]; exact HOU.out.later b6⟩, HBW.out.trans (b6.mono HBW.out.size)⟩, by simp [intOf]; omega⟩
      · have d2 : decide ((k : Int) < 300) = false := decide_eq_false (by omega)
        have HV := Hid.mk (HE.out k hk2 (Or.inr (by omega)))
        go_wp2_with fail
        go_ret
        exact ⟨_, rfl, by rw [← HV.out]; exact HO.out, hb⟩
    · obtain rfl : k = raw.length := by omega
      have d1 : decide ((raw.length : Int) < (raw.length : Int)) = false := decide_eq_false (by omega)
      have HV := Hid.mk (HE.out raw.length hk2 (Or.inl rfl))
      go_wp2_with fail
      go_ret
      exact ⟨_, rfl, by rw [← HV.out]; exact HO.out, hb⟩
end Go.Proofs.Ytibmnpkmbhjniaa
