/- Layer 22: Print. -/
import Derived.Test.YtgbkloihclbimaaDoorWu
import Derived.Test.YtgbkloihclbimaaDoorGh
namespace Go.Proofs.YtgbkloihclbimaaDoor
set_option maxRecDepth 100000
set_option linter.unusedVariables false
set_option linter.unusedSimpArgs false
open Go.RowKit
attribute [local go_sem ↓] Go.wp_at_zero Go.wp_at_succ sl9 ix9 ldCe stCe
/-- the commands that a slice holds, below M -/
def CL (w : World) (M : Nat) (la : Option Addr) (L : List Cm) : Prop := ∀ k c, L[k]? = some c → OkT c ∧ ∃ b off ma mc ka kc, la = some ⟨b, off, none⟩ ∧ b < M ∧ w.rangeAt b (off + k * 12) (ccs c ma mc ka kc).toList ∧ CB w M c ma ka
theorem CL.low {w w' : World} {M : Nat} {la : Option Addr} {L : List Cm} (h : CL w M la L) (hb : Below M w w') : CL w' M la L := fun k c hk => by
  obtain ⟨ok, b, off, ma, mc, ka, kc, e, hb2, hr, hc⟩ := h k c hk
  exact ⟨ok, b, off, ma, mc, ka, kc, e, hb2, fun j v hv => by rw [hb.cell (p := ⟨b, off + k * 12 + j, none⟩) hb2]; exact hr j v hv, hc.low hb⟩
theorem txP_len (L : List Cm) (k : Nat) : (txP (L.take k)).length ≤ (txP L).length := by
  unfold txP
  conv => rhs; rw [← List.take_append_drop k L]
  rw [List.flatMap_append, List.length_append]; omega
theorem long_of {L : List Cm} {k : Nat} (h : 65536 < (txP (L.take k)).length) : isLongF (txP L) = true := by
  have := txP_len L k
  unfold isLongF
  rw [decide_eq_true (by omega)]
  simp
theorem lineP_le {s : Shp} (hs : s ∈ shps) {c : Cm} (ok : OkC c) : (lineP s c).length ≤ 50000 := wcuts_le _ _ (Nat.le_trans (shps_nlen s hs) (by decide)) (pws_in64 ok _)
set_option maxHeartbeats 4000000 in
theorem print_any (L : List Cm) (M : Nat) (la : Option Addr) (lc : Nat) (w : World) (hL : CL w M la L) (hM : M ≤ w.heap.size) (hn : L.length ≤ 4611686018427387904) (hS : SG w) (hT : TB w) :
    Calls Tryd.prog 6 #[.slice la L.length lc] w fun e w' => e = .returned (.tuple #[str (prT L), .int .i64 (prE L)]) ∧ Below w.heap.size w w' := by
  have HN := Hid.mk hn
  clear hn
  go_enter Tryd.func6, Tryd.ntmps6
  go_wp2_with fail
  go_loopw [5, 6, 7, 13] (fun x y z i wr => ∃ k : Nat, i = .int .i64 k ∧ k ≤ L.length ∧ Hid (Below w.heap.size w wr) ∧ Hid (∀ j c, j < k → L[j]? = some c → (shpOf c).isSome = true)) (fun _ _ _ i _ => L.length - (intOf i).toNat)
  case atStart => exact ⟨0, rfl, Nat.zero_le _, ⟨Below.refl _ _⟩, ⟨fun j c hj => absurd hj (Nat.not_lt_zero _)⟩⟩
  case round =>
    obtain ⟨k, rfl, hk, HB, HA⟩ := hrel
    by_cases hlt : k < L.length
    · have d1 : decide ((k : Int) < (L.length : Int)) = true := decide_eq_true (Int.ofNat_lt.2 hlt)
      obtain ⟨c, hget⟩ : ∃ c, L[k]? = some c := ⟨_, List.getElem?_eq_getElem hlt⟩
      obtain ⟨ok, b, off, ma, mc, ka, kc, ea, hbM, hr, hc⟩ := (hL.low (HB.out.mono hM)) k c hget
      have hld := run_ldC hr
      have hst := run_stC wr c ma mc ka kc
      obtain ⟨wa, hwa⟩ : ∃ wa, wa = wr.alloc (.cells (ccs c ma mc ka kc) 36) := ⟨_, rfl⟩
      have ba : Below wr.heap.size wr wa := by rw [hwa]; exact (Below.refl _ _).alloc (Nat.le_refl _) _
      have ya : Bc wa wr.heap.size c ma mc ka kc := by rw [hwa]; exact heap_alloc_new _ _
      have hld2 := run_ldC ya.range
      have BA := below_seq HB.out ba
      have hso' := shapeOf_any c ma mc ka kc wa (hS.below BA)
      have k0 : (0 : Int) ≤ (k : Int) := Int.natCast_nonneg k
      have k1 : (k : Int) < (L.length : Int) := Int.ofNat_lt.2 hlt
      have hw1 : Hid (wrap64 ((k : Int) + 1) = ((k + 1 : Nat) : Int)) := ⟨wr_succ (Nat.le_trans hk HN.out)⟩
      subst ea
      have hwa' := hwa
      clear ya hr hc ba
      subst hwa
      go_wp2_with fail
      with_reducible refine Calls.mono hso' ?_
      rintro e w2 ⟨rfl, b2⟩
      dsimp only
      have B2 := below_seq BA b2
      cases hq : shpOf c with
      | none =>
        have hno : noSh L = true := List.any_eq_true.2 ⟨c, List.mem_of_getElem? hget, by rw [hq]; rfl⟩
        have HV : Hid (prE L = 110) := ⟨by unfold prE; rw [if_pos hno]⟩
        have HV2 : Hid (prT L = []) := ⟨by unfold prT; rw [if_pos hno]⟩
        have b3 := B2.alloc B2.size (.cells #[str sh0.name, .int .i64 sh0.kind, .int .i64 sh0.step, str sh0.parts] 52)
        simp only [Option.getD_none, Option.isSome_none]
        clear hso' hq hno
        go_wp2_with fail
        refine bodyPost_ret (results_tmp2 rfl _ _ _) rfl ?_
        exact ⟨by rw [HV.out, HV2.out]; rfl, b3⟩
      | some s =>
        have b3 := B2.alloc B2.size (.cells #[str s.name, .int .i64 s.kind, .int .i64 s.step, str s.parts] 52)
        have HB3 := Hid.mk b3
        have HA2 : Hid (∀ j c, j < k + 1 → L[j]? = some c → (shpOf c).isSome = true) := ⟨fun j x hj hjx => by
          by_cases e : j = k
          · rw [e, hget] at hjx
            injection hjx with hjx
            rw [← hjx, hq]; rfl
          · exact HA.out j x (Nat.lt_of_le_of_ne (Nat.le_of_lt_succ hj) e) hjx⟩
        simp only [Option.getD_some, Option.isSome_some]
        clear hso' hq b3 B2 BA b2
        go_wp2_with fail
        go_roundw
        case rel => exact ⟨k + 1, by rw [hw1.out], hlt, HB3, HA2⟩
        case measure => rw [hw1.out]; exact meas_succ hlt
    · have d1 : decide ((k : Int) < (L.length : Int)) = false := decide_eq_false (fun q => hlt (Int.ofNat_lt.1 q))
      have d2 : decide (k < L.length) = false := decide_eq_false hlt
      have hkk : k = L.length := Nat.le_antisymm hk (Nat.le_of_not_lt hlt)
      have hno : noSh L = false := by
        unfold noSh
        rw [List.any_eq_false]
        intro x hx q
        obtain ⟨j, hj, e⟩ := List.getElem_of_mem hx
        have := HA.out j x (by rw [hkk]; exact hj) (by rw [List.getElem?_eq_getElem hj, e])
        cases h : shpOf x with
        | none => rw [h] at this; cases this
        | some y => rw [h] at q; cases q
      have hsome : ∀ c ∈ L, ∃ s, shpOf c = some s := fun c hc => by
        obtain ⟨j, hj, e⟩ := List.getElem_of_mem hc
        have := HA.out j c (by rw [hkk]; exact hj) (by rw [List.getElem?_eq_getElem hj, e])
        exact Option.isSome_iff_exists.1 this
      have HNo := Hid.mk hno
      have HSm := Hid.mk hsome
      have HB1 := HB
      clear hno hsome hkk HA hlt
      have HO0 : Hid (Ob w.heap.size wr (.slice none 0 0) (txP (L.take 0))) := ⟨Ob.nil _ _ HB.out.size⟩
      go_wp2_with fail
      go_loopw [8, 10, 27] (fun v x i wr => ∃ k : Nat, i = .int .i64 k ∧ k ≤ L.length ∧ Hid (Below w.heap.size w wr) ∧ Hid (Ob w.heap.size wr v (txP (L.take k)) ∧ (txP (L.take k)).length ≤ 65536)) (fun _ _ i _ => L.length - (intOf i).toNat)
      case atStart => exact ⟨0, rfl, Nat.zero_le _, HB1, ⟨HO0.out, Nat.zero_le _⟩⟩
      case round =>
        clear HO0 HB1 HB d1 d2 hk
        obtain ⟨k, rfl, hk, HB, HO⟩ := hrel
        by_cases hlt : k < L.length
        · have d1 : decide ((k : Int) < (L.length : Int)) = true := decide_eq_true (Int.ofNat_lt.2 hlt)
          obtain ⟨c, hget⟩ : ∃ c, L[k]? = some c := ⟨_, List.getElem?_eq_getElem hlt⟩
          obtain ⟨s, hsh⟩ := HSm.out c (List.mem_of_getElem? hget)
          have hmem : s ∈ shps := List.mem_of_find?_eq_some hsh
          obtain ⟨ok, b, off, ma, mc, ka, kc, ea, hbM, hr, hc⟩ := (hL.low (HB.out.mono hM)) k c hget
          have hld := run_ldC hr
          have hst := run_stC wr c ma mc ka kc
          obtain ⟨wa, hwa⟩ : ∃ wa, wa = wr.alloc (.cells (ccs c ma mc ka kc) 36) := ⟨_, rfl⟩
          have ba : Below wr.heap.size wr wa := by rw [hwa]; exact (Below.refl _ _).alloc (Nat.le_refl _) _
          have ya : Bc wa wr.heap.size c ma mc ka kc := by rw [hwa]; exact heap_alloc_new _ _
          have hld2 := run_ldC ya.range
          have BA := below_seq HB.out ba
          have hsz : M ≤ wr.heap.size := Nat.le_trans hM HB.out.size
          have htx : Hid (txP (L.take (k + 1)) = (txP (L.take k) ++ lineP s c) ++ [10]) := ⟨by
            rw [take_succ hget]
            unfold txP
            rw [List.flatMap_append]
            simp [shD, hsh]⟩
          have hlen := HO.out.2
          have hll := lineP_le hmem ok.ok
          have hap := appendLine_any w.heap.size M c ok s hsh ma mc ka kc (txP (L.take k)) _ w wa (HO.out.1.later ba) (hc.low (ba.mono hsz)) hM (Nat.le_trans hlen (by decide)) hS hT BA (Nat.le_refl _)
          have HLg : Hid (65536 < (txP (L.take (k + 1))).length → prE L = 3 ∧ prT L = []) := ⟨fun q => by
            have h1 := long_of q
            unfold prE prT
            rw [HNo.out, if_neg (by decide), if_pos h1, if_neg (by decide), if_pos h1]
            exact ⟨rfl, rfl⟩⟩
          rw [htx.out] at HLg
          have hlA : (txP (L.take k) ++ lineP s c).length + 1 ≤ 100000000000000 := by
            rw [List.length_append]
            exact Nat.le_trans (Nat.add_le_add_right (Nat.add_le_add hlen hll) 1) (by decide)
          have k0 : (0 : Int) ≤ (k : Int) := Int.natCast_nonneg k
          have k1 : (k : Int) < (L.length : Int) := Int.ofNat_lt.2 hlt
          have hw1 : Hid (wrap64 ((k : Int) + 1) = ((k + 1 : Nat) : Int)) := ⟨wr_succ (Nat.le_trans hk HN.out)⟩
          subst ea
          generalize txP (L.take k) ++ lineP s c = TL at *
          have HBA := Hid.mk BA
          clear ya hr hc ba HO hlen hll BA hsz
          subst hwa
          go_wp2_with fail
          with_reducible refine Calls.mono hap ?_
          rintro e w2 ⟨v2, rfl, hA⟩
          dsimp only
          have o2 := hA.ob
          have HA2 := Hid.mk hA.bel
          clear hap hld hld2 hst hA
          obtain ⟨n3, hn3⟩ : ∃ n3, (TL ++ [10]).length = n3 := ⟨_, rfl⟩
          rw [hn3] at HLg
          have HN3 := Hid.mk hn3
          clear hn3
          by_cases hbig : 65536 < n3
          · have d3 : decide ((65536 : Int) < (n3 : Int)) = true := decide_eq_true (Int.ofNat_lt.2 hbig)
            obtain ⟨e1, e2⟩ := HLg.out hbig
            have HE1 := Hid.mk e1
            have HE2 := Hid.mk e2
            clear e1 e2 HLg hbig
            go_wp2_with (refine app_strk rfl _ _ rfl [10] o2 hlA rfl rfl ?_; intro v3 w3 o3 b3 k3; obtain ⟨a3, c3, ev⟩ := ob_slice o3; rw [HN3.out] at ev; subst ev)
            refine bodyPost_ret (results_tmp2 rfl _ _ _) rfl ?_
            refine ⟨by rw [HE1.out, HE2.out]; rfl, ?_⟩
            exact HBA.out.trans (HA2.out.trans b3)
          · have d3 : decide ((65536 : Int) < (n3 : Int)) = false := decide_eq_false (fun q => hbig (Int.ofNat_lt.1 q))
            have HBg := Hid.mk (Nat.le_of_not_lt hbig)
            clear HLg hbig
            go_wp2_with (refine app_strk rfl _ _ rfl [10] o2 hlA rfl rfl ?_; intro v3 w3 o3 b3 k3; obtain ⟨a3, c3, ev⟩ := ob_slice o3; rw [HN3.out] at ev; subst ev)
            go_roundw
            case rel => exact ⟨k + 1, by rw [hw1.out], hlt, ⟨HBA.out.trans (HA2.out.trans b3)⟩, ⟨by rw [htx.out]; exact o3, by rw [htx.out, HN3.out]; exact HBg.out⟩⟩
            case measure => rw [hw1.out]; exact meas_succ hlt
        · have d1 : decide ((k : Int) < (L.length : Int)) = false := decide_eq_false (fun q => hlt (Int.ofNat_lt.1 q))
          have d2 : decide (k < L.length) = false := decide_eq_false hlt
          have hkk : k = L.length := Nat.le_antisymm hk (Nat.le_of_not_lt hlt)
          have hO := HO.out.1
          rw [hkk, List.take_length] at hO
          have hlen := HO.out.2
          rw [hkk, List.take_length] at hlen
          have hcv := conv_own hO
          have hil := isLong_any (txP L) (Nat.le_trans hlen (by decide)) wr
          obtain ⟨a9, n9, c9, rfl⟩ := ob_any hO
          have HOX := Hid.mk hO
          clear hlt hkk HO hO hlen
          cases hlg : isLongF (txP L) with
          | true =>
            have HE1 : Hid (prE L = 3) := ⟨by unfold prE; rw [HNo.out, if_neg (by decide), if_pos hlg]⟩
            have HE2 : Hid (prT L = []) := ⟨by unfold prT; rw [HNo.out, if_neg (by decide), if_pos hlg]⟩
            rw [hlg] at hil
            clear hlg
            go_wp2_with fail
            with_reducible refine Calls.mono hil ?_
            rintro e w2 ⟨rfl, b2⟩
            dsimp only
            clear hil
            go_wp2_with fail
            refine bodyPost_ret (results_tmp2 rfl _ _ _) rfl ?_
            exact ⟨by rw [HE1.out, HE2.out]; rfl, below_seq HB.out b2⟩
          | false =>
            have HE1 : Hid (prE L = 0) := ⟨by unfold prE; rw [HNo.out, if_neg (by decide), hlg, if_neg (by decide)]⟩
            have HE2 : Hid (prT L = txP L) := ⟨by unfold prT; rw [HNo.out, if_neg (by decide), hlg, if_neg (by decide)]⟩
            rw [hlg] at hil
            clear hlg
            go_wp2_with fail
            with_reducible refine Calls.mono hil ?_
            rintro e w2 ⟨rfl, b2⟩
            dsimp only
            clear hil
            have hcv2 := conv_own (HOX.out.later b2)
            go_wp2_with fail
            refine bodyPost_ret (results_tmp2 rfl _ _ _) rfl ?_
            exact ⟨by rw [HE1.out, HE2.out]; rfl, below_seq HB.out b2⟩
end Go.Proofs.YtgbkloihclbimaaDoor
