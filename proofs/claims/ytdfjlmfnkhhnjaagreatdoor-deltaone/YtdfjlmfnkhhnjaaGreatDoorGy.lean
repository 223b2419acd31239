import Derived.Test.YtdfjlmfnkhhnjaaGreatDoorGs
import Derived.Deep.AppendLies
import Derived.Deep.RegionLaw
import Derived.Great.BuildSlice
/- The reader's pairs. -/
namespace Go.Proofs.YtdfjlmfnkhhnjaaGreatDoor
set_option maxRecDepth 100000
set_option linter.unusedVariables false
set_option linter.unusedSimpArgs false
open Go.RowKit
open Go.Proofs.YtdfjlmfnkhhnjaaGreatDoorP (TB recd nn LEN key Rd RdAt)
attribute [local go_sem ↓] Go.wp_at_zero Go.wp_at_succ
theorem hasPre_iff (s p : List UInt8) : Lib.hasPrefix s p = true ↔ p <+: s := by
  unfold Lib.hasPrefix
  simp
theorem trim_meta {s : List UInt8} (h : sMeta <+: s) : Lib.trimPrefix s sMeta = s.drop 5 := by
  unfold Lib.trimPrefix
  rw [if_pos ((hasPre_iff s sMeta).2 h)]
  rfl
theorem cut_any (s : List UInt8) (w : World) : Calls Tryz.prog 151 #[str s, .string ⟨#[109, 101, 116, 97, 46]⟩] w fun e w' => e = .returned (.tuple #[str (Lib.trimPrefix s sMeta), .bool (Lib.hasPrefix s sMeta)]) ∧ w' = w := Tryz.strings_CutPrefix ⟨s.toArray⟩ ⟨#[109, 101, 116, 97, 46]⟩ w
theorem Ow.oth {base : Nat} {w : World} {v : Value} {l : List En} (h : Ow base w v l) {g j : Nat} (hg : g < base) (c : Value) : Ow base (w.setCell ⟨g, j, none⟩ c) v l :=
  ⟨ownsRow_setCell_other h.own (a := ⟨g, j, none⟩) (fun q => by have h2 : base ≤ g := (h.own.lt _ q).1; omega) _, by simpa using h.le⟩
theorem Oth.then {X : Bs} {w w' w2 : World} (h : Oth X w w') {B : Nat} (hb : Below B w' w2) (hB : w.heap.size ≤ B) : Oth X w w2 :=
  ⟨hb.os.trans h.os, hb.tape.trans h.tape, hb.output.trans h.output, Nat.le_trans h.size hb.size, fun k hk hn => (hb.block k (by omega)).trans (h.block k hk hn)⟩
theorem Oth.set {w w' : World} {g j : Nat} {v : Value} (h : Oth (fun x => x = g) w w') : Oth (fun x => x = g) w (w'.setCell ⟨g, j, none⟩ v) :=
  ⟨h.os, h.tape, h.output, by simpa using h.size, fun k hk hn => by rw [hso _ _ (by omega)]; exact h.block k hk hn⟩
theorem Oth.bel {w0 w w' : World} {g : Nat} (h : Oth (fun x => x = g) w w') (hb : Below w0.heap.size w0 w) (hg : w0.heap.size ≤ g) : Below w0.heap.size w0 w' :=
  hb.trans ⟨h.os, h.tape, h.output, h.size, fun k hk => h.block k (by have := hb.size; omega) (fun q => by omega)⟩
/-- behind k pairs -/
structure PK (b : List UInt8) (g p : Nat) (w wr : World) (v : Value) (k q : Nat) (l : List En) : Prop where
  rx : Rx wr g b (q, false)
  oth : Oth (fun x => x = g) w wr
  ow : Ow w.heap.size wr v l
  len : l.length = k
  le : q ≤ b.length
  eq : prsF b 8 p = (l ++ (prsF b (8 - k) q).1, (prsF b (8 - k) q).2)
theorem prsFstop {b : List UInt8} {f q : Nat} (h : ∀ x n, rdF b q = some (x, n) → ¬ sMeta <+: x.1) : prsF b f q = ([], q) := by
  cases f with
  | zero => rfl
  | succ f =>
    unfold prsF
    cases hr : rdF b q with
    | none => rfl
    | some y =>
      obtain ⟨x, n⟩ := y
      simp only
      rw [if_neg (h x n hr)]
theorem prsFgo {b : List UInt8} {f q n : Nat} {x : Kv} (h : rdF b q = some (x, n)) (hm : sMeta <+: x.1) : prsF b (f + 1) q = (⟨x.1.drop 5, x.2⟩ :: (prsF b f n).1, (prsF b f n).2) := by
  conv => lhs; unfold prsF
  rw [h]
  simp only
  rw [if_pos hm]
def slen : Value → Nat
  | .slice _ n _ => n
  | _ => 0
set_option maxRecDepth 100000 in
set_option maxHeartbeats 4000000 in
theorem pairs_any (b : List UInt8) (s : Rs) (g : Nat) (w0 w : World) (hR : Rx w g b s) (hs : s.1 ≤ b.length) (hbl : b.length ≤ 4611686018427387904) (hB : Below w0.heap.size w0 w) (hg : w0.heap.size ≤ g) (hT : TB w0) :
    Calls Tryz.prog 105 #[.pointer (some ⟨g, 0, none⟩)] w fun e w' => ∃ v, e = .returned v ∧ Ow w.heap.size w' v (prs2F b s).1 ∧ RP g b (prs2F b s).2 w w' := by
  obtain ⟨p, bad⟩ := s
  dsimp only at hs
  cases bad with
  | true =>
    have hv : prs2F b (p, true) = ([], (p, true)) := by unfold prs2F; rw [if_pos rfl]
    rw [hv]
    obtain ⟨c0, c1, c2, cf⟩ := hR.cells
    go_enter Tryz.func105, Tryz.ntmps105
    go_wp2_with fail
    go_loopw [3] (fun v wr => v = .slice none 0 0 ∧ wr = w) (fun _ _ => 0)
    case atStart => exact ⟨rfl, rfl⟩
    case round =>
      obtain ⟨rfl, rfl⟩ := hrel
      go_wp2_with fail
      go_ret
      exact ⟨_, rfl, Ow.nil _ _ (Nat.le_refl _), RP.refl hR⟩
  | false =>
    have hv : prs2F b (p, false) = ((prsF b 8 p).1, ((prsF b 8 p).2, false)) := by unfold prs2F; rw [if_neg (show ¬ (false = true) from Bool.false_ne_true)]
    have hgl := hR.lt
    have P0 : PK b g p w w (.slice none 0 0) 0 p [] := ⟨hR, Oth.of_below (Below.refl _ _), Ow.nil _ _ (Nat.le_refl _), rfl, hs, by simp⟩
    have HV := Hid.mk hv
    have HT := Hid.mk hT
    have HB := Hid.mk hB
    clear hR hv hT hB hs
    go_enter Tryz.func105, Tryz.ntmps105
    go_wp2_with fail
    go_loopw [3] (fun v wr => ∃ (k q : Nat) (l : List En), k ≤ 8 ∧ Hid (PK b g p w wr v k q l)) (fun v _ => 8 - slen v)
    case atStart => exact ⟨0, p, [], by omega, ⟨P0⟩⟩
    case round =>
      clear P0
      obtain ⟨k, q, l, hk, HP⟩ := hrel
      obtain ⟨va, vc, ev, hsl⟩ := HP.out.ow.sl
      rw [HP.out.len] at ev
      subst ev
      have hqb := HP.out.le
      obtain ⟨c0, c1, c2, cf⟩ := HP.out.rx.cells
      dsimp only at c1 c2
      have fin : ∀ w', Below wr.heap.size wr w' → prsF b (8 - k) q = ([], q) → Hid (Ow w.heap.size w' (.slice va k vc) (prs2F b (p, false)).1 ∧ RP g b (prs2F b (p, false)).2 w w') := fun w' hb' he => ⟨by
        rw [HV.out, HP.out.eq, he]
        simp only [List.append_nil]
        exact ⟨HP.out.ow.later hb', HP.out.rx.later hb', HP.out.oth.then hb' HP.out.oth.size⟩⟩
      by_cases hlt : k < 8
      · have d1 : decide ((k : Int) < 8) = true := decide_eq_true (by omega)
        have hTB := HT.out.below (HP.out.oth.bel HB.out hg)
        have hrd := rd_any b q hqb hbl wr.drew (hTB.below (Below.refl _ _).drew)
        have XC : Hid (∀ w', Below wr.heap.size wr w' → Below wr.heap.size wr w' ∧ w'.cell? ⟨g, 0, none⟩ = some (str b) ∧ w'.cell? ⟨g, 1, none⟩ = some (.int .i64 (q : Int))) := ⟨fun w' h => by
          obtain ⟨t0, t1, t2, _⟩ := (HP.out.rx.later h).cells
          exact ⟨h, t0, t1⟩⟩
        clear cf hsl
        go_upto_region 3 with fail
        clear c0 c1 c2
        go_region_held3 (fun w' => Below wr.heap.size wr w' ∧ w'.cell? ⟨g, 0, none⟩ = some (str b) ∧ w'.cell? ⟨g, 1, none⟩ = some (.int .i64 (q : Int))) (first
          | exact XC.out _ (Below.refl _ _).drew
          | exact XC.out _ (below_seq (Below.refl _ _).drew b1)) ((go_at_call 103; with_reducible refine Calls.mono hrd ?_; rintro e w1 ⟨kl, vl, n, er, rfl, hat', b1⟩))
        have HB1 : Hid (Below wr.heap.size wr w1) := ⟨And.left (by assumption)⟩
        clear b1 XC hrd
        have hcut := cut_any kl w1
        go_wp2_with fail
        with_reducible refine Calls.mono hcut ?_
        rintro e w1 ⟨rfl, rfl⟩
        dsimp only
        clear hcut
        rcases rd_link hat' hqb with ⟨rfl, m, rfl, hf⟩ | ⟨h1, rfl, rfl, rfl, hf⟩
        · by_cases hm : sMeta <+: kl
          · have e1 : Lib.hasPrefix kl sMeta = true := (hasPre_iff _ _).2 hm
            have e2 := trim_meta hm
            rw [e1, e2]
            have hmb := (rdFat hf).2.2.2
            have ow1 := HP.out.ow.later HB1.out
            have hlk : l.length ≤ 8 := by rw [HP.out.len]; exact hk
            have rx1 := HP.out.rx.later HB1.out
            have oth1 := HP.out.oth.then HB1.out HP.out.oth.size
            have heq : prsF b 8 p = ((l ++ [⟨kl.drop 5, vl⟩]) ++ (prsF b (8 - (k + 1)) m).1, (prsF b (8 - (k + 1)) m).2) := by
              rw [HP.out.eq, show 8 - k = (8 - (k + 1)) + 1 by omega, prsFgo hf hm]
              simp
            have hln : l.length = k := HP.out.len
            have HQ : Hid (∀ v' w', Ow w.heap.size w' v' (l ++ [⟨kl.drop 5, vl⟩]) → Below w.heap.size w1 w' → Rx w' g b (q, false) ∧ PK b g p w (w'.setCell ⟨g, 1, none⟩ (.int .i64 (m : Int))) v' (k + 1) m (l ++ [⟨kl.drop 5, vl⟩])) := ⟨fun v' w' ho hb' => by
              have hrx : Rx w' g b (q, false) := by unfold Rx; rw [hb'.block g hgl]; exact rx1
              exact ⟨hrx, by unfold Rx; rw [heap_setCell_same _ _ _ _ _ _ hrx]; rfl, (oth1.then hb' (Nat.le_refl _)).set, ho.oth hgl _, by simp [hln], hmb, heq⟩⟩
            clear hf hm e1 e2 rx1 oth1 heq hat'
            generalize kl.drop 5 = kd at *
            go_wp2_with ((refine app_oneB rfl _ _ rfl ⟨kd, vl⟩ rfl ow1 rfl (by omega) (by first | rfl | (show Value.slice va k vc = _; rw [hln])) rfl ?_; intro v' w3 o3 b3; obtain ⟨hrx, hpk⟩ := HQ.out v' w3 o3 b3; obtain ⟨ga, gc, ev3, _⟩ := o3.sl; have ev4 : v' = .slice ga (k + 1) gc := (by rw [ev3, List.length_append, hln]; rfl); clear ev3; subst ev4; obtain ⟨t0, t1, t2, tf⟩ := hrx.cells; have tf1 := tf 1))
            go_roundw
            case rel => exact ⟨k + 1, m, _, by omega, ⟨hpk⟩⟩
            case measure => show 8 - (k + 1) < 8 - k; omega
          · have e1 : Lib.hasPrefix kl sMeta = false := by
              cases hq : Lib.hasPrefix kl sMeta with
              | false => rfl
              | true => exact absurd ((hasPre_iff _ _).1 hq) hm
            rw [e1]
            have HF := fin w1 HB1.out (prsFstop fun x n hx => by rw [hf] at hx; injection hx with hx; injection hx with h1 h2; rw [← h1]; exact hm)
            clear hf hm e1 hat' fin
            generalize Lib.trimPrefix kl sMeta = tl at *
            go_wp2_with fail
            go_ret
            exact ⟨_, rfl, HF.out.1, HF.out.2⟩
        · have e1 : Lib.hasPrefix [] sMeta = false := rfl
          rw [e1]
          have HF := fin w1 HB1.out (prsFstop fun x n hx => by rw [hf] at hx; cases hx)
          clear hf e1 hat' fin
          generalize Lib.trimPrefix [] sMeta = tl at *
          go_wp2_with fail
          go_ret
          exact ⟨_, rfl, HF.out.1, HF.out.2⟩
      · obtain rfl : k = 8 := by omega
        have HF := fin wr (Below.refl _ _) (by rfl)
        clear fin
        go_wp2_with fail
        go_ret
        exact ⟨_, rfl, HF.out.1, HF.out.2⟩
end Go.Proofs.YtdfjlmfnkhhnjaaGreatDoor

/- The reader's item. -/
namespace Go.Proofs.YtdfjlmfnkhhnjaaGreatDoor
set_option maxRecDepth 100000
set_option linter.unusedVariables false
set_option linter.unusedSimpArgs false
open Go.RowKit
open Go.Proofs.YtdfjlmfnkhhnjaaGreatDoorP (TB recd nn LEN key Rd RdAt)
open Go.Proofs.YtdfjlmfnkhhnjaaGreatDoorH (hv hv_length hv_one hv_eq hv_b32 b32 pz lay lay_get lay_size heap_setCells there_of_row)
attribute [local go_sem ↓] Go.wp_at_zero Go.wp_at_succ ldIe stIe
noncomputable def stH (p v : Value) : Sem Unit := Instr.storeAt 44 p v
theorem stHe (p v : Value) : Instr.storeAt 44 p v = stH p v := rfl
attribute [local go_sem ↓] stHe
theorem run_stH {w : World} {g : Nat} {x : It} {a : Option Addr} {c : Nat} (h : Bi w g x a c) (f : Nat → UInt8) : (stH (.pointer (some ⟨g, 5, none⟩)) (.agg (hv f).toArray)).run Tryz.prog w = .ok () (w.setCells g 5 (hv f)) := by
  unfold stH
  exact run_storeAt_mid (P := Tryz.prog) w g 5 44 (hv f).toArray (there_of_row h 5 (by rw [List.size_toArray, List.size_toArray, hv_length, ic_length]; decide)) (by rw [List.size_toArray, hv_length]; exact infoH) (all_oneCell_toArray (hv_one f))
theorem run_stI2 {w : World} {g : Nat} {C : Array Value} (h : w.heap[g]? = some (.cells C 46 (0, 0))) (hC : C.size = 37) (x : It) (a : Option Addr) (c : Nat) : (stI (.pointer (some ⟨g, 0, none⟩)) (.agg (ic x a c).toArray)).run Tryz.prog w = .ok () (w.setCells g 0 (ic x a c)) := by
  unfold stI
  exact run_storeAt_mid (P := Tryz.prog) w g 0 46 (ic x a c).toArray (there_of_row h 0 (by rw [List.size_toArray, ic_length, hC]; decide)) (by rw [List.size_toArray, ic_length]; exact infoI) (all_oneCell_toArray (ic_one x a c))
theorem Bi.setI {w : World} {g : Nat} {C : Array Value} (h : w.heap[g]? = some (.cells C 46 (0, 0))) (hC : C.size = 37) (x : It) (a : Option Addr) (c : Nat) : Bi (w.setCells g 0 (ic x a c)) g x a c := by
  unfold Bi
  rw [heap_setCells _ _ _ _ h]
  congr 2
  apply Array.ext_getElem?
  intro i
  by_cases hi : i < 37
  · rw [lay_get _ _ _ _ (by omega), if_pos (Nat.zero_le _), dif_pos (by rw [ic_length]; omega), List.getElem?_toArray]
    rw [List.getElem?_eq_getElem (by rw [ic_length]; exact hi)]
    rfl
  · rw [Array.getElem?_eq_none (by rw [lay_size, hC]; omega), Array.getElem?_eq_none (by rw [List.size_toArray, ic_length]; omega)]
theorem Bi.setH {w : World} {g : Nat} {x : It} {a : Option Addr} {c : Nat} (h : Bi w g x a c) (f : Nat → UInt8) : Bi (w.setCells g 5 (hv f)) g { x with g := f } a c := by
  unfold Bi
  rw [heap_setCells _ _ _ _ h]
  congr 2
  apply Array.ext_getElem?
  intro i
  by_cases hi : i < 37
  · rw [lay_get _ _ _ _ (by rw [List.size_toArray, ic_length]; exact hi), List.getElem?_toArray, List.getElem?_toArray]
    by_cases h5 : 5 ≤ i
    · rw [if_pos h5, dif_pos (by rw [hv_length]; omega)]
      unfold ic
      rw [List.getElem?_append_right (by simpa using h5)]
      simp only [List.length_cons, List.length_nil]
      rw [List.getElem?_eq_getElem (by rw [hv_length]; omega)]
    · rw [if_neg h5]
      unfold ic
      rw [List.getElem?_append_left (by simp; omega), List.getElem?_append_left (by simp; omega)]
  · rw [Array.getElem?_eq_none (by rw [lay_size, List.size_toArray, ic_length]; omega), Array.getElem?_eq_none (by rw [List.size_toArray, ic_length]; omega)]
theorem Bi.setm {w : World} {g : Nat} {x : It} {a : Option Addr} {c : Nat} (h : Bi w g x a c) (t : Bool) : Bi (w.setCell ⟨g, 2, none⟩ (.bool t)) g { x with mkr := t } a c := by
  unfold Bi; rw [heap_setCell_same _ _ _ _ _ _ h]; simp [ic]
theorem Bi.setz {w : World} {g : Nat} {x : It} {a : Option Addr} {c : Nat} (h : Bi w g x a c) (t : Int) : Bi (w.setCell ⟨g, 3, none⟩ (.int .i64 t)) g { x with size := t } a c := by
  unfold Bi; rw [heap_setCell_same _ _ _ _ _ _ h]; simp [ic]
theorem Bi.setl {w : World} {g : Nat} {x : It} {a : Option Addr} {c : Nat} (h : Bi w g x a c) (l : List En) (a' : Option Addr) (c' : Nat) : Bi (w.setCell ⟨g, 4, none⟩ (.slice a' l.length c')) g { x with l := l } a' c' := by
  unfold Bi; rw [heap_setCell_same _ _ _ _ _ _ h]; simp [ic]
theorem Bi.fz {w : World} {g : Nat} {x : It} {a : Option Addr} {c : Nat} (h : Bi w g x a c) (j : Nat) : w.frozen? ⟨g, j, none⟩ = false := frozen_of_row _ _ _ _ _ h
theorem Bi.low {B : Nat} {w w' : World} {g : Nat} {x : It} {a : Option Addr} {c : Nat} (h : Bi w g x a c) (hg : g < B) (hb : Below B w w') : Bi w' g x a c := by
  unfold Bi; rw [hb.block g hg]; exact h
theorem z32 : (hv fun _ => 0).toArray = #[.int .u8 0, .int .u8 0, .int .u8 0, .int .u8 0, .int .u8 0, .int .u8 0, .int .u8 0, .int .u8 0, .int .u8 0, .int .u8 0, .int .u8 0, .int .u8 0, .int .u8 0, .int .u8 0, .int .u8 0, .int .u8 0, .int .u8 0, .int .u8 0, .int .u8 0, .int .u8 0, .int .u8 0, .int .u8 0, .int .u8 0, .int .u8 0, .int .u8 0, .int .u8 0, .int .u8 0, .int .u8 0, .int .u8 0, .int .u8 0, .int .u8 0, .int .u8 0] := by
  rw [hv_eq]; rfl
/-- an item with a key and a number alone -/
abbrev it0 (k : List UInt8) (s : Int) : It := ⟨k, s, false, 0, [], fun _ => 0⟩
theorem it0_cells (k : List UInt8) (s : Int) : (ic (it0 k s) none 0).toArray = #[str k, .int .i64 s, .bool false, .int .i64 0, .slice none 0 0, .int .u8 0, .int .u8 0, .int .u8 0, .int .u8 0, .int .u8 0, .int .u8 0, .int .u8 0, .int .u8 0, .int .u8 0, .int .u8 0, .int .u8 0, .int .u8 0, .int .u8 0, .int .u8 0, .int .u8 0, .int .u8 0, .int .u8 0, .int .u8 0, .int .u8 0, .int .u8 0, .int .u8 0, .int .u8 0, .int .u8 0, .int .u8 0, .int .u8 0, .int .u8 0, .int .u8 0, .int .u8 0, .int .u8 0, .int .u8 0, .int .u8 0, .int .u8 0] := by
  unfold ic
  rw [hv_eq]; rfl
theorem hv_cut (f : Nat → UInt8) : hv (cut32 f) = hv f := by
  rw [hv_eq, hv_eq]
  apply List.map_congr_left
  intro j hj
  have : j < 32 := by simpa using hj
  unfold cut32
  rw [if_pos this]
theorem parse_any2 (l : List UInt8) (hl : l.length ≤ 1048576) (w : World) : Calls Tryz.prog 106 #[str l] w fun e w' => ∃ t, e = .returned (.tuple #[.agg (hv (cut32 (pz l))).toArray, .bool t]) ∧ Below w.heap.size w w' := by
  refine (Go.Proofs.YtdfjlmfnkhhnjaaGreatDoorH.parse2 ⟨l.toArray⟩ w (by rw [str_size]; omega)).mono ?_
  rintro e w' ⟨rfl, hb⟩
  exact ⟨_, by rw [hv_cut, hv_b32], hb⟩
theorem numFle {b k : List UInt8} {s : Rs} (h : s.1 ≤ b.length) : (numF b k s).2.1 ≤ b.length := valFle h
theorem prsFle {b : List UInt8} : ∀ (f q : Nat), q ≤ b.length → (prsF b f q).2 ≤ b.length
  | 0, q, h => h
  | f + 1, q, h => by
    unfold prsF
    split
    · rename_i x n hx
      split
      · exact prsFle f n (rdFat hx).2.2.2
      · exact h
    · exact h
theorem prs2Fle {b : List UInt8} {s : Rs} (h : s.1 ≤ b.length) : (prs2F b s).2.1 ≤ b.length := by
  unfold prs2F
  split
  · exact h
  · exact prsFle 8 s.1 h
theorem Oth.trans {X : Bs} {w w' w2 : World} (h : Oth X w w') (h2 : Oth X w' w2) : Oth X w w2 := ⟨h2.os.trans h.os, h2.tape.trans h.tape, h2.output.trans h.output, Nat.le_trans h.size h2.size, fun b hb hn => (h2.block b (by have := h.size; omega) hn).trans (h.block b hb hn)⟩
theorem Bi.oth {w w' : World} {g r : Nat} {x : It} {a : Option Addr} {c : Nat} (h : Bi w r x a c) (ho : Oth (fun y => y = g) w w') (hr : r ≠ g) : Bi w' r x a c := by
  unfold Bi; rw [ho.block r h.lt hr]; exact h
/-- what is kept while an item is read: the reader, the answer's box and the item's -/
structure IK (b : List UInt8) (g : Nat) (w : World) (r2 r3 : Nat) (W : World) (s : Rs) (x : It) (a : Option Addr) (c : Nat) : Prop where
  rx : Rx W g b s
  le : s.1 ≤ b.length
  oth : Oth (fun y => y = g) w W
  g2 : ∃ C, W.heap[r2]? = some (.cells C 46 (0, 0)) ∧ C.size = 37
  bi : Bi W r3 x a c
  lt : g < w.heap.size ∧ w.heap.size ≤ r2 ∧ r2 < r3
theorem IK.step {b : List UInt8} {g : Nat} {w : World} {r2 r3 : Nat} {W W' : World} {s s' : Rs} {x : It} {a : Option Addr} {c : Nat} (h : IK b g w r2 r3 W s x a c) (hr : RP g b s' W W') (hs : s'.1 ≤ b.length) : IK b g w r2 r3 W' s' x a c := by
  obtain ⟨C, h1, h2⟩ := h.g2
  have := h.lt
  exact ⟨hr.rx, hs, h.oth.trans hr.oth, ⟨C, by rw [hr.oth.block r2 (lt_of_block h1) (by omega)]; exact h1, h2⟩, h.bi.oth hr.oth (by omega), h.lt⟩
theorem IK.set {b : List UInt8} {g : Nat} {w : World} {r2 r3 : Nat} {W : World} {s : Rs} {x x' : It} {a a' : Option Addr} {c c' : Nat} (h : IK b g w r2 r3 W s x a c) {j : Nat} {v : Value} (hb : Bi (W.setCell ⟨r3, j, none⟩ v) r3 x' a' c') : IK b g w r2 r3 (W.setCell ⟨r3, j, none⟩ v) s x' a' c' := by
  obtain ⟨C, h1, h2⟩ := h.g2
  have := h.lt
  refine ⟨by unfold Rx; rw [hso _ _ (by omega)]; exact h.rx, h.le, ⟨h.oth.os, h.oth.tape, h.oth.output, by simpa using h.oth.size, fun k hk hn => by rw [hso _ _ (by omega)]; exact h.oth.block k hk hn⟩, ⟨C, by rw [hso _ _ (by omega)]; exact h1, h2⟩, hb, h.lt⟩
theorem IK.bel {b : List UInt8} {g : Nat} {w0 w : World} {r2 r3 : Nat} {W : World} {s : Rs} {x : It} {a : Option Addr} {c : Nat} (h : IK b g w r2 r3 W s x a c) (hb : Below w0.heap.size w0 w) (hg : w0.heap.size ≤ g) : Below w0.heap.size w0 W := h.oth.bel hb hg
theorem hsos {W : World} {r k : Nat} (hn : k ≠ r) : ∀ (vs : List Value) (o : Nat), (W.setCells r o vs).heap[k]? = W.heap[k]? := by
  intro vs
  induction vs generalizing W with
  | nil => intro o; rfl
  | cons v vs ih => intro o; show ((W.setCell ⟨r, o, none⟩ v).setCells r (o + 1) vs).heap[k]? = _; rw [ih, hso _ _ hn]
theorem szs {W : World} {r : Nat} : ∀ (vs : List Value) (o : Nat), (W.setCells r o vs).heap.size = W.heap.size := by
  intro vs
  induction vs generalizing W with
  | nil => intro o; rfl
  | cons v vs ih => intro o; show ((W.setCell ⟨r, o, none⟩ v).setCells r (o + 1) vs).heap.size = _; rw [ih]; simp
theorem ots {W : World} {r : Nat} : ∀ (vs : List Value) (o : Nat), (W.setCells r o vs).os = W.os ∧ (W.setCells r o vs).tape = W.tape ∧ (W.setCells r o vs).output = W.output := by
  intro vs
  induction vs generalizing W with
  | nil => intro o; exact ⟨rfl, rfl, rfl⟩
  | cons v vs ih => intro o; exact ih (W := W.setCell ⟨r, o, none⟩ v) (o + 1)
theorem Oth.sets {w W : World} {g r : Nat} (h : Oth (fun y => y = g) w W) (hr : w.heap.size ≤ r) (vs : List Value) (o : Nat) : Oth (fun y => y = g) w (W.setCells r o vs) :=
  ⟨(ots vs o).1.trans h.os, (ots vs o).2.1.trans h.tape, (ots vs o).2.2.trans h.output, by rw [szs]; exact h.size, fun k hk hn => by rw [hsos (by omega)]; exact h.block k hk hn⟩
theorem Ow.keep {base : Nat} {w w' : World} {v : Value} {l : List En} (h : Ow base w v l) (hs : w.heap.size ≤ w'.heap.size) (hk : ∀ k, base ≤ k → k < w.heap.size → w'.heap[k]? = w.heap[k]?) : Ow base w' v l := by
  refine ⟨⟨h.own.1, ?_⟩, Nat.le_trans h.le hs⟩
  rcases h.own.2 with e | ⟨c, cap, cur, e, h2, h3, h4⟩
  · exact .inl e
  · exact .inr ⟨c, cap, cur, e, h2, by rw [hk c h2 (lt_of_block h3)]; exact h3, h4⟩
theorem IK.hash {b : List UInt8} {g : Nat} {w : World} {r2 r3 : Nat} {W : World} {s : Rs} {x : It} {a : Option Addr} {c : Nat} (h : IK b g w r2 r3 W s x a c) (f : Nat → UInt8) : IK b g w r2 r3 (W.setCells r3 5 (hv f)) s { x with g := f } a c := by
  obtain ⟨C, h1, h2⟩ := h.g2
  have := h.lt
  exact ⟨by unfold Rx; rw [hsos (by omega)]; exact h.rx, h.le, h.oth.sets (by omega) _ _, ⟨C, by rw [hsos (by omega)]; exact h1, h2⟩, h.bi.setH f, h.lt⟩
set_option maxRecDepth 100000 in
set_option maxHeartbeats 8000000 in
theorem ritem_any (b : List UInt8) (s : Rs) (g : Nat) (w0 w : World) (hR : Rx w g b s) (hs : s.1 ≤ b.length) (hbl : b.length ≤ 4611686018427387904) (hB : Below w0.heap.size w0 w) (hg : w0.heap.size ≤ g) (hT : TB w0) (hE : EG w0) :
    Calls Tryz.prog 61 #[.pointer (some ⟨g, 0, none⟩)] w fun e w' => ∃ a c, e = .returned (.agg (ic (itF b s).1 a c).toArray) ∧ Ow w.heap.size w' (.slice a (itF b s).1.l.length c) (itF b s).1.l ∧ RP g b (itF b s).2 w w' := by
  have b1 := (Below.refl w.heap.size w).alloc (Nat.le_refl _) (.cells zI 46)
  have hgl := hR.lt
  have e2 := heap_alloc_new w (.cells zI 46)
  have hv1 := value_any b sKey s g w0 _ (hR.later b1) hs hbl (hB.trans (b1.mono hB.size)) hT
  have hn1 := fun W h1 h2 h3 => number_any b sSeq (valF b sKey s).2 g w0 W h1 h2 hbl h3 hg hT hE
  go_enter Tryz.func61, Tryz.ntmps61
  go_wp2_with fail
  refine Calls.mono hv1 ?_
  rintro e W2 ⟨rfl, r2⟩
  dsimp only
  have hB2 := r2.bel (hB.trans (b1.mono hB.size)) hg
  have hn1 := hn1 W2 r2.rx (valFle hs) hB2
  go_wp2_with fail
  refine Calls.mono hn1 ?_
  rintro e W3 ⟨rfl, r3⟩
  dsimp only
  have lt2 : w.heap.size < W3.heap.size := by have := r2.oth.size; have := r3.oth.size; have := lt_of_block e2; omega
  have o3 : Oth (fun y => y = g) w W3 := (Oth.of_below b1).trans (r2.oth.trans r3.oth)
  have e3 : W3.heap[w.heap.size]? = some (.cells zI 46 (0, 0)) := by
    rw [r3.oth.block _ (by have := r2.oth.size; have := lt_of_block e2; omega) (by omega), r2.oth.block _ (lt_of_block e2) (by omega)]; exact e2
  have s1 := run_stI W3 (it0 (valF b sKey s).1 (numF b sSeq (valF b sKey s).2).1) none 0
  have b4 := (Below.refl W3.heap.size W3).alloc (Nat.le_refl _) (.cells (ic (it0 (valF b sKey s).1 (numF b sSeq (valF b sKey s).2).1) none 0).toArray 46)
  have hBi := Bi.new W3 (it0 (valF b sKey s).1 (numF b sSeq (valF b sKey s).2).1) none 0
  have K4 : IK b g w w.heap.size W3.heap.size (W3.alloc (.cells (ic (it0 (valF b sKey s).1 (numF b sSeq (valF b sKey s).2).1) none 0).toArray 46)) (numF b sSeq (valF b sKey s).2).2 (it0 (valF b sKey s).1 (numF b sSeq (valF b sKey s).2).1) none 0 :=
    ⟨r3.rx.later b4, numFle (valFle hs), o3.then b4 o3.size, ⟨_, by rw [b4.block _ lt2]; exact e3, rfl⟩, hBi, hgl, Nat.le_refl _, lt2⟩
  rw [it0_cells] at s1 K4
  have hit : itF b s = (if (valF b sType (numF b sSeq (valF b sKey s).2).2).1 = sMarker then
      (⟨(valF b sKey s).1, (numF b sSeq (valF b sKey s).2).1, true, 0, [], cut32 (pz (valF b sLeaf (valF b sType (numF b sSeq (valF b sKey s).2).2).2).1)⟩, (valF b sLeaf (valF b sType (numF b sSeq (valF b sKey s).2).2).2).2)
    else
      (⟨(valF b sKey s).1, (numF b sSeq (valF b sKey s).2).1, false, (numF b sSize (valF b sType (numF b sSeq (valF b sKey s).2).2).2).1, (prs2F b (numF b sSize (valF b sType (numF b sSeq (valF b sKey s).2).2).2).2).1, cut32 (pz (valF b sLeaf (prs2F b (numF b sSize (valF b sType (numF b sSeq (valF b sKey s).2).2).2).2).2).1)⟩, (valF b sLeaf (prs2F b (numF b sSize (valF b sType (numF b sSeq (valF b sKey s).2).2).2).2).2).2)) := rfl
  have HI := Hid.mk hit
  clear hit hv1 hn1 e2 e3 o3 b4 hBi r2 r3 hB2 b1 hs
  generalize (valF b sKey s).1 = k1 at *
  generalize (numF b sSeq (valF b sKey s).2).1 = q1 at *
  generalize (numF b sSeq (valF b sKey s).2).2 = s2 at *
  have HB := Hid.mk hB
  clear hB hR
  go_wp2_with fail
  generalize W3.alloc (.cells _ 46) = W4 at K4 ⊢
  generalize W3.heap.size = r3 at *
  have hv2 := value_any b sType s2 g w0 W4 K4.rx K4.le hbl (K4.bel HB.out hg) hT
  clear s1
  refine Calls.mono hv2 ?_
  rintro e W5 ⟨rfl, p5⟩
  dsimp only
  have K5 := K4.step p5 (valFle K4.le)
  clear hv2 p5 K4
  have m0 := K5.bi.cells.2.2.1
  have m1 := K5.bi.fz 2
  by_cases ht : (valF b sType s2).1 = sMarker
  · have d1 : ((valF b sType s2).1 == [109, 97, 114, 107, 101, 114]) = true := by rw [ht]; rfl
    rw [if_pos ht] at HI
    have K6 := K5.set (K5.bi.setm true)
    have m2 := K6.bi.cells.2.2.1
    clear ht K5
    generalize (valF b sType s2).1 = tv at *
    generalize (valF b sType s2).2 = s3 at *
    go_wp2_with fail
    have HLT : Hid (g < (W5.setCell ⟨r3, 2, none⟩ (.bool true)).heap.size ∧ w.heap.size < (W5.setCell ⟨r3, 2, none⟩ (.bool true)).heap.size ∧ r3 < (W5.setCell ⟨r3, 2, none⟩ (.bool true)).heap.size) := ⟨by have := K6.rx.lt; have := K6.bi.lt; have := K6.lt; omega⟩
    have HO : Ow (W5.setCell ⟨r3, 2, none⟩ (.bool true)).heap.size (W5.setCell ⟨r3, 2, none⟩ (.bool true)) (.slice none ([] : List En).length 0) [] := Ow.nil _ _ (Nat.le_refl _)
    generalize W5.setCell ⟨r3, 2, none⟩ (.bool true) = W6 at *
    have hv7 := value_any b sLeaf s3 g w0 _ K6.rx K6.le hbl (K6.bel HB.out hg) hT
    refine Calls.mono hv7 ?_
    rintro e W7 ⟨rfl, p7⟩
    dsimp only
    have K7 := K6.step p7 (valFle K6.le)
    have HO7 := Hid.mk (Ow.keep HO p7.oth.size (fun k hk hkl => p7.oth.block k hkl (by have := HLT.out; omega)))
    have hsz7 := Hid.mk p7.oth.size
    have hp7 := parse_any2 (valF b sLeaf s3).1 valFlen W7
    generalize (valF b sLeaf s3).1 = lv at *
    generalize (valF b sLeaf s3).2 = s9 at *
    clear hv7 p7 K6
    go_wp2_with fail
    refine Calls.mono hp7 ?_
    rintro e W8 ⟨t8, rfl, b8⟩
    dsimp only
    have K8 := K7.step ⟨K7.rx.later b8, Oth.of_below b8⟩ K7.le
    have HO8 := Hid.mk (HO7.out.later b8)
    have st8 := run_stH K8.bi (cut32 (pz lv))
    have K9 : IK b g w w.heap.size r3 (W8.setCells r3 5 (hv (cut32 (pz lv)))) s9 ⟨k1, q1, true, 0, [], cut32 (pz lv)⟩ none 0 := K8.hash (cut32 (pz lv))
    have l9 := run_ldI (Bi.range K9.bi)
    obtain ⟨C9, e9, hC9⟩ := K9.g2
    have st9 := run_stI2 e9 hC9 (⟨k1, q1, true, 0, [], cut32 (pz lv)⟩ : It) none 0
    have B10 := Bi.setI e9 hC9 (⟨k1, q1, true, 0, [], cut32 (pz lv)⟩ : It) none 0
    have HF : Hid (Ow w.heap.size ((W8.setCells r3 5 (hv (cut32 (pz lv)))).setCells w.heap.size 0 (ic (⟨k1, q1, true, 0, [], cut32 (pz lv)⟩ : It) none 0)) (.slice none ((⟨k1, q1, true, 0, [], fun _ => 0⟩ : It) : It).l.length 0) ((⟨k1, q1, true, 0, [], fun _ => 0⟩ : It) : It).l ∧ RP g b s9 w ((W8.setCells r3 5 (hv (cut32 (pz lv)))).setCells w.heap.size 0 (ic (⟨k1, q1, true, 0, [], cut32 (pz lv)⟩ : It) none 0))) := ⟨(HO8.out.keep (by rw [szs, szs]; exact Nat.le_refl _) (fun k hk hkl => by rw [hsos (by have := HLT.out; omega), hsos (by have := HLT.out; omega)])).base (by have := HLT.out; omega), by unfold Rx; rw [hsos (by omega)]; exact K9.rx, K9.oth.sets (Nat.le_refl _) _ _⟩
    clear K7 K8 K9 hp7 b8 e9 hC9
    go_wp2_with fail
    refine bodyPost_ret (results_cell_row Tryz.results61 _ _ w.heap.size 46 _ (0, 0) _ rfl B10 Tryz.underlying46 rfl (by rw [List.size_toArray, ic_length]; exact infoI)) rfl ?_
    exact ⟨none, 0, by rw [HI.out], by rw [HI.out]; exact HF.out.1, by rw [HI.out]; exact HF.out.2⟩
  · have d1 : ((valF b sType s2).1 == [109, 97, 114, 107, 101, 114]) = false := beq_eq_false_iff_ne.2 ht
    rw [if_neg ht] at HI
    have K6 := K5.set (K5.bi.setm false)
    have m2 := K6.bi.cells.2.2.1
    clear ht K5
    generalize (valF b sType s2).1 = tv at *
    generalize (valF b sType s2).2 = s3 at *
    go_wp2_with fail
    generalize W5.setCell ⟨r3, 2, none⟩ (.bool false) = W6 at *
    have hn6 := number_any b sSize s3 g w0 W6 K6.rx K6.le hbl (K6.bel HB.out hg) hg hT hE
    refine Calls.mono hn6 ?_
    rintro e V7 ⟨rfl, p7⟩
    dsimp only
    have L7 := K6.step p7 (numFle K6.le)
    generalize (numF b sSize s3).1 = z1 at *
    generalize (numF b sSize s3).2 = s4 at *
    have m3 := L7.bi.cells.2.2.2.1
    have m4 := L7.bi.fz 3
    have L8 := L7.set (L7.bi.setz z1)
    clear hn6 p7 K6 L7 m2
    go_wp2_with fail
    generalize V7.setCell ⟨r3, 3, none⟩ (.int .i64 z1) = V8 at *
    have hp8 := pairs_any b s4 g w0 V8 L8.rx L8.le hbl (L8.bel HB.out hg) hg hT
    refine Calls.mono hp8 ?_
    rintro e V9 ⟨v9, rfl, ow9, p9⟩
    dsimp only
    obtain ⟨va, vc, rfl, _⟩ := ow9.sl
    have L9 := L8.step p9 (prs2Fle L8.le)
    have hr38 : r3 < V8.heap.size := L8.bi.lt
    have hw8 : w.heap.size < V8.heap.size := by have := L8.lt; omega
    have hg8 : g < V8.heap.size := L8.rx.lt
    generalize (prs2F b s4).1 = pl at *
    generalize (prs2F b s4).2 = s5 at *
    have m5 := L9.bi.cells.2.2.2.2
    have m6 := L9.bi.fz 4
    have L10 := L9.set (L9.bi.setl pl va vc)
    have HO := (ow9.keep (w' := V9.setCell ⟨r3, 4, none⟩ (.slice va pl.length vc)) (by simp) (fun k hk hkl => by rw [hso _ _ (by omega)]))
    have HLT : Hid (g < V8.heap.size ∧ w.heap.size < V8.heap.size ∧ r3 < V8.heap.size) := ⟨hg8, hw8, hr38⟩
    clear hp8 p9 L8 L9 ow9 hr38 hw8 hg8
    go_wp2_with fail
    generalize V9.setCell ⟨r3, 4, none⟩ (.slice va pl.length vc) = W6 at *
    have hv7 := value_any b sLeaf s5 g w0 _ L10.rx L10.le hbl (L10.bel HB.out hg) hT
    refine Calls.mono hv7 ?_
    rintro e W7 ⟨rfl, p7⟩
    dsimp only
    have K7 := L10.step p7 (valFle L10.le)
    have HO7 := Hid.mk (Ow.keep HO p7.oth.size (fun k hk hkl => p7.oth.block k hkl (by have := HLT.out; omega)))
    have hsz7 := Hid.mk p7.oth.size
    have hp7 := parse_any2 (valF b sLeaf s5).1 valFlen W7
    generalize (valF b sLeaf s5).1 = lv at *
    generalize (valF b sLeaf s5).2 = s9 at *
    clear hv7 p7 L10
    go_wp2_with fail
    refine Calls.mono hp7 ?_
    rintro e W8 ⟨t8, rfl, b8⟩
    dsimp only
    have K8 := K7.step ⟨K7.rx.later b8, Oth.of_below b8⟩ K7.le
    have HO8 := Hid.mk (HO7.out.later b8)
    have st8 := run_stH K8.bi (cut32 (pz lv))
    have K9 : IK b g w w.heap.size r3 (W8.setCells r3 5 (hv (cut32 (pz lv)))) s9 ⟨k1, q1, false, z1, pl, cut32 (pz lv)⟩ va vc := K8.hash (cut32 (pz lv))
    have l9 := run_ldI (Bi.range K9.bi)
    obtain ⟨C9, e9, hC9⟩ := K9.g2
    have st9 := run_stI2 e9 hC9 (⟨k1, q1, false, z1, pl, cut32 (pz lv)⟩ : It) va vc
    have B10 := Bi.setI e9 hC9 (⟨k1, q1, false, z1, pl, cut32 (pz lv)⟩ : It) va vc
    have HF : Hid (Ow w.heap.size ((W8.setCells r3 5 (hv (cut32 (pz lv)))).setCells w.heap.size 0 (ic (⟨k1, q1, false, z1, pl, cut32 (pz lv)⟩ : It) va vc)) (.slice va ((⟨k1, q1, false, z1, pl, fun _ => 0⟩ : It) : It).l.length vc) ((⟨k1, q1, false, z1, pl, fun _ => 0⟩ : It) : It).l ∧ RP g b s9 w ((W8.setCells r3 5 (hv (cut32 (pz lv)))).setCells w.heap.size 0 (ic (⟨k1, q1, false, z1, pl, cut32 (pz lv)⟩ : It) va vc))) := ⟨(HO8.out.keep (by rw [szs, szs]; exact Nat.le_refl _) (fun k hk hkl => by rw [hsos (by have := HLT.out; omega), hsos (by have := HLT.out; omega)])).base (by have := HLT.out; omega), by unfold Rx; rw [hsos (by omega)]; exact K9.rx, K9.oth.sets (Nat.le_refl _) _ _⟩
    clear K7 K8 K9 hp7 b8 e9 hC9
    go_wp2_with fail
    refine bodyPost_ret (results_cell_row Tryz.results61 _ _ w.heap.size 46 _ (0, 0) _ rfl B10 Tryz.underlying46 rfl (by rw [List.size_toArray, ic_length]; exact infoI)) rfl ?_
    exact ⟨va, vc, by rw [HI.out], by rw [HI.out]; exact HF.out.1, by rw [HI.out]; exact HF.out.2⟩
end Go.Proofs.YtdfjlmfnkhhnjaaGreatDoor

/- Rows of items of one's own, their pairs' rows too, no two of them one. -/
namespace Go.Proofs.YtdfjlmfnkhhnjaaGreatDoor
set_option maxRecDepth 100000
set_option linter.unusedVariables false
set_option linter.unusedSimpArgs false
open Go.RowKit
open Go.Proofs.YtdfjlmfnkhhnjaaGreatDoorH (hv hv_length hv_one hv_eq)
/-- an item, and where its pairs lie -/
abbrev Ri := It × Option Addr × Nat
noncomputable def ri (r : Ri) : List Value := ic r.1 r.2.1 r.2.2
def Ri.mv (r : Ri) : Value := .slice r.2.1 r.1.l.length r.2.2
noncomputable def rics (R : List Ri) : List Value := (R.map ri).flatten
theorem ri_len (r : Ri) : (ri r).length = 37 := ic_length _ _ _
theorem rics_append (R S : List Ri) : rics (R ++ S) = rics R ++ rics S := by simp [rics]
theorem rics_one' (r : Ri) : rics [r] = ri r := by simp [rics]
theorem rics_len : ∀ R : List Ri, (rics R).length = R.length * 37
  | [] => rfl
  | r :: R => by
    have h := rics_len R
    have e : rics (r :: R) = ri r ++ rics R := by simp [rics]
    rw [e, List.length_append, ri_len, h, List.length_cons]
    omega
theorem rics_get : ∀ (R : List Ri) (k : Nat) (r : Ri), R[k]? = some r → ∀ j, j < 37 → (rics R)[k * 37 + j]? = (ri r)[j]?
  | [], k, r, h, j, hj => by simp at h
  | q :: R, 0, r, h, j, hj => by
    simp at h
    subst h
    have e : rics (q :: R) = ri q ++ rics R := by simp [rics]
    rw [e, Nat.zero_mul, Nat.zero_add, List.getElem?_append_left (by rw [ri_len]; exact hj)]
  | q :: R, k + 1, r, h, j, hj => by
    have ih := rics_get R k r (by simpa using h) j hj
    have e : rics (q :: R) = ri q ++ rics R := by simp [rics]
    rw [e, List.getElem?_append_right (by rw [ri_len]; omega), ri_len, show (k + 1) * 37 + j - 37 = k * 37 + j by omega]
    exact ih
theorem infoIf : (Tryz.prog.info? 46).map (fun i => (i.zero, i.size, i.bytes)) = some (some (.agg zI), 37, 96) := by kernel_rfl
structure Fi (base : Nat) (w : World) (v : Value) (R : List Ri) : Prop where
  own : w.ownsRow base 46 37 v R.length (rics R)
  le : base ≤ w.heap.size
  met : ∀ (k : Nat) (r : Ri), R[k]? = some r → Ow base w r.mv r.1.l
  par : ∀ (j k : Nat) (r r' : Ri), ¬ j = k → R[j]? = some r → R[k]? = some r' → ∀ b, r.mv.ownBlock = some b → r'.mv.ownBlock ≠ some b
theorem own_type {base n : Nat} {w : World} {v : Value} {xs : List Value} {t : TypeId} {s : Nat} (h : w.ownsRow base t s v n xs) {g : Nat} (hg : v.ownBlock = some g) : ∃ cs, w.heap[g]? = some (.cells cs t (0, 0)) := by
  rcases h.2 with ⟨e, h0⟩ | ⟨g', cap, cur, e, h2, h3, _⟩
  · subst e; cases hg
  · subst e
    have : g' = g := by simpa [Value.ownBlock] using hg
    subst this
    exact ⟨_, h3⟩
theorem own_apart {base base' n m s s' : Nat} {w : World} {v v' : Value} {xs ys : List Value} {t t' : TypeId} (h : w.ownsRow base t s v n xs) (h' : w.ownsRow base' t' s' v' m ys) (ht : t ≠ t') {g : Nat} (hg : v.ownBlock = some g) : v'.ownBlock ≠ some g := fun q => by
  obtain ⟨c1, e1⟩ := own_type h hg
  obtain ⟨c2, e2⟩ := own_type h' q
  rw [e1] at e2
  injection e2 with e2
  injection e2 with _ e2
  exact ht e2
theorem own_keep {base n s : Nat} {w w' : World} {v : Value} {xs : List Value} {t : TypeId} (h : w.ownsRow base t s v n xs) (hb : ∀ g, v.ownBlock = some g → w'.heap[g]? = w.heap[g]?) : w'.ownsRow base t s v n xs := by
  refine ⟨h.1, ?_⟩
  rcases h.2 with e | ⟨g, cap, cur, e, h2, h3, h4⟩
  · exact .inl e
  · exact .inr ⟨g, cap, cur, e, h2, by rw [hb g (by rw [e]; rfl)]; exact h3, h4⟩
theorem Ow.stay {base : Nat} {w w' : World} {v : Value} {l : List En} (h : Ow base w v l) (hs : w.heap.size ≤ w'.heap.size) (hb : ∀ g, v.ownBlock = some g → w'.heap[g]? = w.heap[g]?) : Ow base w' v l := ⟨own_keep h.own hb, Nat.le_trans h.le hs⟩
theorem Fi.nil (w : World) (base : Nat) (h : base ≤ w.heap.size) : Fi base w (.slice none 0 0) [] := ⟨World.ownsRow_nil _ _ _ _, h, fun k r h => by simp at h, fun j k r r' _ h => by simp at h⟩
theorem Fi.later {base : Nat} {w w' : World} {v : Value} {R : List Ri} (h : Fi base w v R) (hb : Below w.heap.size w w') : Fi base w' v R := ⟨own_later h.own hb, Nat.le_trans h.le hb.size, fun k r hk => (h.met k r hk).later hb, h.par⟩
theorem Fi.stay {base : Nat} {w w' : World} {v : Value} {R : List Ri} (h : Fi base w v R) (hs : w.heap.size ≤ w'.heap.size) (hb : ∀ g, (v.ownBlock = some g ∨ ∃ (k : Nat) (r : Ri), R[k]? = some r ∧ r.mv.ownBlock = some g) → w'.heap[g]? = w.heap[g]?) : Fi base w' v R :=
  ⟨own_keep h.own (fun g hg => hb g (.inl hg)), Nat.le_trans h.le hs, fun k r hk => (h.met k r hk).stay hs (fun g hg => hb g (.inr ⟨k, r, hk, hg⟩)), h.par⟩
theorem Fi.low {base : Nat} {w : World} {v : Value} {R : List Ri} (h : Fi base w v R) {g : Nat} (hg : v.ownBlock = some g ∨ ∃ (k : Nat) (r : Ri), R[k]? = some r ∧ r.mv.ownBlock = some g) : base ≤ g ∧ g < w.heap.size := by
  rcases hg with q | ⟨k, r, hk, q⟩
  · exact h.own.lt g q
  · exact (h.met k r hk).own.lt g q
theorem Fi.oth {base : Nat} {w : World} {v : Value} {R : List Ri} (h : Fi base w v R) {g j : Nat} (hg : g < base) (c : Value) : Fi base (w.setCell ⟨g, j, none⟩ c) v R := h.stay (by simp) (fun k hk => hso _ _ (by have := h.low hk; omega))
theorem Fi.base {b b' : Nat} {w : World} {v : Value} {R : List Ri} (h : Fi b w v R) (hb : b' ≤ b) : Fi b' w v R := by
  refine ⟨⟨h.own.1, ?_⟩, Nat.le_trans hb h.le, fun k r hk => (h.met k r hk).base hb, h.par⟩
  rcases h.own.2 with e | ⟨g, cap, cur, e1, e2, e3⟩
  · exact Or.inl e
  · exact Or.inr ⟨g, cap, cur, e1, Nat.le_trans hb e2, e3⟩
theorem Fi.sl {base : Nat} {w : World} {v : Value} {R : List Ri} (h : Fi base w v R) : ∃ a cap, v = .slice a R.length cap := by
  rcases h.own.2 with ⟨e, h0⟩ | ⟨g, cap, cur, e, _⟩
  · exact ⟨none, 0, by rw [e, h0]⟩
  · exact ⟨_, _, e⟩
theorem Ow.asSl2 {base : Nat} {w : World} {a : Option Addr} {n c : Nat} {l : List En} (h : Ow base w (.slice a n c) l) : Sl w a c l := by
  obtain ⟨a', c', e, s⟩ := h.sl
  injection e with e1 e2 e3
  subst e1 e3
  exact s
theorem Fi.it {base : Nat} {w : World} {a : Option Addr} {n cap : Nat} {R : List Ri} (h : Fi base w (.slice a n cap) R) : IIt w a (R.map (·.1)) := by
  refine ⟨fun k x hk => ?_⟩
  rw [List.getElem?_map] at hk
  cases hq : R[k]? with
  | none => rw [hq] at hk; cases hk
  | some r =>
    rw [hq] at hk
    simp at hk
    subst hk
    have hkl := (List.getElem?_eq_some_iff.1 hq).1
    rcases h.own.2 with ⟨e, h0⟩ | ⟨g, cap', cur, e, hbg, hg, _⟩
    · omega
    · injection e with e1 e2 e3
      subst e1 e2
      refine ⟨g, 0, r.2.1, r.2.2, rfl, lt_of_block hg, fun j v hj => ?_, (h.met k r hq).asSl2⟩
      have hj2 : j < 37 := by have := (List.getElem?_eq_some_iff.1 hj).1; rw [ic_length] at this; exact this
      have hl := rics_len R
      rw [Nat.zero_add, h.own.cellAt _ (by omega), rics_get R k r hq j hj2]
      exact hj
/-- one item more -/
theorem run_ri {base B : Nat} {w1 : World} {v : Value} {R : List Ri} (ty : TypeId) (r : Ri) (hF1 : Fi base w1 v R) (hlow : ∀ (i : Nat) (p : Ri), R[i]? = some p → ∀ b, p.mv.ownBlock = some b → b < B) (hB : base ≤ B) (ho : Ow B w1 r.mv r.1.l) (hn : R.length ≤ 1000000000000) :
    ∃ g' c' w', (Builtin.append_ #[26, 26] ty #[v, .slice (some ⟨w1.heap.size, 0, none⟩) 1 1]).run Tryz.prog (w1.alloc (.cells (ri r).toArray 46)) = .ok (.slice (some ⟨g', 0, none⟩) (R.length + 1) c') w' ∧ Fi base w' (.slice (some ⟨g', 0, none⟩) (R.length + 1) c') (R ++ [r]) ∧ Below base w1 w' ∧ (∀ x, x < w1.heap.size → v.ownBlock ≠ some x → w'.heap[x]? = w1.heap[x]?) := by
  obtain ⟨i0, hi, hz0, hz1, hz2⟩ := info_parts infoIf
  have hmx : maxLen = 9223372036854775807 := rfl
  have o1 : (w1.alloc (.cells (ri r).toArray 46)).ownsRow base 46 37 v R.length (rics R) := hF1.own.alloc _
  have hle := hF1.le
  obtain ⟨g2, cap2, w', hr, hown, hgrow, hat, hlt⟩ := run_append_lies (P := Tryz.prog) (w := w1.alloc (.cells (ri r).toArray 46)) 26 ty base 46 i0 _ 37 96 Tryz.underlying26 hi hz0 hz1 hz2 rfl (by omega) v R.length (rics R) o1 ⟨w1.heap.size, 0, none⟩ 1 1 (ri r) (by rw [ri_len])
    (World.news_of_block (cs := (ri r).toArray) (t := 46) (fr := (0, 0)) (heap_alloc_new w1 _)) (ic_one _ _ _) (by omega) (by rw [hmx]; omega) (by omega) (by simp; omega) _ rfl
  have hk : ∀ x, x < w1.heap.size → v.ownBlock ≠ some x → w'.heap[x]? = w1.heap[x]? := fun x hx hne => by rw [hgrow.block x (by simp; omega) (Ne.symm hne)]; exact hao4 _ _ _ hx
  have hsz : w1.heap.size ≤ w'.heap.size := by have := hgrow.size; simp at this; omega
  have hmk : ∀ b x l, Ow b w1 x l → Ow b w' x l := fun b x l hx => hx.stay hsz (fun g hg => hk g (hx.own.lt g hg).2 (fun q => own_apart hx.own hF1.own (by decide) hg q))
  have hup : ∀ b, r.mv.ownBlock = some b → B ≤ b := fun b hb => (ho.own.lt b hb).1
  refine ⟨g2, cap2, w', hr, ⟨?_, by omega, ?_, ?_⟩, ?_, hk⟩
  · rw [rics_append, List.length_append, rics_one']
    exact hown
  · intro k q hq
    by_cases hkl : k < R.length
    · rw [List.getElem?_append_left hkl] at hq
      exact hmk _ _ _ (hF1.met k q hq)
    · have hkl' : k = R.length := by
        have := (List.getElem?_eq_some_iff.1 hq).1
        simp at this; omega
      subst hkl'
      simp at hq
      subst hq
      exact (hmk _ _ _ ho).base hB
  · intro j k q q' hjk hj hk' b hb'
    by_cases hjl : j < R.length
    · rw [List.getElem?_append_left hjl] at hj
      by_cases hkl : k < R.length
      · rw [List.getElem?_append_left hkl] at hk'
        exact hF1.par j k q q' hjk hj hk' b hb'
      · have hkl' : k = R.length := by
          have := (List.getElem?_eq_some_iff.1 hk').1
          simp at this; omega
        subst hkl'
        simp at hk'
        subst hk'
        intro q2
        have := hlow j q hj b hb'
        have := hup b q2
        omega
    · have hjl' : j = R.length := by
        have := (List.getElem?_eq_some_iff.1 hj).1
        simp at this; omega
      subst hjl'
      simp at hj
      subst hj
      have hkl : k < R.length := by
        have := (List.getElem?_eq_some_iff.1 hk').1
        simp at this; omega
      rw [List.getElem?_append_left hkl] at hk'
      intro q2
      have := hlow k q' hk' b q2
      have := hup b hb'
      omega
  · exact ((Below.refl _ _).alloc hle _).trans (grown_below o1 (by simp; omega) hgrow)
theorem fold_lay : ∀ (vs : List Value) (o : Nat) (cs : Array Value), (vs.zipIdx o).foldl (fun (cs : Array Value) (x : Value × Nat) => cs.setIfInBounds (0 + x.2) x.1) cs = Go.Proofs.YtdfjlmfnkhhnjaaGreatDoorH.lay cs o vs
  | [], _, _ => rfl
  | v :: r, o, cs => by rw [List.zipIdx_cons, List.foldl_cons, fold_lay r (o + 1)]; simp [Go.Proofs.YtdfjlmfnkhhnjaaGreatDoorH.lay]
theorem lay_all (vs : List Value) (cs : Array Value) (h : cs.size = vs.length) : Go.Proofs.YtdfjlmfnkhhnjaaGreatDoorH.lay cs 0 vs = vs.toArray := by
  apply Array.ext_getElem?
  intro i
  by_cases hi : i < cs.size
  · rw [Go.Proofs.YtdfjlmfnkhhnjaaGreatDoorH.lay_get vs 0 cs i hi, if_pos (Nat.zero_le _), dif_pos (by omega), List.getElem?_toArray, List.getElem?_eq_getElem (by omega)]
    rfl
  · rw [Array.getElem?_eq_none (by rw [Go.Proofs.YtdfjlmfnkhhnjaaGreatDoorH.lay_size]; omega), Array.getElem?_eq_none (xs := vs.toArray) (by rw [List.size_toArray]; omega)]
/-- a slice made of one item -/
theorem run_box37 (w : World) (x : It) (a : Option Addr) (c : Nat) : (Instr.buildSlice 26 1 #[(0, .agg (ic x a c).toArray)]).run Tryz.prog w = .ok (.slice (some ⟨w.heap.size, 0, none⟩) 1 1) (w.alloc (.cells (ic x a c).toArray 46)) := by
  obtain ⟨i, e1, e2, e3, e4⟩ := info_parts infoIf
  refine run_buildSlice w 26 46 1 _ _ i _ Tryz.underlying26 e1 e2 (by rw [e3]; decide) (by rw [e3]; decide) ?_
  have hc : (Value.cells (.agg (ic x a c).toArray)) = (ic x a c).toArray := rfl
  have hs : (Value.cells (.agg (ic x a c).toArray)).size = 37 := by rw [hc, List.size_toArray, ic_length]
  show Instr.fill _ _ [(0, .agg (ic x a c).toArray)] = _
  unfold Instr.fill
  simp only [Nat.zero_mul, hs, e3]
  rw [if_neg (by simp)]
  unfold Instr.fill
  rw [hc]
  congr 1
  rw [← Array.foldl_toList, Array.toList_zipIdx]
  rw [fold_lay, lay_all _ _ (by simp [ic_length])]
noncomputable def bsI (l : Nat) (v : Array (Nat × Value)) : Sem Value := Instr.buildSlice 26 l v
theorem bsIe (l : Nat) (v : Array (Nat × Value)) : Instr.buildSlice 26 l v = bsI l v := rfl
theorem run_bsI (x : It) (a : Option Addr) (c : Nat) (w : World) : (bsI 1 #[(0, .agg (ic x a c).toArray)]).run Tryz.prog w = .ok (.slice (some ⟨w.heap.size, 0, none⟩) 1 1) (w.alloc (.cells (ic x a c).toArray 46)) := run_box37 w x a c
theorem step_run {ops : Array Oper} {o : Oper} {a : Act} {K : Act → World → Prop} {Q : Exit → Act → World → Prop} {E : Prop} {w w' : World} {v x' r : Value} {t1 t2 : TypeId} (hgd : o.guard = none) (s x : Operand) (ho : o.op = .call { callee := .builtin .append, args := #[s, x], argTypes := #[t1, t2] })
    (hs : a.eval s = v) (hx : a.eval x = x') (hr : (Builtin.append_ #[t1, t2] o.type #[v, x']).run Tryz.prog w = .ok r w')
    (h : K (a.put o.dst r) w') : if Region.wanted o (yielded ops a.tmps) = true then Oper.wp Tryz.prog o a w K Q else E := by
  have hw : Region.wanted o (yielded ops a.tmps) = true := by simp [Region.wanted, hgd]
  rw [if_pos hw]
  unfold Oper.wp execOp
  simp only [ho, resolve, invoke, builtin, Sem.run_bind, Sem.run_pure, Result.andThen_ok, List.map_toArray, List.map_cons, List.map_nil, hs, hx, hr]
  exact h
end Go.Proofs.YtdfjlmfnkhhnjaaGreatDoor
