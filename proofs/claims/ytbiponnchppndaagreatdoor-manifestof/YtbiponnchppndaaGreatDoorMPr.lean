/- The reader's pairs. -/
import Derived.Test.YtbiponnchppndaaGreatDoorMNu
namespace Go.Proofs.YtbiponnchppndaaGreatDoor
set_option maxRecDepth 100000
set_option linter.unusedVariables false
set_option linter.unusedSimpArgs false
open Go.RowKit
open Go.Proofs.YtbiponnchppndaaGreatDoorP (TB recd nn LEN key Rd RdAt)
attribute [local go_sem ↓] Go.wp_at_zero Go.wp_at_succ
theorem hasPre_iff (s p : List UInt8) : Lib.hasPrefix s p = true ↔ p <+: s := by
  unfold Lib.hasPrefix
  simp
theorem trim_meta {s : List UInt8} (h : sMeta <+: s) : Lib.trimPrefix s sMeta = s.drop 5 := by
  unfold Lib.trimPrefix
  rw [if_pos ((hasPre_iff s sMeta).2 h)]
  rfl
theorem cut_any (s : List UInt8) (w : World) : Calls Tryz.prog 138 #[str s, .string ⟨#[109, 101, 116, 97, 46]⟩] w fun e w' => e = .returned (.tuple #[str (Lib.trimPrefix s sMeta), .bool (Lib.hasPrefix s sMeta)]) ∧ w' = w := Tryz.strings_CutPrefix ⟨s.toArray⟩ ⟨#[109, 101, 116, 97, 46]⟩ w
theorem Ow.oth {base : Nat} {w : World} {v : Value} {l : List En} (h : Ow base w v l) {g j : Nat} (hg : g < base) (c : Value) : Ow base (w.setCell ⟨g, j, none⟩ c) v l :=
  ⟨ownsRow_setCell_other h.own (a := ⟨g, j, none⟩) (fun q => by have h2 : base ≤ g := (h.own.lt _ q).1; omega) _, by simpa using h.le⟩
theorem Oth.then {X : Bs} {w w' w2 : World} (h : Oth X w w') {B : Nat} (hb : Below B w' w2) (hB : w.heap.size ≤ B) : Oth X w w2 :=
  ⟨hb.os.trans h.os, hb.tape.trans h.tape, hb.output.trans h.output, Nat.le_trans h.size hb.size, fun k hk hn => (hb.block k (by omega)).trans (h.block k hk hn)⟩
theorem Oth.set {w w' : World} {g j : Nat} {v : Value} (h : Oth (fun x => x = g) w w') : Oth (fun x => x = g) w (w'.setCell ⟨g, j, none⟩ v) :=
  ⟨h.os, h.tape, h.output, by simpa using h.size, fun k hk hn => by rw [hso _ _ (by omega)]; exact h.block k hk hn⟩
theorem Oth.bel {w0 w w' : World} {g : Nat} (h : Oth (fun x => x = g) w w') (hb : Below w0.heap.size w0 w) (hg : w0.heap.size ≤ g) : Below w0.heap.size w0 w' :=
  hb.trans ⟨h.os, h.tape, h.output, h.size, fun k hk => h.block k (by have := hb.size; omega) (fun q => by omega)⟩
/-- behind k pairs -/
structure PK (b : List UInt8) (g p : Nat) (w wr : World) (v : Value) (k q : Nat) (l : List En) : Prop where
  rx : Rx wr g b (q, false)
  oth : Oth (fun x => x = g) w wr
  ow : Ow w.heap.size wr v l
  len : l.length = k
  le : q ≤ b.length
  eq : prsF b 8 p = (l ++ (prsF b (8 - k) q).1, (prsF b (8 - k) q).2)
theorem prsFstop {b : List UInt8} {f q : Nat} (h : ∀ x n, rdF b q = some (x, n) → ¬ sMeta <+: x.1) : prsF b f q = ([], q) := by
  cases f with
  | zero => rfl
  | succ f =>
    unfold prsF
    cases hr : rdF b q with
    | none => rfl
    | some y =>
      obtain ⟨x, n⟩ := y
      simp only
      rw [if_neg (h x n hr)]
theorem prsFgo {b : List UInt8} {f q n : Nat} {x : Kv} (h : rdF b q = some (x, n)) (hm : sMeta <+: x.1) : prsF b (f + 1) q = (⟨x.1.drop 5, x.2⟩ :: (prsF b f n).1, (prsF b f n).2) := by
  conv => lhs; unfold prsF
  rw [h]
  simp only
  rw [if_pos hm]
def slen : Value → Nat
  | .slice _ n _ => n
  | _ => 0
set_option maxRecDepth 100000 in
set_option maxHeartbeats 4000000 in
theorem pairs_any (b : List UInt8) (s : Rs) (g : Nat) (w0 w : World) (hR : Rx w g b s) (hs : s.1 ≤ b.length) (hbl : b.length ≤ 4611686018427387904) (hB : Below w0.heap.size w0 w) (hg : w0.heap.size ≤ g) (hT : TB w0) :
    Calls Tryz.prog 112 #[.pointer (some ⟨g, 0, none⟩)] w fun e w' => ∃ v, e = .returned v ∧ Ow w.heap.size w' v (prs2F b s).1 ∧ RP g b (prs2F b s).2 w w' := by
  obtain ⟨p, bad⟩ := s
  dsimp only at hs
  cases bad with
  | true =>
    have hv : prs2F b (p, true) = ([], (p, true)) := by unfold prs2F; rw [if_pos rfl]
    rw [hv]
    obtain ⟨c0, c1, c2, cf⟩ := hR.cells
    go_enter Tryz.func112, Tryz.ntmps112
    go_wp2_with fail
    go_loopw [3] (fun v wr => v = .slice none 0 0 ∧ wr = w) (fun _ _ => 0)
    case atStart => exact ⟨rfl, rfl⟩
    case round =>
      obtain ⟨rfl, rfl⟩ := hrel
      go_wp2_with fail
      go_ret
      exact ⟨_, rfl, Ow.nil _ _ (Nat.le_refl _), RP.refl hR⟩
  | false =>
    have hv : prs2F b (p, false) = ((prsF b 8 p).1, ((prsF b 8 p).2, false)) := by unfold prs2F; rw [if_neg (show ¬ (false = true) from Bool.false_ne_true)]
    have hgl := hR.lt
    have P0 : PK b g p w w (.slice none 0 0) 0 p [] := ⟨hR, Oth.of_below (Below.refl _ _), Ow.nil _ _ (Nat.le_refl _), rfl, hs, by simp⟩
    have HV := Hid.mk hv
    have HT := Hid.mk hT
    have HB := Hid.mk hB
    clear hR hv hT hB hs
    go_enter Tryz.func112, Tryz.ntmps112
    go_wp2_with fail
    go_loopw [3] (fun v wr => ∃ (k q : Nat) (l : List En), k ≤ 8 ∧ Hid (PK b g p w wr v k q l)) (fun v _ => 8 - slen v)
    case atStart => exact ⟨0, p, [], by omega, ⟨P0⟩⟩
    case round =>
      clear P0
      obtain ⟨k, q, l, hk, HP⟩ := hrel
      obtain ⟨va, vc, ev, hsl⟩ := HP.out.ow.sl
      rw [HP.out.len] at ev
      subst ev
      have hqb := HP.out.le
      obtain ⟨c0, c1, c2, cf⟩ := HP.out.rx.cells
      dsimp only at c1 c2
      have fin : ∀ w', Below wr.heap.size wr w' → prsF b (8 - k) q = ([], q) → Hid (Ow w.heap.size w' (.slice va k vc) (prs2F b (p, false)).1 ∧ RP g b (prs2F b (p, false)).2 w w') := fun w' hb' he => ⟨by
        rw [HV.out, HP.out.eq, he]
        simp only [List.append_nil]
        exact ⟨HP.out.ow.later hb', HP.out.rx.later hb', HP.out.oth.then hb' HP.out.oth.size⟩⟩
      by_cases hlt : k < 8
      · have d1 : decide ((k : Int) < 8) = true := decide_eq_true (by omega)
        have hTB := HT.out.below (HP.out.oth.bel HB.out hg)
        have hrd := rd_any b q hqb hbl wr.drew (hTB.below (Below.refl _ _).drew)
        have XC : Hid (∀ w', Below wr.heap.size wr w' → Below wr.heap.size wr w' ∧ w'.cell? ⟨g, 0, none⟩ = some (str b) ∧ w'.cell? ⟨g, 1, none⟩ = some (.int .i64 (q : Int))) := ⟨fun w' h => by
          obtain ⟨t0, t1, t2, _⟩ := (HP.out.rx.later h).cells
          exact ⟨h, t0, t1⟩⟩
        clear cf hsl
        go_upto_region 3 with fail
        clear c0 c1 c2
        go_region_held3 (fun w' => Below wr.heap.size wr w' ∧ w'.cell? ⟨g, 0, none⟩ = some (str b) ∧ w'.cell? ⟨g, 1, none⟩ = some (.int .i64 (q : Int))) (first
          | exact XC.out _ (Below.refl _ _).drew
          | exact XC.out _ (below_seq (Below.refl _ _).drew b1)) ((go_at_call 13; with_reducible refine Calls.mono hrd ?_; rintro e w1 ⟨kl, vl, n, er, rfl, hat', b1⟩))
        have HB1 : Hid (Below wr.heap.size wr w1) := ⟨And.left (by assumption)⟩
        clear b1 XC hrd
        have hcut := cut_any kl w1
        go_wp2_with fail
        with_reducible refine Calls.mono hcut ?_
        rintro e w1 ⟨rfl, rfl⟩
        dsimp only
        clear hcut
        rcases rd_link hat' hqb with ⟨rfl, m, rfl, hf⟩ | ⟨h1, rfl, rfl, rfl, hf⟩
        · by_cases hm : sMeta <+: kl
          · have e1 : Lib.hasPrefix kl sMeta = true := (hasPre_iff _ _).2 hm
            have e2 := trim_meta hm
            rw [e1, e2]
            have hmb := (rdFat hf).2.2.2
            have ow1 := HP.out.ow.later HB1.out
            have hlk : l.length ≤ 8 := by rw [HP.out.len]; exact hk
            have rx1 := HP.out.rx.later HB1.out
            have oth1 := HP.out.oth.then HB1.out HP.out.oth.size
            have heq : prsF b 8 p = ((l ++ [⟨kl.drop 5, vl⟩]) ++ (prsF b (8 - (k + 1)) m).1, (prsF b (8 - (k + 1)) m).2) := by
              rw [HP.out.eq, show 8 - k = (8 - (k + 1)) + 1 by omega, prsFgo hf hm]
              simp
            have hln : l.length = k := HP.out.len
            have HQ : Hid (∀ v' w', Ow w.heap.size w' v' (l ++ [⟨kl.drop 5, vl⟩]) → Below w.heap.size w1 w' → Rx w' g b (q, false) ∧ PK b g p w (w'.setCell ⟨g, 1, none⟩ (.int .i64 (m : Int))) v' (k + 1) m (l ++ [⟨kl.drop 5, vl⟩])) := ⟨fun v' w' ho hb' => by
              have hrx : Rx w' g b (q, false) := by unfold Rx; rw [hb'.block g hgl]; exact rx1
              exact ⟨hrx, by unfold Rx; rw [heap_setCell_same _ _ _ _ _ _ hrx]; rfl, (oth1.then hb' (Nat.le_refl _)).set, ho.oth hgl _, by simp [hln], hmb, heq⟩⟩
            clear hf hm e1 e2 rx1 oth1 heq hat'
            generalize kl.drop 5 = kd at *
            go_wp2_with ((refine app_oneB rfl _ _ rfl ⟨kd, vl⟩ rfl ow1 rfl (by omega) (by first | rfl | (show Value.slice va k vc = _; rw [hln])) rfl ?_; intro v' w3 o3 b3; obtain ⟨hrx, hpk⟩ := HQ.out v' w3 o3 b3; obtain ⟨ga, gc, ev3, _⟩ := o3.sl; have ev4 : v' = .slice ga (k + 1) gc := (by rw [ev3, List.length_append, hln]; rfl); clear ev3; subst ev4; obtain ⟨t0, t1, t2, tf⟩ := hrx.cells; have tf1 := tf 1))
            go_roundw
            case rel => exact ⟨k + 1, m, _, by omega, ⟨hpk⟩⟩
            case measure => show 8 - (k + 1) < 8 - k; omega
          · have e1 : Lib.hasPrefix kl sMeta = false := by
              cases hq : Lib.hasPrefix kl sMeta with
              | false => rfl
              | true => exact absurd ((hasPre_iff _ _).1 hq) hm
            rw [e1]
            have HF := fin w1 HB1.out (prsFstop fun x n hx => by rw [hf] at hx; injection hx with hx; injection hx with h1 h2; rw [← h1]; exact hm)
            clear hf hm e1 hat' fin
            generalize Lib.trimPrefix kl sMeta = tl at *
            go_wp2_with fail
            go_ret
            exact ⟨_, rfl, HF.out.1, HF.out.2⟩
        · have e1 : Lib.hasPrefix [] sMeta = false := rfl
          rw [e1]
          have HF := fin w1 HB1.out (prsFstop fun x n hx => by rw [hf] at hx; cases hx)
          clear hf e1 hat' fin
          generalize Lib.trimPrefix [] sMeta = tl at *
          go_wp2_with fail
          go_ret
          exact ⟨_, rfl, HF.out.1, HF.out.2⟩
      · obtain rfl : k = 8 := by omega
        have HF := fin wr (Below.refl _ _) (by rfl)
        clear fin
        go_wp2_with fail
        go_ret
        exact ⟨_, rfl, HF.out.1, HF.out.2⟩
end Go.Proofs.YtbiponnchppndaaGreatDoor
