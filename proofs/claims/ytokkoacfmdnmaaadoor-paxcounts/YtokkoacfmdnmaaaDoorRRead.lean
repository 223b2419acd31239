/- The reference: Read. -/
import Derived.Test.YtokkoacfmdnmaaaDoorNum
namespace Go.Proofs.YtokkoacfmdnmaaaDoor
set_option linter.unusedVariables false
set_option linter.unusedSimpArgs false
open Go.RowKit
theorem Nm.facts {l x y : List UInt8} {k : Nat} (h : Nm l k) (r : Rd l x y) :
    val (l.take k) = LEN (nn x y) ∧ 0 < k ∧ k + 2 ≤ val (l.take k) ∧ val (l.take k) ≤ l.length ∧ l.take (val (l.take k)) = recd x y ∧ (l.drop (k + 1)).take (val (l.take k) - 1 - (k + 1)) = x ++ 61 :: y := by
  obtain ⟨h1, h2⟩ := h.of_rd r
  have f := r.facts r.ld
  have hd : (Lib.decDigits (LEN (nn x y))).length = k := by rw [h2, Lib.decDigits_length, nDigits_LEN]
  rw [← h1] at f
  have hl : (l.take k).length = k := by rw [h1]; exact hd
  rw [hl] at f
  obtain ⟨f1, f2, f3, f4, f5⟩ := f
  have hp := dig_pos (nn x y)
  refine ⟨f1, by omega, by omega, f3, ?_, f5⟩
  obtain ⟨t, e⟩ := r.pre
  rw [f1, e]
  exact List.take_left' (recd_length x y)
theorem body_eq (l : List UInt8) (k z : Nat) : ((l.take z).drop (k + 1)).take (z - 1 - (k + 1)) = (l.drop (k + 1)).take (z - 1 - (k + 1)) := by
  rw [List.drop_take, List.take_take, Nat.min_eq_left (by omega)]
theorem Rd.of_wrote {l a b : List UInt8} {z : Nat} (h1 : werr a b = 0) (h2 : wrote a b = l.take z) (hz : z ≤ l.length) : Rd l a b ∧ z = LEN (nn a b) := by
  unfold werr at h1
  unfold wrote at h2
  by_cases hk : key a = false
  · rw [if_pos hk] at h1; cases h1
  · rw [if_neg hk] at h1 h2
    by_cases hs : 1048576 < LEN (nn a b)
    · rw [if_pos hs] at h1; cases h1
    · rw [if_neg hs] at h2
      refine ⟨⟨by simpa using hk, by omega, ⟨l.drop z, by rw [h2, List.take_append_drop]⟩⟩, ?_⟩
      have := congrArg List.length h2
      rw [recd_length, List.length_take] at this
      omega
theorem Rd.wr {l a b : List UInt8} (h : Rd l a b) : wrote a b = recd a b ∧ werr a b = 0 := by
  unfold wrote werr
  have h1 : ¬ key a = false := by rw [h.kk]; decide
  have h2 : ¬ 1048576 < LEN (nn a b) := by have := h.small; omega
  rw [if_neg h1, if_neg h1, if_neg h2, if_neg h2]
  exact ⟨rfl, rfl⟩
theorem ba_ne {a b : ByteArray} (h : ¬ a = b) : (a.toList == b.toList) = false := by
  rw [ByteArray.toList_eq, ByteArray.toList_eq]
  refine beq_eq_false_iff_ne.2 fun e => h ?_
  apply ByteArray.ext; exact Array.toList_inj.1 e
attribute [local go_sem ↓] Go.wp_at_zero Go.wp_at_succ
attribute [local go_sem ↓] sl9 ix9
set_option maxHeartbeats 1000000 in
theorem refRead_any (s : ByteArray) (p : Int) (hs : s.size ≤ 281474976710656) (hp : p ≤ 9223372036854775807) (w : World) :
    Calls Tryd.prog 15 #[.string s, .int .i64 p] w (ReadPost s.data.toList p w) := by
  obtain ⟨l, hl⟩ : ∃ l, l = s.data.toList := ⟨_, rfl⟩
  have hlen := getD_of hl
  have hxd : ∀ o, (s.extract o s.size).data.toList = l.drop o := fun o => by rw [hl]; exact ext_drop s o
  have hxt : ∀ i j, (s.extract i j).data.toList = (l.drop i).take (j - i) := fun i j => by rw [hl]; exact ext_mid s i j
  have hsl := run_slL s
  have hsm := run_slS s
  rw [← hl]
  clear hl
  go_enter Tryd.func15, Tryd.ntmps15
  by_cases h1 : p < 0
  · have d1 : decide (p < 0) = true := decide_eq_true h1
    go_wp2_with fail
    refine bodyPost_ret (results_tmp4 rfl _ _ _) rfl ?_
    exact ⟨_, _, _, _, rfl, ⟨fun _ => ⟨rfl, rfl, rfl, rfl⟩, fun h => by omega, fun h => by omega⟩, Below.refl _ _⟩
  · have d1 : decide (p < 0) = false := decide_eq_false h1
    by_cases h2 : (s.size : Int) < p
    · have d2 : decide ((s.size : Int) < p) = true := decide_eq_true h2
      go_wp2_with fail
      refine bodyPost_ret (results_tmp4 rfl _ _ _) rfl ?_
      exact ⟨_, _, _, _, rfl, ⟨fun _ => ⟨rfl, rfl, rfl, rfl⟩, fun h => by omega, fun h => by omega⟩, Below.refl _ _⟩
    · have d2 : decide ((s.size : Int) < p) = false := decide_eq_false h2
      obtain ⟨o, rfl⟩ : ∃ o : Nat, p = (o : Int) := ⟨p.toNat, by omega⟩
      by_cases h3 : o = s.size
      · have d3 : ((o : Int) == (s.size : Int)) = true := by rw [h3]; exact beq_self_eq_true _
        have H3 : Hid (o = s.size) := ⟨h3⟩
        clear h3
        go_wp2_with fail
        refine bodyPost_ret (results_tmp4 rfl _ _ _) rfl ?_
        have := H3.out
        exact ⟨_, _, _, _, rfl, ⟨fun h => by omega, fun h => ⟨rfl, rfl, rfl, rfl⟩, fun _ h => by omega⟩, Below.refl _ _⟩
      · have d3 : ((o : Int) == (s.size : Int)) = false := beq_eq_false_iff_ne.2 (by omega)
        have hsl1 := hsl o (by omega)
        have hq1 : (s.extract o s.size).size ≤ 4611686018427387904 := by rw [ByteArray.size_extract]; omega
        have hf := fun w => number_any (s.extract o s.size) hq1 w
        rw [hxd o] at hf
        have hol : (l.drop o).length = s.size - o := by rw [List.length_drop]; omega
        have hos : o < s.size := by omega
        have hBad : Hid ((∀ x y, ¬ Rd (l.drop o) x y) → RdAt l (o : Int) [] [] 0 4) := ⟨fun hno => ⟨fun h => by omega, fun h => by omega, fun _ _ => Or.inr ⟨rfl, rfl, rfl, rfl, hno⟩⟩⟩
        have hOk : Hid (∀ a b n, Rd (l.drop o) a b → n = (LEN (nn a b) : Nat) → RdAt l (o : Int) a b ((o : Int) + n) 0) := ⟨fun a b n h e => ⟨fun h => by omega, fun h => by omega, fun _ _ => Or.inl ⟨rfl, h, by rw [e]⟩⟩⟩
        generalize s.extract o s.size = q at *
        clear hsl hxd
        have hxt1 := hxt o
        generalize hLL : l.drop o = L at *
        clear hLL
        go_wp2_with fail
        refine (hf _).mono ?_
        rintro e w1 ⟨k, hN, rfl, rfl⟩
        dsimp only
        have hF : Hid (∀ x y, Rd L x y → val (L.take k) = LEN (nn x y) ∧ 0 < k ∧ k + 2 ≤ val (L.take k) ∧ val (L.take k) ≤ L.length ∧ L.take (val (L.take k)) = recd x y ∧ (L.drop (k + 1)).take (val (L.take k) - 1 - (k + 1)) = x ++ 61 :: y) := ⟨fun x y h => hN.facts h⟩
        have hk8 := hN.le
        clear hN
        generalize val (L.take k) = z at *
        by_cases h4 : k = 0
        · have hno : Hid (RdAt l (o : Int) [] [] 0 4) := ⟨hBad.out fun x y h => by have := hF.out x y h; omega⟩
          subst h4
          go_wp2_with fail
          refine bodyPost_ret (results_tmp4 rfl _ _ _) rfl ?_
          exact ⟨_, _, _, _, rfl, hno.out, Below.refl _ _⟩
        · have d4 : ((k : Int) == 0) = false := beq_eq_false_iff_ne.2 (by omega)
          by_cases h5 : z < k + 2
          · have hno : Hid (RdAt l (o : Int) [] [] 0 4) := ⟨hBad.out fun x y h => by have := hF.out x y h; omega⟩
            have d5 : decide ((z : Int) < (k : Int) + 2) = true := decide_eq_true (by omega)
            go_wp2_with fail
            refine bodyPost_ret (results_tmp4 rfl _ _ _) rfl ?_
            exact ⟨_, _, _, _, rfl, hno.out, Below.refl _ _⟩
          · have d5 : decide ((z : Int) < (k : Int) + 2) = false := decide_eq_false (by omega)
            by_cases h6 : s.size - o < z
            · have hno : Hid (RdAt l (o : Int) [] [] 0 4) := ⟨hBad.out fun x y h => by have := hF.out x y h; omega⟩
              have d6 : decide ((s.size : Int) - (o : Int) < (z : Int)) = true := decide_eq_true (by omega)
              go_wp2_with fail
              refine bodyPost_ret (results_tmp4 rfl _ _ _) rfl ?_
              exact ⟨_, _, _, _, rfl, hno.out, Below.refl _ _⟩
            · have d6 : decide ((s.size : Int) - (o : Int) < (z : Int)) = false := decide_eq_false (by omega)
              obtain ⟨r, hr⟩ : ∃ r, r = s.extract o (o + z) := ⟨_, rfl⟩
              have hrl : r.data.toList = L.take z := by rw [hr, hxt1, show o + z - o = z by omega]
              have hrs : r.size = z := by
                have : r.size = r.data.toList.length := by rw [Array.length_toList]; rfl
                rw [this, hrl, List.length_take]; omega
              have s1 : ∀ w, (slS (.string s) (some (.int .i64 (o : Int))) (some (.int .i64 ((o : Int) + (z : Int)))) none).run Tryd.prog w = .ok (.string r) w := fun w => by
                have := hsm o (o + z) (by omega) (by omega) w
                rw [← hr] at this
                rwa [show ((o + z : Nat) : Int) = (o : Int) + (z : Int) by omega] at this
              obtain ⟨c, hc⟩ : ∃ c, c = r.extract (k + 1) (z - 1) := ⟨_, rfl⟩
              have s2 : ∀ w, (slS (.string r) (some (.int .i64 ((k : Int) + 1))) (some (.int .i64 ((z : Int) - 1))) none).run Tryd.prog w = .ok (.string c) w := fun w => by
                have := run_slS r (k + 1) (z - 1) (by omega) (by omega) w
                rw [← hc] at this
                rwa [show ((z - 1 : Nat) : Int) = (z : Int) - 1 by omega, show ((k + 1 : Nat) : Int) = (k : Int) + 1 by omega] at this
              have hcl : c.data.toList = (L.drop (k + 1)).take (z - 1 - (k + 1)) := by rw [hc, ext_mid, hrl, body_eq]
              have hcs : c.size = z - 1 - (k + 1) := by rw [hc, ByteArray.size_extract]; omega
              have hcut := fun w => refCut_any c 61 (by omega) w
              rw [hcl] at hcut
              clear hsm hr hxt hxt1 hc
              go_wp2_with fail
              refine (hcut _).mono ?_
              rintro e w2 ⟨a, b, f, rfl, hC, hb⟩
              dsimp only
              cases f
              · have hno : Hid (RdAt l (o : Int) [] [] 0 4) := ⟨hBad.out fun x y h => by
                  rcases hC with ⟨e, _⟩ | ⟨_, e⟩
                  · cases e
                  · exact e (by rw [(hF.out x y h).2.2.2.2.2]; simp)⟩
                go_wp2_with fail
                refine bodyPost_ret (results_tmp4 rfl _ _ _) rfl ?_
                exact ⟨_, _, _, _, rfl, hno.out, hb⟩
              · have hC2 : Hid ((L.drop (k + 1)).take (z - 1 - (k + 1)) = a.data.toList ++ 61 :: b.data.toList ∧ (61 : UInt8) ∉ a.data.toList) := ⟨by
                  rcases hC with ⟨_, e⟩ | ⟨e, _⟩
                  · exact e
                  · cases e⟩
                clear hC
                have hab : a.size + b.size ≤ 281474976710656 := by
                  have h5 := congrArg List.length hC2.out.1
                  rw [List.length_append, List.length_cons, ← hcl] at h5
                  have h6 : a.data.toList.length = a.size := Array.length_toList
                  have h7 : b.data.toList.length = b.size := Array.length_toList
                  have h8 : c.data.toList.length = c.size := Array.length_toList
                  omega
                have hU : Hid (∀ x y, Rd L x y → a.data.toList = x ∧ b.data.toList = y) := ⟨fun x y h => by
                  have := (hF.out x y h).2.2.2.2.2
                  rw [hC2.out.1] at this
                  exact split_uniq hC2.out.2 ((key_iff _).1 h.kk).2.1 this⟩
                have hW := fun w => refWrite_any a b (by omega) (by omega) w
                have hYes : Hid (werr a.data.toList b.data.toList = 0 → wrote a.data.toList b.data.toList = L.take z → RdAt l (o : Int) a.data.toList b.data.toList ((o : Int) + (z : Int)) 0) := ⟨fun g1 g2 => by
                  obtain ⟨g3, g4⟩ := Rd.of_wrote g1 g2 (by omega)
                  exact hOk.out _ _ _ g3 (by rw [← g4])⟩
                have hNo : Hid (¬ (werr a.data.toList b.data.toList = 0 ∧ wrote a.data.toList b.data.toList = L.take z) → RdAt l (o : Int) [] [] 0 4) := ⟨fun g => hBad.out fun x y h => by
                  obtain ⟨e1, e2⟩ := hU.out x y h
                  refine g ?_
                  rw [e1, e2]
                  exact ⟨h.wr.2, by rw [h.wr.1]; exact (hF.out x y h).2.2.2.2.1.symm⟩⟩
                unfold str at hW
                obtain ⟨wl, hwl⟩ : ∃ wl, wl = wrote a.data.toList b.data.toList := ⟨_, rfl⟩
                obtain ⟨er, her⟩ : ∃ er, er = werr a.data.toList b.data.toList := ⟨_, rfl⟩
                rw [← hwl] at hW hYes hNo
                rw [← her] at hW hYes hNo
                clear hwl her
                rw [← hrl] at hYes hNo
                obtain ⟨wq, hwq⟩ : ∃ wq : ByteArray, wq = ⟨wl.toArray⟩ := ⟨_, rfl⟩
                have hwd : wq.data.toList = wl := by rw [hwq]
                rw [← hwq] at hW
                rw [← hwd] at hYes hNo
                clear hwq hwd
                go_wp2_with fail
                refine (hW _).mono ?_
                rintro e w3 ⟨rfl, hb3⟩
                replace hb3 := below_seq hb hb3
                dsimp only
                by_cases h7 : er = 0
                · subst h7
                  by_cases h8 : wq = r
                  · have hA : Hid _ := ⟨hYes.out rfl (by rw [h8])⟩
                    subst h8
                    go_wp2_with fail
                    refine bodyPost_ret (results_tmp4 rfl _ _ _) rfl ?_
                    exact ⟨_, _, _, _, rfl, hA.out, hb3⟩
                  · have hA : Hid _ := ⟨hNo.out (fun g => h8 (by apply ByteArray.ext; exact Array.toList_inj.1 g.2))⟩
                    have d8 : (wq.toList == r.toList) = false := ba_ne h8
                    go_wp2_with fail
                    refine bodyPost_ret (results_tmp4 rfl _ _ _) rfl ?_
                    exact ⟨_, _, _, _, rfl, hA.out, hb3⟩
                · have hA : Hid _ := ⟨hNo.out (fun g => h7 g.1)⟩
                  have d7 : (er == 0) = false := beq_eq_false_iff_ne.2 h7
                  go_wp2_with fail
                  refine bodyPost_ret (results_tmp4 rfl _ _ _) rfl ?_
                  exact ⟨_, _, _, _, rfl, hA.out, hb3⟩
end Go.Proofs.YtokkoacfmdnmaaaDoor
