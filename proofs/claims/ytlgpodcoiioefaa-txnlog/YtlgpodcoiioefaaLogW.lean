/- TxnLog: the walk. -/
import Derived.Test.YtlgpodcoiioefaaOpn8
import Derived.Test.YtlgpodcoiioefaaFs8
import Derived.Test.YtlgpodcoiioefaaIns
import Derived.Deep.CutRange
namespace Go.Proofs.Ytlgpodcoiioefaa
set_option linter.unusedVariables false
set_option linter.unusedSimpArgs false
open Go.RowKit Go.Maps
set_option maxRecDepth 100000 in
theorem txnLog_bad (n z : Int) (l : Il) (a : Option Addr) (cap : Nat) (W : World) (hg : ¬ good n z) : Calls Try.prog 4 #[.int .i64 n, .int .i64 z, .slice a l.length cap] W fun e W' => e = .returned (.bool true) ∧ Below W.heap.size W W' := by
  have qF := first_any W
  have qM : Hid (∀ w5, Calls Try.prog 6 #[.int .i64 n, .int .i64 z] w5 fun e w' => e = .returned (.tuple #[.pointer none, .pointer none]) ∧ Below w5.heap.size w5 w') := ⟨fun w5 => by
    refine (made_bad (EnvP.nil w5) n z hg).mono ?_
    rintro e w' ⟨rfl, h⟩
    exact ⟨rfl, h.bel⟩⟩
  clear hg
  go_enter Try.func4, Try.ntmps4
  go_wp2_with fail
  refine qF.mono ?_
  rintro e w1 ⟨rfl, b1⟩
  dsimp only
  go_wp2_with fail
  refine (qM.out w1).mono ?_
  rintro e w2 ⟨rfl, b2⟩
  dsimp only
  go_wp2_with fail
  refine (qM.out w2).mono ?_
  rintro e w3 ⟨rfl, b3⟩
  dsimp only
  go_wp2
  go_ret
  exact ⟨rfl, (b1.trans (b2.mono b1.size)).trans (b3.mono (Nat.le_trans b1.size b2.size))⟩
theorem EnvP.swap2 {w0 w : World} {a b c d : Th → Prop} {rest : List (Th → Prop)} (h : EnvP w0 w (a :: b :: c :: d :: rest)) : EnvP w0 w (c :: d :: a :: b :: rest) := by
  refine h.remap (fun i => match i with | 0 => 2 | 1 => 3 | 2 => 0 | 3 => 1 | i + 4 => i + 4) ?_ ?_
  · intro i s hi
    match i with
    | 0 => simpa using hi
    | 1 => simpa using hi
    | 2 => simpa using hi
    | 3 => simpa using hi
    | i + 4 => simpa using hi
  · intro i j hi hj e
    match i, j with
    | 0, 0 => rfl
    | 1, 1 => rfl
    | 2, 2 => rfl
    | 3, 3 => rfl
    | 0, 1 => simp at e
    | 0, 2 => simp at e
    | 0, 3 => simp at e
    | 1, 0 => simp at e
    | 1, 2 => simp at e
    | 1, 3 => simp at e
    | 2, 0 => simp at e
    | 2, 1 => simp at e
    | 2, 3 => simp at e
    | 3, 0 => simp at e
    | 3, 1 => simp at e
    | 3, 2 => simp at e
    | 0, j + 4 => simp at e
    | 1, j + 4 => simp at e
    | 2, j + 4 => simp at e
    | 3, j + 4 => simp at e
    | i + 4, 0 => simp at e
    | i + 4, 1 => simp at e
    | i + 4, 2 => simp at e
    | i + 4, 3 => simp at e
    | i + 4, j + 4 => simp at e ⊢; omega
theorem EnvP.appR {W w w' : World} {Ls : List (Th → Prop)} {ra : Option Addr} {rc y c2 N : Nat} {R : Wl} {t : ByteArray} (h : EnvP W w Ls) (i : Nat) (hi : Ls[i]? = some (rowW (.slice ra R.length rc) (ints R)))
    (q8 : w'.ownsRow 0 33 2 (rw_ y (R.length + 1) c2) (R.length + 1) (wci (ints R ++ [((N : Int), t)]))) (g8 : w.grownBy w' (Value.slice ra R.length rc).ownBlock) (n8 : (Value.slice ra R.length rc).ownBlock = some y ∨ w.heap.size ≤ y) :
    EnvP W w' (Ls.set i (rowW (.slice (some ⟨y, 0, none⟩) (R ++ [(N, t)]).length c2) (ints (R ++ [(N, t)])))) := by
  have e1 : ints (R ++ [(N, t)]) = ints R ++ [((N : Int), t)] := by simp [ints]
  have e2 : (R ++ [(N, t)]).length = R.length + 1 := by simp
  rw [e1, e2]
  exact h.appW i hi (v' := rw_ y (R.length + 1) c2) (l' := ints R ++ [((N : Int), t)]) (by rw [List.length_append, ints_length]; exact q8) g8 (fun k hk => by cases hk; exact n8)
theorem EnvP.rowRAt {W w : World} {Ls : List (Th → Prop)} {ra : Option Addr} {rc : Nat} {R : Wl} (h : EnvP W w Ls) (i : Nat) (hi : Ls[i]? = some (rowW (.slice ra R.length rc) (ints R))) : w.ownsRow 0 33 2 (.slice ra R.length rc) (ints R).length (wci (ints R)) := h.rowWAt i hi
theorem EnvP.rowCell {W w : World} {Ls : List (Th → Prop)} {ra : Option Addr} {rc : Nat} {R : Wl} (h : EnvP W w Ls) (i : Nat) (hi : Ls[i]? = some (rowW (.slice ra R.length rc) (ints R))) (k : Nat) (p : Nat × ByteArray) (hp : R[k]? = some p) : ∃ g, ra = some ⟨g, 0, none⟩ ∧ w.cell? ⟨g, k * 2, none⟩ = some (.int .i64 (p.1 : Int)) ∧ w.cell? ⟨g, k * 2 + 1, none⟩ = some (.string p.2) := by
  have o := h.rowRAt i hi
  rcases o.2 with ⟨_, h0⟩ | ⟨g, cap, cur, e, _⟩
  · rw [ints_length] at h0
    have := (List.getElem?_eq_some_iff.1 hp).1
    omega
  · injection e with e1 _ _
    subst e1
    obtain ⟨c0, c1⟩ := own_cell2 (l := ints R) o k _ (ints_at R k p hp)
    exact ⟨g, rfl, c0, c1⟩
theorem EnvP.del5 {w0 w : World} {a0 a1 a2 a3 a4 a5 : Th → Prop} {rest : List (Th → Prop)} (h : EnvP w0 w (a0 :: a1 :: a2 :: a3 :: a4 :: a5 :: rest)) : EnvP w0 w (a0 :: a1 :: a2 :: a3 :: a4 :: rest) := by
  refine h.remap (fun i => if i < 5 then i else i + 1) ?_ ?_
  · intro i s hi
    match i with
    | 0 => simpa using hi
    | 1 => simpa using hi
    | 2 => simpa using hi
    | 3 => simpa using hi
    | 4 => simpa using hi
    | i + 5 =>
      have : ¬ (i + 5 < 5) := by omega
      simp only [this, if_false]
      simpa using hi
  · intro i j hi hj e
    split at e <;> split at e <;> omega
set_option maxHeartbeats 8000000 in
set_option maxRecDepth 100000 in
theorem txnLog_good (n s : Nat) (h8 : n ≤ 8192) (h4 : 4 ≤ s) (hs : s < n) (l : Il) (a : Option Addr) (cap : Nat) (W : World) (hin : WAt W a l) (hl : l.length ≤ 5864062014634) : Calls Try.prog 4 #[.int .i64 (n : Int), .int .i64 (s : Int), .slice a l.length cap] W fun e W' => e = .returned (.bool true) ∧ Below W.heap.size W W' := by
  have qF := first_any W
  have qM : Hid (∀ w5 Ls, EnvP W w5 Ls → Calls Try.prog 6 #[.int .i64 (n : Int), .int .i64 (s : Int)] w5 fun e w' => ∃ q p st, e = .returned (.tuple #[pt q, pt p]) ∧ EnvP W w' (lg q p s false :: dk p st :: Ls) ∧ OKst NN st n s (List.replicate (n - s) (fl 0)) ∧ st.fall = 0) := ⟨fun w5 Ls h5 => made_good h5 n s h8 h4 hs⟩
  have HI : Hid (WAt W a l) := ⟨hin⟩
  clear hin
  go_enter Try.func4, Try.ntmps4
  go_wp2_with fail
  refine qF.mono ?_
  rintro e w1 ⟨rfl, b1⟩
  have E1 : EnvP W w1 [] := (EnvP.nil W).below b1
  have Q1 := qM.out w1 [] E1
  clear E1 b1
  dsimp only
  go_wp2_with fail
  refine Q1.mono ?_
  rintro e w2 ⟨q, p, st, rfl, h2, ok1, f1⟩
  have Q2 := qM.out w2 _ h2
  clear h2 Q1
  dsimp only
  go_wp2_with fail
  refine Q2.mono ?_
  rintro e w3 ⟨hq, hp, st2, rfl, h3, ok2, f2⟩
  have K1 : Hid (OKst NN st n s (List.replicate (n - s) (fl 0)) ∧ st.fall = 0) := ⟨ok1, f1⟩
  have K2 : Hid (OKst NN st2 n s (List.replicate (n - s) (fl 0)) ∧ st2.fall = 0) := ⟨ok2, f2⟩
  have Q3 := tbegin_env h3 q
  clear h3 Q2 ok1 ok2 f1 f2
  dsimp only
  go_wp2_with fail
  refine Q3.mono ?_
  rintro e w4 ⟨x, rfl, h4⟩
  have H4 : Hid (EnvP W w4 (lg q p s false :: dk p st :: [lg hq hp s false, dk hp st2, tx x q [] false, rowW (.slice none 0 0) (ints [])])) := ⟨EnvP.nilW (Ls := lg q p s false :: dk p st :: [lg hq hp s false, dk hp st2, tx x q [] false]) (EnvP.swap2 (rest := [tx x q [] false]) h4)⟩
  clear h4 Q3 qM qF
  dsimp only
  go_wp2_with fail
  go_loopw [12, 13] (fun v i wr => ∃ (k : Nat) (WW : Wl) (va : Option Addr) (c : Nat), k ≤ l.length ∧ i = .int .i64 (k : Int) ∧ v = .slice va WW.length c ∧ Hid (Rising WW ∧ InB (n - s) WW) ∧ Hid (EnvP W wr (lg q p s false :: dk p st :: [lg hq hp s false, dk hp st2, tx x q WW false, rowW (.slice va WW.length c) (ints WW)]))) (fun _ i _ => l.length - (intOf i).toNat)
  case atStart => exact ⟨0, [], none, 0, Nat.zero_le _, rfl, rfl, ⟨List.Pairwise.nil, InB.nil _⟩, H4⟩
  case round =>
    obtain ⟨k, WW, va, c, hk, rfl, rfl, RW, E⟩ := hrel
    clear H4
    by_cases hlt : k < l.length
    · obtain ⟨⟨z, T⟩, hz⟩ : ∃ z, l[k]? = some z := ⟨_, List.getElem?_eq_getElem hlt⟩
      obtain ⟨b, off, rfl, hb, ⟨cN0, cT0⟩, ⟨z1, z2⟩, hT⟩ := HI.out.get k _ hz
      simp only at cN0 cT0 z1 z2 hT
      have HC : Hid (∀ w', Below W.heap.size W w' → w'.cell? ⟨b, off + k * 2, none⟩ = some (.int .i64 z) ∧ w'.cell? ⟨b, off + k * 2 + 1, none⟩ = some (.string T)) := ⟨fun w' bw => ⟨later_cell bw hb cN0, later_cell bw hb cT0⟩⟩
      obtain ⟨cN, cT⟩ := HC.out wr E.out.bel
      clear cN0 cT0
      have hi : (k : Int) < l.length := by omega
      have hw1 : wrap64 ((k : Int) + 1) = ((k + 1 : Nat) : Int) := by unfold wrap64; omega
      have qU := full_any T wr
      clear hz
      go_wp2_with fail
      refine qU.mono ?_
      rintro e w5 ⟨rfl, b5⟩
      have E5 : Hid (EnvP W w5 (lg q p s false :: dk p st :: [lg hq hp s false, dk hp st2, tx x q WW false, rowW (.slice va WW.length c) (ints WW)])) := ⟨E.out.below b5⟩
      have dN := (HC.out w5 E5.out.bel).1
      clear E qU cN cT
      dsimp only
      by_cases hg : 0 ≤ z ∧ z < ((n - s : Nat) : Int) ∧ (fu T).size = 512
      · obtain ⟨N, rfl⟩ : ∃ N : Nat, z = N := ⟨z.toNat, by omega⟩
        have hN : N < n - s := by omega
        have hle := RW.out.1.length RW.out.2
        have qW := twrite_run E5.out (by rw [K1.out.1.len]; omega) 2 rfl N (fu T) (m := n - s) (by rw [K1.out.1.len]) hN hg.2.2 RW.out.1 (by omega)
        have HX : Hid ((fu T).size = 512) := ⟨hg.2.2⟩
        have hW8 : WW.length ≤ 8192 := by omega
        have HNN : Hid (N < n - s) := ⟨hN⟩
        clear E5 hg hN hle
        generalize fu T = X at *
        go_wp2_with fail
        refine qW.mono ?_
        rintro e w6 ⟨rfl, h6⟩
        have H6 : Hid (EnvP W w6 (lg q p s false :: dk p st :: [lg hq hp s false, dk hp st2, tx x q (insW N X WW) false, rowW (.slice va WW.length c) (ints WW), rowW (.slice none 0 0) (ints [])])) := ⟨EnvP.nilW (Ls := lg q p s false :: dk p st :: [lg hq hp s false, dk hp st2, tx x q (insW N X WW) false, rowW (.slice va WW.length c) (ints WW)]) h6⟩
        clear h6 qW dN
        dsimp only
        go_wp2_with fail
        go_loopw [15, 16, 17] (fun v bv i wr => ∃ (j : Nat) (pb : Bool) (R : Wl) (ra : Option Addr) (rc : Nat), j ≤ WW.length ∧ i = .int .i64 (j : Int) ∧ bv = .bool pb ∧ v = .slice ra R.length rc ∧ Hid (InsAt N X WW j pb R) ∧ Hid (EnvP W wr (lg q p s false :: dk p st :: [lg hq hp s false, dk hp st2, tx x q (insW N X WW) false, rowW (.slice va WW.length c) (ints WW), rowW (.slice ra R.length rc) (ints R)]))) (fun _ _ i _ => WW.length - (intOf i).toNat)
        case atStart => exact ⟨0, false, [], none, 0, Nat.zero_le _, rfl, rfl, rfl, ⟨InsAt.zero N X WW⟩, H6⟩
        case round =>
          obtain ⟨j, pb, R, ra, rc, hj, rfl, rfl, rfl, HI2, F⟩ := hrel
          clear H6
          by_cases hjl : j < WW.length
          · obtain ⟨⟨M, Y⟩, hy⟩ : ∃ z, WW[j]? = some z := ⟨_, List.getElem?_eq_getElem hjl⟩
            obtain ⟨g, rfl, cM, cY⟩ := F.out.rowCell 5 rfl j _ hy
            simp only at cM cY
            have hji : (j : Int) < WW.length := by omega
            have hw2 : wrap64 ((j : Int) + 1) = ((j + 1 : Nat) : Int) := by unfold wrap64; omega
            have hRl : R.length ≤ 8193 := by have := HI2.out.len; omega
            obtain ⟨eN, eT⟩ := HC.out wr F.out.bel
            have HYY : Hid (WW[j]? = some (M, Y)) := ⟨hy⟩
            clear hy cM cY eN eT
            go_upto_region 21 with fail
            go_cut [92] from 72 to 120 (fun v wx => v = .bool (!pb && decide (N ≤ M)) ∧ Hid (EnvP W wx (lg q p s false :: dk p st :: [lg hq hp s false, dk hp st2, tx x q (insW N X WW) false, rowW (.slice (some ⟨g, 0, none⟩) WW.length c) (ints WW), rowW (.slice ra R.length rc) (ints R)])))
            case first =>
              obtain ⟨_, e5, cM, cY⟩ := F.out.rowCell 5 rfl j _ HYY.out
              cases e5
              simp only at cM cY
              obtain ⟨eN, eT⟩ := HC.out _ F.out.bel
              cases pb with
              | true =>
                go_wp2_with fail
                go_quiet (fail)
                go_wp2_with fail
                go_meet
                exact ⟨rfl, ⟨F.out.drewN _⟩⟩
              | false =>
                by_cases hge : N ≤ M
                · have hgi : (N : Int) ≤ (M : Int) := by omega
                  have hd : decide (N ≤ M) = true := decide_eq_true hge
                  go_wp2_with fail
                  go_quiet (fail)
                  go_wp2_with fail
                  go_meet
                  exact ⟨by rw [hd]; rfl, ⟨F.out.drewN _⟩⟩
                · have hgi : ¬ ((N : Int) ≤ (M : Int)) := by omega
                  have hd : decide (N ≤ M) = false := decide_eq_false hge
                  go_wp2_with fail
                  go_quiet (fail)
                  go_wp2_with fail
                  go_meet
                  exact ⟨by rw [hd]; rfl, ⟨F.out.drewN _⟩⟩
            case rest =>
              obtain ⟨rfl, F1⟩ := hcut
              clear F
              go_upto_if 92 with fail
              go_cut [15, 16] from 72 to 120 (fun r pv wx => ∃ (pb2 : Bool) (R2 : Wl) (ra2 : Option Addr) (rc2 : Nat), r = .slice ra2 R2.length rc2 ∧ pv = .bool pb2 ∧ Hid (InsMid N X WW j (M, Y) pb2 R2 ∧ R2.length ≤ 8194) ∧ Hid (EnvP W wx (lg q p s false :: dk p st :: [lg hq hp s false, dk hp st2, tx x q (insW N X WW) false, rowW (.slice (some ⟨g, 0, none⟩) WW.length c) (ints WW), rowW (.slice ra2 R2.length rc2) (ints R2)])))
              case first =>
                obtain ⟨_, e5, cM, cY⟩ := F1.out.rowCell 5 rfl j _ HYY.out
                cases e5
                simp only at cM cY
                obtain ⟨eN, eT⟩ := HC.out _ F1.out.bel
                cases pb with
                | true =>
                  rw [Bool.not_true, Bool.false_and]
                  have HM : Hid (InsMid N X WW j (M, Y) true R ∧ R.length ≤ 8194) := ⟨HI2.out.mid_past RW.out.1 HYY.out, by omega⟩
                  go_wp2_with fail
                  go_meet
                  exact ⟨true, R, ra, rc, rfl, rfl, HM, F1⟩
                | false =>
                  by_cases hge : N ≤ M
                  · have HM : Hid (InsMid N X WW j (M, Y) true (R ++ [(N, X)]) ∧ (R ++ [(N, X)]).length ≤ 8194) := ⟨HI2.out.mid_more HYY.out hge, by rw [List.length_append]; simp; omega⟩
                    have hd : decide (N ≤ M) = true := decide_eq_true hge
                    rw [hd, Bool.not_false, Bool.true_and]
                    go_wp2_with (at_builtin; refine app_wi (v := .slice ra R.length rc) (g := wc.heap.size) (l := ints R) (m := R.length) (i := (N : Int)) (t := X) (ints_length R) rfl rfl (F1.out.rowRAt 6 rfl) (by rw [ints_length]; omega) rfl _ _ rfl rfl rfl ?_; intro y3 c3 W3 q3 g3 n3)
                    have F3 : Hid (EnvP W W3 (lg q p s false :: dk p st :: [lg hq hp s false, dk hp st2, tx x q (insW N X WW) false, rowW (.slice (some ⟨g, 0, none⟩) WW.length c) (ints WW), rowW (.slice (some ⟨y3, 0, none⟩) (R ++ [(N, X)]).length c3) (ints (R ++ [(N, X)]))])) := ⟨F1.out.appR 6 rfl q3 g3 n3⟩
                    clear q3 g3 n3
                    go_meet
                    exact ⟨true, R ++ [(N, X)], some ⟨y3, 0, none⟩, c3, by first | rfl | (rw [List.length_append]; rfl), rfl, HM, F3⟩
                  · have HM : Hid (InsMid N X WW j (M, Y) false R ∧ R.length ≤ 8194) := ⟨HI2.out.mid_less HYY.out (by simp only; omega), by omega⟩
                    have hd : decide (N ≤ M) = false := decide_eq_false hge
                    rw [hd, Bool.not_false, Bool.true_and]
                    go_wp2_with fail
                    go_meet
                    exact ⟨false, R, ra, rc, rfl, rfl, HM, F1⟩
              case rest =>
                obtain ⟨pb2, R2, ra2, rc2, rfl, rfl, HM, F2⟩ := hcut
                clear F1 HI2
                have hR2 := HM.out.2
                go_upto_region 24 with fail
                go_cut [113] from 72 to 120 (fun v wx => v = .bool (!decide (M = N)) ∧ Hid (EnvP W wx (lg q p s false :: dk p st :: [lg hq hp s false, dk hp st2, tx x q (insW N X WW) false, rowW (.slice (some ⟨g, 0, none⟩) WW.length c) (ints WW), rowW (.slice ra2 R2.length rc2) (ints R2)])))
                case first =>
                  obtain ⟨_, e5, cM, cY⟩ := F2.out.rowCell 5 rfl j _ HYY.out
                  cases e5
                  simp only at cM cY
                  obtain ⟨eN, eT⟩ := HC.out _ F2.out.bel
                  by_cases hne : M = N
                  · have hni : (M : Int) = (N : Int) := by omega
                    have hd : decide (M = N) = true := decide_eq_true hne
                    subst hne
                    clear hni
                    go_wp2_with fail
                    go_quiet (fail)
                    go_wp2_with fail
                    go_meet
                    exact ⟨by first | (rw [hd]; rfl) | simp, ⟨F2.out.drewN _⟩⟩
                  · have hni : ¬ ((M : Int) = (N : Int)) := by omega
                    have hnb : ((M : Int) != (N : Int)) = true := by rw [bne_iff_ne]; exact hni
                    have hd : decide (M = N) = false := decide_eq_false hne
                    go_wp2_with fail
                    go_quiet (fail)
                    go_wp2_with fail
                    go_meet
                    exact ⟨by rw [hd]; rfl, ⟨F2.out.drewN _⟩⟩
                case rest =>
                  obtain ⟨rfl, F3⟩ := hcut
                  clear F2
                  obtain ⟨_, e5, cM, cY⟩ := F3.out.rowCell 5 rfl j _ HYY.out
                  cases e5
                  simp only at cM cY
                  obtain ⟨eN, eT⟩ := HC.out _ F3.out.bel
                  clear h8 h4 hs hl hk hlt hi hw1 z1 z2 hT hj hRl hb hw2
                  by_cases hne : M = N
                  · have HN : Hid (InsAt N X WW (j + 1) pb2 R2) := ⟨HM.out.1.same hne⟩
                    have hd : decide (M = N) = true := decide_eq_true hne
                    rw [hd]
                    clear hd hne hR2
                    go_wp2
                    go_roundw
                    case rel => exact ⟨j + 1, pb2, R2, ra2, rc2, hjl, by go_num, rfl, rfl, HN, F3⟩
                    case measure => simp [intOf]; omega
                  · have HN : Hid (InsAt N X WW (j + 1) pb2 (R2 ++ [(M, Y)])) := ⟨HM.out.1.other hne⟩
                    have hd : decide (M = N) = false := decide_eq_false hne
                    rw [hd]
                    clear hd hne
                    go_wp2_with (at_builtin; refine app_wi (v := .slice ra2 R2.length rc2) (g := wc.heap.size) (l := ints R2) (m := R2.length) (i := (M : Int)) (t := Y) (ints_length R2) rfl rfl (F3.out.rowRAt 6 rfl) (by rw [ints_length]; omega) rfl _ _ rfl rfl rfl ?_; intro y4 c4 W4 q4 g4 n4)
                    have F4 : Hid (EnvP W W4 (lg q p s false :: dk p st :: [lg hq hp s false, dk hp st2, tx x q (insW N X WW) false, rowW (.slice (some ⟨g, 0, none⟩) WW.length c) (ints WW), rowW (.slice (some ⟨y4, 0, none⟩) (R2 ++ [(M, Y)]).length c4) (ints (R2 ++ [(M, Y)]))])) := ⟨F3.out.appR 6 rfl q4 g4 n4⟩
                    clear q4 g4 n4
                    refine ⟨⟨j + 1, pb2, R2 ++ [(M, Y)], some ⟨y4, 0, none⟩, c4, hjl, by go_num, rfl, ?_, HN, F4⟩, by simp [intOf]; omega⟩
                    first | rfl | (rw [List.length_append]; rfl)
          · have hje : j = WW.length := by omega
            subst hje
            have hji : ¬ ((WW.length : Int) < WW.length) := by omega
            have RW2 : Hid (Rising (insW N X WW) ∧ InB (n - s) (insW N X WW)) := ⟨RW.out.1.ins, RW.out.2.ins HNN.out HX.out⟩
            have hRl : R.length ≤ 8193 := by have := HI2.out.len; omega
            obtain ⟨eN, eT⟩ := HC.out wr F.out.bel
            cases pb with
            | true =>
              have eR := HI2.out.end_yes
              subst eR
              have F9 : Hid (EnvP W wr (lg q p s false :: dk p st :: [lg hq hp s false, dk hp st2, tx x q (insW N X WW) false, rowW (.slice ra (insW N X WW).length rc) (ints (insW N X WW))])) := ⟨F.out.del5⟩
              clear F HI2
              go_wp2
              go_roundw
              case rel => exact ⟨k + 1, insW N X WW, ra, rc, by omega, by go_num, rfl, RW2, F9⟩
              case measure => simp [intOf]; omega
            | false =>
              have eR := HI2.out.end_no
              go_wp2_with (at_builtin; refine app_wi (v := .slice ra R.length rc) (g := wr.heap.size) (l := ints R) (m := R.length) (i := (N : Int)) (t := X) (ints_length R) rfl rfl (F.out.rowRAt 6 rfl) (by rw [ints_length]; omega) rfl _ _ rfl rfl rfl ?_; intro y2 c2 W2 q2 g2 n2)
              have F2 : Hid (EnvP W W2 (lg q p s false :: dk p st :: [lg hq hp s false, dk hp st2, tx x q (insW N X WW) false, rowW (.slice va WW.length c) (ints WW), rowW (.slice (some ⟨y2, 0, none⟩) (R ++ [(N, X)]).length c2) (ints (R ++ [(N, X)]))])) := ⟨F.out.appR 6 rfl q2 g2 n2⟩
              clear q2 g2 n2
              have F9 : Hid (EnvP W W2 (lg q p s false :: dk p st :: [lg hq hp s false, dk hp st2, tx x q (insW N X WW) false, rowW (.slice (some ⟨y2, 0, none⟩) (insW N X WW).length c2) (ints (insW N X WW))])) := ⟨by have := F2.out.del5; rw [← eR] at this; exact this⟩
              refine ⟨⟨k + 1, insW N X WW, some ⟨y2, 0, none⟩, c2, by omega, by go_num, ?_, RW2, F9⟩, by simp [intOf]; omega⟩
              rw [eR, List.length_append]; rfl
      · have qW := twrite_bad E5.out (by rw [K1.out.1.len]; omega) 2 rfl z (fu T) (m := n - s) (by rw [K1.out.1.len]) hg
        clear hg
        generalize fu T = X at *
        go_wp2_with fail
        refine qW.mono ?_
        rintro e w6 ⟨rfl, h6⟩
        have H6 : Hid (EnvP W w6 (lg q p s false :: dk p st :: [lg hq hp s false, dk hp st2, tx x q WW false, rowW (.slice va WW.length c) (ints WW)])) := ⟨h6⟩
        clear h6 qW dN E5
        dsimp only
        go_wp2
        go_roundw
        case rel => exact ⟨k + 1, WW, va, c, by omega, by go_num, rfl, RW, H6⟩
        case measure => simp [intOf]; omega
    · have hke : k = l.length := by omega
      subst hke
      have hi : ¬ ((l.length : Int) < l.length) := by omega
      have hle := RW.out.1.length RW.out.2
      have qD := dirty_env E.out 4 rfl (by omega)
      go_wp2_with fail
      refine qD.mono ?_
      rintro e w5 ⟨rfl, j, rfl⟩
      have E5 : Hid (EnvP W (wr.drewN j) (lg q p s false :: dk p st :: [lg hq hp s false, dk hp st2, tx x q WW false, rowW (.slice va WW.length c) (ints WW)])) := ⟨E.out.drewN j⟩
      clear E qD
      generalize wr.drewN j = W5 at *
      dsimp only
      by_cases h0 : WW.length = 0
      · obtain rfl : WW = [] := List.eq_nil_of_length_eq_zero h0
        have hp0 : ((st.pend.length : Nat) : Int) = 0 := by rw [K1.out.1.pend]; rfl
        have qP := pending_env E5.out 1 rfl hp0
        have qF := fall_env E5.out 1 rfl 1 (by omega)
        go_wp2_with fail
        refine qP.mono ?_
        rintro e w6 ⟨rfl, rfl⟩
        dsimp only
        go_wp2_with fail
        refine qF.mono ?_
        rintro e w7 ⟨rfl, h7⟩
        have qC := tcommit_nil h7 4 rfl
        clear h7 qF qP E5
        dsimp only
        go_wp2_with fail
        refine qC.mono ?_
        rintro e w8 ⟨rfl, h8⟩
        have H8 : Hid (Below W.heap.size W w8) := ⟨h8.bel⟩
        have qO := off_env h8 1 rfl (b := false) K1.out.1.off
        have qP := pending_env h8 1 rfl (n := 0) hp0
        clear h8 qC
        dsimp only
        go_wp2_with fail
        refine qO.mono ?_
        rintro e w9 ⟨rfl, rfl⟩
        dsimp only
        go_wp2_with fail
        refine qP.mono ?_
        rintro e w9 ⟨rfl, rfl⟩
        dsimp only
        go_wp2
        go_ret
        exact ⟨rfl, H8.out⟩
      · have hne0 : ¬ ((WW.length : Int) = 0) := by omega
        have h1 : 1 ≤ WW.length := by omega
        have qC := tcommit_run E5.out 2 rfl K1.out.1 K1.out.2 h4 hs RW.out.1 RW.out.2 h1
        have HA : Hid (∀ (A B C : Th → Prop), Arg [A, B, C, rowW (.slice va WW.length c) (ints WW)] va (ints WW)) := ⟨fun A B C => by
          obtain ⟨⟨N0, T0⟩, h00⟩ : ∃ z, WW[0]? = some z := ⟨_, List.getElem?_eq_getElem h1⟩
          obtain ⟨g, rfl, _⟩ := E5.out.rowCell 5 rfl 0 _ h00
          exact .inr ⟨3, _, rfl, shows_all g _ _ _⟩⟩
        have qQ : Hid (∀ st' w6, EnvP W w6 (lg hq hp s false :: dk hp st2 :: [lg q p s false, dk p st', tx x q [] true, rowW (.slice va WW.length c) (ints WW)]) → Calls Try.prog 21 #[pt hq, .slice va WW.length c] w6 fun e w' => (fitsB s WW.length = true ∧ e = .returned (.int .i64 0) ∧ ∃ st3, EnvP W w' (lg hq hp s false :: dk hp st3 :: [lg q p s false, dk p st', tx x q [] true, rowW (.slice va WW.length c) (ints WW)]) ∧ OKst NN st3 n s (lay (List.replicate (n - s) (fl 0)) WW)) ∨ (fitsB s WW.length = false ∧ e = .returned (.int .i64 41) ∧ EnvP W w' (lg hq hp s false :: dk hp st2 :: [lg q p s false, dk p st', tx x q [] true, rowW (.slice va WW.length c) (ints WW)]))) := ⟨fun st' w6 h6 => by
          cases hfit : fitsB s WW.length with
          | true =>
            refine (commit8_run h6 K2.out.1 K2.out.2 h4 hs va c WW (HA.out _ _ _) h1 RW.out.1 RW.out.2 hfit rfl).mono ?_
            rintro e w' ⟨rfl, st3, h7, k7, f7⟩
            exact .inl ⟨rfl, rfl, st3, h7, k7⟩
          | false =>
            refine (commit8_full h6 K2.out.1 h4 hs va c WW (HA.out _ _ _) h1 RW.out.1 RW.out.2 hfit rfl).mono ?_
            rintro e w' ⟨rfl, h7⟩
            exact .inr ⟨rfl, rfl, h7⟩⟩
        have qS : Hid (∀ (va vb : Value) (B : List ByteArray) (Ls : List (Th → Prop)) (i j : Nat) w6, B.length ≤ 8192 → EnvP W w6 Ls → Ls[i]? = some (rowS va B) → Ls[j]? = some (rowS vb B) → Calls Try.prog 15 #[va, vb] w6 fun e w' => e = .returned (.bool true) ∧ Below W.heap.size W w') := ⟨fun va vb B Ls i j w6 hB h6 hi hj => by
          obtain ⟨a1, c1, rfl, s1⟩ := own_sin (h6.rowSAt i hi)
          obtain ⟨a2, c2, rfl, s2⟩ := own_sin (h6.rowSAt j hj)
          refine (same_texts w6 a1 a2 c1 c2 B B s1 s2 (by omega)).mono ?_
          rintro e w' ⟨rfl, m, rfl⟩
          rw [decide_eq_true rfl]
          exact ⟨rfl, (h6.drewN m).bel⟩⟩
        have HSW : Hid (∀ st' w6, EnvP W w6 (lg q p s false :: dk p st' :: [lg hq hp s false, dk hp st2, tx x q [] true, rowW (.slice va WW.length c) (ints WW)]) → EnvP W w6 (lg hq hp s false :: dk hp st2 :: [lg q p s false, dk p st', tx x q [] true, rowW (.slice va WW.length c) (ints WW)])) := ⟨fun st' w6 h6 => EnvP.swap2 (rest := [tx x q [] true, rowW (.slice va WW.length c) (ints WW)]) h6⟩
        have qA : Hid (∀ st' st3 (B : List ByteArray) w6, OKst NN st' n s B → OKst NN st3 n s B → EnvP W w6 (lg hq hp s false :: dk hp st3 :: [lg q p s false, dk p st', tx x q [] true, rowW (.slice va WW.length c) (ints WW)]) → Calls Try.prog 11 #[pt q] w6 fun e w' => ∃ v, e = .returned v ∧ Calls Try.prog 11 #[pt hq] w' fun e w2 => ∃ v2, e = .returned v2 ∧ Calls Try.prog 15 #[v, v2] w2 fun e w3 => e = .returned (.bool true) ∧ Below W.heap.size W w3) := ⟨fun st' st3 B w6 k1 k3 h6 => by
          refine (all_env (EnvP.swap2 (rest := [tx x q [] true, rowW (.slice va WW.length c) (ints WW)]) h6) k1 hs).mono ?_
          rintro e w7 ⟨v, rfl, h7⟩
          refine ⟨v, rfl, ?_⟩
          have h7' : EnvP W w7 (lg hq hp s false :: dk hp st3 :: [lg q p s false, dk p st', rowS v B, tx x q [] true, rowW (.slice va WW.length c) (ints WW)]) := by
            refine h7.remap (fun i => match i with | 0 => 3 | 1 => 4 | 2 => 0 | 3 => 1 | 4 => 2 | i + 5 => i + 5) ?_ ?_
            · intro i s hi
              match i with
              | 0 => simpa using hi
              | 1 => simpa using hi
              | 2 => simpa using hi
              | 3 => simpa using hi
              | 4 => simpa using hi
              | i + 5 => simpa using hi
            · intro i j hi hj e
              match i, j with
              | 0, 0 => rfl
              | 1, 1 => rfl
              | 2, 2 => rfl
              | 3, 3 => rfl
              | 4, 4 => rfl
              | 0, 1 => simp at e
              | 0, 2 => simp at e
              | 0, 3 => simp at e
              | 0, 4 => simp at e
              | 1, 0 => simp at e
              | 1, 2 => simp at e
              | 1, 3 => simp at e
              | 1, 4 => simp at e
              | 2, 0 => simp at e
              | 2, 1 => simp at e
              | 2, 3 => simp at e
              | 2, 4 => simp at e
              | 3, 0 => simp at e
              | 3, 1 => simp at e
              | 3, 2 => simp at e
              | 3, 4 => simp at e
              | 4, 0 => simp at e
              | 4, 1 => simp at e
              | 4, 2 => simp at e
              | 4, 3 => simp at e
              | 0, j + 5 => simp at e
              | 1, j + 5 => simp at e
              | 2, j + 5 => simp at e
              | 3, j + 5 => simp at e
              | 4, j + 5 => simp at e
              | i + 5, 0 => simp at e
              | i + 5, 1 => simp at e
              | i + 5, 2 => simp at e
              | i + 5, 3 => simp at e
              | i + 5, 4 => simp at e
              | i + 5, j + 5 => simp at e ⊢; omega
          refine (all_env h7' k3 hs).mono ?_
          rintro e w8 ⟨v2, rfl, h8⟩
          refine ⟨v2, rfl, ?_⟩
          exact qS.out v v2 B _ 5 2 w8 (by rw [k1.blen]; omega) h8 rfl rfl⟩
        clear E5
        go_wp2_with fail
        refine qC.mono ?_
        rintro e w6 (⟨hf, rfl, st', h6, k6, f6⟩ | ⟨hf, rfl, h6⟩)
        · have E6 := qQ.out st' w6 (HSW.out _ _ h6)
          have HF : Hid (fitsB s WW.length = true) := ⟨hf⟩
          have K6 : Hid (OKst NN st' n s (lay (List.replicate (n - s) (fl 0)) WW)) := ⟨k6⟩
          clear k6 f6
          clear h6 hf qC
          dsimp only
          go_wp2_with fail
          refine E6.mono ?_
          rintro e w7 (⟨hf, rfl, st3, h7, k7⟩ | ⟨hf, rfl, h7⟩)
          · have E7 := qA.out _ _ _ _ K6.out k7 h7
            clear k7
            clear h7 hf
            dsimp only
            go_wp2_with fail
            refine E7.mono ?_
            rintro e w8 ⟨v1, rfl, E8⟩
            dsimp only
            go_wp2_with fail
            refine E8.mono ?_
            rintro e w9 ⟨v2, rfl, E9⟩
            dsimp only
            go_wp2_with fail
            refine E9.mono ?_
            rintro e w10 ⟨rfl, b10⟩
            dsimp only
            go_wp2
            go_ret
            exact ⟨rfl, b10⟩
          · exact absurd (HF.out.symm.trans hf) (by decide)
        · have E6 := qQ.out st w6 (HSW.out _ _ h6)
          have HF : Hid (fitsB s WW.length = false) := ⟨hf⟩
          clear h6 hf qC
          dsimp only
          go_wp2_with fail
          refine E6.mono ?_
          rintro e w7 (⟨hf, rfl, st3, h7, k7⟩ | ⟨hf, rfl, h7⟩)
          · exact absurd (HF.out.symm.trans hf) (by decide)
          · have E7 := qA.out _ _ _ _ K1.out.1 K2.out.1 h7
            clear h7 hf
            dsimp only
            go_wp2_with fail
            refine E7.mono ?_
            rintro e w8 ⟨v1, rfl, E8⟩
            dsimp only
            go_wp2_with fail
            refine E8.mono ?_
            rintro e w9 ⟨v2, rfl, E9⟩
            dsimp only
            go_wp2_with fail
            refine E9.mono ?_
            rintro e w10 ⟨rfl, b10⟩
            dsimp only
            go_wp2
            go_ret
            exact ⟨rfl, b10⟩
theorem txnLog_walk (n z : Int) (l : Il) (a : Option Addr) (cap : Nat) (W : World) (n1 : -9223372036854775808 ≤ n) (n2 : n ≤ 9223372036854775807) (z1 : -9223372036854775808 ≤ z) (z2 : z ≤ 9223372036854775807) (hin : WAt W a l) (hl : l.length ≤ 5864062014634) : Calls Try.prog 4 #[.int .i64 n, .int .i64 z, .slice a l.length cap] W fun e W' => e = .returned (.bool true) ∧ Below W.heap.size W W' := by
  by_cases hg : good n z
  · obtain ⟨h1, h2, h3⟩ := hg
    obtain ⟨N, rfl⟩ : ∃ N : Nat, n = N := ⟨n.toNat, by omega⟩
    obtain ⟨s, rfl⟩ : ∃ s : Nat, z = s := ⟨z.toNat, by omega⟩
    exact txnLog_good N s (by omega) (by omega) (by omega) l a cap W hin hl
  · exact txnLog_bad n z l a cap W hg
end Go.Proofs.Ytlgpodcoiioefaa
