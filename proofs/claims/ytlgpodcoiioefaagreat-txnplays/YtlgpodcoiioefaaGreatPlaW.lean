/- TxnPlays: the walk. -/
import Derived.Test.YtlgpodcoiioefaaGreatGc
namespace Go.Proofs.YtlgpodcoiioefaaGreat
set_option linter.unusedVariables false
set_option linter.unusedSimpArgs false
open Go.RowKit Go.Maps
set_option maxRecDepth 100000 in
theorem txnPlays_bad (n z : Int) (v1 : Value) (W : World) (hg : ¬ good n z) : Calls Tryz.prog 3 #[.int .i64 n, .int .i64 z, v1] W fun e W' => e = .returned (.bool true) ∧ Below W.heap.size W W' := by
  have qF := first_any W
  have qM : Hid (∀ w5, Calls Tryz.prog 5 #[.int .i64 n, .int .i64 z] w5 fun e w' => e = .returned (.tuple #[.pointer none, .pointer none]) ∧ Below w5.heap.size w5 w') := ⟨fun w5 => by
    refine (made_bad (EnvP.nil w5) n z hg).mono ?_
    rintro e w' ⟨rfl, h⟩
    exact ⟨rfl, h.bel⟩⟩
  clear hg
  go_enter Tryz.func3, Tryz.ntmps3
  go_wp2_with fail
  refine qF.mono ?_
  rintro e w1 ⟨rfl, b1⟩
  dsimp only
  go_wp2_with fail
  refine (qM.out w1).mono ?_
  rintro e w2 ⟨rfl, b2⟩
  dsimp only
  go_wp2
  go_ret
  exact ⟨rfl, b1.trans (b2.mono b1.size)⟩
set_option maxHeartbeats 16000000 in
set_option maxRecDepth 100000 in
theorem txnPlays_good (n s : Nat) (h8 : n ≤ 8192) (h4 : 4 ≤ s) (hs : s < n) (l : List Sx) (a : Option Addr) (cap : Nat) (W : World) (hin : SxIn W a l) (hl : l.length ≤ 3518437208780) : Calls Tryz.prog 3 #[.int .i64 (n : Int), .int .i64 (s : Int), .slice a l.length cap] W fun e W' => e = .returned (.bool true) ∧ Below W.heap.size W W' := by
  have qF := first_any W
  have qM : Hid (∀ w5 Ls, EnvP W w5 Ls → Calls Tryz.prog 5 #[.int .i64 (n : Int), .int .i64 (s : Int)] w5 fun e w' => ∃ q p st, e = .returned (.tuple #[pt q, pt p]) ∧ EnvP W w' (lg q p s false :: dk p st :: Ls) ∧ OKst NN st n s (List.replicate (n - s) (fl 0)) ∧ st.fall = 0) := ⟨fun w5 Ls h5 => made_good h5 n s h8 h4 hs⟩
  have HI : Hid (SxIn W a l) := ⟨hin⟩
  clear hin
  go_enter Tryz.func3, Tryz.ntmps3
  go_wp2_with fail
  refine qF.mono ?_
  rintro e w1 ⟨rfl, b1⟩
  have E1 : EnvP W w1 [] := (EnvP.nil W).below b1
  have Q1 := qM.out w1 [] E1
  clear E1 b1
  dsimp only
  go_wp2_with fail
  refine Q1.mono ?_
  rintro e w2 ⟨q, p, st, rfl, h2, ok1, f1⟩
  have K1 : Hid (OKst NN st n s (List.replicate (n - s) (fl 0)) ∧ st.fall = 0) := ⟨ok1, f1⟩
  have H2 : Hid (EnvP W w2 (lg q p s false :: dk p st :: [])) := ⟨h2⟩
  have eB : ((st.safe.length : Int) - (s : Int)) = ((n - s : Nat) : Int) := by rw [ok1.len]; omega
  have qB : Hid (∀ {w'}, EnvP W w' (lg q p s false :: dk p st :: []) → Calls Tryz.prog 7 #[pt q] w' fun e w2 => e = .returned (.int .i64 ((n - s : Nat) : Int)) ∧ EnvP W w2 (lg q p s false :: dk p st :: [])) := ⟨fun h' => by
    rw [← eB]
    refine (blocks_env h' (by rw [ok1.len]; omega)).mono ?_
    rintro e w2 ⟨rfl, m, rfl⟩
    exact ⟨rfl, h'.drewN m⟩⟩
  have qN : Hid (∀ {w'}, EnvP W w' (lg q p s false :: dk p st :: []) → Calls Tryz.prog 6 #[.int .i64 ((n - s : Nat) : Int)] w' fun e w2 => ∃ b, e = .returned (pt b) ∧ EnvP W w2 (lg q p s false :: dk p st :: [rl b (List.replicate (n - s) (fl 0))])) := ⟨fun h' => rnew_env h' (n - s) (by omega)⟩
  clear h2 Q1 ok1 f1 eB qF qM
  dsimp only
  go_wp2_with fail
  refine (qB.out H2.out).mono ?_
  rintro e w3 ⟨rfl, h3⟩
  have Q3 := qN.out h3
  clear h3 H2 qB qN
  dsimp only
  go_wp2_with fail
  refine Q3.mono ?_
  rintro e w4 ⟨g, rfl, h4e⟩
  have emo : mos s = ((s : Int) - 2) / 2 := by unfold mos; omega
  have H5 : Hid (PS W (w4.alloc (.cells #[pt q, pt g, .pointer none, .pointer none, .pointer none, .pointer none, .pointer none, .pointer none, .int .i64 (((s : Int) - 2) / 2)] 37)) q p s n g w4.heap.size) := ⟨by
    have h5 := (h4e.alloc #[pt q, pt g, .pointer none, .pointer none, .pointer none, .pointer none, .pointer none, .pointer none, .int .i64 (((s : Int) - 2) / 2)] 37).nilW
    refine ⟨_, fun _ => none, fun _ => none, List.replicate (n - s) (fl 0), ⟨st, _, h5, ⟨K1.out.1, K1.out.2, h4, hs⟩, ⟨rfl, ?_, rfl, fun _ _ h => (by cases h), fun _ _ h => (by cases h), fun _ _ _ _ h => (by cases h), fun _ _ _ _ h => (by cases h), fun _ _ _ _ h => (by cases h)⟩, List.length_replicate⟩, fun _ => trivial⟩
    rw [emo]; rfl⟩
  clear Q3 h4e emo K1
  dsimp only
  go_wp2_with fail
  go_loopw [10] (fun i wr => ∃ k : Nat, k ≤ l.length ∧ i = .int .i64 (k : Int) ∧ Hid (PS W wr q p s n g w4.heap.size)) (fun i _ => l.length - (intOf i).toNat)
  case atStart => exact ⟨0, Nat.zero_le _, rfl, H5⟩
  case round =>
    obtain ⟨k, hk, rfl, E⟩ := hrel
    clear H5
    by_cases hlt : k < l.length
    · obtain ⟨P, hP⟩ : ∃ P, l[k]? = some P := ⟨_, List.getElem?_eq_getElem hlt⟩
      obtain ⟨b, off, rfl, hb, ⟨c0, c1, c2, c3⟩, ⟨_, _, z3⟩, hT⟩ := HI.out.get k _ hP
      have bw : Below W.heap.size W wr := by obtain ⟨_, _, _, _, h, _⟩ := E.out; exact h.bel
      have d0 := later_cell bw hb c0
      have d1 := later_cell bw hb c1
      have d2 := later_cell bw hb c2
      have d3 := later_cell bw hb c3
      have Q5 := plays_any E.out P.kd P.t P.n z3 P.s
      obtain ⟨pk, hpk⟩ : ∃ x, P.kd = x := ⟨_, rfl⟩
      obtain ⟨ptt, hpt⟩ : ∃ x, P.t = x := ⟨_, rfl⟩
      obtain ⟨pn, hpn⟩ : ∃ x, P.n = x := ⟨_, rfl⟩
      obtain ⟨ps, hps⟩ : ∃ x, P.s = x := ⟨_, rfl⟩
      rw [hpk] at d0 Q5; rw [hpt] at d1 Q5; rw [hpn] at d2 Q5; rw [hps] at d3 Q5
      have hki : (k : Int) < l.length := by omega
      clear c0 c1 c2 c3 bw hP z3 hT hpk hpt hpn hps E
      go_wp2_with fail
      refine Q5.mono ?_
      rintro e w6 ⟨rfl, h6⟩
      have H6 : Hid (PS W w6 q p s n g w4.heap.size) := ⟨h6⟩
      clear h6 Q5 d0 d1 d2 d3
      dsimp only
      go_wp2_with fail
      go_loopw [11] (fun i wr => ∃ j : Nat, j ≤ 3 ∧ i = .int .i64 (j : Int) ∧ Hid (PS W wr q p s n g w4.heap.size)) (fun i _ => 3 - (intOf i).toNat)
      case atStart => exact ⟨0, Nat.zero_le _, rfl, H6⟩
      case round =>
        obtain ⟨j, hj, rfl, E6⟩ := hrel
        clear H6
        by_cases hj3 : j < 3
        · obtain ⟨X, T, R, B, h, hsy⟩ := E6.out
          have HD : Hid (∀ m, PS W (wr.drewN m) q p s n g w4.heap.size) := ⟨fun m => ⟨X, T, R, B, h.drewN m, hsy⟩⟩
          have hji : (j : Int) < 3 := by omega
          have c1 := h.c1
          obtain ⟨la, lc, cg, _⟩ := h.gl
          have hsj := hsy j
          cases hz : T j with
          | none =>
            have c2 : wr.cell? ⟨w4.heap.size, 2 + j, none⟩ = some (.pointer none) := by rw [h.tv hj3, hz]; rfl
            clear h hsy hsj hz E6
            go_wp2_with fail
            go_quiet (fail)
            go_wp2
            go_roundw
            case rel => exact ⟨j + 1, by omega, by go_num, ⟨HD.out _⟩⟩
            case measure => simp [intOf]; omega
          | some z =>
            cases hy : R j with
            | none => rw [hz, hy] at hsj; exact hsj.elim
            | some y =>
              rw [hz, hy] at hsj
              have eD : (if y.o then 0 else (y.W.length : Int)) = (z.W.length : Int) := by
                obtain ⟨s1, s2⟩ := hsj
                rw [s1, s2]
                cases z.o <;> rfl
              have c2 := h.tv' hj3 hz
              have c5 := h.rv' hj3 hy
              obtain ⟨D, hD⟩ : ∃ D, z.W.length = D := ⟨_, rfl⟩
              have qD : Hid (∀ m, Calls Tryz.prog 9 #[pt z.x] (wr.drewN m) fun e w' => e = .returned (.int .i64 (D : Int)) ∧ ∃ k, w' = (wr.drewN m).drewN k) := ⟨fun m => by rw [← hD]; exact (h.drewN m).tdirty hz⟩
              have qR : Hid (∀ m, Calls Tryz.prog 10 #[pt y.x] (wr.drewN m) fun e w' => e = .returned (.int .i64 (D : Int)) ∧ ∃ k, w' = (wr.drewN m).drewN k) := ⟨fun m => by rw [← hD, ← eD]; exact (h.drewN m).rdirty hy⟩
              have qB : Hid (∀ m, Calls Tryz.prog 11 #[pt z.x] (wr.drewN m) fun e w' => e = .returned (.int .i64 (B.length : Int)) ∧ ∃ k, w' = (wr.drewN m).drewN k) := ⟨fun m => (h.drewN m).tblocks hz⟩
              clear h hsy hsj hz hy E6 eD hD
              go_wp2_with fail
              go_quiet ((first
                | (go_at_call 9; exact Calls.quiet_of (qD.out _))
                | (go_at_call 10; exact Calls.quiet_of (qR.out _))
                | (go_at_call 11; exact Calls.quiet_of (qB.out _))))
              go_wp2
              go_roundw
              case rel => exact ⟨j + 1, by omega, by go_num, ⟨HD.out _⟩⟩
              case measure => simp [intOf]; omega
        · have hj4 : j = 3 := by omega
          subst hj4
          go_wp2
          go_roundw
          case rel => exact ⟨k + 1, by omega, by go_num, E6⟩
          case measure => simp [intOf]; omega
    · have hke : k = l.length := by omega
      subst hke
      obtain ⟨X, T, R, B, h, hsy⟩ := E.out
      have hBn : B.length ≤ 8192 := by
        have := h.nle
        obtain ⟨_, _, _, _, _, l⟩ := h
        omega
      have H7 : Hid (PG X W wr q p s n g w4.heap.size (mos s) T R B B) := ⟨h⟩
      clear h hsy E HI
      go_wp2_with fail
      go_loopw [12] (fun i wr => ∃ j : Nat, j ≤ B.length ∧ i = .int .i64 (j : Int) ∧ Hid (PG X W wr q p s n g w4.heap.size (mos s) T R B B)) (fun i _ => B.length - (intOf i).toNat)
      case atStart => exact ⟨0, Nat.zero_le _, rfl, H7⟩
      case round =>
        obtain ⟨j, hj, rfl, E6⟩ := hrel
        clear H7
        obtain ⟨la, lc, cg, si⟩ := E6.out.gl
        have c1 := E6.out.c1
        by_cases hjl : j < B.length
        · obtain ⟨V, hV⟩ : ∃ V, B[j]? = some V := ⟨_, List.getElem?_eq_getElem hjl⟩
          have hji : (j : Int) < B.length := by omega
          have QL := E6.out.lread (j : Int)
          have eL : lrV B (j : Int) = .tuple #[.string V, .int .i64 0] := by
            unfold lrV
            rw [if_pos ⟨by omega, hji⟩, Int.toNat_natCast, List.getD_eq_getElem?_getD, hV]; rfl
          rw [eL] at QL
          have HV : Hid (B[j]? = some V) := ⟨hV⟩
          clear si eL hV E6
          go_wp2_with fail
          refine QL.mono ?_
          rintro e w8 ⟨rfl, h8⟩
          obtain ⟨la8, lc8, cg8, si8⟩ := h8.gl
          obtain ⟨gb, off, rfl, cv⟩ := si8 j V HV.out
          have c18 := h8.c1
          have HD : Hid (∀ m, PG X W (w8.drewN m) q p s n g w4.heap.size (mos s) T R B B) := ⟨fun m => h8.drewN m⟩
          clear QL h8 cg c1 si8 HV
          dsimp only
          go_wp2
          go_roundw
          case rel => exact ⟨j + 1, by omega, by go_num, ⟨HD.out 0⟩⟩
          case measure => simp [intOf]; omega
        · have hje : j = B.length := by omega
          subst hje
          have b9 : Below W.heap.size W wr := E6.out.bel
          have HB : Hid (Below W.heap.size W wr) := ⟨b9⟩
          have hji : ¬ ((B.length : Int) < B.length) := by omega
          clear b9 E6 si
          go_wp2
          go_ret
          exact ⟨rfl, HB.out⟩
theorem txnPlays_walk (n z : Int) (l : List Sx) (a : Option Addr) (cap : Nat) (W : World) (n1 : -9223372036854775808 ≤ n) (n2 : n ≤ 9223372036854775807) (z1 : -9223372036854775808 ≤ z) (z2 : z ≤ 9223372036854775807) (hin : SxIn W a l) (hl : l.length ≤ 3518437208780) : Calls Tryz.prog 3 #[.int .i64 n, .int .i64 z, .slice a l.length cap] W fun e W' => e = .returned (.bool true) ∧ Below W.heap.size W W' := by
  by_cases hg : good n z
  · obtain ⟨h1, h2, h3⟩ := hg
    obtain ⟨N, rfl⟩ : ∃ N : Nat, n = N := ⟨n.toNat, by omega⟩
    obtain ⟨s, rfl⟩ : ∃ s : Nat, z = s := ⟨z.toNat, by omega⟩
    exact txnPlays_good N s (by omega) (by omega) (by omega) l a cap W hin hl
  · exact txnPlays_bad n z _ W hg
end Go.Proofs.YtlgpodcoiioefaaGreat
