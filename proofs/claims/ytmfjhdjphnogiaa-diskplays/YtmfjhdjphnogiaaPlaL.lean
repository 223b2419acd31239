/- DiskPlays' walk: the script. -/
import Derived.Test.YtmfjhdjphnogiaaPlaW
namespace Go.Proofs.Ytmfjhdjphnogiaa
set_option linter.unusedVariables false
set_option linter.unusedSimpArgs false
open Go.RowKit
set_option maxHeartbeats 1000000 in
set_option maxRecDepth 100000 in
theorem diskPlays_good (n : Int) (M : Nat) (L : List Opx) (a : Option Addr) (cap : Nat) (w : World) (hL : OIn w a L) (hl : L.length ≤ 2199023255488) (h1 : 1 ≤ M) (h2 : M ≤ 64) (hn : n = M ∨ (64 < n ∧ n ≤ 8192 ∧ (M : Int) = 1 + n % 64)) :
    Calls Try.prog 7 #[.int .i64 n, .slice a L.length cap] w fun e w' => e = .returned (.bool true) ∧ Below w.heap.size w w' := by
  have HL : Hid (OIn w a L) := ⟨hL⟩
  have HS : Hid (1 ≤ M ∧ M ≤ 8192) := ⟨h1, by omega⟩
  clear hL
  go_enter Try.func7, Try.ntmps7
  go_wp2_with fail
  refine (head_any _).mono ?_
  rintro e w1 ⟨rfl, b1⟩
  have E1 : Hid (EnvP w w1 []) := ⟨(EnvP.nil w).below b1⟩
  clear b1
  dsimp only
  rcases hn with rfl | ⟨n1, n2, n3⟩
  case' inl =>
    have x1 : ¬ ((64 : Int) < (M : Int)) := by omega
    clear h1 h2
    go_wp2_with fail
  case' inr =>
    have HN : Hid ((M : Int) = 1 + n % 64) := ⟨n3⟩
    clear h1 h2 n3
    go_wp2_with fail
    rw [← HN.out]
  all_goals
    refine (new_env E1.out M HS.out.1 HS.out.2).mono ?_
    rintro e w2 ⟨p0, rfl, e2⟩
    have E2 : Hid (EnvP w w2 [dk p0 (fresh M)]) := ⟨e2⟩
    clear e2
    dsimp only
    go_wp2_with fail
    refine (rNew_env E2.out M HS.out.1 HS.out.2).mono ?_
    rintro e w3 ⟨q0, rfl, e3⟩
    have E3 : Hid (EnvP w w3 [dk p0 (fresh M), rk q0 (fresh M)]) := ⟨e3⟩
    clear e3 E1 E2
    dsimp only
    go_wp2
    go_loopw [5, 7, 9, 10, 11] (fun d r o u i wr => ∃ k : Nat, k ≤ L.length ∧ i = .int .i64 k ∧ ∃ p q st rest, d = pt p ∧ r = pt q ∧ st.pend.length ≤ k ∧ Hid (EnvP w wr (dk p st :: rk q st :: rest)) ∧ Hid (Old k o u rest)) (fun _ _ _ _ i _ => L.length - (intOf i).toNat)
    case atStart => exact ⟨0, Nat.zero_le _, rfl, p0, q0, fresh M, [], rfl, rfl, Nat.le_refl _, E3, ⟨.inl ⟨rfl, rfl, rfl⟩⟩⟩
    case round =>
      obtain ⟨k, hk, rfl, p, q, st, rest, rfl, rfl, hpl, E, O⟩ := hrel
      by_cases hlt : k < L.length
      · obtain ⟨o, hok⟩ : ∃ o, L[k]? = some o := ⟨_, List.getElem?_eq_getElem hlt⟩
        obtain ⟨b, off, rfl, hb, ⟨c0, c1, c2, c3, c4⟩, ok⟩ := HL.out.get k o hok
        have ok' : Hid (o.ok w) := ⟨ok⟩
        have hi : (k : Int) < L.length := by omega
        have hw1 : wrap64 ((k : Int) + 1) = ((k + 1 : Nat) : Int) := by unfold wrap64; omega
        have CS : Hid (∀ {w' : World} {Ls : List (Th → Prop)}, EnvP w w' Ls → (w'.cell? ⟨b, off + k * 5, none⟩ = some (.int .i64 o.kd) ∧ w'.cell? ⟨b, off + k * 5 + 1, none⟩ = some (.int .i64 o.n) ∧ w'.cell? ⟨b, off + k * 5 + 2, none⟩ = some (.string o.t) ∧ w'.cell? ⟨b, off + k * 5 + 3, none⟩ = some (.bool o.ev) ∧ w'.cell? ⟨b, off + k * 5 + 4, none⟩ = some (.slice o.ka o.zs.length o.kc))) :=
          ⟨fun h => ⟨(h.bel.cell (p := ⟨b, _, none⟩) hb).trans c0, (h.bel.cell (p := ⟨b, _, none⟩) hb).trans c1, (h.bel.cell (p := ⟨b, _, none⟩) hb).trans c2, (h.bel.cell (p := ⟨b, _, none⟩) hb).trans c3, (h.bel.cell (p := ⟨b, _, none⟩) hb).trans c4⟩⟩
        have HPL : Hid (st.pend.length ≤ k ∧ st.pend.length < 9000000000000 ∧ st.pend.length ≤ 9000000000000) := ⟨hpl, by omega, by omega⟩
        clear hok c0 c1 c2 c3 c4 ok hb hpl
        obtain ⟨d0, d1, d2, d3, d4⟩ := CS.out E.out
        by_cases h7 : o.kd = 7
        · rw [h7] at d0
          clear d1 d2 d3 d4
          go_wp2_with fail
          refine (copy_env E.out 0 rfl HPL.out.2.2).mono ?_
          rintro e w4 ⟨p', rfl, e4⟩
          have E4 : Hid (EnvP w w4 (dk p st :: rk q st :: rest ++ [dk p' st])) := ⟨e4⟩
          clear e4
          dsimp only
          go_wp2_with fail
          refine (rCopy_env E4.out 1 rfl HPL.out.2.2).mono ?_
          rintro e w5 ⟨q', rfl, e5⟩
          have E5 : Hid (EnvP w w5 [dk p' st, rk q' st, dk p st, rk q st]) := ⟨env_copy e5⟩
          obtain ⟨d0, d1, d2, d3, d4⟩ := CS.out E5.out
          have H7 : Hid (o.kd = 7) := ⟨h7⟩
          clear e5 E4 h7
          dsimp only
          go_wp2_with fail
          refine (plays_any E5.out o ok'.out HPL.out.2.1).mono ?_
          rintro e w6 ⟨rfl, e6⟩
          rw [next7 o st H7.out] at e6
          have E6 : Hid (EnvP w w6 [dk p' st, rk q' st, dk p st, rk q st]) := ⟨e6⟩
          clear e6 E5 d0 d1 d2 d3 d4
          dsimp only
          go_wp2_with fail
          refine (same_env E6.out 0 1 rfl rfl HPL.out.2.2).mono ?_
          rintro e w7 ⟨rfl, e7⟩
          have E7 : Hid (EnvP w w7 [dk p' st, rk q' st, dk p st, rk q st]) := ⟨e7⟩
          clear e7 E6
          dsimp only
          go_wp2
          go_roundw
          case rel => exact ⟨k + 1, by omega, by go_num, p', q', st, [dk p st, rk q st], rfl, rfl, by have := HPL.out.1; omega, E7, ⟨.inr ⟨p, q, st, rfl, rfl, rfl, by have := HPL.out.1; omega⟩⟩⟩
          case measure => simp [intOf]; omega
        · have h7' : (o.kd == 7) = false := beq_eq_false_iff_ne.2 h7
          clear h7
          go_wp2_with fail
          refine (plays_any E.out o ok'.out HPL.out.2.1).mono ?_
          rintro e w6 ⟨rfl, e6⟩
          have hnl := next_len o st
          have HN2 : Hid ((o.next st).pend.length ≤ k + 1 ∧ (o.next st).pend.length ≤ 9000000000000) := ⟨by have := HPL.out.1; omega, by have := HPL.out.1; omega⟩
          clear hnl d0 d1 d2 d3 d4
          generalize o.next st = st2 at *
          have E6 : Hid (EnvP w w6 (dk p st2 :: rk q st2 :: rest)) := ⟨e6⟩
          clear e6
          dsimp only
          go_wp2_with fail
          refine (same_env E6.out 0 1 rfl rfl HN2.out.2).mono ?_
          rintro e w7 ⟨rfl, e7⟩
          have E7 : Hid (EnvP w w7 (dk p st2 :: rk q st2 :: rest)) := ⟨e7⟩
          have O2 := O.out.mono (show k ≤ k + 1 by omega)
          have O3 : Hid (Old (k + 1) _ _ rest) := ⟨O2⟩
          clear e7 E6 O2 O
          dsimp only
          go_wp2
          go_roundw
          case rel => exact ⟨k + 1, by omega, by go_num, p, q, st2, rest, rfl, rfl, HN2.out.1, E7, O3⟩
          case measure => simp [intOf]; omega
      · have hke : k = L.length := by omega
        subst hke
        have hi : ¬ ((L.length : Int) < L.length) := by omega
        rcases O.out with ⟨rfl, rfl, _⟩ | ⟨po, qo, so, rfl, rfl, rfl, hso⟩
        · clear O
          go_wp2
          go_ret
          exact ⟨rfl, E.out.bel⟩
        · clear O
          have hso2 : so.pend.length ≤ 9000000000000 := by omega
          go_wp2_with fail
          refine (same_env E.out 2 3 rfl rfl hso2).mono ?_
          rintro e w7 ⟨rfl, e7⟩
          have E7 : Hid (EnvP w w7 [dk p st, rk q st, dk po so, rk qo so]) := ⟨e7⟩
          clear e7
          dsimp only
          go_wp2
          go_ret
          exact ⟨rfl, E7.out.bel⟩
end Go.Proofs.Ytmfjhdjphnogiaa
