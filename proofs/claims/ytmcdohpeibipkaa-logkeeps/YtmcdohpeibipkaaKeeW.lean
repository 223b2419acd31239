/- LogKeeps. -/
import Derived.Test.YtmcdohpeibipkaaKpn
namespace Go.Proofs.Ytmcdohpeibipkaa
set_option linter.unusedVariables false
set_option linter.unusedSimpArgs false
open Go.RowKit
theorem EnvP.pickA {w0 w : World} {l d r b k x : Th → Prop} (H : EnvP w0 w [l, d, r, b, k, x]) : EnvP w0 w [l, d, k, r, b, x] := by
  refine H.remap (fun i => match i with | 0 => 0 | 1 => 1 | 2 => 4 | 3 => 2 | 4 => 3 | _ => 5) ?_ ?_
  · intro i s hi
    match i with
    | 0 => exact hi
    | 1 => exact hi
    | 2 => exact hi
    | 3 => exact hi
    | 4 => exact hi
    | 5 => exact hi
    | i + 6 => simp at hi
  · intro i j hi hj e
    simp at hi hj
    rcases i with _ | _ | _ | _ | _ | _ | i <;> rcases j with _ | _ | _ | _ | _ | _ | j <;> simp at e <;> omega
theorem KS.bel {w0 w : World} {kp p r s n : Nat} (h : KS w0 w kp p r s n) : Below w0.heap.size w0 w := by
  rcases h with ⟨q, st, B, gB, cB, h, _⟩ | ⟨st, B, M, Mx, gB, cB, h, _⟩
  · exact h.bel
  · exact h.bel
theorem OIn.okAt {w : World} {a : Option Addr} {l : List Ox} (h : OIn w a l) {k : Nat} {o : Ox} (hk : l[k]? = some o) : o.ok w := by
  obtain ⟨_, _, _, _, _, h⟩ := h.get k o hk
  exact h
set_option maxHeartbeats 4000000 in
set_option maxRecDepth 100000 in
theorem logKeeps_walk (sec size : Int) (L : List Ox) (a : Option Addr) (cap : Nat) (w : World) (hc1 : -9223372036854775808 ≤ sec) (hc2 : sec ≤ 9223372036854775807) (hs1 : -9223372036854775808 ≤ size) (hs2 : size ≤ 9223372036854775807) (hL : OIn w a L) (hl : L.length ≤ 2199023255488) :
    Calls Try.prog 6 #[.int .i64 sec, .int .i64 size, .slice a L.length cap] w fun e w' => e = .returned (.bool true) ∧ Below w.heap.size w w' := by
  obtain ⟨m, hm, hmask⟩ := mask63 sec
  obtain ⟨n, hn⟩ : ∃ n : Nat, n = 6 + m := ⟨_, rfl⟩
  have hnI : 6 + (m : Int) = (n : Int) := by omega
  have hn6 : 6 ≤ n ∧ n ≤ 69 := by omega
  have HN6 : Hid (6 ≤ n ∧ n ≤ 69) := ⟨hn6⟩
  have hw4 : wrap64 (n : Int) = (n : Int) := by unfold wrap64; omega
  have HL : Hid (OIn w a L) := ⟨hL⟩
  have HLL : Hid (L.length ≤ 2199023255488) := ⟨hl⟩
  clear hn hm hL hn6 hc1 hc2
  by_cases hg : 4 ≤ size ∧ size < (n : Int)
  · obtain ⟨s, rfl⟩ : ∃ s : Nat, size = (s : Int) := ⟨size.toNat, by omega⟩
    have H4 : Hid (4 ≤ s) := ⟨by omega⟩
    have HS : Hid (s < n) := ⟨by omega⟩
    have HS2 : Hid (s ≤ 250) := ⟨by have := HN6.out; omega⟩
    clear hg hs1 hs2
    go_enter Try.func6, Try.ntmps6
    go_wp2_with fail
    refine (first_any w).mono ?_
    rintro e w1 ⟨rfl, b1⟩
    have E1 : Hid (EnvP w w1 []) := ⟨(EnvP.nil w).below b1⟩
    clear b1
    dsimp only
    go_wp2_with fail
    refine (new_env E1.out n (by have := HN6.out; omega) (by have := HN6.out; omega)).mono ?_
    rintro e w2 ⟨p, rfl, h2⟩
    have E2 : Hid (EnvP w w2 [dk p (fresh n)]) := ⟨h2⟩
    clear h2 E1
    dsimp only
    go_wp2_with fail
    refine (refNew_env E2.out n s H4.out HS.out (by have := HN6.out; omega)).mono ?_
    rintro e w3 ⟨r, v, rfl, h3⟩
    obtain ⟨gB, cB, hv⟩ : ∃ gB cB, v = rw_ gB (n - s) cB := by
      have ho := h3.rowSAt 1 rfl
      rw [List.length_replicate] at ho
      rcases ho.2 with ⟨_, h0⟩ | ⟨g, cap, cur, hv, _⟩
      · have := HS.out; omega
      · exact ⟨g, cap, hv⟩
    subst hv
    have E3 : Hid (EnvP w w3 [dk p (fresh n), rfo r s (rw_ gB (n - s) cB), rowS (rw_ gB (n - s) cB) (List.replicate (n - s) (fl 0))]) := ⟨h3.back.back.remap (fun i => i) (fun i s h => h) (fun i j _ _ h => h)⟩
    clear h3 E2
    dsimp only
    go_wp2_with fail
    refine (open_rec (s := s) E3.out rfl rfl rfl H4.out (n := n) (by simp [fresh]) HS.out (rec_fresh n s (by have := HN6.out; omega))).mono ?_
    rintro e w4 (⟨q, st1, rfl, h4, ok1, f1⟩ | ⟨st1, rfl, h4, _, f1⟩)
    rotate_left
    · exact absurd rfl f1
    have K4 : Hid (KS w (w4.alloc (.cells #[pt p, pt q, pt r, nilv] 63)) w4.heap.size p r s n) := ⟨.inl ⟨q, st1, _, gB, cB, (EnvP.nilS (h4.alloc #[pt p, pt q, pt r, nilv] 63)).pickA, ok1⟩⟩
    clear h4 ok1 f1 E3
    dsimp only
    go_wp2_with fail
    generalize w4.heap.size = kp at *
    generalize w4.alloc (.cells #[pt p, pt q, pt r, nilv] 63) = W4 at *
    go_loopw [14] (fun i wr => ∃ j : Nat, j ≤ L.length ∧ i = .int .i64 (j : Int) ∧ Hid (KS w wr kp p r s n)) (fun i _ => L.length - (intOf i).toNat)
    case atStart => exact ⟨0, Nat.zero_le _, rfl, K4⟩
    case round =>
      obtain ⟨j, hj, rfl, E⟩ := hrel
      clear K4
      by_cases hjl : j < L.length
      · obtain ⟨o, ho⟩ : ∃ o, L[j]? = some o := ⟨_, List.getElem?_eq_getElem hjl⟩
        obtain ⟨b, off, rfl, hb, ⟨c0, c1, c2, c3⟩, _⟩ := (HL.out.later E.out.bel).get j o ho
        have oko := HL.out.okAt ho
        have hw1 : wrap64 ((j : Int) + 1) = ((j + 1 : Nat) : Int) := wpt j _ hjl (by omega)
        have hji := ltk j _ hjl
        have qP := plays_any E.out H4.out HS.out HS2.out o.kd o.n oko.n2 o.la o.lc o.ls oko.ll oko.li o.ka o.kc o.zs oko.zl oko.zi oko.zc
        clear ho hb E oko
        generalize o.ls.length = l1 at *
        generalize o.zs.length = l2 at *
        go_wp2_with fail
        refine qP.mono ?_
        rintro e w5 ⟨rfl, h5⟩
        have E5 : Hid (KS w w5 kp p r s n) := ⟨h5⟩
        clear h5 qP c0 c1 c2 c3
        dsimp only
        go_wp2
        exact ⟨⟨j + 1, hjl, by go_num, E5⟩, meask j _ hjl⟩
      · have hlt : ¬ ((j : Int) < (L.length : Int)) := by omega
        have qP := plays_any E.out H4.out HS.out HS2.out 4 0 (by decide) none 0 [] (by decide) ⟨fun k p h => by simp at h⟩ none 0 [] (by decide) (IIn.nil _ _) (fun _ => rfl)
        clear E
        go_wp2_with fail
        refine qP.mono ?_
        rintro e w5 ⟨rfl, h5⟩
        have qP2 := plays_any h5 H4.out HS.out HS2.out 5 0 (by decide) none 0 [] (by decide) ⟨fun k p h => by simp at h⟩ none 0 [] (by decide) (IIn.nil _ _) (fun _ => rfl)
        clear h5 qP
        dsimp only
        go_wp2_with fail
        refine qP2.mono ?_
        rintro e w6 ⟨rfl, h6⟩
        have E6 : Hid (Below w.heap.size w w6) := ⟨h6.bel⟩
        clear h6 qP2
        dsimp only
        go_wp2
        go_ret
        exact ⟨rfl, E6.out⟩
  · have HG : Hid (¬ (4 ≤ size ∧ size < (n : Int))) := ⟨hg⟩
    clear hg
    go_enter Try.func6, Try.ntmps6
    go_wp2_with fail
    refine (first_any w).mono ?_
    rintro e w1 ⟨rfl, b1⟩
    have E1 : Hid (EnvP w w1 []) := ⟨(EnvP.nil w).below b1⟩
    clear b1
    dsimp only
    go_wp2_with fail
    refine (new_env E1.out n (by have := HN6.out; omega) (by have := HN6.out; omega)).mono ?_
    rintro e w2 ⟨p, rfl, h2⟩
    have E2 : Hid (EnvP w w2 [dk p (fresh n)]) := ⟨h2⟩
    clear h2 E1
    dsimp only
    go_wp2_with fail
    refine (refNew_bad w2 (n : Int) size HG.out).mono ?_
    rintro e w3 ⟨rfl, rfl⟩
    dsimp only
    go_wp2_with fail
    refine (open_bad E2.out rfl size (by rw [show (fresh n).safe.length = n from by simp [fresh]]; exact HG.out)).mono ?_
    rintro e w4 ⟨rfl, h4⟩
    have E4 : Hid (EnvP w w4 [dk p (fresh n)]) := ⟨h4⟩
    clear h4 E2
    dsimp only
    go_wp2_with fail
    refine (pending_env E4.out 0 rfl (n := 0) rfl).mono ?_
    rintro e w5 ⟨rfl, rfl⟩
    have E6 : Hid (Below w.heap.size w _) := ⟨E4.out.bel⟩
    clear E4
    dsimp only
    go_wp2
    go_ret
    exact ⟨rfl, E6.out⟩
end Go.Proofs.Ytmcdohpeibipkaa
