/- LogRoom's walk. -/
import Derived.Test.YtmcdohpeibipkaaRoo
namespace Go.Proofs.Ytmcdohpeibipkaa
set_option linter.unusedVariables false
set_option linter.unusedSimpArgs false
open Go.RowKit
theorem wr64 (x : Int) (h1 : -9223372036854775808 ≤ x) (h2 : x ≤ 9223372036854775807) : IntKind.i64.wrap x = x := by rw [IntKind.wrap_i64]; omega
theorem wp64 (k : Nat) (h : k ≤ 1000000) : wrap64 ((k : Int) + 1) = ((k + 1 : Nat) : Int) := by unfold wrap64; omega
theorem tm64 (k m s : Nat) (h : k + 3 * m < 65) (hs : s ≤ 35) : ((k : Int) + 3 * (m : Int)).tmod (100 - (s : Int)) = (k : Int) + 3 * (m : Int) := by rw [Int.tmod_eq_emod_of_nonneg (by omega), Int.emod_eq_of_lt (by omega) (by omega)]
theorem km65 (k m s : Nat) (h1 : k < 12) (h2 : m < (s - 2) / 2) (h3 : s ≤ 35) : k + 3 * m < 65 := by omega
theorem b3 (m : Nat) (h : m ≤ 16) : IntKind.i64.wrap (3 * (m : Int)) = 3 * (m : Int) := wr64 _ (by omega) (by omega)
theorem b4 (k m : Nat) (h : k + 3 * m < 65) : IntKind.i64.wrap ((k : Int) + 3 * (m : Int)) = (k : Int) + 3 * (m : Int) := wr64 _ (by omega) (by omega)
theorem b5 (s : Nat) (h : s ≤ 35) : IntKind.i64.wrap (100 - (s : Int)) = 100 - (s : Int) ∧ ¬ (100 - (s : Int) = 0) := ⟨wr64 _ (by omega) (by omega), by omega⟩
theorem b6 (m s : Nat) (h : m < (s - 2) / 2) : (m : Int) < ((s : Int) - 2) / 2 := by omega
theorem b7 (m s : Nat) (h : m = (s - 2) / 2) (h4 : 4 ≤ s) : ¬ ((m : Int) < ((s : Int) - 2) / 2) := by omega
theorem b8 (n s : Nat) (h : n < s + 1) : (n : Int) ≤ (s : Int) := by omega
theorem b9 (n s : Nat) (h : n < s + 1) (hs : s ≤ 35) : n ≤ 40 := by omega
theorem b10 (s : Nat) : ¬ (((s + 1 : Nat) : Int) ≤ (s : Int)) := by omega
theorem b11 (s : Nat) (hs : s ≤ 35) : s < 100 := by omega
theorem b12 (s : Nat) (hs : s ≤ 35) : s ≤ 250 := by omega
theorem b13 (s : Nat) (hs : s ≤ 35) : s + 1 ≤ 20000000000000 := by omega
theorem b14 (s : Nat) (hs : s ≤ 35) : s + 1 ≤ 100 - s := by omega
theorem b15 (s : Nat) : ¬ (1 + (s + 1) < s) := by omega
theorem b16 (s : Nat) : 100 - s ≤ 1000000 := by omega
theorem b17 (k n : Nat) (h : ¬ (k < n ∧ k < 12)) : ¬ ((k : Int) < n ∧ (k : Int) < 12) := by omega
theorem meas1 (m n : Nat) (h : m < n) : n - (intOf (.int .i64 ((m : Int) + 1))).toNat < n - (intOf (.int .i64 (m : Int))).toNat := by simp [intOf]; omega
structure RF (k : Nat) (T : ByteArray) (m s : Nat) : Prop where
  a : m ≤ 1000
  nd : ((rl k T m).map Prod.fst).Nodup
  sn : s < 100
  s2 : s ≤ 250
  rt : rightB (100 - s) (rl k T m) = true
  ne : rl k T m ≠ []
  fit : 1 + m < s
theorem rl_facts (k : Nat) (T : ByteArray) (m s : Nat) (hT : T.size = 512) (hk : k < 12) (hm : m = (s - 2) / 2) (h4 : 4 ≤ s) (h35 : s ≤ 35) : (rl k T m).length = m ∧ RF k T m s :=
  ⟨rl_length k T m, ⟨by omega, rl_nodup k T m, by omega, by omega, rl_right k T m _ hT (by omega), fun e => by have := congrArg List.length e; rw [rl_length] at this; simp at this; omega, by omega⟩⟩
theorem cast3 (k m : Nat) : ((k + 3 * m : Nat) : Int) = (k : Int) + 3 * (m : Int) := by omega
set_option maxHeartbeats 4000000 in
set_option maxRecDepth 100000 in
theorem logRoom_walk (size : Int) (L : List ByteArray) (a : Option Addr) (cap : Nat) (w : World) (hs1 : -9223372036854775808 ≤ size) (hs2 : size ≤ 9223372036854775807) (hL : TIn w a L) (hl : L.length ≤ 8796093021952) :
    Calls Try.prog 4 #[.int .i64 size, .slice a L.length cap] w fun e w' => e = .returned (.bool true) ∧ Below w.heap.size w w' := by
  obtain ⟨m, hm, hmask⟩ := mask31 size
  have QM : Hid (∀ w, Calls Try.prog 11 #[.string ⟨#[109, 97, 110, 121]⟩] w fun e w' => e = .returned (.string (bk ⟨#[109, 97, 110, 121]⟩)) ∧ Below w.heap.size w w') := ⟨block_any ⟨#[109, 97, 110, 121]⟩ (by decide)⟩
  have hM : Hid ((bk ⟨#[109, 97, 110, 121]⟩).size = 512) := ⟨bk_size _⟩
  generalize bk ⟨#[109, 97, 110, 121]⟩ = M at *
  obtain ⟨s, hs⟩ : ∃ s : Nat, s = 4 + m := ⟨_, rfl⟩
  have hsI : 4 + (m : Int) = (s : Int) := by omega
  have h4 : 4 ≤ s ∧ s ≤ 35 := by omega
  have h4a := h4.1
  have h4b := h4.2
  have hw4 : wrap64 (s : Int) = (s : Int) := by unfold wrap64; omega
  have HL : Hid (TIn w a L) := ⟨hL⟩
  clear hs hm hL
  go_enter Try.func4, Try.ntmps4
  go_wp2_with fail
  refine (first_any w).mono ?_
  rintro e w1 ⟨rfl, b1⟩
  have E1 : Hid (EnvP w w1 []) := ⟨(EnvP.nil w).below b1⟩
  clear b1
  dsimp only
  go_wp2_with fail
  refine (new_env E1.out 100 (by decide) (by decide)).mono ?_
  rintro e w2 ⟨p, rfl, h2⟩
  have E2 : Hid (EnvP w w2 [dk p (fresh 100)]) := ⟨h2⟩
  clear h2 E1
  dsimp only
  go_wp2_with fail
  refine (open_rec (s := s) E2.out rfl rfl rfl h4a (n := 100) (by simp [fresh]) (by omega) (rec_fresh 100 s (by decide))).mono ?_
  rintro e w3 (⟨l, st1, rfl, h3, ok1, f1⟩ | ⟨st1, rfl, h3, _, f1⟩)
  rotate_left
  · exact absurd rfl f1
  have F1 : Hid (st1.fall = 0) := ⟨f1 rfl⟩
  have E3 : Hid (EnvP w w3 [lg l p s false, dk p st1]) := ⟨h3⟩
  have OK1 : Hid (OKst NN st1 100 s (List.replicate (100 - s) (fl 0))) := ⟨ok1⟩
  have hl8 : (st1.safe.length : Int) - (s : Int) = 100 - (s : Int) := by rw [ok1.len]; rfl
  clear h3 ok1 f1 E2
  dsimp only
  go_wp2_with fail
  refine (blocks_env E3.out (by rw [OK1.out.len]; omega)).mono ?_
  rintro e w4 ⟨rfl, k4, rfl⟩
  rw [hl8]
  have E4 : Hid (EnvP w (w3.drewN k4) [lg l p s false, dk p st1]) := ⟨E3.out.drewN k4⟩
  have hw5 : wrap64 (100 - (s : Int)) = 100 - (s : Int) := by unfold wrap64; omega
  clear E3 hl8
  dsimp only
  go_wp2_with fail
  have H5 : Hid (wrap64 (100 - (s : Int)) = 100 - (s : Int)) := ⟨hw5⟩
  clear hw5 hw4 hsI hmask h4
  go_loopw [7, 8] (fun v i wr => ∃ (k q : Nat) (st : St) (B : List ByteArray), k ≤ 12 ∧ k ≤ L.length ∧ v = pt q ∧ i = .int .i64 (k : Int) ∧ Hid (EnvP w wr [lg q p s false, dk p st]) ∧ Hid (OKst NN st 100 s B) ∧ Hid (st.fall = 0)) (fun _ i _ => 12 - (intOf i).toNat)
  case atStart => exact ⟨0, l, st1, _, by omega, Nat.zero_le _, rfl, rfl, E4, OK1, F1⟩
  case round =>
    obtain ⟨k, q, st, B, hk1, hk2, rfl, rfl, E, OK, F⟩ := hrel
    clear E4 OK1 F1
    by_cases hlt : k < L.length ∧ k < 12
    · obtain ⟨hlt1, hlt2⟩ := hlt
      obtain ⟨t, ht⟩ : ∃ t, L[k]? = some t := ⟨_, List.getElem?_eq_getElem hlt1⟩
      obtain ⟨b, off, rfl, hb, hc, hts⟩ := HL.out.get k t ht
      have hi : (k : Int) < L.length := by omega
      have hi2 : (k : Int) < 12 := by omega
      have H1 : Hid (wrap64 ((k : Int) + 1) = ((k + 1 : Nat) : Int)) := ⟨by unfold wrap64; omega⟩
      have QT : Hid (∀ w, Calls Try.prog 11 #[.string t] w fun e w' => e = .returned (.string (bk t)) ∧ Below w.heap.size w w') := ⟨block_any t (by omega)⟩
      have hT : Hid ((bk t).size = 512) := ⟨bk_size t⟩
      have HC : Hid (∀ w5 Ls, EnvP w w5 Ls → w5.cell? ⟨b, off + k, none⟩ = some (.string t)) := ⟨fun w5 Ls h5 => (h5.bel.cell (p := ⟨b, off + k, none⟩) hb).trans hc⟩
      generalize bk t = T at *
      have E0 : Hid (EnvP w wr [lg q p s false, dk p st, rowW (.slice none 0 0) (rl k T 0)]) := ⟨E.out.nilW⟩
      clear ht hc hts E
      go_wp2_with fail
      go_loopw [9, 10] (fun v j wr => ∃ m : Nat, m ≤ (s - 2) / 2 ∧ j = .int .i64 (m : Int) ∧ Hid (EnvP w wr [lg q p s false, dk p st, rowW v (rl k T m)])) (fun _ j _ => (s - 2) / 2 - (intOf j).toNat)
      case atStart => exact ⟨0, Nat.zero_le _, rfl, E0⟩
      case round =>
        obtain ⟨m, hm, rfl, E⟩ := hrel
        clear E0
        by_cases hml : m < (s - 2) / 2
        · have hmi : (m : Int) < ((s : Int) - 2) / 2 := by omega
          have hm16 : m ≤ 16 := by omega
          have hkm : k + 3 * m < 65 := km65 k m s hlt2 hml h4b
          have hwm := wp64 m (Nat.le_trans hm16 (by decide))
          have k1 := b3 m hm16
          have k2 := b4 k m hkm
          have k3 := (b5 s h4b).1
          have k4 := tm64 k m s hkm h4b
          have k5 := (b5 s h4b).2
          have HRL : Hid (rl k T (m + 1) = rl k T m ++ [((k : Int) + 3 * (m : Int), T)]) := ⟨by rw [rl_succ, cast3]⟩
          have HLN : Hid ((rl k T m).length = m) := ⟨rl_length k T m⟩
          go_wp2_with fail
          have E7 := E.out.drew
          have c7 := HC.out _ _ E7
          clear E
          go_region_held3 (fun w' => w'.cell? ⟨b, off + k, none⟩ = some (.string t)) (first | exact c7 | exact HC.out _ _ E8 | exact HC.out _ _ E9 | exact HC.out _ _ (E8.drop _) | assumption)
            ((first
              | (go_at_call 11; refine (QT.out _).mono ?_; rintro e w8 ⟨rfl, b8⟩; have E8 := E7.below b8)
              | (refine step_wi (g := w8.heap.size) (l := rl k T m) HLN.out rfl rfl (E8.rowWAt 2 rfl) (by rw [HLN.out]; exact Nat.lt_of_le_of_lt hm16 (by decide)) rfl _ _ rfl rfl rfl ?_; intro y c w9 q9 g9 n9; have E9 := E8.appW 2 rfl (v' := rw_ y (m + 1) c) (l' := rl k T (m + 1)) (by rw [HRL.out, List.length_append, HLN.out]; exact q9) g9 (fun j hj => by cases hj; exact n9))))
          have E10 : Hid (EnvP w w9 [lg q p s false, dk p st, rowW (rw_ y (m + 1) c) (rl k T (m + 1))]) := ⟨E9⟩
          clear E9 E8 E7 q9 g9 n9 b8 k1 k2 k3 k4 k5 hkm hmi hm16
          go_wp2
          exact ⟨⟨m + 1, hml, by go_num, E10⟩, meas1 m _ hml⟩
        · have hme : m = (s - 2) / 2 := Nat.le_antisymm hm (Nat.le_of_not_lt hml)
          have hmi : ¬ ((m : Int) < ((s : Int) - 2) / 2) := b7 m s hme h4a
          have hc := rl_facts k T m s hT.out hlt2 hme h4a h4b
          clear hme hm hml
          obtain ⟨va, vc, hv⟩ := own_slice (E.out.rowWAt 2 rfl)
          rw [hc.1] at hv
          have HV : Hid (u9 = .slice va m vc) := ⟨hv⟩
          have RF : Hid (RF k T m s) := ⟨hc.2⟩
          have HLm : Hid ((rl k T m).length = m) := ⟨hc.1⟩
          subst hv
          clear hc HV
          go_wp2_with fail
          refine (distinct_any _ va vc (rl k T m) (shows_v va vc (by rw [HLm.out]) _ (E.out.rowWAt 2 rfl)) (by rw [HLm.out]; exact RF.out.a) RF.out.nd HLm.out.symm).mono ?_
          rintro e w5 ⟨rfl, j5, rfl⟩
          have E5 : Hid (EnvP w (wr.drewN j5) [lg q p s false, dk p st, rowW (.slice va m vc) (rl k T m)]) := ⟨E.out.drewN j5⟩
          clear E
          dsimp only
          go_wp2_with fail
          refine (commit_env E5.out OK.out h4a RF.out.sn RF.out.s2 va vc (rl k T m) HLm.out.symm (Arg.row [] _ _ va vc (by rw [HLm.out])) (by rw [HLm.out]; exact Nat.le_trans RF.out.a (by decide))).mono ?_
          intro e w6 hh
          obtain ⟨st2, rfl, h6, ok2, f2⟩ : ∃ st2, e = .returned (.int .i64 0) ∧ EnvP w w6 [lg q p s false, dk p st2, rowW (.slice va m vc) (rl k T m)] ∧ OKst NN st2 100 s (lay B (natL (rl k T m))) ∧ st2.fall = 0 := by
            rcases hh with ⟨h, _⟩ | ⟨_, h, _⟩ | ⟨_, h, _⟩ | ⟨_, _, _, _, st2, e1, e2, e3, e4⟩ | ⟨_, _, _, h, _⟩
            · rw [RF.out.rt] at h; cases h
            · exact absurd h RF.out.ne
            · rw [HLm.out] at h; exact absurd h (Nat.not_le_of_lt RF.out.fit)
            · exact ⟨st2, e1, e2, e3, e4 F.out⟩
            · rw [F.out] at h; cases h
          have OK2 : Hid (OKst NN st2 100 s (lay B (natL (rl k T m)))) := ⟨ok2⟩
          have F2 : Hid (st2.fall = 0) := ⟨f2⟩
          have E6 : Hid (EnvP w w6 [lg q p s false, dk p st2, rowW (.slice none 0 0) (ml M 0)]) := ⟨EnvP.nilW (Ls := [lg q p s false, dk p st2]) (EnvP.init (Ls := [lg q p s false, dk p st2]) h6)⟩
          clear hh h6 ok2 f2 E5 OK F RF HLm
          generalize lay B (natL (rl k T m)) = B2 at *
          dsimp only
          go_wp2_with fail
          go_loopw [11, 12] (fun v j wr => ∃ m : Nat, m ≤ s + 1 ∧ j = .int .i64 (m : Int) ∧ Hid (EnvP w wr [lg q p s false, dk p st2, rowW v (ml M m)])) (fun _ j _ => s + 1 - (intOf j).toNat)
          case atStart => exact ⟨0, Nat.zero_le _, rfl, E6⟩
          case round =>
            obtain ⟨n, hn, rfl, E⟩ := hrel
            clear E6
            by_cases hnl : n < s + 1
            · have hni : (n : Int) ≤ (s : Int) := b8 n s hnl
              have hn40 : n ≤ 40 := b9 n s hnl h4b
              have hwn := wp64 n (Nat.le_trans hn40 (by decide))
              have HMS : Hid (ml M (n + 1) = ml M n ++ [((n : Int), M)]) := ⟨ml_succ M n⟩
              have HMN : Hid ((ml M n).length = n) := ⟨ml_length M n⟩
              go_wp2_with fail
              refine (QM.out _).mono ?_
              rintro e w7 ⟨rfl, b7⟩
              have E7 : Hid (EnvP w w7 [lg q p s false, dk p st2, rowW u11 (ml M n)]) := ⟨E.out.below b7⟩
              clear b7 E
              dsimp only
              go_wp2_with (at_builtin; refine app_wi (g := w7.heap.size) (l := ml M n) (m := n) HMN.out rfl rfl (E7.out.rowWAt 2 rfl) (by rw [HMN.out]; exact Nat.lt_of_le_of_lt hn40 (by decide)) rfl _ _ rfl rfl rfl ?_; intro y c w8 q8 g8 n8)
              have E8 : Hid (EnvP w w8 [lg q p s false, dk p st2, rowW (rw_ y (n + 1) c) (ml M (n + 1))]) := ⟨E7.out.appW 2 rfl (v' := rw_ y (n + 1) c) (l' := ml M (n + 1)) (by rw [HMS.out, List.length_append, HMN.out]; exact q8) g8 (fun j hj => by cases hj; exact n8)⟩
              exact ⟨⟨n + 1, hnl, by go_num, E8⟩, meas1 n _ hnl⟩
            · have hne : n = s + 1 := Nat.le_antisymm hn (Nat.le_of_not_lt hnl)
              subst hne
              have hni : ¬ (((s + 1 : Nat) : Int) ≤ (s : Int)) := b10 s
              clear hnl hn
              have hw5 := H5.out
              go_wp2_with fail
              refine (all_env E.out OK2.out (b11 s h4b) (m := 100 - (s : Int)) rfl).mono ?_
              rintro e w7 ⟨v1, rfl, h7⟩
              have E7 : Hid (EnvP w w7 [lg q p s false, dk p st2, rowS v1 B2, rowW u11 (ml M (s + 1))]) := ⟨h7⟩
              obtain ⟨ma, mc, hmv⟩ := own_slice (E7.out.rowWAt 3 rfl)
              rw [ml_length] at hmv
              subst hmv
              clear h7 E
              dsimp only
              go_wp2_with fail
              refine (commit_env E7.out OK2.out h4a (b11 s h4b) (b12 s h4b) ma mc (ml M (s + 1)) (ml_length M (s + 1)).symm (Arg.cons (Arg.row [] _ _ ma mc (by rw [ml_length]))) (by rw [ml_length]; exact b13 s h4b)).mono ?_
              intro e w8 hh
              obtain ⟨rfl, h8⟩ : e = .returned (.int .i64 41) ∧ EnvP w w8 [lg q p s false, dk p st2, rowS v1 B2, rowW (.slice ma (s + 1) mc) (ml M (s + 1))] := by
                rcases hh with ⟨h, _⟩ | ⟨_, h, _⟩ | ⟨_, _, h1, h2⟩ | ⟨_, _, h, _⟩ | ⟨_, _, h, _⟩
                · rw [ml_right M (s + 1) (100 - s) hM.out (b14 s h4b)] at h; cases h
                · have := congrArg List.length h; rw [ml_length] at this; cases this
                · exact ⟨h1, h2⟩
                · rw [ml_length] at h; exact absurd h (b15 s)
                · rw [ml_length] at h; exact absurd h (b15 s)
              have E8 : Hid (EnvP w w8 [lg q p s false, dk p st2, rowS v1 B2, rowW (.slice ma (s + 1) mc) (ml M (s + 1))]) := ⟨h8⟩
              clear hh h8 E7
              dsimp only
              go_wp2_with fail
              refine (all_env E8.out OK2.out (b11 s h4b) (m := 100 - (s : Int)) rfl).mono ?_
              rintro e w9 ⟨v2, rfl, h9⟩
              have E9 : Hid (EnvP w w9 [lg q p s false, dk p st2, rowS v2 B2, rowS v1 B2, rowW (.slice ma (s + 1) mc) (ml M (s + 1))]) := ⟨h9⟩
              obtain ⟨a1, c1, e1, i1⟩ := own_sin (E9.out.rowSAt 3 rfl)
              obtain ⟨a2, c2, e2, i2⟩ := own_sin (E9.out.rowSAt 2 rfl)
              have hB2 : B2.length ≤ 1000000 := by rw [OK2.out.blen]; exact b16 s
              have qS := same_texts w9 a1 a2 c1 c2 B2 B2 i1 i2 hB2
              rw [decide_eq_true rfl] at qS
              have QS : Hid (Calls Try.prog 22 #[v1, v2] w9 fun e w' => e = .returned (.bool true) ∧ ∃ m, w' = w9.drewN m) := ⟨by rw [e1, e2]; exact qS⟩
              clear h9 E8 e1 e2 i1 i2 qS hB2 hw5
              dsimp only
              go_wp2_with fail
              refine QS.out.mono ?_
              rintro e w10 ⟨rfl, j10, rfl⟩
              have E10 : Hid (EnvP w (w9.drewN j10) [lg q p s false, dk p st2]) := ⟨(E9.out.del3.del3.del3).drewN j10⟩
              have ha1 := and1 k
              have hw1 := H1.out
              clear E9 QS
              dsimp only
              by_cases hpar : k % 2 = 1
              · rw [hpar] at ha1
                go_wp2_with fail
                refine (open_rec (s := s) (EnvP.tail E10.out) OK2.out.off OK2.out.opn OK2.out.pend h4a OK2.out.len (b11 s h4b) OK2.out.recl).mono ?_
                rintro e w11 (⟨l2, st3, rfl, h11, ok3, f3⟩ | ⟨st3, rfl, h11, _, f3⟩)
                rotate_left
                · exact absurd F2.out f3
                have E11 : Hid (EnvP w w11 [lg l2 p s false, dk p st3]) := ⟨h11⟩
                have OK3 : Hid (OKst NN st3 100 s B2) := ⟨ok3⟩
                have F3 : Hid (st3.fall = 0) := ⟨f3 F2.out⟩
                clear h11 ok3 f3 E10
                dsimp only
                go_wp2
                exact ⟨⟨k + 1, l2, st3, B2, hlt2, hlt1, rfl, by go_num, E11, OK3, F3⟩, meas1 k _ hlt2⟩
              · have hp0 : k % 2 = 0 := (Nat.mod_two_eq_zero_or_one k).resolve_right hpar
                rw [hp0] at ha1
                go_wp2
                exact ⟨⟨k + 1, q, st2, B2, hlt2, hlt1, rfl, by go_num, E10, OK2, F2⟩, meas1 k _ hlt2⟩
    · have hi : ¬ ((k : Int) < L.length ∧ (k : Int) < 12) := b17 k L.length hlt
      by_cases hi1 : (k : Int) < L.length
      · have hi2 : ¬ ((k : Int) < 12) := fun h => hi ⟨hi1, h⟩
        go_wp2
        go_ret
        exact ⟨rfl, E.out.bel⟩
      · go_wp2
        go_ret
        exact ⟨rfl, E.out.bel⟩
end Go.Proofs.Ytmcdohpeibipkaa
