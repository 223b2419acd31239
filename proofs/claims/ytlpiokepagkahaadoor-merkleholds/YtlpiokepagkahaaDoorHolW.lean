/- MerkleHolds: the walk. -/
import Derived.Test.YtlpiokepagkahaaDoorHol
namespace Go.Proofs.YtlpiokepagkahaaDoor
set_option linter.unusedVariables false
set_option linter.unusedSimpArgs false
open Go.RowKit
namespace merkleHolds
attribute [local go_sem ↓] Go.wp_at_zero Go.wp_at_succ
attribute [local go_sem ↓] ld23 st23 sl22 sl25 bs25
attribute [local go_sem] eqH run_bs
abbrev FirstOK : Prop := ∀ w, KIn w → Calls Tryd.prog 11 #[] w fun e w' => e = .returned (.bool true) ∧ Below w.heap.size w w'
set_option maxHeartbeats 1000000 in
set_option maxRecDepth 8000 in
theorem walk (hF : FirstOK) (a : Option Addr) (n0 cap : Nat) (g : Hs) (t : Nat → ByteArray) (w : World) (hT0 : TextsIn w a n0 t) (hz0 : ∀ k, k < n0 → (t k).size ≤ 140737488351232) (hc : n0 ≤ cap) (hK : KIn w) :
    Calls Tryd.prog 3 #[.slice a n0 cap, .agg (hv g).toArray] w fun e w' => e = .returned (.bool true) ∧ Below w.heap.size w w' := by
  have u23 := Tryd.underlying23
  obtain ⟨n, hn⟩ : ∃ n, n = if 300 < n0 then 300 else n0 := ⟨_, rfl⟩
  have hn300 : n ≤ 300 := by rw [hn]; split <;> omega
  have hT : TextsIn w a n t := hT0.first n (by rw [hn]; split <;> omega)
  have hz : ∀ k, k < n → (t k).size < 1152921504606845000 := fun k hk => by
    have := hz0 k (by rw [hn] at hk; split at hk <;> omega); omega
  have Hn : Hid (n = if 300 < n0 then 300 else n0) := hn
  clear hn
  have ba : Below w.heap.size w (w.alloc (.cells (hv g).toArray 23)) := (Below.refl _ _).alloc (Nat.le_refl _) _
  have qm : (w.alloc (.cells (hv g).toArray 23)).rangeAt w.heap.size 0 (hv g) := range_of_row (heap_alloc_new _ _)
  go_enter Tryd.func3, Tryd.ntmps3
  go_upto_if 16 with fail
  go_cut [0] (fun v wx => v = .slice a n cap ∧ wx = w.alloc (.cells (hv g).toArray 23))
  case first =>
    by_cases h3 : 300 < n0
    · have hd : decide ((300 : Int) < (n0 : Int)) = true := by simp; omega
      obtain ⟨b, off, rfl, _, _⟩ := hT0.at (by omega)
      have s1 : ∀ w, (slT (.slice (some ⟨b, off, none⟩) n0 cap) none (some (.int .i64 300)) none).run Tryd.prog w = .ok (.slice (some ⟨b, off, none⟩) 300 cap) w := fun w => slice_to b off n0 cap 300 (by omega) w
      go_wp2_with fail
      go_meet
      exact ⟨by rw [Hn.out, if_pos h3], rfl⟩
    · have hd : decide ((300 : Int) < (n0 : Int)) = false := by simp; omega
      go_wp2_with fail
      go_meet
      exact ⟨by rw [Hn.out, if_neg h3], rfl⟩
  case rest =>
    obtain ⟨rfl, rfl⟩ := hcut
    go_wp2_with fail
    refine (root_in cap (hK.seq ba) (hT.next ba) hz (by omega)).mono ?_
    rintro e w2 ⟨rfl, b2⟩
    obtain ⟨R, hR⟩ : ∃ R, R = rootOf n t := ⟨_, rfl⟩
    rw [← hR]
    have HR : Hid (R = rootOf n t) := hR
    clear hR
    have tn := there_new w2 23
    have hst := store_hv tn R
    have qm2 := rangeNext qm b2
    have b02 := below_seq ba b2
    obtain ⟨W, hW, S0⟩ : ∃ W, W = (w2.alloc (.cells zero32 23)).setCells w2.heap.size 0 (hv R) ∧ HB w w2.heap.size w.heap.size R g W :=
      ⟨_, rfl, by
        have bA : Below w2.heap.size w2 ((w2.alloc (.cells zero32 23)).setCells w2.heap.size 0 (hv R)) := below_setCells (Nat.le_refl _) _ _ ((Below.refl _ _).alloc (Nat.le_refl _) _)
        exact ⟨hK.seq (below_seq b02 bA), below_seq b02 bA, range_new tn R, rangeNext qm2 bA⟩⟩
    go_wp2_with fail
    rw [← hW]
    clear hW hst tn qm2 b02 b2 qm ba
    generalize w2.heap.size = Rb at *
    obtain ⟨Mb, hMb⟩ : ∃ Mb, Mb = w.heap.size := ⟨_, rfl⟩
    rw [← hMb] at S0 ⊢
    have HMb : Hid (Mb = w.heap.size) := hMb
    clear hMb
    have i23 := infoH R
    go_loopw [6] (fun v wr => ∃ i : Nat, i ≤ n ∧ v = .int .i64 i ∧ HB w Rb Mb R g wr) (fun v _ => n - (intOf v).toNat)
    case atStart => exact ⟨0, by omega, rfl, S0⟩
    case round =>
      clear S0
      obtain ⟨i, hin, rfl, S⟩ := hrel
      by_cases hi : i < n
      · have hd : decide ((i : Int) < (n : Int)) = true := by simp; omega
        obtain ⟨b, off, rfl, hTA, hb⟩ := hT.at (by omega)
        have j0 : (0 : Int) ≤ (i : Int) := by omega
        have j1 : (i : Int) < (n : Int) := by omega
        have cT : Hid (∀ w', HB w Rb Mb R g w' → w'.cell? ⟨b, off + i, none⟩ = some (.string (t i))) := fun w' h => (hTA.below h.bel hb) i hi
        have HTA : Hid (TextsAt w b off n t) := hTA
        clear hTA
        have cP := path_in (i := i) cap S.k (show TextsIn wr (some ⟨b, off, none⟩) n t from fun k hk => ⟨b, off, rfl, (HTA.out.below S.bel hb) k hk⟩) hz (by omega) hi
        go_wp2_with fail
        refine Calls.mono cP ?_
        rintro e w3 ⟨v, rfl, own, b3⟩
        have hPl := pathOf_len n t i hn300
        have tp := told_path n t i hi
        have tl := fun x q h => told_len (rootOf n t) n t i x q h
        rw [← HR.out] at tp tl
        generalize pathOf n t i = P at *
        generalize hx0 : leaf (t i).data.toList = x0 at tp
        obtain ⟨pa, pc, rfl, hpl, hpm, hPA, hpc⟩ := own_path own
        obtain ⟨pl, hplq⟩ : ∃ pl, pl = P.length := ⟨_, rfl⟩
        rw [← hplq] at hpl hPl own ⊢
        have HP : Hid (pl = P.length) := hplq
        clear hplq
        have S3 := S.next b3
        clear S b3 cP
        have c1 : ∀ (q : List Hs) (a' : Option Addr) (c' : Nat) {w' : World}, PathAt w' a' q → q.length ≤ c' → c' ≤ 9223372036854775807 → HB w Rb Mb R g w' → Calls Tryd.prog 10 #[.agg (hv R).toArray, .int .i64 (n : Int), .int .i64 (i : Int), .string (t i), .slice a' q.length c'] w' fun e w2 => e = .returned (.bool (told R n i x0 q)) ∧ Below w'.heap.size w' w2 := fun q a' c' w' h1 h2 h3 h => by
          have := holds_some R n i c' (t i) a' q w' h.k h1 (hz i hi) (by omega) hi h2 h3
          rwa [hx0] at this
        have hg9 : decide ((9 : Int) < (pl : Int)) = false := by simp; omega
        have c3 := @c1 P pa pc
        rw [← HP.out, tp] at c3
        go_wp2_with fail
        go_region_held3 (fun w' => (HB w Rb Mb R g w' ∧ Below w3.heap.size w3 w') ∧ w'.rangeAt Rb 0 (hv R) ∧ w'.cell? ⟨b, off + i, none⟩ = some (.string (t i)))
          (first | exact ⟨⟨S3.drew, (Below.refl _ _).drew⟩, S3.drew.rr, cT.out _ S3.drew⟩ | exact ⟨⟨HB.next (And.left (And.left (by assumption))) bq, below_seq (And.right (And.left (by assumption))) bq⟩, (HB.next (And.left (And.left (by assumption))) bq).rr, cT.out _ (HB.next (And.left (And.left (by assumption))) bq)⟩)
          ((go_at_call 10; refine (c3 (hPA.next (And.right (And.left (by assumption)))) hpl hpm (And.left (And.left (by assumption)))).mono ?_; rintro e w' ⟨rfl, bq⟩))
        rename_i hH
        have S4 := hH.1.1
        have b4 := hH.1.2
        have own4 := own_next own b4
        have hPA4 := hPA.next b4
        clear hH S3 own hPA bq b4 hg9
        generalize w' = w4 at *
        go_upto_region 10 with fail
        go_cut [71] (fun v wx => v = .bool false ∧ HB w Rb Mb R g wx ∧ Below w4.heap.size w4 wx)
        case first =>
          by_cases hl0 : pl = 0
          · have hd1 : decide ((0 : Int) < (pl : Int)) = false := by simp; omega
            go_wp2_with fail
            go_quiet (fail)
            all_goals (go_wp2_with fail; go_meet; exact ⟨rfl, S4.drewN nq, ⟨rfl, rfl, rfl, Nat.le_refl _, fun _ _ => rfl⟩⟩)
          · have hp0 : 0 < pl := by omega
            obtain ⟨pg, rfl, hpg⟩ : ∃ pg, pa = some ⟨pg, 0, none⟩ ∧ True := by
              rcases hpc with ⟨_, _, h⟩ | ⟨pg, h, _⟩
              · have := HP.out; rw [h] at this; exact absurd this hl0
              · exact ⟨pg, h, trivial⟩
            obtain ⟨l1, hl1⟩ : ∃ l1, l1 = pl - 1 := ⟨_, rfl⟩
            have el1 : (pl : Int) - 1 = (l1 : Int) := by omega
            have ew1 : IntKind.i64.wrap (l1 : Int) = (l1 : Int) := by rw [IntKind.wrap_i64]; omega
            have s1 := slice_to25 pg 0 pl pc l1 (by omega)
            have htl : (P.take l1).length = l1 := by rw [List.length_take, ← HP.out]; omega
            have tf := tl x0 (P.take l1) (by rw [htl, ← HP.out]; omega)
            have c2 := @c1 (P.take l1) (some ⟨pg, 0, none⟩) pc
            rw [htl, tf] at c2
            have Hl1 : Hid (l1 = pl - 1 ∧ (P.take l1).length = l1) := ⟨hl1, htl⟩
            clear hl1 htl tf
            go_wp2_with fail
            go_region_held3 (fun w' => (HB w Rb Mb R g w' ∧ Below w4.heap.size w4 w') ∧ w'.rangeAt Rb 0 (hv R) ∧ w'.cell? ⟨b, off + i, none⟩ = some (.string (t i)))
              (first | exact ⟨⟨S4.drew, (Below.refl _ _).drew⟩, S4.drew.rr, cT.out _ S4.drew⟩ | exact ⟨⟨HB.next (And.left (And.left (by assumption))) bq, below_seq (And.right (And.left (by assumption))) bq⟩, (HB.next (And.left (And.left (by assumption))) bq).rr, cT.out _ (HB.next (And.left (And.left (by assumption))) bq)⟩)
              ((go_at_call 10; refine (c2 ((hPA4.next (And.right (And.left (by assumption)))).take l1) (by have := Hl1.out; omega) hpm (And.left (And.left (by assumption)))).mono ?_; rintro e w' ⟨rfl, bq⟩))
            rename_i hH
            go_wp2_with fail
            go_meet
            exact ⟨rfl, hH.1.1, hH.1.2⟩
        case rest =>
          obtain ⟨rfl, S5, b5⟩ := hcut
          have own5 := own_next own4 b5
          clear S4 own4 hPA4 b5 c3
          generalize wc = w5 at *
          obtain ⟨ti, z, e1, e2, e3, e4, e5⟩ := info23x
          have hlt5 := S5.lt
          have hbs5 := S5.bel.size
          go_upto_region 13 with fail
          go_cut [9] (fun v wx => HB w Rb Mb R g wx ∧ wx.ownsRow w.heap.size 23 32 v pl (flatL P) ∧ ∀ k, v.ownBlock = some k → w.heap.size ≤ k ∧ k ≠ Rb ∧ k ≠ Mb)
          case first =>
            by_cases hl0 : pl = 0
            · have hPn : P = [] := List.length_eq_zero_iff.1 (by rw [← HP.out]; exact hl0)
              subst hl0
              rcases hpc with ⟨rfl, rfl, _⟩ | ⟨pg, rfl, _⟩
              · go_wp2_with fail
                go_meet
                exact ⟨S5, by rw [hPn]; exact World.ownsRow_nil _ _ _ _, fun k hk => by simp [Value.ownBlock] at hk⟩
              · go_wp2_with fail
                go_meet
                exact ⟨S5, by rw [hPn]; exact World.ownsRow_nil _ _ _ _, fun k hk => by simp [Value.ownBlock] at hk⟩
            · obtain ⟨pg, rfl, hpg⟩ : ∃ pg, pa = some ⟨pg, 0, none⟩ ∧ True := by
                rcases hpc with ⟨_, _, h⟩ | ⟨pg, h, _⟩
                · have := HP.out; rw [h] at this; exact absurd this hl0
                · exact ⟨pg, h, trivial⟩
              have hfl : (flatL P).length = pl * 32 := by rw [flatL_length, ← HP.out]
              go_wp2_with (refine wpList_append_lies _ rfl _ _ 25 rfl w.heap.size 23 ti z 32 32 Tryd.underlying25 e1 e2 e3 e4 e5 (by omega) (.slice none 0 0) 0 [] rfl (World.ownsRow_nil _ _ _ _) ⟨pg, 0, none⟩ pl pc (flatL P) rfl hfl (own_news own5) (flatL_one P) (by omega) (by unfold maxLen; omega) (by omega) hbs5 _ rfl ?_; intro g6 c6 w6 own6 grow6 at6 lt6; rw [Nat.zero_add, List.nil_append] at own6)
              have hg6 : g6 = w5.heap.size := by rcases at6 with h | h; (simp [Value.ownBlock] at h); exact h
              go_meet
              exact ⟨S5.grow grow6 (fun k hk => by simp [Value.ownBlock] at hk) hK, own6, fun k hk => by simp [Value.ownBlock] at hk; omega⟩
          case rest =>
            obtain ⟨S6, own6, hne6⟩ := hcut
            clear S5 own5 hlt5 hbs5
            generalize wc = w6 at *
            have hlm := load23 S6.rm
            have hbs6 := S6.bel.size
            go_wp2_with (refine wpList_append_lies _ rfl _ _ 25 rfl w.heap.size 23 ti z 32 32 Tryd.underlying25 e1 e2 e3 e4 e5 (by omega) u9 pl (flatL P) rfl (own6.alloc _) _ 1 1 (hv g) rfl (hv_length _) (news_alloc _ _ _) (hv_one _) (by omega) (by unfold maxLen; omega) (by omega) (by simp; omega) _ rfl ?_; intro g7 c7 w7 own7 grow7 at7 lt7)
            have S7 := (S6.next ((Below.refl _ _).alloc (Nat.le_refl _) _)).grow grow7 hne6 hK
            rw [← flatL_snoc] at own7
            have hlen : (P ++ [g]).length = pl + 1 := by rw [List.length_append, ← HP.out]; rfl
            rw [← hlen] at own7
            obtain ⟨pa7, pc7, ev7, hpl7, hpm7, hPA7, _⟩ := own_path own7
            rw [hlen] at ev7 hpl7
            injection ev7 with ev1 ev2 ev3
            subst ev1 ev3
            have c4 := @c1 (P ++ [g]) (some ⟨g7, 0, none⟩) c7
            rw [hlen, tl x0 (P ++ [g]) (by rw [hlen, HP.out]; omega)] at c4
            have HL : Hid ((P ++ [g]).length = pl + 1) := hlen
            clear own7 grow7 at7 lt7 S6 own6 hlm hlen ev2
            go_wp2_with fail
            go_region_held3 (fun w' => (HB w Rb Mb R g w' ∧ Below w7.heap.size w7 w') ∧ w'.rangeAt Rb 0 (hv R) ∧ w'.cell? ⟨b, off + i, none⟩ = some (.string (t i)))
              (first | exact ⟨⟨S7.drew, (Below.refl _ _).drew⟩, S7.drew.rr, cT.out _ S7.drew⟩ | exact ⟨⟨HB.next (And.left (And.left (by assumption))) bq, below_seq (And.right (And.left (by assumption))) bq⟩, (HB.next (And.left (And.left (by assumption))) bq).rr, cT.out _ (HB.next (And.left (And.left (by assumption))) bq)⟩)
              ((go_at_call 10; refine (c4 (hPA7.next (And.right (And.left (by assumption)))) hpl7 hpm7 (And.left (And.left (by assumption)))).mono ?_; rintro e w' ⟨rfl, bq⟩))
            rename_i hH
            have S8 := hH.1.1
            clear hH bq
            go_wp2_with fail
            go_round
            case rel => exact ⟨i + 1, by omega, by go_num, S8⟩
            case measure => simp [intOf]; omega
      · obtain rfl : i = n := by omega
        have hd : decide ((i : Int) < (i : Int)) = false := by simp
        have hpb1 := path_bad a i cap (i : Int)
        have hpb2 := path_bad a i cap (-1)
        go_wp2_with fail
        refine (hpb1 _ (Or.inr (by omega))).mono ?_
        rintro e wq ⟨rfl, rfl⟩
        go_wp2_with fail
        refine (hpb2 _ (Or.inl (by decide))).mono ?_
        rintro e wq ⟨rfl, rfl⟩
        have hl1 := load23 S.rr
        go_wp2_with fail
        refine (holds_bad R (i : Int) (i : Int) ⟨#[]⟩ _ _ (Or.inr (by omega))).mono ?_
        rintro e w8 ⟨rfl, b8⟩
        have S8 := S.next b8
        have hl2 := load23 S8.rr
        go_wp2_with fail
        refine (holds_bad R (i : Int) (-1) ⟨#[]⟩ _ _ (Or.inl (by decide))).mono ?_
        rintro e w9 ⟨rfl, b9⟩
        have S9 := S8.next b9
        go_wp2_with fail
        refine (hF _ S9.k).mono ?_
        rintro e w10 ⟨rfl, b10⟩
        go_wp2_with fail
        go_ret
        exact ⟨rfl, (S9.next b10).bel⟩
end merkleHolds
end Go.Proofs.YtlpiokepagkahaaDoor
