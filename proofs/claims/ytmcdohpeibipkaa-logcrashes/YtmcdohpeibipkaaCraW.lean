/- LogCrashes' walk. -/
import Derived.Test.YtmcdohpeibipkaaCrd
namespace Go.Proofs.Ytmcdohpeibipkaa
set_option linter.unusedVariables false
set_option linter.unusedSimpArgs false
open Go.RowKit
theorem sin_news {w : World} {g off : Nat} {l : List ByteArray} (h : SIn w (some ⟨g, off, none⟩) l) : ∀ j u, (strv l)[j]? = some u → w.cell? ((⟨g, off, none⟩ : Addr).add j) = some u := fun j u hj => by
  rw [addr_add]
  have hjl : j < l.length := by have := (List.getElem?_eq_some_iff.1 hj).1; rw [strv_length] at this; exact this
  obtain ⟨t, ht⟩ : ∃ t, l[j]? = some t := ⟨_, List.getElem?_eq_getElem hjl⟩
  obtain ⟨b, o, e, c⟩ := h j t ht
  injection e with e
  injection e with e1 e2
  subst e1 e2
  have : (strv l)[j]? = some (.string t) := by simp [strv, ht]
  rw [this] at hj
  rw [← hj]; exact c
/-- a list of texts, copied -/
theorem app_cs {ops : Array Oper} {rest : List Oper} {o : Oper} {a : Act} {Q : Exit → Act → World → Prop} {w : World} {l : List ByteArray} {g off c m : Nat} (hlm : l.length = m) (hin : SIn w (some ⟨g, off, none⟩) l) (h0 : 0 < m) (hn : m < 9000000000000)
    (hgd : o.guard = none) (s x : Operand) (ho : o.op = .call { callee := .builtin .append, args := #[s, x], argTypes := #[42, 42] })
    (hs : a.eval s = .slice none 0 0) (hx : a.eval x = .slice (some ⟨g, off, none⟩) m c)
    (h : ∀ y cap w', w'.ownsRow 0 9 1 (rw_ y m cap) m (strv l) → Below w.heap.size w w' → w.heap.size ≤ y → wpList Try.prog ops Q rest (a.put o.dst (rw_ y m cap)) w') : wpList Try.prog ops Q (o :: rest) a w := by
  subst hlm
  obtain ⟨i0, hi0, hz0, hz1, hz2⟩ := info_parts infoSf
  have hm : maxLen = 9223372036854775807 := rfl
  refine wp_append_at Try.underlying42 hi0 hz0 hz1 hz2 rfl (by omega) 0 (World.ownsRow_nil _ _ _ _) (news := strv l) (by rw [strv_length]; omega) (sin_news hin) (fun u hu => by obtain ⟨t, _, rfl⟩ := List.mem_map.1 hu; rfl) (by rw [hm]; omega) (by omega) (Nat.zero_le _) hgd s x ho hs hx ?_
  intro v' w' q1 q2 _ q4
  rw [Nat.zero_add, List.nil_append] at q1
  rcases q1.2 with ⟨_, h1⟩ | ⟨y, cap, cur, rfl, _⟩
  · omega
  · refine h y cap w' q1 ((Below.refl _ _).grown q2 (Nat.le_refl _) (fun k hk => by cases hk)) ?_
    rcases q4 y rfl with e | e
    · cases e
    · exact e
theorem EnvP.storeS {w0 w : World} {Ls : List (Th → Prop)} {y n c : Nat} {L : List ByteArray} (h : EnvP w0 w Ls) (i : Nat) (hi : Ls[i]? = some (rowS (rw_ y n c) L)) (j : Nat) (t : ByteArray) : EnvP w0 (w.setCell ⟨y, j, none⟩ (.string t)) (Ls.set i (rowS (rw_ y n c) (L.set j t))) := by
  obtain ⟨x, rfl, ha, _, hn⟩ := h.get i _ hi
  have ha' : w.ownsRow 0 9 1 (rw_ y n c) L.length (strv L) := ha
  obtain ⟨a0, c0, e0⟩ := own_slice ha'
  obtain rfl : n = L.length := by injection e0
  obtain ⟨o1, g1⟩ := ha'.stored j (.string t)
  rw [strv_set] at o1
  refine hn _ (rowSTh (rw_ y L.length c) (L.set j t).length (strv (L.set j t))) _ rfl (fr_set w y j _ rfl) ?_ (fun k hk => .inl hk)
  show World.ownsRow _ 0 9 1 _ _ _
  rw [List.length_set]
  exact o1
theorem GoodP.pwlen {R : List Px} (h : GoodP R) : (pw R).length ≤ 10 := by rw [pw_length]; exact h.len
theorem lay_take (B : List ByteArray) (l : Il) (k : Nat) (z : Int × ByteArray) (hz : l[k]? = some z) : lay B (natL (l.take (k + 1))) = (lay B (natL (l.take k))).set z.1.toNat z.2 := by
  have hk := (List.getElem?_eq_some_iff.1 hz).1
  rw [List.take_succ_eq_append_getElem hk, Option.some.inj ((List.getElem?_eq_getElem hk).symm.trans hz)]
  unfold natL
  rw [List.map_append]
  exact lay_snoc _ _ _
theorem right_num {l : Il} (h : rightB 18 l = true) (k : Nat) (z : Int × ByteArray) (hz : l[k]? = some z) : 0 ≤ z.1 ∧ z.1 < 18 := by
  unfold rightB at h
  rw [decide_eq_true_iff] at h
  have := (h.1 z (List.mem_of_getElem? hz)).1
  simp [okN] at this
  exact this
theorem tmn (n m : Nat) (h : 0 < m) : (n : Int).tmod (m : Int) = ((n % m : Nat) : Int) := by rw [Int.tmod_eq_emod_of_nonneg (by omega)]; rfl
theorem le33 (n k : Nat) (h : n ≤ 2 * k + 8) : (n : Int) ≤ 8 * (k : Int) + 33 := by omega
theorem wp33 (k : Nat) (h : k ≤ 10) : wrap64 (8 * (k : Int)) = 8 * (k : Int) ∧ wrap64 (8 * (k : Int) + 33) = 8 * (k : Int) + 33 := by unfold wrap64; omega
theorem wpn (n : Nat) (h : n ≤ 1000) : wrap64 ((n : Int) + 1) = ((n + 1 : Nat) : Int) := by unfold wrap64; omega
theorem ge1 (m : Nat) (h : 0 < m) : (0 : Int) < (m : Int) := by omega
theorem measn (n k : Nat) (h : n ≤ 2 * k + 7) : (2 * k + 9) - (intOf (.int .i64 ((n : Int) + 1))).toNat < (2 * k + 9) - (intOf (.int .i64 (n : Int))).toNat := by simp [intOf]; omega
set_option maxHeartbeats 4000000 in
set_option maxRecDepth 100000 in
theorem logCrashes_walk (L1 : List Px) (a1 : Option Addr) (cap1 : Nat) (L2 : List Px) (a2 : Option Addr) (cap2 : Nat) (L3 : List Nat) (a3 : Option Addr) (cap3 : Nat) (wi : Int) (w : World) (i1 : PIn w a1 L1) (z1 : L1.length ≤ 4398046510976) (i2 : PIn w a2 L2) (z2 : L2.length ≤ 4398046510976) (i3 : UIn w a3 L3) (z3 : L3.length ≤ 17592186043904) (hw1 : -9223372036854775808 ≤ wi) (hw2 : wi ≤ 9223372036854775807) :
    Calls Try.prog 5 #[.slice a1 L1.length cap1, .slice a2 L2.length cap2, .slice a3 L3.length cap3, .int .i64 wi] w fun e w' => e = .returned (.bool true) ∧ Below w.heap.size w w' := by
  have I1 : Hid (PIn w a1 L1) := ⟨i1⟩
  have I2 : Hid (PIn w a2 L2) := ⟨i2⟩
  have I3 : Hid (UIn w a3 L3) := ⟨i3⟩
  clear i1 i2 i3
  go_enter Try.func5, Try.ntmps5
  go_wp2_with fail
  refine (new_env (EnvP.nil w) 40 (by decide) (by decide)).mono ?_
  rintro e w1 ⟨p, rfl, h1⟩
  have E1 : Hid (EnvP w w1 [dk p (fresh 40)]) := ⟨h1⟩
  clear h1
  dsimp only
  go_wp2_with fail
  refine (first_any w1).mono ?_
  rintro e w2 ⟨rfl, b2⟩
  have E2 : Hid (EnvP w w2 [dk p (fresh 40)]) := ⟨E1.out.below b2⟩
  clear b2 E1
  dsimp only
  go_wp2_with fail
  refine (open_rec (s := 22) E2.out rfl rfl rfl (by decide) (n := 40) (by simp [fresh]) (by decide) (rec_fresh 40 22 (by decide))).mono ?_
  rintro e w3 (⟨x, st1, rfl, h3, ok1, f1⟩ | ⟨st1, rfl, h3, _, f1⟩)
  rotate_left
  · exact absurd rfl f1
  have F1 : Hid (st1.fall = 0) := ⟨f1 rfl⟩
  have E3 : Hid (EnvP w w3 [lg x p 22 false, dk p st1]) := ⟨h3⟩
  have OK1 : Hid (OKst NN st1 40 22 (List.replicate (40 - 22) (fl 0))) := ⟨ok1⟩
  clear h3 ok1 f1 E2
  generalize List.replicate (40 - 22) (fl 0) = B0 at *
  dsimp only
  go_wp2_with fail
  refine (right_any a1 cap1 L1 w3 (I1.out.later E3.out.bel) z1).mono ?_
  rintro e w4 ⟨v4, Ra, rfl, o4, b4, ga⟩
  obtain ⟨pa, pc, hv4, pin4⟩ := own_pin o4 ga
  subst hv4
  have E4 : Hid (EnvP w w4 [lg x p 22 false, dk p st1]) := ⟨E3.out.below b4⟩
  have qW := writes_any pa pc Ra w4 pin4 (Nat.le_trans ga.len (by decide))
  have GA : Hid (GoodP Ra) := ⟨ga⟩
  clear o4 b4 pin4 ga E3
  dsimp only
  go_wp2_with fail
  refine qW.mono ?_
  rintro e w5 ⟨va, rfl, o5, b5, f5⟩
  have E5 : Hid (EnvP w w5 [lg x p 22 false, dk p st1, rowW va (pw Ra)]) := ⟨E4.out.pushW b5 (by rw [pw_length]; exact o5) f5⟩
  obtain ⟨aa, ca, hva⟩ := own_slice o5
  have HVA : Hid (va = .slice aa Ra.length ca) := ⟨hva⟩
  clear o5 b5 f5 E4 hva qW
  dsimp only
  go_wp2_with fail
  refine (right_any a2 cap2 L2 w5 (I2.out.later E5.out.bel) z2).mono ?_
  rintro e w6 ⟨v6, Rb, rfl, o6, b6, gb⟩
  obtain ⟨pb, pd, hv6, pin6⟩ := own_pin o6 gb
  subst hv6
  have E6 : Hid (EnvP w w6 [lg x p 22 false, dk p st1, rowW va (pw Ra)]) := ⟨E5.out.below b6⟩
  have qW := writes_any pb pd Rb w6 pin6 (Nat.le_trans gb.len (by decide))
  have GB : Hid (GoodP Rb) := ⟨gb⟩
  clear o6 b6 pin6 gb E5
  dsimp only
  go_wp2_with fail
  refine qW.mono ?_
  rintro e w7 ⟨vb, rfl, o7, b7, f7⟩
  have E7 : Hid (EnvP w w7 [lg x p 22 false, dk p st1, rowW va (pw Ra), rowW vb (pw Rb)]) := ⟨E6.out.pushW b7 (by rw [pw_length]; exact o7) f7⟩
  by_cases hb0 : Rb.length = 0
  · obtain ⟨ab, cb, hvb⟩ := own_slice o7
    rw [hb0] at hvb
    subst hvb
    clear o7 b7 f7 E6 qW
    dsimp only
    go_wp2
    go_ret
    exact ⟨rfl, E7.out.bel⟩
  · obtain ⟨gb, cb, hvb⟩ : ∃ gb cb, vb = rw_ gb Rb.length cb := by
      rcases o7.2 with ⟨_, h0⟩ | ⟨g, cap, cur, hv, _⟩
      · exact absurd h0 hb0
      · exact ⟨g, cap, hv⟩
    subst hvb
    have hvaa := HVA.out
    subst hvaa
    have hkl : (pw Rb).length = Rb.length := pw_length Rb
    have HKL : Hid ((pw Rb).length = Rb.length) := ⟨hkl⟩
    have HRB : Hid (rightB 18 (pw Rb) = true) := ⟨GB.out.right⟩
    have HRA : Hid (rightB 18 (pw Ra) = true) := ⟨GA.out.right⟩
    have HLA : Hid ((pw Ra).length = Ra.length) := ⟨pw_length Ra⟩
    have hk10 : Rb.length ≤ 10 := GB.out.len
    have HA10 : Hid (Ra.length ≤ 10) := ⟨GA.out.len⟩
    have hbi : ¬ ((Rb.length : Int) = 0) := by omega
    generalize Rb.length = k at *
    generalize Ra.length = ka at *
    generalize pw Rb = lb at *
    generalize pw Ra = la at *
    clear o7 b7 f7 E6 qW HVA GA GB hkl
    dsimp only
    go_wp2_with fail
    refine (commit_env E7.out OK1.out (by decide) (by decide) (by decide) aa ca la HLA.out.symm (Arg.row [rowW (rw_ gb k cb) lb] _ la aa ca (by rw [HLA.out])) (by rw [HLA.out]; exact Nat.le_trans HA10.out (by decide))).mono ?_
    intro e w8 hh
    obtain ⟨st2, B1, rfl, h8, ok2, f2⟩ : ∃ st2 B1, e = .returned (.int .i64 0) ∧ EnvP w w8 [lg x p 22 false, dk p st2, rowW (.slice aa ka ca) la, rowW (rw_ gb k cb) lb] ∧ OKst NN st2 40 22 B1 ∧ st2.fall = 0 := by
      rcases hh with ⟨h, _⟩ | ⟨_, _, e1, e2⟩ | ⟨_, h, _⟩ | ⟨_, _, _, _, st2, e1, e2, e3, e4⟩ | ⟨_, _, _, h, _⟩
      · rw [HRA.out] at h; cases h
      · exact ⟨st1, B0, e1, e2, OK1.out, F1.out⟩
      · rw [HLA.out] at h; have := HA10.out; omega
      · exact ⟨st2, _, e1, e2, e3, e4 F1.out⟩
      · rw [F1.out] at h; cases h
    have E8 : Hid (EnvP w w8 [lg x p 22 false, dk p st2, rowW (.slice aa ka ca) la, rowW (rw_ gb k cb) lb]) := ⟨h8⟩
    have OK2 : Hid (OKst NN st2 40 22 B1) := ⟨ok2⟩
    have F2 : Hid (st2.fall = 0) := ⟨f2⟩
    have hb18 : B1.length = 18 := ok2.blen
    clear hh h8 ok2 f2 E7 OK1 F1
    dsimp only
    go_wp2_with fail
    refine (all_env E8.out OK2.out (by decide) (m := 18) rfl).mono ?_
    rintro e w9 ⟨vo, rfl, h9⟩
    have o9 := h9.rowSAt 2 rfl
    obtain ⟨go, co, hvo⟩ : ∃ go co, vo = rw_ go 18 co := by
      rcases o9.2 with ⟨_, h0⟩ | ⟨g, cap, cur, hv, _⟩
      · rw [hb18] at h0; cases h0
      · rw [hb18] at hv; exact ⟨g, cap, hv⟩
    subst hvo
    have E9 : Hid (EnvP w w9 [lg x p 22 false, dk p st2, rowS (rw_ go 18 co) B1, rowW (.slice aa ka ca) la, rowW (rw_ gb k cb) lb]) := ⟨h9⟩
    have SS : Hid (∀ w5, w5.ownsRow 0 9 1 (rw_ go 18 co) B1.length (strv B1) → SIn w5 (some ⟨go, 0, none⟩) B1) := ⟨fun w5 o => by
      obtain ⟨a', c', e', i'⟩ := own_sin o
      rw [hb18] at e'
      injection e' with e1 e2 e3
      subst e1
      exact i'⟩
    have HB18 : Hid (B1.length = 18) := ⟨hb18⟩
    clear h9 o9 E8 hb18
    dsimp only
    go_wp2_with (at_builtin; refine app_cs (l := B1) (m := 18) HB18.out (SS.out _ (E9.out.rowSAt 2 rfl)) (by decide) (by decide) rfl _ _ rfl rfl rfl ?_; intro gn cn w10 q10 b10 hgn)
    have E10 : Hid (EnvP w w10 [lg x p 22 false, dk p st2, rowS (rw_ go 18 co) B1, rowW (.slice aa ka ca) la, rowW (rw_ gb k cb) lb, rowS (rw_ gn 18 cn) (lay B1 (natL (lb.take 0)))]) := ⟨E9.out.pushS b10 (by show World.ownsRow _ 0 9 1 _ B1.length (strv B1); rw [HB18.out]; exact q10) (fun j hj => by cases hj; exact hgn)⟩
    clear q10 b10 hgn E9
    go_loopw [17] (fun i wr => ∃ j : Nat, j ≤ k ∧ i = .int .i64 (j : Int) ∧ Hid (EnvP w wr [lg x p 22 false, dk p st2, rowS (rw_ go 18 co) B1, rowW (.slice aa ka ca) la, rowW (rw_ gb k cb) lb, rowS (rw_ gn 18 cn) (lay B1 (natL (lb.take j)))])) (fun i _ => k - (intOf i).toNat)
    case atStart => exact ⟨0, Nat.zero_le _, rfl, E10⟩
    case round =>
      obtain ⟨j, hj, rfl, E⟩ := hrel
      clear E10
      by_cases hjl : j < k
      · obtain ⟨⟨z, T⟩, hz⟩ : ∃ z, lb[j]? = some z := ⟨_, List.getElem?_eq_getElem (by rw [HKL.out]; exact hjl)⟩
        have ow := E.out.rowWAt 4 rfl
        have c01 := own_cell2 ow j _ hz
        have hzr := right_num HRB.out j _ hz
        simp only at c01 hzr
        obtain ⟨N, rfl⟩ : ∃ N : Nat, z = (N : Int) := ⟨z.toNat, by omega⟩
        have hN18 : N < 18 := by omega
        have hN18i : (N : Int) < 18 := by omega
        have hls : (lay B1 (natL (lb.take j))).length = 18 := by rw [lay_length]; exact HB18.out
        have os := E.out.rowSAt 5 rfl
        obtain ⟨u0, hc0⟩ : ∃ v, wr.cell? ⟨gn, N, none⟩ = some v := by
          rw [hls] at os
          rw [os.cellAt N (by omega), List.getElem?_eq_getElem (by rw [strv_length, hls]; exact hN18)]
          exact ⟨_, rfl⟩
        rw [hls] at os
        have f0 := os.frozenAt N
        have hst := lay_take B1 lb j _ hz
        have E2 : Hid (EnvP w (wr.setCell ⟨gn, N, none⟩ (.string T)) [lg x p 22 false, dk p st2, rowS (rw_ go 18 co) B1, rowW (.slice aa ka ca) la, rowW (rw_ gb k cb) lb, rowS (rw_ gn 18 cn) (lay B1 (natL (lb.take (j + 1))))]) := ⟨by rw [hst]; exact E.out.storeS 5 rfl N T⟩
        have c0 := c01.1
        have c1 := c01.2
        have hji := ltk j _ hjl
        have hwj := wpn j (by omega)
        clear hz ow c01 hzr os hls hst E
        go_wp2_with fail
        go_region
        all_goals
          go_wp2
          exact ⟨⟨j + 1, hjl, by go_num, ⟨E2.out.drew⟩⟩, meask j _ hjl⟩
      · have hje : j = k := Nat.le_antisymm hj (Nat.le_of_not_lt hjl)
        subst hje
        have hji := nlt j
        rw [show lb.take j = lb from by rw [← HKL.out]; exact List.take_length] at E
        have hBB : (lay B1 (natL lb)).length = 18 := by rw [lay_length]; exact HB18.out
        have HBB : Hid ((lay B1 (natL lb)).length = 18) := ⟨hBB⟩
        have w33 := wp33 j hk10
        clear hBB hj hjl
        have HLB : Hid (lb ≠ []) := ⟨fun e => hb0 (by rw [← HKL.out, e]; rfl)⟩
        have EF : Hid (EnvP w wr [lg x p 22 false, dk p st2, rowS (rw_ go 18 co) B1, rowW (.slice aa ka ca) la, rowW (rw_ gb j cb) lb, rowS (rw_ gn 18 cn) (lay B1 (natL lb))]) := E
        have HCR : Hid (∀ (q n mask : Nat) (w5 : World), 1 ≤ n → n ≤ 1000 → mask < 18446744073709551616 → EnvP w w5 [dk q st2, lg x p 22 false, dk p st2, rowS (rw_ go 18 co) B1, rowW (.slice aa ka ca) la, rowW (rw_ gb j cb) lb, rowS (rw_ gn 18 cn) (lay B1 (natL lb))] → Calls Try.prog 25 #[pt q, rw_ gb j cb, .int .i64 (n : Int), .int .u64 (mask : Int), .int .i64 wi, rw_ go 18 co, rw_ gn 18 cn] w5 fun e w' => e = .returned (.tuple #[.bool (decide (2 * j + 7 < n)), .bool true]) ∧ EnvP w w' [lg x p 22 false, dk p st2, rowS (rw_ go 18 co) B1, rowW (.slice aa ka ca) la, rowW (rw_ gb j cb) lb, rowS (rw_ gn 18 cn) (lay B1 (natL lb))]) := ⟨fun q n mask w5 h1 h2 h3 h5 =>
          crashed_any h5 OK2.out F2.out gb 0 cb lb j HKL.out (.inr ⟨4, rowW (rw_ gb j cb) lb, rfl, shows_all gb j cb lb⟩) HRB.out HLB.out hk10 n h1 h2 mask h3 wi (some ⟨go, 0, none⟩) (some ⟨gn, 0, none⟩) co cn 18 18 HB18.out HBB.out
            ⟨2, rowS (rw_ go 18 co) B1, rfl, fun t w6 ht ha => by subst ht; exact SS.out w6 ha⟩
            ⟨5, rowS (rw_ gn 18 cn) (lay B1 (natL lb)), rfl, fun t w6 ht ha => by
              subst ht
              obtain ⟨a', c', e', i'⟩ := own_sin (l := lay B1 (natL lb)) ha
              rw [HBB.out] at e'
              injection e' with e1 e2 e3
              subst e1
              exact i'⟩⟩
        have HCP : Hid (∀ w5, EnvP w w5 [lg x p 22 false, dk p st2, rowS (rw_ go 18 co) B1, rowW (.slice aa ka ca) la, rowW (rw_ gb j cb) lb, rowS (rw_ gn 18 cn) (lay B1 (natL lb))] → Calls Try.prog 12 #[pt p] w5 fun e w' => ∃ q, e = .returned (pt q) ∧ EnvP w w' [dk q st2, lg x p 22 false, dk p st2, rowS (rw_ go 18 co) B1, rowW (.slice aa ka ca) la, rowW (rw_ gb j cb) lb, rowS (rw_ gn 18 cn) (lay B1 (natL lb))]) := ⟨fun w5 h5 => by
          refine (copy_env h5 1 rfl (by rw [OK2.out.pend]; simp)).mono ?_
          rintro e w' ⟨q, rfl, h6⟩
          exact ⟨q, rfl, EnvP.front (Ls := [lg x p 22 false, dk p st2, rowS (rw_ go 18 co) B1, rowW (.slice aa ka ca) la, rowW (rw_ gb j cb) lb, rowS (rw_ gn 18 cn) (lay B1 (natL lb))]) h6⟩⟩
        clear E OK2 F2 HRB HLB SS HB18 HBB HKL hb0 hbi
        generalize ([lg x p 22 false, dk p st2, rowS (rw_ go 18 co) B1, rowW (.slice aa ka ca) la, rowW (rw_ gb j cb) lb, rowS (rw_ gn 18 cn) (lay B1 (natL lb))] : List (Th → Prop)) = LL at *
        have w33a := w33.1
        have w33b := w33.2
        go_wp2_with fail
        go_loopw [18] (fun i wr => ∃ n : Nat, 1 ≤ n ∧ n ≤ 2 * j + 8 ∧ i = .int .i64 (n : Int) ∧ Hid (EnvP w wr LL)) (fun i _ => (2 * j + 9) - (intOf i).toNat)
        case atStart => exact ⟨1, Nat.le_refl _, by omega, rfl, EF⟩
        case round =>
          obtain ⟨n, hn1, hn2, rfl, E⟩ := hrel
          clear EF
          have hni := le33 n j hn2
          have HN : Hid (n ≤ 1000) := ⟨by omega⟩
          have fin : Hid (∀ mask : Nat, mask < 18446744073709551616 → ∀ (q : Nat) w5, EnvP w w5 (dk q st2 :: LL) → (2 * j + 7 < n ∧ Calls Try.prog 25 #[pt q, rw_ gb j cb, .int .i64 (n : Int), .int .u64 (mask : Int), .int .i64 wi, rw_ go 18 co, rw_ gn 18 cn] w5 fun e w' => e = .returned (.tuple #[.bool true, .bool true]) ∧ EnvP w w' LL) ∨ (n ≤ 2 * j + 7 ∧ Calls Try.prog 25 #[pt q, rw_ gb j cb, .int .i64 (n : Int), .int .u64 (mask : Int), .int .i64 wi, rw_ go 18 co, rw_ gn 18 cn] w5 fun e w' => e = .returned (.tuple #[.bool false, .bool true]) ∧ EnvP w w' LL)) := ⟨fun mask hmk q w5 h5 => by
            have := HCR.out q n mask w5 hn1 HN.out hmk h5
            by_cases hc : 2 * j + 7 < n
            · rw [decide_eq_true hc] at this
              exact .inl ⟨hc, this⟩
            · rw [decide_eq_false hc] at this
              exact .inr ⟨by omega, this⟩⟩
          by_cases hm0 : 0 < L3.length
          · obtain ⟨mv, hmv⟩ : ∃ mv, L3[n % L3.length]? = some mv := ⟨_, List.getElem?_eq_getElem (Nat.mod_lt _ hm0)⟩
            obtain ⟨gm, om, rfl, hgm, hcm, hmb⟩ := (I3.out.later E.out.bel).get _ _ hmv
            have htm := tmn n L3.length hm0
            have hml := Nat.mod_lt n hm0
            have hm0i := ge1 _ hm0
            have hml2 : ((n % L3.length : Nat) : Int) < (L3.length : Int) := by omega
            have HMB : Hid (mv < 18446744073709551616) := ⟨hmb⟩
            clear hmv hgm hmb
            generalize n % L3.length = nm at *
            go_wp2_with fail
            refine (HCP.out _ E.out).mono ?_
            rintro e w15 ⟨q, rfl, h15⟩
            have E15 : Hid (EnvP w w15 (dk q st2 :: LL)) := ⟨h15⟩
            clear h15 E
            dsimp only
            go_wp2_with fail
            rcases fin.out mv HMB.out q w15 E15.out with ⟨hc, hcal⟩ | ⟨hc, hcal⟩
            · refine hcal.mono ?_
              rintro e w16 ⟨rfl, h16⟩
              have E16 : Hid (EnvP w w16 LL) := ⟨h16⟩
              clear h16 E15 hcal fin
              dsimp only
              go_wp2
              go_ret
              exact ⟨rfl, E16.out.bel⟩
            · refine hcal.mono ?_
              rintro e w16 ⟨rfl, h16⟩
              have E16 : Hid (EnvP w w16 LL) := ⟨h16⟩
              have hwn := wpn n HN.out
              clear h16 E15 hcal fin
              dsimp only
              go_wp2
              exact ⟨⟨n + 1, Nat.le_add_left 1 n, Nat.succ_le_succ hc, (by first | go_num | rw [hwn]), E16⟩, (by first | exact measn n j hc | (rw [hwn, Int.natCast_add]; exact measn n j hc))⟩
          · have hm0i : ¬ ((0 : Int) < (L3.length : Int)) := by omega
            go_wp2_with fail
            refine (HCP.out _ E.out).mono ?_
            rintro e w15 ⟨q, rfl, h15⟩
            have E15 : Hid (EnvP w w15 (dk q st2 :: LL)) := ⟨h15⟩
            clear h15 E
            dsimp only
            go_wp2_with fail
            rcases fin.out 0 (by decide) q w15 E15.out with ⟨hc, hcal⟩ | ⟨hc, hcal⟩
            · rw [show ((0 : Nat) : Int) = 0 from rfl] at hcal
              refine hcal.mono ?_
              rintro e w16 ⟨rfl, h16⟩
              have E16 : Hid (EnvP w w16 LL) := ⟨h16⟩
              clear h16 E15 hcal fin
              dsimp only
              go_wp2
              go_ret
              exact ⟨rfl, E16.out.bel⟩
            · rw [show ((0 : Nat) : Int) = 0 from rfl] at hcal
              refine hcal.mono ?_
              rintro e w16 ⟨rfl, h16⟩
              have E16 : Hid (EnvP w w16 LL) := ⟨h16⟩
              have hwn := wpn n HN.out
              clear h16 E15 hcal fin
              dsimp only
              go_wp2
              exact ⟨⟨n + 1, Nat.le_add_left 1 n, Nat.succ_le_succ hc, (by first | go_num | rw [hwn]), E16⟩, (by first | exact measn n j hc | (rw [hwn, Int.natCast_add]; exact measn n j hc))⟩
end Go.Proofs.Ytmcdohpeibipkaa
