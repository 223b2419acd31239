/- One loss of power: crashed. -/
import Derived.Test.YtmcdohpeibipkaaRlw
namespace Go.Proofs.Ytmcdohpeibipkaa
set_option linter.unusedVariables false
set_option linter.unusedSimpArgs false
open Go.RowKit
theorem win_news {w : World} {g off : Nat} {l : Il} (h : WIn w (some ⟨g, off, none⟩) l) : ∀ j u, (wci l)[j]? = some u → w.cell? ((⟨g, off, none⟩ : Addr).add j) = some u := fun j u hj => by
  rw [addr_add]
  have hjl : j < l.length * 2 := by have := (List.getElem?_eq_some_iff.1 hj).1; rw [wci_length] at this; exact this
  obtain ⟨z, hz⟩ : ∃ z, l[j / 2]? = some z := ⟨_, List.getElem?_eq_getElem (by omega)⟩
  obtain ⟨b, o, e, c0, c1⟩ := h (j / 2) z hz
  injection e with e
  injection e with e1 e2
  subst e1 e2
  obtain ⟨a0, a1⟩ := wci_at l (j / 2) z hz
  rcases Nat.mod_two_eq_zero_or_one j with e | e
  · have e2 : j / 2 * 2 = j := by omega
    rw [e2] at a0 c0
    rw [a0] at hj
    rw [← hj]; exact c0
  · have e2 : j / 2 * 2 + 1 = j := by omega
    have e3 : off + j / 2 * 2 + 1 = off + j := by omega
    rw [e2] at a1
    rw [e3] at c1
    rw [a1] at hj
    rw [← hj]; exact c1
/-- a list of writes, copied -/
theorem app_cw {ops : Array Oper} {rest : List Oper} {o : Oper} {a : Act} {Q : Exit → Act → World → Prop} {w : World} {l : Il} {g off c m : Nat} (hlm : l.length = m) (hin : WIn w (some ⟨g, off, none⟩) l) (h0 : 0 < m) (hn : m < 9000000000000)
    (hgd : o.guard = none) (s x : Operand) (ho : o.op = .call { callee := .builtin .append, args := #[s, x], argTypes := #[34, 34] })
    (hs : a.eval s = .slice none 0 0) (hx : a.eval x = .slice (some ⟨g, off, none⟩) m c)
    (h : ∀ y cap w', w'.ownsRow 0 33 2 (rw_ y m cap) m (wci l) → Below w.heap.size w w' → w.heap.size ≤ y → wpList Try.prog ops Q rest (a.put o.dst (rw_ y m cap)) w') : wpList Try.prog ops Q (o :: rest) a w := by
  subst hlm
  obtain ⟨i0, hi0, hz0, hz1, hz2⟩ := info_parts infoWf
  have hm : maxLen = 9223372036854775807 := rfl
  refine wp_append_at Try.underlying34 hi0 hz0 hz1 hz2 rfl (by omega) 0 (World.ownsRow_nil _ _ _ _) (news := wci l) (wci_length l) (win_news hin) (wci_one l) (by rw [hm]; omega) (by omega) (Nat.zero_le _) hgd s x ho hs hx ?_
  intro v' w' q1 q2 _ q4
  rw [Nat.zero_add, List.nil_append] at q1
  rcases q1.2 with ⟨_, h1⟩ | ⟨y, cap, cur, rfl, _⟩
  · omega
  · refine h y cap w' q1 ((Below.refl _ _).grown q2 (Nat.le_refl _) (fun k hk => by cases hk)) ?_
    rcases q4 y rfl with e | e
    · cases e
    · exact e
def ArgS (rest : List (Th → Prop)) (a : Option Addr) (L : List ByteArray) : Prop := ∃ (k : Nat) (s : Th → Prop), rest[k]? = some s ∧ ∀ t w, s t → t.at' w → SIn w a L
theorem ArgS.sin {w0 w : World} {pre rest : List (Th → Prop)} {a : Option Addr} {L : List ByteArray} (h : ArgS rest a L) (e : EnvP w0 w (pre ++ rest)) : SIn w a L := by
  obtain ⟨k, s, hk, hs⟩ := h
  obtain ⟨t, ht, ha, _⟩ := e.get (pre.length + k) s (by rw [List.getElem?_append_right (by omega)]; simpa using hk)
  exact hs t w ht ha
theorem ints_iin {w : World} {v : Value} {zs : List Int} (h : w.ownsRow 0 3 1 v zs.length (intv zs)) (hz : ∀ z ∈ zs, 0 ≤ z ∧ z ≤ 1000000) : ∃ a c, v = .slice a zs.length c ∧ IIn w a zs := by
  obtain ⟨a, c, hv, hc⟩ := own_ints h
  refine ⟨a, c, hv, ⟨fun k z hk => ?_⟩⟩
  obtain ⟨b, e, hcell⟩ := hc k z hk
  have := hz z (List.mem_of_getElem? hk)
  exact ⟨b, 0, e, World.block_lt_of_cell? w _ hcell, by rw [Nat.zero_add]; exact hcell, by omega, by omega⟩
theorem crash_pend (st : St) (zs : List Int) (h : st.pend.length ≤ 300) : (st.crash zs).pend.length ≤ 9000000000000 := by
  unfold St.crash
  split
  · omega
  · simp [St.settle]
theorem Back.fallTo {st : St} {n : Nat} {P : List ByteArray → Prop} (h : Back st n P) (m : Nat) : (st.fallTo (m : Int)).off = false ∧ (st.fallTo (m : Int)).opn = false ∧ (st.fallTo (m : Int)).pend = [] ∧ (st.fallTo (m : Int)).safe.length = n ∧ P (st.fallTo (m : Int)).safe := ⟨h.off, h.opn, h.pend, h.len, h.may⟩
theorem OKst.toBack {st : St} {n s : Nat} {B : List ByteArray} (h : OKst NN st n s B) (hf : st.fall = 0) : Back st n (fun L => RecL NN L s B) := ⟨h.wf, h.off, h.opn, h.pend, hf, h.len, h.recl⟩
theorem lk7 (k n : Nat) (h : 2 * k + 7 < n) : (1 : Int) < (n : Int) := by omega
theorem gt1 (n : Nat) (h1 : 1 ≤ n) (h : ¬ n = 1) : (1 : Int) < (n : Int) := by omega
set_option maxHeartbeats 4000000 in
set_option maxRecDepth 100000 in
theorem crashed_any {w0 w : World} {rest : List (Th → Prop)} {c : Nat} {st : St} {B : List ByteArray} (h : EnvP w0 w (dk c st :: rest)) (ok : OKst NN st 40 22 B) (hf0 : st.fall = 0) (g off bc : Nat) (l : Il) (k : Nat) (hk : l.length = k) (ha : Arg rest (some ⟨g, off, none⟩) l) (hr : rightB 18 l = true) (h0 : l ≠ []) (h10 : k ≤ 10)
    (n : Nat) (hn1 : 1 ≤ n) (hn2 : n ≤ 1000) (mask : Nat) (hm : mask < 18446744073709551616) (wi : Int) (oa na : Option Addr) (oc nc ol nl : Nat) (hol : B.length = ol) (hnl : (lay B (natL l)).length = nl) (ho : ArgS rest oa B) (hno : ArgS rest na (lay B (natL l))) :
    Calls Try.prog 25 #[pt c, .slice (some ⟨g, off, none⟩) k bc, .int .i64 (n : Int), .int .u64 (mask : Int), .int .i64 wi, .slice oa ol oc, .slice na nl nc] w fun e w' => e = .returned (.tuple #[.bool (decide (2 * k + 7 < n)), .bool true]) ∧ EnvP w0 w' rest := by
  obtain ⟨m5, hm5, hmask⟩ := mask15 wi
  have HL : Hid (l.length = k) := ⟨hk⟩
  have HA : Hid (Arg rest (some ⟨g, off, none⟩) l) := ⟨ha⟩
  have H0 : Hid (l ≠ []) := ⟨h0⟩
  have HR : Hid (rightB 18 l = true) := ⟨hr⟩
  have hkp : 0 < k := by rw [← hk]; exact List.length_pos_iff.2 h0
  obtain ⟨D, hD⟩ : ∃ D, decide (2 * k + 7 < n) = D := ⟨_, rfl⟩
  have HD : Hid (decide (2 * k + 7 < n) = D) := ⟨hD⟩
  rw [hD]
  obtain ⟨B2, hB2⟩ : ∃ B2, lay B (natL l) = B2 := ⟨_, rfl⟩
  rw [hB2] at hnl hno
  have HB2 : Hid (lay B (natL l) = B2) := ⟨hB2⟩
  have HOl : Hid (B.length = ol) := ⟨hol⟩
  have HNl : Hid (B2.length = nl) := ⟨hnl⟩
  have HO : Hid (ArgS rest oa B) := ⟨ho⟩
  have HN : Hid (ArgS rest na B2) := ⟨hno⟩
  have E0 : Hid (EnvP w0 w (dk c st :: rest)) := ⟨h⟩
  have OK : Hid (OKst NN st 40 22 B) := ⟨ok⟩
  have F0 : Hid (st.fall = 0) := ⟨hf0⟩
  have hb18 : B.length = 18 := ok.blen
  have HB18 : Hid (B.length = 18) := ⟨hb18⟩
  have HN1 : Hid (1 ≤ n) := ⟨hn1⟩
  have HM : Hid (mask < 18446744073709551616) := ⟨hm⟩
  have HM1 : Hid (mask / 2 < 18446744073709551616) := ⟨Nat.lt_of_le_of_lt (Nat.div_le_self _ _) hm⟩
  have HM2 : Hid ((mask : Int) / 2 = ((mask / 2 : Nat) : Int)) := ⟨by omega⟩
  have H10 : Hid (k ≤ 10) := ⟨h10⟩
  clear h ok hf0 hk ha hr h0 hD hB2 hol hnl ho hno hb18 hm h10
  go_enter Try.func25, Try.ntmps25
  go_wp2_with fail
  refine (open_rec (s := 22) E0.out OK.out.off OK.out.opn OK.out.pend (by decide) OK.out.len (by decide) OK.out.recl).mono ?_
  rintro e w1 (⟨y, st1, rfl, h1, ok1, f1⟩ | ⟨st1, rfl, h1, _, f1⟩)
  rotate_left
  · exact absurd F0.out f1
  have E1 : Hid (EnvP w0 w1 (lg y c 22 false :: dk c st1 :: rest)) := ⟨h1⟩
  have OK1 : Hid (OKst NN st1 40 22 B) := ⟨ok1⟩
  clear h1 ok1 f1 E0 OK F0
  dsimp only
  go_wp2_with fail
  refine (fall_env E1.out 1 rfl (n : Int) (by omega)).mono ?_
  rintro e w2 ⟨rfl, h2⟩
  have E2 : Hid (EnvP w0 w2 (lg y c 22 false :: dk c (st1.fallTo (n : Int)) :: rest)) := ⟨h2⟩
  have OK2 : Hid (OKst NN (st1.fallTo (n : Int)) 40 22 B) := ⟨OK1.out.fallTo _ (by omega)⟩
  have F2 : Hid ((st1.fallTo (n : Int)).fall = n) := ⟨by simp [St.fallTo]⟩
  clear h2 E1 OK1
  generalize st1.fallTo (n : Int) = st2 at *
  dsimp only
  go_wp2_with (at_builtin; refine app_cw (l := l) (m := k) HL.out (HA.out.win E2.out) hkp (Nat.lt_of_le_of_lt H10.out (by decide)) rfl _ _ rfl rfl rfl ?_; intro v3 c3 w3 q3 b3 hv3)
  have E3 : Hid (EnvP w0 w3 (lg y c 22 false :: dk c st2 :: (rest ++ [rowW (rw_ v3 k c3) l]))) := ⟨E2.out.pushW b3 (by rw [HL.out]; exact q3) (fun j hj => by cases hj; exact hv3)⟩
  clear q3 b3 hv3 E2
  refine (commit_env E3.out OK2.out (by decide) (by decide) (by decide) (some ⟨v3, 0, none⟩) c3 l HL.out.symm (Arg.last rest v3 k c3 l) (by rw [HL.out]; exact Nat.le_trans H10.out (by decide))).mono ?_
  intro e w4 hh
  rcases hh with ⟨h, _⟩ | ⟨_, h, _⟩ | ⟨_, h, _⟩ | ⟨_, _, _, hfl, st4, rfl, h4, ok4, _⟩ | ⟨_, _, _, hf1, hf2, st4, rfl, h4, off4, off1⟩
  · rw [HR.out] at h; cases h
  · exact absurd h H0.out
  · rw [HL.out] at h; have := H10.out; omega
  · have E4 : Hid (EnvP w0 w4 (dk c st4 :: rest)) := ⟨(EnvP.init (Ls := lg y c 22 false :: dk c st4 :: rest) h4).tail⟩
    rw [HB2.out] at ok4
    have hfn : 2 * k + 7 < n := by rw [F2.out, HL.out] at hfl; have := HN1.out; omega
    have hDt : D = true := by rw [← HD.out]; exact decide_eq_true hfn
    subst hDt
    have hn3 := lk7 k n hfn
    have HPL : Hid (st4.pend.length ≤ 300) := ⟨by rw [ok4.pend]; simp⟩
    have OKB : Hid (∀ zs, Back (st4.crash zs).on 40 (fun L => RecL NN L 22 B2)) := ⟨fun zs => (ok4.back zs).1.toBack (ok4.back zs).2⟩
    clear h4 hfl hfn ok4 E3 OK2 F2
    dsimp only
    go_wp2_with fail
    refine (pending_env E4.out 0 rfl (n := (st4.pend.length : Int)) rfl).mono ?_
    rintro e w4 ⟨rfl, rfl⟩
    dsimp only
    go_wp2_with fail
    refine (kept_any mask HM.out st4.pend.length (Nat.le_trans HPL.out (by decide)) w4).mono ?_
    rintro e w5 ⟨vz, zs, rfl, oz, b5, _, hz1, hz2⟩
    obtain ⟨za, zc, hvz, iz⟩ := ints_iin oz hz2
    subst hvz
    have E5 : Hid (EnvP w0 w5 (dk c st4 :: rest)) := ⟨E4.out.below b5⟩
    have IZ : Hid (IIn w5 za zs ∧ zs.length ≤ 1000000) := ⟨⟨iz, hz1⟩⟩
    clear b5 oz hz1 hz2 iz E4
    dsimp only
    go_wp2_with fail
    refine (crash_env E5.out 0 rfl za zc zs (Nat.le_trans HPL.out (by decide)) (Nat.le_trans IZ.out.2 (by decide)) IZ.out.1).mono ?_
    rintro e w6 ⟨rfl, h6⟩
    have E6 : Hid (EnvP w0 w6 (dk c (st4.crash zs) :: rest)) := ⟨h6⟩
    clear h6 E5 IZ
    dsimp only
    go_wp2_with fail
    refine (on_env E6.out 0 rfl (crash_pend st4 zs HPL.out)).mono ?_
    rintro e w7 ⟨rfl, h7⟩
    have E7 : Hid (EnvP w0 w7 (dk c (st4.crash zs).on :: rest)) := ⟨h7⟩
    have BK : Hid (Back (st4.crash zs).on 40 (fun L => RecL NN L 22 B2)) := ⟨OKB.out zs⟩
    clear h7 E6 OKB HPL
    generalize (st4.crash zs).on = st7 at *
    dsimp only
    go_wp2_with fail
    refine (fall_env E7.out 0 rfl (m5 : Int) (by omega)).mono ?_
    rintro e w8 ⟨rfl, h8⟩
    have E8 : Hid (EnvP w0 w8 (dk c (st7.fallTo (m5 : Int)) :: rest)) := ⟨h8⟩
    have B8 := BK.out.fallTo m5
    have HB8 : Hid ((st7.fallTo (m5 : Int)).off = false ∧ (st7.fallTo (m5 : Int)).opn = false ∧ (st7.fallTo (m5 : Int)).pend = [] ∧ (st7.fallTo (m5 : Int)).safe.length = 40 ∧ RecL NN (st7.fallTo (m5 : Int)).safe 22 B2) := ⟨B8⟩
    clear h8 E7 BK B8
    generalize st7.fallTo (m5 : Int) = st8 at *
    dsimp only
    go_wp2_with fail
    refine (open_rec (s := 22) E8.out HB8.out.1 HB8.out.2.1 HB8.out.2.2.1 (by decide) HB8.out.2.2.2.1 (by decide) HB8.out.2.2.2.2).mono ?_
    rintro e w9 (⟨z, st9, rfl, h9, ok9, _⟩ | ⟨st9, rfl, h9, off9, _⟩)
    · have E9 : Hid (EnvP w0 w9 (lg z c 22 false :: dk c st9 :: rest)) := ⟨h9⟩
      have OK9 : Hid (OKst NN st9 40 22 B2) := ⟨ok9⟩
      clear h9 ok9 E8 HB8
      dsimp only
      go_wp2_with fail
      refine (fall_env E9.out 1 rfl 0 (by decide)).mono ?_
      rintro e w13 ⟨rfl, h13⟩
      have E13 : Hid (EnvP w0 w13 (lg z c 22 false :: dk c (st9.fallTo 0) :: rest)) := ⟨h13⟩
      have OK13 : Hid (OKst NN (st9.fallTo 0) 40 22 B2) := ⟨OK9.out.fallTo 0 (by decide)⟩
      clear h13 E9 OK9
      generalize st9.fallTo 0 = st13 at *
      dsimp only
      go_wp2_with fail
      refine (all_env E13.out OK13.out (by decide) (m := 18) rfl).mono ?_
      rintro e w14 ⟨vg, rfl, h14⟩
      have E14 : Hid (EnvP w0 w14 (lg z c 22 false :: dk c st13 :: rowS vg B2 :: rest)) := ⟨h14⟩
      have hg18 : B2.length = 18 := OK13.out.blen
      have QS : Hid (∀ w5, EnvP w0 w5 (lg z c 22 false :: dk c st13 :: rowS vg B2 :: rest) → (Calls Try.prog 22 #[vg, .slice na nl nc] w5 fun e w' => e = .returned (.bool (decide (B2 = B2))) ∧ ∃ m, w' = w5.drewN m) ∧ (Calls Try.prog 22 #[vg, .slice oa ol oc] w5 fun e w' => e = .returned (.bool (decide (B2 = B))) ∧ ∃ m, w' = w5.drewN m) ∧ (Calls Try.prog 22 #[.slice oa ol oc, .slice na nl nc] w5 fun e w' => e = .returned (.bool (decide (B = B2))) ∧ ∃ m, w' = w5.drewN m)) := ⟨fun w5 h5 => by
        obtain ⟨ga, gc, hv, ig⟩ := own_sin (h5.rowSAt 2 rfl)
        have io := HO.out.sin (pre := [lg z c 22 false, dk c st13, rowS vg B2]) h5
        have inn := HN.out.sin (pre := [lg z c 22 false, dk c st13, rowS vg B2]) h5
        have hg : B2.length ≤ 1000000 := by rw [hg18]; decide
        have hb : B.length ≤ 1000000 := by rw [HB18.out]; decide
        rw [hv, ← HNl.out, ← HOl.out]
        exact ⟨same_texts w5 ga na gc nc B2 B2 ig inn hg, same_texts w5 ga oa gc oc B2 B ig io hg, same_texts w5 oa na oc nc B B2 io inn hb⟩⟩
      clear h14 E13 OK13 hg18
      dsimp only
      have d1 : decide (B2 = B2) = true := decide_eq_true rfl
      go_wp2_with fail
      refine (QS.out _ E14.out).1.mono ?_
      rintro e w15 ⟨rfl, j15, rfl⟩
      rw [d1]
      have E15 : Hid (EnvP w0 (w14.drewN j15) (lg z c 22 false :: dk c st13 :: rowS vg B2 :: rest)) := ⟨E14.out.drewN j15⟩
      clear E14
      dsimp only
      go_wp2
      go_ret2
      exact ⟨rfl, E15.out.tail.tail.tail⟩
    · have E9 : Hid (EnvP w0 w9 (dk c st9 :: rest)) := ⟨h9⟩
      have OFF9 : Hid (OFFst st9 40 (fun L => RecL NN L 22 B2)) := ⟨off9⟩
      clear h9 off9 E8 HB8
      have hmm := HM.out
      dsimp only
      go_wp2_with fail
      refine (pending_env E9.out 0 rfl (n := (st9.pend.length : Int)) rfl).mono ?_
      rintro e w9 ⟨rfl, rfl⟩
      dsimp only
      go_wp2_with fail
      have qk := kept_any (mask / 2) HM1.out st9.pend.length (Nat.le_trans OFF9.out.few (by decide)) w9
      rw [← HM2.out] at qk
      refine qk.mono ?_
      rintro e w10 ⟨vz2, zs2, rfl, oz, b10, _, hz1, hz2⟩
      obtain ⟨za2, zc2, hvz, iz⟩ := ints_iin oz hz2
      subst hvz
      have E10 : Hid (EnvP w0 w10 (dk c st9 :: rest)) := ⟨E9.out.below b10⟩
      have IZ : Hid (IIn w10 za2 zs2 ∧ zs2.length ≤ 1000000) := ⟨⟨iz, hz1⟩⟩
      clear b10 oz hz1 hz2 iz E9 qk hmm
      dsimp only
      go_wp2_with fail
      refine (crash_env E10.out 0 rfl za2 zc2 zs2 (Nat.le_trans OFF9.out.few (by decide)) (Nat.le_trans IZ.out.2 (by decide)) IZ.out.1).mono ?_
      rintro e w11 ⟨rfl, h11⟩
      have E11 : Hid (EnvP w0 w11 (dk c (st9.crash zs2) :: rest)) := ⟨h11⟩
      clear h11 E10 IZ
      dsimp only
      go_wp2_with fail
      refine (on_env E11.out 0 rfl (crash_pend st9 zs2 OFF9.out.few)).mono ?_
      rintro e w12 ⟨rfl, h12⟩
      have E12 : Hid (EnvP w0 w12 (dk c (st9.crash zs2).on :: rest)) := ⟨h12⟩
      have BK2 : Hid (Back (st9.crash zs2).on 40 (fun L => RecL NN L 22 B2)) := ⟨OFF9.out.back zs2⟩
      clear h12 E11 OFF9
      generalize (st9.crash zs2).on = st12 at *
      dsimp only
      go_wp2_with fail
      refine (open_rec (s := 22) E12.out BK2.out.off BK2.out.opn BK2.out.pend (by decide) BK2.out.len (by decide) BK2.out.may).mono ?_
      rintro e w9 (⟨z, st9, rfl, h9, ok9, _⟩ | ⟨st9, rfl, h9, _, f9⟩)
      rotate_left
      · exact absurd BK2.out.fall f9
      have E9 : Hid (EnvP w0 w9 (lg z c 22 false :: dk c st9 :: rest)) := ⟨h9⟩
      have OK9 : Hid (OKst NN st9 40 22 B2) := ⟨ok9⟩
      clear h9 ok9 E12 BK2
      dsimp only
      go_wp2_with fail
      refine (fall_env E9.out 1 rfl 0 (by decide)).mono ?_
      rintro e w13 ⟨rfl, h13⟩
      have E13 : Hid (EnvP w0 w13 (lg z c 22 false :: dk c (st9.fallTo 0) :: rest)) := ⟨h13⟩
      have OK13 : Hid (OKst NN (st9.fallTo 0) 40 22 B2) := ⟨OK9.out.fallTo 0 (by decide)⟩
      clear h13 E9 OK9
      generalize st9.fallTo 0 = st13 at *
      dsimp only
      go_wp2_with fail
      refine (all_env E13.out OK13.out (by decide) (m := 18) rfl).mono ?_
      rintro e w14 ⟨vg, rfl, h14⟩
      have E14 : Hid (EnvP w0 w14 (lg z c 22 false :: dk c st13 :: rowS vg B2 :: rest)) := ⟨h14⟩
      have hg18 : B2.length = 18 := OK13.out.blen
      have QS : Hid (∀ w5, EnvP w0 w5 (lg z c 22 false :: dk c st13 :: rowS vg B2 :: rest) → (Calls Try.prog 22 #[vg, .slice na nl nc] w5 fun e w' => e = .returned (.bool (decide (B2 = B2))) ∧ ∃ m, w' = w5.drewN m) ∧ (Calls Try.prog 22 #[vg, .slice oa ol oc] w5 fun e w' => e = .returned (.bool (decide (B2 = B))) ∧ ∃ m, w' = w5.drewN m) ∧ (Calls Try.prog 22 #[.slice oa ol oc, .slice na nl nc] w5 fun e w' => e = .returned (.bool (decide (B = B2))) ∧ ∃ m, w' = w5.drewN m)) := ⟨fun w5 h5 => by
        obtain ⟨ga, gc, hv, ig⟩ := own_sin (h5.rowSAt 2 rfl)
        have io := HO.out.sin (pre := [lg z c 22 false, dk c st13, rowS vg B2]) h5
        have inn := HN.out.sin (pre := [lg z c 22 false, dk c st13, rowS vg B2]) h5
        have hg : B2.length ≤ 1000000 := by rw [hg18]; decide
        have hb : B.length ≤ 1000000 := by rw [HB18.out]; decide
        rw [hv, ← HNl.out, ← HOl.out]
        exact ⟨same_texts w5 ga na gc nc B2 B2 ig inn hg, same_texts w5 ga oa gc oc B2 B ig io hg, same_texts w5 oa na oc nc B B2 io inn hb⟩⟩
      clear h14 E13 OK13 hg18
      dsimp only
      have d1 : decide (B2 = B2) = true := decide_eq_true rfl
      go_wp2_with fail
      refine (QS.out _ E14.out).1.mono ?_
      rintro e w15 ⟨rfl, j15, rfl⟩
      rw [d1]
      have E15 : Hid (EnvP w0 (w14.drewN j15) (lg z c 22 false :: dk c st13 :: rowS vg B2 :: rest)) := ⟨E14.out.drewN j15⟩
      clear E14
      dsimp only
      go_wp2
      go_ret2
      exact ⟨rfl, E15.out.tail.tail.tail⟩
  · have E4 : Hid (EnvP w0 w4 (dk c st4 :: rest)) := ⟨(EnvP.init (Ls := lg y c 22 true :: dk c st4 :: rest) h4).tail⟩
    rw [HB2.out] at off4
    have hfn : ¬ (2 * k + 7 < n) := by rw [F2.out, HL.out] at hf2; omega
    have hDf : D = false := by rw [← HD.out]; exact decide_eq_false hfn
    subst hDf
    have HPL : Hid (st4.pend.length ≤ 300) := ⟨off4.few⟩
    have OKB : Hid (∀ zs, ∃ G, (G = B ∨ G = B2) ∧ (n = 1 → G = B) ∧ Back (st4.crash zs).on 40 (fun L => RecL NN L 22 G)) := ⟨fun zs => by
      by_cases hn1 : n = 1
      · have bb := (off1 (by rw [F2.out]; exact hn1)).back zs
        exact ⟨B, .inl rfl, fun _ => rfl, ⟨bb.wf, bb.off, bb.opn, bb.pend, bb.fall, bb.len, .inl ⟨.inr bb.may.1, bb.may.2⟩⟩⟩
      · have bb := off4.back zs
        rcases bb.may with hm | hm
        · exact ⟨B, .inl rfl, fun e => absurd e hn1, ⟨bb.wf, bb.off, bb.opn, bb.pend, bb.fall, bb.len, hm⟩⟩
        · exact ⟨B2, .inr rfl, fun e => absurd e hn1, ⟨bb.wf, bb.off, bb.opn, bb.pend, bb.fall, bb.len, hm⟩⟩⟩
    clear h4 hf1 hf2 hfn off4 off1 E3 OK2 F2
    dsimp only
    go_wp2_with fail
    refine (pending_env E4.out 0 rfl (n := (st4.pend.length : Int)) rfl).mono ?_
    rintro e w4 ⟨rfl, rfl⟩
    dsimp only
    go_wp2_with fail
    refine (kept_any mask HM.out st4.pend.length (Nat.le_trans HPL.out (by decide)) w4).mono ?_
    rintro e w5 ⟨vz, zs, rfl, oz, b5, _, hz1, hz2⟩
    obtain ⟨za, zc, hvz, iz⟩ := ints_iin oz hz2
    subst hvz
    have E5 : Hid (EnvP w0 w5 (dk c st4 :: rest)) := ⟨E4.out.below b5⟩
    have IZ : Hid (IIn w5 za zs ∧ zs.length ≤ 1000000) := ⟨⟨iz, hz1⟩⟩
    clear b5 oz hz1 hz2 iz E4
    dsimp only
    go_wp2_with fail
    refine (crash_env E5.out 0 rfl za zc zs (Nat.le_trans HPL.out (by decide)) (Nat.le_trans IZ.out.2 (by decide)) IZ.out.1).mono ?_
    rintro e w6 ⟨rfl, h6⟩
    have E6 : Hid (EnvP w0 w6 (dk c (st4.crash zs) :: rest)) := ⟨h6⟩
    clear h6 E5 IZ
    dsimp only
    go_wp2_with fail
    refine (on_env E6.out 0 rfl (crash_pend st4 zs HPL.out)).mono ?_
    rintro e w7 ⟨rfl, h7⟩
    have E7 : Hid (EnvP w0 w7 (dk c (st4.crash zs).on :: rest)) := ⟨h7⟩
    obtain ⟨G, hG, hG1, bk⟩ := OKB.out zs
    have BK : Hid (Back (st4.crash zs).on 40 (fun L => RecL NN L 22 G)) := ⟨bk⟩
    have HG : Hid (G = B ∨ G = B2) := ⟨hG⟩
    have HG1 : Hid (n = 1 → G = B) := ⟨hG1⟩
    clear hG hG1 bk
    clear h7 E6 OKB HPL
    generalize (st4.crash zs).on = st7 at *
    dsimp only
    go_wp2_with fail
    refine (fall_env E7.out 0 rfl (m5 : Int) (by omega)).mono ?_
    rintro e w8 ⟨rfl, h8⟩
    have E8 : Hid (EnvP w0 w8 (dk c (st7.fallTo (m5 : Int)) :: rest)) := ⟨h8⟩
    have B8 := BK.out.fallTo m5
    have HB8 : Hid ((st7.fallTo (m5 : Int)).off = false ∧ (st7.fallTo (m5 : Int)).opn = false ∧ (st7.fallTo (m5 : Int)).pend = [] ∧ (st7.fallTo (m5 : Int)).safe.length = 40 ∧ RecL NN (st7.fallTo (m5 : Int)).safe 22 G) := ⟨B8⟩
    clear h8 E7 BK B8
    generalize st7.fallTo (m5 : Int) = st8 at *
    dsimp only
    go_wp2_with fail
    refine (open_rec (s := 22) E8.out HB8.out.1 HB8.out.2.1 HB8.out.2.2.1 (by decide) HB8.out.2.2.2.1 (by decide) HB8.out.2.2.2.2).mono ?_
    rintro e w9 (⟨z, st9, rfl, h9, ok9, _⟩ | ⟨st9, rfl, h9, off9, _⟩)
    · have E9 : Hid (EnvP w0 w9 (lg z c 22 false :: dk c st9 :: rest)) := ⟨h9⟩
      have OK9 : Hid (OKst NN st9 40 22 G) := ⟨ok9⟩
      clear h9 ok9 E8 HB8
      dsimp only
      go_wp2_with fail
      refine (fall_env E9.out 1 rfl 0 (by decide)).mono ?_
      rintro e w13 ⟨rfl, h13⟩
      have E13 : Hid (EnvP w0 w13 (lg z c 22 false :: dk c (st9.fallTo 0) :: rest)) := ⟨h13⟩
      have OK13 : Hid (OKst NN (st9.fallTo 0) 40 22 G) := ⟨OK9.out.fallTo 0 (by decide)⟩
      clear h13 E9 OK9
      generalize st9.fallTo 0 = st13 at *
      dsimp only
      go_wp2_with fail
      refine (all_env E13.out OK13.out (by decide) (m := 18) rfl).mono ?_
      rintro e w14 ⟨vg, rfl, h14⟩
      have E14 : Hid (EnvP w0 w14 (lg z c 22 false :: dk c st13 :: rowS vg G :: rest)) := ⟨h14⟩
      have hg18 : G.length = 18 := OK13.out.blen
      have QS : Hid (∀ w5, EnvP w0 w5 (lg z c 22 false :: dk c st13 :: rowS vg G :: rest) → (Calls Try.prog 22 #[vg, .slice na nl nc] w5 fun e w' => e = .returned (.bool (decide (G = B2))) ∧ ∃ m, w' = w5.drewN m) ∧ (Calls Try.prog 22 #[vg, .slice oa ol oc] w5 fun e w' => e = .returned (.bool (decide (G = B))) ∧ ∃ m, w' = w5.drewN m) ∧ (Calls Try.prog 22 #[.slice oa ol oc, .slice na nl nc] w5 fun e w' => e = .returned (.bool (decide (B = B2))) ∧ ∃ m, w' = w5.drewN m)) := ⟨fun w5 h5 => by
        obtain ⟨ga, gc, hv, ig⟩ := own_sin (h5.rowSAt 2 rfl)
        have io := HO.out.sin (pre := [lg z c 22 false, dk c st13, rowS vg G]) h5
        have inn := HN.out.sin (pre := [lg z c 22 false, dk c st13, rowS vg G]) h5
        have hg : G.length ≤ 1000000 := by rw [hg18]; decide
        have hb : B.length ≤ 1000000 := by rw [HB18.out]; decide
        rw [hv, ← HNl.out, ← HOl.out]
        exact ⟨same_texts w5 ga na gc nc G B2 ig inn hg, same_texts w5 ga oa gc oc G B ig io hg, same_texts w5 oa na oc nc B B2 io inn hb⟩⟩
      clear h14 E13 OK13 hg18
      dsimp only
      have hGG := HG.out
      have hG1' := HG1.out
      have hnn := HN1.out
      by_cases hGB : G = B2
      · have d1 : decide (G = B2) = true := decide_eq_true hGB
        by_cases hn1 : n = 1
        · have hBB : B = B2 := (hG1' hn1).symm.trans hGB
          have d3 : decide (B = B2) = true := decide_eq_true hBB
          have hni : ¬ ((1 : Int) < (n : Int)) := by omega
          clear hGB hBB hn1 hGG hG1' hnn
          go_wp2_with fail
          refine (QS.out _ E14.out).1.mono ?_
          rintro e w15 ⟨rfl, j15, rfl⟩
          rw [d1]
          have E15 : Hid (EnvP w0 (w14.drewN j15) (lg z c 22 false :: dk c st13 :: rowS vg G :: rest)) := ⟨E14.out.drewN j15⟩
          clear E14
          dsimp only
          go_wp2_with fail
          refine (QS.out _ E15.out).2.2.mono ?_
          rintro e w16 ⟨rfl, j16, rfl⟩
          rw [d3]
          have E16 : Hid (EnvP w0 (w14.drewN (j15 + j16)) (lg z c 22 false :: dk c st13 :: rowS vg G :: rest)) := ⟨by have := E15.out.drewN j16; rwa [World.drewN_drewN] at this⟩
          clear E15
          dsimp only
          go_wp2_with fail
          refine (QS.out _ E16.out).2.2.mono ?_
          rintro e w17 ⟨rfl, j17, rfl⟩
          rw [d3]
          have E17 : Hid (EnvP w0 (w14.drewN (j15 + j16 + j17)) (lg z c 22 false :: dk c st13 :: rowS vg G :: rest)) := ⟨by have := E16.out.drewN j17; rwa [World.drewN_drewN] at this⟩
          clear E16
          dsimp only
          go_wp2
          go_ret2
          exact ⟨rfl, E17.out.tail.tail.tail⟩
        · have hni := gt1 n hnn hn1
          clear hGB hn1 hGG hG1' hnn
          go_wp2_with fail
          refine (QS.out _ E14.out).1.mono ?_
          rintro e w15 ⟨rfl, j15, rfl⟩
          rw [d1]
          have E15 : Hid (EnvP w0 (w14.drewN j15) (lg z c 22 false :: dk c st13 :: rowS vg G :: rest)) := ⟨E14.out.drewN j15⟩
          clear E14
          dsimp only
          go_wp2
          go_ret2
          exact ⟨rfl, E15.out.tail.tail.tail⟩
      · have hGb : G = B := hGG.resolve_right hGB
        have d1 : decide (G = B2) = false := decide_eq_false hGB
        have d2 : decide (G = B) = true := decide_eq_true hGb
        have d3 : decide (B = B2) = false := decide_eq_false (fun e => hGB (hGb.trans e))
        by_cases hn1 : n = 1
        · have hni : ¬ ((1 : Int) < (n : Int)) := by omega
          clear hGB hGb hn1 hGG hG1' hnn
          go_wp2_with fail
          refine (QS.out _ E14.out).1.mono ?_
          rintro e w15 ⟨rfl, j15, rfl⟩
          rw [d1]
          have E15 : Hid (EnvP w0 (w14.drewN j15) (lg z c 22 false :: dk c st13 :: rowS vg G :: rest)) := ⟨E14.out.drewN j15⟩
          clear E14
          dsimp only
          go_wp2_with fail
          refine (QS.out _ E15.out).2.1.mono ?_
          rintro e w16 ⟨rfl, j16, rfl⟩
          rw [d2]
          have E16 : Hid (EnvP w0 (w14.drewN (j15 + j16)) (lg z c 22 false :: dk c st13 :: rowS vg G :: rest)) := ⟨by have := E15.out.drewN j16; rwa [World.drewN_drewN] at this⟩
          clear E15
          dsimp only
          go_wp2_with fail
          refine (QS.out _ E16.out).2.2.mono ?_
          rintro e w17 ⟨rfl, j17, rfl⟩
          rw [d3]
          have E17 : Hid (EnvP w0 (w14.drewN (j15 + j16 + j17)) (lg z c 22 false :: dk c st13 :: rowS vg G :: rest)) := ⟨by have := E16.out.drewN j17; rwa [World.drewN_drewN] at this⟩
          clear E16
          dsimp only
          go_wp2_with fail
          refine (QS.out _ E17.out).2.1.mono ?_
          rintro e w18 ⟨rfl, j18, rfl⟩
          rw [d2]
          have E18 : Hid (EnvP w0 (w14.drewN (j15 + j16 + j17 + j18)) (lg z c 22 false :: dk c st13 :: rowS vg G :: rest)) := ⟨by have := E17.out.drewN j18; rwa [World.drewN_drewN] at this⟩
          clear E17
          dsimp only
          go_wp2
          go_ret2
          exact ⟨rfl, E18.out.tail.tail.tail⟩
        · have hni := gt1 n hnn hn1
          clear hGB hGb hn1 hGG hG1' hnn
          go_wp2_with fail
          refine (QS.out _ E14.out).1.mono ?_
          rintro e w15 ⟨rfl, j15, rfl⟩
          rw [d1]
          have E15 : Hid (EnvP w0 (w14.drewN j15) (lg z c 22 false :: dk c st13 :: rowS vg G :: rest)) := ⟨E14.out.drewN j15⟩
          clear E14
          dsimp only
          go_wp2_with fail
          refine (QS.out _ E15.out).2.1.mono ?_
          rintro e w16 ⟨rfl, j16, rfl⟩
          rw [d2]
          have E16 : Hid (EnvP w0 (w14.drewN (j15 + j16)) (lg z c 22 false :: dk c st13 :: rowS vg G :: rest)) := ⟨by have := E15.out.drewN j16; rwa [World.drewN_drewN] at this⟩
          clear E15
          dsimp only
          go_wp2
          go_ret2
          exact ⟨rfl, E16.out.tail.tail.tail⟩
    · have E9 : Hid (EnvP w0 w9 (dk c st9 :: rest)) := ⟨h9⟩
      have OFF9 : Hid (OFFst st9 40 (fun L => RecL NN L 22 G)) := ⟨off9⟩
      clear h9 off9 E8 HB8
      have hmm := HM.out
      dsimp only
      go_wp2_with fail
      refine (pending_env E9.out 0 rfl (n := (st9.pend.length : Int)) rfl).mono ?_
      rintro e w9 ⟨rfl, rfl⟩
      dsimp only
      go_wp2_with fail
      have qk := kept_any (mask / 2) HM1.out st9.pend.length (Nat.le_trans OFF9.out.few (by decide)) w9
      rw [← HM2.out] at qk
      refine qk.mono ?_
      rintro e w10 ⟨vz2, zs2, rfl, oz, b10, _, hz1, hz2⟩
      obtain ⟨za2, zc2, hvz, iz⟩ := ints_iin oz hz2
      subst hvz
      have E10 : Hid (EnvP w0 w10 (dk c st9 :: rest)) := ⟨E9.out.below b10⟩
      have IZ : Hid (IIn w10 za2 zs2 ∧ zs2.length ≤ 1000000) := ⟨⟨iz, hz1⟩⟩
      clear b10 oz hz1 hz2 iz E9 qk hmm
      dsimp only
      go_wp2_with fail
      refine (crash_env E10.out 0 rfl za2 zc2 zs2 (Nat.le_trans OFF9.out.few (by decide)) (Nat.le_trans IZ.out.2 (by decide)) IZ.out.1).mono ?_
      rintro e w11 ⟨rfl, h11⟩
      have E11 : Hid (EnvP w0 w11 (dk c (st9.crash zs2) :: rest)) := ⟨h11⟩
      clear h11 E10 IZ
      dsimp only
      go_wp2_with fail
      refine (on_env E11.out 0 rfl (crash_pend st9 zs2 OFF9.out.few)).mono ?_
      rintro e w12 ⟨rfl, h12⟩
      have E12 : Hid (EnvP w0 w12 (dk c (st9.crash zs2).on :: rest)) := ⟨h12⟩
      have BK2 : Hid (Back (st9.crash zs2).on 40 (fun L => RecL NN L 22 G)) := ⟨OFF9.out.back zs2⟩
      clear h12 E11 OFF9
      generalize (st9.crash zs2).on = st12 at *
      dsimp only
      go_wp2_with fail
      refine (open_rec (s := 22) E12.out BK2.out.off BK2.out.opn BK2.out.pend (by decide) BK2.out.len (by decide) BK2.out.may).mono ?_
      rintro e w9 (⟨z, st9, rfl, h9, ok9, _⟩ | ⟨st9, rfl, h9, _, f9⟩)
      rotate_left
      · exact absurd BK2.out.fall f9
      have E9 : Hid (EnvP w0 w9 (lg z c 22 false :: dk c st9 :: rest)) := ⟨h9⟩
      have OK9 : Hid (OKst NN st9 40 22 G) := ⟨ok9⟩
      clear h9 ok9 E12 BK2
      dsimp only
      go_wp2_with fail
      refine (fall_env E9.out 1 rfl 0 (by decide)).mono ?_
      rintro e w13 ⟨rfl, h13⟩
      have E13 : Hid (EnvP w0 w13 (lg z c 22 false :: dk c (st9.fallTo 0) :: rest)) := ⟨h13⟩
      have OK13 : Hid (OKst NN (st9.fallTo 0) 40 22 G) := ⟨OK9.out.fallTo 0 (by decide)⟩
      clear h13 E9 OK9
      generalize st9.fallTo 0 = st13 at *
      dsimp only
      go_wp2_with fail
      refine (all_env E13.out OK13.out (by decide) (m := 18) rfl).mono ?_
      rintro e w14 ⟨vg, rfl, h14⟩
      have E14 : Hid (EnvP w0 w14 (lg z c 22 false :: dk c st13 :: rowS vg G :: rest)) := ⟨h14⟩
      have hg18 : G.length = 18 := OK13.out.blen
      have QS : Hid (∀ w5, EnvP w0 w5 (lg z c 22 false :: dk c st13 :: rowS vg G :: rest) → (Calls Try.prog 22 #[vg, .slice na nl nc] w5 fun e w' => e = .returned (.bool (decide (G = B2))) ∧ ∃ m, w' = w5.drewN m) ∧ (Calls Try.prog 22 #[vg, .slice oa ol oc] w5 fun e w' => e = .returned (.bool (decide (G = B))) ∧ ∃ m, w' = w5.drewN m) ∧ (Calls Try.prog 22 #[.slice oa ol oc, .slice na nl nc] w5 fun e w' => e = .returned (.bool (decide (B = B2))) ∧ ∃ m, w' = w5.drewN m)) := ⟨fun w5 h5 => by
        obtain ⟨ga, gc, hv, ig⟩ := own_sin (h5.rowSAt 2 rfl)
        have io := HO.out.sin (pre := [lg z c 22 false, dk c st13, rowS vg G]) h5
        have inn := HN.out.sin (pre := [lg z c 22 false, dk c st13, rowS vg G]) h5
        have hg : G.length ≤ 1000000 := by rw [hg18]; decide
        have hb : B.length ≤ 1000000 := by rw [HB18.out]; decide
        rw [hv, ← HNl.out, ← HOl.out]
        exact ⟨same_texts w5 ga na gc nc G B2 ig inn hg, same_texts w5 ga oa gc oc G B ig io hg, same_texts w5 oa na oc nc B B2 io inn hb⟩⟩
      clear h14 E13 OK13 hg18
      dsimp only
      have hGG := HG.out
      have hG1' := HG1.out
      have hnn := HN1.out
      by_cases hGB : G = B2
      · have d1 : decide (G = B2) = true := decide_eq_true hGB
        by_cases hn1 : n = 1
        · have hBB : B = B2 := (hG1' hn1).symm.trans hGB
          have d3 : decide (B = B2) = true := decide_eq_true hBB
          have hni : ¬ ((1 : Int) < (n : Int)) := by omega
          clear hGB hBB hn1 hGG hG1' hnn
          go_wp2_with fail
          refine (QS.out _ E14.out).1.mono ?_
          rintro e w15 ⟨rfl, j15, rfl⟩
          rw [d1]
          have E15 : Hid (EnvP w0 (w14.drewN j15) (lg z c 22 false :: dk c st13 :: rowS vg G :: rest)) := ⟨E14.out.drewN j15⟩
          clear E14
          dsimp only
          go_wp2_with fail
          refine (QS.out _ E15.out).2.2.mono ?_
          rintro e w16 ⟨rfl, j16, rfl⟩
          rw [d3]
          have E16 : Hid (EnvP w0 (w14.drewN (j15 + j16)) (lg z c 22 false :: dk c st13 :: rowS vg G :: rest)) := ⟨by have := E15.out.drewN j16; rwa [World.drewN_drewN] at this⟩
          clear E15
          dsimp only
          go_wp2_with fail
          refine (QS.out _ E16.out).2.2.mono ?_
          rintro e w17 ⟨rfl, j17, rfl⟩
          rw [d3]
          have E17 : Hid (EnvP w0 (w14.drewN (j15 + j16 + j17)) (lg z c 22 false :: dk c st13 :: rowS vg G :: rest)) := ⟨by have := E16.out.drewN j17; rwa [World.drewN_drewN] at this⟩
          clear E16
          dsimp only
          go_wp2
          go_ret2
          exact ⟨rfl, E17.out.tail.tail.tail⟩
        · have hni := gt1 n hnn hn1
          clear hGB hn1 hGG hG1' hnn
          go_wp2_with fail
          refine (QS.out _ E14.out).1.mono ?_
          rintro e w15 ⟨rfl, j15, rfl⟩
          rw [d1]
          have E15 : Hid (EnvP w0 (w14.drewN j15) (lg z c 22 false :: dk c st13 :: rowS vg G :: rest)) := ⟨E14.out.drewN j15⟩
          clear E14
          dsimp only
          go_wp2
          go_ret2
          exact ⟨rfl, E15.out.tail.tail.tail⟩
      · have hGb : G = B := hGG.resolve_right hGB
        have d1 : decide (G = B2) = false := decide_eq_false hGB
        have d2 : decide (G = B) = true := decide_eq_true hGb
        have d3 : decide (B = B2) = false := decide_eq_false (fun e => hGB (hGb.trans e))
        by_cases hn1 : n = 1
        · have hni : ¬ ((1 : Int) < (n : Int)) := by omega
          clear hGB hGb hn1 hGG hG1' hnn
          go_wp2_with fail
          refine (QS.out _ E14.out).1.mono ?_
          rintro e w15 ⟨rfl, j15, rfl⟩
          rw [d1]
          have E15 : Hid (EnvP w0 (w14.drewN j15) (lg z c 22 false :: dk c st13 :: rowS vg G :: rest)) := ⟨E14.out.drewN j15⟩
          clear E14
          dsimp only
          go_wp2_with fail
          refine (QS.out _ E15.out).2.1.mono ?_
          rintro e w16 ⟨rfl, j16, rfl⟩
          rw [d2]
          have E16 : Hid (EnvP w0 (w14.drewN (j15 + j16)) (lg z c 22 false :: dk c st13 :: rowS vg G :: rest)) := ⟨by have := E15.out.drewN j16; rwa [World.drewN_drewN] at this⟩
          clear E15
          dsimp only
          go_wp2_with fail
          refine (QS.out _ E16.out).2.2.mono ?_
          rintro e w17 ⟨rfl, j17, rfl⟩
          rw [d3]
          have E17 : Hid (EnvP w0 (w14.drewN (j15 + j16 + j17)) (lg z c 22 false :: dk c st13 :: rowS vg G :: rest)) := ⟨by have := E16.out.drewN j17; rwa [World.drewN_drewN] at this⟩
          clear E16
          dsimp only
          go_wp2_with fail
          refine (QS.out _ E17.out).2.1.mono ?_
          rintro e w18 ⟨rfl, j18, rfl⟩
          rw [d2]
          have E18 : Hid (EnvP w0 (w14.drewN (j15 + j16 + j17 + j18)) (lg z c 22 false :: dk c st13 :: rowS vg G :: rest)) := ⟨by have := E17.out.drewN j18; rwa [World.drewN_drewN] at this⟩
          clear E17
          dsimp only
          go_wp2
          go_ret2
          exact ⟨rfl, E18.out.tail.tail.tail⟩
        · have hni := gt1 n hnn hn1
          clear hGB hGb hn1 hGG hG1' hnn
          go_wp2_with fail
          refine (QS.out _ E14.out).1.mono ?_
          rintro e w15 ⟨rfl, j15, rfl⟩
          rw [d1]
          have E15 : Hid (EnvP w0 (w14.drewN j15) (lg z c 22 false :: dk c st13 :: rowS vg G :: rest)) := ⟨E14.out.drewN j15⟩
          clear E14
          dsimp only
          go_wp2_with fail
          refine (QS.out _ E15.out).2.1.mono ?_
          rintro e w16 ⟨rfl, j16, rfl⟩
          rw [d2]
          have E16 : Hid (EnvP w0 (w14.drewN (j15 + j16)) (lg z c 22 false :: dk c st13 :: rowS vg G :: rest)) := ⟨by have := E15.out.drewN j16; rwa [World.drewN_drewN] at this⟩
          clear E15
          dsimp only
          go_wp2
          go_ret2
          exact ⟨rfl, E16.out.tail.tail.tail⟩
end Go.Proofs.Ytmcdohpeibipkaa
