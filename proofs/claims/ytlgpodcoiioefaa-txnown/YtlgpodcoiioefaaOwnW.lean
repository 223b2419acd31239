/- TxnOwn: the walk. -/
import Derived.Test.YtlgpodcoiioefaaOwn
import Derived.Deep.CutRange
namespace Go.Proofs.Ytlgpodcoiioefaa
set_option linter.unusedVariables false
set_option linter.unusedSimpArgs false
open Go.RowKit Go.Maps
theorem EnvP.appR {W w w' : World} {Ls : List (Th → Prop)} {ra : Option Addr} {rc y c2 N : Nat} {R : Wl} {t : ByteArray} (h : EnvP W w Ls) (i : Nat) (hi : Ls[i]? = some (rowW (.slice ra R.length rc) (ints R)))
    (q8 : w'.ownsRow 0 33 2 (rw_ y (R.length + 1) c2) (R.length + 1) (wci (ints R ++ [((N : Int), t)]))) (g8 : w.grownBy w' (Value.slice ra R.length rc).ownBlock) (n8 : (Value.slice ra R.length rc).ownBlock = some y ∨ w.heap.size ≤ y) :
    EnvP W w' (Ls.set i (rowW (.slice (some ⟨y, 0, none⟩) (R ++ [(N, t)]).length c2) (ints (R ++ [(N, t)])))) := by
  have e1 : ints (R ++ [(N, t)]) = ints R ++ [((N : Int), t)] := by simp [ints]
  have e2 : (R ++ [(N, t)]).length = R.length + 1 := by simp
  rw [e1, e2]
  exact h.appW i hi (v' := rw_ y (R.length + 1) c2) (l' := ints R ++ [((N : Int), t)]) (by rw [List.length_append, ints_length]; exact q8) g8 (fun k hk => by cases hk; exact n8)
theorem EnvP.rowRAt {W w : World} {Ls : List (Th → Prop)} {ra : Option Addr} {rc : Nat} {R : Wl} (h : EnvP W w Ls) (i : Nat) (hi : Ls[i]? = some (rowW (.slice ra R.length rc) (ints R))) : w.ownsRow 0 33 2 (.slice ra R.length rc) (ints R).length (wci (ints R)) := h.rowWAt i hi
theorem EnvP.rowWIn {W w : World} {Ls : List (Th → Prop)} {ra : Option Addr} {rc : Nat} {R : Wl} (h : EnvP W w Ls) (i : Nat) (hi : Ls[i]? = some (rowW (.slice ra R.length rc) (ints R))) : WIn w ra (ints R) := by
  have o := h.rowRAt i hi
  rcases o.2 with ⟨e, h0⟩ | ⟨g, cap, cur, e, _⟩
  · rw [ints_length] at h0
    have : R = [] := List.eq_nil_of_length_eq_zero h0
    subst this
    intro k z hz; simp [ints] at hz
  · injection e with e1 _ _
    subst e1
    intro k z hz
    obtain ⟨c0, c1⟩ := own_cell2 (l := ints R) o k _ hz
    exact ⟨g, 0, rfl, by rw [Nat.zero_add]; exact c0, by rw [Nat.zero_add]; exact c1⟩
theorem app_texts {ops : Array Oper} {rest : List Oper} {o : Oper} {a : Act} {Q : Exit → Act → World → Prop} {w w0 : World} {g gb c : Nat} {B : List ByteArray}
    (hw : w0 = w.alloc (.cells #[] 9)) (hg : g = w.heap.size) (hin : w.ownsRow 0 9 1 (.slice (some ⟨gb, 0, none⟩) B.length c) B.length (strv B)) (hB : B.length ≤ 8192) (h1 : 1 ≤ B.length)
    (hgd : o.guard = none) (s x : Operand) (ho : o.op = .call { callee := .builtin .append, args := #[s, x], argTypes := #[36, 36] })
    (hs : a.eval s = .slice (some ⟨g, 0, none⟩) 0 0) (hx : a.eval x = .slice (some ⟨gb, 0, none⟩) B.length c)
    (h : ∀ y cap w', w'.ownsRow 0 9 1 (rw_ y B.length cap) B.length (strv B) → Below w.heap.size w w' → w.heap.size ≤ y → wpList Try.prog ops Q rest (a.put o.dst (rw_ y B.length cap)) w') : wpList Try.prog ops Q (o :: rest) a w0 := by
  subst hw hg
  obtain ⟨i0, hi0, hz0, hz1, hz2⟩ := info_parts infoSf
  have hm : maxLen = 9223372036854775807 := rfl
  have hnews : ∀ j u, (strv B)[j]? = some u → (w.alloc (.cells #[] 9)).cell? ((⟨gb, 0, none⟩ : Addr).add j) = some u := fun j u hj => by
    have hadd : (⟨gb, 0, none⟩ : Addr).add j = ⟨gb, j, none⟩ := by unfold Addr.add; split <;> simp_all
    have hjl := (List.getElem?_eq_some_iff.1 hj).1
    rw [strv_length] at hjl
    rw [hadd]
    exact ((hin.alloc (.cells #[] 9)).cellAt j (by omega)).trans hj
  refine wpList_append_own_wide _ hgd s x 36 ho w.heap.size 9 i0 _ 1 16 Try.underlying36 hi0 hz0 hz1 hz2 rfl (by omega) (.slice (some ⟨w.heap.size, 0, none⟩) 0 0) 0 [] hs (World.ownsRow_made w #[] 0 (Nat.le_refl _) (by rw [hm]; omega) rfl) ⟨gb, 0, none⟩ B.length c (strv B) hx (by rw [strv_length, Nat.mul_one]) hnews (fun u hu => by obtain ⟨t, _, rfl⟩ := List.mem_map.1 hu; rfl) (by rw [hm]; omega) (by omega) (by simp) ?_
  intro v' w' q1 q2 _
  rw [Nat.zero_add, List.nil_append] at q1
  rcases q1.2 with ⟨_, h0⟩ | ⟨y, cap, cur, rfl, hy, _⟩
  · omega
  · refine h y cap w' (ownsRow_base_a q1 (Nat.zero_le _)) (((Below.refl _ _).alloc (Nat.le_refl _) _).trans ((Below.refl _ _).grown q2 (by simp) (fun k hk => by cases hk; exact Nat.le_refl _))) hy
theorem EnvP.setS {W w : World} {Ls : List (Th → Prop)} {y n cap : Nat} {l : List ByteArray} (h : EnvP W w Ls) (i : Nat) (hi : Ls[i]? = some (rowS (rw_ y n cap) l)) (hn : n = l.length) (k : Nat) (t : ByteArray) : EnvP W (w.setCell ⟨y, k, none⟩ (.string t)) (Ls.set i (rowS (rw_ y n cap) (l.set k t))) := by
  subst hn
  have o := h.rowSAt i hi
  obtain ⟨o2, g2⟩ := o.stored k (.string t)
  refine h.appS i hi (v' := rw_ y l.length cap) (l' := l.set k t) ?_ g2 (fun j hj => .inl hj)
  have e : strv (l.set k t) = (strv l).set k (.string t) := by unfold strv; rw [List.map_set]
  rw [e, List.length_set]
  exact o2
theorem mix_step (F B : List ByteArray) (hl : F.length = B.length) (k : Nat) (hk : k < B.length) : (F.take k ++ B.drop k).set k (F.getD k ByteArray.empty) = F.take (k + 1) ++ B.drop (k + 1) := by
  have h1 : (F.take k).length = k := by rw [List.length_take]; omega
  rw [List.set_append_right _ _ (by omega), h1, Nat.sub_self, List.drop_eq_getElem_cons hk, List.set_cons_zero, List.take_succ_eq_append_getElem (by omega), List.append_assoc, List.getD_eq_getElem?_getD, List.getElem?_eq_getElem (by omega)]
  rfl
theorem mix_same (F B : List ByteArray) (hl : F.length = B.length) (k : Nat) (hk : k < B.length) (h : F.getD k ByteArray.empty = B.getD k ByteArray.empty) : F.take k ++ B.drop k = F.take (k + 1) ++ B.drop (k + 1) := by
  rw [← mix_step F B hl k hk, h]
  have h1 : (F.take k).length = k := by rw [List.length_take]; omega
  rw [List.set_append_right _ _ (by omega), h1, Nat.sub_self, List.drop_eq_getElem_cons hk, List.set_cons_zero, List.getD_eq_getElem?_getD, List.getElem?_eq_getElem hk]
  rfl
theorem mix_at (F B : List ByteArray) (hl : F.length = B.length) (k : Nat) (hk : k < B.length) : (F.take (k + 1) ++ B.drop (k + 1))[k]? = some (F.getD k ByteArray.empty) := by
  rw [List.getElem?_append_left (by rw [List.length_take]; omega), List.getElem?_take, if_pos (by omega), List.getD_eq_getElem?_getD, List.getElem?_eq_getElem (by omega)]; rfl
theorem sameAll {W w : World} {rest : List (Th → Prop)} {q p s n : Nat} {st : St} {B : List ByteArray} (h : EnvP W w (lg q p s false :: dk p st :: rest)) (ok : OKst NN st n s B) (hs : s < n) :
    Calls Try.prog 11 #[pt q] w fun e w' => ∃ v, e = .returned v ∧ ∀ (i : Nat) va, rest[i]? = some (rowS va B) → Calls Try.prog 15 #[v, va] w' fun e w2 => e = .returned (.bool true) ∧ EnvP W w2 (lg q p s false :: dk p st :: rest) := by
  refine (all_env h ok hs).mono ?_
  rintro e w' ⟨v, rfl, h7⟩
  refine ⟨v, rfl, fun i va hi => ?_⟩
  obtain ⟨a1, c1, rfl, s1⟩ := own_sin (h7.rowSAt 2 rfl)
  obtain ⟨a2, c2, rfl, s2⟩ := own_sin (h7.rowSAt (i + 3) (by simpa using hi))
  have hB := ok.blen
  have hhi : n ≤ 8192 := by have := ok.wf.hi; rw [ok.len] at this; exact this
  refine (same_texts w' a1 a2 c1 c2 B B s1 s2 (by omega)).mono ?_
  rintro e w2 ⟨rfl, m, rfl⟩
  rw [decide_eq_true rfl]
  exact ⟨rfl, h7.del3.drewN m⟩
set_option maxRecDepth 100000 in
theorem txnOwn_bad (n z : Int) (v1 v2 v3 : Value) (W : World) (hg : ¬ good n z) : Calls Try.prog 3 #[.int .i64 n, .int .i64 z, v1, v2, v3] W fun e W' => e = .returned (.bool true) ∧ Below W.heap.size W W' := by
  have qF := first_any W
  have qM : Hid (∀ w5, Calls Try.prog 6 #[.int .i64 n, .int .i64 z] w5 fun e w' => e = .returned (.tuple #[.pointer none, .pointer none]) ∧ Below w5.heap.size w5 w') := ⟨fun w5 => by
    refine (made_bad (EnvP.nil w5) n z hg).mono ?_
    rintro e w' ⟨rfl, h⟩
    exact ⟨rfl, h.bel⟩⟩
  clear hg
  go_enter Try.func3, Try.ntmps3
  go_wp2_with fail
  refine qF.mono ?_
  rintro e w1 ⟨rfl, b1⟩
  dsimp only
  go_wp2_with fail
  refine (qM.out w1).mono ?_
  rintro e w2 ⟨rfl, b2⟩
  dsimp only
  go_wp2
  go_ret
  exact ⟨rfl, b1.trans (b2.mono b1.size)⟩
set_option maxHeartbeats 16000000 in
set_option maxRecDepth 100000 in
theorem txnOwn_good (n s : Nat) (h8 : n ≤ 8192) (h4 : 4 ≤ s) (hs : s < n) (l1 : Il) (a1 : Option Addr) (cap1 : Nat) (l2 : Il) (a2 : Option Addr) (cap2 : Nat) (cm : Bool) (W : World) (hin1 : WAt W a1 l1) (hl1 : l1.length ≤ 5864062014634) (hin2 : WAt W a2 l2) (hl2 : l2.length ≤ 5864062014634) : Calls Try.prog 3 #[.int .i64 (n : Int), .int .i64 (s : Int), .slice a1 l1.length cap1, .slice a2 l2.length cap2, .bool cm] W fun e W' => e = .returned (.bool true) ∧ Below W.heap.size W W' := by
  have qF := first_any W
  have qM : Hid (∀ w5 Ls, EnvP W w5 Ls → Calls Try.prog 6 #[.int .i64 (n : Int), .int .i64 (s : Int)] w5 fun e w' => ∃ q p st, e = .returned (.tuple #[pt q, pt p]) ∧ EnvP W w' (lg q p s false :: dk p st :: Ls) ∧ OKst NN st n s (List.replicate (n - s) (fl 0)) ∧ st.fall = 0) := ⟨fun w5 Ls h5 => made_good h5 n s h8 h4 hs⟩
  have HI1 : Hid (WAt W a1 l1) := ⟨hin1⟩
  have HI2 : Hid (WAt W a2 l2) := ⟨hin2⟩
  clear hin1 hin2
  go_enter Try.func3, Try.ntmps3
  go_wp2_with fail
  refine qF.mono ?_
  rintro e w1 ⟨rfl, b1⟩
  have E1 : EnvP W w1 [] := (EnvP.nil W).below b1
  have Q1 := qM.out w1 [] E1
  clear E1 b1
  dsimp only
  go_wp2_with fail
  refine Q1.mono ?_
  rintro e w2 ⟨q, p, st, rfl, h2, ok1, f1⟩
  have K1 : Hid (OKst NN st n s (List.replicate (n - s) (fl 0)) ∧ st.fall = 0) := ⟨ok1, f1⟩
  have Q3 := tbegin_env h2 q
  clear h2 Q1 ok1 f1
  dsimp only
  go_wp2_with fail
  refine Q3.mono ?_
  rintro e w4 ⟨x, rfl, h4e⟩
  have H4 : Hid (EnvP W w4 (lg q p s false :: dk p st :: [tx x q [] false])) := ⟨h4e⟩
  clear h4e Q3 qM qF
  dsimp only
  go_wp2_with fail
  go_loopw [14] (fun i wr => ∃ (k : Nat) (W0 : Wl), k ≤ l1.length ∧ i = .int .i64 (k : Int) ∧ Hid (Rising W0 ∧ InB (n - s) W0) ∧ Hid (EnvP W wr (lg q p s false :: dk p st :: [tx x q W0 false]))) (fun i _ => l1.length - (intOf i).toNat)
  case atStart => exact ⟨0, [], Nat.zero_le _, rfl, ⟨List.Pairwise.nil, InB.nil _⟩, H4⟩
  case round =>
    obtain ⟨k, W0, hk, rfl, RW, E⟩ := hrel
    clear H4
    by_cases hlt : k < l1.length
    · obtain ⟨⟨z, T⟩, hz⟩ : ∃ z, l1[k]? = some z := ⟨_, List.getElem?_eq_getElem hlt⟩
      obtain ⟨b, off, rfl, hb, ⟨cN0, cT0⟩, ⟨z1, z2⟩, hT⟩ := HI1.out.get k _ hz
      simp only at cN0 cT0 z1 z2 hT
      have cN := later_cell E.out.bel hb cN0
      have cT := later_cell E.out.bel hb cT0
      have hi : (k : Int) < l1.length := by omega
      have hw1 : wrap64 ((k : Int) + 1) = ((k + 1 : Nat) : Int) := by unfold wrap64; omega
      have hle := RW.out.1.length RW.out.2
      have qU : Hid (∀ w5, Calls Try.prog 9 #[.string T] w5 fun e w' => e = .returned (.string (fu T)) ∧ Below w5.heap.size w5 w') := ⟨fun w5 => full_any T w5⟩
      have qW : Hid (∀ w5, EnvP W w5 (lg q p s false :: dk p st :: [tx x q W0 false]) → Calls Try.prog 8 #[pt x, .int .i64 z, .string (fu T)] w5 fun e w' => ∃ r W1, e = .returned (.int .i64 r) ∧ (Rising W1 ∧ InB (n - s) W1) ∧ EnvP W w' (lg q p s false :: dk p st :: [tx x q W1 false])) := ⟨fun w5 h5 => by
        by_cases hg : 0 ≤ z ∧ z < ((n - s : Nat) : Int) ∧ (fu T).size = 512
        · obtain ⟨N, rfl⟩ : ∃ N : Nat, z = N := ⟨z.toNat, by omega⟩
          refine (twrite_run h5 (by rw [K1.out.1.len]; omega) 0 rfl N (fu T) (m := n - s) (by rw [K1.out.1.len]) (by omega) hg.2.2 RW.out.1 (by omega)).mono ?_
          rintro e w' ⟨rfl, h6⟩
          exact ⟨0, insW N (fu T) W0, rfl, ⟨RW.out.1.ins, RW.out.2.ins (by omega) hg.2.2⟩, h6⟩
        · refine (twrite_bad h5 (by rw [K1.out.1.len]; omega) 0 rfl z (fu T) (m := n - s) (by rw [K1.out.1.len]) hg).mono ?_
          rintro e w' ⟨rfl, h6⟩
          exact ⟨1, W0, rfl, RW.out, h6⟩⟩
      generalize fu T = X at *
      have HC0 : Hid (W.cell? ⟨b, off + k * 2, none⟩ = some (.int .i64 z) ∧ W.cell? ⟨b, off + k * 2 + 1, none⟩ = some (.string T)) := ⟨cN0, cT0⟩
      clear hz cN0 cT0
      have CS : Hid (∀ w', Below W.heap.size W w' → w'.cell? ⟨b, off + k * 2, none⟩ = some (.int .i64 z) ∧ w'.cell? ⟨b, off + k * 2 + 1, none⟩ = some (.string T)) := ⟨fun w' bw => ⟨later_cell bw hb HC0.out.1, later_cell bw hb HC0.out.2⟩⟩
      have qF : Hid (∀ w5, EnvP W w5 (lg q p s false :: dk p st :: [tx x q W0 false]) → Calls Try.prog 9 #[.string T] w5 fun e w' => e = .returned (.string X) ∧ EnvP W w' (lg q p s false :: dk p st :: [tx x q W0 false])) := ⟨fun w5 h5 => (qU.out w5).mono (fun e w' h => ⟨h.1, h5.below h.2⟩)⟩
      go_wp2_with fail
      have E7 := E.out.drew
      clear E qU
      go_region_held3 (fun w' => w'.cell? ⟨b, off + k * 2, none⟩ = some (.int .i64 z) ∧ w'.cell? ⟨b, off + k * 2 + 1, none⟩ = some (.string T)) (first | exact CS.out _ E7.bel | exact CS.out _ h5.bel | exact CS.out _ h6.bel | assumption)
        ((first
          | (go_at_call 9; refine (qF.out _ (by assumption)).mono ?_; rintro e w5 ⟨rfl, h5⟩)
          | (go_at_call 8; refine (qW.out _ (by assumption)).mono ?_; rintro e w6 ⟨r, W1, rfl, hr, h6⟩)))
      have R8 : Hid (EnvP W w6 (lg q p s false :: dk p st :: [tx x q W1 false])) := ⟨h6⟩
      have R9 : Hid (Rising W1 ∧ InB (n - s) W1) := ⟨hr⟩
      clear h6 h5 E7 qW qF hr
      go_wp2
      go_roundw
      case rel => exact ⟨k + 1, W1, by omega, by go_num, R9, R8⟩
      case measure => simp [intOf]; omega
    · have hke : k = l1.length := by omega
      subst hke
      have hi : ¬ ((l1.length : Int) < l1.length) := by omega
      have qC := tcommit_all E.out 0 rfl K1.out.1 K1.out.2 h4 hs RW.out.1 RW.out.2
      clear E K1 RW
      go_wp2_with fail
      refine qC.mono ?_
      rintro e w5 ⟨r, st', B, rfl, h5, ok5, f5, _⟩
      have K5 : Hid (OKst NN st' n s B ∧ st'.fall = 0) := ⟨ok5, f5⟩
      have hBl := ok5.blen
      have qA := all_env h5 ok5 hs
      clear h5 qC ok5 f5
      dsimp only
      go_wp2_with fail
      refine qA.mono ?_
      rintro e w6 ⟨va, rfl, h6⟩
      have hSv := (h6.rowSAt 2 rfl)
      obtain ⟨vaa, vac, rfl⟩ := own_slice hSv
      have qT := tbegin_env h6 q
      clear h6 qA hSv
      dsimp only
      go_wp2_with fail
      refine qT.mono ?_
      rintro e w7 ⟨y, rfl, h7⟩
      have hBi : (B.length : Int) = (n : Int) - (s : Int) := by omega
      have qB := blocks_env (rest := [rowS (.slice vaa B.length vac) B, tx x q [] true, tx y q [] false]) h7 (by rw [K5.out.1.len]; omega)
      rw [K5.out.1.len, ← hBi] at qB
      have HBL : Hid (B.length = n - s) := ⟨hBl⟩
      have hb1 : 1 ≤ B.length := by omega
      have hb8 : B.length ≤ 8192 := by omega
      clear hBl hBi
      have H7 : Hid (EnvP W w7 (lg q p s false :: dk p st' :: [rowS (.slice vaa B.length vac) B, tx x q [] true, tx y q [] false])) := ⟨h7⟩
      clear h7 qT
      dsimp only
      go_wp2_with fail
      refine qB.mono ?_
      rintro e w8 ⟨rfl, j8, rfl⟩
      have H8 : Hid (EnvP W (w7.drewN j8) (lg q p s false :: dk p st' :: [rowS (.slice vaa B.length vac) B, tx x q [] true, tx y q [] false, rowW (.slice none ([] : Wl).length 0) (ints ([] : Wl))])) := ⟨EnvP.nilW (Ls := lg q p s false :: dk p st' :: [rowS (.slice vaa B.length vac) B, tx x q [] true, tx y q [] false]) (H7.out.drewN j8)⟩
      clear H7 qB
      generalize w7.drewN j8 = W8 at *
      dsimp only
      go_wp2_with fail
      go_loopw [16, 17] (fun v i wr => ∃ (k : Nat) (W0 L : Wl) (ma : Option Addr) (mc : Nat), k ≤ l2.length ∧ i = .int .i64 (k : Int) ∧ v = .slice ma L.length mc ∧ L.length ≤ k ∧ Hid (Rising W0 ∧ InB (n - s) W0 ∧ ∀ i, lookW W0 i = lastW L i) ∧ Hid (EnvP W wr (lg q p s false :: dk p st' :: [rowS (.slice vaa B.length vac) B, tx x q [] true, tx y q W0 false, rowW (.slice ma L.length mc) (ints L)]))) (fun _ i _ => l2.length - (intOf i).toNat)
      case atStart => exact ⟨0, [], [], none, 0, Nat.zero_le _, rfl, rfl, Nat.zero_le _, ⟨List.Pairwise.nil, InB.nil _, fun i => rfl⟩, H8⟩
      case round =>
        obtain ⟨k, W0, L, ma, mc, hk, rfl, rfl, hLk, RW, E⟩ := hrel
        clear H8
        by_cases hlt : k < l2.length
        · obtain ⟨⟨z, T⟩, hz⟩ : ∃ z, l2[k]? = some z := ⟨_, List.getElem?_eq_getElem hlt⟩
          obtain ⟨b, off, rfl, hb, ⟨cN0, cT0⟩, ⟨z1, z2⟩, hT⟩ := HI2.out.get k _ hz
          simp only at cN0 cT0 z1 z2 hT
          have HC : Hid (∀ w', Below W.heap.size W w' → w'.cell? ⟨b, off + k * 2, none⟩ = some (.int .i64 z) ∧ w'.cell? ⟨b, off + k * 2 + 1, none⟩ = some (.string T)) := ⟨fun w' bw => ⟨later_cell bw hb cN0, later_cell bw hb cT0⟩⟩
          obtain ⟨cN, cT⟩ := HC.out wr E.out.bel
          clear cN0 cT0 hz
          have hi : (k : Int) < l2.length := by omega
          have hle := RW.out.1.length RW.out.2.1
          go_wp2_with fail
          refine (full_any T wr).mono ?_
          rintro e w9 ⟨rfl, b9⟩
          have E9 : Hid (EnvP W w9 (lg q p s false :: dk p st' :: [rowS (.slice vaa B.length vac) B, tx x q [] true, tx y q W0 false, rowW (.slice ma L.length mc) (ints L)])) := ⟨E.out.below b9⟩
          have d9 := (HC.out w9 E9.out.bel).1
          clear E cN cT b9
          dsimp only
          by_cases hg : 0 ≤ z ∧ z < ((n - s : Nat) : Int) ∧ (fu T).size = 512
          · obtain ⟨N, rfl⟩ : ∃ N : Nat, z = N := ⟨z.toNat, by omega⟩
            have qW := twrite_run E9.out (by rw [K5.out.1.len]; omega) 2 rfl N (fu T) (m := n - s) (by rw [K5.out.1.len]) (by omega) hg.2.2 RW.out.1 (by omega)
            have hX := hg.2.2
            have hNB : (N : Int) < (B.length : Int) := by have := HBL.out; omega
            have hN0 : (0 : Int) ≤ (N : Int) := by omega
            have hXi : ((fu T).size : Int) = 512 := by omega
            have R2 : Hid (Rising (insW N (fu T) W0) ∧ InB (n - s) (insW N (fu T) W0) ∧ ∀ i, lookW (insW N (fu T) W0) i = lastW (L ++ [(N, fu T)]) i) := ⟨RW.out.1.ins, RW.out.2.1.ins (by omega) hX, last_ins RW.out.1 RW.out.2.2 N (fu T)⟩
            clear hg hle E9
            generalize fu T = X at *
            go_wp2_with fail
            refine qW.mono ?_
            rintro e w10 ⟨rfl, h10⟩
            have H10 : Hid (EnvP W w10 (lg q p s false :: dk p st' :: [rowS (.slice vaa B.length vac) B, tx x q [] true, tx y q (insW N X W0) false, rowW (.slice ma L.length mc) (ints L)])) := ⟨h10⟩
            have d10 := (HC.out w10 h10.bel).1
            clear h10 qW d9
            dsimp only
            go_upto_region 24 with fail
            go_cut [126] from 75 to 138 (fun v wx => v = .bool false ∧ Hid (EnvP W wx (lg q p s false :: dk p st' :: [rowS (.slice vaa B.length vac) B, tx x q [] true, tx y q (insW N X W0) false, rowW (.slice ma L.length mc) (ints L)])))
            case first =>
              go_wp2_with fail
              go_meet
              exact ⟨rfl, H10⟩
            case rest =>
              obtain ⟨rfl, H11⟩ := hcut
              obtain ⟨d11, _⟩ := HC.out wc H11.out.bel
              have hL9 : L.length < 9000000000000 := by omega
              clear H10 d10
              go_wp2_with (at_builtin; refine app_wi (v := .slice ma L.length mc) (g := wc.heap.size) (l := ints L) (m := L.length) (i := (N : Int)) (t := X) (ints_length L) rfl rfl (H11.out.rowRAt 5 rfl) (by rw [ints_length]; exact hL9) rfl _ _ rfl rfl rfl ?_; intro y3 c3 W3 q3 g3 n3)
              have F3 : Hid (EnvP W W3 (lg q p s false :: dk p st' :: [rowS (.slice vaa B.length vac) B, tx x q [] true, tx y q (insW N X W0) false, rowW (.slice (some ⟨y3, 0, none⟩) (L ++ [(N, X)]).length c3) (ints (L ++ [(N, X)]))])) := ⟨H11.out.appR 5 rfl q3 g3 n3⟩
              go_roundw
              case rel => exact ⟨k + 1, insW N X W0, L ++ [(N, X)], some ⟨y3, 0, none⟩, c3, by omega, by go_num, by first | rfl | (rw [List.length_append]; rfl), by rw [List.length_append]; simp; omega, R2, F3⟩
              case measure => simp [intOf]; omega
          · have qW := twrite_bad E9.out (by rw [K5.out.1.len]; omega) 2 rfl z (fu T) (m := n - s) (by rw [K5.out.1.len]) hg
            have hgB : ¬ (0 ≤ z ∧ z < (B.length : Int) ∧ ((fu T).size : Int) = 512) := fun h => hg ⟨h.1, by have := HBL.out; omega, by omega⟩
            clear hg hle E9
            generalize fu T = X at *
            go_wp2_with fail
            refine qW.mono ?_
            rintro e w10 ⟨rfl, h10⟩
            have H10 : Hid (EnvP W w10 (lg q p s false :: dk p st' :: [rowS (.slice vaa B.length vac) B, tx x q [] true, tx y q W0 false, rowW (.slice ma L.length mc) (ints L)])) := ⟨h10⟩
            have d10 := (HC.out w10 h10.bel).1
            clear h10 qW d9
            dsimp only
            go_upto_region 24 with fail
            go_cut [126] from 75 to 138 (fun v wx => v = .bool false ∧ Hid (EnvP W wx (lg q p s false :: dk p st' :: [rowS (.slice vaa B.length vac) B, tx x q [] true, tx y q W0 false, rowW (.slice ma L.length mc) (ints L)])))
            case first =>
              by_cases g1 : 0 ≤ z
              · by_cases g2 : z < (B.length : Int)
                · have g3 : ¬ ((X.size : Int) = 512) := fun e => hgB ⟨g1, g2, e⟩
                  have g4 : ((X.size : Int) == 512) = false := beq_eq_false_iff_ne.2 g3
                  clear hgB
                  go_wp2_with fail
                  go_meet
                  exact ⟨rfl, H10⟩
                · clear hgB
                  go_wp2_with fail
                  go_meet
                  exact ⟨rfl, H10⟩
              · clear hgB
                go_wp2_with fail
                go_meet
                exact ⟨rfl, H10⟩
            case rest =>
              obtain ⟨rfl, H11⟩ := hcut
              clear H10 d10
              go_wp2
              go_roundw
              case rel => exact ⟨k + 1, W0, L, ma, mc, by omega, by go_num, rfl, by omega, RW, H11⟩
              case measure => simp [intOf]; omega
        · have hke : k = l2.length := by omega
          subst hke
          have hi : ¬ ((l2.length : Int) < l2.length) := by omega
          have hsv := E.out.rowSAt 2 rfl
          obtain ⟨vg, rfl⟩ : ∃ vg, vaa = some ⟨vg, 0, none⟩ := by
            rcases hsv.2 with ⟨_, h0⟩ | ⟨g, cap, cur, e, _⟩
            · omega
            · injection e with e1 _ _; exact ⟨g, e1⟩
          have HL9 : Hid (L.length ≤ 9000000000000) := ⟨by omega⟩
          go_wp2_with (at_builtin; refine app_texts (g := wr.heap.size) rfl rfl (E.out.rowSAt 2 rfl) hb8 hb1 rfl _ _ rfl rfl rfl ?_; intro wy wcp w9 o9 b9 y9)
          obtain ⟨F, hFd⟩ : ∃ F, lay B W0 = F := ⟨_, rfl⟩
          have HFD : Hid (lay B W0 = F) := ⟨hFd⟩
          have hFl : F.length = B.length := by rw [← hFd]; exact lay_length _ _
          have HFL : Hid (F.length = B.length) := ⟨hFl⟩
          have HFk : Hid (∀ i, i < B.length → F.getD i ByteArray.empty = (lookW W0 i).getD (B.getD i ByteArray.empty)) := ⟨fun i hi => by rw [← hFd, List.getD_eq_getElem?_getD, lay_look RW.out.1 (by have := HBL.out; rw [this]; exact RW.out.2.1) i hi]; rfl⟩
          have e0 : F.take 0 ++ B.drop 0 = B := by simp
          have H9 : Hid (EnvP W w9 (lg q p s false :: dk p st' :: [rowS (.slice (some ⟨vg, 0, none⟩) B.length vac) B, tx x q [] true, tx y q W0 false, rowW (.slice ma L.length mc) (ints L), rowS (rw_ wy B.length wcp) (F.take 0 ++ B.drop 0)])) := ⟨by rw [e0]; exact E.out.pushS b9 o9 (fun k hk => by cases hk; exact y9)⟩
          clear hFd hFl e0 E hsv o9 b9 y9 HI1 HI2
          go_loopw [21] (fun i wr => ∃ k : Nat, k ≤ B.length ∧ i = .int .i64 (k : Int) ∧ Hid (EnvP W wr (lg q p s false :: dk p st' :: [rowS (.slice (some ⟨vg, 0, none⟩) B.length vac) B, tx x q [] true, tx y q W0 false, rowW (.slice ma L.length mc) (ints L), rowS (rw_ wy B.length wcp) (F.take k ++ B.drop k)]))) (fun i _ => B.length - (intOf i).toNat)
          case atStart => exact ⟨0, Nat.zero_le _, rfl, H9⟩
          case round =>
            obtain ⟨k, hk, rfl, E⟩ := hrel
            clear H9
            by_cases hlt : k < B.length
            · have hi : (k : Int) < B.length := by omega
              have hk8 : k ≤ 8192 := by omega
              have hBl3 : (F.take k ++ B.drop k).length = B.length := by rw [List.length_append, List.length_take, List.length_drop, HFL.out]; omega
              have HL3 : Hid (B.length = (F.take k ++ B.drop k).length) := ⟨hBl3.symm⟩
              clear hBl3
              have qR : Calls Try.prog 13 #[pt y, .int .i64 (k : Int)] wr fun e w' => e = .returned (.tuple #[.string (F.getD k ByteArray.empty), .int .i64 0]) ∧ EnvP W w' (lg q p s false :: dk p st' :: [rowS (.slice (some ⟨vg, 0, none⟩) B.length vac) B, tx x q [] true, tx y q W0 false, rowW (.slice ma L.length mc) (ints L), rowS (rw_ wy B.length wcp) (F.take k ++ B.drop k)]) := by
                have hFk := HFk.out k hlt
                cases hlk : lookW W0 k with
                | some t =>
                  rw [hlk] at hFk
                  have hlI : lookI W0 (k : Int) = some t := by unfold lookI; rw [if_neg (by omega), Int.toNat_natCast]; exact hlk
                  have ht := (RW.out.2.1 _ (lookW_mem hlk)).2
                  rw [hFk]
                  exact tread_own E.out 4 rfl (k : Int) (by omega) t ht hlI
                | none =>
                  rw [hlk] at hFk
                  have hlI : lookI W0 (k : Int) = none := by unfold lookI; rw [if_neg (by omega), Int.toNat_natCast]; exact hlk
                  rw [hFk]
                  have := tread_log E.out 2 rfl (k : Int) (by omega) hlI K5.out.1.off (by rw [K5.out.1.len]; omega) B (by rw [K5.out.1.seen]; exact K5.out.1.blk)
                  rw [if_pos (by omega)] at this
                  exact this
              have HWr : Hid (∀ w5, EnvP W w5 (lg q p s false :: dk p st' :: [rowS (.slice (some ⟨vg, 0, none⟩) B.length vac) B, tx x q [] true, tx y q W0 false, rowW (.slice ma L.length mc) (ints L), rowS (rw_ wy B.length wcp) (F.take k ++ B.drop k)]) → Calls Try.prog 14 #[.slice ma L.length mc, .int .i64 (k : Int)] w5 fun e w' => (∃ j, w' = w5.drewN j) ∧ ((∃ t, lookW W0 k = some t ∧ e = .returned (.tuple #[.string t, .bool true])) ∨ (lookW W0 k = none ∧ e = .returned (.tuple #[.string ⟨#[]⟩, .bool false])))) := ⟨fun w5 h5 => by
                have := wrote_any w5 ma mc L k hk8 (h5.rowWIn 5 rfl) HL9.out rfl
                rw [← RW.out.2.2 k] at this
                exact this⟩
              have HFe : Hid (F.getD k ByteArray.empty = (lookW W0 k).getD (B.getD k ByteArray.empty)) := ⟨HFk.out k hlt⟩
              have HM1 : Hid ((F.take k ++ B.drop k).set k (F.getD k ByteArray.empty) = F.take (k + 1) ++ B.drop (k + 1)) := ⟨mix_step F B HFL.out k hlt⟩
              have HM2 : Hid (F.getD k ByteArray.empty = B.getD k ByteArray.empty → F.take k ++ B.drop k = F.take (k + 1) ++ B.drop (k + 1)) := ⟨mix_same F B HFL.out k hlt⟩
              have HM3 : Hid ((F.take (k + 1) ++ B.drop (k + 1))[k]? = some (F.getD k ByteArray.empty)) := ⟨mix_at F B HFL.out k hlt⟩
              have HS : Hid (∀ w5, EnvP W w5 (lg q p s false :: dk p st' :: [rowS (.slice (some ⟨vg, 0, none⟩) B.length vac) B, tx x q [] true, tx y q W0 false, rowW (.slice ma L.length mc) (ints L), rowS (rw_ wy B.length wcp) (F.take (k + 1) ++ B.drop (k + 1))]) → w5.cell? ⟨wy, k, none⟩ = some (.string (F.getD k ByteArray.empty))) := ⟨fun w5 h5 => by
                have o := h5.rowSAt 6 rfl
                have hll : (F.take (k + 1) ++ B.drop (k + 1)).length = B.length := by rw [List.length_append, List.length_take, List.length_drop, HFL.out]; omega
                rw [hll] at o
                rw [o.cellAt k (by omega)]
                unfold strv
                rw [List.getElem?_map, HM3.out]; rfl⟩
              have HO : Hid (∀ w5, EnvP W w5 (lg q p s false :: dk p st' :: [rowS (.slice (some ⟨vg, 0, none⟩) B.length vac) B, tx x q [] true, tx y q W0 false, rowW (.slice ma L.length mc) (ints L), rowS (rw_ wy B.length wcp) (F.take k ++ B.drop k)]) → ∃ t0, w5.cell? ⟨wy, k, none⟩ = some (.string t0) ∧ w5.frozen? ⟨wy, k, none⟩ = false) := ⟨fun w5 h5 => by
                have o := h5.rowSAt 6 rfl
                rw [← HL3.out] at o
                have hkl : k < (strv (F.take k ++ B.drop k)).length := by rw [strv_length, ← HL3.out]; exact hlt
                refine ⟨(F.take k ++ B.drop k)[k]'(by rw [← HL3.out]; exact hlt), ?_, o.frozenAt k⟩
                rw [o.cellAt k (by omega)]
                unfold strv
                rw [List.getElem?_map, List.getElem?_eq_getElem (by rw [← HL3.out]; exact hlt)]; rfl⟩
              generalize F.getD k ByteArray.empty = X at *
              go_wp2_with fail
              refine qR.mono ?_
              rintro e w5 ⟨rfl, h5⟩
              have E5 : Hid (EnvP W w5 (lg q p s false :: dk p st' :: [rowS (.slice (some ⟨vg, 0, none⟩) B.length vac) B, tx x q [] true, tx y q W0 false, rowW (.slice ma L.length mc) (ints L), rowS (rw_ wy B.length wcp) (F.take k ++ B.drop k)])) := ⟨h5⟩
              clear h5 qR E
              dsimp only
              go_wp2_with fail
              refine (HWr.out w5 E5.out).mono ?_
              rintro e w6 ⟨⟨j, rfl⟩, ⟨t, hlk, rfl⟩ | ⟨hlk, rfl⟩⟩
              · have E6 : Hid (EnvP W (w5.drewN j) (lg q p s false :: dk p st' :: [rowS (.slice (some ⟨vg, 0, none⟩) B.length vac) B, tx x q [] true, tx y q W0 false, rowW (.slice ma L.length mc) (ints L), rowS (rw_ wy B.length wcp) (F.take k ++ B.drop k)])) := ⟨E5.out.drewN j⟩
                obtain rfl : X = t := by rw [HFe.out, hlk]; rfl
                obtain ⟨t0, c6, f6⟩ := HO.out _ E6.out
                have E7 : Hid (EnvP W ((w5.drewN j).setCell ⟨wy, k, none⟩ (.string X)) (lg q p s false :: dk p st' :: [rowS (.slice (some ⟨vg, 0, none⟩) B.length vac) B, tx x q [] true, tx y q W0 false, rowW (.slice ma L.length mc) (ints L), rowS (rw_ wy B.length wcp) (F.take (k + 1) ++ B.drop (k + 1))])) := ⟨by
                  have h := E6.out.setS 6 rfl HL3.out k X
                  rw [HM1.out] at h
                  exact h⟩
                have c7 := HS.out _ E7.out
                clear E5 E6 hlk HWr HS HO HM1 HM2 HM3 HFe HL3
                generalize w5.drewN j = W6 at *
                dsimp only
                go_wp2
                refine ⟨⟨k + 1, by omega, by go_num, E7⟩, ?_⟩
                simp [intOf]; omega
              · have hFt : X = B.getD k ByteArray.empty := by rw [HFe.out, hlk]; rfl
                have E6 : Hid (EnvP W (w5.drewN j) (lg q p s false :: dk p st' :: [rowS (.slice (some ⟨vg, 0, none⟩) B.length vac) B, tx x q [] true, tx y q W0 false, rowW (.slice ma L.length mc) (ints L), rowS (rw_ wy B.length wcp) (F.take (k + 1) ++ B.drop (k + 1))])) := ⟨by rw [← HM2.out hFt]; exact E5.out.drewN j⟩
                have c7 := HS.out _ E6.out
                clear E5 hlk hFt HWr HS HO HM1 HM2 HM3 HFe HL3
                generalize w5.drewN j = W6 at *
                dsimp only
                go_wp2
                refine ⟨⟨k + 1, by omega, by go_num, E6⟩, ?_⟩
                simp [intOf]; omega
            · have hke : k = B.length := by omega
              subst hke
              have hi : ¬ ((B.length : Int) < B.length) := by omega
              have eF : F.take B.length ++ B.drop B.length = F := by rw [List.drop_length, List.append_nil, ← HFL.out, List.take_length]
              rw [eF] at E
              clear eF
              have qA : Hid (∀ w5 Wy o, EnvP W w5 (lg q p s false :: dk p st' :: [rowS (.slice (some ⟨vg, 0, none⟩) B.length vac) B, tx x q [] true, tx y q Wy o, rowW (.slice ma L.length mc) (ints L), rowS (rw_ wy B.length wcp) (F)]) → Calls Try.prog 11 #[pt q] w5 fun e w' => ∃ v, e = .returned v ∧ Calls Try.prog 15 #[v, .slice (some ⟨vg, 0, none⟩) B.length vac] w' fun e w2 => e = .returned (.bool true) ∧ EnvP W w2 (lg q p s false :: dk p st' :: [rowS (.slice (some ⟨vg, 0, none⟩) B.length vac) B, tx x q [] true, tx y q Wy o, rowW (.slice ma L.length mc) (ints L), rowS (rw_ wy B.length wcp) (F)])) := ⟨fun w5 Wy o h5 => (sameAll h5 K5.out.1 hs).mono (by
                rintro e w' ⟨v, rfl, hv⟩
                exact ⟨v, rfl, hv 0 _ rfl⟩)⟩
              have Q1 := qA.out wr _ _ E.out
              clear E
              go_wp2_with fail
              refine (Q1).mono ?_
              rintro e w8 ⟨v8, rfl, Q8⟩
              dsimp only
              go_wp2_with fail
              refine Q8.mono ?_
              rintro e w9 ⟨rfl, h9⟩
              have E9 : Hid (EnvP W w9 (lg q p s false :: dk p st' :: [rowS (.slice (some ⟨vg, 0, none⟩) B.length vac) B, tx x q [] true, tx y q W0 false, rowW (.slice ma L.length mc) (ints L), rowS (rw_ wy B.length wcp) (F)])) := ⟨h9⟩
              clear h9 Q1 Q8
              dsimp only
              cases cm with
              | false =>
                have qB := abort_env E9.out 4 rfl
                go_wp2_with fail
                refine qB.mono ?_
                rintro e w10 ⟨rfl, h10⟩
                have Q2 := qA.out w10 _ _ h10
                clear qB h10 E9
                dsimp only
                go_wp2_with fail
                refine (Q2).mono ?_
                rintro e w8 ⟨v8, rfl, Q8⟩
                dsimp only
                go_wp2_with fail
                refine Q8.mono ?_
                rintro e w11 ⟨rfl, h11⟩
                have qC := tcommit_over h11 4 rfl
                clear Q2 Q8 h11
                dsimp only
                go_wp2_with fail
                refine qC.mono ?_
                rintro e w12 ⟨rfl, h12⟩
                have Q3 := qA.out w12 _ _ h12
                clear qC h12
                dsimp only
                go_wp2_with fail
                refine (Q3).mono ?_
                rintro e w8 ⟨v8, rfl, Q8⟩
                dsimp only
                go_wp2_with fail
                refine Q8.mono ?_
                rintro e w13 ⟨rfl, h13⟩
                dsimp only
                go_wp2
                go_ret
                exact ⟨rfl, h13.bel⟩
              | true =>
                have qC := tcommit_all E9.out 2 rfl K5.out.1 K5.out.2 h4 hs RW.out.1 RW.out.2.1
                rw [HFD.out] at qC
                clear E9
                go_wp2_with fail
                refine qC.mono ?_
                rintro e w10 ⟨r, st3, B3, rfl, h10, ok3, f3, hr⟩
                have K3 : Hid (OKst NN st3 n s B3 ∧ st3.fall = 0) := ⟨ok3, f3⟩
                clear ok3 f3 qC
                rcases hr with ⟨rfl, rfl, _⟩ | ⟨rfl, rfl, _⟩
                · have qA3 : Hid (∀ w5, EnvP W w5 (lg q p s false :: dk p st3 :: [rowS (.slice (some ⟨vg, 0, none⟩) B.length vac) B, tx x q [] true, tx y q [] true, rowW (.slice ma L.length mc) (ints L), rowS (rw_ wy B.length wcp) (B3)]) → Calls Try.prog 11 #[pt q] w5 fun e w' => ∃ v, e = .returned v ∧ Calls Try.prog 15 #[v, rw_ wy B.length wcp] w' fun e w2 => e = .returned (.bool true) ∧ EnvP W w2 (lg q p s false :: dk p st3 :: [rowS (.slice (some ⟨vg, 0, none⟩) B.length vac) B, tx x q [] true, tx y q [] true, rowW (.slice ma L.length mc) (ints L), rowS (rw_ wy B.length wcp) (B3)])) := ⟨fun w5 h5 => (sameAll h5 K3.out.1 hs).mono (by
                    rintro e w' ⟨v, rfl, hv⟩
                    exact ⟨v, rfl, hv 4 _ rfl⟩)⟩
                  have Q2 := qA3.out w10 h10
                  clear h10
                  dsimp only
                  go_wp2_with fail
                  refine (Q2).mono ?_
                  rintro e w8 ⟨v8, rfl, Q8⟩
                  dsimp only
                  go_wp2_with fail
                  refine Q8.mono ?_
                  rintro e w11 ⟨rfl, h11⟩
                  have H11 : Hid (EnvP W w11 (lg q p s false :: dk p st3 :: [rowS (.slice (some ⟨vg, 0, none⟩) B.length vac) B, tx x q [] true, tx y q [] true, rowW (.slice ma L.length mc) (ints L), rowS (rw_ wy B.length wcp) (B3)])) := ⟨h11⟩
                  clear Q2 Q8 h11
                  dsimp only
                  go_wp2_with fail
                  refine (full_any _ w11).mono ?_
                  rintro e w12 ⟨rfl, b12⟩
                  have qW := fun v t => twrite_over (H11.out.below b12) 4 rfl v t
                  clear b12 H11
                  dsimp only
                  go_wp2_with fail
                  refine (qW _ _).mono ?_
                  rintro e w13 ⟨rfl, h13⟩
                  have qD := dirty_env h13 4 rfl (by simp)
                  have H13 : Hid (EnvP W w13 (lg q p s false :: dk p st3 :: [rowS (.slice (some ⟨vg, 0, none⟩) B.length vac) B, tx x q [] true, tx y q [] true, rowW (.slice ma L.length mc) (ints L), rowS (rw_ wy B.length wcp) (B3)])) := ⟨h13⟩
                  clear qW h13
                  dsimp only
                  go_wp2_with fail
                  refine qD.mono ?_
                  rintro e w14 ⟨rfl, j, rfl⟩
                  have Q3 := qA3.out _ (H13.out.drewN j)
                  clear qD H13
                  dsimp only
                  go_wp2_with fail
                  refine (Q3).mono ?_
                  rintro e w8 ⟨v8, rfl, Q8⟩
                  dsimp only
                  go_wp2_with fail
                  refine Q8.mono ?_
                  rintro e w15 ⟨rfl, h15⟩
                  dsimp only
                  go_wp2
                  go_ret
                  exact ⟨rfl, h15.bel⟩
                · have qA3 : Hid (∀ w5, EnvP W w5 (lg q p s false :: dk p st3 :: [rowS (.slice (some ⟨vg, 0, none⟩) B3.length vac) B3, tx x q [] true, tx y q [] true, rowW (.slice ma L.length mc) (ints L), rowS (rw_ wy B3.length wcp) (F)]) → Calls Try.prog 11 #[pt q] w5 fun e w' => ∃ v, e = .returned v ∧ Calls Try.prog 15 #[v, .slice (some ⟨vg, 0, none⟩) B3.length vac] w' fun e w2 => e = .returned (.bool true) ∧ EnvP W w2 (lg q p s false :: dk p st3 :: [rowS (.slice (some ⟨vg, 0, none⟩) B3.length vac) B3, tx x q [] true, tx y q [] true, rowW (.slice ma L.length mc) (ints L), rowS (rw_ wy B3.length wcp) (F)])) := ⟨fun w5 h5 => (sameAll h5 K3.out.1 hs).mono (by
                    rintro e w' ⟨v, rfl, hv⟩
                    exact ⟨v, rfl, hv 0 _ rfl⟩)⟩
                  have Q2 := qA3.out w10 h10
                  clear h10
                  dsimp only
                  go_wp2_with fail
                  refine (Q2).mono ?_
                  rintro e w8 ⟨v8, rfl, Q8⟩
                  dsimp only
                  go_wp2_with fail
                  refine Q8.mono ?_
                  rintro e w11 ⟨rfl, h11⟩
                  dsimp only
                  go_wp2
                  go_ret
                  exact ⟨rfl, h11.bel⟩
theorem txnOwn_walk (n z : Int) (l1 : Il) (a1 : Option Addr) (cap1 : Nat) (l2 : Il) (a2 : Option Addr) (cap2 : Nat) (cm : Bool) (W : World) (n1 : -9223372036854775808 ≤ n) (n2 : n ≤ 9223372036854775807) (z1 : -9223372036854775808 ≤ z) (z2 : z ≤ 9223372036854775807) (hin1 : WAt W a1 l1) (hl1 : l1.length ≤ 5864062014634) (hin2 : WAt W a2 l2) (hl2 : l2.length ≤ 5864062014634) : Calls Try.prog 3 #[.int .i64 n, .int .i64 z, .slice a1 l1.length cap1, .slice a2 l2.length cap2, .bool cm] W fun e W' => e = .returned (.bool true) ∧ Below W.heap.size W W' := by
  by_cases hg : good n z
  · obtain ⟨h1, h2, h3⟩ := hg
    obtain ⟨N, rfl⟩ : ∃ N : Nat, n = N := ⟨n.toNat, by omega⟩
    obtain ⟨s, rfl⟩ : ∃ s : Nat, z = s := ⟨z.toNat, by omega⟩
    exact txnOwn_good N s (by omega) (by omega) (by omega) l1 a1 cap1 l2 a2 cap2 cm W hin1 hl1 hin2 hl2
  · exact txnOwn_bad n z _ _ _ W hg
end Go.Proofs.Ytlgpodcoiioefaa
