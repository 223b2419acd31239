import Derived.Test.YtghdgddpdamhcaaGreatGh
import Derived.Test.YtghdgddpdamhcaaGreatRows
import Derived.ProofKit
import Derived.OpenShut
import Derived.JoinedCond
import Derived.SizedLaws
import Derived.Deep.Slices
/- SpaceFrees: numbers. -/
namespace Go.Proofs.YtghdgddpdamhcaaGreat
set_option linter.unusedVariables false
set_option linter.unusedSimpArgs false
open Go.RowKit Go.Maps
theorem ni_rise {l : List Nat} (h : l.Pairwise (· < ·)) : (ni l).Pairwise (· ≤ ·) := by
  unfold ni; rw [List.pairwise_map]; exact h.imp (fun h => by omega)
theorem srt_ni {l : List Nat} (h : l.Pairwise (· < ·)) : srt (ni l) = ni l := srt_eq (ni_rise h) (List.Perm.refl _)
theorem nats_ni (l : List Nat) : nats (ni l) = l := by
  unfold nats ni; rw [List.map_map]
  have : (Int.toNat ∘ fun k : Nat => (k : Int)) = id := by funext k; simp
  rw [this, List.map_id]
theorem mem_ni {l : List Nat} {z : Int} : z ∈ ni l ↔ ∃ k ∈ l, (k : Int) = z := by unfold ni; rw [List.mem_map]
theorem fgood_ni {a m : Nat} {l : List Nat} (h : l.Pairwise (· < ·)) (hb : ∀ k ∈ l, a ≤ k ∧ k < m) : fgood a m (ni l) := fun i hi => by
  have hi2 : i < l.length := by rw [ni_len] at hi; exact hi
  have e : ∀ j (hj : j < l.length), (ni l).getD j 0 = ((l[j] : Nat) : Int) := fun j hj => by
    rw [getD_of (by rw [ni_len]; exact hj)]; simp [ni]
  have h1 := hb _ (List.getElem_mem hi2)
  refine ⟨by rw [e i hi2]; omega, by rw [e i hi2]; omega, fun h0 => ?_⟩
  rw [e i hi2, e (i - 1) (by omega)]
  have := (List.pairwise_iff_getElem.1 h) (i - 1) i (by omega) hi2 (by omega)
  omega
theorem allB_true {t : ByteArray} {l : List Nat} (h : ∀ k ∈ l, bt t k = true) : allB t true l = true := by
  unfold allB; rw [List.all_eq_true]; intro k hk; rw [h k hk]; rfl
theorem allB_mem {t : ByteArray} {l : List Nat} (h : allB t true l = true) : ∀ k ∈ l, bt t k = true := fun k hk => by
  unfold allB at h; rw [List.all_eq_true] at h; exact eq_of_beq (h k hk)
/-- a list with a wrong number in it is refused -/
theorem bad_list {t : ByteArray} {l : List Nat} {zs : List Int} {x : Int} {a m : Nat} (hp : List.Perm zs (x :: ni l)) (hb : ∀ j, bt t j = decide (j ∈ l)) (hx : True) : ¬ (fgood a m (srt zs) ∧ allB t true (nats (srt zs)) = true) := by
  rintro ⟨h1, h2⟩
  have hs : List.Perm (srt zs) (x :: ni l) := (List.mergeSort_perm zs _).trans hp
  have hnd : (srt zs).Nodup := (fgood_rise h1).imp (fun h => by omega)
  have hnd2 : (x :: ni l).Nodup := hs.nodup_iff.1 hnd
  have hxm : x ∈ srt zs := hs.symm.subset List.mem_cons_self
  have h3 := fgood_mem h1 hxm
  have h4 := allB_mem h2 x.toNat (List.mem_map.2 ⟨x, hxm, rfl⟩)
  rw [hb] at h4
  have h5 := of_decide_eq_true h4
  have : x ∈ ni l := mem_ni.2 ⟨x.toNat, h5, by omega⟩
  exact (List.nodup_cons.1 hnd2).1 this
theorem usd_true {m first : Nat} {t : ByteArray} {k : Nat} (hk : k < m) (hb : bt t k = true) : usd m first t (k : Int) = true := by
  unfold usd
  have h1 : decide (0 ≤ (k : Int)) = true := decide_eq_true (by omega)
  have h2 : decide ((k : Int) < (m : Int)) = true := decide_eq_true (by omega)
  rw [h1, h2, show ((k : Int)).toNat = k by omega, hb]; simp
theorem app_sl {ops : Array Oper} {rest : List Oper} {o : Oper} {a : Act} {Q : Exit → Act → World → Prop} {w : World} {v : Value} {zs ys : List Int} {g off m c : Nat} (hy : ys.length = m) (hown : w.ownsRow 0 3 1 v zs.length (iv zs)) (hc : ∀ j, j < m → w.cell? ⟨g, off + j, none⟩ = some (.int .i64 (ys.getD j 0))) (hn : zs.length + m < 9000000000000)
    (hgd : o.guard = none) (s x : Operand) (ho : o.op = .call { callee := .builtin .append, args := #[s, x], argTypes := #[22, 22] })
    (hs : a.eval s = v) (hx : a.eval x = .slice (some ⟨g, off, none⟩) m c)
    (h : ∀ v' w', w'.ownsRow 0 3 1 v' (zs ++ ys).length (iv (zs ++ ys)) → w.grownBy w' v.ownBlock → (∀ k, v'.ownBlock = some k → v.ownBlock = some k ∨ w.heap.size ≤ k) → wpList Tryz.prog ops Q rest (a.put o.dst v') w') : wpList Tryz.prog ops Q (o :: rest) a w := by
  subst hy
  obtain ⟨i0, hi0, hz0, hz1, hz2⟩ := info_parts infoIf
  have hm : maxLen = 9223372036854775807 := rfl
  refine wp_append_at Tryz.underlying22 hi0 hz0 hz1 hz2 rfl (by omega) 0 hown (news := iv ys) (by simp [iv]) (fun j u hj => ?_) (fun u hu => by obtain ⟨t, _, rfl⟩ := List.mem_map.1 hu; rfl) (by rw [hm]; omega) (by omega) (Nat.zero_le _) hgd s x ho hs hx ?_
  · have hjl : j < ys.length := by have := (List.getElem?_eq_some_iff.1 hj).1; simpa [iv] using this
    have hadd : (⟨g, off, none⟩ : Addr).add j = ⟨g, off + j, none⟩ := by unfold Addr.add; split <;> simp_all
    rw [hadd, hc j hjl]
    rw [← hj]
    simp [iv, List.getElem?_map, List.getElem?_eq_getElem hjl, List.getD_eq_getElem?_getD]
  · intro v' w' q1 q2 _ q4
    refine h v' w' ?_ q2 q4
    rw [List.length_append]
    unfold iv; rw [List.map_append]; exact q1
section
variable {w0 w w' : World} {q p n x sb first : Nat} {X : List (Th → Prop)} {T : ByteArray}
theorem SU.appI {v v' : Value} {zs zs' : List Int} (h : SU w0 w q p n x sb first T (X ++ [rowI v zs])) (o : w'.ownsRow 0 3 1 v' zs'.length (iv zs')) (g : w.grownBy w' v.ownBlock) (nw : ∀ k, v'.ownBlock = some k → v.ownBlock = some k ∨ w.heap.size ≤ k) : SU w0 w' q p n x sb first T (X ++ [rowI v' zs']) := by
  obtain ⟨W, B, ⟨st, E, r⟩, r2⟩ := h
  have E2 := E.appI (v := v) (l := zs) (v' := v') (l' := zs') (X.length + 4) (by simp) o g nw
  refine ⟨W, B, ⟨st, ?_, r⟩, r2⟩
  have e : (lg q p 24 false :: dk p st :: tx x q W false :: ob sb #[pt x, .int .i64 (first : Int)] 73 :: (X ++ [rowI v zs])).set (X.length + 4) (rowI v' zs') = lg q p 24 false :: dk p st :: tx x q W false :: ob sb #[pt x, .int .i64 (first : Int)] 73 :: (X ++ [rowI v' zs']) := by
    simp
  rw [e] at E2
  exact E2
theorem SU.nilI (h : SU w0 w q p n x sb first T X) : SU w0 w q p n x sb first T (X ++ [rowI (.slice none 0 0) []]) := by
  obtain ⟨W, B, h1, r⟩ := h
  exact ⟨W, B, h1.pushI (l := []) (Below.refl _ _) (World.ownsRow_nil _ _ _ _) (fun k e => by cases e), r⟩
theorem SU.rowL {v : Value} {zs : List Int} (h : SU w0 w q p n x sb first T (X ++ [rowI v zs])) : w.ownsRow 0 3 1 v zs.length (iv zs) := h.row (List.mem_append_right _ List.mem_cons_self)
end
end Go.Proofs.YtghdgddpdamhcaaGreat

/- SpaceFrees: the walk. -/
namespace Go.Proofs.YtghdgddpdamhcaaGreat
set_option linter.unusedVariables false
set_option linter.unusedSimpArgs false
open Go.RowKit Go.Maps
set_option maxRecDepth 1000000 in
set_option maxHeartbeats 4000000 in
theorem spaceFrees_walk (n bad : Int) (twice : Bool) (at_ : Int) (W : World) (n1 : -9223372036854775808 ≤ n) (n2 : n ≤ 9223372036854775807) (b1 : -9223372036854775808 ≤ bad) (b2 : bad ≤ 9223372036854775807) (a1 : -9223372036854775808 ≤ at_) (a2 : at_ ≤ 9223372036854775807) :
    Calls Tryz.prog 4 #[.int .i64 n, .int .i64 bad, .bool twice, .int .i64 at_] W fun e w' => e = .returned (.bool true) ∧ Below W.heap.size W w' := by
  have qH := head_any W
  have qL := least_any n 30
  have hl30 := lst_lt n 30 (by omega)
  have F0 : (frees (fl 0) (2 + 1) (100 - 24)).length = 73 := frees_zero bt_fl0
  go_enter Tryz.func4, Tryz.ntmps4
  go_wp2_with fail
  refine qH.mono ?_
  rintro e w1 ⟨rfl, b1'⟩
  have qB := begun_s (EnvP.nil w1) 100 2 (by omega) (by omega) (by omega)
  have HB1 : Hid (Below W.heap.size W w1) := ⟨b1'⟩
  clear qH b1'
  dsimp only
  go_wp2_with fail
  refine qB.mono ?_
  rintro e w2 ⟨q, p, x, sb, rfl, h2⟩
  have H2 : Hid (SU w1 w2 q p 100 x sb 2 (fl 0) []) := ⟨h2⟩
  clear qB h2
  dsimp only
  go_wp2_with fail
  refine (qL w2 (by omega) (by omega) n1 n2).mono ?_
  rintro e w3 ⟨rfl, rfl⟩
  obtain ⟨N, hN⟩ : ∃ N : Nat, N = 1 + lst n 30 := ⟨_, rfl⟩
  have hNi : (1 : Int) + ((lst n 30 : Nat) : Int) = (N : Int) := by omega
  have hNb : 1 ≤ N ∧ N ≤ 30 := by omega
  have q4 := H2.out.alloc (N : Int)
  clear qL hl30 hN
  generalize ((lst n 30 : Nat) : Int) = L30 at *
  have hw30 : IntKind.i64.wrap (1 + L30) = (N : Int) := by rw [hNi, IntKind.wrap_i64]; omega
  have hw31 : wrap64 (1 + L30) = (N : Int) := by rw [hNi]; unfold wrap64; omega
  dsimp only
  go_wp2_with fail
  refine q4.mono ?_
  rintro e w4 (⟨hx, _⟩ | ⟨hx, _⟩ | ⟨hx, _⟩ | ⟨N', g, c, hN', _, hle, hc, rfl, h4⟩)
  · omega
  · rw [F0] at hx; omega
  · omega
  obtain rfl : N' = N := by omega
  obtain ⟨l, hl⟩ : ∃ l, l = (frees (fl 0) (2 + 1) (100 - 24)).take N' := ⟨_, rfl⟩
  rw [← hl] at h4
  have hll : l.length = N' := by rw [hl, List.length_take, F0]; omega
  have hrise : l.Pairwise (· < ·) := by rw [hl]; exact (frees_rise _ _ _).sublist (List.take_sublist _ _)
  have hmem : ∀ k ∈ l, 3 ≤ k ∧ k < 76 := fun k hk => by
    rw [hl] at hk
    have := mem_frees.1 (List.mem_of_mem_take hk)
    omega
  have hnod : l.Nodup := hrise.imp (fun h => by omega)
  have h8 : ∀ k ∈ l, k / 8 < (fl 0).size := fun k hk => by rw [fl0sz]; have := hmem k hk; omega
  obtain ⟨T1, hT1⟩ : ∃ T1, T1 = flipA (fl 0) l := ⟨_, rfl⟩
  have hbt : ∀ j, bt T1 j = decide (j ∈ l) := fun j => by rw [hT1, bt_flipA hnod h8, bt_fl0]; simp
  have hsz1 : T1.size = 512 := by rw [hT1, flipA_size]; exact fl0sz
  have hleft : (frees T1 (2 + 1) (100 - 24)).length = 73 - N' := by
    have := frees_flip (t := fl 0) (a := 2 + 1) (m := 100 - 24) hnod h8 (fun k hk => by rw [mem_frees, bt_fl0]; have := hmem k hk; exact ⟨by omega, by omega, rfl⟩)
    rw [← hT1, F0] at this; omega
  have hleft2 : (frees (flipA T1 l) (2 + 1) (100 - 24)).length = 73 := by
    rw [frees_unflip hnod (fun k hk => by rw [hsz1]; have := hmem k hk; omega) (fun k hk => ⟨by have := hmem k hk; omega, by have := hmem k hk; omega, by rw [hbt]; exact decide_eq_true hk⟩), hleft]; omega
  rw [← hT1] at h4
  have MM : Hid (l.length = N' ∧ l.Pairwise (· < ·) ∧ (∀ k ∈ l, 3 ≤ k ∧ k < 76) ∧ (∀ j, bt T1 j = decide (j ∈ l)) ∧ (frees (flipA T1 l) (2 + 1) (100 - 24)).length = 73) := ⟨hll, hrise, hmem, hbt, hleft2⟩
  obtain ⟨LF, hLF⟩ : ∃ LF : Nat, LF = 73 - N' := ⟨_, rfl⟩
  have HL : Hid (∀ w1' X, SU w1 w1' q p 100 x sb 2 T1 X → Calls Tryz.prog 12 #[pt sb] w1' fun e w' => e = .returned (.int .i64 (LF : Int)) ∧ SU w1 w' q p 100 x sb 2 T1 X) := ⟨fun w1' X h => by have := h.left; rw [hleft, ← hLF] at this; exact this⟩
  have hLN : LF + N' = 73 := by omega
  obtain ⟨Xr, hXr⟩ : ∃ Xr, Xr = [rowI (.slice (some ⟨g, 0, none⟩) N' c) (ni l)] := ⟨_, rfl⟩
  rw [← hXr] at h4
  have HR : Hid (∀ w1' T X Y, Xr ++ Y = X → SU w1 w1' q p 100 x sb 2 T X → ∀ j, j < N' → g < w1'.heap.size ∧ w1'.cell? ⟨g, j, none⟩ = some (.int .i64 ((ni l).getD j 0))) := ⟨fun w1' T X Y hX h j hj => by
    obtain ⟨b, off, e, h1, h2⟩ := h.rowC (g := g) (m := N') (c := c) (zs := ni l) (by rw [← hX, hXr]; simp) (by rw [ni_len, hll]) j hj
    cases e
    rw [Nat.zero_add] at h2
    exact ⟨h1, h2⟩⟩
  have HX : Hid (Xr = [rowI (.slice (some ⟨g, 0, none⟩) N' c) (ni l)]) := ⟨hXr⟩
  have H4 : Hid (SU w1 w4 q p 100 x sb 2 T1 Xr) := ⟨h4⟩
  have hNi0 : ¬ ((N' : Int) = 0) := by omega
  clear h4 hl hll hrise hmem hnod h8 hT1 hbt hsz1 hleft hleft2 hLF hXr q4 H2 F0 hle hN' hNi hw30 hw31
  dsimp only
  go_wp2_with fail
  refine (HL.out _ _ H4.out).mono ?_
  rintro e w5 ⟨rfl, h5⟩
  have H5 : Hid (SU w1 w5 q p 100 x sb 2 T1 Xr) := ⟨h5⟩
  clear h5 H4
  dsimp only
  go_wp2
  go_loopw [16, 17] (fun vx vi wr => ∃ (k : Nat) (z : Int), k ≤ N' ∧ vi = .int .i64 (k : Int) ∧ vx = .int .i64 z ∧ Hid (SU w1 wr q p 100 x sb 2 T1 Xr)) (fun _ i _ => N' - (intOf i).toNat)
  case atStart => exact ⟨0, bad, Nat.zero_le _, rfl, rfl, H5⟩
  case round =>
    obtain ⟨k, z, hk, rfl, rfl, H6⟩ := hrel
    clear H5
    by_cases hlt : k < N'
    · have hki : (k : Int) < (N' : Int) := by omega
      have ck := (HR.out _ _ _ [] (List.append_nil _) H6.out k hlt).2
      generalize (ni l).getD k 0 = y at *
      by_cases hyz : y = z
      · subst hyz
        go_wp2
        go_roundw
        case rel => exact ⟨k + 1, -1, by omega, by go_num, rfl, H6⟩
        case measure => simp [intOf]; omega
      · have hb : (y == z) = false := by rw [beq_eq_false_iff_ne]; exact hyz
        clear hyz
        go_wp2
        go_roundw
        case rel => exact ⟨k + 1, z, by omega, by go_num, rfl, H6⟩
        case measure => simp [intOf]; omega
    · obtain rfl : k = N' := by omega
      clear hk hlt
      have qA := least_any at_ k wr (by omega) (by omega) a1 a2
      have hAl := lst_lt at_ k (by omega)
      have HQ : Hid (∀ w', Calls Tryz.prog 9 #[.int .i64 at_, .int .i64 ((k : Int) + 1)] w' fun e w'' => e = .returned (.int .i64 ((lst at_ (k + 1) : Nat) : Int)) ∧ w'' = w') := ⟨fun w' => by
        have := least_any at_ (k + 1) w' (by omega) (by omega) a1 a2
        rw [show ((k + 1 : Nat) : Int) = (k : Int) + 1 by omega] at this
        exact this⟩
      have HI : Hid (lst at_ (k + 1) < k + 1) := ⟨lst_lt at_ (k + 1) (by omega)⟩
      go_upto_if 61 with fail
      go_cut [16] from 21 (fun v wx => ∃ y : Int, v = .int .i64 y ∧ Hid (SU w1 wx q p 100 x sb 2 T1 Xr))
      case first =>
        cases twice with
        | true =>
          have ck := (HR.out _ _ _ [] (List.append_nil _) H6.out (lst at_ k) hAl).2
          have hAi : ((lst at_ k : Nat) : Int) < (k : Int) := by omega
          generalize (ni l).getD (lst at_ k) 0 = y at *
          generalize lst at_ k = ia at *
          clear hAl HQ HI
          go_wp2_with fail
          refine qA.mono ?_
          rintro e w7 ⟨rfl, rfl⟩
          dsimp only
          go_wp2_with fail
          go_meet
          case rel => exact ⟨y, rfl, H6⟩
        | false =>
          clear hAl HQ HI qA
          go_wp2_with fail
          go_meet
          case rel => exact ⟨z, rfl, H6⟩
      obtain ⟨y, rfl, H7⟩ := hcut
      clear H6 qA hAl
      generalize lst at_ (k + 1) = ib at *
      go_wp2_with fail
      refine (HQ.out _).mono ?_
      rintro e w7 ⟨rfl, rfl⟩
      have hib := HI.out
      clear HQ HI
      have H7n : Hid (SU w1 w7 q p 100 x sb 2 T1 (Xr ++ [rowI (.slice none 0 0) []])) := ⟨H7.out.nilI⟩
      have HC7 : Hid (∀ j, j < ib → w7.cell? ⟨g, 0 + j, none⟩ = some (.int .i64 (((ni l).take ib).getD j 0))) := ⟨fun j hj => by
        rw [Nat.zero_add, (HR.out _ _ _ [] (List.append_nil _) H7.out j (by omega)).2]
        simp [List.getD_eq_getElem?_getD, List.getElem?_take, hj]⟩
      have HT : Hid (((ni l).take ib).length = ib) := ⟨by rw [List.length_take, ni_len, MM.out.1]; omega⟩
      have HD : Hid (((ni l).drop ib).length = k - ib) := ⟨by rw [List.length_drop, ni_len, MM.out.1]⟩
      have HZ : Hid (((ni l).take ib ++ [y] ++ (ni l).drop ib).length = k + 1) := ⟨by rw [List.length_append, List.length_append, HT.out, HD.out, List.length_singleton]; omega⟩
      have hibk : (ib : Int) ≤ (c : Int) := by omega
      have hibk2 : (ib : Int) ≤ (k : Int) := by omega
      clear H7
      dsimp only
      go_upto_region 22 with (at_builtin; first
        | (refine app_sl (v := .slice none 0 0) (zs := []) (ys := (ni l).take ib) (g := g) (off := 0) (m := ib) (c := c) HT.out H7n.out.rowL HC7.out (by simp; omega) rfl _ _ rfl rfl rfl ?_; intro v8 w8 o8 g8 n8; have H8 : Hid (SU w1 w8 q p 100 x sb 2 T1 (Xr ++ [rowI v8 ((ni l).take ib)])) := ⟨H7n.out.appI o8 g8 n8⟩; rw [List.nil_append, HT.out] at o8; obtain ⟨va8, vc8, rfl⟩ := own_slice o8; clear o8 g8 n8 H7n HC7)
        | (refine app_int (zs := (ni l).take ib) (m := ib) (v := .slice va8 ib vc8) (g := w8.heap.size) (z := y) HT.out.symm rfl rfl H8.out.rowL (by rw [HT.out]; omega) rfl _ _ rfl rfl rfl ?_; intro y9 c9 w9 k9 o9 g9 n9; have H9 : Hid (SU w1 w9 q p 100 x sb 2 T1 (Xr ++ [rowI (rw_ y9 (ib + 1) c9) ((ni l).take ib ++ [y])])) := ⟨H8.out.appI (by rw [List.length_append, HT.out]; exact o9) g9 (fun j hj => by cases hj; exact n9)⟩; clear k9 o9 g9 n9 H8))
      go_cut [19] from 21 (fun v wx => ∃ va vc, v = .slice va (k + 1) vc ∧ Hid (SU w1 wx q p 100 x sb 2 T1 (Xr ++ [rowI (.slice va (k + 1) vc) ((ni l).take ib ++ [y] ++ (ni l).drop ib)])))
      case first =>
        by_cases hcc : c = ib
        · have hki : k - ib = 0 := by omega
          have o9 := H9.out.rowL
          subst hcc
          have HD0 : Hid (((ni l).drop c).length = 0) := ⟨by rw [HD.out, hki]⟩
          have hlen9 : ((ni l).take c ++ [y]).length + 0 < 9000000000000 := by rw [List.length_append, HT.out, List.length_singleton]; omega
          go_wp2_with (at_builtin; refine app_sl (v := rw_ y9 (c + 1) c9) (zs := (ni l).take c ++ [y]) (ys := (ni l).drop c) (g := g) (off := 0) (m := 0) (c := 0) HD0.out o9 (fun j hj => by omega) hlen9 rfl _ _ rfl rfl rfl ?_; intro v10 w10 o10 g10 n10; have H10 : Hid (SU w1 w10 q p 100 x sb 2 T1 (Xr ++ [rowI v10 ((ni l).take c ++ [y] ++ (ni l).drop c)])) := ⟨H9.out.appI o10 g10 n10⟩; rw [HZ.out] at o10; obtain ⟨va10, vc10, rfl⟩ := own_slice o10; clear o10 g10 n10)
          go_meet
          case rel => exact ⟨_, _, rfl, H10⟩
        · have o9 := H9.out.rowL
          have hlt9 : (ib : Int) < (c : Int) := by omega
          have hcc2 : ¬ c - ib = 0 := by omega
          have HC9 : Hid (∀ j, j < k - ib → w9.cell? ⟨g, ib + j, none⟩ = some (.int .i64 (((ni l).drop ib).getD j 0))) := ⟨fun j hj => by
            rw [(HR.out _ _ _ _ rfl H9.out (ib + j) (by omega)).2]; simp [List.getD_eq_getElem?_getD, List.getElem?_drop]⟩
          have hlen9 : ((ni l).take ib ++ [y]).length + (k - ib) < 9000000000000 := by rw [List.length_append, HT.out, List.length_singleton]; omega
          go_wp2_with (at_builtin; refine app_sl (v := rw_ y9 (ib + 1) c9) (zs := (ni l).take ib ++ [y]) (ys := (ni l).drop ib) (g := g) (off := ib) (m := k - ib) (c := c - ib) HD.out o9 HC9.out hlen9 rfl _ _ rfl rfl rfl ?_; intro v10 w10 o10 g10 n10; have H10 : Hid (SU w1 w10 q p 100 x sb 2 T1 (Xr ++ [rowI v10 ((ni l).take ib ++ [y] ++ (ni l).drop ib)])) := ⟨H9.out.appI o10 g10 n10⟩; rw [HZ.out] at o10; obtain ⟨va10, vc10, rfl⟩ := own_slice o10; clear o10 g10 n10)
          go_meet
          case rel => exact ⟨_, _, rfl, H10⟩
      obtain ⟨va, vc, rfl, H10⟩ := hcut
      clear H9 HT HD hibk hibk2
      have HP : Hid (List.Perm ((ni l).take ib ++ [y] ++ (ni l).drop ib) (y :: ni l)) := ⟨by
        have h1 : (ni l).take ib ++ [y] ++ (ni l).drop ib = (ni l).take ib ++ y :: (ni l).drop ib := by simp
        rw [h1]
        refine List.perm_middle.trans ?_
        rw [List.take_append_drop]⟩
      obtain ⟨zs, hzs⟩ : ∃ zs, zs = (ni l).take ib ++ [y] ++ (ni l).drop ib := ⟨_, rfl⟩
      rw [← hzs] at H10 HP HZ
      clear hzs
      have HF1 : Hid (∀ w', SU w1 w' q p 100 x sb 2 T1 (Xr ++ [rowI (.slice va (k + 1) vc) zs]) → Calls Tryz.prog 15 #[pt sb, .slice va (k + 1) vc] w' fun e w'' => e = .returned (.int .i64 1) ∧ SU w1 w'' q p 100 x sb 2 T1 Xr) := ⟨fun w' h => by
        have hv := h.free va vc zs (by rw [HZ.out]; omega) (fun w2 h2 j hj => by
          have ho := h2.rowL
          rw [HZ.out] at ho hj
          rcases ho.2 with ⟨_, h0⟩ | ⟨g', cap', cur', e, _⟩
          · omega
          · injection e with e1 e2 e3
            subst e1
            refine ⟨g', 0, rfl, (ho.lt g' rfl).2, ?_⟩
            have hc2 := ho.cellAt j (by omega)
            rw [Nat.zero_add, hc2]
            simp [iv, List.getElem?_map, List.getElem?_eq_getElem (show j < zs.length by rw [HZ.out]; exact hj), List.getD_eq_getElem?_getD])
        rw [HZ.out] at hv
        refine hv.mono ?_
        rintro e w'' (⟨hx, _⟩ | ⟨_, rfl, h3⟩)
        · exact absurd hx (bad_list HP.out MM.out.2.2.2.1 trivial)
        · exact ⟨rfl, h3.init⟩⟩
      go_wp2_with fail
      refine (HF1.out _ H10.out).mono ?_
      rintro e w11 ⟨rfl, h11⟩
      have H11 : Hid (SU w1 w11 q p 100 x sb 2 T1 Xr) := ⟨h11⟩
      clear h11 H10 HF1 HP HZ
      dsimp only
      go_wp2_with fail
      refine (HL.out _ _ H11.out).mono ?_
      rintro e w12 ⟨rfl, h12⟩
      have H12 : Hid (SU w1 w12 q p 100 x sb 2 T1 Xr) := ⟨h12⟩
      clear h12 H11
      dsimp only
      go_wp2
      go_loopw [20] (fun vi wr => ∃ j : Nat, j ≤ k ∧ vi = .int .i64 (j : Int) ∧ Hid (SU w1 wr q p 100 x sb 2 T1 Xr)) (fun i _ => k - (intOf i).toNat)
      case atStart => exact ⟨0, Nat.zero_le _, rfl, H12⟩
      case round =>
        obtain ⟨j, hj, rfl, H13⟩ := hrel
        clear H12
        by_cases hlt : j < k
        · have hji : (j : Int) < (k : Int) := by omega
          have ck := (HR.out _ _ _ [] (List.append_nil _) H13.out j hlt).2
          have hjl : j < l.length := by rw [MM.out.1]; exact hlt
          have e1 : (ni l).getD j 0 = ((l[j] : Nat) : Int) := by rw [getD_of (by rw [ni_len]; exact hjl)]; simp [ni]
          have hm := MM.out.2.2.1 l[j] (List.getElem_mem hjl)
          have hu : usd (100 - 24) 2 T1 ((l[j] : Nat) : Int) = true := usd_true (by omega) (by rw [MM.out.2.2.2.1]; exact decide_eq_true (List.getElem_mem hjl))
          rw [e1] at ck
          have qU := H13.out.used ((l[j] : Nat) : Int)
          rw [hu] at qU
          generalize ((l[j] : Nat) : Int) = y5 at *
          clear hm hu e1 hjl
          go_wp2_with fail
          refine qU.mono ?_
          rintro e w14 ⟨rfl, h14⟩
          have H14 : Hid (SU w1 w14 q p 100 x sb 2 T1 Xr) := ⟨h14⟩
          clear h14 qU H13 ck
          dsimp only
          go_wp2
          go_roundw
          case rel => exact ⟨j + 1, by omega, by go_num, H14⟩
          case measure => simp [intOf]; omega
        · obtain rfl : j = k := by omega
          clear hj hlt
          have s0 : srt [] = [] := List.eq_nil_of_length_eq_zero (srt_len [])
          have qN := H13.out.free none 0 [] (by simp) (fun w2 h2 i hi => by simp at hi)
          have HN : Hid (Calls Tryz.prog 15 #[pt sb, .slice none 0 0] wr fun e w' => e = .returned (.int .i64 0) ∧ SU w1 w' q p 100 x sb 2 T1 Xr) := ⟨qN.mono (by
            rintro e w' (⟨_, rfl, h3⟩ | ⟨hx, _⟩)
            · rw [s0] at h3
              exact ⟨rfl, h3⟩
            · refine absurd ⟨fun i hi => ?_, ?_⟩ hx
              · rw [s0] at hi; simp at hi
              · rw [s0]; rfl)⟩
          obtain ⟨T2, hT2⟩ : ∃ T2, T2 = flipA T1 l := ⟨_, rfl⟩
          have HA : Hid (∀ w', SU w1 w' q p 100 x sb 2 T1 Xr → Calls Tryz.prog 15 #[pt sb, .slice (some ⟨g, 0, none⟩) j c] w' fun e w'' => e = .returned (.int .i64 0) ∧ SU w1 w'' q p 100 x sb 2 T2 Xr) := ⟨fun w' h => by
            have hll : (ni l).length = j := by rw [ni_len, MM.out.1]
            have hv := h.free (some ⟨g, 0, none⟩) c (ni l) (by omega) (fun w2 h2 i hi => ⟨g, 0, rfl, (HR.out _ _ _ [] (List.append_nil _) h2 i (by omega)).1, by rw [Nat.zero_add]; exact (HR.out _ _ _ [] (List.append_nil _) h2 i (by omega)).2⟩)
            rw [hll] at hv
            refine hv.mono ?_
            rintro e w'' (⟨_, rfl, h3⟩ | ⟨hx, _⟩)
            · rw [srt_ni MM.out.2.1, nats_ni, ← hT2] at h3
              exact ⟨rfl, h3⟩
            · refine absurd ⟨?_, ?_⟩ hx
              · rw [srt_ni MM.out.2.1]; exact fgood_ni MM.out.2.1 (fun k hk => MM.out.2.2.1 k hk)
              · rw [srt_ni MM.out.2.1, nats_ni]; exact allB_true (fun k hk => by rw [MM.out.2.2.2.1]; exact decide_eq_true hk)⟩
          have HL2 : Hid (∀ w', SU w1 w' q p 100 x sb 2 T2 Xr → Calls Tryz.prog 12 #[pt sb] w' fun e w'' => e = .returned (.int .i64 73) ∧ SU w1 w'' q p 100 x sb 2 T2 Xr) := ⟨fun w' h => by have := h.left; rw [hT2, MM.out.2.2.2.2] at this; rw [hT2]; exact this⟩
          have hsum : (LF : Int) + (j : Int) = 73 := by omega
          clear qN s0 hT2
          go_wp2_with fail
          refine HN.out.mono ?_
          rintro e w14 ⟨rfl, h14⟩
          have H14 : Hid (SU w1 w14 q p 100 x sb 2 T1 Xr) := ⟨h14⟩
          clear h14 HN H13
          dsimp only
          go_wp2_with fail
          refine (HL.out _ _ H14.out).mono ?_
          rintro e w15 ⟨rfl, h15⟩
          have H15 : Hid (SU w1 w15 q p 100 x sb 2 T1 Xr) := ⟨h15⟩
          clear h15 H14 HL
          dsimp only
          go_wp2_with fail
          refine (HA.out _ H15.out).mono ?_
          rintro e w16 ⟨rfl, h16⟩
          have H16 : Hid (SU w1 w16 q p 100 x sb 2 T2 Xr) := ⟨h16⟩
          clear h16 H15 HA
          dsimp only
          go_wp2_with fail
          refine (HL2.out _ H16.out).mono ?_
          rintro e w17 ⟨rfl, h17⟩
          have H17 : Hid (SU w1 w17 q p 100 x sb 2 T2 Xr) := ⟨h17⟩
          have qB := h17.blocks
          rw [show ((100 - 24 : Nat) : Int) = 76 from rfl] at qB
          clear h17 H16 HL2
          dsimp only
          go_wp2_with fail
          refine qB.mono ?_
          rintro e w18 ⟨rfl, h18⟩
          have HB : Hid (Below W.heap.size W w18) := ⟨HB1.out.trans (h18.bel.mono HB1.out.size)⟩
          clear h18 qB H17
          dsimp only
          go_wp2
          go_ret
          exact ⟨rfl, HB.out⟩
end Go.Proofs.YtghdgddpdamhcaaGreat

/- Arguments that came in. -/
namespace Go.Proofs.YtghdgddpdamhcaaGreat
set_option linter.unusedVariables false
set_option linter.unusedSimpArgs false
open Go.ChangeShapes Go.WideShapes Go.ChangeAt Go.RowKit
theorem own : ownKnob Tryz.prog.godebug = none := by kernel_rfl
theorem wf64 {n : Int} (h : (Lit.int .i64 n).wf = true) : -9223372036854775808 ≤ n ∧ n ≤ 9223372036854775807 := by
  simpa [Lit.wf, IntKind.min, IntKind.max, IntKind.signed, IntKind.bits] using h
end Go.Proofs.YtghdgddpdamhcaaGreat
