import Derived.Test.YtghdgddpdamhcaaGreatOpe
/- What lies behind the head. -/
namespace Go.Proofs.YtghdgddpdamhcaaGreat
set_option linter.unusedVariables false
set_option linter.unusedSimpArgs false
open Go.RowKit
theorem WIn.below {w w' : World} {a : Option Addr} {l : Il} (h : WIn w a l) (b : Below w.heap.size w w') : WIn w' a l := fun k z hz => by
  obtain ⟨g, off, e, c0, c1⟩ := h k z hz
  exact ⟨g, off, e, (b.cell (p := ⟨g, _, none⟩) (World.block_lt_of_cell? w _ c0)).trans c0, (b.cell (p := ⟨g, _, none⟩) (World.block_lt_of_cell? w _ c1)).trans c1⟩
theorem numL_step (l : Wl) (k : Nat) (z : Nat × ByteArray) (hz : l[k]? = some z) : numL ((l.take (k + 1)).map Prod.fst) = numL ((l.take k).map Prod.fst) ++ be2 z.1 := by
  have hk := (List.getElem?_eq_some_iff.1 hz).1
  rw [List.take_succ_eq_append_getElem hk, List.map_append, numL_append, Option.some.inj ((List.getElem?_eq_getElem hk).symm.trans hz)]
  simp [numL]
theorem bh_step (l : Wl) (k : Nat) (z : Nat × ByteArray) (hz : l[k]? = some z) (A : ByteArray) : (0, A) :: txs 1 (l.take (k + 1)) = ((0, A) :: txs 1 (l.take k)) ++ [(k + 1, z.2)] := by
  have hk := (List.getElem?_eq_some_iff.1 hz).1
  rw [List.take_succ_eq_append_getElem hk, txs_append, Option.some.inj ((List.getElem?_eq_getElem hk).symm.trans hz)]
  simp [txs, List.length_take]
  omega
set_option maxRecDepth 100000 in
theorem behind_any (a : Option Addr) (cap : Nat) (l : Wl) (w : World) (hin : WIn w a (ints l)) (h1 : 1 ≤ l.length) (h2 : l.length ≤ 256) (h16 : ∀ x ∈ l, x.1 < 65536) {n : Nat} (hn : n = l.length) :
    Calls Tryz.prog 101 #[.slice a n cap] w fun e w' => ∃ y c, e = .returned (rw_ y (l.length + 1) c) ∧ w'.ownsRow 0 95 2 (rw_ y (l.length + 1) c) (l.length + 1) (wcs (bhL NN l)) ∧ Below w.heap.size w w' ∧ w.heap.size ≤ y := by
  subst hn
  have HI : Hid (WIn w a (ints l)) := ⟨hin⟩
  have H16 : Hid (∀ x ∈ l, x.1 < 65536) := ⟨h16⟩
  have e1 : (l.length + 255) / 256 = 1 := by omega
  have qL : Hid (∀ w5, Calls Tryz.prog 99 #[.int .i64 (l.length : Int)] w5 fun e w' => e = .returned (.int .i64 1) ∧ w' = w5) := ⟨fun w5 => by have := lists_any l.length (by omega) w5; rw [e1] at this; exact this⟩
  obtain ⟨A, hA⟩ : ∃ A, numsOf NN l = A := ⟨_, rfl⟩
  have HA : Hid (A = ⟨(numL (l.map Prod.fst) ++ List.replicate (512 - 2 * l.length) 0).toArray⟩) := ⟨by rw [← hA, numsOf, nums_eq, numsL_eq _ (by simpa using h2)]; simp⟩
  have HB : Hid (bhL NN l = (0, A) :: txs 1 l) := ⟨by rw [← hA]; rfl⟩
  generalize bhL NN l = BL at *
  clear hin h16 e1 hA
  go_enter Tryz.func101, Tryz.ntmps101
  go_wp2_with fail
  go_loopw [3, 12] (fun v i wr => ∃ k : Nat, k ≤ l.length ∧ i = .int .i64 (k : Int) ∧ Hid (Ob w.heap.size wr v (numL ((l.take k).map Prod.fst))) ∧ Hid (Below w.heap.size w wr)) (fun _ i _ => l.length - (intOf i).toNat)
  case atStart => exact ⟨0, Nat.zero_le _, rfl, ⟨Ob.nil _ _ (Nat.le_refl _)⟩, ⟨Below.refl _ _⟩⟩
  case round =>
    obtain ⟨k, hk, rfl, O, B⟩ := hrel
    by_cases hlt : k < l.length
    · obtain ⟨⟨N, T⟩, hz⟩ : ∃ z, l[k]? = some z := ⟨_, List.getElem?_eq_getElem hlt⟩
      obtain ⟨b, off, rfl, cN, cT⟩ := (HI.out.below B.out) k _ (ints_at l k _ hz)
      simp only at cN cT
      have hN := H16.out _ (List.mem_of_getElem? hz)
      have hi : (k : Int) < l.length := by omega
      have hw1 : wrap64 ((k : Int) + 1) = ((k + 1 : Nat) : Int) := by unfold wrap64; omega
      have HN := numL_step l k _ hz
      have hlen : (numL ((l.take k).map Prod.fst)).length ≤ 600 := by rw [numL_length]; simp; omega
      have O5 : Hid (Ob w.heap.size (wr.alloc (.cells #[.int .i64 (N : Int), .string T] 95)) u3 (numL ((l.take k).map Prod.fst))) := ⟨O.out.alloc _⟩
      have B5 : Hid (Below w.heap.size w (wr.alloc (.cells #[.int .i64 (N : Int), .string T] 95))) := ⟨B.out.alloc B.out.size _⟩
      have HN5 : Hid (numL ((l.take (k + 1)).map Prod.fst) = numL ((l.take k).map Prod.fst) ++ be2 N) := ⟨HN⟩
      clear hz HN O B
      go_wp2_with fail
      refine (appendNumber_any N O5.out (by omega) hN).mono ?_
      rintro e w6 ⟨v6, rfl, o6, b6⟩
      have O6 : Hid (Ob w.heap.size w6 v6 (numL ((l.take (k + 1)).map Prod.fst))) := ⟨by rw [HN5.out]; exact o6⟩
      have B6 : Hid (Below w.heap.size w w6) := ⟨B5.out.trans b6⟩
      clear o6 b6 O5 B5
      dsimp only
      go_wp2
      go_roundw
      case rel => exact ⟨k + 1, by omega, by go_num, O6, B6⟩
      case measure => simp [intOf]; omega
    · have hke : k = l.length := by omega
      subst hke
      have hi : ¬ ((l.length : Int) < l.length) := by omega
      rw [List.take_length] at O
      have hnl : (numL (l.map Prod.fst)).length = 2 * l.length := by rw [numL_length]; simp
      obtain ⟨va, vc, ev⟩ := own_slice O.out.own
      rw [hnl] at ev
      subst ev
      have hw3 : wrap64 (512 - ((2 * l.length : Nat) : Int)) = ((512 - 2 * l.length : Nat) : Int) := by unfold wrap64; omega
      have HM : Hid ((512 : Int) - ((2 * l.length : Nat) : Int) = ((512 - 2 * l.length : Nat) : Int)) := ⟨by omega⟩
      go_wp2_with fail
      refine (qL.out _).mono ?_
      rintro e wr ⟨rfl, rfl⟩
      dsimp only
      go_wp2_with (at_builtin; refine app_zeros (i := 512 - ((2 * l.length : Nat) : Int)) (512 - 2 * l.length) HM.out O.out (by omega) (by omega) rfl _ _ rfl rfl rfl ?_; intro v7 w7 q7 b7)
      have hl7 : (numL (l.map Prod.fst) ++ List.replicate (512 - 2 * l.length) 0).length = 512 := by rw [List.length_append, hnl, List.length_replicate]; omega
      have hcv := conv_own q7.own
      rw [← HA.out] at hcv
      obtain ⟨g7, c7, rfl, hc7⟩ : ∃ g7 c7, v7 = .slice (some ⟨g7, 0, none⟩) 512 c7 ∧ 512 ≤ c7 := by
        rcases q7.own.2 with ⟨_, h0⟩ | ⟨g, cap, cur, rfl, _, _, h1, _⟩
        · rw [hl7] at h0; cases h0
        · rw [hl7] at h1 ⊢; exact ⟨g, cap, rfl, h1⟩
      have B7 : Hid (Below w.heap.size w w7) := ⟨B.out.trans b7⟩
      have hc7' : (512 : Int) ≤ (c7 : Int) := by omega
      clear q7 b7 O B hl7 hnl HM hw3 qL
      go_loopw [6, 7] (fun v i wr => (i = .int .i64 0 ∧ v = .slice none 0 0 ∧ wr = w7) ∨ (i = .int .i64 512 ∧ ∃ y c, v = rw_ y 1 c ∧ Hid (wr.ownsRow 0 95 2 (rw_ y 1 c) 1 (wcs [(0, A)])) ∧ Hid (Below w.heap.size w wr) ∧ Hid (w.heap.size ≤ y))) (fun _ i _ => 1024 - (intOf i).toNat)
      case atStart => exact .inl ⟨rfl, rfl, rfl⟩
      case round =>
        rcases hrel with ⟨rfl, rfl, rfl⟩ | ⟨rfl, y, c, rfl, O, B⟩
        · have OW : Hid (wr.ownsRow 0 95 2 (.slice none 0 0) ([] : Wl).length (wcs [])) := ⟨World.ownsRow_nil _ _ _ _⟩
          go_wp2_with (at_builtin; refine app_write (g := wr.heap.size) (l := []) (i := 0) 0 rfl rfl rfl OW.out (by decide) rfl _ _ rfl rfl rfl ?_; intro y c w8 q8 g8 n8)
          refine ⟨.inr ⟨rfl, y, c, rfl, ⟨q8⟩, ⟨B7.out.grown g8 B7.out.size (fun j hj => by cases hj)⟩, ⟨?_⟩⟩, by simp [intOf]⟩
          rcases n8 with n8 | n8
          · cases n8
          · exact Nat.le_trans B7.out.size n8
        · obtain ⟨B, HY⟩ := B
          clear B7 hcv hc7 hc7'
          go_wp2_with fail
          go_loopw [6, 50] (fun v i wr => ∃ k y c : Nat, k ≤ l.length ∧ i = .int .i64 (k : Int) ∧ v = rw_ y (k + 1) c ∧ Hid (wr.ownsRow 0 95 2 (rw_ y (k + 1) c) (k + 1) (wcs ((0, A) :: txs 1 (l.take k)))) ∧ Hid (Below w.heap.size w wr) ∧ Hid (w.heap.size ≤ y)) (fun _ i _ => l.length - (intOf i).toNat)
          case atStart => exact ⟨0, y, c, Nat.zero_le _, rfl, rfl, O, B, HY⟩
          case round =>
            obtain ⟨k, y, c, hk, rfl, rfl, O, B, HY⟩ := hrel
            by_cases hlt : k < l.length
            · obtain ⟨⟨N, T⟩, hz⟩ : ∃ z, l[k]? = some z := ⟨_, List.getElem?_eq_getElem hlt⟩
              obtain ⟨b, off, rfl, cN, cT⟩ := (HI.out.below B.out) k _ (ints_at l k _ hz)
              simp only at cN cT
              have hi : (k : Int) < l.length := by omega
              have hw1 : wrap64 ((k : Int) + 1) = ((k + 1 : Nat) : Int) := by unfold wrap64; omega
              have HN : Hid ((0, A) :: txs 1 (l.take (k + 1)) = ((0, A) :: txs 1 (l.take k)) ++ [(k + 1, T)]) := ⟨bh_step l k _ hz A⟩
              have hlen : ((0, A) :: txs 1 (l.take k) : Wl).length = k + 1 := by rw [List.length_cons, txs_length, List.length_take]; omega
              have O5 : Hid ((wr.alloc (.cells #[.int .i64 (N : Int), .string T] 95)).ownsRow 0 95 2 (rw_ y (k + 1) c) ((0, A) :: txs 1 (l.take k) : Wl).length (wcs ((0, A) :: txs 1 (l.take k)))) := ⟨by rw [hlen]; exact O.out.alloc _⟩
              have HL : Hid (((0, A) :: txs 1 (l.take k) : Wl).length = k + 1) := ⟨hlen⟩
              have B5 : Hid (Below w.heap.size w (wr.alloc (.cells #[.int .i64 (N : Int), .string T] 95))) := ⟨B.out.alloc B.out.size _⟩
              have n1 : (wr.alloc (.cells #[.int .i64 (N : Int), .string T] 95)).cell? ⟨wr.heap.size, 1, none⟩ = some (.string T) := cell_of_row _ _ 1 _ _ (0, 0) (heap_alloc_new wr _)
              clear hz hlen O B
              have hsz : (wr.alloc (.cells #[.int .i64 (N : Int), .string T] 95)).heap.size = wr.heap.size + 1 := by simp
              have HZ : Hid (wr.heap.size + 1 = (wr.alloc (.cells #[.int .i64 (N : Int), .string T] 95)).heap.size) := ⟨hsz.symm⟩
              clear hsz
              generalize ((0, A) :: txs 1 (l.take k) : Wl) = M at *
              go_wp2_with (at_builtin; refine app_write (g := wr.heap.size + 1) (l := M) (i := (k : Int) + 1) (k + 1) (by omega) rfl HZ.out O5.out (by rw [HL.out]; omega) rfl _ _ rfl rfl rfl ?_; intro y2 c2 w8 q8 g8 n8)
              rw [HL.out] at q8
              have B8 : Hid (Below w.heap.size w w8) := ⟨B5.out.grown g8 B5.out.size (fun j hj => by cases hj; exact HY.out)⟩
              have hy2 : w.heap.size ≤ y2 := by
                rcases n8 with n8 | n8
                · cases n8; exact HY.out
                · exact Nat.le_trans B5.out.size n8
              have q9 : w8.ownsRow 0 95 2 (rw_ y2 (k + 1 + 1) c2) (k + 1 + 1) (wcs ((0, A) :: txs 1 (l.take (k + 1)))) := by rw [HN.out]; exact q8
              refine ⟨⟨k + 1, y2, c2, by omega, by go_num, ?_, ⟨q9⟩, B8, ⟨hy2⟩⟩, by simp [intOf]; omega⟩
              rw [HL.out]
            · have hke : k = l.length := by omega
              subst hke
              have hi : ¬ ((l.length : Int) < l.length) := by omega
              rw [List.take_length, ← HB.out] at O
              go_wp2
              go_ret
              exact ⟨y, c, rfl, O.out, B.out, HY.out⟩
end Go.Proofs.YtghdgddpdamhcaaGreat

/- commit and Commit. -/
namespace Go.Proofs.YtghdgddpdamhcaaGreat
set_option linter.unusedVariables false
set_option linter.unusedSimpArgs false
open Go.RowKit
variable {w0 w : World} {Ls rest : List (Th → Prop)} {q p s : Nat} {d : Bool} {st : St}
theorem Arg.app {rest : List (Th → Prop)} {a : Option Addr} {l : Il} (h : Arg rest a l) (X : List (Th → Prop)) : Arg (rest ++ X) a l := by
  rcases h with rfl | ⟨k, s, hk, hs⟩
  · exact .inl rfl
  · exact .inr ⟨k, s, by rw [List.getElem?_append_left (List.getElem?_eq_some_iff.1 hk).1]; exact hk, hs⟩
set_option maxRecDepth 100000 in
theorem lcommit_env (h : EnvP w0 w (lg q p s d :: dk p st :: rest)) (hs : s < 8192) (hp : st.pend.length ≤ 1000) (a : Option Addr) (cap : Nat) (l : Wl) (ha : Arg rest a (ints l)) (h1 : 1 ≤ l.length) (h2 : l.length ≤ 256) (hb : ∀ x ∈ l, x.1 < 8192) {n : Nat} (hn : n = l.length) :
    Calls Tryz.prog 77 #[pt q, .slice a n cap] w fun e w' => e = .returned (.int .i64 (comR NN st s l).2) ∧ EnvP w0 w' (lg q p s d :: dk p (comR NN st s l).1 :: rest) := by
  subst hn
  have qB := behind_any a cap l w (ha.win h) h1 h2 (fun x hx => by have := hb x hx; omega) rfl
  have hbl : (bhL NN l).length = l.length + 1 := by rw [bhL, List.length_cons, txs_length]
  have hbm : ∀ x ∈ bhL NN l, 1 + x.1 < 1000000 := fun x hx => by
    rcases List.mem_cons.1 hx with rfl | hx
    · simp
    · obtain ⟨i, z, hz, rfl⟩ := txs_mem hx
      have := (List.getElem?_eq_some_iff.1 hz).1
      simp; omega
  have qL1 : Hid (∀ (y c : Nat) (w5 : World), EnvP w0 w5 (lg q p s d :: dk p st :: (rest ++ [rowW (rw_ y (l.length + 1) c) (ints (bhL NN l))])) → Calls Tryz.prog 100 #[pt q, .int .i64 1, rw_ y (l.length + 1) c] w5 fun e w' => e = .returned (.int .i64 (layR st (shift 1 (bhL NN l))).2) ∧ EnvP w0 w' (lg q p s d :: dk p (layR st (shift 1 (bhL NN l))).1 :: (rest ++ [rowW (rw_ y (l.length + 1) c) (ints (bhL NN l))]))) := ⟨fun y c w5 h5 =>
    lay_env h5 1 rfl (some ⟨y, 0, none⟩) c (bhL NN l) hbl.symm (Arg.last rest y _ _ _) hbm (by omega)⟩
  have HP1 : Hid (∀ (y c : Nat) (w5 : World), w5.ownsRow 0 95 2 (rw_ y (l.length + 1) c) (l.length + 1) (wcs (bhL NN l)) → Below w.heap.size w w5 → w.heap.size ≤ y → EnvP w0 w5 (lg q p s d :: dk p st :: (rest ++ [rowW (rw_ y (l.length + 1) c) (ints (bhL NN l))]))) := ⟨fun y c w5 o b hg => h.pushW (l := ints (bhL NN l)) b (by rw [wci_ints, ints_length, hbl]; exact o) (fun k hk => by cases hk; exact hg)⟩
  have hp1 : (layR st (shift 1 (bhL NN l))).1.pend.length ≤ 1300 := by have := layR_pend (shift 1 (bhL NN l)) st; rw [shift_length, hbl] at this; omega
  have hp2 : (layR (layR st (shift 1 (bhL NN l))).1 [(0, NN.hd s l.length)]).1.pend.length ≤ 1400 := by have := layR_pend [(0, NN.hd s l.length)] (layR st (shift 1 (bhL NN l))).1; simp at this; omega
  have qW : Hid (∀ w5, Calls Tryz.prog 102 #[.agg #[.int .i64 (s : Int), .int .i64 (l.length : Int)]] w5 fun e w' => ∃ g, e = .returned (rw_ g 1 1) ∧ w'.ownsRow 0 95 2 (rw_ g 1 1) 1 (wcs [(0, NN.hd s l.length)]) ∧ Below w5.heap.size w5 w' ∧ w5.heap.size ≤ g) := ⟨fun w5 => hwrites_any s l.length (by omega) (by omega) w5⟩
  generalize hX1 : layR st (shift 1 (bhL NN l)) = X1 at *
  have qL2 : Hid (∀ (g : Nat) (w5 : World), EnvP w0 w5 (lg q p s d :: dk p X1.1 :: (rest ++ [rowW (rw_ g 1 1) (ints [(0, NN.hd s l.length)])])) → Calls Tryz.prog 100 #[pt q, .int .i64 0, .slice (some ⟨g, 0, none⟩) 1 1] w5 fun e w' => e = .returned (.int .i64 (layR X1.1 [(0, NN.hd s l.length)]).2) ∧ EnvP w0 w' (lg q p s d :: dk p (layR X1.1 [(0, NN.hd s l.length)]).1 :: (rest ++ [rowW (rw_ g 1 1) (ints [(0, NN.hd s l.length)])]))) := ⟨fun g w5 h5 => by
    have := lay_env h5 0 (f' := 0) rfl (some ⟨g, 0, none⟩) 1 [(0, NN.hd s l.length)] (n := 1) rfl (Arg.last rest g _ _ _) (fun x hx => by simp at hx; subst hx; simp) (by simp; omega)
    rwa [shift_zero] at this⟩
  generalize hX2 : layR X1.1 [(0, NN.hd s l.length)] = X2 at *
  have HP2 : Hid (∀ (g : Nat) (w4 w5 : World), EnvP w0 w4 (lg q p s d :: dk p X1.1 :: rest) → w5.ownsRow 0 95 2 (rw_ g 1 1) 1 (wcs [(0, NN.hd s l.length)]) → Below w4.heap.size w4 w5 → w4.heap.size ≤ g → EnvP w0 w5 (lg q p s d :: dk p X1.1 :: (rest ++ [rowW (rw_ g 1 1) (ints [(0, NN.hd s l.length)])]))) := ⟨fun g w4 w5 h4 o b hg => h4.pushW (l := ints [(0, NN.hd s l.length)]) b (by rw [wci_ints]; exact o) (fun k hk => by cases hk; exact hg)⟩
  have qF : Hid (∀ (w5 : World), EnvP w0 w5 (lg q p s d :: dk p X2.1 :: rest) → Calls Tryz.prog 103 #[pt q, .slice a l.length cap] w5 fun e w' => e = .returned (.int .i64 (finR NN X2.1 s l).2) ∧ EnvP w0 w' (lg q p s d :: dk p (finR NN X2.1 s l).1 :: rest)) := ⟨fun w5 h5 => finish_env h5 hs a cap l ha hb (by omega) (by omega) (by have := layR_pend (shift s l) X2.1; rw [shift_length] at this; omega) rfl⟩
  have HC : Hid (comR NN st s l = if X1.2 = 0 then (if X2.2 = 0 then finR NN X2.1 s l else X2) else X1) := ⟨by rw [← hX2, ← hX1]; rfl⟩
  generalize comR NN st s l = C at *
  generalize finR NN X2.1 s l = F at *
  generalize NN.hd s l.length = hdx at *
  generalize ints (bhL NN l) = ib at *
  generalize hwb : wcs (bhL NN l) = wb at *
  clear h hwb hX1 hX2 hbm hbl ha hb
  obtain ⟨x1, r1⟩ := X1
  obtain ⟨x2, r2⟩ := X2
  simp only at *
  by_cases h1 : r1 = 0
  · subst h1
    by_cases h2 : r2 = 0
    · subst h2
      have e := HC.out
      simp only [if_true] at e
      subst e
      clear HC
      go_enter Tryz.func77, Tryz.ntmps77
      go_wp2_with fail
      refine qB.mono ?_
      rintro e w1 ⟨y, c, rfl, o1, b1, hy⟩
      have E1 := HP1.out y c w1 o1 b1 hy
      clear o1 b1 hy
      dsimp only
      go_wp2_with fail
      refine (qL1.out y c w1 E1).mono ?_
      rintro e w2 ⟨rfl, h2⟩
      have E2 := EnvP.init (Ls := lg q p s d :: dk p x1 :: rest) h2
      have c21 := (lgc E2).2.1
      clear h2 E1
      dsimp only
      go_wp2_with fail
      refine (qW.out w2).mono ?_
      rintro e w3 ⟨g, rfl, o3, b3, hg⟩
      have E3 := HP2.out g w2 w3 E2 o3 b3 hg
      clear o3 b3 hg
      dsimp only
      go_wp2_with fail
      refine (qL2.out g w3 E3).mono ?_
      rintro e w4 ⟨rfl, h4⟩
      have E4 := EnvP.init (Ls := lg q p s d :: dk p x2 :: rest) h4
      clear h4 E3
      dsimp only
      go_wp2_with fail
      refine (qF.out w4 E4).mono ?_
      rintro e w5 ⟨rfl, h5⟩
      dsimp only
      go_wp2
      go_ret
      exact ⟨rfl, h5⟩
    · have e := HC.out
      rw [if_pos rfl, if_neg h2] at e
      subst e
      clear HC
      go_enter Tryz.func77, Tryz.ntmps77
      go_wp2_with fail
      refine qB.mono ?_
      rintro e w1 ⟨y, c, rfl, o1, b1, hy⟩
      have E1 := HP1.out y c w1 o1 b1 hy
      clear o1 b1 hy
      dsimp only
      go_wp2_with fail
      refine (qL1.out y c w1 E1).mono ?_
      rintro e w2 ⟨rfl, h2⟩
      have E2 := EnvP.init (Ls := lg q p s d :: dk p x1 :: rest) h2
      have c21 := (lgc E2).2.1
      clear h2 E1
      dsimp only
      go_wp2_with fail
      refine (qW.out w2).mono ?_
      rintro e w3 ⟨g, rfl, o3, b3, hg⟩
      have E3 := HP2.out g w2 w3 E2 o3 b3 hg
      clear o3 b3 hg
      dsimp only
      go_wp2_with fail
      refine (qL2.out g w3 E3).mono ?_
      rintro e w4 ⟨rfl, h4⟩
      have E4 := EnvP.init (Ls := lg q p s d :: dk p x2 :: rest) h4
      clear h4 E3
      dsimp only
      go_wp2
      go_ret
      exact ⟨rfl, E4⟩
  · have e := HC.out
    rw [if_neg h1] at e
    subst e
    clear HC
    go_enter Tryz.func77, Tryz.ntmps77
    go_wp2_with fail
    refine qB.mono ?_
    rintro e w1 ⟨y, c, rfl, o1, b1, hy⟩
    have E1 := HP1.out y c w1 o1 b1 hy
    clear o1 b1 hy
    dsimp only
    go_wp2_with fail
    refine (qL1.out y c w1 E1).mono ?_
    rintro e w2 ⟨rfl, h2⟩
    have E2 := EnvP.init (Ls := lg q p s d :: dk p x1 :: rest) h2
    clear h2 E1
    dsimp only
    go_wp2
    go_ret
    exact ⟨rfl, E2⟩
end Go.Proofs.YtghdgddpdamhcaaGreat

/- Commit. -/
namespace Go.Proofs.YtghdgddpdamhcaaGreat
set_option linter.unusedVariables false
set_option linter.unusedSimpArgs false
open Go.RowKit
variable {w0 w : World} {Ls rest : List (Th → Prop)} {q p s : Nat} {d : Bool} {st : St}
def natL (l : Il) : Wl := l.map fun p => (p.1.toNat, p.2)
theorem natL_length (l : Il) : (natL l).length = l.length := by simp [natL]
theorem ints_natL {n : Nat} {l : Il} (h : rightB n l = true) : ints (natL l) = l := by
  unfold rightB at h
  rw [decide_eq_true_iff] at h
  unfold ints natL
  rw [List.map_map]
  conv => rhs; rw [← List.map_id l]
  refine List.map_congr_left fun p hp => ?_
  have := (h.1 p hp).1
  simp [okN] at this
  show ((p.1.toNat : Int), p.2) = p
  rw [Int.toNat_of_nonneg this.1]
theorem right_good {n s : Nat} {l : Il} (h : rightB (n - s) l = true) (h1 : 1 + l.length < s) (h2 : l.length ≤ 256) : Good n s (natL l) := by
  have h' := h
  unfold rightB at h'
  rw [decide_eq_true_iff] at h'
  refine ⟨fun p hp => ?_, ?_, by rw [natL_length]; exact h1, by rw [natL_length]; exact h2⟩
  · obtain ⟨x, hx, rfl⟩ := List.mem_map.1 hp
    have := h'.1 x hx
    simp [okN] at this
    exact ⟨by simp; omega, this.2⟩
  · have e : (natL l).map Prod.fst = (l.map Prod.fst).map Int.toNat := by simp [natL]
    rw [e]
    have hnn : ∀ x ∈ l.map Prod.fst, (0 : Int) ≤ x := fun x hx => by
      obtain ⟨y, hy, rfl⟩ := List.mem_map.1 hx
      have := (h'.1 y hy).1
      simp [okN] at this
      exact this.1
    have hnd := h'.2
    generalize l.map Prod.fst = zs at *
    clear e h h' h1 h2
    induction zs with
    | nil => simp
    | cons z r ih =>
      rw [List.nodup_cons] at hnd
      rw [List.map_cons, List.nodup_cons]
      refine ⟨fun hm => ?_, ih (fun x hx => hnn x (List.mem_cons_of_mem _ hx)) hnd.2⟩
      obtain ⟨y, hy, e⟩ := List.mem_map.1 hm
      have a := hnn y (List.mem_cons_of_mem _ hy)
      have b := hnn z List.mem_cons_self
      have : y = z := by omega
      subst this
      exact hnd.1 hy
set_option maxRecDepth 100000 in
theorem commit_off (h : EnvP w0 w (lg q p s d :: dk p st :: rest)) (ho : (d || st.off) = true) (v : Value) :
    Calls Tryz.prog 46 #[pt q, v] w fun e w' => e = .returned (.int .i64 9) ∧ EnvP w0 w' (lg q p s true :: dk p st :: rest) := by
  have qO := loff_env h
  rw [ho] at qO
  clear h ho
  go_enter Tryz.func46, Tryz.ntmps46
  go_wp2_with fail
  refine qO.mono ?_
  rintro e w1 ⟨rfl, h1⟩
  dsimp only
  go_wp2
  go_ret
  exact ⟨rfl, h1⟩
set_option maxRecDepth 100000 in
theorem commit_bad (h : EnvP w0 w (lg q p s false :: dk p st :: rest)) (ho : st.off = false) (hs : s ≤ st.safe.length) (a : Option Addr) (cap : Nat) (l : Il) {n : Nat} (hn : n = l.length) (ha : Arg rest a l) (hl : l.length ≤ 20000000000000) {m : Nat} (hm : m = st.safe.length - s) (hr : rightB m l = false) : Calls Tryz.prog 46 #[pt q, .slice a n cap] w fun e w' => e = .returned (.int .i64 1) ∧ EnvP w0 w' (lg q p s false :: dk p st :: rest) := by
  have qO := loff_env h
  rw [ho] at qO
  have qR : Hid (∀ w5, EnvP w0 w5 (lg q p s false :: dk p st :: rest) → Calls Tryz.prog 75 #[pt q, .slice a n cap] w5 fun e w' => e = .returned (.bool false) ∧ Below w5.heap.size w5 w') := ⟨fun w5 h5 => by have := right_env h5 hs a cap l hn ha hl hm; rwa [hr] at this⟩
  clear h ho hm hn
  go_enter Tryz.func46, Tryz.ntmps46
  go_wp2_with fail
  refine qO.mono ?_
  rintro e w1 ⟨rfl, h1⟩
  dsimp only
  go_wp2_with fail
  refine (qR.out _ h1).mono ?_
  rintro e w2 ⟨rfl, b2⟩
  dsimp only
  go_wp2
  go_ret
  exact ⟨rfl, h1.below b2⟩
set_option maxRecDepth 100000 in
theorem commit_nil (h : EnvP w0 w (lg q p s false :: dk p st :: rest)) (ho : st.off = false) (hs : s ≤ st.safe.length) (a : Option Addr) (cap : Nat) (l : Il) {n : Nat} (hn : n = l.length) (ha : Arg rest a l) (hl : l.length ≤ 20000000000000) {m : Nat} (hm : m = st.safe.length - s) (h0 : l = []) : Calls Tryz.prog 46 #[pt q, .slice a n cap] w fun e w' => e = .returned (.int .i64 0) ∧ EnvP w0 w' (lg q p s false :: dk p st :: rest) := by
  have qO := loff_env h
  rw [ho] at qO
  have hr : rightB m l = true := by subst h0; simp [rightB]
  have qR : Hid (∀ w5, EnvP w0 w5 (lg q p s false :: dk p st :: rest) → Calls Tryz.prog 75 #[pt q, .slice a n cap] w5 fun e w' => e = .returned (.bool true) ∧ Below w5.heap.size w5 w') := ⟨fun w5 h5 => by have := right_env h5 hs a cap l hn ha hl hm; rwa [hr] at this⟩
  obtain rfl : n = 0 := by rw [hn, h0]; rfl
  clear h ho hm hn h0
  go_enter Tryz.func46, Tryz.ntmps46
  go_wp2_with fail
  refine qO.mono ?_
  rintro e w1 ⟨rfl, h1⟩
  dsimp only
  go_wp2_with fail
  refine (qR.out _ h1).mono ?_
  rintro e w2 ⟨rfl, b2⟩
  dsimp only
  go_wp2
  go_ret
  exact ⟨rfl, h1.below b2⟩
set_option maxRecDepth 100000 in
theorem commit_full (h : EnvP w0 w (lg q p s false :: dk p st :: rest)) (ho : st.off = false) (hs : s ≤ st.safe.length) (a : Option Addr) (cap : Nat) (l : Il) {n : Nat} (hn : n = l.length) (ha : Arg rest a l) (hl : l.length ≤ 20000000000000) {m : Nat} (hm : m = st.safe.length - s) (hr : rightB m l = true) (hs2 : s ≤ 250) (h0 : l ≠ []) (hf : s ≤ 1 + l.length) : Calls Tryz.prog 46 #[pt q, .slice a n cap] w fun e w' => e = .returned (.int .i64 41) ∧ EnvP w0 w' (lg q p s false :: dk p st :: rest) := by
  subst hn
  have qO := loff_env h
  rw [ho] at qO
  have qR : Hid (∀ w5, EnvP w0 w5 (lg q p s false :: dk p st :: rest) → Calls Tryz.prog 75 #[pt q, .slice a l.length cap] w5 fun e w' => e = .returned (.bool true) ∧ Below w5.heap.size w5 w') := ⟨fun w5 h5 => by have := right_env h5 hs a cap l rfl ha hl hm; rwa [hr] at this⟩
  have hl0 : 1 ≤ l.length := List.length_pos_iff.2 h0
  have hfd : decide ((l.length + 255) / 256 + l.length < s) = false := decide_eq_false (by omega)
  have qF : Hid (∀ w5, EnvP w0 w5 (lg q p s false :: dk p st :: rest) → Calls Tryz.prog 76 #[pt q, .int .i64 (l.length : Int)] w5 fun e w' => e = .returned (.bool false) ∧ ∃ m, w' = w5.drewN m) := ⟨fun w5 h5 => by have := fits_env h5 (by omega) l.length (by omega); rwa [hfd] at this⟩
  have hne : ¬ ((l.length : Int) = 0) := by omega
  clear h ho hm h0
  go_enter Tryz.func46, Tryz.ntmps46
  go_wp2_with fail
  refine qO.mono ?_
  rintro e w1 ⟨rfl, h1⟩
  dsimp only
  go_wp2_with fail
  refine (qR.out _ h1).mono ?_
  rintro e w2 ⟨rfl, b2⟩
  have E2 := h1.below b2
  clear h1 b2
  dsimp only
  go_wp2_with fail
  refine (qF.out _ E2).mono ?_
  rintro e w3 ⟨rfl, j, rfl⟩
  dsimp only
  go_wp2
  go_ret
  exact ⟨rfl, E2.drewN j⟩
set_option maxRecDepth 100000 in
theorem commit_run (h : EnvP w0 w (lg q p s false :: dk p st :: rest)) (ho : st.off = false) (hs : s ≤ st.safe.length) (a : Option Addr) (cap : Nat) (l : Il) {n : Nat} (hn : n = l.length) (ha : Arg rest a l) (hl : l.length ≤ 20000000000000) {m : Nat} (hm : m = st.safe.length - s) (hr : rightB m l = true) (hs2 : s ≤ 250) (h0 : l ≠ []) (hf : 1 + l.length < s) (hp : st.pend.length ≤ 1000) : Calls Tryz.prog 46 #[pt q, .slice a n cap] w fun e w' => e = .returned (.int .i64 (comR NN st s (natL l)).2) ∧ EnvP w0 w' (lg q p s (decide ((comR NN st s (natL l)).2 = 9)) :: dk p (comR NN st s (natL l)).1 :: rest) := by
  subst hn
  have qO := loff_env h
  rw [ho] at qO
  have qR : Hid (∀ w5, EnvP w0 w5 (lg q p s false :: dk p st :: rest) → Calls Tryz.prog 75 #[pt q, .slice a l.length cap] w5 fun e w' => e = .returned (.bool true) ∧ Below w5.heap.size w5 w') := ⟨fun w5 h5 => by have := right_env h5 hs a cap l rfl ha hl hm; rwa [hr] at this⟩
  have hl0 : 1 ≤ l.length := List.length_pos_iff.2 h0
  have hhi := (h.wf 1 rfl).hi
  have hfd : decide ((l.length + 255) / 256 + l.length < s) = true := decide_eq_true (by omega)
  have qF : Hid (∀ w5, EnvP w0 w5 (lg q p s false :: dk p st :: rest) → Calls Tryz.prog 76 #[pt q, .int .i64 (l.length : Int)] w5 fun e w' => e = .returned (.bool true) ∧ ∃ m, w' = w5.drewN m) := ⟨fun w5 h5 => by have := fits_env h5 (by omega) l.length (by omega); rwa [hfd] at this⟩
  have gd := right_good (n := st.safe.length) (s := s) (l := l) (by rw [← hm]; exact hr) hf (by omega)
  have qC : Hid (∀ w5, EnvP w0 w5 (lg q p s false :: dk p st :: rest) → Calls Tryz.prog 77 #[pt q, .slice a l.length cap] w5 fun e w' => e = .returned (.int .i64 (comR NN st s (natL l)).2) ∧ EnvP w0 w' (lg q p s false :: dk p (comR NN st s (natL l)).1 :: rest)) := ⟨fun w5 h5 => lcommit_env h5 (by omega) hp a cap (natL l) (by rw [ints_natL hr]; exact ha) (by rw [natL_length]; exact hl0) (by rw [natL_length]; omega) (fun x hx => by have := (gd.num x hx).1; omega) (natL_length l).symm⟩
  have hne : ¬ ((l.length : Int) = 0) := by omega
  generalize comR NN st s (natL l) = C at *
  obtain ⟨c1, r⟩ := C
  simp only at *
  have HE : Hid (∀ w5, EnvP w0 w5 (lg q p s false :: dk p c1 :: rest) → EnvP w0 (w5.setCell ⟨q, 2, none⟩ (.bool (decide (r = 9)))) (lg q p s (decide (r = 9)) :: dk p c1 :: rest)) := ⟨fun w5 h5 => h5.setCell 0 rfl 2 (.bool (decide (r = 9)))⟩
  clear h ho hm h0 gd
  go_enter Tryz.func46, Tryz.ntmps46
  go_wp2_with fail
  refine qO.mono ?_
  rintro e w1 ⟨rfl, h1⟩
  dsimp only
  go_wp2_with fail
  refine (qR.out _ h1).mono ?_
  rintro e w2 ⟨rfl, b2⟩
  have E2 := h1.below b2
  clear h1 b2
  dsimp only
  go_wp2_with fail
  refine (qF.out _ E2).mono ?_
  rintro e w3 ⟨rfl, j, rfl⟩
  have E3 := E2.drewN j
  clear E2
  dsimp only
  go_wp2_with fail
  refine (qC.out _ E3).mono ?_
  rintro e w4 ⟨rfl, h4⟩
  have E5 := HE.out _ h4
  have c42 := (lgc h4).2.2
  have f42 := h4.frozen 0 rfl 2
  clear h4 E3
  dsimp only
  by_cases h9 : r = 9
  · subst h9
    go_wp2
    go_ret
    exact ⟨rfl, E5⟩
  · rw [decide_eq_false h9] at E5
    go_wp2
    go_ret
    refine ⟨rfl, ?_⟩
    have h9b : (r == 9) = false := beq_eq_false_iff_ne.2 h9
    rw [decide_eq_false h9, h9b]
    exact E5
/-- the four ways of a Commit on a log that is on -/
theorem commit_env (h : EnvP w0 w (lg q p s false :: dk p st :: rest)) {n : Nat} {B : List ByteArray} (ok : OKst NN st n s B) (h4 : 4 ≤ s) (hs : s < n) (hs2 : s ≤ 250) (a : Option Addr) (cap : Nat) (l : Il) {k : Nat} (hk : k = l.length) (ha : Arg rest a l) (hl : l.length ≤ 20000000000000) :
    Calls Tryz.prog 46 #[pt q, .slice a k cap] w fun e w' =>
      (rightB (n - s) l = false ∧ e = .returned (.int .i64 1) ∧ EnvP w0 w' (lg q p s false :: dk p st :: rest)) ∨
      (rightB (n - s) l = true ∧ l = [] ∧ e = .returned (.int .i64 0) ∧ EnvP w0 w' (lg q p s false :: dk p st :: rest)) ∨
      (rightB (n - s) l = true ∧ s ≤ 1 + l.length ∧ e = .returned (.int .i64 41) ∧ EnvP w0 w' (lg q p s false :: dk p st :: rest)) ∨
      (rightB (n - s) l = true ∧ l ≠ [] ∧ 1 + l.length < s ∧ (st.fall = 0 ∨ 2 * l.length + 7 < st.fall) ∧ ∃ st', e = .returned (.int .i64 0) ∧ EnvP w0 w' (lg q p s false :: dk p st' :: rest) ∧ OKst NN st' n s (lay B (natL l)) ∧ (st.fall = 0 → st'.fall = 0)) ∨
      (rightB (n - s) l = true ∧ l ≠ [] ∧ 1 + l.length < s ∧ 1 ≤ st.fall ∧ st.fall ≤ 2 * l.length + 7 ∧ ∃ st', e = .returned (.int .i64 9) ∧ EnvP w0 w' (lg q p s true :: dk p st' :: rest) ∧ OFFst st' n (fun L => RecL NN L s B ∨ RecL NN L s (lay B (natL l))) ∧ (st.fall = 1 → OFFst st' n (fun L => L[0]? = some (NN.hd s 0) ∧ L.drop s = B))) := by
  have hm : n - s = st.safe.length - s := by rw [ok.len]
  have hss : s ≤ st.safe.length := by rw [ok.len]; omega
  have hp : st.pend.length ≤ 1000 := by rw [ok.pend]; simp
  cases hr : rightB (n - s) l with
  | false =>
    refine (commit_bad h ok.off hss a cap l hk ha hl hm hr).mono ?_
    rintro e w' ⟨rfl, h1⟩
    exact .inl ⟨rfl, rfl, h1⟩
  | true =>
    by_cases h0 : l = []
    · refine (commit_nil h ok.off hss a cap l hk ha hl hm h0).mono ?_
      rintro e w' ⟨rfl, h1⟩
      exact .inr (.inl ⟨rfl, h0, rfl, h1⟩)
    · by_cases hf : s ≤ 1 + l.length
      · refine (commit_full h ok.off hss a cap l hk ha hl hm hr hs2 h0 hf).mono ?_
        rintro e w' ⟨rfl, h1⟩
        exact .inr (.inr (.inl ⟨rfl, hf, rfl, h1⟩))
      · refine (commit_run h ok.off hss a cap l hk ha hl hm hr hs2 h0 (by omega) hp).mono ?_
        rintro e w' ⟨rfl, h1⟩
        have gd := right_good hr (by omega) (by omega)
        have out := com_out (N := NN) hd_size nums_size ok hs (fun e => h0 (List.length_eq_zero_iff.1 (by rw [← natL_length, e]; rfl))) gd
        rw [natL_length] at out
        rcases out with ⟨f, r0, ok', ff⟩ | ⟨f1, f2, r9, off, off1⟩
        · rw [r0] at h1 ⊢
          exact .inr (.inr (.inr (.inl ⟨rfl, h0, by omega, f, _, rfl, h1, ok', fun hf => by rw [ff]; omega⟩)))
        · rw [r9] at h1 ⊢
          exact .inr (.inr (.inr (.inr ⟨rfl, h0, by omega, f1, f2, _, rfl, h1, off, off1⟩)))
end Go.Proofs.YtghdgddpdamhcaaGreat
