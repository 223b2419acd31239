/- What lies behind the head. -/
import Derived.Test.YtmcdohpeibipkaaOpe
namespace Go.Proofs.Ytmcdohpeibipkaa
set_option linter.unusedVariables false
set_option linter.unusedSimpArgs false
open Go.RowKit
theorem WIn.below {w w' : World} {a : Option Addr} {l : Il} (h : WIn w a l) (b : Below w.heap.size w w') : WIn w' a l := fun k z hz => by
  obtain ⟨g, off, e, c0, c1⟩ := h k z hz
  exact ⟨g, off, e, (b.cell (p := ⟨g, _, none⟩) (World.block_lt_of_cell? w _ c0)).trans c0, (b.cell (p := ⟨g, _, none⟩) (World.block_lt_of_cell? w _ c1)).trans c1⟩
theorem numL_step (l : Wl) (k : Nat) (z : Nat × ByteArray) (hz : l[k]? = some z) : numL ((l.take (k + 1)).map Prod.fst) = numL ((l.take k).map Prod.fst) ++ be2 z.1 := by
  have hk := (List.getElem?_eq_some_iff.1 hz).1
  rw [List.take_succ_eq_append_getElem hk, List.map_append, numL_append, Option.some.inj ((List.getElem?_eq_getElem hk).symm.trans hz)]
  simp [numL]
theorem bh_step (l : Wl) (k : Nat) (z : Nat × ByteArray) (hz : l[k]? = some z) (A : ByteArray) : (0, A) :: txs 1 (l.take (k + 1)) = ((0, A) :: txs 1 (l.take k)) ++ [(k + 1, z.2)] := by
  have hk := (List.getElem?_eq_some_iff.1 hz).1
  rw [List.take_succ_eq_append_getElem hk, txs_append, Option.some.inj ((List.getElem?_eq_getElem hk).symm.trans hz)]
  simp [txs, List.length_take]
  omega
set_option maxRecDepth 100000 in
theorem behind_any (a : Option Addr) (cap : Nat) (l : Wl) (w : World) (hin : WIn w a (ints l)) (h1 : 1 ≤ l.length) (h2 : l.length ≤ 256) (h16 : ∀ x ∈ l, x.1 < 65536) {n : Nat} (hn : n = l.length) :
    Calls Try.prog 62 #[.slice a n cap] w fun e w' => ∃ y c, e = .returned (rw_ y (l.length + 1) c) ∧ w'.ownsRow 0 33 2 (rw_ y (l.length + 1) c) (l.length + 1) (wcs (bhL NN l)) ∧ Below w.heap.size w w' ∧ w.heap.size ≤ y := by
  subst hn
  have HI : Hid (WIn w a (ints l)) := ⟨hin⟩
  have H16 : Hid (∀ x ∈ l, x.1 < 65536) := ⟨h16⟩
  have e1 : (l.length + 255) / 256 = 1 := by omega
  have qL : Hid (∀ w5, Calls Try.prog 60 #[.int .i64 (l.length : Int)] w5 fun e w' => e = .returned (.int .i64 1) ∧ w' = w5) := ⟨fun w5 => by have := lists_any l.length (by omega) w5; rw [e1] at this; exact this⟩
  obtain ⟨A, hA⟩ : ∃ A, numsOf NN l = A := ⟨_, rfl⟩
  have HA : Hid (A = ⟨(numL (l.map Prod.fst) ++ List.replicate (512 - 2 * l.length) 0).toArray⟩) := ⟨by rw [← hA, numsOf, nums_eq, numsL_eq _ (by simpa using h2)]; simp⟩
  have HB : Hid (bhL NN l = (0, A) :: txs 1 l) := ⟨by rw [← hA]; rfl⟩
  generalize bhL NN l = BL at *
  clear hin h16 e1 hA
  go_enter Try.func62, Try.ntmps62
  go_wp2_with fail
  go_loopw [3, 12] (fun v i wr => ∃ k : Nat, k ≤ l.length ∧ i = .int .i64 (k : Int) ∧ Hid (Ob w.heap.size wr v (numL ((l.take k).map Prod.fst))) ∧ Hid (Below w.heap.size w wr)) (fun _ i _ => l.length - (intOf i).toNat)
  case atStart => exact ⟨0, Nat.zero_le _, rfl, ⟨Ob.nil _ _ (Nat.le_refl _)⟩, ⟨Below.refl _ _⟩⟩
  case round =>
    obtain ⟨k, hk, rfl, O, B⟩ := hrel
    by_cases hlt : k < l.length
    · obtain ⟨⟨N, T⟩, hz⟩ : ∃ z, l[k]? = some z := ⟨_, List.getElem?_eq_getElem hlt⟩
      obtain ⟨b, off, rfl, cN, cT⟩ := (HI.out.below B.out) k _ (ints_at l k _ hz)
      simp only at cN cT
      have hN := H16.out _ (List.mem_of_getElem? hz)
      have hi : (k : Int) < l.length := by omega
      have hw1 : wrap64 ((k : Int) + 1) = ((k + 1 : Nat) : Int) := by unfold wrap64; omega
      have HN := numL_step l k _ hz
      have hlen : (numL ((l.take k).map Prod.fst)).length ≤ 600 := by rw [numL_length]; simp; omega
      have O5 : Hid (Ob w.heap.size (wr.alloc (.cells #[.int .i64 (N : Int), .string T] 33)) u3 (numL ((l.take k).map Prod.fst))) := ⟨O.out.alloc _⟩
      have B5 : Hid (Below w.heap.size w (wr.alloc (.cells #[.int .i64 (N : Int), .string T] 33))) := ⟨B.out.alloc B.out.size _⟩
      have HN5 : Hid (numL ((l.take (k + 1)).map Prod.fst) = numL ((l.take k).map Prod.fst) ++ be2 N) := ⟨HN⟩
      clear hz HN O B
      go_wp2_with fail
      refine (appendNumber_any N O5.out (by omega) hN).mono ?_
      rintro e w6 ⟨v6, rfl, o6, b6⟩
      have O6 : Hid (Ob w.heap.size w6 v6 (numL ((l.take (k + 1)).map Prod.fst))) := ⟨by rw [HN5.out]; exact o6⟩
      have B6 : Hid (Below w.heap.size w w6) := ⟨B5.out.trans b6⟩
      clear o6 b6 O5 B5
      dsimp only
      go_wp2
      go_roundw
      case rel => exact ⟨k + 1, by omega, by go_num, O6, B6⟩
      case measure => simp [intOf]; omega
    · have hke : k = l.length := by omega
      subst hke
      have hi : ¬ ((l.length : Int) < l.length) := by omega
      rw [List.take_length] at O
      have hnl : (numL (l.map Prod.fst)).length = 2 * l.length := by rw [numL_length]; simp
      obtain ⟨va, vc, ev⟩ := own_slice O.out.own
      rw [hnl] at ev
      subst ev
      have hw3 : wrap64 (512 - ((2 * l.length : Nat) : Int)) = ((512 - 2 * l.length : Nat) : Int) := by unfold wrap64; omega
      have HM : Hid ((512 : Int) - ((2 * l.length : Nat) : Int) = ((512 - 2 * l.length : Nat) : Int)) := ⟨by omega⟩
      go_wp2_with fail
      refine (qL.out _).mono ?_
      rintro e wr ⟨rfl, rfl⟩
      dsimp only
      go_wp2_with (at_builtin; refine app_zeros (i := 512 - ((2 * l.length : Nat) : Int)) (512 - 2 * l.length) HM.out O.out (by omega) (by omega) rfl _ _ rfl rfl rfl ?_; intro v7 w7 q7 b7)
      have hl7 : (numL (l.map Prod.fst) ++ List.replicate (512 - 2 * l.length) 0).length = 512 := by rw [List.length_append, hnl, List.length_replicate]; omega
      have hcv := conv_own q7.own
      rw [← HA.out] at hcv
      obtain ⟨g7, c7, rfl, hc7⟩ : ∃ g7 c7, v7 = .slice (some ⟨g7, 0, none⟩) 512 c7 ∧ 512 ≤ c7 := by
        rcases q7.own.2 with ⟨_, h0⟩ | ⟨g, cap, cur, rfl, _, _, h1, _⟩
        · rw [hl7] at h0; cases h0
        · rw [hl7] at h1 ⊢; exact ⟨g, cap, rfl, h1⟩
      have B7 : Hid (Below w.heap.size w w7) := ⟨B.out.trans b7⟩
      have hc7' : (512 : Int) ≤ (c7 : Int) := by omega
      clear q7 b7 O B hl7 hnl HM hw3 qL
      go_loopw [6, 7] (fun v i wr => (i = .int .i64 0 ∧ v = .slice none 0 0 ∧ wr = w7) ∨ (i = .int .i64 512 ∧ ∃ y c, v = rw_ y 1 c ∧ Hid (wr.ownsRow 0 33 2 (rw_ y 1 c) 1 (wcs [(0, A)])) ∧ Hid (Below w.heap.size w wr) ∧ Hid (w.heap.size ≤ y))) (fun _ i _ => 1024 - (intOf i).toNat)
      case atStart => exact .inl ⟨rfl, rfl, rfl⟩
      case round =>
        rcases hrel with ⟨rfl, rfl, rfl⟩ | ⟨rfl, y, c, rfl, O, B⟩
        · have OW : Hid (wr.ownsRow 0 33 2 (.slice none 0 0) ([] : Wl).length (wcs [])) := ⟨World.ownsRow_nil _ _ _ _⟩
          go_wp2_with (at_builtin; refine app_write (g := wr.heap.size) (l := []) (i := 0) 0 rfl rfl rfl OW.out (by decide) rfl _ _ rfl rfl rfl ?_; intro y c w8 q8 g8 n8)
          refine ⟨.inr ⟨rfl, y, c, rfl, ⟨q8⟩, ⟨B7.out.grown g8 B7.out.size (fun j hj => by cases hj)⟩, ⟨?_⟩⟩, by simp [intOf]⟩
          rcases n8 with n8 | n8
          · cases n8
          · exact Nat.le_trans B7.out.size n8
        · obtain ⟨B, HY⟩ := B
          clear B7 hcv hc7 hc7'
          go_wp2_with fail
          go_loopw [6, 50] (fun v i wr => ∃ k y c : Nat, k ≤ l.length ∧ i = .int .i64 (k : Int) ∧ v = rw_ y (k + 1) c ∧ Hid (wr.ownsRow 0 33 2 (rw_ y (k + 1) c) (k + 1) (wcs ((0, A) :: txs 1 (l.take k)))) ∧ Hid (Below w.heap.size w wr) ∧ Hid (w.heap.size ≤ y)) (fun _ i _ => l.length - (intOf i).toNat)
          case atStart => exact ⟨0, y, c, Nat.zero_le _, rfl, rfl, O, B, HY⟩
          case round =>
            obtain ⟨k, y, c, hk, rfl, rfl, O, B, HY⟩ := hrel
            by_cases hlt : k < l.length
            · obtain ⟨⟨N, T⟩, hz⟩ : ∃ z, l[k]? = some z := ⟨_, List.getElem?_eq_getElem hlt⟩
              obtain ⟨b, off, rfl, cN, cT⟩ := (HI.out.below B.out) k _ (ints_at l k _ hz)
              simp only at cN cT
              have hi : (k : Int) < l.length := by omega
              have hw1 : wrap64 ((k : Int) + 1) = ((k + 1 : Nat) : Int) := by unfold wrap64; omega
              have HN : Hid ((0, A) :: txs 1 (l.take (k + 1)) = ((0, A) :: txs 1 (l.take k)) ++ [(k + 1, T)]) := ⟨bh_step l k _ hz A⟩
              have hlen : ((0, A) :: txs 1 (l.take k) : Wl).length = k + 1 := by rw [List.length_cons, txs_length, List.length_take]; omega
              have O5 : Hid ((wr.alloc (.cells #[.int .i64 (N : Int), .string T] 33)).ownsRow 0 33 2 (rw_ y (k + 1) c) ((0, A) :: txs 1 (l.take k) : Wl).length (wcs ((0, A) :: txs 1 (l.take k)))) := ⟨by rw [hlen]; exact O.out.alloc _⟩
              have HL : Hid (((0, A) :: txs 1 (l.take k) : Wl).length = k + 1) := ⟨hlen⟩
              have B5 : Hid (Below w.heap.size w (wr.alloc (.cells #[.int .i64 (N : Int), .string T] 33))) := ⟨B.out.alloc B.out.size _⟩
              have n1 : (wr.alloc (.cells #[.int .i64 (N : Int), .string T] 33)).cell? ⟨wr.heap.size, 1, none⟩ = some (.string T) := cell_of_row _ _ 1 _ _ (0, 0) (heap_alloc_new wr _)
              clear hz hlen O B
              have hsz : (wr.alloc (.cells #[.int .i64 (N : Int), .string T] 33)).heap.size = wr.heap.size + 1 := by simp
              have HZ : Hid (wr.heap.size + 1 = (wr.alloc (.cells #[.int .i64 (N : Int), .string T] 33)).heap.size) := ⟨hsz.symm⟩
              clear hsz
              generalize ((0, A) :: txs 1 (l.take k) : Wl) = M at *
              go_wp2_with (at_builtin; refine app_write (g := wr.heap.size + 1) (l := M) (i := (k : Int) + 1) (k + 1) (by omega) rfl HZ.out O5.out (by rw [HL.out]; omega) rfl _ _ rfl rfl rfl ?_; intro y2 c2 w8 q8 g8 n8)
              rw [HL.out] at q8
              have B8 : Hid (Below w.heap.size w w8) := ⟨B5.out.grown g8 B5.out.size (fun j hj => by cases hj; exact HY.out)⟩
              have hy2 : w.heap.size ≤ y2 := by
                rcases n8 with n8 | n8
                · cases n8; exact HY.out
                · exact Nat.le_trans B5.out.size n8
              have q9 : w8.ownsRow 0 33 2 (rw_ y2 (k + 1 + 1) c2) (k + 1 + 1) (wcs ((0, A) :: txs 1 (l.take (k + 1)))) := by rw [HN.out]; exact q8
              refine ⟨⟨k + 1, y2, c2, by omega, by go_num, ?_, ⟨q9⟩, B8, ⟨hy2⟩⟩, by simp [intOf]; omega⟩
              rw [HL.out]
            · have hke : k = l.length := by omega
              subst hke
              have hi : ¬ ((l.length : Int) < l.length) := by omega
              rw [List.take_length, ← HB.out] at O
              go_wp2
              go_ret
              exact ⟨y, c, rfl, O.out, B.out, HY.out⟩
end Go.Proofs.Ytmcdohpeibipkaa
