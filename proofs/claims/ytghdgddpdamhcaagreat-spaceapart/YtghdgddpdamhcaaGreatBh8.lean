/- What lies behind the head, however many writes there are. -/
import Derived.Test.YtghdgddpdamhcaaGreatOpe
import Derived.Test.YtghdgddpdamhcaaGreatTMath
namespace Go.Proofs.YtghdgddpdamhcaaGreat
set_option linter.unusedVariables false
set_option linter.unusedSimpArgs false
open Go.RowKit
theorem WIn.below {w w' : World} {a : Option Addr} {l : Il} (h : WIn w a l) (b : Below w.heap.size w w') : WIn w' a l := fun k z hz => by
  obtain ⟨g, off, e, c0, c1⟩ := h k z hz
  exact ⟨g, off, e, (b.cell (p := ⟨g, _, none⟩) (World.block_lt_of_cell? w _ c0)).trans c0, (b.cell (p := ⟨g, _, none⟩) (World.block_lt_of_cell? w _ c1)).trans c1⟩
theorem numL_step (l : Wl) (k : Nat) (z : Nat × ByteArray) (hz : l[k]? = some z) : numL ((l.take (k + 1)).map Prod.fst) = numL ((l.take k).map Prod.fst) ++ be2 z.1 := by
  have hk := (List.getElem?_eq_some_iff.1 hz).1
  rw [List.take_succ_eq_append_getElem hk, List.map_append, numL_append, Option.some.inj ((List.getElem?_eq_getElem hk).symm.trans hz)]
  simp [numL]
/-- some bytes of a row, as a text -/
theorem conv_win {base : Nat} {w : World} {g n c : Nat} {l : List UInt8} (h : w.ownsRow base 5 1 (.slice (some ⟨g, 0, none⟩) n c) l.length (vals l)) (hn : n = l.length) (o k : Nat) (ho : o + k ≤ l.length) (cap : Nat) : ∃ X : ByteArray, X.size = k ∧ (convert 40 9 (.slice (some ⟨g, o, none⟩) k cap)).run Tryz.prog w = .ok (.string X) w := by
  subst hn
  have hl : ((l.drop o).take k).length = k := by rw [List.length_take, List.length_drop]; omega
  refine ⟨⟨((l.drop o).take k).toArray⟩, by rw [str_size, hl], ?_⟩
  have := run_convert_bytes_back w 40 9 5 ⟨g, o, none⟩ cap ((l.drop o).take k) Tryz.underlying40 Tryz.underlying5 Tryz.underlying9 (P := Tryz.prog) ?_
  · rw [hl] at this; exact this
  · intro j hj
    have hadd : (⟨g, o, none⟩ : Addr).add j = ⟨g, o + j, none⟩ := by unfold Addr.add; split <;> simp_all
    rw [hl] at hj
    rw [hadd]
    have hjl : o + j < l.length := by omega
    have hc : w.cell? ⟨g, o + j, none⟩ = (vals l)[o + j]? := h.cellAt (o + j) (by simpa using hjl)
    rw [hc]
    have : l[o + j]? = some l[o + j] := List.getElem?_eq_getElem hjl
    simp [vals, this]
/-- a row of bytes beside a row of writes that grows -/
theorem Ob.keep {base : Nat} {w w' : World} {v v2 : Value} {L : List UInt8} {n : Nat} {xs : List Value} (h : Ob base w v L) (o : w.ownsRow 0 95 2 v2 n xs) (g : w.grownBy w' v2.ownBlock) : Ob base w' v L := by
  refine ⟨(Fr.of_grown (S := fun k => v2.ownBlock = some k) g (fun k hk => hk)).own h.own ?_, Nat.le_trans h.le g.size⟩
  intro k hk hk2
  rcases h.own.2 with ⟨rfl, _⟩ | ⟨g1, c1, cur1, rfl, _, e1, _⟩
  · cases hk
  · rcases o.2 with ⟨rfl, _⟩ | ⟨g2, c2, cur2, rfl, _, e2, _⟩
    · cases hk2
    · cases hk; cases hk2
      rw [e1] at e2
      injection e2 with e3
      injection e3 with _ e4 _
      exact absurd e4 (by decide)
set_option maxRecDepth 100000 in
theorem behind8 (a : Option Addr) (cap : Nat) (l : Wl) (w : World) (hin : WIn w a (ints l)) (h1 : 1 ≤ l.length) (h2 : l.length ≤ 8192) (h16 : ∀ x ∈ l, x.1 < 65536) (hsz : ∀ x ∈ l, x.2.size = 512) {n L : Nat} (hn : n = l.length) (hL : (l.length + 255) / 256 = L) :
    Calls Tryz.prog 101 #[.slice a n cap] w fun e w' => ∃ (y c : Nat) (bl : Wl), e = .returned (rw_ y (L + l.length) c) ∧ w'.ownsRow 0 95 2 (rw_ y (L + l.length) c) (L + l.length) (wcs bl) ∧ bl.length = L + l.length ∧ (∀ x ∈ bl, x.1 < L + l.length ∧ x.2.size = 512) ∧ Below w.heap.size w w' ∧ w.heap.size ≤ y := by
  subst hn
  have HI : Hid (WIn w a (ints l)) := ⟨hin⟩
  have H16 : Hid (∀ x ∈ l, x.1 < 65536) := ⟨h16⟩
  have HSZ : Hid (∀ x ∈ l, x.2.size = 512) := ⟨hsz⟩
  have hL1 : l.length ≤ 256 * L := by omega
  have hL2 : L ≤ 32 := by omega
  have hL3 : 1 ≤ L := by omega
  have qL : Hid (∀ w5, Calls Tryz.prog 99 #[.int .i64 (l.length : Int)] w5 fun e w' => e = .returned (.int .i64 (L : Int)) ∧ w' = w5) := ⟨fun w5 => by have := lists_any l.length (by omega) w5; rw [hL] at this; exact this⟩
  clear hin h16 hL hsz
  go_enter Tryz.func101, Tryz.ntmps101
  go_wp2_with fail
  go_loopw [3, 12] (fun v i wr => ∃ k : Nat, k ≤ l.length ∧ i = .int .i64 (k : Int) ∧ Hid (Ob w.heap.size wr v (numL ((l.take k).map Prod.fst))) ∧ Hid (Below w.heap.size w wr)) (fun _ i _ => l.length - (intOf i).toNat)
  case atStart => exact ⟨0, Nat.zero_le _, rfl, ⟨Ob.nil _ _ (Nat.le_refl _)⟩, ⟨Below.refl _ _⟩⟩
  case round =>
    obtain ⟨k, hk, rfl, O, B⟩ := hrel
    by_cases hlt : k < l.length
    · obtain ⟨⟨N, T⟩, hz⟩ : ∃ z, l[k]? = some z := ⟨_, List.getElem?_eq_getElem hlt⟩
      obtain ⟨b, off, rfl, cN, cT⟩ := (HI.out.below B.out) k _ (ints_at l k _ hz)
      simp only at cN cT
      have hN := H16.out _ (List.mem_of_getElem? hz)
      have hi : (k : Int) < l.length := by omega
      have hw1 : wrap64 ((k : Int) + 1) = ((k + 1 : Nat) : Int) := by unfold wrap64; omega
      have HN := numL_step l k _ hz
      have hlen : (numL ((l.take k).map Prod.fst)).length ≤ 17000 := by rw [numL_length]; simp; omega
      have O5 : Hid (Ob w.heap.size (wr.alloc (.cells #[.int .i64 (N : Int), .string T] 95)) u3 (numL ((l.take k).map Prod.fst))) := ⟨O.out.alloc _⟩
      have B5 : Hid (Below w.heap.size w (wr.alloc (.cells #[.int .i64 (N : Int), .string T] 95))) := ⟨B.out.alloc B.out.size _⟩
      have HN5 : Hid (numL ((l.take (k + 1)).map Prod.fst) = numL ((l.take k).map Prod.fst) ++ be2 N) := ⟨HN⟩
      clear hz HN O B
      go_wp2_with fail
      refine (appendNumber_any N O5.out (by omega) hN).mono ?_
      rintro e w6 ⟨v6, rfl, o6, b6⟩
      have O6 : Hid (Ob w.heap.size w6 v6 (numL ((l.take (k + 1)).map Prod.fst))) := ⟨by rw [HN5.out]; exact o6⟩
      have B6 : Hid (Below w.heap.size w w6) := ⟨B5.out.trans b6⟩
      clear o6 b6 O5 B5
      dsimp only
      go_wp2
      go_roundw
      case rel => exact ⟨k + 1, by omega, by go_num, O6, B6⟩
      case measure => simp [intOf]; omega
    · have hke : k = l.length := by omega
      subst hke
      have hi : ¬ ((l.length : Int) < l.length) := by omega
      rw [List.take_length] at O
      have hnl : (numL (l.map Prod.fst)).length = 2 * l.length := by rw [numL_length]; simp
      obtain ⟨va, vc, ev⟩ := own_slice O.out.own
      rw [hnl] at ev
      subst ev
      have HM : Hid ((L : Int) * 512 - ((2 * l.length : Nat) : Int) = ((L * 512 - 2 * l.length : Nat) : Int)) := ⟨by omega⟩
      have hwm : wrap64 ((L : Int) * 512) = (L : Int) * 512 := by unfold wrap64; omega
      have hwm2 : IntKind.i64.wrap ((L : Int) * 512) = (L : Int) * 512 := by rw [IntKind.wrap_i64]; omega
      have hws2 : IntKind.i64.wrap ((L : Int) * 512 - ((2 * l.length : Nat) : Int)) = (L : Int) * 512 - ((2 * l.length : Nat) : Int) := by rw [IntKind.wrap_i64]; omega
      go_wp2_with fail
      refine (qL.out _).mono ?_
      rintro e wr ⟨rfl, rfl⟩
      dsimp only
      go_wp2_with (at_builtin; refine app_zeros (i := (L : Int) * 512 - ((2 * l.length : Nat) : Int)) (L * 512 - 2 * l.length) HM.out O.out (by omega) (by omega) rfl _ _ rfl rfl rfl ?_; intro v7 w7 q7 b7)
      have hl7 : (numL (l.map Prod.fst) ++ List.replicate (L * 512 - 2 * l.length) 0).length = L * 512 := by rw [List.length_append, hnl, List.length_replicate]; omega
      generalize numL (l.map Prod.fst) ++ List.replicate (L * 512 - 2 * l.length) 0 = NB at *
      obtain ⟨g7, c7, rfl, hc7⟩ : ∃ g7 c7, v7 = .slice (some ⟨g7, 0, none⟩) (L * 512) c7 ∧ L * 512 ≤ c7 := by
        rcases q7.own.2 with ⟨_, h0⟩ | ⟨g, cap, cur, rfl, _, _, h1, _⟩
        · rw [hl7] at h0; omega
        · rw [hl7] at h1 ⊢; exact ⟨g, cap, rfl, h1⟩
      have B7 : Hid (Below w.heap.size w w7) := ⟨B.out.trans b7⟩
      have O7 : Hid (Ob w.heap.size w7 (.slice (some ⟨g7, 0, none⟩) (L * 512) c7) NB) := ⟨q7⟩
      have HNB : Hid (NB.length = L * 512) := ⟨hl7⟩
      clear q7 b7 O B hl7 hnl HM qL hwm hwm2 hws2
      go_loopw [6, 7] (fun v i wr => ∃ (j : Nat) (va : Option Addr) (c : Nat) (M : Wl), j ≤ L ∧ i = .int .i64 ((512 * j : Nat) : Int) ∧ v = .slice va j c ∧ Hid (wr.ownsRow 0 95 2 (.slice va j c) j (wcs M)) ∧ Hid (M.length = j) ∧ Hid (∀ x ∈ M, x.1 < j ∧ x.2.size = 512) ∧ Hid (Below w.heap.size w wr) ∧ Hid (Ob w.heap.size wr (.slice (some ⟨g7, 0, none⟩) (L * 512) c7) NB) ∧ Hid (∀ k, (Value.slice va j c).ownBlock = some k → w.heap.size ≤ k)) (fun _ i _ => 512 * L + 1024 - (intOf i).toNat)
      case atStart => exact ⟨0, none, 0, [], Nat.zero_le _, rfl, rfl, ⟨World.ownsRow_nil _ _ _ _⟩, ⟨rfl⟩, ⟨fun x hx => by cases hx⟩, B7, O7, ⟨fun k hk => by cases hk⟩⟩
      case round =>
        obtain ⟨j, va, c, M, hj, rfl, rfl, OW, HML, HMS, BB, OB, HY⟩ := hrel
        clear B7 O7
        by_cases hjl : j < L
        · have hji : ((512 * j : Nat) : Int) < ((L * 512 : Nat) : Int) := by omega
          have hjn : 512 * j < L * 512 := by omega
          obtain ⟨X, hX, hcv⟩ := conv_win OB.out.own HNB.out.symm (512 * j) 512 (by rw [HNB.out]; omega) (c7 - 512 * j)
          have HX : Hid (X.size = 512) := ⟨hX⟩
          have hw5 : wrap64 (((512 * j : Nat) : Int) + 512) = ((512 * (j + 1) : Nat) : Int) := by unfold wrap64; omega
          have hr1 : ((512 * j : Nat) : Int) + 512 ≤ (c7 : Int) := by omega
          clear hX
          go_wp2_with (at_builtin; refine app_write (v := .slice va j c) (g := wr.heap.size) (l := M) (i := (j : Int)) j rfl rfl rfl (by rw [HML.out]; exact OW.out) (by rw [HML.out]; omega) rfl _ _ rfl rfl rfl ?_; intro y c2 w8 q8 g8 n8)
          have q9 : w8.ownsRow 0 95 2 (rw_ y (j + 1) c2) (j + 1) (wcs (M ++ [(j, X)])) := by rw [HML.out] at q8; exact q8
          refine ⟨⟨j + 1, some ⟨y, 0, none⟩, c2, M ++ [(j, X)], by omega, by go_num, by rw [HML.out], ⟨q9⟩, ⟨by rw [List.length_append, HML.out]; rfl⟩, ⟨?_⟩, ⟨BB.out.grown g8 BB.out.size (fun k hk => HY.out k hk)⟩, ⟨OB.out.keep OW.out g8⟩, ⟨?_⟩⟩, by simp [intOf]; omega⟩
          · intro x hx
            rcases List.mem_append.1 hx with hx | hx
            · have := HMS.out x hx; exact ⟨by omega, this.2⟩
            · simp at hx; subst hx; exact ⟨Nat.lt_succ_self _, HX.out⟩
          · intro k hk
            cases hk
            rcases n8 with n8 | n8
            · exact HY.out y n8
            · exact Nat.le_trans BB.out.size n8
        · have hje : j = L := by omega
          subst hje
          have hji : ¬ (((512 * j : Nat) : Int) < ((j * 512 : Nat) : Int)) := by omega
          obtain ⟨y0, rfl⟩ : ∃ y0, va = some ⟨y0, 0, none⟩ := by
            rcases OW.out.2 with ⟨_, h0⟩ | ⟨g, cap, cur, e, _⟩
            · omega
            · injection e with e1 _ _; exact ⟨g, e1⟩
          have HY0 : Hid (w.heap.size ≤ y0) := ⟨HY.out y0 rfl⟩
          clear HY OB HNB hj hjl hk hlt hc7
          go_wp2_with fail
          go_loopw [6, 50] (fun v i wr => ∃ (k y c : Nat) (M : Wl), k ≤ l.length ∧ i = .int .i64 (k : Int) ∧ v = rw_ y (j + k) c ∧ Hid (wr.ownsRow 0 95 2 (rw_ y (j + k) c) (j + k) (wcs M)) ∧ Hid (M.length = j + k) ∧ Hid (∀ x ∈ M, x.1 < j + k ∧ x.2.size = 512) ∧ Hid (Below w.heap.size w wr) ∧ Hid (w.heap.size ≤ y)) (fun _ i _ => l.length - (intOf i).toNat)
          case atStart => exact ⟨0, y0, c, M, Nat.zero_le _, rfl, rfl, OW, HML, HMS, BB, HY0⟩
          case round =>
            obtain ⟨k, y, c, M, hk, rfl, rfl, O, HM, HS, B, HY⟩ := hrel
            by_cases hlt : k < l.length
            · obtain ⟨⟨N, T⟩, hz⟩ : ∃ z, l[k]? = some z := ⟨_, List.getElem?_eq_getElem hlt⟩
              obtain ⟨b, off, rfl, cN, cT⟩ := (HI.out.below B.out) k _ (ints_at l k _ hz)
              simp only at cN cT
              have hi : (k : Int) < l.length := by omega
              have hw1 : wrap64 ((k : Int) + 1) = ((k + 1 : Nat) : Int) := by unfold wrap64; omega
              have HT : Hid (T.size = 512) := ⟨HSZ.out _ (List.mem_of_getElem? hz)⟩
              have O5 : Hid ((wr.alloc (.cells #[.int .i64 (N : Int), .string T] 95)).ownsRow 0 95 2 (rw_ y (j + k) c) M.length (wcs M)) := ⟨by rw [HM.out]; exact O.out.alloc _⟩
              have B5 : Hid (Below w.heap.size w (wr.alloc (.cells #[.int .i64 (N : Int), .string T] 95))) := ⟨B.out.alloc B.out.size _⟩
              have n1 : (wr.alloc (.cells #[.int .i64 (N : Int), .string T] 95)).cell? ⟨wr.heap.size, 1, none⟩ = some (.string T) := cell_of_row _ _ 1 _ _ (0, 0) (heap_alloc_new wr _)
              have HZ : Hid (wr.heap.size + 1 = (wr.alloc (.cells #[.int .i64 (N : Int), .string T] 95)).heap.size) := ⟨by simp⟩
              clear hz O B
              go_wp2_with (at_builtin; refine app_write (g := wr.heap.size + 1) (l := M) (i := (j : Int) + (k : Int)) (j + k) (by omega) rfl HZ.out O5.out (by rw [HM.out]; omega) rfl _ _ rfl rfl rfl ?_; intro y2 c2 w8 q8 g8 n8)
              have q9 : w8.ownsRow 0 95 2 (rw_ y2 (j + (k + 1)) c2) (j + (k + 1)) (wcs (M ++ [(j + k, T)])) := by rw [HM.out] at q8; exact q8
              refine ⟨⟨k + 1, y2, c2, M ++ [(j + k, T)], by omega, by go_num, by rw [HM.out]; rfl, ⟨q9⟩, ⟨by rw [List.length_append, HM.out]; rfl⟩, ⟨?_⟩, ⟨B5.out.grown g8 B5.out.size (fun j hj => by cases hj; exact HY.out)⟩, ⟨?_⟩⟩, by simp [intOf]; omega⟩
              · intro x hx
                rcases List.mem_append.1 hx with hx | hx
                · have := HS.out x hx; exact ⟨by omega, this.2⟩
                · simp at hx; subst hx; exact ⟨by simp only; omega, HT.out⟩
              · rcases n8 with n8 | n8
                · cases n8; exact HY.out
                · exact Nat.le_trans B5.out.size n8
            · have hke : k = l.length := by omega
              subst hke
              have hi : ¬ ((l.length : Int) < l.length) := by omega
              go_wp2
              go_ret
              exact ⟨y, c, rfl, M, O.out, HM.out, fun a b hab => HS.out (a, b) hab, B.out, HY.out⟩
end Go.Proofs.YtghdgddpdamhcaaGreat
