/- The text of some sectors; the writes that the log holds. -/
import Derived.Test.YtghdgddpdamhcaaGreatRgt
namespace Go.Proofs
theorem Tryz.Builder_WriteString (B b : Nat) (bs : List Value) (s : ByteArray) (w : World) (h : Lib.IsBuilder 128 5 B b bs w) (hlen : bs.length + s.size ≤ 140737488355328) (hBw : B ≤ w.heap.size) :
    Calls Tryz.prog 88 #[.pointer (some ⟨b, 0, none⟩), .string s] w fun e w' => e = .returned (.tuple #[.int .i64 s.size, .nilIface]) ∧ (Lib.BuilderAt 128 5 B b (.pointer (some ⟨b, 0, none⟩)) (bs ++ Lib.strCells s) w' ∧ RowKit.Below B w w') := Any.Builder_WriteString { Tryz.lays105 with } Tryz.Builder_Extra_105 B b bs s w h hlen hBw
end Go.Proofs
namespace Go.Proofs.YtghdgddpdamhcaaGreat
set_option linter.unusedVariables false
set_option linter.unusedSimpArgs false
open Go.RowKit
theorem bu_later {B b : Nat} {p : Value} {bs : List Value} {w w' : World} (h : Lib.BuilderAt 128 5 B b p bs w) (hb : Below w.heap.size w w') : Lib.BuilderAt 128 5 B b p bs w' := by
  obtain ⟨h1, v, h2, h3, h4⟩ := h
  exact ⟨h1, v, (Fr.of_below (S := fun _ => False) hb).heap h2 id, own_later h3 hb, h4⟩
theorem isb_later {B b : Nat} {bs : List Value} {w w' : World} (h : Lib.IsBuilder 128 5 B b bs w) (hb : Below w.heap.size w w') : Lib.IsBuilder 128 5 B b bs w' := h.imp (bu_later · hb) (bu_later · hb)
/-- the bytes of sectors, one behind the other -/
def catS (S : List ByteArray) (f c : Nat) : List UInt8 := ((S.drop f).take c).flatMap fun t => t.data.toList
theorem catS_zero (S : List ByteArray) (f : Nat) : catS S f 0 = [] := by simp [catS]
theorem catS_succ (S : List ByteArray) (f k : Nat) (h : f + k < S.length) : catS S f (k + 1) = catS S f k ++ (S.getD (f + k) ByteArray.empty).data.toList := by
  unfold catS
  rw [List.take_succ_eq_append_getElem (by simp; omega), List.flatMap_append]
  congr 1
  simp [List.getD_eq_getElem?_getD, List.getElem?_eq_getElem h]
theorem data_len (t : ByteArray) : t.data.toList.length = t.size := by rw [Array.length_toList]; rfl
theorem catS_length (S : List ByteArray) (hS : Sz S) (f : Nat) : ∀ k, f + k ≤ S.length → (catS S f k).length = 512 * k
  | 0, _ => by rw [catS_zero]; rfl
  | k + 1, h => by
    rw [catS_succ S f k (by omega), List.length_append, catS_length S hS f k (by omega), data_len, hS _ (by rw [List.getD_eq_getElem?_getD, List.getElem?_eq_getElem (by omega)]; exact List.getElem_mem _)]
    omega
theorem catS_part (S : List ByteArray) (hS : Sz S) (f : Nat) : ∀ c, f + c ≤ S.length → ∀ i, i < c → ((catS S f c).drop (512 * i)).take 512 = (S.getD (f + i) ByteArray.empty).data.toList
  | 0, _, i, hi => by omega
  | c + 1, h, i, hi => by
    have hl := catS_length S hS f c (by omega)
    have hs : (S.getD (f + c) ByteArray.empty).data.toList.length = 512 := by
      rw [data_len, hS _ (by rw [List.getD_eq_getElem?_getD, List.getElem?_eq_getElem (by omega)]; exact List.getElem_mem _)]
    rw [catS_succ S f c (by omega)]
    by_cases e : i = c
    · subst e
      rw [List.drop_append_of_le_length (by omega), List.drop_of_length_le (by omega), List.nil_append, List.take_of_length_le (by omega)]
    · rw [List.drop_append_of_le_length (by omega), List.take_append_of_le_length (by rw [List.length_drop]; omega)]
      exact catS_part S hS f c (by omega) i (by omega)
section
variable {w0 w : World} {Ls rest : List (Th → Prop)} {q p s : Nat} {d : Bool} {st : St}
theorem read_bel (h : EnvP w0 w Ls) (i : Nat) (hi : Ls[i]? = some (dk p st)) (n : Int) {t : ByteArray} {r : Int} (e : st.read n = (t, r)) :
    Calls Tryz.prog 73 #[pt p, .int .i64 n] w fun e w' => e = .returned (.tuple #[.string t, .int .i64 r]) ∧ Below w.heap.size w w' := by
  obtain ⟨D, rfl, dd, _, hn⟩ := h.disk i hi
  refine (read_any D st n w dd).mono ?_
  rintro e w' ⟨rfl, b⟩
  rw [e]
  exact ⟨rfl, b⟩
set_option maxRecDepth 100000 in
theorem sectors_env' (h : EnvP w0 w (lg q p s d :: dk p st :: rest)) (ho : st.off = false) (f c : Nat) {f' : Int} (hf : f' = (f : Int)) (hc : f + c ≤ st.safe.length) :
    Calls Tryz.prog 128 #[pt q, .int .i64 f', .int .i64 (c : Int)] w fun e w' => e = .returned (.tuple #[.string ⟨(catS st.seen f c).toArray⟩, .int .i64 0]) ∧ Below w.heap.size w w' := by
  subst hf
  have wf := h.wf 1 rfl
  have hhi := wf.hi
  have HS : Hid (Sz st.seen) := ⟨wf.seen⟩
  have H : Hid (EnvP w0 w (lg q p s d :: dk p st :: rest)) := ⟨h⟩
  have HN : Hid (st.seen.length = st.safe.length) := ⟨st.seen_length⟩
  obtain ⟨X, hX⟩ : ∃ X, catS st.seen f c = X := ⟨_, rfl⟩
  have HX : Hid (catS st.seen f c = X) := ⟨hX⟩
  rw [hX]
  have F0 := Lib.fresh_isBuilder 128 5 w
  have HF : Hid (Lib.IsBuilder 128 5 w.heap.size w.heap.size [] (w.alloc (.cells #[.pointer none, .slice none 0 0] 128))) := ⟨F0⟩
  clear h wf hX F0
  go_enter Tryz.func128, Tryz.ntmps128
  go_wp2_with fail
  go_loopw [13] (fun i wr => ∃ k : Nat, k ≤ c ∧ i = .int .i64 (k : Int) ∧ Hid (Lib.IsBuilder 128 5 w.heap.size w.heap.size (Lib.byteCells (catS st.seen f k)) wr) ∧ Hid (Below w.heap.size w wr)) (fun i _ => c - (intOf i).toNat)
  case atStart => exact ⟨0, Nat.zero_le _, rfl, ⟨by rw [catS_zero]; exact HF.out⟩, ⟨(Below.refl _ _).alloc (Nat.le_refl _) _⟩⟩
  case round =>
    obtain ⟨k, hk, rfl, HB, HW⟩ := hrel
    clear HF
    by_cases hlt : k < c
    · have hi : (k : Int) < c := by omega
      have hw1 : wrap64 ((k : Int) + 1) = ((k + 1 : Nat) : Int) := by unfold wrap64; omega
      have hw2 : wrap64 ((f : Int) + (k : Int)) = (f : Int) + (k : Int) := by unfold wrap64; omega
      have er : st.read ((f : Int) + (k : Int)) = (st.seen.getD (f + k) ByteArray.empty, 0) := by
        have h1 : st.has ((f : Int) + (k : Int)) = true := by simp [St.has]; omega
        unfold St.read
        rw [ho, h1]
        simp only [Bool.false_eq_true, if_false, if_true]
        congr 2
      have qR := read_bel (H.out.below HW.out) 1 rfl _ er
      have c0 := (lgc (H.out.below HW.out)).1
      have HC : Hid (catS st.seen f (k + 1) = catS st.seen f k ++ (st.seen.getD (f + k) ByteArray.empty).data.toList) := ⟨catS_succ _ _ _ (by rw [HN.out]; omega)⟩
      have HL : Hid ((Lib.byteCells (catS st.seen f k)).length + (st.seen.getD (f + k) ByteArray.empty).size ≤ 140737488355328) := ⟨by
        have h1 := catS_length st.seen HS.out f k (by rw [HN.out]; omega)
        have h2 : (st.seen.getD (f + k) ByteArray.empty).size = 512 := HS.out _ (by rw [List.getD_eq_getElem?_getD, List.getElem?_eq_getElem (by rw [HN.out]; omega)]; exact List.getElem_mem _)
        have h3 : (Lib.byteCells (catS st.seen f k)).length = (catS st.seen f k).length := List.length_map ..
        omega⟩
      generalize st.seen.getD (f + k) ByteArray.empty = T at *
      clear er
      go_wp2_with fail
      refine qR.mono ?_
      rintro e w5 ⟨rfl, b5⟩
      have HB5 : Hid (Lib.IsBuilder 128 5 w.heap.size w.heap.size (Lib.byteCells (catS st.seen f k)) w5) := ⟨isb_later HB.out b5⟩
      have HW5 : Hid (Below w.heap.size w w5) := ⟨HW.out.trans (b5.mono HW.out.size)⟩
      clear b5 qR c0
      dsimp only
      go_wp2_with fail
      refine (Tryz.Builder_WriteString _ _ _ T w5 HB5.out HL.out HW5.out.size).mono ?_
      rintro e w6 ⟨rfl, hb6, b6⟩
      have HB6 : Hid (Lib.IsBuilder 128 5 w.heap.size w.heap.size (Lib.byteCells (catS st.seen f (k + 1))) w6) := ⟨.inr (by
        have e : Lib.byteCells (catS st.seen f (k + 1)) = Lib.byteCells (catS st.seen f k) ++ Lib.strCells T := by
          rw [HC.out]; show List.map _ _ = List.map _ _ ++ List.map _ _; rw [List.map_append]
        rw [e]; exact hb6)⟩
      have HW6 : Hid (Below w.heap.size w w6) := ⟨HW5.out.trans b6⟩
      clear hb6 b6
      dsimp only
      go_wp2
      go_roundw
      case rel => exact ⟨k + 1, by omega, by go_num, HB6, HW6⟩
      case measure => simp [intOf]; omega
    · have hke : k = c := by omega
      subst hke
      have hi : ¬ ((k : Int) < k) := by omega
      rw [HX.out] at HB
      go_wp2_with fail
      refine (Tryz.Builder_String_any _ _ X wr HB.out HW.out.size).mono ?_
      rintro e w5 ⟨rfl, b5⟩
      have HW5 : Hid (Below w.heap.size w w5) := ⟨HW.out.trans b5⟩
      clear b5
      dsimp only
      go_wp2
      go_ret2
      exact ⟨rfl, HW5.out⟩
end
end Go.Proofs.YtghdgddpdamhcaaGreat
