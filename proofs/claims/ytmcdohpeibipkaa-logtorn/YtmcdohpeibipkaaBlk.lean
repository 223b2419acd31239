/- A text of 512 bytes; what a crash leaves; literal lists of writes. -/
import Derived.Test.YtmcdohpeibipkaaCmt
namespace Go.Proofs.Ytmcdohpeibipkaa
set_option linter.unusedVariables false
set_option linter.unusedSimpArgs false
open Go.RowKit
def bkL (l : List UInt8) : List UInt8 := l.take 512 ++ List.replicate (512 - l.length) 0
theorem bk_ex : ∃ f : ByteArray → ByteArray, ∀ t, f t = ⟨(bkL t.data.toList).toArray⟩ := ⟨fun t => ⟨(bkL t.data.toList).toArray⟩, fun _ => rfl⟩
noncomputable def bk : ByteArray → ByteArray := Classical.choose bk_ex
theorem bk_eq (t : ByteArray) : bk t = ⟨(bkL t.data.toList).toArray⟩ := Classical.choose_spec bk_ex t
theorem bkL_length (l : List UInt8) : (bkL l).length = 512 := by simp [bkL]; omega
theorem bk_size (t : ByteArray) : (bk t).size = 512 := by rw [bk_eq, str_size, bkL_length]
theorem bk_nil : bk ⟨#[]⟩ = fl 0 := by rw [bk_eq]; rfl
theorem mk_data (t : ByteArray) : (⟨t.data.toList.toArray⟩ : ByteArray) = t := by cases t; rfl
theorem ba_append (a b : List UInt8) : (⟨a.toArray⟩ : ByteArray) ++ (⟨b.toArray⟩ : ByteArray) = ⟨(a ++ b).toArray⟩ := by
  apply ByteArray.ext; simp
theorem made_b (m : Nat) (w : World) (hm : m ≤ 1000) : ∃ w', (Instr.makeSlice 78 (.int .i64 (m : Int)) (.int .i64 (m : Int))).run Try.prog w = .ok (.slice (some ⟨w.heap.size, 0, none⟩) m m) w' ∧ (convert 78 9 (.slice (some ⟨w.heap.size, 0, none⟩) m m)).run Try.prog w' = .ok (.string ⟨(List.replicate m (0 : UInt8)).toArray⟩) w' ∧ Below w.heap.size w w' := by
  obtain ⟨i0, hi0, hz0, hz1, hz2⟩ := info5
  obtain ⟨w', a, b, c⟩ := run_makeSlice_full (P := Try.prog) w 0 78 5 i0 _ 1 Try.underlying78 hi0 hz0 hz1 .i64 .i64 m (by omega) (by rw [hz2]; omega) (by unfold maxLen; omega) (Nat.zero_le _)
  refine ⟨w', a, ?_, (Below.refl _ _).grown c (Nat.le_refl _) (fun k hk => by cases hk)⟩
  have e : (madeCells (Value.int .u8 0).cells (m * 1)).toList = vals (List.replicate m 0) := by
    show (madeCells #[Value.int .u8 0] (m * 1)).toList = _
    rw [toList_madeCells_one, Nat.mul_one]; simp [vals]
  rw [e] at b
  have := conv_own (base := 0) (w := w') (v := .slice (some ⟨w.heap.size, 0, none⟩) m m) (l := List.replicate m 0) (by rw [List.length_replicate]; exact b)
  exact this
set_option maxRecDepth 100000 in
theorem block_any (t : ByteArray) (ht : t.size ≤ 140737488355328) (w : World) : Calls Try.prog 11 #[.string t] w fun e w' => e = .returned (.string (bk t)) ∧ Below w.heap.size w w' := by
  obtain ⟨X, hX⟩ : ∃ X, bk t = X := ⟨_, rfl⟩
  rw [hX]
  have hlen := data_len t
  by_cases h : 512 < t.size
  · have hx : t.extract 0 512 ++ (⟨(List.replicate 0 (0 : UInt8)).toArray⟩ : ByteArray) = X := by
      rw [← hX, bk_eq, bkL, mk_ext, ba_append]
      have : 512 - t.data.toList.length = 0 := by omega
      rw [this]; simp
    have HX : Hid (t.extract 0 512 ++ (⟨(List.replicate 0 (0 : UInt8)).toArray⟩ : ByteArray) = X) := ⟨hx⟩
    have hsz : (t.extract 0 512).size = 512 := by rw [mk_ext, str_size]; simp; omega
    obtain ⟨w1, hmk, hcv, b1⟩ := made_b 0 w (by omega)
    have hi : (512 : Int) < t.size := by omega
    have hmk0 : (Instr.makeSlice 78 (.int .i64 0) (.int .i64 0)).run Try.prog w = .ok (.slice (some ⟨w.heap.size, 0, none⟩) 0 0) w1 := hmk
    have hZ : (⟨(List.replicate 0 (0 : UInt8)).toArray⟩ : ByteArray).size = 0 := by rw [str_size]; rfl
    clear hmk
    generalize (⟨(List.replicate 0 (0 : UInt8)).toArray⟩ : ByteArray) = Z at *
    clear hX hx
    go_enter Try.func11, Try.ntmps11
    go_wp2
    go_ret
    exact ⟨by rw [← HX.out]; rfl, b1⟩
  · obtain ⟨m, hm⟩ : ∃ m, 512 - t.size = m := ⟨_, rfl⟩
    have hx : t ++ (⟨(List.replicate m (0 : UInt8)).toArray⟩ : ByteArray) = X := by
      rw [← hX, bk_eq, bkL, List.take_of_length_le (by omega), hlen, hm, ← ba_append, mk_data]
    have HX : Hid (t ++ (⟨(List.replicate m (0 : UInt8)).toArray⟩ : ByteArray) = X) := ⟨hx⟩
    obtain ⟨w1, hmk, hcv, b1⟩ := made_b m w (by omega)
    have hi : ¬ ((512 : Int) < t.size) := by omega
    have hmi : (m : Int) = 512 - t.size := by omega
    rw [hmi] at hmk
    have hZ : (⟨(List.replicate m (0 : UInt8)).toArray⟩ : ByteArray).size = m := by rw [str_size, List.length_replicate]
    have hnb : ¬ (9223372036854775807 < t.size + m) := by omega
    generalize (⟨(List.replicate m (0 : UInt8)).toArray⟩ : ByteArray) = Z at *
    clear hX hx
    go_enter Try.func11, Try.ntmps11
    go_wp2
    go_ret
    exact ⟨by rw [← HX.out]; rfl, b1⟩
/-- a literal list of writes -/
theorem shows_ob (b : Nat) (cs : Array Value) (l : Il) (hc : cs = (wci l).toArray) : Shows (ob b cs 33) (some ⟨b, 0, none⟩) l := fun t w ht ha k z hz => by
  subst ht hc
  obtain ⟨h1, h2⟩ := wci_at l k z hz
  have h : w.heap[b]? = some (.cells (wci l).toArray 33 (0, 0)) := ha
  exact ⟨b, 0, rfl, by rw [Nat.zero_add, cell_of_row w b (k * 2) _ _ (0, 0) h]; simpa using h1, by rw [Nat.zero_add, cell_of_row w b (k * 2 + 1) _ _ (0, 0) h]; simpa using h2⟩
theorem Arg.lit (rest : List (Th → Prop)) (b : Nat) (cs : Array Value) (l : Il) (hc : cs = (wci l).toArray) : Arg (rest ++ [ob b cs 33]) (some ⟨b, 0, none⟩) l := .inr ⟨rest.length, ob b cs 33, by simp, shows_ob b cs l hc⟩
/-- behind a crash and with the power on again -/
structure Back (st : St) (n : Nat) (P : List ByteArray → Prop) : Prop where
  wf : st.WF
  off : st.off = false
  opn : st.opn = false
  pend : st.pend = []
  fall : st.fall = 0
  len : st.safe.length = n
  may : P st.safe
theorem OFFst.back {st : St} {n : Nat} {P : List ByteArray → Prop} (h : OFFst st n P) (kept : List Int) : Back (st.crash kept).on n P := by
  have e : st.crash kept = { st.settle kept with off := true } := by unfold St.crash; rw [h.off, h.opn]; rfl
  have hw := (h.wf.crash kept).on
  rw [e] at hw ⊢
  exact ⟨hw, rfl, rfl, rfl, rfl, by show (layK kept 0 st.safe st.pend).length = n; rw [layK_length]; exact h.len, h.may kept⟩
theorem OKst.back {st : St} {n s : Nat} {B : List ByteArray} (h : OKst NN st n s B) (kept : List Int) : OKst NN (st.crash kept).on n s B ∧ (st.crash kept).on.fall = 0 := by
  have e : st.crash kept = { st.settle kept with off := true } := by unfold St.crash; rw [h.off]; rfl
  have hw := (h.wf.crash kept).on
  have es : layK kept 0 st.safe st.pend = st.safe := by rw [h.pend]; rfl
  rw [e] at hw ⊢
  exact ⟨⟨hw, rfl, rfl, rfl, by show (layK kept 0 st.safe st.pend).length = n; rw [es]; exact h.len, by show (layK kept 0 st.safe st.pend)[0]? = _; rw [es]; exact h.head, by show (layK kept 0 st.safe st.pend).drop s = B; rw [es]; exact h.blk⟩, rfl⟩
theorem OKst.recl {st : St} {n s : Nat} {B : List ByteArray} (h : OKst NN st n s B) : RecL NN st.safe s B := .inl ⟨.inr h.head, h.blk⟩
theorem OKst.fallTo {st : St} {n s : Nat} {B : List ByteArray} (h : OKst NN st n s B) (z : Int) (hz : z ≤ 9223372036854775807) : OKst NN (st.fallTo z) n s B := ⟨h.wf.fallTo z hz, h.pend, h.off, h.opn, h.len, h.head, h.blk⟩
theorem OKst.blen {st : St} {n s : Nat} {B : List ByteArray} (h : OKst NN st n s B) : B.length = n - s := by rw [← h.blk, List.length_drop, h.len]
theorem OKst.bsz {st : St} {n s : Nat} {B : List ByteArray} (h : OKst NN st n s B) : Sz B := fun t ht => h.wf.sz t (by rw [← h.blk] at ht; exact List.mem_of_mem_drop ht)
theorem rec_fresh (n s : Nat) (h : 1 ≤ n) : RecL NN (fresh n).safe s (List.replicate (n - s) (fl 0)) := .inl ⟨.inl (by show (List.replicate n (fl 0))[0]? = _; rw [List.getElem?_replicate, if_pos (by omega)]), by simp [fresh]⟩
end Go.Proofs.Ytmcdohpeibipkaa
