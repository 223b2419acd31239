/- The texts of the log's own sectors, and what a reader sees in them. No walk. -/
import Derived.Test.YtghdgddpdamhcaaGreatLMath
import Derived.Test.YtghdgddpdamhcaaGreatSMath
namespace Go.Proofs.YtghdgddpdamhcaaGreat
set_option linter.unusedVariables false
set_option linter.unusedSimpArgs false
def be2 (n : Nat) : List UInt8 := [UInt8.ofNat (n / 256), UInt8.ofNat n]
def markL : List UInt8 := [99, 111, 102, 102, 101, 114, 32, 108, 111, 103, 10]
def hd0 (s c : Nat) : List UInt8 := markL ++ be2 s ++ be2 c ++ List.replicate 489 0
def leN : Nat → Nat → List UInt8
  | 0, _ => []
  | k + 1, x => leN k x ++ [UInt8.ofNat (x / 256 ^ k)]
theorem leN_length : ∀ k x, (leN k x).length = k
  | 0, _ => rfl
  | k + 1, x => by rw [leN, List.length_append, leN_length k]; rfl
def own0 (s c : Nat) : BitVec 64 := Sum.Crc.on 0#64 (hd0 s c)
def hdL (s c : Nat) : List UInt8 := hd0 s c ++ leN 8 (own0 s c).toNat
theorem hd0_length (s c : Nat) : (hd0 s c).length = 504 := by unfold hd0 markL be2; simp only [List.length_append, List.length_replicate, List.length_cons, List.length_nil]
theorem hdL_length (s c : Nat) : (hdL s c).length = 512 := by rw [hdL, List.length_append, hd0_length, leN_length]
/-- the numbers of a list of blocks, two bytes each -/
def numL : List Nat → List UInt8
  | [] => []
  | n :: r => be2 n ++ numL r
theorem numL_length : ∀ l, (numL l).length = 2 * l.length
  | [] => rfl
  | n :: r => by rw [numL, List.length_append, numL_length r]; simp [be2]; omega
theorem numL_append : ∀ a b, numL (a ++ b) = numL a ++ numL b
  | [], _ => rfl
  | n :: r, b => by simp [numL, numL_append r b]
def numsL (l : List Nat) : List UInt8 := (numL l ++ List.replicate (512 - 2 * l.length) 0).take 512
theorem numsL_length (l : List Nat) : (numsL l).length = 512 := by simp [numsL, numL_length]; omega
theorem names_ex : ∃ N : Names, (∀ s c, N.hd s c = ⟨(hdL s c).toArray⟩) ∧ ∀ l, N.nums l = ⟨(numsL l).toArray⟩ := ⟨⟨fun s c => ⟨(hdL s c).toArray⟩, fun l => ⟨(numsL l).toArray⟩⟩, fun _ _ => rfl, fun _ => rfl⟩
noncomputable def NN : Names := Classical.choose names_ex
theorem hd_eq (s c : Nat) : NN.hd s c = ⟨(hdL s c).toArray⟩ := (Classical.choose_spec names_ex).1 s c
theorem nums_eq (l : List Nat) : NN.nums l = ⟨(numsL l).toArray⟩ := (Classical.choose_spec names_ex).2 l
theorem hd_size (s c : Nat) : (NN.hd s c).size = 512 := by rw [hd_eq]; show (hdL s c).toArray.size = 512; rw [List.size_toArray, hdL_length]
theorem nums_size (l : List Nat) : (NN.nums l).size = 512 := by rw [nums_eq]; show (numsL l).toArray.size = 512; rw [List.size_toArray, numsL_length]
/-- the byte at a place; the number of two bytes -/
def byteAt (t : ByteArray) (k : Nat) : Nat := (t.data.toList.getD k 0).toNat
def numAt (t : ByteArray) (k : Nat) : Nat := byteAt t k * 256 + byteAt t (k + 1)
theorem byteAt_lt (t : ByteArray) (k : Nat) : byteAt t k < 256 := UInt8.toNat_lt _
theorem numAt_lt (t : ByteArray) (k : Nat) : numAt t k < 65536 := by have := byteAt_lt t k; have := byteAt_lt t (k + 1); unfold numAt; omega
theorem be2_num (n : Nat) (h : n < 65536) : (UInt8.ofNat (n / 256)).toNat * 256 + (UInt8.ofNat n).toNat = n := by
  rw [UInt8.toNat_ofNat', UInt8.toNat_ofNat']; omega
theorem hd_get (s c k : Nat) (h : k < 504) : byteAt (NN.hd s c) k = ((hd0 s c).getD k 0).toNat := by
  unfold byteAt
  rw [hd_eq]
  show ((hdL s c).getD k 0).toNat = _
  rw [hdL, List.getD_eq_getElem?_getD, List.getElem?_append_left (by rw [hd0_length]; exact h), ← List.getD_eq_getElem?_getD]
theorem hd_num1 (s c : Nat) (h : s < 65536) : numAt (NN.hd s c) 11 = s := by
  unfold numAt
  rw [hd_get _ _ _ (by omega), hd_get _ _ _ (by omega)]
  exact be2_num s h
theorem hd_num2 (s c : Nat) (h : c < 65536) : numAt (NN.hd s c) 13 = c := by
  unfold numAt
  rw [hd_get _ _ _ (by omega), hd_get _ _ _ (by omega)]
  exact be2_num c h
theorem hd_first (s c : Nat) : byteAt (NN.hd s c) 0 = 99 := by rw [hd_get _ _ _ (by omega)]; rfl
theorem fl_byte (c : UInt8) (k : Nat) (h : k < 512) : byteAt (fl c) k = c.toNat := by
  unfold byteAt fl
  show ((List.replicate 512 c).getD k 0).toNat = _
  rw [List.getD_eq_getElem?_getD, List.getElem?_replicate, if_pos h]; rfl
theorem hd_ne_fl (s c : Nat) (b : UInt8) (hb : b.toNat ≠ 99) : NN.hd s c ≠ fl b := fun e => by
  have h1 := hd_first s c
  rw [e, fl_byte _ _ (by omega)] at h1
  exact hb h1
theorem numL_at : ∀ (l : List Nat) (i n : Nat), l[i]? = some n → (numL l)[2 * i]? = some (UInt8.ofNat (n / 256)) ∧ (numL l)[2 * i + 1]? = some (UInt8.ofNat n)
  | [], i, n, h => by simp at h
  | m :: r, 0, n, h => by simp at h; subst h; simp [numL, be2]
  | m :: r, i + 1, n, h => by
    have := numL_at r i n (by simpa using h)
    simp only [numL, be2, List.cons_append, List.nil_append, show 2 * (i + 1) = 2 * i + 1 + 1 by omega, List.getElem?_cons_succ]
    exact this
theorem nums_num (l : List Nat) (hl : l.length ≤ 256) (i n : Nat) (hi : l[i]? = some n) (hn : n < 65536) : numAt (NN.nums l) (2 * i) = n := by
  have hil := (List.getElem?_eq_some_iff.1 hi).1
  obtain ⟨h1, h2⟩ := numL_at l i n hi
  have key : ∀ k, k < 2 * l.length → byteAt (NN.nums l) k = ((numL l).getD k 0).toNat := fun k hk => by
    unfold byteAt
    rw [nums_eq]
    show ((numsL l).getD k 0).toNat = _
    rw [numsL, List.getD_eq_getElem?_getD, List.getElem?_take_of_lt (by omega), List.getElem?_append_left (by rw [numL_length]; exact hk), ← List.getD_eq_getElem?_getD]
  unfold numAt
  rw [key _ (by omega), key _ (by omega), List.getD_eq_getElem?_getD, List.getD_eq_getElem?_getD, h1, h2]
  exact be2_num n hn
theorem numsL_eq (l : List Nat) (hl : l.length ≤ 256) : numsL l = numL l ++ List.replicate (512 - 2 * l.length) 0 := by
  unfold numsL
  exact List.take_of_length_le (by simp [numL_length]; omega)
end Go.Proofs.YtghdgddpdamhcaaGreat
