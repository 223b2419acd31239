/- Plain mathematics of CRC-64 over numbers of 64 bits: own work, no part of the program's text. -/
namespace Go.Proofs.YtghdgddpdamhcaaGreat.Sum.Crc

def poly : BitVec 64 := 14514072000185962306#64
def step (x : BitVec 64) : BitVec 64 := (x >>> 1) ^^^ (if x.getLsbD 0 then poly else 0#64)
def stepN : Nat → BitVec 64 → BitVec 64
  | 0, x => x
  | n + 1, x => stepN n (step x)
def lay (x : BitVec 64) (b : UInt8) : BitVec 64 := x ^^^ BitVec.ofNat 64 b.toNat
def onX (x : BitVec 64) (l : List UInt8) : BitVec 64 := l.foldl (fun y b => stepN 8 (lay y b)) x
def on (s : BitVec 64) (l : List UInt8) : BitVec 64 := ~~~ (onX (~~~ s) l)

theorem ext {x y : BitVec 64} (h : ∀ i, i < 64 → x.getLsbD i = y.getLsbD i) : x = y :=
  BitVec.eq_of_getLsbD_eq h

/-! ### linear -/
theorem step_zero : step 0#64 = 0#64 := by decide +kernel
theorem step_xor (x y : BitVec 64) : step (x ^^^ y) = step x ^^^ step y := by
  unfold step
  rw [BitVec.getLsbD_xor, BitVec.ushiftRight_xor_distrib]
  apply ext
  intro i hi
  cases x.getLsbD 0 <;> cases y.getLsbD 0 <;> simp only [BitVec.getLsbD_xor] <;> simp <;> cases (x.getLsbD (1 + i)) <;> cases (y.getLsbD (1 + i)) <;> cases (poly.getLsbD i) <;> rfl
theorem stepN_xor : ∀ (n : Nat) (x y : BitVec 64), stepN n (x ^^^ y) = stepN n x ^^^ stepN n y
  | 0, _, _ => rfl
  | n + 1, x, y => by simp only [stepN]; rw [step_xor, stepN_xor n]
theorem stepN_zero : ∀ n, stepN n 0#64 = 0#64
  | 0 => rfl
  | n + 1 => by simp only [stepN]; rw [step_zero, stepN_zero n]
theorem stepN_add : ∀ (n m : Nat) (x : BitVec 64), stepN (n + m) x = stepN m (stepN n x)
  | 0, m, x => by simp [stepN]
  | n + 1, m, x => by
    rw [show n + 1 + m = (n + m) + 1 from by omega]
    simp only [stepN]
    exact stepN_add n m (step x)

/-! ### low bits that are nought only move -/
theorem step_even {x : BitVec 64} (h : x.getLsbD 0 = false) : step x = x >>> 1 := by
  unfold step; rw [h]; simp
theorem stepN_even : ∀ (k : Nat) (x : BitVec 64), (∀ i, i < k → x.getLsbD i = false) → stepN k x = x >>> k
  | 0, x, _ => by simp [stepN]
  | k + 1, x, h => by
    simp only [stepN]
    rw [step_even (h 0 (by omega)), stepN_even k]
    · rw [← BitVec.shiftRight_add]; congr 1; omega
    · intro i hi; simp; exact h (1 + i) (by omega)

/-! ### one to one -/
theorem poly_top : poly.getLsbD 63 = true := by decide +kernel
theorem step_inj {x y : BitVec 64} (h : step x = step y) : x = y := by
  have h63 : (step x).getLsbD 63 = (step y).getLsbD 63 := by rw [h]
  have tx : ∀ z : BitVec 64, (step z).getLsbD 63 = z.getLsbD 0 := by
    intro z
    unfold step
    rw [BitVec.getLsbD_xor]
    have hz : (z >>> 1).getLsbD 63 = false := by simp
    rw [hz]
    cases z.getLsbD 0
    · simp
    · simp [poly_top]
  rw [tx, tx] at h63
  unfold step at h
  rw [h63] at h
  apply ext
  intro i hi
  cases i with
  | zero => exact h63
  | succ j =>
    have hj := congrArg (fun b : BitVec 64 => b.getLsbD j) h
    simp only [BitVec.getLsbD_xor] at hj
    have hj2 : (x >>> 1).getLsbD j = (y >>> 1).getLsbD j := by
      generalize (x >>> 1).getLsbD j = p at hj ⊢
      generalize (y >>> 1).getLsbD j = q at hj ⊢
      generalize (if y.getLsbD 0 then poly else 0#64).getLsbD j = r at hj
      cases p <;> cases q <;> cases r <;> simp_all
    simp at hj2
    rw [show j + 1 = 1 + j from by omega]
    exact hj2
theorem stepN_inj : ∀ (n : Nat) {x y : BitVec 64}, stepN n x = stepN n y → x = y
  | 0, _, _, h => h
  | n + 1, _, _, h => step_inj (stepN_inj n (by simpa only [stepN] using h))
theorem xor_right_inj {x y z : BitVec 64} (h : x ^^^ z = y ^^^ z) : x = y := by
  have := congrArg (fun t => t ^^^ z) h
  simpa [BitVec.xor_assoc] using this
theorem onX_inj : ∀ (l : List UInt8) {x y : BitVec 64}, onX x l = onX y l → x = y
  | [], _, _, h => h
  | b :: l, x, y, h => by
    have h' : onX (stepN 8 (lay x b)) l = onX (stepN 8 (lay y b)) l := h
    exact xor_right_inj (stepN_inj 8 (onX_inj l h'))
theorem not_inj {x y : BitVec 64} (h : ~~~ x = ~~~ y) : x = y := by
  have := congrArg (fun t => ~~~ t) h
  simpa using this
theorem on_inj (l : List UInt8) (x y : BitVec 64) : on x l = on y l ↔ x = y := by
  constructor
  · intro h; exact not_inj (onX_inj l (not_inj h))
  · intro h; rw [h]

/-! ### parts -/
theorem onX_append (x : BitVec 64) (a b : List UInt8) : onX x (a ++ b) = onX (onX x a) b := by
  unfold onX; rw [List.foldl_append]
theorem on_append (s : BitVec 64) (a b : List UInt8) : on s (a ++ b) = on (on s a) b := by
  unfold on; rw [onX_append]; simp
theorem on_nil (s : BitVec 64) : on s [] = s := by unfold on onX; simp

/-! ### three texts laid over one another -/
def xor3 : List UInt8 → List UInt8 → List UInt8 → List UInt8
  | a :: as, b :: bs, c :: cs => (a ^^^ b ^^^ c) :: xor3 as bs cs
  | _, _, _ => []
def xor2 : List UInt8 → List UInt8 → List UInt8
  | a :: as, b :: bs => (a ^^^ b) :: xor2 as bs
  | _, _ => []
theorem byte_xor (a b : UInt8) : BitVec.ofNat 64 (a ^^^ b).toNat = BitVec.ofNat 64 a.toNat ^^^ BitVec.ofNat 64 b.toNat := by
  rw [UInt8.toNat_xor]
  apply ext
  intro i hi
  rw [BitVec.getLsbD_xor]
  simp [hi]
theorem xor_swap (x y p q : BitVec 64) : (x ^^^ y) ^^^ (p ^^^ q) = (x ^^^ p) ^^^ (y ^^^ q) := by
  apply ext
  intro i hi
  simp only [BitVec.getLsbD_xor]
  cases x.getLsbD i <;> cases y.getLsbD i <;> cases p.getLsbD i <;> cases q.getLsbD i <;> rfl
theorem lay_xor (x y : BitVec 64) (a b : UInt8) : lay (x ^^^ y) (a ^^^ b) = lay x a ^^^ lay y b := by
  unfold lay; rw [byte_xor, xor_swap]
theorem onX_xor2 : ∀ (a b : List UInt8) (x y : BitVec 64), a.length = b.length → onX (x ^^^ y) (xor2 a b) = onX x a ^^^ onX y b
  | [], [], _, _, _ => rfl
  | a :: as, b :: bs, x, y, h => by
    show onX (stepN 8 (lay (x ^^^ y) (a ^^^ b))) (xor2 as bs) = onX (stepN 8 (lay x a)) as ^^^ onX (stepN 8 (lay y b)) bs
    rw [lay_xor, stepN_xor]
    exact onX_xor2 as bs _ _ (by simpa using h)
theorem xor3_eq : ∀ (a b c : List UInt8), a.length = b.length → a.length = c.length → xor3 a b c = xor2 (xor2 a b) c ∧ (xor2 a b).length = a.length
  | [], [], [], _, _ => ⟨rfl, rfl⟩
  | a :: as, b :: bs, c :: cs, h1, h2 => by
    have := xor3_eq as bs cs (by simpa using h1) (by simpa using h2)
    refine ⟨?_, ?_⟩
    · show (a ^^^ b ^^^ c) :: xor3 as bs cs = (a ^^^ b ^^^ c) :: xor2 (xor2 as bs) cs
      rw [this.1]
    · show (xor2 as bs).length + 1 = as.length + 1
      rw [this.2]
theorem on_xor3 (a b c : List UInt8) (h1 : a.length = b.length) (h2 : a.length = c.length) : on 0#64 a ^^^ on 0#64 b ^^^ on 0#64 c = on 0#64 (xor3 a b c) := by
  obtain ⟨e, hl⟩ := xor3_eq a b c h1 h2
  have k := onX_xor2 (xor2 a b) c (~~~ 0#64 ^^^ ~~~ 0#64) (~~~ 0#64) (by omega)
  rw [onX_xor2 a b _ _ h1] at k
  have e3 : (~~~ 0#64 ^^^ ~~~ 0#64 ^^^ ~~~ 0#64 : BitVec 64) = ~~~ 0#64 := by decide +kernel
  rw [e3] at k
  unfold on
  rw [e, k]
  apply ext
  intro i hi
  simp only [BitVec.getLsbD_xor, BitVec.getLsbD_not, hi]
  cases (onX (~~~ 0#64) a).getLsbD i <;> cases (onX (~~~ 0#64) b).getLsbD i <;> cases (onX (~~~ 0#64) c).getLsbD i <;> rfl

/-! ### half a byte by a table -/
def four (k : Nat) : BitVec 64 := stepN 4 (BitVec.ofNat 64 k)
theorem half (x : BitVec 64) : (x >>> 4) ^^^ four (x.toNat % 16) = stepN 4 x := by
  have hs : x = (x >>> 4 <<< 4) ^^^ BitVec.ofNat 64 (x.toNat % 16) := by
    apply ext
    intro i hi
    rw [BitVec.getLsbD_xor, BitVec.getLsbD_shiftLeft, BitVec.getLsbD_ushiftRight, BitVec.getLsbD_ofNat]
    rw [show x.toNat % 16 = x.toNat % 2 ^ 4 from rfl, Nat.testBit_mod_two_pow]
    by_cases h : i < 4
    · simp [h, hi]; rfl
    · rw [show 4 + (i - 4) = i from by omega]; simp [h, hi]
  have h4 : stepN 4 (x >>> 4 <<< 4) = x >>> 4 := by
    rw [stepN_even]
    · apply ext
      intro i hi
      simp only [BitVec.getLsbD_ushiftRight, BitVec.getLsbD_shiftLeft]
      by_cases h : 4 + i < 64
      · simp [h, show ¬ (4 + i < 4) from by omega]
      · have : x.getLsbD (4 + i) = false := BitVec.getLsbD_of_ge _ _ (by omega)
        simp [this]
    · intro i hi; rw [BitVec.getLsbD_shiftLeft]; simp [hi]
  have e : stepN 4 x = stepN 4 (x >>> 4 <<< 4) ^^^ stepN 4 (BitVec.ofNat 64 (x.toNat % 16)) := by
    rw [← stepN_xor, ← hs]
  rw [e, h4]
  rfl

/-! ### at most eight bytes in a row -/
def le : List UInt8 → BitVec 64
  | [] => 0#64
  | b :: l => BitVec.ofNat 64 b.toNat ^^^ (le l <<< 8)
theorem byte_bit (b : UInt8) (i : Nat) (h : 8 ≤ i) : b.toNat.testBit i = false :=
  Nat.testBit_lt_two_pow (Nat.lt_of_lt_of_le b.toNat_lt (Nat.pow_le_pow_right (by omega) h))
theorem le_low (b : UInt8) (l : List UInt8) (i : Nat) (h : i < 8) : (le (b :: l)).getLsbD i = b.toNat.testBit i := by
  simp only [le, BitVec.getLsbD_xor, BitVec.getLsbD_ofNat, BitVec.getLsbD_shiftLeft]
  simp [h, show i < 64 from by omega]
theorem le_up (b : UInt8) (l : List UInt8) (i : Nat) (h : 8 ≤ i) (h2 : i < 64) : (le (b :: l)).getLsbD i = (le l).getLsbD (i - 8) := by
  simp only [le, BitVec.getLsbD_xor, BitVec.getLsbD_ofNat, BitVec.getLsbD_shiftLeft]
  simp [h2, byte_bit b i h, show ¬ i < 8 from by omega]
theorem le_high : ∀ (l : List UInt8) (i : Nat), 8 * l.length ≤ i → (le l).getLsbD i = false
  | [], i, _ => by simp [le]
  | b :: l, i, h => by
    simp only [List.length_cons] at h
    by_cases h2 : i < 64
    · rw [le_up b l i (by omega) h2]; exact le_high l _ (by omega)
    · exact BitVec.getLsbD_of_ge _ _ (by omega)
theorem onX_le : ∀ (l : List UInt8) (x : BitVec 64), l.length ≤ 8 → onX x l = stepN (8 * l.length) (x ^^^ le l)
  | [], x, _ => by simp [onX, le, stepN]
  | b :: l, x, h => by
    simp only [List.length_cons] at h
    show onX (stepN 8 (lay x b)) l = stepN (8 * (l.length + 1)) (x ^^^ le (b :: l))
    rw [onX_le l _ (by omega), show 8 * (l.length + 1) = 8 + 8 * l.length from by omega, stepN_add]
    congr 1
    have e : stepN 8 (le l <<< 8) = le l := by
      rw [stepN_even]
      · apply ext
        intro i hi
        simp only [BitVec.getLsbD_ushiftRight, BitVec.getLsbD_shiftLeft]
        by_cases h3 : 8 + i < 64
        · simp [h3, show ¬ 8 + i < 8 from by omega]
        · rw [le_high l i (by omega)]; simp [h3]
      · intro i hi; rw [BitVec.getLsbD_shiftLeft]; simp [hi]
    have e2 : x ^^^ le (b :: l) = lay x b ^^^ (le l <<< 8) := by
      unfold lay; simp only [le]; rw [BitVec.xor_assoc]
    rw [e2, stepN_xor, e]
theorem le_inj : ∀ (l l' : List UInt8), l.length = l'.length → l.length ≤ 8 → le l = le l' → l = l'
  | [], [], _, _, _ => rfl
  | b :: l, c :: m, h1, h2, h => by
    simp only [List.length_cons] at h1 h2
    have hb : b = c := by
      apply UInt8.toNat_inj.1
      apply Nat.eq_of_testBit_eq
      intro i
      by_cases hi : i < 8
      · rw [← le_low b l i hi, ← le_low c m i hi, h]
      · rw [byte_bit b i (by omega), byte_bit c i (by omega)]
    have hl : le l = le m := by
      apply ext
      intro i hi
      by_cases h3 : i + 8 < 64
      · have e1 := le_up b l (i + 8) (by omega) h3
        have e2 := le_up c m (i + 8) (by omega) h3
        rw [show i + 8 - 8 = i from by omega] at e1 e2
        rw [← e1, ← e2, h]
      · rw [le_high l i (by omega), le_high m i (by omega)]
    rw [hb, le_inj l m (by omega) (by omega) hl]
theorem onX_row (x : BitVec 64) (l m : List UInt8) (h1 : l.length = m.length) (h2 : l.length ≤ 8) (h : onX x l = onX x m) : l = m := by
  rw [onX_le l x h2, onX_le m x (by omega), h1] at h
  have h3 := stepN_inj _ h
  rw [BitVec.xor_comm x, BitVec.xor_comm x] at h3
  exact le_inj l m h1 h2 (xor_right_inj h3)

/-! ### a text some of whose bytes in a row are turned -/
def byteOf (bits : BitVec 64) (k : Nat) : UInt8 := UInt8.ofNat (bits.toNat / 2 ^ (8 * k))
def turned (b : List UInt8) (at' : Nat) (bits : BitVec 64) (k : Nat) : List UInt8 :=
  b.mapIdx fun i v => if at' ≤ i ∧ i < at' + k then v ^^^ byteOf bits (i - at') else v
def changed (bits : BitVec 64) : Nat → Bool
  | 0 => false
  | k + 1 => changed bits k || byteOf bits k != 0
theorem turned_length (b : List UInt8) (a : Nat) (bits : BitVec 64) (k : Nat) : (turned b a bits k).length = b.length := by simp [turned]
theorem turned_zero (b : List UInt8) (a : Nat) (bits : BitVec 64) : turned b a bits 0 = b := by
  apply List.ext_getElem
  · simp [turned]
  · intro i h1 h2
    simp only [turned, List.getElem_mapIdx]
    rw [if_neg (by omega)]
theorem turned_get (b : List UInt8) (a : Nat) (bits : BitVec 64) (k i : Nat) (h : i < (turned b a bits k).length) : (turned b a bits k)[i] = if a ≤ i ∧ i < a + k then b[i]'(by rw [turned_length] at h; exact h) ^^^ byteOf bits (i - a) else b[i]'(by rw [turned_length] at h; exact h) := by
  simp only [turned, List.getElem_mapIdx]
theorem turned_succ (b : List UInt8) (a : Nat) (bits : BitVec 64) (k : Nat) (h : a + k < (turned b a bits k).length) : turned b a bits (k + 1) = (turned b a bits k).set (a + k) ((turned b a bits k)[a + k] ^^^ byteOf bits k) := by
  apply List.ext_getElem
  · simp [turned]
  · intro i h1 h2
    have hg := turned_get b a bits k (a + k) h
    rw [if_neg (by omega)] at hg
    rw [turned_get, List.getElem_set]
    by_cases e : a + k = i
    · subst e
      rw [if_pos rfl, if_pos (by omega), show a + k - a = k from by omega]
      simp only [hg]
    · rw [if_neg e, turned_get]
      by_cases e2 : a ≤ i ∧ i < a + k
      · rw [if_pos e2, if_pos (by omega)]
      · rw [if_neg e2, if_neg (by omega)]
theorem changed_iff (bits : BitVec 64) : ∀ n, changed bits n = false ↔ ∀ j, j < n → byteOf bits j = 0
  | 0 => by simp [changed]
  | n + 1 => by
    simp only [changed, Bool.or_eq_false_iff, changed_iff bits n]
    constructor
    · rintro ⟨h1, h2⟩ j hj
      by_cases e : j = n
      · subst e; simpa using h2
      · exact h1 j (by omega)
    · intro h
      exact ⟨fun j hj => h j (by omega), by simp [h n (by omega)]⟩
theorem byte_xor_self {x y : UInt8} (h : x ^^^ y = x) : y = 0 := by
  have := congrArg (fun t => x ^^^ t) h
  simpa [← UInt8.xor_assoc] using this
theorem told (b : List UInt8) (a : Nat) (bits : BitVec 64) (n : Nat) (h : a + n ≤ b.length) (h8 : n ≤ 8) : on 0#64 (turned b a bits n) = on 0#64 b ↔ changed bits n = false := by
  rw [changed_iff]
  constructor
  · intro he j hj
    have cut : ∀ l : List UInt8, l = l.take a ++ ((l.drop a).take n ++ l.drop (a + n)) := by
      intro l
      rw [← List.drop_drop, List.take_append_drop, List.take_append_drop]
    have t1 : (turned b a bits n).take a = b.take a := by
      apply List.ext_getElem
      · simp [turned_length]
      · intro i h1 h2
        simp only [List.getElem_take]
        rw [turned_get, if_neg (by simp at h1; omega)]
    have t2 : (turned b a bits n).drop (a + n) = b.drop (a + n) := by
      apply List.ext_getElem
      · simp [turned_length]
      · intro i h1 h2
        simp only [List.getElem_drop]
        rw [turned_get, if_neg (by omega)]
    have c1 := cut (turned b a bits n)
    have c2 := cut b
    rw [t1, t2] at c1
    have g1 : on 0#64 (turned b a bits n) = on (on (on 0#64 (b.take a)) (((turned b a bits n).drop a).take n)) (b.drop (a + n)) := by
      rw [← on_append, ← on_append, ← List.append_assoc] at *
      exact congrArg (on 0#64) c1
    have g2 : on 0#64 b = on (on (on 0#64 (b.take a)) ((b.drop a).take n)) (b.drop (a + n)) := by
      rw [← on_append, ← on_append, ← List.append_assoc] at *
      exact congrArg (on 0#64) c2
    rw [g1, g2] at he
    have he2 := (on_inj _ _ _).1 he
    have he3 := onX_row _ _ _ (by simp [turned_length]) (by simp; omega) (not_inj he2)
    have hlen : j < (((turned b a bits n).drop a).take n).length := by simp [turned_length]; omega
    have he4 : (((turned b a bits n).drop a).take n)[j] = ((b.drop a).take n)[j]'(by rw [← he3]; exact hlen) := by simp only [he3]
    simp only [List.getElem_take, List.getElem_drop] at he4
    rw [turned_get, if_pos (by omega), show a + j - a = j from by omega] at he4
    exact byte_xor_self he4
  · intro hz
    have : turned b a bits n = b := by
      apply List.ext_getElem
      · simp [turned_length]
      · intro i h1 h2
        rw [turned_get]
        by_cases e : a ≤ i ∧ i < a + n
        · rw [if_pos e, hz (i - a) (by omega)]; simp
        · rw [if_neg e]
    rw [this]

end Go.Proofs.YtghdgddpdamhcaaGreat.Sum.Crc
