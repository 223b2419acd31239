/- Parts, their texts and their order: no model here. -/
import Derived.WalkKit
namespace Go.Proofs.Ytijkabnhedmimab
set_option linter.unusedVariables false
set_option linter.unusedSimpArgs false
structure Pt where
  kind : Int
  text : List UInt8
  n : Int
theorem Pt.ext' {p q : Pt} (a : p.kind = q.kind) (b : p.text = q.text) (c : p.n = q.n) : p = q := by cases p; cases q; simp at a b c; subst a b c; rfl
/-- it is a part, and its number is one of 64 bits -/
structure Pt.ok (p : Pt) : Prop where
  lo : -9223372036854775808 ≤ p.n
  hi : p.n ≤ 9223372036854775807
  is : p.kind = 1 ∧ p.n = 0 ∨ (p.kind = 2 ∨ p.kind = 3) ∧ p.text = []
def grp (t : List UInt8) : List UInt8 :=
  if h : t.length ≤ 8 then t ++ List.replicate (8 - t.length) 0 ++ [UInt8.ofNat t.length] else t.take 8 ++ 9 :: grp (t.drop 8)
termination_by t.length
decreasing_by simp; omega
theorem grp_short {t : List UInt8} (h : t.length ≤ 8) : grp t = t ++ List.replicate (8 - t.length) 0 ++ [UInt8.ofNat t.length] := by rw [grp, dif_pos h]
theorem grp_long {t : List UInt8} (h : 8 < t.length) : grp t = t.take 8 ++ 9 :: grp (t.drop 8) := by rw [grp, dif_neg (by omega)]
/-- how many groups -/
def ngr (n : Nat) : Nat := if n = 0 then 1 else (n + 7) / 8
theorem grp_len : ∀ (k : Nat) (t : List UInt8), t.length ≤ k → (grp t).length = 9 * ngr t.length := by
  intro k
  induction k with
  | zero =>
    intro t h
    have : t = [] := List.eq_nil_of_length_eq_zero (by omega)
    subst this
    rw [grp_short (by simp)]; rfl
  | succ k ih =>
    intro t h
    by_cases h8 : t.length ≤ 8
    · rw [grp_short h8]; simp only [List.length_append, List.length_replicate, List.length_cons, List.length_nil, ngr]; split <;> omega
    · rw [grp_long (by omega)]
      have hd : (t.drop 8).length = t.length - 8 := List.length_drop
      have := ih (t.drop 8) (by omega)
      rw [List.length_append, List.length_cons, this, hd, List.length_take]
      unfold ngr
      repeat' split
      all_goals omega
theorem grp_length (t : List UInt8) : (grp t).length = 9 * ngr t.length := grp_len _ t (Nat.le_refl _)
/-- the eight bytes of a number, the highest first -/
def bek : Nat → Nat → List UInt8
  | 0, _ => []
  | k + 1, v => bek k (v / 256) ++ [UInt8.ofNat v]
theorem bek_length : ∀ k v, (bek k v).length = k
  | 0, _ => rfl
  | k + 1, v => by simp [bek, bek_length k]
/-- the number of these bytes -/
def nval (l : List UInt8) : Nat := l.foldl (fun a b => a * 256 + b.toNat) 0
theorem nval_snoc (l : List UInt8) (b : UInt8) : nval (l ++ [b]) = nval l * 256 + b.toNat := by simp [nval]
theorem nval_lt (l : List UInt8) : nval l < 256 ^ l.length := by
  suffices ∀ k (l : List UInt8), l.length = k → nval l < 256 ^ k from this _ l rfl
  intro k
  induction k with
  | zero => intro l h; rw [List.eq_nil_of_length_eq_zero h]; decide
  | succ k ih =>
    intro l h
    have hne : l ≠ [] := by intro e; subst e; cases h
    obtain ⟨a, b, rfl⟩ : ∃ a b, l = a ++ [b] := ⟨l.dropLast, l.getLast hne, (List.dropLast_concat_getLast hne).symm⟩
    have := ih a (by simpa using h)
    have hb := b.toNat_lt
    rw [nval_snoc, Nat.pow_succ]
    omega
theorem nval_bek : ∀ k v, v < 256 ^ k → nval (bek k v) = v
  | 0, v, h => by have : v = 0 := by simpa using h
                  subst this; rfl
  | k + 1, v, h => by
    rw [bek, nval_snoc, nval_bek k (v / 256) (by rw [Nat.pow_succ] at h; omega)]
    simp
    omega
theorem bek_nval (l : List UInt8) : bek l.length (nval l) = l := by
  suffices ∀ k (l : List UInt8), l.length = k → bek k (nval l) = l from this _ l rfl
  intro k
  induction k with
  | zero => intro l h; rw [List.eq_nil_of_length_eq_zero h]; rfl
  | succ k ih =>
    intro l h
    have hne : l ≠ [] := by intro e; subst e; cases h
    obtain ⟨a, b, rfl⟩ : ∃ a b, l = a ++ [b] := ⟨l.dropLast, l.getLast hne, (List.dropLast_concat_getLast hne).symm⟩
    have e := ih a (by simpa using h)
    have hb := b.toNat_lt
    rw [nval_snoc, bek, show (nval a * 256 + b.toNat) / 256 = nval a by omega, e]
    congr 2
    apply UInt8.toNat.inj
    simp
/-- what is written of a number -/
def tv (kind n : Int) : Nat := if kind = 3 then (9223372036854775807 - n).toNat else (n + 9223372036854775808).toNat
def ptx (p : Pt) : List UInt8 := if p.kind = 1 then 1 :: grp p.text else UInt8.ofNat p.kind.toNat :: bek 8 (tv p.kind p.n)
def wt (l : List Pt) : List UInt8 := (l.map ptx).flatten
theorem wt_nil : wt [] = [] := rfl
theorem wt_cons (p : Pt) (l : List Pt) : wt (p :: l) = ptx p ++ wt l := by simp [wt]
theorem wt_append (a b : List Pt) : wt (a ++ b) = wt a ++ wt b := by simp [wt]
/-- they part at a byte, and the first has the less one there -/
def Sep (u v : List UInt8) : Prop := ∃ c x y r s, u = c ++ x :: r ∧ v = c ++ y :: s ∧ x.toNat < y.toNat
theorem Sep.app {u v : List UInt8} (h : Sep u v) (a b : List UInt8) : Sep (u ++ a) (v ++ b) := by
  obtain ⟨c, x, y, r, s, rfl, rfl, h⟩ := h
  exact ⟨c, x, y, r ++ a, s ++ b, by simp, by simp, h⟩
theorem Sep.pre {u v : List UInt8} (h : Sep u v) (p : List UInt8) : Sep (p ++ u) (p ++ v) := by
  obtain ⟨c, x, y, r, s, rfl, rfl, h⟩ := h
  exact ⟨p ++ c, x, y, r, s, by simp, by simp, h⟩
theorem Sep.here {x y : UInt8} (h : x.toNat < y.toNat) (r s : List UInt8) : Sep (x :: r) (y :: s) := ⟨[], x, y, r, s, rfl, rfl, h⟩
/-- the order of two texts -/
def bcmp : List UInt8 → List UInt8 → Int
  | [], [] => 0
  | [], _ :: _ => -1
  | _ :: _, [] => 1
  | x :: a, y :: b => if x.toNat < y.toNat then -1 else if y.toNat < x.toNat then 1 else bcmp a b
theorem bcmp_self : ∀ a, bcmp a a = 0
  | [] => rfl
  | x :: a => by simp [bcmp, bcmp_self a]
theorem bcmp_pre (p : List UInt8) (a b : List UInt8) : bcmp (p ++ a) (p ++ b) = bcmp a b := by
  induction p with
  | nil => rfl
  | cons x p ih => simp [bcmp, ih]
theorem bcmp_sep {u v : List UInt8} (h : Sep u v) : bcmp u v = -1 ∧ bcmp v u = 1 := by
  obtain ⟨c, x, y, r, s, rfl, rfl, h⟩ := h
  rw [bcmp_pre, bcmp_pre]
  simp [bcmp, h]
  omega
theorem bcmp_longer (a : List UInt8) {b : List UInt8} (h : b ≠ []) : bcmp a (a ++ b) = -1 ∧ bcmp (a ++ b) a = 1 := by
  have e : a = a ++ [] := by simp
  have h1 : bcmp a (a ++ b) = bcmp (a ++ []) (a ++ b) := by simp
  have h2 : bcmp (a ++ b) a = bcmp (a ++ b) (a ++ []) := by simp
  rw [h1, h2, bcmp_pre, bcmp_pre]
  cases b with
  | nil => exact absurd rfl h
  | cons y s => exact ⟨rfl, rfl⟩
/-- two texts: one is the other, or begins it, or they part -/
theorem tri (a b : List UInt8) : a = b ∨ (∃ r, r ≠ [] ∧ b = a ++ r) ∨ (∃ r, r ≠ [] ∧ a = b ++ r) ∨ Sep a b ∨ Sep b a := by
  induction a generalizing b with
  | nil =>
    cases b with
    | nil => exact Or.inl rfl
    | cons y s => exact Or.inr (Or.inl ⟨y :: s, by simp, rfl⟩)
  | cons x a ih =>
    cases b with
    | nil => exact Or.inr (Or.inr (Or.inl ⟨x :: a, by simp, rfl⟩))
    | cons y b =>
      rcases Nat.lt_trichotomy x.toNat y.toNat with h | h | h
      · exact Or.inr (Or.inr (Or.inr (Or.inl (Sep.here h _ _))))
      · have hxy : x = y := UInt8.toNat.inj h
        subst hxy
        rcases ih b with rfl | ⟨r, hr, rfl⟩ | ⟨r, hr, rfl⟩ | hs | hs
        · exact Or.inl rfl
        · exact Or.inr (Or.inl ⟨r, hr, rfl⟩)
        · exact Or.inr (Or.inr (Or.inl ⟨r, hr, rfl⟩))
        · exact Or.inr (Or.inr (Or.inr (Or.inl (hs.pre [x]))))
        · exact Or.inr (Or.inr (Or.inr (Or.inr (hs.pre [x]))))
      · exact Or.inr (Or.inr (Or.inr (Or.inr (Sep.here h _ _))))
theorem bcmp_zero {a b : List UInt8} (h : bcmp a b = 0) : a = b := by
  rcases tri a b with e | ⟨r, hr, rfl⟩ | ⟨r, hr, rfl⟩ | hs | hs
  · exact e
  · rw [(bcmp_longer a hr).1] at h; cases h
  · rw [(bcmp_longer b hr).2] at h; cases h
  · rw [(bcmp_sep hs).1] at h; cases h
  · rw [(bcmp_sep hs).2] at h; cases h
theorem bcmp_neg (a b : List UInt8) : bcmp b a = - bcmp a b := by
  rcases tri a b with rfl | ⟨r, hr, rfl⟩ | ⟨r, hr, rfl⟩ | hs | hs
  · rw [bcmp_self]; rfl
  · rw [(bcmp_longer a hr).1, (bcmp_longer a hr).2]; rfl
  · rw [(bcmp_longer b hr).1, (bcmp_longer b hr).2]
  · rw [(bcmp_sep hs).1, (bcmp_sep hs).2]; try rfl
  · rw [(bcmp_sep hs).1, (bcmp_sep hs).2]
theorem not_sep_pre {a r : List UInt8} : ¬ Sep a (a ++ r) ∧ ¬ Sep (a ++ r) a := by
  by_cases h : r = []
  · subst h
    simp
    intro hs
    have := (bcmp_sep hs).1
    rw [bcmp_self] at this; cases this
  · constructor <;> intro hs
    · have h1 := (bcmp_sep hs).2; rw [(bcmp_longer a h).2] at h1
      obtain ⟨c, x, y, u, v, e1, e2, hl⟩ := hs
      rw [e1] at e2
      have : c ++ (x :: u ++ r) = c ++ y :: v := by simpa using e2
      have := List.append_cancel_left this
      simp at this
      rw [this.1] at hl
      omega
    · have h1 := (bcmp_sep hs).1; rw [(bcmp_longer a h).2] at h1; cases h1
/-- a group: its eight bytes, its ninth -/
theorem pad_sep : ∀ (n : Nat) (a b : List UInt8), a.length ≤ n → b.length ≤ n → bcmp a b = -1 → ∀ (x y : UInt8), (a.length < b.length → x.toNat < y.toNat) →
    Sep (a ++ List.replicate (n - a.length) 0 ++ [x]) (b ++ List.replicate (n - b.length) 0 ++ [y])
  | 0, a, b, ha, hb, h, x, y, hx => by
    have e1 : a = [] := List.eq_nil_of_length_eq_zero (by omega)
    have e2 : b = [] := List.eq_nil_of_length_eq_zero (by omega)
    subst e1 e2; cases h
  | n + 1, [], [], ha, hb, h, x, y, hx => by cases h
  | n + 1, [], v :: b, ha, hb, h, x, y, hx => by
    have e : List.replicate (n + 1 - ([] : List UInt8).length) (0 : UInt8) = 0 :: List.replicate n 0 := by simp [List.replicate_succ]
    rw [e]
    have e2 : n + 1 - (v :: b).length = n - b.length := by simp
    rw [e2]
    by_cases hv : v = 0
    · subst hv
      have hb' : b.length ≤ n := by simpa using hb
      by_cases hbe : b = []
      · subst hbe
        have : Sep [x] [y] := Sep.here (hx (by simp)) _ _
        simpa using (this.pre (0 :: List.replicate n 0))
      · have hc : bcmp [] b = -1 := by cases b with
          | nil => exact absurd rfl hbe
          | cons _ _ => rfl
        have := pad_sep n [] b (by simp) hb' hc x y (fun _ => hx (by simp))
        simpa using this.pre [0]
    · have : 0 < v.toNat := by
        rcases Nat.eq_zero_or_pos v.toNat with h0 | h0
        · exact absurd (UInt8.toNat.inj (show v.toNat = (0 : UInt8).toNat by simpa using h0)) hv
        · exact h0
      exact Sep.here (by simpa using this) _ _
  | n + 1, u :: a, [], ha, hb, h, x, y, hx => by cases h
  | n + 1, u :: a, v :: b, ha, hb, h, x, y, hx => by
    have e1 : n + 1 - (u :: a).length = n - a.length := by simp
    have e2 : n + 1 - (v :: b).length = n - b.length := by simp
    rw [e1, e2]
    unfold bcmp at h
    split at h
    · next hlt => exact Sep.here hlt _ _
    · split at h
      · cases h
      · next h1 h2 =>
        have huv : u = v := UInt8.toNat.inj (by omega)
        subst huv
        have := pad_sep n a b (by simpa using ha) (by simpa using hb) h x y (fun q => hx (by simpa using q))
        exact this.pre [u]
theorem bcmp_take : ∀ (n : Nat) (a b : List UInt8), bcmp a b = -1 → bcmp (a.take n) (b.take n) = -1 ∨ a.take n = b.take n ∧ bcmp (a.drop n) (b.drop n) = -1
  | 0, a, b, h => Or.inr ⟨by simp, by simpa using h⟩
  | n + 1, [], [], h => by cases h
  | n + 1, [], v :: b, h => Or.inl rfl
  | n + 1, u :: a, [], h => by cases h
  | n + 1, u :: a, v :: b, h => by
    unfold bcmp at h
    split at h
    · next hlt => exact Or.inl (by simp [bcmp, hlt])
    · split at h
      · cases h
      · next h1 h2 =>
        have huv : u = v := UInt8.toNat.inj (by omega)
        subst huv
        rcases bcmp_take n a b h with h3 | ⟨h3, h4⟩
        · exact Or.inl (by simp [bcmp, h3])
        · exact Or.inr ⟨by simp [h3], by simpa using h4⟩
def nin (t : List UInt8) : UInt8 := if t.length ≤ 8 then UInt8.ofNat t.length else 9
theorem nin_lt {a b : List UInt8} (h : (a.take 8).length < (b.take 8).length) : (nin a).toNat < (nin b).toNat := by
  simp at h
  unfold nin
  have ha : a.length ≤ 7 := by omega
  rw [if_pos (by omega)]
  split
  · simp; omega
  · simp; omega
theorem grp_head (t : List UInt8) : ∃ r, grp t = (t.take 8 ++ List.replicate (8 - (t.take 8).length) 0 ++ [nin t]) ++ r := by
  by_cases h : t.length ≤ 8
  · refine ⟨[], ?_⟩
    rw [grp_short h, List.take_of_length_le h]
    simp [nin, h]
  · refine ⟨grp (t.drop 8), ?_⟩
    rw [grp_long (by omega)]
    have : 8 - (t.take 8).length = 0 := by simp; omega
    rw [this]
    simp [nin, h]
theorem grp_sep : ∀ (k : Nat) (a b : List UInt8), a.length ≤ k → bcmp a b = -1 → Sep (grp a) (grp b) := by
  intro k
  induction k with
  | zero =>
    intro a b ha h
    have e1 : a = [] := List.eq_nil_of_length_eq_zero (by omega)
    subst e1
    obtain ⟨r, hr⟩ := grp_head ([] : List UInt8)
    obtain ⟨s, hs⟩ := grp_head b
    rw [hr, hs]
    refine Sep.app (pad_sep 8 _ _ (by simp) (by simp; omega) ?_ _ _ (fun q => nin_lt q)) _ _
    cases b with
    | nil => cases h
    | cons y s => rfl
  | succ k ih =>
    intro a b ha h
    rcases bcmp_take 8 a b h with h1 | ⟨h1, h2⟩
    · obtain ⟨r, hr⟩ := grp_head a
      obtain ⟨s, hs⟩ := grp_head b
      rw [hr, hs]
      exact Sep.app (pad_sep 8 _ _ (by simp; omega) (by simp; omega) h1 _ _ (fun q => nin_lt q)) _ _
    · have hl : (a.take 8).length = (b.take 8).length := by rw [h1]
      rw [List.length_take, List.length_take] at hl
      by_cases h8 : a.length ≤ 8
      · have : a.drop 8 = [] := List.drop_eq_nil_of_le h8
        rw [this] at h2
        have hb : 8 < b.length := by
          rcases Nat.lt_or_ge 8 b.length with q | q
          · exact q
          · rw [List.drop_eq_nil_of_le q] at h2; cases h2
        have ha8 : a.length = 8 := by omega
        rw [grp_short h8, grp_long hb, ← h1, List.take_of_length_le h8, ha8]
        simp
        exact (Sep.here (by decide) _ _).pre a
      · have hb : 8 < b.length := by
          rcases Nat.lt_or_ge 8 b.length with q | q
          · exact q
          · rw [List.drop_eq_nil_of_le q] at h2
            cases hd : a.drop 8 with
            | nil => rw [hd] at h2; cases h2
            | cons _ _ => rw [hd] at h2; cases h2
        rw [grp_long (by omega), grp_long hb, h1]
        have := ih (a.drop 8) (b.drop 8) (by rw [List.length_drop]; omega) h2
        have := (this.pre [9]).pre (b.take 8)
        simpa using this
theorem bek_sep : ∀ (k a b : Nat), b < 256 ^ k → a < b → Sep (bek k a) (bek k b)
  | 0, a, b, h, hl => by have : b = 0 := by simpa using h
                         omega
  | k + 1, a, b, h, hl => by
    rw [bek, bek]
    by_cases e : a / 256 < b / 256
    · exact (bek_sep k _ _ (by rw [Nat.pow_succ] at h; omega) e).app _ _
    · have e2 : a / 256 = b / 256 := by have := Nat.div_le_div_right (c := 256) (Nat.le_of_lt hl); omega
      rw [e2]
      refine (Sep.here ?_ _ _).pre _
      simp
      omega
theorem grp_order {a b : List UInt8} (h : bcmp a b = -1) : Sep (grp a) (grp b) := grp_sep _ a b (Nat.le_refl _) h
theorem Sep.irrefl {u : List UInt8} (h : Sep u u) : False := by
  have := (bcmp_sep h).1
  rw [bcmp_self] at this; cases this
theorem Sep.not_eq {u v r s : List UInt8} (h : Sep u v) (e : u ++ r = v ++ s) : False := by
  have := h.app r s
  rw [e] at this
  exact this.irrefl
theorem bcmp_cases (a b : List UInt8) : bcmp a b = -1 ∨ bcmp a b = 0 ∨ bcmp a b = 1 := by
  rcases tri a b with rfl | ⟨r, hr, rfl⟩ | ⟨r, hr, rfl⟩ | hs | hs
  · exact Or.inr (Or.inl (bcmp_self _))
  · exact Or.inl (bcmp_longer a hr).1
  · exact Or.inr (Or.inr (bcmp_longer b hr).2)
  · exact Or.inl (bcmp_sep hs).1
  · exact Or.inr (Or.inr (bcmp_sep hs).2)
theorem grp_inj {t u r s : List UInt8} (e : grp t ++ r = grp u ++ s) : t = u ∧ r = s := by
  rcases bcmp_cases t u with h | h | h
  · exact ((grp_order h).not_eq e).elim
  · have := bcmp_zero h
    subst this
    exact ⟨rfl, List.append_cancel_left e⟩
  · have h2 : bcmp u t = -1 := by rw [bcmp_neg, h]
    exact ((grp_order h2).not_eq e.symm).elim
def icmp (a b : Int) : Int := if a < b then -1 else if b < a then 1 else 0
theorem icmp_cases (a b : Int) : icmp a b = -1 ∧ a < b ∨ icmp a b = 0 ∧ a = b ∨ icmp a b = 1 ∧ b < a := by
  unfold icmp
  repeat' split
  · exact Or.inl ⟨rfl, by assumption⟩
  · exact Or.inr (Or.inr ⟨rfl, by assumption⟩)
  · exact Or.inr (Or.inl ⟨rfl, by omega⟩)
theorem icmp_neg (a b : Int) : icmp b a = - icmp a b := by
  unfold icmp
  repeat' split
  all_goals first | rfl | omega
def cmpP (p q : Pt) : Int := if icmp p.kind q.kind ≠ 0 then icmp p.kind q.kind else if bcmp p.text q.text ≠ 0 then bcmp p.text q.text else if p.kind = 3 then icmp q.n p.n else icmp p.n q.n
theorem cmpP_neg (p q : Pt) : cmpP q p = - cmpP p q := by
  unfold cmpP
  rw [icmp_neg p.kind q.kind, bcmp_neg p.text q.text]
  rcases icmp_cases p.kind q.kind with ⟨h, _⟩ | ⟨h, e⟩ | ⟨h, _⟩
  · rw [h]; simp
  · rw [h, e]
    rcases bcmp_cases p.text q.text with h2 | h2 | h2
    · rw [h2]; simp
    · rw [h2]; simp
      split
      · exact icmp_neg _ _
      · exact icmp_neg _ _
    · rw [h2]; simp
  · rw [h]; simp
theorem cmpP_zero {p q : Pt} (h : cmpP p q = 0) : p = q := by
  unfold cmpP at h
  split at h
  · next hk => exact absurd h hk
  · split at h
    · next ht => exact absurd h ht
    · next hk ht =>
      have hk' : p.kind = q.kind := by rcases icmp_cases p.kind q.kind with ⟨h, _⟩ | ⟨h, e⟩ | ⟨h, _⟩ <;> simp_all
      have ht' : p.text = q.text := bcmp_zero (by simpa using ht)
      have hn' : p.n = q.n := by
        split at h
        · rcases icmp_cases q.n p.n with ⟨h1, _⟩ | ⟨h1, e⟩ | ⟨h1, _⟩
          · omega
          · exact e.symm
          · omega
        · rcases icmp_cases p.n q.n with ⟨h1, _⟩ | ⟨h1, e⟩ | ⟨h1, _⟩
          · omega
          · exact e
          · omega
      exact Pt.ext' hk' ht' hn'
theorem cmpP_self (p : Pt) : cmpP p p = 0 := by
  have := cmpP_neg p p
  omega
theorem cmpP_cases (p q : Pt) : cmpP p q = -1 ∨ cmpP p q = 0 ∨ cmpP p q = 1 := by
  have a := icmp_cases p.kind q.kind
  have b := bcmp_cases p.text q.text
  have c := icmp_cases p.n q.n
  have d := icmp_cases q.n p.n
  unfold cmpP
  repeat' split
  all_goals omega
theorem ofKind {p : Pt} (h : p.ok) : p.kind = 1 ∨ p.kind = 2 ∨ p.kind = 3 := by rcases h.is with ⟨a, _⟩ | ⟨a | a, _⟩ <;> simp [a]
theorem ptx_head {p : Pt} (h : p.ok) : ∃ r, ptx p = UInt8.ofNat p.kind.toNat :: r := by
  unfold ptx
  split
  · next e => exact ⟨_, by rw [e]; rfl⟩
  · exact ⟨_, rfl⟩
theorem ptx_ne (p : Pt) : ptx p ≠ [] := by unfold ptx; split <;> simp
theorem ptx_sep {p q : Pt} (hp : p.ok) (hq : q.ok) (h : cmpP p q = -1) : Sep (ptx p) (ptx q) := by
  unfold cmpP at h
  split at h
  · next hk =>
    obtain ⟨r, hr⟩ := ptx_head hp
    obtain ⟨s, hs⟩ := ptx_head hq
    rw [hr, hs]
    have hlt : p.kind < q.kind := by rcases icmp_cases p.kind q.kind with ⟨h1, h2⟩ | ⟨h1, e⟩ | ⟨h1, _⟩ <;> omega
    have a := ofKind hp
    have b := ofKind hq
    refine Sep.here ?_ _ _
    rcases a with a | a | a <;> rcases b with b | b | b <;> first | omega | (rw [a, b]; decide)
  · next hk =>
    have hk' : p.kind = q.kind := by rcases icmp_cases p.kind q.kind with ⟨h, _⟩ | ⟨h, e⟩ | ⟨h, _⟩ <;> simp_all
    split at h
    · next ht =>
      have k1 : p.kind = 1 := by
        rcases hp.is with ⟨a, _⟩ | ⟨a, b⟩
        · exact a
        · rcases hq.is with ⟨c, _⟩ | ⟨c, d⟩
          · omega
          · rw [b, d] at ht; exact absurd (bcmp_self _) ht
      unfold ptx
      rw [if_pos k1, if_pos (by omega)]
      exact (grp_order h).pre [1]
    · next ht =>
      have k1 : ¬ p.kind = 1 := by
        intro k1
        have e1 : p.n = 0 := by rcases hp.is with ⟨a, b⟩ | ⟨a, b⟩ <;> omega
        have e2 : q.n = 0 := by rcases hq.is with ⟨a, b⟩ | ⟨a, b⟩ <;> omega
        rw [e1, e2, k1] at h
        exact absurd h (by decide)
      unfold ptx
      rw [if_neg k1, if_neg (by omega), ← hk']
      have a1 := hp.lo; have a2 := hp.hi; have b1 := hq.lo; have b2 := hq.hi
      refine (bek_sep 8 _ _ ?_ ?_).pre [_]
      · have e : (256 : Nat) ^ 8 = 18446744073709551616 := by decide
        rw [e]; unfold tv; split <;> omega
      · unfold tv
        split at h
        · next k3 =>
          rw [if_pos k3, if_pos k3]
          rcases icmp_cases q.n p.n with ⟨h1, h2⟩ | ⟨h1, e⟩ | ⟨h1, _⟩ <;> omega
        · next k3 =>
          rw [if_neg k3, if_neg k3]
          rcases icmp_cases p.n q.n with ⟨h1, h2⟩ | ⟨h1, e⟩ | ⟨h1, _⟩ <;> omega
theorem ptx_inj {p q : Pt} {r s : List UInt8} (hp : p.ok) (hq : q.ok) (e : ptx p ++ r = ptx q ++ s) : p = q ∧ r = s := by
  rcases cmpP_cases p q with h | h | h
  · exact ((ptx_sep hp hq h).not_eq e).elim
  · have := cmpP_zero h
    subst this
    exact ⟨rfl, List.append_cancel_left e⟩
  · have h2 : cmpP q p = -1 := by rw [cmpP_neg, h]
    exact ((ptx_sep hq hp h2).not_eq e.symm).elim
def cmpL : List Pt → List Pt → Int
  | [], [] => 0
  | [], _ :: _ => -1
  | _ :: _, [] => 1
  | p :: a, q :: b => if cmpP p q ≠ 0 then cmpP p q else cmpL a b
def okL (l : List Pt) : Prop := ∀ p ∈ l, p.ok
theorem okL.tail {p : Pt} {l : List Pt} (h : okL (p :: l)) : okL l := fun q hq => h q (List.mem_cons_of_mem _ hq)
theorem okL.head {p : Pt} {l : List Pt} (h : okL (p :: l)) : p.ok := h p List.mem_cons_self
theorem wt_ne {l : List Pt} (h : l ≠ []) : wt l ≠ [] := by
  cases l with
  | nil => exact absurd rfl h
  | cons p l => rw [wt_cons]; intro e; exact ptx_ne p (List.append_eq_nil_iff.1 e).1
/-- two lists: one is the other, or begins it, or their texts part -/
theorem triL : ∀ (a b : List Pt), okL a → okL b → (a = b ∧ cmpL a b = 0) ∨ (cmpL a b = -1 ∧ ∃ r, r ≠ [] ∧ b = a ++ r) ∨ (cmpL a b = 1 ∧ ∃ r, r ≠ [] ∧ a = b ++ r) ∨ (cmpL a b = -1 ∧ Sep (wt a) (wt b)) ∨ (cmpL a b = 1 ∧ Sep (wt b) (wt a))
  | [], [], _, _ => Or.inl ⟨rfl, rfl⟩
  | [], q :: b, _, _ => Or.inr (Or.inl ⟨rfl, q :: b, by simp, rfl⟩)
  | p :: a, [], _, _ => Or.inr (Or.inr (Or.inl ⟨rfl, p :: a, by simp, rfl⟩))
  | p :: a, q :: b, ha, hb => by
    rw [wt_cons, wt_cons]
    rcases cmpP_cases p q with h | h | h
    · exact Or.inr (Or.inr (Or.inr (Or.inl ⟨by simp [cmpL, h], (ptx_sep ha.head hb.head h).app _ _⟩)))
    · have e := cmpP_zero h
      subst e
      have hc : cmpL (p :: a) (p :: b) = cmpL a b := by simp [cmpL, h]
      rw [hc]
      rcases triL a b ha.tail hb.tail with ⟨rfl, h1⟩ | ⟨h1, r, hr, rfl⟩ | ⟨h1, r, hr, rfl⟩ | ⟨h1, hs⟩ | ⟨h1, hs⟩
      · exact Or.inl ⟨rfl, h1⟩
      · exact Or.inr (Or.inl ⟨h1, r, hr, rfl⟩)
      · exact Or.inr (Or.inr (Or.inl ⟨h1, r, hr, rfl⟩))
      · exact Or.inr (Or.inr (Or.inr (Or.inl ⟨h1, hs.pre _⟩)))
      · exact Or.inr (Or.inr (Or.inr (Or.inr ⟨h1, hs.pre _⟩)))
    · have h2 : cmpP q p = -1 := by rw [cmpP_neg, h]
      exact Or.inr (Or.inr (Or.inr (Or.inr ⟨by simp [cmpL, h], (ptx_sep hb.head ha.head h2).app _ _⟩)))
theorem bcmp_wt {a b : List Pt} (ha : okL a) (hb : okL b) : bcmp (wt a) (wt b) = cmpL a b := by
  rcases triL a b ha hb with ⟨rfl, h1⟩ | ⟨h1, r, hr, rfl⟩ | ⟨h1, r, hr, rfl⟩ | ⟨h1, hs⟩ | ⟨h1, hs⟩
  · rw [h1, bcmp_self]
  · rw [h1, wt_append]; exact (bcmp_longer _ (wt_ne hr)).1
  · rw [h1, wt_append]; exact (bcmp_longer _ (wt_ne hr)).2
  · rw [h1]; exact (bcmp_sep hs).1
  · rw [h1]; exact (bcmp_sep hs).2
theorem wt_inj {a b : List Pt} (ha : okL a) (hb : okL b) (e : wt a = wt b) : a = b := by
  rcases triL a b ha hb with ⟨rfl, h1⟩ | ⟨h1, r, hr, rfl⟩ | ⟨h1, r, hr, rfl⟩ | ⟨h1, hs⟩ | ⟨h1, hs⟩
  · rfl
  · rw [wt_append] at e
    exact absurd (List.append_right_eq_self.1 e.symm) (wt_ne hr)
  · rw [wt_append] at e
    exact absurd (List.append_right_eq_self.1 e) (wt_ne hr)
  · rw [e] at hs; exact hs.irrefl.elim
  · rw [e] at hs; exact hs.irrefl.elim
end Go.Proofs.Ytijkabnhedmimab
