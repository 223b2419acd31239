import Derived.Test.YtgbkloihclbimaaDoorMath
import Derived.Lib.ParseIntBTie
import Derived.Lib.ItoaLen
import Derived.Lib.ItoaMem
import Derived.Lib.Strings
/- Layer 22 without the model: words, numbers, texts in quotes, lines, commands. -/
namespace Go.Proofs.YtgbkloihclbimaaDoor
set_option maxRecDepth 100000
set_option linter.unusedVariables false
set_option linter.unusedSimpArgs false
abbrev By := List UInt8
/-- how many bytes of a line stand ahead of its first blank outside of quotes -/
def wsz : Bool → By → Nat
  | _, [] => 0
  | q, c :: r =>
    if c = 92 then (match r with
      | [] => 1
      | _ :: r' => 2 + wsz q r')
    else if c = 34 then 1 + wsz (!q) r
    else if c = 32 ∧ q = false then 0
    else 1 + wsz q r
theorem wsz_le : ∀ (n : Nat) (q : Bool) (l : By), l.length ≤ n → wsz q l ≤ l.length
  | _, _, [], _ => by simp [wsz]
  | 0, _, _ :: _, h => by simp at h
  | n + 1, q, c :: r, h => by
    unfold wsz
    split
    · cases r with
      | nil => simp
      | cons d r' =>
        have := wsz_le n q r' (by simp at h; omega)
        simp only [List.length_cons]; omega
    · split
      · have := wsz_le n (!q) r (by simp at h; omega)
        simp only [List.length_cons]; omega
      · split
        · omega
        · have := wsz_le n q r (by simp at h; omega)
          simp only [List.length_cons]; omega
theorem wsz_le' (q : Bool) (l : By) : wsz q l ≤ l.length := wsz_le _ q l (Nat.le_refl _)
/-- the words of a line -/
def wdsF : Nat → By → List By
  | 0, l => [l]
  | n + 1, l => if wsz false l = l.length then [l] else l.take (wsz false l) :: wdsF n (l.drop (wsz false l + 1))
def wds (l : By) : List By := wdsF l.length l
theorem wdsMore : ∀ (n m : Nat) (l : By), l.length ≤ n → l.length ≤ m → wdsF n l = wdsF m l
  | 0, 0, _, _, _ => rfl
  | 0, m + 1, l, h, _ => by
    have : l = [] := List.eq_nil_of_length_eq_zero (by omega)
    subst this; simp [wdsF, wsz]
  | n + 1, 0, l, _, h => by
    have : l = [] := List.eq_nil_of_length_eq_zero (by omega)
    subst this; simp [wdsF, wsz]
  | n + 1, m + 1, l, h1, h2 => by
    unfold wdsF
    split
    · rfl
    · have := wsz_le' false l
      rw [wdsMore n m _ (by rw [List.length_drop]; omega) (by rw [List.length_drop]; omega)]
theorem wds_all {l : By} (h : wsz false l = l.length) : wds l = [l] := by
  unfold wds
  cases hn : l.length with
  | zero => rfl
  | succ n => unfold wdsF; rw [if_pos h]
theorem wds_cut {l : By} (h : wsz false l ≠ l.length) : wds l = l.take (wsz false l) :: wds (l.drop (wsz false l + 1)) := by
  have hle := wsz_le' false l
  conv => lhs; unfold wds
  cases hn : l.length with
  | zero => omega
  | succ n =>
    unfold wdsF
    rw [if_neg h]
    unfold wds
    rw [wdsMore n _ _ (by rw [List.length_drop]; omega) (Nat.le_refl _)]
theorem wds_ne (l : By) : wds l ≠ [] := by
  by_cases h : wsz false l = l.length
  · rw [wds_all h]; simp
  · rw [wds_cut h]; simp
/-- the number that a word is -/
def numO (w : By) : Option Int := match Lib.parseIntB 64 w with
  | .ok v => if Lib.itoa v = w then some v else none
  | _ => none
/-- a digit's value in base sixteen -/
def hxv (c : UInt8) : Option Nat := if 48 ≤ c ∧ c ≤ 57 then some (c.toNat - 48) else if 97 ≤ c ∧ c ≤ 102 then some (c.toNat - 87) else none
def hxd (n : Nat) : UInt8 := if n < 10 then UInt8.ofNat (48 + n) else UInt8.ofNat (87 + n)
/-- what stands in quotes, read -/
def decF : By → Option By
  | [] => some []
  | c :: r =>
    if c < 32 ∨ 126 < c ∨ c = 34 then none
    else if c ≠ 92 then (decF r).map (c :: ·)
    else match r with
      | [] => none
      | d :: r1 =>
        if d = 34 ∨ d = 92 then (decF r1).map (d :: ·)
        else match r1 with
          | h :: l :: r2 => if d = 120 ∧ (hxv h).isSome ∧ (hxv l).isSome then (decF r2).map (UInt8.ofNat (16 * (hxv h).getD 0 + (hxv l).getD 0) :: ·) else none
          | _ => none
/-- the text that a word is in quotes -/
def txtO (w : By) : Option By := if 2 ≤ w.length ∧ w.head? = some 34 ∧ w.getLast? = some 34 then decF (w.drop 1).dropLast else none
/-- a byte in quotes -/
def qb (c : UInt8) : By := if c = 34 ∨ c = 92 then [92, c] else if c < 32 ∨ 126 < c then [92, 120, hxd (c.toNat / 16), hxd (c.toNat % 16)] else [c]
def quo (s : By) : By := 34 :: (s.flatMap qb ++ [34])
/-- a step, a command -/
structure Sp where
  kind : Int
  bucket : By
  key : By
  data : By
  mt : List En
  seq : Int
  n : Int
  kept : List Int
structure Cm where
  kind : Int
  sectors : Int
  size : Int
  st : Sp
  bucket : By
def sp0 (k : Int) : Sp := ⟨k, [], [], [], [], 0, 0, []⟩
def cm0 (k s : Int) : Cm := ⟨k, 0, 0, sp0 s, []⟩
/-- the shape of a kind's line -/
structure Shp where
  name : By
  kind : Int
  step : Int
  parts : By
def shps : List Shp := [
  ⟨[119, 111, 114, 108, 100], 1, 0, [83, 90]⟩,
  ⟨[109, 97, 107, 101], 2, 1, [98]⟩,
  ⟨[100, 114, 111, 112], 2, 2, [98]⟩,
  ⟨[112, 117, 116], 2, 3, [98, 107, 100, 109]⟩,
  ⟨[100, 101, 108, 101, 116, 101], 2, 4, [98, 107]⟩,
  ⟨[114, 101, 109, 111, 118, 101], 2, 5, [98, 107, 113]⟩,
  ⟨[103, 101, 116], 2, 6, [98, 107]⟩,
  ⟨[118, 101, 114, 115, 105, 111, 110], 2, 7, [98, 107, 113]⟩,
  ⟨[108, 105, 115, 116], 2, 8, [98, 107, 110]⟩,
  ⟨[118, 101, 114, 115, 105, 111, 110, 115], 2, 9, [98, 107, 110]⟩,
  ⟨[110, 97, 109, 101, 115], 2, 10, []⟩,
  ⟨[101, 120, 112, 111, 114, 116], 2, 11, [98]⟩,
  ⟨[115, 105, 110, 99, 101], 2, 12, [98, 113]⟩,
  ⟨[105, 109, 112, 111, 114, 116], 2, 13, [98, 100]⟩,
  ⟨[97, 112, 112, 108, 121], 2, 14, [98, 100]⟩,
  ⟨[115, 104, 101, 108, 102], 2, 15, [98, 110]⟩,
  ⟨[112, 97, 116, 99, 104], 2, 16, [98, 110]⟩,
  ⟨[102, 97, 108, 108], 2, 17, [110]⟩,
  ⟨[99, 114, 97, 115, 104], 2, 18, [110, 99]⟩,
  ⟨[118, 97, 108, 117, 101], 3, 0, [66]⟩,
  ⟨[100, 105, 103, 101, 115, 116], 4, 0, []⟩,
  ⟨[117, 112], 5, 0, []⟩]
theorem shps_len : shps.length = 22 := rfl
def isOf (c : Cm) (s : Shp) : Bool := s.kind == c.kind && (s.kind != 2 || s.step == c.st.kind)
def shpNamed (w : By) : Option Shp := shps.find? (fun s => s.name == w)
def shpOf (c : Cm) : Option Shp := shps.find? (isOf c)
/-- a reader: the words that are left, and was one of them none -/
abbrev Rr := List By × Bool
def nxtW (ws : List By) : By := ws.headD []
def rnum (r : Rr) : Int × Rr := ((numO (nxtW r.1)).getD 0, (r.1.tail, r.2 || (numO (nxtW r.1)).isNone))
def rtxt (r : Rr) : By × Rr := ((txtO (nxtW r.1)).getD [], (r.1.tail, r.2 || (txtO (nxtW r.1)).isNone))
/-- pairs, to the last word -/
def mets : List By → Bool → List En × Bool
  | [], b => ([], b)
  | [a], b => ([⟨(txtO a).getD [], []⟩], true)
  | a :: c :: r, b => (⟨(txtO a).getD [], (txtO c).getD []⟩ :: (mets r (b || (txtO a).isNone || (txtO c).isNone)).1, (mets r (b || (txtO a).isNone || (txtO c).isNone)).2)
def kpts : List By → Bool → List Int × Bool
  | [], b => ([], b)
  | a :: r, b => ((numO a).getD 0 :: (kpts r (b || (numO a).isNone)).1, (kpts r (b || (numO a).isNone)).2)
/-- a part taken from a line's words -/
def rdp (x : Cm × Rr) (p : UInt8) : Cm × Rr :=
  if p = 83 then ({ x.1 with sectors := (rnum x.2).1 }, (rnum x.2).2)
  else if p = 90 then ({ x.1 with size := (rnum x.2).1 }, (rnum x.2).2)
  else if p = 66 then ({ x.1 with bucket := (rtxt x.2).1 }, (rtxt x.2).2)
  else if p = 98 then ({ x.1 with st := { x.1.st with bucket := (rtxt x.2).1 } }, (rtxt x.2).2)
  else if p = 107 then ({ x.1 with st := { x.1.st with key := (rtxt x.2).1 } }, (rtxt x.2).2)
  else if p = 100 then ({ x.1 with st := { x.1.st with data := (rtxt x.2).1 } }, (rtxt x.2).2)
  else if p = 113 then ({ x.1 with st := { x.1.st with seq := (rnum x.2).1 } }, (rnum x.2).2)
  else if p = 110 then ({ x.1 with st := { x.1.st with n := (rnum x.2).1 } }, (rnum x.2).2)
  else if p = 109 then ({ x.1 with st := { x.1.st with mt := x.1.st.mt ++ (mets x.2.1 x.2.2).1 } }, ([], (mets x.2.1 x.2.2).2))
  else if p = 99 then ({ x.1 with st := { x.1.st with kept := x.1.st.kept ++ (kpts x.2.1 x.2.2).1 } }, ([], (kpts x.2.1 x.2.2).2))
  else x
/-- what is read of a line whose shape is known -/
def rdAll (s : Shp) (ws : List By) : Cm × Rr := s.parts.foldl rdp (cm0 s.kind s.step, (ws, false))
/-- the command that a line says -/
def plF (line : By) : Option Cm := match shpNamed (nxtW (wds line)) with
  | none => none
  | some s => if (rdAll s (wds line).tail).2.2 = true ∨ (rdAll s (wds line).tail).2.1 ≠ [] then none else some (rdAll s (wds line).tail).1
/-- the lines of a text, without what ends them -/
def lnl : By → List By
  | [] => []
  | c :: r => if c = 10 then [] :: lnl r else match lnl r with
    | [] => [[c]]
    | l :: ls => (c :: l) :: ls
def says0 (l : By) : Bool := l == [] || l.head? == some 35
def isLongF (t : By) : Bool := decide (65536 < t.length) || (lnl t).any (fun l => decide (8192 < l.length)) || decide (1024 < (lnl t).length)
def cmds : List By → Option (List Cm)
  | [] => some []
  | l :: ls => if says0 l = true then cmds ls else match plF l with
    | none => none
    | some c => (cmds ls).map (c :: ·)
/-- Parse -/
def prsE (t : By) : Int := if isLongF t = true then 3 else if (cmds (lnl t)).isNone then 110 else 0
def prsL (t : By) : List Cm := if isLongF t = true then [] else (cmds (lnl t)).getD []
/-- a word of a line: a number, a text -/
inductive Wd where
  | n (i : Int)
  | t (s : By)
def wtx : Wd → By
  | .n i => Lib.itoa i
  | .t s => quo s
def cutW : Wd → Wd
  | .n i => .n i
  | .t s => .t (s.take 8192)
/-- the words of a part -/
def pw (c : Cm) (p : UInt8) : List Wd :=
  if p = 83 then [.n c.sectors]
  else if p = 90 then [.n c.size]
  else if p = 66 then [.t c.bucket]
  else if p = 98 then [.t c.st.bucket]
  else if p = 107 then [.t c.st.key]
  else if p = 100 then [.t c.st.data]
  else if p = 113 then [.n c.st.seq]
  else if p = 110 then [.n c.st.n]
  else if p = 109 then c.st.mt.flatMap (fun e => [.t e.key, .t e.val])
  else if p = 99 then c.st.kept.map .n
  else []
def jn (ws : List By) : By := ws.flatMap (32 :: ·)
def pws (s : Shp) (c : Cm) : List Wd := s.parts.flatMap (pw c)
/-- a command's line, without its end -/
def lineF (s : Shp) (c : Cm) : By := s.name ++ jn ((pws s c).map wtx)
/-- a line under way, cut where it is too long -/
def wcut (ln : By) (d : Wd) : By := if 8192 < ln.length then ln else ln ++ 32 :: wtx (cutW d)
def lineP (s : Shp) (c : Cm) : By := (pws s c).foldl wcut s.name
end Go.Proofs.YtgbkloihclbimaaDoor

/- Layer 22 without the model: what is printed is read. -/
namespace Go.Proofs.YtgbkloihclbimaaDoor
set_option maxRecDepth 100000
set_option linter.unusedVariables false
set_option linter.unusedSimpArgs false
open Go.Lib (decDigits parseUintM parseUintB parseIntB)
/-- digits -/
def isDg (c : UInt8) : Prop := 48 ≤ c.toNat ∧ c.toNat ≤ 57
theorem dd_small {u : Nat} (h : u < 10) : decDigits u = [UInt8.ofNat (48 + u)] := Lib.decDigits_one h
theorem dd_big {u : Nat} (h : ¬ u < 10) : decDigits u = decDigits (u / 10) ++ [UInt8.ofNat (48 + u % 10)] := by
  conv => lhs; rw [decDigits, dif_neg h]
theorem u8n {n : Nat} (h : n < 256) : (UInt8.ofNat n).toNat = n := by simp [UInt8.toNat_ofNat', Nat.mod_eq_of_lt h]
theorem dd_dig : ∀ (n u : Nat), u ≤ n → ∀ c ∈ decDigits u, isDg c
  | n, u, h, c, hc => by
    by_cases hu : u < 10
    · rw [dd_small hu] at hc
      rw [List.mem_singleton] at hc
      subst hc
      unfold isDg
      rw [u8n (by omega)]; omega
    · rw [dd_big hu] at hc
      rcases List.mem_append.1 hc with q | q
      · cases n with
        | zero => omega
        | succ n => exact dd_dig n (u / 10) (by omega) c q
      · rw [List.mem_singleton] at q
        subst q
        unfold isDg
        rw [u8n (by omega)]; omega
theorem dd_ne (u : Nat) : decDigits u ≠ [] := by
  by_cases hu : u < 10
  · rw [dd_small hu]; simp
  · rw [dd_big hu]; simp
def fv (l : By) (a : Nat) : Nat := l.foldl (fun n c => n * 10 + (c.toNat - 48)) a
theorem dd_val : ∀ (n u : Nat), u ≤ n → fv (decDigits u) 0 = u
  | n, u, h => by
    by_cases hu : u < 10
    · rw [dd_small hu]
      simp only [fv, List.foldl_cons, List.foldl_nil]
      rw [u8n (by omega)]; omega
    · rw [dd_big hu]
      cases n with
      | zero => omega
      | succ n =>
        have := dd_val n (u / 10) (by omega)
        unfold fv at this ⊢
        rw [List.foldl_append, this]
        simp only [List.foldl_cons, List.foldl_nil]
        rw [u8n (by omega)]; omega
theorem fv_ge : ∀ (l : By) (a : Nat), a ≤ fv l a
  | [], a => Nat.le_refl _
  | c :: l, a => by
    have := fv_ge l (a * 10 + (c.toNat - 48))
    unfold fv at this ⊢
    rw [List.foldl_cons]; omega
theorem pumM (M : Nat) (hM : M ≤ 18446744073709551615) : ∀ (l : By) (a : Nat), (∀ c ∈ l, isDg c) → fv l a ≤ M → parseUintM M a l = .ok (fv l a)
  | [], a, _, _ => rfl
  | c :: l, a, hd, hl => by
    have hc := hd c (by simp)
    have hge := fv_ge l (a * 10 + (c.toNat - 48))
    unfold fv at hl hge ⊢
    rw [List.foldl_cons] at hl ⊢
    unfold isDg at hc
    unfold parseUintM
    rw [if_pos hc, if_neg (by omega), if_neg (by omega)]
    exact pumM M hM l _ (fun x hx => hd x (by simp [hx])) hl
theorem pub_dd (u : Nat) (h : u ≤ 18446744073709551615) : parseUintB 64 (decDigits u) = .ok u := by
  unfold parseUintB
  rw [if_neg (dd_ne u), pumM _ (by decide) _ _ (dd_dig u u (Nat.le_refl _)) (by rw [dd_val u u (Nat.le_refl _)]; exact h), dd_val u u (Nat.le_refl _)]
theorem pib_itoa {n : Int} (h0 : -9223372036854775808 ≤ n) (h1 : n ≤ 9223372036854775807) : parseIntB 64 (Lib.itoa n) = .ok n := by
  have hp : (2 : Nat) ^ (64 - 1) = 9223372036854775808 := by decide
  unfold Lib.itoa
  split
  · rename_i hn
    have hu := pub_dd n.natAbs (by omega)
    unfold parseIntB
    simp only
    rw [if_pos (.inr rfl), hu]
    simp only
    rw [if_neg (by simp), if_neg (by rintro ⟨_, q⟩; omega), if_pos (by rfl)]
    congr 1
    omega
  · have hu := pub_dd n.toNat (by omega)
    have hdg := dd_dig n.toNat n.toNat (Nat.le_refl _)
    cases hl : decDigits n.toNat with
    | nil => exact absurd hl (dd_ne _)
    | cons c r =>
      rw [hl] at hu hdg
      have hc := hdg c (by simp)
      unfold isDg at hc
      unfold parseIntB
      simp only
      rw [if_neg (by omega), hu]
      simp only
      rw [if_neg (by rintro ⟨_, q⟩; omega), if_neg (by rintro ⟨q, _⟩; omega), if_neg (by omega)]
      congr 1
      omega
theorem numO_itoa {n : Int} (h0 : -9223372036854775808 ≤ n) (h1 : n ≤ 9223372036854775807) : numO (Lib.itoa n) = some n := by
  unfold numO
  rw [pib_itoa h0 h1]
  simp
theorem numO_some {w : By} {n : Int} (h : numO w = some n) : w = Lib.itoa n ∧ -9223372036854775808 ≤ n ∧ n ≤ 9223372036854775807 := by
  unfold numO at h
  cases hp : parseIntB 64 w with
  | ok v =>
    rw [hp] at h
    simp only at h
    split at h
    · rename_i hi
      injection h with h
      subst h
      have hb := Lib.parseIntB_bounds hp
      have hp : (2 : Nat) ^ (64 - 1) = 9223372036854775808 := by decide
      exact ⟨hi.symm, by omega, by omega⟩
    · simp at h
  | «syntax» => rw [hp] at h; simp at h
  | range => rw [hp] at h; simp at h
theorem itoa_mem {n : Int} {c : UInt8} (h : c ∈ Lib.itoa n) : c = 45 ∨ isDg c := by
  unfold Lib.itoa at h
  split at h
  · rcases List.mem_cons.1 h with q | q
    · exact .inl q
    · exact .inr (dd_dig _ _ (Nat.le_refl _) c q)
  · exact .inr (dd_dig _ _ (Nat.le_refl _) c h)
theorem itoa_ne (n : Int) : Lib.itoa n ≠ [] := by
  unfold Lib.itoa
  split
  · simp
  · exact dd_ne _
/-- bytes of a word that stands without quotes -/
def plainB (c : UInt8) : Prop := c ≠ 92 ∧ c ≠ 34 ∧ c ≠ 32 ∧ c ≠ 10
theorem itoa_plain {n : Int} {c : UInt8} (h : c ∈ Lib.itoa n) : plainB c := by
  unfold plainB
  rcases itoa_mem h with rfl | q
  · decide
  · unfold isDg at q
    refine ⟨?_, ?_, ?_, ?_⟩ <;> (intro e; subst e; revert q; decide)
/-- a word that is taken as one, whatever follows its blank -/
def Cl (w : By) : Prop := wsz false w = w.length ∧ ∀ r, wsz false (w ++ 32 :: r) = w.length
theorem wsz_plain : ∀ (w : By) (q : Bool) (r : By), (∀ c ∈ w, plainB c) → wsz q (w ++ r) = w.length + wsz q r
  | [], q, r, _ => by simp
  | c :: w, q, r, h => by
    obtain ⟨h1, h2, h3, _⟩ := h c (by simp)
    have ih := wsz_plain w q r (fun x hx => h x (by simp [hx]))
    rw [List.cons_append]
    conv => lhs; unfold wsz
    rw [if_neg h1, if_neg h2, if_neg (fun q => h3 q.1), ih, List.length_cons]; omega
theorem wsz_nil (q : Bool) : wsz q [] = 0 := by cases q <;> rfl
theorem wsz_blank (r : By) : wsz false (32 :: r) = 0 := by
  unfold wsz
  rw [if_neg (by decide), if_neg (by decide), if_pos ⟨rfl, rfl⟩]
theorem cl_plain {w : By} (h : ∀ c ∈ w, plainB c) : Cl w := by
  refine ⟨?_, fun r => ?_⟩
  · have := wsz_plain w false [] h
    rw [List.append_nil, wsz_nil] at this; exact this
  · rw [wsz_plain w false _ h, wsz_blank]; rfl
theorem wsz_q1 {c : UInt8} (r : By) (h1 : c ≠ 92) (h2 : c ≠ 34) : wsz true (c :: r) = 1 + wsz true r := by
  conv => lhs; unfold wsz
  rw [if_neg h1, if_neg h2, if_neg (fun q => Bool.noConfusion q.2)]
theorem wsz_esc (q : Bool) (d : UInt8) (r : By) : wsz q (92 :: d :: r) = 2 + wsz q r := by
  conv => lhs; unfold wsz
  rw [if_pos rfl]
theorem hxd_dg {n : Nat} (h : n < 16) : hxd n ≠ 92 ∧ hxd n ≠ 34 ∧ hxd n ≠ 10 ∧ hxd n ≠ 32 ∧ hxv (hxd n) = some n := by
  have : ∀ m : Fin 16, hxd m.val ≠ 92 ∧ hxd m.val ≠ 34 ∧ hxd m.val ≠ 10 ∧ hxd m.val ≠ 32 ∧ hxv (hxd m.val) = some m.val := by decide +kernel
  exact this ⟨n, h⟩
theorem wsz_qb (c : UInt8) (r : By) : wsz true (qb c ++ r) = (qb c).length + wsz true r := by
  have hc : c.toNat < 256 := c.toNat_lt
  unfold qb
  split
  · exact wsz_esc true c r
  · rename_i h1
    split
    · show wsz true (92 :: 120 :: _ :: _ :: r) = _
      have a := hxd_dg (n := c.toNat / 16) (by omega)
      have b := hxd_dg (n := c.toNat % 16) (by omega)
      rw [wsz_esc, wsz_q1 _ a.1 a.2.1, wsz_q1 _ b.1 b.2.1]
      show _ = 4 + _
      omega
    · exact wsz_q1 r (fun q => h1 (.inr q)) (fun q => h1 (.inl q))
theorem wsz_qbs : ∀ (s r : By), wsz true (s.flatMap qb ++ r) = (s.flatMap qb).length + wsz true r
  | [], r => by simp
  | c :: s, r => by
    rw [List.flatMap_cons, List.append_assoc, wsz_qb, wsz_qbs s r, List.length_append]; omega
theorem wsz_quo (s r : By) : wsz false (quo s ++ r) = (quo s).length + wsz false r := by
  unfold quo
  rw [List.cons_append]
  conv => lhs; unfold wsz
  rw [if_neg (by decide), if_pos rfl, List.append_assoc]
  show 1 + wsz true _ = _
  rw [wsz_qbs, List.cons_append, List.nil_append]
  have : wsz true (34 :: r) = 1 + wsz false r := by
    conv => lhs; unfold wsz
    rw [if_neg (by decide), if_pos rfl]; rfl
  rw [this]
  simp only [List.length_cons, List.length_append, List.length_nil]; omega
theorem cl_quo (s : By) : Cl (quo s) := by
  refine ⟨?_, fun r => ?_⟩
  · have := wsz_quo s []
    rw [List.append_nil, wsz_nil] at this; exact this
  · rw [wsz_quo, wsz_blank]; rfl
theorem cl_wtx (d : Wd) : Cl (wtx d) := by
  cases d with
  | n i => exact cl_plain fun c hc => itoa_plain hc
  | t s => exact cl_quo s
theorem wds_jn : ∀ (ws : List By) (w : By), Cl w → (∀ x ∈ ws, Cl x) → wds (w ++ jn ws) = w :: ws
  | [], w, h, _ => by
    simp only [jn, List.flatMap_nil, List.append_nil]
    exact wds_all h.1
  | x :: ws, w, h, hs => by
    have e : w ++ jn (x :: ws) = w ++ 32 :: (x ++ jn ws) := by simp [jn]
    rw [e]
    have h2 := h.2 (x ++ jn ws)
    rw [wds_cut (by rw [h2]; simp), h2]
    have h3 := wds_jn ws x (hs x (by simp)) (fun y hy => hs y (by simp [hy]))
    rw [List.take_left' rfl, List.drop_append, List.drop_of_length_le (by omega), show w.length + 1 - w.length = 1 by omega]
    simp only [List.nil_append, List.drop_succ_cons, List.drop_zero]
    rw [h3]
/-- what is in quotes is read -/
theorem dec_qb (c : UInt8) (r : By) : decF (qb c ++ r) = (decF r).map (c :: ·) := by
  have hc : c.toNat < 256 := c.toNat_lt
  unfold qb
  split
  · rename_i h
    show decF (92 :: c :: r) = _
    conv => lhs; unfold decF
    rw [if_neg (by decide), if_neg (by decide)]
    simp only
    rw [if_pos h]
  · rename_i h1
    split
    · show decF (92 :: 120 :: _ :: _ :: r) = _
      have a := hxd_dg (n := c.toNat / 16) (by omega)
      have b := hxd_dg (n := c.toNat % 16) (by omega)
      conv => lhs; unfold decF
      rw [if_neg (by decide), if_neg (by decide)]
      simp only
      rw [if_neg (by decide), if_pos ⟨trivial, by rw [a.2.2.2.2]; rfl, by rw [b.2.2.2.2]; rfl⟩, a.2.2.2.2, b.2.2.2.2]
      simp only [Option.getD_some]
      rw [show 16 * (c.toNat / 16) + c.toNat % 16 = c.toNat by omega]
      simp
    · rename_i h2
      show decF (c :: r) = _
      conv => lhs; unfold decF
      rw [if_neg (by rintro (q | q | q); exact h2 (.inl q); exact h2 (.inr q); exact h1 (.inl q)), if_pos (fun q => h1 (.inr q))]
theorem dec_qbs : ∀ (s : By), decF (s.flatMap qb) = some s
  | [] => rfl
  | c :: s => by rw [List.flatMap_cons, dec_qb, dec_qbs s]; rfl
theorem txtO_of {m : By} : txtO (34 :: (m ++ [34])) = decF m := by
  unfold txtO
  rw [if_pos ⟨by simp, by simp, by rw [← List.cons_append, List.getLast?_append]; simp⟩]
  simp
theorem txtO_quo (s : By) : txtO (quo s) = some s := by
  unfold quo
  rw [txtO_of, dec_qbs]
end Go.Proofs.YtgbkloihclbimaaDoor

/- Layer 22 without the model: lines and texts, there and back. -/
namespace Go.Proofs.YtgbkloihclbimaaDoor
set_option maxRecDepth 100000
set_option linter.unusedVariables false
set_option linter.unusedSimpArgs false
/-- numbers in range -/
def In64 (n : Int) : Prop := -9223372036854775808 ≤ n ∧ n ≤ 9223372036854775807
structure OkC (c : Cm) : Prop where
  k : In64 c.kind
  a : In64 c.sectors
  b : In64 c.size
  sk : In64 c.st.kind
  q : In64 c.st.seq
  n : In64 c.st.n
  kp : ∀ x ∈ c.st.kept, In64 x
/-- a part of one command put into another -/
def setP (c : Cm) (x : Cm) (p : UInt8) : Cm :=
  if p = 83 then { x with sectors := c.sectors }
  else if p = 90 then { x with size := c.size }
  else if p = 66 then { x with bucket := c.bucket }
  else if p = 98 then { x with st := { x.st with bucket := c.st.bucket } }
  else if p = 107 then { x with st := { x.st with key := c.st.key } }
  else if p = 100 then { x with st := { x.st with data := c.st.data } }
  else if p = 113 then { x with st := { x.st with seq := c.st.seq } }
  else if p = 110 then { x with st := { x.st with n := c.st.n } }
  else if p = 109 then { x with st := { x.st with mt := x.st.mt ++ c.st.mt } }
  else if p = 99 then { x with st := { x.st with kept := x.st.kept ++ c.st.kept } }
  else x
/-- what a kind names of a command, all else zero -/
def clr (s : Shp) (c : Cm) : Cm := s.parts.foldl (setP c) (cm0 s.kind s.step)
theorem mets_back : ∀ (l : List En) (b : Bool), mets ((l.flatMap (fun e => [Wd.t e.key, Wd.t e.val])).map wtx) b = (l, b)
  | [], b => rfl
  | e :: l, b => by
    have ih := mets_back l b
    simp only [List.flatMap_cons, List.cons_append, List.nil_append, List.map_cons, wtx] at ih ⊢
    unfold mets
    rw [txtO_quo, txtO_quo]
    simp only [Option.isNone_some, Bool.or_false, Option.getD_some]
    rw [ih]
theorem kpts_back : ∀ (l : List Int) (b : Bool), (∀ x ∈ l, In64 x) → kpts ((l.map Wd.n).map wtx) b = (l, b)
  | [], b, _ => rfl
  | x :: l, b, h => by
    have hx := h x (by simp)
    have ih := kpts_back l b (fun y hy => h y (by simp [hy]))
    simp only [List.map_cons, wtx] at ih ⊢
    unfold kpts
    rw [numO_itoa hx.1 hx.2]
    simp only [Option.isNone_some, Bool.or_false, Option.getD_some]
    rw [ih]
theorem rnum_back {n : Int} (h : In64 n) (ws : List By) (b : Bool) : rnum (Lib.itoa n :: ws, b) = (n, (ws, b)) := by
  unfold rnum nxtW
  simp only [List.headD_cons, List.tail_cons]
  rw [numO_itoa h.1 h.2]
  simp
theorem rtxt_back (s : By) (ws : List By) (b : Bool) : rtxt (quo s :: ws, b) = (s, (ws, b)) := by
  unfold rtxt nxtW
  simp only [List.headD_cons, List.tail_cons]
  rw [txtO_quo]
  simp
/-- one part: those that take all that is left want nothing behind them -/
theorem rdp_back {c : Cm} (ok : OkC c) (x : Cm) (p : UInt8) (ws : List By) (b : Bool) (h : (p = 109 ∨ p = 99) → ws = []) : rdp (x, ((pw c p).map wtx ++ ws, b)) p = (setP c x p, (ws, b)) := by
  by_cases e83 : p = 83
  · subst e83
    have q := rnum_back ok.a ws b
    have r : (pw c 83).map wtx ++ ws = Lib.itoa c.sectors :: ws := rfl
    have z : ∀ y, rdp (x, y) 83 = ({ x with sectors := (rnum y).1 }, (rnum y).2) := fun _ => rfl
    rw [r, z, q]; rfl
  by_cases e90 : p = 90
  · subst e90
    have q := rnum_back ok.b ws b
    have r : (pw c 90).map wtx ++ ws = Lib.itoa c.size :: ws := rfl
    have z : ∀ y, rdp (x, y) 90 = ({ x with size := (rnum y).1 }, (rnum y).2) := fun _ => rfl
    rw [r, z, q]; rfl
  by_cases e66 : p = 66
  · subst e66
    have q := rtxt_back c.bucket ws b
    have r : (pw c 66).map wtx ++ ws = quo c.bucket :: ws := rfl
    have z : ∀ y, rdp (x, y) 66 = ({ x with bucket := (rtxt y).1 }, (rtxt y).2) := fun _ => rfl
    rw [r, z, q]; rfl
  by_cases e98 : p = 98
  · subst e98
    have q := rtxt_back c.st.bucket ws b
    have r : (pw c 98).map wtx ++ ws = quo c.st.bucket :: ws := rfl
    have z : ∀ y, rdp (x, y) 98 = ({ x with st := { x.st with bucket := (rtxt y).1 } }, (rtxt y).2) := fun _ => rfl
    rw [r, z, q]; rfl
  by_cases e107 : p = 107
  · subst e107
    have q := rtxt_back c.st.key ws b
    have r : (pw c 107).map wtx ++ ws = quo c.st.key :: ws := rfl
    have z : ∀ y, rdp (x, y) 107 = ({ x with st := { x.st with key := (rtxt y).1 } }, (rtxt y).2) := fun _ => rfl
    rw [r, z, q]; rfl
  by_cases e100 : p = 100
  · subst e100
    have q := rtxt_back c.st.data ws b
    have r : (pw c 100).map wtx ++ ws = quo c.st.data :: ws := rfl
    have z : ∀ y, rdp (x, y) 100 = ({ x with st := { x.st with data := (rtxt y).1 } }, (rtxt y).2) := fun _ => rfl
    rw [r, z, q]; rfl
  by_cases e113 : p = 113
  · subst e113
    have q := rnum_back ok.q ws b
    have r : (pw c 113).map wtx ++ ws = Lib.itoa c.st.seq :: ws := rfl
    have z : ∀ y, rdp (x, y) 113 = ({ x with st := { x.st with seq := (rnum y).1 } }, (rnum y).2) := fun _ => rfl
    rw [r, z, q]; rfl
  by_cases e110 : p = 110
  · subst e110
    have q := rnum_back ok.n ws b
    have r : (pw c 110).map wtx ++ ws = Lib.itoa c.st.n :: ws := rfl
    have z : ∀ y, rdp (x, y) 110 = ({ x with st := { x.st with n := (rnum y).1 } }, (rnum y).2) := fun _ => rfl
    rw [r, z, q]; rfl
  by_cases e109 : p = 109
  · subst e109
    rw [h (.inl rfl), List.append_nil]
    have q := mets_back c.st.mt b
    have z : ∀ y : Rr, rdp (x, y) 109 = ({ x with st := { x.st with mt := x.st.mt ++ (mets y.1 y.2).1 } }, ([], (mets y.1 y.2).2)) := fun _ => rfl
    have r : (pw c 109).map wtx = (c.st.mt.flatMap (fun e => [Wd.t e.key, Wd.t e.val])).map wtx := rfl
    rw [r, z, q]; rfl
  by_cases e99 : p = 99
  · subst e99
    rw [h (.inr rfl), List.append_nil]
    have q := kpts_back c.st.kept b ok.kp
    have z : ∀ y : Rr, rdp (x, y) 99 = ({ x with st := { x.st with kept := x.st.kept ++ (kpts y.1 y.2).1 } }, ([], (kpts y.1 y.2).2)) := fun _ => rfl
    have r : (pw c 99).map wtx = (c.st.kept.map Wd.n).map wtx := rfl
    rw [r, z, q]; rfl
  unfold rdp pw setP
  rw [if_neg e83, if_neg e90, if_neg e66, if_neg e98, if_neg e107, if_neg e100, if_neg e113, if_neg e110, if_neg e109, if_neg e99]
  rw [if_neg e83, if_neg e90, if_neg e66, if_neg e98, if_neg e107, if_neg e100, if_neg e113, if_neg e110, if_neg e109, if_neg e99]
  rw [if_neg e83, if_neg e90, if_neg e66, if_neg e98, if_neg e107, if_neg e100, if_neg e113, if_neg e110, if_neg e109, if_neg e99]
  rfl
/-- parts of which the last alone may take all that is left -/
def okParts : By → Bool
  | [] => true
  | p :: ps => ((p != 109 && p != 99) || ps == []) && okParts ps
theorem shps_ok : ∀ s ∈ shps, okParts s.parts = true ∧ (∀ c ∈ s.name, plainB c) ∧ s.name ≠ [] ∧ s.name.head? ≠ some 35 := by
  unfold plainB
  decide +kernel
theorem rds_back {c : Cm} (ok : OkC c) : ∀ (ps : By) (x : Cm) (b : Bool), okParts ps = true → ps.foldl rdp (x, ((ps.flatMap (pw c)).map wtx, b)) = (ps.foldl (setP c) x, ([], b))
  | [], x, b, _ => rfl
  | p :: ps, x, b, h => by
    unfold okParts at h
    rw [Bool.and_eq_true] at h
    rw [List.foldl_cons, List.foldl_cons, List.flatMap_cons, List.map_append, rdp_back ok x p _ b (fun hp => ?_)]
    · exact rds_back ok ps _ b h.2
    · have h1 := h.1
      rcases hp with rfl | rfl
      · simp at h1; subst h1; rfl
      · simp at h1; subst h1; rfl
theorem rdAll_back {c : Cm} (ok : OkC c) {s : Shp} (hs : s ∈ shps) : rdAll s ((pws s c).map wtx) = (clr s c, ([], false)) := rds_back ok s.parts _ false (shps_ok s hs).1
theorem shps_names : ∀ s ∈ shps, shpNamed s.name = some s := by
  intro s hs
  have : ∀ i : Fin 22, (shps.findIdx (fun s => s.name == (shps[i.val]'(by have := i.isLt; rw [shps_len]; exact this)).name)) = i.val := by decide +kernel
  obtain ⟨i, hi, rfl⟩ := List.getElem_of_mem hs
  have h := this ⟨i, by rw [shps_len] at hi; exact hi⟩
  simp only at h
  unfold shpNamed
  have hf := List.findIdx_getElem (w := by rw [h]; exact hi) (p := fun s => s.name == shps[i].name) (xs := shps)
  rw [List.find?_eq_some_iff_getElem]
  refine ⟨by simp, i, hi, rfl, fun j hj => ?_⟩
  have := List.not_of_lt_findIdx (p := fun s => s.name == shps[i].name) (xs := shps) (i := j) (by rw [h]; exact hj)
  simpa using this
theorem line_words {s : Shp} (hs : s ∈ shps) (c : Cm) : wds (lineF s c) = s.name :: (pws s c).map wtx := by
  unfold lineF
  refine wds_jn _ _ (cl_plain (shps_ok s hs).2.1) (fun x hx => ?_)
  obtain ⟨d, _, rfl⟩ := List.mem_map.1 hx
  exact cl_wtx d
/-- a command's line is read as the command, cleared -/
theorem pl_back {c : Cm} (ok : OkC c) {s : Shp} (hs : s ∈ shps) : plF (lineF s c) = some (clr s c) := by
  unfold plF
  rw [line_words hs]
  simp only [nxtW, List.headD_cons, List.tail_cons]
  rw [shps_names s hs]
  simp [rdAll_back ok hs]
/-- no byte 10 stands in a line -/
theorem qb_no10 (c : UInt8) : (10 : UInt8) ∉ qb c := by
  have hc : c.toNat < 256 := c.toNat_lt
  unfold qb
  split
  · rename_i h
    intro q
    simp at q
    subst q
    revert h; decide
  · split
    · have a := hxd_dg (n := c.toNat / 16) (by omega)
      have b := hxd_dg (n := c.toNat % 16) (by omega)
      intro q
      simp at q
      rcases q with q | q
      · exact a.2.2.1 q.symm
      · exact b.2.2.1 q.symm
    · rename_i h
      intro q
      simp at q
      subst q
      exact h (.inl (by decide))
theorem quo_no10 (s : By) : (10 : UInt8) ∉ quo s := by
  unfold quo
  intro h
  rcases List.mem_cons.1 h with q | q
  · revert q; decide
  · rcases List.mem_append.1 q with q | q
    · obtain ⟨c, _, hc⟩ := List.mem_flatMap.1 q
      exact qb_no10 c hc
    · simp at q
theorem wtx_no10 (d : Wd) : (10 : UInt8) ∉ wtx d := by
  cases d with
  | n i => exact fun h => (itoa_plain h).2.2.2 rfl
  | t s => exact quo_no10 s
theorem jn_no10 (ws : List By) (h : ∀ w ∈ ws, (10 : UInt8) ∉ w) : (10 : UInt8) ∉ jn ws := by
  unfold jn
  intro q
  obtain ⟨w, hw, hc⟩ := List.mem_flatMap.1 q
  rcases List.mem_cons.1 hc with e | e
  · revert e; decide
  · exact h w hw e
theorem line_no10 {s : Shp} (hs : s ∈ shps) (c : Cm) : (10 : UInt8) ∉ lineF s c := by
  unfold lineF
  intro q
  rcases List.mem_append.1 q with e | e
  · exact ((shps_ok s hs).2.1 _ e).2.2.2 rfl
  · refine jn_no10 _ (fun w hw => ?_) e
    obtain ⟨d, _, rfl⟩ := List.mem_map.1 hw
    exact wtx_no10 d
theorem lnl_cons : ∀ (a t : By), (10 : UInt8) ∉ a → lnl (a ++ 10 :: t) = a :: lnl t
  | [], t, _ => by simp [lnl]
  | c :: a, t, h => by
    have hc : c ≠ 10 := fun e => h (by simp [e])
    have ih := lnl_cons a t (fun q => h (by simp [q]))
    rw [List.cons_append]
    conv => lhs; unfold lnl
    rw [if_neg hc, ih]
theorem lnl_last : ∀ (a : By), (10 : UInt8) ∉ a → a ≠ [] → lnl a = [a]
  | [], _, h => absurd rfl h
  | c :: a, h, _ => by
    have hc : c ≠ 10 := fun e => h (by simp [e])
    conv => lhs; unfold lnl
    rw [if_neg hc]
    cases a with
    | nil => rfl
    | cons d a => rw [lnl_last (d :: a) (fun q => h (by simp at q ⊢; exact .inr q)) (by simp)]
/-- the text of commands whose shapes are known -/
def txtF (l : List (Shp × Cm)) : By := l.flatMap (fun x => lineF x.1 x.2 ++ [10])
theorem lnl_txt : ∀ (l : List (Shp × Cm)), (∀ x ∈ l, x.1 ∈ shps) → lnl (txtF l) = l.map (fun x => lineF x.1 x.2)
  | [], _ => rfl
  | x :: l, h => by
    have ih := lnl_txt l (fun y hy => h y (by simp [hy]))
    unfold txtF at ih ⊢
    rw [List.flatMap_cons, List.append_assoc, List.singleton_append, lnl_cons _ _ (line_no10 (h x (by simp)) x.2), ih]
    rfl
theorem line_says {s : Shp} (hs : s ∈ shps) (c : Cm) : says0 (lineF s c) = false := by
  obtain ⟨_, _, h1, h2⟩ := shps_ok s hs
  unfold says0 lineF
  cases hn : s.name with
  | nil => exact absurd hn h1
  | cons x r =>
    rw [hn] at h2
    simp at h2
    simp [h2]
theorem cmds_back : ∀ (l : List (Shp × Cm)), (∀ x ∈ l, x.1 ∈ shps ∧ OkC x.2) → cmds (l.map (fun x => lineF x.1 x.2)) = some (l.map (fun x => clr x.1 x.2))
  | [], _ => rfl
  | x :: l, h => by
    have hx := h x (by simp)
    have ih := cmds_back l (fun y hy => h y (by simp [hy]))
    rw [List.map_cons]
    unfold cmds
    rw [line_says hx.1, if_neg (by decide), pl_back hx.2 hx.1]
    simp only
    rw [ih]
    rfl
/-- there and back -/
theorem prs_back (l : List (Shp × Cm)) (h : ∀ x ∈ l, x.1 ∈ shps ∧ OkC x.2) (hl : isLongF (txtF l) = false) : prsE (txtF l) = 0 ∧ prsL (txtF l) = l.map (fun x => clr x.1 x.2) := by
  unfold prsE prsL
  rw [hl, lnl_txt l (fun x hx => (h x hx).1), cmds_back l h]
  simp
end Go.Proofs.YtgbkloihclbimaaDoor

/- Layer 22 without the model: lines that are cut, and what Print tells is read. -/
namespace Go.Proofs.YtgbkloihclbimaaDoor
set_option maxRecDepth 100000
set_option linter.unusedVariables false
set_option linter.unusedSimpArgs false
def wfull (ln : By) (d : Wd) : By := ln ++ 32 :: wtx d
theorem fulls_eq : ∀ (ds : List Wd) (ln : By), ds.foldl wfull ln = ln ++ jn (ds.map wtx)
  | [], ln => by simp [jn]
  | d :: ds, ln => by
    rw [List.foldl_cons, fulls_eq ds]
    simp [wfull, jn]
theorem full_mono : ∀ (ds : List Wd) (ln : By), ln.length ≤ (ds.foldl wfull ln).length
  | [], ln => Nat.le_refl _
  | d :: ds, ln => by
    have := full_mono ds (wfull ln d)
    rw [List.foldl_cons]
    have h : ln.length ≤ (wfull ln d).length := by unfold wfull; rw [List.length_append]; omega
    omega
theorem qb_pos (c : UInt8) : 1 ≤ (qb c).length := by
  unfold qb
  split
  · simp
  · split <;> simp
theorem quo_ge (s : By) : s.length + 2 ≤ (quo s).length := by
  unfold quo
  have : ∀ s : By, s.length ≤ (s.flatMap qb).length := by
    intro s
    induction s with
    | nil => simp
    | cons c s ih =>
      rw [List.flatMap_cons, List.length_append, List.length_cons]
      have := qb_pos c
      omega
  have := this s
  simp only [List.length_cons, List.length_append, List.length_nil]; omega
theorem cutW_same {d : Wd} (h : (wtx d).length ≤ 8192) : cutW d = d := by
  cases d with
  | n i => rfl
  | t s =>
    have := quo_ge s
    simp only [wtx] at h
    simp only [cutW]
    rw [List.take_of_length_le (by omega)]
theorem cut_eq : ∀ (ds : List Wd) (ln : By), (ds.foldl wfull ln).length ≤ 8192 → ds.foldl wcut ln = ds.foldl wfull ln
  | [], ln, _ => rfl
  | d :: ds, ln, h => by
    rw [List.foldl_cons] at h
    have h1 := full_mono ds (wfull ln d)
    have h2 : (wfull ln d).length = ln.length + (wtx d).length + 1 := by unfold wfull; rw [List.length_append, List.length_cons]; omega
    have e : wcut ln d = wfull ln d := by
      unfold wcut wfull
      rw [if_neg (by omega), cutW_same (by omega)]
    rw [List.foldl_cons, List.foldl_cons, e]
    exact cut_eq ds _ h
theorem cut_stay : ∀ (ds : List Wd) (ln : By), 8192 < ln.length → ds.foldl wcut ln = ln
  | [], ln, _ => rfl
  | d :: ds, ln, h => by
    have e : wcut ln d = ln := by unfold wcut; rw [if_pos h]
    rw [List.foldl_cons, e]
    exact cut_stay ds ln h
theorem cut_long : ∀ (ds : List Wd) (ln : By), 8192 < (ds.foldl wfull ln).length → 8192 < (ds.foldl wcut ln).length
  | [], ln, h => h
  | d :: ds, ln, h => by
    by_cases hl : 8192 < ln.length
    · rw [cut_stay _ _ hl]; exact hl
    rw [List.foldl_cons] at h ⊢
    by_cases hd : cutW d = d
    · have e : wcut ln d = wfull ln d := by unfold wcut wfull; rw [if_neg hl, hd]
      rw [e]
      exact cut_long ds _ h
    · have hb : 8192 < (wcut ln d).length := by
        unfold wcut
        rw [if_neg hl, List.length_append, List.length_cons]
        cases d with
        | n i => exact absurd rfl hd
        | t s =>
          have hs : 8192 < s.length := Nat.lt_of_not_le fun q => hd (by simp only [cutW]; rw [List.take_of_length_le q])
          have := quo_ge (s.take 8192)
          rw [List.length_take] at this
          simp only [cutW, wtx]
          omega
      rw [cut_stay _ _ hb]; exact hb
theorem lineP_eq {s : Shp} {c : Cm} (h : (lineF s c).length ≤ 8192) : lineP s c = lineF s c := by
  unfold lineP lineF at *
  rw [← fulls_eq] at h ⊢
  exact cut_eq _ _ h
theorem lineP_long {s : Shp} {c : Cm} (h : 8192 < (lineF s c).length) : 8192 < (lineP s c).length := by
  unfold lineP lineF at *
  rw [← fulls_eq] at h
  exact cut_long _ _ h
theorem cuts_no10 : ∀ (ds : List Wd) (ln : By), (10 : UInt8) ∉ ln → (10 : UInt8) ∉ ds.foldl wcut ln
  | [], ln, h => h
  | d :: ds, ln, h => by
    rw [List.foldl_cons]
    refine cuts_no10 ds _ ?_
    unfold wcut
    split
    · exact h
    · intro q
      rcases List.mem_append.1 q with e | e
      · exact h e
      · rcases List.mem_cons.1 e with e | e
        · revert e; decide
        · exact wtx_no10 _ e
theorem lineP_no10 {s : Shp} (hs : s ∈ shps) (c : Cm) : (10 : UInt8) ∉ lineP s c := cuts_no10 _ _ (fun e => ((shps_ok s hs).2.1 _ e).2.2.2 rfl)
/-- lines laid one behind the other -/
theorem lnl_flat : ∀ (ls : List By), (∀ l ∈ ls, (10 : UInt8) ∉ l) → lnl (ls.flatMap (· ++ [10])) = ls
  | [], _ => rfl
  | l :: ls, h => by
    rw [List.flatMap_cons, List.append_assoc, List.singleton_append, lnl_cons _ _ (h l (by simp)), lnl_flat ls (fun x hx => h x (by simp [hx]))]
def shD (c : Cm) : Shp := (shpOf c).getD ⟨[], 0, 0, []⟩
def txP (L : List Cm) : By := L.flatMap (fun c => lineP (shD c) c ++ [10])
def noSh (L : List Cm) : Bool := L.any (fun c => (shpOf c).isNone)
def prE (L : List Cm) : Int := if noSh L = true then 110 else if isLongF (txP L) = true then 3 else 0
def prT (L : List Cm) : By := if noSh L = true then [] else if isLongF (txP L) = true then [] else txP L
/-- the document's text -/
def txF (L : List Cm) : By := txtF (L.map fun c => (shD c, c))
theorem sh_mem {L : List Cm} (h : noSh L = false) : ∀ c ∈ L, shD c ∈ shps := by
  intro c hc
  unfold noSh at h
  have := List.any_eq_false.1 h c hc
  unfold shD
  cases hq : shpOf c with
  | none => rw [hq] at this; simp at this
  | some s => exact List.mem_of_find?_eq_some hq
theorem isLong_lines (t : By) (ls : List By) (h : lnl t = ls) : isLongF t = (decide (65536 < t.length) || ls.any (fun l => decide (8192 < l.length)) || decide (1024 < ls.length)) := by
  unfold isLongF; rw [h]
theorem txFlines {L : List Cm} (h : noSh L = false) : lnl (txF L) = L.map (fun c => lineF (shD c) c) := by
  unfold txF
  rw [lnl_txt _ (fun x hx => by obtain ⟨c, hc, rfl⟩ := List.mem_map.1 hx; exact sh_mem h c hc), List.map_map]
  rfl
theorem txP_lines {L : List Cm} (h : noSh L = false) : lnl (txP L) = L.map (fun c => lineP (shD c) c) := by
  have e : txP L = (L.map (fun c => lineP (shD c) c)).flatMap (· ++ [10]) := by unfold txP; rw [List.flatMap_map]
  rw [e, lnl_flat _ (fun l hl => by obtain ⟨c, hc, rfl⟩ := List.mem_map.1 hl; exact lineP_no10 (sh_mem h c hc) c)]
/-- what is cut is too long, and what isn't is whole -/
theorem txt_same {L : List Cm} (h : noSh L = false) : isLongF (txP L) = isLongF (txF L) ∧ (isLongF (txF L) = false → txP L = txF L) := by
  by_cases hl : ∃ c ∈ L, 8192 < (lineF (shD c) c).length
  · obtain ⟨c, hc, hlen⟩ := hl
    have a : isLongF (txP L) = true := by
      have q : (L.map (fun c => lineP (shD c) c)).any (fun l => decide (8192 < l.length)) = true := List.any_eq_true.2 ⟨lineP (shD c) c, List.mem_map.2 ⟨c, hc, rfl⟩, decide_eq_true (lineP_long hlen)⟩
      rw [isLong_lines _ _ (txP_lines h), q]; simp
    have b : isLongF (txF L) = true := by
      have q : (L.map (fun c => lineF (shD c) c)).any (fun l => decide (8192 < l.length)) = true := List.any_eq_true.2 ⟨lineF (shD c) c, List.mem_map.2 ⟨c, hc, rfl⟩, decide_eq_true hlen⟩
      rw [isLong_lines _ _ (txFlines h), q]; simp
    exact ⟨by rw [a, b], fun q => by rw [b] at q; cases q⟩
  · have e : txP L = txF L := by
      unfold txP txF txtF
      rw [List.flatMap_map]
      have : ∀ M : List Cm, (∀ c ∈ M, c ∈ L) → M.flatMap (fun c => lineP (shD c) c ++ [10]) = M.flatMap (fun c => lineF (shD c) c ++ [10]) := by
        intro M
        induction M with
        | nil => intro _; rfl
        | cons c M ih =>
          intro hM
          rw [List.flatMap_cons, List.flatMap_cons, ih (fun x hx => hM x (by simp [hx])), lineP_eq (Nat.le_of_not_lt fun q => hl ⟨c, hM c (by simp), q⟩)]
      exact this L (fun c hc => hc)
    exact ⟨by rw [e], fun _ => e⟩
/-- what Print tells Parse reads as the same commands, cleared -/
theorem print_back {L : List Cm} (ok : ∀ c ∈ L, OkC c) (h : prE L = 0) : prsE (prT L) = 0 ∧ prsL (prT L) = L.map (fun c => clr (shD c) c) ∧ prT L = txF L := by
  unfold prE at h
  cases hn : noSh L with
  | true => rw [hn] at h; simp at h
  | false =>
    rw [hn, if_neg (by decide)] at h
    cases hl : isLongF (txP L) with
    | true => rw [hl] at h; simp at h
    | false =>
      have ht := txt_same hn
      rw [hl] at ht
      have e := ht.2 ht.1.symm
      have hp : prT L = txF L := by unfold prT; rw [hn, if_neg (by decide), hl, if_neg (by decide), e]
      have hb := prs_back (L.map fun c => (shD c, c)) (fun x hx => by obtain ⟨c, hc, rfl⟩ := List.mem_map.1 hx; exact ⟨sh_mem hn c hc, ok c hc⟩) ht.1.symm
      rw [hp]
      refine ⟨hb.1, ?_, rfl⟩
      have := hb.2
      rw [List.map_map] at this
      exact this
end Go.Proofs.YtgbkloihclbimaaDoor
