/- Layer 22 without the model: words, numbers, texts in quotes, lines, commands. -/
import Derived.Test.YtiifkcnpdihlmaaDoorMath
import Derived.Lib.ParseIntBTie
import Derived.Lib.ItoaLen
import Derived.Lib.ItoaMem
import Derived.Lib.Strings
namespace Go.Proofs.YtiifkcnpdihlmaaDoor
set_option maxRecDepth 100000
set_option linter.unusedVariables false
set_option linter.unusedSimpArgs false
abbrev By := List UInt8
/-- how many bytes of a line stand ahead of its first blank outside of quotes -/
def wsz : Bool → By → Nat
  | _, [] => 0
  | q, c :: r =>
    if c = 92 then (match r with
      | [] => 1
      | _ :: r' => 2 + wsz q r')
    else if c = 34 then 1 + wsz (!q) r
    else if c = 32 ∧ q = false then 0
    else 1 + wsz q r
theorem wsz_le : ∀ (n : Nat) (q : Bool) (l : By), l.length ≤ n → wsz q l ≤ l.length
  | _, _, [], _ => by simp [wsz]
  | 0, _, _ :: _, h => by simp at h
  | n + 1, q, c :: r, h => by
    unfold wsz
    split
    · cases r with
      | nil => simp
      | cons d r' =>
        have := wsz_le n q r' (by simp at h; omega)
        simp only [List.length_cons]; omega
    · split
      · have := wsz_le n (!q) r (by simp at h; omega)
        simp only [List.length_cons]; omega
      · split
        · omega
        · have := wsz_le n q r (by simp at h; omega)
          simp only [List.length_cons]; omega
theorem wsz_le' (q : Bool) (l : By) : wsz q l ≤ l.length := wsz_le _ q l (Nat.le_refl _)
/-- the words of a line -/
def wdsF : Nat → By → List By
  | 0, l => [l]
  | n + 1, l => if wsz false l = l.length then [l] else l.take (wsz false l) :: wdsF n (l.drop (wsz false l + 1))
def wds (l : By) : List By := wdsF l.length l
theorem wdsMore : ∀ (n m : Nat) (l : By), l.length ≤ n → l.length ≤ m → wdsF n l = wdsF m l
  | 0, 0, _, _, _ => rfl
  | 0, m + 1, l, h, _ => by
    have : l = [] := List.eq_nil_of_length_eq_zero (by omega)
    subst this; simp [wdsF, wsz]
  | n + 1, 0, l, _, h => by
    have : l = [] := List.eq_nil_of_length_eq_zero (by omega)
    subst this; simp [wdsF, wsz]
  | n + 1, m + 1, l, h1, h2 => by
    unfold wdsF
    split
    · rfl
    · have := wsz_le' false l
      rw [wdsMore n m _ (by rw [List.length_drop]; omega) (by rw [List.length_drop]; omega)]
theorem wds_all {l : By} (h : wsz false l = l.length) : wds l = [l] := by
  unfold wds
  cases hn : l.length with
  | zero => rfl
  | succ n => unfold wdsF; rw [if_pos h]
theorem wds_cut {l : By} (h : wsz false l ≠ l.length) : wds l = l.take (wsz false l) :: wds (l.drop (wsz false l + 1)) := by
  have hle := wsz_le' false l
  conv => lhs; unfold wds
  cases hn : l.length with
  | zero => omega
  | succ n =>
    unfold wdsF
    rw [if_neg h]
    unfold wds
    rw [wdsMore n _ _ (by rw [List.length_drop]; omega) (Nat.le_refl _)]
theorem wds_ne (l : By) : wds l ≠ [] := by
  by_cases h : wsz false l = l.length
  · rw [wds_all h]; simp
  · rw [wds_cut h]; simp
/-- the number that a word is -/
def numO (w : By) : Option Int := match Lib.parseIntB 64 w with
  | .ok v => if Lib.itoa v = w then some v else none
  | _ => none
/-- a digit's value in base sixteen -/
def hxv (c : UInt8) : Option Nat := if 48 ≤ c ∧ c ≤ 57 then some (c.toNat - 48) else if 97 ≤ c ∧ c ≤ 102 then some (c.toNat - 87) else none
def hxd (n : Nat) : UInt8 := if n < 10 then UInt8.ofNat (48 + n) else UInt8.ofNat (87 + n)
/-- what stands in quotes, read -/
def decF : By → Option By
  | [] => some []
  | c :: r =>
    if c < 32 ∨ 126 < c ∨ c = 34 then none
    else if c ≠ 92 then (decF r).map (c :: ·)
    else match r with
      | [] => none
      | d :: r1 =>
        if d = 34 ∨ d = 92 then (decF r1).map (d :: ·)
        else match r1 with
          | h :: l :: r2 => if d = 120 ∧ (hxv h).isSome ∧ (hxv l).isSome then (decF r2).map (UInt8.ofNat (16 * (hxv h).getD 0 + (hxv l).getD 0) :: ·) else none
          | _ => none
/-- the text that a word is in quotes -/
def txtO (w : By) : Option By := if 2 ≤ w.length ∧ w.head? = some 34 ∧ w.getLast? = some 34 then decF (w.drop 1).dropLast else none
/-- a byte in quotes -/
def qb (c : UInt8) : By := if c = 34 ∨ c = 92 then [92, c] else if c < 32 ∨ 126 < c then [92, 120, hxd (c.toNat / 16), hxd (c.toNat % 16)] else [c]
def quo (s : By) : By := 34 :: (s.flatMap qb ++ [34])
/-- a step, a command -/
structure Sp where
  kind : Int
  bucket : By
  key : By
  data : By
  mt : List En
  seq : Int
  n : Int
  kept : List Int
structure Cm where
  kind : Int
  sectors : Int
  size : Int
  st : Sp
  bucket : By
def sp0 (k : Int) : Sp := ⟨k, [], [], [], [], 0, 0, []⟩
def cm0 (k s : Int) : Cm := ⟨k, 0, 0, sp0 s, []⟩
/-- the shape of a kind's line -/
structure Shp where
  name : By
  kind : Int
  step : Int
  parts : By
def shps : List Shp := [
  ⟨[119, 111, 114, 108, 100], 1, 0, [83, 90]⟩,
  ⟨[109, 97, 107, 101], 2, 1, [98]⟩,
  ⟨[100, 114, 111, 112], 2, 2, [98]⟩,
  ⟨[112, 117, 116], 2, 3, [98, 107, 100, 109]⟩,
  ⟨[100, 101, 108, 101, 116, 101], 2, 4, [98, 107]⟩,
  ⟨[114, 101, 109, 111, 118, 101], 2, 5, [98, 107, 113]⟩,
  ⟨[103, 101, 116], 2, 6, [98, 107]⟩,
  ⟨[118, 101, 114, 115, 105, 111, 110], 2, 7, [98, 107, 113]⟩,
  ⟨[108, 105, 115, 116], 2, 8, [98, 107, 110]⟩,
  ⟨[118, 101, 114, 115, 105, 111, 110, 115], 2, 9, [98, 107, 110]⟩,
  ⟨[110, 97, 109, 101, 115], 2, 10, []⟩,
  ⟨[101, 120, 112, 111, 114, 116], 2, 11, [98]⟩,
  ⟨[115, 105, 110, 99, 101], 2, 12, [98, 113]⟩,
  ⟨[105, 109, 112, 111, 114, 116], 2, 13, [98, 100]⟩,
  ⟨[97, 112, 112, 108, 121], 2, 14, [98, 100]⟩,
  ⟨[115, 104, 101, 108, 102], 2, 15, [98, 110]⟩,
  ⟨[112, 97, 116, 99, 104], 2, 16, [98, 110]⟩,
  ⟨[102, 97, 108, 108], 2, 17, [110]⟩,
  ⟨[99, 114, 97, 115, 104], 2, 18, [110, 99]⟩,
  ⟨[118, 97, 108, 117, 101], 3, 0, [66]⟩,
  ⟨[100, 105, 103, 101, 115, 116], 4, 0, []⟩,
  ⟨[117, 112], 5, 0, []⟩]
theorem shps_len : shps.length = 22 := rfl
def isOf (c : Cm) (s : Shp) : Bool := s.kind == c.kind && (s.kind != 2 || s.step == c.st.kind)
def shpNamed (w : By) : Option Shp := shps.find? (fun s => s.name == w)
def shpOf (c : Cm) : Option Shp := shps.find? (isOf c)
/-- a reader: the words that are left, and was one of them none -/
abbrev Rr := List By × Bool
def nxtW (ws : List By) : By := ws.headD []
def rnum (r : Rr) : Int × Rr := ((numO (nxtW r.1)).getD 0, (r.1.tail, r.2 || (numO (nxtW r.1)).isNone))
def rtxt (r : Rr) : By × Rr := ((txtO (nxtW r.1)).getD [], (r.1.tail, r.2 || (txtO (nxtW r.1)).isNone))
/-- pairs, to the last word -/
def mets : List By → Bool → List En × Bool
  | [], b => ([], b)
  | [a], b => ([⟨(txtO a).getD [], []⟩], true)
  | a :: c :: r, b => (⟨(txtO a).getD [], (txtO c).getD []⟩ :: (mets r (b || (txtO a).isNone || (txtO c).isNone)).1, (mets r (b || (txtO a).isNone || (txtO c).isNone)).2)
def kpts : List By → Bool → List Int × Bool
  | [], b => ([], b)
  | a :: r, b => ((numO a).getD 0 :: (kpts r (b || (numO a).isNone)).1, (kpts r (b || (numO a).isNone)).2)
/-- a part taken from a line's words -/
def rdp (x : Cm × Rr) (p : UInt8) : Cm × Rr :=
  if p = 83 then ({ x.1 with sectors := (rnum x.2).1 }, (rnum x.2).2)
  else if p = 90 then ({ x.1 with size := (rnum x.2).1 }, (rnum x.2).2)
  else if p = 66 then ({ x.1 with bucket := (rtxt x.2).1 }, (rtxt x.2).2)
  else if p = 98 then ({ x.1 with st := { x.1.st with bucket := (rtxt x.2).1 } }, (rtxt x.2).2)
  else if p = 107 then ({ x.1 with st := { x.1.st with key := (rtxt x.2).1 } }, (rtxt x.2).2)
  else if p = 100 then ({ x.1 with st := { x.1.st with data := (rtxt x.2).1 } }, (rtxt x.2).2)
  else if p = 113 then ({ x.1 with st := { x.1.st with seq := (rnum x.2).1 } }, (rnum x.2).2)
  else if p = 110 then ({ x.1 with st := { x.1.st with n := (rnum x.2).1 } }, (rnum x.2).2)
  else if p = 109 then ({ x.1 with st := { x.1.st with mt := x.1.st.mt ++ (mets x.2.1 x.2.2).1 } }, ([], (mets x.2.1 x.2.2).2))
  else if p = 99 then ({ x.1 with st := { x.1.st with kept := x.1.st.kept ++ (kpts x.2.1 x.2.2).1 } }, ([], (kpts x.2.1 x.2.2).2))
  else x
/-- what is read of a line whose shape is known -/
def rdAll (s : Shp) (ws : List By) : Cm × Rr := s.parts.foldl rdp (cm0 s.kind s.step, (ws, false))
/-- the command that a line says -/
def plF (line : By) : Option Cm := match shpNamed (nxtW (wds line)) with
  | none => none
  | some s => if (rdAll s (wds line).tail).2.2 = true ∨ (rdAll s (wds line).tail).2.1 ≠ [] then none else some (rdAll s (wds line).tail).1
/-- the lines of a text, without what ends them -/
def lnl : By → List By
  | [] => []
  | c :: r => if c = 10 then [] :: lnl r else match lnl r with
    | [] => [[c]]
    | l :: ls => (c :: l) :: ls
def says0 (l : By) : Bool := l == [] || l.head? == some 35
def isLongF (t : By) : Bool := decide (65536 < t.length) || (lnl t).any (fun l => decide (8192 < l.length)) || decide (1024 < (lnl t).length)
def cmds : List By → Option (List Cm)
  | [] => some []
  | l :: ls => if says0 l = true then cmds ls else match plF l with
    | none => none
    | some c => (cmds ls).map (c :: ·)
/-- Parse -/
def prsE (t : By) : Int := if isLongF t = true then 3 else if (cmds (lnl t)).isNone then 110 else 0
def prsL (t : By) : List Cm := if isLongF t = true then [] else (cmds (lnl t)).getD []
/-- a word of a line: a number, a text -/
inductive Wd where
  | n (i : Int)
  | t (s : By)
def wtx : Wd → By
  | .n i => Lib.itoa i
  | .t s => quo s
def cutW : Wd → Wd
  | .n i => .n i
  | .t s => .t (s.take 8192)
/-- the words of a part -/
def pw (c : Cm) (p : UInt8) : List Wd :=
  if p = 83 then [.n c.sectors]
  else if p = 90 then [.n c.size]
  else if p = 66 then [.t c.bucket]
  else if p = 98 then [.t c.st.bucket]
  else if p = 107 then [.t c.st.key]
  else if p = 100 then [.t c.st.data]
  else if p = 113 then [.n c.st.seq]
  else if p = 110 then [.n c.st.n]
  else if p = 109 then c.st.mt.flatMap (fun e => [.t e.key, .t e.val])
  else if p = 99 then c.st.kept.map .n
  else []
def jn (ws : List By) : By := ws.flatMap (32 :: ·)
def pws (s : Shp) (c : Cm) : List Wd := s.parts.flatMap (pw c)
/-- a command's line, without its end -/
def lineF (s : Shp) (c : Cm) : By := s.name ++ jn ((pws s c).map wtx)
/-- a line under way, cut where it is too long -/
def wcut (ln : By) (d : Wd) : By := if 8192 < ln.length then ln else ln ++ 32 :: wtx (cutW d)
def lineP (s : Shp) (c : Cm) : By := (pws s c).foldl wcut s.name
end Go.Proofs.YtiifkcnpdihlmaaDoor
