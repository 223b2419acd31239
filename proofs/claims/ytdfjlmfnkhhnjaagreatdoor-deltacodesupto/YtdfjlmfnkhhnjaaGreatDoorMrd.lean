/- What a manifest's reader tells of a text, as functions; of a manifest's own text it is that manifest. No model. -/
import Derived.Test.YtdfjlmfnkhhnjaaGreatDoorMx
import Derived.Lib.ParseIntB
namespace Go.Proofs.YtdfjlmfnkhhnjaaGreatDoor
set_option maxRecDepth 100000
set_option linter.unusedVariables false
set_option linter.unusedSimpArgs false
open Go.Lib (decDigits parseUintM parseUintB parseIntB intSat)
open Go.Proofs.YtdfjlmfnkhhnjaaGreatDoorP (recd Rd key nn LEN)
open Go.Proofs.YtdfjlmfnkhhnjaaGreatDoorH (hexL pv okL pz)
noncomputable def rdF (b : List UInt8) (p : Nat) : Option (Kv × Nat) := by
  classical
  exact if h : ∃ q : Kv, Rd (b.drop p) q.1 q.2 then some (Classical.choose h, p + LEN (nn (Classical.choose h).1 (Classical.choose h).2)) else none
theorem rdFsome {b : List UInt8} {p : Nat} {k v : List UInt8} (h : Rd (b.drop p) k v) : rdF b p = some ((k, v), p + LEN (nn k v)) := by
  have hx : ∃ q : Kv, Rd (b.drop p) q.1 q.2 := ⟨(k, v), h⟩
  have hc := Classical.choose_spec hx
  obtain ⟨e1, e2⟩ := hc.uniq h
  unfold rdF
  rw [dif_pos hx, e1, e2, show Classical.choose hx = (k, v) from Prod.ext e1 e2]
theorem rdFnone {b : List UInt8} {p : Nat} (h : ∀ k v, ¬ Rd (b.drop p) k v) : rdF b p = none := by
  unfold rdF
  rw [dif_neg]
  rintro ⟨q, hq⟩
  exact h _ _ hq
theorem rdFat {b : List UInt8} {p n : Nat} {q : Kv} (h : rdF b p = some (q, n)) : Rd (b.drop p) q.1 q.2 ∧ n = p + LEN (nn q.1 q.2) ∧ p < n ∧ n ≤ b.length := by
  unfold rdF at h
  split at h
  · rename_i hx
    have hc := Classical.choose_spec hx
    injection h with h
    injection h with h1 h2
    subst h1
    refine ⟨hc, h2.symm, ?_, ?_⟩
    · have := Go.Proofs.YtdfjlmfnkhhnjaaGreatDoorP.LEN_pos (nn (Classical.choose hx).1 (Classical.choose hx).2); omega
    · obtain ⟨r, hr⟩ := hc.pre
      have h3 := congrArg List.length hr
      rw [List.length_append, Go.Proofs.YtdfjlmfnkhhnjaaGreatDoorP.recd_length, List.length_drop] at h3
      have := Go.Proofs.YtdfjlmfnkhhnjaaGreatDoorP.LEN_pos (nn (Classical.choose hx).1 (Classical.choose hx).2)
      omega
  · cases h
structure Pos (b : List UInt8) (p : Nat) (R : List Kv) (r : List UInt8) : Prop where
  le : p ≤ b.length
  at' : b.drop p = txt R ++ r
  ok : Kvs R
theorem Pos.rd {b : List UInt8} {p : Nat} {q : Kv} {R : List Kv} {r : List UInt8} (h : Pos b p (q :: R) r) : rdF b p = some (q, p + (recd q.1 q.2).length) := by
  have := txt_rd h.ok r
  rw [← h.at'] at this
  rw [rdFsome this, Go.Proofs.YtdfjlmfnkhhnjaaGreatDoorP.recd_length]
theorem Pos.next {b : List UInt8} {p : Nat} {q : Kv} {R : List Kv} {r : List UInt8} (h : Pos b p (q :: R) r) : Pos b (p + (recd q.1 q.2).length) R r := by
  have h1 := h.at'
  rw [txt_cons, List.append_assoc] at h1
  have h2 := congrArg List.length h1
  rw [List.length_drop, List.length_append] at h2
  refine ⟨?_, ?_, h.ok.tail⟩
  · have := h.le
    rcases Nat.lt_or_ge b.length (p + (recd q.1 q.2).length) with z | z
    · omega
    · exact z
  · rw [← List.drop_drop, h1, List.drop_left]
theorem Pos.last {b : List UInt8} {p : Nat} {r : List UInt8} (h : Pos b p [] r) : p = b.length - r.length ∧ r.length ≤ b.length := by
  have h1 := congrArg List.length h.at'
  have h2 := h.le
  rw [List.length_drop] at h1
  simp [txt] at h1
  omega
abbrev Rs := Nat × Bool
noncomputable def valF (b k : List UInt8) (s : Rs) : List UInt8 × Rs :=
  if s.2 = true then ([], s) else match rdF b s.1 with
  | some (q, n) => if q.1 = k then (q.2, (n, false)) else ([], (s.1, true))
  | none => ([], (s.1, true))
def numV (l : List UInt8) : Int := match parseIntB 64 l with
  | .ok v => v
  | .syntax => 0
  | .range => intSat 64 l
noncomputable def numF (b k : List UInt8) (s : Rs) : Int × Rs := (numV (valF b k s).1, (valF b k s).2)
noncomputable def prsF (b : List UInt8) : Nat → Nat → List En × Nat
  | 0, p => ([], p)
  | f + 1, p => match rdF b p with
    | some (q, n) => if sMeta <+: q.1 then (⟨q.1.drop 5, q.2⟩ :: (prsF b f n).1, (prsF b f n).2) else ([], p)
    | none => ([], p)
noncomputable def prs2F (b : List UInt8) (s : Rs) : List En × Rs := if s.2 = true then ([], s) else ((prsF b 8 s.1).1, ((prsF b 8 s.1).2, false))
noncomputable def itF (b : List UInt8) (s : Rs) : It × Rs :=
  let k := valF b sKey s
  let q := numF b sSeq k.2
  let t := valF b sType q.2
  if t.1 = sMarker then
    let h := valF b sLeaf t.2
    (⟨k.1, q.1, true, 0, [], cut32 (pz h.1)⟩, h.2)
  else
    let z := numF b sSize t.2
    let l := prs2F b z.2
    let h := valF b sLeaf l.2
    (⟨k.1, q.1, false, z.1, l.1, cut32 (pz h.1)⟩, h.2)
noncomputable def itsF (b : List UInt8) : Nat → Rs → List It × Rs
  | 0, s => ([], s)
  | f + 1, s => if s.2 = true then ([], s) else ((itF b s).1 :: (itsF b f (itF b s).2).1, (itsF b f (itF b s).2).2)
noncomputable def sincF (b kind : List UInt8) (s : Rs) : Int × Rs := if kind = sFull then (0, s) else numF b sSince s
noncomputable def maF (b : List UInt8) : Ma × Rs :=
  let k := valF b sKind (0, false)
  let o := valF b sFormat k.2
  let n := numF b sNext o.2
  let c := sincF b k.1 n.2
  let u := numF b sCount c.2
  let l := itsF b (min u.1 256).toNat u.2
  let e := valF b sEnd l.2
  (⟨c.1, n.1, l.1⟩, e.2)
theorem parseM (M : Nat) (hM : M ≤ 18446744073709551615) : ∀ (l : List UInt8) (a : Nat), (∀ c ∈ l, Go.Proofs.YtdfjlmfnkhhnjaaGreatDoorP.isDig c) → l.foldl (fun n c => n * 10 + (c.toNat - 48)) a ≤ M → parseUintM M a l = .ok (l.foldl (fun n c => n * 10 + (c.toNat - 48)) a)
  | [], a, _, _ => rfl
  | c :: l, a, hd, hl => by
    have hc := hd c (by simp)
    have hge := Go.Proofs.YtdfjlmfnkhhnjaaGreatDoorP.foldl_ge l (a * 10 + (c.toNat - 48))
    rw [List.foldl_cons] at hl
    have hd2 : 48 ≤ c.toNat ∧ c.toNat ≤ 57 := hc
    unfold parseUintM
    rw [if_pos hd2, if_neg (by omega), if_neg (by omega)]
    exact parseM M hM l _ (fun x hx => hd x (by simp [hx])) hl
theorem numV_dec {n : Int} (h0 : 0 ≤ n) (h1 : n ≤ 9223372036854775807) : numV (dec n) = n := by
  have hv : (decDigits n.toNat).foldl (fun n c => n * 10 + (c.toNat - 48)) 0 = n.toNat := Go.Proofs.YtdfjlmfnkhhnjaaGreatDoorP.val_D n.toNat
  have hdg := Go.Proofs.YtdfjlmfnkhhnjaaGreatDoorP.D_dig n.toNat
  have hne := Go.Proofs.YtdfjlmfnkhhnjaaGreatDoorP.D_ne n.toNat
  unfold numV dec
  generalize decDigits n.toNat = l at *
  cases l with
  | nil => exact absurd rfl hne
  | cons c r =>
    have hc : 48 ≤ c.toNat ∧ c.toNat ≤ 57 := hdg c (by simp)
    have hp : parseUintB 64 (c :: r) = .ok n.toNat := by
      unfold parseUintB
      rw [if_neg (by simp), parseM _ (by decide) _ _ hdg (by rw [hv]; omega), hv]
    unfold parseIntB
    simp only
    rw [if_neg (by omega), hp]
    simp only
    rw [if_neg (by rintro ⟨_, q⟩; have : (2 : Nat) ^ (64 - 1) = 9223372036854775808 := by decide
                   omega), if_neg (by rintro ⟨q, _⟩; omega), if_neg (by omega)]
    simp only
    omega
theorem valFat {b : List UInt8} {p : Nat} {k v : List UInt8} {R : List Kv} {r : List UInt8} (h : Pos b p ((k, v) :: R) r) : valF b k (p, false) = (v, (p + (recd k v).length, false)) := by
  unfold valF
  rw [if_neg (show ¬ (false = true) from Bool.false_ne_true), h.rd]
  simp
theorem numFat {b : List UInt8} {p : Nat} {k : List UInt8} {n : Int} {R : List Kv} {r : List UInt8} (h : Pos b p ((k, dec n) :: R) r) (h0 : 0 ≤ n) (h1 : n ≤ 9223372036854775807) : numF b k (p, false) = (n, (p + (recd k (dec n)).length, false)) := by
  unfold numF
  rw [valFat h]
  simp only
  rw [numV_dec h0 h1]
def nz (x : It) : It := { x with g := cut32 x.g }
def nzM (m : Ma) : Ma := { m with items := m.items.map nz }
theorem cut_of {g f : Nat → UInt8} (h : ∀ i, i < 32 → g i = f i) : cut32 g = cut32 f := by
  funext i
  unfold cut32
  split
  · rename_i q; exact h i q
  · rfl
theorem pz_hex (g : Nat → UInt8) : cut32 (pz (hexL g)) = cut32 g := cut_of fun i hi => by unfold pz; rw [Go.Proofs.YtdfjlmfnkhhnjaaGreatDoorH.okL_hex, if_pos rfl]; exact Go.Proofs.YtdfjlmfnkhhnjaaGreatDoorH.pv_hex g i hi
theorem prsFat {b : List UInt8} {q : Kv} {R : List Kv} {r : List UInt8} (hq : ¬ sMeta <+: q.1) : ∀ (l : List En) (f p : Nat), l.length ≤ f → Pos b p (metaR l ++ q :: R) r → (prsF b f p).1 = l ∧ Pos b (prsF b f p).2 (q :: R) r
  | [], 0, p, _, h => ⟨rfl, h⟩
  | [], f + 1, p, _, h => by
    have h1 : Pos b p (q :: R) r := h
    unfold prsF
    rw [h1.rd]
    simp only
    rw [if_neg hq]
    exact ⟨rfl, h1⟩
  | e :: l, 0, p, hf, h => by simp at hf
  | e :: l, f + 1, p, hf, h => by
    have h1 : Pos b p ((sMeta ++ e.key, e.val) :: (metaR l ++ q :: R)) r := h
    obtain ⟨i1, i2⟩ := prsFat hq l f _ (by simpa using hf) h1.next
    unfold prsF
    rw [h1.rd]
    simp only
    rw [if_pos (List.prefix_append _ _)]
    refine ⟨?_, i2⟩
    rw [i1]
    have : (sMeta ++ e.key).drop 5 = e.key := by show ([109, 101, 116, 97, 46] ++ e.key).drop 5 = e.key; rfl
    rw [this]
theorem itFat {b : List UInt8} {m : Ma} {x : It} {p : Nat} {R : List Kv} {r : List UInt8} (hm : m.next ≤ 1099511627777) (hx : RtI m x) (h : Pos b p (itemR x ++ R) r) : ∃ p', itF b (p, false) = (nz x, (p', false)) ∧ Pos b p' R r := by
  have hs : x.seq ≤ 1099511627777 := by have := hx.s2; omega
  have hs0 := hx.s1
  cases hmk : x.mkr with
  | true =>
    obtain ⟨z1, z2⟩ := hx.mk1 hmk
    have h1 : Pos b p ((sKey, x.key) :: (sSeq, dec x.seq) :: (sType, sMarker) :: (sLeaf, hexL x.g) :: R) r := by
      have := h
      unfold itemR at this
      rw [if_pos hmk, z2] at this
      exact this
    have h2 := h1.next
    have h3 := h2.next
    have h4 := h3.next
    refine ⟨_, ?_, h4.next⟩
    unfold itF
    rw [valFat h1]
    simp only
    rw [numFat h2 (by omega) (by omega)]
    simp only
    rw [valFat h3]
    simp only
    rw [if_pos trivial, valFat h4]
    simp only
    rw [pz_hex]
    unfold nz
    rw [← hmk, ← z1, ← z2]
  | false =>
    obtain ⟨z1, z2, z3⟩ := hx.mk0 hmk
    obtain ⟨g4, g5, g6⟩ := mtE_iff z3
    have h1 : Pos b p ((sKey, x.key) :: (sSeq, dec x.seq) :: (sType, sData) :: (sSize, dec x.size) :: (metaR x.l ++ (sLeaf, hexL x.g) :: R)) r := by
      have := h
      unfold itemR at this
      rw [if_neg (by rw [hmk]; decide)] at this
      simpa using this
    have h2 := h1.next
    have h3 := h2.next
    have h4 := h3.next
    have h5 := h4.next
    obtain ⟨i1, i2⟩ := prsFat (by simp only; decide) x.l 8 _ g4 h5
    refine ⟨_, ?_, i2.next⟩
    unfold itF
    rw [valFat h1]
    simp only
    rw [numFat h2 (by omega) (by omega)]
    simp only
    rw [valFat h3]
    simp only
    rw [if_neg (by decide), numFat h4 (by omega) (by omega)]
    simp only
    unfold prs2F
    rw [if_neg (show ¬ (false = true) from Bool.false_ne_true)]
    simp only
    rw [valFat i2]
    simp only
    rw [pz_hex, i1]
    unfold nz
    rw [← hmk]
theorem itsFat {b : List UInt8} {m : Ma} {R : List Kv} {r : List UInt8} (hm : m.next ≤ 1099511627777) : ∀ (L : List It) (p : Nat), (∀ x ∈ L, RtI m x) → Pos b p ((L.map itemR).flatten ++ R) r → ∃ p', itsF b L.length (p, false) = (L.map nz, (p', false)) ∧ Pos b p' R r
  | [], p, _, h => ⟨p, rfl, h⟩
  | x :: L, p, hx, h => by
    have h1 : Pos b p (itemR x ++ ((L.map itemR).flatten ++ R)) r := by simpa using h
    obtain ⟨p1, e1, h2⟩ := itFat hm (hx x (by simp)) h1
    obtain ⟨p2, e2, h3⟩ := itsFat hm L p1 (fun y hy => hx y (by simp [hy])) h2
    refine ⟨p2, ?_, h3⟩
    show itsF b (L.length + 1) (p, false) = _
    unfold itsF
    rw [if_neg (by simp only; decide), e1]
    simp only
    rw [e2]
    rfl
theorem maFat {m : Ma} (h : RtM m) (r : List UInt8) : maF (mtx m ++ r) = (nzM m, ((mtx m).length, false)) := by
  have hn := h.n2
  have hl := h.len
  have hc1 := h.c1
  have hc2 := h.c2
  have hn1 := h.n1
  obtain ⟨b, hb⟩ : ∃ b, b = mtx m ++ r := ⟨_, rfl⟩
  rw [← hb]
  have hP : Pos b 0 (recs m) r := ⟨Nat.zero_le _, by rw [List.drop_zero, hb]; rfl, recs_ok h⟩
  have hfin : ∀ p, Pos b p [] r → p = (mtx m).length := fun p hp => by
    obtain ⟨e1, e2⟩ := hp.last
    rw [hb, List.length_append] at e1
    omega
  have hcnt : (min (m.items.length : Int) 256).toNat = m.items.length := by omega
  by_cases hs : m.since = 0
  · have h1 : Pos b 0 ((sKind, sFull) :: (sFormat, sCoffer) :: (sNext, dec m.next) :: (sCount, dec m.items.length) :: ((m.items.map itemR).flatten ++ [(sEnd, sMani)])) r := by
      have := hP
      unfold recs headR at this
      rw [if_pos hs, if_pos hs] at this
      simpa using this
    have h2 := h1.next
    have h3 := h2.next
    have h4 := h3.next
    obtain ⟨p5, e5, h5⟩ := itsFat hn m.items _ h.it h4.next
    unfold maF
    rw [valFat h1]
    simp only
    rw [valFat h2]
    simp only
    rw [numFat h3 (by omega) (by omega)]
    simp only
    unfold sincF
    rw [if_pos rfl]
    simp only
    rw [numFat h4 (by omega) (by omega)]
    simp only
    rw [hcnt, e5]
    simp only
    rw [valFat h5]
    simp only
    rw [hfin _ h5.next]
    unfold nzM
    rw [← hs]
  · have h1 : Pos b 0 ((sKind, sDelta) :: (sFormat, sCoffer) :: (sNext, dec m.next) :: (sSince, dec m.since) :: (sCount, dec m.items.length) :: ((m.items.map itemR).flatten ++ [(sEnd, sMani)])) r := by
      have := hP
      unfold recs headR at this
      rw [if_neg hs, if_neg hs] at this
      simpa using this
    have h2 := h1.next
    have h3 := h2.next
    have h3' := h3.next
    have h4 := h3'.next
    obtain ⟨p5, e5, h5⟩ := itsFat hn m.items _ h.it h4.next
    unfold maF
    rw [valFat h1]
    simp only
    rw [valFat h2]
    simp only
    rw [numFat h3 (by omega) (by omega)]
    simp only
    unfold sincF
    rw [if_neg (by decide)]
    rw [numFat h3' (by omega) (by omega)]
    simp only
    rw [numFat h4 (by omega) (by omega)]
    simp only
    rw [hcnt, e5]
    simp only
    rw [valFat h5]
    simp only
    rw [hfin _ h5.next]
    rfl
end Go.Proofs.YtdfjlmfnkhhnjaaGreatDoor
