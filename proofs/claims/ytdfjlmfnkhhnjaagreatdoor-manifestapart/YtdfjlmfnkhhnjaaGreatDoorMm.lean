/- Manifests: what is right, which records they are, that the records tell them. No model. -/
import Derived.Test.YtdfjlmfnkhhnjaaGreatDoorPMath
import Derived.Test.YtdfjlmfnkhhnjaaGreatDoorGd
import Derived.Test.YtdfjlmfnkhhnjaaGreatDoorGf
namespace Go.Proofs.YtdfjlmfnkhhnjaaGreatDoor
set_option maxRecDepth 100000
set_option linter.unusedVariables false
set_option linter.unusedSimpArgs false
open Go.Lib (decDigits)
open Go.Proofs.YtdfjlmfnkhhnjaaGreatDoorP (recd Rd key nn LEN)
open Go.Proofs.YtdfjlmfnkhhnjaaGreatDoorH (hexL pv okL)
/-- an item -/
structure It where
  key : List UInt8
  seq : Int
  mkr : Bool
  size : Int
  l : List En
  g : Nat → UInt8
/-- the leaf's 32 bytes alone are told -/
def cut32 (g : Nat → UInt8) : Nat → UInt8 := fun j => if j < 32 then g j else 0
structure Ma where
  since : Int
  next : Int
  items : List It
abbrev Kv := List UInt8 × List UInt8
def sKind : List UInt8 := [107, 105, 110, 100]
def sFull : List UInt8 := [102, 117, 108, 108]
def sDelta : List UInt8 := [100, 101, 108, 116, 97]
def sFormat : List UInt8 := [102, 111, 114, 109, 97, 116]
def sCoffer : List UInt8 := [99, 111, 102, 102, 101, 114, 45, 49]
def sNext : List UInt8 := [110, 101, 120, 116]
def sSince : List UInt8 := [115, 105, 110, 99, 101]
def sCount : List UInt8 := [99, 111, 117, 110, 116]
def sKey : List UInt8 := [107, 101, 121]
def sSeq : List UInt8 := [115, 101, 113]
def sType : List UInt8 := [116, 121, 112, 101]
def sMarker : List UInt8 := [109, 97, 114, 107, 101, 114]
def sData : List UInt8 := [100, 97, 116, 97]
def sSize : List UInt8 := [115, 105, 122, 101]
def sMeta : List UInt8 := [109, 101, 116, 97, 46]
def sLeaf : List UInt8 := [108, 101, 97, 102]
def sEnd : List UInt8 := [101, 110, 100]
def sMani : List UInt8 := [109, 97, 110, 105, 102, 101, 115, 116]
def dec (n : Int) : List UInt8 := decDigits n.toNat
def headR (m : Ma) : List Kv := [(sKind, if m.since = 0 then sFull else sDelta), (sFormat, sCoffer), (sNext, dec m.next)] ++ (if m.since = 0 then [] else [(sSince, dec m.since)]) ++ [(sCount, dec m.items.length)]
def metaR (l : List En) : List Kv := l.map fun p => (sMeta ++ p.key, p.val)
def itemR (x : It) : List Kv := [(sKey, x.key), (sSeq, dec x.seq)] ++ (if x.mkr = true then [(sType, sMarker)] else [(sType, sData), (sSize, dec x.size)]) ++ metaR x.l ++ [(sLeaf, hexL x.g)]
def recs (m : Ma) : List Kv := headR m ++ (m.items.map itemR).flatten ++ [(sEnd, sMani)]
def txt (R : List Kv) : List UInt8 := (R.map fun p => recd p.1 p.2).flatten
noncomputable def mtx (m : Ma) : List UInt8 := txt (recs m)
/-- records that may be written -/
def Kvs (R : List Kv) : Prop := ∀ p ∈ R, key p.1 = true ∧ LEN (nn p.1 p.2) ≤ 1048576
theorem txt_cons (p : Kv) (R : List Kv) : txt (p :: R) = recd p.1 p.2 ++ txt R := by simp [txt]
theorem txt_append (R S : List Kv) : txt (R ++ S) = txt R ++ txt S := by simp [txt]
theorem txt_rd {p : Kv} {R : List Kv} (h : Kvs (p :: R)) (r : List UInt8) : Rd (txt (p :: R) ++ r) p.1 p.2 := ⟨(h p (by simp)).1, (h p (by simp)).2, txt R ++ r, by rw [txt_cons, List.append_assoc]⟩
theorem Kvs.tail {p : Kv} {R : List Kv} (h : Kvs (p :: R)) : Kvs R := fun q hq => h q (by simp [hq])
theorem recd_ne (k v : List UInt8) : recd k v ≠ [] := by
  intro h
  have := Go.Proofs.YtdfjlmfnkhhnjaaGreatDoorP.recd_length k v
  rw [h] at this
  have := Go.Proofs.YtdfjlmfnkhhnjaaGreatDoorP.LEN_pos (nn k v)
  simp at *
  omega
/-- an item is right, of a manifest -/
structure RtI (m : Ma) (x : It) : Prop where
  key : keyE x.key = 0
  s1 : 1 ≤ x.seq
  s2 : x.seq < m.next
  s3 : m.since ≤ x.seq
  mk1 : x.mkr = true → x.size = 0 ∧ x.l = []
  mk0 : x.mkr = false → 0 ≤ x.size ∧ x.size ≤ 1024 ∧ mtE x.l = 0
/-- the order of two items -/
def bef (y x : It) : Prop := bcmp y.key x.key < 0 ∨ (y.key = x.key ∧ y.seq < x.seq)
/-- how great an item counts -/
def isz (x : It) : Int := ((32 + x.key.length + tt x.l : Nat) : Int) + x.size
def isum (l : List It) : Int := (l.map isz).sum
structure RtM (m : Ma) : Prop where
  n1 : 1 ≤ m.next
  n2 : m.next ≤ 1099511627777
  c1 : 0 ≤ m.since
  c2 : m.since ≤ m.next
  len : m.items.length ≤ 256
  it : ∀ x ∈ m.items, RtI m x
  srt : m.items.Pairwise bef
  nod : (m.items.map (·.seq)).Nodup
  byt : isum m.items ≤ 65536
theorem small_key {s : List UInt8} {n : Nat} (h : smN s n = true) : (61 : UInt8) ∉ s ∧ (10 : UInt8) ∉ s ∧ s ≠ [] ∧ s.length ≤ n := by
  unfold smN at h
  rw [Bool.and_eq_true, decide_eq_true_iff, List.all_eq_true] at h
  refine ⟨fun q => ?_, fun q => ?_, fun q => ?_, h.1.2⟩
  · exact absurd (h.2 _ q) (by decide)
  · exact absurd (h.2 _ q) (by decide)
  · rw [q] at h; simp at h
theorem len_le {n k : Nat} (h : n + 7 ≤ k) (hk : k ≤ 1048576) : LEN n ≤ k := by
  have : Go.Proofs.YtdfjlmfnkhhnjaaGreatDoorP.dig n ≤ 7 := Go.Proofs.YtdfjlmfnkhhnjaaGreatDoorP.dig_le (by omega) (by omega)
  unfold LEN
  omega
theorem kv_ok {k v : List UInt8} (h1 : key k = true) (h2 : k.length ≤ 100) (h3 : v.length ≤ 2000) : key k = true ∧ LEN (nn k v) ≤ 1048576 := by
  refine ⟨h1, len_le (k := 1048576) ?_ (Nat.le_refl _)⟩
  unfold nn
  omega
theorem dec_len {n : Int} (h : n ≤ 1099511627777) : (dec n).length ≤ 20 := by
  unfold dec
  rw [Go.Lib.decDigits_length]
  have := Go.Proofs.YtdfjlmfnkhhnjaaGreatDoorP.nDigits_le (u := n.toNat) (k := 20) (by omega) (by omega)
  exact this
theorem keyE_len {s : List UInt8} (h : keyE s = 0) : s.length ≤ 32 := by
  unfold keyE at h
  split at h
  · rename_i q; exact q.2
  · omega
theorem mtE_iff {l : List En} (h : mtE l = 0) : l.length ≤ 8 ∧ (∀ p ∈ l, prb p = true) ∧ Srt l := by
  unfold mtE at h
  split at h
  · rename_i q; exact q
  · omega
theorem prb_iff {p : En} (h : prb p = true) : smN p.key 16 = true ∧ p.val.length ≤ 64 := by
  unfold prb at h
  rw [Bool.and_eq_true, decide_eq_true_iff] at h
  exact h
theorem hexL_len (g : Nat → UInt8) : (hexL g).length = 64 := by simp [hexL]
theorem headR_ok {m : Ma} (h : RtM m) : Kvs (headR m) := by
  have hn := h.n2
  have hc : m.since ≤ 1099511627777 := Int.le_trans h.c2 h.n2
  have hl : (m.items.length : Int) ≤ 1099511627777 := by have := h.len; omega
  intro p hp
  unfold headR at hp
  split at hp
  · simp only [List.append_nil, List.mem_append, List.mem_cons, List.not_mem_nil, or_false] at hp
    rcases hp with (rfl | rfl | rfl) | rfl
    · exact kv_ok (k := sKind) (by decide) (by decide) (by decide)
    · exact kv_ok (k := sFormat) (by decide) (by decide) (by decide)
    · exact kv_ok (k := sNext) (by decide) (by decide) (Nat.le_trans (dec_len hn) (by decide))
    · exact kv_ok (k := sCount) (by decide) (by decide) (Nat.le_trans (dec_len hl) (by decide))
  · simp only [List.mem_append, List.mem_cons, List.not_mem_nil, or_false] at hp
    rcases hp with ((rfl | rfl | rfl) | rfl) | rfl
    · exact kv_ok (k := sKind) (by decide) (by decide) (by decide)
    · exact kv_ok (k := sFormat) (by decide) (by decide) (by decide)
    · exact kv_ok (k := sNext) (by decide) (by decide) (Nat.le_trans (dec_len hn) (by decide))
    · exact kv_ok (k := sSince) (by decide) (by decide) (Nat.le_trans (dec_len hc) (by decide))
    · exact kv_ok (k := sCount) (by decide) (by decide) (Nat.le_trans (dec_len hl) (by decide))
theorem metaR_ok {l : List En} (h : mtE l = 0) : Kvs (metaR l) := by
  intro p hp
  obtain ⟨q, hq, rfl⟩ := List.mem_map.1 hp
  obtain ⟨h1, h2, h3⟩ := mtE_iff h
  obtain ⟨g1, g2⟩ := prb_iff (h2 q hq)
  obtain ⟨k1, k2, k3, k4⟩ := small_key g1
  refine kv_ok ?_ ?_ ?_
  · rw [Go.Proofs.YtdfjlmfnkhhnjaaGreatDoorP.key_iff]
    refine ⟨by simp [sMeta], ?_, ?_⟩
    · rw [List.mem_append]; exact fun q => q.elim (by decide) k1
    · rw [List.mem_append]; exact fun q => q.elim (by decide) k2
  · simp only [List.length_append]
    have : sMeta.length = 5 := rfl
    omega
  · simp only; omega
theorem itemR_ok {m : Ma} {x : It} (hm : m.next ≤ 1099511627777) (h : RtI m x) : Kvs (itemR x) := by
  have hs : x.seq ≤ 1099511627777 := by have := h.s2; omega
  have hk := keyE_len h.key
  have hx := hexL_len x.g
  intro p hp
  unfold itemR at hp
  cases hmk : x.mkr with
  | true =>
    obtain ⟨_, hl⟩ := h.mk1 hmk
    rw [hmk, if_pos rfl, hl] at hp
    simp only [metaR, List.map_nil, List.append_nil, List.mem_append, List.mem_cons, List.not_mem_nil, or_false] at hp
    rcases hp with ((rfl | rfl) | rfl) | rfl
    · exact kv_ok (k := sKey) (by decide) (by decide) (Nat.le_trans hk (by decide))
    · exact kv_ok (k := sSeq) (by decide) (by decide) (Nat.le_trans (dec_len hs) (by decide))
    · exact kv_ok (k := sType) (by decide) (by decide) (by decide)
    · exact kv_ok (k := sLeaf) (by decide) (by decide) (Nat.le_trans (Nat.le_of_eq hx) (by decide))
  | false =>
    obtain ⟨z1, z2, z3⟩ := h.mk0 hmk
    rw [hmk, if_neg (by decide)] at hp
    simp only [List.mem_append, List.mem_cons, List.not_mem_nil, or_false] at hp
    rcases hp with (((rfl | rfl) | (rfl | rfl)) | hp) | rfl
    · exact kv_ok (k := sKey) (by decide) (by decide) (Nat.le_trans hk (by decide))
    · exact kv_ok (k := sSeq) (by decide) (by decide) (Nat.le_trans (dec_len hs) (by decide))
    · exact kv_ok (k := sType) (by decide) (by decide) (by decide)
    · exact kv_ok (k := sSize) (by decide) (by decide) (Nat.le_trans (dec_len (n := x.size) (by omega)) (by decide))
    · exact metaR_ok z3 p hp
    · exact kv_ok (k := sLeaf) (by decide) (by decide) (Nat.le_trans (Nat.le_of_eq hx) (by decide))
theorem recs_ok {m : Ma} (h : RtM m) : Kvs (recs m) := by
  intro p hp
  unfold recs at hp
  simp only [List.mem_append, List.mem_cons, List.not_mem_nil, or_false] at hp
  rcases hp with (hp | hp) | rfl
  · exact headR_ok h p hp
  · obtain ⟨l, hl, hpl⟩ := List.mem_flatten.1 hp
    obtain ⟨x, hx, rfl⟩ := List.mem_map.1 hl
    exact itemR_ok h.n2 (h.it x hx) p hpl
  · exact kv_ok (k := sEnd) (by decide) (by decide) (by decide)
end Go.Proofs.YtdfjlmfnkhhnjaaGreatDoor
