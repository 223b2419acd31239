import Derived.Test.YtcmmbdcflblekaaGreatDoorQe
import Derived.Test.YtcmmbdcflblekaaGreatDoorGh
import Derived.Deep.DeepAppendWide
import Derived.Deep.AppendLies
/- Made: what a value of the law's is. No model. -/
namespace Go.Proofs.YtcmmbdcflblekaaGreatDoor
set_option maxRecDepth 100000
set_option linter.unusedVariables false
set_option linter.unusedSimpArgs false
open Go.Proofs.YtcmmbdcflblekaaGreatDoorP (recd Rd key nn LEN)
open Go.Proofs.YtcmmbdcflblekaaGreatDoorH (hexL rootOf)
/-- a version that is made, with a number up to sq -/
structure Mv (sq : Int) (v : Vs) : Prop where
  k1 : 1 ≤ v.key.length
  k2 : v.key.length ≤ 32
  s1 : 1 ≤ v.seq
  s2 : v.seq ≤ sq
  d : v.data.length ≤ 1024
  m : v.mkr = true → v.data = [] ∧ v.l = []
  l : mtE v.l = 0
  t : v.l.length ≤ 5
/-- the order of two versions -/
def vbef (u v : Vs) : Prop := bcmp u.key v.key < 0 ∨ (u.key = v.key ∧ u.seq < v.seq)
/-- the value as it is made -/
structure Mdl (sq : Int) (L : List Vs) : Prop where
  len : L.length ≤ 40
  s0 : 0 ≤ sq
  s1 : sq ≤ 8 * (L.length : Int)
  ok : ∀ v ∈ L, Mv sq v
  srt : L.Pairwise vbef
  nod : (L.map (·.seq)).Nodup
theorem Mdl.nil : Mdl 0 [] := ⟨by decide, by decide, by decide, fun v h => by simp at h, List.Pairwise.nil, by simp⟩
theorem Mv.mono {a b : Int} {v : Vs} (h : Mv a v) (hab : a ≤ b) : Mv b v := ⟨h.k1, h.k2, h.s1, Int.le_trans h.s2 hab, h.d, h.m, h.l, h.t⟩
theorem bcmp_pos {a b : List UInt8} (h : 0 < bcmp a b) : bcmp b a < 0 := by rw [bcmp_neg]; omega
theorem bcmp_lt_trans {a b c : List UInt8} (h1 : bcmp a b < 0) (h2 : bcmp b c < 0) : bcmp a c < 0 := by
  have e1 : bcmp a b = -1 := by rcases bcmp_cases a b with h | h | h <;> omega
  have e2 : bcmp b c = -1 := by rcases bcmp_cases b c with h | h | h <;> omega
  rw [bcmp_trans e1 e2]; omega
/-- a version is laid in where it belongs -/
theorem Mdl.put {sq sq' : Int} {L : List Vs} {v : Vs} {j : Nat} (h : Mdl sq L) (hl : L.length < 40) (h1 : sq < sq') (h2 : sq' ≤ sq + 8) (hv : Mv sq' v) (hs : v.seq = sq') (hj : j ≤ L.length)
    (hb : ∀ i u, i < j → L[i]? = some u → bcmp u.key v.key ≤ 0) (ha : ∀ u, L[j]? = some u → 0 < bcmp u.key v.key) : Mdl sq' (L.take j ++ [v] ++ L.drop j) := by
  have hlen : (L.take j ++ [v] ++ L.drop j).length = L.length + 1 := by simp; omega
  have hT : ∀ u ∈ L.take j, vbef u v := fun u hu => by
    obtain ⟨i, hi, e⟩ := List.getElem_of_mem hu
    have hij : i < j := by rw [List.length_take] at hi; omega
    have e2 : L[i]? = some u := by rw [← List.getElem?_take_of_lt hij, List.getElem?_eq_getElem hi, e]
    have h3 := hb i u hij e2
    have h4 := (h.ok u (List.mem_of_getElem? e2)).s2
    rcases Int.lt_or_eq_of_le h3 with h5 | h5
    · exact .inl h5
    · exact .inr ⟨bcmp_zero h5, by rw [hs]; omega⟩
  have hD : ∀ u ∈ L.drop j, bcmp v.key u.key < 0 := fun u hu => by
    obtain ⟨i, hi, e⟩ := List.getElem_of_mem hu
    have e2 : L[j + i]? = some u := by rw [← List.getElem?_drop, List.getElem?_eq_getElem hi, e]
    have hlt := (List.getElem?_eq_some_iff.1 e2).1
    obtain ⟨x, hx⟩ : ∃ x, L[j]? = some x := ⟨L[j]'(by omega), List.getElem?_eq_getElem (by omega)⟩
    have h3 := bcmp_pos (ha x hx)
    rcases Nat.eq_zero_or_pos i with rfl | hi0
    · rw [Nat.add_zero, hx] at e2; injection e2 with e2; subst e2; exact h3
    · obtain ⟨q1, q2⟩ := List.getElem?_eq_some_iff.1 hx
      obtain ⟨q3, q4⟩ := List.getElem?_eq_some_iff.1 e2
      have := List.pairwise_iff_getElem.1 h.srt j (j + i) q1 q3 (by omega)
      rw [q2, q4] at this
      rcases this with h5 | ⟨h5, _⟩
      · exact bcmp_lt_trans h3 h5
      · rw [← h5]; exact h3
  refine ⟨by omega, by have := h.s0; omega, by rw [hlen]; have := h.s1; omega, fun u hu => ?_, ?_, ?_⟩
  · simp only [List.mem_append, List.mem_cons, List.not_mem_nil, or_false] at hu
    rcases hu with (hu | rfl) | hu
    · exact (h.ok u (List.mem_of_mem_take hu)).mono (by omega)
    · exact hv
    · exact (h.ok u (List.mem_of_mem_drop hu)).mono (by omega)
  · rw [List.append_assoc, List.pairwise_append]
    refine ⟨h.srt.sublist (List.take_sublist _ _), ?_, fun u hu x hx => ?_⟩
    · rw [List.cons_append, List.nil_append, List.pairwise_cons]
      exact ⟨fun u hu => .inl (hD u hu), h.srt.sublist (List.drop_sublist _ _)⟩
    · simp only [List.cons_append, List.nil_append, List.mem_cons] at hx
      rcases hx with rfl | hx
      · exact hT u hu
      · have h3 := hD x hx
        rcases hT u hu with h4 | ⟨h4, _⟩
        · exact .inl (bcmp_lt_trans h4 h3)
        · exact .inl (by rw [h4]; exact h3)
  · have hn : v.seq ∉ L.map (·.seq) := fun q => by
      obtain ⟨u, hu, e⟩ := List.mem_map.1 q
      have := (h.ok u hu).s2
      rw [e, hs] at this
      omega
    have e : L.map (·.seq) = (L.take j).map (·.seq) ++ (L.drop j).map (·.seq) := by rw [← List.map_append, List.take_append_drop]
    have hN := h.nod
    rw [e] at hN hn
    rw [List.mem_append] at hn
    obtain ⟨n1, n2, n3⟩ := List.nodup_append.1 hN
    rw [List.map_append, List.map_append, List.append_assoc]
    refine List.nodup_append.2 ⟨n1, ?_, fun x hx y hy => ?_⟩
    · rw [List.map_cons, List.map_nil, List.cons_append, List.nil_append, List.nodup_cons]
      exact ⟨fun q => hn (.inr q), n2⟩
    · simp only [List.map_cons, List.map_nil, List.cons_append, List.nil_append, List.mem_cons] at hy
      rcases hy with rfl | hy
      · exact fun q => hn (.inl (by rw [← q]; exact hx))
      · exact n3 x hx y hy
theorem Mv.rt {sq : Int} {v : Vs} (h : Mv sq v) (hs : sq ≤ 1099511627776) : rtE v = 0 := by
  have hk : keyE v.key = 0 := by unfold keyE; rw [if_pos ⟨h.k1, h.k2⟩]
  have hd : datE v.data = 0 := by unfold datE; rw [if_pos h.d]
  have h1 := h.s1
  have h2 := h.s2
  unfold rtE
  rw [if_neg (by omega)]
  unfold vrE
  rw [if_neg (fun q => q hk), if_neg (fun q => ?_), if_neg (fun q => ?_)]
  · exact h.l
  · have := (h.m q.1).2; rw [this] at q; simp at q
  · rcases q with ⟨a, b⟩ | q
    · exact b (h.m a).1
    · exact q hd
theorem mtt_le : ∀ (l : List En), (∀ p ∈ l, prb p = true) → tt l ≤ l.length * 80
  | [], _ => by simp [tt]
  | p :: l, h => by
    have h1 := mtt_le l (fun q hq => h q (by simp [hq]))
    obtain ⟨h2, h3⟩ := prb_iff (h p (by simp))
    have h4 := (small_key h2).2.2.2
    have e : tt (p :: l) = (p.key.length + p.val.length) + tt l := by simp [tt]
    rw [e, List.length_cons]
    omega
theorem Mv.sz {sq : Int} {v : Vs} (h : Mv sq v) : isz (itOf v (enc v)) ≤ 1488 := by
  have h1 := mtt_le v.l (mtE_iff h.l).2.1
  have h2 := h.t
  have h3 := h.k2
  have h4 := h.d
  have : tt v.l ≤ 400 := by omega
  unfold isz
  simp only
  omega
theorem isum_le {sq : Int} : ∀ (L : List Vs), (∀ v ∈ L, Mv sq v) → isum (ofI L) ≤ 1488 * (L.length : Int)
  | [], _ => by simp [isum]
  | v :: L, h => by
    have h1 := isum_le L (fun u hu => h u (by simp [hu]))
    have h2 := (h v (by simp)).sz
    have e : isum (ofI (v :: L)) = isz (itOf v (enc v)) + isum (ofI L) := by simp [isum, ofI]
    rw [e, List.length_cons]
    omega
theorem Mdl.of {sq next : Int} {L : List Vs} (h : Mdl sq L) (h1 : sq < next) (h2 : next ≤ sq + 1024) : OfR L next 0 := by
  have hs := h.s1
  have hl := h.len
  have h0 := h.s0
  refine ⟨by omega, fun v hv => (h.ok v hv).rt (by omega), ⟨by show 1 ≤ next; omega, by show next ≤ _; omega, Int.le_refl 0, by show 0 ≤ next; omega, by simp [ofI]; omega, fun x hx => ?_, ?_, ?_, ?_⟩⟩
  · obtain ⟨v, hv, rfl⟩ := List.mem_map.1 hx
    have hm := h.ok v hv
    have a1 := hm.s1
    have a2 := hm.s2
    have a3 := hm.d
    refine ⟨by unfold keyE; rw [if_pos ⟨hm.k1, hm.k2⟩], a1, by show v.seq < next; omega, by show 0 ≤ v.seq; omega, fun q => ?_, fun q => ⟨by show (0 : Int) ≤ (v.data.length : Int); omega, by show (v.data.length : Int) ≤ 1024; omega, hm.l⟩⟩
    obtain ⟨b1, b2⟩ := hm.m q
    exact ⟨by show (v.data.length : Int) = 0; rw [b1]; rfl, b2⟩
  · show ((L.map fun v => itOf v (enc v)).Pairwise bef)
    rw [List.pairwise_map]
    exact h.srt
  · show ((ofI L).map (·.seq)).Nodup
    have : (ofI L).map (·.seq) = L.map (·.seq) := by unfold ofI; rw [List.map_map]; rfl
    rw [this]
    exact h.nod
  · have := isum_le L h.ok
    show isum (ofI L) ≤ _
    omega
/- how long its archive is -/
def Smr (R : List Kv) : Prop := ∀ p ∈ R, p.1.length ≤ 21 ∧ p.2.length ≤ 64
theorem recd_sm {k v : List UInt8} (h1 : k.length ≤ 21) (h2 : v.length ≤ 64) : (recd k v).length ≤ 95 := by
  rw [Go.Proofs.YtcmmbdcflblekaaGreatDoorP.recd_length]
  refine len_le (k := 95) ?_ (by decide)
  unfold nn
  omega
theorem smr_len : ∀ (R : List Kv), Smr R → (txt R).length ≤ R.length * 95
  | [], _ => by simp [txt]
  | p :: R, h => by
    have h1 := smr_len R (fun q hq => h q (by simp [hq]))
    have h2 := recd_sm (h p (by simp)).1 (h p (by simp)).2
    rw [txt_cons, List.length_append, List.length_cons]
    omega
theorem headR_sm {m : Ma} (h : RtM m) : Smr (headR m) := by
  have hn := dec_len h.n2
  have hc := dec_len (n := m.since) (Int.le_trans h.c2 h.n2)
  have hl := dec_len (n := (m.items.length : Int)) (by have := h.len; omega)
  intro p hp
  unfold headR at hp
  split at hp
  · simp only [List.append_nil, List.mem_append, List.mem_cons, List.not_mem_nil, or_false] at hp
    rcases hp with (rfl | rfl | rfl) | rfl
    · exact ⟨by decide, by decide⟩
    · exact ⟨by decide, by decide⟩
    · exact ⟨(by decide : sNext.length ≤ 21), Nat.le_trans hn (by decide)⟩
    · exact ⟨(by decide : sCount.length ≤ 21), Nat.le_trans hl (by decide)⟩
  · simp only [List.mem_append, List.mem_cons, List.not_mem_nil, or_false] at hp
    rcases hp with ((rfl | rfl | rfl) | rfl) | rfl
    · exact ⟨by decide, by decide⟩
    · exact ⟨by decide, by decide⟩
    · exact ⟨(by decide : sNext.length ≤ 21), Nat.le_trans hn (by decide)⟩
    · exact ⟨(by decide : sSince.length ≤ 21), Nat.le_trans hc (by decide)⟩
    · exact ⟨(by decide : sCount.length ≤ 21), Nat.le_trans hl (by decide)⟩
theorem itemR_sm {m : Ma} {x : It} (hm : m.next ≤ 1099511627777) (h : RtI m x) : Smr (itemR x) := by
  have hs := dec_len (n := x.seq) (by have := h.s2; omega)
  have hk := keyE_len h.key
  have hx := hexL_len x.g
  intro p hp
  unfold itemR at hp
  cases hmk : x.mkr with
  | true =>
    obtain ⟨_, hl⟩ := h.mk1 hmk
    rw [hmk, if_pos rfl, hl] at hp
    simp only [metaR, List.map_nil, List.append_nil, List.mem_append, List.mem_cons, List.not_mem_nil, or_false] at hp
    rcases hp with ((rfl | rfl) | rfl) | rfl
    · exact ⟨(by decide : sKey.length ≤ 21), Nat.le_trans hk (by decide)⟩
    · exact ⟨(by decide : sSeq.length ≤ 21), Nat.le_trans hs (by decide)⟩
    · exact ⟨by decide, by decide⟩
    · exact ⟨(by decide : sLeaf.length ≤ 21), Nat.le_of_eq hx⟩
  | false =>
    obtain ⟨z1, z2, z3⟩ := h.mk0 hmk
    rw [hmk, if_neg (by decide)] at hp
    simp only [List.mem_append, List.mem_cons, List.not_mem_nil, or_false] at hp
    rcases hp with (((rfl | rfl) | (rfl | rfl)) | hp) | rfl
    · exact ⟨(by decide : sKey.length ≤ 21), Nat.le_trans hk (by decide)⟩
    · exact ⟨(by decide : sSeq.length ≤ 21), Nat.le_trans hs (by decide)⟩
    · exact ⟨by decide, by decide⟩
    · exact ⟨(by decide : sSize.length ≤ 21), Nat.le_trans (dec_len (n := x.size) (by omega)) (by decide)⟩
    · obtain ⟨q, hq, rfl⟩ := List.mem_map.1 hp
      obtain ⟨g1, g2⟩ := prb_iff ((mtE_iff z3).2.1 q hq)
      have g3 := (small_key g1).2.2.2
      refine ⟨?_, g2⟩
      simp only [List.length_append]
      have : sMeta.length = 5 := rfl
      omega
    · exact ⟨(by decide : sLeaf.length ≤ 21), Nat.le_of_eq hx⟩
theorem mtx_le2 {m : Ma} (h : RtM m) : (mtx m).length ≤ 95 * (6 + 20 * m.items.length) := by
  have h2 := items_len m.items h.it
  have h4 : (headR m).length ≤ 5 := by unfold headR; split <;> simp
  have hS : Smr (recs m) := fun p hp => by
    unfold recs at hp
    simp only [List.mem_append, List.mem_cons, List.not_mem_nil, or_false] at hp
    rcases hp with (hp | hp) | rfl
    · exact headR_sm h p hp
    · obtain ⟨R, hR, hp⟩ := List.mem_flatten.1 hp
      obtain ⟨x, hx, rfl⟩ := List.mem_map.1 hR
      exact itemR_sm h.n2 (h.it x hx) p hp
    · exact ⟨by decide, by decide⟩
  have h1 := smr_len _ hS
  have h5 : (recs m).length ≤ 5 + m.items.length * 20 + 1 := by
    unfold recs
    simp only [List.length_append, List.length_cons, List.length_nil]
    omega
  unfold mtx
  omega
theorem arc_len2 {L : List Vs} {n c : Int} (h : OfR L n c) (hl : L.length ≤ 40) : (arc L n c).length ≤ 1048576 := by
  have h1 := mtx_le2 h.2.2
  have h2 := con_le (n := 0) h.dat
  have h3 : (ofI L).length = L.length := by simp [ofI]
  have hb : (bod L n c).length ≤ 200000 := by
    unfold bod
    rw [List.length_append]
    simp only at h1
    rw [h3] at h1
    omega
  have e1 : (trl (L.map enc) (bod L n c).length).length ≤ 190 := by
    unfold trl
    have a := recd_sm (k := sRoot) (v := rtX (L.map enc)) (by decide) (Nat.le_of_eq (rtX_len _))
    have b := recd_sm (k := sLength) (v := dec ((bod L n c).length : Int)) (by decide) (Nat.le_trans (dec_len (by omega)) (by decide))
    rw [List.length_append]
    omega
  unfold arc
  rw [List.length_append]
  omega
end Go.Proofs.YtcmmbdcflblekaaGreatDoor

/- Made: cut; a list that is laid together out of parts. -/
namespace Go.Proofs.YtcmmbdcflblekaaGreatDoor
set_option maxRecDepth 100000
set_option linter.unusedVariables false
set_option linter.unusedSimpArgs false
open Go.RowKit
open Stk (Rv rcs rcells rcells_append rcells_length rcells_get rcells_one infoV)
attribute [local go_sem ↓] Go.wp_at_zero Go.wp_at_succ Go.Proofs.YtcmmbdcflblekaaGreatDoorP.sl9
theorem alcut_any (s : List UInt8) (n : Nat) (w : World) : Calls Tryz.prog 37 #[str s, .int .i64 (n : Int)] w fun e w' => e = .returned (str (s.take n)) ∧ w' = w := by
  by_cases h : n < s.length
  · have d1 : decide ((n : Int) < (s.length : Int)) = true := decide_eq_true (by omega)
    have d1n : decide (n < s.length) = true := decide_eq_true h
    have hs := fun w => run_take s n (by omega) w
    go_enter Tryz.func37, Tryz.ntmps37
    go_wp2_with fail
    go_ret
    exact ⟨rfl, rfl⟩
  · have d1 : decide ((n : Int) < (s.length : Int)) = false := decide_eq_false (by omega)
    have d1n : decide (n < s.length) = false := decide_eq_false h
    have e : s.take n = s := List.take_of_length_le (by omega)
    rw [e]
    clear e
    go_enter Tryz.func37, Tryz.ntmps37
    go_wp2_with fail
    go_ret
    exact ⟨rfl, rfl⟩
def a7 (s : Int) : Int := bits .and .i64 s 7
theorem a7_eq (s : Int) : bits .and .i64 s 7 = a7 s := rfl
def a10 (s : Int) : Int := bits .and .i64 s 1023
theorem a10_eq (s : Int) : bits .and .i64 s 1023 = a10 s := rfl
theorem and_bd (s : Int) (m : Nat) (hm : m ≤ 1023) : 0 ≤ bits .and .i64 s (m : Int) ∧ bits .and .i64 s (m : Int) ≤ m := by
  have h : (BitVec.ofInt 64 s &&& BitVec.ofInt 64 (m : Int)).toNat ≤ m := by
    rw [BitVec.toNat_and]
    refine Nat.le_trans Nat.and_le_right ?_
    rw [BitVec.toNat_ofInt]
    omega
  have e : bits .and .i64 s (m : Int) = IntKind.i64.wrap ((BitVec.ofInt 64 s &&& BitVec.ofInt 64 (m : Int)).toNat : Int) := rfl
  rw [e]
  generalize (BitVec.ofInt 64 s &&& BitVec.ofInt 64 (m : Int)).toNat = n at h
  have : IntKind.i64.wrap (n : Int) = (n : Int) := by
    rw [IntKind.wrap_i64]
    omega
  rw [this]; omega
theorem a7_bd (s : Int) : 0 ≤ a7 s ∧ a7 s ≤ 7 := and_bd s 7 (by decide)
theorem a10_bd (s : Int) : 0 ≤ a10 s ∧ a10 s ≤ 1023 := and_bd s 1023 (by decide)
noncomputable def slVm (v : Value) (a b c : Option Value) : Sem Value := Instr.slice 22 v a b c
theorem slVme (v : Value) (a b c : Option Value) : Instr.slice 22 v a b c = slVm v a b c := rfl
theorem run_slVm (a : Option Addr) (len cap n : Nat) (h1 : n ≤ cap) (h3 : cap ≤ 9223372036854775807) (hn : a = none → cap = 0) (w : World) : (slVm (.slice a len cap) none (some (.int .i64 (n : Int))) none).run Tryz.prog w = .ok (.slice a n cap) w := by
  unfold slVm
  cases a with
  | none =>
    obtain rfl := hn rfl
    obtain rfl : n = 0 := by omega
    simp [Instr.slice, Tryz.underlying22, go_sem]
  | some ad =>
    simp [Instr.slice, Tryz.underlying22, go_sem]
    intro hc
    omega
theorem run_slVm_lo (a : Option Addr) (len cap n : Nat) (h1 : n ≤ len) (h2 : len ≤ cap) (h3 : cap ≤ 9223372036854775807) (hn : a = none → cap = 0) (w : World) : (slVm (.slice a len cap) (some (.int .i64 (n : Int))) none none).run Tryz.prog w = .ok (.slice (Stk.dropV a cap n) (len - n) (cap - n)) w := by
  unfold slVm
  cases a with
  | none =>
    obtain rfl := hn rfl
    obtain rfl : len = 0 := by omega
    obtain rfl : n = 0 := by omega
    simp [Instr.slice, Tryz.underlying22, go_sem, Stk.dropV]
  | some ad =>
    obtain ⟨i0, hi0, hz0, hz1, hz2⟩ := infoV
    have c : ¬ ((len : Int) < (n : Int)) := by omega
    have c2 : ¬ ((cap : Int) < (len : Int)) := by omega
    by_cases h : cap - n = 0
    · have : cap = n := by omega
      subst this
      have : len = cap := by omega
      subst this
      simp [Instr.slice, Tryz.underlying22, go_sem, Stk.dropV, c, c2, hi0, hz1, sizeOf, typeInfo]
    · have h' : cap ≠ n := by omega
      simp [Instr.slice, Tryz.underlying22, go_sem, Stk.dropV, h, h', h1, c, c2, hi0, hz1, sizeOf, typeInfo]
/-- a list of one's own since W0; its pairs stand since -/
structure Lv (W0 w : World) (v : Value) (R : List Rv) : Prop where
  own : w.ownsRow W0.heap.size 54 5 v R.length (rcells R)
  bel : Below W0.heap.size W0 w
  met : ∀ r ∈ R, r.z = [] ∧ Sl W0 r.a r.c r.v.l
theorem Lv.later {W0 w w' : World} {v : Value} {R : List Rv} (h : Lv W0 w v R) (hb : Below w.heap.size w w') : Lv W0 w' v R := ⟨own_later h.own hb, h.bel.trans (hb.mono h.bel.size), h.met⟩
theorem Lv.nil (w : World) : Lv w w (.slice none 0 0) [] := ⟨World.ownsRow_nil _ _ _ _, Below.refl _ _, fun r h => by simp at h⟩
theorem Lv.sl {W0 w : World} {v : Value} {R : List Rv} (h : Lv W0 w v R) : ∃ a c, v = .slice a R.length c ∧ R.length ≤ c ∧ c ≤ 9223372036854775807 ∧ (a = none → c = 0) ∧ (∀ j u, (rcells R)[j]? = some u → ∃ g, a = some ⟨g, 0, none⟩ ∧ g < w.heap.size ∧ w.cell? ⟨g, j, none⟩ = some u) := by
  rcases h.own.2 with ⟨rfl, h0⟩ | ⟨g, cap, cur, rfl, h2, h3, h4, h5, _⟩
  · refine ⟨none, 0, by rw [h0], by omega, by omega, fun _ => rfl, fun j u hj => ?_⟩
    have : R = [] := List.eq_nil_of_length_eq_zero h0
    subst this
    simp [rcells] at hj
  · refine ⟨_, cap, rfl, h4, h5, (fun q => by cases q), fun j u hj => ⟨g, rfl, lt_of_block h3, ?_⟩⟩
    have := rcells_length R
    have hlt := (List.getElem?_eq_some_iff.1 hj).1
    rw [h.own.cellAt j (by omega)]
    exact hj
theorem Lv.vin {W0 w : World} {a : Option Addr} {n c : Nat} {R : List Rv} (h : Lv W0 w (.slice a n c) R) : VIn w a (R.map (·.v)) := by
  obtain ⟨a', c', e, h1, h2, h3, h4⟩ := h.sl
  injection e with e1 e2 e3
  subst e1 e3
  refine ⟨fun k v hk => ?_⟩
  rw [List.getElem?_map] at hk
  cases hr : R[k]? with
  | none => rw [hr] at hk; cases hk
  | some r =>
    rw [hr] at hk
    simp at hk
    subst hk
    have hc : ∀ j u, j < 5 → (rcs r)[j]? = some u → ∃ g, a = some ⟨g, 0, none⟩ ∧ g < w.heap.size ∧ w.cell? ⟨g, k * 5 + j, none⟩ = some u := fun j u hj hu => h4 _ _ (by rw [rcells_get hr j hj]; exact hu)
    obtain ⟨g, e0, hg, c0⟩ := hc 0 _ (by omega) rfl
    subst e0
    have hd : ∀ j u, j < 5 → (rcs r)[j]? = some u → w.cell? ⟨g, 0 + k * 5 + j, none⟩ = some u := fun j u hj hu => by
      obtain ⟨g', e1, _, c1⟩ := hc j u hj hu
      injection e1 with e1
      injection e1 with e1
      subst e1
      rw [Nat.zero_add]
      exact c1
    obtain ⟨m1, m2⟩ := h.met r (List.mem_of_getElem? hr)
    exact ⟨g, 0, r.a, r.c, rfl, hg, by have := hd 0 _ (by omega) rfl; exact this, hd 1 _ (by omega) rfl, hd 2 _ (by omega) rfl, hd 3 _ (by omega) rfl, hd 4 _ (by omega) rfl, m2.later h.bel⟩
/-- a list laid behind another -/
theorem run_lvs {W0 W : World} {v : Value} {R R2 : List Rv} (ty : TypeId) {ad : Option Addr} {c : Nat} (f1 : Lv W0 W v R) (hnil : ad = none → c = 0) (hc : ∀ j u, (rcells R2)[j]? = some u → ∃ b off, ad = some ⟨b, off, none⟩ ∧ W.cell? ⟨b, off + j, none⟩ = some u) (hm : ∀ r ∈ R2, r.z = [] ∧ Sl W0 r.a r.c r.v.l) (hn : R.length + R2.length ≤ 1954687338260) :
    ∃ v' w', (Builtin.append_ #[22, 22] ty #[v, .slice ad R2.length c]).run Tryz.prog W = .ok v' w' ∧ Lv W0 w' v' (R ++ R2) ∧ Below W0.heap.size W w' := by
  obtain ⟨i0, hi0, hz0, hz1, hz2⟩ := infoV
  have hmx : maxLen = 9223372036854775807 := rfl
  have hM : ∀ r ∈ R ++ R2, r.z = [] ∧ Sl W0 r.a r.c r.v.l := fun r hr => by
    rcases List.mem_append.1 hr with h | h
    · exact f1.met r h
    · exact hm r h
  have hle := f1.bel.size
  rcases Nat.eq_zero_or_pos R2.length with h0 | h0
  · have hq : R2 = [] := List.eq_nil_of_length_eq_zero h0
    subst hq
    cases ad with
    | none =>
      obtain rfl := hnil rfl
      exact ⟨v, W, run_append_owned_none (P := Tryz.prog) W W0.heap.size 22 ty 54 i0 5 Tryz.underlying22 hi0 _ R.length (rcells R) f1.own, by rw [List.append_nil]; exact f1, Below.refl _ _⟩
    | some p =>
      obtain ⟨v', w', hr, hown, hgrow, _⟩ := run_append_own_wide (P := Tryz.prog) (w := W) W0.heap.size 22 ty 54 i0 _ 5 72 Tryz.underlying22 hi0 hz0 hz1 hz2 rfl (by omega) v R.length (rcells R) f1.own p 0 c [] rfl (by simp) (by simp) (by rw [hmx]; omega) (by omega) hle
      have hg := grown_below f1.own hle hgrow
      exact ⟨v', w', hr, ⟨by simpa using hown, f1.bel.trans hg, hM⟩, hg⟩
  · have hlen := rcells_length R2
    obtain ⟨u, hu⟩ : ∃ u, (rcells R2)[0]? = some u := ⟨(rcells R2)[0]'(by omega), List.getElem?_eq_getElem (by omega)⟩
    obtain ⟨b, off, rfl, _⟩ := hc 0 u hu
    obtain ⟨gg, cap2, w', hr, hown, hgrow, hat, hlt⟩ := run_append_lies (P := Tryz.prog) (w := W) 22 ty W0.heap.size 54 i0 _ 5 72 Tryz.underlying22 hi0 hz0 hz1 hz2 rfl (by omega) v R.length (rcells R) f1.own ⟨b, off, none⟩ R2.length c (rcells R2) hlen (fun j x hj => by
      obtain ⟨b', off', e, k⟩ := hc j x hj
      injection e with e
      injection e with e1 e2
      subst e1 e2
      rw [addr_add]
      exact k) (rcells_one R2) h0 (by rw [hmx]; omega) (by omega) hle _ rfl
    have hg := grown_below f1.own hle hgrow
    refine ⟨_, w', hr, ⟨?_, f1.bel.trans hg, hM⟩, hg⟩
    rw [rcells_append, List.length_append]; exact hown
/-- the front of a list, and what stands behind it, as lists that are laid behind -/
theorem Lv.front {W0 w : World} {a : Option Addr} {n c : Nat} {R : List Rv} (h : Lv W0 w (.slice a n c) R) (k : Nat) : ∀ j u, (rcells (R.take k))[j]? = some u → ∃ b off, a = some ⟨b, off, none⟩ ∧ b < w.heap.size ∧ w.cell? ⟨b, off + j, none⟩ = some u := fun j u hj => by
  obtain ⟨a', c', e, h1, h2, h3, h4⟩ := h.sl
  injection e with e1 e2 e3
  subst e1 e3
  have hlt := (List.getElem?_eq_some_iff.1 hj).1
  have e9 : rcells R = rcells (R.take k) ++ rcells (R.drop k) := by rw [← rcells_append, List.take_append_drop]
  obtain ⟨g, q1, q2, q3⟩ := h4 j u (by rw [e9, List.getElem?_append_left hlt]; exact hj)
  exact ⟨g, 0, q1, q2, by rw [Nat.zero_add]; exact q3⟩
theorem Lv.back {W0 w : World} {a : Option Addr} {n c : Nat} {R : List Rv} (h : Lv W0 w (.slice a n c) R) (k : Nat) (hk : k ≤ R.length) : ∀ j u, (rcells (R.drop k))[j]? = some u → ∃ b off, Stk.dropV a c k = some ⟨b, off, none⟩ ∧ b < w.heap.size ∧ w.cell? ⟨b, off + j, none⟩ = some u := fun j u hj => by
  obtain ⟨a', c', e, h1, h2, h3, h4⟩ := h.sl
  injection e with e1 e2 e3
  subst e1 e3
  have hlt := (List.getElem?_eq_some_iff.1 hj).1
  rw [rcells_length, List.length_drop] at hlt
  have e9 : rcells R = rcells (R.take k) ++ rcells (R.drop k) := by rw [← rcells_append, List.take_append_drop]
  have hl : (rcells (R.take k)).length = k * 5 := by rw [rcells_length, List.length_take]; omega
  obtain ⟨g, q1, q2, q3⟩ := h4 (k * 5 + j) u (by rw [e9, List.getElem?_append_right (by omega), hl, show k * 5 + j - k * 5 = j by omega]; exact hj)
  refine ⟨g, k * 5, ?_, q2, q3⟩
  rw [q1]
  show (if c - k = 0 then _ else _) = _
  rw [if_neg (by omega), addr_add, Nat.zero_add]
theorem dropV_nil {a : Option Addr} {c k : Nat} (h : a = none → c = 0) : Stk.dropV a c k = none → c - k = 0 := fun q => by
  cases a with
  | none => have := h rfl; omega
  | some ad =>
    unfold Stk.dropV at q
    simp only at q
    split at q <;> cases q
/-- one version behind a list -/
theorem run_lv1 {W0 W : World} {v : Value} {R : List Rv} (r : Rv) (f1 : Lv W0 W v R) (hm : r.z = [] ∧ Sl W0 r.a r.c r.v.l) (hn : R.length ≤ 1000000000) :
    ∃ g' c' w', (∀ ty, (Builtin.append_ #[22, 22] ty #[v, .slice (some ⟨W.heap.size, 0, none⟩) 1 1]).run Tryz.prog (W.alloc (.cells (rcs r).toArray 54)) = .ok (.slice (some ⟨g', 0, none⟩) (R.length + 1) c') w') ∧ Lv W0 w' (.slice (some ⟨g', 0, none⟩) (R.length + 1) c') (R ++ [r]) ∧ Below W0.heap.size W w' := by
  obtain ⟨g', c', w', hr, hown, hb, _⟩ := run_av r f1.own f1.bel.size hn
  refine ⟨g', c', w', hr, ⟨by rw [List.length_append]; exact hown, f1.bel.trans hb, fun x hx => ?_⟩, hb⟩
  rcases List.mem_append.1 hx with h | h
  · exact f1.met x h
  · simp at h; subst h; exact hm
/-- a box with a version -/
def B5v (w : World) (g : Nat) (key : List UInt8) (seq : Int) (mkr : Bool) (data : List UInt8) (m : Value) : Prop := w.heap[g]? = some (.cells #[str key, .int .i64 seq, .bool mkr, str data, m] 54 (0, 0))
theorem B5v.new (w : World) (key : List UInt8) (seq : Int) (mkr : Bool) (data : List UInt8) (m : Value) : B5v (w.alloc (.cells #[str key, .int .i64 seq, .bool mkr, str data, m] 54)) w.heap.size key seq mkr data m := heap_alloc_new _ _
theorem B5v.lt {w : World} {g : Nat} {key : List UInt8} {seq : Int} {mkr : Bool} {data : List UInt8} {m : Value} (h : B5v w g key seq mkr data m) : g < w.heap.size := lt_of_block h
theorem B5v.later {w w' : World} {g : Nat} {key : List UInt8} {seq : Int} {mkr : Bool} {data : List UInt8} {m : Value} (h : B5v w g key seq mkr data m) (hb : Below w.heap.size w w') : B5v w' g key seq mkr data m := (hb.block g h.lt).trans h
theorem B5v.oth {w w' : World} {g : Nat} {key : List UInt8} {seq : Int} {mkr : Bool} {data : List UInt8} {m : Value} (h : B5v w g key seq mkr data m) (e : w'.heap[g]? = w.heap[g]?) : B5v w' g key seq mkr data m := e.trans h
theorem B5v.cells {w : World} {g : Nat} {key : List UInt8} {seq : Int} {mkr : Bool} {data : List UInt8} {m : Value} (h : B5v w g key seq mkr data m) : w.cell? ⟨g, 0, none⟩ = some (str key) ∧ w.cell? ⟨g, 1, none⟩ = some (.int .i64 seq) ∧ w.cell? ⟨g, 2, none⟩ = some (.bool mkr) ∧ w.cell? ⟨g, 3, none⟩ = some (str data) ∧ w.cell? ⟨g, 4, none⟩ = some m := by
  refine ⟨?_, ?_, ?_, ?_, ?_⟩ <;> (rw [cell_of_row _ _ _ _ _ _ h]; rfl)
theorem B5v.fz {w : World} {g : Nat} {key : List UInt8} {seq : Int} {mkr : Bool} {data : List UInt8} {m : Value} (h : B5v w g key seq mkr data m) (j : Nat) : w.frozen? ⟨g, j, none⟩ = false := frozen_of_row _ _ _ _ _ h
theorem B5v.set3 {w : World} {g : Nat} {key : List UInt8} {seq : Int} {mkr : Bool} {data : List UInt8} {m : Value} (h : B5v w g key seq mkr data m) (d : List UInt8) : B5v (w.setCell ⟨g, 3, none⟩ (str d)) g key seq mkr d m := by unfold B5v; rw [heap_setCell_same _ _ _ _ _ _ h]; rfl
theorem B5v.set4 {w : World} {g : Nat} {key : List UInt8} {seq : Int} {mkr : Bool} {data : List UInt8} {m : Value} (h : B5v w g key seq mkr data m) (m' : Value) : B5v (w.setCell ⟨g, 4, none⟩ m') g key seq mkr data m' := by unfold B5v; rw [heap_setCell_same _ _ _ _ _ _ h]; rfl
end Go.Proofs.YtcmmbdcflblekaaGreatDoor
