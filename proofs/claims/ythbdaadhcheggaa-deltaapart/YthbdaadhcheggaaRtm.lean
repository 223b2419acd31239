/- What stays right. -/
import Derived.Test.YthbdaadhcheggaaGc
import Derived.Test.YthbdaadhcheggaaQrg
namespace Go.Proofs.Ythbdaadhcheggaa
set_option linter.unusedVariables false
set_option linter.unusedSimpArgs false
open Go.RowKit
def szN (v : Vs) : Nat := 32 + v.key.length + v.data.length + tt v.l
def sN (L : List Vs) : Nat := (L.map szN).sum
theorem sN_append (a b : List Vs) : sN (a ++ b) = sN a + sN b := by simp [sN]
theorem szV_eq (v : Vs) : szV v = wrap64 (szN v : Int) := rfl
theorem tt_le {l : List En} (h : ∀ p ∈ l, prb p = true) : tt l ≤ 80 * l.length := by
  induction l with
  | nil => simp [tt]
  | cons p t ih =>
    have h1 := ih fun q hq => h q (List.mem_cons_of_mem _ hq)
    have h2 := h p List.mem_cons_self
    unfold prb smN at h2
    simp at h2
    have : tt (p :: t) = p.key.length + p.val.length + tt t := by simp [tt]
    rw [this, List.length_cons]
    omega
theorem vr_size {v : Vs} (h : vrV v = 0) : szN v ≤ 2000 := by
  obtain ⟨⟨h1, h2, h3⟩, _⟩ := vrV_iff.1 h
  unfold keyE at h1
  unfold datE at h2
  unfold mtE at h3
  split at h1
  · split at h2
    · split at h3
      · rename_i q1 q2 q3
        have := tt_le q3.2.1
        unfold szN
        omega
      · omega
    · omega
  · omega
theorem wr_small {x : Int} (h0 : 0 ≤ x) (h : x ≤ 1000000000) : wrap64 x = x := by unfold wrap64; omega
theorem foldl_sz : ∀ (L : List Vs) (s : Nat), (∀ v ∈ L, szN v ≤ 2000) → s + 2000 * L.length ≤ 1000000000 → L.foldl (fun s v => wrap64 (s + szV v)) (s : Int) = ((s + sN L : Nat) : Int)
  | [], s, _, _ => by simp [sN]
  | v :: t, s, h, hs => by
    have hv := h v List.mem_cons_self
    rw [List.length_cons] at hs
    have e : wrap64 ((s : Int) + szV v) = ((s + szN v : Nat) : Int) := by
      rw [szV_eq]
      have e1 : wrap64 (szN v : Int) = (szN v : Int) := by unfold wrap64; omega
      rw [e1]
      unfold wrap64
      omega
    rw [List.foldl_cons, e, foldl_sz t (s + szN v) (fun u hu => h u (List.mem_cons_of_mem _ hu)) (by omega)]
    have : sN (v :: t) = szN v + sN t := by simp [sN]
    rw [this]
    congr 1
    omega
theorem bw_eq {L : List Vs} (h : ∀ v ∈ L, vrV v = 0) (hl : L.length ≤ 300) : bw L = (sN L : Int) := by
  have := foldl_sz L 0 (fun v hv => vr_size (h v hv)) (by omega)
  rw [Nat.zero_add] at this
  exact this
/-- behind the versions of a key stands another key -/
theorem ken_stop : ∀ {L : List Vs} {k : List UInt8} {u : Vs}, L[ken L k]? = some u → ¬ u.key = k
  | [], _, _, h => by simp at h
  | v :: t, k, u, h => by
    rw [ken_cons] at h
    split at h
    · exact ken_stop (L := t) (by simpa using h)
    · rename_i q
      simp at h
      subst h
      exact q
theorem parts (L : List Vs) (i : Nat) (k : List UInt8) : L = L.take i ++ gpL L i k ++ L.drop (i + ken (L.drop i) k) := by
  unfold gpL
  rw [List.append_assoc, ← List.drop_drop, List.take_append_drop, List.take_append_drop]
theorem mem_front {L : List Vs} {k : List UInt8} {v : Vs} (h : v ∈ L.take (fndV L k)) : lt v.key k := by
  obtain ⟨j, hj⟩ := List.mem_iff_getElem?.1 h
  rw [List.getElem?_take] at hj
  split at hj
  · rename_i q
    exact fndV_lt q hj
  · cases hj
theorem mem_group {L : List Vs} {i : Nat} {k : List UInt8} {v : Vs} (h : v ∈ gpL L i k) : v.key = k := by
  unfold gpL at h
  obtain ⟨j, hj⟩ := List.mem_iff_getElem?.1 h
  rw [List.getElem?_take] at hj
  split at hj
  · rename_i q
    exact ken_key q hj
  · cases hj
theorem mem_back {L : List Vs} (hs : SrtV L) {k : List UInt8} {v : Vs} (h : v ∈ L.drop (fndV L k + ken (L.drop (fndV L k)) k)) : lt k v.key := by
  obtain ⟨j, hj⟩ := List.mem_iff_getElem?.1 h
  rw [List.getElem?_drop] at hj
  have hlt := (List.getElem?_eq_some_iff.1 hj).1
  have hst : ∀ u, L[fndV L k + ken (L.drop (fndV L k)) k]? = some u → ¬ u.key = k := fun u hu => ken_stop (L := L.drop (fndV L k)) (by rw [List.getElem?_drop]; exact hu)
  generalize hJ : fndV L k + ken (L.drop (fndV L k)) k = J at *
  have hge : fndV L k ≤ J := by omega
  clear hJ
  obtain ⟨u, hu⟩ : ∃ u, L[J]? = some u := ⟨L[J]'(by omega), List.getElem?_eq_getElem _⟩
  have h1 := fndV_ge hs hge hu
  have h2 := hst u hu
  have h3 : lt k u.key := by
    rcases tri k u.key with q | q | q
    · exact q
    · exact absurd q.symm h2
    · exact absurd q h1
  have h4 := hs.le (Nat.le_add_right J j) hu hj
  rcases tri u.key v.key with q | q | q
  · exact bcmp_trans h3 q
  · rw [← q]; exact h3
  · exact absurd q h4
/-- a version more -/
theorem RtB.put {next : Int} {L : List Vs} {v : Vs} (h : RtB next L) (hr : rfE next L v = 0) (hv : v.seq = next) :
    puE (gpL L (fndV L v.key) v.key) v = 0 ∧ RtB (next + 1) (L.take (fndV L v.key) ++ puL (gpL L (fndV L v.key) v.key) v ++ L.drop (fndV L v.key + ken (L.drop (fndV L v.key)) v.key)) := by
  obtain ⟨r1, r2, r3, r4⟩ := rfE_zero hr
  have hp : puE (gpL L (fndV L v.key) v.key) v = 0 := by
    cases hl : lastV (gpL L (fndV L v.key) v.key) with
    | none => unfold puE; rw [hl]; simp only; rw [if_neg (by have := h.n1; omega)]
    | some u =>
      have hm : u ∈ gpL L (fndV L v.key) v.key := List.mem_of_getLast? hl
      have hmL : u ∈ L := by rw [parts L (fndV L v.key) v.key]; simp [hm]
      have hok := h.ok u hmL
      exact puE_ok hl (mem_group hm) (by have := hok.2.1; have := h.n1; omega)
  refine ⟨hp, ?_⟩
  have hpu : puL (gpL L (fndV L v.key) v.key) v = gpL L (fndV L v.key) v.key ++ [v] := by unfold puL; rw [if_pos hp]
  rw [hpu]
  have hP := parts L (fndV L v.key) v.key
  have fA := fun u (hu : u ∈ L.take (fndV L v.key)) => mem_front hu
  have fG := fun u (hu : u ∈ gpL L (fndV L v.key) v.key) => mem_group hu
  have fD := fun u (hu : u ∈ L.drop (fndV L v.key + ken (L.drop (fndV L v.key)) v.key)) => mem_back h.srt hu
  generalize L.take (fndV L v.key) = A at *
  generalize gpL L (fndV L v.key) v.key = G at *
  generalize L.drop (fndV L v.key + ken (L.drop (fndV L v.key)) v.key) = D at *
  have hperm : (A ++ (G ++ [v]) ++ D).Perm (v :: L) := by
    rw [hP]
    have : (A ++ (G ++ [v]) ++ D) = (A ++ G) ++ v :: D := by simp
    rw [this]
    exact List.perm_middle
  have hlen : (A ++ (G ++ [v]) ++ D).length = L.length + 1 := by rw [hperm.length_eq, List.length_cons]
  have hok : ∀ u ∈ A ++ (G ++ [v]) ++ D, VOk (next + 1) u := fun u hu => by
    rcases List.mem_cons.1 (hperm.mem_iff.1 hu) with rfl | q
    · exact ⟨by have := h.n1; omega, by omega, r1⟩
    · have := h.ok u q
      exact ⟨this.1, by have := this.2.1; omega, this.2.2⟩
  refine ⟨by have := h.n1; omega, by omega, by rw [hlen]; omega, hok, ?_, ?_, ?_⟩
  · have hs := h.srt
    rw [hP] at hs
    unfold SrtV at hs ⊢
    rw [List.pairwise_append] at hs
    obtain ⟨s1, s2, s3⟩ := hs
    rw [List.pairwise_append] at s1
    obtain ⟨s4, s5, s6⟩ := s1
    rw [List.pairwise_append, List.pairwise_append, List.pairwise_append]
    refine ⟨⟨s4, ⟨s5, List.pairwise_singleton _ _, fun a ha b hb => ?_⟩, fun a ha b hb => ?_⟩, s2, fun a ha b hb => ?_⟩
    · simp at hb
      subst hb
      have := h.ok a (by rw [hP]; simp [ha])
      exact .inr ⟨fG a ha, by have := this.2.1; omega⟩
    · rcases List.mem_append.1 hb with q | q
      · exact s6 a ha b q
      · simp at q
        subst q
        exact .inl (fA a ha)
    · rcases List.mem_append.1 ha with q | q
      · exact s3 a (List.mem_append_left _ q) b hb
      · rcases List.mem_append.1 q with q | q
        · exact s3 a (List.mem_append_right _ q) b hb
        · simp at q
          subst q
          exact .inl (fD b hb)
  · rw [(hperm.map (·.seq)).nodup_iff, List.map_cons, List.nodup_cons]
    refine ⟨fun hm => ?_, h.nod⟩
    obtain ⟨u, hu, e⟩ := List.mem_map.1 hm
    exact absurd (e.trans hv) (Int.ne_of_lt (h.ok u hu).2.1)
  · clear fA fG fD hp hpu
    have e1 : bw L = (sN L : Int) := bw_eq (fun u hu => (h.ok u hu).2.2) (by omega)
    have e2 : bw (A ++ (G ++ [v]) ++ D) = (sN (A ++ (G ++ [v]) ++ D) : Int) := bw_eq (fun u hu => (hok u hu).2.2) (by rw [hlen]; omega)
    have e3 : sN (A ++ (G ++ [v]) ++ D) = sN L + szN v := by
      rw [hP]
      simp only [sN_append]
      have : sN [v] = szN v := by simp [sN]
      omega
    have hsz := vr_size r1
    have hb := h.byt
    have hsl : sN L ≤ 65536 := by rw [e1] at hb; exact Int.ofNat_le.1 hb
    have e4 : szV v = (szN v : Int) := by
      rw [szV_eq]
      exact wr_small (Int.natCast_nonneg _) (Int.le_trans (Int.ofNat_le.2 hsz) (by decide))
    have e5 : wrap64 (bw L + szV v) = bw L + szV v := by
      rw [e1, e4, ← Int.natCast_add]
      exact wr_small (Int.natCast_nonneg _) (Int.le_trans (Int.ofNat_le.2 (Nat.add_le_add hsl hsz)) (by decide))
    rw [e2, e3, Int.natCast_add, ← e1, ← e4, ← e5]
    exact r4
theorem sub_sum {a b : List Nat} (h : a.Sublist b) : a.sum ≤ b.sum := by
  induction h with
  | slnil => simp
  | cons x _ ih => simp; omega
  | cons_cons x _ ih => simp; omega
/-- a part of it -/
theorem RtB.sub {next : Int} {L M : List Vs} (h : RtB next L) (hs : M.Sublist L) : RtB next M := by
  have hl := hs.length_le
  have hle := h.len
  refine ⟨h.n1, h.n2, by omega, fun v hv => h.ok v (hs.subset hv), h.srt.sublist hs, h.nod.sublist (hs.map _), ?_⟩
  rw [bw_eq (fun u hu => (h.ok u (hs.subset hu)).2.2) (by omega)]
  have hb := h.byt
  rw [bw_eq (fun u hu => (h.ok u hu).2.2) (by omega)] at hb
  have : sN M ≤ sN L := sub_sum (hs.map szN)
  omega
theorem rmL_sub (G : List Vs) (s : Int) : (rmL G s).Sublist G := by
  unfold rmL
  split
  · exact List.nil_sublist _
  · rename_i k _
    have e : G = G.take k ++ G.drop k := (List.take_append_drop k G).symm
    conv => rhs; rw [e]
    refine List.Sublist.append (List.Sublist.refl _) ?_
    rw [← List.drop_drop]
    exact List.drop_sublist _ _
theorem RtB.rem {next : Int} {L : List Vs} (h : RtB next L) (i : Nat) (k : List UInt8) (s : Int) : RtB next (L.take i ++ rmL (gpL L i k) s ++ L.drop (i + ken (L.drop i) k)) := by
  refine h.sub ?_
  conv => rhs; rw [parts L i k]
  exact List.Sublist.append (List.Sublist.append (List.Sublist.refl _) (rmL_sub _ _)) (List.Sublist.refl _)
end Go.Proofs.Ythbdaadhcheggaa
