import Derived.Test.YtcbajnajamjcnaaBq
import Derived.Deep.QuietTactic
import Derived.Test.YtcbajnajamjcnaaGj
import Derived.Test.YtcbajnajamjcnaaQrt
import Derived.Test.YtcbajnajamjcnaaMdb
import Derived.Test.YtcbajnajamjcnaaRwW
import Derived.Deep.CutRange
/- The document's SameMeta and SameVersion. -/
namespace Go.Proofs.Ytcbajnajamjcnaa
set_option linter.unusedVariables false
set_option linter.unusedSimpArgs false
open Go.RowKit
attribute [local go_sem ↓] Go.wp_at_zero Go.wp_at_succ
noncomputable def smP (a b : List En) : Bool := by classical exact decide (a = b)
theorem smP_true {a b : List En} (h : a = b) : smP a b = true := by unfold smP; simp [h]
theorem smP_false {a b : List En} (h : ¬ a = b) : smP a b = false := by unfold smP; simp [h]
set_option maxHeartbeats 4000000 in
theorem qSameMeta_any (l l' : List En) (w : World) (a : Option Addr) (n cap : Nat) (hn : l.length = n) (hP : PIn w a l) (hz : l.length ≤ 9223372036854775806) (a' : Option Addr) (n' cap' : Nat) (hn' : l'.length = n') (hP' : PIn w a' l') (hz' : l'.length ≤ 9223372036854775806) :
    Calls Try.prog 42 #[.slice a n cap, .slice a' n' cap'] w fun e w' => e = .returned (.bool (smP l l')) ∧ Below w.heap.size w w' := by
  subst hn hn'
  by_cases h5 : l.length = l'.length
  · have d5 : ((l.length : Int) != (l'.length : Int)) = false := by rw [bne_eq_false_iff_eq]; omega
    have HL := Hid.mk h5
    clear h5
    have HS1 : Hid (l = l' → smP l l' = true) := ⟨smP_true⟩
    have HS2 : Hid (¬ l = l' → smP l l' = false) := ⟨smP_false⟩
    generalize smP l l' = SV at *
    go_enter Try.func42, Try.ntmps42
    go_wp2_with fail
    go_loopw [5] (fun i wr => ∃ k : Nat, k ≤ l.length ∧ i = .int .i64 (k : Int) ∧ l.take k = l'.take k ∧ Hid (Below w.heap.size w wr)) (fun i _ => l.length - (intOf i).toNat)
    case atStart => exact ⟨0, by omega, rfl, by simp, ⟨Below.refl _ _⟩⟩
    case round =>
      obtain ⟨k, hk, rfl, hab, HB⟩ := hrel
      have hbe := HB.out
      by_cases h1 : k < l.length
      · have d1 : decide ((k : Int) < (l.length : Int)) = true := decide_eq_true (by omega)
        have k1 : (k : Int) < (l.length : Int) := by omega
        have h2 : k < l'.length := by rw [← HL.out]; exact h1
        have k2 : (k : Int) < (l'.length : Int) := by omega
        obtain ⟨p, hp⟩ : ∃ p, l[k]? = some p := ⟨l[k], List.getElem?_eq_getElem h1⟩
        obtain ⟨b1, off1, rfl, hbl, c0, c1⟩ := (hP.later hbe).get k p hp
        obtain ⟨q, hq⟩ : ∃ q, l'[k]? = some q := ⟨l'[k], List.getElem?_eq_getElem h2⟩
        obtain ⟨b2, off2, rfl, hbl2, e0, e1⟩ := (hP'.later hbe).get k q hq
        by_cases hpq : p = q
        · subst hpq
          have HT : Hid (l.take (k + 1) = l'.take (k + 1)) := ⟨take_nextV hp hq hab⟩
          clear hab
          go_wp2_with fail
          go_quiet (fail)
          go_wp2_with fail
          exact ⟨⟨k + 1, by omega, by go_num, HT.out, ⟨below_dN HB.out nq⟩⟩, by simp [intOf]; omega⟩
        · have HS : Hid (SV = false) := ⟨HS2.out (take_neV hp hq hpq)⟩
          clear hab
          obtain ⟨pk, pt⟩ := p
          obtain ⟨qk, qt⟩ := q
          dsimp only at *
          by_cases h3 : pk = qk
          · subst h3
            have d5 : (pt == qt) = false := by rw [beq_eq_false_iff_ne]; rintro rfl; exact hpq rfl
            clear hpq
            go_wp2_with fail
            go_quiet (fail)
            go_wp2_with fail
            go_ret
            exact ⟨by rw [HS.out]; rfl, below_dN hbe nq⟩
          · have d5 : (pk == qk) = false := by rw [beq_eq_false_iff_ne]; exact h3
            clear hpq
            go_wp2_with fail
            go_quiet (fail)
            go_wp2_with fail
            go_ret
            exact ⟨by rw [HS.out]; rfl, below_dN hbe nq⟩
      · obtain rfl : k = l.length := by omega
        have d1 : decide ((l.length : Int) < (l.length : Int)) = false := decide_eq_false (by omega)
        have HS : Hid (SV = true) := ⟨HS1.out (by
          have e := hab
          rw [List.take_length] at e
          rw [HL.out, List.take_length] at e
          exact e)⟩
        clear hab
        go_wp2_with fail
        go_ret
        exact ⟨by rw [HS.out]; rfl, hbe⟩
  · have HS : Hid (smP l l' = false) := ⟨smP_false (by rintro rfl; exact h5 rfl)⟩
    generalize smP l l' = SV at *
    have d5 : ((l.length : Int) != (l'.length : Int)) = true := by rw [bne_iff_ne]; omega
    clear h5
    go_enter Try.func42, Try.ntmps42
    go_wp2_with fail
    go_ret
    exact ⟨by rw [HS.out]; rfl, Below.refl _ _⟩
set_option maxHeartbeats 4000000 in
theorem qSameVersion_any (v u : Vs) (w : World) (a : Option Addr) (n cap : Nat) (hn : v.l.length = n) (hP : PIn w a v.l) (hz : v.l.length ≤ 9223372036854775806) (a' : Option Addr) (n' cap' : Nat) (hn' : u.l.length = n') (hP' : PIn w a' u.l) (hz' : u.l.length ≤ 9223372036854775806) :
    Calls Try.prog 19 #[vv v.key v.seq v.mkr v.data a n cap, vv u.key u.seq u.mkr u.data a' n' cap'] w fun e w' => e = .returned (.bool (sv v u)) ∧ Below w.heap.size w w' := by
  subst hn hn'
  have b1 := (Below.refl w.heap.size w).alloc (Nat.le_refl _) (.cells #[str v.key, .int .i64 v.seq, .bool v.mkr, str v.data, .slice a v.l.length cap] 32)
  have b2 := b1.alloc b1.size (.cells #[str u.key, .int .i64 u.seq, .bool u.mkr, str u.data, .slice a' u.l.length cap'] 32)
  clear b1
  have hc := qSameMeta_any v.l u.l _ a _ cap rfl (hP.later b2) hz a' _ cap' rfl (hP'.later b2) hz'
  clear hP hP' hz hz'
  obtain ⟨key, seq, mk, data, l⟩ := v
  obtain ⟨key', seq', mk', data', l'⟩ := u
  simp only at *
  by_cases h1 : key = key'
  · subst h1
    by_cases h2 : seq = seq'
    · subst h2
      by_cases h3 : mk = mk'
      · subst h3
        by_cases h4 : data = data'
        · subst h4
          have HS : Hid (sv ⟨key, seq, mk, data, l⟩ ⟨key, seq, mk, data, l'⟩ = smP l l') := ⟨by
            by_cases h : l = l'
            · rw [sv_true (by rw [h]), smP_true h]
            · rw [sv_false (by intro q; injection q with _ _ _ _ q; exact h q), smP_false h]⟩
          generalize smP l l' = SM at *
          go_enter Try.func19, Try.ntmps19
          go_wp2_with (go_at_call 42; refine hc.mono ?_; rintro e w3 ⟨rfl, b3⟩)
          go_ret
          exact ⟨by rw [HS.out]; rfl, below_seq b2 b3⟩
        · have HS : Hid (sv ⟨key, seq, mk, data, l⟩ ⟨key, seq, mk, data', l'⟩ = false) := ⟨sv_false (by intro q; injection q with _ _ _ q; exact h4 q)⟩
          have d5 : (data == data') = false := by rw [beq_eq_false_iff_ne]; exact h4
          clear h4 hc
          go_enter Try.func19, Try.ntmps19
          go_wp2_with fail
          go_ret
          exact ⟨by rw [HS.out]; rfl, b2⟩
      · have HS : Hid (sv ⟨key, seq, mk, data, l⟩ ⟨key, seq, mk', data', l'⟩ = false) := ⟨sv_false (by intro q; injection q with _ _ q; exact h3 q)⟩
        have d5 : (mk == mk') = false := by rw [beq_eq_false_iff_ne]; exact h3
        clear h3 hc
        go_enter Try.func19, Try.ntmps19
        go_wp2_with fail
        go_ret
        exact ⟨by rw [HS.out]; rfl, b2⟩
    · have HS : Hid (sv ⟨key, seq, mk, data, l⟩ ⟨key, seq', mk', data', l'⟩ = false) := ⟨sv_false (by intro q; injection q with _ q; exact h2 q)⟩
      have d5 : (seq == seq') = false := by rw [beq_eq_false_iff_ne]; exact h2
      have d6 : (seq != seq') = true := by rw [bne_iff_ne]; exact h2
      have d7 : decide (seq = seq') = false := decide_eq_false h2
      clear h2 hc
      go_enter Try.func19, Try.ntmps19
      go_wp2_with fail
      go_ret
      exact ⟨by rw [HS.out]; rfl, b2⟩
  · have HS : Hid (sv ⟨key, seq, mk, data, l⟩ ⟨key', seq', mk', data', l'⟩ = false) := ⟨sv_false (by intro q; injection q with q; exact h1 q)⟩
    have d5 : (key == key') = false := by rw [beq_eq_false_iff_ne]; exact h1
    clear h1 hc
    go_enter Try.func19, Try.ntmps19
    go_wp2_with fail
    go_ret
    exact ⟨by rw [HS.out]; rfl, b2⟩
end Go.Proofs.Ytcbajnajamjcnaa

/- What BucketNewest asks, of lists alone. -/
namespace Go.Proofs.Ytcbajnajamjcnaa
set_option linter.unusedVariables false
set_option linter.unusedSimpArgs false
open Go.RowKit
/-- a value with a version more -/
noncomputable def putX (L : List Vs) (v : Vs) : List Vs := L.take (fndV L v.key) ++ puL (gpL L (fndV L v.key) v.key) v ++ L.drop (fndV L v.key + ken (L.drop (fndV L v.key)) v.key)
/-- a value without one -/
def remX (L : List Vs) (k : List UInt8) (s : Int) : List Vs := L.take (fndV L k) ++ rmL (gpL L (fndV L k) k) s ++ L.drop (fndV L k + ken (L.drop (fndV L k)) k)
theorem filter_ne {A : List Vs} {k : List UInt8} (h : ∀ u ∈ A, ¬ u.key = k) : A.filter (fun u => u.key == k) = [] := List.filter_eq_nil_iff.2 fun u hu => by simpa using h u hu
theorem filter_eq {A : List Vs} {k : List UInt8} (h : ∀ u ∈ A, u.key = k) : A.filter (fun u => u.key == k) = A := List.filter_eq_self.2 fun u hu => by simpa using h u hu
theorem put_filter {L : List Vs} (hs : SrtV L) {v : Vs} (hp : puE (gpL L (fndV L v.key) v.key) v = 0) (k : List UInt8) : (putX L v).filter (fun u => u.key == k) = L.filter (fun u => u.key == k) ++ (if v.key = k then [v] else []) := by
  unfold putX
  have hpu : puL (gpL L (fndV L v.key) v.key) v = gpL L (fndV L v.key) v.key ++ [v] := by unfold puL; rw [if_pos hp]
  rw [hpu]
  have hP := parts L (fndV L v.key) v.key
  have fD := fun u (hu : u ∈ L.drop (fndV L v.key + ken (L.drop (fndV L v.key)) v.key)) => mem_back hs hu
  generalize L.take (fndV L v.key) = A at *
  generalize gpL L (fndV L v.key) v.key = G at *
  generalize L.drop (fndV L v.key + ken (L.drop (fndV L v.key)) v.key) = D at *
  rw [hP]
  by_cases hk : v.key = k
  · subst hk
    have hD : D.filter (fun u => u.key == v.key) = [] := filter_ne fun u hu e => by have := fD u hu; rw [e] at this; exact lt_irrefl this
    simp only [List.filter_append, hD, if_pos, List.append_nil]
    have : [v].filter (fun u => u.key == v.key) = [v] := by simp
    rw [this, List.append_assoc]
  · have h1 : [v].filter (fun u => u.key == k) = [] := filter_ne fun u hu => by simp at hu; subst hu; exact hk
    rw [if_neg hk]
    simp only [List.filter_append, h1, List.append_nil]
theorem put_own {next : Int} {L : List Vs} {v : Vs} (h : RtB next L) (hr : rfE next L v = 0) (hv : v.seq = next) : RtB (next + 1) (putX L v) ∧ (gpL (putX L v) (fndV (putX L v) v.key) v.key).getLast? = some v := by
  obtain ⟨hp, hX⟩ := h.put hr hv
  refine ⟨hX, ?_⟩
  have hX' : RtB (next + 1) (putX L v) := hX
  rw [gp_filter hX'.srt, put_filter h.srt hp, if_pos rfl, List.getLast?_append]
  rfl
theorem put_top {next : Int} {L : List Vs} {v : Vs} (h : RtB next L) (hr : rfE next L v = 0) (hv : v.seq = next) (hm : v.mkr = false) : toE (gpL (putX L v) (fndV (putX L v) v.key) v.key) = 0 ∧ toV (gpL (putX L v) (fndV (putX L v) v.key) v.key) = v := by
  have := (put_own h hr hv).2
  unfold toE toV lastV
  rw [this]
  simp [hm]
theorem put_gone {next : Int} {L : List Vs} {v : Vs} (h : RtB next L) (hr : rfE next L v = 0) (hv : v.seq = next) (hm : v.mkr = true) : toE (gpL (putX L v) (fndV (putX L v) v.key) v.key) = 73 := by
  have := (put_own h hr hv).2
  unfold toE lastV
  rw [this]
  simp [hm]
theorem put_mem {L : List Vs} {v : Vs} (hp : puE (gpL L (fndV L v.key) v.key) v = 0) : v ∈ putX L v := by
  unfold putX puL
  rw [if_pos hp]
  simp
theorem put_told {next : Int} {L : List Vs} {v : Vs} (h : RtB next L) (hr : rfE next L v = 0) (hv : v.seq = next) : geE (gpL (putX L v) (fndV (putX L v) v.key) v.key) v.seq = 0 ∧ geV (gpL (putX L v) (fndV (putX L v) v.key) v.key) v.seq = v :=
  ge_told (put_own h hr hv).1 (put_mem (h.put hr hv).1)
theorem put_other {next : Int} {L : List Vs} {v : Vs} (h : RtB next L) (hr : rfE next L v = 0) (hv : v.seq = next) {k : List UInt8} (hk : ¬ v.key = k) : gpL (putX L v) (fndV (putX L v) k) k = gpL L (fndV L k) k := by
  rw [gp_filter (put_own h hr hv).1.srt, gp_filter h.srt, put_filter h.srt (h.put hr hv).1, if_neg hk, List.append_nil]
theorem rem_rt {next : Int} {L : List Vs} (h : RtB next L) (k : List UInt8) (s : Int) : RtB next (remX L k s) := h.rem _ _ _
theorem rem_filter {L : List Vs} (hs : SrtV L) (k : List UInt8) (s : Int) (k' : List UInt8) : (remX L k s).filter (fun u => u.key == k') = if k = k' then rmL (gpL L (fndV L k) k) s else L.filter (fun u => u.key == k') := by
  unfold remX
  have hP := parts L (fndV L k) k
  have fA := fun u (hu : u ∈ L.take (fndV L k)) => mem_front hu
  have fG := fun u (hu : u ∈ gpL L (fndV L k) k) => mem_group hu
  have fD := fun u (hu : u ∈ L.drop (fndV L k + ken (L.drop (fndV L k)) k)) => mem_back hs hu
  have hsub := rmL_sub (gpL L (fndV L k) k) s
  generalize L.take (fndV L k) = A at *
  generalize gpL L (fndV L k) k = G at *
  generalize L.drop (fndV L k + ken (L.drop (fndV L k)) k) = D at *
  rw [hP]
  by_cases hk : k = k'
  · subst hk
    rw [if_pos rfl]
    simp only [List.filter_append]
    rw [filter_ne (A := A) fun u hu e => by have := fA u hu; rw [e] at this; exact lt_irrefl this, filter_ne (A := D) fun u hu e => by have := fD u hu; rw [e] at this; exact lt_irrefl this, filter_eq (A := rmL G s) fun u hu => fG u (hsub.subset hu)]
    simp
  · rw [if_neg hk]
    simp only [List.filter_append]
    rw [filter_ne (A := rmL G s) fun u hu e => hk ((fG u (hsub.subset hu)).symm.trans e), filter_ne (A := G) fun u hu e => hk ((fG u hu).symm.trans e)]
theorem rem_other {next : Int} {L : List Vs} (h : RtB next L) (k : List UInt8) (s : Int) {k' : List UInt8} (hk : ¬ k = k') : gpL (remX L k s) (fndV (remX L k s) k') k' = gpL L (fndV L k') k' := by
  rw [gp_filter (rem_rt h k s).srt, gp_filter h.srt, rem_filter h.srt, if_neg hk]
theorem ge_some {G : List Vs} {s : Int} (h : geE G s = 0) : ∃ j, plc G s = some j := by
  unfold geE at h
  split at h
  · omega
  · exact ⟨_, by assumption⟩
theorem rm_none {G : List Vs} {s : Int} (hn : (G.map (·.seq)).Nodup) (h : geE G s = 0) : geE (rmL G s) s = 72 ∧ (rmL G s).length + 1 = G.length := by
  obtain ⟨j, hj⟩ := ge_some h
  obtain ⟨⟨v, hv, e⟩, hlt⟩ := plc_some hj
  obtain ⟨q1, rfl⟩ := List.getElem?_eq_some_iff.1 hv
  have e1 : rmL G s = G.take j ++ G.drop (j + 1) := by unfold rmL; rw [hj]
  rw [e1]
  refine ⟨?_, by simp; omega⟩
  have hno : plc (G.take j ++ G.drop (j + 1)) s = none := plc_no fun u hu => by
    have hp := List.pairwise_iff_getElem.1 hn
    rcases List.mem_append.1 hu with q | q
    · obtain ⟨i, hi⟩ := List.mem_iff_getElem?.1 q
      rw [List.getElem?_take] at hi
      split at hi
      · rename_i z; exact hlt i u z hi
      · cases hi
    · obtain ⟨i, hi⟩ := List.mem_iff_getElem?.1 q
      rw [List.getElem?_drop] at hi
      obtain ⟨q2, rfl⟩ := List.getElem?_eq_some_iff.1 hi
      have := hp j (j + 1 + i) (by simpa using q1) (by simpa using q2) (by omega)
      simp at this
      intro z
      exact this (e.trans z.symm)
  unfold geE
  rw [hno]
theorem rem_gone {next : Int} {L : List Vs} (h : RtB next L) {k : List UInt8} {s : Int} (hg : geE (gpL L (fndV L k) k) s = 0) : geE (gpL (remX L k s) (fndV (remX L k s) k) k) s = 72 ∧ (remX L k s).length + 1 = L.length := by
  have hnd : ((gpL L (fndV L k) k).map (·.seq)).Nodup := by
    rw [gp_filter h.srt]
    exact h.nod.sublist ((List.filter_sublist).map _)
  obtain ⟨h1, h2⟩ := rm_none hnd hg
  refine ⟨?_, ?_⟩
  · rw [gp_filter (rem_rt h k s).srt, rem_filter h.srt, if_pos rfl]; exact h1
  · have hP := congrArg List.length (parts L (fndV L k) k)
    unfold remX
    simp only [List.length_append] at hP ⊢
    omega
end Go.Proofs.Ytcbajnajamjcnaa

/- others: is another key told as before? -/
namespace Go.Proofs.Ytcbajnajamjcnaa
set_option linter.unusedVariables false
set_option linter.unusedSimpArgs false
open Go.RowKit
attribute [local go_sem ↓] Go.wp_at_zero Go.wp_at_succ
theorem ow_pin {base : Nat} {w : World} {a : Option Addr} {n c : Nat} {l : List En} (h : Ow base w (.slice a n c) l) : PIn w a l := by
  obtain ⟨a', c', e', s'⟩ := h.slice
  injection e' with e1 e2 e3
  subst e1
  exact s'
/-- what Get answers of a right value -/
noncomputable def gtE (L : List Vs) (k : List UInt8) : Int := if keyE k = 0 then toE (gpL L (fndV L k) k) else keyE k
noncomputable def gtV (L : List Vs) (k : List UInt8) : Vs := if keyE k = 0 then toV (gpL L (fndV L k) k) else vs0
theorem get_r (L : List Vs) (next : Int) (k : List UInt8) (w : World) (a : Option Addr) (c : Nat) (hs : SrtV L) (hL : Li w L a L.length c) : Calls Try.prog 9 #[bv next a L.length c, str k] w fun e w' => RV w w' e (gtV L k) (gtE L k) := by
  refine (bGet_any L next k w a _ c hL).mono ?_
  rintro e w' ⟨i, hi, h, had⟩
  obtain rfl := h hs
  unfold gtV gtE
  rcases had with ⟨q1, q⟩ | ⟨q1, q⟩
  · rw [if_neg q1, if_neg q1]; exact q
  · rw [if_pos q1, if_pos q1]; exact q
theorem toV_in (G : List Vs) : toV G = vs0 ∨ toV G ∈ G := by
  unfold toV lastV
  cases h : G.getLast? with
  | none => exact .inl rfl
  | some u =>
    by_cases hm : u.mkr = true
    · left; simp [hm]
    · right; simp [hm]; exact List.mem_of_getLast? h
theorem gtV_in {L : List Vs} (hs : SrtV L) (k : List UInt8) : gtV L k = vs0 ∨ gtV L k ∈ L := by
  unfold gtV
  split
  · rcases toV_in (gpL L (fndV L k) k) with q | q
    · exact .inl q
    · right
      rw [gp_filter hs] at q ⊢
      exact (List.mem_filter.1 q).1
  · exact .inl rfl
theorem gtV_len {next : Int} {L : List Vs} (h : RtB next L) (k : List UInt8) : (gtV L k).l.length ≤ 1000000 := by
  rcases gtV_in h.srt k with q | q
  · rw [q]; simp [vs0]
  · have := vr_size (h.ok _ q).2.2
    have h3 := (vrV_iff.1 (h.ok _ q).2.2).1.2.2
    unfold mtE at h3
    split at h3
    · rename_i z; omega
    · omega
set_option maxRecDepth 100000 in
set_option maxHeartbeats 4000000 in
theorem others_any (next : Int) (X : List Vs) (other key : List UInt8) (v : Vs) (e0 : Int) (w : World) (a : Option Addr) (c : Nat) (hR : RtB next X) (hL : Li w X a X.length c) (va : Option Addr) (vc : Nat) (hv : PIn w va v.l) (hz : v.l.length ≤ 1000000) (h : ¬ key = other → gtV X other = v ∧ gtE X other = e0) :
    Calls Try.prog 20 #[bv next a X.length c, str other, str key, vv v.key v.seq v.mkr v.data va v.l.length vc, .int .i64 e0] w fun e w' => e = .returned (.bool true) ∧ Below w.heap.size w w' := by
  have b1 := (Below.refl w.heap.size w).alloc (Nat.le_refl _) (.cells #[.int .i64 next, .slice a X.length c] 26)
  have b2 := b1.alloc b1.size (.cells #[str v.key, .int .i64 v.seq, .bool v.mkr, str v.data, .slice va v.l.length vc] 32)
  have z2 := Bv.new (w.alloc (.cells #[.int .i64 next, .slice a X.length c] 26)) (str v.key) (.int .i64 v.seq) (.bool v.mkr) (str v.data) (.slice va v.l.length vc)
  rw [World.size_alloc] at z2
  clear b1
  by_cases hk : other = key
  · subst hk
    clear hL hv h z2
    go_enter Try.func20, Try.ntmps20
    go_wp2_with fail
    go_ret
    exact ⟨rfl, b2⟩
  · have dk : (other == key) = false := beq_eq_false_iff_ne.2 hk
    obtain ⟨h1, h2⟩ := h fun q => hk q.symm
    have hg := get_r X next other _ a c hR.srt (hL.later b2)
    rw [h1, h2] at hg
    have hP := hv.later b2
    clear hk h h1 h2 hL hv
    go_enter Try.func20, Try.ntmps20
    go_wp2_with fail
    with_reducible refine Calls.mono hg ?_
    rintro e w3 ⟨xa, xc, rfl, xo, b3⟩
    dsimp only
    have z3 := z2.later b3
    have b4 := below_seq (below_seq b2 b3) ((Below.refl w3.heap.size w3).alloc (Nat.le_refl _) (.cells #[str v.key, .int .i64 v.seq, .bool v.mkr, str v.data, .slice xa v.l.length xc] 32))
    have bx := (Below.refl w3.heap.size w3).alloc (Nat.le_refl _) (.cells #[str v.key, .int .i64 v.seq, .bool v.mkr, str v.data, .slice xa v.l.length xc] 32)
    have hc := qSameVersion_any v v _ va _ vc rfl ((hP.later b3).later bx) (by omega) xa _ xc rfl ((ow_pin xo).later bx) (by omega)
    rw [sv_true rfl] at hc
    obtain ⟨p0, p1, p2, p3, p4, _⟩ := (z3.later bx).cells
    clear hg z2 z3 xo hP b2 b3 bx
    go_wp2_with (go_at_call 19; refine hc.mono ?_; rintro e w5 ⟨rfl, b5⟩)
    go_ret
    exact ⟨rfl, below_seq b4 b5⟩
end Go.Proofs.Ytcbajnajamjcnaa

/- What the calls answer of a right value. -/
namespace Go.Proofs.Ytcbajnajamjcnaa
set_option linter.unusedVariables false
set_option linter.unusedSimpArgs false
open Go.RowKit
theorem rt_pz {next : Int} {L : List Vs} (h : RtB next L) : ∀ u ∈ L, Pz u.l := fun u hu => by
  have h3 := (vrV_iff.1 (h.ok u hu).2.2).1.2.2
  unfold mtE at h3
  split at h3
  · rename_i q3
    intro k e he
    have h2 := q3.2.1 e (List.mem_of_getElem? he)
    unfold prb smN at h2
    simp at h2
    omega
  · omega
/-- the program's Put, Delete of a right value -/
def PtP (w w' : World) (e : Ending) (next : Int) (L : List Vs) (v : Vs) : Prop := (¬ rfE next L v = 0 ∧ RC w w' e 0 [] 0 (rfE next L v)) ∨ (rfE next L v = 0 ∧ RC w w' e (next + 1) (putX L v) next 0)
theorem wr_next {next : Int} {L : List Vs} (h : RtB next L) : wrap64 (next + 1) = next + 1 := by have := h.n1; have := h.n2; unfold wrap64; omega
theorem adp_pt {w w' : World} {e : Ending} {next : Int} {L : List Vs} {i : Nat} {v : Vs} (h : RtB next L) (hv : v.seq = next) (hs : SrtV L → i = fndV L v.key) (had : AdP w w' e next L i v) : PtP w w' e next L v := by
  obtain rfl := hs h.srt
  rcases had with ⟨q1, q2⟩ | ⟨q1, q2, _⟩ | ⟨q1, _, q3⟩
  · exact .inl ⟨q1, q2⟩
  · exact absurd (h.put q1 hv).1 q2
  · rw [wr_next h, hv] at q3
    exact .inr ⟨q1, q3⟩
theorem put_r {next : Int} {L : List Vs} (h : RtB next L) (k d : List UInt8) (l : List En) (w : World) (a : Option Addr) (cap : Nat) (va : Option Addr) (vc : Nat) (hL : Li w L a L.length cap) (hS : Sl w va vc l) (hz : l.length ≤ 4398046510976) :
    Calls Try.prog 13 #[bv next a L.length cap, str k, str d, .slice va l.length vc] w fun e w' => PtP w w' e next L ⟨k, next, false, d, l⟩ := by
  refine (bPut_any L next k d l w a _ cap va _ vc hL rfl hS hz).mono ?_
  rintro e w' ⟨i, hi, hs, had⟩
  exact adp_pt h rfl hs had
theorem del_r {next : Int} {L : List Vs} (h : RtB next L) (k : List UInt8) (w : World) (a : Option Addr) (cap : Nat) (hL : Li w L a L.length cap) :
    Calls Try.prog 14 #[bv next a L.length cap, str k] w fun e w' => PtP w w' e next L ⟨k, next, true, [], []⟩ := by
  refine (bDelete_any L next k w a _ cap hL).mono ?_
  rintro e w' ⟨i, hi, hs, had⟩
  exact adp_pt h rfl hs had
/-- what GetVersion, DeleteVersion answer of a right value -/
noncomputable def gvE (L : List Vs) (k : List UInt8) (s : Int) : Int := if keyE k = 0 then geE (gpL L (fndV L k) k) s else keyE k
noncomputable def gvV (L : List Vs) (k : List UInt8) (s : Int) : Vs := if keyE k = 0 then geV (gpL L (fndV L k) k) s else vs0
theorem gvn_r (L : List Vs) (next : Int) (k : List UInt8) (s : Int) (w : World) (a : Option Addr) (c : Nat) (hs : SrtV L) (hL : Li w L a L.length c) : Calls Try.prog 11 #[bv next a L.length c, str k, .int .i64 s] w fun e w' => RV w w' e (gvV L k s) (gvE L k s) := by
  refine (bGetVersion_any L next k s w a _ c hL).mono ?_
  rintro e w' ⟨i, hi, h, had⟩
  obtain rfl := h hs
  unfold gvV gvE
  rcases had with ⟨q1, q⟩ | ⟨q1, q⟩
  · rw [if_neg q1, if_neg q1]; exact q
  · rw [if_pos q1, if_pos q1]; exact q
def RmP (w w' : World) (e : Ending) (next : Int) (L : List Vs) (k : List UInt8) (s : Int) : Prop := (¬ gvE L k s = 0 ∧ RB w w' e 0 [] (gvE L k s)) ∨ (gvE L k s = 0 ∧ RB w w' e next (remX L k s) 0)
theorem rem_r {next : Int} {L : List Vs} (h : RtB next L) (k : List UInt8) (s : Int) (w : World) (a : Option Addr) (c : Nat) (hL : Li w L a L.length c) : Calls Try.prog 15 #[bv next a L.length c, str k, .int .i64 s] w fun e w' => RmP w w' e next L k s := by
  refine (bDeleteVersion_any L next k s w a _ c hL).mono ?_
  rintro e w' ⟨i, hi, hs, had⟩
  obtain rfl := hs h.srt
  unfold RmP gvE
  rcases had with ⟨q1, q⟩ | ⟨q1, q2, q⟩ | ⟨q1, q2, q⟩
  · rw [if_neg q1]; exact .inl ⟨q1, q⟩
  · rw [if_pos q1, q2]; exact .inl ⟨by decide, q⟩
  · rw [if_pos q1]; exact .inr ⟨q2, q⟩
theorem right_r {next : Int} {L : List Vs} (h : RtB next L) (w : World) (a : Option Addr) (c : Nat) (hL : Li w L a L.length c) : Calls Try.prog 18 #[bv next a L.length c] w fun e w' => e = .returned (.bool true) ∧ Below w.heap.size w w' := by
  refine (qRight_any L next w a _ c hL (rt_pz h)).mono ?_
  rintro e w' ⟨⟨t, rfl, ht⟩, b⟩
  exact ⟨by rw [ht.2 h], b⟩
theorem rf_key {next : Int} {L : List Vs} {v : Vs} (h : rfE next L v = 0) : keyE v.key = 0 := (vrV_iff.1 (rfE_zero h).1).1.1
theorem put_get {next : Int} {L : List Vs} {v : Vs} (h : RtB next L) (hr : rfE next L v = 0) (hv : v.seq = next) (hm : v.mkr = false) : gtE (putX L v) v.key = 0 ∧ gtV (putX L v) v.key = v := by
  unfold gtE gtV
  rw [if_pos (rf_key hr), if_pos (rf_key hr)]
  exact put_top h hr hv hm
theorem del_get {next : Int} {L : List Vs} {v : Vs} (h : RtB next L) (hr : rfE next L v = 0) (hv : v.seq = next) (hm : v.mkr = true) : gtE (putX L v) v.key = 73 := by
  unfold gtE
  rw [if_pos (rf_key hr)]
  exact put_gone h hr hv hm
theorem put_gv {next : Int} {L : List Vs} {v : Vs} (h : RtB next L) (hr : rfE next L v = 0) (hv : v.seq = next) : gvE (putX L v) v.key v.seq = 0 ∧ gvV (putX L v) v.key v.seq = v := by
  unfold gvE gvV
  rw [if_pos (rf_key hr), if_pos (rf_key hr)]
  exact put_told h hr hv
theorem put_oth {next : Int} {L : List Vs} {v : Vs} (h : RtB next L) (hr : rfE next L v = 0) (hv : v.seq = next) {k : List UInt8} (hk : ¬ v.key = k) : gtV (putX L v) k = gtV L k ∧ gtE (putX L v) k = gtE L k := by
  unfold gtV gtE
  rw [put_other h hr hv hk]
  exact ⟨rfl, rfl⟩
theorem rem_oth {next : Int} {L : List Vs} (h : RtB next L) (k : List UInt8) (s : Int) {k' : List UInt8} (hk : ¬ k = k') : gtV (remX L k s) k' = gtV L k' ∧ gtE (remX L k s) k' = gtE L k' := by
  unfold gtV gtE
  rw [rem_other h k s hk]
  exact ⟨rfl, rfl⟩
theorem gv_key {L : List Vs} {k : List UInt8} {s : Int} (h : gvE L k s = 0) : keyE k = 0 ∧ geE (gpL L (fndV L k) k) s = 0 := by
  unfold gvE at h
  split at h
  · rename_i q; exact ⟨q, h⟩
  · rename_i q; exact absurd h q
theorem rem_gv {next : Int} {L : List Vs} (h : RtB next L) {k : List UInt8} {s : Int} (hg : gvE L k s = 0) : gvE (remX L k s) k s = 72 ∧ (remX L k s).length + 1 = L.length := by
  obtain ⟨h1, h2⟩ := gv_key hg
  obtain ⟨h3, h4⟩ := rem_gone h h2
  refine ⟨?_, h4⟩
  unfold gvE
  rw [if_pos h1]
  exact h3
end Go.Proofs.Ytcbajnajamjcnaa

/- BucketNewest: the walk. -/
namespace Go.Proofs.Ytcbajnajamjcnaa
set_option linter.unusedVariables false
set_option linter.unusedSimpArgs false
open Go.RowKit
attribute [local go_sem ↓] Go.wp_at_zero Go.wp_at_succ
structure KN (W w : World) (g1 gb gv : Nat) (next : Int) (L : List Vs) (la : Option Addr) (lc : Nat) (o : Op1) (ma : Option Addr) (mc : Nat) (v : Vs) (va : Option Addr) (vc : Nat) : Prop where
  b : Below W.heap.size W w
  zo : Bo w g1 (.int .i64 o.kind) (str o.key) (str o.data) (.slice ma o.l.length mc) (.int .i64 o.seq) (.int .i64 o.most)
  zb : Bq w gb (.int .i64 next) (.slice la L.length lc)
  zv : Bv w gv (str v.key) (.int .i64 v.seq) (.bool v.mkr) (str v.data) (.slice va v.l.length vc)
  li : Li w L la L.length lc
  s : Sl w ma mc o.l
  pv : PIn w va v.l
theorem KN.later {W w w' : World} {g1 gb gv : Nat} {next : Int} {L : List Vs} {la : Option Addr} {lc : Nat} {o : Op1} {ma : Option Addr} {mc : Nat} {v : Vs} {va : Option Addr} {vc : Nat} (h : KN W w g1 gb gv next L la lc o ma mc v va vc) (hb : Below w.heap.size w w') : KN W w' g1 gb gv next L la lc o ma mc v va vc :=
  ⟨h.b.trans (hb.mono h.b.size), h.zo.later hb, h.zb.later hb, h.zv.later hb, h.li.later hb, h.s.later hb, h.pv.later hb⟩
theorem rt_li {next : Int} {L : List Vs} (h : RtB next L) {w : World} {a : Option Addr} {c : Nat} (s : Ls w a c L) : Li w L a L.length c := by
  refine ⟨rfl, s, by have := h.len; omega, fun u hu => ?_⟩
  have h3 := (vrV_iff.1 (h.ok u hu).2.2).1.2.2
  unfold mtE at h3
  split at h3
  · rename_i z; omega
  · omega
set_option maxRecDepth 100000 in
set_option maxHeartbeats 8000000 in
theorem bucketNewest_walk (S : List Op1) (a : Option Addr) (cap : Nat) (o : Op1) (ma : Option Addr) (mc : Nat) (other : List UInt8) (W : World) (hS : OIn W a S) (hl : S.length ≤ 1759218604390) (hs : Sl W ma mc o.l) (hz : o.l.length ≤ 4398046510976) (hf : other.length ≤ 140737488351232) :
    Calls Try.prog 5 #[.slice a S.length cap, .agg #[.int .i64 o.kind, str o.key, str o.data, .slice ma o.l.length mc, .int .i64 o.seq, .int .i64 o.most], str other] W fun e W' => e = .returned (.bool true) ∧ Below W.heap.size W W' := by
  have b0 := (Below.refl W.heap.size W).alloc (Nat.le_refl _) (.cells #[.int .i64 o.kind, str o.key, str o.data, .slice ma o.l.length mc, .int .i64 o.seq, .int .i64 o.most] 41)
  have zo := Bo.new W (.int .i64 o.kind) (str o.key) (str o.data) (.slice ma o.l.length mc) (.int .i64 o.seq) (.int .i64 o.most)
  have HS := Hid.mk (hS.later b0)
  have Hs := Hid.mk (hs.later b0)
  clear hS hs
  go_enter Try.func5, Try.ntmps5
  go_wp2_with fail
  generalize hW0 : W.alloc (.cells #[.int .i64 o.kind, str o.key, str o.data, .slice ma o.l.length mc, .int .i64 o.seq, .int .i64 o.most] 41) = W0 at *
  clear hW0
  obtain ⟨g1, hg1⟩ : ∃ g, g = W.heap.size := ⟨_, rfl⟩
  rw [← hg1] at zo ⊢
  have HB : Hid (Below W.heap.size W W0) := ⟨b0⟩
  clear hg1 b0
  with_reducible refine Calls.mono (fixed_any _) ?_
  rintro e w1 ⟨rfl, b1⟩
  dsimp only
  go_wp2_with fail
  with_reducible refine Calls.mono (made_any S w1 a _ cap rfl (HS.out.later b1) (by omega)) ?_
  rintro e w2 ⟨next, L, v, rfl, hR, hC, b2⟩
  obtain ⟨la, lc, rfl, hLi⟩ := hR.li hC
  dsimp only
  have bx := (Below.refl w2.heap.size w2).alloc (Nat.le_refl _) (.cells #[.int .i64 next, .slice la L.length lc] 26)
  have zb := Bq.new w2 (.int .i64 next) (.slice la L.length lc)
  have hLi3 := hLi.later bx
  have b3 := below_seq (below_seq b1 b2) bx
  have zo3 := zo.later b3
  have Hs3 := Hid.mk (Hs.out.later b3)
  have HB3 := Hid.mk (HB.out.trans (b3.mono HB.out.size))
  obtain ⟨p0, p1, _⟩ := zb.cells
  clear b1 b2 bx hLi hC HS hl HB Hs zo b3
  go_wp2_with fail
  generalize w2.alloc (.cells #[.int .i64 next, .slice la L.length lc] 26) = w3 at *
  generalize w2.heap.size = gb at *
  with_reducible refine Calls.mono (right_r hR w3 la lc hLi3) ?_
  rintro e w4 ⟨rfl, b4⟩
  dsimp only
  clear p0 p1
  obtain ⟨p0, p1, _⟩ := (zb.later b4).cells
  go_wp2_with fail
  with_reducible refine Calls.mono (get_r L next other w4 la lc hR.srt (hLi3.later b4)) ?_
  rintro e w5 ⟨va, vc, rfl, vo, b5⟩
  dsimp only
  have hvl := gtV_len hR other
  have HOp := Hid.mk (fun (v : Vs) (hr : rfE next L v = 0) (hv : v.seq = next) (hk : ¬ v.key = other) => put_oth hR hr hv hk)
  have HOr := Hid.mk (fun (hk : ¬ o.key = other) => rem_oth hR o.key o.seq hk)
  generalize gtV L other = v at *
  generalize gtE L other = e0 at *
  have bx := (Below.refl w5.heap.size w5).alloc (Nat.le_refl _) (.cells #[str v.key, .int .i64 v.seq, .bool v.mkr, str v.data, .slice va v.l.length vc] 32)
  have b6 := below_seq (below_seq b4 b5) bx
  have K : Hid (KN W (w5.alloc (.cells #[str v.key, .int .i64 v.seq, .bool v.mkr, str v.data, .slice va v.l.length vc] 32)) g1 gb w5.heap.size next L la lc o ma mc v va vc) := ⟨⟨HB3.out.trans (b6.mono HB3.out.size), zo3.later b6, zb.later b6, Bv.new w5 _ _ _ _ _, hLi3.later b6, Hs3.out.later b6, (ow_pin vo).later bx⟩⟩
  obtain ⟨q0, q1, q2, q3, q4, q5⟩ := K.out.zo.cells
  clear p0 p1
  obtain ⟨p0, p1, _⟩ := K.out.zb.cells
  clear b4 b5 bx b6 vo zb zo3 hLi3 Hs3 HB3
  have hw1 := wr_next hR
  have HR := Hid.mk hR
  clear hR
  go_wp2_with fail
  generalize w5.alloc (.cells #[str v.key, .int .i64 v.seq, .bool v.mkr, str v.data, .slice va v.l.length vc] 32) = w6 at *
  generalize w5.heap.size = gv at *
  with_reducible refine Calls.mono (put_r HR.out o.key o.data o.l w6 la lc ma mc K.out.li K.out.s hz) ?_
  rintro e w7 hP
  obtain ⟨n1, X, s, c, rv, rfl, kr, b7, hPc⟩ : ∃ n1 X s c rv, e = .returned (.tuple #[.agg #[.int .i64 n1, rv], .int .i64 s, .int .i64 c]) ∧ Cp w6.heap.size w7 rv X ∧ Below w6.heap.size w6 w7 ∧ ((¬ c = 0) ∨ (rfE next L ⟨o.key, next, false, o.data, o.l⟩ = 0 ∧ c = 0 ∧ s = next ∧ n1 = next + 1 ∧ X = putX L ⟨o.key, next, false, o.data, o.l⟩)) := by
    rcases hP with ⟨q1, rv, e1, kr, b⟩ | ⟨q1, rv, e1, kr, b⟩
    · exact ⟨_, _, _, _, rv, e1, kr, b, .inl q1⟩
    · exact ⟨_, _, _, _, rv, e1, kr, b, .inr ⟨q1, rfl, rfl, rfl, rfl⟩⟩
  clear hP
  obtain ⟨xa, xc, rfl, hXs⟩ := kr.ls
  dsimp only
  clear p0 p1 q0 q1 q2 q3 q4 q5
  have bx := (Below.refl w7.heap.size w7).alloc (Nat.le_refl _) (.cells #[.int .i64 n1, .slice xa X.length xc] 26)
  have K7 : Hid (KN W (w7.alloc (.cells #[.int .i64 n1, .slice xa X.length xc] 26)) g1 gb gv next L la lc o ma mc v va vc) := ⟨K.out.later (below_seq b7 bx)⟩
  have zc := Hid.mk (Bq.new w7 (.int .i64 n1) (.slice xa X.length xc))
  have HX := Hid.mk (hXs.later bx)
  clear kr b7 bx K hXs
  go_upto_if 53 with fail
  generalize w7.alloc (.cells #[.int .i64 n1, .slice xa X.length xc] 26) = w8 at *
  generalize w7.heap.size = gc at *
  go_cut [12] from 10 (fun f wx => Hid (KN W wx g1 gb gv next L la lc o ma mc v va vc))
  case first =>
    rcases hPc with hc | ⟨hr, rfl, rfl, rfl, rfl⟩
    · have dc : (c == 0) = false := beq_eq_false_iff_ne.2 hc
      clear hc zc HX
      go_wp2_with fail
      go_meet
      case rel => exact K7
    · have hXR := (put_own HR.out hr rfl).1
      obtain ⟨hG0, hG1⟩ := put_get HR.out hr rfl rfl
      have hot := fun (hk : ¬ o.key = other) => HOp.out ⟨o.key, s, false, o.data, o.l⟩ hr rfl hk
      have hLX := rt_li hXR HX.out
      have hg := get_r _ (s + 1) o.key w8 xa xc hXR.srt hLX
      simp only at hG0 hG1
      rw [hG0, hG1] at hg
      generalize putX L ⟨o.key, s, false, o.data, o.l⟩ = X at *
      have HXR := Hid.mk hXR
      have HLX := Hid.mk hLX
      have Hot := Hid.mk hot
      clear hr hG0 hG1 hXR hLX hot HX
      obtain ⟨p0, p1, _⟩ := K7.out.zb.cells
      obtain ⟨q0, q1, q2, q3, q4, q5⟩ := K7.out.zo.cells
      obtain ⟨r0, r1, _⟩ := zc.out.cells
      go_wp2_with fail
      with_reducible refine Calls.mono hg ?_
      rintro e w9 ⟨ya, yc, rfl, yo, b9⟩
      dsimp only
      clear hg p0 p1 q0 q1 q2 q3 q4 q5 r0 r1
      have bx := (Below.refl w9.heap.size w9).alloc (Nat.le_refl _) (.cells #[str o.key, .int .i64 s, .bool false, str o.data, .slice ya o.l.length yc] 32)
      have by' := bx.alloc bx.size (.cells #[str o.key, .int .i64 s, .bool false, str o.data, .slice ma o.l.length mc] 32)
      have zx := Bv.new w9 (str o.key) (.int .i64 s) (.bool false) (str o.data) (.slice ya o.l.length yc)
      have zw := Bv.new (w9.alloc (.cells #[str o.key, .int .i64 s, .bool false, str o.data, .slice ya o.l.length yc] 32)) (str o.key) (.int .i64 s) (.bool false) (str o.data) (.slice ma o.l.length mc)
      have zx' := zx.later ((Below.refl (w9.alloc (.cells #[str o.key, .int .i64 s, .bool false, str o.data, .slice ya o.l.length yc] 32)).heap.size _).alloc (Nat.le_refl _) (.cells #[str o.key, .int .i64 s, .bool false, str o.data, .slice ma o.l.length mc] 32))
      rw [World.size_alloc] at zw
      have b10 := below_seq b9 by'
      have K9 : Hid (KN W w9 g1 gb gv s L la lc o ma mc v va vc) := ⟨K7.out.later b9⟩
      have K9a := K9.out.later bx
      have K10 : Hid (KN W ((w9.alloc (.cells #[str o.key, .int .i64 s, .bool false, str o.data, .slice ya o.l.length yc] 32)).alloc (.cells #[str o.key, .int .i64 s, .bool false, str o.data, .slice ma o.l.length mc] 32)) g1 gb gv s L la lc o ma mc v va vc) := ⟨K7.out.later b10⟩
      have zc10 := Hid.mk (zc.out.later b10)
      have HLX10 := Hid.mk (HLX.out.later b10)
      have yo10 := Hid.mk ((ow_pin yo).later by')
      obtain ⟨p0, p1, _⟩ := K9a.zb.cells
      obtain ⟨q0, q1, q2, q3, q4, q5⟩ := K9a.zo.cells
      obtain ⟨r0, r1, _⟩ := zc10.out.cells
      obtain ⟨x0, x1, x2, x3, x4, _⟩ := zx'.cells
      obtain ⟨y0, y1, y2, y3, y4, _⟩ := zw.cells
      obtain ⟨u0, u1, _⟩ := K10.out.zb.cells
      clear b9 bx by' zx zw zx' b10 K9 K9a K7 zc HLX yo
      go_wp2_with fail
      generalize (w9.alloc (.cells #[str o.key, .int .i64 s, .bool false, str o.data, .slice ya o.l.length yc] 32)).alloc (.cells #[str o.key, .int .i64 s, .bool false, str o.data, .slice ma o.l.length mc] 32) = w10 at *
      have hsv := qSameVersion_any ⟨o.key, s, false, o.data, o.l⟩ ⟨o.key, s, false, o.data, o.l⟩ w10 ya _ yc rfl yo10.out (by show o.l.length ≤ _; omega) ma _ mc rfl K10.out.s.at' (by show o.l.length ≤ _; omega)
      rw [sv_true rfl] at hsv
      with_reducible refine Calls.mono hsv ?_
      rintro e w11 ⟨rfl, b11⟩
      dsimp only
      clear hsv p0 p1 q0 q1 q2 q3 q4 q5 r0 r1 x0 x1 x2 x3 x4 y0 y1 y2 y3 y4 u0 u1 yo10
      have K11 : Hid (KN W w11 g1 gb gv s L la lc o ma mc v va vc) := ⟨K10.out.later b11⟩
      have zc11 := Hid.mk (zc10.out.later b11)
      have HLX11 := Hid.mk (HLX10.out.later b11)
      clear K10 zc10 HLX10 b11
      obtain ⟨r0, r1, _⟩ := zc11.out.cells
      go_wp2_with fail
      with_reducible refine Calls.mono (right_r HXR.out w11 xa xc HLX11.out) ?_
      rintro e w12 ⟨rfl, b12⟩
      dsimp only
      clear r0 r1
      have K12 : Hid (KN W w12 g1 gb gv s L la lc o ma mc v va vc) := ⟨K11.out.later b12⟩
      have zc12 := Hid.mk (zc11.out.later b12)
      have HLX12 := Hid.mk (HLX11.out.later b12)
      clear K11 zc11 HLX11 b12
      obtain ⟨r0, r1, _⟩ := zc12.out.cells
      obtain ⟨q0, q1, q2, q3, q4, q5⟩ := K12.out.zo.cells
      obtain ⟨v0, v1, v2, v3, v4, _⟩ := K12.out.zv.cells
      go_wp2_with fail
      with_reducible refine Calls.mono (others_any (s + 1) X other o.key v e0 w12 xa xc HXR.out HLX12.out va vc K12.out.pv hvl Hot.out) ?_
      rintro e w13 ⟨rfl, b13⟩
      dsimp only
      have K13 : Hid (KN W w13 g1 gb gv s L la lc o ma mc v va vc) := ⟨K12.out.later b13⟩
      clear K12 zc12 HLX12 b13 r0 r1 q0 q1 q2 q3 q4 q5 v0 v1 v2 v3 v4
      go_wp2_with fail
      go_meet
      case rel => exact K13
  case rest =>
    clear hPc zc HX K7
    have K := hcut
    clear hcut
    obtain ⟨p0, p1, _⟩ := K.out.zb.cells
    obtain ⟨q0, q1, q2, q3, q4, q5⟩ := K.out.zo.cells
    go_wp2_with fail
    with_reducible refine Calls.mono (del_r HR.out o.key wc la lc K.out.li) ?_
    rintro e w7 hP
    obtain ⟨n1, X, s, c, rv, rfl, kr, b7, hPc⟩ : ∃ n1 X s c rv, e = .returned (.tuple #[.agg #[.int .i64 n1, rv], .int .i64 s, .int .i64 c]) ∧ Cp wc.heap.size w7 rv X ∧ Below wc.heap.size wc w7 ∧ ((¬ c = 0) ∨ (rfE next L ⟨o.key, next, true, [], []⟩ = 0 ∧ c = 0 ∧ s = next ∧ n1 = next + 1 ∧ X = putX L ⟨o.key, next, true, [], []⟩)) := by
      rcases hP with ⟨q1, rv, e1, kr, b⟩ | ⟨q1, rv, e1, kr, b⟩
      · exact ⟨_, _, _, _, rv, e1, kr, b, .inl q1⟩
      · exact ⟨_, _, _, _, rv, e1, kr, b, .inr ⟨q1, rfl, rfl, rfl, rfl⟩⟩
    clear hP
    obtain ⟨xa, xc, rfl, hXs⟩ := kr.ls
    dsimp only
    clear p0 p1 q0 q1 q2 q3 q4 q5
    have bx := (Below.refl w7.heap.size w7).alloc (Nat.le_refl _) (.cells #[.int .i64 n1, .slice xa X.length xc] 26)
    have K7 : Hid (KN W (w7.alloc (.cells #[.int .i64 n1, .slice xa X.length xc] 26)) g1 gb gv next L la lc o ma mc v va vc) := ⟨K.out.later (below_seq b7 bx)⟩
    have zc := Hid.mk (Bq.new w7 (.int .i64 n1) (.slice xa X.length xc))
    have HX := Hid.mk (hXs.later bx)
    clear kr b7 bx K hXs
    go_upto_if 115 with fail
    generalize w7.alloc (.cells #[.int .i64 n1, .slice xa X.length xc] 26) = wd at *
    generalize w7.heap.size = gd at *
    go_cut [12] from 10 (fun f wx => Hid (KN W wx g1 gb gv next L la lc o ma mc v va vc))
    case first =>
      rcases hPc with hc | ⟨hr, rfl, rfl, rfl, rfl⟩
      · have dc : (c == 0) = false := beq_eq_false_iff_ne.2 hc
        clear hc zc HX
        go_wp2_with fail
        go_meet
        case rel => exact K7
      · have hXR := (put_own HR.out hr rfl).1
        have hG0 := del_get HR.out hr rfl rfl
        obtain ⟨hV0, hV1⟩ := put_gv HR.out hr rfl
        have hot := fun (hk : ¬ o.key = other) => HOp.out ⟨o.key, s, true, [], []⟩ hr rfl hk
        have hLX := rt_li hXR HX.out
        have hg := get_r _ (s + 1) o.key wd xa xc hXR.srt hLX
        have hgv := fun (w : World) (hL : Li w (putX L ⟨o.key, s, true, [], []⟩) xa (putX L ⟨o.key, s, true, [], []⟩).length xc) => gvn_r _ (s + 1) o.key s w xa xc hXR.srt hL
        simp only at hG0 hV0 hV1
        rw [hG0] at hg
        rw [hV0, hV1] at hgv
        generalize gtV (putX L ⟨o.key, s, true, [], []⟩) o.key = vg at *
        generalize putX L ⟨o.key, s, true, [], []⟩ = X at *
        generalize ([] : List UInt8) = dd at *
        generalize ([] : List En) = ll at *
        have HXR := Hid.mk hXR
        have HLX := Hid.mk hLX
        have Hot := Hid.mk hot
        have Hgv := Hid.mk hgv
        clear hr hG0 hV0 hV1 hXR hLX hot HX hgv
        obtain ⟨p0, p1, _⟩ := K7.out.zb.cells
        obtain ⟨q0, q1, q2, q3, q4, q5⟩ := K7.out.zo.cells
        obtain ⟨r0, r1, _⟩ := zc.out.cells
        go_wp2_with fail
        with_reducible refine Calls.mono hg ?_
        rintro e w9 ⟨ya, yc, rfl, _, b9⟩
        dsimp only
        clear hg p0 p1 q0 q1 q2 q3 q4 q5 r0 r1
        have b10 := below_seq b9 ((Below.refl w9.heap.size w9).alloc (Nat.le_refl _) (.cells #[str vg.key, .int .i64 vg.seq, .bool vg.mkr, str vg.data, .slice ya vg.l.length yc] 32))
        have K10 : Hid (KN W (w9.alloc (.cells #[str vg.key, .int .i64 vg.seq, .bool vg.mkr, str vg.data, .slice ya vg.l.length yc] 32)) g1 gb gv s L la lc o ma mc v va vc) := ⟨K7.out.later b10⟩
        have zc10 := Hid.mk (zc.out.later b10)
        have HLX10 := Hid.mk (HLX.out.later b10)
        obtain ⟨q0, q1, q2, q3, q4, q5⟩ := K10.out.zo.cells
        obtain ⟨r0, r1, _⟩ := zc10.out.cells
        clear b9 b10 K7 zc HLX
        go_wp2_with fail
        generalize w9.alloc (.cells #[str vg.key, .int .i64 vg.seq, .bool vg.mkr, str vg.data, .slice ya vg.l.length yc] 32) = w10 at *
        with_reducible refine Calls.mono (Hgv.out w10 HLX10.out) ?_
        rintro e w11 ⟨ta, tc, rfl, _, b11⟩
        dsimp only
        clear q0 q1 q2 q3 q4 q5 r0 r1 Hgv
        have b12 := below_seq b11 ((Below.refl w11.heap.size w11).alloc (Nat.le_refl _) (.cells #[str o.key, .int .i64 s, .bool true, str dd, .slice ta ll.length tc] 32))
        have K12 : Hid (KN W (w11.alloc (.cells #[str o.key, .int .i64 s, .bool true, str dd, .slice ta ll.length tc] 32)) g1 gb gv s L la lc o ma mc v va vc) := ⟨K10.out.later b12⟩
        have zc12 := Hid.mk (zc10.out.later b12)
        have HLX12 := Hid.mk (HLX10.out.later b12)
        have zt := Bv.new w11 (str o.key) (.int .i64 s) (.bool true) (str dd) (.slice ta ll.length tc)
        obtain ⟨r0, r1, _⟩ := zc12.out.cells
        obtain ⟨p0, p1, _⟩ := K12.out.zb.cells
        obtain ⟨x0, x1, x2, x3, x4, _⟩ := zt.cells
        clear b11 b12 K10 zc10 HLX10 zt
        go_wp2_with fail
        generalize w11.alloc (.cells #[str o.key, .int .i64 s, .bool true, str dd, .slice ta ll.length tc] 32) = w12 at *
        with_reducible refine Calls.mono (right_r HXR.out w12 xa xc HLX12.out) ?_
        rintro e w13 ⟨rfl, b13⟩
        dsimp only
        clear r0 r1 p0 p1 x0 x1 x2 x3 x4
        have K13 : Hid (KN W w13 g1 gb gv s L la lc o ma mc v va vc) := ⟨K12.out.later b13⟩
        have zc13 := Hid.mk (zc12.out.later b13)
        have HLX13 := Hid.mk (HLX12.out.later b13)
        clear K12 zc12 HLX12 b13
        obtain ⟨r0, r1, _⟩ := zc13.out.cells
        obtain ⟨q0, q1, q2, q3, q4, q5⟩ := K13.out.zo.cells
        obtain ⟨v0, v1, v2, v3, v4, _⟩ := K13.out.zv.cells
        go_wp2_with fail
        with_reducible refine Calls.mono (others_any (s + 1) X other o.key v e0 w13 xa xc HXR.out HLX13.out va vc K13.out.pv hvl Hot.out) ?_
        rintro e w14 ⟨rfl, b14⟩
        dsimp only
        have K14 : Hid (KN W w14 g1 gb gv s L la lc o ma mc v va vc) := ⟨K13.out.later b14⟩
        clear K13 zc13 HLX13 b14 r0 r1 q0 q1 q2 q3 q4 q5 v0 v1 v2 v3 v4
        go_wp2_with fail
        go_meet
        case rel => exact K14
    case rest =>
      clear hPc zc HX K7
      have K := hcut
      clear hcut HOp
      obtain ⟨p0, p1, _⟩ := K.out.zb.cells
      obtain ⟨q0, q1, q2, q3, q4, q5⟩ := K.out.zo.cells
      go_wp2_with fail
      with_reducible refine Calls.mono (rem_r HR.out o.key o.seq wc la lc K.out.li) ?_
      rintro e w7 hP
      obtain ⟨n1, X, c, rv, rfl, kr, b7, hPc⟩ : ∃ n1 X c rv, e = .returned (.tuple #[.agg #[.int .i64 n1, rv], .int .i64 c]) ∧ Cp wc.heap.size w7 rv X ∧ Below wc.heap.size wc w7 ∧ ((¬ c = 0 ∧ gvE L o.key o.seq = c) ∨ (gvE L o.key o.seq = 0 ∧ c = 0 ∧ n1 = next ∧ X = remX L o.key o.seq)) := by
        rcases hP with ⟨q1, rv, e1, kr, b⟩ | ⟨q1, rv, e1, kr, b⟩
        · exact ⟨_, _, _, rv, e1, kr, b, .inl ⟨q1, rfl⟩⟩
        · exact ⟨_, _, _, rv, e1, kr, b, .inr ⟨q1, rfl, rfl, rfl⟩⟩
      clear hP
      obtain ⟨xa, xc, rfl, hXs⟩ := kr.ls
      dsimp only
      clear p0 p1 q0 q1 q2 q3 q4 q5
      have bx := (Below.refl w7.heap.size w7).alloc (Nat.le_refl _) (.cells #[.int .i64 n1, .slice xa X.length xc] 26)
      have K7 : Hid (KN W (w7.alloc (.cells #[.int .i64 n1, .slice xa X.length xc] 26)) g1 gb gv next L la lc o ma mc v va vc) := ⟨K.out.later (below_seq b7 bx)⟩
      have zc := Hid.mk (Bq.new w7 (.int .i64 n1) (.slice xa X.length xc))
      have HX := Hid.mk (hXs.later bx)
      clear kr b7 bx K hXs
      obtain ⟨p0, p1, _⟩ := K7.out.zb.cells
      obtain ⟨q0, q1, q2, q3, q4, q5⟩ := K7.out.zo.cells
      obtain ⟨r0, r1, _⟩ := zc.out.cells
      rcases hPc with ⟨hc, hge⟩ | ⟨hr, rfl, rfl, rfl⟩
      · have dc : (c == 0) = false := beq_eq_false_iff_ne.2 hc
        have hgv := gvn_r L next o.key o.seq _ la lc HR.out.srt K7.out.li
        rw [hge] at hgv
        generalize gvV L o.key o.seq = vg at *
        clear hc zc HX hge HOr
        go_wp2_with fail
        with_reducible refine Calls.mono hgv ?_
        rintro e w9 ⟨ya, yc, rfl, _, b9⟩
        dsimp only
        have B10 := Hid.mk ((K7.out.later b9).later ((Below.refl w9.heap.size w9).alloc (Nat.le_refl _) (.cells #[str vg.key, .int .i64 vg.seq, .bool vg.mkr, str vg.data, .slice ya vg.l.length yc] 32))).b
        clear hgv p0 p1 q0 q1 q2 q3 q4 q5 r0 r1 K7 b9
        go_wp2_with fail
        go_ret
        exact ⟨rfl, B10.out⟩
      · have hXR := rem_rt HR.out o.key o.seq
        obtain ⟨hV0, hlen⟩ := rem_gv HR.out hr
        have hLX := rt_li hXR HX.out
        have hgv := gvn_r _ n1 o.key o.seq _ xa xc hXR.srt hLX
        have hLl := HR.out.len
        rw [hV0] at hgv
        generalize gvV (remX L o.key o.seq) o.key o.seq = vg at *
        generalize remX L o.key o.seq = X at *
        have HXR := Hid.mk hXR
        have HLX := Hid.mk hLX
        have hw2 : wrap64 ((L.length : Int) - 1) = (X.length : Int) := by unfold wrap64; omega
        clear hr hV0 hXR hLX HX hlen hLl
        go_wp2_with fail
        with_reducible refine Calls.mono hgv ?_
        rintro e w9 ⟨ya, yc, rfl, _, b9⟩
        dsimp only
        clear hgv p0 p1 q0 q1 q2 q3 q4 q5 r0 r1
        have b10 := below_seq b9 ((Below.refl w9.heap.size w9).alloc (Nat.le_refl _) (.cells #[str vg.key, .int .i64 vg.seq, .bool vg.mkr, str vg.data, .slice ya vg.l.length yc] 32))
        have K10 : Hid (KN W (w9.alloc (.cells #[str vg.key, .int .i64 vg.seq, .bool vg.mkr, str vg.data, .slice ya vg.l.length yc] 32)) g1 gb gv n1 L la lc o ma mc v va vc) := ⟨K7.out.later b10⟩
        have zc10 := Hid.mk (zc.out.later b10)
        have HLX10 := Hid.mk (HLX.out.later b10)
        obtain ⟨p0, p1, _⟩ := K10.out.zb.cells
        obtain ⟨r0, r1, _⟩ := zc10.out.cells
        clear b9 b10 K7 zc HLX
        generalize hXl : X.length = XL at *
        generalize hLLl : L.length = LL at *
        have HXl := Hid.mk hXl
        clear hXl hLLl
        go_wp2_with fail
        generalize w9.alloc (.cells #[str vg.key, .int .i64 vg.seq, .bool vg.mkr, str vg.data, .slice ya vg.l.length yc] 32) = w10 at *
        have hrr := right_r HXR.out w10 xa xc (by rw [HXl.out]; exact HLX10.out)
        rw [HXl.out] at hrr
        with_reducible refine Calls.mono hrr ?_
        rintro e w13 ⟨rfl, b13⟩
        dsimp only
        clear r0 r1 p0 p1 hrr
        have K13 : Hid (KN W w13 g1 gb gv n1 L la lc o ma mc v va vc) := ⟨K10.out.later b13⟩
        have zc13 := Hid.mk (zc10.out.later b13)
        have HLX13 := Hid.mk (HLX10.out.later b13)
        clear K10 zc10 HLX10 b13
        obtain ⟨r0, r1, _⟩ := zc13.out.cells
        obtain ⟨q0, q1, q2, q3, q4, q5⟩ := K13.out.zo.cells
        obtain ⟨v0, v1, v2, v3, v4, _⟩ := K13.out.zv.cells
        have hoo := others_any n1 X other o.key v e0 w13 xa xc HXR.out (by rw [HXl.out]; exact HLX13.out) va vc K13.out.pv hvl HOr.out
        rw [HXl.out] at hoo
        clear HOr
        go_wp2_with fail
        with_reducible refine Calls.mono hoo ?_
        rintro e w14 ⟨rfl, b14⟩
        dsimp only
        have B14 := Hid.mk (K13.out.later b14).b
        clear K13 zc13 HLX13 b14 r0 r1 q0 q1 q2 q3 q4 q5 v0 v1 v2 v3 v4 hoo
        go_wp2_with fail
        go_ret
        exact ⟨rfl, B14.out⟩
end Go.Proofs.Ytcbajnajamjcnaa
