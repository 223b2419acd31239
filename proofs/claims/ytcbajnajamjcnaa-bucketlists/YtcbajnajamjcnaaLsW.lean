/- BucketLists: the walk. -/
import Derived.Test.YtcbajnajamjcnaaGa
import Derived.Test.YtcbajnajamjcnaaGj
import Derived.Test.YtcbajnajamjcnaaMdb
namespace Go.Proofs.Ytcbajnajamjcnaa
set_option linter.unusedVariables false
set_option linter.unusedSimpArgs false
open Go.RowKit
attribute [local go_sem ↓] Go.wp_at_zero Go.wp_at_succ
structure K1 (W w : World) (gb : Nat) (next : Int) (L : List Vs) (la : Option Addr) (lc : Nat) (ra : Option Addr) (R : List Rw) : Prop where
  b : Below W.heap.size W w
  zb : Bq w gb (.int .i64 next) (.slice la L.length lc)
  li : Li w L la L.length lc
  rw : WIn w ra R
theorem K1.later {W w w' : World} {gb : Nat} {next : Int} {L : List Vs} {la : Option Addr} {lc : Nat} {ra : Option Addr} {R : List Rw} (h : K1 W w gb next L la lc ra R) (hb : Below w.heap.size w w') : K1 W w' gb next L la lc ra R :=
  ⟨h.b.trans (hb.mono h.b.size), h.zb.later hb, h.li.later hb, h.rw.later hb⟩
theorem bless_no {a b : List UInt8} (h : ¬ lt a b) : Go.Op.bytesLess a b = false := by
  rw [bytesLess_eq]; simpa using h
theorem bless_yes {a b : List UInt8} (h : lt a b) : Go.Op.bytesLess a b = true := by
  rw [bytesLess_eq]; simpa using h
theorem rt_key {next : Int} {L : List Vs} (h : RtB next L) {u : Vs} (hu : u ∈ L) : keyE u.key = 0 := (vrV_iff.1 (h.ok u hu).2.2).1.1
/-- what Get tells of a version's key, and where its box comes to lie -/
theorem get_is {next : Int} {L : List Vs} (h : RtB next L) {u : Vs} (hu : u ∈ L) (hE : toE (gpL L (fndV L u.key) u.key) = 0) (hV : toV (gpL L (fndV L u.key) u.key) = u) {w : World} {a : Option Addr} {c : Nat} (hL : Li w L a L.length c) : Calls Try.prog 9 #[bv next a L.length c, str u.key] w fun e w' => ∃ xa xc, e = .returned (.tuple #[vv u.key u.seq u.mkr u.data xa u.l.length xc, .int .i64 0]) ∧ Below w.heap.size w w' := by
  refine (bGet_any L next u.key w a _ c hL).mono ?_
  rintro e w' ⟨i, hi, hs, had⟩
  obtain rfl := hs h.srt
  rcases had with ⟨q, _⟩ | ⟨_, q⟩
  · exact absurd (rt_key h hu) q
  · rw [hE, hV] at q
    obtain ⟨xa, xc, e1, _, b1⟩ := q
    exact ⟨xa, xc, e1, b1⟩
theorem below_al {w w' : World} (h : Below w.heap.size w w') (o : Obj) : Below w.heap.size w (w'.alloc o) := h.alloc h.size o
theorem below_set5 {w w3 : World} {g : Nat} (h : Below w.heap.size w w3) (hg : w.heap.size ≤ g) {a b c d e : Value} : Below w.heap.size w (((((w3.setCell ⟨g, 0, none⟩ a).setCell ⟨g, 1, none⟩ b).setCell ⟨g, 2, none⟩ c).setCell ⟨g, 3, none⟩ d).setCell ⟨g, 4, none⟩ e) :=
  ((((h.setCell (p := ⟨g, 0, none⟩) hg _).setCell (p := ⟨g, 1, none⟩) hg _).setCell (p := ⟨g, 2, none⟩) hg _).setCell (p := ⟨g, 3, none⟩) hg _).setCell (p := ⟨g, 4, none⟩) hg _
theorem cnt_next {L : List Vs} {P : Option (List UInt8) × Vs → Bool} {k : Nat} {x : Option (List UInt8) × Vs} (h : (prs none L)[k]? = some x) : ((prs none L).take (k + 1)).countP P = ((prs none L).take k).countP P + (if P x = true then 1 else 0) := by
  rw [takeV h, List.countP_append, List.countP_singleton]
theorem lt_nil' (a : List UInt8) : ¬ lt a [] := by
  intro h
  cases a <;> simp [lt, bcmp] at h
theorem fnd_nil (L : List Vs) : fndV L [] = 0 := by
  cases L with
  | nil => rfl
  | cons v t => unfold fndV; rw [if_neg (lt_nil' _)]
/-- what GetVersion tells of a version -/
theorem gv_is {next : Int} {L : List Vs} (h : RtB next L) {u : Vs} (hu : u ∈ L) {w : World} {a : Option Addr} {c : Nat} (hL : Li w L a L.length c) : Calls Try.prog 11 #[bv next a L.length c, str u.key, .int .i64 u.seq] w fun e w' => ∃ xa xc, e = .returned (.tuple #[vv u.key u.seq u.mkr u.data xa u.l.length xc, .int .i64 0]) ∧ Below w.heap.size w w' := by
  refine (bGetVersion_any L next u.key u.seq w a _ c hL).mono ?_
  rintro e w' ⟨i, hi, hs, had⟩
  obtain rfl := hs h.srt
  obtain ⟨hE, hV⟩ := ge_told h hu
  rcases had with ⟨q, _⟩ | ⟨_, q⟩
  · exact absurd (rt_key h hu) q
  · rw [hE, hV] at q
    obtain ⟨xa, xc, e1, _, b1⟩ := q
    exact ⟨xa, xc, e1, b1⟩
/-- what Get tells of any version's key -/
theorem get_e {next : Int} {L : List Vs} (h : RtB next L) {u : Vs} (hu : u ∈ L) {w : World} {a : Option Addr} {c : Nat} (hL : Li w L a L.length c) : Calls Try.prog 9 #[bv next a L.length c, str u.key] w fun e w' => ∃ v0 v1 v2 v3 v4, e = .returned (.tuple #[.agg #[v0, v1, v2, v3, v4], .int .i64 (toE (gpL L (fndV L u.key) u.key))]) ∧ (∃ x y z, v0 = str x ∧ v1 = .int .i64 y ∧ v2 = .bool z) ∧ (∃ x a n c, v3 = str x ∧ v4 = .slice a n c) ∧ Below w.heap.size w w' := by
  refine (bGet_any L next u.key w a _ c hL).mono ?_
  rintro e w' ⟨i, hi, hs, had⟩
  obtain rfl := hs h.srt
  rcases had with ⟨q, _⟩ | ⟨_, q⟩
  · exact absurd (rt_key h hu) q
  · obtain ⟨xa, xc, e1, _, b1⟩ := q
    exact ⟨_, _, _, _, _, e1, ⟨_, _, _, rfl, rfl, rfl⟩, ⟨_, _, _, _, rfl, rfl⟩, b1⟩
theorem bvz {w2 w3 : World} {a b c d e : Value} (bA : Below (w2.alloc (.cells #[a, b, c, d, e] 32)).drew.heap.size (w2.alloc (.cells #[a, b, c, d, e] 32)).drew w3) : Bv w3 w2.heap.size a b c d e := by
  unfold Bv; rw [bA.block _ (by simp)]; exact heap_alloc_new w2 _
set_option maxRecDepth 100000 in
set_option maxHeartbeats 8000000 in
theorem bucketLists_walk (S : List Op1) (a : Option Addr) (cap : Nat) (fr : List UInt8) (W : World) (hS : OIn W a S) (hl : S.length ≤ 1759218604390) (hf : fr.length ≤ 140737488351232) :
    Calls Try.prog 3 #[.slice a S.length cap, str fr] W fun e W' => e = .returned (.bool true) ∧ Below W.heap.size W W' := by
  go_enter Try.func3, Try.ntmps3
  go_wp2_with fail
  with_reducible refine Calls.mono (fixed_any _) ?_
  rintro e w1 ⟨rfl, b1⟩
  dsimp only
  go_wp2_with fail
  with_reducible refine Calls.mono (made_any S w1 a _ cap rfl (hS.later b1) (by omega)) ?_
  rintro e w2 ⟨next, L, v, rfl, hR, hC, b2⟩
  obtain ⟨la, lc, rfl, hLi⟩ := hR.li hC
  dsimp only
  have bx := (Below.refl w2.heap.size w2).alloc (Nat.le_refl _) (.cells #[.int .i64 next, .slice la L.length lc] 26)
  have zb := Bq.new w2 (.int .i64 next) (.slice la L.length lc)
  have hLi3 := hLi.later bx
  have B3 := below_seq (below_seq b1 b2) bx
  obtain ⟨p0, p1, _⟩ := zb.cells
  clear b1 b2 bx hLi hC hS hl
  go_wp2_with fail
  generalize w2.alloc (.cells #[.int .i64 next, .slice la L.length lc] 26) = w3 at *
  generalize w2.heap.size = gb at *
  with_reducible refine Calls.mono (bList_any L next fr 256 w3 la _ lc hLi3) ?_
  rintro e w4 ⟨i, hi, hs, lv, rfl, ho, b4⟩
  dsimp only
  obtain rfl := hs hR.srt
  have hEv : evL (stL (min 256 256)) [] (L.drop (fndV L fr)) = byK nw1 (L.drop (fndV L fr)) := by
    have h1 := hR.len
    have := ev_list _ (L.drop (fndV L fr)) [] (Nat.le_refl _) (by rw [List.length_drop]; simp; omega)
    simpa using this
  rw [hEv] at ho
  have HLr := Hid.mk (fun r (h : r ∈ byK nw1 (L.drop (fndV L fr))) => list_row hR.srt h)
  have HRi := Hid.mk (byK_rise _ (L.drop (fndV L fr)) (Nat.le_refl _) (hR.srt.sublist (List.drop_sublist _ _)))
  have HCn := Hid.mk (cnt_list hR.srt fr)
  have HRl : Hid ((byK nw1 (L.drop (fndV L fr))).length ≤ 256) := ⟨by
    rw [← cnt_list hR.srt fr]
    unfold cnt
    have := List.countP_le_length (p := cq (cP L fr)) (l := prs none L)
    rw [prs_len] at this
    have := hR.len
    omega⟩
  generalize byK nw1 (L.drop (fndV L fr)) = R at *
  obtain ⟨ra, rc, rfl, hw⟩ := ho.sl
  have K : Hid (K1 W w4 gb next L la lc ra R) := ⟨⟨below_seq B3 b4, zb.later b4, hLi3.later b4, hw⟩⟩
  have HR := Hid.mk hR
  clear p0 p1 zb hLi3 B3 b4 hw ho hEv hs hi hR
  go_wp2_with fail
  go_loopw [7] (fun i wr => ∃ k : Nat, k ≤ R.length ∧ i = .int .i64 (k : Int) ∧ Hid (K1 W wr gb next L la lc ra R)) (fun i _ => R.length - (intOf i).toNat)
  case atStart => exact ⟨0, Nat.zero_le _, rfl, K⟩
  case round =>
    obtain ⟨k, hk, rfl, H⟩ := hrel
    clear K
    by_cases hlt : k < R.length
    · have d1 : decide ((k : Int) < (R.length : Int)) = true := decide_eq_true (Int.ofNat_lt.2 hlt)
      have k2 : (k : Int) < (R.length : Int) := Int.ofNat_lt.2 hlt
      have hw1 : wrap64 ((k : Int) + 1) = ((k + 1 : Nat) : Int) := by have := HRl.out; unfold wrap64; omega
      obtain ⟨r, hr⟩ : ∃ r, R[k]? = some r := ⟨R[k], List.getElem?_eq_getElem hlt⟩
      obtain ⟨u, hu, rfl, hm, hge, hE, hV⟩ := HLr.out r (List.mem_of_getElem? hr)
      have hget := fun (w' : World) (hb : Below wr.heap.size wr w') => get_is HR.out hu hE hV (H.out.li.later hb)
      have hl1 := bless_no hge
      obtain ⟨b, off, rfl, hbl, c0, c1, c2, c3⟩ := H.out.rw.get k _ hr
      rw [show (rwOf u).mkr = false from hm] at c2
      obtain ⟨key, seq, mkr, data, l⟩ := u
      simp only [rwOf] at *
      subst hm
      have HS1 : Hid (∀ w', Below wr.heap.size wr w' → Below wr.heap.size wr w' ∧ w'.cell? ⟨gb, 0, none⟩ = some (.int .i64 next) ∧ w'.cell? ⟨gb, 1, none⟩ = some (.slice la L.length lc) ∧ w'.cell? ⟨b, off + k * 4, none⟩ = some (str key)) := ⟨fun w' h => by
        obtain ⟨t0, t1, _⟩ := (H.out.zb.later h).cells
        exact ⟨h, t0, t1, (h.cell (p := ⟨b, _, none⟩) hbl).trans c0⟩⟩
      obtain ⟨p0, p1, _⟩ := H.out.zb.cells
      clear hE hV hge
      go_wp2_with fail
      go_region_held3 (fun w' => Below wr.heap.size wr w' ∧ w'.cell? ⟨gb, 0, none⟩ = some (.int .i64 next) ∧ w'.cell? ⟨gb, 1, none⟩ = some (.slice la L.length lc) ∧ w'.cell? ⟨b, off + k * 4, none⟩ = some (str key)) ((refine HS1.out _ ?_; first
        | with_reducible exact (Below.refl _ _).drew
        | with_reducible exact bB
        | with_reducible exact below_al bB _
        | with_reducible exact ((Below.refl _ _).alloc (Nat.le_refl _) _).drew
        | with_reducible exact below_set5 bB (Nat.le_refl _))) (
        (go_at_call 9; with_reducible refine Calls.mono (hget _ (And.left (by assumption))) ?_; rintro e w5 ⟨xa, xc, rfl, bA⟩; first
          | (with_reducible have bB := below_seq (Below.refl wr.heap.size wr).drew bA; clear bA)
          | (with_reducible have bB := below_seq ((Below.refl wr.heap.size wr).alloc (Nat.le_refl _) _).drew bA; with_reducible have hz3 := bvz bA; have z0 := hz3.cells.1; have z1 := hz3.cells.2.1; have z2 := hz3.cells.2.2.1; have z3 := hz3.cells.2.2.2.1; have z4 := hz3.cells.2.2.2.2.1; have k0 := hz3.cells.2.2.2.2.2 0; have k1 := hz3.cells.2.2.2.2.2 1; have k2 := hz3.cells.2.2.2.2.2 2; have k3 := hz3.cells.2.2.2.2.2 3; have k4 := hz3.cells.2.2.2.2.2 4; have hz4 := Hid.mk hz3; clear hz3 bA)))
      all_goals first
        | (fail_if_success (have hq := hz4)
           have hz := Bv.new w5 (str key) (.int .i64 seq) (.bool false) (str data) (.slice xa l.length xc)
           have bZ := below_al bB (.cells #[str key, .int .i64 seq, .bool false, str data, .slice xa l.length xc] 32)
           generalize w5.alloc (.cells #[str key, .int .i64 seq, .bool false, str data, .slice xa l.length xc] 32) = w6 at *
           generalize w5.heap.size = g6 at *)
        | (have hz := hz4.out.s5 (str key) (.int .i64 seq) (.bool false) (str data) (.slice xa l.length xc)
           have bZ := below_set5 (g := wr.heap.size) bB (Nat.le_refl _) (a := str key) (b := .int .i64 seq) (c := .bool false) (d := str data) (e := .slice xa l.length xc)
           unfold s5 at hz
           clear z0 z1 z2 z3 z4 k0 k1 k2 k3 k4 hz4
           generalize ((((w5.setCell ⟨wr.heap.size, 0, none⟩ (str key)).setCell ⟨wr.heap.size, 1, none⟩ (.int .i64 seq)).setCell ⟨wr.heap.size, 2, none⟩ (.bool false)).setCell ⟨wr.heap.size, 3, none⟩ (str data)).setCell ⟨wr.heap.size, 4, none⟩ (.slice xa l.length xc) = w6 at *
           obtain ⟨g6, hg6⟩ : ∃ g, g = wr.heap.size := ⟨_, rfl⟩
           rw [← hg6] at hz ⊢
           clear hg6)
      all_goals
        have H6 : Hid (K1 W w6 gb next L la lc (some ⟨b, off, none⟩) R) := ⟨H.out.later bZ⟩
        have e0 := (bZ.cell (p := ⟨b, _, none⟩) hbl).trans c0
        have e1 := (bZ.cell (p := ⟨b, _, none⟩) hbl).trans c1
        have e2 := (bZ.cell (p := ⟨b, _, none⟩) hbl).trans c2
        have e3 := (bZ.cell (p := ⟨b, _, none⟩) hbl).trans c3
        have y0 := hz.cells.1
        have y1 := hz.cells.2.1
        have y2 := hz.cells.2.2.1
        have y3 := hz.cells.2.2.2.1
        by_cases hk0 : k = 0
        · have d2 : decide ((0 : Int) < (k : Int)) = false := decide_eq_false (by omega)
          have d3 : decide (0 < k) = false := decide_eq_false (by omega)
          clear hk0 hz bZ bB HS1 H hget p0 p1 c0 c1 c2 c3 hr HLr HRi HCn HR hu
          go_wp2_with fail
          go_quiet (fail)
          go_wp2_with fail
          exact ⟨⟨k + 1, hlt, by first | (rw [hw1]; done) | go_num, ⟨H6.out.later (below_dN (Below.refl _ _) nq)⟩⟩, by first | (rw [hw1]; exact Nat.sub_lt_sub_left hlt (Nat.lt_succ_self k)) | (simp [intOf]; omega)⟩
        · have d2 : decide ((0 : Int) < (k : Int)) = true := decide_eq_true (by omega)
          have d3 : decide (0 < k) = true := decide_eq_true (by omega)
          obtain ⟨j, hj⟩ : ∃ j, j = k - 1 := ⟨_, rfl⟩
          have hjl : j < R.length := by omega
          have hj1 : wrap64 ((k : Int) - 1) = (j : Int) := by have := HRl.out; unfold wrap64; omega
          have hj2 : IntKind.i64.wrap ((k : Int) - 1) = (j : Int) := by have := HRl.out; rw [IntKind.wrap_i64]; omega
          have j2 : (j : Int) < (R.length : Int) := Int.ofNat_lt.2 hjl
          obtain ⟨q, hq⟩ : ∃ q, R[j]? = some q := ⟨R[j], List.getElem?_eq_getElem hjl⟩
          obtain ⟨_, _, hqa, _, f0, _⟩ := H6.out.rw.get j q hq
          cases hqa
          have hqlt : lt q.key key := by
            obtain ⟨h1, rfl⟩ := List.getElem?_eq_some_iff.1 hq
            obtain ⟨h2, h3⟩ := List.getElem?_eq_some_iff.1 hr
            have := List.pairwise_iff_getElem.1 HRi.out j k h1 h2 (by omega)
            rw [h3] at this
            exact this
          have hn1 : Go.Op.bytesLess key q.key = false := bless_no fun h => lt_irrefl (bcmp_trans h hqlt)
          have hn2 : (key == q.key) = false := beq_eq_false_iff_ne.2 fun h => by rw [h] at hqlt; exact lt_irrefl hqlt
          generalize q.key = qk at *
          clear hk0 hj hz bZ bB HS1 H hget p0 p1 c0 c1 c2 c3 hr HLr HRi HCn HR hu hq hqlt hjl
          go_wp2_with fail
          go_quiet (fail)
          go_wp2_with fail
          exact ⟨⟨k + 1, hlt, by first | (rw [hw1]; done) | go_num, ⟨H6.out.later (below_dN (Below.refl _ _) nq)⟩⟩, by first | (rw [hw1]; exact Nat.sub_lt_sub_left hlt (Nat.lt_succ_self k)) | (simp [intOf]; omega)⟩
    · obtain rfl : k = R.length := by omega
      have d1 : decide ((R.length : Int) < (R.length : Int)) = false := decide_eq_false (by omega)
      have HP0 : Hid (∀ w', K1 W w' gb next L la lc ra R → w'.cell? ⟨gb, 0, none⟩ = some (.int .i64 next) ∧ w'.cell? ⟨gb, 1, none⟩ = some (.slice la L.length lc)) := ⟨fun w' h => ⟨h.zb.cells.1, h.zb.cells.2.1⟩⟩
      have hLl : Hid (L.length ≤ 256) := ⟨HR.out.len⟩
      clear HLr HRi HRl hk hlt
      go_wp2_with fail
      generalize R.length = RL at *
      go_loopw [10, 11] (fun n i wr => ∃ k : Nat, k ≤ L.length ∧ i = .int .i64 (k : Int) ∧ n = .int .i64 ((((prs none L).take k).countP (cq (cP L fr)) : Nat) : Int) ∧ Hid (K1 W wr gb next L la lc ra R)) (fun n i _ => L.length - (intOf i).toNat)
      case atStart => exact ⟨0, Nat.zero_le _, rfl, rfl, H⟩
      case round =>
        obtain ⟨k, hk, rfl, rfl, H⟩ := hrel
        have hcl : Hid (((prs none L).take k).countP (cq (cP L fr)) ≤ 256) := ⟨by
          have h1 := List.countP_le_length (p := cq (cP L fr)) (l := (prs none L).take k)
          have h2 := hLl.out
          rw [List.length_take] at h1
          omega⟩
        obtain ⟨p0, p1⟩ := HP0.out _ H.out
        by_cases hlt : k < L.length
        · have d1 : decide ((k : Int) < (L.length : Int)) = true := decide_eq_true (Int.ofNat_lt.2 hlt)
          have k2 : (k : Int) < (L.length : Int) := Int.ofNat_lt.2 hlt
          have hw1 : wrap64 ((k : Int) + 1) = ((k + 1 : Nat) : Int) := by have := hLl.out; unfold wrap64; omega
          obtain ⟨u, hu⟩ : ∃ u, L[k]? = some u := ⟨L[k], List.getElem?_eq_getElem hlt⟩
          have hget := get_e HR.out (List.mem_of_getElem? hu) H.out.li
          have hcP : Hid (cP L fr u.key = (!(Go.Op.bytesLess u.key fr) && (toE (gpL L (fndV L u.key) u.key) == 0))) := ⟨by
            unfold cP
            rw [bytesLess_eq]
            unfold lt
            simp [beq_iff_eq]
            rfl⟩
          obtain ⟨b, off, ma, mc, rfl, hbl, c0, c1, c2, c3, c4, hsl⟩ := H.out.li.s.at'.get k u hu
          obtain ⟨pp, hpx, hpp⟩ : ∃ pp, (prs none L)[k]? = some (pp, u) ∧ ((k = 0 ∧ pp = none) ∨ (¬ k = 0 ∧ ∃ x, L[k - 1]? = some x ∧ pp = some x.key)) := by
            by_cases hk0 : k = 0
            · subst hk0
              exact ⟨none, prs_zero hu, .inl ⟨rfl, rfl⟩⟩
            · obtain ⟨x, hx⟩ : ∃ x, L[k - 1]? = some x := ⟨L[k - 1]'(by omega), List.getElem?_eq_getElem _⟩
              refine ⟨some x.key, ?_, .inr ⟨hk0, x, hx, rfl⟩⟩
              have := prs_succ (p := none) hx (show L[k - 1 + 1]? = some u by rw [Nat.sub_add_cancel (by omega)]; exact hu)
              rw [Nat.sub_add_cancel (by omega)] at this
              exact this
          have hnx := Hid.mk (cnt_next (P := cq (cP L fr)) hpx)
          generalize ((prs none L).take k).countP (cq (cP L fr)) = C at *
          have hc1 : wrap64 ((C : Int) + 1) = ((C + 1 : Nat) : Int) := by have := hcl.out; unfold wrap64; omega
          generalize toE (gpL L (fndV L u.key) u.key) = te at *
          go_wp2_with fail
          with_reducible refine Calls.mono hget ?_
          rintro e w5 ⟨v0, v1, v2, v3, v4, rfl, ⟨x, y, z, rfl, rfl, rfl⟩, ⟨x', a', n', c', rfl, rfl⟩, b5⟩
          dsimp only
          clear hget
          have b6 := below_al b5 (.cells #[str x, .int .i64 y, .bool z, str x', .slice a' n' c'] 32)
          have H6 : Hid (K1 W (w5.alloc (.cells #[str x, .int .i64 y, .bool z, str x', .slice a' n' c'] 32)) gb next L (some ⟨b, off, none⟩) lc ra R) := ⟨H.out.later b6⟩
          cases hbl1 : Go.Op.bytesLess u.key fr with
          | true =>
            have HN : Hid (((prs none L).take (k + 1)).countP (cq (cP L fr)) = C) := ⟨by rw [hnx.out]; simp [cq, hcP.out, hbl1]⟩
            clear HCn HR hu hcP hnx hpx hcl b5 H c0 c1 c2 c3 c4 hsl p0 p1 HP0 hpp b6
            go_wp2_with fail
            exact ⟨⟨k + 1, hlt, by first | (rw [hw1]; done) | go_num, by rw [HN.out], H6⟩, by first | (rw [hw1]; exact Nat.sub_lt_sub_left hlt (Nat.lt_succ_self k)) | (simp [intOf]; omega)⟩
          | false =>
            by_cases hte : te = 0
            · subst hte
              rcases hpp with ⟨hk0, rfl⟩ | ⟨hk0, xv, hxv, rfl⟩
              · have HN : Hid (((prs none L).take (k + 1)).countP (cq (cP L fr)) = C + 1) := ⟨by rw [hnx.out]; simp [cq, hcP.out, hbl1]⟩
                have d2 : ((k : Int) == 0) = true := by rw [hk0]; rfl
                have d3 : (k == 0) = true := by rw [hk0]; rfl
                clear HCn HR hu hcP hnx hpx hcl b5 H c0 c1 c2 c3 c4 hsl p0 p1 HP0 hk0 b6
                go_wp2_with fail
                exact ⟨⟨k + 1, hlt, by first | (rw [hw1]; done) | go_num, by rw [HN.out]; first | (rw [hc1]; done) | rfl, H6⟩, by first | (rw [hw1]; exact Nat.sub_lt_sub_left hlt (Nat.lt_succ_self k)) | (simp [intOf]; omega)⟩
              · have d2 : ((k : Int) == 0) = false := by rw [beq_eq_false_iff_ne]; omega
                have d3 : (k == 0) = false := by rw [beq_eq_false_iff_ne]; exact hk0
                obtain ⟨j, hj⟩ : ∃ j, j = k - 1 := ⟨_, rfl⟩
                have hjl : j < L.length := by omega
                have hj1 : wrap64 ((k : Int) - 1) = (j : Int) := by have := hLl.out; unfold wrap64; omega
                have j2 : (j : Int) < (L.length : Int) := Int.ofNat_lt.2 hjl
                rw [← hj] at hxv
                obtain ⟨_, _, _, _, hqa, _, f0, _⟩ := H6.out.li.s.at'.get j xv hxv
                cases hqa
                obtain ⟨y0, y1⟩ := HP0.out _ H6.out
                by_cases hkk : xv.key = u.key
                · have HN : Hid (((prs none L).take (k + 1)).countP (cq (cP L fr)) = C) := ⟨by rw [hnx.out]; simp [cq, hkk]⟩
                  rw [hkk] at f0
                  clear HCn HR hu hcP hnx hpx hcl b5 H c0 c1 c2 c3 c4 hsl p0 p1 HP0 hk0 hj b6 hxv hjl hkk
                  go_wp2_with fail
                  exact ⟨⟨k + 1, hlt, by first | (rw [hw1]; done) | go_num, by rw [HN.out], H6⟩, by first | (rw [hw1]; exact Nat.sub_lt_sub_left hlt (Nat.lt_succ_self k)) | (simp [intOf]; omega)⟩
                · have HN : Hid (((prs none L).take (k + 1)).countP (cq (cP L fr)) = C + 1) := ⟨by rw [hnx.out]; simp [cq, hcP.out, hbl1, hkk]⟩
                  have d4 : (xv.key == u.key) = false := beq_eq_false_iff_ne.2 hkk
                  clear HCn HR hu hcP hnx hpx hcl b5 H c0 c1 c2 c3 c4 hsl p0 p1 HP0 hk0 hj b6 hxv hjl hkk
                  go_wp2_with fail
                  exact ⟨⟨k + 1, hlt, by first | (rw [hw1]; done) | go_num, by rw [HN.out]; first | (rw [hc1]; done) | rfl, H6⟩, by first | (rw [hw1]; exact Nat.sub_lt_sub_left hlt (Nat.lt_succ_self k)) | (simp [intOf]; omega)⟩
            · have HN : Hid (((prs none L).take (k + 1)).countP (cq (cP L fr)) = C) := ⟨by rw [hnx.out]; simp [cq, hcP.out, hte]⟩
              have dte : (te == 0) = false := beq_eq_false_iff_ne.2 hte
              clear HCn HR hu hcP hnx hpx hcl b5 H c0 c1 c2 c3 c4 hsl p0 p1 HP0 hpp b6 hte
              go_wp2_with fail
              exact ⟨⟨k + 1, hlt, by first | (rw [hw1]; done) | go_num, by rw [HN.out], H6⟩, by first | (rw [hw1]; exact Nat.sub_lt_sub_left hlt (Nat.lt_succ_self k)) | (simp [intOf]; omega)⟩
        · obtain rfl : k = L.length := by omega
          have d1 : decide ((L.length : Int) < (L.length : Int)) = false := decide_eq_false (by omega)
          have hCe : ((prs none L).take L.length).countP (cq (cP L fr)) = RL := by
            rw [← HCn.out, List.take_of_length_le (by rw [prs_len]; omega)]
            rfl
          rw [hCe]
          clear hcl HCn hCe hk hlt
          go_wp2_with fail
          have hv : Calls Try.prog 10 #[bv next la L.length lc, .string ⟨#[]⟩, .int .i64 256] wr _ := bVersions_any L next [] 256 wr la _ lc H.out.li
          with_reducible refine Calls.mono hv ?_
          clear hv
          rintro e w7 ⟨i, hi, hs, tv, rfl, ho, b7⟩
          dsimp only
          obtain rfl := hs HR.out.srt
          rw [fnd_nil, List.drop_zero] at ho
          have hEv : evL (stV (min 256 256)) [] L = byK rwsL L := by
            have h1 := hLl.out
            have := ev_vers _ L [] (Nat.le_refl _) (by simp; omega)
            simpa using this
          rw [hEv] at ho
          obtain ⟨hT1, hT2⟩ := byK_vrise _ L (Nat.le_refl _) HR.out.srt
          have HTr := Hid.mk hT1
          have HTu := Hid.mk hT2
          have HTl := Hid.mk (byK_rows_len _ L (Nat.le_refl _))
          clear hT1 hT2 hEv hs hi
          generalize byK rwsL L = T at *
          obtain ⟨ta, tc, rfl, hw⟩ := ho.sl
          have K : Hid (K1 W w7 gb next L la lc ta T) := ⟨⟨(H.out.later b7).b, (H.out.later b7).zb, (H.out.later b7).li, hw⟩⟩
          have HTm : Hid (T.length ≤ 256) := ⟨by have := HTl.out; have := hLl.out; omega⟩
          clear p0 p1 H HP0 hw ho b7
          go_wp2_with fail
          go_loopw [16] (fun i wr => ∃ k : Nat, k ≤ T.length ∧ i = .int .i64 (k : Int) ∧ Hid (K1 W wr gb next L la lc ta T)) (fun i _ => T.length - (intOf i).toNat)
          case atStart => exact ⟨0, Nat.zero_le _, rfl, K⟩
          case round =>
            obtain ⟨k, hk, rfl, H⟩ := hrel
            clear K
            by_cases hlt : k < T.length
            · have d1 : decide ((k : Int) < (T.length : Int)) = true := decide_eq_true (Int.ofNat_lt.2 hlt)
              have k2 : (k : Int) < (T.length : Int) := Int.ofNat_lt.2 hlt
              have hw1 : wrap64 ((k : Int) + 1) = ((k + 1 : Nat) : Int) := by have := HTm.out; unfold wrap64; omega
              obtain ⟨r, hr⟩ : ∃ r, T[k]? = some r := ⟨T[k], List.getElem?_eq_getElem hlt⟩
              obtain ⟨u, hu, rfl⟩ := HTu.out r (List.mem_of_getElem? hr)
              have hget := fun (w' : World) (hb : Below wr.heap.size wr w') => gv_is HR.out hu (H.out.li.later hb)
              obtain ⟨b, off, rfl, hbl, c0, c1, c2, c3⟩ := H.out.rw.get k _ hr
              obtain ⟨key, seq, mkr, data, l⟩ := u
              simp only [rwOf] at *
              have HS1 : Hid (∀ w', Below wr.heap.size wr w' → Below wr.heap.size wr w' ∧ w'.cell? ⟨gb, 0, none⟩ = some (.int .i64 next) ∧ w'.cell? ⟨gb, 1, none⟩ = some (.slice la L.length lc) ∧ w'.cell? ⟨b, off + k * 4, none⟩ = some (str key) ∧ w'.cell? ⟨b, off + k * 4 + 1, none⟩ = some (.int .i64 seq)) := ⟨fun w' h => by
                obtain ⟨t0, t1, _⟩ := (H.out.zb.later h).cells
                exact ⟨h, t0, t1, (h.cell (p := ⟨b, _, none⟩) hbl).trans c0, (h.cell (p := ⟨b, _, none⟩) hbl).trans c1⟩⟩
              obtain ⟨p0, p1, _⟩ := H.out.zb.cells
              go_wp2_with fail
              go_region_held3 (fun w' => Below wr.heap.size wr w' ∧ w'.cell? ⟨gb, 0, none⟩ = some (.int .i64 next) ∧ w'.cell? ⟨gb, 1, none⟩ = some (.slice la L.length lc) ∧ w'.cell? ⟨b, off + k * 4, none⟩ = some (str key) ∧ w'.cell? ⟨b, off + k * 4 + 1, none⟩ = some (.int .i64 seq)) ((refine HS1.out _ ?_; first
                | with_reducible exact (Below.refl _ _).drew
                | with_reducible exact bB
                | with_reducible exact below_al bB _
                | with_reducible exact ((Below.refl _ _).alloc (Nat.le_refl _) _).drew
                | with_reducible exact below_set5 bB (Nat.le_refl _))) (
                (go_at_call 11; with_reducible refine Calls.mono (hget _ (And.left (by assumption))) ?_; rintro e w8 ⟨xa, xc, rfl, bA⟩; first
                  | (with_reducible have bB := below_seq (Below.refl wr.heap.size wr).drew bA; clear bA)
                  | (with_reducible have bB := below_seq ((Below.refl wr.heap.size wr).alloc (Nat.le_refl _) _).drew bA; with_reducible have hz3 := bvz bA; have z0 := hz3.cells.1; have z1 := hz3.cells.2.1; have z2 := hz3.cells.2.2.1; have z3 := hz3.cells.2.2.2.1; have z4 := hz3.cells.2.2.2.2.1; have k0 := hz3.cells.2.2.2.2.2 0; have k1 := hz3.cells.2.2.2.2.2 1; have k2 := hz3.cells.2.2.2.2.2 2; have k3 := hz3.cells.2.2.2.2.2 3; have k4 := hz3.cells.2.2.2.2.2 4; have hz4 := Hid.mk hz3; clear hz3 bA)))
              all_goals first
                | (fail_if_success (have hq := hz4)
                   have hz := Bv.new w8 (str key) (.int .i64 seq) (.bool mkr) (str data) (.slice xa l.length xc)
                   have bZ := below_al bB (.cells #[str key, .int .i64 seq, .bool mkr, str data, .slice xa l.length xc] 32)
                   generalize w8.alloc (.cells #[str key, .int .i64 seq, .bool mkr, str data, .slice xa l.length xc] 32) = w6 at *
                   generalize w8.heap.size = g6 at *)
                | (have hz := hz4.out.s5 (str key) (.int .i64 seq) (.bool mkr) (str data) (.slice xa l.length xc)
                   have bZ := below_set5 (g := wr.heap.size) bB (Nat.le_refl _) (a := str key) (b := .int .i64 seq) (c := .bool mkr) (d := str data) (e := .slice xa l.length xc)
                   unfold s5 at hz
                   clear z0 z1 z2 z3 z4 k0 k1 k2 k3 k4 hz4
                   generalize ((((w8.setCell ⟨wr.heap.size, 0, none⟩ (str key)).setCell ⟨wr.heap.size, 1, none⟩ (.int .i64 seq)).setCell ⟨wr.heap.size, 2, none⟩ (.bool mkr)).setCell ⟨wr.heap.size, 3, none⟩ (str data)).setCell ⟨wr.heap.size, 4, none⟩ (.slice xa l.length xc) = w6 at *
                   obtain ⟨g6, hg6⟩ : ∃ g, g = wr.heap.size := ⟨_, rfl⟩
                   rw [← hg6] at hz ⊢
                   clear hg6)
              all_goals
                have H6 : Hid (K1 W w6 gb next L la lc (some ⟨b, off, none⟩) T) := ⟨H.out.later bZ⟩
                have e0 := (bZ.cell (p := ⟨b, _, none⟩) hbl).trans c0
                have e1 := (bZ.cell (p := ⟨b, _, none⟩) hbl).trans c1
                have e2 := (bZ.cell (p := ⟨b, _, none⟩) hbl).trans c2
                have e3 := (bZ.cell (p := ⟨b, _, none⟩) hbl).trans c3
                have y0 := hz.cells.1
                have y1 := hz.cells.2.1
                have y2 := hz.cells.2.2.1
                have y3 := hz.cells.2.2.2.1
                go_wp2_with fail
                go_quiet (fail)
                have H7 : Hid (K1 W (w6.drewN nq) gb next L la lc (some ⟨b, off, none⟩) T) := ⟨H6.out.later (below_dN (Below.refl _ _) nq)⟩
                obtain ⟨_, _, hka, _, g0, g1, _⟩ := H7.out.rw.get k _ hr
                cases hka
                clear e0 e1 e2 e3 y0 y1 y2 y3 H6 hz bZ bB HS1 H hget p0 p1 c0 c1 c2 c3 HTu HR hu
                generalize w6.drewN nq = w9 at *
                by_cases hk0 : k = 0
                · have d2 : decide ((0 : Int) < (k : Int)) = false := decide_eq_false (by omega)
                  have d3 : decide (0 < k) = false := decide_eq_false (by omega)
                  clear hk0 hr HTr HTl
                  go_wp2_with fail
                  go_quiet (fail)
                  go_wp2_with fail
                  exact ⟨⟨k + 1, hlt, by first | (rw [hw1]; done) | go_num, ⟨H7.out.later (below_dN (Below.refl _ _) nq)⟩⟩, by first | (rw [hw1]; exact Nat.sub_lt_sub_left hlt (Nat.lt_succ_self k)) | (simp [intOf]; omega)⟩
                · have d2 : decide ((0 : Int) < (k : Int)) = true := decide_eq_true (by omega)
                  have d3 : decide (0 < k) = true := decide_eq_true (by omega)
                  obtain ⟨j, hj⟩ : ∃ j, j = k - 1 := ⟨_, rfl⟩
                  have hjl : j < T.length := by omega
                  have hj1 : wrap64 ((k : Int) - 1) = (j : Int) := by have := HTm.out; unfold wrap64; omega
                  have hj2 : IntKind.i64.wrap ((k : Int) - 1) = (j : Int) := by have := HTm.out; rw [IntKind.wrap_i64]; omega
                  have j2 : (j : Int) < (T.length : Int) := Int.ofNat_lt.2 hjl
                  obtain ⟨q, hq⟩ : ∃ q, T[j]? = some q := ⟨T[j], List.getElem?_eq_getElem hjl⟩
                  obtain ⟨_, _, hqa, _, f0, f1, _⟩ := H7.out.rw.get j q hq
                  cases hqa
                  have hqlt : rlt q ⟨key, seq, mkr, (data.length : Int)⟩ := by
                    obtain ⟨h1, rfl⟩ := List.getElem?_eq_some_iff.1 hq
                    obtain ⟨h2, h3⟩ := List.getElem?_eq_some_iff.1 hr
                    have := List.pairwise_iff_getElem.1 HTr.out j k h1 h2 (by omega)
                    rw [h3] at this
                    exact this
                  obtain ⟨qk, qs, qm, qz⟩ := q
                  simp only at f0 f1
                  rcases hqlt with hqlt | ⟨hqe, hqlt⟩
                  · simp only at hqlt
                    have hn1 : Go.Op.bytesLess key qk = false := bless_no fun h => lt_irrefl (bcmp_trans h hqlt)
                    have hn2 : (key == qk) = false := beq_eq_false_iff_ne.2 fun h => by rw [h] at hqlt; exact lt_irrefl hqlt
                    clear hk0 hj hr HTr HTl hq hqlt hjl
                    go_wp2_with fail
                    go_quiet (fail)
                    go_wp2_with fail
                    exact ⟨⟨k + 1, hlt, by first | (rw [hw1]; done) | go_num, ⟨H7.out.later (below_dN (Below.refl _ _) nq)⟩⟩, by first | (rw [hw1]; exact Nat.sub_lt_sub_left hlt (Nat.lt_succ_self k)) | (simp [intOf]; omega)⟩
                  · simp only at hqe hqlt
                    rw [hqe] at f0
                    have hn1 : Go.Op.bytesLess key key = false := bless_no lt_irrefl
                    have hn2 : decide (qs ≤ seq) = false := decide_eq_false (by omega)
                    clear hk0 hj hr HTr HTl hq hqlt hjl hqe
                    go_wp2_with fail
                    go_quiet (fail)
                    go_wp2_with fail
                    exact ⟨⟨k + 1, hlt, by first | (rw [hw1]; done) | go_num, ⟨H7.out.later (below_dN (Below.refl _ _) nq)⟩⟩, by first | (rw [hw1]; exact Nat.sub_lt_sub_left hlt (Nat.lt_succ_self k)) | (simp [intOf]; omega)⟩
            · obtain rfl : k = T.length := by omega
              have d1 : decide ((T.length : Int) < (T.length : Int)) = false := decide_eq_false (by omega)
              obtain ⟨p0, p1, _⟩ := H.out.zb.cells
              have hLT : ((T.length : Int) == (L.length : Int)) = true := by rw [HTl.out]; exact beq_self_eq_true _
              have HB := Hid.mk H.out.b
              clear HTr HTu HTl HTm H hk hlt
              go_wp2_with fail
              go_ret
              exact ⟨rfl, HB.out⟩
end Go.Proofs.Ytcbajnajamjcnaa
