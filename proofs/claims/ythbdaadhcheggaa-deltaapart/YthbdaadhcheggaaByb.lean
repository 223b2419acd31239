/- Bytes. -/
import Derived.Test.YthbdaadhcheggaaBq
import Derived.Test.YthbdaadhcheggaaWid
import Derived.Test.YthbdaadhcheggaaBm
namespace Go.Proofs.Ythbdaadhcheggaa
set_option linter.unusedVariables false
set_option linter.unusedSimpArgs false
open Go.RowKit
attribute [local go_sem ↓] Go.wp_at_zero Go.wp_at_succ
/-- a version's size, as it is told -/
def szV (v : Vs) : Int := vsz v.key v.data v.l
/-- all sizes together, as they are told: the sum goes round -/
def bw (L : List Vs) : Int := L.foldl (fun s v => wrap64 (s + szV v)) 0
theorem bw_step {L : List Vs} {k : Nat} {u : Vs} (h : L[k]? = some u) : bw (L.take (k + 1)) = wrap64 (bw (L.take k) + szV u) := by
  unfold bw
  rw [takeV h, List.foldl_append]
  rfl
theorem bw_zero (L : List Vs) : bw (L.take 0) = 0 := rfl
theorem bw_range (L : List Vs) : -9223372036854775808 ≤ bw L ∧ bw L ≤ 9223372036854775807 := by
  unfold bw
  rcases List.eq_nil_or_concat L with h | ⟨l, x, h⟩
  · subst h; simp
  · rw [h, List.concat_eq_append, List.foldl_append]
    simp only [List.foldl_cons, List.foldl_nil]
    unfold wrap64
    omega
set_option maxRecDepth 100000 in
set_option maxHeartbeats 4000000 in
theorem bBytes_any (L : List Vs) (next : Int) (w : World) (a : Option Addr) (n cap : Nat) (hL : Li w L a n cap) :
    Calls Try.prog 26 #[bv next a n cap] w fun e w' => e = .returned (.int .i64 (bw L)) ∧ Below w.heap.size w w' := by
  obtain rfl := hL.n
  have b0 := (Below.refl w.heap.size w).alloc (Nat.le_refl _) (.cells #[.int .i64 next, .slice a L.length cap] 24)
  have z0 := Bq.new w (.int .i64 next) (.slice a L.length cap)
  have hl := hL.l
  have HL := Hid.mk hL
  clear hL
  go_enter Try.func26, Try.ntmps26
  obtain ⟨p0, p1, _⟩ := z0.cells
  go_wp2_with fail
  have HB := Hid.mk b0
  have HZ := Hid.mk z0
  clear p0 p1 b0 z0
  generalize w.alloc (.cells #[.int .i64 next, .slice a L.length cap] 24) = W1 at *
  go_loopw [3, 9] (fun o i wr => ∃ k : Nat, k ≤ L.length ∧ i = .int .i64 (k : Int) ∧ o = .int .i64 (bw (L.take k)) ∧ Hid (Below W1.heap.size W1 wr)) (fun o i _ => L.length - (intOf i).toNat)
  case atStart => exact ⟨0, by omega, rfl, rfl, ⟨Below.refl _ _⟩⟩
  case round =>
    obtain ⟨k, hk, rfl, rfl, hb⟩ := hrel
    have bwr := HB.out.trans (hb.out.mono HB.out.size)
    obtain ⟨p0, p1, _⟩ := (HZ.out.later hb.out).cells
    by_cases hlt : k < L.length
    · have d1 : decide ((k : Int) < (L.length : Int)) = true := decide_eq_true (by omega)
      have k2 : (k : Int) < (L.length : Int) := by omega
      obtain ⟨u, hu⟩ : ∃ u, L[k]? = some u := ⟨L[k], List.getElem?_eq_getElem hlt⟩
      obtain ⟨b, off, ma, mc, rfl, hbl, c0, c1, c2, c3, c4, hsl⟩ := (HL.out.s.at'.later bwr).get k u hu
      have hzu := HL.out.z u (List.mem_of_getElem? hu)
      have bx := (Below.refl wr.heap.size wr).alloc (Nat.le_refl _) (.cells #[str u.key, .int .i64 u.seq, .bool u.mkr, str u.data, .slice ma u.l.length mc] 41)
      have hc := size_any u.key u.seq u.mkr u.data u.l _ ma u.l.length mc rfl (hsl.later bx).at' (by omega)
      have hT := Hid.mk (bw_step hu)
      have hw1 : wrap64 ((k : Int) + 1) = ((k + 1 : Nat) : Int) := by unfold wrap64; omega
      clear hu hsl bwr
      change Calls Try.prog 37 _ _ (fun e w' => e = .returned (.int .i64 (szV u)) ∧ _) at hc
      generalize bw (L.take k) = BK at *
      generalize szV u = SU at *
      go_wp2_with (go_at_call 37; refine hc.mono ?_; rintro e w1 ⟨rfl, b1⟩)
      exact ⟨⟨k + 1, by omega, by first | (rw [hw1]; done) | go_num, by rw [hT.out], ⟨below_seq hb.out (below_seq bx b1)⟩⟩, by first | (rw [hw1]; exact Nat.sub_lt_sub_left hlt (Nat.lt_succ_self k)) | (simp [intOf]; omega)⟩
    · obtain rfl : k = L.length := by omega
      have d1 : decide ((L.length : Int) < (L.length : Int)) = false := decide_eq_false (by omega)
      rw [List.take_length]
      go_wp2_with fail
      go_ret
      exact ⟨rfl, bwr⟩
set_option maxRecDepth 100000 in
set_option maxHeartbeats 4000000 in
theorem qBytes_any (L : List Vs) (next : Int) (w : World) (a : Option Addr) (n cap : Nat) (hL : Li w L a n cap) :
    Calls Try.prog 22 #[bv next a n cap] w fun e w' => e = .returned (.int .i64 (bw L)) ∧ Below w.heap.size w w' := by
  obtain rfl := hL.n
  have b0 := (Below.refl w.heap.size w).alloc (Nat.le_refl _) (.cells #[.int .i64 next, .slice a L.length cap] 24)
  have z0 := Bq.new w (.int .i64 next) (.slice a L.length cap)
  have hl := hL.l
  have HL := Hid.mk hL
  clear hL
  go_enter Try.func22, Try.ntmps22
  obtain ⟨p0, p1, _⟩ := z0.cells
  go_wp2_with fail
  have HB := Hid.mk b0
  have HZ := Hid.mk z0
  clear p0 p1 b0 z0
  generalize w.alloc (.cells #[.int .i64 next, .slice a L.length cap] 24) = W1 at *
  go_loopw [3, 4] (fun o i wr => ∃ k : Nat, k ≤ L.length ∧ i = .int .i64 (k : Int) ∧ o = .int .i64 (bw (L.take k)) ∧ Hid (Below W1.heap.size W1 wr)) (fun o i _ => L.length - (intOf i).toNat)
  case atStart => exact ⟨0, by omega, rfl, rfl, ⟨Below.refl _ _⟩⟩
  case round =>
    obtain ⟨k, hk, rfl, rfl, hb⟩ := hrel
    have bwr := HB.out.trans (hb.out.mono HB.out.size)
    obtain ⟨p0, p1, _⟩ := (HZ.out.later hb.out).cells
    by_cases hlt : k < L.length
    · have d1 : decide ((k : Int) < (L.length : Int)) = true := decide_eq_true (by omega)
      have k2 : (k : Int) < (L.length : Int) := by omega
      obtain ⟨u, hu⟩ : ∃ u, L[k]? = some u := ⟨L[k], List.getElem?_eq_getElem hlt⟩
      obtain ⟨b, off, ma, mc, rfl, hbl, c0, c1, c2, c3, c4, hsl⟩ := (HL.out.s.at'.later bwr).get k u hu
      have hzu := HL.out.z u (List.mem_of_getElem? hu)
      have hc := rSize_any u.key u.seq u.mkr u.data u.l wr ma u.l.length mc rfl hsl.at' (by omega)
      have hT := Hid.mk (bw_step hu)
      have hw1 : wrap64 ((k : Int) + 1) = ((k + 1 : Nat) : Int) := by unfold wrap64; omega
      clear hu hsl bwr
      change Calls Try.prog 35 _ _ (fun e w' => e = .returned (.int .i64 (szV u)) ∧ _) at hc
      generalize bw (L.take k) = BK at *
      generalize szV u = SU at *
      go_wp2_with (go_at_call 35; refine hc.mono ?_; rintro e w1 ⟨rfl, b1⟩)
      exact ⟨⟨k + 1, by omega, by first | (rw [hw1]; done) | go_num, by rw [hT.out], ⟨below_seq hb.out b1⟩⟩, by first | (rw [hw1]; exact Nat.sub_lt_sub_left hlt (Nat.lt_succ_self k)) | (simp [intOf]; omega)⟩
    · obtain rfl : k = L.length := by omega
      have d1 : decide ((L.length : Int) < (L.length : Int)) = false := decide_eq_false (by omega)
      rw [List.take_length]
      go_wp2_with fail
      go_ret
      exact ⟨rfl, bwr⟩
end Go.Proofs.Ythbdaadhcheggaa
