/- DeltaSinces: the walk. -/
import Derived.Test.YtaibbeepgelepaaDx
import Derived.Test.YtaibbeepgelepaaDe
namespace Go.Proofs.Ytaibbeepgelepaa
set_option linter.unusedVariables false
set_option linter.unusedSimpArgs false
open Go.RowKit
attribute [local go_sem ↓] Go.wp_at_zero Go.wp_at_succ
theorem Cp.li {base : Nat} {w : World} {v : Value} {L : List Vs} (h : Cp base w v L) (hl : L.length ≤ 1954687338240) (hz : ∀ v ∈ L, v.l.length ≤ 4398046510976) : ∃ a c, v = .slice a L.length c ∧ Li w L a L.length c := by
  obtain ⟨a, c, e, s⟩ := h.ls
  exact ⟨a, c, e, ⟨rfl, s, hl, hz⟩⟩
theorem sn_z {m : Int} {L : List Vs} (h : ∀ v ∈ L, v.l.length ≤ 4398046510976) : ∀ v ∈ snL m L, v.l.length ≤ 4398046510976 := fun v hv => h v (snL_mem hv).1
/-- what Since tells, in one form -/
def sS (next m : Int) : Int := if 1 ≤ m ∧ m ≤ next then m else 0
def sX (next m : Int) : Int := if 1 ≤ m ∧ m ≤ next then next else 0
def sL (next m : Int) (L : List Vs) : List Vs := if 1 ≤ m ∧ m ≤ next then snL m L else []
def sE (next m : Int) : Int := if 1 ≤ m ∧ m ≤ next then 0 else 1
theorem sL_len (next m : Int) (L : List Vs) : (sL next m L).length ≤ L.length := by
  unfold sL
  split
  · exact snL_len m L
  · exact Nat.zero_le _
theorem SnP.uni {next m : Int} {L : List Vs} {w w' : World} {e : Ending} (h : SnP next m L w w' e) (hl : L.length ≤ 1954687338240) (hz : ∀ v ∈ L, v.l.length ≤ 4398046510976) : ∃ a c, e = .returned (.tuple #[dv (sS next m) (sX next m) a (sL next m L).length c, .int .i64 (sE next m)]) ∧ Li w' (sL next m L) a (sL next m L).length c := by
  have hll := sL_len next m L
  have hzz : ∀ v ∈ sL next m L, v.l.length ≤ 4398046510976 := fun v hv => by
    unfold sL at hv
    split at hv
    · exact hz v (snL_mem hv).1
    · simp at hv
  rcases h with ⟨h1, h2, v, rfl, o⟩ | ⟨hn, rfl⟩
  · have e1 : sL next m L = snL m L := by unfold sL; rw [if_pos ⟨h1, h2⟩]
    rw [← e1] at o
    obtain ⟨a, c, rfl, l⟩ := o.li (Nat.le_trans hll hl) hzz
    refine ⟨a, c, ?_, l⟩
    unfold sS sX sE
    rw [if_pos ⟨h1, h2⟩, if_pos ⟨h1, h2⟩, if_pos ⟨h1, h2⟩]
  · have e1 : sL next m L = [] := by unfold sL; rw [if_neg hn]
    refine ⟨none, 0, ?_, ?_⟩
    · rw [e1]
      unfold sS sX sE
      rw [if_neg hn, if_neg hn, if_neg hn]
      rfl
    · rw [e1]
      exact ⟨rfl, Ls.none _, by simp, by simp⟩
set_option maxRecDepth 100000 in
set_option maxHeartbeats 4000000 in
theorem deltaSinces_walk (next : Int) (L : List Vs) (a : Option Addr) (cap : Nat) (m : Int) (W : World) (hL : Li W L a L.length cap) (hP : ∀ u ∈ L, Pz u.l) (hm1 : -9223372036854775808 ≤ m) (hm2 : m ≤ 9223372036854775807) :
    Calls Try.prog 3 #[bv next a L.length cap, .int .i64 m] W fun e W' => e = .returned (.bool true) ∧ Below W.heap.size W W' := by
  have b0 := (Below.refl W.heap.size W).alloc (Nat.le_refl _) (.cells #[.int .i64 next, .slice a L.length cap] 24)
  have HZ := Hid.mk (Bq.new W (.int .i64 next) (.slice a L.length cap))
  have HL := Hid.mk (hL.later b0)
  have HB := Hid.mk b0
  have hll := Hid.mk hL.l
  have hzz := Hid.mk hL.z
  have HP := Hid.mk hP
  clear hL b0 hP hm1 hm2
  go_enter Try.func3, Try.ntmps3
  go_wp2_with fail
  generalize W.alloc (.cells #[.int .i64 next, .slice a L.length cap] 24) = W1 at *
  with_reducible refine Calls.mono (first_any _) ?_
  rintro e w1 ⟨rfl, c1⟩
  dsimp only
  have hcp := qCopy_any L next w1 a _ cap rfl (HL.out.later c1).s hll.out hzz.out
  obtain ⟨p0, p1, _⟩ := (HZ.out.later c1).cells
  go_wp2_with fail
  clear p0 p1
  with_reducible refine Calls.mono hcp ?_
  rintro e w2 ⟨v2, rfl, o2, c2⟩
  obtain ⟨xa, xc, rfl, lx⟩ := o2.li hll.out hzz.out
  dsimp only
  have d2 := c1.trans (c2.mono c1.size)
  have hs := dSince_any L next m w2 xa _ xc lx
  clear hcp lx o2 c1 c2
  go_wp2_with fail
  with_reducible refine Calls.mono hs ?_
  rintro e w3 ⟨hsn, c3⟩
  have d3 := d2.trans (c3.mono d2.size)
  clear hs d2 c3
  obtain ⟨da, dc, rfl, ld⟩ := hsn.uni hll.out hzz.out
  clear hsn
  dsimp only
  have hsl : Hid ((sL next m L).length ≤ L.length) := ⟨sL_len next m L⟩
  have hes : Hid (∀ w', Below W1.heap.size W1 w' → Calls Try.prog 11 #[bv next a L.length cap, .int .i64 m] w' fun e w'' => (∃ a c, e = .returned (.tuple #[dv (sS next m) (sX next m) a (sL next m L).length c, .int .i64 (sE next m)]) ∧ Li w'' (sL next m L) a (sL next m L).length c) ∧ Below w'.heap.size w' w'') := ⟨fun w' h => (eSince_any L next m w' a _ cap (HL.out.later h)).mono (by
    rintro e w'' ⟨h1, h2⟩
    exact ⟨h1.uni hll.out hzz.out, h2⟩)⟩
  generalize sS next m = S1 at *
  generalize sX next m = X1 at *
  generalize sE next m = E1 at *
  generalize sL next m L = L1 at *
  have by3 := (Below.refl w3.heap.size w3).alloc (Nat.le_refl _) (.cells #[.int .i64 S1, .int .i64 X1, .slice da L1.length dc] 27)
  have HD := Hid.mk (Bd.new w3 (.int .i64 S1) (.int .i64 X1) (.slice da L1.length dc))
  have d4 := d3.trans (by3.mono d3.size)
  have HLD := Hid.mk (ld.later by3)
  obtain ⟨p0, p1, _⟩ := (HZ.out.later d4).cells
  have he := hes.out _ d4
  clear ld by3 d3
  go_wp2_with fail
  clear p0 p1
  generalize w3.alloc (.cells #[.int .i64 S1, .int .i64 X1, .slice da L1.length dc] 27) = w4 at *
  with_reducible refine Calls.mono he ?_
  rintro e w5 ⟨⟨ea, ec, rfl, le5⟩, c5⟩
  dsimp only
  have by5 := (Below.refl w5.heap.size w5).alloc (Nat.le_refl _) (.cells #[.int .i64 S1, .int .i64 X1, .slice ea L1.length ec] 27)
  have HE := Hid.mk (Bd.new w5 (.int .i64 S1) (.int .i64 X1) (.slice ea L1.length ec))
  have c6 := c5.trans (by5.mono c5.size)
  have d6 := d4.trans (c6.mono d4.size)
  have HLE := Hid.mk (le5.later by5)
  have HLD6 := Hid.mk (HLD.out.later c6)
  have HD6 := Hid.mk (HD.out.later c6)
  obtain ⟨p0, p1, _⟩ := (HZ.out.later d6).cells
  have hr := qRight_any L next _ a _ cap (HL.out.later d6) HP.out
  clear le5 by5 c5 c6 d4 HD HLD he hes
  go_wp2_with fail
  clear p0 p1
  generalize w5.alloc (.cells #[.int .i64 S1, .int .i64 X1, .slice ea L1.length ec] 27) = w6 at *
  with_reducible refine Calls.mono hr ?_
  rintro e w7 ⟨⟨t, rfl, ht⟩, c7⟩
  dsimp only
  have d7 := d6.trans (c7.mono d6.size)
  cases t with
  | false =>
    clear ht hr
    have B7 := Hid.mk (HB.out.trans (d7.mono HB.out.size))
    go_wp2_with fail
    go_ret
    exact ⟨rfl, B7.out⟩
  | true =>
    have hlen : Hid (L1.length ≤ 1000000) := ⟨Nat.le_trans hsl.out (Nat.le_trans (ht.1 rfl).len (by decide))⟩
    have hsm := eSame_eq S1 X1 L1 w7 da dc ea ec (HLD6.out.later c7) (HLE.out.later c7) hlen.out
    obtain ⟨q0, q1, q2, _⟩ := (HD6.out.later c7).cells
    obtain ⟨r0, r1, r2, _⟩ := (HE.out.later c7).cells
    clear ht hr c7
    go_wp2_with fail
    clear q0 q1 q2 r0 r1 r2
    with_reducible refine Calls.mono hsm ?_
    rintro e w8 ⟨rfl, c8⟩
    dsimp only
    have B8 := Hid.mk (HB.out.trans ((d7.trans (c8.mono d7.size)).mono HB.out.size))
    go_wp2_with fail
    go_ret
    exact ⟨rfl, B8.out⟩
end Go.Proofs.Ytaibbeepgelepaa
