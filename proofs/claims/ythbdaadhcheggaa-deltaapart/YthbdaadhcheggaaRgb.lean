/- Right. -/
import Derived.Test.YthbdaadhcheggaaTwi
import Derived.Test.YthbdaadhcheggaaGm
import Derived.Test.YthbdaadhcheggaaRfb
namespace Go.Proofs.Ythbdaadhcheggaa
set_option linter.unusedVariables false
set_option linter.unusedSimpArgs false
open Go.RowKit
attribute [local go_sem ↓] Go.wp_at_zero Go.wp_at_succ
/-- a version that may stand in a value -/
def VOk (next : Int) (v : Vs) : Prop := 1 ≤ v.seq ∧ v.seq < next ∧ vrV v = 0
/-- a value that is right -/
structure RtB (next : Int) (L : List Vs) : Prop where
  n1 : 1 ≤ next
  n2 : next ≤ 1099511627777
  len : L.length ≤ 256
  ok : ∀ v ∈ L, VOk next v
  srt : SrtV L
  nod : (L.map (·.seq)).Nodup
  byt : bw L ≤ 65536
theorem asc_srt {L : List Vs} (h : Asc L) (hn : (L.map (·.seq)).Nodup) : SrtV L := srtv_of fun i a b ha hb => by
  have hne : ¬ a.seq = b.seq := fun e => by
    obtain ⟨hi, rfl⟩ := List.getElem?_eq_some_iff.1 ha
    obtain ⟨hj, rfl⟩ := List.getElem?_eq_some_iff.1 hb
    have := List.pairwise_iff_getElem.1 hn i (i + 1) (by simpa using hi) (by simpa using hj) (by omega)
    exact this (by simpa using e)
  have h1 := h i a b ha hb
  unfold ltv at h1 ⊢
  rcases tri a.key b.key with q | q | q
  · exact .inl q
  · refine .inr ⟨q, ?_⟩
    rcases Int.lt_or_le a.seq b.seq with z | z
    · exact z
    · exact absurd (.inr ⟨q.symm, by omega⟩) h1
  · exact absurd (.inl q) h1
theorem srt_asc {L : List Vs} (h : SrtV L) : Asc L := fun i a b ha hb q => ltv_irrefl (ltv_trans (h.get (Nat.lt_succ_self i) ha hb) q)
set_option maxRecDepth 100000 in
set_option maxHeartbeats 8000000 in
theorem bRight_any (L : List Vs) (next : Int) (w : World) (a : Option Addr) (n cap : Nat) (hL : Li w L a n cap) :
    Calls Try.prog 30 #[bv next a n cap] w fun e w' => (∃ t : Bool, e = .returned (.bool t) ∧ (t = true ↔ RtB next L)) ∧ Below w.heap.size w w' := by
  obtain rfl := hL.n
  have b0 := (Below.refl w.heap.size w).alloc (Nat.le_refl _) (.cells #[.int .i64 next, .slice a L.length cap] 24)
  have z0 := Bq.new w (.int .i64 next) (.slice a L.length cap)
  obtain ⟨p0, p1, _⟩ := z0.cells
  have hl := hL.l
  have HL := Hid.mk hL
  clear hL
  by_cases h1 : next < 1
  · have d1 : decide (next < 1) = true := decide_eq_true h1
    have HN : Hid (¬ RtB next L) := ⟨fun h => by have := h.n1; omega⟩
    clear h1
    go_enter Try.func30, Try.ntmps30
    go_wp2_with fail
    go_ret
    exact ⟨⟨false, rfl, by simp [HN.out]⟩, b0⟩
  · have d1 : decide (next < 1) = false := decide_eq_false h1
    by_cases h2 : 1099511627777 < next
    · have d2 : decide (1099511627777 < next) = true := decide_eq_true h2
      have HN : Hid (¬ RtB next L) := ⟨fun h => by have := h.n2; omega⟩
      clear h1 h2
      go_enter Try.func30, Try.ntmps30
      go_wp2_with fail
      go_ret
      exact ⟨⟨false, rfl, by simp [HN.out]⟩, b0⟩
    · have d2 : decide (1099511627777 < next) = false := decide_eq_false h2
      by_cases h3 : 256 < L.length
      · have d3 : decide ((256 : Int) < (L.length : Int)) = true := decide_eq_true (by omega)
        have HN : Hid (¬ RtB next L) := ⟨fun h => by have := h.len; omega⟩
        clear h1 h2 h3
        go_enter Try.func30, Try.ntmps30
        go_wp2_with fail
        go_ret
        exact ⟨⟨false, rfl, by simp [HN.out]⟩, b0⟩
      · have d3 : decide ((256 : Int) < (L.length : Int)) = false := decide_eq_false (by omega)
        go_enter Try.func30, Try.ntmps30
        go_wp2_with fail
        have HB := Hid.mk b0
        have HZ := Hid.mk z0
        clear p0 p1 b0 z0 d1 d2 d3
        generalize w.alloc (.cells #[.int .i64 next, .slice a L.length cap] 24) = W1 at *
        go_loopw [22] (fun i wr => ∃ k : Nat, k ≤ L.length ∧ i = .int .i64 (k : Int) ∧ Hid (∀ j v, j < k → L[j]? = some v → VOk next v) ∧ Hid (Below W1.heap.size W1 wr)) (fun i _ => L.length - (intOf i).toNat)
        case atStart => exact ⟨0, by omega, rfl, ⟨fun j v hj => by omega⟩, ⟨Below.refl _ _⟩⟩
        case round =>
          obtain ⟨k, hk, rfl, hV, hb⟩ := hrel
          have bwr := HB.out.trans (hb.out.mono HB.out.size)
          have zr := HZ.out.later hb.out
          obtain ⟨p0, p1, _⟩ := zr.cells
          by_cases hlt : k < L.length
          · have d1 : decide ((k : Int) < (L.length : Int)) = true := decide_eq_true (by omega)
            have k2 : (k : Int) < (L.length : Int) := by omega
            obtain ⟨u, hu⟩ : ∃ u, L[k]? = some u := ⟨L[k], List.getElem?_eq_getElem hlt⟩
            have hum := List.mem_of_getElem? hu
            obtain ⟨b, off, ma, mc, rfl, hbl, c0, c1, c2, c3, c4, hsl⟩ := (HL.out.s.at'.later bwr).get k u hu
            have hzu := HL.out.z u hum
            have hw1 : wrap64 ((k : Int) + 1) = ((k + 1 : Nat) : Int) := by unfold wrap64; omega
            have bx := (Below.refl wr.heap.size wr).alloc (Nat.le_refl _) (.cells #[str u.key, .int .i64 u.seq, .bool u.mkr, str u.data, .slice ma u.l.length mc] 41)
            have zx := zr.later bx
            obtain ⟨q0, q1, _⟩ := zx.cells
            have hvr := fun w' (hb' : Below (wr.alloc (.cells #[str u.key, .int .i64 u.seq, .bool u.mkr, str u.data, .slice ma u.l.length mc] 41)).heap.size (wr.alloc (.cells #[str u.key, .int .i64 u.seq, .bool u.mkr, str u.data, .slice ma u.l.length mc] 41)) w') => version_any u.key u.seq u.mkr u.data u.l w' ma u.l.length mc rfl ((hsl.later bx).later hb').at' (by omega)
            have hbad : ¬ VOk next u → ¬ RtB next L := fun h hr => h (hr.ok u hum)
            have HBX := Hid.mk (bwr.trans (bx.mono bwr.size))
            by_cases e1 : u.seq < 1
            · have f1 : decide (u.seq < 1) = true := decide_eq_true e1
              have HN := Hid.mk (hbad (fun h => by have := h.1; omega))
              clear e1 hbad hV hu hum hsl zr zx hvr bx
              go_wp2_with fail
              go_ret
              exact ⟨⟨false, rfl, by simp [HN.out]⟩, HBX.out⟩
            · have f1 : decide (u.seq < 1) = false := decide_eq_false e1
              by_cases e2 : next ≤ u.seq
              · have f2 : decide (next ≤ u.seq) = true := decide_eq_true e2
                have HN := Hid.mk (hbad (fun h => by have := h.2.1; omega))
                clear e1 e2 hbad hV hu hum hsl zr zx hvr bx
                go_wp2_with fail
                go_ret
                exact ⟨⟨false, rfl, by simp [HN.out]⟩, HBX.out⟩
              · have f2 : decide (next ≤ u.seq) = false := decide_eq_false e2
                have hvc := hvr _ (Below.refl _ _)
                change Calls Try.prog 41 _ _ (fun e w' => e = .returned (.int .i64 (vrV u)) ∧ _) at hvc
                by_cases e3 : vrV u = 0
                · have HV' : Hid (∀ j v, j < k + 1 → L[j]? = some v → VOk next v) := ⟨fun j v hj hv => by
                    by_cases e : j = k
                    · subst e
                      rw [hu] at hv
                      injection hv with hv
                      subst hv
                      exact ⟨by omega, by omega, e3⟩
                    · exact hV.out j v (by omega) hv⟩
                  rw [e3] at hvc
                  have HBR := Hid.mk (below_seq hb.out bx)
                  clear e1 e2 e3 hbad hV hu hum hsl zr zx hvr bx
                  go_wp2_with (go_at_call 41; refine hvc.mono ?_; rintro e w1 ⟨rfl, c9⟩)
                  exact ⟨⟨k + 1, by omega, by first | (rw [hw1]; done) | go_num, HV', ⟨below_seq HBR.out c9⟩⟩, by first | (rw [hw1]; exact Nat.sub_lt_sub_left hlt (Nat.lt_succ_self k)) | (simp [intOf]; omega)⟩
                · have f3 : (vrV u == 0) = false := beq_eq_false_iff_ne.2 e3
                  have HN := Hid.mk (hbad (fun h => e3 h.2.2))
                  generalize vrV u = VU at *
                  clear e1 e2 e3 hbad hV hu hum hsl zr zx hvr bx
                  go_wp2_with (go_at_call 41; refine hvc.mono ?_; rintro e w1 ⟨rfl, c9⟩)
                  go_ret
                  exact ⟨⟨false, rfl, by simp [HN.out]⟩, below_seq HBX.out c9⟩
          · obtain rfl : k = L.length := by omega
            have d1 : decide ((L.length : Int) < (L.length : Int)) = false := decide_eq_false (by omega)
            have hLr := HL.out.later bwr
            have hso := isSorted_any L wr a _ cap rfl hLr.s.at' (by omega)
            have HBW := Hid.mk bwr
            have hall : ∀ v ∈ L, VOk next v := fun v hv => by
              obtain ⟨j, hj, rfl⟩ := List.getElem_of_mem hv
              exact hV.out j _ hj (List.getElem?_eq_getElem hj)
            by_cases g1 : Asc L
            · have hso' : Calls Try.prog 42 #[.slice a L.length cap, .func (.func 43) #[] #[]] wr fun e w' => e = .returned (.bool true) ∧ Below wr.heap.size wr w' := hso.mono (by
                rintro e w' ⟨⟨t, rfl, ht⟩, hb'⟩
                exact ⟨by rw [ht.2 g1], hb'⟩)
              have htw := fun w' (hb' : Below wr.heap.size wr w') => seqTwice_any L w' a _ cap rfl (hLr.later hb').s.at' (by omega)
              have hcl : ∀ w', Below wr.heap.size wr w' → w'.cell? ⟨w.heap.size, 0, none⟩ = some (.int .i64 next) ∧ w'.cell? ⟨w.heap.size, 1, none⟩ = some (.slice a L.length cap) := fun w' hb' => by
                obtain ⟨t0, t1, _⟩ := (zr.later hb').cells
                exact ⟨t0, t1⟩
              have HCL := Hid.mk hcl
              by_cases g2 : (L.map (·.seq)).Nodup
              · have htw' := fun w' (hb' : Below wr.heap.size wr w') => (htw w' hb').mono (R' := fun e w'' => e = .returned (.bool false) ∧ Below w'.heap.size w' w'') (by
                  rintro e w'' ⟨⟨t, rfl, ht⟩, hb''⟩
                  refine ⟨?_, hb''⟩
                  cases t with
                  | false => rfl
                  | true => exact absurd g2 (ht.1 rfl))
                have hby := fun w' (hb' : Below wr.heap.size wr w') => bBytes_any L next w' a _ cap (hLr.later hb')
                by_cases g3 : bw L ≤ 65536
                · have f3 : decide (bw L ≤ 65536) = true := decide_eq_true g3
                  have HR : Hid (RtB next L) := ⟨⟨by omega, by omega, by omega, hall, asc_srt g1 g2, g2, g3⟩⟩
                  clear hso htw hall g1 g2 g3 hcl hLr hV
                  generalize bw L = BL at *
                  go_wp2_with fail
                  with_reducible refine Calls.mono (hso') ?_
                  rintro e w1 ⟨rfl, c1⟩
                  dsimp only
                  have e1 := below_seq (Below.refl wr.heap.size wr) c1
                  clear p0 p1 c1
                  obtain ⟨p0, p1⟩ := HCL.out w1 e1
                  go_wp2_with fail
                  with_reducible refine Calls.mono (htw' w1 e1) ?_
                  rintro e w2 ⟨rfl, c2⟩
                  dsimp only
                  have e2 := below_seq e1 c2
                  clear p0 p1 c2
                  obtain ⟨p0, p1⟩ := HCL.out w2 e2
                  go_wp2_with fail
                  with_reducible refine Calls.mono (hby w2 e2) ?_
                  rintro e w3 ⟨rfl, c3⟩
                  dsimp only
                  have e3 := below_seq e2 c3
                  clear p0 p1 c3
                  obtain ⟨p0, p1⟩ := HCL.out w3 e3
                  go_wp2_with fail
                  go_ret
                  exact ⟨⟨true, rfl, by simp [HR.out]⟩, below_seq HBW.out e3⟩
                · have f3 : decide (bw L ≤ 65536) = false := decide_eq_false g3
                  have HN : Hid (¬ RtB next L) := ⟨fun h => g3 h.byt⟩
                  clear hso htw hall g1 g2 g3 hcl hLr hV
                  generalize bw L = BL at *
                  go_wp2_with fail
                  with_reducible refine Calls.mono (hso') ?_
                  rintro e w1 ⟨rfl, c1⟩
                  dsimp only
                  have e1 := below_seq (Below.refl wr.heap.size wr) c1
                  clear p0 p1 c1
                  obtain ⟨p0, p1⟩ := HCL.out w1 e1
                  go_wp2_with fail
                  with_reducible refine Calls.mono (htw' w1 e1) ?_
                  rintro e w2 ⟨rfl, c2⟩
                  dsimp only
                  have e2 := below_seq e1 c2
                  clear p0 p1 c2
                  obtain ⟨p0, p1⟩ := HCL.out w2 e2
                  go_wp2_with fail
                  with_reducible refine Calls.mono (hby w2 e2) ?_
                  rintro e w3 ⟨rfl, c3⟩
                  dsimp only
                  have e3 := below_seq e2 c3
                  clear p0 p1 c3
                  obtain ⟨p0, p1⟩ := HCL.out w3 e3
                  go_wp2_with fail
                  go_ret
                  exact ⟨⟨false, rfl, by simp [HN.out]⟩, below_seq HBW.out e3⟩
              · have htw' := fun w' (hb' : Below wr.heap.size wr w') => (htw w' hb').mono (R' := fun e w'' => e = .returned (.bool true) ∧ Below w'.heap.size w' w'') (by
                  rintro e w'' ⟨⟨t, rfl, ht⟩, hb''⟩
                  exact ⟨by rw [ht.2 g2], hb''⟩)
                have HN : Hid (¬ RtB next L) := ⟨fun h => g2 h.nod⟩
                clear hso htw hall g1 g2 hcl hLr hV
                go_wp2_with fail
                with_reducible refine Calls.mono (hso') ?_
                rintro e w1 ⟨rfl, c1⟩
                dsimp only
                have e1 := below_seq (Below.refl wr.heap.size wr) c1
                clear p0 p1 c1
                obtain ⟨p0, p1⟩ := HCL.out w1 e1
                go_wp2_with fail
                with_reducible refine Calls.mono (htw' w1 e1) ?_
                rintro e w2 ⟨rfl, c2⟩
                dsimp only
                have e2 := below_seq e1 c2
                clear p0 p1 c2
                obtain ⟨p0, p1⟩ := HCL.out w2 e2
                go_wp2_with fail
                go_ret
                exact ⟨⟨false, rfl, by simp [HN.out]⟩, below_seq HBW.out e2⟩
            · have hso' : Calls Try.prog 42 #[.slice a L.length cap, .func (.func 43) #[] #[]] wr fun e w' => e = .returned (.bool false) ∧ Below wr.heap.size wr w' := hso.mono (by
                rintro e w' ⟨⟨t, rfl, ht⟩, hb'⟩
                refine ⟨?_, hb'⟩
                cases t with
                | false => rfl
                | true => exact absurd (ht.1 rfl) g1)
              have hcl : ∀ w', Below wr.heap.size wr w' → w'.cell? ⟨w.heap.size, 0, none⟩ = some (.int .i64 next) ∧ w'.cell? ⟨w.heap.size, 1, none⟩ = some (.slice a L.length cap) := fun w' hb' => by
                obtain ⟨t0, t1, _⟩ := (zr.later hb').cells
                exact ⟨t0, t1⟩
              have HCL := Hid.mk hcl
              have HN : Hid (¬ RtB next L) := ⟨fun h => g1 (srt_asc h.srt)⟩
              clear hso hall g1 hcl hLr hV
              go_wp2_with fail
              with_reducible refine Calls.mono (hso') ?_
              rintro e w1 ⟨rfl, c1⟩
              dsimp only
              have e1 := below_seq (Below.refl wr.heap.size wr) c1
              clear p0 p1 c1
              obtain ⟨p0, p1⟩ := HCL.out w1 e1
              go_wp2_with fail
              go_ret
              exact ⟨⟨false, rfl, by simp [HN.out]⟩, below_seq HBW.out e1⟩
end Go.Proofs.Ythbdaadhcheggaa
