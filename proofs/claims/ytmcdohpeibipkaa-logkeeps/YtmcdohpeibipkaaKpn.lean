/- The keeper plays a step: a look; any step. -/
import Derived.Test.YtmcdohpeibipkaaKpm
namespace Go.Proofs.Ytmcdohpeibipkaa
set_option linter.unusedVariables false
set_option linter.unusedSimpArgs false
open Go.RowKit
abbrev R7 (q kp p r s n gB cB b : Nat) (st : St) (B : List ByteArray) (N : Int) (la : Option Addr) (ll lc : Nat) (ka : Option Addr) (kl kc : Nat) : List (Th → Prop) := [lg q p s false, dk p st, kpo kp p r (pt q) nilv, rfo r s (rw_ gB (n - s) cB), rowS (rw_ gB (n - s) cB) B, rowS nilv [], ob b (ov 2 la ll lc N ka kl kc) 67]
theorem rdc {w0 w : World} {q kp p r s n gB cB b : Nat} {st : St} {B : List ByteArray} {N : Int} {la : Option Addr} {ll lc : Nat} {ka : Option Addr} {kl kc : Nat} (h : EnvP w0 w (R7 q kp p r s n gB cB b st B N la ll lc ka kl kc)) : w.cell? ⟨kp, 1, none⟩ = some (pt q) ∧ w.cell? ⟨kp, 2, none⟩ = some (pt r) ∧ w.cell? ⟨b, 2, none⟩ = some (.int .i64 N) :=
  ⟨h.cell 2 rfl 1, h.cell 2 rfl 2, h.cell 6 rfl 2⟩
set_option maxHeartbeats 2000000 in
set_option maxRecDepth 100000 in
theorem plays_read {w0 w : World} {kp p r s n q : Nat} {st : St} {B : List ByteArray} (h : Alive w0 w kp p r s n q st B) (hs : s < n) (N : Int) (la : Option Addr) (ll lc : Nat) (ka : Option Addr) (kl kc : Nat) :
    Calls Try.prog 28 #[pt kp, .agg (ov 2 la ll lc N ka kl kc)] w fun e w' => e = .returned (.bool true) ∧ KS w0 w' kp p r s n := by
  obtain ⟨gB, cB, h, ok⟩ := h
  have E1 : Hid (EnvP w0 (w.alloc (.cells (ov 2 la ll lc N ka kl kc) 67)) (R7 q kp p r s n gB cB w.heap.size st B N la ll lc ka kl kc)) := ⟨h.alloc _ _⟩
  obtain ⟨X, er, hX⟩ : ∃ (X : ByteArray) (er : Int), (if 0 ≤ N ∧ N < B.length then Value.tuple #[.string (B.getD N.toNat ByteArray.empty), .int .i64 0] else .tuple #[.string ⟨#[]⟩, .int .i64 1]) = Value.tuple #[.string X, .int .i64 er] := by
    split
    · exact ⟨_, _, rfl⟩
    · exact ⟨_, _, rfl⟩
  have FIN : Hid (∀ {w5 : World}, EnvP w0 w5 (R7 q kp p r s n gB cB w.heap.size st B N la ll lc ka kl kc) → KS w0 w5 kp p r s n) := ⟨fun h5 => .inl ⟨q, st, B, gB, cB, EnvP.init (Ls := [lg q p s false, dk p st, kpo kp p r (pt q) nilv, rfo r s (rw_ gB (n - s) cB), rowS (rw_ gB (n - s) cB) B, rowS nilv []]) h5, ok⟩⟩
  have qL : Hid (∀ {w5 : World}, EnvP w0 w5 (R7 q kp p r s n gB cB w.heap.size st B N la ll lc ka kl kc) → Calls Try.prog 15 #[pt q, .int .i64 N] w5 fun e w' => e = .returned (.tuple #[.string X, .int .i64 er]) ∧ EnvP w0 w' (R7 q kp p r s n gB cB w.heap.size st B N la ll lc ka kl kc)) := ⟨fun h5 => by
    have := lread_on h5 N ok.off (by rw [ok.len]; omega) B (by rw [ok.seen]; exact ok.blk)
    rw [hX] at this
    exact this⟩
  have qR : Hid (∀ {w5 : World}, EnvP w0 w5 (R7 q kp p r s n gB cB w.heap.size st B N la ll lc ka kl kc) → Calls Try.prog 49 #[pt r, .int .i64 N] w5 fun e w' => e = .returned (.tuple #[.string X, .int .i64 er]) ∧ EnvP w0 w' (R7 q kp p r s n gB cB w.heap.size st B N la ll lc ka kl kc)) := ⟨fun {w5} h5 => by
    obtain ⟨a1, c1, e1, i1⟩ := own_sin (h5.rowSAt 4 rfl)
    injection e1 with e1 e2 e4
    subst e1
    have := refRead_any w5 r gB cB B (by rw [ok.blen]; exact h5.cell 3 rfl 1) i1 N
    rw [hX] at this
    refine this.mono ?_
    rintro e w' ⟨rfl, rfl⟩
    exact ⟨rfl, h5⟩⟩
  have c1 := (rdc E1.out).1
  clear h ok hX
  go_enter Try.func28, Try.ntmps28
  go_wp2_with fail
  have E2 := E1.out.drew
  have S2 := rdc E2
  clear E1
  go_region_held3 (fun w' => w'.cell? ⟨kp, 1, none⟩ = some (pt q) ∧ w'.cell? ⟨kp, 2, none⟩ = some (pt r) ∧ w'.cell? ⟨w.heap.size, 2, none⟩ = some (.int .i64 N)) (first | exact S2 | exact rdc E3 | assumption)
    ((go_at_call 15; refine (qL.out (by assumption)).mono ?_; rintro e w3 ⟨rfl, E3⟩))
  have E4 : Hid (EnvP w0 w3 (R7 q kp p r s n gB cB w.heap.size st B N la ll lc ka kl kc)) := ⟨E3⟩
  clear E3 E2 S2 qL
  go_wp2_with fail
  have E2 := E4.out.drew
  have S2 := rdc E2
  clear E4
  go_region_held3 (fun w' => w'.cell? ⟨kp, 1, none⟩ = some (pt q) ∧ w'.cell? ⟨kp, 2, none⟩ = some (pt r) ∧ w'.cell? ⟨w.heap.size, 2, none⟩ = some (.int .i64 N)) (first | exact S2 | exact rdc E3 | assumption)
    ((go_at_call 49; refine (qR.out (by assumption)).mono ?_; rintro e w5 ⟨rfl, E3⟩))
  have E4 : Hid (KS w0 w5 kp p r s n) := ⟨FIN.out E3⟩
  clear E3 E2 S2 qR FIN
  go_wp2
  go_ret
  exact ⟨rfl, E4.out⟩
/-- any step -/
theorem plays_any {w0 w : World} {kp p r s n : Nat} (h : KS w0 w kp p r s n) (h4 : 4 ≤ s) (hs : s < n) (hs2 : s ≤ 250) (kd N : Int) (hN : N ≤ 9223372036854775807) (la : Option Addr) (lc : Nat) (l : List Px) (hl : l.length ≤ 4398046510976) (hin : PIn w0 la l) (ka : Option Addr) (kc : Nat) (zs : List Int) (hz : zs.length ≤ 20000000000000) (hzi : IIn w0 ka zs) (hc : ka = none → kc = 0) :
    Calls Try.prog 28 #[pt kp, .agg (ov kd la l.length lc N ka zs.length kc)] w fun e w' => e = .returned (.bool true) ∧ KS w0 w' kp p r s n := by
  by_cases h3 : kd = 3
  · subst h3
    rcases h with ⟨q, st, B, gB, cB, h, ok⟩ | ⟨st, B, M, Mx, gB, cB, h, b1, b2, off⟩
    · refine (plays_fall h.back N la l.length lc ka zs.length kc hN).mono ?_
      rintro e w' ⟨rfl, h1⟩
      exact ⟨rfl, .inl ⟨q, _, B, gB, cB, EnvP.front (Ls := [dk p (st.fallTo N), kpo kp p r (pt q) nilv, rfo r s (rw_ gB (n - s) cB), rowS (rw_ gB (n - s) cB) B, rowS nilv []]) h1, ok.fallTo N hN⟩⟩
    · refine (plays_fall h N la l.length lc ka zs.length kc hN).mono ?_
      rintro e w' ⟨rfl, h1⟩
      exact ⟨rfl, .inr ⟨_, B, M, Mx, gB, cB, h1, b1, b2, ⟨off.wf.fallTo N hN, off.off, off.opn, off.len, off.few, off.may⟩⟩⟩
  by_cases h4' : kd = 4
  · subst h4'
    rcases h with ⟨q, st, B, gB, cB, h, ok⟩ | ⟨st, B, M, Mx, gB, cB, h, b1, b2, off⟩
    · exact plays_crash h.tail ok.kg h4 hs N la l.length lc ka kc zs hN hz hzi hc
    · exact plays_crash h ⟨b1, b2, off.few, fun kept => off.back kept⟩ h4 hs N la l.length lc ka kc zs hN hz hzi hc
  by_cases h5 : kd = 5
  · subst h5
    rcases h with ⟨q, st, B, h⟩ | ⟨st, B, M, Mx, h⟩
    · exact plays_open h h4 hs N la _ lc ka _ kc
    · exact plays_open_off h N la _ lc ka _ kc
  by_cases h6 : kd = 6
  · subst h6
    rcases h with ⟨q, st, B, h⟩ | ⟨st, B, M, Mx, h⟩
    · exact plays_other h hs N la _ lc ka _ kc
    · exact plays_other_off h N la _ lc ka _ kc
  rcases h with ⟨q, st, B, h⟩ | ⟨st, B, M, Mx, h⟩
  · by_cases h1 : kd = 1
    · subst h1
      exact plays_commit h h4 hs hs2 N la lc l hl hin ka _ kc
    by_cases h2 : kd = 2
    · subst h2
      exact plays_read h hs N la _ lc ka _ kc
    exact plays_none h kd N h1 h2 h3 h4' h5 h6 la _ lc ka _ kc
  · exact plays_dead h kd N h3 h4' h5 h6 la _ lc ka _ kc
end Go.Proofs.Ytmcdohpeibipkaa
