/- The keeper plays a step: the other kinds. -/
import Derived.Test.YtmcdohpeibipkaaKpl
namespace Go.Proofs.Ytmcdohpeibipkaa
set_option linter.unusedVariables false
set_option linter.unusedSimpArgs false
open Go.RowKit
theorem bxa {w0 w : World} {b kp p r s : Nat} {st : St} {L M v : Value} {rest : List (Th → Prop)} {kd : Int} {la : Option Addr} {ll lc : Nat} {n : Int} {ka : Option Addr} {kl kc : Nat} (h : EnvP w0 w (dk p st :: ob b (ov kd la ll lc n ka kl kc) 67 :: kpo kp p r L M :: rfo r s v :: rest)) : w.cell? ⟨kp, 0, none⟩ = some (pt p) ∧ w.cell? ⟨kp, 2, none⟩ = some (pt r) ∧ w.cell? ⟨r, 0, none⟩ = some (.int .i64 (s : Int)) ∧ w.cell? ⟨b, 2, none⟩ = some (.int .i64 n) :=
  ⟨h.cell 2 rfl 0, h.cell 2 rfl 2, h.cell 3 rfl 0, h.cell 1 rfl 2⟩
theorem offq {w0 : World} {p : Nat} {st : St} {rest : List (Th → Prop)} {b : Bool} (hb : st.off = b) {w5 : World} (h5 : EnvP w0 w5 (dk p st :: rest)) : Calls Try.prog 32 #[pt p] w5 fun e w' => e = .returned (.bool b) ∧ EnvP w0 w' (dk p st :: rest) := by
  refine (off_env h5 0 rfl hb).mono ?_
  rintro e w' ⟨rfl, rfl⟩
  exact ⟨rfl, h5⟩
theorem plays_other_off {w0 w : World} {kp p r s n : Nat} {st : St} {B : List ByteArray} {M : Value} {Mx : List ByteArray} (h : Dead w0 w kp p r s n st B M Mx) (N : Int) (la : Option Addr) (ll lc : Nat) (ka : Option Addr) (kl kc : Nat) :
    Calls Try.prog 28 #[pt kp, .agg (ov 6 la ll lc N ka kl kc)] w fun e w' => e = .returned (.bool true) ∧ KS w0 w' kp p r s n := by
  obtain ⟨gB, cB, h, D⟩ := h
  have E0 := (h.alloc (ov 6 la ll lc N ka kl kc) 67).front.swap
  have E1 : Hid (EnvP w0 (w.alloc (.cells (ov 6 la ll lc N ka kl kc) 67)) [dk p st, ob w.heap.size (ov 6 la ll lc N ka kl kc) 67, kpo kp p r (.pointer none) M, rfo r s (rw_ gB (n - s) cB), rowS (rw_ gB (n - s) cB) B, rowS M Mx]) := ⟨E0⟩
  have DD : Hid (B.length = n - s ∧ MayB n s M Mx ∧ OFFst st n (fun L => RecL NN L s B ∨ (M ≠ nilv ∧ RecL NN L s Mx))) := ⟨D⟩
  have hoff := D.2.2.off
  clear h D E0
  go_enter Try.func28, Try.ntmps28
  go_wp2_with fail
  have c0 := (bxa E1.out).1
  go_quiet ((go_at_call 32; exact Calls.quiet_of_same (off_env (E1.out.drewN _) 0 rfl hoff)))
  have E4 : Hid (KS w0 ((w.alloc (.cells (ov 6 la ll lc N ka kl kc) 67)).drewN nq) kp p r s n) := ⟨.inr ⟨st, B, M, Mx, gB, cB, (E1.out.drewN nq).swap.tail, DD.out⟩⟩
  clear E1 DD
  go_wp2
  go_ret
  exact ⟨rfl, E4.out⟩
theorem plays_other {w0 w : World} {kp p r s n q : Nat} {st : St} {B : List ByteArray} (h : Alive w0 w kp p r s n q st B) (hs : s < n) (N : Int) (la : Option Addr) (ll lc : Nat) (ka : Option Addr) (kl kc : Nat) :
    Calls Try.prog 28 #[pt kp, .agg (ov 6 la ll lc N ka kl kc)] w fun e w' => e = .returned (.bool true) ∧ KS w0 w' kp p r s n := by
  obtain ⟨gB, cB, h, ok⟩ := h
  have E0 := (h.back.alloc (ov 6 la ll lc N ka kl kc) 67).front.swap
  have E1 : Hid (EnvP w0 (w.alloc (.cells (ov 6 la ll lc N ka kl kc) 67)) [dk p st, ob w.heap.size (ov 6 la ll lc N ka kl kc) 67, kpo kp p r (pt q) nilv, rfo r s (rw_ gB (n - s) cB), rowS (rw_ gB (n - s) cB) B, rowS nilv [], lg q p s false]) := ⟨E0⟩
  have FIN : Hid (∀ {w5 : World}, EnvP w0 w5 [dk p st, ob w.heap.size (ov 6 la ll lc N ka kl kc) 67, kpo kp p r (pt q) nilv, rfo r s (rw_ gB (n - s) cB), rowS (rw_ gB (n - s) cB) B, rowS nilv [], lg q p s false] → KS w0 w5 kp p r s n) := ⟨fun h5 => .inl ⟨q, st, B, gB, cB, EnvP.front (Ls := [dk p st, kpo kp p r (pt q) nilv, rfo r s (rw_ gB (n - s) cB), rowS (rw_ gB (n - s) cB) B, rowS nilv []]) h5.swap.tail, ok⟩⟩
  have hoff := ok.off
  by_cases hN : N = (s : Int)
  · subst hN
    clear h ok E0
    go_enter Try.func28, Try.ntmps28
    go_wp2_with fail
    have E2 := E1.out.drew
    have S2 := bxa E2
    clear E1
    go_region_held3 (fun w' => w'.cell? ⟨kp, 0, none⟩ = some (pt p) ∧ w'.cell? ⟨kp, 2, none⟩ = some (pt r) ∧ w'.cell? ⟨r, 0, none⟩ = some (.int .i64 (s : Int)) ∧ w'.cell? ⟨w.heap.size, 2, none⟩ = some (.int .i64 (s : Int))) (first | exact S2 | exact bxa E3 | assumption)
      ((go_at_call 32; refine (offq hoff (by assumption)).mono ?_; rintro e w3 ⟨rfl, E3⟩))
    have E4 : Hid (KS w0 w3 kp p r s n) := ⟨FIN.out E3⟩
    clear E3 E2 S2 FIN
    go_wp2
    go_ret
    exact ⟨rfl, E4.out⟩
  · have qO : Hid (∀ {w5 : World}, EnvP w0 w5 [dk p st, ob w.heap.size (ov 6 la ll lc N ka kl kc) 67, kpo kp p r (pt q) nilv, rfo r s (rw_ gB (n - s) cB), rowS (rw_ gB (n - s) cB) B, rowS nilv [], lg q p s false] → Calls Try.prog 9 #[pt p, .int .i64 N] w5 fun e w' => e = .returned (.tuple #[.pointer none, .int .i64 1]) ∧ EnvP w0 w' [dk p st, ob w.heap.size (ov 6 la ll lc N ka kl kc) 67, kpo kp p r (pt q) nilv, rfo r s (rw_ gB (n - s) cB), rowS (rw_ gB (n - s) cB) B, rowS nilv [], lg q p s false]) := ⟨fun h5 => open_size h5 ok hs N hN⟩
    clear h ok E0
    go_enter Try.func28, Try.ntmps28
    go_wp2_with fail
    have E2 := E1.out.drew
    have S2 := bxa E2
    clear E1
    go_region_held3 (fun w' => w'.cell? ⟨kp, 0, none⟩ = some (pt p) ∧ w'.cell? ⟨kp, 2, none⟩ = some (pt r) ∧ w'.cell? ⟨r, 0, none⟩ = some (.int .i64 (s : Int)) ∧ w'.cell? ⟨w.heap.size, 2, none⟩ = some (.int .i64 N)) (first | exact S2 | exact bxa E3 | assumption)
      ((go_at_call 32; refine (offq hoff (by assumption)).mono ?_; rintro e w3 ⟨rfl, E3⟩))
    have E4 : Hid (EnvP w0 w3 [dk p st, ob w.heap.size (ov 6 la ll lc N ka kl kc) 67, kpo kp p r (pt q) nilv, rfo r s (rw_ gB (n - s) cB), rowS (rw_ gB (n - s) cB) B, rowS nilv [], lg q p s false]) := ⟨E3⟩
    clear E3 E2 S2
    go_wp2_with fail
    have E6 := E4.out.drew
    have S6 := bxc E6.swap
    clear E4
    go_region_held3 (fun w' => w'.cell? ⟨kp, 0, none⟩ = some (pt p) ∧ w'.cell? ⟨w.heap.size, 2, none⟩ = some (.int .i64 N)) (first | exact S6 | exact bxc (EnvP.swap E7) | assumption)
      ((go_at_call 9; refine (qO.out (by assumption)).mono ?_; rintro e w11 ⟨rfl, E7⟩))
    have E11 : Hid (KS w0 w11 kp p r s n) := ⟨FIN.out E7⟩
    clear E7 E6 S6 qO
    go_wp2
    go_ret
    exact ⟨rfl, E11.out⟩
theorem plays_dead {w0 w : World} {kp p r s n : Nat} {st : St} {B : List ByteArray} {M : Value} {Mx : List ByteArray} (h : Dead w0 w kp p r s n st B M Mx) (kd N : Int) (h3 : ¬ kd = 3) (h4 : ¬ kd = 4) (h5 : ¬ kd = 5) (h6 : ¬ kd = 6) (la : Option Addr) (ll lc : Nat) (ka : Option Addr) (kl kc : Nat) :
    Calls Try.prog 28 #[pt kp, .agg (ov kd la ll lc N ka kl kc)] w fun e w' => e = .returned (.bool true) ∧ KS w0 w' kp p r s n := by
  obtain ⟨gB, cB, h, D⟩ := h
  have E0 := (h.alloc (ov kd la ll lc N ka kl kc) 67).front.swap
  have HK : Hid (KS w0 (w.alloc (.cells (ov kd la ll lc N ka kl kc) 67)) kp p r s n) := ⟨.inr ⟨st, B, M, Mx, gB, cB, E0.swap.tail, D⟩⟩
  have c1 : (w.alloc (.cells (ov kd la ll lc N ka kl kc) 67)).cell? ⟨kp, 1, none⟩ = some (.pointer none) := E0.cell 2 rfl 1
  clear h D E0
  go_enter Try.func28, Try.ntmps28
  go_wp2
  go_ret
  exact ⟨rfl, HK.out⟩
theorem plays_none {w0 w : World} {kp p r s n q : Nat} {st : St} {B : List ByteArray} (h : Alive w0 w kp p r s n q st B) (kd N : Int) (h1 : ¬ kd = 1) (h2 : ¬ kd = 2) (h3 : ¬ kd = 3) (h4 : ¬ kd = 4) (h5 : ¬ kd = 5) (h6 : ¬ kd = 6) (la : Option Addr) (ll lc : Nat) (ka : Option Addr) (kl kc : Nat) :
    Calls Try.prog 28 #[pt kp, .agg (ov kd la ll lc N ka kl kc)] w fun e w' => e = .returned (.bool true) ∧ KS w0 w' kp p r s n := by
  obtain ⟨gB, cB, h, ok⟩ := h
  have E0 := h.alloc (ov kd la ll lc N ka kl kc) 67
  have HK : Hid (KS w0 (w.alloc (.cells (ov kd la ll lc N ka kl kc) 67)) kp p r s n) := ⟨.inl ⟨q, st, B, gB, cB, E0.init, ok⟩⟩
  have c1 : (w.alloc (.cells (ov kd la ll lc N ka kl kc) 67)).cell? ⟨kp, 1, none⟩ = some (pt q) := E0.cell 2 rfl 1
  clear h ok E0
  go_enter Try.func28, Try.ntmps28
  go_wp2
  go_ret
  exact ⟨rfl, HK.out⟩
theorem plays_commit {w0 w : World} {kp p r s n q : Nat} {st : St} {B : List ByteArray} (h : Alive w0 w kp p r s n q st B) (h4 : 4 ≤ s) (hs : s < n) (hs2 : s ≤ 250) (N : Int) (la : Option Addr) (lc : Nat) (l : List Px) (hl : l.length ≤ 4398046510976) (hin : PIn w0 la l) (ka : Option Addr) (kl kc : Nat) :
    Calls Try.prog 28 #[pt kp, .agg (ov 1 la l.length lc N ka kl kc)] w fun e w' => e = .returned (.bool true) ∧ KS w0 w' kp p r s n := by
  obtain ⟨gB, cB, h, ok⟩ := h
  have E0 := h.alloc (ov 1 la l.length lc N ka kl kc) 67
  have qC : Hid (Calls Try.prog 48 #[pt kp, .slice la l.length lc] (w.alloc (.cells (ov 1 la l.length lc N ka kl kc) 67)) fun e w' => e = .returned (.bool true) ∧ ((∃ q st' B', Alive w0 w' kp p r s n q st' B') ∨ (∃ st' M Mx, Dead w0 w' kp p r s n st' B M Mx))) := ⟨commits_env ⟨gB, cB, E0.init, ok⟩ h4 hs hs2 la lc l (fun w5 Ls h5 => hin.later h5.bel) hl⟩
  have c1 : (w.alloc (.cells (ov 1 la l.length lc N ka kl kc) 67)).cell? ⟨kp, 1, none⟩ = some (pt q) := E0.cell 2 rfl 1
  clear h ok E0 hin hl
  go_enter Try.func28, Try.ntmps28
  go_wp2_with fail
  refine qC.out.mono ?_
  rintro e w11 ⟨rfl, h11⟩
  have E11 : Hid (KS w0 w11 kp p r s n) := ⟨by
    rcases h11 with ⟨q, st', B', h⟩ | ⟨st', M, Mx, h⟩
    · exact .inl ⟨q, st', B', h⟩
    · exact .inr ⟨st', B, M, Mx, h⟩⟩
  clear h11 qC
  dsimp only
  go_wp2
  go_ret
  exact ⟨rfl, E11.out⟩
end Go.Proofs.Ytmcdohpeibipkaa
