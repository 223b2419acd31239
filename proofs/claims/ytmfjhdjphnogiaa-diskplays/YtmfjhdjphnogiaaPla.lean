/- plays: a step on both. -/
import Derived.Test.YtmfjhdjphnogiaaEnvR
namespace Go.Proofs.Ytmfjhdjphnogiaa
set_option linter.unusedVariables false
set_option linter.unusedSimpArgs false
open Go.RowKit
/-- a step as it came in -/
structure Opx where
  kd : Int
  n : Int
  t : ByteArray
  ev : Bool
  ka : Option Addr
  kc : Nat
  zs : List Int
def Opx.cells (o : Opx) : Array Value := #[.int .i64 o.kd, .int .i64 o.n, .string o.t, .bool o.ev, .slice o.ka o.zs.length o.kc]
structure Opx.ok (w : World) (o : Opx) : Prop where
  k1 : -9223372036854775808 ≤ o.kd
  k2 : o.kd ≤ 9223372036854775807
  n1 : -9223372036854775808 ≤ o.n
  n2 : o.n ≤ 9223372036854775807
  ts : o.t.size ≤ 140737488351232
  zl : o.zs.length ≤ 20000000000000
  zi : IIn w o.ka o.zs
  zc : o.ka = none → o.kc = 0
/-- what the step makes of a disk -/
def Opx.next (o : Opx) (st : St) : St :=
  if o.kd = 2 then (st.write o.n (otx o.ev o.t)).1 else if o.kd = 3 then st.flush.1 else if o.kd = 4 then st.fallTo o.n else if o.kd = 5 then st.crash o.zs else if o.kd = 6 then st.on else st
/-- what plays is asked for -/
def Played (w0 : World) (p q : Nat) (st : St) (rest : List (Th → Prop)) (o : Opx) : Ending → World → Prop := fun e w' => e = .returned (.bool true) ∧ EnvP w0 w' (dk p (o.next st) :: rk q (o.next st) :: rest)
section
variable {w0 w : World} {p q : Nat} {st : St} {rest : List (Th → Prop)}
set_option maxRecDepth 100000 in
theorem plays_read (h : EnvP w0 w (dk p st :: rk q st :: rest)) (n : Int) (t : ByteArray) (ev : Bool) (ka : Option Addr) (kl kc : Nat) (hp : st.pend.length ≤ 9000000000000) :
    Calls Try.prog 25 #[pt p, pt q, .agg #[.int .i64 1, .int .i64 n, .string t, .bool ev, .slice ka kl kc]] w fun e w' => e = .returned (.bool true) ∧ EnvP w0 w' (dk p st :: rk q st :: rest) := by
  have E1 := (h.alloc #[.int .i64 1, .int .i64 n, .string t, .bool ev, .slice ka kl kc] 56).front
  have H : Hid (EnvP w0 (w.alloc (.cells #[.int .i64 1, .int .i64 n, .string t, .bool ev, .slice ka kl kc] 56)) (ob w.heap.size #[.int .i64 1, .int .i64 n, .string t, .bool ev, .slice ka kl kc] 56 :: dk p st :: rk q st :: rest)) := ⟨E1⟩
  clear E1 h
  go_enter Try.func25, Try.ntmps25
  go_wp2_with fail
  obtain ⟨⟨T, er⟩, hrd⟩ : ∃ x, st.read n = x := ⟨_, rfl⟩
  have HRD : Hid (st.read n = (T, er)) := ⟨hrd⟩
  clear hrd
  refine (read_env H.out 1 rfl n HRD.out).mono ?_
  rintro e w1 ⟨rfl, h1⟩
  have c1 : w1.cell? ⟨w.heap.size, 1, none⟩ = some (.int .i64 n) := h1.cell 0 rfl 1
  have H1 : Hid (EnvP w0 w1 (ob w.heap.size #[.int .i64 1, .int .i64 n, .string t, .bool ev, .slice ka kl kc] 56 :: dk p st :: rk q st :: rest)) := ⟨h1⟩
  clear h1 H
  dsimp only
  go_wp2_with (go_at_call 36; refine (rRead_env H1.out 2 rfl n hp HRD.out).mono ?_; rintro e w' ⟨rfl, hw⟩; subst w')
  go_ret
  exact ⟨rfl, H1.out.tail⟩
/-- the cells of a step in its box -/
theorem box5 {w0 w : World} {B : Nat} {v0 v1 v2 v3 v4 : Value} {L : List (Th → Prop)} (h : EnvP w0 w (ob B #[v0, v1, v2, v3, v4] 56 :: L)) :
    w.cell? ⟨B, 0, none⟩ = some v0 ∧ w.cell? ⟨B, 1, none⟩ = some v1 ∧ w.cell? ⟨B, 2, none⟩ = some v2 ∧ w.cell? ⟨B, 3, none⟩ = some v3 ∧ w.cell? ⟨B, 4, none⟩ = some v4 := ⟨h.cell 0 rfl 0, h.cell 0 rfl 1, h.cell 0 rfl 2, h.cell 0 rfl 3, h.cell 0 rfl 4⟩
set_option maxRecDepth 100000 in
theorem plays_write (h : EnvP w0 w (dk p st :: rk q st :: rest)) (n : Int) (t : ByteArray) (ev : Bool) (ka : Option Addr) (kl kc : Nat) (ht : t.size ≤ 140737488351232) (hp : st.pend.length < 9000000000000) :
    Calls Try.prog 25 #[pt p, pt q, .agg #[.int .i64 2, .int .i64 n, .string t, .bool ev, .slice ka kl kc]] w fun e w' => e = .returned (.bool true) ∧ EnvP w0 w' (dk p (st.write n (otx ev t)).1 :: rk q (st.write n (otx ev t)).1 :: rest) := by
  have E1 := (h.alloc #[.int .i64 2, .int .i64 n, .string t, .bool ev, .slice ka kl kc] 56).front
  have H : Hid (EnvP w0 (w.alloc (.cells #[.int .i64 2, .int .i64 n, .string t, .bool ev, .slice ka kl kc] 56)) (ob w.heap.size #[.int .i64 2, .int .i64 n, .string t, .bool ev, .slice ka kl kc] 56 :: dk p st :: rk q st :: rest)) := ⟨E1⟩
  clear E1 h
  obtain ⟨⟨st', er⟩, hwr⟩ : ∃ x, st.write n (otx ev t) = x := ⟨_, rfl⟩
  have qT : Hid (∀ {L : List (Th → Prop)} {w5 : World}, EnvP w0 w5 (ob w.heap.size #[.int .i64 2, .int .i64 n, .string t, .bool ev, .slice ka kl kc] 56 :: L) → Calls Try.prog 37 #[.agg #[.int .i64 2, .int .i64 n, .string t, .bool ev, .slice ka kl kc]] w5 fun e w' => e = .returned (.string (otx ev t)) ∧ EnvP w0 w' (ob w.heap.size #[.int .i64 2, .int .i64 n, .string t, .bool ev, .slice ka kl kc] 56 :: L)) := ⟨fun h5 => text_env h5 2 n t ev ka kl kc ht⟩
  have qW : Hid (∀ {w5 : World}, EnvP w0 w5 (ob w.heap.size #[.int .i64 2, .int .i64 n, .string t, .bool ev, .slice ka kl kc] 56 :: dk p st :: rk q st :: rest) → Calls Try.prog 11 #[pt p, .int .i64 n, .string (otx ev t)] w5 fun e w' => e = .returned (.int .i64 er) ∧ EnvP w0 w' (ob w.heap.size #[.int .i64 2, .int .i64 n, .string t, .bool ev, .slice ka kl kc] 56 :: dk p st' :: rk q st :: rest)) := ⟨fun h5 => write_env h5 1 rfl n (otx ev t) hp hwr⟩
  have qR : Hid (∀ {w5 : World}, EnvP w0 w5 (ob w.heap.size #[.int .i64 2, .int .i64 n, .string t, .bool ev, .slice ka kl kc] 56 :: dk p st' :: rk q st :: rest) → Calls Try.prog 38 #[pt q, .int .i64 n, .string (otx ev t)] w5 fun e w' => e = .returned (.int .i64 er) ∧ EnvP w0 w' (ob w.heap.size #[.int .i64 2, .int .i64 n, .string t, .bool ev, .slice ka kl kc] 56 :: dk p st' :: rk q st' :: rest)) := ⟨fun h5 => rWrite_env h5 2 rfl n (otx ev t) hp hwr⟩
  rw [hwr]
  clear hwr
  generalize otx ev t = X at *
  go_enter Try.func25, Try.ntmps25
  go_wp2_with fail
  have E7 := H.out.drew
  clear H
  go_region_held3 (fun w' => w'.cell? ⟨w.heap.size, 0, none⟩ = some (.int .i64 2) ∧ w'.cell? ⟨w.heap.size, 1, none⟩ = some (.int .i64 n) ∧ w'.cell? ⟨w.heap.size, 2, none⟩ = some (.string t) ∧ w'.cell? ⟨w.heap.size, 3, none⟩ = some (.bool ev) ∧ w'.cell? ⟨w.heap.size, 4, none⟩ = some (.slice ka kl kc)) (first | exact box5 E7 | exact box5 h5 | exact box5 h6 | assumption)
    ((first
      | (go_at_call 37; refine (qT.out (by assumption)).mono ?_; rintro e w5 ⟨rfl, h5⟩)
      | (go_at_call 11; refine (qW.out (by assumption)).mono ?_; rintro e w6 ⟨rfl, h6⟩)))
  have E8 := h6.drew
  clear h6 h5 E7 qW
  go_wp2_with fail
  go_region_held3 (fun w' => w'.cell? ⟨w.heap.size, 0, none⟩ = some (.int .i64 2) ∧ w'.cell? ⟨w.heap.size, 1, none⟩ = some (.int .i64 n) ∧ w'.cell? ⟨w.heap.size, 2, none⟩ = some (.string t) ∧ w'.cell? ⟨w.heap.size, 3, none⟩ = some (.bool ev) ∧ w'.cell? ⟨w.heap.size, 4, none⟩ = some (.slice ka kl kc)) (first | exact box5 E8 | exact box5 h7 | exact box5 h8 | assumption)
    ((first
      | (go_at_call 37; refine (qT.out (by assumption)).mono ?_; rintro e w7 ⟨rfl, h7⟩)
      | (go_at_call 38; refine (qR.out (by assumption)).mono ?_; rintro e w8 ⟨rfl, h8⟩)))
  go_wp2
  go_ret
  exact ⟨rfl, h8.tail⟩
set_option maxRecDepth 100000 in
theorem plays_flush (h : EnvP w0 w (dk p st :: rk q st :: rest)) (n : Int) (t : ByteArray) (ev : Bool) (ka : Option Addr) (kl kc : Nat) (hp : st.pend.length ≤ 9000000000000) :
    Calls Try.prog 25 #[pt p, pt q, .agg #[.int .i64 3, .int .i64 n, .string t, .bool ev, .slice ka kl kc]] w fun e w' => e = .returned (.bool true) ∧ EnvP w0 w' (dk p st.flush.1 :: rk q st.flush.1 :: rest) := by
  have E1 := (h.alloc #[.int .i64 3, .int .i64 n, .string t, .bool ev, .slice ka kl kc] 56).front
  obtain ⟨⟨st', er⟩, hwr⟩ : ∃ x, st.flush = x := ⟨_, rfl⟩
  have H : Hid (EnvP w0 (w.alloc (.cells #[.int .i64 3, .int .i64 n, .string t, .bool ev, .slice ka kl kc] 56)) (ob w.heap.size #[.int .i64 3, .int .i64 n, .string t, .bool ev, .slice ka kl kc] 56 :: dk p st :: rk q st :: rest)) := ⟨E1⟩
  have HW : Hid (st.flush = (st', er)) := ⟨hwr⟩
  rw [hwr]
  clear E1 h hwr
  go_enter Try.func25, Try.ntmps25
  go_wp2_with fail
  refine (flush_env H.out 1 rfl hp HW.out).mono ?_
  rintro e w1 ⟨rfl, h1⟩
  have H1 : Hid (EnvP w0 w1 (ob w.heap.size #[.int .i64 3, .int .i64 n, .string t, .bool ev, .slice ka kl kc] 56 :: dk p st' :: rk q st :: rest)) := ⟨h1⟩
  clear h1 H
  dsimp only
  go_wp2_with fail
  refine (rFlush_env H1.out 2 rfl hp HW.out).mono ?_
  rintro e w2 ⟨rfl, h2⟩
  dsimp only
  go_wp2
  go_ret
  exact ⟨rfl, h2.tail⟩
set_option maxRecDepth 100000 in
theorem plays_fall (h : EnvP w0 w (dk p st :: rk q st :: rest)) (n : Int) (t : ByteArray) (ev : Bool) (ka : Option Addr) (kl kc : Nat) (hn : n ≤ 9223372036854775807) :
    Calls Try.prog 25 #[pt p, pt q, .agg #[.int .i64 4, .int .i64 n, .string t, .bool ev, .slice ka kl kc]] w fun e w' => e = .returned (.bool true) ∧ EnvP w0 w' (dk p (st.fallTo n) :: rk q (st.fallTo n) :: rest) := by
  have E1 := (h.alloc #[.int .i64 4, .int .i64 n, .string t, .bool ev, .slice ka kl kc] 56).front
  have H : Hid (EnvP w0 (w.alloc (.cells #[.int .i64 4, .int .i64 n, .string t, .bool ev, .slice ka kl kc] 56)) (ob w.heap.size #[.int .i64 4, .int .i64 n, .string t, .bool ev, .slice ka kl kc] 56 :: dk p st :: rk q st :: rest)) := ⟨E1⟩
  have HN : Hid (n ≤ 9223372036854775807) := ⟨hn⟩
  clear E1 h hn
  go_enter Try.func25, Try.ntmps25
  go_wp2_with fail
  refine (fall_env H.out 1 rfl n HN.out).mono ?_
  rintro e w1 ⟨rfl, h1⟩
  have c1 : w1.cell? ⟨w.heap.size, 1, none⟩ = some (.int .i64 n) := h1.cell 0 rfl 1
  have H1 : Hid (EnvP w0 w1 (ob w.heap.size #[.int .i64 4, .int .i64 n, .string t, .bool ev, .slice ka kl kc] 56 :: dk p (st.fallTo n) :: rk q st :: rest)) := ⟨h1⟩
  clear h1 H
  dsimp only
  go_wp2_with fail
  refine (rFall_env H1.out 2 rfl n HN.out).mono ?_
  rintro e w2 ⟨rfl, h2⟩
  dsimp only
  go_wp2
  go_ret
  exact ⟨rfl, h2.tail⟩
set_option maxRecDepth 100000 in
theorem plays_on (h : EnvP w0 w (dk p st :: rk q st :: rest)) (n : Int) (t : ByteArray) (ev : Bool) (ka : Option Addr) (kl kc : Nat) (hp : st.pend.length ≤ 9000000000000) :
    Calls Try.prog 25 #[pt p, pt q, .agg #[.int .i64 6, .int .i64 n, .string t, .bool ev, .slice ka kl kc]] w fun e w' => e = .returned (.bool true) ∧ EnvP w0 w' (dk p st.on :: rk q st.on :: rest) := by
  have E1 := (h.alloc #[.int .i64 6, .int .i64 n, .string t, .bool ev, .slice ka kl kc] 56).front
  have H : Hid (EnvP w0 (w.alloc (.cells #[.int .i64 6, .int .i64 n, .string t, .bool ev, .slice ka kl kc] 56)) (ob w.heap.size #[.int .i64 6, .int .i64 n, .string t, .bool ev, .slice ka kl kc] 56 :: dk p st :: rk q st :: rest)) := ⟨E1⟩
  clear E1 h
  go_enter Try.func25, Try.ntmps25
  go_wp2_with fail
  refine (on_env H.out 1 rfl hp).mono ?_
  rintro e w1 ⟨rfl, h1⟩
  have H1 : Hid (EnvP w0 w1 (ob w.heap.size #[.int .i64 6, .int .i64 n, .string t, .bool ev, .slice ka kl kc] 56 :: dk p st.on :: rk q st :: rest)) := ⟨h1⟩
  clear h1 H
  dsimp only
  go_wp2_with fail
  refine (rOn_env H1.out 2 rfl hp).mono ?_
  rintro e w2 ⟨rfl, h2⟩
  dsimp only
  go_wp2
  go_ret
  exact ⟨rfl, h2.tail⟩
set_option maxRecDepth 100000 in
theorem plays_none (h : EnvP w0 w (dk p st :: rk q st :: rest)) (kd n : Int) (t : ByteArray) (ev : Bool) (ka : Option Addr) (kl kc : Nat) (h1 : kd ≠ 1) (h2 : kd ≠ 2) (h3 : kd ≠ 3) (h4 : kd ≠ 4) (h5 : kd ≠ 5) (h6 : kd ≠ 6) :
    Calls Try.prog 25 #[pt p, pt q, .agg #[.int .i64 kd, .int .i64 n, .string t, .bool ev, .slice ka kl kc]] w fun e w' => e = .returned (.bool true) ∧ EnvP w0 w' (dk p st :: rk q st :: rest) := by
  have E1 := (h.alloc #[.int .i64 kd, .int .i64 n, .string t, .bool ev, .slice ka kl kc] 56).front
  have H : Hid (EnvP w0 (w.alloc (.cells #[.int .i64 kd, .int .i64 n, .string t, .bool ev, .slice ka kl kc] 56)) (ob w.heap.size #[.int .i64 kd, .int .i64 n, .string t, .bool ev, .slice ka kl kc] 56 :: dk p st :: rk q st :: rest)) := ⟨E1⟩
  have e1 : (kd == 1) = false := beq_eq_false_iff_ne.2 h1
  have e2 : (kd == 2) = false := beq_eq_false_iff_ne.2 h2
  have e3 : (kd == 3) = false := beq_eq_false_iff_ne.2 h3
  have e4 : (kd == 4) = false := beq_eq_false_iff_ne.2 h4
  have e5 : (kd == 5) = false := beq_eq_false_iff_ne.2 h5
  have e6 : (kd == 6) = false := beq_eq_false_iff_ne.2 h6
  clear E1 h h1 h2 h3 h4 h5 h6
  go_enter Try.func25, Try.ntmps25
  go_wp2
  go_ret
  exact ⟨rfl, H.out.tail⟩
end
end Go.Proofs.Ytmfjhdjphnogiaa
