/- A log beside its disk; a list of writes that is handed in; lay. -/
import Derived.Test.YtghdgddpdamhcaaGreatEnv
import Derived.Test.YtghdgddpdamhcaaGreatHdo
import Derived.Test.YtghdgddpdamhcaaGreatLMath
namespace Go.Proofs.YtghdgddpdamhcaaGreat
set_option linter.unusedVariables false
set_option linter.unusedSimpArgs false
open Go.RowKit
abbrev Il := List (Int × ByteArray)
def ints (l : Wl) : Il := l.map fun p => ((p.1 : Int), p.2)
theorem ints_length (l : Wl) : (ints l).length = l.length := by simp [ints]
theorem ints_at (l : Wl) (k : Nat) (p : Nat × ByteArray) (h : l[k]? = some p) : (ints l)[k]? = some ((p.1 : Int), p.2) := by simp [ints, h]
/-- a slice's writes lie at a -/
def WIn (w : World) (a : Option Addr) (l : Il) : Prop := ∀ (k : Nat) z, l[k]? = some z → ∃ b off, a = some ⟨b, off, none⟩ ∧ w.cell? ⟨b, off + k * 2, none⟩ = some (.int .i64 z.1) ∧ w.cell? ⟨b, off + k * 2 + 1, none⟩ = some (.string z.2)
def Shows (s : Th → Prop) (a : Option Addr) (l : Il) : Prop := ∀ t w, s t → t.at' w → WIn w a l
def Arg (rest : List (Th → Prop)) (a : Option Addr) (l : Il) : Prop := l = [] ∨ ∃ (k : Nat) (s : Th → Prop), rest[k]? = some s ∧ Shows s a l
/-- a log -/
abbrev lg (q p s : Nat) (d : Bool) : Th → Prop := ob q #[pt p, .int .i64 (s : Int), .bool d] 70
section
variable {w0 w : World} {rest : List (Th → Prop)} {x y : Th → Prop} {a : Option Addr} {l : Il}
theorem Arg.win (h : Arg rest a l) (e : EnvP w0 w (x :: y :: rest)) : WIn w a l := by
  rcases h with rfl | ⟨k, s, hk, hs⟩
  · intro k z hz; simp at hz
  · obtain ⟨t, ht, ha, _⟩ := e.get (k + 2) s (by simpa using hk)
    exact hs t w ht ha
theorem Arg.cons (h : Arg rest a l) : Arg (x :: rest) a l := by
  rcases h with rfl | ⟨k, s, hk, hs⟩
  · exact .inl rfl
  · exact .inr ⟨k + 1, s, by simpa using hk, hs⟩
theorem lgc {q p s : Nat} {d : Bool} (e : EnvP w0 w (lg q p s d :: rest)) : w.cell? ⟨q, 0, none⟩ = some (pt p) ∧ w.cell? ⟨q, 1, none⟩ = some (.int .i64 (s : Int)) ∧ w.cell? ⟨q, 2, none⟩ = some (.bool d) := ⟨e.cell 0 rfl 0, e.cell 0 rfl 1, e.cell 0 rfl 2⟩
theorem lgc1 {q p s : Nat} {d : Bool} (e : EnvP w0 w (x :: lg q p s d :: rest)) : w.cell? ⟨q, 0, none⟩ = some (pt p) ∧ w.cell? ⟨q, 1, none⟩ = some (.int .i64 (s : Int)) ∧ w.cell? ⟨q, 2, none⟩ = some (.bool d) := ⟨e.cell 1 rfl 0, e.cell 1 rfl 1, e.cell 1 rfl 2⟩
theorem boxW {B q p s : Nat} {d : Bool} {v0 v1 : Value} (h : EnvP w0 w (ob B #[v0, v1] 95 :: lg q p s d :: rest)) : w.cell? ⟨q, 0, none⟩ = some (pt p) ∧ w.cell? ⟨B, 0, none⟩ = some v0 ∧ w.cell? ⟨B, 1, none⟩ = some v1 := ⟨h.cell 1 rfl 0, h.cell 0 rfl 0, h.cell 0 rfl 1⟩
end
theorem write_pend (st : St) (n : Int) (t : ByteArray) : (st.write n t).1.pend.length ≤ st.pend.length + 1 := by
  unfold St.write
  repeat' split
  all_goals simp [St.went_pend]
set_option maxRecDepth 100000 in
theorem lay_env {w0 w : World} {rest : List (Th → Prop)} {q p s : Nat} {d : Bool} {st : St} (h : EnvP w0 w (lg q p s d :: dk p st :: rest)) (f : Nat) {f' : Int} (hf : f' = (f : Int)) (a : Option Addr) (cap : Nat) (l : Wl) {n : Nat} (hn : n = l.length) (ha : Arg rest a (ints l)) (hb : ∀ x ∈ l, f + x.1 < 1000000) (hp : st.pend.length + l.length ≤ 1000000) :
    Calls Tryz.prog 100 #[pt q, .int .i64 f', .slice a n cap] w fun e w' => e = .returned (.int .i64 (layR st (shift f l)).2) ∧ EnvP w0 w' (lg q p s d :: dk p (layR st (shift f l)).1 :: rest) := by
  subst hf hn
  have H : Hid (EnvP w0 w (lg q p s d :: dk p st :: rest)) := ⟨h⟩
  have HA : Hid (Arg rest a (ints l)) := ⟨ha⟩
  have HB : Hid (∀ x ∈ l, f + x.1 < 1000000) := ⟨hb⟩
  have hll : l.length ≤ 1000000 := by omega
  obtain ⟨R, hR⟩ : ∃ R, layR st (shift f l) = R := ⟨_, rfl⟩
  have HR : Hid (layR st (shift f l) = R) := ⟨hR⟩
  rw [hR]
  clear h ha hb hR
  go_enter Tryz.func100, Tryz.ntmps100
  go_wp2_with fail
  go_loopw [12] (fun i wr => ∃ (k : Nat) (st' : St), k ≤ l.length ∧ i = .int .i64 (k : Int) ∧ Hid (EnvP w0 wr (lg q p s d :: dk p st' :: rest)) ∧ Hid (layR st' (shift f (l.drop k)) = R) ∧ Hid (st'.pend.length ≤ st.pend.length + k)) (fun i _ => l.length - (intOf i).toNat)
  case atStart => exact ⟨0, st, Nat.zero_le _, rfl, H, HR, ⟨Nat.le_refl _⟩⟩
  case round =>
    obtain ⟨k, st', hk, rfl, E, ER, EP⟩ := hrel
    clear H
    by_cases hlt : k < l.length
    · obtain ⟨⟨N, T⟩, hz⟩ : ∃ z, l[k]? = some z := ⟨_, List.getElem?_eq_getElem hlt⟩
      obtain ⟨b, off, rfl, cN, cT⟩ := HA.out.win E.out k _ (ints_at l k _ hz)
      simp only at cN cT
      have hN := HB.out _ (List.mem_of_getElem? hz)
      simp only at hN
      have hi : (k : Int) < l.length := by omega
      have hw1 : wrap64 ((k : Int) + 1) = ((k + 1 : Nat) : Int) := by unfold wrap64; omega
      have hw2 : IntKind.i64.wrap ((f : Int) + (N : Int)) = (f : Int) + (N : Int) := by rw [IntKind.wrap_i64]; omega
      have hdrop : l.drop k = (N, T) :: l.drop (k + 1) := by
        rw [List.drop_eq_getElem_cons hlt]
        congr 1
        exact Option.some.inj ((List.getElem?_eq_getElem hlt).symm.trans hz)
      have ES : Hid (layR st' ((f + N, T) :: shift f (l.drop (k + 1))) = R) := ⟨by have := ER.out; rw [hdrop] at this; exact this⟩
      have E5 : Hid (EnvP w0 (wr.alloc (.cells #[.int .i64 (N : Int), .string T] 95)) (ob wr.heap.size #[.int .i64 (N : Int), .string T] 95 :: lg q p s d :: dk p st' :: rest)) := ⟨(E.out.alloc _ _).front⟩
      obtain ⟨⟨st2, er⟩, hwr⟩ : ∃ x, st'.write ((f + N : Nat) : Int) T = x := ⟨_, rfl⟩
      have EW : Hid (st'.write ((f + N : Nat) : Int) T = (st2, er)) := ⟨hwr⟩
      have qW : Hid (∀ {w5 : World}, EnvP w0 w5 (ob wr.heap.size #[.int .i64 (N : Int), .string T] 95 :: lg q p s d :: dk p st' :: rest) → Calls Tryz.prog 125 #[pt p, .int .i64 ((f : Int) + (N : Int)), .string T] w5 fun e w' => e = .returned (.int .i64 er) ∧ EnvP w0 w' (ob wr.heap.size #[.int .i64 (N : Int), .string T] 95 :: lg q p s d :: dk p st2 :: rest)) := ⟨fun h5 => by
        have := write_env h5 2 rfl ((f + N : Nat) : Int) T (by have := EP.out; omega) hwr
        simpa using this⟩
      have EP2 : Hid (st2.pend.length ≤ st.pend.length + (k + 1)) := ⟨by have h1 := write_pend st' ((f + N : Nat) : Int) T; rw [hwr] at h1; have := EP.out; simp at h1; omega⟩
      clear hz hdrop ER hwr EP
      go_wp2_with fail
      have E7 := E5.out.drew
      clear E5 E
      go_region_held3 (fun w' => w'.cell? ⟨q, 0, none⟩ = some (pt p) ∧ w'.cell? ⟨wr.heap.size, 0, none⟩ = some (.int .i64 (N : Int)) ∧ w'.cell? ⟨wr.heap.size, 1, none⟩ = some (.string T)) (first | exact boxW E7 | exact boxW h6 | assumption)
        ((go_at_call 125; refine (qW.out (by assumption)).mono ?_; rintro e w6 ⟨rfl, h6⟩))
      have E8 : Hid (EnvP w0 w6 (lg q p s d :: dk p st2 :: rest)) := ⟨h6.tail⟩
      clear h6 E7
      by_cases h0 : er = 0
      · subst h0
        go_wp2
        go_roundw
        case rel => exact ⟨k + 1, st2, by omega, by go_num, E8, ⟨by have := ES.out; rw [layR, EW.out, if_pos rfl] at this; exact this⟩, EP2⟩
        case measure => simp [intOf]; omega
      · go_wp2
        go_ret
        have e1 : (st2, er) = R := by have := ES.out; rw [layR, EW.out, if_neg h0] at this; exact this
        subst e1
        exact ⟨rfl, E8.out⟩
    · have hke : k = l.length := by omega
      subst hke
      have e1 : st'.flush = R := by have := ER.out; rw [List.drop_length] at this; exact this
      obtain ⟨c0, c1, c2⟩ := lgc E.out
      have hi : ¬ ((l.length : Int) < l.length) := by omega
      have EF : Hid (st'.flush = R) := ⟨e1⟩
      clear e1 ER c1 c2
      go_wp2_with fail
      refine (flush_env E.out 1 rfl (by have := EP.out; omega) (st' := R.1) (r := R.2) EF.out).mono ?_
      rintro e w5 ⟨rfl, h5⟩
      dsimp only
      go_wp2
      go_ret
      exact ⟨rfl, h5⟩
end Go.Proofs.YtghdgddpdamhcaaGreat
