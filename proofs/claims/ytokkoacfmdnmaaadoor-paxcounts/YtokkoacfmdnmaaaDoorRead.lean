/- Read. -/
import Derived.Test.YtokkoacfmdnmaaaDoorFirst
namespace Go.Proofs.YtokkoacfmdnmaaaDoor
set_option linter.unusedVariables false
set_option linter.unusedSimpArgs false
open Go.RowKit
/-- What Read answers of a text at a place. -/
structure RdAt (l : List UInt8) (p : Int) (k v : List UInt8) (n er : Int) : Prop where
  arg : (p < 0 ∨ (l.length : Int) < p) → k = [] ∧ v = [] ∧ n = 0 ∧ er = 1
  none : p = (l.length : Int) → k = [] ∧ v = [] ∧ n = 0 ∧ er = 5
  at' : 0 ≤ p → p < (l.length : Int) → (er = 0 ∧ Rd (l.drop p.toNat) k v ∧ n = p + (LEN (nn k v) : Nat)) ∨ (er = 4 ∧ k = [] ∧ v = [] ∧ n = 0 ∧ ∀ x y, ¬ Rd (l.drop p.toNat) x y)
def ReadPost (l : List UInt8) (p : Int) (w : World) (e : Ending) (w' : World) : Prop :=
  ∃ (k v : ByteArray) (n er : Int), e = .returned (.tuple #[.string k, .string v, .int .i64 n, .int .i64 er]) ∧ RdAt l p k.data.toList v.data.toList n er ∧ Below w.heap.size w w'
theorem results_tmp4 {fn : Func} {t u v x : Tmp} (h : fn.results = #[.tmp t, .tmp u, .tmp v, .tmp x]) (tmps : Array Value) (P : Program) (w : World) :
    (results fn tmps).run P w = .ok (.tuple #[tmps.getD t undef, tmps.getD u undef, tmps.getD v undef, tmps.getD x undef]) w := by
  simp [results, h]
theorem clone_any (s : ByteArray) (w : World) (hlim : s.size ≤ 281474976710656) :
    Calls Tryd.prog 17 #[.string s] w fun e w' => e = .returned (.string s) ∧ Below w.heap.size w w' := by
  go_enter Tryd.func17, Tryd.ntmps17
  go_wp2_with (go_at_call 30; refine (Tryd.stringslite_Clone s _ hlim).mono ?_; rintro e w' ⟨rfl, hb⟩)
  go_ret
  exact ⟨rfl, hb⟩
attribute [local go_sem ↓] Go.wp_at_zero Go.wp_at_succ
attribute [local go_sem ↓] sl9 ix9
theorem run_slL (s : ByteArray) (i : Nat) (h2 : i ≤ s.size) (w : World) : (slS (.string s) (some (.int .i64 (i : Int))) none none).run Tryd.prog w = .ok (.string (s.extract i s.size)) w := by
  unfold slS
  rw [run_slice_string_l (P := Tryd.prog) w 9 s Tryd.underlying9 .i64 i (by omega) (by omega)]
  rfl
set_option maxHeartbeats 1000000 in
theorem read_any (s : ByteArray) (p : Int) (hs : s.size ≤ 4611686018427387904) (hp : p ≤ 9223372036854775807) (w : World) (hT : TB w) :
    Calls Tryd.prog 9 #[.string s, .int .i64 p] w (ReadPost s.data.toList p w) := by
  obtain ⟨l, hl⟩ : ∃ l, l = s.data.toList := ⟨_, rfl⟩
  have hlen := getD_of hl
  have hxd : ∀ o, (s.extract o s.size).data.toList = l.drop o := fun o => by rw [hl]; exact ext_drop s o
  have hsl := run_slL s
  rw [← hl]
  clear hl
  go_enter Tryd.func9, Tryd.ntmps9
  by_cases h1 : p < 0
  · have d1 : decide (p < 0) = true := decide_eq_true h1
    go_wp2_with fail
    refine bodyPost_ret (results_tmp4 rfl _ _ _) rfl ?_
    exact ⟨_, _, _, _, rfl, ⟨fun _ => ⟨rfl, rfl, rfl, rfl⟩, fun h => by omega, fun h => by omega⟩, Below.refl _ _⟩
  · have d1 : decide (p < 0) = false := decide_eq_false h1
    by_cases h2 : (s.size : Int) < p
    · have d2 : decide ((s.size : Int) < p) = true := decide_eq_true h2
      go_wp2_with fail
      refine bodyPost_ret (results_tmp4 rfl _ _ _) rfl ?_
      exact ⟨_, _, _, _, rfl, ⟨fun _ => ⟨rfl, rfl, rfl, rfl⟩, fun h => by omega, fun h => by omega⟩, Below.refl _ _⟩
    · have d2 : decide ((s.size : Int) < p) = false := decide_eq_false h2
      obtain ⟨o, rfl⟩ : ∃ o : Nat, p = (o : Int) := ⟨p.toNat, by omega⟩
      by_cases h3 : o = s.size
      · have d3 : ((o : Int) == (s.size : Int)) = true := by rw [h3]; exact beq_self_eq_true _
        have H3 : Hid (o = s.size) := ⟨h3⟩
        clear h3
        go_wp2_with fail
        refine bodyPost_ret (results_tmp4 rfl _ _ _) rfl ?_
        have := H3.out
        exact ⟨_, _, _, _, rfl, ⟨fun h => by omega, fun h => ⟨rfl, rfl, rfl, rfl⟩, fun _ h => by omega⟩, Below.refl _ _⟩
      · have d3 : ((o : Int) == (s.size : Int)) = false := beq_eq_false_iff_ne.2 (by omega)
        have hsl1 := hsl o (by omega)
        have hq0 : 0 < (s.extract o s.size).size := by rw [ByteArray.size_extract]; omega
        have hq1 : (s.extract o s.size).size ≤ 4611686018427387904 := by rw [ByteArray.size_extract]; omega
        have hf := fun w ht => first_any (s.extract o s.size) hq0 hq1 w ht
        rw [hxd o] at hf
        generalize s.extract o s.size = q at *
        clear hsl
        go_wp2_with fail
        refine (hf _ hT).mono ?_
        rintro e w1 ⟨k, v, n, er, rfl, hR, hb⟩
        dsimp only
        rcases hR with ⟨rfl, hR, hn⟩ | ⟨rfl, hno⟩
        · have hk : k.size + v.size ≤ 1048576 := by
            have h4 := hR.small
            have h5 := LEN_pos (nn k.data.toList v.data.toList)
            rw [nn_size] at h4 h5
            omega
          have HR : Hid (Rd (l.drop o) k.data.toList v.data.toList ∧ n = (LEN (nn k.data.toList v.data.toList) : Nat)) := ⟨hR, hn⟩
          have hn2 : 0 ≤ n ∧ n ≤ 1048576 := by rw [hn]; have := hR.small; omega
          clear hR hn
          have hck := fun w => clone_any k w (by omega)
          have hcv := fun w => clone_any v w (by omega)
          have hsum : 0 ≤ (o : Int) + n ∧ (o : Int) + n ≤ 9223372036854775807 := by omega
          go_wp2_with fail
          refine (hck _).mono ?_
          rintro e w2 ⟨rfl, hb2⟩
          dsimp only
          go_wp2_with fail
          refine (hcv _).mono ?_
          rintro e w3 ⟨rfl, hb3⟩
          dsimp only
          go_wp2_with fail
          refine bodyPost_ret (results_tmp4 rfl _ _ _) rfl ?_
          exact ⟨_, _, _, _, rfl, ⟨fun h => by omega, fun h => by omega, fun _ _ => Or.inl ⟨rfl, HR.out.1, by rw [HR.out.2]⟩⟩, below_seq (below_seq hb hb2) hb3⟩
        · go_wp2_with fail
          refine bodyPost_ret (results_tmp4 rfl _ _ _) rfl ?_
          exact ⟨_, _, _, _, rfl, ⟨fun h => by omega, fun h => by omega, fun _ _ => Or.inr ⟨rfl, rfl, rfl, rfl, hno⟩⟩, hb⟩
end Go.Proofs.YtokkoacfmdnmaaaDoor
