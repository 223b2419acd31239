/- redo, begin and Open. -/
import Derived.Test.YtghdgddpdamhcaaGreatHld
namespace Go.Proofs.YtghdgddpdamhcaaGreat
set_option linter.unusedVariables false
set_option linter.unusedSimpArgs false
open Go.RowKit
theorem flush_pend (st : St) : st.flush.1.pend.length ≤ st.pend.length := by
  unfold St.flush
  repeat' split
  all_goals simp [St.went_pend]
theorem layR_pend : ∀ (l : Wl) (st : St), (layR st l).1.pend.length ≤ st.pend.length + l.length
  | [], st => by simpa [layR] using flush_pend st
  | p :: r, st => by
    have h1 := write_pend st p.1 p.2
    rw [layR]
    split
    · have := layR_pend r (st.write p.1 p.2).1
      simp; omega
    · simp; omega
theorem good_right {n s : Nat} {l : Wl} (g : Good n s l) {m : Nat} (hm : m = n - s) : rightB m (ints l) = true := by
  subst hm
  unfold rightB
  rw [decide_eq_true_iff]
  refine ⟨fun p hp => ?_, ?_⟩
  · obtain ⟨x, hx, rfl⟩ := List.mem_map.1 hp
    have := g.num x hx
    exact ⟨by simp [okN]; omega, this.2⟩
  · have e : (ints l).map Prod.fst = (l.map Prod.fst).map (fun n : Nat => (n : Int)) := by simp [ints]
    rw [e]
    exact List.Pairwise.map _ (fun a b h e => h (by omega)) g.nd
theorem Arg.last (rest : List (Th → Prop)) (g n c : Nat) (l : Il) : Arg (rest ++ [rowW (rw_ g n c) l]) (some ⟨g, 0, none⟩) l := .inr ⟨rest.length, rowW (rw_ g n c) l, by simp, shows_all g n c l⟩
variable {w0 w : World} {Ls rest : List (Th → Prop)} {q p s : Nat} {d : Bool} {st : St}
set_option maxRecDepth 100000 in
theorem redo_env (h : EnvP w0 w (lg q p s d :: dk p st :: rest)) (ho : st.off = false) (hp : st.pend = []) (hs : s < st.safe.length) (l : Wl) (hl0 : l ≠ []) (g : Good st.safe.length s l) (hla : Laid NN st.seen l) {c : Nat} (hc : c = l.length) :
    Calls Tryz.prog 81 #[pt q, .int .i64 (c : Int)] w fun e w' => e = .returned (.int .i64 (finR NN st s l).2) ∧ EnvP w0 w' (lg q p s d :: dk p (finR NN st s l).1 :: rest) := by
  subst hc
  have wf := h.wf 1 rfl
  have hhi := wf.hi
  have hpl : st.pend.length = 0 := by rw [hp]; rfl
  have g1 := g.len
  have g2 := g.le
  have g3 : 1 ≤ l.length := List.length_pos_iff.2 hl0
  have qH := held_env h ho l g3 g2 (by omega) hla (fun x hx => by have := (g.num x hx).1; omega) (fun x hx => (g.num x hx).2) rfl
  have qR : Hid (∀ (y : Nat) (w5 : World), EnvP w0 w5 (lg q p s d :: dk p st :: (rest ++ [rowW (rw_ y l.length l.length) (ints l)])) → Calls Tryz.prog 75 #[pt q, rw_ y l.length l.length] w5 fun e w' => e = .returned (.bool true) ∧ Below w5.heap.size w5 w') := ⟨fun y w5 h5 => by
    have := right_env h5 (by omega) (some ⟨y, 0, none⟩) l.length (ints l) (n := l.length) (ints_length l).symm (Arg.last rest y _ _ _) (by rw [ints_length]; omega) rfl
    rw [good_right g rfl] at this
    exact this⟩
  have qF : Hid (∀ (y : Nat) (w5 : World), EnvP w0 w5 (lg q p s d :: dk p st :: (rest ++ [rowW (rw_ y l.length l.length) (ints l)])) → Calls Tryz.prog 103 #[pt q, rw_ y l.length l.length] w5 fun e w' => e = .returned (.int .i64 (finR NN st s l).2) ∧ EnvP w0 w' (lg q p s d :: dk p (finR NN st s l).1 :: (rest ++ [rowW (rw_ y l.length l.length) (ints l)]))) := ⟨fun y w5 h5 => 
    finish_env h5 (by omega) (some ⟨y, 0, none⟩) l.length l (Arg.last rest y _ _ _) (fun x hx => by have := (g.num x hx).1; omega) (by omega) (by omega) (by have := layR_pend (shift s l) st; rw [shift_length] at this; omega) rfl⟩
  have HP : Hid (∀ (y : Nat) (w5 : World), w5.ownsRow 0 95 2 (rw_ y l.length l.length) l.length (wcs l) → Below w.heap.size w w5 → w.heap.size ≤ y → EnvP w0 w5 (lg q p s d :: dk p st :: (rest ++ [rowW (rw_ y l.length l.length) (ints l)]))) := ⟨fun y w5 o b hg => h.pushW (l := ints l) b (by rw [wci_ints, ints_length]; exact o) (fun k hk => by cases hk; exact hg)⟩
  generalize finR NN st s l = F at *
  clear h wf g hla hp
  go_enter Tryz.func81, Tryz.ntmps81
  go_wp2_with fail
  refine qH.mono ?_
  rintro e w1 ⟨y, rfl, o1, b1, hy⟩
  have E1 := HP.out y w1 o1 b1 hy
  clear o1 b1 hy
  dsimp only
  go_wp2_with fail
  refine (qR.out y w1 E1).mono ?_
  rintro e w2 ⟨rfl, b2⟩
  have E2 := E1.below b2
  dsimp only
  go_wp2_with fail
  refine (qF.out y w2 E2).mono ?_
  rintro e w3 ⟨rfl, h3⟩
  dsimp only
  go_wp2
  go_ret
  exact ⟨rfl, EnvP.init (Ls := lg q p s d :: dk p F.1 :: rest) h3⟩
/-- what is read of the first sector -/
theorem read0 (ho : st.off = false) (wf : st.WF) {t : ByteArray} (ht : st.seen[0]? = some t) : st.read 0 = (t, 0) := by
  have := wf.lo
  have h1 : st.has 0 = true := by simp [St.has]; omega
  unfold St.read
  rw [ho, h1]
  simp only [Bool.false_eq_true, if_false, if_true]
  congr 1
  rw [List.getD_eq_getElem?_getD]
  show (st.seen[(0 : Nat)]?).getD _ = t
  rw [ht]; rfl
theorem rep_any (w : World) : Calls Tryz.prog 52 #[.string ⟨#[0]⟩, .int .i64 512] w fun e w' => e = .returned (.string (fl 0)) ∧ Below w.heap.size w w' := by
  have hz : (⟨(Lib.repeatL (⟨#[0]⟩ : ByteArray).data.toList 512).toArray⟩ : ByteArray) = fl 0 := by
    show (⟨(Lib.repeatL [(0 : UInt8)] 512).toArray⟩ : ByteArray) = _
    rw [repeat_fl]; rfl
  have := Tryz.strings_Repeat ⟨#[0]⟩ 512 w (by decide) (by decide)
  rw [hz] at this
  exact this
set_option maxRecDepth 100000 in
theorem begin_zero (h : EnvP w0 w (lg q p s d :: dk p st :: rest)) (ho : st.off = false) (hp : st.pend.length ≤ 1000) (hs : s < 8192) (ht : st.seen[0]? = some (fl 0)) :
    Calls Tryz.prog 50 #[pt q] w fun e w' => e = .returned (.int .i64 (layR st [(0, NN.hd s 0)]).2) ∧ EnvP w0 w' (lg q p s d :: dk p (layR st [(0, NN.hd s 0)]).1 :: rest) := by
  have qR := read_bel h 1 rfl 0 (read0 ho (h.wf 1 rfl) ht)
  have c0 := (lgc h).1
  have qP := rep_any
  have H : Hid (EnvP w0 w (lg q p s d :: dk p st :: rest)) := ⟨h⟩
  have qS : Hid (∀ (w5 : World), EnvP w0 w5 (lg q p s d :: dk p st :: rest) → Calls Tryz.prog 79 #[pt q] w5 fun e w' => e = .returned (.int .i64 (layR st [(0, NN.hd s 0)]).2) ∧ EnvP w0 w' (lg q p s d :: dk p (layR st [(0, NN.hd s 0)]).1 :: rest)) := ⟨fun w5 h5 => rest_env h5 (by omega) (by omega)⟩
  generalize layR st [(0, NN.hd s 0)] = R at *
  have hbe : ((fl 0).toList == (fl 0).toList) = true := by rw [ba_dec]; simp
  generalize fl 0 = Z at *
  clear h
  go_enter Tryz.func50, Tryz.ntmps50
  go_wp2_with fail
  refine qR.mono ?_
  rintro e w1 ⟨rfl, b1⟩
  dsimp only
  go_wp2_with fail
  refine (qP _).mono ?_
  rintro e w2 ⟨rfl, b2⟩
  dsimp only
  go_wp2_with fail
  refine (qS.out _ ((H.out.below b1).below b2)).mono ?_
  rintro e w3 ⟨rfl, h3⟩
  dsimp only
  go_wp2
  go_ret
  exact ⟨rfl, h3⟩
set_option maxRecDepth 100000 in
theorem begin_torn (h : EnvP w0 w (lg q p s d :: dk p st :: rest)) (ho : st.off = false) (t : ByteArray) (ht : st.seen[0]? = some t) (hz : t ≠ fl 0) (hn : NN.hd (numAt t 11) (numAt t 13) ≠ t) :
    Calls Tryz.prog 50 #[pt q] w fun e w' => e = .returned (.int .i64 42) ∧ EnvP w0 w' (lg q p s d :: dk p st :: rest) := by
  have wf := h.wf 1 rfl
  have qR := read_bel h 1 rfl 0 (read0 ho wf ht)
  have h512 : t.size = 512 := wf.seen t (List.mem_of_getElem? ht)
  have c0 := (lgc h).1
  have qP := rep_any
  have qH := headOf_any t h512
  rw [decide_eq_false hn] at qH
  have H : Hid (EnvP w0 w (lg q p s d :: dk p st :: rest)) := ⟨h⟩
  have hbe : (t.toList == (fl 0).toList) = false := by rw [ba_dec, decide_eq_false hz]
  generalize fl 0 = Z at *
  generalize numAt t 11 = a at *
  generalize numAt t 13 = b at *
  clear h wf hn hz
  go_enter Tryz.func50, Tryz.ntmps50
  go_wp2_with fail
  refine qR.mono ?_
  rintro e w1 ⟨rfl, b1⟩
  dsimp only
  go_wp2_with fail
  refine (qP _).mono ?_
  rintro e w2 ⟨rfl, b2⟩
  dsimp only
  go_wp2_with fail
  refine (qH _).mono ?_
  rintro e w3 ⟨rfl, b3⟩
  dsimp only
  go_wp2
  go_ret
  exact ⟨rfl, (((H.out.below b1).below b2).below b3).drop _⟩
/-- a first sector that says a size and a count -/
theorem head_of (a c : Nat) (ha : a < 65536) (hc : c < 65536) (w : World) : Calls Tryz.prog 80 #[.string (NN.hd a c)] w fun e w' => e = .returned (.tuple #[.agg #[.int .i64 (a : Int), .int .i64 (c : Int)], .bool true]) ∧ Below w.heap.size w w' := by
  have := headOf_any (NN.hd a c) (hd_size a c) w
  rw [hd_num1 a c ha, hd_num2 a c hc] at this
  simpa using this
set_option maxRecDepth 100000 in
theorem begin_size (h : EnvP w0 w (lg q p s d :: dk p st :: rest)) (ho : st.off = false) (a c : Nat) (ha : a < 65536) (hc : c < 65536) (ht : st.seen[0]? = some (NN.hd a c)) (hne : a ≠ s) :
    Calls Tryz.prog 50 #[pt q] w fun e w' => e = .returned (.int .i64 1) ∧ EnvP w0 w' (lg q p s d :: dk p st :: rest) := by
  have wf := h.wf 1 rfl
  have qR := read_bel h 1 rfl 0 (read0 ho wf ht)
  have c0 := (lgc h).1
  have qP := rep_any
  have qH := head_of a c ha hc
  have H : Hid (EnvP w0 w (lg q p s d :: dk p st :: rest)) := ⟨h⟩
  have hbe : ((NN.hd a c).toList == (fl 0).toList) = false := by rw [ba_dec, decide_eq_false (hd_ne_fl a c 0 (by decide))]
  generalize fl 0 = Z at *
  generalize NN.hd a c = t at *
  have hne' : ¬ ((a : Int) = (s : Int)) := by omega
  clear h wf hne
  go_enter Tryz.func50, Tryz.ntmps50
  go_wp2_with fail
  refine qR.mono ?_
  rintro e w1 ⟨rfl, b1⟩
  dsimp only
  go_wp2_with fail
  refine (qP _).mono ?_
  rintro e w2 ⟨rfl, b2⟩
  dsimp only
  go_wp2_with fail
  refine (qH _).mono ?_
  rintro e w3 ⟨rfl, b3⟩
  have E3 : Hid (EnvP w0 w3 (lg q p s d :: dk p st :: rest)) := ⟨((H.out.below b1).below b2).below b3⟩
  have E4 : Hid (EnvP w0 (w3.alloc (.cells #[.int .i64 (a : Int), .int .i64 (c : Int)] 117)) (lg q p s d :: dk p st :: rest)) := ⟨E3.out.drop _⟩
  have c41 := (lgc E4.out).2.1
  have d40 : (w3.alloc (.cells #[.int .i64 (a : Int), .int .i64 (c : Int)] 117)).cell? ⟨w3.heap.size, 0, none⟩ = some (.int .i64 (a : Int)) := cell_of_row _ _ 0 _ _ (0, 0) (heap_alloc_new w3 _)
  clear b1 b2 b3 E3
  dsimp only
  go_wp2_with fail
  generalize w3.alloc (.cells #[.int .i64 (a : Int), .int .i64 (c : Int)] 117) = W at *
  go_quiet (fail)
  go_wp2
  go_ret
  exact ⟨rfl, E4.out.drewN _⟩
set_option maxRecDepth 100000 in
theorem begin_rest (h : EnvP w0 w (lg q p s d :: dk p st :: rest)) (ho : st.off = false) (hp : st.pend = []) (hs : s < 65536) (ht : st.seen[0]? = some (NN.hd s 0)) :
    Calls Tryz.prog 50 #[pt q] w fun e w' => e = .returned (.int .i64 0) ∧ EnvP w0 w' (lg q p s d :: dk p st :: rest) := by
  have wf := h.wf 1 rfl
  have qR := read_bel h 1 rfl 0 (read0 ho wf ht)
  have c0 := (lgc h).1
  have qP := rep_any
  have qH := head_of s 0 hs (by decide)
  have H : Hid (EnvP w0 w (lg q p s d :: dk p st :: rest)) := ⟨h⟩
  have hbe : ((NN.hd s 0).toList == (fl 0).toList) = false := by rw [ba_dec, decide_eq_false (hd_ne_fl s 0 0 (by decide))]
  have qN : Hid (∀ w5, EnvP w0 w5 (lg q p s d :: dk p st :: rest) → Calls Tryz.prog 82 #[pt p] w5 fun e w' => e = .returned (.int .i64 0) ∧ w' = w5) := ⟨fun w5 h5 => pending_env h5 1 rfl (by rw [hp]; rfl)⟩
  generalize fl 0 = Z at *
  generalize NN.hd s 0 = t at *
  clear h wf
  go_enter Tryz.func50, Tryz.ntmps50
  go_wp2_with fail
  refine qR.mono ?_
  rintro e w1 ⟨rfl, b1⟩
  dsimp only
  go_wp2_with fail
  refine (qP _).mono ?_
  rintro e w2 ⟨rfl, b2⟩
  dsimp only
  go_wp2_with fail
  refine (qH _).mono ?_
  rintro e w3 ⟨rfl, b3⟩
  have E3 : Hid (EnvP w0 w3 (lg q p s d :: dk p st :: rest)) := ⟨((H.out.below b1).below b2).below b3⟩
  have E4 : Hid (EnvP w0 (w3.alloc (.cells #[.int .i64 (s : Int), .int .i64 0] 117)) (lg q p s d :: dk p st :: rest)) := ⟨E3.out.drop _⟩
  have c41 := (lgc E4.out).2.1
  have c40 := (lgc E4.out).1
  have d40 : (w3.alloc (.cells #[.int .i64 (s : Int), .int .i64 0] 117)).cell? ⟨w3.heap.size, 0, none⟩ = some (.int .i64 (s : Int)) := cell_of_row _ _ 0 _ _ (0, 0) (heap_alloc_new w3 _)
  have d41 : (w3.alloc (.cells #[.int .i64 (s : Int), .int .i64 0] 117)).cell? ⟨w3.heap.size, 1, none⟩ = some (.int .i64 0) := cell_of_row _ _ 1 _ _ (0, 0) (heap_alloc_new w3 _)
  clear b1 b2 b3 E3
  dsimp only
  go_wp2_with fail
  have e0 : w3.alloc (.cells #[.int .i64 (s : Int), .int .i64 ((0 : Nat) : Int)] 117) = w3.alloc (.cells #[.int .i64 (s : Int), .int .i64 0] 117) := rfl
  first | rw [e0] | skip
  clear e0
  generalize w3.alloc (.cells #[.int .i64 (s : Int), .int .i64 0] 117) = W at *
  go_quiet (fail)
  go_wp2_with fail
  refine (qN.out _ (E4.out.drewN _)).mono ?_
  rintro e w5 ⟨rfl, rfl⟩
  dsimp only
  go_wp2
  go_ret
  exact ⟨rfl, E4.out.drewN _⟩
set_option maxRecDepth 100000 in
theorem begin_redo (h : EnvP w0 w (lg q p s d :: dk p st :: rest)) (ho : st.off = false) (hp : st.pend = []) (hs : s < st.safe.length) (l : Wl) (hl0 : l ≠ []) (g : Good st.safe.length s l) (hla : Laid NN st.seen l) (ht : st.seen[0]? = some (NN.hd s l.length)) :
    Calls Tryz.prog 50 #[pt q] w fun e w' => e = .returned (.int .i64 (finR NN st s l).2) ∧ EnvP w0 w' (lg q p s d :: dk p (finR NN st s l).1 :: rest) := by
  have wf := h.wf 1 rfl
  have hhi := wf.hi
  have g2 := g.le
  have g3 : 1 ≤ l.length := List.length_pos_iff.2 hl0
  have qR := read_bel h 1 rfl 0 (read0 ho wf ht)
  have c0 := (lgc h).1
  have qP := rep_any
  have qH := head_of s l.length (by omega) (by omega)
  have H : Hid (EnvP w0 w (lg q p s d :: dk p st :: rest)) := ⟨h⟩
  have hbe : ((NN.hd s l.length).toList == (fl 0).toList) = false := by rw [ba_dec, decide_eq_false (hd_ne_fl s _ 0 (by decide))]
  have qD : Hid (∀ w5, EnvP w0 w5 (lg q p s d :: dk p st :: rest) → Calls Tryz.prog 81 #[pt q, .int .i64 (l.length : Int)] w5 fun e w' => e = .returned (.int .i64 (finR NN st s l).2) ∧ EnvP w0 w' (lg q p s d :: dk p (finR NN st s l).1 :: rest)) := ⟨fun w5 h5 => redo_env h5 ho hp hs l hl0 g hla rfl⟩
  generalize fl 0 = Z at *
  generalize NN.hd s l.length = t at *
  generalize finR NN st s l = F at *
  generalize l.length = c at *
  have hc0 : (0 : Int) < (c : Int) := by omega
  clear h wf g hla
  go_enter Tryz.func50, Tryz.ntmps50
  go_wp2_with fail
  refine qR.mono ?_
  rintro e w1 ⟨rfl, b1⟩
  dsimp only
  go_wp2_with fail
  refine (qP _).mono ?_
  rintro e w2 ⟨rfl, b2⟩
  dsimp only
  go_wp2_with fail
  refine (qH _).mono ?_
  rintro e w3 ⟨rfl, b3⟩
  have E3 : Hid (EnvP w0 w3 (lg q p s d :: dk p st :: rest)) := ⟨((H.out.below b1).below b2).below b3⟩
  have E4 : Hid (EnvP w0 (w3.alloc (.cells #[.int .i64 (s : Int), .int .i64 (c : Int)] 117)) (lg q p s d :: dk p st :: rest)) := ⟨E3.out.drop _⟩
  have c41 := (lgc E4.out).2.1
  have d40 : (w3.alloc (.cells #[.int .i64 (s : Int), .int .i64 (c : Int)] 117)).cell? ⟨w3.heap.size, 0, none⟩ = some (.int .i64 (s : Int)) := cell_of_row _ _ 0 _ _ (0, 0) (heap_alloc_new w3 _)
  have d41 : (w3.alloc (.cells #[.int .i64 (s : Int), .int .i64 (c : Int)] 117)).cell? ⟨w3.heap.size, 1, none⟩ = some (.int .i64 (c : Int)) := cell_of_row _ _ 1 _ _ (0, 0) (heap_alloc_new w3 _)
  clear b1 b2 b3 E3
  dsimp only
  go_wp2_with fail
  generalize w3.alloc (.cells #[.int .i64 (s : Int), .int .i64 (c : Int)] 117) = W at *
  go_quiet (fail)
  go_wp2_with fail
  refine (qD.out _ (E4.out.drewN _)).mono ?_
  rintro e w5 ⟨rfl, h5⟩
  dsimp only
  go_wp2
  go_ret
  exact ⟨rfl, h5⟩
end Go.Proofs.YtghdgddpdamhcaaGreat
