/- first: the chapter's examples. -/
import Derived.Test.YtahdndmmakdamaaSam
namespace Go.Proofs.Ytahdndmmakdamaa
set_option linter.unusedVariables false
set_option linter.unusedSimpArgs false
open Go.RowKit
attribute [local go_sem ↓] Go.wp_at_zero Go.wp_at_succ
theorem sl_new {w : World} (l : List En) (h : l.length ≤ 1000) : Sl (w.alloc (.cells (pcells l).toArray 34)) (some ⟨w.heap.size, 0, none⟩) l.length l := by
  have hg : (w.alloc (.cells (pcells l).toArray 34)).heap[w.heap.size]? = some (.cells (pcells l).toArray 34 (0, 0)) := heap_alloc_new _ _
  refine ⟨⟨fun k p hk => ?_⟩, Nat.le_refl _, by omega, fun q => by cases q⟩
  obtain ⟨c0, c1⟩ := pcells_get hk
  refine ⟨w.heap.size, 0, rfl, by simp, ?_, ?_⟩
  · rw [Nat.zero_add, cell_of_row _ _ _ _ _ _ hg]; simpa using c0
  · rw [Nat.zero_add, cell_of_row _ _ _ _ _ _ hg]; simpa using c1
theorem prb_t {p : En} (h : smN p.key 16 = true) (h2 : p.val.length ≤ 64) : prb p = true := by unfold prb; rw [h, decide_eq_true h2]; rfl
def exL : List En := [⟨[116], [120]⟩]
def exV : Vs := ⟨[107], 258, false, [97, 98], exL⟩
def exM : Vs := ⟨[107], 1, true, [], []⟩
def exZ : Vs := ⟨[107], 0, false, [], []⟩
theorem keyE_ok {s : List UInt8} (h : 1 ≤ s.length ∧ s.length ≤ 32) : keyE s = 0 := by unfold keyE; rw [if_pos h]
theorem datE_ok {s : List UInt8} (h : s.length ≤ 1024) : datE s = 0 := by unfold datE; rw [if_pos h]
theorem rtE_ok {key : List UInt8} {seq : Int} {mk : Bool} {data : List UInt8} {l : List En} (h1 : 1 ≤ seq ∧ seq ≤ 1099511627776) (h2 : 1 ≤ key.length ∧ key.length ≤ 32) (h3 : data.length ≤ 1024) (h4 : mk = true → data = [] ∧ l = []) (h5 : mtE l = 0) : rtE ⟨key, seq, mk, data, l⟩ = 0 := by
  unfold rtE vrE
  rw [if_neg (by simp only; omega), if_neg (by rw [keyE_ok h2]; simp), if_neg (by
    rw [datE_ok h3]
    rintro (⟨a, b⟩ | b)
    · exact b (h4 a).1
    · exact b rfl), if_neg (by
    rintro ⟨a, b⟩
    simp only at a b
    rw [(h4 a).2] at b
    simp at b)]
  exact h5
theorem mtE_nil : mtE [] = 0 := by
  unfold mtE
  rw [if_pos ⟨by simp, ⟨fun p hp => absurd hp (List.not_mem_nil), List.Pairwise.nil⟩⟩]
theorem mtE_exL : mtE exL = 0 := by
  unfold mtE
  rw [if_pos]
  refine ⟨by decide, ?_, List.pairwise_singleton _ _⟩
  intro p hp
  simp only [exL, List.mem_cons, List.not_mem_nil, or_false] at hp
  subst hp
  exact prb_t (by decide) (by decide)
theorem ex_rt : rtE exV = 0 := rtE_ok (by omega) (by simp) (by simp) (by simp) mtE_exL
theorem exM_rt : rtE exM = 0 := rtE_ok (by omega) (by simp) (by simp) (by simp) mtE_nil
theorem exZ_rt : rtE exZ = 1 := by unfold rtE; rw [if_pos (.inl (by decide))]
theorem ex_enc : enc exV = [0, 0, 0, 0, 0, 0, 0, 1, 2, 1, 107, 0, 2, 97, 98, 1, 1, 116, 1, 120] := by decide
theorem exM_enc : enc exM = [1, 0, 0, 0, 0, 0, 0, 0, 1, 1, 107] := by decide
theorem rdV_nil : rdV [] = none := rdV_none fun v hv h => by
  have := (enc_len (rt_of hv)).1
  rw [h] at this
  simp at this
theorem example_any (w : World) : Calls Try.prog 20 #[] w fun e w' => ∃ g, e = .returned (vv [107] 258 false [97, 98] (some ⟨g, 0, none⟩) 1 1) ∧ PIn w' (some ⟨g, 0, none⟩) exL ∧ Below w.heap.size w w' := by
  go_enter Try.func20, Try.ntmps20
  go_wp2_with fail
  have sL : Sl ((w.alloc (.cells #[.string ⟨#[107]⟩, .int .i64 258, .bool false, .string ⟨#[97, 98]⟩, .slice (some ⟨w.heap.size + 1, 0, none⟩) 1 1] 24)).alloc (.cells #[.string ⟨#[116]⟩, .string ⟨#[120]⟩] 34)) (some ⟨w.heap.size + 1, 0, none⟩) 1 exL := by
    have := sl_new (w := w.alloc (.cells #[.string ⟨#[107]⟩, .int .i64 258, .bool false, .string ⟨#[97, 98]⟩, .slice (some ⟨w.heap.size + 1, 0, none⟩) 1 1] 24)) exL (by decide)
    rw [World.size_alloc] at this
    exact this
  refine bodyPost_ret (v := vv [107] 258 false [97, 98] (some ⟨w.heap.size + 1, 0, none⟩) 1 1) ?_ rfl ⟨w.heap.size + 1, rfl, sL.at', ((Below.refl w.heap.size w).alloc (Nat.le_refl _) _).alloc (by simp) _⟩
  rw [results_cell1 rfl]
  go_simp
set_option maxHeartbeats 4000000 in
theorem first_any (w : World) : Calls Try.prog 9 #[] w fun e w' => e = .returned (.bool true) ∧ Below w.heap.size w w' := by
  have hw1 : ∀ w g, PIn w (some ⟨g, 0, none⟩) exL → Calls Try.prog 8 #[vv [107] 258 false [97, 98] (some ⟨g, 0, none⟩) 1 1] w fun e w' => e = .returned (.tuple #[str [0, 0, 0, 0, 0, 0, 0, 1, 2, 1, 107, 0, 2, 97, 98, 1, 1, 116, 1, 120], .int .i64 0]) ∧ Below w.heap.size w w' := fun w g h => by
    have := write_any exV w (some ⟨g, 0, none⟩) 1 1 rfl h (by decide)
    rw [wro_ok ex_rt, ex_enc] at this
    exact this
  have hr1 : ∀ w, Calls Try.prog 10 #[str [0, 0, 0, 0, 0, 0, 0, 1, 2, 1, 107, 0, 2, 97, 98, 1, 1, 116, 1, 120]] w fun e w' => ∃ a cap, e = .returned (.tuple #[vv [107] 258 false [97, 98] a 1 cap, .int .i64 0]) ∧ PIn w' a exL ∧ Below w.heap.size w w' := fun w => by
    have := read_any [0, 0, 0, 0, 0, 0, 0, 1, 2, 1, 107, 0, 2, 97, 98, 1, 1, 116, 1, 120] w (by decide)
    have e : rdV [0, 0, 0, 0, 0, 0, 0, 1, 2, 1, 107, 0, 2, 97, 98, 1, 1, 116, 1, 120] = some exV := by rw [← ex_enc]; exact rdV_enc ex_rt
    rw [e] at this
    refine this.mono ?_
    rintro e w' ⟨hB, a, n, cap, he, hn, ho⟩
    have hn' : n = 1 := hn.symm
    subst hn'
    exact ⟨a, cap, he, ho.asSl.at', hB⟩
  have hw2 : ∀ w, Calls Try.prog 8 #[vv [107] 1 true [] none 0 0] w fun e w' => e = .returned (.tuple #[str [1, 0, 0, 0, 0, 0, 0, 0, 1, 1, 107], .int .i64 0]) ∧ Below w.heap.size w w' := fun w => by
    have := write_any exM w none 0 0 rfl ⟨fun k p hk => by simp [exM] at hk⟩ (by decide)
    rw [wro_ok exM_rt, exM_enc] at this
    exact this
  have hr2 : ∀ w, Calls Try.prog 10 #[str []] w fun e w' => e = .returned (.tuple #[vv [] 0 false [] none 0 0, .int .i64 4]) ∧ Below w.heap.size w w' := fun w => by
    have := read_any [] w (by simp)
    rw [rdV_nil] at this
    refine this.mono ?_
    rintro e w' ⟨hB, he⟩
    exact ⟨he, hB⟩
  have hw3 : ∀ w, Calls Try.prog 8 #[vv [107] 0 false [] none 0 0] w fun e w' => e = .returned (.tuple #[str [], .int .i64 1]) ∧ Below w.heap.size w w' := fun w => by
    have := write_any exZ w none 0 0 rfl ⟨fun k p hk => by simp [exZ] at hk⟩ (by decide)
    rw [wro_no (by rw [exZ_rt]; decide), exZ_rt] at this
    exact this
  have hsm : ∀ w a cap g, PIn w a exL → PIn w (some ⟨g, 0, none⟩) exL → Calls Try.prog 11 #[vv [107] 258 false [97, 98] a 1 cap, vv [107] 258 false [97, 98] (some ⟨g, 0, none⟩) 1 1] w fun e w' => e = .returned (.bool true) ∧ Below w.heap.size w w' := fun w a cap g h1 h2 => by
    have := same_any exV exV w a 1 cap rfl h1 (by decide) (some ⟨g, 0, none⟩) 1 1 rfl h2 (by decide)
    rw [sv_true rfl] at this
    exact this
  go_enter Try.func9, Try.ntmps9
  go_wp2_with fail
  with_reducible refine Calls.mono (example_any _) ?_
  rintro e w1 ⟨g1, rfl, p1, b1⟩
  dsimp only
  go_wp2_with fail
  with_reducible refine Calls.mono (hw1 _ _ p1) ?_
  rintro e w2 ⟨rfl, b2⟩
  dsimp only
  have B2 := below_seq b1 b2
  clear hw1 p1 b1 b2
  go_wp2_with fail
  with_reducible refine Calls.mono (hr1 _) ?_
  rintro e w3 ⟨a3, c3, rfl, p3, b3⟩
  dsimp only
  have B3 := below_seq B2 b3
  have v3 := Bv.new w3 (str [107]) (.int .i64 258) (.bool false) (str [97, 98]) (.slice a3 1 c3)
  have ba := (Below.refl w3.heap.size w3).alloc (Nat.le_refl _) (.cells #[str [107], .int .i64 258, .bool false, str [97, 98], .slice a3 1 c3] 24)
  have p4 := p3.later ba
  have B4 := B3.trans (ba.mono B3.size)
  clear hr1 b3 B2 B3 ba p3
  go_wp2_with fail
  generalize hW4 : w3.alloc (.cells #[str [107], .int .i64 258, .bool false, str [97, 98], .slice a3 1 c3] 24) = W4 at *
  generalize w3.heap.size = gv at *
  with_reducible refine Calls.mono (hw2 _) ?_
  rintro e w5 ⟨rfl, b5⟩
  dsimp only
  have v5 := v3.later b5
  have p5 := p4.later b5
  have B5 := below_seq B4 b5
  clear hw2 v3 p4 B4 b5 hW4
  go_wp2_with fail
  with_reducible refine Calls.mono (hr2 _) ?_
  rintro e w6 ⟨rfl, b6⟩
  dsimp only
  have bz := (Below.refl w6.heap.size w6).alloc (Nat.le_refl _) (.cells #[.string ⟨#[]⟩, .int .i64 0, .bool false, .string ⟨#[]⟩, .slice none 0 0] 24)
  have b6z := below_seq b6 bz
  have v6 := v5.later b6z
  have p6 := p5.later b6z
  have B6 := below_seq B5 b6z
  clear hr2 v5 p5 B5 b6 b6z bz
  go_wp2_with fail
  generalize w6.alloc (.cells #[.string ⟨#[]⟩, .int .i64 0, .bool false, .string ⟨#[]⟩, .slice none 0 0] 24) = W6 at *
  with_reducible refine Calls.mono (hw3 _) ?_
  rintro e w7 ⟨rfl, b7⟩
  dsimp only
  have v7 := v6.later b7
  have p7 := p6.later b7
  have B7 := below_seq B6 b7
  clear hw3 v6 p6 B6 b7
  have XC : Hid (∀ w', Below w7.heap.size w7 w' → Below w7.heap.size w7 w' ∧ w'.cell? ⟨gv, 0, none⟩ = some (str [107]) ∧ w'.cell? ⟨gv, 1, none⟩ = some (.int .i64 258) ∧ w'.cell? ⟨gv, 2, none⟩ = some (.bool false) ∧ w'.cell? ⟨gv, 3, none⟩ = some (str [97, 98]) ∧ w'.cell? ⟨gv, 4, none⟩ = some (.slice a3 1 c3)) := ⟨fun w' h => by
    obtain ⟨x0, x1, x2, x3, x4, _⟩ := (v7.later h).cells
    exact ⟨h, x0, x1, x2, x3, x4⟩⟩
  have hex := fun w => example_any w
  have P7 := Hid.mk p7
  clear v7 p7
  go_wp2_with fail
  go_region_held3 (fun w' => Below w7.heap.size w7 w' ∧ w'.cell? ⟨gv, 0, none⟩ = some (str [107]) ∧ w'.cell? ⟨gv, 1, none⟩ = some (.int .i64 258) ∧ w'.cell? ⟨gv, 2, none⟩ = some (.bool false) ∧ w'.cell? ⟨gv, 3, none⟩ = some (str [97, 98]) ∧ w'.cell? ⟨gv, 4, none⟩ = some (.slice a3 1 c3)) (first
    | exact XC.out _ (Below.refl _ _).drew
    | exact XC.out _ (below_seq (And.left (by assumption)) b8)
    | exact XC.out _ (below_seq (And.left (by assumption)) b9)) (first
    | (go_at_call 20; with_reducible refine Calls.mono (hex _) ?_; rintro e w8 ⟨g8, rfl, q8, b8⟩)
    | (go_at_call 11; with_reducible refine Calls.mono (hsm _ _ _ _ (P7.out.later (And.left (by assumption))) q8) ?_; rintro e w9 ⟨rfl, b9⟩))
  have hb9 : Below w7.heap.size w7 w9 := And.left (by assumption)
  clear XC
  go_wp2_with fail
  go_ret
  exact ⟨rfl, below_seq B7 hb9⟩
end Go.Proofs.Ytahdndmmakdamaa
