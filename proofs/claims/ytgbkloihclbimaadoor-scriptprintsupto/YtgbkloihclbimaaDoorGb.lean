import Derived.Test.YtgbkloihclbimaaDoorYc
import Derived.Test.YtgbkloihclbimaaDoorYe
/- Layer 22: lists of commands of one's own, a mark behind each one's rows (written out of Wo). -/
namespace Go.Proofs.YtgbkloihclbimaaDoor
set_option maxRecDepth 100000
set_option linter.unusedVariables false
set_option linter.unusedSimpArgs false
open Go.RowKit
abbrev mkE : En := ⟨[109, 97, 114, 107], []⟩
abbrev Cr.mw (r : Cr) : Value := .slice r.ma (r.c.st.mt.length + 1) r.mc
abbrev Cr.kw (r : Cr) : Value := .slice r.ka (r.c.st.kept.length + 1) r.kc
structure RowsG (B : Nat) (w : World) (c : Cm) (ma : Option Addr) (mc : Nat) (ka : Option Addr) (kc : Nat) : Prop where
  ow : w.ownsRow B 38 2 (.slice ma (c.st.mt.length + 1) mc) (c.st.mt.length + 1) (pcells (c.st.mt ++ [mkE]))
  oi : w.ownsRow B 3 1 (.slice ka (c.st.kept.length + 1) kc) (c.st.kept.length + 1) (ivs (c.st.kept ++ [-77]))
/-- a list of commands of one's own, each with rows of its own -/
structure Fg (base : Nat) (w : World) (v : Value) (R : List Cr) : Prop where
  own : w.ownsRow base 36 12 v R.length (rcl R)
  le : base ≤ w.heap.size
  ow : ∀ r ∈ R, w.ownsRow base 38 2 r.mw (r.c.st.mt.length + 1) (pcells (r.c.st.mt ++ [mkE]))
  oi : ∀ r ∈ R, w.ownsRow base 3 1 r.kw (r.c.st.kept.length + 1) (ivs (r.c.st.kept ++ [-77]))
  pm : ∀ (j k : Nat) (r s : Cr), ¬ j = k → R[j]? = some r → R[k]? = some s → ∀ b, r.mw.ownBlock = some b → s.mw.ownBlock ≠ some b
  pk : ∀ (j k : Nat) (r s : Cr), ¬ j = k → R[j]? = some r → R[k]? = some s → ∀ b, r.kw.ownBlock = some b → s.kw.ownBlock ≠ some b
def Bkg (v : Value) (R : List Cr) (b : Nat) : Prop := v.ownBlock = some b ∨ ∃ r ∈ R, r.mw.ownBlock = some b ∨ r.kw.ownBlock = some b
theorem Fg.nil (base : Nat) (w : World) (h : base ≤ w.heap.size) : Fg base w (.slice none 0 0) [] := ⟨World.ownsRow_nil _ _ _ _, h, fun r q => (by cases q), fun r q => (by cases q), fun j k r s _ q => (by simp at q), fun j k r s _ q => (by simp at q)⟩
theorem Fg.lt {base : Nat} {w : World} {v : Value} {R : List Cr} (h : Fg base w v R) {b : Nat} (hb : Bkg v R b) : base ≤ b ∧ b < w.heap.size := by
  rcases hb with q | ⟨r, hr, q | q⟩
  · exact h.own.lt b q
  · exact (h.ow r hr).lt b q
  · exact (h.oi r hr).lt b q
theorem Fg.same {base : Nat} {w w' : World} {v : Value} {R : List Cr} (h : Fg base w v R) (hs : w.heap.size ≤ w'.heap.size) (hb : ∀ b, Bkg v R b → w'.heap[b]? = w.heap[b]?) : Fg base w' v R :=
  ⟨own_same h.own (fun g hg => hb g (.inl hg)), Nat.le_trans h.le hs, fun r hr => own_same (h.ow r hr) (fun g hg => hb g (.inr ⟨r, hr, .inl hg⟩)), fun r hr => own_same (h.oi r hr) (fun g hg => hb g (.inr ⟨r, hr, .inr hg⟩)), h.pm, h.pk⟩
theorem Fg.oth {base : Nat} {w w' : World} {v : Value} {R : List Cr} {X : Bs} (h : Fg base w v R) (ho : Oth X w w') (hx : ∀ b, X b → ¬ Bkg v R b) : Fg base w' v R := h.same ho.size (fun b hb => ho.block b (h.lt hb).2 (fun q => hx b q hb))
theorem Fg.later {base : Nat} {w w' : World} {v : Value} {R : List Cr} (h : Fg base w v R) (hb : Below w.heap.size w w') : Fg base w' v R := h.oth (X := fun _ => False) (Oth.of_below hb) (fun _ q => q.elim)
/-- one command more -/
theorem run_cg {base : Nat} {w1 : World} {v : Value} {R : List Cr} (r : Cr) (hO : Fg base w1 v R) (hn : R.length ≤ 879609302210) {B : Nat} (hB : base ≤ B) (hr : RowsG B w1 r.c r.ma r.mc r.ka r.kc) (hlt : ∀ b, Bkg v R b → b < B) :
    ∃ va vc w', (∀ ty, (Builtin.append_ #[23, 23] ty #[v, .slice (some ⟨w1.heap.size, 0, none⟩) 1 1]).run Tryd.prog (w1.alloc (.cells (ccs r.c r.ma r.mc r.ka r.kc) 36)) = .ok (.slice va (R.length + 1) vc) w') ∧ Fg base w' (.slice va (R.length + 1) vc) (R ++ [r]) ∧ Below base w1 w' ∧ (∀ b, b < w1.heap.size → v.ownBlock ≠ some b → w'.heap[b]? = w1.heap[b]?) ∧ (∀ b, (Value.slice va (R.length + 1) vc).ownBlock = some b → v.ownBlock = some b ∨ w1.heap.size ≤ b) ∧ w1.heap.size ≤ w'.heap.size := by
  obtain ⟨i0, z0, hi0, hz0, hzs, hz1, hz2⟩ := infoCx
  have hm : maxLen = 9223372036854775807 := rfl
  have o1 := hO.own.alloc (.cells (ccs r.c r.ma r.mc r.ka r.kc) 36)
  have hle := hO.le
  obtain ⟨g, cap, w', hr', hown, hgrow, hat, hgl⟩ := run_append_lies (P := Tryd.prog) (w := w1.alloc (.cells (ccs r.c r.ma r.mc r.ka r.kc) 36)) 23 36 base 36 i0 z0 12 160 Tryd.underlying23 hi0 hz0 hz1 hz2 hzs (by omega) v R.length (rcl R) o1 ⟨w1.heap.size, 0, none⟩ 1 1 (ccl r) rfl
      (World.news_of_block (cs := ccs r.c r.ma r.mc r.ka r.kc) (t := 36) (fr := (0, 0)) (heap_alloc_new w1 _)) (ccl_one r) (by omega) (by rw [hm]; omega) (by omega) (by simp; omega) (w1.heap.size + 1) (by simp)
  have hk : ∀ b, b < w1.heap.size → v.ownBlock ≠ some b → w'.heap[b]? = w1.heap[b]? := fun b hb hne => by rw [hgrow.block b (by simp; omega) (Ne.symm hne)]; exact heap_alloc_old _ _ _ hb
  have hsz : w1.heap.size ≤ w'.heap.size := by have := hgrow.size; simp at this; omega
  have keepM : ∀ (x : Value) (n s : Nat) (xs : List Value) (t : TypeId) (b0 : Nat), t ≠ 36 → w1.ownsRow b0 t s x n xs → w'.ownsRow b0 t s x n xs := fun x n s xs t b0 ht h => own_same h fun k hk2 => hk k (h.lt k hk2).2 (fun q => by
    obtain ⟨c1, e1⟩ := own_type h hk2
    obtain ⟨c2, e2⟩ := own_type hO.own q
    rw [e1] at e2
    injection e2 with e2
    injection e2 with _ e3 _
    exact ht e3)
  refine ⟨some ⟨g, 0, none⟩, cap, w', fun ty => hr', ⟨?_, by omega, ?_, ?_, ?_, ?_⟩, ((Below.refl _ _).alloc hle _).trans (grown_below o1 (by simp; omega) hgrow), hk, ?_, hsz⟩
  · rw [rcl_append, List.length_append]
    exact hown
  · intro x hx
    rcases List.mem_append.1 hx with q | q
    · exact keepM _ _ _ _ _ _ (by decide) (hO.ow x q)
    · rw [List.mem_singleton.1 q]; exact own_base (keepM _ _ _ _ _ _ (by decide) hr.ow) hB
  · intro x hx
    rcases List.mem_append.1 hx with q | q
    · exact keepM _ _ _ _ _ _ (by decide) (hO.oi x q)
    · rw [List.mem_singleton.1 q]; exact own_base (keepM _ _ _ _ _ _ (by decide) hr.oi) hB
  · intro j k x y hjk hj hk2 b hb
    by_cases hj1 : j < R.length
    · rw [List.getElem?_append_left hj1] at hj
      by_cases hk1 : k < R.length
      · rw [List.getElem?_append_left hk1] at hk2
        exact hO.pm j k x y hjk hj hk2 b hb
      · have hkl := (List.getElem?_eq_some_iff.1 hk2).1
        simp at hkl
        obtain rfl : k = R.length := by omega
        rw [List.getElem?_append_right (Nat.le_refl _)] at hk2
        simp at hk2
        subst hk2
        intro q
        have h1 := hlt b (.inr ⟨x, List.mem_of_getElem? hj, .inl hb⟩)
        have h2 := (hr.ow.lt b q).1
        omega
    · have hjl := (List.getElem?_eq_some_iff.1 hj).1
      simp at hjl
      obtain rfl : j = R.length := by omega
      rw [List.getElem?_append_right (Nat.le_refl _)] at hj
      simp at hj
      subst hj
      have hk1 : k < R.length := by
        have hkl := (List.getElem?_eq_some_iff.1 hk2).1
        simp at hkl; omega
      rw [List.getElem?_append_left hk1] at hk2
      intro q
      have h1 := hlt b (.inr ⟨y, List.mem_of_getElem? hk2, .inl q⟩)
      have h2 := (hr.ow.lt b hb).1
      omega
  · intro j k x y hjk hj hk2 b hb
    by_cases hj1 : j < R.length
    · rw [List.getElem?_append_left hj1] at hj
      by_cases hk1 : k < R.length
      · rw [List.getElem?_append_left hk1] at hk2
        exact hO.pk j k x y hjk hj hk2 b hb
      · have hkl := (List.getElem?_eq_some_iff.1 hk2).1
        simp at hkl
        obtain rfl : k = R.length := by omega
        rw [List.getElem?_append_right (Nat.le_refl _)] at hk2
        simp at hk2
        subst hk2
        intro q
        have h1 := hlt b (.inr ⟨x, List.mem_of_getElem? hj, .inr hb⟩)
        have h2 := (hr.oi.lt b q).1
        omega
    · have hjl := (List.getElem?_eq_some_iff.1 hj).1
      simp at hjl
      obtain rfl : j = R.length := by omega
      rw [List.getElem?_append_right (Nat.le_refl _)] at hj
      simp at hj
      subst hj
      have hk1 : k < R.length := by
        have hkl := (List.getElem?_eq_some_iff.1 hk2).1
        simp at hkl; omega
      rw [List.getElem?_append_left hk1] at hk2
      intro q
      have h1 := hlt b (.inr ⟨y, List.mem_of_getElem? hk2, .inr q⟩)
      have h2 := (hr.oi.lt b hb).1
      omega
  · intro b hb
    simp [Value.ownBlock] at hb
    subst hb
    rcases hat with q | q
    · exact .inl q
    · right; omega
end Go.Proofs.YtgbkloihclbimaaDoor

/- Layer 22: given, the document's commands as the program's. -/
namespace Go.Proofs.YtgbkloihclbimaaDoor
set_option maxRecDepth 100000
set_option linter.unusedVariables false
set_option linter.unusedSimpArgs false
open Go.RowKit
attribute [local go_sem ↓] Go.wp_at_zero Go.wp_at_succ
theorem run_isW {M : Nat} {w1 : World} {v : Value} {l : List Int} (n : Int) (hO : w1.ownsRow M 3 1 v l.length (ivs l)) (hle : M ≤ w1.heap.size) (hn : l.length ≤ 17592186043904) :
    ∃ ka kc w', (∀ ty, (Builtin.append_ #[32, 32] ty #[v, .slice (some ⟨w1.heap.size, 0, none⟩) 1 1]).run Tryd.prog (w1.alloc (.cells #[.int .i64 n] 3)) = .ok (.slice ka (l.length + 1) kc) w') ∧ ApQ M 3 1 (l.length + 1) (ivs (l ++ [n])) (.slice ka (l.length + 1) kc) w1 w' := by
  obtain ⟨i0, hi0, hz0, hz1, hz2⟩ := info3
  have hm : maxLen = 9223372036854775807 := rfl
  have o1 := hO.alloc (.cells #[.int .i64 n] 3)
  obtain ⟨v', w', hr, hown, hgrow, _⟩ := run_append_own_wide (P := Tryd.prog) (w := w1.alloc (.cells #[.int .i64 n] 3)) M 32 3 3 i0 _ 1 8 Tryd.underlying32 hi0 hz0 hz1 hz2 rfl (by omega) v l.length (ivs l) o1 ⟨w1.heap.size, 0, none⟩ 1 1 [.int .i64 n] rfl
      (World.news_of_block (cs := #[.int .i64 n]) (t := 3) (fr := (0, 0)) (heap_alloc_new w1 _)) (by simp [Value.oneCell']) (by rw [hm]; omega) (by omega) (by simp; omega)
  have hs : ∃ ka kc, v' = .slice ka (l.length + 1) kc := by
    rcases hown.2 with ⟨e, h0⟩ | ⟨g, cap, cur, e, _⟩
    · omega
    · exact ⟨_, _, e⟩
  obtain ⟨ka, kc, rfl⟩ := hs
  exact ⟨ka, kc, w', fun ty => hr, by unfold ivs at hown ⊢; rw [List.map_append]; exact hown, ((Below.refl _ _).alloc hle _).trans (grown_below o1 (by simp; omega) hgrow), ((Lib.OthersKept.refl 3 none w1).alloc _).grown hgrow (own_row o1)⟩
theorem run_psW {M : Nat} {w1 : World} {v : Value} {l : List En} (p : En) (hO : w1.ownsRow M 38 2 v l.length (pcells l)) (hle : M ≤ w1.heap.size) (hn : l.length ≤ 4398046510976) :
    ∃ ka kc w', (∀ ty, (Builtin.append_ #[31, 31] ty #[v, .slice (some ⟨w1.heap.size, 0, none⟩) 1 1]).run Tryd.prog (w1.alloc (.cells #[str p.key, str p.val] 38)) = .ok (.slice ka (l.length + 1) kc) w') ∧ ApQ M 38 2 (l.length + 1) (pcells (l ++ [p])) (.slice ka (l.length + 1) kc) w1 w' := by
  obtain ⟨i0, hi0, hz0, hz1, hz2⟩ := infoP
  have hm : maxLen = 9223372036854775807 := rfl
  have o1 := hO.alloc (.cells #[str p.key, str p.val] 38)
  obtain ⟨v', w', hr, hown, hgrow, _⟩ := run_append_own_wide (P := Tryd.prog) (w := w1.alloc (.cells #[str p.key, str p.val] 38)) M 31 38 38 i0 _ 2 32 Tryd.underlying31 hi0 hz0 hz1 hz2 rfl (by omega) v l.length (pcells l) o1 ⟨w1.heap.size, 0, none⟩ 1 1 [str p.key, str p.val] rfl
      (World.news_of_block (cs := #[str p.key, str p.val]) (t := 38) (fr := (0, 0)) (heap_alloc_new w1 _)) (by simp [Value.oneCell']) (by rw [hm]; omega) (by omega) (by simp; omega)
  have hs : ∃ ka kc, v' = .slice ka (l.length + 1) kc := by
    rcases hown.2 with ⟨e, h0⟩ | ⟨g, cap, cur, e, _⟩
    · omega
    · exact ⟨_, _, e⟩
  obtain ⟨ka, kc, rfl⟩ := hs
  exact ⟨ka, kc, w', fun ty => hr, by rw [pcells_append]; exact hown, ((Below.refl _ _).alloc hle _).trans (grown_below o1 (by simp; omega) hgrow), ((Lib.OthersKept.refl 38 none w1).alloc _).grown hgrow (own_row o1)⟩
theorem run_nilKW (W : World) (a : Option Addr) (cap : Nat) (l : List Int) (hS : Si W a cap l) (hn : l.length ≤ 17592186043904) :
    ∃ va vc W', (∀ ty, (Builtin.append_ #[32, 32] ty #[.slice none 0 0, .slice a l.length cap]).run Tryd.prog W = .ok (.slice va l.length vc) W') ∧ W'.ownsRow W.heap.size 3 1 (.slice va l.length vc) l.length (ivs l) ∧ Below W.heap.size W W' := by
  obtain ⟨i0, hi0, hz0, hz1, hz2⟩ := info3
  have hm : maxLen = 9223372036854775807 := rfl
  have h0 : W.ownsRow W.heap.size 3 1 (.slice none 0 0) 0 [] := World.ownsRow_nil _ _ _ _
  cases a with
  | none =>
    have hc := hS.nil rfl
    have hl : l = [] := List.eq_nil_of_length_eq_zero (by have := hS.le; omega)
    subst hl hc
    exact ⟨none, 0, W, fun ty => run_append_owned_none (P := Tryd.prog) W W.heap.size 32 ty 3 i0 1 Tryd.underlying32 hi0 _ 0 [] h0, h0, Below.refl _ _⟩
  | some ad =>
    have hcells : ∀ j u, (ivs l)[j]? = some u → W.cell? (ad.add j) = some u := by
      intro j u hj
      unfold ivs at hj
      rw [List.getElem?_map] at hj
      cases hq : l[j]? with
      | none => rw [hq] at hj; cases hj
      | some n =>
        rw [hq] at hj
        injection hj with hj
        obtain ⟨b, off, e, _, hc⟩ := hS.at' j n hq
        injection e with e
        rw [e, addr_add, ← hj]; exact hc
    obtain ⟨v', w', hr, hown, hgrow, _⟩ := run_append_own_wide (P := Tryd.prog) (w := W) W.heap.size 32 32 3 i0 _ 1 8 Tryd.underlying32 hi0 hz0 hz1 hz2 rfl (by omega) (.slice none 0 0) 0 [] h0 ad l.length cap (ivs l) (by rw [ivs_len]; omega) hcells (ivs_one l) (by rw [hm]; omega) (by omega) (Nat.le_refl _)
    rw [Nat.zero_add, List.nil_append] at hown
    have hs : ∃ va vc, v' = .slice va l.length vc := by
      rcases hown.2 with ⟨e, h0⟩ | ⟨g, c, cur, e, _⟩
      · exact ⟨none, 0, by rw [e, h0]⟩
      · exact ⟨_, _, e⟩
    obtain ⟨va, vc, rfl⟩ := hs
    exact ⟨va, vc, w', fun ty => hr, hown, (Below.refl _ _).grown hgrow (Nat.le_refl _) (fun k0 hk0 => by simp [Value.ownBlock] at hk0)⟩
noncomputable def slK (v : Value) (a b c : Option Value) : Sem Value := Instr.slice 32 v a b c
theorem slKe (v : Value) (a b c : Option Value) : Instr.slice 32 v a b c = slK v a b c := rfl
theorem run_slK (a : Option Addr) (len cap n : Nat) (h1 : n ≤ cap) (h3 : cap ≤ 9223372036854775807) (hn : a = none → cap = 0) (w : World) : (slK (.slice a len cap) none (some (.int .i64 (n : Int))) none).run Tryd.prog w = .ok (.slice a n cap) w := by
  unfold slK
  cases a with
  | none =>
    obtain rfl := hn rfl
    obtain rfl : n = 0 := by omega
    simp [Instr.slice, Tryd.underlying32, go_sem]
  | some ad =>
    simp [Instr.slice, Tryd.underlying32, go_sem]
    intro hc
    omega
noncomputable def slC (v : Value) (a b c : Option Value) : Sem Value := Instr.slice 23 v a b c
theorem slCe (v : Value) (a b c : Option Value) : Instr.slice 23 v a b c = slC v a b c := rfl
theorem run_slC (a : Option Addr) (len cap n : Nat) (h1 : n ≤ cap) (h3 : cap ≤ 9223372036854775807) (hn : a = none → cap = 0) (w : World) : (slC (.slice a len cap) none (some (.int .i64 (n : Int))) none).run Tryd.prog w = .ok (.slice a n cap) w := by
  unfold slC
  cases a with
  | none =>
    obtain rfl := hn rfl
    obtain rfl : n = 0 := by omega
    simp [Instr.slice, Tryd.underlying23, go_sem]
  | some ad =>
    simp [Instr.slice, Tryd.underlying23, go_sem]
    intro hc
    omega
theorem run_ldQm {w : World} {b o : Nat} {c : Cm} {ma : Option Addr} {mc : Nat} {ka : Option Addr} {kc : Nat} (h : w.rangeAt b o (scl c ma mc ka kc).toList) : (ldQ (.pointer (some ⟨b, o, none⟩))).run Tryd.prog w = .ok (.agg (scl c ma mc ka kc)) w := by
  unfold ldQ
  exact run_loadAt_mid (P := Tryd.prog) w b o 48 (scl c ma mc ka kc).toList _ h Tryd.underlying48 rfl infoQS
/-- the room of an owned row -/
theorem own_room {base n s : Nat} {w : World} {t : TypeId} {a : Option Addr} {len cap : Nat} {xs : List Value} (h : w.ownsRow base t s (.slice a len cap) n xs) (hn : 0 < n) : len = n ∧ n ≤ cap ∧ cap ≤ 9223372036854775807 ∧ ∃ g, a = some ⟨g, 0, none⟩ := by
  rcases h.2 with ⟨e, h0⟩ | ⟨g, c, cur, e, h1, h2, h3, h4, h5⟩
  · omega
  · injection e with e1 e2 e3
    subst e1 e2 e3
    exact ⟨rfl, h3, h4, g, rfl⟩
/-- what stands behind a step's copy -/
structure TP (wr W : World) (c : Cm) (g : Nat) (ma : Option Addr) (mc : Nat) (ka : Option Addr) (kc : Nat) : Prop where
  bel : Below wr.heap.size wr W
  box : W.heap[g]? = some (.cells (scl c ma mc ka kc) 34 (0, 0))
  rows : RowsG wr.heap.size W c ma mc ka kc
theorem TP.at5 {wr W W' : World} {c : Cm} {g : Nat} {ma : Option Addr} {mc : Nat} {ka : Option Addr} {kc : Nat} (h : TP wr W c g ma mc ka kc) {r : Cr} {b o : Nat} (hr : wr.rangeAt b o (ccl r)) (hlt : b < wr.heap.size) (h1 : W'.heap[b]? = W.heap[b]?) (h2 : W'.heap[g]? = W.heap[g]?) :
    W'.cell? ⟨b, o, none⟩ = some (.int .i64 r.c.kind) ∧ W'.cell? ⟨b, o + 1, none⟩ = some (.int .i64 r.c.sectors) ∧ W'.cell? ⟨b, o + 2, none⟩ = some (.int .i64 r.c.size) ∧ W'.cell? ⟨b, o + 11, none⟩ = some (str r.c.bucket) ∧ (ldP (.pointer (some ⟨g, 0, none⟩))).run Tryd.prog W' = .ok (.agg (scl c ma mc ka kc)) W' := by
  have key : ∀ j v, (ccl r)[j]? = some v → W'.cell? ⟨b, o + j, none⟩ = some v := fun j v hv => by
    have e : W'.cell? ⟨b, o + j, none⟩ = W.cell? ⟨b, o + j, none⟩ := by simp only [World.cell?, h1]
    rw [e, h.bel.cell (p := ⟨b, o + j, none⟩) hlt]; exact hr j v hv
  refine ⟨key 0 _ rfl, key 1 _ rfl, key 2 _ rfl, key 11 _ rfl, run_ldP (fun j v hv => ?_)⟩
  rw [Nat.zero_add, cell_of_row _ _ _ _ _ _ (by rw [h2]; exact h.box), ← Array.getElem?_toList]; exact hv
theorem TP.ne {wr W : World} {c : Cm} {g : Nat} {ma : Option Addr} {mc : Nat} {ka : Option Addr} {kc : Nat} (h : TP wr W c g ma mc ka kc) {base n : Nat} {v : Value} {xs : List Value} (ho : W.ownsRow base 36 12 v n xs) : v.ownBlock ≠ some g := fun q => by
  obtain ⟨c1, e1⟩ := own_type ho q
  rw [h.box] at e1
  injection e1 with e2
  injection e2 with _ e3 _
  exact absurd e3 (by decide)
/-- the rows of a copy, marks behind them -/
theorem given_rows {wr wa : World} (r : Cr) (ba : Below wr.heap.size wr wa) (hsl : Sl wr r.ma r.mc r.c.st.mt) (hsi : Si wr r.ka r.kc r.c.st.kept) (hm1 : r.c.st.mt.length ≤ 4398046510976) (hm2 : r.c.st.kept.length ≤ 17592186043904) :
    ∃ m1a m1c W1 m2a m2c W2 k1a k1c W3 k2a k2c W4,
      (∀ ty, (Builtin.append_ #[31, 31] ty #[.slice none 0 0, .slice r.ma r.c.st.mt.length r.mc]).run Tryd.prog wa = .ok (.slice m1a r.c.st.mt.length m1c) W1) ∧
      (∀ ty, (Builtin.append_ #[31, 31] ty #[.slice m1a r.c.st.mt.length m1c, .slice (some ⟨W1.heap.size, 0, none⟩) 1 1]).run Tryd.prog (W1.alloc (.cells #[.string ⟨#[109, 97, 114, 107]⟩, .string ⟨#[]⟩] 38)) = .ok (.slice m2a (r.c.st.mt.length + 1) m2c) W2) ∧
      (∀ ty, (Builtin.append_ #[32, 32] ty #[.slice none 0 0, .slice r.ka r.c.st.kept.length r.kc]).run Tryd.prog W2 = .ok (.slice k1a r.c.st.kept.length k1c) W3) ∧
      (∀ ty, (Builtin.append_ #[32, 32] ty #[.slice k1a r.c.st.kept.length k1c, .slice (some ⟨W3.heap.size, 0, none⟩) 1 1]).run Tryd.prog (W3.alloc (.cells #[.int .i64 (-77)] 3)) = .ok (.slice k2a (r.c.st.kept.length + 1) k2c) W4) ∧
      Below wa.heap.size wa W2 ∧ Below wa.heap.size wa W4 ∧ RowsG wa.heap.size W4 r.c m2a m2c k2a k2c := by
  obtain ⟨m1a, m1c, W1, hM1, oM1, bM1⟩ := run_nilM wa r.ma r.mc r.c.st.mt (hsl.later ba) (by omega)
  obtain ⟨m2a, m2c, W2, hM2, qM2⟩ := run_psW mkE oM1 bM1.size hm1
  have b2 : Below wa.heap.size wa W2 := bM1.trans qM2.bel
  obtain ⟨k1a, k1c, W3, hK1, oK1, bK1⟩ := run_nilKW W2 r.ka r.kc r.c.st.kept (hsi.later (below_seq ba b2)) hm2
  obtain ⟨k2a, k2c, W4, hK2, qK2⟩ := run_isW (-77) oK1 bK1.size hm2
  have b4 : Below W2.heap.size W2 W4 := bK1.trans qK2.bel
  exact ⟨m1a, m1c, W1, m2a, m2c, W2, k1a, k1c, W3, k2a, k2c, W4, hM1, hM2, hK1, hK2, b2, b2.trans (b4.mono b2.size), own_on qM2.own b4, own_base qK2.own b2.size⟩
abbrev c77 : Cm := ⟨-77, 0, 0, ⟨0, [], [], [], [], 0, 0, []⟩, []⟩
abbrev k77 : Cr := ⟨c77, none, 0, none, 0⟩
/-- what given tells: commands of one's own, marks behind all rows -/
structure Gv (base : Nat) (w : World) (va : Option Addr) (vc : Nat) (R : List Cr) : Prop where
  own : w.ownsRow base 36 12 (.slice va (R.length + 1) vc) (R.length + 1) (rcl R ++ ccl k77)
  le : base ≤ w.heap.size
  ow : ∀ r ∈ R, w.ownsRow base 38 2 r.mw (r.c.st.mt.length + 1) (pcells (r.c.st.mt ++ [mkE]))
  oi : ∀ r ∈ R, w.ownsRow base 3 1 r.kw (r.c.st.kept.length + 1) (ivs (r.c.st.kept ++ [-77]))
  pm : ∀ (j k : Nat) (r s : Cr), ¬ j = k → R[j]? = some r → R[k]? = some s → ∀ b, r.mw.ownBlock = some b → s.mw.ownBlock ≠ some b
  pk : ∀ (j k : Nat) (r s : Cr), ¬ j = k → R[j]? = some r → R[k]? = some s → ∀ b, r.kw.ownBlock = some b → s.kw.ownBlock ≠ some b
theorem run_g77 {base : Nat} {w1 : World} {v : Value} {R : List Cr} (hO : Fg base w1 v R) (hn : R.length ≤ 879609302208) :
    ∃ va vc w', (∀ ty, (Builtin.append_ #[23, 23] ty #[v, .slice (some ⟨w1.heap.size, 0, none⟩) 1 1]).run Tryd.prog (w1.alloc (.cells (ccs c77 none 0 none 0) 36)) = .ok (.slice va (R.length + 1) vc) w') ∧ Gv base w' va vc R ∧ Below base w1 w' := by
  obtain ⟨i0, z0, hi0, hz0, hzs, hz1, hz2⟩ := infoCx
  have hm : maxLen = 9223372036854775807 := rfl
  have o1 := hO.own.alloc (.cells (ccs c77 none 0 none 0) 36)
  have hle := hO.le
  obtain ⟨g, cap, w', hr', hown, hgrow, hat, hgl⟩ := run_append_lies (P := Tryd.prog) (w := w1.alloc (.cells (ccs c77 none 0 none 0) 36)) 23 36 base 36 i0 z0 12 160 Tryd.underlying23 hi0 hz0 hz1 hz2 hzs (by omega) v R.length (rcl R) o1 ⟨w1.heap.size, 0, none⟩ 1 1 (ccl k77) rfl
      (World.news_of_block (cs := ccs c77 none 0 none 0) (t := 36) (fr := (0, 0)) (heap_alloc_new w1 _)) (ccl_one k77) (by omega) (by rw [hm]; omega) (by omega) (by simp; omega) (w1.heap.size + 1) (by simp)
  have hk : ∀ b, b < w1.heap.size → v.ownBlock ≠ some b → w'.heap[b]? = w1.heap[b]? := fun b hb hne => by rw [hgrow.block b (by simp; omega) (Ne.symm hne)]; exact heap_alloc_old _ _ _ hb
  have hsz : w1.heap.size ≤ w'.heap.size := by have := hgrow.size; simp at this; omega
  have keepM : ∀ (x : Value) (n s : Nat) (xs : List Value) (t : TypeId) (b0 : Nat), t ≠ 36 → w1.ownsRow b0 t s x n xs → w'.ownsRow b0 t s x n xs := fun x n s xs t b0 ht h => own_same h fun k hk2 => hk k (h.lt k hk2).2 (fun q => by
    obtain ⟨c1, e1⟩ := own_type h hk2
    obtain ⟨c2, e2⟩ := own_type hO.own q
    rw [e1] at e2
    injection e2 with e2
    injection e2 with _ e3 _
    exact ht e3)
  exact ⟨some ⟨g, 0, none⟩, cap, w', fun ty => hr', ⟨hown, by omega, fun r hr => keepM _ _ _ _ _ _ (by decide) (hO.ow r hr), fun r hr => keepM _ _ _ _ _ _ (by decide) (hO.oi r hr), hO.pm, hO.pk⟩, ((Below.refl _ _).alloc hle _).trans (grown_below o1 (by simp; omega) hgrow)⟩
theorem Gv.range {base : Nat} {w : World} {va : Option Addr} {vc : Nat} {R : List Cr} (h : Gv base w va vc R) {k : Nat} {r : Cr} (hk : R[k]? = some r) : ∃ b, va = some ⟨b, 0, none⟩ ∧ b < w.heap.size ∧ w.rangeAt b (k * 12) (ccl r) := by
  obtain ⟨-, -, -, g, hg⟩ := own_room h.own (Nat.succ_pos _)
  subst hg
  refine ⟨g, rfl, (h.own.lt g rfl).2, fun j v hv => ?_⟩
  have hj : j < 12 := (List.getElem?_eq_some_iff.1 hv).1
  have hl := (List.getElem?_eq_some_iff.1 hk).1
  rw [h.own.cellAt _ (by omega), List.getElem?_append_left (by rw [rcl_len]; omega)]
  exact rcl_get R k r hk j v hv
theorem Gv.cl {base : Nat} {w : World} {va : Option Addr} {vc : Nat} {R : List Cr} (h : Gv base w va vc R) (ok : ∀ r ∈ R, OkT r.c) : CL w w.heap.size va (R.map (·.c)) := fun k c hk => by
  rw [List.getElem?_map] at hk
  cases hq : R[k]? with
  | none => rw [hq] at hk; cases hk
  | some r =>
    rw [hq] at hk
    injection hk with hk
    subst hk
    have hm := List.mem_of_getElem? hq
    obtain ⟨b, e, hlt, hr⟩ := h.range hq
    have o1 := h.ow r hm
    have o2 := h.oi r hm
    have s1 : Sl w r.ma r.mc (r.c.st.mt ++ [mkE]) := sl_own (B := base) h.le (by rw [List.length_append]; exact o1)
    have s2 : Si w r.ka r.kc (r.c.st.kept ++ [-77]) := si_own (B := base) (by rw [List.length_append]; exact o2)
    refine ⟨ok r hm, b, 0, r.ma, r.mc, r.ka, r.kc, e, hlt, by rw [Nat.zero_add]; exact hr, ⟨fun j p hj => ?_, fun j n hj => ?_⟩⟩
    · have hjl := (List.getElem?_eq_some_iff.1 hj).1
      exact s1.at'.get j p (by rw [List.getElem?_append_left hjl]; exact hj)
    · have hjl := (List.getElem?_eq_some_iff.1 hj).1
      exact s2.at' j n (by rw [List.getElem?_append_left hjl]; exact hj)
attribute [local go_sem ↓] ldPe stPe ldQe stQe slPe slKe slCe
attribute [-go_sem] Go.Builtin.append_
set_option maxHeartbeats 4000000 in
theorem given_any (L : List Cr) (la : Option Addr) (lc : Nat) (w : World) (hL : CT w la L) (hn : L.length ≤ 879609302208) (hm : ∀ r ∈ L, r.c.st.mt.length ≤ 4398046510976 ∧ r.c.st.kept.length ≤ 17592186043904) :
    Calls Tryd.prog 5 #[.slice la L.length lc] w fun e w' => ∃ (va : Option Addr) (vc : Nat) (R : List Cr), e = .returned (.slice va L.length vc) ∧ Gv w.heap.size w' va vc R ∧ R.map (·.c) = L.map (·.c) ∧ Below w.heap.size w w' := by
  go_enter Tryd.func5, Tryd.ntmps5
  go_wp2_with fail
  go_loopw [3, 4, 5, 6, 7, 8] (fun v i _ _ _ _ wr => ∃ (k : Nat) (va : Option Addr) (vc : Nat) (R : List Cr), i = .int .i64 k ∧ v = .slice va R.length vc ∧ k ≤ L.length ∧ Hid (Fg w.heap.size wr (.slice va R.length vc) R ∧ R.map (·.c) = (L.take k).map (·.c) ∧ Below w.heap.size w wr)) (fun _ i _ _ _ _ _ => L.length - (intOf i).toNat)
  case atStart => exact ⟨0, none, 0, [], rfl, rfl, Nat.zero_le _, ⟨Fg.nil _ _ (Nat.le_refl _), rfl, Below.refl _ _⟩⟩
  case round =>
    obtain ⟨k, va, vc, R, rfl, rfl, hk, HK⟩ := hrel
    by_cases hlt : k < L.length
    · have d1 : decide ((k : Int) < (L.length : Int)) = true := decide_eq_true (Int.ofNat_lt.2 hlt)
      have k0 : (0 : Int) ≤ (k : Int) := Int.natCast_nonneg k
      have k1 : (k : Int) < (L.length : Int) := Int.ofNat_lt.2 hlt
      obtain ⟨r, hget⟩ : ∃ r, L[k]? = some r := ⟨_, List.getElem?_eq_getElem hlt⟩
      obtain ⟨b, off, ea, hb, hr, hsl, hsi⟩ := (hL.later HK.out.2.2) k r hget
      have hrs := range_step hr
      have hld := run_ldQm hrs
      have hst := run_stQ wr r.c r.ma r.mc r.ka r.kc
      subst ea
      obtain ⟨hm1, hm2⟩ := hm r (List.mem_of_getElem? hget)
      obtain ⟨wa, hwa⟩ : ∃ wa, wr.alloc (.cells (scl r.c r.ma r.mc r.ka r.kc) 48) = wa := ⟨_, rfl⟩
      have ba : Below wr.heap.size wr wa := by rw [← hwa]; exact (Below.refl _ _).alloc (Nat.le_refl _) _
      have ya : wa.heap[wr.heap.size]? = some (.cells (scl r.c r.ma r.mc r.ka r.kc) 48 (0, 0)) := by rw [← hwa]; exact heap_alloc_new _ _
      have hlta := lt_of_block ya
      have XC : ∀ w', Below wa.heap.size wa w' → Below wa.heap.size wa w' ∧ w'.cell? ⟨wr.heap.size, 0, none⟩ = some (.int .i64 r.c.st.kind) ∧ w'.cell? ⟨wr.heap.size, 1, none⟩ = some (str r.c.st.bucket) ∧ w'.cell? ⟨wr.heap.size, 2, none⟩ = some (str r.c.st.key) ∧ w'.cell? ⟨wr.heap.size, 3, none⟩ = some (str r.c.st.data) ∧ w'.cell? ⟨wr.heap.size, 4, none⟩ = some (.slice r.ma r.c.st.mt.length r.mc) ∧ w'.cell? ⟨wr.heap.size, 5, none⟩ = some (.int .i64 r.c.st.seq) ∧ w'.cell? ⟨wr.heap.size, 6, none⟩ = some (.int .i64 r.c.st.n) ∧ w'.cell? ⟨wr.heap.size, 7, none⟩ = some (.slice r.ka r.c.st.kept.length r.kc) := fun w' hb => by
        have y : w'.heap[wr.heap.size]? = some (.cells (scl r.c r.ma r.mc r.ka r.kc) 48 (0, 0)) := by rw [hb.block _ hlta]; exact ya
        refine ⟨hb, ?_, ?_, ?_, ?_, ?_, ?_, ?_, ?_⟩ <;> (rw [cell_of_row _ _ _ _ _ _ y]; rfl)
      obtain ⟨m1a, m1c, W1, m2a, m2c, W2, k1a, k1c, W3, k2a, k2c, W4, hM1, hM2, hK1, hK2, b2, b4, hG⟩ := given_rows r ba hsl hsi hm1 hm2
      have c4 := (XC wa (Below.refl _ _)).2.2.2.2.2.1
      have c7 := (XC W2 b2).2.2.2.2.2.2.2.2
      have XH := Hid.mk XC
      obtain ⟨-, hcm, hcm2, gm, hgm⟩ := own_room hG.ow (Nat.succ_pos _)
      obtain ⟨-, hck, hck2, gk, hgk⟩ := own_room hG.oi (Nat.succ_pos _)
      have sm := run_slP m2a (r.c.st.mt.length + 1) m2c r.c.st.mt.length (by omega) hcm2 (fun q => by rw [hgm] at q; cases q)
      have sk := run_slK k2a (r.c.st.kept.length + 1) k2c r.c.st.kept.length (by omega) hck2 (fun q => by rw [hgk] at q; cases q)
      have hs4 : (stP (.pointer (some ⟨W4.heap.size, 0, none⟩)) (.agg (scl r.c m2a m2c k2a k2c))).run Tryd.prog (W4.alloc (.cells zS 34)).drew = .ok () (W4.alloc (.cells (scl r.c m2a m2c k2a k2c) 34)).drew := run_stP W4.drew r.c m2a m2c k2a k2c
      clear hrs XC hcm hck hgm hgk
      go_wp2_with fail
      clear hst hwa hld hM1 hM2 hK1 hK2 c4 c7
      go_region_held3 (fun w' => Below wa.heap.size wa w' ∧ w'.cell? ⟨wr.heap.size, 0, none⟩ = some (.int .i64 r.c.st.kind) ∧ w'.cell? ⟨wr.heap.size, 1, none⟩ = some (str r.c.st.bucket) ∧ w'.cell? ⟨wr.heap.size, 2, none⟩ = some (str r.c.st.key) ∧ w'.cell? ⟨wr.heap.size, 3, none⟩ = some (str r.c.st.data) ∧ w'.cell? ⟨wr.heap.size, 4, none⟩ = some (.slice r.ma r.c.st.mt.length r.mc) ∧ w'.cell? ⟨wr.heap.size, 5, none⟩ = some (.int .i64 r.c.st.seq) ∧ w'.cell? ⟨wr.heap.size, 6, none⟩ = some (.int .i64 r.c.st.n) ∧ w'.cell? ⟨wr.heap.size, 7, none⟩ = some (.slice r.ka r.c.st.kept.length r.kc)) (first
        | (with_reducible exact XH.out _ b4.drew)
        | (with_reducible exact XH.out _ ((b4.alloc b4.size _).drew))
        | (with_reducible exact XH.out _ (by assumption))
        | (with_reducible exact XH.out _ (Below.alloc (And.left (by assumption)) (Below.size (And.left (by assumption))) _))
        | fail) (fail)
      all_goals
        have T : TP wr (W4.alloc (.cells (scl r.c m2a m2c k2a k2c) 34)).drew r.c W4.heap.size m2a m2c k2a k2c := ⟨below_seq ba ((b4.alloc b4.size _).drew), heap_alloc_new W4 _, ((own_base hG.ow ba.size).alloc _).drew, ((own_base hG.oi ba.size).alloc _).drew⟩
        obtain ⟨hF, hRc, hBr⟩ := HK.out
        have hF1 := hF.later T.bel
        have hq : ∀ b, Bkg (.slice va R.length vc) R b → b < wr.heap.size := fun b q => (hF.lt q).2
        clear XH HK hs4 sm sk hG b2 b4 ya hlta
        generalize (W4.alloc (.cells (scl r.c m2a m2c k2a k2c) 34)).drew = W at T hF1 ⊢
        generalize W4.heap.size = g at T ⊢
        have bD : Below W.heap.size W W.drew := (Below.refl _ _).drew
        have hbase : w.heap.size ≤ wr.heap.size := hBr.size
        have hRk : R.length = k := by have e := congrArg List.length hRc; simp at e; omega
        have hbw : b < w.heap.size := by
          obtain ⟨b', off', e', hlt', -⟩ := hL k r hget
          injection e' with e'
          injection e' with e1 _ _
          rw [e1]; exact hlt'
        have hgl := lt_of_block T.box
        obtain ⟨v2, c2, w2, hQ, hF2, hB2, hk2, -, -⟩ := run_cg (⟨r.c, m2a, m2c, k2a, k2c⟩ : Cr) (hF1.later bD) (by omega) hbase (⟨own_on T.rows.ow bD, own_on T.rows.oi bD⟩ : RowsG wr.heap.size W.drew r.c m2a m2c k2a k2c) hq
        have HX : Hid (Fg w.heap.size w2 (.slice v2 (R.length + 1) c2) (R ++ [⟨r.c, m2a, m2c, k2a, k2c⟩]) ∧ Below w.heap.size w w2) := ⟨hF2, hBr.trans (((T.bel.mono hbase).trans (bD.mono (Nat.le_trans hbase T.bel.size))).trans hB2)⟩
        have XK : Hid (∀ w', Below W.heap.size W w' → _) := ⟨fun w' hw => TP.at5 T hr hb (hw.block b (Nat.lt_of_lt_of_le hb T.bel.size)) (hw.block g hgl)⟩
        have X2 := Hid.mk (TP.at5 (W' := w2) T hr hb (hk2 b (Nat.lt_of_lt_of_le hb T.bel.size) (fun q => absurd (hF1.lt (.inl q)).1 (by omega))) (hk2 g hgl (T.ne hF1.own)))
        have hRk2 : Hid (R.length = k) := ⟨hRk⟩
        have hRc2 : Hid (R.map (·.c) = (L.take k).map (·.c)) := ⟨hRc⟩
        clear hF hF1 hF2 hB2 bD hRk hRc hq hBr hk2
        go_wp2_with fail
        go_region_held3 (fun w' => w'.cell? ⟨b, off + k * 12, none⟩ = some (.int .i64 r.c.kind) ∧ w'.cell? ⟨b, off + k * 12 + 1, none⟩ = some (.int .i64 r.c.sectors) ∧ w'.cell? ⟨b, off + k * 12 + 2, none⟩ = some (.int .i64 r.c.size) ∧ w'.cell? ⟨b, off + k * 12 + 11, none⟩ = some (str r.c.bucket) ∧ (ldP (.pointer (some ⟨g, 0, none⟩))).run Tryd.prog w' = .ok (.agg (scl r.c m2a m2c k2a k2c)) w') (first | (with_reducible exact X2.out) | (with_reducible exact XK.out _ (Below.refl _ _).drew) | (exact XK.out _ (Below.drew (Below.alloc (Below.refl _ _) (Nat.le_refl _) _))) | (exact XK.out _ (Below.alloc (Below.refl _ _).drew (Nat.le_refl _) _))) (first | ((with_reducible (refine at_sta rfl ?_)); refine step_run rfl _ _ rfl rfl rfl (hQ _) ?_))
        go_wp2_with fail
        refine ⟨⟨k + 1, v2, c2, R ++ [⟨r.c, m2a, m2c, k2a, k2c⟩], rfl, ?_, hlt, ⟨?_, ?_, HX.out.2⟩⟩, ?_⟩
        · rw [List.length_append]; rfl
        · rw [List.length_append]; exact HX.out.1
        · rw [List.map_append, hRc2.out, List.take_add_one, hget, List.map_append]; rfl
        · show L.length - ((k : Int) + 1).toNat < L.length - ((k : Int)).toNat
          omega
    · have d1 : decide ((k : Int) < (L.length : Int)) = false := decide_eq_false (fun q => hlt (Int.ofNat_lt.1 q))
      have d2 : decide (k < L.length) = false := decide_eq_false hlt
      have hkk : Hid (k = L.length) := ⟨Nat.le_antisymm hk (Nat.le_of_not_lt hlt)⟩
      clear hlt
      obtain ⟨hF, hRc, hBr⟩ := HK.out
      rw [hkk.out, List.take_length] at hRc
      have hRl : R.length = L.length := by have e := congrArg List.length hRc; simpa using e
      obtain ⟨v2, c2, w2, h77, hGv, hb2⟩ := run_g77 hF (by omega)
      obtain ⟨-, hcap, hcap2, g, hg⟩ := own_room hGv.own (Nat.succ_pos _)
      have hsl := run_slC v2 (R.length + 1) c2 L.length (by omega) hcap2 (fun q => by rw [hg] at q; cases q)
      have HE := Hid.mk (And.intro hGv (And.intro hRc (hBr.trans hb2)))
      have h77' : ∀ ty, (Builtin.append_ #[23, 23] ty #[.slice va R.length vc, .slice (some ⟨wr.heap.size, 0, none⟩) 1 1]).run Tryd.prog (wr.alloc (.cells #[.int .i64 (-77), .int .i64 0, .int .i64 0, .int .i64 0, .string ⟨#[]⟩, .string ⟨#[]⟩, .string ⟨#[]⟩, .slice none 0 0, .int .i64 0, .int .i64 0, .slice none 0 0, .string ⟨#[]⟩] 36)) = .ok (.slice v2 (R.length + 1) c2) w2 := h77
      clear hF hRc hBr hRl hGv hb2 hcap hcap2 hg HK hkk h77
      go_wp2_with fail
      go_ret
      exact ⟨v2, c2, rfl, R, HE.out⟩
end Go.Proofs.YtgbkloihclbimaaDoor
