/- DeltaApart: full. -/
import Derived.Test.YthbdaadhcheggaaKc
import Derived.Deep.CutRange
import Derived.Deep.DeepCutAuto
namespace Go.Proofs.Ythbdaadhcheggaa
set_option linter.unusedVariables false
set_option linter.unusedSimpArgs false
open Go.RowKit
attribute [local go_sem ↓] Go.wp_at_zero Go.wp_at_succ slVe slPe
attribute [-go_sem] Go.Builtin.append_
theorem run_apE {B : Nat} {W : World} {v : Value} {xs l : List En} {a : Option Addr} {cap : Nat} (hO : W.ownsRow B 51 2 v xs.length (pcells xs)) (hle : B ≤ W.heap.size) (hS : Sl W a cap l) (hn : xs.length + l.length ≤ 4400000000000) :
    ∃ va vc W', (∀ ty, (Builtin.append_ #[39, 39] ty #[v, .slice a l.length cap]).run Try.prog W = .ok (.slice va (xs.length + l.length) vc) W') ∧ W'.ownsRow B 51 2 (.slice va (xs.length + l.length) vc) (xs.length + l.length) (pcells (xs ++ l)) ∧ Below B W W' ∧ (∀ k, k < W.heap.size → v.ownBlock ≠ some k → W'.heap[k]? = W.heap[k]?) := by
  obtain ⟨i0, hi0, hz0, hz1, hz2⟩ := infoP
  have hm : maxLen = 9223372036854775807 := rfl
  cases a with
  | none =>
    have hc := hS.nil rfl
    have hl : l = [] := List.eq_nil_of_length_eq_zero (by have := hS.le; omega)
    subst hl hc
    have hv : ∃ va vc, v = .slice va xs.length vc := by
      rcases hO.2 with ⟨e, h0⟩ | ⟨g, c, cur, e, _⟩
      · exact ⟨none, 0, by rw [e, h0]⟩
      · exact ⟨_, _, e⟩
    obtain ⟨va, vc, rfl⟩ := hv
    refine ⟨va, vc, W, fun ty => run_append_owned_none (P := Try.prog) W B 39 ty 51 i0 2 Try.underlying39 hi0 _ _ _ hO, by simpa using hO, Below.refl _ _, fun _ _ _ => rfl⟩
  | some ad =>
    have hcells : ∀ j u, (pcells l)[j]? = some u → W.cell? (ad.add j) = some u := by
      rcases Nat.eq_zero_or_pos l.length with h0 | h0
      · have hq : l = [] := List.eq_nil_of_length_eq_zero h0
        subst hq
        intro j u hj
        simp [pcells] at hj
      · obtain ⟨b, off, e, _⟩ := hS.at'.get 0 l[0] (List.getElem?_eq_getElem h0)
        injection e with e
        subst e
        exact hS.at'.cells
    obtain ⟨v', w', hr, hown, hgrow, _⟩ := run_append_own_wide (P := Try.prog) (w := W) B 39 39 51 i0 _ 2 32 Try.underlying39 hi0 hz0 hz1 hz2 rfl (by omega) v xs.length (pcells xs) hO ad l.length cap (pcells l) (pcells_length l) hcells (pcells_one l) (by rw [hm]; omega) (by omega) hle
    have hs : ∃ va vc, v' = .slice va (xs.length + l.length) vc := by
      rcases hown.2 with ⟨e, h0⟩ | ⟨g, c, cur, e, _⟩
      · exact ⟨none, 0, by rw [e, h0]⟩
      · exact ⟨_, _, e⟩
    obtain ⟨va, vc, rfl⟩ := hs
    exact ⟨va, vc, w', fun ty => hr, by rw [pcells_append]; exact hown, grown_below hO hle hgrow, fun k hk hne => hgrow.block k hk (Ne.symm hne)⟩
abbrev eO : Obj := .cells #[] 51
abbrev mO : Obj := .cells #[.string ⟨#[109, 97, 114, 107]⟩, .string ⟨#[]⟩] 51
theorem own_le {base base' n s : Nat} {w : World} {t : TypeId} {v : Value} {xs : List Value} (h : w.ownsRow base t s v n xs) (hb : base' ≤ base) : w.ownsRow base' t s v n xs := by
  refine ⟨h.1, ?_⟩
  rcases h.2 with e | ⟨g, cap, cur, e, h2, h3⟩
  · exact .inl e
  · exact .inr ⟨g, cap, cur, e, Nat.le_trans hb h2, h3⟩
theorem own_e {W : World} {g B : Nat} (h : W.heap[g]? = some (.cells #[] 51 (0, 0))) (hB : B ≤ g) : W.ownsRow B 51 2 (.slice (some ⟨g, 0, none⟩) 0 0) 0 [] :=
  ⟨rfl, .inr ⟨g, 0, #[], rfl, hB, h, Nat.le_refl _, by decide, rfl, rfl⟩⟩
set_option maxRecDepth 100000 in
theorem sl_m {W : World} {g : Nat} (h : W.heap[g]? = some (.cells #[.string ⟨#[109, 97, 114, 107]⟩, .string ⟨#[]⟩] 51 (0, 0))) : Sl W (some ⟨g, 0, none⟩) 1 [mkP] := by
  refine ⟨⟨fun k p hk => ?_⟩, Nat.le_refl _, by decide, fun q => by cases q⟩
  have hk0 : k = 0 := by
    have := (List.getElem?_eq_some_iff.1 hk).1
    simp at this; exact this
  subst hk0
  have hk : p = mkP := by simpa using hk.symm
  subst hk
  exact ⟨g, 0, rfl, (Array.getElem?_eq_some_iff.1 h).1, by rw [cell_of_row _ _ _ _ _ _ h]; rfl, by rw [cell_of_row _ _ _ _ _ _ h]; rfl⟩
set_option maxRecDepth 100000 in
/-- the two appends behind one another, wherever the mark is made -/
theorem two_ap {B : Nat} {W : World} {g : Nat} {a : Option Addr} {cap : Nat} {l : List En} (hg : W.heap[g]? = some (.cells #[] 51 (0, 0))) (hB : B ≤ g) (hS : Sl W a cap l) (hn : l.length ≤ 1000000) :
    ∃ a5 c5 W5, (∀ ty, (Builtin.append_ #[39, 39] ty #[.slice (some ⟨g, 0, none⟩) 0 0, .slice a l.length cap]).run Try.prog W = .ok (.slice a5 l.length c5) W5) ∧ Below B W W5 ∧ (∀ k, k < W.heap.size → k ≠ g → W5.heap[k]? = W.heap[k]?) ∧
      ∀ (W6 : World) (m : Nat), Below W5.heap.size W5 W6 → W6.heap[m]? = some (.cells #[.string ⟨#[109, 97, 114, 107]⟩, .string ⟨#[]⟩] 51 (0, 0)) → ∃ a6 c6 W7, (∀ ty, (Builtin.append_ #[39, 39] ty #[.slice a5 l.length c5, .slice (some ⟨m, 0, none⟩) 1 1]).run Try.prog W6 = .ok (.slice a6 (l.length + 1) c6) W7) ∧ W7.ownsRow B 51 2 (.slice a6 (l.length + 1) c6) (l.length + 1) (pcells (l ++ [mkP])) ∧ Below B W6 W7 ∧ ∀ W, (slP (.slice a6 (l.length + 1) c6) none (some (.int .i64 (l.length : Int))) none).run Try.prog W = .ok (.slice a6 l.length c6) W := by
  have hgl := (Array.getElem?_eq_some_iff.1 hg).1
  obtain ⟨a5, c5, W5, r5, o5, b5, k5⟩ := run_apE (xs := []) (own_e hg hB) (by omega) hS (by simp; omega)
  simp only [List.length_nil, Nat.zero_add, List.nil_append] at r5 o5
  refine ⟨a5, c5, W5, r5, b5, fun k hk hne => k5 k hk (fun q => hne (by simpa [Value.ownBlock] using q.symm)), fun W6 m h6 hm => ?_⟩
  obtain ⟨a6, c6, W7, r7, o7, b7, k7⟩ := run_apE (B := B) (W := W6) (own_later o5 h6) (by have := b5.size; have := h6.size; omega) (sl_m hm) (by simp; omega)
  simp only [List.length_cons, List.length_nil, Nat.zero_add] at r7 o7
  refine ⟨a6, c6, W7, r7, o7, b7, fun W => ?_⟩
  rcases o7.2 with ⟨e, h0⟩ | ⟨g', cp, cur, e, x2, x3, x4, x5, _⟩
  · omega
  · injection e with e1 e2 e3
    subst e1 e3
    exact run_slP _ (l.length + 1) c6 l.length (by omega) x5 (fun q => by cases q) W
/-- behind the two appends -/
structure Gx (wr : World) (u : Vs) (a6 : Option Addr) (c6 : Nat) (wx : World) : Prop where
  bel : Below wr.heap.size wr wx
  box : Bv wx wr.heap.size (str u.key) (.int .i64 u.seq) (.bool u.mkr) (str u.data) (.slice a6 u.l.length c6)
  ow : wx.ownsRow (wr.heap.size + 1) 51 2 (.slice a6 (u.l.length + 1) c6) (u.l.length + 1) (pcells (u.l ++ [mkP]))
theorem Gx.mk' {wr X V : World} {u : Vs} {a6 s5 : Option Addr} {c6 m5 : Nat} (hb : Below wr.heap.size wr X) (hXs : X.heap.size = wr.heap.size + 1) (hbox : Bv X wr.heap.size (str u.key) (.int .i64 u.seq) (.bool u.mkr) (str u.data) (.slice s5 u.l.length m5)) (hV : Below X.heap.size X V) (ho : V.ownsRow X.heap.size 51 2 (.slice a6 (u.l.length + 1) c6) (u.l.length + 1) (pcells (u.l ++ [mkP]))) : Gx wr u a6 c6 (V.setCell ⟨wr.heap.size, 4, none⟩ (.slice a6 u.l.length c6)) := by
  have hbV : Below wr.heap.size wr V := hb.trans (hV.mono (by omega))
  refine ⟨hbV.setCell (p := ⟨wr.heap.size, 4, none⟩) (show wr.heap.size ≤ wr.heap.size from Nat.le_refl _) _, (hbox.later hV).set4 _, ?_⟩
  rw [← hXs]
  exact ownsRow_setCell_other ho (by
    intro q
    have := (ho.lt wr.heap.size q).1
    omega) _
/-- the orders in which the empty row, the mark and the first append may come -/
structure Or3 (X : World) (l : List En) (V7 : World) (a6 : Option Addr) (c6 : Nat) : Prop where
  bel : Below X.heap.size X V7
  own : V7.ownsRow X.heap.size 51 2 (.slice a6 (l.length + 1) c6) (l.length + 1) (pcells (l ++ [mkP]))
  sl : ∀ W, (slP (.slice a6 (l.length + 1) c6) none (some (.int .i64 (l.length : Int))) none).run Try.prog W = .ok (.slice a6 l.length c6) W
theorem ordA {X : World} {a : Option Addr} {cap : Nat} {l : List En} (hS : Sl X a cap l) (hl : l.length ≤ 1000000) : ∃ a5 c5 V5 a6 c6 V7, (∀ ty, (Builtin.append_ #[39, 39] ty #[.slice (some ⟨X.heap.size + 1, 0, none⟩) 0 0, .slice a l.length cap]).run Try.prog ((X.alloc mO).alloc eO).drew = .ok (.slice a5 l.length c5) V5) ∧ (∀ ty, (Builtin.append_ #[39, 39] ty #[.slice a5 l.length c5, .slice (some ⟨X.heap.size, 0, none⟩) 1 1]).run Try.prog V5 = .ok (.slice a6 (l.length + 1) c6) V7) ∧ Below X.heap.size X V5 ∧ Or3 X l V7 a6 c6 := by
  have bA := (((Below.refl X.heap.size X).alloc (Nat.le_refl _) mO).alloc (by simp) eO).drew
  have s1 : (X.alloc mO).heap.size = X.heap.size + 1 := by simp
  have h1 : ((X.alloc mO).alloc eO).drew.heap[X.heap.size + 1]? = some (.cells #[] 51 (0, 0)) := by rw [← s1]; exact heap_alloc_new (X.alloc mO) eO
  have h2 : ((X.alloc mO).alloc eO).drew.heap[X.heap.size]? = some (.cells #[.string ⟨#[109, 97, 114, 107]⟩, .string ⟨#[]⟩] 51 (0, 0)) := by
    show ((X.alloc mO).alloc eO).heap[X.heap.size]? = _
    rw [heap_alloc_old _ _ (by rw [s1]; omega)]
    exact heap_alloc_new X mO
  obtain ⟨a5, c5, V5, r5, b5, k5, n5⟩ := two_ap (B := X.heap.size) h1 (by omega) (hS.later bA) hl
  obtain ⟨a6, c6, V7, r7, o7, b7, s7⟩ := n5 V5 X.heap.size (Below.refl _ _) (by rw [k5 _ (Array.getElem?_eq_some_iff.1 h2).1 (by omega)]; exact h2)
  exact ⟨a5, c5, V5, a6, c6, V7, r5, r7, bA.trans b5, (bA.trans b5).trans b7, o7, s7⟩
theorem ordB {X : World} {a : Option Addr} {cap : Nat} {l : List En} (hS : Sl X a cap l) (hl : l.length ≤ 1000000) : ∃ a5 c5 V5 a6 c6 V7, (∀ ty, (Builtin.append_ #[39, 39] ty #[.slice (some ⟨X.heap.size, 0, none⟩) 0 0, .slice a l.length cap]).run Try.prog ((X.alloc eO).alloc mO).drew = .ok (.slice a5 l.length c5) V5) ∧ (∀ ty, (Builtin.append_ #[39, 39] ty #[.slice a5 l.length c5, .slice (some ⟨X.heap.size + 1, 0, none⟩) 1 1]).run Try.prog V5 = .ok (.slice a6 (l.length + 1) c6) V7) ∧ Below X.heap.size X V5 ∧ Or3 X l V7 a6 c6 := by
  have bA := (((Below.refl X.heap.size X).alloc (Nat.le_refl _) eO).alloc (by simp) mO).drew
  have s1 : (X.alloc eO).heap.size = X.heap.size + 1 := by simp
  have h2 : ((X.alloc eO).alloc mO).drew.heap[X.heap.size + 1]? = some (.cells #[.string ⟨#[109, 97, 114, 107]⟩, .string ⟨#[]⟩] 51 (0, 0)) := by rw [← s1]; exact heap_alloc_new (X.alloc eO) mO
  have h1 : ((X.alloc eO).alloc mO).drew.heap[X.heap.size]? = some (.cells #[] 51 (0, 0)) := by
    show ((X.alloc eO).alloc mO).heap[X.heap.size]? = _
    rw [heap_alloc_old _ _ (by rw [s1]; omega)]
    exact heap_alloc_new X eO
  obtain ⟨a5, c5, V5, r5, b5, k5, n5⟩ := two_ap (B := X.heap.size) h1 (Nat.le_refl _) (hS.later bA) hl
  obtain ⟨a6, c6, V7, r7, o7, b7, s7⟩ := n5 V5 (X.heap.size + 1) (Below.refl _ _) (by rw [k5 _ (Array.getElem?_eq_some_iff.1 h2).1 (by omega)]; exact h2)
  exact ⟨a5, c5, V5, a6, c6, V7, r5, r7, bA.trans b5, (bA.trans b5).trans b7, o7, s7⟩
theorem ordC {X : World} {a : Option Addr} {cap : Nat} {l : List En} (hS : Sl X a cap l) (hl : l.length ≤ 1000000) : ∃ a5 c5 V5 a6 c6 V7, (∀ ty, (Builtin.append_ #[39, 39] ty #[.slice (some ⟨X.heap.size, 0, none⟩) 0 0, .slice a l.length cap]).run Try.prog (X.alloc eO).drew = .ok (.slice a5 l.length c5) V5) ∧ (∀ ty, (Builtin.append_ #[39, 39] ty #[.slice a5 l.length c5, .slice (some ⟨V5.heap.size, 0, none⟩) 1 1]).run Try.prog (V5.alloc mO) = .ok (.slice a6 (l.length + 1) c6) V7) ∧ Below X.heap.size X V5 ∧ Or3 X l V7 a6 c6 := by
  have bA := ((Below.refl X.heap.size X).alloc (Nat.le_refl _) eO).drew
  have h1 : (X.alloc eO).drew.heap[X.heap.size]? = some (.cells #[] 51 (0, 0)) := heap_alloc_new X eO
  obtain ⟨a5, c5, V5, r5, b5, k5, n5⟩ := two_ap (B := X.heap.size) h1 (Nat.le_refl _) (hS.later bA) hl
  have bM := (Below.refl V5.heap.size V5).alloc (Nat.le_refl _) mO
  obtain ⟨a6, c6, V7, r7, o7, b7, s7⟩ := n5 (V5.alloc mO) V5.heap.size bM (heap_alloc_new V5 mO)
  have b5' := bA.trans b5
  exact ⟨a5, c5, V5, a6, c6, V7, r5, r7, b5', (b5'.trans (bM.mono b5'.size)).trans b7, o7, s7⟩
/-- what is kept while a full list is made -/
structure Fq (w : World) (next : Int) (L : List Vs) (a2 : Option Addr) (c2 : Nat) (k : Nat) (a : Option Addr) (cap : Nat) (wr : World) : Prop where
  b : Bq wr w.heap.size (.int .i64 next) (.slice a2 L.length c2)
  r : Bq wr (w.heap.size + 1) (.int .i64 0) (.slice none 0 0)
  c : Bq wr (w.heap.size + 1 + 1) (.int .i64 next) (.slice a k cap)
  ex : ∃ R : List Rv, Fo w.heap.size wr (.slice a k cap) R ∧ R.map (·.v) = L.take k ∧ ∀ r ∈ R, r.z = [mkP]
  bel : Below w.heap.size w wr
theorem Fq.start (w : World) (next : Int) (L : List Vs) (a2 : Option Addr) (c2 : Nat) : Fq w next L a2 c2 0 none 0 (((w.alloc (.cells #[.int .i64 next, .slice a2 L.length c2] 24)).alloc (.cells #[.int .i64 0, .slice none 0 0] 24)).alloc (.cells #[.int .i64 next, .slice none 0 0] 24)) := by
  have s1 : (w.alloc (.cells #[.int .i64 next, .slice a2 L.length c2] 24)).heap.size = w.heap.size + 1 := by simp
  have s2 : ((w.alloc (.cells #[.int .i64 next, .slice a2 L.length c2] 24)).alloc (.cells #[.int .i64 0, .slice none 0 0] 24)).heap.size = w.heap.size + 1 + 1 := by simp
  have bb : ∀ (x : World) (o : Obj), Below x.heap.size x (x.alloc o) := fun x o => (Below.refl _ _).alloc (Nat.le_refl _) _
  refine ⟨((Bq.new w _ _).later (bb _ _)).later (bb _ _), ?_, ?_, ⟨[], Fo.nil _ _ (by simp; omega), by simp, by simp⟩, (((Below.refl _ _).alloc (Nat.le_refl _) _).alloc (by simp) _).alloc (by simp; omega) _⟩
  · have := (Bq.new (w.alloc (.cells #[.int .i64 next, .slice a2 L.length c2] 24)) (.int .i64 0) (.slice none 0 0)).later (bb _ (.cells #[.int .i64 next, .slice none 0 0] 24))
    rw [s1] at this; exact this
  · have := Bq.new ((w.alloc (.cells #[.int .i64 next, .slice a2 L.length c2] 24)).alloc (.cells #[.int .i64 0, .slice none 0 0] 24)) (.int .i64 next) (.slice none 0 0)
    rw [s2] at this; exact this
theorem Bq.same {w w' : World} {g : Nat} {x y : Value} (h : Bq w g x y) (e : w'.heap[g]? = w.heap[g]?) : Bq w' g x y := by
  unfold Bq at *
  rw [e]; exact h
theorem Bq.ne {w : World} {g B n : Nat} {x y v : Value} {R : List Rv} (h : Bq w g x y) (hF : Fo B w v R) : v.ownBlock ≠ some g := fun q => by
  obtain ⟨cs, e⟩ := own_type hF.own q
  unfold Bq at h
  rw [h] at e
  injection e with e
  injection e with _ e _
  exact absurd e (by decide)
theorem Bq.nm {w : World} {g B : Nat} {x y v : Value} {R : List Rv} (h : Bq w g x y) (hF : Fo B w v R) : ¬ Tc v R g := fun q => by
  rcases q with q | ⟨k, r, hr, hq⟩
  · exact Bq.ne (n := 0) h hF q
  · obtain ⟨cs, e⟩ := own_type (hF.met k r hr).own hq
    unfold Bq at h
    rw [h] at e
    injection e with e
    injection e with _ e _
    exact absurd e (by decide)
theorem Fq.ad {w wr wx : World} {next : Int} {L : List Vs} {a2 a a6 : Option Addr} {c2 k cap c6 : Nat} {u : Vs} (h : Fq w next L a2 c2 k a cap wr) (hu : L[k]? = some u) (hG : Gx wr u a6 c6 wx) :
    ∃ R : List Rv, R.length = k ∧ Ad w.heap.size wx (.slice a k cap) R ⟨u, [mkP], a6, c6⟩ ∧ Bq wx (w.heap.size + 1 + 1) (.int .i64 next) (.slice a k cap) ∧
      ∀ g' cap' w', Fo w.heap.size w' (.slice (some ⟨g', 0, none⟩) (k + 1) cap') (R ++ [⟨u, [mkP], a6, c6⟩]) → Below w.heap.size wx w' → (∀ j, j < wx.heap.size → (Value.slice a k cap).ownBlock ≠ some j → w'.heap[j]? = wx.heap[j]?) →
        Bq w' (w.heap.size + 1 + 1) (.int .i64 next) (.slice a k cap) ∧ Fq w next L a2 c2 (k + 1) (some ⟨g', 0, none⟩) cap' (w'.setCell ⟨w.heap.size + 1 + 1, 1, none⟩ (.slice (some ⟨g', 0, none⟩) (k + 1) cap')) := by
  obtain ⟨R, hF, hR, hz⟩ := h.ex
  have hl := (List.getElem?_eq_some_iff.1 hu).1
  have hRl : R.length = k := by have := congrArg List.length hR; rw [List.length_map, List.length_take] at this; omega
  have ho : Ow wr.heap.size wx (Rv.mv ⟨u, [mkP], a6, c6⟩) (u.l ++ [mkP]) := by
    have hb := hG.bel.size
    refine ⟨?_, hb⟩
    have := own_le hG.ow (Nat.le_succ wr.heap.size)
    show World.ownsRow wx wr.heap.size 51 2 (.slice a6 (u.l.length + [mkP].length) c6) (u.l ++ [mkP]).length _
    rw [List.length_append]
    exact this
  have hFx := hF.later hG.bel
  refine ⟨R, hRl, hF.ad hG.bel ho, h.c.later hG.bel, fun g' cap' w' hF' hb hk => ?_⟩
  have hcx := h.c.later hG.bel
  have hbx := h.b.later hG.bel
  have hrx := h.r.later hG.bel
  have hc' := hcx.same (hk _ hcx.lt (Bq.ne (n := 0) hcx hFx))
  have hb' := hbx.same (hk _ hbx.lt (Bq.ne (n := 0) hbx hFx))
  have hr' := hrx.same (hk _ hrx.lt (Bq.ne (n := 0) hrx hFx))
  refine ⟨hc', ⟨hb'.same (Below.heap_setCell _ _ _ _ (by show _ ≠ _; simp; omega)), hr'.same (Below.heap_setCell _ _ _ _ (by show _ ≠ _; simp)), hc'.set1 _, ⟨R ++ [⟨u, [mkP], a6, c6⟩], ?_, ?_, ?_⟩, ?_⟩⟩
  · exact hF'.frame (by simp) (fun g hg => Below.heap_setCell _ _ _ _ (fun e => by
      have e : g = w.heap.size + 1 + 1 := e
      subst e
      exact hc'.nm hF' hg))
  · rw [List.map_append, hR, List.take_add_one, hu]; rfl
  · intro r hr
    rcases List.mem_append.1 hr with q | q
    · exact hz r q
    · rw [List.mem_singleton.1 q]
  · have b1 : Below w.heap.size w w' := (h.bel.trans (hG.bel.mono h.bel.size)).trans hb
    exact b1.setCell (p := ⟨w.heap.size + 1 + 1, 1, none⟩) (show w.heap.size ≤ w.heap.size + 1 + 1 by omega) _
def mkR : Rv := ⟨⟨mark, 0, false, [], []⟩, [], none, 0⟩
theorem Fq.last {w wr : World} {next : Int} {L : List Vs} {a2 a : Option Addr} {c2 cap : Nat} (h : Fq w next L a2 c2 L.length a cap wr) :
    ∃ R : List Rv, R.length = L.length ∧ Ad w.heap.size wr (.slice a L.length cap) R mkR ∧
      ∀ g' cap' w', Fo w.heap.size w' (.slice (some ⟨g', 0, none⟩) (L.length + 1) cap') (R ++ [mkR]) → Below w.heap.size wr w' → (∀ j, j < wr.heap.size → (Value.slice a L.length cap).ownBlock ≠ some j → w'.heap[j]? = wr.heap[j]?) →
        Bq w' (w.heap.size + 1 + 1) (.int .i64 next) (.slice a L.length cap) ∧ Bq w' (w.heap.size + 1) (.int .i64 0) (.slice none 0 0) ∧ Fm w.heap.size w' (some ⟨g', 0, none⟩) cap' L ∧ Below w.heap.size w w' := by
  obtain ⟨R, hF, hR, hz⟩ := h.ex
  rw [List.take_length] at hR
  have hRl : R.length = L.length := by rw [← hR, List.length_map]
  refine ⟨R, hRl, ⟨hF, ⟨World.ownsRow_nil _ _ _ _, hF.le⟩, fun k r' _ b hb => by cases hb⟩, fun g' cap' w' hF' hb hk => ?_⟩
  exact ⟨h.c.same (hk _ h.c.lt (Bq.ne (n := 0) h.c hF)), h.r.same (hk _ h.r.lt (Bq.ne (n := 0) h.r hF)), ⟨⟨R, mkR, hF', hR, hz, rfl, rfl⟩⟩, h.bel.trans hb⟩
theorem Fm.low {lo : Nat} {w : World} {a : Option Addr} {cap : Nat} {L : List Vs} (h : Fm lo w a cap L) {g j : Nat} {x y v : Value} (hb : Bq w g x y) : Fm lo (w.setCell ⟨g, j, none⟩ v) a cap L := by
  obtain ⟨R, mk, hF, h1, h2, h3⟩ := h.ex
  exact ⟨⟨R, mk, hF.frame (by simp) (fun b hb' => Below.heap_setCell _ _ _ _ (fun e => by
    have e : b = g := e
    subst e
    exact hb.nm hF hb')), h1, h2, h3⟩⟩
set_option maxRecDepth 100000 in
set_option maxHeartbeats 2000000 in
theorem full_any (next : Int) (L : List Vs) (a2 : Option Addr) (c2 : Nat) (w : World) (hL : Li w L a2 L.length c2) (hn : L.length ≤ 1000000) (hz : ∀ u ∈ L, u.l.length ≤ 1000000) :
    Calls Try.prog 7 #[bv next a2 L.length c2] w fun e w' => ∃ a cap, e = .returned (bv next a L.length cap) ∧ Fm w.heap.size w' a cap L ∧ Below w.heap.size w w' := by
  have HQ := Hid.mk (Fq.start w next L a2 c2)
  have HL := Hid.mk hL
  have HZ := Hid.mk hz
  clear hL hz
  go_enter Try.func7, Try.ntmps7
  go_wp2_with fail
  generalize (((w.alloc (.cells #[.int .i64 next, .slice a2 L.length c2] 24)).alloc (.cells #[.int .i64 0, .slice none 0 0] 24)).alloc (.cells #[.int .i64 next, .slice none 0 0] 24)) = W3 at *
  go_loopw [4, 5] (fun i _ wr => ∃ (k : Nat) (a : Option Addr) (cap : Nat), i = .int .i64 (k : Int) ∧ k ≤ L.length ∧ Hid (Fq w next L a2 c2 k a cap wr)) (fun i _ _ => L.length - (intOf i).toNat)
  case atStart => exact ⟨0, none, 0, rfl, Nat.zero_le _, HQ⟩
  case round =>
    clear HQ
    obtain ⟨k, a, cap, rfl, hk, HQ⟩ := hrel
    obtain ⟨p0, p1, _⟩ := HQ.out.b.cells
    obtain ⟨e0, e1, e2⟩ := HQ.out.c.cells
    by_cases hlt : k < L.length
    · have d1 : decide ((k : Int) < (L.length : Int)) = true := decide_eq_true (Int.ofNat_lt.2 hlt)
      have k0 : (0 : Int) ≤ (k : Int) := Int.natCast_nonneg k
      have k1 : (k : Int) < (L.length : Int) := Int.ofNat_lt.2 hlt
      obtain ⟨u, hu⟩ : ∃ u, L[k]? = some u := ⟨_, List.getElem?_eq_getElem hlt⟩
      obtain ⟨b2, off, ma, mc2, rfl, hbl, x0, x1, x2, x3, x4, hsl⟩ := (HL.out.later HQ.out.bel).s.at'.get k u hu
      have hul := HZ.out u (List.mem_of_getElem? hu)
      have z1 := Bv.new wr (str u.key) (.int .i64 u.seq) (.bool u.mkr) (str u.data) (.slice ma u.l.length mc2)
      obtain ⟨y0, y1, y2, y3, y4, y5⟩ := z1.cells
      obtain ⟨X, hX⟩ : ∃ X, wr.alloc (.cells #[str u.key, .int .i64 u.seq, .bool u.mkr, str u.data, .slice ma u.l.length mc2] 41) = X := ⟨_, rfl⟩
      have hXs : X.heap.size = wr.heap.size + 1 := by rw [← hX]; simp
      have bX : Below wr.heap.size wr X := by rw [← hX]; exact (Below.refl _ _).alloc (Nat.le_refl _) _
      rw [hX] at z1 y0 y1 y2 y3 y4 y5
      have hslX := hsl.later bX
      go_upto_region 6 with fail
      have lX : wr.heap.size < X.heap.size := by rw [hXs]; omega
      have aE : ∀ (Y : World) (o : Obj), Below Y.heap.size Y (Y.alloc o) := fun Y o => (Below.refl _ _).alloc (Nat.le_refl _) _
      have yy : ∀ V, Below X.heap.size X V → V.cell? ⟨wr.heap.size, 4, none⟩ = some (.slice ma u.l.length mc2) ∧ V.frozen? ⟨wr.heap.size, 4, none⟩ = false := fun V hV => ⟨(hV.cell (p := ⟨wr.heap.size, 4, none⟩) lX).trans y4, (World.frozen?_of_block (w := X) (a := ⟨wr.heap.size, 4, none⟩) (hV.block _ lX)).trans (y5 4)⟩
      have aE : ∀ (Y : World) (o : Obj), Below X.heap.size X Y → Below X.heap.size X (Y.alloc o) := fun Y o h => h.alloc h.size o
      obtain ⟨a5, c5, V5, a6, c6, V7, ra, ra2, ab5, ao⟩ := ordA hslX hul
      obtain ⟨b5, d5, U5, b6, d6, U7, rb, rb2, bb5, bo⟩ := ordB hslX hul
      obtain ⟨e5, f5, T5, e6, f6, T7, rc, rc2, cb5, co⟩ := ordC hslX hul
      have b0 : Below X.heap.size X X := Below.refl _ _
      obtain ⟨y00, y01⟩ := yy X.drew b0.drew
      obtain ⟨y10, y11⟩ := yy (X.alloc mO).drew (aE _ _ b0).drew
      obtain ⟨y20, y21⟩ := yy (X.alloc eO).drew (aE _ _ b0).drew
      obtain ⟨y30, y31⟩ := yy ((X.alloc mO).alloc eO).drew (aE _ _ (aE _ _ b0)).drew
      obtain ⟨y40, y41⟩ := yy ((X.alloc eO).alloc mO).drew (aE _ _ (aE _ _ b0)).drew
      obtain ⟨y50, y51⟩ := yy V5 ab5
      obtain ⟨y60, y61⟩ := yy V7 ao.bel
      obtain ⟨y70, y71⟩ := yy U5 bb5
      obtain ⟨y80, y81⟩ := yy U7 bo.bel
      obtain ⟨y90, y91⟩ := yy T5 cb5
      obtain ⟨ya0, ya1⟩ := yy T7 co.bel
      obtain ⟨yb0, yb1⟩ := yy (T5.alloc mO) (aE _ _ cb5)
      have hs1 := ao.sl
      have hs2 := bo.sl
      have hs3 := co.sl
      have G1 := Hid.mk (Gx.mk' bX hXs z1 ao.bel ao.own)
      have G2 := Hid.mk (Gx.mk' bX hXs z1 bo.bel bo.own)
      have G3 := Hid.mk (Gx.mk' bX hXs z1 co.bel co.own)
      replace hX := Hid.mk hX
      replace hXs := Hid.mk hXs
      replace z1 := Hid.mk z1
      clear x0 x1 x2 x3 x4 hsl hslX y0 y1 y2 y3 ab5 ao bb5 bo cb5 co lX aE yy b0
      go_cut [] from 22 to 39 (fun wx => ∃ a6 c6, Hid (Gx wr u a6 c6 wx))
      case first =>
        go_region
        all_goals go_wp2_with fail
        all_goals go_meet
        all_goals first | exact ⟨_, _, G1⟩ | exact ⟨_, _, G2⟩ | exact ⟨_, _, G3⟩
      obtain ⟨a6, c6, HG⟩ := hcut
      obtain ⟨R, hRl, hAd, hcx, hnx⟩ := HQ.out.ad hu HG.out
      obtain ⟨u0, u1, uf⟩ := hcx.cells
      obtain ⟨v0, v1, v2, v3, v4, _⟩ := HG.out.box.cells
      have hRn : R.length ≤ 1954687338260 := by omega
      have HNX := Hid.mk hnx
      have HRL := Hid.mk hRl
      clear G1 G2 G3 hnx hs1 hs2 hs3 p0 p1 e0 e1 e2 y4 y5
      go_wp2_with (refine app_v rfl _ _ rfl ⟨u, [mkP], a6, c6⟩ rfl hAd rfl hRn rfl rfl ?_; intro g' cap' w' o' b' k' at'; rw [HRL.out] at o'; obtain ⟨q1, q2⟩ := HNX.out g' cap' w' o' b' k'; obtain ⟨t0, t1, tf⟩ := q1.cells; have f1 := tf 1; rw [HRL.out])
      exact ⟨⟨k + 1, _, _, rfl, hlt, ⟨q2⟩⟩, by simp only [intOf, Int.toNat_natCast]; exact Nat.sub_lt_sub_left hlt (Nat.lt_succ_self k)⟩
    · have d1 : decide ((k : Int) < (L.length : Int)) = false := decide_eq_false (fun q => hlt (Int.ofNat_lt.1 q))
      have d2 : decide (k < L.length) = false := decide_eq_false hlt
      obtain rfl : k = L.length := Nat.le_antisymm hk (Nat.le_of_not_lt hlt)
      obtain ⟨R, hRl, hAd, hlast⟩ := HQ.out.last
      have hRn : R.length ≤ 1954687338260 := by omega
      have HNX := Hid.mk hlast
      have HRL := Hid.mk hRl
      have hbel := HQ.out.bel
      clear hlast p0 HQ hlt hk
      go_wp2_with (refine app_v rfl _ _ rfl mkR rfl hAd rfl hRn rfl rfl ?_; intro g' cap' w' o' b' k' at'; rw [HRL.out] at o'; obtain ⟨q1, q2, q3, q4⟩ := HNX.out g' cap' w' o' b' k'; obtain ⟨t0, t1, tf⟩ := q1.cells; obtain ⟨r0, r1, rf⟩ := q2.cells; have f1 := tf 1; have f2 := rf 0; have f3 := rf 1; have hs1 : ∀ w, (slV (.slice (some ⟨g', 0, none⟩) (L.length + 1) cap') none (some (.int .i64 (L.length : Int))) none).run Try.prog w = .ok (.slice (some ⟨g', 0, none⟩) L.length cap') w := (fun w => by obtain ⟨g2, e2, _, m1, m2, _⟩ := q3.end'; exact run_slV _ (L.length + 1) cap' L.length (by omega) m2 (fun q => by cases q) w); rw [HRL.out])
      have y1 : Bq (w'.setCell ⟨w.heap.size + 1 + 1, 1, none⟩ (.slice (some ⟨g', 0, none⟩) L.length cap')) (w.heap.size + 1) (.int .i64 0) (.slice none 0 0) := q2.same (Below.heap_setCell _ _ _ _ (by show _ ≠ _; simp))
      have y2 := y1.set0 (.int .i64 next)
      have y3 := y2.set1 (.slice (some ⟨g', 0, none⟩) L.length cap')
      have m1 := ((q3.low (j := 1) (v := .slice (some ⟨g', 0, none⟩) L.length cap') q1).low (j := 0) (v := .int .i64 next) y1).low (j := 1) (v := .slice (some ⟨g', 0, none⟩) L.length cap') y2
      have B1 := ((q4.setCell (p := ⟨w.heap.size + 1 + 1, 1, none⟩) (show w.heap.size ≤ w.heap.size + 1 + 1 by omega) (.slice (some ⟨g', 0, none⟩) L.length cap')).setCell (p := ⟨w.heap.size + 1, 0, none⟩) (show w.heap.size ≤ w.heap.size + 1 by omega) (.int .i64 next)).setCell (p := ⟨w.heap.size + 1, 1, none⟩) (show w.heap.size ≤ w.heap.size + 1 by omega) (.slice (some ⟨g', 0, none⟩) L.length cap')
      generalize ((w'.setCell ⟨w.heap.size + 1 + 1, 1, none⟩ (.slice (some ⟨g', 0, none⟩) L.length cap')).setCell ⟨w.heap.size + 1, 0, none⟩ (.int .i64 next)).setCell ⟨w.heap.size + 1, 1, none⟩ (.slice (some ⟨g', 0, none⟩) L.length cap') = W9 at *
      obtain ⟨g0, g1, _⟩ := y3.cells
      refine bodyPost_ret (v := .agg #[.int .i64 next, .slice (some ⟨g', 0, none⟩) L.length cap']) ?_ rfl ⟨_, _, rfl, m1, B1⟩
      rw [results_cell1 rfl]
      go_simp
end Go.Proofs.Ythbdaadhcheggaa
