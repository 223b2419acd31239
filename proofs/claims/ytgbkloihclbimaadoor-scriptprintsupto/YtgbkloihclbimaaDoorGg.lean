import Derived.Test.YtgbkloihclbimaaDoorYe
import Derived.Test.YtgbkloihclbimaaDoorVf
import Derived.Deep.QuietTactic
import Derived.BigQuiet
import Derived.Test.YtgbkloihclbimaaDoorYf
import Derived.Laws.Closers25b
/- Layer 22: commands of one's own, changed in place. -/
namespace Go.Proofs.YtgbkloihclbimaaDoor
set_option maxRecDepth 100000
set_option linter.unusedVariables false
set_option linter.unusedSimpArgs false
open Go.RowKit
theorem own_cellT {w : World} {base g cap n s : Nat} {t : TypeId} {xs : List Value} (h : w.ownsRow base t s (.slice (some ⟨g, 0, none⟩) n cap) n xs) (j : Nat) (u : Value) : (w.setCell ⟨g, j, none⟩ u).ownsRow base t s (.slice (some ⟨g, 0, none⟩) n cap) n (xs.set j u) := by
  refine ⟨by rw [List.length_set]; exact h.1, ?_⟩
  rcases h.2 with ⟨e, _⟩ | ⟨g', cap', cur, e, h2, h3, h4, h5, h6, h7⟩
  · cases e
  · injection e with e1 e2 e3
    injection e1 with e1
    injection e1 with e1
    subst e1 e3
    refine Or.inr ⟨g, cap, _, rfl, h2, heap_setCell_same _ _ _ _ _ _ h3, h4, h5, by rw [Array.size_setIfInBounds]; exact h6, ?_⟩
    rw [Array.toList_setIfInBounds, ← h7, List.take_set]
theorem pcells_set (l : List En) (i : Nat) (p : En) (hi : i < l.length) : pcells (l.set i p) = ((pcells l).set (i * 2) (str p.key)).set (i * 2 + 1) (str p.val) := by
  induction l generalizing i with
  | nil => simp at hi
  | cons q l ih =>
    cases i with
    | zero => simp [pcells, pcs]
    | succ i =>
      have := ih i (by simpa using hi)
      have e : ∀ x : List En, pcells (q :: x) = pcs q ++ pcells x := fun x => by simp [pcells]
      rw [List.set_cons_succ, e, e, this]
      simp [pcs, show (i + 1) * 2 = i * 2 + 1 + 1 by omega]
theorem range_same {w w' : World} {g o : Nat} {l : List Value} (h : w.rangeAt g o l) (e : w'.heap[g]? = w.heap[g]?) : w'.rangeAt g o l := fun j v hv => by
  have q : w'.cell? ⟨g, o + j, none⟩ = w.cell? ⟨g, o + j, none⟩ := by simp only [World.cell?, e]
  rw [q]; exact h j v hv
def Ab (va : Option Addr) (n vc : Nat) (R : Nat → Cr) (b : Nat) : Prop := (Value.slice va n vc).ownBlock = some b ∨ ∃ i, i < n ∧ ((R i).mv.ownBlock = some b ∨ (R i).kv.ownBlock = some b)
/-- commands that are changed in place: what lies between 'ba' and wc's end stays -/
structure Ap (wc : World) (base ba n : Nat) (va : Option Addr) (vc : Nat) (R : Nat → Cr) (w : World) : Prop where
  own : ∃ xs, w.ownsRow base 36 12 (.slice va n vc) n xs
  at' : ∀ i, i < n → ∃ g, va = some ⟨g, 0, none⟩ ∧ w.rangeAt g (i * 12) (ccl (R i))
  ow : ∀ i, i < n → w.ownsRow base 38 2 (R i).mv (R i).c.st.mt.length (pcells (R i).c.st.mt)
  oi : ∀ i, i < n → w.ownsRow base 3 1 (R i).kv (R i).c.st.kept.length (ivs (R i).c.st.kept)
  pm : ∀ i j, i < n → j < n → ¬ i = j → ∀ b, (R i).mv.ownBlock = some b → (R j).mv.ownBlock ≠ some b
  pk : ∀ i j, i < n → j < n → ¬ i = j → ∀ b, (R i).kv.ownBlock = some b → (R j).kv.ownBlock ≠ some b
  lo : ∀ b, Ab va n vc R b → b < ba ∨ wc.heap.size ≤ b
  kp : ∀ b, ba ≤ b → b < wc.heap.size → w.heap[b]? = wc.heap[b]?
  sz : wc.heap.size ≤ w.heap.size
  le : base ≤ wc.heap.size
def upR (R : Nat → Cr) (i : Nat) (r : Cr) : Nat → Cr := fun j => if j = i then r else R j
theorem upR_at (R : Nat → Cr) (i : Nat) (r : Cr) : upR R i r i = r := by simp [upR]
theorem upR_ne (R : Nat → Cr) {i j : Nat} (r : Cr) (h : ¬ j = i) : upR R i r j = R j := by simp [upR, h]
theorem Ap.lt {wc : World} {base ba n : Nat} {va : Option Addr} {vc : Nat} {R : Nat → Cr} {w : World} (h : Ap wc base ba n va vc R w) {b : Nat} (hb : Ab va n vc R b) : base ≤ b ∧ b < w.heap.size := by
  rcases hb with q | ⟨i, hi, q | q⟩
  · obtain ⟨xs, hx⟩ := h.own; exact hx.lt b q
  · exact (h.ow i hi).lt b q
  · exact (h.oi i hi).lt b q
theorem own_ne {base base' s s' n n' : Nat} {w : World} {v v' : Value} {t t' : TypeId} {xs xs' : List Value} (ht : t ≠ t') (h : w.ownsRow base t s v n xs) (h' : w.ownsRow base' t' s' v' n' xs') {b : Nat} (hb : v.ownBlock = some b) : v'.ownBlock ≠ some b := fun q => by
  obtain ⟨c1, e1⟩ := own_type h hb
  obtain ⟨c2, e2⟩ := own_type h' q
  rw [e1] at e2
  injection e2 with e2
  injection e2 with _ e3 _
  exact ht e3
/-- one command's rows turned -/
theorem Ap.upd {wc : World} {base ba n : Nat} {va : Option Addr} {vc : Nat} {R : Nat → Cr} {w w' : World} (h : Ap wc base ba n va vc R w) {i : Nat} (hi : i < n) (r' : Cr) {X : Bs} (ho : Oth X w w') (hX : ∀ b, X b → Ab va n vc R b)
    (hown : ∃ xs, w'.ownsRow base 36 12 (.slice va n vc) n xs) (hat : ∀ j, j < n → ∃ g, va = some ⟨g, 0, none⟩ ∧ w'.rangeAt g (j * 12) (ccl (upR R i r' j)))
    (h1 : w'.ownsRow base 38 2 r'.mv r'.c.st.mt.length (pcells r'.c.st.mt)) (h2 : w'.ownsRow base 3 1 r'.kv r'.c.st.kept.length (ivs r'.c.st.kept))
    (hne : ∀ j, j < n → ¬ j = i → ∀ b, X b → (R j).mv.ownBlock ≠ some b ∧ (R j).kv.ownBlock ≠ some b)
    (hm : ∀ b, r'.mv.ownBlock = some b → (R i).mv.ownBlock = some b ∨ w.heap.size ≤ b) (hk : ∀ b, r'.kv.ownBlock = some b → (R i).kv.ownBlock = some b ∨ w.heap.size ≤ b) :
    Ap wc base ba n va vc (upR R i r') w' ∧ Below base w w' := by
  have hsz := h.sz
  refine ⟨⟨hown, hat, fun j hj => ?_, fun j hj => ?_, fun j k hj hk' hjk b hb => ?_, fun j k hj hk' hjk b hb => ?_, fun b hb => ?_, fun b h1 h2 => ?_, Nat.le_trans h.sz ho.size, h.le⟩, ?_⟩
  · by_cases e : j = i
    · subst e; rw [upR_at]; exact h1
    · rw [upR_ne R r' e]
      exact own_same (h.ow j hj) fun g hg => ho.block g ((h.ow j hj).lt g hg).2 (fun q => (hne j hj e g q).1 hg)
  · by_cases e : j = i
    · subst e; rw [upR_at]; exact h2
    · rw [upR_ne R r' e]
      exact own_same (h.oi j hj) fun g hg => ho.block g ((h.oi j hj).lt g hg).2 (fun q => (hne j hj e g q).2 hg)
  · by_cases e : j = i
    · subst e
      rw [upR_at] at hb
      rw [upR_ne R r' (fun q => hjk q.symm)]
      rcases hm b hb with q | q
      · exact h.pm j k hj hk' hjk b q
      · intro q2
        have := ((h.ow k hk').lt b q2).2
        omega
    · rw [upR_ne R r' e] at hb
      by_cases e2 : k = i
      · subst e2
        rw [upR_at]
        intro q
        rcases hm b q with q | q
        · exact h.pm j k hj hk' hjk b hb q
        · have := ((h.ow j hj).lt b hb).2
          omega
      · rw [upR_ne R r' e2]
        exact h.pm j k hj hk' hjk b hb
  · by_cases e : j = i
    · subst e
      rw [upR_at] at hb
      rw [upR_ne R r' (fun q => hjk q.symm)]
      rcases hk b hb with q | q
      · exact h.pk j k hj hk' hjk b q
      · intro q2
        have := ((h.oi k hk').lt b q2).2
        omega
    · rw [upR_ne R r' e] at hb
      by_cases e2 : k = i
      · subst e2
        rw [upR_at]
        intro q
        rcases hk b q with q | q
        · exact h.pk j k hj hk' hjk b hb q
        · have := ((h.oi j hj).lt b hb).2
          omega
      · rw [upR_ne R r' e2]
        exact h.pk j k hj hk' hjk b hb
  · rcases hb with q | ⟨j, hj, q⟩
    · exact h.lo b (.inl q)
    · by_cases e : j = i
      · subst e
        rw [upR_at] at q
        rcases q with q | q
        · rcases hm b q with z | z
          · exact h.lo b (.inr ⟨j, hj, .inl z⟩)
          · right; omega
        · rcases hk b q with z | z
          · exact h.lo b (.inr ⟨j, hj, .inr z⟩)
          · right; omega
      · rw [upR_ne R r' e] at q
        exact h.lo b (.inr ⟨j, hj, q⟩)
  · rw [ho.block b (by omega) (fun q => by rcases h.lo b (hX b q) with z | z <;> omega)]
    exact h.kp b h1 h2
  · have hle := h.le
    exact ⟨ho.os, ho.tape, ho.output, ho.size, fun k hk => ho.block k (by omega) (fun q => by have := (h.lt (hX k q)).1; omega)⟩
/-- the room of an owned row -/
theorem own_room' {base n s : Nat} {w : World} {t : TypeId} {a : Option Addr} {len cap : Nat} {xs : List Value} (h : w.ownsRow base t s (.slice a len cap) n xs) (hn : 0 < n) : len = n ∧ n ≤ cap ∧ cap ≤ 9223372036854775807 ∧ ∃ g, a = some ⟨g, 0, none⟩ := by
  rcases h.2 with ⟨e, h0⟩ | ⟨g, c, cur, e, h1, h2, h3, h4, h5⟩
  · omega
  · injection e with e1 e2 e3
    subst e1 e2 e3
    exact ⟨rfl, h3, h4, g, rfl⟩
theorem Ap.start {base : Nat} {wa wc : World} {va : Option Addr} {vc : Nat} {Rl : List Cr} (h : Fc base wa (.slice va Rl.length vc) Rl) (hb : Below wa.heap.size wa wc) (d : Cr) : Ap wc base wa.heap.size Rl.length va vc (fun i => Rl.getD i d) wc := by
  have hc := h.later hb
  have hg : ∀ i, i < Rl.length → Rl[i]? = some (Rl.getD i d) := fun i hi => by rw [List.getD_eq_getElem?_getD, List.getElem?_eq_getElem hi]; rfl
  refine ⟨⟨_, hc.own⟩, fun i hi => ?_, fun i hi => hc.ow _ (List.mem_of_getElem? (hg i hi)), fun i hi => hc.oi _ (List.mem_of_getElem? (hg i hi)), fun i j hi hj hij b hb => hc.pm i j _ _ hij (hg i hi) (hg j hj) b hb, fun i j hi hj hij b hb => hc.pk i j _ _ hij (hg i hi) (hg j hj) b hb, fun b q => ?_, fun _ _ _ => rfl, Nat.le_refl _, hc.le⟩
  · obtain ⟨b, off, e, hlt, hr⟩ := range_own hc.own (hg i hi)
    obtain ⟨-, -, -, g, e2⟩ := own_room' hc.own (by omega)
    rw [e2] at e
    injection e with e
    injection e with e1 e3 _
    subst e1 e3
    exact ⟨g, e2, by simpa using hr⟩
  · left
    rcases q with q | ⟨i, hi, q | q⟩
    · exact (h.lt (.inl q)).2
    · exact (h.lt (.inr ⟨_, List.mem_of_getElem? (hg i hi), .inl q⟩)).2
    · exact (h.lt (.inr ⟨_, List.mem_of_getElem? (hg i hi), .inr q⟩)).2
/-- a pair, a number put in its place -/
def stM (r : Cr) (k : Nat) (e : En) : Cr := { r with c := { r.c with st := { r.c.st with mt := r.c.st.mt.set k e } } }
def stK (r : Cr) (k : Nat) (x : Int) : Cr := { r with c := { r.c with st := { r.c.st with kept := r.c.st.kept.set k x } } }
theorem stM_ccl (r : Cr) (k : Nat) (e : En) : ccl (stM r k e) = ccl r := by simp [ccl, ccs, stM]
theorem stK_ccl (r : Cr) (k : Nat) (x : Int) : ccl (stK r k x) = ccl r := by simp [ccl, ccs, stK]
theorem Ap.pair {wc : World} {base ba n : Nat} {va : Option Addr} {vc : Nat} {R : Nat → Cr} {w : World} (h : Ap wc base ba n va vc R w) {i k : Nat} (hi : i < n) (hk : k < (R i).c.st.mt.length) (e : En) {q : Nat} (hq : (R i).ma = some ⟨q, 0, none⟩) :
    Ap wc base ba n va vc (upR R i (stM (R i) k e)) ((w.setCell ⟨q, k * 2, none⟩ (str e.key)).setCell ⟨q, k * 2 + 1, none⟩ (str e.val)) ∧ Below base w ((w.setCell ⟨q, k * 2, none⟩ (str e.key)).setCell ⟨q, k * 2 + 1, none⟩ (str e.val)) := by
  have hb : (R i).mv.ownBlock = some q := by show (Value.slice (R i).ma _ _).ownBlock = _; rw [hq]; rfl
  have ho : Oth (fun b => b = q) w ((w.setCell ⟨q, k * 2, none⟩ (str e.key)).setCell ⟨q, k * 2 + 1, none⟩ (str e.val)) := ((Oth.refl (fun b => b = q) w).set (X := fun b => b = q) (g := q) rfl).set (X := fun b => b = q) (g := q) rfl
  obtain ⟨xs, hx⟩ := h.own
  have hv : (Value.slice va n vc).ownBlock ≠ some q := own_ne (by decide) (h.ow i hi) hx hb
  have same : ∀ g, g < w.heap.size → g ≠ q → ((w.setCell ⟨q, k * 2, none⟩ (str e.key)).setCell ⟨q, k * 2 + 1, none⟩ (str e.val)).heap[g]? = w.heap[g]? := fun g hg hn => ho.block g hg hn
  refine h.upd hi (stM (R i) k e) ho (fun b hb' => .inr ⟨i, hi, .inl (by rw [show b = q from hb']; exact hb)⟩) ⟨xs, own_same hx fun g hg => same g (hx.lt g hg).2 (fun z => hv (by rw [← z]; exact hg))⟩ (fun j hj => ?_) ?_ ?_ (fun j hj hne b hb' => ?_) (fun b hb' => .inl ?_) (fun b hb' => .inl hb')
  · obtain ⟨g, e1, hr⟩ := h.at' j hj
    refine ⟨g, e1, ?_⟩
    have hgl : g < w.heap.size := (hx.lt g (by rw [e1]; rfl)).2
    have hgn : g ≠ q := fun z => hv (by rw [e1, z]; rfl)
    have e2 : ccl (upR R i (stM (R i) k e) j) = ccl (R j) := by
      by_cases z : j = i
      · subst z; rw [upR_at, stM_ccl]
      · rw [upR_ne R _ z]
    rw [e2]
    exact range_same hr (same g hgl hgn)
  · have o := h.ow i hi
    have o1 : w.ownsRow base 38 2 (.slice (some ⟨q, 0, none⟩) (R i).c.st.mt.length (R i).mc) (R i).c.st.mt.length (pcells (R i).c.st.mt) := by rw [← hq]; exact o
    have o2 := own_cellT (own_cellT o1 (k * 2) (str e.key)) (k * 2 + 1) (str e.val)
    rw [← pcells_set _ _ _ hk] at o2
    show World.ownsRow _ base 38 2 (.slice (R i).ma ((R i).c.st.mt.set k e).length (R i).mc) ((R i).c.st.mt.set k e).length (pcells ((R i).c.st.mt.set k e))
    rw [List.length_set, hq]
    exact o2
  · exact own_same (h.oi i hi) fun g hg => same g ((h.oi i hi).lt g hg).2 (fun z => own_ne (by decide) (h.ow i hi) (h.oi i hi) hb (by rw [← z]; exact hg))
  · have hb' : b = q := hb'
    subst hb'
    exact ⟨fun z => h.pm i j hi hj (fun y => hne y.symm) b hb z, own_ne (by decide) (h.ow i hi) (h.oi j hj) hb⟩
  · have : (stM (R i) k e).mv = (R i).mv := by simp [Cr.mv, stM]
    rw [this] at hb'
    exact hb'
theorem ivs_set (l : List Int) (k : Nat) (x : Int) : ivs (l.set k x) = (ivs l).set k (.int .i64 x) := by simp [ivs, List.map_set]
theorem Ap.kept {wc : World} {base ba n : Nat} {va : Option Addr} {vc : Nat} {R : Nat → Cr} {w : World} (h : Ap wc base ba n va vc R w) {i k : Nat} (hi : i < n) (x : Int) {q : Nat} (hq : (R i).ka = some ⟨q, 0, none⟩) :
    Ap wc base ba n va vc (upR R i (stK (R i) k x)) (w.setCell ⟨q, k, none⟩ (.int .i64 x)) ∧ Below base w (w.setCell ⟨q, k, none⟩ (.int .i64 x)) := by
  have hb : (R i).kv.ownBlock = some q := by show (Value.slice (R i).ka _ _).ownBlock = _; rw [hq]; rfl
  have ho : Oth (fun b => b = q) w (w.setCell ⟨q, k, none⟩ (.int .i64 x)) := (Oth.refl (fun b => b = q) w).set (X := fun b => b = q) (g := q) rfl
  obtain ⟨xs, hx⟩ := h.own
  have hv : (Value.slice va n vc).ownBlock ≠ some q := own_ne (by decide) (h.oi i hi) hx hb
  have same : ∀ g, g < w.heap.size → g ≠ q → (w.setCell ⟨q, k, none⟩ (.int .i64 x)).heap[g]? = w.heap[g]? := fun g hg hn => ho.block g hg hn
  refine h.upd hi (stK (R i) k x) ho (fun b hb' => .inr ⟨i, hi, .inr (by rw [show b = q from hb']; exact hb)⟩) ⟨xs, own_same hx fun g hg => same g (hx.lt g hg).2 (fun z => hv (by rw [← z]; exact hg))⟩ (fun j hj => ?_) ?_ ?_ (fun j hj hne b hb' => ?_) (fun b hb' => .inl hb') (fun b hb' => .inl ?_)
  · obtain ⟨g, e1, hr⟩ := h.at' j hj
    refine ⟨g, e1, ?_⟩
    have hgl : g < w.heap.size := (hx.lt g (by rw [e1]; rfl)).2
    have hgn : g ≠ q := fun z => hv (by rw [e1, z]; rfl)
    have e2 : ccl (upR R i (stK (R i) k x) j) = ccl (R j) := by
      by_cases z : j = i
      · subst z; rw [upR_at, stK_ccl]
      · rw [upR_ne R _ z]
    rw [e2]
    exact range_same hr (same g hgl hgn)
  · exact own_same (h.ow i hi) fun g hg => same g ((h.ow i hi).lt g hg).2 (fun z => own_ne (by decide) (h.oi i hi) (h.ow i hi) hb (by rw [← z]; exact hg))
  · have o := h.oi i hi
    have o1 : w.ownsRow base 3 1 (.slice (some ⟨q, 0, none⟩) (R i).c.st.kept.length (R i).kc) (R i).c.st.kept.length (ivs (R i).c.st.kept) := by rw [← hq]; exact o
    have o2 := own_cellT o1 k (.int .i64 x)
    rw [← ivs_set] at o2
    show World.ownsRow _ base 3 1 (.slice (R i).ka ((R i).c.st.kept.set k x).length (R i).kc) ((R i).c.st.kept.set k x).length (ivs ((R i).c.st.kept.set k x))
    rw [List.length_set, hq]
    exact o2
  · have hb' : b = q := hb'
    subst hb'
    exact ⟨own_ne (by decide) (h.oi i hi) (h.ow j hj) hb, fun z => h.pk i j hi hj (fun y => hne y.symm) b hb z⟩
  · have : (stK (R i) k x).kv = (R i).kv := by simp [Cr.kv, stK]
    rw [this] at hb'
    exact hb'
/-- one pair more, told with what stays -/
theorem run_psK {M : Nat} {w1 : World} {v : Value} {l : List En} (p : En) (hO : w1.ownsRow M 38 2 v l.length (pcells l)) (hle : M ≤ w1.heap.size) (hn : l.length ≤ 1000000) :
    ∃ g kc w', (∀ ty, (Builtin.append_ #[31, 31] ty #[v, .slice (some ⟨w1.heap.size, 0, none⟩) 1 1]).run Tryd.prog (w1.alloc (.cells #[str p.key, str p.val] 38)) = .ok (.slice (some ⟨g, 0, none⟩) (l.length + 1) kc) w') ∧ w'.ownsRow M 38 2 (.slice (some ⟨g, 0, none⟩) (l.length + 1) kc) (l.length + 1) (pcells (l ++ [p])) ∧ Oth (fun b => v.ownBlock = some b) w1 w' ∧ (v.ownBlock = some g ∨ w1.heap.size ≤ g) := by
  obtain ⟨i0, hi0, hz0, hz1, hz2⟩ := infoP
  have hm : maxLen = 9223372036854775807 := rfl
  have o1 := hO.alloc (.cells #[str p.key, str p.val] 38)
  obtain ⟨g, cap, w', hr, hown, hgrow, hat, _⟩ := run_append_lies (P := Tryd.prog) (w := w1.alloc (.cells #[str p.key, str p.val] 38)) 31 38 M 38 i0 _ 2 32 Tryd.underlying31 hi0 hz0 hz1 hz2 rfl (by omega) v l.length (pcells l) o1 ⟨w1.heap.size, 0, none⟩ 1 1 [str p.key, str p.val] rfl
      (World.news_of_block (cs := #[str p.key, str p.val]) (t := 38) (fr := (0, 0)) (heap_alloc_new w1 _)) (by simp [Value.oneCell']) (by omega) (by rw [hm]; omega) (by omega) (by simp; omega) (w1.heap.size + 1) (by simp)
  have hbl := ((Below.refl M w1).alloc hle (.cells #[str p.key, str p.val] 38)).trans (grown_below o1 (by simp; omega) hgrow)
  refine ⟨g, cap, w', fun ty => hr, by rw [pcells_append]; exact hown, ⟨hbl.os, hbl.tape, hbl.output, hbl.size, fun b hb hne => ?_⟩, ?_⟩
  · rw [hgrow.block b (by simp; omega) (Ne.symm hne)]; exact heap_alloc_old _ _ _ hb
  · rcases hat with q | q
    · exact .inl q
    · right; omega
theorem run_isK {M : Nat} {w1 : World} {v : Value} {l : List Int} (n : Int) (hO : w1.ownsRow M 3 1 v l.length (ivs l)) (hle : M ≤ w1.heap.size) (hn : l.length ≤ 1000000) :
    ∃ g kc w', (∀ ty, (Builtin.append_ #[32, 32] ty #[v, .slice (some ⟨w1.heap.size, 0, none⟩) 1 1]).run Tryd.prog (w1.alloc (.cells #[.int .i64 n] 3)) = .ok (.slice (some ⟨g, 0, none⟩) (l.length + 1) kc) w') ∧ w'.ownsRow M 3 1 (.slice (some ⟨g, 0, none⟩) (l.length + 1) kc) (l.length + 1) (ivs (l ++ [n])) ∧ Oth (fun b => v.ownBlock = some b) w1 w' ∧ (v.ownBlock = some g ∨ w1.heap.size ≤ g) := by
  obtain ⟨i0, hi0, hz0, hz1, hz2⟩ := info3
  have hm : maxLen = 9223372036854775807 := rfl
  have o1 := hO.alloc (.cells #[.int .i64 n] 3)
  obtain ⟨g, cap, w', hr, hown, hgrow, hat, _⟩ := run_append_lies (P := Tryd.prog) (w := w1.alloc (.cells #[.int .i64 n] 3)) 32 3 M 3 i0 _ 1 8 Tryd.underlying32 hi0 hz0 hz1 hz2 rfl (by omega) v l.length (ivs l) o1 ⟨w1.heap.size, 0, none⟩ 1 1 [.int .i64 n] rfl
      (World.news_of_block (cs := #[.int .i64 n]) (t := 3) (fr := (0, 0)) (heap_alloc_new w1 _)) (by simp [Value.oneCell']) (by omega) (by rw [hm]; omega) (by omega) (by simp; omega) (w1.heap.size + 1) (by simp)
  have hbl := ((Below.refl M w1).alloc hle (.cells #[.int .i64 n] 3)).trans (grown_below o1 (by simp; omega) hgrow)
  refine ⟨g, cap, w', fun ty => hr, by unfold ivs at *; rw [List.map_append]; exact hown, ⟨hbl.os, hbl.tape, hbl.output, hbl.size, fun b hb hne => ?_⟩, ?_⟩
  · rw [hgrow.block b (by simp; omega) (Ne.symm hne)]; exact heap_alloc_old _ _ _ hb
  · rcases hat with q | q
    · exact .inl q
    · right; omega
def grM (r : Cr) (e : En) (g kc : Nat) : Cr := ⟨{ r.c with st := { r.c.st with mt := r.c.st.mt ++ [e] } }, some ⟨g, 0, none⟩, kc, r.ka, r.kc⟩
def grK (r : Cr) (x : Int) (g kc : Nat) : Cr := ⟨{ r.c with st := { r.c.st with kept := r.c.st.kept ++ [x] } }, r.ma, r.mc, some ⟨g, 0, none⟩, kc⟩
theorem range_set {w : World} {g o m : Nat} {l : List Value} (h : w.rangeAt g o l) (u : Value) (hm : o ≤ m) (hn : m < o + l.length) : (w.setCell ⟨g, m, none⟩ u).rangeAt g o (l.set (m - o) u) := fun j v hv => by
  by_cases e : m - o = j
  · subst e
    have hj : m - o < l.length := by omega
    rw [List.getElem?_set_self hj] at hv
    injection hv with hv
    subst hv
    have hc := h (m - o) _ (List.getElem?_eq_getElem hj)
    rw [show o + (m - o) = m by omega] at hc ⊢
    exact World.cell?_setCell_same _ _ _ hc
  · rw [List.getElem?_set_ne e] at hv
    rw [World.cell?_setCell_other _ _ _ _ (show (⟨g, m, none⟩ : Addr) ≠ ⟨g, o + j, none⟩ from fun q => by injection q with _ q2 _; omega)]
    exact h j v hv
theorem range_far {w : World} {g o m : Nat} {l : List Value} (h : w.rangeAt g o l) (u : Value) (hm : m < o ∨ o + l.length ≤ m) : (w.setCell ⟨g, m, none⟩ u).rangeAt g o l := fun j v hv => by
  have hj := (List.getElem?_eq_some_iff.1 hv).1
  rw [World.cell?_setCell_other _ _ _ _ (show (⟨g, m, none⟩ : Addr) ≠ ⟨g, o + j, none⟩ from fun q => by injection q with _ q2 _; omega)]
  exact h j v hv
theorem grM_ccl (r : Cr) (e : En) (g kc : Nat) : ccl (grM r e g kc) = (ccl r).set 7 (.slice (some ⟨g, 0, none⟩) (r.c.st.mt.length + 1) kc) := by simp [ccl, ccs, grM]
theorem grK_ccl (r : Cr) (x : Int) (g kc : Nat) : ccl (grK r x g kc) = (ccl r).set 10 (.slice (some ⟨g, 0, none⟩) (r.c.st.kept.length + 1) kc) := by simp [ccl, ccs, grK]
/-- a command's own row grown, and the new slice put in its place -/
theorem Ap.growM {wc : World} {base ba n : Nat} {va : Option Addr} {vc : Nat} {R : Nat → Cr} {w : World} (h : Ap wc base ba n va vc R w) {i : Nat} (hi : i < n) (e : En) (hl : (R i).c.st.mt.length ≤ 1000000) {gl : Nat} (hva : va = some ⟨gl, 0, none⟩) :
    ∃ g kc w2, (∀ ty, (Builtin.append_ #[31, 31] ty #[(R i).mv, .slice (some ⟨w.heap.size, 0, none⟩) 1 1]).run Tryd.prog (w.alloc (.cells #[str e.key, str e.val] 38)) = .ok (.slice (some ⟨g, 0, none⟩) ((R i).c.st.mt.length + 1) kc) w2) ∧ w2.cell? ⟨gl, i * 12 + 7, none⟩ = some (R i).mv ∧ w2.frozen? ⟨gl, i * 12 + 7, none⟩ = false ∧
      Ap wc base ba n va vc (upR R i (grM (R i) e g kc)) (w2.setCell ⟨gl, i * 12 + 7, none⟩ (.slice (some ⟨g, 0, none⟩) ((R i).c.st.mt.length + 1) kc)) ∧ Below base w (w2.setCell ⟨gl, i * 12 + 7, none⟩ (.slice (some ⟨g, 0, none⟩) ((R i).c.st.mt.length + 1) kc)) := by
  subst hva
  obtain ⟨g, kc, w2, hr, ho2, hoth, hg⟩ := run_psK e (h.ow i hi) (Nat.le_trans h.le h.sz) hl
  obtain ⟨xs, hx⟩ := h.own
  have hgl : gl < w.heap.size := (hx.lt gl rfl).2
  have hne : (R i).mv.ownBlock ≠ some gl := own_ne (by decide) hx (h.ow i hi) rfl
  have hsame : w2.heap[gl]? = w.heap[gl]? := hoth.block gl hgl hne
  have hx2 : w2.ownsRow base 36 12 (.slice (some ⟨gl, 0, none⟩) n vc) n xs := own_same hx fun b hb => by
    have : gl = b := by simpa [Value.ownBlock] using hb
    rw [← this]; exact hsame
  have hrange : ∀ j, j < n → w2.rangeAt gl (j * 12) (ccl (R j)) := fun j hj => by
    obtain ⟨g', e1, hq⟩ := h.at' j hj
    injection e1 with e1
    injection e1 with e1 _ _
    subst e1
    exact range_same hq hsame
  have hc7 : w2.cell? ⟨gl, i * 12 + 7, none⟩ = some (R i).mv := hrange i hi 7 _ rfl
  have hgne : g ≠ gl := fun z => by
    rcases hg with q | q
    · exact hne (by rw [← z]; exact q)
    · omega
  refine ⟨g, kc, w2, hr, hc7, hx2.frozenAt _, ?_⟩
  have ho : Oth (fun b => (R i).mv.ownBlock = some b ∨ b = gl) w (w2.setCell ⟨gl, i * 12 + 7, none⟩ (.slice (some ⟨g, 0, none⟩) ((R i).c.st.mt.length + 1) kc)) := (hoth.mono (fun b q => Or.inl q)).set (X := fun b => (R i).mv.ownBlock = some b ∨ b = gl) (.inr rfl)
  refine h.upd hi (grM (R i) e g kc) ho (fun b q => ?_) ⟨_, own_cellT hx2 _ _⟩ (fun j hj => ⟨gl, rfl, ?_⟩) ?_ ?_ (fun j hj hji b q => ?_) (fun b q => ?_) (fun b q => .inl q)
  · rcases q with q | q
    · exact .inr ⟨i, hi, .inl q⟩
    · left; rw [q]; rfl
  · by_cases z : j = i
    · subst z
      rw [upR_at, grM_ccl]
      have := range_set (hrange j hj) (.slice (some ⟨g, 0, none⟩) ((R j).c.st.mt.length + 1) kc) (m := j * 12 + 7) (by omega) (by rw [ccl_len]; omega)
      rw [show j * 12 + 7 - j * 12 = 7 by omega] at this
      exact this
    · rw [upR_ne R _ z]
      exact range_far (hrange j hj) _ (by rw [ccl_len]; omega)
  · show World.ownsRow _ base 38 2 (.slice (some ⟨g, 0, none⟩) ((R i).c.st.mt ++ [e]).length kc) ((R i).c.st.mt ++ [e]).length (pcells ((R i).c.st.mt ++ [e]))
    rw [List.length_append]
    exact ownsRow_setCell_other ho2 (by show some g ≠ some gl; simpa using hgne) _
  · refine own_same (h.oi i hi) fun b hb => ho.block b ((h.oi i hi).lt b hb).2 (fun q => ?_)
    rcases q with q | q
    · exact own_ne (by decide) (h.ow i hi) (h.oi i hi) q hb
    · exact own_ne (by decide) hx (h.oi i hi) (b := b) (by rw [q]; rfl) hb
  · rcases q with q | q
    · exact ⟨fun z => h.pm i j hi hj (fun y => hji y.symm) b q z, own_ne (by decide) (h.ow i hi) (h.oi j hj) q⟩
    · rw [q]
      exact ⟨own_ne (by decide) hx (h.ow j hj) rfl, own_ne (by decide) hx (h.oi j hj) rfl⟩
  · have : g = b := by simpa [grM, Cr.mv, Value.ownBlock] using q
    rw [← this]
    exact hg
theorem Ap.growK {wc : World} {base ba n : Nat} {va : Option Addr} {vc : Nat} {R : Nat → Cr} {w : World} (h : Ap wc base ba n va vc R w) {i : Nat} (hi : i < n) (e : Int) (hl : (R i).c.st.kept.length ≤ 1000000) {gl : Nat} (hva : va = some ⟨gl, 0, none⟩) :
    ∃ g kc w2, (∀ ty, (Builtin.append_ #[32, 32] ty #[(R i).kv, .slice (some ⟨w.heap.size, 0, none⟩) 1 1]).run Tryd.prog (w.alloc (.cells #[.int .i64 e] 3)) = .ok (.slice (some ⟨g, 0, none⟩) ((R i).c.st.kept.length + 1) kc) w2) ∧ w2.cell? ⟨gl, i * 12 + 10, none⟩ = some (R i).kv ∧ w2.frozen? ⟨gl, i * 12 + 10, none⟩ = false ∧
      Ap wc base ba n va vc (upR R i (grK (R i) e g kc)) (w2.setCell ⟨gl, i * 12 + 10, none⟩ (.slice (some ⟨g, 0, none⟩) ((R i).c.st.kept.length + 1) kc)) ∧ Below base w (w2.setCell ⟨gl, i * 12 + 10, none⟩ (.slice (some ⟨g, 0, none⟩) ((R i).c.st.kept.length + 1) kc)) := by
  subst hva
  obtain ⟨g, kc, w2, hr, ho2, hoth, hg⟩ := run_isK e (h.oi i hi) (Nat.le_trans h.le h.sz) hl
  obtain ⟨xs, hx⟩ := h.own
  have hgl : gl < w.heap.size := (hx.lt gl rfl).2
  have hne : (R i).kv.ownBlock ≠ some gl := own_ne (by decide) hx (h.oi i hi) rfl
  have hsame : w2.heap[gl]? = w.heap[gl]? := hoth.block gl hgl hne
  have hx2 : w2.ownsRow base 36 12 (.slice (some ⟨gl, 0, none⟩) n vc) n xs := own_same hx fun b hb => by
    have : gl = b := by simpa [Value.ownBlock] using hb
    rw [← this]; exact hsame
  have hrange : ∀ j, j < n → w2.rangeAt gl (j * 12) (ccl (R j)) := fun j hj => by
    obtain ⟨g', e1, hq⟩ := h.at' j hj
    injection e1 with e1
    injection e1 with e1 _ _
    subst e1
    exact range_same hq hsame
  have hc7 : w2.cell? ⟨gl, i * 12 + 10, none⟩ = some (R i).kv := hrange i hi 10 _ rfl
  have hgne : g ≠ gl := fun z => by
    rcases hg with q | q
    · exact hne (by rw [← z]; exact q)
    · omega
  refine ⟨g, kc, w2, hr, hc7, hx2.frozenAt _, ?_⟩
  have ho : Oth (fun b => (R i).kv.ownBlock = some b ∨ b = gl) w (w2.setCell ⟨gl, i * 12 + 10, none⟩ (.slice (some ⟨g, 0, none⟩) ((R i).c.st.kept.length + 1) kc)) := (hoth.mono (fun b q => Or.inl q)).set (X := fun b => (R i).kv.ownBlock = some b ∨ b = gl) (.inr rfl)
  refine h.upd hi (grK (R i) e g kc) ho (fun b q => ?_) ⟨_, own_cellT hx2 _ _⟩ (fun j hj => ⟨gl, rfl, ?_⟩) ?_ ?_ (fun j hj hji b q => ?_) (fun b q => .inl q) (fun b q => ?_)
  · rcases q with q | q
    · exact .inr ⟨i, hi, .inr q⟩
    · left; rw [q]; rfl
  · by_cases z : j = i
    · subst z
      rw [upR_at, grK_ccl]
      have := range_set (hrange j hj) (.slice (some ⟨g, 0, none⟩) ((R j).c.st.kept.length + 1) kc) (m := j * 12 + 10) (by omega) (by rw [ccl_len]; omega)
      rw [show j * 12 + 10 - j * 12 = 10 by omega] at this
      exact this
    · rw [upR_ne R _ z]
      exact range_far (hrange j hj) _ (by rw [ccl_len]; omega)
  · refine own_same (h.ow i hi) fun b hb => ho.block b ((h.ow i hi).lt b hb).2 (fun q => ?_)
    rcases q with q | q
    · exact own_ne (by decide) (h.oi i hi) (h.ow i hi) q hb
    · exact own_ne (by decide) hx (h.ow i hi) (b := b) (by rw [q]; rfl) hb
  · show World.ownsRow _ base 3 1 (.slice (some ⟨g, 0, none⟩) ((R i).c.st.kept ++ [e]).length kc) ((R i).c.st.kept ++ [e]).length (ivs ((R i).c.st.kept ++ [e]))
    rw [List.length_append]
    exact ownsRow_setCell_other ho2 (by show some g ≠ some gl; simpa using hgne) _
  · rcases q with q | q
    · exact ⟨own_ne (by decide) (h.oi i hi) (h.ow j hj) q, fun z => h.pk i j hi hj (fun y => hji y.symm) b q z⟩
    · rw [q]
      exact ⟨own_ne (by decide) hx (h.ow j hj) rfl, own_ne (by decide) hx (h.oi j hj) rfl⟩
  · have : g = b := by simpa [grK, Cr.kv, Value.ownBlock] using q
    rw [← this]
    exact hg
end Go.Proofs.YtgbkloihclbimaaDoor

/- Layer 22: what ScriptApart keeps of its commands. -/
namespace Go.Proofs.YtgbkloihclbimaaDoor
set_option maxRecDepth 100000
set_option linter.unusedVariables false
set_option linter.unusedSimpArgs false
open Go.RowKit
abbrev mk6 : By := [109, 97, 114, 107, 101, 100]
abbrev gr5 : By := [103, 114, 111, 119, 110]
structure Mp (r : Cr) (m k a b : Nat) : Prop where
  ml : r.c.st.mt.length = m
  kl : r.c.st.kept.length = k
  m1 : ∀ j, j < a → ∃ e, r.c.st.mt[j]? = some e ∧ e.key = mk6
  k1 : ∀ j, j < b → r.c.st.kept[j]? = some (-1)
theorem Mp.pair {r : Cr} {m k a b : Nat} (h : Mp r m k a b) (ha : a < m) : Mp (stM r a ⟨mk6, []⟩) m k (a + 1) b := by
  refine ⟨by show (r.c.st.mt.set a _).length = m; rw [List.length_set]; exact h.ml, h.kl, fun j hj => ?_, h.k1⟩
  show ∃ e, (r.c.st.mt.set a ⟨mk6, []⟩)[j]? = some e ∧ e.key = mk6
  by_cases e : a = j
  · subst e
    exact ⟨_, List.getElem?_set_self (by rw [h.ml]; exact ha), rfl⟩
  · rw [List.getElem?_set_ne e]
    exact h.m1 j (by omega)
theorem Mp.kept {r : Cr} {m k a b : Nat} (h : Mp r m k a b) (hb : b < k) : Mp (stK r b (-1)) m k a (b + 1) := by
  refine ⟨h.ml, by show (r.c.st.kept.set b _).length = k; rw [List.length_set]; exact h.kl, h.m1, fun j hj => ?_⟩
  show (r.c.st.kept.set b (-1))[j]? = some (-1)
  by_cases e : b = j
  · subst e
    exact List.getElem?_set_self (by rw [h.kl]; exact hb)
  · rw [List.getElem?_set_ne e]
    exact h.k1 j (by omega)
structure Gp (r : Cr) (m k t u : Nat) : Prop where
  ml : r.c.st.mt.length = m + t
  kl : r.c.st.kept.length = k + u
  m1 : ∀ j, j < m → ∃ e, r.c.st.mt[j]? = some e ∧ e.key = mk6
  m2 : ∀ j, m ≤ j → j < m + t → ∃ e, r.c.st.mt[j]? = some e ∧ e.key = gr5
  k1 : ∀ j, j < k → r.c.st.kept[j]? = some (-1)
  k2 : ∀ j, k ≤ j → j < k + u → r.c.st.kept[j]? = some (-2)
theorem Mp.full {r : Cr} {m k : Nat} (h : Mp r m k m k) : Gp r m k 0 0 := ⟨h.ml, h.kl, h.m1, fun j h1 h2 => by omega, h.k1, fun j h1 h2 => by omega⟩
theorem Gp.growM {r : Cr} {m k t u : Nat} (h : Gp r m k t u) (g c : Nat) : Gp (grM r ⟨gr5, []⟩ g c) m k (t + 1) u := by
  refine ⟨by show (r.c.st.mt ++ [_]).length = _; rw [List.length_append, h.ml]; rfl, h.kl, fun j hj => ?_, fun j h1 h2 => ?_, h.k1, h.k2⟩
  · show ∃ e, (r.c.st.mt ++ [⟨gr5, []⟩])[j]? = some e ∧ e.key = mk6
    rw [List.getElem?_append_left (by rw [h.ml]; omega)]
    exact h.m1 j hj
  · show ∃ e, (r.c.st.mt ++ [⟨gr5, []⟩])[j]? = some e ∧ e.key = gr5
    by_cases e : j < m + t
    · rw [List.getElem?_append_left (by rw [h.ml]; omega)]
      exact h.m2 j h1 e
    · rw [List.getElem?_append_right (by rw [h.ml]; omega), h.ml, show j - (m + t) = 0 by omega]
      exact ⟨_, rfl, rfl⟩
theorem Gp.growK {r : Cr} {m k t u : Nat} (h : Gp r m k t u) (g c : Nat) : Gp (grK r (-2) g c) m k t (u + 1) := by
  refine ⟨h.ml, by show (r.c.st.kept ++ [_]).length = _; rw [List.length_append, h.kl]; rfl, h.m1, h.m2, fun j hj => ?_, fun j h1 h2 => ?_⟩
  · show (r.c.st.kept ++ [-2])[j]? = some (-1)
    rw [List.getElem?_append_left (by rw [h.kl]; omega)]
    exact h.k1 j hj
  · show (r.c.st.kept ++ [-2])[j]? = some (-2)
    by_cases e : j < k + u
    · rw [List.getElem?_append_left (by rw [h.kl]; omega)]
      exact h.k2 j h1 e
    · rw [List.getElem?_append_right (by rw [h.kl]; omega), h.kl, show j - (k + u) = 0 by omega]
      rfl
/-- what stands at a command -/
theorem Ap.cells {wc : World} {base ba n : Nat} {va : Option Addr} {vc : Nat} {R : Nat → Cr} {w : World} (h : Ap wc base ba n va vc R w) {i : Nat} (hi : i < n) : ∃ g, va = some ⟨g, 0, none⟩ ∧ w.cell? ⟨g, i * 12 + 3 + 4, none⟩ = some (R i).mv ∧ w.cell? ⟨g, i * 12 + 3 + 7, none⟩ = some (R i).kv := by
  obtain ⟨g, e, hr⟩ := h.at' i hi
  exact ⟨g, e, hr 7 _ rfl, hr 10 _ rfl⟩
theorem Ap.pairAt {wc : World} {base ba n : Nat} {va : Option Addr} {vc : Nat} {R : Nat → Cr} {w : World} (h : Ap wc base ba n va vc R w) {i k : Nat} (hi : i < n) {e : En} (hk : (R i).c.st.mt[k]? = some e) : ∃ q, (R i).ma = some ⟨q, 0, none⟩ ∧ w.cell? ⟨q, k * 2, none⟩ = some (str e.key) ∧ w.cell? ⟨q, k * 2 + 1, none⟩ = some (str e.val) ∧ ∀ j, w.frozen? ⟨q, j, none⟩ = false := by
  have hl := (List.getElem?_eq_some_iff.1 hk).1
  have o := h.ow i hi
  obtain ⟨-, -, -, q, hq⟩ := own_room' o (by omega)
  have o1 : w.ownsRow base 38 2 (.slice (some ⟨q, 0, none⟩) (R i).c.st.mt.length (R i).mc) (R i).c.st.mt.length (pcells (R i).c.st.mt) := by rw [← hq]; exact o
  obtain ⟨p0, p1⟩ := pcells_get hk
  exact ⟨q, hq, by rw [o1.cellAt _ (by omega)]; exact p0, by rw [o1.cellAt _ (by omega)]; exact p1, fun j => o1.frozenAt j⟩
theorem Ap.keptAt {wc : World} {base ba n : Nat} {va : Option Addr} {vc : Nat} {R : Nat → Cr} {w : World} (h : Ap wc base ba n va vc R w) {i k : Nat} (hi : i < n) {x : Int} (hk : (R i).c.st.kept[k]? = some x) : ∃ q, (R i).ka = some ⟨q, 0, none⟩ ∧ w.cell? ⟨q, k, none⟩ = some (.int .i64 x) ∧ ∀ j, w.frozen? ⟨q, j, none⟩ = false := by
  have hl := (List.getElem?_eq_some_iff.1 hk).1
  have o := h.oi i hi
  obtain ⟨-, -, -, q, hq⟩ := own_room' o (by omega)
  have o1 : w.ownsRow base 3 1 (.slice (some ⟨q, 0, none⟩) (R i).c.st.kept.length (R i).kc) (R i).c.st.kept.length (ivs (R i).c.st.kept) := by rw [← hq]; exact o
  exact ⟨q, hq, by rw [o1.cellAt _ (by omega)]; unfold ivs; rw [List.getElem?_map, hk]; rfl, fun j => o1.frozenAt j⟩
theorem Ap.of_heap {wc : World} {base ba n : Nat} {va : Option Addr} {vc : Nat} {R : Nat → Cr} {w w' : World} (h : Ap wc base ba n va vc R w) (hb : Below w.heap.size w w') : Ap wc base ba n va vc R w' := by
  obtain ⟨xs, hx⟩ := h.own
  refine ⟨⟨xs, own_on hx hb⟩, fun i hi => ?_, fun i hi => own_on (h.ow i hi) hb, fun i hi => own_on (h.oi i hi) hb, h.pm, h.pk, h.lo, fun b h1 h2 => ?_, Nat.le_trans h.sz hb.size, h.le⟩
  · obtain ⟨g, e, hr⟩ := h.at' i hi
    exact ⟨g, e, range_same hr (hb.block g (hx.lt g (by rw [e]; rfl)).2)⟩
  · rw [hb.block b (Nat.lt_of_lt_of_le h2 h.sz)]; exact h.kp b h1 h2
/-- loop one's keeping -/
structure L1s (wc : World) (base ba n : Nat) (va : Option Addr) (vc : Nat) (ml kl : Nat → Nat) (i a b : Nat) (wr : World) : Prop where
  ex : ∃ R, Ap wc base ba n va vc R wr ∧ (∀ j, j < i → j < n → Mp (R j) (ml j) (kl j) (ml j) (kl j)) ∧ (∀ j, i < j → j < n → Mp (R j) (ml j) (kl j) 0 0) ∧ (i < n → Mp (R i) (ml i) (kl i) a b)
  bel : Below base wc wr
theorem L1s.pair {wc : World} {base ba n : Nat} {va : Option Addr} {vc : Nat} {ml kl : Nat → Nat} {i a b : Nat} {wr : World} (h : L1s wc base ba n va vc ml kl i a b wr) (hi : i < n) (ha : a < ml i) :
    ∃ g q c k0 v0 mc, va = some ⟨g, 0, none⟩ ∧ wr.cell? ⟨g, i * 12 + 3 + 4, none⟩ = some (.slice (some ⟨q, 0, none⟩) (ml i) mc) ∧ wr.cell? ⟨q, a * 2, none⟩ = some (str k0) ∧ wr.cell? ⟨q, a * 2 + 1, none⟩ = some (str v0) ∧ (∀ j, wr.frozen? ⟨q, j, none⟩ = false) ∧ c = (wr.setCell ⟨q, a * 2, none⟩ (str mk6)).setCell ⟨q, a * 2 + 1, none⟩ (str []) ∧ L1s wc base ba n va vc ml kl i (a + 1) b c := by
  obtain ⟨R, hA, h1, h2, h3⟩ := h.ex
  have h3 := h3 hi
  obtain ⟨g, e, c7, c10⟩ := hA.cells hi
  obtain ⟨p, hp⟩ : ∃ p, (R i).c.st.mt[a]? = some p := ⟨_, List.getElem?_eq_getElem (by rw [h3.ml]; exact ha)⟩
  obtain ⟨q, hq, s0, s1, fz⟩ := hA.pairAt hi hp
  obtain ⟨hN, hB⟩ := hA.pair hi (by rw [h3.ml]; exact ha) ⟨mk6, []⟩ hq
  refine ⟨g, q, _, p.key, p.val, (R i).mc, e, ?_, s0, s1, fz, rfl, ⟨⟨_, hN, fun j hj hjn => ?_, fun j hj hjn => ?_, fun _ => ?_⟩, h.bel.trans hB⟩⟩
  · rw [c7]; show some (Value.slice (R i).ma (R i).c.st.mt.length (R i).mc) = _; rw [hq, h3.ml]
  · rw [upR_ne R _ (by omega)]; exact h1 j hj hjn
  · rw [upR_ne R _ (by omega)]; exact h2 j hj hjn
  · rw [upR_at]; exact h3.pair ha
theorem L1s.kept {wc : World} {base ba n : Nat} {va : Option Addr} {vc : Nat} {ml kl : Nat → Nat} {i a b : Nat} {wr : World} (h : L1s wc base ba n va vc ml kl i a b wr) (hi : i < n) (hb : b < kl i) :
    ∃ g q c k0 kc, va = some ⟨g, 0, none⟩ ∧ wr.cell? ⟨g, i * 12 + 3 + 7, none⟩ = some (.slice (some ⟨q, 0, none⟩) (kl i) kc) ∧ wr.cell? ⟨q, b, none⟩ = some (.int .i64 k0) ∧ (∀ j, wr.frozen? ⟨q, j, none⟩ = false) ∧ c = wr.setCell ⟨q, b, none⟩ (.int .i64 (-1)) ∧ L1s wc base ba n va vc ml kl i a (b + 1) c := by
  obtain ⟨R, hA, h1, h2, h3⟩ := h.ex
  have h3 := h3 hi
  obtain ⟨g, e, c7, c10⟩ := hA.cells hi
  obtain ⟨p, hp⟩ : ∃ p, (R i).c.st.kept[b]? = some p := ⟨_, List.getElem?_eq_getElem (by rw [h3.kl]; exact hb)⟩
  obtain ⟨q, hq, s0, fz⟩ := hA.keptAt hi hp
  obtain ⟨hN, hB⟩ := hA.kept (k := b) hi (-1) hq
  refine ⟨g, q, _, p, (R i).kc, e, ?_, s0, fz, rfl, ⟨⟨_, hN, fun j hj hjn => ?_, fun j hj hjn => ?_, fun _ => ?_⟩, h.bel.trans hB⟩⟩
  · rw [c10]; show some (Value.slice (R i).ka (R i).c.st.kept.length (R i).kc) = _; rw [hq, h3.kl]
  · rw [upR_ne R _ (by omega)]; exact h1 j hj hjn
  · rw [upR_ne R _ (by omega)]; exact h2 j hj hjn
  · rw [upR_at]; exact h3.kept hb
theorem L1s.lens {wc : World} {base ba n : Nat} {va : Option Addr} {vc : Nat} {ml kl : Nat → Nat} {i a b : Nat} {wr : World} (h : L1s wc base ba n va vc ml kl i a b wr) (hi : i < n) :
    ∃ g ma mc ka kc, va = some ⟨g, 0, none⟩ ∧ wr.cell? ⟨g, i * 12 + 3 + 4, none⟩ = some (.slice ma (ml i) mc) ∧ wr.cell? ⟨g, i * 12 + 3 + 7, none⟩ = some (.slice ka (kl i) kc) := by
  obtain ⟨R, hA, h1, h2, h3⟩ := h.ex
  have h3 := h3 hi
  obtain ⟨g, e, c7, c10⟩ := hA.cells hi
  exact ⟨g, (R i).ma, (R i).mc, (R i).ka, (R i).kc, e, by rw [c7]; show some (Value.slice _ (R i).c.st.mt.length _) = _; rw [h3.ml], by rw [c10]; show some (Value.slice _ (R i).c.st.kept.length _) = _; rw [h3.kl]⟩
theorem L1s.next {wc : World} {base ba n : Nat} {va : Option Addr} {vc : Nat} {ml kl : Nat → Nat} {i : Nat} {wr : World} (h : L1s wc base ba n va vc ml kl i (ml i) (kl i) wr) (hi : i < n) : L1s wc base ba n va vc ml kl (i + 1) 0 0 wr := by
  obtain ⟨R, hA, h1, h2, h3⟩ := h.ex
  refine ⟨⟨R, hA, fun j hj hjn => ?_, fun j hj hjn => h2 j (by omega) hjn, fun hn => h2 (i + 1) (by omega) hn⟩, h.bel⟩
  by_cases e : j = i
  · subst e; exact h3 hi
  · exact h1 j (by omega) hjn
end Go.Proofs.YtgbkloihclbimaaDoor

/- Layer 22: what was handed in is looked at again. -/
namespace Go.Proofs.YtgbkloihclbimaaDoor
set_option maxRecDepth 100000
set_option linter.unusedVariables false
set_option linter.unusedSimpArgs false
open Go.RowKit
attribute [local go_sem ↓] Go.wp_at_zero Go.wp_at_succ slPe slKe slCe
theorem own_less {base n s : Nat} {w : World} {t : TypeId} {a : Option Addr} {cap : Nat} {xs ys : List Value} (h : w.ownsRow base t s (.slice a (n + 1) cap) (n + 1) (xs ++ ys)) (hx : xs.length = n * s) : w.ownsRow base t s (.slice a n cap) n xs := by
  refine ⟨hx, ?_⟩
  rcases h.2 with ⟨e, h0⟩ | ⟨g, c, cur, e, h2, h3, h4, h5, h6, h7⟩
  · omega
  · injection e with e1 e2 e3
    subst e1 e3
    refine .inr ⟨g, cap, cur, rfl, h2, h3, by omega, h5, h6, ?_⟩
    have := congrArg (List.take (n * s)) h7
    rw [List.take_take, List.take_left' hx, Nat.min_eq_left (Nat.mul_le_mul_right s (by omega))] at this
    exact this
theorem Gv.later {base : Nat} {w w' : World} {va : Option Addr} {vc : Nat} {R : List Cr} (h : Gv base w va vc R) (hb : Below w.heap.size w w') : Gv base w' va vc R := ⟨own_on h.own hb, Nat.le_trans h.le hb.size, fun r hr => own_on (h.ow r hr) hb, fun r hr => own_on (h.oi r hr) hb, h.pm, h.pk⟩
theorem Gv.ow1 {base : Nat} {w : World} {va : Option Addr} {vc : Nat} {R : List Cr} (h : Gv base w va vc R) {r : Cr} (hr : r ∈ R) : w.ownsRow base 38 2 r.mv r.c.st.mt.length (pcells r.c.st.mt) := by
  have o := h.ow r hr
  rw [pcells_append] at o
  exact own_less o (by rw [pcells_length])
theorem Gv.oi1 {base : Nat} {w : World} {va : Option Addr} {vc : Nat} {R : List Cr} (h : Gv base w va vc R) {r : Cr} (hr : r ∈ R) : w.ownsRow base 3 1 r.kv r.c.st.kept.length (ivs r.c.st.kept) := by
  have o := h.oi r hr
  have e : ivs (r.c.st.kept ++ [-77]) = ivs r.c.st.kept ++ ivs [-77] := by simp [ivs]
  rw [e] at o
  exact own_less o (by simp [ivs])
theorem Gv.ct {base : Nat} {w : World} {va : Option Addr} {vc : Nat} {R : List Cr} (h : Gv base w va vc R) : CT w va R := fun k r hk => by
  have hm := List.mem_of_getElem? hk
  obtain ⟨b, e, hlt, hr⟩ := h.range hk
  exact ⟨b, 0, e, hlt, by rw [Nat.zero_add]; exact hr, sl_own (B := base) h.le (h.ow1 hm), si_own (B := base) (h.oi1 hm)⟩
theorem Gv.end77 {base : Nat} {w : World} {va : Option Addr} {vc : Nat} {R : List Cr} (h : Gv base w va vc R) : ∃ b, va = some ⟨b, 0, none⟩ ∧ b < w.heap.size ∧ R.length + 1 ≤ vc ∧ vc ≤ 9223372036854775807 ∧ w.cell? ⟨b, R.length * 12, none⟩ = some (.int .i64 (-77)) := by
  obtain ⟨-, h1, h2, g, hg⟩ := own_room h.own (Nat.succ_pos _)
  subst hg
  refine ⟨g, rfl, (h.own.lt g rfl).2, h1, h2, ?_⟩
  rw [h.own.cellAt _ (by omega), List.getElem?_append_right (by rw [rcl_len]; omega), rcl_len, Nat.sub_self]
  rfl
theorem Gv.marks {base : Nat} {w : World} {va : Option Addr} {vc : Nat} {R : List Cr} (h : Gv base w va vc R) {r : Cr} (hm : r ∈ R) : (∃ q, r.ma = some ⟨q, 0, none⟩ ∧ q < w.heap.size ∧ r.c.st.mt.length + 1 ≤ r.mc ∧ r.mc ≤ 9223372036854775807 ∧ w.cell? ⟨q, r.c.st.mt.length * 2, none⟩ = some (.string ⟨#[109, 97, 114, 107]⟩)) ∧ (∃ q, r.ka = some ⟨q, 0, none⟩ ∧ q < w.heap.size ∧ r.c.st.kept.length + 1 ≤ r.kc ∧ r.kc ≤ 9223372036854775807 ∧ w.cell? ⟨q, r.c.st.kept.length, none⟩ = some (.int .i64 (-77))) := by
  have o1 := h.ow r hm
  have o2 := h.oi r hm
  constructor
  · obtain ⟨-, h1, h2, g, hg⟩ := own_room o1 (Nat.succ_pos _)
    refine ⟨g, hg, ?_, h1, h2, ?_⟩
    · have := o1.lt g (by show (Value.slice r.ma _ _).ownBlock = some g; rw [hg]; rfl)
      exact this.2
    · have o3 : w.ownsRow base 38 2 (.slice (some ⟨g, 0, none⟩) (r.c.st.mt.length + 1) r.mc) (r.c.st.mt.length + 1) (pcells (r.c.st.mt ++ [mkE])) := by rw [← hg]; exact o1
      rw [o3.cellAt _ (by omega), pcells_append, List.getElem?_append_right (by rw [pcells_length]; omega), pcells_length, Nat.sub_self]
      rfl
  · obtain ⟨-, h1, h2, g, hg⟩ := own_room o2 (Nat.succ_pos _)
    refine ⟨g, hg, ?_, h1, h2, ?_⟩
    · have := o2.lt g (by show (Value.slice r.ka _ _).ownBlock = some g; rw [hg]; rfl)
      exact this.2
    · have o3 : w.ownsRow base 3 1 (.slice (some ⟨g, 0, none⟩) (r.c.st.kept.length + 1) r.kc) (r.c.st.kept.length + 1) (ivs (r.c.st.kept ++ [-77])) := by rw [← hg]; exact o2
      rw [o3.cellAt _ (by omega)]
      simp [ivs]
set_option maxHeartbeats 2000000 in
theorem kept_any {base : Nat} (L R : List Cr) (la va : Option Addr) (lc vc : Nat) (w : World) (hG : Gv base w va vc R) (hR : R.map (·.c) = L.map (·.c)) (hL : CT w la L) (hn : L.length ≤ 170000000) (hb : ∀ r ∈ L, r.c.st.mt.length ≤ 170000000 ∧ r.c.st.kept.length ≤ 170000000) :
    Calls Tryd.prog 8 #[.slice va L.length vc, .slice la L.length lc] w fun e w' => e = .returned (.bool true) ∧ Below w.heap.size w w' := by
  have hlen : R.length = L.length := by have := congrArg List.length hR; simpa using this
  have hbR : ∀ r ∈ R, r.c.st.mt.length ≤ 170000000 ∧ r.c.st.kept.length ≤ 170000000 := fun r hr => by
    have : r.c ∈ L.map (·.c) := by rw [← hR]; exact List.mem_map.2 ⟨r, hr, rfl⟩
    obtain ⟨x, hx, e⟩ := List.mem_map.1 this
    rw [← e]; exact hb x hx
  have HBL := Hid.mk hb
  have tld := told_any R va vc w hG.ct (by omega) (fun r hr => by have := hbR r hr; omega)
  rw [hlen] at tld
  have HR := Hid.mk hR
  have HG := Hid.mk hG
  have HCL := Hid.mk hL
  have HLEN := Hid.mk hlen
  clear hG hR hL hlen hbR hb
  go_enter Tryd.func8, Tryd.ntmps8
  go_wp2_with fail
  with_reducible refine Calls.mono tld ?_
  rintro e w1 ⟨ta, tc, Rt, rfl, hQ, hRt, b1⟩
  have htl : Rt.length = L.length := by have := congrArg List.length hRt; have h2 := HLEN.out; simp at this; omega
  have sm := same_eq Rt L (hRt.trans HR.out) ta la tc lc w1 (CT.ofFq hQ) (HCL.out.later b1) (by omega) (fun r hr => by
    have : r.c ∈ L.map (·.c) := by rw [← HR.out, ← hRt]; exact List.mem_map.2 ⟨r, hr, rfl⟩
    obtain ⟨x, hx, e⟩ := List.mem_map.1 this
    have := HBL.out x hx
    rw [← e]; omega)
  replace htl := Hid.mk htl
  clear tld hQ
  dsimp only
  go_wp2_with fail
  with_reducible refine Calls.mono sm ?_
  rintro e w2 ⟨rfl, b2⟩
  have HB := Hid.mk (below_seq b1 b2)
  have hG2 := HG.out.later HB.out
  obtain ⟨b, hva, hbl, hc1, hc2, hc77⟩ := hG2.end77
  rw [HLEN.out] at hc77 hc1
  have hsl : ∀ w, (slC (.slice va L.length vc) none (some (.int .i64 ((L.length : Int) + 1))) none).run Tryd.prog w = .ok (.slice va (L.length + 1) vc) w := fun w => run_slC va L.length vc (L.length + 1) hc1 hc2 (fun q => by rw [hva] at q; cases q) w
  subst hva
  have i1 : (L.length : Int) < ((L.length : Int) + 1) := by omega
  have i2 : (L.length : Int) < ((L.length + 1 : Nat) : Int) := by omega
  have i3 : (0 : Int) ≤ (L.length : Int) := Int.natCast_nonneg _
  clear sm b1 b2 hRt hG2 hc1 hc2
  dsimp only
  go_wp2_with fail
  clear hsl hc77 i1 i2 i3
  go_loopw [5, 6, 7] (fun i _ _ wr => ∃ k : Nat, i = .int .i64 k ∧ k ≤ L.length ∧ Hid (Below w.heap.size w wr)) (fun i _ _ _ => L.length - (intOf i).toNat)
  case atStart => exact ⟨0, rfl, Nat.zero_le _, HB⟩
  case round =>
    clear HB
    obtain ⟨k, rfl, hk, HB⟩ := hrel
    by_cases hlt : k < L.length
    · have d1 : decide ((k : Int) < (L.length : Int)) = true := decide_eq_true (Int.ofNat_lt.2 hlt)
      have k0 : (0 : Int) ≤ (k : Int) := Int.natCast_nonneg k
      have k1 : (k : Int) < (L.length : Int) := Int.ofNat_lt.2 hlt
      obtain ⟨r, hget⟩ : ∃ r, L[k]? = some r := ⟨_, List.getElem?_eq_getElem hlt⟩
      obtain ⟨b2, off, ea, hb2, hr, -, -⟩ := (HCL.out.later HB.out) k r hget
      subst ea
      have q4 : wr.cell? ⟨b2, off + k * 12 + 3 + 4, none⟩ = some (.slice r.ma r.c.st.mt.length r.mc) := hr 7 _ rfl
      have q7 : wr.cell? ⟨b2, off + k * 12 + 3 + 7, none⟩ = some (.slice r.ka r.c.st.kept.length r.kc) := hr 10 _ rfl
      have hbd := HBL.out r (List.mem_of_getElem? hget)
      have HX : Hid (∃ ma mc ka kc, R[k]? = some ⟨r.c, ma, mc, ka, kc⟩) := ⟨by
        have h := congrArg (·[k]?) HR.out
        simp only [List.getElem?_map, hget] at h
        cases hq : R[k]? with
        | none => rw [hq] at h; cases h
        | some rr =>
          rw [hq] at h
          obtain ⟨c, ma, mc, ka, kc⟩ := rr
          injection h with h
          dsimp only at h
          subst h
          exact ⟨ma, mc, ka, kc, rfl⟩⟩
      generalize r.c = c at *
      clear hr hget hb2
      go_wp2_with fail
      go_quiet (fail)
      have HB2 : Hid (Below w.heap.size w (wr.drewN nq)) := ⟨HB.out.trans ⟨rfl, rfl, rfl, Nat.le_refl _, fun _ _ => rfl⟩⟩
      generalize wr.drewN nq = wy at *
      clear q4 q7 HB
      obtain ⟨ma, mc, ka, kc, hgr⟩ := HX.out
      have hG := HG.out.later HB2.out
      obtain ⟨⟨qm, em, hqm, m1, m2, mk⟩, ⟨qk, ek, hqk, n1, n2, nk⟩⟩ := hG.marks (List.mem_of_getElem? hgr)
      obtain ⟨b', eb, -, hrr⟩ := hG.range hgr
      injection eb with eb
      injection eb with eb _ _
      subst eb
      have c4 : wy.cell? ⟨b, k * 12 + 3 + 4, none⟩ = some (.slice ma c.st.mt.length mc) := hrr 7 _ rfl
      have c7 : wy.cell? ⟨b, k * 12 + 3 + 7, none⟩ = some (.slice ka c.st.kept.length kc) := hrr 10 _ rfl
      dsimp only at em ek m1 m2 n1 n2 mk nk
      subst em ek
      have s1 : ∀ w, (slP (.slice (some ⟨qm, 0, none⟩) c.st.mt.length mc) none (some (.int .i64 ((c.st.mt.length : Int) + 1))) none).run Tryd.prog w = .ok (.slice (some ⟨qm, 0, none⟩) (c.st.mt.length + 1) mc) w := fun w => run_slP _ _ _ (c.st.mt.length + 1) m1 m2 (fun q => by cases q) w
      have s2 : ∀ w, (slK (.slice (some ⟨qk, 0, none⟩) c.st.kept.length kc) none (some (.int .i64 ((c.st.kept.length : Int) + 1))) none).run Tryd.prog w = .ok (.slice (some ⟨qk, 0, none⟩) (c.st.kept.length + 1) kc) w := fun w => run_slK _ _ _ (c.st.kept.length + 1) n1 n2 (fun q => by cases q) w
      have hb1 := hbd.1
      have hb3 := hbd.2
      have j0 : (0 : Int) ≤ (c.st.mt.length : Int) := Int.natCast_nonneg _
      have j1 : (c.st.mt.length : Int) < ((c.st.mt.length : Int) + 1) := by omega
      have j2 : (0 : Int) ≤ (c.st.kept.length : Int) := Int.natCast_nonneg _
      have j3 : (c.st.kept.length : Int) < ((c.st.kept.length : Int) + 1) := by omega
      have p0 : (0 : Int) ≤ (k : Int) := Int.natCast_nonneg k
      have p1 : (k : Int) < (L.length : Int) := Int.ofNat_lt.2 hlt
      clear hG hrr hgr m1 m2 n1 n2 hbd HX
      go_wp2_with fail
      refine ⟨⟨k + 1, rfl, hlt, HB2⟩, ?_⟩
      show L.length - ((k : Int) + 1).toNat < L.length - ((k : Int)).toNat
      omega
    · have d1 : decide ((k : Int) < (L.length : Int)) = false := decide_eq_false (fun q => hlt (Int.ofNat_lt.1 q))
      have d2 : decide (k < L.length) = false := decide_eq_false hlt
      go_wp2_with fail
      go_ret
      exact ⟨rfl, HB.out⟩
end Go.Proofs.YtgbkloihclbimaaDoor

/- Layer 22: commands written over in place. -/
namespace Go.Proofs.YtgbkloihclbimaaDoor
set_option maxRecDepth 100000
set_option linter.unusedVariables false
set_option linter.unusedSimpArgs false
open Go.RowKit
theorem ownBlk (a : Option Addr) (n m c : Nat) : (Value.slice a n c).ownBlock = (Value.slice a m c).ownBlock := by cases a <;> rfl
theorem Ap.ofGv {base : Nat} {w : World} {va : Option Addr} {vc : Nat} {R : List Cr} (h : Gv base w va vc R) (d : Cr) : Ap w base w.heap.size R.length va vc (fun i => R.getD i d) w := by
  have hg : ∀ i, i < R.length → R[i]? = some (R.getD i d) := fun i hi => by rw [List.getD_eq_getElem?_getD, List.getElem?_eq_getElem hi]; rfl
  have hx : w.ownsRow base 36 12 (.slice va R.length vc) R.length (rcl R) := own_less h.own (rcl_len R)
  refine ⟨⟨_, hx⟩, fun i hi => ?_, fun i hi => h.ow1 (List.mem_of_getElem? (hg i hi)), fun i hi => h.oi1 (List.mem_of_getElem? (hg i hi)), fun i j hi hj hij b hb => ?_, fun i j hi hj hij b hb => ?_, fun b q => ?_, fun _ _ _ => rfl, Nat.le_refl _, h.le⟩
  · obtain ⟨b, e, -, hr⟩ := h.range (hg i hi)
    exact ⟨b, e, hr⟩
  · have := h.pm i j _ _ hij (hg i hi) (hg j hj) b ((ownBlk _ _ _ _).trans hb)
    exact fun q => this ((ownBlk _ _ _ _).trans q)
  · have := h.pk i j _ _ hij (hg i hi) (hg j hj) b ((ownBlk _ _ _ _).trans hb)
    exact fun q => this ((ownBlk _ _ _ _).trans q)
  · left
    rcases q with q | ⟨i, hi, q | q⟩
    · exact (hx.lt b q).2
    · exact ((h.ow1 (List.mem_of_getElem? (hg i hi))).lt b q).2
    · exact ((h.oi1 (List.mem_of_getElem? (hg i hi))).lt b q).2
/-- a number, a value put in its place -/
def stN (r : Cr) (x : Int) : Cr := { r with c := { r.c with st := { r.c.st with n := x } } }
theorem stN_ccl (r : Cr) (x : Int) : ccl (stN r x) = (ccl r).set 9 (.int .i64 x) := by simp [ccl, ccs, stN]
theorem Ap.num {wc : World} {base ba n : Nat} {va : Option Addr} {vc : Nat} {R : Nat → Cr} {w : World} (h : Ap wc base ba n va vc R w) {i : Nat} (hi : i < n) (x : Int) {gl : Nat} (hva : va = some ⟨gl, 0, none⟩) :
    Ap wc base ba n va vc (upR R i (stN (R i) x)) (w.setCell ⟨gl, i * 12 + 9, none⟩ (.int .i64 x)) ∧ Below base w (w.setCell ⟨gl, i * 12 + 9, none⟩ (.int .i64 x)) ∧ w.frozen? ⟨gl, i * 12 + 9, none⟩ = false ∧ w.cell? ⟨gl, i * 12 + 9, none⟩ = some (.int .i64 (R i).c.st.n) := by
  subst hva
  obtain ⟨xs, hx⟩ := h.own
  have hrange : ∀ j, j < n → w.rangeAt gl (j * 12) (ccl (R j)) := fun j hj => by
    obtain ⟨g', e1, hq⟩ := h.at' j hj
    injection e1 with e1
    injection e1 with e1 _ _
    subst e1
    exact hq
  have ho : Oth (fun b => b = gl) w (w.setCell ⟨gl, i * 12 + 9, none⟩ (.int .i64 x)) := (Oth.refl (fun b => b = gl) w).set (X := fun b => b = gl) (g := gl) rfl
  have key := h.upd hi (stN (R i) x) ho (fun b q => .inl (by rw [show b = gl from q]; rfl)) ⟨_, own_cellT hx _ _⟩ (fun j hj => ⟨gl, rfl, ?_⟩) ?_ ?_ (fun j hj hji b q => ?_) (fun b q => .inl q) (fun b q => .inl q)
  · exact ⟨key.1, key.2, hx.frozenAt _, hrange i hi 9 _ rfl⟩
  · by_cases z : j = i
    · subst z
      rw [upR_at, stN_ccl]
      have := range_set (hrange j hj) (.int .i64 x) (m := j * 12 + 9) (by omega) (by rw [ccl_len]; omega)
      rw [show j * 12 + 9 - j * 12 = 9 by omega] at this
      exact this
    · rw [upR_ne R _ z]
      exact range_far (hrange j hj) _ (by rw [ccl_len]; omega)
  · exact own_same (h.ow i hi) fun b hb => ho.block b ((h.ow i hi).lt b hb).2 (fun q => own_ne (by decide) hx (h.ow i hi) (b := b) (by rw [show b = gl from q]; rfl) hb)
  · exact own_same (h.oi i hi) fun b hb => ho.block b ((h.oi i hi).lt b hb).2 (fun q => own_ne (by decide) hx (h.oi i hi) (b := b) (by rw [show b = gl from q]; rfl) hb)
  · have q' : b = gl := q
    subst q'
    exact ⟨own_ne (by decide) hx (h.ow j hj) rfl, own_ne (by decide) hx (h.oi j hj) rfl⟩
theorem pcells_val (l : List En) (k : Nat) (p : En) (hk : l[k]? = some p) (v : By) : (pcells l).set (k * 2 + 1) (str v) = pcells (l.set k ⟨p.key, v⟩) := by
  have hl := (List.getElem?_eq_some_iff.1 hk).1
  rw [pcells_set _ _ _ hl]
  congr 1
  obtain ⟨c0, _⟩ := pcells_get hk
  obtain ⟨hlt, e⟩ := List.getElem?_eq_some_iff.1 c0
  have : (pcells l).set (k * 2) (str p.key) = pcells l := by rw [← e]; exact List.set_getElem_self hlt
  exact this.symm
theorem Ap.val {wc : World} {base ba n : Nat} {va : Option Addr} {vc : Nat} {R : Nat → Cr} {w : World} (h : Ap wc base ba n va vc R w) {i k : Nat} (hi : i < n) {p : En} (hk : (R i).c.st.mt[k]? = some p) (v : By) {q : Nat} (hq : (R i).ma = some ⟨q, 0, none⟩) :
    Ap wc base ba n va vc (upR R i (stM (R i) k ⟨p.key, v⟩)) (w.setCell ⟨q, k * 2 + 1, none⟩ (str v)) ∧ Below base w (w.setCell ⟨q, k * 2 + 1, none⟩ (str v)) := by
  have hb : (R i).mv.ownBlock = some q := by show (Value.slice (R i).ma _ _).ownBlock = _; rw [hq]; rfl
  have ho : Oth (fun b => b = q) w (w.setCell ⟨q, k * 2 + 1, none⟩ (str v)) := (Oth.refl (fun b => b = q) w).set (X := fun b => b = q) (g := q) rfl
  obtain ⟨xs, hx⟩ := h.own
  have hv : (Value.slice va n vc).ownBlock ≠ some q := own_ne (by decide) (h.ow i hi) hx hb
  have same : ∀ g, g < w.heap.size → g ≠ q → (w.setCell ⟨q, k * 2 + 1, none⟩ (str v)).heap[g]? = w.heap[g]? := fun g hg hn => ho.block g hg hn
  refine h.upd hi (stM (R i) k ⟨p.key, v⟩) ho (fun b hb' => .inr ⟨i, hi, .inl (by rw [show b = q from hb']; exact hb)⟩) ⟨xs, own_same hx fun g hg => same g (hx.lt g hg).2 (fun z => hv (by rw [← z]; exact hg))⟩ (fun j hj => ?_) ?_ ?_ (fun j hj hne b hb' => ?_) (fun b hb' => .inl ?_) (fun b hb' => .inl hb')
  · obtain ⟨g, e1, hr⟩ := h.at' j hj
    refine ⟨g, e1, ?_⟩
    have hgl : g < w.heap.size := (hx.lt g (by rw [e1]; rfl)).2
    have hgn : g ≠ q := fun z => hv (by rw [e1, z]; rfl)
    have e2 : ccl (upR R i (stM (R i) k ⟨p.key, v⟩) j) = ccl (R j) := by
      by_cases z : j = i
      · subst z; rw [upR_at, stM_ccl]
      · rw [upR_ne R _ z]
    rw [e2]
    exact range_same hr (same g hgl hgn)
  · have o := h.ow i hi
    have o1 : w.ownsRow base 38 2 (.slice (some ⟨q, 0, none⟩) (R i).c.st.mt.length (R i).mc) (R i).c.st.mt.length (pcells (R i).c.st.mt) := by rw [← hq]; exact o
    have o2 := own_cellT o1 (k * 2 + 1) (str v)
    rw [pcells_val _ _ _ hk] at o2
    show World.ownsRow _ base 38 2 (.slice (R i).ma ((R i).c.st.mt.set k ⟨p.key, v⟩).length (R i).mc) ((R i).c.st.mt.set k ⟨p.key, v⟩).length (pcells ((R i).c.st.mt.set k ⟨p.key, v⟩))
    rw [List.length_set, hq]
    exact o2
  · exact own_same (h.oi i hi) fun g hg => same g ((h.oi i hi).lt g hg).2 (fun z => own_ne (by decide) (h.ow i hi) (h.oi i hi) hb (by rw [← z]; exact hg))
  · have hb' : b = q := hb'
    subst hb'
    exact ⟨fun z => h.pm i j hi hj (fun y => hne y.symm) b hb z, own_ne (by decide) (h.ow i hi) (h.oi j hj) hb⟩
  · have : (stM (R i) k ⟨p.key, v⟩).mv = (R i).mv := by simp [Cr.mv, stM]
    rw [this] at hb'
    exact hb'
/-- what is kept while commands are written over -/
structure Ov (wc : World) (base n : Nat) (va : Option Addr) (vc : Nat) (i : Nat) (ml kl : Nat) (wr : World) : Prop where
  ex : ∃ R, Ap wc base wc.heap.size n va vc R wr ∧ (∀ j, j < n → OkS (R j).c) ∧ (i < n → (R i).c.st.mt.length = ml ∧ (R i).c.st.kept.length = kl)
  bel : Below base wc wr
theorem Ov.at {wc : World} {base n : Nat} {va : Option Addr} {vc i ml kl : Nat} {wr : World} (h : Ov wc base n va vc i ml kl wr) {i' : Nat} (hi : i' < n) : ∃ ml kl, ml ≤ 170000000 ∧ kl ≤ 170000000 ∧ Ov wc base n va vc i' ml kl wr := by
  obtain ⟨R, hA, ho, -⟩ := h.ex
  exact ⟨_, _, (ho i' hi).ml, (ho i' hi).kl, ⟨R, hA, ho, fun _ => ⟨rfl, rfl⟩⟩, h.bel⟩
theorem OkS.num {c : Cm} (h : OkS c) {x : Int} (hx : In64 x) : OkS { c with st := { c.st with n := x } } := ⟨⟨h.ok.k, h.ok.a, h.ok.b, h.ok.sk, h.ok.q, hx, h.ok.kp⟩, h.b, h.sb, h.sk, h.sd, h.mt, h.ml, h.kl⟩
theorem OkS.kpt {c : Cm} (h : OkS c) (k : Nat) {x : Int} (hx : In64 x) : OkS { c with st := { c.st with kept := c.st.kept.set k x } } := ⟨⟨h.ok.k, h.ok.a, h.ok.b, h.ok.sk, h.ok.q, h.ok.n, fun y hy => by
  rcases List.mem_or_eq_of_mem_set hy with q | q
  · exact h.ok.kp y q
  · rw [q]; exact hx⟩, h.b, h.sb, h.sk, h.sd, h.mt, h.ml, by rw [List.length_set]; exact h.kl⟩
theorem OkS.met {c : Cm} (h : OkS c) (k : Nat) {p : En} (hp : p ∈ c.st.mt) {v : By} (hv : v.length ≤ 170000000) : OkS { c with st := { c.st with mt := c.st.mt.set k ⟨p.key, v⟩ } } := ⟨⟨h.ok.k, h.ok.a, h.ok.b, h.ok.sk, h.ok.q, h.ok.n, h.ok.kp⟩, h.b, h.sb, h.sk, h.sd, fun y hy => by
  rcases List.mem_or_eq_of_mem_set hy with q | q
  · exact h.mt y q
  · rw [q]; exact ⟨(h.mt p hp).1, hv⟩, by rw [List.length_set]; exact h.ml, h.kl⟩
theorem Ov.lens {wc : World} {base n : Nat} {va : Option Addr} {vc i ml kl : Nat} {wr : World} (h : Ov wc base n va vc i ml kl wr) (hi : i < n) : ∃ g ma mc ka kc, va = some ⟨g, 0, none⟩ ∧ wr.cell? ⟨g, i * 12 + 3 + 4, none⟩ = some (.slice ma ml mc) ∧ wr.cell? ⟨g, i * 12 + 3 + 7, none⟩ = some (.slice ka kl kc) := by
  obtain ⟨R, hA, ho, hl⟩ := h.ex
  obtain ⟨e1, e2⟩ := hl hi
  obtain ⟨g, e, c7, c10⟩ := hA.cells hi
  exact ⟨g, _, _, _, _, e, by rw [c7]; show some (Value.slice (R i).ma (R i).c.st.mt.length (R i).mc) = _; rw [e1], by rw [c10]; show some (Value.slice (R i).ka (R i).c.st.kept.length (R i).kc) = _; rw [e2]⟩
theorem Ov.num {wc : World} {base n : Nat} {va : Option Addr} {vc i ml kl : Nat} {wr : World} (h : Ov wc base n va vc i ml kl wr) (hi : i < n) : ∃ g x, va = some ⟨g, 0, none⟩ ∧ In64 x ∧ wr.cell? ⟨g, i * 12 + 3 + 6, none⟩ = some (.int .i64 x) ∧ wr.frozen? ⟨g, i * 12 + 3 + 6, none⟩ = false ∧ ∀ y, In64 y → Ov wc base n va vc i ml kl (wr.setCell ⟨g, i * 12 + 3 + 6, none⟩ (.int .i64 y)) := by
  obtain ⟨R, hA, ho, hl⟩ := h.ex
  obtain ⟨e1, e2⟩ := hl hi
  obtain ⟨g, e, -, -⟩ := hA.cells hi
  refine ⟨g, (R i).c.st.n, e, (ho i hi).ok.n, (hA.num hi 0 e).2.2.2, (hA.num hi 0 e).2.2.1, fun y hy => ?_⟩
  obtain ⟨k1, k2, -, -⟩ := hA.num hi y e
  refine ⟨⟨_, k1, fun j hj => ?_, fun _ => by rw [upR_at]; exact ⟨e1, e2⟩⟩, h.bel.trans k2⟩
  by_cases z : j = i
  · subst z; rw [upR_at]; exact (ho j hj).num hy
  · rw [upR_ne R _ z]; exact ho j hj
theorem Ov.kept {wc : World} {base n : Nat} {va : Option Addr} {vc i ml kl : Nat} {wr : World} (h : Ov wc base n va vc i ml kl wr) (hi : i < n) {b : Nat} (hb : b < kl) : ∃ g q x kc, va = some ⟨g, 0, none⟩ ∧ wr.cell? ⟨g, i * 12 + 3 + 7, none⟩ = some (.slice (some ⟨q, 0, none⟩) kl kc) ∧ wr.cell? ⟨q, b, none⟩ = some (.int .i64 x) ∧ (∀ j, wr.frozen? ⟨q, j, none⟩ = false) ∧ ∀ y, In64 y → Ov wc base n va vc i ml kl (wr.setCell ⟨q, b, none⟩ (.int .i64 y)) := by
  obtain ⟨R, hA, ho, hl⟩ := h.ex
  obtain ⟨e1, e2⟩ := hl hi
  obtain ⟨g, e, c7, c10⟩ := hA.cells hi
  obtain ⟨p, hp⟩ : ∃ p, (R i).c.st.kept[b]? = some p := ⟨_, List.getElem?_eq_getElem (by rw [e2]; exact hb)⟩
  obtain ⟨q, hq, s0, fz⟩ := hA.keptAt hi hp
  refine ⟨g, q, p, (R i).kc, e, by rw [c10]; show some (Value.slice (R i).ka (R i).c.st.kept.length (R i).kc) = _; rw [hq, e2], s0, fz, fun y hy => ?_⟩
  obtain ⟨hN, hB⟩ := hA.kept (k := b) hi y hq
  refine ⟨⟨_, hN, fun j hj => ?_, fun _ => by rw [upR_at]; exact ⟨e1, by show ((R i).c.st.kept.set b y).length = kl; rw [List.length_set]; exact e2⟩⟩, h.bel.trans hB⟩
  by_cases z : j = i
  · subst z; rw [upR_at]; exact (ho j hj).kpt b hy
  · rw [upR_ne R _ z]; exact ho j hj
theorem Ov.met {wc : World} {base n : Nat} {va : Option Addr} {vc i ml kl : Nat} {wr : World} (h : Ov wc base n va vc i ml kl wr) (hi : i < n) {a : Nat} (ha : a < ml) : ∃ g q x mc, va = some ⟨g, 0, none⟩ ∧ wr.cell? ⟨g, i * 12 + 3 + 4, none⟩ = some (.slice (some ⟨q, 0, none⟩) ml mc) ∧ wr.cell? ⟨q, a * 2 + 1, none⟩ = some (str x) ∧ (∀ j, wr.frozen? ⟨q, j, none⟩ = false) ∧ Ov wc base n va vc i ml kl (wr.setCell ⟨q, a * 2 + 1, none⟩ (.string ⟨#[111, 118, 101, 114]⟩)) := by
  obtain ⟨R, hA, ho, hl⟩ := h.ex
  obtain ⟨e1, e2⟩ := hl hi
  obtain ⟨g, e, c7, c10⟩ := hA.cells hi
  obtain ⟨p, hp⟩ : ∃ p, (R i).c.st.mt[a]? = some p := ⟨_, List.getElem?_eq_getElem (by rw [e1]; exact ha)⟩
  obtain ⟨q, hq, s0, s1, fz⟩ := hA.pairAt hi hp
  obtain ⟨hN, hB⟩ := hA.val hi hp [111, 118, 101, 114] hq
  refine ⟨g, q, p.val, (R i).mc, e, by rw [c7]; show some (Value.slice (R i).ma (R i).c.st.mt.length (R i).mc) = _; rw [hq, e1], s1, fz, ⟨⟨_, hN, fun j hj => ?_, fun _ => by rw [upR_at]; exact ⟨by show ((R i).c.st.mt.set a _).length = ml; rw [List.length_set]; exact e1, e2⟩⟩, h.bel.trans hB⟩⟩
  by_cases z : j = i
  · subst z; rw [upR_at]; exact (ho j hj).met a (List.mem_of_getElem? hp) (by decide)
  · rw [upR_ne R _ z]; exact ho j hj
/-- the list that lies there -/
theorem Ov.list {wc : World} {base n : Nat} {va : Option Addr} {vc i ml kl : Nat} {wr : World} (h : Ov wc base n va vc i ml kl wr) : ∃ R : List Cr, R.length = n ∧ CT wr va R ∧ ∀ r ∈ R, OkS r.c := by
  obtain ⟨R, hA, ho, -⟩ := h.ex
  refine ⟨(List.range n).map R, by simp, fun k r hk => ?_, fun r hr => ?_⟩
  · have hkn : k < n := by
      have := (List.getElem?_eq_some_iff.1 hk).1
      simpa using this
    rw [List.getElem?_map, List.getElem?_range hkn] at hk
    injection hk with hk
    subst hk
    obtain ⟨g, e, hr⟩ := hA.at' k hkn
    obtain ⟨xs, hx⟩ := hA.own
    refine ⟨g, 0, e, (hx.lt g (by rw [e]; rfl)).2, by rw [Nat.zero_add]; exact hr, sl_own (B := base) (Nat.le_trans hA.le hA.sz) (hA.ow k hkn), si_own (B := base) (hA.oi k hkn)⟩
  · obtain ⟨k, hk, rfl⟩ := List.mem_map.1 hr
    exact ho k (List.mem_range.1 hk)
theorem OkS.t {c : Cm} (h : OkS c) : OkT c := ⟨h.ok, by have := h.b; omega, by have := h.sb; omega, by have := h.sk; omega, by have := h.sd; omega, by have := h.ml; omega, by have := h.kl; omega, fun e he => by have := h.mt e he; omega⟩
theorem CT.cl9 {w : World} {la : Option Addr} {R : List Cr} (h : CT w la R) (ok : ∀ r ∈ R, OkT r.c) : CL w w.heap.size la (R.map (·.c)) := fun k c hk => by
  rw [List.getElem?_map] at hk
  cases hq : R[k]? with
  | none => rw [hq] at hk; cases hk
  | some r =>
    rw [hq] at hk
    injection hk with hk
    subst hk
    obtain ⟨b, off, e, hlt, hr, s1, s2⟩ := h k r hq
    exact ⟨ok r (List.mem_of_getElem? hq), b, off, r.ma, r.mc, r.ka, r.kc, e, hlt, hr, ⟨fun j p hj => s1.at'.get j p hj, fun j n hj => s2.at' j n hj⟩⟩
theorem print_ct {w : World} {va : Option Addr} {vc n : Nat} {R : List Cr} {M : List Cm} (hC : CT w va R) (hR : R.map (·.c) = M) (ok : ∀ r ∈ R, OkS r.c) (hn : R.length = n) (hl : n ≤ 170000000) (hS : SG w) (hT : TB w) : Calls Tryd.prog 6 #[.slice va n vc] w fun e w' => e = .returned (.tuple #[str (prT M), .int .i64 (prE M)]) ∧ Below w.heap.size w w' := by
  have h := print_any M w.heap.size va vc w (by rw [← hR]; exact hC.cl9 fun r hr => (ok r hr).t) (Nat.le_refl _) (by rw [← hR, List.length_map]; omega) hS hT
  have e : M.length = n := by rw [← hR, List.length_map]; exact hn
  rw [e] at h
  exact h
theorem qprint_ct {w : World} {va : Option Addr} {vc n : Nat} {R : List Cr} {M : List Cm} (hC : CT w va R) (hR : R.map (·.c) = M) (ok : ∀ r ∈ R, OkS r.c) (hn : R.length = n) (hl : n ≤ 170000000) (hT : TB w) : Calls Tryd.prog 7 #[.slice va n vc] w fun e w' => e = .returned (.tuple #[str (prT M), .int .i64 (prE M)]) ∧ Below w.heap.size w w' := by
  have h := qPrint_any R va vc w hC (by omega) ok hT
  subst hR hn
  exact h
end Go.Proofs.YtgbkloihclbimaaDoor

/- Layer 22: ScriptPrints. -/
namespace Go.Proofs.YtgbkloihclbimaaDoor
set_option maxRecDepth 100000
set_option linter.unusedVariables false
set_option linter.unusedSimpArgs false
open Go.RowKit
attribute [local go_sem ↓] Go.wp_at_zero Go.wp_at_succ
set_option maxHeartbeats 4000000 in
theorem prints_walk (L : List Cr) (la : Option Addr) (lc : Nat) (s : By) (hs : s.length ≤ 170000000) (w : World) (hL : CT w la L) (hn : L.length ≤ 170000000) (ok : ∀ r ∈ L, OkS r.c) (hS : SG w) (hT : TB w) (hE : EG w) :
    Calls Tryd.prog 3 #[.slice la L.length lc, str s] w fun e w' => e = .returned (.bool true) ∧ Below w.heap.size w w' := by
  have hgi := given_any L la lc w hL (by omega) (fun r hr => by have := (ok r hr).ml; have := (ok r hr).kl; omega)
  have HBD : Hid (∀ r ∈ L, r.c.st.mt.length ≤ 170000000 ∧ r.c.st.kept.length ≤ 170000000) := ⟨fun r hr => ⟨(ok r hr).ml, (ok r hr).kl⟩⟩
  have HOK := Hid.mk ok
  have HCL := Hid.mk hL
  clear ok hL
  go_enter Tryd.func3, Tryd.ntmps3
  go_wp2_with fail
  with_reducible refine Calls.mono hgi ?_
  rintro e w1 ⟨va, vc, R, rfl, hG, hRR, b1⟩
  have hRl : R.length = L.length := by have := congrArg List.length hRR; simpa using this
  have hRo : ∀ r ∈ R, OkS r.c := fun r hr => by
    have : r.c ∈ L.map (·.c) := by rw [← hRR]; exact List.mem_map.2 ⟨r, hr, rfl⟩
    obtain ⟨x, hx, e⟩ := List.mem_map.1 this
    rw [← e]; exact HOK.out x hx
  have p1 := print_ct (vc := vc) hG.ct hRR hRo hRl hn (hS.below b1) (hT.below b1)
  have HG := Hid.mk hG
  have HRR := Hid.mk hRR
  have HRO := Hid.mk hRo
  have HRL := Hid.mk hRl
  clear hgi hG hRR hRo hRl
  dsimp only
  go_wp2_with fail
  with_reducible refine Calls.mono p1 ?_
  rintro e w2 ⟨rfl, b2⟩
  have B12 := b2
  have B2 := below_seq b1 b2
  have p2 := print_ct (vc := vc) (HG.out.later b2).ct HRR.out HRO.out HRL.out hn (hS.below B2) (hT.below B2)
  clear p1
  dsimp only
  go_wp2_with fail
  with_reducible refine Calls.mono p2 ?_
  rintro e w3 ⟨rfl, b3⟩
  have B13 := below_seq B12 b3
  have B3 := below_seq B2 b3
  have p3 := qprint_ct (vc := lc) (HCL.out.later B3) rfl HOK.out rfl hn (hT.below B3)
  clear p2 B2 B12 b2 b3
  dsimp only
  go_wp2_with fail
  with_reducible refine Calls.mono p3 ?_
  rintro e w4 ⟨rfl, b4⟩
  have B14 := below_seq B13 b4
  have B4 := below_seq B3 b4
  have p4 := kept_any (lc := lc) L R la va vc w4 (HG.out.later B14) HRR.out (HCL.out.later B4) hn HBD.out
  clear p3 B13 B3 b4
  generalize prT (L.map (·.c)) = P at *
  generalize prE (L.map (·.c)) = E at *
  dsimp only
  go_wp2_with fail
  with_reducible refine Calls.mono p4 ?_
  rintro e w5 ⟨rfl, b5⟩
  have B15 := below_seq B14 b5
  have B5 := below_seq B4 b5
  have p5 := quote_any s w5 (by omega)
  clear p4 B14 B4 b5
  dsimp only
  go_wp2_with fail
  with_reducible refine Calls.mono p5 ?_
  rintro e w6 ⟨rfl, b6⟩
  have B16 := below_seq B15 b6
  have B6 := below_seq B5 b6
  have p6 := qQuote_any s w6 (by omega)
  clear p5 B15 B5 b6
  generalize quo s = qs at *
  dsimp only
  go_wp2_with fail
  with_reducible refine Calls.mono p6 ?_
  rintro e w7 ⟨rfl, b7⟩
  have B17 := below_seq B16 b7
  have B7 := Hid.mk (below_seq B6 b7)
  have hG7 := HG.out.later B17
  have hA := Ap.ofGv hG7 k77
  rw [HRL.out] at hA
  have HOV : Hid (Ov w7 w.heap.size L.length va vc L.length 0 0 w7) := ⟨⟨⟨_, hA, fun j hj => HRO.out _ (by
    rw [List.getD_eq_getElem?_getD, List.getElem?_eq_getElem (by rw [HRL.out]; exact hj)]
    exact List.getElem_mem _), fun q => absurd q (Nat.lt_irrefl _)⟩, Below.refl _ _⟩⟩
  clear p6 B16 B6 b7 hG7 hA HG HRR HRO HRL HBD B17 b1 hs
  dsimp only
  go_wp2_with fail
  go_loopw [12, 13, 14] (fun i _ _ wr => ∃ k : Nat, i = .int .i64 k ∧ k ≤ L.length ∧ Hid (∃ ml kl, Ov w7 w.heap.size L.length va vc L.length ml kl wr)) (fun i _ _ _ => L.length - (intOf i).toNat)
  case atStart => exact ⟨0, rfl, Nat.zero_le _, ⟨0, 0, HOV.out⟩⟩
  case round =>
    clear HOV
    obtain ⟨k, rfl, hk, HK⟩ := hrel
    by_cases hlt : k < L.length
    · have d1 : decide ((k : Int) < (L.length : Int)) = true := decide_eq_true (Int.ofNat_lt.2 hlt)
      have k0 : (0 : Int) ≤ (k : Int) := Int.natCast_nonneg k
      have k1 : (k : Int) < (L.length : Int) := Int.ofNat_lt.2 hlt
      obtain ⟨ml0, kl0, h0⟩ := HK.out
      obtain ⟨ml, kl, hml, hkl, hOv⟩ := h0.at hlt
      obtain ⟨g, x, eg, hx, c6, f6, hset⟩ := hOv.num hlt
      subst eg
      have HSET := Hid.mk hset
      have HX := Hid.mk hx
      have HO1 := Hid.mk (hset (bits BinOp.xor IntKind.i64 x 1) ⟨bits_lo_i64 .xor x 1, bits_hi_i64 .xor x 1⟩)
      clear hOv h0 hset HK hx HSET HX
      go_wp2_with fail
      generalize wr.setCell ⟨g, k * 12 + 3 + 6, none⟩ (.int .i64 (bits BinOp.xor IntKind.i64 x 1)) = wb at *
      clear c6 f6
      go_loopw [13] (fun j wr => ∃ b : Nat, j = .int .i64 b ∧ b ≤ kl ∧ Hid (Ov w7 w.heap.size L.length (some ⟨g, 0, none⟩) vc k ml kl wr)) (fun j _ => kl - (intOf j).toNat)
      case atStart => exact ⟨0, rfl, Nat.zero_le _, HO1⟩
      case round =>
        clear HO1
        obtain ⟨b, rfl, hb, HO⟩ := hrel
        by_cases hbl : b < kl
        · have d2 : decide ((b : Int) < (kl : Int)) = true := decide_eq_true (Int.ofNat_lt.2 hbl)
          have j0 : (0 : Int) ≤ (b : Int) := Int.natCast_nonneg b
          have j1 : (b : Int) < (kl : Int) := Int.ofNat_lt.2 hbl
          obtain ⟨g2, q, y, kc, eg, c7, c0, fz, hset⟩ := HO.out.kept hlt hbl
          injection eg with eg
          injection eg with eg _ _
          subst eg
          have HO2 := Hid.mk (hset (b : Int) ⟨by omega, by omega⟩)
          have f0 := fz b
          clear hset fz HO
          go_wp2_with fail
          refine ⟨⟨b + 1, rfl, hbl, HO2⟩, ?_⟩
          show kl - ((b : Int) + 1).toNat < kl - ((b : Int)).toNat
          omega
        · have d2 : decide ((b : Int) < (kl : Int)) = false := decide_eq_false (fun q => hbl (Int.ofNat_lt.1 q))
          have d2' : decide (b < kl) = false := decide_eq_false hbl
          obtain ⟨g2, ma, mc, ka, kc, eg, c4, c7⟩ := HO.out.lens hlt
          injection eg with eg
          injection eg with eg _ _
          subst eg
          clear hbl hb
          go_wp2_with fail
          clear c4 c7 d2 d2'
          go_loopw [14] (fun j wr => ∃ b : Nat, j = .int .i64 b ∧ b ≤ ml ∧ Hid (Ov w7 w.heap.size L.length (some ⟨g, 0, none⟩) vc k ml kl wr)) (fun j _ => ml - (intOf j).toNat)
          case atStart => exact ⟨0, rfl, Nat.zero_le _, HO⟩
          case round =>
            clear HO
            obtain ⟨b, rfl, hb, HO⟩ := hrel
            by_cases hbl : b < ml
            · have d2 : decide ((b : Int) < (ml : Int)) = true := decide_eq_true (Int.ofNat_lt.2 hbl)
              have j0 : (0 : Int) ≤ (b : Int) := Int.natCast_nonneg b
              have j1 : (b : Int) < (ml : Int) := Int.ofNat_lt.2 hbl
              obtain ⟨g2, q, y, kc, eg, c4, c1, fz, hset⟩ := HO.out.met hlt hbl
              injection eg with eg
              injection eg with eg _ _
              subst eg
              have HO2 := Hid.mk hset
              have f0 := fz (b * 2 + 1)
              clear hset fz HO
              go_wp2_with fail
              refine ⟨⟨b + 1, rfl, hbl, HO2⟩, ?_⟩
              show ml - ((b : Int) + 1).toNat < ml - ((b : Int)).toNat
              omega
            · have d2 : decide ((b : Int) < (ml : Int)) = false := decide_eq_false (fun q => hbl (Int.ofNat_lt.1 q))
              have d2' : decide (b < ml) = false := decide_eq_false hbl
              obtain ⟨g2, ma, mc, ka, kc, eg, c4, c7⟩ := HO.out.lens hlt
              injection eg with eg
              injection eg with eg _ _
              subst eg
              have HO3 : Hid (∃ ml kl, Ov w7 w.heap.size L.length (some ⟨g, 0, none⟩) vc L.length ml kl wr) := ⟨0, 0, by
                obtain ⟨R', hA', hR', -⟩ := HO.out.ex
                exact ⟨⟨R', hA', hR', fun q => absurd q (Nat.lt_irrefl _)⟩, HO.out.bel⟩⟩
              clear hbl hb HO
              go_wp2_with fail
              refine ⟨⟨k + 1, rfl, hlt, HO3⟩, ?_⟩
              show L.length - ((k : Int) + 1).toNat < L.length - ((k : Int)).toNat
              omega
    · have d1 : decide ((k : Int) < (L.length : Int)) = false := decide_eq_false (fun q => hlt (Int.ofNat_lt.1 q))
      have d1' : decide (k < L.length) = false := decide_eq_false hlt
      obtain ⟨ml, kl, hOv⟩ := HK.out
      obtain ⟨R2, hl2, hC2, hR2⟩ := hOv.list
      have Bx : Below w.heap.size w wr := B7.out.trans hOv.bel
      have p1 := print_ct (vc := vc) hC2 rfl hR2 hl2 hn (hS.below Bx) (hT.below Bx)
      have HC2 := Hid.mk hC2
      have HR2 := Hid.mk hR2
      have HL2 := Hid.mk hl2
      clear hOv hC2 hR2 hl2 HK hlt
      go_wp2_with fail
      with_reducible refine Calls.mono p1 ?_
      rintro e wa ⟨rfl, ba⟩
      have Ba := below_seq Bx ba
      have tld := told_any R2 va vc wa (HC2.out.later ba) (by rw [HL2.out]; omega) (fun r hr => by have := (HR2.out r hr).ml; have := (HR2.out r hr).kl; omega)
      rw [HL2.out] at tld
      clear p1 Bx
      dsimp only
      go_wp2_with fail
      with_reducible refine Calls.mono tld ?_
      rintro e wb ⟨ta, tc, R3, rfl, hQ, hRt, bb⟩
      have Bb := below_seq Ba bb
      have hl3 : R3.length = L.length := by have := congrArg List.length hRt; have h2 := HL2.out; simp at this; omega
      have p3 := qprint_ct (vc := tc) (CT.ofFq hQ) hRt (fun r hr => by
        have : r.c ∈ R2.map (·.c) := by rw [← hRt]; exact List.mem_map.2 ⟨r, hr, rfl⟩
        obtain ⟨x, hx, e⟩ := List.mem_map.1 this
        rw [← e]; exact HR2.out x hx) rfl (by omega) (hT.below Bb)
      replace hl3 := Hid.mk hl3
      clear tld hQ Ba
      generalize prT (R2.map (·.c)) = P2 at *
      generalize prE (R2.map (·.c)) = E2 at *
      dsimp only
      go_wp2_with fail
      with_reducible refine Calls.mono p3 ?_
      rintro e wc ⟨rfl, bc⟩
      have Bc := below_seq Bb bc
      have p4 := first_any wc (hS.below Bc) (hT.below Bc) (hE.below Bc)
      clear p3 Bb
      dsimp only
      go_wp2_with fail
      with_reducible refine Calls.mono p4 ?_
      rintro e wd ⟨rfl, bd⟩
      clear p4
      dsimp only
      go_wp2_with fail
      go_ret
      exact ⟨rfl, below_seq Bc bd⟩
end Go.Proofs.YtgbkloihclbimaaDoor
