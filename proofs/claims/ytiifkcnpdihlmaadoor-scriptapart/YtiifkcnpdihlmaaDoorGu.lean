import Derived.Test.YtiifkcnpdihlmaaDoorYe
import Derived.Test.YtiifkcnpdihlmaaDoorGc
/- Layer 22: commands of one's own, changed in place. -/
namespace Go.Proofs.YtiifkcnpdihlmaaDoor
set_option maxRecDepth 100000
set_option linter.unusedVariables false
set_option linter.unusedSimpArgs false
open Go.RowKit
theorem own_cellT {w : World} {base g cap n s : Nat} {t : TypeId} {xs : List Value} (h : w.ownsRow base t s (.slice (some ⟨g, 0, none⟩) n cap) n xs) (j : Nat) (u : Value) : (w.setCell ⟨g, j, none⟩ u).ownsRow base t s (.slice (some ⟨g, 0, none⟩) n cap) n (xs.set j u) := by
  refine ⟨by rw [List.length_set]; exact h.1, ?_⟩
  rcases h.2 with ⟨e, _⟩ | ⟨g', cap', cur, e, h2, h3, h4, h5, h6, h7⟩
  · cases e
  · injection e with e1 e2 e3
    injection e1 with e1
    injection e1 with e1
    subst e1 e3
    refine Or.inr ⟨g, cap, _, rfl, h2, heap_setCell_same _ _ _ _ _ _ h3, h4, h5, by rw [Array.size_setIfInBounds]; exact h6, ?_⟩
    rw [Array.toList_setIfInBounds, ← h7, List.take_set]
theorem pcells_set (l : List En) (i : Nat) (p : En) (hi : i < l.length) : pcells (l.set i p) = ((pcells l).set (i * 2) (str p.key)).set (i * 2 + 1) (str p.val) := by
  induction l generalizing i with
  | nil => simp at hi
  | cons q l ih =>
    cases i with
    | zero => simp [pcells, pcs]
    | succ i =>
      have := ih i (by simpa using hi)
      have e : ∀ x : List En, pcells (q :: x) = pcs q ++ pcells x := fun x => by simp [pcells]
      rw [List.set_cons_succ, e, e, this]
      simp [pcs, show (i + 1) * 2 = i * 2 + 1 + 1 by omega]
theorem range_same {w w' : World} {g o : Nat} {l : List Value} (h : w.rangeAt g o l) (e : w'.heap[g]? = w.heap[g]?) : w'.rangeAt g o l := fun j v hv => by
  have q : w'.cell? ⟨g, o + j, none⟩ = w.cell? ⟨g, o + j, none⟩ := by simp only [World.cell?, e]
  rw [q]; exact h j v hv
def Ab (va : Option Addr) (n vc : Nat) (R : Nat → Cr) (b : Nat) : Prop := (Value.slice va n vc).ownBlock = some b ∨ ∃ i, i < n ∧ ((R i).mv.ownBlock = some b ∨ (R i).kv.ownBlock = some b)
/-- commands that are changed in place: what lies between 'ba' and wc's end stays -/
structure Ap (wc : World) (base ba n : Nat) (va : Option Addr) (vc : Nat) (R : Nat → Cr) (w : World) : Prop where
  own : ∃ xs, w.ownsRow base 34 12 (.slice va n vc) n xs
  at' : ∀ i, i < n → ∃ g, va = some ⟨g, 0, none⟩ ∧ w.rangeAt g (i * 12) (ccl (R i))
  ow : ∀ i, i < n → w.ownsRow base 47 2 (R i).mv (R i).c.st.mt.length (pcells (R i).c.st.mt)
  oi : ∀ i, i < n → w.ownsRow base 3 1 (R i).kv (R i).c.st.kept.length (ivs (R i).c.st.kept)
  pm : ∀ i j, i < n → j < n → ¬ i = j → ∀ b, (R i).mv.ownBlock = some b → (R j).mv.ownBlock ≠ some b
  pk : ∀ i j, i < n → j < n → ¬ i = j → ∀ b, (R i).kv.ownBlock = some b → (R j).kv.ownBlock ≠ some b
  lo : ∀ b, Ab va n vc R b → b < ba ∨ wc.heap.size ≤ b
  kp : ∀ b, ba ≤ b → b < wc.heap.size → w.heap[b]? = wc.heap[b]?
  sz : wc.heap.size ≤ w.heap.size
  le : base ≤ wc.heap.size
def upR (R : Nat → Cr) (i : Nat) (r : Cr) : Nat → Cr := fun j => if j = i then r else R j
theorem upR_at (R : Nat → Cr) (i : Nat) (r : Cr) : upR R i r i = r := by simp [upR]
theorem upR_ne (R : Nat → Cr) {i j : Nat} (r : Cr) (h : ¬ j = i) : upR R i r j = R j := by simp [upR, h]
theorem Ap.lt {wc : World} {base ba n : Nat} {va : Option Addr} {vc : Nat} {R : Nat → Cr} {w : World} (h : Ap wc base ba n va vc R w) {b : Nat} (hb : Ab va n vc R b) : base ≤ b ∧ b < w.heap.size := by
  rcases hb with q | ⟨i, hi, q | q⟩
  · obtain ⟨xs, hx⟩ := h.own; exact hx.lt b q
  · exact (h.ow i hi).lt b q
  · exact (h.oi i hi).lt b q
theorem own_ne {base base' s s' n n' : Nat} {w : World} {v v' : Value} {t t' : TypeId} {xs xs' : List Value} (ht : t ≠ t') (h : w.ownsRow base t s v n xs) (h' : w.ownsRow base' t' s' v' n' xs') {b : Nat} (hb : v.ownBlock = some b) : v'.ownBlock ≠ some b := fun q => by
  obtain ⟨c1, e1⟩ := own_type h hb
  obtain ⟨c2, e2⟩ := own_type h' q
  rw [e1] at e2
  injection e2 with e2
  injection e2 with _ e3 _
  exact ht e3
/-- one command's rows turned -/
theorem Ap.upd {wc : World} {base ba n : Nat} {va : Option Addr} {vc : Nat} {R : Nat → Cr} {w w' : World} (h : Ap wc base ba n va vc R w) {i : Nat} (hi : i < n) (r' : Cr) {X : Bs} (ho : Oth X w w') (hX : ∀ b, X b → Ab va n vc R b)
    (hown : ∃ xs, w'.ownsRow base 34 12 (.slice va n vc) n xs) (hat : ∀ j, j < n → ∃ g, va = some ⟨g, 0, none⟩ ∧ w'.rangeAt g (j * 12) (ccl (upR R i r' j)))
    (h1 : w'.ownsRow base 47 2 r'.mv r'.c.st.mt.length (pcells r'.c.st.mt)) (h2 : w'.ownsRow base 3 1 r'.kv r'.c.st.kept.length (ivs r'.c.st.kept))
    (hne : ∀ j, j < n → ¬ j = i → ∀ b, X b → (R j).mv.ownBlock ≠ some b ∧ (R j).kv.ownBlock ≠ some b)
    (hm : ∀ b, r'.mv.ownBlock = some b → (R i).mv.ownBlock = some b ∨ w.heap.size ≤ b) (hk : ∀ b, r'.kv.ownBlock = some b → (R i).kv.ownBlock = some b ∨ w.heap.size ≤ b) :
    Ap wc base ba n va vc (upR R i r') w' ∧ Below base w w' := by
  have hsz := h.sz
  refine ⟨⟨hown, hat, fun j hj => ?_, fun j hj => ?_, fun j k hj hk' hjk b hb => ?_, fun j k hj hk' hjk b hb => ?_, fun b hb => ?_, fun b h1 h2 => ?_, Nat.le_trans h.sz ho.size, h.le⟩, ?_⟩
  · by_cases e : j = i
    · subst e; rw [upR_at]; exact h1
    · rw [upR_ne R r' e]
      exact own_same (h.ow j hj) fun g hg => ho.block g ((h.ow j hj).lt g hg).2 (fun q => (hne j hj e g q).1 hg)
  · by_cases e : j = i
    · subst e; rw [upR_at]; exact h2
    · rw [upR_ne R r' e]
      exact own_same (h.oi j hj) fun g hg => ho.block g ((h.oi j hj).lt g hg).2 (fun q => (hne j hj e g q).2 hg)
  · by_cases e : j = i
    · subst e
      rw [upR_at] at hb
      rw [upR_ne R r' (fun q => hjk q.symm)]
      rcases hm b hb with q | q
      · exact h.pm j k hj hk' hjk b q
      · intro q2
        have := ((h.ow k hk').lt b q2).2
        omega
    · rw [upR_ne R r' e] at hb
      by_cases e2 : k = i
      · subst e2
        rw [upR_at]
        intro q
        rcases hm b q with q | q
        · exact h.pm j k hj hk' hjk b hb q
        · have := ((h.ow j hj).lt b hb).2
          omega
      · rw [upR_ne R r' e2]
        exact h.pm j k hj hk' hjk b hb
  · by_cases e : j = i
    · subst e
      rw [upR_at] at hb
      rw [upR_ne R r' (fun q => hjk q.symm)]
      rcases hk b hb with q | q
      · exact h.pk j k hj hk' hjk b q
      · intro q2
        have := ((h.oi k hk').lt b q2).2
        omega
    · rw [upR_ne R r' e] at hb
      by_cases e2 : k = i
      · subst e2
        rw [upR_at]
        intro q
        rcases hk b q with q | q
        · exact h.pk j k hj hk' hjk b hb q
        · have := ((h.oi j hj).lt b hb).2
          omega
      · rw [upR_ne R r' e2]
        exact h.pk j k hj hk' hjk b hb
  · rcases hb with q | ⟨j, hj, q⟩
    · exact h.lo b (.inl q)
    · by_cases e : j = i
      · subst e
        rw [upR_at] at q
        rcases q with q | q
        · rcases hm b q with z | z
          · exact h.lo b (.inr ⟨j, hj, .inl z⟩)
          · right; omega
        · rcases hk b q with z | z
          · exact h.lo b (.inr ⟨j, hj, .inr z⟩)
          · right; omega
      · rw [upR_ne R r' e] at q
        exact h.lo b (.inr ⟨j, hj, q⟩)
  · rw [ho.block b (by omega) (fun q => by rcases h.lo b (hX b q) with z | z <;> omega)]
    exact h.kp b h1 h2
  · have hle := h.le
    exact ⟨ho.os, ho.tape, ho.output, ho.size, fun k hk => ho.block k (by omega) (fun q => by have := (h.lt (hX k q)).1; omega)⟩
/-- the room of an owned row -/
theorem own_room' {base n s : Nat} {w : World} {t : TypeId} {a : Option Addr} {len cap : Nat} {xs : List Value} (h : w.ownsRow base t s (.slice a len cap) n xs) (hn : 0 < n) : len = n ∧ n ≤ cap ∧ cap ≤ 9223372036854775807 ∧ ∃ g, a = some ⟨g, 0, none⟩ := by
  rcases h.2 with ⟨e, h0⟩ | ⟨g, c, cur, e, h1, h2, h3, h4, h5⟩
  · omega
  · injection e with e1 e2 e3
    subst e1 e2 e3
    exact ⟨rfl, h3, h4, g, rfl⟩
theorem Ap.start {base : Nat} {wa wc : World} {va : Option Addr} {vc : Nat} {Rl : List Cr} (h : Fc base wa (.slice va Rl.length vc) Rl) (hb : Below wa.heap.size wa wc) (d : Cr) : Ap wc base wa.heap.size Rl.length va vc (fun i => Rl.getD i d) wc := by
  have hc := h.later hb
  have hg : ∀ i, i < Rl.length → Rl[i]? = some (Rl.getD i d) := fun i hi => by rw [List.getD_eq_getElem?_getD, List.getElem?_eq_getElem hi]; rfl
  refine ⟨⟨_, hc.own⟩, fun i hi => ?_, fun i hi => hc.ow _ (List.mem_of_getElem? (hg i hi)), fun i hi => hc.oi _ (List.mem_of_getElem? (hg i hi)), fun i j hi hj hij b hb => hc.pm i j _ _ hij (hg i hi) (hg j hj) b hb, fun i j hi hj hij b hb => hc.pk i j _ _ hij (hg i hi) (hg j hj) b hb, fun b q => ?_, fun _ _ _ => rfl, Nat.le_refl _, hc.le⟩
  · obtain ⟨b, off, e, hlt, hr⟩ := range_own hc.own (hg i hi)
    obtain ⟨-, -, -, g, e2⟩ := own_room' hc.own (by omega)
    rw [e2] at e
    injection e with e
    injection e with e1 e3 _
    subst e1 e3
    exact ⟨g, e2, by simpa using hr⟩
  · left
    rcases q with q | ⟨i, hi, q | q⟩
    · exact (h.lt (.inl q)).2
    · exact (h.lt (.inr ⟨_, List.mem_of_getElem? (hg i hi), .inl q⟩)).2
    · exact (h.lt (.inr ⟨_, List.mem_of_getElem? (hg i hi), .inr q⟩)).2
/-- a pair, a number put in its place -/
def stM (r : Cr) (k : Nat) (e : En) : Cr := { r with c := { r.c with st := { r.c.st with mt := r.c.st.mt.set k e } } }
def stK (r : Cr) (k : Nat) (x : Int) : Cr := { r with c := { r.c with st := { r.c.st with kept := r.c.st.kept.set k x } } }
theorem stM_ccl (r : Cr) (k : Nat) (e : En) : ccl (stM r k e) = ccl r := by simp [ccl, ccs, stM]
theorem stK_ccl (r : Cr) (k : Nat) (x : Int) : ccl (stK r k x) = ccl r := by simp [ccl, ccs, stK]
theorem Ap.pair {wc : World} {base ba n : Nat} {va : Option Addr} {vc : Nat} {R : Nat → Cr} {w : World} (h : Ap wc base ba n va vc R w) {i k : Nat} (hi : i < n) (hk : k < (R i).c.st.mt.length) (e : En) {q : Nat} (hq : (R i).ma = some ⟨q, 0, none⟩) :
    Ap wc base ba n va vc (upR R i (stM (R i) k e)) ((w.setCell ⟨q, k * 2, none⟩ (str e.key)).setCell ⟨q, k * 2 + 1, none⟩ (str e.val)) ∧ Below base w ((w.setCell ⟨q, k * 2, none⟩ (str e.key)).setCell ⟨q, k * 2 + 1, none⟩ (str e.val)) := by
  have hb : (R i).mv.ownBlock = some q := by show (Value.slice (R i).ma _ _).ownBlock = _; rw [hq]; rfl
  have ho : Oth (fun b => b = q) w ((w.setCell ⟨q, k * 2, none⟩ (str e.key)).setCell ⟨q, k * 2 + 1, none⟩ (str e.val)) := ((Oth.refl (fun b => b = q) w).set (X := fun b => b = q) (g := q) rfl).set (X := fun b => b = q) (g := q) rfl
  obtain ⟨xs, hx⟩ := h.own
  have hv : (Value.slice va n vc).ownBlock ≠ some q := own_ne (by decide) (h.ow i hi) hx hb
  have same : ∀ g, g < w.heap.size → g ≠ q → ((w.setCell ⟨q, k * 2, none⟩ (str e.key)).setCell ⟨q, k * 2 + 1, none⟩ (str e.val)).heap[g]? = w.heap[g]? := fun g hg hn => ho.block g hg hn
  refine h.upd hi (stM (R i) k e) ho (fun b hb' => .inr ⟨i, hi, .inl (by rw [show b = q from hb']; exact hb)⟩) ⟨xs, own_same hx fun g hg => same g (hx.lt g hg).2 (fun z => hv (by rw [← z]; exact hg))⟩ (fun j hj => ?_) ?_ ?_ (fun j hj hne b hb' => ?_) (fun b hb' => .inl ?_) (fun b hb' => .inl hb')
  · obtain ⟨g, e1, hr⟩ := h.at' j hj
    refine ⟨g, e1, ?_⟩
    have hgl : g < w.heap.size := (hx.lt g (by rw [e1]; rfl)).2
    have hgn : g ≠ q := fun z => hv (by rw [e1, z]; rfl)
    have e2 : ccl (upR R i (stM (R i) k e) j) = ccl (R j) := by
      by_cases z : j = i
      · subst z; rw [upR_at, stM_ccl]
      · rw [upR_ne R _ z]
    rw [e2]
    exact range_same hr (same g hgl hgn)
  · have o := h.ow i hi
    have o1 : w.ownsRow base 47 2 (.slice (some ⟨q, 0, none⟩) (R i).c.st.mt.length (R i).mc) (R i).c.st.mt.length (pcells (R i).c.st.mt) := by rw [← hq]; exact o
    have o2 := own_cellT (own_cellT o1 (k * 2) (str e.key)) (k * 2 + 1) (str e.val)
    rw [← pcells_set _ _ _ hk] at o2
    show World.ownsRow _ base 47 2 (.slice (R i).ma ((R i).c.st.mt.set k e).length (R i).mc) ((R i).c.st.mt.set k e).length (pcells ((R i).c.st.mt.set k e))
    rw [List.length_set, hq]
    exact o2
  · exact own_same (h.oi i hi) fun g hg => same g ((h.oi i hi).lt g hg).2 (fun z => own_ne (by decide) (h.ow i hi) (h.oi i hi) hb (by rw [← z]; exact hg))
  · have hb' : b = q := hb'
    subst hb'
    exact ⟨fun z => h.pm i j hi hj (fun y => hne y.symm) b hb z, own_ne (by decide) (h.ow i hi) (h.oi j hj) hb⟩
  · have : (stM (R i) k e).mv = (R i).mv := by simp [Cr.mv, stM]
    rw [this] at hb'
    exact hb'
theorem ivs_set (l : List Int) (k : Nat) (x : Int) : ivs (l.set k x) = (ivs l).set k (.int .i64 x) := by simp [ivs, List.map_set]
theorem Ap.kept {wc : World} {base ba n : Nat} {va : Option Addr} {vc : Nat} {R : Nat → Cr} {w : World} (h : Ap wc base ba n va vc R w) {i k : Nat} (hi : i < n) (x : Int) {q : Nat} (hq : (R i).ka = some ⟨q, 0, none⟩) :
    Ap wc base ba n va vc (upR R i (stK (R i) k x)) (w.setCell ⟨q, k, none⟩ (.int .i64 x)) ∧ Below base w (w.setCell ⟨q, k, none⟩ (.int .i64 x)) := by
  have hb : (R i).kv.ownBlock = some q := by show (Value.slice (R i).ka _ _).ownBlock = _; rw [hq]; rfl
  have ho : Oth (fun b => b = q) w (w.setCell ⟨q, k, none⟩ (.int .i64 x)) := (Oth.refl (fun b => b = q) w).set (X := fun b => b = q) (g := q) rfl
  obtain ⟨xs, hx⟩ := h.own
  have hv : (Value.slice va n vc).ownBlock ≠ some q := own_ne (by decide) (h.oi i hi) hx hb
  have same : ∀ g, g < w.heap.size → g ≠ q → (w.setCell ⟨q, k, none⟩ (.int .i64 x)).heap[g]? = w.heap[g]? := fun g hg hn => ho.block g hg hn
  refine h.upd hi (stK (R i) k x) ho (fun b hb' => .inr ⟨i, hi, .inr (by rw [show b = q from hb']; exact hb)⟩) ⟨xs, own_same hx fun g hg => same g (hx.lt g hg).2 (fun z => hv (by rw [← z]; exact hg))⟩ (fun j hj => ?_) ?_ ?_ (fun j hj hne b hb' => ?_) (fun b hb' => .inl hb') (fun b hb' => .inl ?_)
  · obtain ⟨g, e1, hr⟩ := h.at' j hj
    refine ⟨g, e1, ?_⟩
    have hgl : g < w.heap.size := (hx.lt g (by rw [e1]; rfl)).2
    have hgn : g ≠ q := fun z => hv (by rw [e1, z]; rfl)
    have e2 : ccl (upR R i (stK (R i) k x) j) = ccl (R j) := by
      by_cases z : j = i
      · subst z; rw [upR_at, stK_ccl]
      · rw [upR_ne R _ z]
    rw [e2]
    exact range_same hr (same g hgl hgn)
  · exact own_same (h.ow i hi) fun g hg => same g ((h.ow i hi).lt g hg).2 (fun z => own_ne (by decide) (h.oi i hi) (h.ow i hi) hb (by rw [← z]; exact hg))
  · have o := h.oi i hi
    have o1 : w.ownsRow base 3 1 (.slice (some ⟨q, 0, none⟩) (R i).c.st.kept.length (R i).kc) (R i).c.st.kept.length (ivs (R i).c.st.kept) := by rw [← hq]; exact o
    have o2 := own_cellT o1 k (.int .i64 x)
    rw [← ivs_set] at o2
    show World.ownsRow _ base 3 1 (.slice (R i).ka ((R i).c.st.kept.set k x).length (R i).kc) ((R i).c.st.kept.set k x).length (ivs ((R i).c.st.kept.set k x))
    rw [List.length_set, hq]
    exact o2
  · have hb' : b = q := hb'
    subst hb'
    exact ⟨own_ne (by decide) (h.oi i hi) (h.ow j hj) hb, fun z => h.pk i j hi hj (fun y => hne y.symm) b hb z⟩
  · have : (stK (R i) k x).kv = (R i).kv := by simp [Cr.kv, stK]
    rw [this] at hb'
    exact hb'
/-- one pair more, told with what stays -/
theorem run_psK {M : Nat} {w1 : World} {v : Value} {l : List En} (p : En) (hO : w1.ownsRow M 47 2 v l.length (pcells l)) (hle : M ≤ w1.heap.size) (hn : l.length ≤ 1000000) :
    ∃ g kc w', (∀ ty, (Builtin.append_ #[29, 29] ty #[v, .slice (some ⟨w1.heap.size, 0, none⟩) 1 1]).run Tryd.prog (w1.alloc (.cells #[str p.key, str p.val] 47)) = .ok (.slice (some ⟨g, 0, none⟩) (l.length + 1) kc) w') ∧ w'.ownsRow M 47 2 (.slice (some ⟨g, 0, none⟩) (l.length + 1) kc) (l.length + 1) (pcells (l ++ [p])) ∧ Oth (fun b => v.ownBlock = some b) w1 w' ∧ (v.ownBlock = some g ∨ w1.heap.size ≤ g) := by
  obtain ⟨i0, hi0, hz0, hz1, hz2⟩ := infoP
  have hm : maxLen = 9223372036854775807 := rfl
  have o1 := hO.alloc (.cells #[str p.key, str p.val] 47)
  obtain ⟨g, cap, w', hr, hown, hgrow, hat, _⟩ := run_append_lies (P := Tryd.prog) (w := w1.alloc (.cells #[str p.key, str p.val] 47)) 29 47 M 47 i0 _ 2 32 Tryd.underlying29 hi0 hz0 hz1 hz2 rfl (by omega) v l.length (pcells l) o1 ⟨w1.heap.size, 0, none⟩ 1 1 [str p.key, str p.val] rfl
      (World.news_of_block (cs := #[str p.key, str p.val]) (t := 47) (fr := (0, 0)) (heap_alloc_new w1 _)) (by simp [Value.oneCell']) (by omega) (by rw [hm]; omega) (by omega) (by simp; omega) (w1.heap.size + 1) (by simp)
  have hbl := ((Below.refl M w1).alloc hle (.cells #[str p.key, str p.val] 47)).trans (grown_below o1 (by simp; omega) hgrow)
  refine ⟨g, cap, w', fun ty => hr, by rw [pcells_append]; exact hown, ⟨hbl.os, hbl.tape, hbl.output, hbl.size, fun b hb hne => ?_⟩, ?_⟩
  · rw [hgrow.block b (by simp; omega) (Ne.symm hne)]; exact heap_alloc_old _ _ _ hb
  · rcases hat with q | q
    · exact .inl q
    · right; omega
theorem run_isK {M : Nat} {w1 : World} {v : Value} {l : List Int} (n : Int) (hO : w1.ownsRow M 3 1 v l.length (ivs l)) (hle : M ≤ w1.heap.size) (hn : l.length ≤ 1000000) :
    ∃ g kc w', (∀ ty, (Builtin.append_ #[30, 30] ty #[v, .slice (some ⟨w1.heap.size, 0, none⟩) 1 1]).run Tryd.prog (w1.alloc (.cells #[.int .i64 n] 3)) = .ok (.slice (some ⟨g, 0, none⟩) (l.length + 1) kc) w') ∧ w'.ownsRow M 3 1 (.slice (some ⟨g, 0, none⟩) (l.length + 1) kc) (l.length + 1) (ivs (l ++ [n])) ∧ Oth (fun b => v.ownBlock = some b) w1 w' ∧ (v.ownBlock = some g ∨ w1.heap.size ≤ g) := by
  obtain ⟨i0, hi0, hz0, hz1, hz2⟩ := info3
  have hm : maxLen = 9223372036854775807 := rfl
  have o1 := hO.alloc (.cells #[.int .i64 n] 3)
  obtain ⟨g, cap, w', hr, hown, hgrow, hat, _⟩ := run_append_lies (P := Tryd.prog) (w := w1.alloc (.cells #[.int .i64 n] 3)) 30 3 M 3 i0 _ 1 8 Tryd.underlying30 hi0 hz0 hz1 hz2 rfl (by omega) v l.length (ivs l) o1 ⟨w1.heap.size, 0, none⟩ 1 1 [.int .i64 n] rfl
      (World.news_of_block (cs := #[.int .i64 n]) (t := 3) (fr := (0, 0)) (heap_alloc_new w1 _)) (by simp [Value.oneCell']) (by omega) (by rw [hm]; omega) (by omega) (by simp; omega) (w1.heap.size + 1) (by simp)
  have hbl := ((Below.refl M w1).alloc hle (.cells #[.int .i64 n] 3)).trans (grown_below o1 (by simp; omega) hgrow)
  refine ⟨g, cap, w', fun ty => hr, by unfold ivs at *; rw [List.map_append]; exact hown, ⟨hbl.os, hbl.tape, hbl.output, hbl.size, fun b hb hne => ?_⟩, ?_⟩
  · rw [hgrow.block b (by simp; omega) (Ne.symm hne)]; exact heap_alloc_old _ _ _ hb
  · rcases hat with q | q
    · exact .inl q
    · right; omega
def grM (r : Cr) (e : En) (g kc : Nat) : Cr := ⟨{ r.c with st := { r.c.st with mt := r.c.st.mt ++ [e] } }, some ⟨g, 0, none⟩, kc, r.ka, r.kc⟩
def grK (r : Cr) (x : Int) (g kc : Nat) : Cr := ⟨{ r.c with st := { r.c.st with kept := r.c.st.kept ++ [x] } }, r.ma, r.mc, some ⟨g, 0, none⟩, kc⟩
theorem range_set {w : World} {g o m : Nat} {l : List Value} (h : w.rangeAt g o l) (u : Value) (hm : o ≤ m) (hn : m < o + l.length) : (w.setCell ⟨g, m, none⟩ u).rangeAt g o (l.set (m - o) u) := fun j v hv => by
  by_cases e : m - o = j
  · subst e
    have hj : m - o < l.length := by omega
    rw [List.getElem?_set_self hj] at hv
    injection hv with hv
    subst hv
    have hc := h (m - o) _ (List.getElem?_eq_getElem hj)
    rw [show o + (m - o) = m by omega] at hc ⊢
    exact World.cell?_setCell_same _ _ _ hc
  · rw [List.getElem?_set_ne e] at hv
    rw [World.cell?_setCell_other _ _ _ _ (show (⟨g, m, none⟩ : Addr) ≠ ⟨g, o + j, none⟩ from fun q => by injection q with _ q2 _; omega)]
    exact h j v hv
theorem range_far {w : World} {g o m : Nat} {l : List Value} (h : w.rangeAt g o l) (u : Value) (hm : m < o ∨ o + l.length ≤ m) : (w.setCell ⟨g, m, none⟩ u).rangeAt g o l := fun j v hv => by
  have hj := (List.getElem?_eq_some_iff.1 hv).1
  rw [World.cell?_setCell_other _ _ _ _ (show (⟨g, m, none⟩ : Addr) ≠ ⟨g, o + j, none⟩ from fun q => by injection q with _ q2 _; omega)]
  exact h j v hv
theorem grM_ccl (r : Cr) (e : En) (g kc : Nat) : ccl (grM r e g kc) = (ccl r).set 7 (.slice (some ⟨g, 0, none⟩) (r.c.st.mt.length + 1) kc) := by simp [ccl, ccs, grM]
theorem grK_ccl (r : Cr) (x : Int) (g kc : Nat) : ccl (grK r x g kc) = (ccl r).set 10 (.slice (some ⟨g, 0, none⟩) (r.c.st.kept.length + 1) kc) := by simp [ccl, ccs, grK]
/-- a command's own row grown, and the new slice put in its place -/
theorem Ap.growM {wc : World} {base ba n : Nat} {va : Option Addr} {vc : Nat} {R : Nat → Cr} {w : World} (h : Ap wc base ba n va vc R w) {i : Nat} (hi : i < n) (e : En) (hl : (R i).c.st.mt.length ≤ 1000000) {gl : Nat} (hva : va = some ⟨gl, 0, none⟩) :
    ∃ g kc w2, (∀ ty, (Builtin.append_ #[29, 29] ty #[(R i).mv, .slice (some ⟨w.heap.size, 0, none⟩) 1 1]).run Tryd.prog (w.alloc (.cells #[str e.key, str e.val] 47)) = .ok (.slice (some ⟨g, 0, none⟩) ((R i).c.st.mt.length + 1) kc) w2) ∧ w2.cell? ⟨gl, i * 12 + 7, none⟩ = some (R i).mv ∧ w2.frozen? ⟨gl, i * 12 + 7, none⟩ = false ∧
      Ap wc base ba n va vc (upR R i (grM (R i) e g kc)) (w2.setCell ⟨gl, i * 12 + 7, none⟩ (.slice (some ⟨g, 0, none⟩) ((R i).c.st.mt.length + 1) kc)) ∧ Below base w (w2.setCell ⟨gl, i * 12 + 7, none⟩ (.slice (some ⟨g, 0, none⟩) ((R i).c.st.mt.length + 1) kc)) := by
  subst hva
  obtain ⟨g, kc, w2, hr, ho2, hoth, hg⟩ := run_psK e (h.ow i hi) (Nat.le_trans h.le h.sz) hl
  obtain ⟨xs, hx⟩ := h.own
  have hgl : gl < w.heap.size := (hx.lt gl rfl).2
  have hne : (R i).mv.ownBlock ≠ some gl := own_ne (by decide) hx (h.ow i hi) rfl
  have hsame : w2.heap[gl]? = w.heap[gl]? := hoth.block gl hgl hne
  have hx2 : w2.ownsRow base 34 12 (.slice (some ⟨gl, 0, none⟩) n vc) n xs := own_same hx fun b hb => by
    have : gl = b := by simpa [Value.ownBlock] using hb
    rw [← this]; exact hsame
  have hrange : ∀ j, j < n → w2.rangeAt gl (j * 12) (ccl (R j)) := fun j hj => by
    obtain ⟨g', e1, hq⟩ := h.at' j hj
    injection e1 with e1
    injection e1 with e1 _ _
    subst e1
    exact range_same hq hsame
  have hc7 : w2.cell? ⟨gl, i * 12 + 7, none⟩ = some (R i).mv := hrange i hi 7 _ rfl
  have hgne : g ≠ gl := fun z => by
    rcases hg with q | q
    · exact hne (by rw [← z]; exact q)
    · omega
  refine ⟨g, kc, w2, hr, hc7, hx2.frozenAt _, ?_⟩
  have ho : Oth (fun b => (R i).mv.ownBlock = some b ∨ b = gl) w (w2.setCell ⟨gl, i * 12 + 7, none⟩ (.slice (some ⟨g, 0, none⟩) ((R i).c.st.mt.length + 1) kc)) := (hoth.mono (fun b q => Or.inl q)).set (X := fun b => (R i).mv.ownBlock = some b ∨ b = gl) (.inr rfl)
  refine h.upd hi (grM (R i) e g kc) ho (fun b q => ?_) ⟨_, own_cellT hx2 _ _⟩ (fun j hj => ⟨gl, rfl, ?_⟩) ?_ ?_ (fun j hj hji b q => ?_) (fun b q => ?_) (fun b q => .inl q)
  · rcases q with q | q
    · exact .inr ⟨i, hi, .inl q⟩
    · left; rw [q]; rfl
  · by_cases z : j = i
    · subst z
      rw [upR_at, grM_ccl]
      have := range_set (hrange j hj) (.slice (some ⟨g, 0, none⟩) ((R j).c.st.mt.length + 1) kc) (m := j * 12 + 7) (by omega) (by rw [ccl_len]; omega)
      rw [show j * 12 + 7 - j * 12 = 7 by omega] at this
      exact this
    · rw [upR_ne R _ z]
      exact range_far (hrange j hj) _ (by rw [ccl_len]; omega)
  · show World.ownsRow _ base 47 2 (.slice (some ⟨g, 0, none⟩) ((R i).c.st.mt ++ [e]).length kc) ((R i).c.st.mt ++ [e]).length (pcells ((R i).c.st.mt ++ [e]))
    rw [List.length_append]
    exact ownsRow_setCell_other ho2 (by show some g ≠ some gl; simpa using hgne) _
  · refine own_same (h.oi i hi) fun b hb => ho.block b ((h.oi i hi).lt b hb).2 (fun q => ?_)
    rcases q with q | q
    · exact own_ne (by decide) (h.ow i hi) (h.oi i hi) q hb
    · exact own_ne (by decide) hx (h.oi i hi) (b := b) (by rw [q]; rfl) hb
  · rcases q with q | q
    · exact ⟨fun z => h.pm i j hi hj (fun y => hji y.symm) b q z, own_ne (by decide) (h.ow i hi) (h.oi j hj) q⟩
    · rw [q]
      exact ⟨own_ne (by decide) hx (h.ow j hj) rfl, own_ne (by decide) hx (h.oi j hj) rfl⟩
  · have : g = b := by simpa [grM, Cr.mv, Value.ownBlock] using q
    rw [← this]
    exact hg
theorem Ap.growK {wc : World} {base ba n : Nat} {va : Option Addr} {vc : Nat} {R : Nat → Cr} {w : World} (h : Ap wc base ba n va vc R w) {i : Nat} (hi : i < n) (e : Int) (hl : (R i).c.st.kept.length ≤ 1000000) {gl : Nat} (hva : va = some ⟨gl, 0, none⟩) :
    ∃ g kc w2, (∀ ty, (Builtin.append_ #[30, 30] ty #[(R i).kv, .slice (some ⟨w.heap.size, 0, none⟩) 1 1]).run Tryd.prog (w.alloc (.cells #[.int .i64 e] 3)) = .ok (.slice (some ⟨g, 0, none⟩) ((R i).c.st.kept.length + 1) kc) w2) ∧ w2.cell? ⟨gl, i * 12 + 10, none⟩ = some (R i).kv ∧ w2.frozen? ⟨gl, i * 12 + 10, none⟩ = false ∧
      Ap wc base ba n va vc (upR R i (grK (R i) e g kc)) (w2.setCell ⟨gl, i * 12 + 10, none⟩ (.slice (some ⟨g, 0, none⟩) ((R i).c.st.kept.length + 1) kc)) ∧ Below base w (w2.setCell ⟨gl, i * 12 + 10, none⟩ (.slice (some ⟨g, 0, none⟩) ((R i).c.st.kept.length + 1) kc)) := by
  subst hva
  obtain ⟨g, kc, w2, hr, ho2, hoth, hg⟩ := run_isK e (h.oi i hi) (Nat.le_trans h.le h.sz) hl
  obtain ⟨xs, hx⟩ := h.own
  have hgl : gl < w.heap.size := (hx.lt gl rfl).2
  have hne : (R i).kv.ownBlock ≠ some gl := own_ne (by decide) hx (h.oi i hi) rfl
  have hsame : w2.heap[gl]? = w.heap[gl]? := hoth.block gl hgl hne
  have hx2 : w2.ownsRow base 34 12 (.slice (some ⟨gl, 0, none⟩) n vc) n xs := own_same hx fun b hb => by
    have : gl = b := by simpa [Value.ownBlock] using hb
    rw [← this]; exact hsame
  have hrange : ∀ j, j < n → w2.rangeAt gl (j * 12) (ccl (R j)) := fun j hj => by
    obtain ⟨g', e1, hq⟩ := h.at' j hj
    injection e1 with e1
    injection e1 with e1 _ _
    subst e1
    exact range_same hq hsame
  have hc7 : w2.cell? ⟨gl, i * 12 + 10, none⟩ = some (R i).kv := hrange i hi 10 _ rfl
  have hgne : g ≠ gl := fun z => by
    rcases hg with q | q
    · exact hne (by rw [← z]; exact q)
    · omega
  refine ⟨g, kc, w2, hr, hc7, hx2.frozenAt _, ?_⟩
  have ho : Oth (fun b => (R i).kv.ownBlock = some b ∨ b = gl) w (w2.setCell ⟨gl, i * 12 + 10, none⟩ (.slice (some ⟨g, 0, none⟩) ((R i).c.st.kept.length + 1) kc)) := (hoth.mono (fun b q => Or.inl q)).set (X := fun b => (R i).kv.ownBlock = some b ∨ b = gl) (.inr rfl)
  refine h.upd hi (grK (R i) e g kc) ho (fun b q => ?_) ⟨_, own_cellT hx2 _ _⟩ (fun j hj => ⟨gl, rfl, ?_⟩) ?_ ?_ (fun j hj hji b q => ?_) (fun b q => .inl q) (fun b q => ?_)
  · rcases q with q | q
    · exact .inr ⟨i, hi, .inr q⟩
    · left; rw [q]; rfl
  · by_cases z : j = i
    · subst z
      rw [upR_at, grK_ccl]
      have := range_set (hrange j hj) (.slice (some ⟨g, 0, none⟩) ((R j).c.st.kept.length + 1) kc) (m := j * 12 + 10) (by omega) (by rw [ccl_len]; omega)
      rw [show j * 12 + 10 - j * 12 = 10 by omega] at this
      exact this
    · rw [upR_ne R _ z]
      exact range_far (hrange j hj) _ (by rw [ccl_len]; omega)
  · refine own_same (h.ow i hi) fun b hb => ho.block b ((h.ow i hi).lt b hb).2 (fun q => ?_)
    rcases q with q | q
    · exact own_ne (by decide) (h.oi i hi) (h.ow i hi) q hb
    · exact own_ne (by decide) hx (h.ow i hi) (b := b) (by rw [q]; rfl) hb
  · show World.ownsRow _ base 3 1 (.slice (some ⟨g, 0, none⟩) ((R i).c.st.kept ++ [e]).length kc) ((R i).c.st.kept ++ [e]).length (ivs ((R i).c.st.kept ++ [e]))
    rw [List.length_append]
    exact ownsRow_setCell_other ho2 (by show some g ≠ some gl; simpa using hgne) _
  · rcases q with q | q
    · exact ⟨own_ne (by decide) (h.oi i hi) (h.ow j hj) q, fun z => h.pk i j hi hj (fun y => hji y.symm) b q z⟩
    · rw [q]
      exact ⟨own_ne (by decide) hx (h.ow j hj) rfl, own_ne (by decide) hx (h.oi j hj) rfl⟩
  · have : g = b := by simpa [grK, Cr.kv, Value.ownBlock] using q
    rw [← this]
    exact hg
end Go.Proofs.YtiifkcnpdihlmaaDoor

/- Layer 22: what ScriptApart keeps of its commands. -/
namespace Go.Proofs.YtiifkcnpdihlmaaDoor
set_option maxRecDepth 100000
set_option linter.unusedVariables false
set_option linter.unusedSimpArgs false
open Go.RowKit
abbrev mk6 : By := [109, 97, 114, 107, 101, 100]
abbrev gr5 : By := [103, 114, 111, 119, 110]
structure Mp (r : Cr) (m k a b : Nat) : Prop where
  ml : r.c.st.mt.length = m
  kl : r.c.st.kept.length = k
  m1 : ∀ j, j < a → ∃ e, r.c.st.mt[j]? = some e ∧ e.key = mk6
  k1 : ∀ j, j < b → r.c.st.kept[j]? = some (-1)
theorem Mp.pair {r : Cr} {m k a b : Nat} (h : Mp r m k a b) (ha : a < m) : Mp (stM r a ⟨mk6, []⟩) m k (a + 1) b := by
  refine ⟨by show (r.c.st.mt.set a _).length = m; rw [List.length_set]; exact h.ml, h.kl, fun j hj => ?_, h.k1⟩
  show ∃ e, (r.c.st.mt.set a ⟨mk6, []⟩)[j]? = some e ∧ e.key = mk6
  by_cases e : a = j
  · subst e
    exact ⟨_, List.getElem?_set_self (by rw [h.ml]; exact ha), rfl⟩
  · rw [List.getElem?_set_ne e]
    exact h.m1 j (by omega)
theorem Mp.kept {r : Cr} {m k a b : Nat} (h : Mp r m k a b) (hb : b < k) : Mp (stK r b (-1)) m k a (b + 1) := by
  refine ⟨h.ml, by show (r.c.st.kept.set b _).length = k; rw [List.length_set]; exact h.kl, h.m1, fun j hj => ?_⟩
  show (r.c.st.kept.set b (-1))[j]? = some (-1)
  by_cases e : b = j
  · subst e
    exact List.getElem?_set_self (by rw [h.kl]; exact hb)
  · rw [List.getElem?_set_ne e]
    exact h.k1 j (by omega)
structure Gp (r : Cr) (m k t u : Nat) : Prop where
  ml : r.c.st.mt.length = m + t
  kl : r.c.st.kept.length = k + u
  m1 : ∀ j, j < m → ∃ e, r.c.st.mt[j]? = some e ∧ e.key = mk6
  m2 : ∀ j, m ≤ j → j < m + t → ∃ e, r.c.st.mt[j]? = some e ∧ e.key = gr5
  k1 : ∀ j, j < k → r.c.st.kept[j]? = some (-1)
  k2 : ∀ j, k ≤ j → j < k + u → r.c.st.kept[j]? = some (-2)
theorem Mp.full {r : Cr} {m k : Nat} (h : Mp r m k m k) : Gp r m k 0 0 := ⟨h.ml, h.kl, h.m1, fun j h1 h2 => by omega, h.k1, fun j h1 h2 => by omega⟩
theorem Gp.growM {r : Cr} {m k t u : Nat} (h : Gp r m k t u) (g c : Nat) : Gp (grM r ⟨gr5, []⟩ g c) m k (t + 1) u := by
  refine ⟨by show (r.c.st.mt ++ [_]).length = _; rw [List.length_append, h.ml]; rfl, h.kl, fun j hj => ?_, fun j h1 h2 => ?_, h.k1, h.k2⟩
  · show ∃ e, (r.c.st.mt ++ [⟨gr5, []⟩])[j]? = some e ∧ e.key = mk6
    rw [List.getElem?_append_left (by rw [h.ml]; omega)]
    exact h.m1 j hj
  · show ∃ e, (r.c.st.mt ++ [⟨gr5, []⟩])[j]? = some e ∧ e.key = gr5
    by_cases e : j < m + t
    · rw [List.getElem?_append_left (by rw [h.ml]; omega)]
      exact h.m2 j h1 e
    · rw [List.getElem?_append_right (by rw [h.ml]; omega), h.ml, show j - (m + t) = 0 by omega]
      exact ⟨_, rfl, rfl⟩
theorem Gp.growK {r : Cr} {m k t u : Nat} (h : Gp r m k t u) (g c : Nat) : Gp (grK r (-2) g c) m k t (u + 1) := by
  refine ⟨h.ml, by show (r.c.st.kept ++ [_]).length = _; rw [List.length_append, h.kl]; rfl, h.m1, h.m2, fun j hj => ?_, fun j h1 h2 => ?_⟩
  · show (r.c.st.kept ++ [-2])[j]? = some (-1)
    rw [List.getElem?_append_left (by rw [h.kl]; omega)]
    exact h.k1 j hj
  · show (r.c.st.kept ++ [-2])[j]? = some (-2)
    by_cases e : j < k + u
    · rw [List.getElem?_append_left (by rw [h.kl]; omega)]
      exact h.k2 j h1 e
    · rw [List.getElem?_append_right (by rw [h.kl]; omega), h.kl, show j - (k + u) = 0 by omega]
      rfl
/-- what stands at a command -/
theorem Ap.cells {wc : World} {base ba n : Nat} {va : Option Addr} {vc : Nat} {R : Nat → Cr} {w : World} (h : Ap wc base ba n va vc R w) {i : Nat} (hi : i < n) : ∃ g, va = some ⟨g, 0, none⟩ ∧ w.cell? ⟨g, i * 12 + 3 + 4, none⟩ = some (R i).mv ∧ w.cell? ⟨g, i * 12 + 3 + 7, none⟩ = some (R i).kv := by
  obtain ⟨g, e, hr⟩ := h.at' i hi
  exact ⟨g, e, hr 7 _ rfl, hr 10 _ rfl⟩
theorem Ap.pairAt {wc : World} {base ba n : Nat} {va : Option Addr} {vc : Nat} {R : Nat → Cr} {w : World} (h : Ap wc base ba n va vc R w) {i k : Nat} (hi : i < n) {e : En} (hk : (R i).c.st.mt[k]? = some e) : ∃ q, (R i).ma = some ⟨q, 0, none⟩ ∧ w.cell? ⟨q, k * 2, none⟩ = some (str e.key) ∧ w.cell? ⟨q, k * 2 + 1, none⟩ = some (str e.val) ∧ ∀ j, w.frozen? ⟨q, j, none⟩ = false := by
  have hl := (List.getElem?_eq_some_iff.1 hk).1
  have o := h.ow i hi
  obtain ⟨-, -, -, q, hq⟩ := own_room' o (by omega)
  have o1 : w.ownsRow base 47 2 (.slice (some ⟨q, 0, none⟩) (R i).c.st.mt.length (R i).mc) (R i).c.st.mt.length (pcells (R i).c.st.mt) := by rw [← hq]; exact o
  obtain ⟨p0, p1⟩ := pcells_get hk
  exact ⟨q, hq, by rw [o1.cellAt _ (by omega)]; exact p0, by rw [o1.cellAt _ (by omega)]; exact p1, fun j => o1.frozenAt j⟩
theorem Ap.keptAt {wc : World} {base ba n : Nat} {va : Option Addr} {vc : Nat} {R : Nat → Cr} {w : World} (h : Ap wc base ba n va vc R w) {i k : Nat} (hi : i < n) {x : Int} (hk : (R i).c.st.kept[k]? = some x) : ∃ q, (R i).ka = some ⟨q, 0, none⟩ ∧ w.cell? ⟨q, k, none⟩ = some (.int .i64 x) ∧ ∀ j, w.frozen? ⟨q, j, none⟩ = false := by
  have hl := (List.getElem?_eq_some_iff.1 hk).1
  have o := h.oi i hi
  obtain ⟨-, -, -, q, hq⟩ := own_room' o (by omega)
  have o1 : w.ownsRow base 3 1 (.slice (some ⟨q, 0, none⟩) (R i).c.st.kept.length (R i).kc) (R i).c.st.kept.length (ivs (R i).c.st.kept) := by rw [← hq]; exact o
  exact ⟨q, hq, by rw [o1.cellAt _ (by omega)]; unfold ivs; rw [List.getElem?_map, hk]; rfl, fun j => o1.frozenAt j⟩
theorem Ap.of_heap {wc : World} {base ba n : Nat} {va : Option Addr} {vc : Nat} {R : Nat → Cr} {w w' : World} (h : Ap wc base ba n va vc R w) (hb : Below w.heap.size w w') : Ap wc base ba n va vc R w' := by
  obtain ⟨xs, hx⟩ := h.own
  refine ⟨⟨xs, own_on hx hb⟩, fun i hi => ?_, fun i hi => own_on (h.ow i hi) hb, fun i hi => own_on (h.oi i hi) hb, h.pm, h.pk, h.lo, fun b h1 h2 => ?_, Nat.le_trans h.sz hb.size, h.le⟩
  · obtain ⟨g, e, hr⟩ := h.at' i hi
    exact ⟨g, e, range_same hr (hb.block g (hx.lt g (by rw [e]; rfl)).2)⟩
  · rw [hb.block b (Nat.lt_of_lt_of_le h2 h.sz)]; exact h.kp b h1 h2
/-- loop one's keeping -/
structure L1s (wc : World) (base ba n : Nat) (va : Option Addr) (vc : Nat) (ml kl : Nat → Nat) (i a b : Nat) (wr : World) : Prop where
  ex : ∃ R, Ap wc base ba n va vc R wr ∧ (∀ j, j < i → j < n → Mp (R j) (ml j) (kl j) (ml j) (kl j)) ∧ (∀ j, i < j → j < n → Mp (R j) (ml j) (kl j) 0 0) ∧ (i < n → Mp (R i) (ml i) (kl i) a b)
  bel : Below base wc wr
theorem L1s.pair {wc : World} {base ba n : Nat} {va : Option Addr} {vc : Nat} {ml kl : Nat → Nat} {i a b : Nat} {wr : World} (h : L1s wc base ba n va vc ml kl i a b wr) (hi : i < n) (ha : a < ml i) :
    ∃ g q c k0 v0 mc, va = some ⟨g, 0, none⟩ ∧ wr.cell? ⟨g, i * 12 + 3 + 4, none⟩ = some (.slice (some ⟨q, 0, none⟩) (ml i) mc) ∧ wr.cell? ⟨q, a * 2, none⟩ = some (str k0) ∧ wr.cell? ⟨q, a * 2 + 1, none⟩ = some (str v0) ∧ (∀ j, wr.frozen? ⟨q, j, none⟩ = false) ∧ c = (wr.setCell ⟨q, a * 2, none⟩ (str mk6)).setCell ⟨q, a * 2 + 1, none⟩ (str []) ∧ L1s wc base ba n va vc ml kl i (a + 1) b c := by
  obtain ⟨R, hA, h1, h2, h3⟩ := h.ex
  have h3 := h3 hi
  obtain ⟨g, e, c7, c10⟩ := hA.cells hi
  obtain ⟨p, hp⟩ : ∃ p, (R i).c.st.mt[a]? = some p := ⟨_, List.getElem?_eq_getElem (by rw [h3.ml]; exact ha)⟩
  obtain ⟨q, hq, s0, s1, fz⟩ := hA.pairAt hi hp
  obtain ⟨hN, hB⟩ := hA.pair hi (by rw [h3.ml]; exact ha) ⟨mk6, []⟩ hq
  refine ⟨g, q, _, p.key, p.val, (R i).mc, e, ?_, s0, s1, fz, rfl, ⟨⟨_, hN, fun j hj hjn => ?_, fun j hj hjn => ?_, fun _ => ?_⟩, h.bel.trans hB⟩⟩
  · rw [c7]; show some (Value.slice (R i).ma (R i).c.st.mt.length (R i).mc) = _; rw [hq, h3.ml]
  · rw [upR_ne R _ (by omega)]; exact h1 j hj hjn
  · rw [upR_ne R _ (by omega)]; exact h2 j hj hjn
  · rw [upR_at]; exact h3.pair ha
theorem L1s.kept {wc : World} {base ba n : Nat} {va : Option Addr} {vc : Nat} {ml kl : Nat → Nat} {i a b : Nat} {wr : World} (h : L1s wc base ba n va vc ml kl i a b wr) (hi : i < n) (hb : b < kl i) :
    ∃ g q c k0 kc, va = some ⟨g, 0, none⟩ ∧ wr.cell? ⟨g, i * 12 + 3 + 7, none⟩ = some (.slice (some ⟨q, 0, none⟩) (kl i) kc) ∧ wr.cell? ⟨q, b, none⟩ = some (.int .i64 k0) ∧ (∀ j, wr.frozen? ⟨q, j, none⟩ = false) ∧ c = wr.setCell ⟨q, b, none⟩ (.int .i64 (-1)) ∧ L1s wc base ba n va vc ml kl i a (b + 1) c := by
  obtain ⟨R, hA, h1, h2, h3⟩ := h.ex
  have h3 := h3 hi
  obtain ⟨g, e, c7, c10⟩ := hA.cells hi
  obtain ⟨p, hp⟩ : ∃ p, (R i).c.st.kept[b]? = some p := ⟨_, List.getElem?_eq_getElem (by rw [h3.kl]; exact hb)⟩
  obtain ⟨q, hq, s0, fz⟩ := hA.keptAt hi hp
  obtain ⟨hN, hB⟩ := hA.kept (k := b) hi (-1) hq
  refine ⟨g, q, _, p, (R i).kc, e, ?_, s0, fz, rfl, ⟨⟨_, hN, fun j hj hjn => ?_, fun j hj hjn => ?_, fun _ => ?_⟩, h.bel.trans hB⟩⟩
  · rw [c10]; show some (Value.slice (R i).ka (R i).c.st.kept.length (R i).kc) = _; rw [hq, h3.kl]
  · rw [upR_ne R _ (by omega)]; exact h1 j hj hjn
  · rw [upR_ne R _ (by omega)]; exact h2 j hj hjn
  · rw [upR_at]; exact h3.kept hb
theorem L1s.lens {wc : World} {base ba n : Nat} {va : Option Addr} {vc : Nat} {ml kl : Nat → Nat} {i a b : Nat} {wr : World} (h : L1s wc base ba n va vc ml kl i a b wr) (hi : i < n) :
    ∃ g ma mc ka kc, va = some ⟨g, 0, none⟩ ∧ wr.cell? ⟨g, i * 12 + 3 + 4, none⟩ = some (.slice ma (ml i) mc) ∧ wr.cell? ⟨g, i * 12 + 3 + 7, none⟩ = some (.slice ka (kl i) kc) := by
  obtain ⟨R, hA, h1, h2, h3⟩ := h.ex
  have h3 := h3 hi
  obtain ⟨g, e, c7, c10⟩ := hA.cells hi
  exact ⟨g, (R i).ma, (R i).mc, (R i).ka, (R i).kc, e, by rw [c7]; show some (Value.slice _ (R i).c.st.mt.length _) = _; rw [h3.ml], by rw [c10]; show some (Value.slice _ (R i).c.st.kept.length _) = _; rw [h3.kl]⟩
theorem L1s.next {wc : World} {base ba n : Nat} {va : Option Addr} {vc : Nat} {ml kl : Nat → Nat} {i : Nat} {wr : World} (h : L1s wc base ba n va vc ml kl i (ml i) (kl i) wr) (hi : i < n) : L1s wc base ba n va vc ml kl (i + 1) 0 0 wr := by
  obtain ⟨R, hA, h1, h2, h3⟩ := h.ex
  refine ⟨⟨R, hA, fun j hj hjn => ?_, fun j hj hjn => h2 j (by omega) hjn, fun hn => h2 (i + 1) (by omega) hn⟩, h.bel⟩
  by_cases e : j = i
  · subst e; exact h3 hi
  · exact h1 j (by omega) hjn
end Go.Proofs.YtiifkcnpdihlmaaDoor

/- Layer 22: what ScriptApart keeps of its commands, grown and given up. -/
namespace Go.Proofs.YtiifkcnpdihlmaaDoor
set_option maxRecDepth 100000
set_option linter.unusedVariables false
set_option linter.unusedSimpArgs false
open Go.RowKit
structure L2s (wc : World) (base ba n : Nat) (va : Option Addr) (vc : Nat) (ml kl : Nat → Nat) (i t u : Nat) (wr : World) : Prop where
  ex : ∃ R, Ap wc base ba n va vc R wr ∧ (∀ j, j < i → j < n → Gp (R j) (ml j) (kl j) 8 8) ∧ (∀ j, i < j → j < n → Gp (R j) (ml j) (kl j) 0 0) ∧ (i < n → Gp (R i) (ml i) (kl i) t u)
  bel : Below base wc wr
theorem L1s.done {wc : World} {base ba n : Nat} {va : Option Addr} {vc : Nat} {ml kl : Nat → Nat} {wr : World} (h : L1s wc base ba n va vc ml kl n 0 0 wr) : L2s wc base ba n va vc ml kl 0 0 0 wr := by
  obtain ⟨R, hA, h1, h2, h3⟩ := h.ex
  exact ⟨⟨R, hA, fun j hj _ => absurd hj (by omega), fun j _ hjn => (h1 j hjn hjn).full, fun hn => (h1 0 hn hn).full⟩, h.bel⟩
theorem L2s.next {wc : World} {base ba n : Nat} {va : Option Addr} {vc : Nat} {ml kl : Nat → Nat} {i : Nat} {wr : World} (h : L2s wc base ba n va vc ml kl i 8 8 wr) (hi : i < n) : L2s wc base ba n va vc ml kl (i + 1) 0 0 wr := by
  obtain ⟨R, hA, h1, h2, h3⟩ := h.ex
  refine ⟨⟨R, hA, fun j hj hjn => ?_, fun j hj hjn => h2 j (by omega) hjn, fun hn => h2 (i + 1) (by omega) hn⟩, h.bel⟩
  by_cases e : j = i
  · subst e; exact h3 hi
  · exact h1 j (by omega) hjn
theorem L2s.growM {wc : World} {base ba n : Nat} {va : Option Addr} {vc : Nat} {ml kl : Nat → Nat} {i t u : Nat} {wr : World} (h : L2s wc base ba n va vc ml kl i t u wr) (hi : i < n) (hl : ml i ≤ 100000) (ht : t < 8) :
    ∃ g ma mc g2 kc w2 c, va = some ⟨g, 0, none⟩ ∧ wr.cell? ⟨g, i * 12 + 3 + 4, none⟩ = some (.slice ma (ml i + t) mc) ∧ (∀ ty, (Builtin.append_ #[29, 29] ty #[.slice ma (ml i + t) mc, .slice (some ⟨wr.heap.size, 0, none⟩) 1 1]).run Tryd.prog (wr.alloc (.cells #[.string ⟨#[103, 114, 111, 119, 110]⟩, .string ⟨#[]⟩] 47)) = .ok (.slice (some ⟨g2, 0, none⟩) (ml i + t + 1) kc) w2) ∧ w2.cell? ⟨g, i * 12 + 3 + 4, none⟩ = some (.slice ma (ml i + t) mc) ∧ w2.frozen? ⟨g, i * 12 + 3 + 4, none⟩ = false ∧ c = w2.setCell ⟨g, i * 12 + 3 + 4, none⟩ (.slice (some ⟨g2, 0, none⟩) (ml i + t + 1) kc) ∧ L2s wc base ba n va vc ml kl i (t + 1) u c := by
  obtain ⟨R, hA, h1, h2, h3⟩ := h.ex
  have h3 := h3 hi
  obtain ⟨g, e, c7, c10⟩ := hA.cells hi
  obtain ⟨g2, kc, w2, hr, hc, hf, hN, hB⟩ := hA.growM hi ⟨gr5, []⟩ (by rw [h3.ml]; omega) e
  have hmv : (R i).mv = .slice (R i).ma (ml i + t) (R i).mc := by show Value.slice (R i).ma (R i).c.st.mt.length (R i).mc = _; rw [h3.ml]
  rw [h3.ml] at hr hN hB
  rw [hmv] at hr hc c7
  refine ⟨g, (R i).ma, (R i).mc, g2, kc, w2, _, e, c7, hr, hc, hf, rfl, ⟨⟨_, hN, fun j hj hjn => ?_, fun j hj hjn => ?_, fun _ => ?_⟩, h.bel.trans hB⟩⟩
  · rw [upR_ne R _ (by omega)]; exact h1 j hj hjn
  · rw [upR_ne R _ (by omega)]; exact h2 j hj hjn
  · rw [upR_at]; exact h3.growM g2 kc
theorem L2s.growK {wc : World} {base ba n : Nat} {va : Option Addr} {vc : Nat} {ml kl : Nat → Nat} {i t u : Nat} {wr : World} (h : L2s wc base ba n va vc ml kl i t u wr) (hi : i < n) (hl : kl i ≤ 100000) (ht : u < 8) :
    ∃ g ma mc g2 kc w2 c, va = some ⟨g, 0, none⟩ ∧ wr.cell? ⟨g, i * 12 + 3 + 7, none⟩ = some (.slice ma (kl i + u) mc) ∧ (∀ ty, (Builtin.append_ #[30, 30] ty #[.slice ma (kl i + u) mc, .slice (some ⟨wr.heap.size, 0, none⟩) 1 1]).run Tryd.prog (wr.alloc (.cells #[.int .i64 (-2)] 3)) = .ok (.slice (some ⟨g2, 0, none⟩) (kl i + u + 1) kc) w2) ∧ w2.cell? ⟨g, i * 12 + 3 + 7, none⟩ = some (.slice ma (kl i + u) mc) ∧ w2.frozen? ⟨g, i * 12 + 3 + 7, none⟩ = false ∧ c = w2.setCell ⟨g, i * 12 + 3 + 7, none⟩ (.slice (some ⟨g2, 0, none⟩) (kl i + u + 1) kc) ∧ L2s wc base ba n va vc ml kl i t (u + 1) c := by
  obtain ⟨R, hA, h1, h2, h3⟩ := h.ex
  have h3 := h3 hi
  obtain ⟨g, e, c7, c10⟩ := hA.cells hi
  obtain ⟨g2, kc, w2, hr, hc, hf, hN, hB⟩ := hA.growK hi (-2) (by rw [h3.kl]; omega) e
  have hmv : (R i).kv = .slice (R i).ka (kl i + u) (R i).kc := by show Value.slice (R i).ka (R i).c.st.kept.length (R i).kc = _; rw [h3.kl]
  rw [h3.kl] at hr hN hB
  rw [hmv] at hr hc c10
  refine ⟨g, (R i).ka, (R i).kc, g2, kc, w2, _, e, c10, hr, hc, hf, rfl, ⟨⟨_, hN, fun j hj hjn => ?_, fun j hj hjn => ?_, fun _ => ?_⟩, h.bel.trans hB⟩⟩
  · rw [upR_ne R _ (by omega)]; exact h1 j hj hjn
  · rw [upR_ne R _ (by omega)]; exact h2 j hj hjn
  · rw [upR_at]; exact h3.growK g2 kc
theorem L2s.later {wc : World} {base ba n : Nat} {va : Option Addr} {vc : Nat} {ml kl : Nat → Nat} {i t u : Nat} {wr w' : World} (h : L2s wc base ba n va vc ml kl i t u wr) (hb : Below wr.heap.size wr w') : L2s wc base ba n va vc ml kl i t u w' := by
  obtain ⟨R, hA, h1⟩ := h.ex
  exact ⟨⟨R, hA.of_heap hb, h1⟩, h.bel.trans (hb.mono (Nat.le_trans hA.le hA.sz))⟩
/-- what is asked of a command behind both loops -/
theorem L2s.seen {wc : World} {base ba n : Nat} {va : Option Addr} {vc : Nat} {ml kl : Nat → Nat} {wr : World} (h : L2s wc base ba n va vc ml kl n 0 0 wr) {i : Nat} (hi : i < n) :
    ∃ g qm mc qk kc, va = some ⟨g, 0, none⟩ ∧ wr.cell? ⟨g, i * 12 + 3 + 4, none⟩ = some (.slice (some ⟨qm, 0, none⟩) (ml i + 8) mc) ∧ wr.cell? ⟨g, i * 12 + 3 + 7, none⟩ = some (.slice (some ⟨qk, 0, none⟩) (kl i + 8) kc) ∧
      (∀ j, j < ml i → wr.cell? ⟨qm, j * 2, none⟩ = some (str mk6)) ∧ (∀ j, ml i ≤ j → j < ml i + 8 → wr.cell? ⟨qm, j * 2, none⟩ = some (str gr5)) ∧ (∀ j, j < kl i → wr.cell? ⟨qk, j, none⟩ = some (.int .i64 (-1))) ∧ (∀ j, kl i ≤ j → j < kl i + 8 → wr.cell? ⟨qk, j, none⟩ = some (.int .i64 (-2))) := by
  obtain ⟨R, hA, h1, h2, h3⟩ := h.ex
  have hG := h1 i hi hi
  obtain ⟨g, e, c7, c10⟩ := hA.cells hi
  obtain ⟨e0, he0, _⟩ := hG.m2 (ml i) (Nat.le_refl _) (by omega)
  obtain ⟨qm, hqm, _⟩ := hA.pairAt hi he0
  obtain ⟨qk, hqk, _⟩ := hA.keptAt hi (hG.k2 (kl i) (Nat.le_refl _) (by omega))
  have pa : ∀ j e, (R i).c.st.mt[j]? = some e → wr.cell? ⟨qm, j * 2, none⟩ = some (str e.key) := fun j e hj => by
    obtain ⟨q, hq, s0, _⟩ := hA.pairAt hi hj
    rw [hqm] at hq
    injection hq with hq
    injection hq with hq _ _
    rw [hq]; exact s0
  have ka : ∀ j x, (R i).c.st.kept[j]? = some x → wr.cell? ⟨qk, j, none⟩ = some (.int .i64 x) := fun j x hj => by
    obtain ⟨q, hq, s0, _⟩ := hA.keptAt hi hj
    rw [hqk] at hq
    injection hq with hq
    injection hq with hq _ _
    rw [hq]; exact s0
  refine ⟨g, qm, (R i).mc, qk, (R i).kc, e, ?_, ?_, fun j hj => ?_, fun j h1 h2 => ?_, fun j hj => ka j _ (hG.k1 j hj), fun j h1 h2 => ka j _ (hG.k2 j h1 h2)⟩
  · rw [c7]; show some (Value.slice (R i).ma (R i).c.st.mt.length (R i).mc) = _; rw [hqm, hG.ml]
  · rw [c10]; show some (Value.slice (R i).ka (R i).c.st.kept.length (R i).kc) = _; rw [hqk, hG.kl]
  · obtain ⟨x, hx, hk⟩ := hG.m1 j hj
    rw [pa j x hx, hk]
  · obtain ⟨x, hx, hk⟩ := hG.m2 j h1 h2
    rw [pa j x hx, hk]
/-- a list of one's own whose contents matter no more -/
structure Az (wc : World) (base ba n : Nat) (v : Value) (w : World) : Prop where
  own : ∃ xs, w.ownsRow base 34 12 v n xs
  lo : ∀ b, v.ownBlock = some b → b < ba ∨ wc.heap.size ≤ b
  kp : ∀ b, ba ≤ b → b < wc.heap.size → w.heap[b]? = wc.heap[b]?
  sz : wc.heap.size ≤ w.heap.size
  le : base ≤ wc.heap.size
  bel : Below base wc w
theorem L2s.az {wc : World} {base ba n : Nat} {va : Option Addr} {vc : Nat} {ml kl : Nat → Nat} {i t u : Nat} {wr : World} (h : L2s wc base ba n va vc ml kl i t u wr) : Az wc base ba n (.slice va n vc) wr := by
  obtain ⟨R, hA, _⟩ := h.ex
  exact ⟨hA.own, fun b q => hA.lo b (.inl q), hA.kp, hA.sz, hA.le, h.bel⟩
theorem own_cellsT {base g cap n s : Nat} {t : TypeId} : ∀ (vs : List Value) (o : Nat) (w : World) (xs : List Value), w.ownsRow base t s (.slice (some ⟨g, 0, none⟩) n cap) n xs → ∃ ys, (w.setCells g o vs).ownsRow base t s (.slice (some ⟨g, 0, none⟩) n cap) n ys
  | [], _, _, xs, h => ⟨xs, h⟩
  | v :: vs, o, w, xs, h => own_cellsT vs (o + 1) (w.setCell ⟨g, o, none⟩ v) _ (own_cellT h o v)
theorem Az.clear {wc : World} {base ba n : Nat} {va : Option Addr} {vc : Nat} {wr : World} (h : Az wc base ba n (.slice va n vc) wr) {i : Nat} (hi : i < n) (c : Cm) (hc1 : c.st.mt = []) (hc2 : c.st.kept = []) :
    ∃ g w', va = some ⟨g, 0, none⟩ ∧ (stC (.pointer (some ⟨g, i * 12, none⟩)) (cV c none 0 none 0)).run Tryd.prog wr = .ok () w' ∧ Az wc base ba n (.slice va n vc) w' := by
  obtain ⟨xs, hx⟩ := h.own
  obtain ⟨-, hcap, -, g, hg⟩ := own_room' hx (by omega)
  subst hg
  obtain ⟨cs, hcs⟩ := own_type hx rfl
  have hsz : i * 12 + 12 ≤ cs.size := by
    rcases hx.2 with ⟨e, _⟩ | ⟨g', cap', cur, e, _, h3, h4, _, h6, _⟩
    · cases e
    · injection e with e1 _ e3
      injection e1 with e1
      injection e1 with e1 _ _
      subst e1 e3
      rw [hcs] at h3
      injection h3 with h3
      injection h3 with h3 _ _
      rw [h3, h6]
      have : (i + 1) * 12 ≤ vc * 12 := Nat.mul_le_mul_right 12 (by omega)
      omega
  have ho : Oth (fun b => b = g) wr (wr.setCells g (i * 12) (ccs c none 0 none 0).toList) := oth_setCells (X := fun b => b = g) (g := g) rfl _ _ _ (Oth.refl _ _)
  refine ⟨g, wr.setCells g (i * 12) (ccs c none 0 none 0).toList, rfl, ?_, ⟨own_cellsT _ _ _ _ hx, h.lo, fun b h1 h2 => ?_, Nat.le_trans h.sz ho.size, h.le, h.bel.trans ⟨ho.os, ho.tape, ho.output, ho.size, fun k hk => ho.block k (by have := h.sz; have := h.le; omega) (fun q => ?_)⟩⟩⟩
  · unfold stC
    exact run_storeAt_mid (P := Tryd.prog) wr g (i * 12) 34 (ccs c none 0 none 0) (there_of_row hcs (i * 12) (show i * 12 + 12 ≤ cs.size from hsz)) infoC (ccs_one ..)
  · have hsz := h.sz
    rw [ho.block b (by omega) (fun q => by rcases h.lo g rfl with z | z <;> omega)]
    exact h.kp b h1 h2
  · have := (hx.lt g rfl).1
    omega
theorem Az.app {wc : World} {base ba n : Nat} {va : Option Addr} {vc : Nat} {w1 : World} (h : Az wc base ba n (.slice va n vc) w1) (hn : n ≤ 1000000) (c : Cm) :
    ∃ va' vc' w', (∀ ty, (Builtin.append_ #[25, 25] ty #[.slice va n vc, .slice (some ⟨w1.heap.size, 0, none⟩) 1 1]).run Tryd.prog (w1.alloc (.cells (ccs c none 0 none 0) 34)) = .ok (.slice va' (n + 1) vc') w') ∧ Az wc base ba (n + 1) (.slice va' (n + 1) vc') w' := by
  obtain ⟨i0, z0, hi0, hz0, hzs, hz1, hz2⟩ := infoCx
  have hm : maxLen = 9223372036854775807 := rfl
  obtain ⟨xs, hx⟩ := h.own
  have o1 := hx.alloc (.cells (ccs c none 0 none 0) 34)
  have hle : base ≤ w1.heap.size := Nat.le_trans h.le h.sz
  have hsz1 := h.sz
  obtain ⟨g, cap, w', hr', hown, hgrow, hat, hgl⟩ := run_append_lies (P := Tryd.prog) (w := w1.alloc (.cells (ccs c none 0 none 0) 34)) 25 34 base 34 i0 z0 12 160 Tryd.underlying25 hi0 hz0 hz1 hz2 hzs (by omega) (.slice va n vc) n xs o1 ⟨w1.heap.size, 0, none⟩ 1 1 (ccl ⟨c, none, 0, none, 0⟩) rfl
      (World.news_of_block (cs := ccs c none 0 none 0) (t := 34) (fr := (0, 0)) (heap_alloc_new w1 _)) (ccl_one ⟨c, none, 0, none, 0⟩) (by omega) (by rw [hm]; omega) (by omega) (by simp; omega) (w1.heap.size + 1) (by simp)
  have hbl := ((Below.refl base w1).alloc hle (.cells (ccs c none 0 none 0) 34)).trans (grown_below o1 (by simp; omega) hgrow)
  refine ⟨some ⟨g, 0, none⟩, cap, w', fun ty => hr', ⟨⟨_, hown⟩, fun b hb => ?_, fun b h1 h2 => ?_, Nat.le_trans h.sz hbl.size, h.le, h.bel.trans hbl⟩⟩
  · have : g = b := by simpa [Value.ownBlock] using hb
    subst this
    rcases hat with q | q
    · exact h.lo g q
    · right; omega
  · rw [hgrow.block b (by simp; omega) (fun q => by rcases h.lo b q.symm with z | z <;> omega), heap_alloc_old _ _ _ (by omega)]
    exact h.kp b h1 h2
/-- a list that lies between stays -/
theorem Az.fc {wc : World} {base ba n : Nat} {v : Value} {w wa wb : World} (h : Az wc base ba n v w) {va : Option Addr} {vc : Nat} {R : List Cr} (hF : Fc ba wb (.slice va R.length vc) R) (hb : Below wb.heap.size wb wc) : Fc ba w (.slice va R.length vc) R := by
  have hc := hF.later hb
  refine hc.same h.sz (fun b q => ?_)
  have := hc.lt q
  exact h.kp b this.1 this.2
theorem Az.fq {wc : World} {base ba n : Nat} {v : Value} {w wb : World} {b0 : Nat} (h : Az wc base ba n v w) {va : Option Addr} {vc : Nat} {R : List Cr} (hF : Fq b0 wb (.slice va R.length vc) R) (h0 : ba ≤ b0) (hb : Below wb.heap.size wb wc) : Fq b0 w (.slice va R.length vc) R := by
  have hc := hF.later hb
  refine hc.same h.sz (fun b q => ?_)
  have := hc.lt q
  exact h.kp b (by omega) this.2
end Go.Proofs.YtiifkcnpdihlmaaDoor

/- Layer 22: ScriptApart. -/
namespace Go.Proofs.YtiifkcnpdihlmaaDoor
set_option maxRecDepth 100000
set_option linter.unusedVariables false
set_option linter.unusedSimpArgs false
open Go.RowKit
attribute [local go_sem ↓] Go.wp_at_zero Go.wp_at_succ stCe
attribute [-go_sem] Go.Builtin.append_
set_option maxHeartbeats 4000000 in
theorem apart_walk (L : List Cr) (la : Option Addr) (lc : Nat) (w : World) (hL : CT w la L) (hn : L.length ≤ 879609302208) (hi : ∀ r ∈ L, OkI r.c) (hS : SG w) (hT : TB w) (hE : EG w) :
    Calls Tryd.prog 5 #[.slice la L.length lc] w fun e w' => e = .returned (.bool true) ∧ Below w.heap.size w w' := by
  have HI : Hid (∀ c ∈ L.map (·.c), OkT c) := ⟨fun c hc => by obtain ⟨r, hr, rfl⟩ := List.mem_map.1 hc; exact (hi r hr).t⟩
  have HC : Hid (∀ c ∈ L.map (·.c), OkC c) := ⟨fun c hc => by obtain ⟨r, hr, rfl⟩ := List.mem_map.1 hc; exact (hi r hr).ok⟩
  have HM : Hid (L.length = (L.map (·.c)).length) := ⟨by rw [List.length_map]⟩
  go_enter Tryd.func5, Tryd.ntmps5
  go_wp2_with fail
  refine Calls.mono (first_any w hS hT hE) ?_
  rintro e w1 ⟨rfl, b1⟩
  have hgi := given_any L la lc w1 (hL.later b1) hn (fun r hr => ⟨(hi r hr).ml, (hi r hr).kl⟩)
  dsimp only
  go_wp2_with fail
  with_reducible refine Calls.mono hgi ?_
  rintro e w3 ⟨va0, vc0, R0, rfl, hG, hRR, b3⟩
  have B3 := below_seq b1 b3
  have hpr := print_gv hG hRR HI.out HM.out (by omega) (hS.below B3) (hT.below B3)
  clear hgi
  dsimp only
  go_wp2_with fail
  by_cases p1 : prE (L.map (·.c)) = 0
  case neg =>
    have d3 : (prE (L.map (·.c)) == 0) = false := beq_eq_false_iff_ne.2 p1
    have d4 : (prE (L.map (·.c)) != 0) = true := by rw [bne, d3]; rfl
    generalize prE (L.map (·.c)) = E at *
    with_reducible refine Calls.mono hpr ?_
    rintro e w4 ⟨rfl, b4⟩
    clear hpr
    dsimp only
    go_wp2_with fail
    go_ret
    exact ⟨rfl, below_seq B3 b4⟩
  case pos =>
    obtain ⟨z1, -, -⟩ := print_back HC.out p1
    have hTl : (prT (L.map (·.c))).length ≤ 65536 := prTlen _
    rw [p1] at hpr
    generalize prT (L.map (·.c)) = V at *
    have hP := Hid.mk (prs_rd V)
    clear HI HC HM hG hRR p1
    with_reducible refine Calls.mono hpr ?_
    rintro e w4 ⟨rfl, b4⟩
    have B4 := below_seq B3 b4
    have hS4 := hS.below B4
    have hT4 := hT.below B4
    have hE4 := hE.below B4
    have hpa := parse_e z1 rfl (by omega) w4 hS4 hT4 hE4
    clear hpr hS hT hE B3 b1 b3 b4 hL hi
    dsimp only
    go_wp2_with fail
    with_reducible refine Calls.mono hpa ?_
    rintro e wa ⟨va, vc, Ra, rfl, hFa, hRa, ba⟩
    have hpb := parse_e z1 rfl (by omega) wa (hS4.below ba) (hT4.below ba) (hE4.below ba)
    clear hpa
    dsimp only
    go_wp2_with fail
    with_reducible refine Calls.mono hpb ?_
    rintro e wb ⟨vb, vd, Rb, rfl, hFb, hRb, bb⟩
    have tl := told_fc hFb hRb
    clear hpb
    dsimp only
    go_wp2_with fail
    with_reducible refine Calls.mono tl ?_
    rintro e ww ⟨wa1, wc1, Rw, rfl, hQw, hRw, bw⟩
    have tl2 := told_fc (hFa.later (below_seq bb bw)) hRa
    clear tl
    dsimp only
    go_wp2_with fail
    with_reducible refine Calls.mono tl2 ?_
    rintro e wt ⟨ta, tc, Rt, rfl, hQt, hRt, bt⟩
    have sm := same_l (lc := tc) (lc' := wc1) hRt hRw (by have := hP.out.1; omega) hP.out.2 (CT.ofFq hQt) (CT.ofFq (hQw.later bt))
    clear tl2
    dsimp only
    go_wp2_with fail
    with_reducible refine Calls.mono sm ?_
    rintro e wc ⟨rfl, bs⟩
    clear sm
    have hA := Ap.start hFa (below_seq (below_seq (below_seq bb bw) bt) bs) k77
    obtain ⟨ml, hml⟩ : ∃ ml : Nat → Nat, ∀ j, ml j = (Ra.getD j k77).c.st.mt.length := ⟨_, fun _ => rfl⟩
    obtain ⟨kl, hkl⟩ : ∃ kl : Nat → Nat, ∀ j, kl j = (Ra.getD j k77).c.st.kept.length := ⟨_, fun _ => rfl⟩
    have hL1 : L1s wc w4.heap.size wa.heap.size Ra.length va vc ml kl 0 0 0 wc := by
      have hm : ∀ j, Mp (Ra.getD j k77) (ml j) (kl j) 0 0 := fun j => ⟨(hml j).symm, (hkl j).symm, fun x hx => absurd hx (by omega), fun x hx => absurd hx (by omega)⟩
      exact ⟨⟨_, hA, fun j _ _ => absurd ‹j < 0› (by omega), fun j _ _ => hm j, fun _ => hm 0⟩, Below.refl _ _⟩
    have hra : ∀ j, j < Ra.length → Rd1 (Ra.getD j k77).c := fun j hj => by
      refine hP.out.2 _ ?_
      rw [← hRa]
      refine List.mem_map.2 ⟨_, ?_, rfl⟩
      rw [List.getD_eq_getElem?_getD, List.getElem?_eq_getElem hj]
      exact List.getElem_mem _
    have HLB : Hid (∀ j, j < Ra.length → ml j ≤ 9000 ∧ kl j ≤ 9000) := ⟨fun j hj => by rw [hml, hkl]; exact ⟨(hra j hj).ml, (hra j hj).kl⟩⟩
    have hRl : Ra.length ≤ 1024 := by have h := congrArg List.length hRa; rw [List.length_map] at h; have := hP.out.1; omega
    have HWL : Hid (Rw.length = Ra.length ∧ ∀ j r, Rw[j]? = some r → r.c.st.mt.length = ml j ∧ r.c.st.kept.length = kl j) := ⟨by
      have e := hRw.trans hRa.symm
      refine ⟨by have h := congrArg List.length e; simpa using h, fun j r hj => ?_⟩
      have h1 := congrArg (·[j]?) e
      simp only [List.getElem?_map, hj] at h1
      have hjl : j < Ra.length := by
        have h := congrArg List.length e
        simp at h
        rw [← h]
        exact (List.getElem?_eq_some_iff.1 hj).1
      rw [List.getElem?_eq_getElem hjl] at h1
      have h2 : r.c = (Ra[j]).c := by simpa using h1
      have h3 : Ra.getD j k77 = Ra[j] := by rw [List.getD_eq_getElem?_getD, List.getElem?_eq_getElem hjl]; rfl
      rw [hml, hkl, h3, h2]; exact ⟨rfl, rfl⟩⟩
    have BC : Hid (Below w.heap.size w wc) := ⟨below_seq (below_seq (below_seq (below_seq (below_seq B4 ba) bb) bw) bt) bs⟩
    have HB4 : Hid (Below w4.heap.size w4 wc) := ⟨below_seq (below_seq (below_seq (below_seq ba bb) bw) bt) bs⟩
    have HFB := Hid.mk hFb
    have HQW := Hid.mk hQw
    have hbwc : Hid (Below wb.heap.size wb wc ∧ Below ww.heap.size ww wc ∧ wa.heap.size ≤ wb.heap.size ∧ w.heap.size ≤ w4.heap.size) := ⟨below_seq (below_seq bw bt) bs, below_seq bt bs, bb.size, B4.size⟩
    have HRB := Hid.mk hRb
    have HRW := Hid.mk hRw
    clear hA hml hkl hra hFa hRa ba hFb hRb bb hQw hRw bw hQt hRt bt bs
    generalize hnn : Ra.length = n at *
    clear hnn
    replace hL1 := Hid.mk hL1
    dsimp only
    go_wp2_with fail
    go_loopw [10, 11, 12] (fun x _ _ wr => ∃ i : Nat, x = .int .i64 i ∧ i ≤ n ∧ Hid (L1s wc w4.heap.size wa.heap.size n va vc ml kl i 0 0 wr)) (fun x _ _ _ => n - (intOf x).toNat)
    case atStart => exact ⟨0, rfl, Nat.zero_le _, hL1⟩
    case round =>
      clear hL1
      obtain ⟨i, rfl, hin, HK⟩ := hrel
      by_cases hlt : i < n
      · have d1 : decide ((i : Int) < (n : Int)) = true := decide_eq_true (by omega)
        have i0 : (0 : Int) ≤ (i : Int) := Int.natCast_nonneg i
        have i1 : (i : Int) < (n : Int) := by omega
        obtain ⟨hmb, hkb⟩ := HLB.out i hlt
        go_wp2_with fail
        go_loopw [11] (fun x wx => ∃ k : Nat, x = .int .i64 k ∧ k ≤ ml i ∧ Hid (L1s wc w4.heap.size wa.heap.size n va vc ml kl i k 0 wx)) (fun x _ => ml i - (intOf x).toNat)
        case atStart => exact ⟨0, rfl, Nat.zero_le _, HK⟩
        case round =>
          clear HK
          obtain ⟨k, rfl, hkm, HK⟩ := hrel
          by_cases hk : k < ml i
          · obtain ⟨g, q, c, k0', v0', mc, rfl, c7, s0, s1, fz, hc, hN⟩ := HK.out.pair hlt hk
            have d2 : decide ((k : Int) < (ml i : Int)) = true := decide_eq_true (by omega)
            have k0 : (0 : Int) ≤ (k : Int) := Int.natCast_nonneg k
            have k1 : (k : Int) < (ml i : Int) := by omega
            replace hN := Hid.mk hN
            replace hc := Hid.mk hc
            go_wp2_with fail
            refine ⟨⟨k + 1, rfl, hk, ⟨?_⟩⟩, ?_⟩
            · have := hN.out
              rw [hc.out] at this
              exact this
            · show ml i - ((k : Int) + 1).toNat < ml i - ((k : Int)).toNat
              omega
          · obtain ⟨g, ma, mc, ka, kc, rfl, c7, c10⟩ := HK.out.lens hlt
            have d2 : decide ((k : Int) < (ml i : Int)) = false := decide_eq_false (by omega)
            have d3 : decide (k < ml i) = false := decide_eq_false hk
            have hke : k = ml i := by omega
            rw [hke] at HK
            clear hke hkm hk
            go_wp2_with fail
            go_loopw [12] (fun x wx => ∃ k : Nat, x = .int .i64 k ∧ k ≤ kl i ∧ Hid (L1s wc w4.heap.size wa.heap.size n (some ⟨g, 0, none⟩) vc ml kl i (ml i) k wx)) (fun x _ => kl i - (intOf x).toNat)
            case atStart => exact ⟨0, rfl, Nat.zero_le _, HK⟩
            case round =>
              clear HK c7 c10
              obtain ⟨k, rfl, hkm, HK⟩ := hrel
              by_cases hk : k < kl i
              · obtain ⟨g', q, c, k0', kc, e', c7, s0, fz, hc, hN⟩ := HK.out.kept hlt hk
                injection e' with e'
                injection e' with e' _ _
                subst e'
                have d2 : decide ((k : Int) < (kl i : Int)) = true := decide_eq_true (by omega)
                have k0 : (0 : Int) ≤ (k : Int) := Int.natCast_nonneg k
                have k1 : (k : Int) < (kl i : Int) := by omega
                replace hN := Hid.mk hN
                replace hc := Hid.mk hc
                go_wp2_with fail
                refine ⟨⟨k + 1, rfl, hk, ⟨?_⟩⟩, ?_⟩
                · have := hN.out
                  rw [hc.out] at this
                  exact this
                · show kl i - ((k : Int) + 1).toNat < kl i - ((k : Int)).toNat
                  omega
              · obtain ⟨g', ma, mc, ka, kc, e', c7, c10⟩ := HK.out.lens hlt
                injection e' with e'
                injection e' with e' _ _
                subst e'
                have d2 : decide ((k : Int) < (kl i : Int)) = false := decide_eq_false (by omega)
                have d3 : decide (k < kl i) = false := decide_eq_false hk
                have hke : k = kl i := by omega
                rw [hke] at HK
                clear hke hkm hk
                go_wp2_with fail
                refine ⟨⟨i + 1, rfl, hlt, ⟨HK.out.next hlt⟩⟩, ?_⟩
                show n - ((i : Int) + 1).toNat < n - ((i : Int)).toNat
                omega
      · have d1 : decide ((i : Int) < (n : Int)) = false := decide_eq_false (by omega)
        have d2 : decide (i < n) = false := decide_eq_false hlt
        have hie : n = i := by omega
        subst hie
        have hL2 := Hid.mk HK.out.done
        clear HK hlt hin
        go_wp2_with fail
        go_loopw [13, 14] (fun x _ wx => ∃ i : Nat, x = .int .i64 i ∧ i ≤ n ∧ Hid (L2s wc w4.heap.size wa.heap.size n va vc ml kl i 0 0 wx)) (fun x _ _ => n - (intOf x).toNat)
        case atStart => exact ⟨0, rfl, Nat.zero_le _, hL2⟩
        case round =>
          clear hL2
          obtain ⟨i, rfl, hin, HK⟩ := hrel
          by_cases hlt : i < n
          · have d1 : decide ((i : Int) < (n : Int)) = true := decide_eq_true (by omega)
            have i0 : (0 : Int) ≤ (i : Int) := Int.natCast_nonneg i
            have i1 : (i : Int) < (n : Int) := by omega
            obtain ⟨hmb, hkb⟩ := HLB.out i hlt
            go_wp2_with fail
            go_loopw [14] (fun x wx => ∃ t : Nat, x = .int .i64 t ∧ t ≤ 8 ∧ Hid (L2s wc w4.heap.size wa.heap.size n va vc ml kl i t t wx)) (fun x _ => 8 - (intOf x).toNat)
            case atStart => exact ⟨0, rfl, Nat.zero_le _, HK⟩
            case round =>
              clear HK
              obtain ⟨t, rfl, ht8, HK⟩ := hrel
              by_cases ht : t < 8
              · have d2 : decide ((t : Int) < 8) = true := decide_eq_true (by omega)
                obtain ⟨g, ma, mc, g2, kc, w2, c, rfl, c7, hap, c7b, f7, hc, hN⟩ := HK.out.growM hlt (by omega) ht
                obtain ⟨g', ma', mc', g2', kc', w2', c', e', c10, hap', c10b, f10, hc', hN'⟩ := hN.growK hlt (by omega) ht
                injection e' with e'
                injection e' with e' _ _
                subst e'
                subst hc
                have hsz : (w2.setCell ⟨g, i * 12 + 3 + 4, none⟩ (.slice (some ⟨g2, 0, none⟩) (ml i + t + 1) kc)).heap.size = w2.heap.size := by simp
                rw [hsz] at hap'
                replace hN' := Hid.mk hN'
                replace hc' := Hid.mk hc'
                clear hN HK
                go_wp2_with fail
                refine ⟨⟨t + 1, rfl, ht, ⟨?_⟩⟩, ?_⟩
                · have := hN'.out
                  rw [hc'.out] at this
                  exact this
                · show 8 - ((t : Int) + 1).toNat < 8 - ((t : Int)).toNat
                  omega
              · have d2 : decide ((t : Int) < 8) = false := decide_eq_false (by omega)
                have hte : t = 8 := by omega
                subst hte
                go_wp2_with fail
                refine ⟨⟨i + 1, rfl, hlt, ⟨HK.out.next hlt⟩⟩, ?_⟩
                show n - ((i : Int) + 1).toNat < n - ((i : Int)).toNat
                omega
          · have d1 : decide ((i : Int) < (n : Int)) = false := decide_eq_false (by omega)
            have d2 : decide (i < n) = false := decide_eq_false hlt
            have hie : n = i := by omega
            subst hie
            clear hlt hin
            go_wp2_with fail
            go_loopw [15, 16, 17, 18, 19] (fun x _ _ _ _ wx => ∃ i : Nat, x = .int .i64 i ∧ i ≤ n ∧ Hid (L2s wc w4.heap.size wa.heap.size n va vc ml kl n 0 0 wx)) (fun x _ _ _ _ _ => n - (intOf x).toNat)
            case atStart => exact ⟨0, rfl, Nat.zero_le _, HK⟩
            case round =>
              clear HK
              obtain ⟨i, rfl, hin, HK⟩ := hrel
              by_cases hlt : i < n
              · have d1 : decide ((i : Int) < (n : Int)) = true := decide_eq_true (by omega)
                have i0 : (0 : Int) ≤ (i : Int) := Int.natCast_nonneg i
                have i1 : (i : Int) < (n : Int) := by omega
                obtain ⟨hmb, hkb⟩ := HLB.out i hlt
                have hlw : i < Rw.length := by rw [HWL.out.1]; exact hlt
                have i2 : (i : Int) < (Rw.length : Int) := by omega
                obtain ⟨rw', hgw⟩ : ∃ r, Rw[i]? = some r := ⟨_, List.getElem?_eq_getElem hlw⟩
                obtain ⟨hwm, hwk⟩ := HWL.out.2 i rw' hgw
                have hqx := HK.out.az.fq HQW.out hbwc.out.2.2.1 hbwc.out.2.1
                obtain ⟨bq, off, eq', hbq, hrw⟩ := range_own hqx.own hgw
                have q7 : wr.cell? ⟨bq, off + i * 12 + 3 + 4, none⟩ = some (.slice rw'.ma (ml i) rw'.mc) := by rw [← hwm]; exact hrw 7 _ rfl
                have q10 : wr.cell? ⟨bq, off + i * 12 + 3 + 7, none⟩ = some (.slice rw'.ka (kl i) rw'.kc) := by rw [← hwk]; exact hrw 10 _ rfl
                subst eq'
                clear hrw hwm hwk hqx hgw hlw
                go_wp2_with fail
                go_quiet (fail)
                have hN := HK.out.later (w' := wr.drewN nq) ⟨rfl, rfl, rfl, Nat.le_refl _, fun _ _ => rfl⟩
                obtain ⟨g, qm, mc, qk, kc, rfl, c7, c10, pm1, pm2, pk1, pk2⟩ := hN.seen hlt
                replace hN := Hid.mk hN
                clear HK q7 q10
                generalize wr.drewN nq = wy at *
                replace pm1 := Hid.mk pm1
                replace pm2 := Hid.mk pm2
                replace pk1 := Hid.mk pk1
                replace pk2 := Hid.mk pk2
                go_wp2_with fail
                go_loopw [18] (fun x wx => ∃ j : Nat, x = .int .i64 j ∧ j ≤ ml i + 8 ∧ wx = wy) (fun x _ => ml i + 8 - (intOf x).toNat)
                case atStart => exact ⟨0, rfl, Nat.zero_le _, rfl⟩
                case round =>
                  obtain ⟨j, rfl, hj, rfl⟩ := hrel
                  by_cases hjl : j < ml i + 8
                  · have d2 : decide ((j : Int) < (ml i : Int) + 8) = true := decide_eq_true (by omega)
                    have j0 : (0 : Int) ≤ (j : Int) := Int.natCast_nonneg j
                    have j1 : (j : Int) < ((ml i + 8 : Nat) : Int) := by omega
                    have j1' : (j : Int) < (ml i : Int) + 8 := by omega
                    by_cases hjm : j < ml i
                    · have d3 : decide ((j : Int) < (ml i : Int)) = true := decide_eq_true (by omega)
                      have cj := pm1.out j hjm
                      go_wp2_with fail
                      refine ⟨⟨j + 1, rfl, hjl, trivial⟩, ?_⟩
                      show ml i + 8 - ((j : Int) + 1).toNat < ml i + 8 - ((j : Int)).toNat
                      omega
                    · have d3 : decide ((j : Int) < (ml i : Int)) = false := decide_eq_false (by omega)
                      have d4 : decide (j < ml i) = false := decide_eq_false hjm
                      have cj := pm2.out j (by omega) hjl
                      go_wp2_with fail
                      refine ⟨⟨j + 1, rfl, hjl, trivial⟩, ?_⟩
                      show ml i + 8 - ((j : Int) + 1).toNat < ml i + 8 - ((j : Int)).toNat
                      omega
                  · have d2 : decide ((j : Int) < (ml i : Int) + 8) = false := decide_eq_false (by omega)
                    have d3 : decide (j < ml i + 8) = false := decide_eq_false hjl
                    clear hjl hj
                    go_wp2_with fail
                    go_loopw [19] (fun x wx => ∃ j : Nat, x = .int .i64 j ∧ j ≤ kl i + 8 ∧ wx = wr) (fun x _ => kl i + 8 - (intOf x).toNat)
                    case atStart => exact ⟨0, rfl, Nat.zero_le _, rfl⟩
                    case round =>
                      obtain ⟨j, rfl, hj, rfl⟩ := hrel
                      by_cases hjl : j < kl i + 8
                      · have d2 : decide ((j : Int) < (kl i : Int) + 8) = true := decide_eq_true (by omega)
                        have j0 : (0 : Int) ≤ (j : Int) := Int.natCast_nonneg j
                        have j1' : (j : Int) < (kl i : Int) + 8 := by omega
                        by_cases hjm : j < kl i
                        · have d3 : decide ((j : Int) < (kl i : Int)) = true := decide_eq_true (by omega)
                          have cj := pk1.out j hjm
                          go_wp2_with fail
                          refine ⟨⟨j + 1, rfl, hjl, trivial⟩, ?_⟩
                          show kl i + 8 - ((j : Int) + 1).toNat < kl i + 8 - ((j : Int)).toNat
                          omega
                        · have d3 : decide ((j : Int) < (kl i : Int)) = false := decide_eq_false (by omega)
                          have d4 : decide (j < kl i) = false := decide_eq_false hjm
                          have cj := pk2.out j (by omega) hjl
                          go_wp2_with fail
                          refine ⟨⟨j + 1, rfl, hjl, trivial⟩, ?_⟩
                          show kl i + 8 - ((j : Int) + 1).toNat < kl i + 8 - ((j : Int)).toNat
                          omega
                      · have d2 : decide ((j : Int) < (kl i : Int) + 8) = false := decide_eq_false (by omega)
                        have d3 : decide (j < kl i + 8) = false := decide_eq_false hjl
                        clear hjl hj
                        go_wp2_with fail
                        refine ⟨⟨i + 1, rfl, hlt, hN⟩, ?_⟩
                        show n - ((i : Int) + 1).toNat < n - ((i : Int)).toNat
                        omega
              · have d1 : decide ((i : Int) < (n : Int)) = false := decide_eq_false (by omega)
                have d2 : decide (i < n) = false := decide_eq_false hlt
                have HZ := Hid.mk HK.out.az
                clear hlt hin HK
                go_wp2_with fail
                go_loopw [20] (fun x wx => ∃ i : Nat, x = .int .i64 i ∧ i ≤ n ∧ Hid (Az wc w4.heap.size wa.heap.size n (.slice va n vc) wx)) (fun x _ => n - (intOf x).toNat)
                case atStart => exact ⟨0, rfl, Nat.zero_le _, HZ⟩
                case round =>
                  clear HZ
                  obtain ⟨i, rfl, hin, HZ⟩ := hrel
                  by_cases hlt : i < n
                  · have d1 : decide ((i : Int) < (n : Int)) = true := decide_eq_true (by omega)
                    have i0 : (0 : Int) ≤ (i : Int) := Int.natCast_nonneg i
                    have i1 : (i : Int) < (n : Int) := by omega
                    obtain ⟨g, w', rfl, hst, hN⟩ := HZ.out.clear hlt ⟨-1, 0, 0, ⟨0, [], [], [], [], 0, 0, []⟩, []⟩ rfl rfl
                    have hst' : (stC (.pointer (some ⟨g, i * 12, none⟩)) (.agg #[.int .i64 (-1), .int .i64 0, .int .i64 0, .int .i64 0, .string ⟨#[]⟩, .string ⟨#[]⟩, .string ⟨#[]⟩, .slice none 0 0, .int .i64 0, .int .i64 0, .slice none 0 0, .string ⟨#[]⟩])).run Tryd.prog wr = .ok () w' := hst
                    replace hN := Hid.mk hN
                    clear hst
                    go_wp2_with fail
                    refine ⟨⟨i + 1, rfl, hlt, hN⟩, ?_⟩
                    show n - ((i : Int) + 1).toNat < n - ((i : Int)).toNat
                    omega
                  · have d1 : decide ((i : Int) < (n : Int)) = false := decide_eq_false (by omega)
                    have d2 : decide (i < n) = false := decide_eq_false hlt
                    clear hlt hin
                    go_wp2_with fail
                    go_loopw [5, 21] (fun v x wx => ∃ (t : Nat) (va' : Option Addr) (vc' : Nat), x = .int .i64 t ∧ v = .slice va' (n + t) vc' ∧ t ≤ 8 ∧ Hid (Az wc w4.heap.size wa.heap.size (n + t) (.slice va' (n + t) vc') wx)) (fun _ x _ => 8 - (intOf x).toNat)
                    case atStart => exact ⟨0, va, vc, rfl, rfl, by omega, HZ⟩
                    case round =>
                      clear HZ
                      obtain ⟨t, va', vc', rfl, rfl, ht8, HZ⟩ := hrel
                      by_cases ht : t < 8
                      · have d2 : decide ((t : Int) < 8) = true := decide_eq_true (by omega)
                        obtain ⟨va2, vc2, w', hap, hN⟩ := HZ.out.app (by omega) ⟨-2, 0, 0, ⟨0, [], [], [], [], 0, 0, []⟩, []⟩
                        have hap' : ∀ ty, (Builtin.append_ #[25, 25] ty #[.slice va' (n + t) vc', .slice (some ⟨wr.heap.size, 0, none⟩) 1 1]).run Tryd.prog (wr.alloc (.cells #[.int .i64 (-2), .int .i64 0, .int .i64 0, .int .i64 0, .string ⟨#[]⟩, .string ⟨#[]⟩, .string ⟨#[]⟩, .slice none 0 0, .int .i64 0, .int .i64 0, .slice none 0 0, .string ⟨#[]⟩] 34)) = .ok (.slice va2 (n + t + 1) vc2) w' := hap
                        replace hN := Hid.mk hN
                        clear hap HZ
                        go_wp2_with fail
                        refine ⟨⟨t + 1, va2, vc2, rfl, rfl, ht, hN⟩, ?_⟩
                        show 8 - ((t : Int) + 1).toNat < 8 - ((t : Int)).toNat
                        omega
                      · have d2 : decide ((t : Int) < 8) = false := decide_eq_false (by omega)
                        have hte : t = 8 := by omega
                        subst hte
                        have B4r := HB4.out.trans HZ.out.bel
                        have BR := BC.out.trans (HZ.out.bel.mono hbwc.out.2.2.2)
                        have hpc := parse_e z1 rfl (by omega) wr (hS4.below B4r) (hT4.below B4r) (hE4.below B4r)
                        have hFbx := HZ.out.fc (wa := wr) HFB.out hbwc.out.1
                        have hQwx := HZ.out.fq HQW.out hbwc.out.2.2.1 hbwc.out.2.1
                        clear HZ ht ht8
                        go_wp2_with fail
                        with_reducible refine Calls.mono hpc ?_
                        rintro e x5 ⟨v5, c5, R5, rfl, hF5, hR5, b5⟩
                        have tl := told_fc (hFbx.later b5) HRB.out
                        clear hpc
                        dsimp only
                        go_wp2_with fail
                        with_reducible refine Calls.mono tl ?_
                        rintro e x6 ⟨ua, uc, Ua, rfl, hQa, hRa2, b6⟩
                        have sm := same_l (lc := uc) (lc' := wc1) hRa2 HRW.out (by have := hP.out.1; omega) hP.out.2 (CT.ofFq hQa) (CT.ofFq (hQwx.later (below_seq b5 b6)))
                        clear tl
                        dsimp only
                        go_wp2_with fail
                        with_reducible refine Calls.mono sm ?_
                        rintro e x7 ⟨rfl, b7⟩
                        have tl2 := told_fc (hF5.later (below_seq b6 b7)) hR5
                        clear sm
                        dsimp only
                        go_wp2_with fail
                        with_reducible refine Calls.mono tl2 ?_
                        rintro e x8 ⟨ub, ud, Ub, rfl, hQb, hRb2, b8⟩
                        have sm := same_l (lc := ud) (lc' := wc1) hRb2 HRW.out (by have := hP.out.1; omega) hP.out.2 (CT.ofFq hQb) (CT.ofFq (hQwx.later (below_seq (below_seq (below_seq b5 b6) b7) b8)))
                        clear tl2
                        dsimp only
                        go_wp2_with fail
                        with_reducible refine Calls.mono sm ?_
                        rintro e x9 ⟨rfl, b9⟩
                        clear sm
                        have BF := below_seq (below_seq (below_seq (below_seq (below_seq BR b5) b6) b7) b8) b9
                        rw [HWL.out.1]
                        dsimp only
                        go_wp2_with fail
                        go_ret
                        exact ⟨rfl, BF⟩
end Go.Proofs.YtiifkcnpdihlmaaDoor
