/- seqTwice: whether two versions have one number. -/
import Derived.Test.YthbdaadhcheggaaSort
import Derived.Test.YthbdaadhcheggaaBq
namespace Go.Proofs.Ythbdaadhcheggaa
set_option linter.unusedVariables false
set_option linter.unusedSimpArgs false
open Go.RowKit
attribute [local go_sem ↓] Go.wp_at_zero Go.wp_at_succ
def iv (zs : List Int) : List Value := zs.map (.int .i64)
/-- a row of numbers of one's own -/
structure Io (base : Nat) (w : World) (v : Value) (zs : List Int) : Prop where
  own : w.ownsRow base 2 1 v zs.length (iv zs)
  le : base ≤ w.heap.size
theorem Io.nil (w : World) (base : Nat) (h : base ≤ w.heap.size) : Io base w (.slice none 0 0) [] := ⟨World.ownsRow_nil _ _ _ _, h⟩
theorem Io.later {base : Nat} {w w' : World} {v : Value} {R : List Int} (h : Io base w v R) (hb : Below w.heap.size w w') : Io base w' v R := ⟨own_same h.own (fun g hg => hb.block g (h.own.lt g hg).2), Nat.le_trans h.le hb.size⟩
theorem infoIf : (Try.prog.info? 2).map (fun i => (i.zero, i.size, i.bytes)) = some (some (.int .i64 0), 1, 8) := by kernel_rfl
theorem infoI : ∃ i, Try.prog.info? 2 = some i ∧ i.zero = some (.int .i64 0) ∧ i.size = 1 ∧ i.bytes = 8 := by
  have h := infoIf
  cases hi : Try.prog.info? 2 with
  | none => rw [hi] at h; cases h
  | some i => rw [hi] at h; simp at h; exact ⟨i, rfl, h.1, h.2.1, h.2.2⟩
theorem app_i {ops : Array Oper} {rest : List Oper} {o : Oper} {a : Act} {Q : Exit → Act → World → Prop} {W : World} (hgd : o.guard = none) (s x : Operand) (ho : o.op = .call { callee := .builtin .append, args := #[s, x], argTypes := #[74, 74] })
    {base : Nat} {w : World} {v : Value} {l : List Int} {g : Nat} (p : Int) (hW : W = w.alloc (.cells #[.int .i64 p] 2)) (hO : Io base w v l) (hg : g = w.heap.size) (hn : l.length ≤ 4500000000000)
    (hs : a.eval s = v) (hx : a.eval x = .slice (some ⟨g, 0, none⟩) 1 1)
    (h : ∀ v' w', Io base w' v' (l ++ [p]) → Below base w w' → wpList Try.prog ops Q rest (a.put o.dst v') w') :
    wpList Try.prog ops Q (o :: rest) a W := by
  obtain ⟨i0, hi0, hz0, hz1, hz2⟩ := infoI
  subst hW hg
  have hm : maxLen = 9223372036854775807 := rfl
  refine wpList_append_own_wide _ hgd s x 74 ho base 2 i0 _ 1 8 Try.underlying74 hi0 hz0 hz1 hz2 rfl (by omega) v l.length (iv l) hs (hO.own.alloc _) _ 1 1 [.int .i64 p] hx rfl
    (World.news_of_block (cs := #[.int .i64 p]) (t := 2) (fr := (0, 0)) (heap_alloc_new w _)) (by simp [Value.oneCell']) (by rw [hm]; omega) (by omega) (by have := hO.le; simp; omega) ?_
  intro v' w' hown hgrow _
  refine h v' w' ⟨?_, ?_⟩ ?_
  · unfold iv; rw [List.map_append, List.length_append]; exact hown
  · have := hgrow.size; have h2 := hO.le; simp at this; omega
  · exact ((Below.refl _ _).alloc hO.le _).trans (grown_below (hO.own.alloc _) (by have := hO.le; simp; omega) hgrow)
theorem Io.holds {base : Nat} {w : World} {v : Value} {zs : List Int} (h : Io base w v zs) (h0 : 0 < zs.length) : ∃ g cap, v = .slice (some ⟨g, 0, none⟩) zs.length cap ∧ base ≤ g ∧ g < w.heap.size ∧ zs.length ≤ cap ∧ Go.Sort.Holds (Value.int .i64) w g 0 zs.toArray := by
  rcases h.own.2 with ⟨_, q⟩ | ⟨g, cap, cur, e, h1, h2, h3, h4, h5, h6⟩
  · omega
  · subst e
    refine ⟨g, cap, rfl, h1, lt_of_block h2, h3, fun j hj => ?_⟩
    have hj' : j < zs.length := by simpa using hj
    have hc := h.own.cellAt j (by omega)
    refine ⟨?_, frozen_of_row _ _ _ _ _ h2⟩
    rw [Nat.zero_add, hc]
    unfold iv
    rw [List.getElem?_map, List.getElem?_eq_getElem hj']
    simp [hj']
theorem Io.sl0 {base : Nat} {w : World} {v : Value} {zs : List Int} (h : Io base w v zs) (hz : zs.length = 0) : ∃ p c, v = .slice p 0 c := by
  rcases h.own.2 with ⟨e, _⟩ | ⟨g, c, cur, e, _⟩
  · exact ⟨_, _, e⟩
  · rw [hz] at e; exact ⟨_, _, e⟩
theorem below_row {B : Nat} {w : World} {blk off n : Nat} (d : Array Int) (os : Array Obj) (h : B ≤ blk) (hs : B ≤ w.heap.size) : Below B w (Go.Sort.grow (Go.Sort.putRow (Value.int .i64) (Go.Sort.ahead w n) blk off d) os) := by
  refine ⟨rfl, rfl, rfl, by simp, fun k hk => ?_⟩
  have hk1 : k < w.heap.size := by omega
  simp only [Go.Sort.grow, Go.Sort.putRow, Go.Sort.mapBlock, Go.Sort.heap_ahead]
  rw [Array.getElem?_append_left (by simpa using hk1), Array.getElem?_modify]
  rw [if_neg (by omega)]
theorem below_row0 {B : Nat} {w : World} {blk off n : Nat} (d : Array Int) (h : B ≤ blk) (hs : B ≤ w.heap.size) : Below B w (Go.Sort.putRow (Value.int .i64) (Go.Sort.ahead w n) blk off d) := by
  have := below_row (w := w) (off := off) (n := n) d #[] h hs
  rwa [Go.Sort.grow_empty] at this
theorem holds_grow {w : World} {blk off : Nat} {d : Array Int} (h : Go.Sort.Holds (Value.int .i64) w blk off d) (hb : blk < w.heap.size) (os : Array Obj) : Go.Sort.Holds (Value.int .i64) (Go.Sort.grow w os) blk off d := fun j hj => by
  obtain ⟨h1, h2⟩ := h j hj
  have e : (Go.Sort.grow w os).heap[blk]? = w.heap[blk]? := Array.getElem?_append_left hb
  refine ⟨?_, ?_⟩
  · unfold World.cell? at h1 ⊢
    simp only at h1 ⊢
    rw [e]; exact h1
  · unfold World.frozen? at h2 ⊢
    simp only at h2 ⊢
    rw [e]; exact h2
theorem compact_len (s : List Int) : (Go.Lib.compact s).length ≤ s.length ∧ ((Go.Lib.compact s).length < s.length ↔ ∃ j, 0 < j ∧ j < s.length ∧ s[j]? = s[j - 1]?) := by
  unfold Go.Lib.compact Go.Lib.compactUpTo
  rw [List.length_map]
  have hr : (List.range s.length).length = s.length := List.length_range
  refine ⟨by have := List.length_filter_le (Go.Lib.keeps s.toArray) (List.range s.length); omega, ?_⟩
  have key : ∀ j, 0 < j → j < s.length → (Go.Lib.keeps s.toArray j = false ↔ s[j]? = s[j - 1]?) := fun j h0 hj => by
    have hj1 : j - 1 < s.length := by omega
    unfold Go.Lib.keeps
    rw [List.getElem?_eq_getElem hj, List.getElem?_eq_getElem hj1]
    simp [hj, hj1, Nat.ne_of_gt h0]
  constructor
  · intro h
    have hx : ¬ ∀ x ∈ List.range s.length, Go.Lib.keeps s.toArray x = true := fun hx => by
      rw [List.filter_eq_self.2 hx, hr] at h
      omega
    have hx2 : ∃ x, x < s.length ∧ ¬ Go.Lib.keeps s.toArray x = true := by
      by_cases q : ∃ x, x < s.length ∧ ¬ Go.Lib.keeps s.toArray x = true
      · exact q
      · exact absurd (fun x hx' => by
          by_cases k : Go.Lib.keeps s.toArray x = true
          · exact k
          · exact absurd ⟨x, List.mem_range.1 hx', k⟩ q) hx
    obtain ⟨x, hx3, hx4⟩ := hx2
    have h0 : 0 < x := by
      rcases Nat.eq_zero_or_pos x with e | e
      · subst e; exact absurd (by simp [Go.Lib.keeps]) hx4
      · exact e
    exact ⟨x, h0, hx3, (key x h0 hx3).1 (by simpa using hx4)⟩
  · rintro ⟨j, h0, hj, he⟩
    have hk := (key j h0 hj).2 he
    have h1 := List.length_filter_le (Go.Lib.keeps s.toArray) (List.range s.length)
    rcases Nat.lt_or_ge ((List.range s.length).filter (Go.Lib.keeps s.toArray)).length s.length with q | q
    · exact q
    · have e : (List.range s.length).filter (Go.Lib.keeps s.toArray) = List.range s.length := (List.filter_sublist).eq_of_length (by omega)
      have := (List.filter_eq_self.1 e) j (List.mem_range.2 hj)
      rw [hk] at this
      cases this
/-- of a list that rises: two beside one another are one if and only if any two are -/
theorem compact_sorted (zs : List Int) : ((Go.Lib.compact (zs.mergeSort fun x y => decide (x ≤ y))).length < zs.length ↔ ¬ zs.Nodup) := by
  have hp := List.mergeSort_perm zs (fun x y => decide (x ≤ y))
  have hs : (zs.mergeSort fun x y => decide (x ≤ y)).Pairwise fun x y => decide (x ≤ y) = true := List.pairwise_mergeSort (fun a b c h1 h2 => by have := of_decide_eq_true h1; have := of_decide_eq_true h2; exact decide_eq_true (by omega)) (fun a b => by simp; omega) zs
  rw [← hp.length_eq, (compact_len _).2, ← hp.nodup_iff]
  generalize zs.mergeSort (fun x y => decide (x ≤ y)) = t at *
  constructor
  · rintro ⟨j, h0, hj, he⟩ hn
    have hj1 : j - 1 < t.length := by omega
    rw [List.getElem?_eq_getElem hj, List.getElem?_eq_getElem hj1] at he
    exact List.pairwise_iff_getElem.1 hn (j - 1) j hj1 hj (by omega) (Option.some.inj he).symm
  · intro hn
    by_cases q : ∃ j, 0 < j ∧ j < t.length ∧ t[j]? = t[j - 1]?
    · exact q
    · refine absurd ?_ hn
      refine List.pairwise_iff_getElem.2 fun i j hi hj hij he => q ⟨j, by omega, hj, ?_⟩
      have hj1 : j - 1 < t.length := by omega
      rw [List.getElem?_eq_getElem hj, List.getElem?_eq_getElem hj1]
      have h1 : t[j - 1] ≤ t[j] := of_decide_eq_true (List.pairwise_iff_getElem.1 hs (j - 1) j hj1 hj (by omega))
      have h2 : t[i] ≤ t[j - 1] := by
        by_cases e : i = j - 1
        · subst e; exact Int.le_refl _
        · exact of_decide_eq_true (List.pairwise_iff_getElem.1 hs i (j - 1) hi hj1 (by omega))
      congr 1
      omega
set_option maxRecDepth 100000 in
set_option maxHeartbeats 4000000 in
theorem seqTwice_any (L : List Vs) (w : World) (a : Option Addr) (n cap : Nat) (hn : L.length = n) (hS : LIn w a L) (hl : L.length ≤ 1954687338300) :
    Calls Try.prog 44 #[.slice a n cap] w fun e w' => (∃ t : Bool, e = .returned (.bool t) ∧ (t = true ↔ ¬ (L.map (·.seq)).Nodup)) ∧ Below w.heap.size w w' := by
  subst hn
  have I0 := Io.nil w w.heap.size (Nat.le_refl _)
  go_enter Try.func44, Try.ntmps44
  go_wp2_with fail
  go_loopw [3, 8] (fun o i wr => ∃ k : Nat, k ≤ L.length ∧ i = .int .i64 (k : Int) ∧ Hid (Io w.heap.size wr o ((L.take k).map (·.seq))) ∧ Below w.heap.size w wr) (fun o i _ => L.length - (intOf i).toNat)
  case atStart => exact ⟨0, by omega, rfl, ⟨by simpa using I0⟩, Below.refl _ _⟩
  case round =>
    clear I0
    obtain ⟨k, hk, rfl, hO, hb⟩ := hrel
    by_cases hlt : k < L.length
    · have d1 : decide ((k : Int) < (L.length : Int)) = true := decide_eq_true (by omega)
      have k2 : (k : Int) < (L.length : Int) := by omega
      obtain ⟨u, hu⟩ : ∃ u, L[k]? = some u := ⟨L[k], List.getElem?_eq_getElem hlt⟩
      obtain ⟨b, off, ma, mc, rfl, hbl, c0, c1, c2, c3, c4, hsl⟩ := (hS.later hb).get k u hu
      have hT : Hid ((L.take (k + 1)).map (·.seq) = (L.take k).map (·.seq) ++ [u.seq]) := ⟨by rw [takeV hu, List.map_append]; rfl⟩
      have hlk : Hid (((L.take k).map (·.seq)).length ≤ 4500000000000) := ⟨by rw [List.length_map, List.length_take]; omega⟩
      have hw1 : wrap64 ((k : Int) + 1) = ((k + 1 : Nat) : Int) := by unfold wrap64; omega
      have bx := (Below.refl wr.heap.size wr).alloc (Nat.le_refl _) (.cells #[str u.key, .int .i64 u.seq, .bool u.mkr, str u.data, .slice ma u.l.length mc] 41)
      have hO1 := hO.out.later bx
      clear hu hS hsl
      go_wp2_with (refine app_i rfl _ _ rfl u.seq rfl hO1 (by simp) hlk.out rfl rfl ?_; intro v2 w2 o2 b2)
      exact ⟨⟨k + 1, by omega, by first | (rw [hw1]; done) | go_num, ⟨by rw [hT.out]; exact o2⟩, (hb.trans (bx.mono hb.size)).trans b2⟩, by first | (rw [hw1]; exact Nat.sub_lt_sub_left hlt (Nat.lt_succ_self k)) | (simp [intOf]; omega)⟩
    · obtain rfl : k = L.length := by omega
      have d1 : decide ((L.length : Int) < (L.length : Int)) = false := decide_eq_false (by omega)
      have hO1 := hO.out
      rw [List.take_length] at hO1
      have hlen : (L.map (·.seq)).length = L.length := List.length_map ..
      have hcs := compact_sorted (L.map (·.seq))
      rw [hlen] at hcs
      clear hO
      obtain ⟨zs, hzs⟩ : ∃ zs : List Int, zs = L.map (·.seq) := ⟨_, rfl⟩
      rw [← hzs] at hO1 hlen hcs
      have HZ := Hid.mk hzs
      clear hzs
      by_cases h0 : L.length = 0
      · have hz : zs = [] := List.eq_nil_of_length_eq_zero (by omega)
        have HN : Hid (zs.Nodup) := ⟨by rw [hz]; exact List.nodup_nil⟩
        obtain ⟨p, c, rfl⟩ := hO1.sl0 (by omega)
        have hso := fun w => AnyM.slices_Sort_int_none Try.sortA p c w
        have hco := fun w => AnyG.slices_Compact_int_empty Try.compactA p c w
        change ∀ w, Calls Try.prog 52 _ w _ at hso
        change ∀ w, Calls Try.prog 53 _ w _ at hco
        rw [h0] at d1 ⊢
        clear hS hcs hlen h0 hz hO1
        go_wp2_with (first
          | (go_at_call 52; refine (hso _).mono ?_; rintro e w1 ⟨rfl, rfl⟩)
          | (go_at_call 53; refine (hco _).mono ?_; rintro e w2 ⟨rfl, rfl⟩))
        go_ret
        exact ⟨⟨false, rfl, by rw [← HZ.out]; simp [HN.out]⟩, hb⟩
      · obtain ⟨g, c, rfl, hg1, hg2, hg3, hH⟩ := hO1.holds (by omega)
        have hso := AnyM.slices_Sort_int Try.sortA g 0 c zs wr hH hg2 (by omega)
        change Calls Try.prog 52 _ wr _ at hso
        have HL := Hid.mk hlen
        have HC := Hid.mk hcs
        clear hcs
        rw [hlen] at hso
        go_wp2_with fail
        with_reducible refine Calls.mono hso ?_
        rintro e w1 ⟨rfl, m1, os1, ew⟩
        dsimp only
        have hsl : (zs.mergeSort fun x y => decide (x ≤ y)).length = zs.length := List.length_mergeSort _
        have hH1 : Go.Sort.Holds (Value.int .i64) w1 g 0 (zs.mergeSort fun x y => decide (x ≤ y)).toArray := by
          have h1 := Go.Sort.holds_putRow (Value.int .i64) (Go.Sort.ahead wr m1) g 0 zs.toArray (zs.mergeSort fun x y => decide (x ≤ y)).toArray (Go.Sort.holds_ahead _ _ _ _ _ _ hH) (by simp [hsl])
          rw [ew]
          exact holds_grow h1 (by simpa using hg2) os1
        have b1 : Below w.heap.size w w1 := by
          have := below_row (B := w.heap.size) (w := wr) (off := 0) (n := m1) (zs.mergeSort fun x y => decide (x ≤ y)).toArray os1 hg1 hb.size
          rw [ew]
          exact hb.trans this
        have hg4 : g < w1.heap.size := by rw [ew]; simp; omega
        have hcm := AnyG.slices_Compact_int Try.compactA g 0 c (zs.mergeSort fun x y => decide (x ≤ y)) w1 hH1 (by omega) (by omega)
        change Calls Try.prog 53 _ w1 _ at hcm
        rw [hsl] at hcm
        have hcl := (compact_len (zs.mergeSort fun x y => decide (x ≤ y))).1
        rw [hsl] at hcl
        have HB1 := Hid.mk b1
        clear hso hH hH1 b1 ew hO1 hS
        generalize (Go.Lib.compact (zs.mergeSort fun x y => decide (x ≤ y))) = CL at *
        rw [hlen] at hcm
        go_wp2_with (go_at_call 53; refine hcm.mono ?_; rintro e w2 ⟨rfl, q2, e2⟩)
        go_ret
        refine ⟨⟨_, rfl, ?_⟩, ?_⟩
        · rw [← HZ.out, ← HC.out]
          simp
        · exact HB1.out.trans (below_row0 _ hg1 HB1.out.size)
end Go.Proofs.Ythbdaadhcheggaa
