/- Write. -/
import Derived.Test.YtbiponnchppndaaGreatDoorMWs
import Derived.Test.YtbiponnchppndaaGreatDoorGj
namespace Go.Proofs.YtbiponnchppndaaGreatDoor
set_option maxRecDepth 100000
set_option linter.unusedVariables false
set_option linter.unusedSimpArgs false
open Go.RowKit Go.Shelf
open Go.Proofs.YtbiponnchppndaaGreatDoorP (TB recd nn LEN key)
attribute [local go_sem] Oper.semAt_some
/-- what Write answers -/
def WrP (m : Ma) (w : World) (e : Ending) (w' : World) : Prop := ((RtM m ∧ e = .returned (.tuple #[str (mtx m), .int .i64 0])) ∨ (¬ RtM m ∧ e = .returned (.tuple #[.string ⟨#[]⟩, .int .i64 1]))) ∧ Below w.heap.size w w'
/-- between two rounds: the builder holds the records so far; what lay before the call lies as it lay -/
structure WJ (m : Ma) (w0 : World) (g gb : Nat) (a : Option Addr) (cap : Nat) (k : Nat) (W : World) (X : Bs) : Prop where
  bel : Below gb w0 W
  bld : ∃ v, Bld W gb v (txt ((recs m).take k)) ∧ (∀ b, v.ownBlock = some b → ¬ X b ∧ g < b)
  box : Bm3 W g m.since m.next (.slice a m.items.length cap)
  x : ∀ b, X b → g < b ∧ b < W.heap.size
theorem WJ.abid {m : Ma} {w0 : World} {g gb : Nat} {a : Option Addr} {cap : Nat} (hg : gb < g) : Abid (WJ m w0 g gb a cap) := by
  intro k W X W' X' h ho hx
  obtain ⟨v, hv, hn⟩ := h.bld
  obtain ⟨p, hp, hb⟩ := hv.box
  have l1 := lt_of_block hb
  have l2 := h.box.lt
  have n1 : ¬ X gb := fun q => by have := h.x _ q; omega
  have n2 : ¬ X g := fun q => by have := h.x _ q; omega
  refine ⟨⟨ho.os.trans h.bel.os, ho.tape.trans h.bel.tape, ho.output.trans h.bel.output, Nat.le_trans h.bel.size ho.size, fun b hb' => ?_⟩, ⟨v, ⟨⟨p, hp, by rw [ho.block _ l1 n1]; exact hb⟩, ?_, hv.ne⟩, fun b hb' => ⟨fun q => ?_, (hn b hb').2⟩⟩, ?_, fun b hb' => ?_⟩
  · rw [ho.block b (by omega) (fun q => by have := h.x _ q; omega)]
    exact h.bel.block b hb'
  · refine ⟨hv.own.1, ?_⟩
    rcases hv.own.2 with e | ⟨c, cap, cur, e, h2, h3, h4⟩
    · exact .inl e
    · refine .inr ⟨c, cap, cur, e, h2, ?_, h4⟩
      rw [ho.block c (lt_of_block h3) (hn c (by rw [e]; rfl)).1]
      exact h3
  · have hbl := (hv.own.lt b hb').2
    rcases hx b q with z | z
    · exact (hn b hb').1 z
    · omega
  · show W'.heap[g]? = _
    rw [ho.block g l2 n2]
    exact h.box
  · have := ho.size
    rcases hx b hb' with z | z
    · have := h.x b z; omega
    · omega
theorem txt_take {R : List Kv} {k : Nat} {p : Kv} (h : R[k]? = some p) : txt (R.take (k + 1)) = txt (R.take k) ++ recd p.1 p.2 := by
  rw [List.take_add_one, h]
  simp [txt]
/-- a round -/
theorem WJ.round {m : Ma} {w0 : World} {g gb : Nat} {a : Option Addr} {cap : Nat} (hg : gb < g) {k : Nat} {W W1 W2 : World} {X : Bs} {p : Kv} (hp : (recs m)[k]? = some p) (h : WJ m w0 g gb a cap k W X) (b1 : Below W.heap.size W W1) {v : Value} (hv : Bld W1 gb v (txt ((recs m).take k))) (hn : ∀ b, v.ownBlock = some b → ¬ X b ∧ g < b) (hs : WsP W1 gb v (txt ((recs m).take k)) ⟨(recd p.1 p.2).toArray⟩ W2) : WJ m w0 g gb a cap (k + 1) W2 X ∧ Stay X W W2 := by
  have h1 := (WJ.abid hg).bel h b1
  obtain ⟨v', hb', ho, hw⟩ := hs
  have l2 := h1.box.lt
  refine ⟨⟨⟨ho.os.trans h1.bel.os, ho.tape.trans h1.bel.tape, ho.output.trans h1.bel.output, Nat.le_trans h1.bel.size ho.size, fun b hb => ?_⟩, ⟨v', by rw [txt_take hp]; exact hb', fun b hb => ?_⟩, ?_, fun b hb => ?_⟩, fun b hb hbl => ?_⟩
  · rw [ho.block b (by omega) (fun q => by
      rcases q with z | z
      · omega
      · have := (hn b z).2; omega)]
    exact h1.bel.block b hb
  · rcases hw b hb with z | z
    · exact hn b z
    · refine ⟨fun q => by have := h1.x b q; omega, by omega⟩
  · show W2.heap[g]? = _
    rw [ho.block g l2 (fun q => by
      rcases q with z | z
      · omega
      · have := (hn g z).2; omega)]
    exact h1.box
  · have := h1.x b hb
    have := ho.size
    omega
  · have hx := h.x b hb
    rw [ho.block b (by have := b1.size; omega) (fun q => by
      rcases q with z | z
      · omega
      · exact (hn b z).1 hb), b1.block b hbl]
theorem wr_ok {k v : List UInt8} (h1 : key k = true) (h2 : LEN (nn k v) ≤ 1048576) : Go.Proofs.YtbiponnchppndaaGreatDoorP.wrote k v = recd k v ∧ Go.Proofs.YtbiponnchppndaaGreatDoorP.werr k v = 0 := Go.Proofs.YtbiponnchppndaaGreatDoorP.Rd.wr (l := recd k v) ⟨h1, h2, [], by simp⟩
theorem kv_len {k v : List UInt8} (h2 : LEN (nn k v) ≤ 1048576) : k.length ≤ 1048576 ∧ v.length ≤ 1048576 := by
  have := Go.Proofs.YtbiponnchppndaaGreatDoorP.LEN_pos (nn k v)
  unfold nn at *
  omega
theorem txt_len : ∀ (R : List Kv), Kvs R → (txt R).length ≤ R.length * 1048576
  | [], _ => by simp [txt]
  | p :: R, h => by
    have h1 := txt_len R h.tail
    have h2 := (h p (by simp)).2
    rw [txt_cons, List.length_append, Go.Proofs.YtbiponnchppndaaGreatDoorP.recd_length, List.length_cons]
    omega
theorem recs_max {m : Ma} (h : RtM m) : (recs m).length ≤ 100000 := by
  have hl := h.len
  have hi : ∀ L : List It, (∀ x ∈ L, RtI m x) → ((L.map itemR).flatten).length ≤ L.length * 20 := by
    intro L
    induction L with
    | nil => intro _; simp
    | cons x L ih =>
      intro hx
      have h1 := ih (fun y hy => hx y (by simp [hy]))
      have h2 : (itemR x).length ≤ 20 := by
        have hr := hx x (by simp)
        cases hmk : x.mkr with
        | true => rw [item_mark hmk (hr.mk1 hmk).2]; simp
        | false =>
          have := (mtE_iff (hr.mk0 hmk).2.2).1
          rw [item_len hmk]; omega
      rw [List.map_cons, List.flatten_cons, List.length_append, List.length_cons]
      omega
  have := hi m.items h.it
  unfold recs headR
  split <;> simp at * <;> omega
theorem Bld.later {w w' : World} {g : Nat} {v : Value} {l : List UInt8} (h : Bld w g v l) (b : Below w.heap.size w w') : Bld w' g v l := by
  obtain ⟨p, hp, hb⟩ := h.box
  refine ⟨⟨p, hp, by rw [b.block g (lt_of_block hb)]; exact hb⟩, ⟨h.own.1, ?_⟩, h.ne⟩
  rcases h.own.2 with e | ⟨c, cap, cur, e, h2, h3, h4⟩
  · exact .inl e
  · exact .inr ⟨c, cap, cur, e, h2, by rw [b.block c (lt_of_block h3)]; exact h3, h4⟩
theorem hso {W : World} {g k : Nat} (j : Nat) (v : Value) (h : k ≠ g) : (W.setCell ⟨g, j, none⟩ v).heap[k]? = W.heap[k]? := heap_setCell_other _ _ _ _ (by first | exact h | exact h.symm)
/-- two results that lie in boxes, set -/
theorem two_set {W : World} {g : Nat} {x y : Value} (h1 : W.heap[g]? = some (.cells #[x] 9 (0, 0))) (h2 : W.heap[g + 1]? = some (.cells #[y] 31 (0, 0))) (u v : Value) :
    ((W.setCell ⟨g, 0, none⟩ u).setCell ⟨g + 1, 0, none⟩ v).heap[g]? = some (.cells #[u] 9 (0, 0)) ∧ ((W.setCell ⟨g, 0, none⟩ u).setCell ⟨g + 1, 0, none⟩ v).heap[g + 1]? = some (.cells #[v] 31 (0, 0)) := by
  have e1 : (W.setCell ⟨g, 0, none⟩ u).heap[g]? = some (.cells #[u] 9 (0, 0)) := by rw [heap_setCell_same _ _ _ _ _ _ h1]; rfl
  have e2 : (W.setCell ⟨g, 0, none⟩ u).heap[g + 1]? = some (.cells #[y] 31 (0, 0)) := by rw [hso _ _ (by omega)]; exact h2
  exact ⟨by rw [hso _ _ (by omega)]; exact e1, by rw [heap_setCell_same _ _ _ _ _ _ e2]; rfl⟩
theorem mtx_ne {m : Ma} : mtx m ≠ [] := fun h => by
  have e : mtx m = txt (headR m ++ (m.items.map itemR).flatten) ++ txt [(sEnd, sMani)] := txt_append _ _
  rw [e] at h
  have h2 := (List.append_eq_nil_iff.1 h).2
  rw [txt_cons] at h2
  exact recd_ne _ _ (List.append_eq_nil_iff.1 h2).1
theorem results_cc {fn : Func} {p q : Tmp} {ty tq : TypeId} (h : fn.results = #[.cell p ty, .cell q tq]) (tmps : Array Value) (P : Program) (w : World) :
    (results fn tmps).run P w = ((asAddr (tmps.getD p undef)).run P w).andThen fun a w₁ => ((loadVar ty a).run P w₁).andThen fun v w₂ => ((asAddr (tmps.getD q undef)).run P w₂).andThen fun b w₃ => ((loadVar tq b).run P w₃).andThen fun u w₄ => .ok (.tuple #[v, u]) w₄ := by
  simp only [results, h]
  simp [Sem.run_bind, Result.andThen]
set_option maxRecDepth 100000 in
set_option maxHeartbeats 8000000 in
theorem mWrite_in (m : Ma) (w : World) (a : Option Addr) (cap : Nat) (hL : IIt w a m.items) (hz : ∀ x ∈ m.items, x.l.length ≤ 4398046510976) (hl : m.items.length ≤ 1466015503700) (hT : TB w) :
    CallsIn Fence.wide 5 Tryz.prog 11 #[.agg #[.int .i64 m.since, .int .i64 m.next, .slice a m.items.length cap]] w (WrP m w) := by
  have b1 := (Below.refl w.heap.size w).alloc (Nat.le_refl _) (.cells #[.int .i64 m.since, .int .i64 m.next, .slice a m.items.length cap] 28)
  have b3 : Below w.heap.size w (((w.alloc (.cells #[.int .i64 m.since, .int .i64 m.next, .slice a m.items.length cap] 28)).alloc (.cells #[.string ⟨#[]⟩] 9)).alloc (.cells #[.int .i64 0] 31)) := (b1.alloc (by simp) _).alloc (by simp; omega) _
  obtain ⟨p0, p1, p2⟩ : (((w.alloc (.cells #[.int .i64 m.since, .int .i64 m.next, .slice a m.items.length cap] 28)).alloc (.cells #[.string ⟨#[]⟩] 9)).alloc (.cells #[.int .i64 0] 31)).cell? ⟨w.heap.size, 0, none⟩ = some (.int .i64 m.since) ∧ (((w.alloc (.cells #[.int .i64 m.since, .int .i64 m.next, .slice a m.items.length cap] 28)).alloc (.cells #[.string ⟨#[]⟩] 9)).alloc (.cells #[.int .i64 0] 31)).cell? ⟨w.heap.size, 1, none⟩ = some (.int .i64 m.next) ∧ (((w.alloc (.cells #[.int .i64 m.since, .int .i64 m.next, .slice a m.items.length cap] 28)).alloc (.cells #[.string ⟨#[]⟩] 9)).alloc (.cells #[.int .i64 0] 31)).cell? ⟨w.heap.size, 2, none⟩ = some (.slice a m.items.length cap) := by
    have h : Bm3 (((w.alloc (.cells #[.int .i64 m.since, .int .i64 m.next, .slice a m.items.length cap] 28)).alloc (.cells #[.string ⟨#[]⟩] 9)).alloc (.cells #[.int .i64 0] 31)) w.heap.size m.since m.next (.slice a m.items.length cap) := by
      unfold Bm3
      rw [heap_alloc_old _ _ _ (by simp; omega), heap_alloc_old _ _ _ (by simp)]; exact heap_alloc_new _ _
    exact h.cells
  have x0 : (((w.alloc (.cells #[.int .i64 m.since, .int .i64 m.next, .slice a m.items.length cap] 28)).alloc (.cells #[.string ⟨#[]⟩] 9)).alloc (.cells #[.int .i64 0] 31)).heap[w.heap.size]? = some (.cells #[.int .i64 m.since, .int .i64 m.next, .slice a m.items.length cap] 28 (0, 0)) := by
    rw [heap_alloc_old _ _ _ (by simp; omega), heap_alloc_old _ _ _ (by simp)]; exact heap_alloc_new _ _
  have x1 : (((w.alloc (.cells #[.int .i64 m.since, .int .i64 m.next, .slice a m.items.length cap] 28)).alloc (.cells #[.string ⟨#[]⟩] 9)).alloc (.cells #[.int .i64 0] 31)).heap[w.heap.size + 1]? = some (.cells #[.string ⟨#[]⟩] 9 (0, 0)) := by
    rw [heap_alloc_old _ _ _ (by simp)]
    have := heap_alloc_new (w.alloc (.cells #[.int .i64 m.since, .int .i64 m.next, .slice a m.items.length cap] 28)) (.cells #[.string ⟨#[]⟩] 9)
    rw [World.size_alloc] at this; exact this
  have x2 : (((w.alloc (.cells #[.int .i64 m.since, .int .i64 m.next, .slice a m.items.length cap] 28)).alloc (.cells #[.string ⟨#[]⟩] 9)).alloc (.cells #[.int .i64 0] 31)).heap[w.heap.size + 1 + 1]? = some (.cells #[.int .i64 0] 31 (0, 0)) := by
    have := heap_alloc_new ((w.alloc (.cells #[.int .i64 m.since, .int .i64 m.next, .slice a m.items.length cap] 28)).alloc (.cells #[.string ⟨#[]⟩] 9)) (.cells #[.int .i64 0] 31)
    rw [World.size_alloc, World.size_alloc] at this; exact this
  refine callsIn_of_wp_marks Tryz.func11 rfl trivial ?_ rfl
  simp only [Tryz.ntmps11, List.size_toArray, List.length_cons, List.length_nil, Nat.reduceAdd, Nat.reduceSub, Array.replicate_succ, Array.replicate_zero, List.push_toArray, List.append_toArray, List.nil_append, List.cons_append]
  gi_wp2
  generalize hw3 : ((w.alloc (.cells #[.int .i64 m.since, .int .i64 m.next, .slice a m.items.length cap] 28)).alloc (.cells #[.string ⟨#[]⟩] 9)).alloc (.cells #[.int .i64 0] 31) = w3 at *
  clear b1 hw3
  refine ⟨trivial, (callsIn_wide.2 (isRight_any m w3 a cap (hL.later b3) hz hl)).mono ?_⟩
  rintro e w4 ⟨t, rfl, ht, b4⟩
  have b34 := below_seq b3 b4
  have y0 : w4.heap[w.heap.size]? = some (.cells #[.int .i64 m.since, .int .i64 m.next, .slice a m.items.length cap] 28 (0, 0)) := by rw [b4.block _ (lt_of_block x0)]; exact x0
  have y1 : w4.heap[w.heap.size + 1]? = some (.cells #[.string ⟨#[]⟩] 9 (0, 0)) := by rw [b4.block _ (lt_of_block x1)]; exact x1
  have y2 : w4.heap[w.heap.size + 1 + 1]? = some (.cells #[.int .i64 0] 31 (0, 0)) := by rw [b4.block _ (lt_of_block x2)]; exact x2
  have HB := Hid.mk b34
  have HL := Hid.mk (hL.later b34)
  have HT := Hid.mk (hT.below b34)
  clear p0 p1 p2 x0 x1 x2 b3 b4 b34 hL hT hz hl
  cases t with
  | false =>
    have hno : ¬ RtM m := fun q => by have := ht.2 q; cases this
    have f1 := free_of_one y1
    have k1 := cell_of_one y1
    have f2 := free_of_one y2
    have k2 := cell_of_one y2
    gi_wp2
    obtain ⟨n1, n2⟩ := two_set y1 y2 (.string ⟨#[]⟩) (.int .i64 1)
    have g1 := cell_of_one n1
    have g2 := cell_of_one n2
    refine ⟨.tuple #[.string ⟨#[]⟩, .int .i64 1], ?_, .inr ⟨hno, rfl⟩, (HB.out.setCell (p := ⟨w.heap.size + 1, 0, none⟩) (by show _ ≤ w.heap.size + 1; omega) _).setCell (p := ⟨w.heap.size + 1 + 1, 0, none⟩) (by show _ ≤ w.heap.size + 1 + 1; omega) _⟩
    rw [results_cc rfl]
    go_simp
  | true =>
    have hR := ht.1 rfl
    have HR := Hid.mk hR
    clear ht hR
    obtain ⟨p0, p1, p2⟩ := Bm3.cells (show Bm3 w4 w.heap.size m.since m.next (.slice a m.items.length cap) from y0)
    have b5 := (Below.refl w4.heap.size w4).alloc (Nat.le_refl _) (.cells #[.pointer none, .slice none 0 0] 84)
    obtain ⟨q0, q1, q2⟩ := ((show Bm3 w4 w.heap.size m.since m.next (.slice a m.items.length cap) from y0).later b5).cells
    gi_wp2
    refine ⟨trivial, (callsIn_wide.2 (mrecords_any m.since m.next (.slice a m.items.length cap) rfl _)).mono ?_⟩
    rintro e w6 ⟨rfl, rfl⟩
    clear p0 p1 p2 q0 q1 q2
    gi_wp2
    obtain ⟨E, hE⟩ := HL.out.ex
    have h0 : WJ m w4 (w4.heap.size + 1) w4.heap.size a cap 0 ((w4.alloc (.cells #[.pointer none, .slice none 0 0] 84)).alloc (.cells #[.int .i64 m.since, .int .i64 m.next, .slice a m.items.length cap] 28)) (fun _ => False) := by
      have e1 : ((w4.alloc (.cells #[.pointer none, .slice none 0 0] 84)).alloc (.cells #[.int .i64 m.since, .int .i64 m.next, .slice a m.items.length cap] 28)).heap[w4.heap.size]? = some (.cells #[.pointer none, .slice none 0 0] 84 (0, 0)) := by
        rw [heap_alloc_old _ _ _ (by simp)]; exact heap_alloc_new _ _
      have e2 := heap_alloc_new (w4.alloc (.cells #[.pointer none, .slice none 0 0] 84)) (.cells #[.int .i64 m.since, .int .i64 m.next, .slice a m.items.length cap] 28)
      rw [World.size_alloc] at e2
      exact ⟨b5.alloc (by simp) _, ⟨.slice none 0 0, ⟨⟨_, .inl rfl, e1⟩, World.ownsRow_nil _ _ _ _, fun q => by cases q⟩, fun b hb => by cases hb⟩, e2, fun b hb => hb.elim⟩
    have hlt : w.heap.size + 1 + 1 < w4.heap.size := lt_of_block y2
    refine wp_tells rfl (enters_of Tryz.func67 (by kernel_rfl) rfl) (recs_tells m HR.out (w4.heap.size + 1) a cap E) rfl (WJ m w4 (w4.heap.size + 1) w4.heap.size a cap) (WJ.abid (by omega)) (fun k W X h => ⟨h.box, hE.later h.bel (Nat.le_refl _), HT.out.below h.bel⟩) h0 (fun p => { tmps := #[.agg #[.int .i64 m.since, .int .i64 m.next, .slice a m.items.length cap], .pointer (some ⟨w.heap.size, 0, none⟩), .pointer (some ⟨w.heap.size + 1, 0, none⟩), .pointer (some ⟨w.heap.size + 1 + 1, 0, none⟩), .pointer (some ⟨w4.heap.size, 0, none⟩), str p.1, str p.2, undef, undef, .agg #[.int .i64 m.since, .int .i64 m.next, .slice a m.items.length cap], .bool true, .bool false, .agg #[.int .i64 m.since, .int .i64 m.next, .slice a m.items.length cap], .func (.func 67) #[] #[.pointer (some ⟨w4.heap.size + 1, 0, none⟩)], str p.1, str p.2, undef, undef, undef, undef, undef, undef, undef, undef, undef, undef, undef], defers := [] }) ?assign ?body ?done
    case assign =>
      intro l1 p W3 K3 hK3
      gi_wp2
      exact hK3
    case body =>
      rintro l1 k p W X hp hJ
      obtain ⟨v, hv, hn⟩ := hJ.bld
      obtain ⟨kv1, kv2⟩ := recs_ok HR.out p (List.mem_of_getElem? hp)
      obtain ⟨e1, e2⟩ := wr_ok kv1 kv2
      obtain ⟨z1, z2⟩ := kv_len kv2
      have hw : Calls Tryz.prog 14 #[str p.1, str p.2] W fun e w' => e = .returned (.tuple #[str (recd p.1 p.2), .int .i64 0]) ∧ Below W.heap.size W w' := by
        have := Go.Proofs.YtbiponnchppndaaGreatDoorP.write_any ⟨p.1.toArray⟩ ⟨p.2.toArray⟩ (by show p.1.toArray.size ≤ _; rw [List.size_toArray]; omega) (by show p.2.toArray.size ≤ _; rw [List.size_toArray]; omega) W (HT.out.below hJ.bel)
        rw [show ((⟨p.1.toArray⟩ : ByteArray).data.toList) = p.1 from rfl, show ((⟨p.2.toArray⟩ : ByteArray).data.toList) = p.2 from rfl, e1, e2] at this
        exact this
      have hkt : Kvs ((recs m).take k) := fun q hq => recs_ok HR.out q (List.mem_of_mem_take hq)
      have hln : (txt ((recs m).take k)).length + (recd p.1 p.2).length ≤ 140737488355328 := by
        have h1 := txt_len _ hkt
        have h2 := recs_max HR.out
        rw [List.length_take] at h1
        rw [Go.Proofs.YtbiponnchppndaaGreatDoorP.recd_length]
        have h3 : min k (recs m).length * 1048576 ≤ 100000 * 1048576 := Nat.mul_le_mul_right _ (by omega)
        omega
      have HJ := Hid.mk hJ
      have Hn := Hid.mk hn
      clear hJ hn kv1 kv2 e1 e2 z1 z2 hkt y0 y1 y2 h0
      gi_wp2
      refine ⟨trivial, (CallsIn.inRound l1 (callsIn_wide.2 hw)).mono ?_⟩
      rintro e W1 ⟨rfl, b1⟩
      have hs := wstr_any w4.heap.size v _ ⟨(recd p.1 p.2).toArray⟩ W1 (hv.later b1) (by show _ + (recd p.1 p.2).toArray.size ≤ _; rw [List.size_toArray]; exact hln)
      have HV := Hid.mk (hv.later b1)
      clear hw hln hv
      gi_wp2
      refine ⟨trivial, (CallsIn.inRound l1 (callsIn_wide.2 hs)).mono ?_⟩
      rintro e W2 ⟨rfl, hws⟩
      clear hs
      gi_wp2
      exact HJ.out.round (by omega) hp b1 HV.out Hn.out hws
    case done =>
      intro W8 hJ8 hD8
      obtain ⟨v, hv, hn⟩ := hJ8.bld
      rw [List.take_length] at hv
      have hs := bstr_any w4.heap.size v (mtx m) W8 hv mtx_ne
      generalize hDe : ((w4.alloc (.cells #[.pointer none, .slice none 0 0] 84)).alloc (.cells #[.int .i64 m.since, .int .i64 m.next, .slice a m.items.length cap] 28)).heap.size = D at *
      have hD9 : w4.heap.size + 1 < D := (hJ8.x D rfl).1
      have hbl := hJ8.bel
      have z1 : W8.heap[w.heap.size + 1]? = some (.cells #[.string ⟨#[]⟩] 9 (0, 0)) := by rw [hbl.block _ (by omega)]; exact y1
      have z2 : W8.heap[w.heap.size + 1 + 1]? = some (.cells #[.int .i64 0] 31 (0, 0)) := by rw [hbl.block _ (by omega)]; exact y2
      clear h0 y0 y1 y2 hDe
      gi_wp2
      refine ⟨trivial, (callsIn_wide.2 hs).mono ?_⟩
      rintro e W9 ⟨rfl, ho9⟩
      have nv : ∀ b, b ≤ w4.heap.size → ¬ v.ownBlock = some b := fun b hb q => by have := (hn b q).2; omega
      have z3 : W9.heap[w.heap.size + 1]? = some (.cells #[.string ⟨#[]⟩] 9 (0, 0)) := by rw [ho9.block _ (lt_of_block z1) (nv _ (by omega))]; exact z1
      have z4 : W9.heap[w.heap.size + 1 + 1]? = some (.cells #[.int .i64 0] 31 (0, 0)) := by rw [ho9.block _ (lt_of_block z2) (nv _ (by omega))]; exact z2
      have z5 : W9.heap[D]? = some (.deferred (some [])) := by rw [ho9.block _ (Array.getElem?_eq_some_iff.1 hD8).1 (fun q => (hn D q).1 rfl)]; exact hD8
      have hB9 : Below w.heap.size w W9 := by
        refine HB.out.trans (Below.mono (B := w4.heap.size) ?_ HB.out.size)
        exact hbl.trans ⟨ho9.os, ho9.tape, ho9.output, ho9.size, fun b hb => ho9.block b (by have := hbl.size; omega) (nv b (by omega))⟩
      have f1 := free_of_one z3
      have k1 := cell_of_one z3
      have f2 := free_of_one z4
      have k2 := cell_of_one z4
      obtain ⟨n1, n2⟩ := two_set z3 z4 (str (mtx m)) (.int .i64 0)
      have hK : ((W9.setCell ⟨w.heap.size + 1, 0, none⟩ (str (mtx m))).setCell ⟨w.heap.size + 1 + 1, 0, none⟩ (.int .i64 0)).heap[D]? = some (.deferred (some [])) := by
        rw [hso _ _ (by omega), hso _ _ (by omega)]; exact z5
      have hBf := (hB9.setCell (p := ⟨w.heap.size + 1, 0, none⟩) (by show _ ≤ w.heap.size + 1; omega) (str (mtx m))).setCell (p := ⟨w.heap.size + 1 + 1, 0, none⟩) (by show _ ≤ w.heap.size + 1 + 1; omega) (.int .i64 0)
      clear hs hv hn hJ8 hD8 z1 z2 z3 z4 z5 ho9 hbl nv hB9
      gi_wp2
      generalize (W9.setCell ⟨w.heap.size + 1, 0, none⟩ (str (mtx m))).setCell ⟨w.heap.size + 1 + 1, 0, none⟩ (.int .i64 0) = W10 at *
      refine ⟨by simp, .inl ⟨_, _, rfl, run_takeDeferred hK, ?_⟩⟩
      have g1 : (W10.putObj D (.deferred none)).cell? ⟨w.heap.size + 1, 0, none⟩ = some (str (mtx m)) := cell_of_one (by rw [World.putObj_heap_other (by omega)]; exact n1)
      have g2 : (W10.putObj D (.deferred none)).cell? ⟨w.heap.size + 1 + 1, 0, none⟩ = some (.int .i64 0) := cell_of_one (by rw [World.putObj_heap_other (by omega)]; exact n2)
      refine ⟨.tuple #[str (mtx m), .int .i64 0], ?_, .inl ⟨HR.out, rfl⟩, hBf.trans (belowK_b (w := w) (Nat.le_refl _) _ D _ _ (by omega) hK rfl rfl)⟩
      rw [results_cc rfl]
      go_simp
theorem mWrite_any (m : Ma) (w : World) (a : Option Addr) (cap : Nat) (hL : IIt w a m.items) (hz : ∀ x ∈ m.items, x.l.length ≤ 4398046510976) (hl : m.items.length ≤ 1466015503700) (hT : TB w) :
    Calls Tryz.prog 11 #[.agg #[.int .i64 m.since, .int .i64 m.next, .slice a m.items.length cap]] w (WrP m w) := (callsIn_wide (n := 5)).1 (mWrite_in m w a cap hL hz hl hT)
end Go.Proofs.YtbiponnchppndaaGreatDoor
