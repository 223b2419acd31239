/- Rows of bytes of one's own; what an append does to them. -/
import Derived.Test.YthbdaadhcheggaaBase
import Derived.OwnWalk
import Derived.Deep.AppendLies
import Derived.Deep.DeepAppendWide
import Derived.Laws.OwnMore
import Derived.Lib.AppendStr
import Derived.Laws.IdiomStrings
namespace Go.Proofs.Ythbdaadhcheggaa
set_option linter.unusedVariables false
set_option linter.unusedSimpArgs false
open Go.RowKit
def vals (l : List UInt8) : List Value := l.map fun b => Value.int .u8 b.toNat
theorem vals_append (a b : List UInt8) : vals (a ++ b) = vals a ++ vals b := List.map_append ..
theorem vals_length (a : List UInt8) : (vals a).length = a.length := List.length_map ..
theorem vals_str (l : List UInt8) : Lib.strCells ⟨l.toArray⟩ = vals l := by simp [Lib.strCells, vals]
theorem info5f : (Try.prog.info? 5).map (fun i => (i.zero, i.size, i.bytes)) = some (some (.int .u8 0), 1, 1) := by kernel_rfl
theorem info5 : ∃ i, Try.prog.info? 5 = some i ∧ i.zero = some (.int .u8 0) ∧ i.size = 1 ∧ i.bytes = 1 := by
  have := info5f
  cases hq : Try.prog.info? 5 with
  | none => rw [hq] at this; cases this
  | some i => rw [hq] at this; simp at this; exact ⟨i, rfl, this.1, this.2.1, this.2.2⟩
theorem below_seq {w w1 w2 : World} (a : Below w.heap.size w w1) (b : Below w1.heap.size w1 w2) : Below w.heap.size w w2 := a.trans (b.mono a.size)
/-- a row of bytes of its own, made behind 'base' -/
structure Ob (base : Nat) (w : World) (v : Value) (L : List UInt8) : Prop where
  own : w.ownsRow base 5 1 v L.length (vals L)
  le : base ≤ w.heap.size
theorem Ob.nil (w : World) (base : Nat) (h : base ≤ w.heap.size) : Ob base w (.slice none 0 0) [] := ⟨World.ownsRow_nil _ _ _ _, h⟩
theorem Ob.alloc {base : Nat} {w : World} {v : Value} {L : List UInt8} (h : Ob base w v L) (o : Obj) : Ob base (w.alloc o) v L := ⟨h.own.alloc o, by have := h.le; simp; omega⟩
theorem Ob.drew {base : Nat} {w : World} {v : Value} {L : List UInt8} (h : Ob base w v L) : Ob base w.drew v L := ⟨h.own.drew, h.le⟩
theorem Ob.drewN {base : Nat} {w : World} {v : Value} {L : List UInt8} (h : Ob base w v L) (n : Nat) : Ob base (w.drewN n) v L := ⟨h.own, h.le⟩
theorem grown_below {base : Nat} {w w' : World} {v : Value} {n : Nat} {e : TypeId} {size : Nat} {xs : List Value} (hown : w.ownsRow base e size v n xs) (hle : base ≤ w.heap.size) (hg : w.grownBy w' v.ownBlock) : Below base w w' :=
  (Below.refl _ _).grown hg hle (fun k0 hk0 => (hown.lt k0 hk0).1)
/-- later, when nothing that lay there has changed -/
theorem own_later {base : Nat} {w w' : World} {v : Value} {n : Nat} {e : TypeId} {size : Nat} {xs : List Value} (hown : w.ownsRow base e size v n xs) (hb : Below w.heap.size w w') : w'.ownsRow base e size v n xs := by
  refine ⟨hown.1, ?_⟩
  rcases hown.2 with h | ⟨g, cap, cur, h1, h2, h3, h4⟩
  · exact Or.inl h
  · refine Or.inr ⟨g, cap, cur, h1, h2, ?_, h4⟩
    rw [hb.block g (by rcases Nat.lt_or_ge g w.heap.size with q | q
                       · exact q
                       · rw [Array.getElem?_eq_none q] at h3; cases h3)]
    exact h3
theorem Ob.later {base : Nat} {w w' : World} {v : Value} {L : List UInt8} (h : Ob base w v L) (hb : Below w.heap.size w w') : Ob base w' v L := ⟨own_later h.own hb, Nat.le_trans h.le hb.size⟩
theorem app_bytek {ops : Array Oper} {rest : List Oper} {o : Oper} {a : Act} {Q : Exit → Act → World → Prop} {base : Nat} {w : World} {v : Value} {L : List UInt8} {c : Int} {g : Nat} (C : UInt8) (hO : Ob base w v L) (hg : g = w.heap.size) (hn : L.length ≤ 200000000000000) (hC : c = (C.toNat : Int))
    (hgd : o.guard = none) (s x : Operand) (ho : o.op = .call { callee := .builtin .append, args := #[s, x], argTypes := #[56, 56] })
    (hs : a.eval s = v) (hx : a.eval x = .slice (some ⟨g, 0, none⟩) 1 1)
    (h : ∀ v' w', Ob base w' v' (L ++ [C]) → Below base w w' → (∀ k, k < w.heap.size → v.ownBlock ≠ some k → w'.heap[k]? = w.heap[k]?) → wpList Try.prog ops Q rest (a.put o.dst v') w') : wpList Try.prog ops Q (o :: rest) a (w.alloc (.cells #[.int .u8 c] 5)) := by
  obtain ⟨i0, hi0, hz0, hz1, hz2⟩ := info5
  subst hC hg
  have hm : maxLen = 9223372036854775807 := rfl
  refine wpList_append_own_wide _ hgd s x 56 ho base 5 i0 _ 1 1 Try.underlying56 hi0 hz0 hz1 hz2 rfl (by omega) v L.length (vals L) hs (hO.own.alloc _) _ 1 1 [.int .u8 C.toNat] hx rfl
    (World.news_of_block (cs := #[.int .u8 C.toNat]) (t := 5) (fr := (0, 0)) (heap_alloc_new w _)) (by simp [Value.oneCell']) (by rw [hm]; omega) (by omega) (by have := hO.le; simp; omega) ?_
  intro v' w' hown hgrow _
  refine h v' w' ⟨?_, ?_⟩ ?_ ?_
  · rw [vals_append, List.length_append]; exact hown
  · have := hgrow.size; have h2 := hO.le; simp at this; omega
  · exact ((Below.refl _ _).alloc hO.le _).trans (grown_below (hO.own.alloc _) (by have := hO.le; simp; omega) hgrow)
  · intro k hk hne
    rw [hgrow.block k (by simp; omega) (Ne.symm hne), heap_alloc_old _ _ hk]
theorem app_byteg {ops : Array Oper} {rest : List Oper} {o : Oper} {a : Act} {Q : Exit → Act → World → Prop} {base : Nat} {w : World} {v : Value} {L : List UInt8} {c : Int} {g : Nat} (C : UInt8) (hO : Ob base w v L) (hg : g = w.heap.size) (hn : L.length ≤ 200000000000000) (hC : c = (C.toNat : Int))
    (hgd : o.guard = none) (s x : Operand) (ho : o.op = .call { callee := .builtin .append, args := #[s, x], argTypes := #[56, 56] })
    (hs : a.eval s = v) (hx : a.eval x = .slice (some ⟨g, 0, none⟩) 1 1)
    (h : ∀ v' w', Ob base w' v' (L ++ [C]) → Below base w w' → wpList Try.prog ops Q rest (a.put o.dst v') w') : wpList Try.prog ops Q (o :: rest) a (w.alloc (.cells #[.int .u8 c] 5)) :=
  app_bytek C hO hg hn hC hgd s x ho hs hx fun v' w' h1 h2 _ => h v' w' h1 h2
theorem app_byte {ops : Array Oper} {rest : List Oper} {o : Oper} {a : Act} {Q : Exit → Act → World → Prop} {base : Nat} {w : World} {v : Value} {L : List UInt8} {c : Int} (C : UInt8) (hO : Ob base w v L) (hn : L.length ≤ 200000000000000) (hC : c = (C.toNat : Int))
    (hgd : o.guard = none) (s x : Operand) (ho : o.op = .call { callee := .builtin .append, args := #[s, x], argTypes := #[56, 56] })
    (hs : a.eval s = v) (hx : a.eval x = .slice (some ⟨w.heap.size, 0, none⟩) 1 1)
    (h : ∀ v' w', Ob base w' v' (L ++ [C]) → Below base w w' → wpList Try.prog ops Q rest (a.put o.dst v') w') : wpList Try.prog ops Q (o :: rest) a (w.alloc (.cells #[.int .u8 c] 5)) :=
  app_byteg C hO rfl hn hC hgd s x ho hs hx h
theorem run_append_str (w : World) {base : Nat} {v : Value} {L : List UInt8} (l : List UInt8) (ty : TypeId) (hO : Ob base w v L) (hn : L.length + l.length ≤ 200000000000000) :
    ∃ v' w', (Builtin.append_ #[56, 9] ty #[v, str l]).run Try.prog w = .ok v' w' ∧ Ob base w' v' (L ++ l) ∧ Below base w w' := by
  obtain ⟨i0, hi0, hz0, hz1, hz2⟩ := info5
  have hm : maxLen = 9223372036854775807 := rfl
  by_cases small : L.length + l.length ≤ 140737488355328
  · obtain ⟨v', w', hr, hown, hgrow, _⟩ := Lib.run_append_own_string (P := Try.prog) w base 56 9 ty 5 i0 Try.underlying56 Try.underlying9 hi0 hz0 hz1 hz2 v L.length (vals L) hO.own ⟨l.toArray⟩ (by rw [str_size, hm]; omega) (by rw [str_size]; exact small) hO.le
    refine ⟨v', w', hr, ⟨?_, ?_⟩, grown_below hO.own hO.le hgrow⟩
    · rw [vals_append, List.length_append, ← vals_str l]; rw [str_size] at hown; exact hown
    · have := hgrow.size; have h2 := hO.le; omega
  · have hls : (⟨l.toArray⟩ : ByteArray).size = l.length := str_size l
    have grown : ∀ (old : Nat), old < L.length + l.length →
        Ob base (w.drew.alloc (.cells ((vals L).toArray ++ (vals l).toArray ++ Builtin.zeroCells (Value.int .u8 0).cells (grownCap w (L.length + l.length) old 5 - (L.length + l.length))) 5))
          (.slice (some ⟨w.heap.size, 0, none⟩) (L.length + l.length) (grownCap w (L.length + l.length) old 5)) (L ++ l) ∧
        Below base w (w.drew.alloc (.cells ((vals L).toArray ++ (vals l).toArray ++ Builtin.zeroCells (Value.int .u8 0).cells (grownCap w (L.length + l.length) old 5 - (L.length + l.length))) 5)) := by
      intro old ho
      have hge := grownCap_ge w (L.length + l.length) old 5
      have hcm : grownCap w (L.length + l.length) old 5 ≤ maxLen := grownCap_le_maxLen w _ _ _ (by rw [hm]; omega)
      have hlen : (vals (L ++ l)).length = L.length + l.length := by rw [vals_length, List.length_append]
      refine ⟨⟨⟨by rw [vals_length]; simp, Or.inr ⟨w.heap.size, _, _, ?_, hO.le, heap_alloc_new w.drew _, ?_, hcm, ?_, ?_⟩⟩, by have := hO.le; simp; omega⟩, (Below.refl _ _).drew.alloc hO.le _⟩
      · rw [List.length_append]
      · rw [List.length_append]; exact hge
      · have hz1 : (Value.int IntKind.u8 0).cells.size = 1 := rfl
        simp only [Array.size_append, List.size_toArray, size_zeroCells, hz1, vals_length]
        omega
      · simp only [Array.toList_append, List.append_assoc]
        rw [← List.append_assoc, ← vals_append, List.length_append, Nat.mul_one, ← hlen]
        exact List.take_left
    rcases hO.own.2 with ⟨rfl, hL0⟩ | ⟨g, cap, cur, rfl, hbg, hg, hnc, hcm, hcs, htake⟩
    · have e0 : L = [] := List.eq_nil_of_length_eq_zero hL0
      subst e0
      have hr := run_append_nil_string (P := Try.prog) w 56 9 ty 5 i0 (.int .u8 0) Try.underlying56 Try.underlying9 hi0 hz0 ⟨l.toArray⟩ (by rw [hls]; simp at small; omega) (by rw [hls]; simp at hn; omega) (by rw [hls, hz2]; simp at hn; omega)
      have hgr := grown 0 (by simp at small ⊢; omega)
      have e1 : ((⟨l.toArray⟩ : ByteArray).data.map fun b => Value.int .u8 b.toNat) = (vals l).toArray := by simp [vals]
      rw [e1, hls] at hr
      simp only [List.length_nil, Nat.zero_add, List.nil_append, vals, List.map_nil, Array.empty_append] at hgr hr ⊢
      exact ⟨_, _, hr, hgr.1, hgr.2⟩
    · by_cases hroom : L.length + l.length ≤ cap
      · have hcs' : cur.size = cap := by simpa using hcs
        have hr := Lib.run_append_room_string (P := Try.prog) w 56 9 ty 5 i0 Try.underlying56 Try.underlying9 hi0 hz1 g L.length cap cur hg ⟨l.toArray⟩ (by rw [hls]; exact hroom) (by rw [hls]; omega)
        rw [hls, vals_str] at hr
        have ht' : cur.toList.take L.length = vals L := by simpa using htake
        refine ⟨_, _, hr, ⟨⟨by rw [vals_length]; simp, Or.inr ⟨g, cap, _, by rw [List.length_append], hbg, setRow_heap w g cur _ 5 _ hg, by rw [List.length_append]; exact hroom, hcm, ?_, ?_⟩⟩, ?_⟩, ?_⟩
        · simp only [List.size_toArray, List.length_append, List.length_take, List.length_drop, Array.length_toList, vals_length]
          omega
        · rw [ht', ← vals_append, Nat.mul_one, ← vals_length (L ++ l)]
          exact List.take_left
        · have h2 := hO.le; simpa using h2
        · exact grown_below hO.own hO.le ⟨rfl, rfl, rfl, by simp, fun k _ hk => setRow_other w g k _ (fun e => hk (by simp [Value.ownBlock, e]))⟩
      · have holds : ∀ j u, (vals L)[j]? = some u → w.cell? ((⟨g, 0, none⟩ : Addr).add j) = some u := hO.own.cells (g := g) rfl
        have hr := Lib.run_append_grow_string (P := Try.prog) w 56 9 ty 5 i0 (.int .u8 0) Try.underlying56 Try.underlying9 hi0 hz0 ⟨g, 0, none⟩ L.length cap (vals L) (by rw [hz1, vals_length]; simp) holds ⟨l.toArray⟩ (by rw [hls]; omega) (by rw [hls]; omega) (by rw [hz2, hls]; exact growslice_fits_wide (by omega) (by omega))
        rw [hls, vals_str] at hr
        have hgr := grown cap (by omega)
        exact ⟨_, _, hr, hgr.1, hgr.2⟩
theorem app_str {ops : Array Oper} {rest : List Oper} {o : Oper} {a : Act} {Q : Exit → Act → World → Prop} {base : Nat} {w : World} {v : Value} {L : List UInt8} (l : List UInt8) (hO : Ob base w v L) (hn : L.length + l.length ≤ 200000000000000)
    (hgd : o.guard = none) (s x : Operand) (ho : o.op = .call { callee := .builtin .append, args := #[s, x], argTypes := #[56, 9] })
    (hs : a.eval s = v) (hx : a.eval x = str l)
    (h : ∀ v' w', Ob base w' v' (L ++ l) → Below base w w' → wpList Try.prog ops Q rest (a.put o.dst v') w') : wpList Try.prog ops Q (o :: rest) a w := by
  refine wpList_plain hgd fun K hK => ?_
  obtain ⟨v', w', hr, h2, h3⟩ := run_append_str w l o.type hO hn
  unfold Oper.wp execOp
  simp only [ho, resolve, invoke, builtin, Sem.run_bind, Sem.run_pure, Result.andThen_ok, List.map_toArray, List.map_cons, List.map_nil, hs, hx, hr]
  exact hK _ _ (h v' w' h2 h3)
theorem conv_own {base : Nat} {w : World} {v : Value} {l : List UInt8} (h : Ob base w v l) : (convert 56 9 v).run Try.prog w = .ok (str l) w := by
  rcases h.own.2 with ⟨rfl, h0⟩ | ⟨g, cap, cur, rfl, _, _⟩
  · have : l = [] := List.eq_nil_of_length_eq_zero h0
    subst this
    exact run_convert_bytes_nil w 56 5 Try.underlying56 Try.underlying5 0 0 9 Try.underlying9
  · refine run_convert_bytes_back w 56 9 5 ⟨g, 0, none⟩ cap l Try.underlying56 Try.underlying5 Try.underlying9 ?_
    intro j hj
    have hadd : (⟨g, 0, none⟩ : Addr).add j = ⟨g, j, none⟩ := by unfold Addr.add; split <;> simp_all
    rw [hadd, h.own.cellAt j (by simpa using hj)]
    simp [vals, hj]
end Go.Proofs.Ythbdaadhcheggaa
