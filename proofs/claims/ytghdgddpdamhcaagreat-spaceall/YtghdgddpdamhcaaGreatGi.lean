import Derived.Test.YtghdgddpdamhcaaGreatGh
import Derived.Deep.OwnRows
/- SpaceFrees: numbers. -/
namespace Go.Proofs.YtghdgddpdamhcaaGreat
set_option linter.unusedVariables false
set_option linter.unusedSimpArgs false
open Go.RowKit Go.Maps
theorem ni_rise {l : List Nat} (h : l.Pairwise (· < ·)) : (ni l).Pairwise (· ≤ ·) := by
  unfold ni; rw [List.pairwise_map]; exact h.imp (fun h => by omega)
theorem srt_ni {l : List Nat} (h : l.Pairwise (· < ·)) : srt (ni l) = ni l := srt_eq (ni_rise h) (List.Perm.refl _)
theorem nats_ni (l : List Nat) : nats (ni l) = l := by
  unfold nats ni; rw [List.map_map]
  have : (Int.toNat ∘ fun k : Nat => (k : Int)) = id := by funext k; simp
  rw [this, List.map_id]
theorem mem_ni {l : List Nat} {z : Int} : z ∈ ni l ↔ ∃ k ∈ l, (k : Int) = z := by unfold ni; rw [List.mem_map]
theorem fgood_ni {a m : Nat} {l : List Nat} (h : l.Pairwise (· < ·)) (hb : ∀ k ∈ l, a ≤ k ∧ k < m) : fgood a m (ni l) := fun i hi => by
  have hi2 : i < l.length := by rw [ni_len] at hi; exact hi
  have e : ∀ j (hj : j < l.length), (ni l).getD j 0 = ((l[j] : Nat) : Int) := fun j hj => by
    rw [getD_of (by rw [ni_len]; exact hj)]; simp [ni]
  have h1 := hb _ (List.getElem_mem hi2)
  refine ⟨by rw [e i hi2]; omega, by rw [e i hi2]; omega, fun h0 => ?_⟩
  rw [e i hi2, e (i - 1) (by omega)]
  have := (List.pairwise_iff_getElem.1 h) (i - 1) i (by omega) hi2 (by omega)
  omega
theorem allB_true {t : ByteArray} {l : List Nat} (h : ∀ k ∈ l, bt t k = true) : allB t true l = true := by
  unfold allB; rw [List.all_eq_true]; intro k hk; rw [h k hk]; rfl
theorem allB_mem {t : ByteArray} {l : List Nat} (h : allB t true l = true) : ∀ k ∈ l, bt t k = true := fun k hk => by
  unfold allB at h; rw [List.all_eq_true] at h; exact eq_of_beq (h k hk)
/-- a list with a wrong number in it is refused -/
theorem bad_list {t : ByteArray} {l : List Nat} {zs : List Int} {x : Int} {a m : Nat} (hp : List.Perm zs (x :: ni l)) (hb : ∀ j, bt t j = decide (j ∈ l)) (hx : True) : ¬ (fgood a m (srt zs) ∧ allB t true (nats (srt zs)) = true) := by
  rintro ⟨h1, h2⟩
  have hs : List.Perm (srt zs) (x :: ni l) := (List.mergeSort_perm zs _).trans hp
  have hnd : (srt zs).Nodup := (fgood_rise h1).imp (fun h => by omega)
  have hnd2 : (x :: ni l).Nodup := hs.nodup_iff.1 hnd
  have hxm : x ∈ srt zs := hs.symm.subset List.mem_cons_self
  have h3 := fgood_mem h1 hxm
  have h4 := allB_mem h2 x.toNat (List.mem_map.2 ⟨x, hxm, rfl⟩)
  rw [hb] at h4
  have h5 := of_decide_eq_true h4
  have : x ∈ ni l := mem_ni.2 ⟨x.toNat, h5, by omega⟩
  exact (List.nodup_cons.1 hnd2).1 this
theorem usd_true {m first : Nat} {t : ByteArray} {k : Nat} (hk : k < m) (hb : bt t k = true) : usd m first t (k : Int) = true := by
  unfold usd
  have h1 : decide (0 ≤ (k : Int)) = true := decide_eq_true (by omega)
  have h2 : decide ((k : Int) < (m : Int)) = true := decide_eq_true (by omega)
  rw [h1, h2, show ((k : Int)).toNat = k by omega, hb]; simp
theorem app_sl {ops : Array Oper} {rest : List Oper} {o : Oper} {a : Act} {Q : Exit → Act → World → Prop} {w : World} {v : Value} {zs ys : List Int} {g off m c : Nat} (hy : ys.length = m) (hown : w.ownsRow 0 3 1 v zs.length (iv zs)) (hc : ∀ j, j < m → w.cell? ⟨g, off + j, none⟩ = some (.int .i64 (ys.getD j 0))) (hn : zs.length + m < 9000000000000)
    (hgd : o.guard = none) (s x : Operand) (ho : o.op = .call { callee := .builtin .append, args := #[s, x], argTypes := #[22, 22] })
    (hs : a.eval s = v) (hx : a.eval x = .slice (some ⟨g, off, none⟩) m c)
    (h : ∀ v' w', w'.ownsRow 0 3 1 v' (zs ++ ys).length (iv (zs ++ ys)) → w.grownBy w' v.ownBlock → (∀ k, v'.ownBlock = some k → v.ownBlock = some k ∨ w.heap.size ≤ k) → wpList Tryz.prog ops Q rest (a.put o.dst v') w') : wpList Tryz.prog ops Q (o :: rest) a w := by
  subst hy
  obtain ⟨i0, hi0, hz0, hz1, hz2⟩ := info_parts infoIf
  have hm : maxLen = 9223372036854775807 := rfl
  refine wp_append_at Tryz.underlying22 hi0 hz0 hz1 hz2 rfl (by omega) 0 hown (news := iv ys) (by simp [iv]) (fun j u hj => ?_) (fun u hu => by obtain ⟨t, _, rfl⟩ := List.mem_map.1 hu; rfl) (by rw [hm]; omega) (by omega) (Nat.zero_le _) hgd s x ho hs hx ?_
  · have hjl : j < ys.length := by have := (List.getElem?_eq_some_iff.1 hj).1; simpa [iv] using this
    have hadd : (⟨g, off, none⟩ : Addr).add j = ⟨g, off + j, none⟩ := by unfold Addr.add; split <;> simp_all
    rw [hadd, hc j hjl]
    rw [← hj]
    simp [iv, List.getElem?_map, List.getElem?_eq_getElem hjl, List.getD_eq_getElem?_getD]
  · intro v' w' q1 q2 _ q4
    refine h v' w' ?_ q2 q4
    rw [List.length_append]
    unfold iv; rw [List.map_append]; exact q1
section
variable {w0 w w' : World} {q p n x sb first : Nat} {X : List (Th → Prop)} {T : ByteArray}
theorem SU.appI {v v' : Value} {zs zs' : List Int} (h : SU w0 w q p n x sb first T (X ++ [rowI v zs])) (o : w'.ownsRow 0 3 1 v' zs'.length (iv zs')) (g : w.grownBy w' v.ownBlock) (nw : ∀ k, v'.ownBlock = some k → v.ownBlock = some k ∨ w.heap.size ≤ k) : SU w0 w' q p n x sb first T (X ++ [rowI v' zs']) := by
  obtain ⟨W, B, ⟨st, E, r⟩, r2⟩ := h
  have E2 := E.appI (v := v) (l := zs) (v' := v') (l' := zs') (X.length + 4) (by simp) o g nw
  refine ⟨W, B, ⟨st, ?_, r⟩, r2⟩
  have e : (lg q p 24 false :: dk p st :: tx x q W false :: ob sb #[pt x, .int .i64 (first : Int)] 73 :: (X ++ [rowI v zs])).set (X.length + 4) (rowI v' zs') = lg q p 24 false :: dk p st :: tx x q W false :: ob sb #[pt x, .int .i64 (first : Int)] 73 :: (X ++ [rowI v' zs']) := by
    simp
  rw [e] at E2
  exact E2
theorem SU.nilI (h : SU w0 w q p n x sb first T X) : SU w0 w q p n x sb first T (X ++ [rowI (.slice none 0 0) []]) := by
  obtain ⟨W, B, h1, r⟩ := h
  exact ⟨W, B, h1.pushI (l := []) (Below.refl _ _) (World.ownsRow_nil _ _ _ _) (fun k e => by cases e), r⟩
theorem SU.rowL {v : Value} {zs : List Int} (h : SU w0 w q p n x sb first T (X ++ [rowI v zs])) : w.ownsRow 0 3 1 v zs.length (iv zs) := h.row (List.mem_append_right _ List.mem_cons_self)
end
end Go.Proofs.YtghdgddpdamhcaaGreat

/- SpaceAll: Allocs one behind the other take the first free blocks of a new bitmap in order. -/
namespace Go.Proofs.YtghdgddpdamhcaaGreat
set_option linter.unusedVariables false
set_option linter.unusedSimpArgs false
open Go.RowKit Go.Maps
theorem flipA_app : ∀ (A : List Nat) (t : ByteArray) (B : List Nat), flipA t (A ++ B) = flipA (flipA t A) B
  | [], _, _ => rfl
  | a :: r, t, B => by rw [List.cons_append, flipA, flipA, flipA_app r]
theorem filter_not_take {F : List Nat} (hn : F.Nodup) : ∀ s, F.filter (fun k => decide (k ∉ F.take s)) = F.drop s := by
  induction F with
  | nil => intro s; simp
  | cons a r ih =>
    intro s
    obtain ⟨h1, h2⟩ := List.nodup_cons.1 hn
    cases s with
    | zero => simp
    | succ s =>
      rw [List.take_succ_cons, List.drop_succ_cons, List.filter_cons_of_neg (by simp), ← ih h2 s]
      apply List.filter_congr
      intro k hk
      have hne : k ≠ a := fun e => h1 (e ▸ hk)
      simp [hne]
/-- behind the taking of the first s free ones the others are free, in order -/
theorem frees_take {t : ByteArray} {a m : Nat} (hs : ∀ k ∈ frees t a m, k / 8 < t.size) (s : Nat) : frees (flipA t ((frees t a m).take s)) a m = (frees t a m).drop s := by
  have hn := frees_nodup t a m
  have hn2 : ((frees t a m).take s).Nodup := hn.sublist (List.take_sublist _ _)
  rw [← filter_not_take hn s]
  unfold frees
  rw [List.filter_filter]
  apply List.filter_congr
  intro k hk
  have hb := bt_flipA (t := t) hn2 (fun k hk => hs k (List.mem_of_mem_take hk)) k
  unfold frees at hb
  rw [hb]
  by_cases h1 : k ∈ ((List.range m).filter fun k => decide (a ≤ k) && !bt t k).take s
  · have h2 := (mem_frees (t := t) (a := a) (n := m)).1 (by unfold frees; exact List.mem_of_mem_take h1)
    simp [h1, h2.2.2]
  · cases bt t k <;> simp [h1]
/-- a new bitmap of which the first s free blocks are taken -/
def tk (a m s : Nat) : ByteArray := flipA (fl 0) ((frees (fl 0) a m).take s)
theorem tk_zero (a m : Nat) : tk a m 0 = fl 0 := by unfold tk; rw [List.take_zero]; rfl
theorem fl_in {a m : Nat} (hm : m ≤ 4096) : ∀ k ∈ frees (fl 0) a m, k / 8 < (fl 0).size := fun k hk => by
  have := (mem_frees.1 hk).1
  rw [fl0sz]; omega
theorem tk_frees {a m : Nat} (hm : m ≤ 4096) (s : Nat) : frees (tk a m s) a m = (frees (fl 0) a m).drop s := frees_take (fl_in hm) s
theorem tk_left {a m : Nat} (hm : m ≤ 4096) (s : Nat) : (frees (tk a m s) a m).length = m - a - s := by
  rw [tk_frees hm, List.length_drop, frees_zero bt_fl0]
theorem tk_more {a m : Nat} (hm : m ≤ 4096) (s N : Nat) : flipA (tk a m s) ((frees (tk a m s) a m).take N) = tk a m (s + N) := by
  rw [tk_frees hm]
  unfold tk
  rw [← flipA_app, ← List.take_add]
theorem tk_bit {a m : Nat} (hm : m ≤ 4096) (s j : Nat) : bt (tk a m s) j = decide (j ∈ (frees (fl 0) a m).take s) := by
  unfold tk
  rw [bt_flipA ((frees_nodup _ _ _).sublist (List.take_sublist _ _)) (fun k hk => fl_in hm k (List.mem_of_mem_take hk)), bt_fl0]; simp
variable {w0 w w' : World} {q p n x sb first : Nat} {X : List (Th → Prop)}
/-- what an Alloc of the next N answers -/
theorem SU.next (s N : Nat) (h : SU w0 w q p n x sb first (tk (first + 1) (n - 24) s) X) (h1 : 1 ≤ N) (hN : s + N ≤ n - 24 - (first + 1)) : Calls Tryz.prog 13 #[pt sb, .int .i64 (N : Int)] w fun e w' => ∃ g c, N ≤ c ∧ e = .returned (.tuple #[.slice (some ⟨g, 0, none⟩) N c, .int .i64 0]) ∧ SU w0 w' q p n x sb first (tk (first + 1) (n - 24) (s + N)) (rowI (.slice (some ⟨g, 0, none⟩) N c) (ni (((frees (fl 0) (first + 1) (n - 24)).drop s).take N)) :: X) := by
  have hn := h.sz
  have hm : n - 24 ≤ 4096 := by omega
  have hl := tk_left (a := first + 1) hm s
  refine (h.alloc (N : Int)).mono ?_
  rintro e w' (⟨hx, _⟩ | ⟨hx, _⟩ | ⟨hx, _⟩ | ⟨N', g, c, hN', _, _, hc, rfl, h4⟩)
  · omega
  · rw [hl] at hx; omega
  · omega
  · obtain rfl : N' = N := by omega
    rw [tk_more hm, tk_frees hm] at h4
    exact ⟨g, c, hc, rfl, h4⟩
theorem SU.nextNone (s : Nat) (h : SU w0 w q p n x sb first (tk (first + 1) (n - 24) s) X) : Calls Tryz.prog 13 #[pt sb, .int .i64 0] w fun e w' => e = .returned (.tuple #[.slice none 0 0, .int .i64 0]) ∧ SU w0 w' q p n x sb first (tk (first + 1) (n - 24) s) X := by
  refine (h.alloc 0).mono ?_
  rintro e w' (⟨hx, _⟩ | ⟨hx, _⟩ | ⟨_, rfl, h4⟩ | ⟨N', g, c, hN', h1, _⟩)
  · omega
  · omega
  · exact ⟨rfl, h4⟩
  · omega
theorem SU.nextMore (s : Nat) (z : Int) (h : SU w0 w q p n x sb first (tk (first + 1) (n - 24) s) X) (hz : ((n - 24 - (first + 1) - s : Nat) : Int) < z) : Calls Tryz.prog 13 #[pt sb, .int .i64 z] w fun e w' => e = .returned (.tuple #[.slice none 0 0, .int .i64 40]) ∧ SU w0 w' q p n x sb first (tk (first + 1) (n - 24) s) X := by
  have hn := h.sz
  have hl := tk_left (a := first + 1) (m := n - 24) (by omega) s
  refine (h.alloc z).mono ?_
  rintro e w' (⟨hx, _⟩ | ⟨_, rfl, h4⟩ | ⟨hx, _⟩ | ⟨N', g, c, hN', _, hle, _⟩)
  · omega
  · exact ⟨rfl, h4⟩
  · omega
  · rw [hl] at hle; omega
theorem SU.nextLeft (s : Nat) (h : SU w0 w q p n x sb first (tk (first + 1) (n - 24) s) X) : Calls Tryz.prog 12 #[pt sb] w fun e w' => e = .returned (.int .i64 ((n - 24 - (first + 1) - s : Nat) : Int)) ∧ SU w0 w' q p n x sb first (tk (first + 1) (n - 24) s) X := by
  have hn := h.sz
  have := h.left
  rw [tk_left (by omega)] at this
  exact this
end Go.Proofs.YtghdgddpdamhcaaGreat

/- SpaceAll: the numbers that are told, what was seen, and the calls over a space of 96 blocks. -/
namespace Go.Proofs.YtghdgddpdamhcaaGreat
set_option linter.unusedVariables false
set_option linter.unusedSimpArgs false
open Go.RowKit Go.Maps
theorem frees_range {a m : Nat} (h : a ≤ m) : frees (fl 0) a m = List.range' a (m - a) := by
  rw [frees0, List.range_eq_range', show m = a + (m - a) by omega, ← List.range'_append (s := 0) (m := a) (n := m - a) (step := 1), List.filter_append]
  have h1 : (List.range' 0 a).filter (fun k => decide (a ≤ k)) = [] := by
    rw [List.filter_eq_nil_iff]
    intro k hk
    have := List.mem_range'_1.1 hk
    simp; omega
  have h2 : (List.range' (0 + 1 * a) (m - a)).filter (fun k => decide (a ≤ k)) = List.range' (0 + 1 * a) (m - a) := by
    rw [List.filter_eq_self]
    intro k hk
    have := List.mem_range'_1.1 hk
    simp; omega
  rw [h1, h2, List.nil_append]
  simp
/-- the blocks from s on, N of them -/
def seg (k s N : Nat) : List Int := ni (((frees (fl 0) (k + 1) 96).drop s).take N)
theorem fr_get {k j : Nat} (h : j < 95 - k) : (frees (fl 0) (k + 1) 96)[j]? = some (k + 1 + j) := by
  rw [frees_range (by omega), List.getElem?_range' (by omega)]; simp
theorem seg_len {k s N : Nat} (h : s + N ≤ 95 - k) : (seg k s N).length = N := by
  unfold seg; rw [ni_len, List.length_take, List.length_drop, frees_zero bt_fl0]; omega
theorem seg_get {k s N j : Nat} (h : s + N ≤ 95 - k) (hj : j < N) : (seg k s N).getD j 0 = ((k + 1 + s + j : Nat) : Int) := by
  unfold seg ni
  rw [List.getD_eq_getElem?_getD, List.getElem?_map, List.getElem?_take_of_lt hj, List.getElem?_drop, fr_get (by omega)]
  simp; omega
theorem seg_app {k s N : Nat} : seg k 0 s ++ seg k s N = seg k 0 (s + N) := by
  unfold seg ni
  rw [List.drop_zero, ← List.map_append, ← List.take_add]
/-- what was seen, s of them being told -/
def sn (k s : Nat) : Array Value := ((List.range 96).map fun j => Value.bool (decide (k + 1 ≤ j ∧ j < k + 1 + s))).toArray
theorem sn_zero (k : Nat) : sn k 0 = (List.replicate 96 (Value.bool false)).toArray := by
  unfold sn
  congr 1
  have : ∀ j ∈ List.range 96, Value.bool (decide (k + 1 ≤ j ∧ j < k + 1 + 0)) = Value.bool false := fun j _ => by rw [decide_eq_false (by omega)]
  rw [List.map_congr_left this]
  rfl
theorem made96 (k : Nat) : madeCells #[Value.bool false] 96 = sn k 0 := by
  rw [sn_zero]
  unfold madeCells
  apply Array.ext'
  apply List.ext_getElem?
  intro i
  simp only [Array.toList_map, Array.toList_range, List.getElem?_map, List.getElem?_replicate]
  by_cases h : i < 96
  · rw [List.getElem?_range h, if_pos h]; simp [Nat.mod_one]
  · rw [List.getElem?_eq_none (by simp; omega), if_neg h]; rfl
theorem infoBoo : (Tryz.prog.info? 4).map (fun i => (i.zero, i.size, i.bytes)) = some (some (.bool false), 1, 1) := by kernel_rfl
theorem run_make96 (k : Nat) (w : World) : (Instr.makeSlice 32 (.int .i64 96) (.int .i64 96)).run Tryz.prog w = .ok (.slice (some ⟨w.heap.size, 0, none⟩) 96 96) (w.alloc (.cells (sn k 0) 4)) := by
  have := run_make_row' (P := Tryz.prog) 32 4 (.bool false) 1 Tryz.underlying32 infoBoo rfl .i64 .i64 96 (by omega) (by omega) w
  rw [made96 k] at this
  exact this
theorem sn_get {k s j : Nat} (hj : j < 96) : (sn k s)[j]? = some (.bool (decide (k + 1 ≤ j ∧ j < k + 1 + s))) := by
  unfold sn
  simp [hj]
theorem sn_set {k s : Nat} (h : k + 1 + s < 96) : (sn k s).setIfInBounds (k + 1 + s) (.bool true) = sn k (s + 1) := by
  apply Array.ext'
  apply List.ext_getElem?
  intro j
  rw [Array.toList_setIfInBounds]
  unfold sn
  rw [List.getElem?_set]
  by_cases e : k + 1 + s = j
  · subst e
    simp [h]
  · rw [if_neg e]
    by_cases hj : j < 96
    · have e2 : (j < k + 1 + s) = (j < k + 1 + (s + 1)) := propext ⟨fun h => by omega, fun h => by omega⟩
      simp only [List.getElem?_map, List.getElem?_range hj, Option.map_some, e2]
    · simp [hj]
theorem app_none {ops : Array Oper} {rest : List Oper} {o : Oper} {a : Act} {Q : Exit → Act → World → Prop} {w : World} {v : Value} {m : Nat} {xs : List Value} (hown : w.ownsRow 0 3 1 v m xs)
    (hgd : o.guard = none) (s x : Operand) (ho : o.op = .call { callee := .builtin .append, args := #[s, x], argTypes := #[22, 22] })
    (hs : a.eval s = v) (hx : a.eval x = .slice none 0 0)
    (h : wpList Tryz.prog ops Q rest (a.put o.dst v) w) : wpList Tryz.prog ops Q (o :: rest) a w := by
  obtain ⟨i0, hi0, hz0, hz1, hz2⟩ := info_parts infoIf
  refine wpList_plain hgd fun K hK' => ?_
  have hrun := run_append_owned_none (P := Tryz.prog) w 0 22 o.type 3 i0 1 Tryz.underlying22 hi0 _ m xs hown
  unfold Oper.wp
  simp [execOp, ho, resolve, invoke, builtin, hs, hx, hrun, Result.andThen]
  exact hK' _ _ h
section
variable {w0 w w' : World} {q p n x sb k : Nat} {X : List (Th → Prop)} {T : ByteArray}
theorem SU.headF {first b : Nat} {cs : Array Value} {ty : TypeId} (h : SU w0 w q p n x sb first T (ob b cs ty :: X)) (j : Nat) : w.cell? ⟨b, j, none⟩ = cs[j]? ∧ w.frozen? ⟨b, j, none⟩ = false := by
  obtain ⟨W, B, h1, r⟩ := h; exact ⟨h1.head j, h1.headF j⟩
theorem SU.setHead {first b : Nat} {cs : Array Value} {ty : TypeId} (h : SU w0 w q p n x sb first T (ob b cs ty :: X)) (j : Nat) (v : Value) : SU w0 (w.setCell ⟨b, j, none⟩ v) q p n x sb first T (ob b (cs.setIfInBounds j v) ty :: X) := by
  obtain ⟨W, B, h1, r⟩ := h; exact ⟨W, B, h1.setHead j v, r⟩
theorem SU.noneA {s : Nat} (h : SU w0 w q p 120 x sb k (tk (k + 1) 96 s) X) : Calls Tryz.prog 13 #[pt sb, .int .i64 0] w fun e w' => e = .returned (.tuple #[.slice none 0 0, .int .i64 0]) ∧ SU w0 w' q p 120 x sb k (tk (k + 1) 96 s) X := h.nextNone s
theorem SU.leftA {s : Nat} (h : SU w0 w q p 120 x sb k (tk (k + 1) 96 s) X) : Calls Tryz.prog 12 #[pt sb] w fun e w' => e = .returned (.int .i64 ((95 - k - s : Nat) : Int)) ∧ SU w0 w' q p 120 x sb k (tk (k + 1) 96 s) X := by
  have := h.nextLeft s
  rw [show 120 - 24 - (k + 1) - s = 95 - k - s by omega] at this
  exact this
theorem SU.nextA {s : Nat} (N : Nat) (h : SU w0 w q p 120 x sb k (tk (k + 1) 96 s) X) (h1 : 1 ≤ N) (hN : s + N ≤ 95 - k) : Calls Tryz.prog 13 #[pt sb, .int .i64 (N : Int)] w fun e w' => ∃ g c, N ≤ c ∧ e = .returned (.tuple #[.slice (some ⟨g, 0, none⟩) N c, .int .i64 0]) ∧ SU w0 w' q p 120 x sb k (tk (k + 1) 96 (s + N)) (rowI (.slice (some ⟨g, 0, none⟩) N c) (seg k s N) :: X) :=
  h.next s N h1 (by omega)
theorem SU.moreA {s : Nat} (h : SU w0 w q p 120 x sb k (tk (k + 1) 96 s) X) (z : Int) (hz : ((95 - k - s : Nat) : Int) < z) : Calls Tryz.prog 13 #[pt sb, .int .i64 z] w fun e w' => e = .returned (.tuple #[.slice none 0 0, .int .i64 40]) ∧ SU w0 w' q p 120 x sb k (tk (k + 1) 96 s) X :=
  h.nextMore s z (by omega)
theorem SU.usedA {s y : Nat} (h : SU w0 w q p 120 x sb k (tk (k + 1) 96 s) X) (h1 : k + 1 ≤ y) (h2 : y < k + 1 + s) (hs : s ≤ 95 - k) : Calls Tryz.prog 14 #[pt sb, .int .i64 (y : Int)] w fun e w' => e = .returned (.bool true) ∧ SU w0 w' q p 120 x sb k (tk (k + 1) 96 s) X := by
  have hu : usd (120 - 24) k (tk (k + 1) 96 s) (y : Int) = true := usd_true (by omega) (by
    rw [tk_bit (by omega)]
    refine decide_eq_true ?_
    have hg : ((frees (fl 0) (k + 1) 96).take s)[y - (k + 1)]? = some y := by
      rw [List.getElem?_take_of_lt (by omega), fr_get (by omega)]; congr 1; omega
    exact List.mem_of_getElem? hg)
  have := h.used (y : Int)
  rw [hu] at this
  exact this
/-- all is given back -/
def bk (k : Nat) : ByteArray := flipA (tk (k + 1) 96 (95 - k)) (frees (fl 0) (k + 1) 96)
theorem fr_all {k : Nat} : (frees (fl 0) (k + 1) 96).take (95 - k) = frees (fl 0) (k + 1) 96 := List.take_of_length_le (by rw [frees_zero bt_fl0]; omega)
theorem bk_bit (k j : Nat) : bt (bk k) j = false := by
  unfold bk tk
  rw [fr_all, flip_back (frees_nodup _ _ _) (fl_in (by omega)), bt_fl0]
theorem SU.backA {g c : Nat} (hk : k < 95) (h : SU w0 w q p 120 x sb k (tk (k + 1) 96 (95 - k)) X) (hm : rowI (.slice (some ⟨g, 0, none⟩) (95 - k) c) (seg k 0 (95 - k)) ∈ X) : Calls Tryz.prog 15 #[pt sb, .slice (some ⟨g, 0, none⟩) (95 - k) c] w fun e w' => e = .returned (.int .i64 0) ∧ SU w0 w' q p 120 x sb k (bk k) X := by
  have hl := seg_len (k := k) (s := 0) (N := 95 - k) (by omega)
  have hr := frees_rise (fl 0) (k + 1) 96
  have e : seg k 0 (95 - k) = ni (frees (fl 0) (k + 1) 96) := by unfold seg; rw [List.drop_zero, fr_all]
  have hv := h.free (some ⟨g, 0, none⟩) c (seg k 0 (95 - k)) (by omega) (fun w2 h2 j hj => h2.rowC hm hl j (by omega))
  rw [hl] at hv
  refine hv.mono ?_
  rintro e' w'' (⟨_, rfl, h3⟩ | ⟨hx, _⟩)
  · rw [e, srt_ni hr, nats_ni] at h3
    exact ⟨rfl, h3⟩
  · refine absurd ⟨?_, ?_⟩ hx
    · rw [e, srt_ni hr]; exact fgood_ni hr (fun j hj => by have := mem_frees.1 hj; omega)
    · rw [e, srt_ni hr, nats_ni]; exact allB_true (fun j hj => by rw [tk_bit (by omega), fr_all]; exact decide_eq_true hj)
theorem SU.leftB (h : SU w0 w q p 120 x sb k (bk k) X) : Calls Tryz.prog 12 #[pt sb] w fun e w' => e = .returned (.int .i64 ((95 - k : Nat) : Int)) ∧ SU w0 w' q p 120 x sb k (bk k) X := by
  have := h.left
  rw [frees_zero (bk_bit k), show 120 - 24 - (k + 1) = 95 - k by omega] at this
  exact this
theorem SU.againB {g c : Nat} (hk : k < 95) (h : SU w0 w q p 120 x sb k (bk k) X) (hm : rowI (.slice (some ⟨g, 0, none⟩) (95 - k) c) (seg k 0 (95 - k)) ∈ X) : Calls Tryz.prog 15 #[pt sb, .slice (some ⟨g, 0, none⟩) 1 c] w fun e w' => e = .returned (.int .i64 1) ∧ SU w0 w' q p 120 x sb k (bk k) X := by
  have hl := seg_len (k := k) (s := 0) (N := 95 - k) (by omega)
  have hv := h.free (some ⟨g, 0, none⟩) c [((k + 1 : Nat) : Int)] (by simp) (fun w2 h2 j hj => by
    have hj0 : j = 0 := by simpa using hj
    subst hj0
    have := h2.rowC hm hl 0 (by omega)
    rw [seg_get (by omega) (by omega)] at this
    simpa using this)
  refine hv.mono ?_
  rintro e' w'' (⟨hx, _⟩ | ⟨_, rfl, h3⟩)
  · have e : [((k + 1 : Nat) : Int)] = ni [k + 1] := rfl
    rw [e, srt_ni (by simp), nats_ni] at hx
    have := allB_mem hx.2 (k + 1) (by simp)
    rw [bk_bit] at this
    cases this
  · exact ⟨rfl, h3⟩
end
end Go.Proofs.YtghdgddpdamhcaaGreat

/- SpaceAll: the walk. -/
namespace Go.Proofs.YtghdgddpdamhcaaGreat
set_option linter.unusedVariables false
set_option linter.unusedSimpArgs false
open Go.RowKit Go.Maps
def slLen : Value → Nat
  | .slice _ n _ => n
  | _ => 0
set_option maxRecDepth 1000000 in
set_option maxHeartbeats 8000000 in
theorem spaceAll_walk (fi : Int) (zs : List Int) (za : Option Addr) (zc : Nat) (W : World) (n1 : -9223372036854775808 ≤ fi) (n2 : fi ≤ 9223372036854775807) (hz : IIn W za zs) (hzl : zs.length ≤ 20000000000000) :
    Calls Tryz.prog 3 #[.int .i64 fi, .slice za zs.length zc] W fun e w' => e = .returned (.bool true) ∧ Below W.heap.size W w' := by
  have qH := head_any W
  have qL := least_any fi 40
  have hk := lst_lt fi 40 (by omega)
  go_enter Tryz.func3, Tryz.ntmps3
  go_wp2_with fail
  refine qH.mono ?_
  rintro e w1 ⟨rfl, b1'⟩
  have HB1 : Hid (Below W.heap.size W w1) := ⟨b1'⟩
  clear qH b1'
  dsimp only
  go_wp2_with fail
  refine (qL w1 (by omega) (by omega) n1 n2).mono ?_
  rintro e w2 ⟨rfl, rfl⟩
  generalize lst fi 40 = k at *
  have qB := begun_s (EnvP.nil w2) 120 k (by omega) (by omega) (by omega)
  clear qL
  dsimp only
  go_wp2_with fail
  refine qB.mono ?_
  rintro e w3 ⟨q, p, x, sb, rfl, h3⟩
  have H3 : Hid (SU w2 w3 q p 120 x sb k (tk (k + 1) 96 0) []) := ⟨by rw [tk_zero]; exact h3⟩
  clear qB h3
  dsimp only
  go_wp2_with fail
  have qb : Calls Tryz.prog 11 #[pt q] w3 fun e w' => e = .returned (.int .i64 96) ∧ SU w2 w' q p 120 x sb k (tk (k + 1) 96 0) [] := H3.out.blocks
  refine qb.mono ?_
  rintro e w4 ⟨rfl, h4⟩
  clear qb H3
  dsimp only
  have hfree : ((95 - k - 0 : Nat) : Int) = 96 - (k : Int) - 1 := by omega
  go_wp2_with fail
  refine (h4.leftA).mono ?_
  rintro e w5 ⟨rfl, h5⟩
  clear h4
  have H5 : Hid (SU w2 w5 q p 120 x sb k (tk (k + 1) 96 0) []) := ⟨h5⟩
  clear h5
  dsimp only
  rw [hfree]
  have hmk := run_make96 k
  have H6 : Hid (SU w2 (w5.alloc (.cells (sn k 0) 4)) q p 120 x sb k (tk (k + 1) 96 0) [ob w5.heap.size (sn k 0) 4, rowI (.slice none 0 0) (seg k 0 0)]) := ⟨(H5.out.alloc' (sn k 0) 4).nilI⟩
  clear H5
  go_wp2_with fail
  generalize w5.alloc (.cells (sn k 0) 4) = w6 at *
  generalize w5.heap.size = gs at *
  clear hmk
  go_loopw [13, 14] (fun va i wr => ∃ (s j : Nat) (ga : Option Addr) (gc : Nat), s ≤ 95 - k ∧ j ≤ zs.length + s ∧ va = .slice ga s gc ∧ i = .int .i64 (j : Int) ∧ Hid (SU w2 wr q p 120 x sb k (tk (k + 1) 96 s) [ob gs (sn k s) 4, rowI (.slice ga s gc) (seg k 0 s)])) (fun va i _ => zs.length - (intOf i).toNat + (95 - slLen va))
  case atStart => exact ⟨0, 0, none, 0, by omega, by omega, rfl, rfl, H6⟩
  case round =>
    clear H6
    obtain ⟨s, j, ga, gc, hs, hj, rfl, rfl, H7⟩ := hrel
    go_wp2_with fail
    refine (H7.out.leftA).mono ?_
    rintro e w7 ⟨rfl, h7⟩
    have H8 : Hid (SU w2 w7 q p 120 x sb k (tk (k + 1) 96 s) [ob gs (sn k s) 4, rowI (.slice ga s gc) (seg k 0 s)]) := ⟨h7⟩
    clear H7 h7
    dsimp only
    by_cases hsl : s < 95 - k
    · have d1 : decide ((0 : Int) < ((95 - k - s : Nat) : Int)) = true := decide_eq_true (by omega)
      have HLF : Hid (∀ w', SU w2 w' q p 120 x sb k (tk (k + 1) 96 s) [ob gs (sn k s) 4, rowI (.slice ga s gc) (seg k 0 s)] → Calls Tryz.prog 12 #[pt sb] w' fun e w'' => e = .returned (.int .i64 ((95 - k - s : Nat) : Int)) ∧ SU w2 w'' q p 120 x sb k (tk (k + 1) 96 s) [ob gs (sn k s) 4, rowI (.slice ga s gc) (seg k 0 s)]) := ⟨fun w' h => h.leftA⟩
      obtain ⟨lf, hlf⟩ : ∃ lf, lf = 95 - k - s := ⟨_, rfl⟩
      rw [← hlf] at d1 HLF ⊢
      have hlf1 : 1 ≤ lf ∧ lf ≤ 95 := by omega
      have HE : Hid (lf = 95 - k - s) := ⟨hlf⟩
      clear hlf
      go_wp2_with fail
      refine (HLF.out _ H8.out).mono ?_
      rintro e w8 ⟨rfl, h8⟩
      have H9 : Hid (SU w2 w8 q p 120 x sb k (tk (k + 1) 96 s) [ob gs (sn k s) 4, rowI (.slice ga s gc) (seg k 0 s)]) := ⟨h8⟩
      clear H8 h8 HLF d1
      dsimp only
      go_upto_if 59 with fail
      go_cut [16] from 49 to 160 (fun v wx => ∃ wt : Nat, v = .int .i64 (wt : Int) ∧ wt ≤ lf ∧ (¬ j < zs.length → wt = 1) ∧ Hid (SU w2 wx q p 120 x sb k (tk (k + 1) 96 s) [ob gs (sn k s) 4, rowI (.slice ga s gc) (seg k 0 s)]))
      case first =>
        by_cases hjl : j < zs.length
        · have d2 : decide ((j : Int) < (zs.length : Int)) = true := decide_eq_true (by omega)
          have j2 : (j : Int) < (zs.length : Int) := by omega
          obtain ⟨z, hzj⟩ : ∃ z, zs[j]? = some z := ⟨_, List.getElem?_eq_getElem hjl⟩
          have hb9 : Below W.heap.size W w8 := HB1.out.trans (H9.out.bel.mono HB1.out.size)
          obtain ⟨bz, oz, rfl, hbz, cz, z1, z2⟩ := (hz.below hb9 (fun _ _ _ hb => hb)).get j z hzj
          have qz : Calls Tryz.prog 9 #[.int .i64 z, .int .i64 ((lf : Int) + 1)] w8 fun e w'' => e = .returned (.int .i64 ((lst z (lf + 1) : Nat) : Int)) ∧ w'' = w8 := by
            have := least_any z (lf + 1) w8 (by omega) (by omega) z1 z2
            rw [show ((lf + 1 : Nat) : Int) = (lf : Int) + 1 by omega] at this
            exact this
          have hlz := lst_lt z (lf + 1) (by omega)
          clear hb9 hzj
          go_wp2_with fail
          with_reducible refine Calls.mono qz ?_
          rintro e w9 ⟨rfl, rfl⟩
          dsimp only
          go_wp2_with fail
          go_meet
          case rel => exact ⟨_, rfl, by omega, fun h => absurd hjl h, H9⟩
        · have d2 : decide ((j : Int) < (zs.length : Int)) = false := decide_eq_false (by omega)
          go_wp2_with fail
          go_meet
          case rel => exact ⟨1, rfl, by omega, fun _ => rfl, H9⟩
      obtain ⟨wt, rfl, hwt, hw1, H10⟩ := hcut
      clear H9
      have HM : Hid (¬ j < zs.length → wt = 1) := ⟨hw1⟩
      clear hw1
      by_cases hw0 : wt = 0
      · subst hw0
        have hjl : j < zs.length := by
          rcases Nat.lt_or_ge j zs.length with h | h
          · exact h
          · have := HM.out (by omega); omega
        have HLF : Hid (∀ w', SU w2 w' q p 120 x sb k (tk (k + 1) 96 s) [ob gs (sn k s) 4, rowI (.slice ga s gc) (seg k 0 s)] → Calls Tryz.prog 12 #[pt sb] w' fun e w'' => e = .returned (.int .i64 (lf : Int)) ∧ SU w2 w'' q p 120 x sb k (tk (k + 1) 96 s) [ob gs (sn k s) 4, rowI (.slice ga s gc) (seg k 0 s)]) := ⟨fun w' h => by rw [HE.out]; exact h.leftA⟩
        go_wp2_with fail
        refine (H10.out.noneA).mono ?_
        rintro e w10 ⟨rfl, h10⟩
        have H11 : Hid (SU w2 w10 q p 120 x sb k (tk (k + 1) 96 s) [ob gs (sn k s) 4, rowI (.slice ga s gc) (seg k 0 s)]) := ⟨h10⟩
        clear H10 h10
        dsimp only
        go_wp2_with fail
        refine (HLF.out _ H11.out).mono ?_
        rintro e w11 ⟨rfl, h11⟩
        have H12 : Hid (SU w2 w11 q p 120 x sb k (tk (k + 1) 96 s) [ob gs (sn k s) 4, rowI (.slice ga s gc) (seg k 0 s)]) := ⟨h11⟩
        clear H11 h11
        dsimp only
        go_wp2_with fail
        go_loopw [19] (fun i wr => i = .int .i64 0 ∧ Hid (SU w2 wr q p 120 x sb k (tk (k + 1) 96 s) [ob gs (sn k s) 4, rowI (.slice ga s gc) (seg k 0 s)])) (fun i _ => 0)
        case atStart => exact ⟨rfl, H12⟩
        case round =>
          clear H12
          obtain ⟨rfl, H13⟩ := hrel
          have hro : wr.ownsRow 0 3 1 (.slice ga s gc) s (iv (seg k 0 s)) := by
            have := (SU.rowL (X := [ob gs (sn k s) 4]) H13.out)
            rw [seg_len (by omega)] at this
            exact this
          go_wp2_with (at_builtin; refine app_none hro rfl _ _ rfl rfl rfl ?_)
          exact ⟨⟨s, j + 1, ga, gc, by omega, by omega, rfl, by go_num, H13⟩, by simp [intOf, slLen]; omega⟩
      · have hwp : 1 ≤ wt := by omega
        have hsw : s + wt ≤ 95 - k := by have := HE.out; omega
        have EL : Hid (((95 - k - (s + wt) : Nat) : Int) = (lf : Int) - (wt : Int)) := ⟨by have := HE.out; omega⟩
        have dw : decide ((0 : Int) < (wt : Int)) = true := decide_eq_true (by omega)
        have hwi : ¬ ((wt : Int) = 0) := by omega
        go_wp2_with fail
        refine (H10.out.nextA wt hwp hsw).mono ?_
        rintro e w10 ⟨g, c, hc, rfl, h10⟩
        have H11 : Hid (SU w2 w10 q p 120 x sb k (tk (k + 1) 96 (s + wt)) [rowI (.slice (some ⟨g, 0, none⟩) wt c) (seg k s wt), ob gs (sn k (s + 0)) 4, rowI (.slice ga s gc) (seg k 0 s)]) := ⟨h10⟩
        have HLG : Hid (∀ w' X, SU w2 w' q p 120 x sb k (tk (k + 1) 96 (s + wt)) X → Calls Tryz.prog 12 #[pt sb] w' fun e w'' => e = .returned (.int .i64 ((lf : Int) - (wt : Int))) ∧ SU w2 w'' q p 120 x sb k (tk (k + 1) 96 (s + wt)) X) := ⟨fun w' X h => by rw [← EL.out]; exact h.leftA⟩
        clear H10 h10
        dsimp only
        go_wp2_with fail
        refine (HLG.out _ _ H11.out).mono ?_
        rintro e w11 ⟨rfl, h11⟩
        have H12 : Hid (SU w2 w11 q p 120 x sb k (tk (k + 1) 96 (s + wt)) [rowI (.slice (some ⟨g, 0, none⟩) wt c) (seg k s wt), ob gs (sn k (s + 0)) 4, rowI (.slice ga s gc) (seg k 0 s)]) := ⟨h11⟩
        clear H11 h11
        dsimp only
        go_wp2_with fail
        go_loopw [19] (fun i wr => ∃ m : Nat, m ≤ wt ∧ i = .int .i64 (m : Int) ∧ Hid (SU w2 wr q p 120 x sb k (tk (k + 1) 96 (s + wt)) [rowI (.slice (some ⟨g, 0, none⟩) wt c) (seg k s wt), ob gs (sn k (s + m)) 4, rowI (.slice ga s gc) (seg k 0 s)])) (fun i _ => wt - (intOf i).toNat)
        case atStart => exact ⟨0, by omega, rfl, H12⟩
        case round =>
          clear H12
          obtain ⟨m, hm, rfl, H13⟩ := hrel
          by_cases hml : m < wt
          · have d3 : decide ((m : Int) < (wt : Int)) = true := decide_eq_true (by omega)
            have m2 : (m : Int) < (wt : Int) := by omega
            obtain ⟨Y, hY⟩ : ∃ Y, Y = k + 1 + s + m := ⟨_, rfl⟩
            have HCA : Hid (∀ w', SU w2 w' q p 120 x sb k (tk (k + 1) 96 (s + wt)) [rowI (.slice (some ⟨g, 0, none⟩) wt c) (seg k s wt), ob gs (sn k (s + m)) 4, rowI (.slice ga s gc) (seg k 0 s)] → w'.cell? ⟨g, m, none⟩ = some (.int .i64 (Y : Int)) ∧ w'.cell? ⟨gs, Y, none⟩ = some (.bool false) ∧ w'.frozen? ⟨gs, Y, none⟩ = false) := ⟨fun w' h => by
              obtain ⟨b, off, e, _, h2⟩ := h.rowC (g := g) (m := wt) (c := c) (zs := seg k s wt) (by simp) (seg_len hsw) m hml
              cases e
              rw [Nat.zero_add, seg_get hsw hml, ← hY] at h2
              have h3 := h.perm (List.Perm.swap _ _ _)
              have h4 := h3.headF Y
              rw [sn_get (by omega), decide_eq_false (by omega)] at h4
              exact ⟨h2, h4⟩⟩
            have HU : Hid (∀ w' X, SU w2 w' q p 120 x sb k (tk (k + 1) 96 (s + wt)) X → Calls Tryz.prog 14 #[pt sb, .int .i64 (Y : Int)] w' fun e w'' => e = .returned (.bool true) ∧ SU w2 w'' q p 120 x sb k (tk (k + 1) 96 (s + wt)) X) := ⟨fun w' X h => h.usedA (by omega) (by omega) (by omega)⟩
            have HST : Hid (∀ w', SU w2 w' q p 120 x sb k (tk (k + 1) 96 (s + wt)) [rowI (.slice (some ⟨g, 0, none⟩) wt c) (seg k s wt), ob gs (sn k (s + m)) 4, rowI (.slice ga s gc) (seg k 0 s)] → SU w2 (w'.setCell ⟨gs, Y, none⟩ (.bool true)) q p 120 x sb k (tk (k + 1) 96 (s + wt)) [rowI (.slice (some ⟨g, 0, none⟩) wt c) (seg k s wt), ob gs (sn k (s + (m + 1))) 4, rowI (.slice ga s gc) (seg k 0 s)]) := ⟨fun w' h => by
              have h3 := (h.perm (List.Perm.swap _ _ _)).setHead Y (.bool true)
              rw [show Y = k + 1 + (s + m) by omega, sn_set (by omega)] at h3
              have h4 := h3.perm (List.Perm.swap _ _ _)
              rw [show Y = k + 1 + (s + m) by omega]
              exact h4⟩
            have d4 : decide ((Y : Int) < (k : Int) + 1) = false := decide_eq_false (by omega)
            have d5 : decide ((96 : Int) ≤ (Y : Int)) = false := decide_eq_false (by omega)
            have d6 : (Y : Int) < 96 := by omega
            have d7 : decide (96 ≤ Y) = false := decide_eq_false (by omega)
            obtain ⟨ca, cs, fs⟩ := HCA.out _ H13.out
            clear hY
            go_wp2_with fail
            refine (HU.out _ _ H13.out).mono ?_
            rintro e w14 ⟨rfl, h14⟩
            obtain ⟨ca2, cs2, fs2⟩ := HCA.out _ h14
            have H15 : Hid (SU w2 (w14.setCell ⟨gs, Y, none⟩ (.bool true)) q p 120 x sb k (tk (k + 1) 96 (s + wt)) [rowI (.slice (some ⟨g, 0, none⟩) wt c) (seg k s wt), ob gs (sn k (s + (m + 1))) 4, rowI (.slice ga s gc) (seg k 0 s)]) := ⟨HST.out _ h14⟩
            clear h14 H13 HU HST HCA ca cs fs
            dsimp only
            go_wp2_with fail
            exact ⟨⟨m + 1, by omega, by go_num, H15⟩, by simp [intOf]; omega⟩
          · obtain rfl : m = wt := by omega
            have d3 : decide ((m : Int) < (m : Int)) = false := decide_eq_false (by omega)
            have hown : wr.ownsRow 0 3 1 (.slice ga s gc) (seg k 0 s).length (iv (seg k 0 s)) := SU.rowL (X := [rowI (.slice (some ⟨g, 0, none⟩) m c) (seg k s m), ob gs (sn k (s + m)) 4]) H13.out
            have hcs : ∀ i, i < m → wr.cell? ⟨g, 0 + i, none⟩ = some (.int .i64 ((seg k s m).getD i 0)) := fun i hi => by
              obtain ⟨b, off, e, _, h2⟩ := H13.out.rowC (g := g) (m := m) (c := c) (zs := seg k s m) (by simp) (seg_len hsw) i hi
              cases e
              exact h2
            have hsl0 := seg_len (k := k) (s := 0) (N := s) (by omega)
            have HAP : Hid (∀ v' w', w'.ownsRow 0 3 1 v' (seg k 0 s ++ seg k s m).length (iv (seg k 0 s ++ seg k s m)) → wr.grownBy w' (Value.slice ga s gc).ownBlock → (∀ k, v'.ownBlock = some k → (Value.slice ga s gc).ownBlock = some k ∨ wr.heap.size ≤ k) → ∃ va vc, v' = .slice va (s + m) vc ∧ SU w2 w' q p 120 x sb k (tk (k + 1) 96 (s + m)) [ob gs (sn k (s + m)) 4, rowI (.slice va (s + m) vc) (seg k 0 (s + m))]) := ⟨fun v' w' o g9 n9 => by
              have h3 := (SU.appI (X := [rowI (.slice (some ⟨g, 0, none⟩) m c) (seg k s m), ob gs (sn k (s + m)) 4]) H13.out o g9 n9).tail
              rw [seg_app] at o h3
              rw [seg_len (by omega)] at o
              obtain ⟨va, vc, rfl⟩ := own_slice o
              exact ⟨va, vc, rfl, h3⟩⟩
            have hlen : (seg k 0 s).length + m < 9000000000000 := by rw [hsl0]; omega
            have HMO : Hid (∀ w' X, SU w2 w' q p 120 x sb k (tk (k + 1) 96 (s + m)) X → Calls Tryz.prog 13 #[pt sb, .int .i64 ((lf : Int) - (m : Int) + 1)] w' fun e w'' => e = .returned (.tuple #[.slice none 0 0, .int .i64 40]) ∧ SU w2 w'' q p 120 x sb k (tk (k + 1) 96 (s + m)) X) := ⟨fun w' X h => h.moreA _ (by have := EL.out; omega)⟩
            have hsg := seg_len (k := k) (s := s) (N := m) hsw
            clear H13
            go_wp2_with (at_builtin; refine app_sl (v := .slice ga s gc) (zs := seg k 0 s) (ys := seg k s m) (g := g) (off := 0) (m := m) (c := c) hsg hown hcs hlen rfl _ _ rfl rfl rfl ?_; intro v17 w17 o17 g17 n17; obtain ⟨va, vc, rfl, h17⟩ := HAP.out v17 w17 o17 g17 n17; have H17 : Hid (SU w2 w17 q p 120 x sb k (tk (k + 1) 96 (s + m)) [ob gs (sn k (s + m)) 4, rowI (.slice va (s + m) vc) (seg k 0 (s + m))]) := ⟨h17⟩; clear o17 g17 n17 h17 HAP hown hcs hlen hsg hsl0)
            refine (HLG.out _ _ H17.out).mono ?_
            rintro e w18 ⟨rfl, h18⟩
            have H18 : Hid (SU w2 w18 q p 120 x sb k (tk (k + 1) 96 (s + m)) [ob gs (sn k (s + m)) 4, rowI (.slice va (s + m) vc) (seg k 0 (s + m))]) := ⟨h18⟩
            clear h18 H17
            dsimp only
            go_wp2_with fail
            with_reducible refine Calls.mono (HMO.out _ _ H18.out) ?_
            rintro e w19 ⟨rfl, h19⟩
            have H19 : Hid (SU w2 w19 q p 120 x sb k (tk (k + 1) 96 (s + m)) [ob gs (sn k (s + m)) 4, rowI (.slice va (s + m) vc) (seg k 0 (s + m))]) := ⟨h19⟩
            clear h19 H18
            dsimp only
            go_wp2_with fail
            with_reducible refine Calls.mono (HLG.out _ _ H19.out) ?_
            rintro e w20 ⟨rfl, h20⟩
            have H20 : Hid (SU w2 w20 q p 120 x sb k (tk (k + 1) 96 (s + m)) [ob gs (sn k (s + m)) 4, rowI (.slice va (s + m) vc) (seg k 0 (s + m))]) := ⟨h20⟩
            clear h20 H19
            dsimp only
            go_wp2_with fail
            exact ⟨⟨s + m, j + 1, va, vc, hsw, by omega, rfl, by go_num, H20⟩, by simp [intOf, slLen]; omega⟩
    · have e0 : 95 - k - s = 0 := by omega
      rw [e0]
      have HS : Hid (s = 95 - k) := ⟨by omega⟩
      have hs1 : 1 ≤ s := by omega
      have hsb : s ≤ 95 := by omega
      have dF : ((s : Int) == 96 - (k : Int) - 1) = true := by rw [beq_iff_eq]; omega
      have hro := SU.rowL (X := [ob gs (sn k s) 4]) H8.out
      rw [seg_len (by omega)] at hro
      obtain ⟨g, rfl, hgc⟩ : ∃ g, ga = some ⟨g, 0, none⟩ ∧ s ≤ gc := by
        rcases hro.2 with ⟨_, h0⟩ | ⟨g', cap', cur', e, _, _, h4, _⟩
        · omega
        · injection e with e1 e2 e3
          subst e1 e3
          exact ⟨g', rfl, h4⟩
      obtain ⟨Xr, hXr⟩ : ∃ Xr, Xr = [ob gs (sn k s) 4, rowI (.slice (some ⟨g, 0, none⟩) s gc) (seg k 0 s)] := ⟨_, rfl⟩
      have hmem : rowI (.slice (some ⟨g, 0, none⟩) s gc) (seg k 0 s) ∈ Xr := by rw [hXr]; simp
      have HBK : Hid (∀ w', SU w2 w' q p 120 x sb k (tk (k + 1) 96 s) Xr → Calls Tryz.prog 15 #[pt sb, .slice (some ⟨g, 0, none⟩) s gc] w' fun e w'' => e = .returned (.int .i64 0) ∧ SU w2 w'' q p 120 x sb k (bk k) Xr) := ⟨fun w' h => by
        have hm := hmem
        rw [HS.out] at h hm ⊢
        exact h.backA (by omega) hm⟩
      have HLB : Hid (∀ w', SU w2 w' q p 120 x sb k (bk k) Xr → Calls Tryz.prog 12 #[pt sb] w' fun e w'' => e = .returned (.int .i64 (s : Int)) ∧ SU w2 w'' q p 120 x sb k (bk k) Xr) := ⟨fun w' h => by rw [HS.out]; exact h.leftB⟩
      have HAG : Hid (∀ w', SU w2 w' q p 120 x sb k (bk k) Xr → Calls Tryz.prog 15 #[pt sb, .slice (some ⟨g, 0, none⟩) 1 gc] w' fun e w'' => e = .returned (.int .i64 1) ∧ SU w2 w'' q p 120 x sb k (bk k) Xr) := ⟨fun w' h => by
        have hm := hmem
        rw [HS.out] at hm
        exact h.againB (by omega) hm⟩
      have H9 : Hid (SU w2 w7 q p 120 x sb k (tk (k + 1) 96 s) Xr) := ⟨by rw [hXr]; exact H8.out⟩
      have g1 : (1 : Int) ≤ (gc : Int) := by omega
      clear hro hmem hXr H8 e0 hfree
      go_wp2_with fail
      refine (H9.out.noneA).mono ?_
      rintro e w8 ⟨rfl, h8⟩
      have H10 : Hid (SU w2 w8 q p 120 x sb k (tk (k + 1) 96 s) Xr) := ⟨h8⟩
      clear h8 H9
      dsimp only
      go_wp2_with fail
      with_reducible refine Calls.mono (HBK.out _ H10.out) ?_
      rintro e w9 ⟨rfl, h9⟩
      have H11 : Hid (SU w2 w9 q p 120 x sb k (bk k) Xr) := ⟨h9⟩
      clear h9 H10
      dsimp only
      go_wp2_with fail
      with_reducible refine Calls.mono (HLB.out _ H11.out) ?_
      rintro e w10 ⟨rfl, h10⟩
      have H12 : Hid (SU w2 w10 q p 120 x sb k (bk k) Xr) := ⟨h10⟩
      clear h10 H11
      dsimp only
      go_wp2_with fail
      with_reducible refine Calls.mono (HAG.out _ H12.out) ?_
      rintro e w11 ⟨rfl, h11⟩
      have HB11 : Hid (Below W.heap.size W w11) := ⟨HB1.out.trans (h11.bel.mono HB1.out.size)⟩
      clear h11 H12
      dsimp only
      go_wp2_with fail
      go_ret
      exact ⟨rfl, HB11.out⟩
end Go.Proofs.YtghdgddpdamhcaaGreat
