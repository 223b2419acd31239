import Derived.Test.YtghdgddpdamhcaaGreatGh
import Derived.Deep.OwnRows
/- SpaceFrees: numbers. -/
namespace Go.Proofs.YtghdgddpdamhcaaGreat
set_option linter.unusedVariables false
set_option linter.unusedSimpArgs false
open Go.RowKit Go.Maps
theorem ni_rise {l : List Nat} (h : l.Pairwise (· < ·)) : (ni l).Pairwise (· ≤ ·) := by
  unfold ni; rw [List.pairwise_map]; exact h.imp (fun h => by omega)
theorem srt_ni {l : List Nat} (h : l.Pairwise (· < ·)) : srt (ni l) = ni l := srt_eq (ni_rise h) (List.Perm.refl _)
theorem nats_ni (l : List Nat) : nats (ni l) = l := by
  unfold nats ni; rw [List.map_map]
  have : (Int.toNat ∘ fun k : Nat => (k : Int)) = id := by funext k; simp
  rw [this, List.map_id]
theorem mem_ni {l : List Nat} {z : Int} : z ∈ ni l ↔ ∃ k ∈ l, (k : Int) = z := by unfold ni; rw [List.mem_map]
theorem fgood_ni {a m : Nat} {l : List Nat} (h : l.Pairwise (· < ·)) (hb : ∀ k ∈ l, a ≤ k ∧ k < m) : fgood a m (ni l) := fun i hi => by
  have hi2 : i < l.length := by rw [ni_len] at hi; exact hi
  have e : ∀ j (hj : j < l.length), (ni l).getD j 0 = ((l[j] : Nat) : Int) := fun j hj => by
    rw [getD_of (by rw [ni_len]; exact hj)]; simp [ni]
  have h1 := hb _ (List.getElem_mem hi2)
  refine ⟨by rw [e i hi2]; omega, by rw [e i hi2]; omega, fun h0 => ?_⟩
  rw [e i hi2, e (i - 1) (by omega)]
  have := (List.pairwise_iff_getElem.1 h) (i - 1) i (by omega) hi2 (by omega)
  omega
theorem allB_true {t : ByteArray} {l : List Nat} (h : ∀ k ∈ l, bt t k = true) : allB t true l = true := by
  unfold allB; rw [List.all_eq_true]; intro k hk; rw [h k hk]; rfl
theorem allB_mem {t : ByteArray} {l : List Nat} (h : allB t true l = true) : ∀ k ∈ l, bt t k = true := fun k hk => by
  unfold allB at h; rw [List.all_eq_true] at h; exact eq_of_beq (h k hk)
/-- a list with a wrong number in it is refused -/
theorem bad_list {t : ByteArray} {l : List Nat} {zs : List Int} {x : Int} {a m : Nat} (hp : List.Perm zs (x :: ni l)) (hb : ∀ j, bt t j = decide (j ∈ l)) (hx : True) : ¬ (fgood a m (srt zs) ∧ allB t true (nats (srt zs)) = true) := by
  rintro ⟨h1, h2⟩
  have hs : List.Perm (srt zs) (x :: ni l) := (List.mergeSort_perm zs _).trans hp
  have hnd : (srt zs).Nodup := (fgood_rise h1).imp (fun h => by omega)
  have hnd2 : (x :: ni l).Nodup := hs.nodup_iff.1 hnd
  have hxm : x ∈ srt zs := hs.symm.subset List.mem_cons_self
  have h3 := fgood_mem h1 hxm
  have h4 := allB_mem h2 x.toNat (List.mem_map.2 ⟨x, hxm, rfl⟩)
  rw [hb] at h4
  have h5 := of_decide_eq_true h4
  have : x ∈ ni l := mem_ni.2 ⟨x.toNat, h5, by omega⟩
  exact (List.nodup_cons.1 hnd2).1 this
theorem usd_true {m first : Nat} {t : ByteArray} {k : Nat} (hk : k < m) (hb : bt t k = true) : usd m first t (k : Int) = true := by
  unfold usd
  have h1 : decide (0 ≤ (k : Int)) = true := decide_eq_true (by omega)
  have h2 : decide ((k : Int) < (m : Int)) = true := decide_eq_true (by omega)
  rw [h1, h2, show ((k : Int)).toNat = k by omega, hb]; simp
theorem app_sl {ops : Array Oper} {rest : List Oper} {o : Oper} {a : Act} {Q : Exit → Act → World → Prop} {w : World} {v : Value} {zs ys : List Int} {g off m c : Nat} (hy : ys.length = m) (hown : w.ownsRow 0 3 1 v zs.length (iv zs)) (hc : ∀ j, j < m → w.cell? ⟨g, off + j, none⟩ = some (.int .i64 (ys.getD j 0))) (hn : zs.length + m < 9000000000000)
    (hgd : o.guard = none) (s x : Operand) (ho : o.op = .call { callee := .builtin .append, args := #[s, x], argTypes := #[22, 22] })
    (hs : a.eval s = v) (hx : a.eval x = .slice (some ⟨g, off, none⟩) m c)
    (h : ∀ v' w', w'.ownsRow 0 3 1 v' (zs ++ ys).length (iv (zs ++ ys)) → w.grownBy w' v.ownBlock → (∀ k, v'.ownBlock = some k → v.ownBlock = some k ∨ w.heap.size ≤ k) → wpList Tryz.prog ops Q rest (a.put o.dst v') w') : wpList Tryz.prog ops Q (o :: rest) a w := by
  subst hy
  obtain ⟨i0, hi0, hz0, hz1, hz2⟩ := info_parts infoIf
  have hm : maxLen = 9223372036854775807 := rfl
  refine wp_append_at Tryz.underlying22 hi0 hz0 hz1 hz2 rfl (by omega) 0 hown (news := iv ys) (by simp [iv]) (fun j u hj => ?_) (fun u hu => by obtain ⟨t, _, rfl⟩ := List.mem_map.1 hu; rfl) (by rw [hm]; omega) (by omega) (Nat.zero_le _) hgd s x ho hs hx ?_
  · have hjl : j < ys.length := by have := (List.getElem?_eq_some_iff.1 hj).1; simpa [iv] using this
    have hadd : (⟨g, off, none⟩ : Addr).add j = ⟨g, off + j, none⟩ := by unfold Addr.add; split <;> simp_all
    rw [hadd, hc j hjl]
    rw [← hj]
    simp [iv, List.getElem?_map, List.getElem?_eq_getElem hjl, List.getD_eq_getElem?_getD]
  · intro v' w' q1 q2 _ q4
    refine h v' w' ?_ q2 q4
    rw [List.length_append]
    unfold iv; rw [List.map_append]; exact q1
section
variable {w0 w w' : World} {q p n x sb first : Nat} {X : List (Th → Prop)} {T : ByteArray}
theorem SU.appI {v v' : Value} {zs zs' : List Int} (h : SU w0 w q p n x sb first T (X ++ [rowI v zs])) (o : w'.ownsRow 0 3 1 v' zs'.length (iv zs')) (g : w.grownBy w' v.ownBlock) (nw : ∀ k, v'.ownBlock = some k → v.ownBlock = some k ∨ w.heap.size ≤ k) : SU w0 w' q p n x sb first T (X ++ [rowI v' zs']) := by
  obtain ⟨W, B, ⟨st, E, r⟩, r2⟩ := h
  have E2 := E.appI (v := v) (l := zs) (v' := v') (l' := zs') (X.length + 4) (by simp) o g nw
  refine ⟨W, B, ⟨st, ?_, r⟩, r2⟩
  have e : (lg q p 24 false :: dk p st :: tx x q W false :: ob sb #[pt x, .int .i64 (first : Int)] 73 :: (X ++ [rowI v zs])).set (X.length + 4) (rowI v' zs') = lg q p 24 false :: dk p st :: tx x q W false :: ob sb #[pt x, .int .i64 (first : Int)] 73 :: (X ++ [rowI v' zs']) := by
    simp
  rw [e] at E2
  exact E2
theorem SU.nilI (h : SU w0 w q p n x sb first T X) : SU w0 w q p n x sb first T (X ++ [rowI (.slice none 0 0) []]) := by
  obtain ⟨W, B, h1, r⟩ := h
  exact ⟨W, B, h1.pushI (l := []) (Below.refl _ _) (World.ownsRow_nil _ _ _ _) (fun k e => by cases e), r⟩
theorem SU.rowL {v : Value} {zs : List Int} (h : SU w0 w q p n x sb first T (X ++ [rowI v zs])) : w.ownsRow 0 3 1 v zs.length (iv zs) := h.row (List.mem_append_right _ List.mem_cons_self)
end
end Go.Proofs.YtghdgddpdamhcaaGreat

/- SpaceAll: Allocs one behind the other take the first free blocks of a new bitmap in order. -/
namespace Go.Proofs.YtghdgddpdamhcaaGreat
set_option linter.unusedVariables false
set_option linter.unusedSimpArgs false
open Go.RowKit Go.Maps
theorem flipA_app : ∀ (A : List Nat) (t : ByteArray) (B : List Nat), flipA t (A ++ B) = flipA (flipA t A) B
  | [], _, _ => rfl
  | a :: r, t, B => by rw [List.cons_append, flipA, flipA, flipA_app r]
theorem filter_not_take {F : List Nat} (hn : F.Nodup) : ∀ s, F.filter (fun k => decide (k ∉ F.take s)) = F.drop s := by
  induction F with
  | nil => intro s; simp
  | cons a r ih =>
    intro s
    obtain ⟨h1, h2⟩ := List.nodup_cons.1 hn
    cases s with
    | zero => simp
    | succ s =>
      rw [List.take_succ_cons, List.drop_succ_cons, List.filter_cons_of_neg (by simp), ← ih h2 s]
      apply List.filter_congr
      intro k hk
      have hne : k ≠ a := fun e => h1 (e ▸ hk)
      simp [hne]
/-- behind the taking of the first s free ones the others are free, in order -/
theorem frees_take {t : ByteArray} {a m : Nat} (hs : ∀ k ∈ frees t a m, k / 8 < t.size) (s : Nat) : frees (flipA t ((frees t a m).take s)) a m = (frees t a m).drop s := by
  have hn := frees_nodup t a m
  have hn2 : ((frees t a m).take s).Nodup := hn.sublist (List.take_sublist _ _)
  rw [← filter_not_take hn s]
  unfold frees
  rw [List.filter_filter]
  apply List.filter_congr
  intro k hk
  have hb := bt_flipA (t := t) hn2 (fun k hk => hs k (List.mem_of_mem_take hk)) k
  unfold frees at hb
  rw [hb]
  by_cases h1 : k ∈ ((List.range m).filter fun k => decide (a ≤ k) && !bt t k).take s
  · have h2 := (mem_frees (t := t) (a := a) (n := m)).1 (by unfold frees; exact List.mem_of_mem_take h1)
    simp [h1, h2.2.2]
  · cases bt t k <;> simp [h1]
/-- a new bitmap of which the first s free blocks are taken -/
def tk (a m s : Nat) : ByteArray := flipA (fl 0) ((frees (fl 0) a m).take s)
theorem tk_zero (a m : Nat) : tk a m 0 = fl 0 := by unfold tk; rw [List.take_zero]; rfl
theorem fl_in {a m : Nat} (hm : m ≤ 4096) : ∀ k ∈ frees (fl 0) a m, k / 8 < (fl 0).size := fun k hk => by
  have := (mem_frees.1 hk).1
  rw [fl0sz]; omega
theorem tk_frees {a m : Nat} (hm : m ≤ 4096) (s : Nat) : frees (tk a m s) a m = (frees (fl 0) a m).drop s := frees_take (fl_in hm) s
theorem tk_left {a m : Nat} (hm : m ≤ 4096) (s : Nat) : (frees (tk a m s) a m).length = m - a - s := by
  rw [tk_frees hm, List.length_drop, frees_zero bt_fl0]
theorem tk_more {a m : Nat} (hm : m ≤ 4096) (s N : Nat) : flipA (tk a m s) ((frees (tk a m s) a m).take N) = tk a m (s + N) := by
  rw [tk_frees hm]
  unfold tk
  rw [← flipA_app, ← List.take_add]
theorem tk_bit {a m : Nat} (hm : m ≤ 4096) (s j : Nat) : bt (tk a m s) j = decide (j ∈ (frees (fl 0) a m).take s) := by
  unfold tk
  rw [bt_flipA ((frees_nodup _ _ _).sublist (List.take_sublist _ _)) (fun k hk => fl_in hm k (List.mem_of_mem_take hk)), bt_fl0]; simp
variable {w0 w w' : World} {q p n x sb first : Nat} {X : List (Th → Prop)}
/-- what an Alloc of the next N answers -/
theorem SU.next (s N : Nat) (h : SU w0 w q p n x sb first (tk (first + 1) (n - 24) s) X) (h1 : 1 ≤ N) (hN : s + N ≤ n - 24 - (first + 1)) : Calls Tryz.prog 13 #[pt sb, .int .i64 (N : Int)] w fun e w' => ∃ g c, N ≤ c ∧ e = .returned (.tuple #[.slice (some ⟨g, 0, none⟩) N c, .int .i64 0]) ∧ SU w0 w' q p n x sb first (tk (first + 1) (n - 24) (s + N)) (rowI (.slice (some ⟨g, 0, none⟩) N c) (ni (((frees (fl 0) (first + 1) (n - 24)).drop s).take N)) :: X) := by
  have hn := h.sz
  have hm : n - 24 ≤ 4096 := by omega
  have hl := tk_left (a := first + 1) hm s
  refine (h.alloc (N : Int)).mono ?_
  rintro e w' (⟨hx, _⟩ | ⟨hx, _⟩ | ⟨hx, _⟩ | ⟨N', g, c, hN', _, _, hc, rfl, h4⟩)
  · omega
  · rw [hl] at hx; omega
  · omega
  · obtain rfl : N' = N := by omega
    rw [tk_more hm, tk_frees hm] at h4
    exact ⟨g, c, hc, rfl, h4⟩
theorem SU.nextNone (s : Nat) (h : SU w0 w q p n x sb first (tk (first + 1) (n - 24) s) X) : Calls Tryz.prog 13 #[pt sb, .int .i64 0] w fun e w' => e = .returned (.tuple #[.slice none 0 0, .int .i64 0]) ∧ SU w0 w' q p n x sb first (tk (first + 1) (n - 24) s) X := by
  refine (h.alloc 0).mono ?_
  rintro e w' (⟨hx, _⟩ | ⟨hx, _⟩ | ⟨_, rfl, h4⟩ | ⟨N', g, c, hN', h1, _⟩)
  · omega
  · omega
  · exact ⟨rfl, h4⟩
  · omega
theorem SU.nextMore (s : Nat) (z : Int) (h : SU w0 w q p n x sb first (tk (first + 1) (n - 24) s) X) (hz : ((n - 24 - (first + 1) - s : Nat) : Int) < z) : Calls Tryz.prog 13 #[pt sb, .int .i64 z] w fun e w' => e = .returned (.tuple #[.slice none 0 0, .int .i64 40]) ∧ SU w0 w' q p n x sb first (tk (first + 1) (n - 24) s) X := by
  have hn := h.sz
  have hl := tk_left (a := first + 1) (m := n - 24) (by omega) s
  refine (h.alloc z).mono ?_
  rintro e w' (⟨hx, _⟩ | ⟨_, rfl, h4⟩ | ⟨hx, _⟩ | ⟨N', g, c, hN', _, hle, _⟩)
  · omega
  · exact ⟨rfl, h4⟩
  · omega
  · rw [hl] at hle; omega
theorem SU.nextLeft (s : Nat) (h : SU w0 w q p n x sb first (tk (first + 1) (n - 24) s) X) : Calls Tryz.prog 12 #[pt sb] w fun e w' => e = .returned (.int .i64 ((n - 24 - (first + 1) - s : Nat) : Int)) ∧ SU w0 w' q p n x sb first (tk (first + 1) (n - 24) s) X := by
  have hn := h.sz
  have := h.left
  rw [tk_left (by omega)] at this
  exact this
end Go.Proofs.YtghdgddpdamhcaaGreat

/- SpaceAll: the numbers that are told, what was seen, and the calls over a space of 96 blocks. -/
namespace Go.Proofs.YtghdgddpdamhcaaGreat
set_option linter.unusedVariables false
set_option linter.unusedSimpArgs false
open Go.RowKit Go.Maps
theorem frees_range {a m : Nat} (h : a ≤ m) : frees (fl 0) a m = List.range' a (m - a) := by
  rw [frees0, List.range_eq_range', show m = a + (m - a) by omega, ← List.range'_append (s := 0) (m := a) (n := m - a) (step := 1), List.filter_append]
  have h1 : (List.range' 0 a).filter (fun k => decide (a ≤ k)) = [] := by
    rw [List.filter_eq_nil_iff]
    intro k hk
    have := List.mem_range'_1.1 hk
    simp; omega
  have h2 : (List.range' (0 + 1 * a) (m - a)).filter (fun k => decide (a ≤ k)) = List.range' (0 + 1 * a) (m - a) := by
    rw [List.filter_eq_self]
    intro k hk
    have := List.mem_range'_1.1 hk
    simp; omega
  rw [h1, h2, List.nil_append]
  simp
/-- the blocks from s on, N of them -/
def seg (k s N : Nat) : List Int := ni (((frees (fl 0) (k + 1) 96).drop s).take N)
theorem fr_get {k j : Nat} (h : j < 95 - k) : (frees (fl 0) (k + 1) 96)[j]? = some (k + 1 + j) := by
  rw [frees_range (by omega), List.getElem?_range' (by omega)]; simp
theorem seg_len {k s N : Nat} (h : s + N ≤ 95 - k) : (seg k s N).length = N := by
  unfold seg; rw [ni_len, List.length_take, List.length_drop, frees_zero bt_fl0]; omega
theorem seg_get {k s N j : Nat} (h : s + N ≤ 95 - k) (hj : j < N) : (seg k s N).getD j 0 = ((k + 1 + s + j : Nat) : Int) := by
  unfold seg ni
  rw [List.getD_eq_getElem?_getD, List.getElem?_map, List.getElem?_take_of_lt hj, List.getElem?_drop, fr_get (by omega)]
  simp; omega
theorem seg_app {k s N : Nat} : seg k 0 s ++ seg k s N = seg k 0 (s + N) := by
  unfold seg ni
  rw [List.drop_zero, ← List.map_append, ← List.take_add]
/-- what was seen, s of them being told -/
def sn (k s : Nat) : Array Value := ((List.range 96).map fun j => Value.bool (decide (k + 1 ≤ j ∧ j < k + 1 + s))).toArray
theorem sn_zero (k : Nat) : sn k 0 = (List.replicate 96 (Value.bool false)).toArray := by
  unfold sn
  congr 1
  have : ∀ j ∈ List.range 96, Value.bool (decide (k + 1 ≤ j ∧ j < k + 1 + 0)) = Value.bool false := fun j _ => by rw [decide_eq_false (by omega)]
  rw [List.map_congr_left this]
  rfl
theorem made96 (k : Nat) : madeCells #[Value.bool false] 96 = sn k 0 := by
  rw [sn_zero]
  unfold madeCells
  apply Array.ext'
  apply List.ext_getElem?
  intro i
  simp only [Array.toList_map, Array.toList_range, List.getElem?_map, List.getElem?_replicate]
  by_cases h : i < 96
  · rw [List.getElem?_range h, if_pos h]; simp [Nat.mod_one]
  · rw [List.getElem?_eq_none (by simp; omega), if_neg h]; rfl
theorem infoBoo : (Tryz.prog.info? 4).map (fun i => (i.zero, i.size, i.bytes)) = some (some (.bool false), 1, 1) := by kernel_rfl
theorem run_make96 (k : Nat) (w : World) : (Instr.makeSlice 32 (.int .i64 96) (.int .i64 96)).run Tryz.prog w = .ok (.slice (some ⟨w.heap.size, 0, none⟩) 96 96) (w.alloc (.cells (sn k 0) 4)) := by
  have := run_make_row' (P := Tryz.prog) 32 4 (.bool false) 1 Tryz.underlying32 infoBoo rfl .i64 .i64 96 (by omega) (by omega) w
  rw [made96 k] at this
  exact this
theorem sn_get {k s j : Nat} (hj : j < 96) : (sn k s)[j]? = some (.bool (decide (k + 1 ≤ j ∧ j < k + 1 + s))) := by
  unfold sn
  simp [hj]
theorem sn_set {k s : Nat} (h : k + 1 + s < 96) : (sn k s).setIfInBounds (k + 1 + s) (.bool true) = sn k (s + 1) := by
  apply Array.ext'
  apply List.ext_getElem?
  intro j
  rw [Array.toList_setIfInBounds]
  unfold sn
  rw [List.getElem?_set]
  by_cases e : k + 1 + s = j
  · subst e
    simp [h]
  · rw [if_neg e]
    by_cases hj : j < 96
    · have e2 : (j < k + 1 + s) = (j < k + 1 + (s + 1)) := propext ⟨fun h => by omega, fun h => by omega⟩
      simp only [List.getElem?_map, List.getElem?_range hj, Option.map_some, e2]
    · simp [hj]
theorem app_none {ops : Array Oper} {rest : List Oper} {o : Oper} {a : Act} {Q : Exit → Act → World → Prop} {w : World} {v : Value} {m : Nat} {xs : List Value} (hown : w.ownsRow 0 3 1 v m xs)
    (hgd : o.guard = none) (s x : Operand) (ho : o.op = .call { callee := .builtin .append, args := #[s, x], argTypes := #[22, 22] })
    (hs : a.eval s = v) (hx : a.eval x = .slice none 0 0)
    (h : wpList Tryz.prog ops Q rest (a.put o.dst v) w) : wpList Tryz.prog ops Q (o :: rest) a w := by
  obtain ⟨i0, hi0, hz0, hz1, hz2⟩ := info_parts infoIf
  refine wpList_plain hgd fun K hK' => ?_
  have hrun := run_append_owned_none (P := Tryz.prog) w 0 22 o.type 3 i0 1 Tryz.underlying22 hi0 _ m xs hown
  unfold Oper.wp
  simp [execOp, ho, resolve, invoke, builtin, hs, hx, hrun, Result.andThen]
  exact hK' _ _ h
section
variable {w0 w w' : World} {q p n x sb k : Nat} {X : List (Th → Prop)} {T : ByteArray}
theorem SU.headF {first b : Nat} {cs : Array Value} {ty : TypeId} (h : SU w0 w q p n x sb first T (ob b cs ty :: X)) (j : Nat) : w.cell? ⟨b, j, none⟩ = cs[j]? ∧ w.frozen? ⟨b, j, none⟩ = false := by
  obtain ⟨W, B, h1, r⟩ := h; exact ⟨h1.head j, h1.headF j⟩
theorem SU.setHead {first b : Nat} {cs : Array Value} {ty : TypeId} (h : SU w0 w q p n x sb first T (ob b cs ty :: X)) (j : Nat) (v : Value) : SU w0 (w.setCell ⟨b, j, none⟩ v) q p n x sb first T (ob b (cs.setIfInBounds j v) ty :: X) := by
  obtain ⟨W, B, h1, r⟩ := h; exact ⟨W, B, h1.setHead j v, r⟩
theorem SU.noneA {s : Nat} (h : SU w0 w q p 120 x sb k (tk (k + 1) 96 s) X) : Calls Tryz.prog 13 #[pt sb, .int .i64 0] w fun e w' => e = .returned (.tuple #[.slice none 0 0, .int .i64 0]) ∧ SU w0 w' q p 120 x sb k (tk (k + 1) 96 s) X := h.nextNone s
theorem SU.leftA {s : Nat} (h : SU w0 w q p 120 x sb k (tk (k + 1) 96 s) X) : Calls Tryz.prog 12 #[pt sb] w fun e w' => e = .returned (.int .i64 ((95 - k - s : Nat) : Int)) ∧ SU w0 w' q p 120 x sb k (tk (k + 1) 96 s) X := by
  have := h.nextLeft s
  rw [show 120 - 24 - (k + 1) - s = 95 - k - s by omega] at this
  exact this
theorem SU.nextA {s : Nat} (N : Nat) (h : SU w0 w q p 120 x sb k (tk (k + 1) 96 s) X) (h1 : 1 ≤ N) (hN : s + N ≤ 95 - k) : Calls Tryz.prog 13 #[pt sb, .int .i64 (N : Int)] w fun e w' => ∃ g c, N ≤ c ∧ e = .returned (.tuple #[.slice (some ⟨g, 0, none⟩) N c, .int .i64 0]) ∧ SU w0 w' q p 120 x sb k (tk (k + 1) 96 (s + N)) (rowI (.slice (some ⟨g, 0, none⟩) N c) (seg k s N) :: X) :=
  h.next s N h1 (by omega)
theorem SU.moreA {s : Nat} (h : SU w0 w q p 120 x sb k (tk (k + 1) 96 s) X) (z : Int) (hz : ((95 - k - s : Nat) : Int) < z) : Calls Tryz.prog 13 #[pt sb, .int .i64 z] w fun e w' => e = .returned (.tuple #[.slice none 0 0, .int .i64 40]) ∧ SU w0 w' q p 120 x sb k (tk (k + 1) 96 s) X :=
  h.nextMore s z (by omega)
theorem SU.usedA {s y : Nat} (h : SU w0 w q p 120 x sb k (tk (k + 1) 96 s) X) (h1 : k + 1 ≤ y) (h2 : y < k + 1 + s) (hs : s ≤ 95 - k) : Calls Tryz.prog 14 #[pt sb, .int .i64 (y : Int)] w fun e w' => e = .returned (.bool true) ∧ SU w0 w' q p 120 x sb k (tk (k + 1) 96 s) X := by
  have hu : usd (120 - 24) k (tk (k + 1) 96 s) (y : Int) = true := usd_true (by omega) (by
    rw [tk_bit (by omega)]
    refine decide_eq_true ?_
    have hg : ((frees (fl 0) (k + 1) 96).take s)[y - (k + 1)]? = some y := by
      rw [List.getElem?_take_of_lt (by omega), fr_get (by omega)]; congr 1; omega
    exact List.mem_of_getElem? hg)
  have := h.used (y : Int)
  rw [hu] at this
  exact this
/-- all is given back -/
def bk (k : Nat) : ByteArray := flipA (tk (k + 1) 96 (95 - k)) (frees (fl 0) (k + 1) 96)
theorem fr_all {k : Nat} : (frees (fl 0) (k + 1) 96).take (95 - k) = frees (fl 0) (k + 1) 96 := List.take_of_length_le (by rw [frees_zero bt_fl0]; omega)
theorem bk_bit (k j : Nat) : bt (bk k) j = false := by
  unfold bk tk
  rw [fr_all, flip_back (frees_nodup _ _ _) (fl_in (by omega)), bt_fl0]
theorem SU.backA {g c : Nat} (hk : k < 95) (h : SU w0 w q p 120 x sb k (tk (k + 1) 96 (95 - k)) X) (hm : rowI (.slice (some ⟨g, 0, none⟩) (95 - k) c) (seg k 0 (95 - k)) ∈ X) : Calls Tryz.prog 15 #[pt sb, .slice (some ⟨g, 0, none⟩) (95 - k) c] w fun e w' => e = .returned (.int .i64 0) ∧ SU w0 w' q p 120 x sb k (bk k) X := by
  have hl := seg_len (k := k) (s := 0) (N := 95 - k) (by omega)
  have hr := frees_rise (fl 0) (k + 1) 96
  have e : seg k 0 (95 - k) = ni (frees (fl 0) (k + 1) 96) := by unfold seg; rw [List.drop_zero, fr_all]
  have hv := h.free (some ⟨g, 0, none⟩) c (seg k 0 (95 - k)) (by omega) (fun w2 h2 j hj => h2.rowC hm hl j (by omega))
  rw [hl] at hv
  refine hv.mono ?_
  rintro e' w'' (⟨_, rfl, h3⟩ | ⟨hx, _⟩)
  · rw [e, srt_ni hr, nats_ni] at h3
    exact ⟨rfl, h3⟩
  · refine absurd ⟨?_, ?_⟩ hx
    · rw [e, srt_ni hr]; exact fgood_ni hr (fun j hj => by have := mem_frees.1 hj; omega)
    · rw [e, srt_ni hr, nats_ni]; exact allB_true (fun j hj => by rw [tk_bit (by omega), fr_all]; exact decide_eq_true hj)
theorem SU.leftB (h : SU w0 w q p 120 x sb k (bk k) X) : Calls Tryz.prog 12 #[pt sb] w fun e w' => e = .returned (.int .i64 ((95 - k : Nat) : Int)) ∧ SU w0 w' q p 120 x sb k (bk k) X := by
  have := h.left
  rw [frees_zero (bk_bit k), show 120 - 24 - (k + 1) = 95 - k by omega] at this
  exact this
theorem SU.againB {g c : Nat} (hk : k < 95) (h : SU w0 w q p 120 x sb k (bk k) X) (hm : rowI (.slice (some ⟨g, 0, none⟩) (95 - k) c) (seg k 0 (95 - k)) ∈ X) : Calls Tryz.prog 15 #[pt sb, .slice (some ⟨g, 0, none⟩) 1 c] w fun e w' => e = .returned (.int .i64 1) ∧ SU w0 w' q p 120 x sb k (bk k) X := by
  have hl := seg_len (k := k) (s := 0) (N := 95 - k) (by omega)
  have hv := h.free (some ⟨g, 0, none⟩) c [((k + 1 : Nat) : Int)] (by simp) (fun w2 h2 j hj => by
    have hj0 : j = 0 := by simpa using hj
    subst hj0
    have := h2.rowC hm hl 0 (by omega)
    rw [seg_get (by omega) (by omega)] at this
    simpa using this)
  refine hv.mono ?_
  rintro e' w'' (⟨hx, _⟩ | ⟨_, rfl, h3⟩)
  · have e : [((k + 1 : Nat) : Int)] = ni [k + 1] := rfl
    rw [e, srt_ni (by simp), nats_ni] at hx
    have := allB_mem hx.2 (k + 1) (by simp)
    rw [bk_bit] at this
    cases this
  · exact ⟨rfl, h3⟩
end
end Go.Proofs.YtghdgddpdamhcaaGreat

/- A live space and what the transaction sees of the other blocks. -/
namespace Go.Proofs.YtghdgddpdamhcaaGreat
set_option linter.unusedVariables false
set_option linter.unusedSimpArgs false
open Go.RowKit Go.Maps
section
variable {w0 w w' : World} {q p n x sb first : Nat} {W : Wl} {o : Bool} {B : List ByteArray} {X Y : List (Th → Prop)} {T : ByteArray} {V : Nat → ByteArray}
theorem cur_other {k i : Nat} {t : ByteArray} (h : Rising W) (hi : k ≠ i) : cur (insW k t W) B i = cur W B i := by unfold cur; rw [lookW_ins h, if_neg hi]
def SV (w0 w : World) (q p n x sb first : Nat) (T : ByteArray) (V : Nat → ByteArray) (X : List (Th → Prop)) : Prop := ∃ W B, SS w0 w q p n x sb first W false B X ∧ (cur W B first = T ∧ first + 1 ≤ n - 24) ∧ ∀ i, i ≠ first → cur W B i = V i
theorem SV.su (h : SV w0 w q p n x sb first T V X) : SU w0 w q p n x sb first T X := by
  obtain ⟨W, B, h1, h2, _⟩ := h; exact ⟨W, B, h1, h2⟩
theorem SU.sv (h : SU w0 w q p n x sb first T X) : ∃ V, SV w0 w q p n x sb first T V X := by
  obtain ⟨W, B, h1, h2⟩ := h; exact ⟨fun i => cur W B i, W, B, h1, h2, fun i _ => rfl⟩
theorem SV.below (h : SV w0 w q p n x sb first T V X) (b : Below w.heap.size w w') : SV w0 w' q p n x sb first T V X := by
  obtain ⟨W, B, h1, r⟩ := h; exact ⟨W, B, h1.below b, r⟩
theorem SV.tail {s : Th → Prop} (h : SV w0 w q p n x sb first T V (s :: X)) : SV w0 w q p n x sb first T V X := by
  obtain ⟨W, B, h1, r⟩ := h; exact ⟨W, B, h1.tail, r⟩
theorem SV.perm (h : SV w0 w q p n x sb first T V X) (hp : List.Perm X Y) : SV w0 w q p n x sb first T V Y := by
  obtain ⟨W, B, h1, r⟩ := h; exact ⟨W, B, h1.perm hp, r⟩
theorem SV.bel (h : SV w0 w q p n x sb first T V X) : Below w0.heap.size w0 w := h.su.bel
theorem SV.left (h : SV w0 w q p n x sb first T V X) : Calls Tryz.prog 12 #[pt sb] w fun e w' => e = .returned (.int .i64 (((frees T (first + 1) (n - 24)).length : Nat) : Int)) ∧ SV w0 w' q p n x sb first T V X := by
  obtain ⟨W, B, h1, ⟨rfl, hf⟩, hv⟩ := h
  refine (h1.left hf).mono ?_
  rintro e w' ⟨rfl, h2⟩
  exact ⟨rfl, W, B, h2, ⟨rfl, hf⟩, hv⟩
theorem SV.used (h : SV w0 w q p n x sb first T V X) (z : Int) : Calls Tryz.prog 14 #[pt sb, .int .i64 z] w fun e w' => e = .returned (.bool (usd (n - 24) first T z)) ∧ SV w0 w' q p n x sb first T V X := by
  obtain ⟨W, B, h1, ⟨rfl, hf⟩, hv⟩ := h
  refine (h1.used hf z).mono ?_
  rintro e w' ⟨rfl, h2⟩
  exact ⟨rfl, W, B, h2, ⟨rfl, hf⟩, hv⟩
/-- an Alloc that is answered -/
theorem SV.take (N : Nat) (h : SV w0 w q p n x sb first T V X) (h1 : 1 ≤ N) (hN : N ≤ (frees T (first + 1) (n - 24)).length) : Calls Tryz.prog 13 #[pt sb, .int .i64 (N : Int)] w fun e w' => ∃ g c, N ≤ c ∧ e = .returned (.tuple #[.slice (some ⟨g, 0, none⟩) N c, .int .i64 0]) ∧ SV w0 w' q p n x sb first (flipA T ((frees T (first + 1) (n - 24)).take N)) V (rowI (.slice (some ⟨g, 0, none⟩) N c) (ni ((frees T (first + 1) (n - 24)).take N)) :: X) := by
  obtain ⟨W, B, hs, ⟨rfl, hf⟩, hv⟩ := h
  have hl := frees_len (cur W B first) (first + 1) (n - 24)
  refine (hs.takeSome hf N h1 (by omega)).mono ?_
  rintro e w' (⟨hlt, _⟩ | ⟨hle, g, c, rfl, hc, h2⟩)
  · omega
  · exact ⟨g, c, hc, rfl, _, B, h2, ⟨cur_ins hs.ris, hf⟩, fun i hi => by rw [cur_other hs.ris (fun e => hi e.symm)]; exact hv i hi⟩
/-- a Free that is answered -/
theorem SV.give (h : SV w0 w q p n x sb first T V X) (a : Option Addr) (cap : Nat) (l : List Nat) (hl : l.length ≤ 4096) (hr : l.Pairwise (· < ·)) (hb : ∀ k ∈ l, first + 1 ≤ k ∧ k < n - 24) (ht : ∀ k ∈ l, bt T k = true) (h0 : 1 ≤ l.length)
    (hcs : ∀ w1, SU w0 w1 q p n x sb first T X → ∀ j, j < l.length → ∃ b off, a = some ⟨b, off, none⟩ ∧ b < w1.heap.size ∧ w1.cell? ⟨b, off + j, none⟩ = some (.int .i64 ((ni l).getD j 0))) :
    Calls Tryz.prog 15 #[pt sb, .slice a l.length cap] w fun e w' => e = .returned (.int .i64 0) ∧ SV w0 w' q p n x sb first (flipA T l) V X := by
  obtain ⟨W, B, h1, ⟨rfl, hf⟩, hv⟩ := h
  have hq := h1.freeL hf a cap (ni l) (by rw [ni_len]; exact hl) (fun w1 hh j hj => hcs w1 ⟨W, B, hh, rfl, hf⟩ j (by rw [ni_len] at hj; exact hj))
  rw [ni_len] at hq
  refine hq.mono ?_
  rintro e w' (⟨h9, _⟩ | ⟨_, hg, ha, rfl, h2⟩ | ⟨hx, _⟩)
  · have : (ni l).length = 0 := by rw [h9]; rfl
    rw [ni_len] at this; omega
  · rw [srt_ni hr, nats_ni] at h2
    exact ⟨rfl, _, B, h2, ⟨cur_ins h1.ris, hf⟩, fun i hi => by rw [cur_other h1.ris (fun e => hi e.symm)]; exact hv i hi⟩
  · refine absurd ⟨?_, ?_⟩ hx
    · rw [srt_ni hr]; exact fgood_ni hr hb
    · rw [srt_ni hr, nats_ni]; exact allB_true ht
theorem SV.write (h : SV w0 w q p n x sb first T V X) (k : Nat) (hk : k < n - 24) (hk1 : k ≠ first) (t : ByteArray) (ht : t.size = 512) : Calls Tryz.prog 16 #[pt x, .int .i64 (k : Int), .string t] w fun e w' => e = .returned (.int .i64 0) ∧ SV w0 w' q p n x sb first T (fun i => if i = k then t else V i) X := by
  obtain ⟨W, B, h1, ⟨hT, hf⟩, hv⟩ := h
  refine (h1.write k hk t ht).mono ?_
  rintro e w' ⟨rfl, h2⟩
  refine ⟨rfl, _, B, h2, ⟨by rw [cur_other h1.ris hk1]; exact hT, hf⟩, fun i hi => ?_⟩
  by_cases e : i = k
  · subst e; rw [cur_ins h1.ris]; exact (if_pos rfl).symm
  · rw [cur_other h1.ris (fun q => e q.symm)]; exact (hv i hi).trans (if_neg e).symm
theorem SV.read (h : SV w0 w q p n x sb first T V X) (k : Nat) (hk : k < n - 24) : Calls Tryz.prog 17 #[pt x, .int .i64 (k : Int)] w fun e w' => ∃ t, (k ≠ first → t = V k) ∧ e = .returned (.tuple #[.string t, .int .i64 0]) ∧ SV w0 w' q p n x sb first T V X := by
  obtain ⟨W, B, h1, r, hv⟩ := h
  refine (h1.read k hk).mono ?_
  rintro e w' ⟨rfl, h2⟩
  exact ⟨_, fun hk1 => hv k hk1, rfl, W, B, h2, r, hv⟩
theorem SV.blocks (h : SV w0 w q p n x sb first T V X) : Calls Tryz.prog 11 #[pt q] w fun e w' => e = .returned (.int .i64 ((n - 24 : Nat) : Int)) ∧ SV w0 w' q p n x sb first T V X := by
  obtain ⟨W, B, ⟨st, E, ok, hn, r⟩, r2⟩ := h
  have ht : TS w0 w q p n x W false B (ob sb #[pt x, .int .i64 (first : Int)] 73 :: X) := ⟨st, E, ok, hn, r⟩
  refine ht.blocks.mono ?_
  rintro e w' ⟨rfl, st', E', r'⟩
  exact ⟨rfl, W, B, ⟨st', E', r'⟩, r2⟩
/-- a row of one's own, of any sort of cells -/
def rowXTh (ty : TypeId) (v : Value) (xs : List Value) : Th := ⟨fun k => v.ownBlock = some k, fun w => w.ownsRow 0 ty 1 v xs.length xs, fun w h k hk => (h.lt k hk).2, fun S w w' h fr hs => fr.own h (fun k hk => hs k hk)⟩
def rowX (ty : TypeId) (v : Value) (xs : List Value) : Th → Prop := fun t => t = rowXTh ty v xs
theorem SV.pushX (h : SV w0 w q p n x sb first T V X) (ty : TypeId) {v : Value} {xs : List Value} (b : Below w.heap.size w w') (ow : w'.ownsRow 0 ty 1 v xs.length xs) (f : ∀ k, v.ownBlock = some k → w.heap.size ≤ k) : SV w0 w' q p n x sb first T V (X ++ [rowX ty v xs]) := by
  obtain ⟨W, B, ⟨st, E, r⟩, r2⟩ := h
  exact ⟨W, B, ⟨st, E.push (rowXTh ty v xs) (rowX ty v xs) rfl b ow f, r⟩, r2⟩
theorem SV.pushI (h : SV w0 w q p n x sb first T V X) {v : Value} {l : List Int} (b : Below w.heap.size w w') (ow : w'.ownsRow 0 3 1 v l.length (iv l)) (f : ∀ k, v.ownBlock = some k → w.heap.size ≤ k) : SV w0 w' q p n x sb first T V (X ++ [rowI v l]) := by
  obtain ⟨W, B, h1, r⟩ := h; exact ⟨W, B, h1.pushI b ow f, r⟩
theorem SV.getX (h : SV w0 w q p n x sb first T V X) (i : Nat) {ty : TypeId} {v : Value} {xs : List Value} (hi : X[i]? = some (rowX ty v xs)) : w.ownsRow 0 ty 1 v xs.length xs := by
  obtain ⟨W, B, ⟨st, E, r⟩, r2⟩ := h
  obtain ⟨t, rfl, ha, _⟩ := E.get (i + 4) (rowX ty v xs) (by simpa using hi)
  exact ha
theorem SV.setX (h : SV w0 w q p n x sb first T V X) (i : Nat) {ty : TypeId} {v v' : Value} {xs xs' : List Value} (hi : X[i]? = some (rowX ty v xs)) (o : w'.ownsRow 0 ty 1 v' xs'.length xs') (g : w.grownBy w' v.ownBlock) (nw : ∀ k, v'.ownBlock = some k → v.ownBlock = some k ∨ w.heap.size ≤ k) : SV w0 w' q p n x sb first T V (X.set i (rowX ty v' xs')) := by
  obtain ⟨W, B, ⟨st, E, r⟩, r2⟩ := h
  obtain ⟨t, rfl, ha, _, hn⟩ := E.get (i + 4) (rowX ty v xs) (by simpa using hi)
  have E2 := hn w' (rowXTh ty v' xs') (rowX ty v' xs') rfl (Fr.of_grown g (fun k hk => hk)) o nw
  exact ⟨W, B, ⟨st, E2, r⟩, r2⟩
theorem SV.getI (h : SV w0 w q p n x sb first T V X) (i : Nat) {v : Value} {zs : List Int} (hi : X[i]? = some (rowI v zs)) : w.ownsRow 0 3 1 v zs.length (iv zs) := h.su.row (List.mem_of_getElem? hi)
theorem SV.setI (h : SV w0 w q p n x sb first T V X) (i : Nat) {v v' : Value} {zs zs' : List Int} (hi : X[i]? = some (rowI v zs)) (o : w'.ownsRow 0 3 1 v' zs'.length (iv zs')) (g : w.grownBy w' v.ownBlock) (nw : ∀ k, v'.ownBlock = some k → v.ownBlock = some k ∨ w.heap.size ≤ k) : SV w0 w' q p n x sb first T V (X.set i (rowI v' zs')) := by
  obtain ⟨W, B, ⟨st, E, r⟩, r2⟩ := h
  exact ⟨W, B, ⟨st, E.appI (v := v) (l := zs) (v' := v') (l' := zs') (i + 4) (by simpa using hi) o g nw, r⟩, r2⟩
/-- where a row of ints lies, and its cells -/
theorem SV.cellI (h : SV w0 w q p n x sb first T V X) (i : Nat) {g m c : Nat} {zs : List Int} (hi : X[i]? = some (rowI (.slice (some ⟨g, 0, none⟩) m c) zs)) (hz : zs.length = m) (j : Nat) (hj : j < m) : w.cell? ⟨g, j, none⟩ = some (.int .i64 (zs.getD j 0)) ∧ w.frozen? ⟨g, j, none⟩ = false := by
  refine ⟨?_, ?_⟩
  · obtain ⟨b, off, e, _, h2⟩ := h.su.rowC (List.mem_of_getElem? hi) hz j hj
    cases e
    rw [Nat.zero_add] at h2
    exact h2
  · rcases (h.getI i hi).2 with ⟨e, _⟩ | ⟨g', c', cur', e, _, h3, _⟩
    · cases e
    · injection e with e1 e2 e3
      injection e1 with e1
      injection e1 with e1
      subst e1
      exact frozen_of_row _ _ _ _ _ h3
end
theorem own_set1 {w : World} {g c m : Nat} {zs : List Int} (h : w.ownsRow 0 3 1 (.slice (some ⟨g, 0, none⟩) m c) zs.length (iv zs)) (j : Nat) (hj : j < zs.length) (z : Int) : (w.setCell ⟨g, j, none⟩ (.int .i64 z)).ownsRow 0 3 1 (.slice (some ⟨g, 0, none⟩) m c) (zs.set j z).length (iv (zs.set j z)) := by
  rw [List.length_set]
  refine ⟨by simp [iv], ?_⟩
  rcases h.2 with ⟨e, _⟩ | ⟨g', cap', cur, e, h2, h3, h4, h5, h6, h7⟩
  · cases e
  · injection e with e1 e2 e3
    injection e1 with e1
    injection e1 with e1
    subst e1 e3
    refine Or.inr ⟨g, c, _, by rw [← e2], h2, heap_setCell_same _ _ _ _ _ _ h3, h4, h5, by rw [Array.size_setIfInBounds]; exact h6, ?_⟩
    have hs : (iv (zs.set j z)) = (iv zs).set j (.int .i64 z) := by unfold iv; rw [List.map_set]
    rw [hs, Array.toList_setIfInBounds, ← h7, List.take_set]
theorem grown_set (w : World) (g j : Nat) (u : Value) : w.grownBy (w.setCell ⟨g, j, none⟩ u) (some g) := ⟨rfl, rfl, rfl, by simp, fun k _ hk => heap_setCell_other _ _ _ _ (fun e => hk (by rw [e]))⟩
/-- one byte more -/
theorem app_u8 {ops : Array Oper} {rest : List Oper} {o : Oper} {a : Act} {Q : Exit → Act → World → Prop} {w wa : World} {v : Value} {xs : List Value} {g m : Nat} {z : Int} (hm : m = xs.length)
    (hw : wa = w.alloc (.cells #[.int .u8 z] 5)) (hg : g = w.heap.size) (hown : w.ownsRow 0 5 1 v xs.length xs) (hn : xs.length < 9000000000000)
    (hgd : o.guard = none) (s x : Operand) (ho : o.op = .call { callee := .builtin .append, args := #[s, x], argTypes := #[40, 40] })
    (hs : a.eval s = v) (hx : a.eval x = .slice (some ⟨g, 0, none⟩) 1 1)
    (h : ∀ y cap w', m + 1 ≤ cap → w'.ownsRow 0 5 1 (.slice (some ⟨y, 0, none⟩) (m + 1) cap) (m + 1) (xs ++ [.int .u8 z]) → w.grownBy w' v.ownBlock → (v.ownBlock = some y ∨ w.heap.size ≤ y) → wpList Tryz.prog ops Q rest (a.put o.dst (.slice (some ⟨y, 0, none⟩) (m + 1) cap)) w') : wpList Tryz.prog ops Q (o :: rest) a wa := by
  subst hw hg hm
  obtain ⟨i0, hi0, hz0, hz1, hz2⟩ := info5
  have hm : maxLen = 9223372036854775807 := rfl
  refine wp_append_at Tryz.underlying40 hi0 hz0 hz1 hz2 rfl (by omega) 0 (hown.alloc _) (news := [.int .u8 z]) rfl
    (World.news_of_block (cs := #[.int .u8 z]) (t := 5) (fr := (0, 0)) (heap_alloc_new w _)) (by simp [Value.oneCell']) (by rw [hm]; omega) (by omega) (Nat.zero_le _) hgd s x ho hs hx ?_
  intro v' w' q1 q2 _ q4
  rcases q1.2 with ⟨_, h0⟩ | ⟨y, cap, cur, rfl, _, _, hle, _⟩
  · simp at h0
  · exact h y cap w' hle q1 ((World.grownBy_alloc _ _ _).trans q2) ((q4 y rfl).imp id (fun e => by simp at e; omega))
end Go.Proofs.YtghdgddpdamhcaaGreat

/- SpaceApart: the numbers, the bits, the other blocks. -/
namespace Go.Proofs.YtghdgddpdamhcaaGreat
set_option linter.unusedVariables false
set_option linter.unusedSimpArgs false
open Go.RowKit Go.Maps
/-- N numbers from a on -/
def sgI (a N : Nat) : List Int := ni (List.range' a N)
theorem sgI_len (a N : Nat) : (sgI a N).length = N := by unfold sgI; rw [ni_len, List.length_range']
theorem sgI_get {a N j : Nat} (hj : j < N) : (sgI a N).getD j 0 = ((a + j : Nat) : Int) := by
  unfold sgI ni
  rw [List.getD_eq_getElem?_getD, List.getElem?_map, List.getElem?_range' hj]
  simp
theorem seg_range {a m s N : Nat} (h : s + N ≤ m) : ((List.range' a m).drop s).take N = List.range' (a + s) N := by
  apply List.ext_getElem?
  intro j
  by_cases hj : j < N
  · rw [List.getElem?_take_of_lt hj, List.getElem?_drop, List.getElem?_range' (by omega), List.getElem?_range' hj]; simp; omega
  · rw [List.getElem?_eq_none (by simp; omega), List.getElem?_eq_none (by simp; omega)]
theorem range_rise (a N : Nat) : (List.range' a N).Pairwise (· < ·) := List.pairwise_lt_range'
section
variable {w0 w w' : World} {q p x sb : Nat} {X : List (Th → Prop)} {T : ByteArray} {V : Nat → ByteArray}
theorem SV.nextT (s N : Nat) (h : SV w0 w q p 100 x sb 1 (tk 2 76 s) V X) (h1 : 1 ≤ N) (hN : s + N ≤ 74) : Calls Tryz.prog 13 #[pt sb, .int .i64 (N : Int)] w fun e w' => ∃ g c, N ≤ c ∧ e = .returned (.tuple #[.slice (some ⟨g, 0, none⟩) N c, .int .i64 0]) ∧ SV w0 w' q p 100 x sb 1 (tk 2 76 (s + N)) V (rowI (.slice (some ⟨g, 0, none⟩) N c) (sgI (2 + s) N) :: X) := by
  have hl : (frees (tk 2 76 s) (1 + 1) (100 - 24)).length = 76 - 2 - s := tk_left (by omega) s
  have hf : (frees (tk 2 76 s) (1 + 1) (100 - 24)).take N = List.range' (2 + s) N := by
    have e : frees (tk 2 76 s) (1 + 1) (100 - 24) = (frees (fl 0) 2 76).drop s := tk_frees (by omega) s
    rw [e, frees_range (by omega), seg_range (by omega)]
  have hm : flipA (tk 2 76 s) ((frees (tk 2 76 s) (1 + 1) (100 - 24)).take N) = tk 2 76 (s + N) := tk_more (by omega) s N
  refine (h.take N h1 (by omega)).mono ?_
  rintro e w' ⟨g, c, hc, rfl, h2⟩
  rw [hm, hf] at h2
  exact ⟨g, c, hc, rfl, h2⟩
theorem tk_bits (s j : Nat) (hs : s ≤ 74) : bt (tk 2 76 s) j = decide (2 ≤ j ∧ j < 2 + s) := by
  rw [tk_bit (by omega), frees_range (by omega)]
  have e := seg_range (a := 2) (m := 76 - 2) (s := 0) (N := s) (by omega)
  rw [List.drop_zero] at e
  rw [e]
  have e2 : (j ∈ List.range' (2 + 0) s) = (2 ≤ j ∧ j < 2 + s) := propext (by rw [List.mem_range'_1])
  simp only [e2]
theorem SV.usedT {s y : Nat} (h : SV w0 w q p 100 x sb 1 (tk 2 76 s) V X) (h1 : 2 ≤ y) (h2 : y < 2 + s) (hs : s ≤ 74) : Calls Tryz.prog 14 #[pt sb, .int .i64 (y : Int)] w fun e w' => e = .returned (.bool true) ∧ SV w0 w' q p 100 x sb 1 (tk 2 76 s) V X := by
  have hu : usd (100 - 24) 1 (tk 2 76 s) (y : Int) = true := usd_true (by omega) (by rw [tk_bits _ _ hs]; exact decide_eq_true ⟨h1, h2⟩)
  have := h.used (y : Int)
  rw [hu] at this
  exact this
/-- which bits are set -/
def Bs (T : ByteArray) (lo hi : Nat) : Prop := T.size = 512 ∧ ∀ j, bt T j = decide (lo ≤ j ∧ j < hi)
theorem bs_tk (s : Nat) (hs : s ≤ 74) : Bs (tk 2 76 s) 2 (2 + s) := ⟨by unfold tk; rw [flipA_size]; exact fl0sz, fun j => tk_bits s j hs⟩
theorem SV.giveT {lo hi N g c : Nat} (h : SV w0 w q p 100 x sb 1 T V X) (hb : Bs T lo hi) (h2 : 2 ≤ lo) (hN : 1 ≤ N) (hh : lo + N ≤ hi) (h76 : hi ≤ 76) (i : Nat) (hi' : X[i]? = some (rowI (.slice (some ⟨g, 0, none⟩) N c) (sgI lo N))) :
    Calls Tryz.prog 15 #[pt sb, .slice (some ⟨g, 0, none⟩) N c] w fun e w' => e = .returned (.int .i64 0) ∧ ∃ T', Bs T' (lo + N) hi ∧ SV w0 w' q p 100 x sb 1 T' V X := by
  have hl : (List.range' lo N).length = N := List.length_range'
  have hin : ∀ k ∈ List.range' lo N, lo ≤ k ∧ k < lo + N := fun k hk => List.mem_range'_1.1 hk
  have hv := h.give (some ⟨g, 0, none⟩) c (List.range' lo N) (by omega) (range_rise _ _) (fun k hk => by have := hin k hk; omega) (fun k hk => by rw [hb.2]; have := hin k hk; exact decide_eq_true ⟨by omega, by omega⟩) (by omega)
    (fun w1 h1 j hj => h1.rowC (List.mem_of_getElem? hi') (sgI_len lo N) j (by omega))
  rw [hl] at hv
  refine hv.mono ?_
  rintro e w' ⟨rfl, h3⟩
  refine ⟨rfl, _, ⟨by rw [flipA_size]; exact hb.1, fun j => ?_⟩, h3⟩
  rw [bt_flipA ((range_rise lo N).imp (fun h => by omega)) (fun k hk => by rw [hb.1]; have := hin k hk; omega), hb.2]
  by_cases hj : j ∈ List.range' lo N
  · have := hin j hj
    rw [decide_eq_true hj, decide_eq_true (show lo ≤ j ∧ j < hi by omega), decide_eq_false (show ¬ (lo + N ≤ j ∧ j < hi) by omega)]; rfl
  · have hnj : ¬ (lo ≤ j ∧ j < lo + N) := fun q => hj (List.mem_range'_1.2 q)
    rw [decide_eq_false hj]
    by_cases h9 : lo ≤ j ∧ j < hi
    · rw [decide_eq_true h9, decide_eq_true (show lo + N ≤ j ∧ j < hi by omega)]; rfl
    · rw [decide_eq_false h9, decide_eq_false (show ¬ (lo + N ≤ j ∧ j < hi) by omega)]; rfl
theorem SV.leftT {lo : Nat} (h : SV w0 w q p 100 x sb 1 T V X) (hb : Bs T lo lo) : Calls Tryz.prog 12 #[pt sb] w fun e w' => e = .returned (.int .i64 74) ∧ SV w0 w' q p 100 x sb 1 T V X := by
  have := h.left
  rw [frees_zero (fun k => by rw [hb.2]; exact decide_eq_false (by omega))] at this
  exact this
end
/-- the first m are marked -/
def mkI (z : Int) (zs : List Int) (m : Nat) : List Int := List.replicate m z ++ zs.drop m
theorem mkI_len (z : Int) (zs : List Int) (m : Nat) (h : m ≤ zs.length) : (mkI z zs m).length = zs.length := by simp [mkI]; omega
theorem mkI_zero (z : Int) (zs : List Int) : mkI z zs 0 = zs := by simp [mkI]
theorem mkI_all (z : Int) (zs : List Int) : mkI z zs zs.length = List.replicate zs.length z := by simp [mkI]
theorem mkI_set (z : Int) (zs : List Int) (m : Nat) (h : m < zs.length) : (mkI z zs m).set m z = mkI z zs (m + 1) := by
  unfold mkI
  rw [List.set_append_right _ _ (by simp), List.length_replicate, Nat.sub_self, List.drop_eq_getElem_cons h, List.set_cons_zero, List.replicate_succ', List.append_assoc]
  rfl
/-- marked and grown -/
def grI (z y : Int) (A i : Nat) : List Int := List.replicate A z ++ List.replicate i y
theorem grI_len (z y : Int) (A i : Nat) : (grI z y A i).length = A + i := by simp [grI]
theorem grI_snoc (z y : Int) (A i : Nat) : grI z y A i ++ [y] = grI z y A (i + 1) := by simp [grI, List.replicate_succ']
theorem grI_lo (z y : Int) (A i j : Nat) (h : j < A) : (grI z y A i).getD j 0 = z := by unfold grI; rw [List.getD_eq_getElem?_getD, List.getElem?_append_left (by simpa using h), List.getElem?_replicate, if_pos h]; rfl
theorem grI_hi (z y : Int) (A i : Nat) (h : 0 < i) : (grI z y A i).getD A 0 = y := by unfold grI; rw [List.getD_eq_getElem?_getD, List.getElem?_append_right (by simp), List.length_replicate, Nat.sub_self, List.getElem?_replicate, if_pos h]; rfl
/-- the other blocks, the first k of nine written -/
def Vf (V0 : Nat → ByteArray) (full : ByteArray) (k : Nat) : Nat → ByteArray := fun i => if i ≠ 1 ∧ i < k ∧ i < 9 then full else V0 i
theorem vf_step (V0 : Nat → ByteArray) (full : ByteArray) (k : Nat) (h1 : k ≠ 1) (h9 : k < 9) : (fun i => if i = k then full else Vf V0 full k i) = Vf V0 full (k + 1) := by
  funext i
  unfold Vf
  by_cases e : i = k
  · subst e; rw [if_pos rfl, if_pos ⟨h1, by omega, h9⟩]
  · rw [if_neg e]
    by_cases h : i ≠ 1 ∧ i < k ∧ i < 9
    · rw [if_pos h, if_pos ⟨h.1, by omega, h.2.2⟩]
    · rw [if_neg h, if_neg (fun q => h ⟨q.1, by omega, q.2.2⟩)]
theorem vf_same (V0 : Nat → ByteArray) (full : ByteArray) (k : Nat) (h : k = 1 ∨ 9 ≤ k) : Vf V0 full k = Vf V0 full (k + 1) := by
  funext i
  unfold Vf
  by_cases h2 : i ≠ 1 ∧ i < k ∧ i < 9
  · rw [if_pos h2, if_pos ⟨h2.1, by omega, h2.2.2⟩]
  · rw [if_neg h2, if_neg (fun q => h2 ⟨q.1, by omega, q.2.2⟩)]
theorem vf_at (V0 : Nat → ByteArray) (full : ByteArray) (i : Nat) (h1 : i ≠ 1) (h9 : i < 9) : Vf V0 full 76 i = full := by unfold Vf; rw [if_pos ⟨h1, by omega, h9⟩]
theorem vf_zero (V0 : Nat → ByteArray) (full : ByteArray) : Vf V0 full 0 = V0 := by funext i; unfold Vf; rw [if_neg (by omega)]
/-- so many bytes -/
def nb (z : UInt8) (i : Nat) : List UInt8 := List.replicate i z
theorem nb_snoc (z : UInt8) (i : Nat) : vals (nb z i) ++ [.int .u8 (z.toNat : Int)] = vals (nb z (i + 1)) := by simp [nb, vals, List.replicate_succ']
theorem nb_len (z : UInt8) (i : Nat) : (vals (nb z i)).length = i := by simp [nb, vals]
end Go.Proofs.YtghdgddpdamhcaaGreat
