/- The records of a manifest. -/
import Derived.Test.YtbiponnchppndaaGreatDoorMIr
namespace Go.Proofs.YtbiponnchppndaaGreatDoor
set_option maxRecDepth 100000
set_option linter.unusedVariables false
set_option linter.unusedSimpArgs false
open Go.RowKit Go.Shelf
open Go.Proofs.YtbiponnchppndaaGreatDoorP (TB recd nn LEN key)
open Go.Proofs.YtbiponnchppndaaGreatDoorH (hv hexL hv_length)
attribute [local go_sem] Oper.semAt_some
attribute [local go_sem ↓] ldIe stIe
theorem mrecords_any (s n : Int) (v : Value) (hv : v.oneCell' = true) (w : World) :
    Calls Tryz.prog 34 #[.agg #[.int .i64 s, .int .i64 n, v]] w fun e w' => e = .returned (.func (.func 67) #[] #[.pointer (some ⟨w.heap.size, 0, none⟩)]) ∧ w' = w.alloc (.cells #[.int .i64 s, .int .i64 n, v] 28) := by
  go_enter Tryz.func34, Tryz.ntmps34
  go_wp2_with fail
  go_ret
  exact ⟨rfl, rfl⟩
/-- the items that a slice holds, each one's pairs at a known place -/
structure IIe (w : World) (a : Option Addr) (L : List It) (E : Nat → Option Addr × Nat) : Prop where
  get : ∀ k x, L[k]? = some x → ∃ b off, a = some ⟨b, off, none⟩ ∧ b < w.heap.size ∧ w.rangeAt b (off + k * 37) (ic x (E k).1 (E k).2) ∧ Sl w (E k).1 (E k).2 x.l
theorem IIe.it {w : World} {a : Option Addr} {L : List It} {E : Nat → Option Addr × Nat} (h : IIe w a L E) : IIt w a L := ⟨fun k x hx => by
  obtain ⟨b, off, h1, h2, h3, h4⟩ := h.get k x hx
  exact ⟨b, off, _, _, h1, h2, h3, h4⟩⟩
theorem IIe.later {w w' : World} {a : Option Addr} {L : List It} {E : Nat → Option Addr × Nat} (h : IIe w a L E) {B : Nat} (hb : Below B w w') (hB : w.heap.size ≤ B) : IIe w' a L E := ⟨fun k x hx => by
  obtain ⟨b, off, h1, h2, h3, h4⟩ := h.get k x hx
  exact ⟨b, off, h1, Nat.lt_of_lt_of_le h2 hb.size, range_later h3 h2 (hb.mono hB), h4.later (hb.mono hB)⟩⟩
theorem IIt.ex {w : World} {a : Option Addr} {L : List It} (h : IIt w a L) : ∃ E, IIe w a L E := by
  classical
  have h2 : ∀ k, ∃ q : Option Addr × Nat, ∀ x, L[k]? = some x → ∃ b off, a = some ⟨b, off, none⟩ ∧ b < w.heap.size ∧ w.rangeAt b (off + k * 37) (ic x q.1 q.2) ∧ Sl w q.1 q.2 x.l := fun k => by
    cases hk : L[k]? with
    | none => exact ⟨(none, 0), fun x hx => by cases hx⟩
    | some x =>
      obtain ⟨b, off, ma, mc, e1, e2, e3, e4⟩ := h.get k x hk
      exact ⟨(ma, mc), fun y hy => by injection hy with hy; subst hy; exact ⟨b, off, e1, e2, e3, e4⟩⟩
  exact ⟨fun k => Classical.choose (h2 k), ⟨fun k x hx => Classical.choose_spec (h2 k) x hx⟩⟩
/-- the records ahead of an item's -/
def pre (m : Ma) (k : Nat) : List Kv := headR m ++ ((m.items.take k).map itemR).flatten
theorem pre_succ {m : Ma} {k : Nat} {x : It} (h : m.items[k]? = some x) : (pre m (k + 1)).length = (pre m k).length + (itemR x).length := by
  unfold pre
  rw [List.take_add_one, h]
  simp
  omega
theorem pre_rec {m : Ma} {k : Nat} {x : It} (h : m.items[k]? = some x) {j : Nat} {p : Kv} (hp : (itemR x)[j]? = some p) : (recs m)[(pre m k).length + j]? = some p := by
  have hj := (List.getElem?_eq_some_iff.1 hp).1
  obtain ⟨hk, he⟩ := List.getElem?_eq_some_iff.1 h
  have e : m.items = m.items.take k ++ x :: m.items.drop (k + 1) := by rw [← he, List.getElem_cons_drop]; simp
  have e2 : recs m = pre m k ++ (itemR x ++ (((m.items.drop (k + 1)).map itemR).flatten ++ [(sEnd, sMani)])) := by
    unfold recs pre
    conv => lhs; rw [e]
    simp
  rw [e2, List.getElem?_append_right (by omega), Nat.add_sub_cancel_left, List.getElem?_append_left hj]
  exact hp
theorem pre_all (m : Ma) : recs m = pre m m.items.length ++ [(sEnd, sMani)] := by unfold recs pre; rw [List.take_length]
abbrev mkd (D : Nat) : Deferred := { target := .collected D, args := #[] }
abbrev defd : Obj := .deferred (some [])
set_option maxRecDepth 100000 in
set_option maxHeartbeats 8000000 in
theorem recs_tells (m : Ma) (hm : RtM m) (g : Nat) (a : Option Addr) (cap : Nat) (E : Nat → Option Addr × Nat) :
    Tells Tryz.prog 67 #[.pointer (some ⟨g, 0, none⟩)] (recs m) (fun W => Bm3 W g m.since m.next (.slice a m.items.length cap) ∧ IIe W a m.items E ∧ TB W) := by
  intro mm l J W hJ hJb hY hJ0
  have HY := Hid.mk hY
  have HJ := Hid.mk hJ
  have HK := Hid.mk hJb
  clear hY hJ hJb
  obtain ⟨yl, hyl⟩ : ∃ o : Obj, o = .cells #[.func (.yield l) #[] #[]] 125 := ⟨_, rfl⟩
  obtain ⟨bm, hbm⟩ : ∃ o : Obj, o = .cells #[.int .i64 m.since, .int .i64 m.next, .slice a m.items.length cap] 28 := ⟨_, rfl⟩
  have P0 : Pv J [] 0 0 W nob := Pv.start HJ.out hJ0
  have P1 := P0.add HJ.out yl
  have P2 := P1.add HJ.out bm
  have c1 : (W.alloc yl).cell? ⟨g, 0, none⟩ = some (.int .i64 m.since) ∧ (W.alloc yl).cell? ⟨g, 1, none⟩ = some (.int .i64 m.next) ∧ (W.alloc yl).cell? ⟨g, 2, none⟩ = some (.slice a m.items.length cap) := (HK.out _ _ _ P1.j).1.cells
  obtain ⟨p0, p1, p2⟩ := c1
  rw [hyl] at p0 p1 p2 P1 P2
  refine callsIn_of_wp_marks Tryz.func67 rfl trivial ?_ rfl
  simp only [Tryz.ntmps67, List.size_toArray, List.length_cons, List.length_nil, Nat.reduceAdd, Nat.reduceSub, Array.replicate_succ, Array.replicate_zero, List.push_toArray, List.append_toArray, List.nil_append, List.cons_append]
  gi_wp2
  refine ⟨trivial, (fun h => (by cases h)), (callsIn_wide.2 (headRecords_any m.since m.next (.slice a m.items.length cap) rfl _)).mono ?_⟩
  rintro e W2 ⟨rfl, rfl⟩
  gi_wp2
  rw [hbm] at P2
  have HL : Hid (∀ x ∈ m.items, RtI m x) := ⟨hm.it⟩
  have hsz1 : (W.alloc (.cells #[.func (.yield l) #[] #[]] 125)).heap.size = W.heap.size + 1 := by simp
  rw [hsz1] at P2
  have hrc : Hid (recs m = headR m ++ (m.items.map itemR).flatten ++ [(sEnd, sMani)]) := ⟨rfl⟩
  refine wp_tells rfl (enters_of Tryz.func104 (by kernel_rfl) rfl) (head_tells m (W.heap.size + 1) a cap hm.c1 (Int.le_trans hm.c2 hm.n2) (by have := hm.n1; omega) hm.n2 hm.len) rfl
    (Pv J [(W.heap.size + 1, .cells #[.int .i64 m.since, .int .i64 m.next, .slice a m.items.length cap] 28), (W.heap.size, .cells #[.func (.yield l) #[] #[]] 125)] 0) (Pv.abid HJ.out _ _) (fun k W1 X1 h => ⟨h.at' _ _ (by simp), (HK.out _ _ _ h.j).2.2⟩) P2
    (fun p => { tmps := #[.func (.yield l) #[] #[], .pointer (some ⟨g, 0, none⟩), .pointer (some ⟨W.heap.size, 0, none⟩), str p.1, str p.2, undef, undef, undef, undef, .agg #[.int .i64 m.since, .int .i64 m.next, .slice a m.items.length cap], .func (.func 104) #[] #[.pointer (some ⟨W.heap.size + 1, 0, none⟩)], str p.1, str p.2, undef, undef, undef, undef, undef, undef, undef, undef, undef, undef, undef, undef, undef, undef, undef, undef, undef, undef, undef, undef, undef, undef, undef, undef], defers := [] }) ?assign ?body ?done
  case assign =>
    intro l1 p W3 K3 hK3
    gi_wp2
    exact hK3
  case body =>
    rintro l1 k p W3 X hp hP
    have h0 := hP.at' W.heap.size (.cells #[.func (.yield l) #[] #[]] 125) (by simp)
    have hc : W3.cell? ⟨W.heap.size, 0, none⟩ = some (.func (.yield l) #[] #[]) := by rw [cell_of_row _ _ 0 _ _ _ h0]; rfl
    have hR2 : (recs m)[0 + k]? = some p := by rw [hrc.out, List.append_assoc, List.getElem?_append_left (by have := (List.getElem?_eq_some_iff.1 hp).1; omega), Nat.zero_add]; exact hp
    obtain ⟨fn, t, as1, bo, hy, hR⟩ := HY.out (0 + k) p W3 _ hR2 hP.j (mm - 1)
    gi_wp2
    refine ⟨(fun h => (by cases h)), RoundIn.mono (F := Fence.wide.inRound l1) hR ?_⟩
    rintro e W4 ⟨rfl, hj4, hs4⟩
    gi_wp2
    exact hP.round hj4 hs4
  case done =>
    intro W5 hP5 hD5
    have hP6 := hP5.done HJ.out hD5
    clear hP5 P0 P1 P2 p0 p1 p2
    obtain ⟨p0, p1, p2⟩ := (HK.out _ _ _ hP6.j).1.cells
    gi_wp2
    have HS : Hid (∃ (L : List (Nat × Obj)) (Ds : List Nat), Pv J L (pre m 0).length 0 W5 nob ∧ (W.heap.size, .cells #[.func (.yield l) #[] #[]] 125) ∈ L ∧ (∀ D ∈ Ds, (D, defd) ∈ L) ∧ Ds.Nodup ∧ Ds.map mkd = [mkd ((W.alloc (.cells #[.func (.yield l) #[] #[]] 125)).alloc (.cells #[.int .i64 m.since, .int .i64 m.next, .slice a m.items.length cap] 28)).heap.size]) := ⟨_, [_], by
      have e0 : (pre m 0).length = 0 + (headR m).length := by simp [pre]
      rw [e0]; exact hP6, by simp, by simp, by simp, rfl⟩
    clear hP6 hD5 p0 p1 p2
    obtain ⟨L0, Ds0, q1, q2, q3, q4, q5⟩ := HS.out
    rw [show [({ target := Target.collected ((W.alloc (.cells #[.func (.yield l) #[] #[]] 125)).alloc (.cells #[.int .i64 m.since, .int .i64 m.next, .slice a m.items.length cap] 28)).heap.size, args := #[] } : Deferred)] = Ds0.map mkd from q5.symm]
    clear q5 HS
    refine wpIn_loop (fun a' W' => ∃ (k : Nat) (L : List (Nat × Obj)) (Ds : List Nat) (y6 y22 y23 y24 y25 y26 y34 : Value), k ≤ m.items.length ∧ a' = { tmps := #[.func (.yield l) #[] #[], .pointer (some ⟨g, 0, none⟩), .pointer (some ⟨W.heap.size, 0, none⟩), undef, undef, undef, y6, undef, undef, .agg #[.int .i64 m.since, .int .i64 m.next, .slice a m.items.length cap], .func (.func 104) #[] #[.pointer (some ⟨W.heap.size + 1, 0, none⟩)], undef, undef, undef, undef, undef, undef, undef, .pointer (some ⟨g, 2, none⟩), .slice a m.items.length cap, .int .i64 (m.items.length : Int), .int .i64 (k : Int), y22, y23, y24, y25, y26, undef, undef, undef, undef, undef, undef, undef, y34, undef, undef], defers := Ds.map mkd } ∧ Hid (Pv J L (pre m k).length 0 W' nob ∧ (W.heap.size, .cells #[.func (.yield l) #[] #[]] 125) ∈ L ∧ (∀ D ∈ Ds, (D, defd) ∈ L) ∧ Ds.Nodup)) (fun a' _ => m.items.length - (intOf (a'.tmps.getD 21 undef)).toNat) ⟨0, L0, Ds0, _, _, _, _, _, _, _, Nat.zero_le _, rfl, ⟨q1, q2, q3, q4⟩⟩ ?_
    rintro a' W6 ⟨k, L, Ds, y6, y22, y23, y24, y25, y26, y34, hk, rfl, HS⟩
    clear q1 q2 q3 q4 L0 Ds0
    obtain ⟨hP, hy0, hD0, hnd⟩ := HS.out
    have hlen := hm.len
    by_cases hlt : k < m.items.length
    · have d1 : decide ((k : Int) < (m.items.length : Int)) = true := decide_eq_true (by omega)
      have k2 : (k : Int) < (m.items.length : Int) := by omega
      have hw1 : wrap64 ((k : Int) + 1) = ((k + 1 : Nat) : Int) := by unfold wrap64; omega
      obtain ⟨x, hx⟩ : ∃ x, m.items[k]? = some x := ⟨m.items[k], List.getElem?_eq_getElem hlt⟩
      obtain ⟨b, off, hab, hbl, hr, hs⟩ := (HK.out _ _ _ hP.j).2.1.get k x hx
      subst hab
      have l1 := run_ldI hr
      have s1 := run_stI W6 x (E k).1 (E k).2
      have hPa := hP.add HJ.out (.cells (ic x (E k).1 (E k).2).toArray 53)
      have l2 := run_ldI (Bi.range (Bi.new W6 x (E k).1 (E k).2))
      have hPb := hPa.add HJ.out (.cells (ic x (E k).1 (E k).2).toArray 53)
      rw [World.size_alloc] at hPb
      have HX := Hid.mk hx
      have Hlen := Hid.mk hlen
      clear hx hr hs hP hPa hlen
      gi_wp2
      refine ⟨trivial, (fun h => (by cases h)), (callsIn_wide.2 (itemRecords_any x (E k).1 (E k).2 _)).mono ?_⟩
      rintro e W7 ⟨rfl, rfl⟩
      clear l1 l2 s1
      gi_wp2
      refine wp_tells rfl (enters_of Tryz.func106 (by kernel_rfl) rfl) (item_tells m x hm.n2 (HL.out x (List.mem_of_getElem? HX.out)) (W6.heap.size + 1) (E k).1 (E k).2) rfl
        (Pv J ((W6.heap.size + 1, .cells (ic x (E k).1 (E k).2).toArray 53) :: (W6.heap.size, .cells (ic x (E k).1 (E k).2).toArray 53) :: L) (pre m k).length) (Pv.abid HJ.out _ _) (fun k' W1 X1 h => by
          obtain ⟨h1, h2, h3⟩ := HK.out _ _ _ h.j
          obtain ⟨_, _, _, _, _, h4⟩ := h2.get k x HX.out
          exact ⟨h.at' _ _ (by simp), h4, h3⟩) hPb (fun p => { tmps := #[.func (.yield l) #[] #[], .pointer (some ⟨g, 0, none⟩), .pointer (some ⟨W.heap.size, 0, none⟩), undef, undef, undef, .pointer (some ⟨W6.heap.size, 0, none⟩), str p.1, str p.2, .agg #[.int .i64 m.since, .int .i64 m.next, .slice (some ⟨b, off, none⟩) m.items.length cap], .func (.func 104) #[] #[.pointer (some ⟨W.heap.size + 1, 0, none⟩)], undef, undef, undef, undef, undef, undef, undef, .pointer (some ⟨g, 2, none⟩), .slice (some ⟨b, off, none⟩) m.items.length cap, .int .i64 (m.items.length : Int), .int .i64 (k : Int), .bool true, .pointer (some ⟨b, off + k * 37, none⟩), .agg (ic x (E k).1 (E k).2).toArray, .agg (ic x (E k).1 (E k).2).toArray, .func (.func 106) #[] #[.pointer (some ⟨W6.heap.size + 1, 0, none⟩)], str p.1, str p.2, undef, undef, undef, undef, undef, y34, undef, undef], defers := [] }) ?assign ?body ?done
      case assign =>
        intro l1 p W3 K3 hK3
        gi_wp2
        exact hK3
      case body =>
        rintro l1 j p W3 X hp hP
        have h0 := hP.at' W.heap.size (.cells #[.func (.yield l) #[] #[]] 125) (List.mem_cons_of_mem _ (List.mem_cons_of_mem _ hy0))
        have hc : W3.cell? ⟨W.heap.size, 0, none⟩ = some (.func (.yield l) #[] #[]) := by rw [cell_of_row _ _ 0 _ _ _ h0]; rfl
        obtain ⟨fn, t, as1, bo, hy, hR⟩ := HY.out _ p W3 _ (pre_rec HX.out hp) hP.j (mm - 1)
        gi_wp2
        refine ⟨(fun h => (by cases h)), RoundIn.mono (F := Fence.wide.inRound l1) hR ?_⟩
        rintro e W4 ⟨rfl, hj4, hs4⟩
        gi_wp2
        exact hP.round hj4 hs4
      case done =>
        intro W8 hP8 hD8
        have hP9 := hP8.done HJ.out hD8
        obtain ⟨D, hDe⟩ : ∃ D, D = ((W6.alloc (.cells (ic x (E k).1 (E k).2).toArray 53)).alloc (.cells (ic x (E k).1 (E k).2).toArray 53)).heap.size := ⟨_, rfl⟩
        rw [← hDe] at hP9 ⊢
        have hD2 : D = W6.heap.size + 2 := by rw [hDe]; simp
        have HS9 : Hid (Pv J ((D, defd) :: (W6.heap.size + 1, .cells (ic x (E k).1 (E k).2).toArray 53) :: (W6.heap.size, .cells (ic x (E k).1 (E k).2).toArray 53) :: L) (pre m (k + 1)).length 0 W8 nob ∧ (W.heap.size, .cells #[.func (.yield l) #[] #[]] 125) ∈ ((D, defd) :: (W6.heap.size + 1, .cells (ic x (E k).1 (E k).2).toArray 53) :: (W6.heap.size, .cells (ic x (E k).1 (E k).2).toArray 53) :: L) ∧ (∀ C ∈ D :: Ds, (C, defd) ∈ ((D, defd) :: (W6.heap.size + 1, .cells (ic x (E k).1 (E k).2).toArray 53) :: (W6.heap.size, .cells (ic x (E k).1 (E k).2).toArray 53) :: L)) ∧ (D :: Ds).Nodup) := ⟨by rw [pre_succ HX.out]; exact hP9, List.mem_cons_of_mem _ (List.mem_cons_of_mem _ (List.mem_cons_of_mem _ hy0)), fun C hC => by
          rcases List.mem_cons.1 hC with q | q
          · rw [q]; exact List.mem_cons_self
          · exact List.mem_cons_of_mem _ (List.mem_cons_of_mem _ (List.mem_cons_of_mem _ (hD0 C q))), List.nodup_cons.2 ⟨fun q => by
          have h1 := (Array.getElem?_eq_some_iff.1 (HS.out.1.at' _ _ (hD0 D q))).1
          omega, hnd⟩⟩
        clear hP8 hPb hP9 hDe hD8
        gi_wp2
        refine ⟨⟨k + 1, _, D :: Ds, _, _, _, _, _, _, _, hlt, by rw [hw1]; rfl, HS9⟩, ?_⟩
        show m.items.length - (intOf (.int .i64 (wrap64 ((k : Int) + 1)))).toNat < m.items.length - (intOf (.int .i64 (k : Int))).toNat
        rw [hw1]
        simp only [intOf, Int.toNat_natCast]
        omega
    · obtain rfl : k = m.items.length := by omega
      have d1 : decide ((m.items.length : Int) < (m.items.length : Int)) = false := decide_eq_false (by omega)
      have h0 := hP.at' W.heap.size (.cells #[.func (.yield l) #[] #[]] 125) hy0
      have hc : W6.cell? ⟨W.heap.size, 0, none⟩ = some (.func (.yield l) #[] #[]) := by rw [cell_of_row _ _ 0 _ _ _ h0]; rfl
      have hR2 : (recs m)[(pre m m.items.length).length + 0]? = some (sEnd, sMani) := by rw [pre_all]; simp
      have Y : YieldAt Fence.wide (mm - 1) Tryz.prog l #[.string ⟨#[101, 110, 100]⟩, .string ⟨#[109, 97, 110, 105, 102, 101, 115, 116]⟩] W6 _ := HY.out _ (sEnd, sMani) W6 _ hR2 hP.j (mm - 1)
      obtain ⟨fn, t, as1, bo, hy, hR⟩ := Y
      gi_wp2
      refine ⟨(fun h => (by cases h)), hR.mono ?_⟩
      rintro e W7 ⟨rfl, hj7, hs7⟩
      gi_wp2
      have hA : ∀ D ∈ Ds, W7.heap[D]? = some defd := fun D hD => by
        have h1 := hP.at' D _ (hD0 D hD)
        rw [hs7 D (.inr ⟨_, hD0 D hD⟩) (Array.getElem?_eq_some_iff.1 h1).1]
        exact h1
      have hj8 : J (recs m).length W7 (fun b => False ∨ ∃ o, (b, o) ∈ L) := by
        have e : (recs m).length = (pre m m.items.length).length + 0 + 1 := by rw [pre_all]; simp
        rw [e]; exact hj7
      exact leaves_marks (A := fun b => ∃ o, (b, o) ∈ L) (H := fun W => J (recs m).length W (fun b => False ∨ ∃ o, (b, o) ∈ L)) (fun W D hA hj => HJ.out _ _ _ _ _ hj (Oth.put W _ (.inr hA)) (fun b hb => .inl hb)) (fun W hj => ⟨_, results_none rfl _ _ _, ⟨_, rfl⟩, HJ.out.less hj (fun b hb => hb.elim)⟩) Ds W7 hnd (fun D hD => ⟨_, hD0 D hD⟩) hj8 hA
end Go.Proofs.YtbiponnchppndaaGreatDoor
