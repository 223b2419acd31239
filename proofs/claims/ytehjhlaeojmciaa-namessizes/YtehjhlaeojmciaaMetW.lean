/- NamesMetas: the walk. -/
import Derived.Test.YtehjhlaeojmciaaStp
import Derived.Laws.Concat
namespace Go.Proofs.Ytehjhlaeojmciaa
set_option linter.unusedVariables false
set_option linter.unusedSimpArgs false
open Go.RowKit
noncomputable def adS (v x : Value) : Sem Value := binOp BinOp.add 9 v x
theorem ad9 (v x : Value) : binOp BinOp.add 9 v x = adS v x := rfl
theorem run_ad (x y : List UInt8) (h : x.length + y.length ≤ 9223372036854775807) (w : World) : (adS (str x) (str y)).run Try.prog w = .ok (str (x ++ y)) w := by
  have hr := run_string_add_sum (P := Try.prog) w ⟨x.toArray⟩ ⟨y.toArray⟩ (by rw [str_size, str_size]; exact h)
  have e : (⟨x.toArray⟩ : ByteArray) ++ ⟨y.toArray⟩ = ⟨(x ++ y).toArray⟩ := by
    apply ByteArray.ext
    simp
  unfold adS
  rw [e] at hr
  simpa [binOp] using hr
attribute [local go_sem ↓] Go.wp_at_zero Go.wp_at_succ
attribute [local go_sem ↓] slPe ad9
/-- each of the first k changed -/
def bump (f : En → En) (l : List En) (k : Nat) : List En := (l.take k).map f ++ l.drop k
theorem bump_zero (f : En → En) (l : List En) : bump f l 0 = l := by simp [bump]
theorem bump_len (f : En → En) (l : List En) (k : Nat) : (bump f l k).length = l.length := by simp [bump]; omega
theorem bump_get {f : En → En} {l : List En} {k : Nat} {p : En} (h : l[k]? = some p) : (bump f l k)[k]? = some p := by
  have hk := (List.getElem?_eq_some_iff.1 h).1
  unfold bump
  rw [List.getElem?_append_right (by simp; omega), List.length_map, List.length_take, Nat.min_eq_left (by omega), Nat.sub_self, List.getElem?_drop]
  exact h
theorem bump_set {f : En → En} {l : List En} {k : Nat} {p : En} (h : l[k]? = some p) : (bump f l k).set k (f p) = bump f l (k + 1) := by
  obtain ⟨hk, hp⟩ := List.getElem?_eq_some_iff.1 h
  unfold bump
  rw [List.set_append_right _ _ (by simp; omega), List.length_map, List.length_take, Nat.min_eq_left (by omega), Nat.sub_self, List.drop_eq_getElem_cons hk, List.set_cons_zero, List.take_add_one, h, List.map_append, List.append_assoc]
  rfl
theorem bump_or {f : En → En} {l : List En} {k j : Nat} {e : En} (h : (bump f l k)[j]? = some e) : ∃ p, l[j]? = some p ∧ (e = p ∨ e = f p) := by
  have hj := (List.getElem?_eq_some_iff.1 h).1
  rw [bump_len] at hj
  unfold bump at h
  by_cases hjk : j < k
  · rw [List.getElem?_append_left (by simp; omega), List.getElem?_map, List.getElem?_take_of_lt hjk] at h
    cases hp : l[j]? with
    | none => rw [hp] at h; cases h
    | some p => rw [hp] at h; simp at h; exact ⟨p, rfl, .inr h.symm⟩
  · by_cases hk : k ≤ l.length
    · rw [List.getElem?_append_right (by simp; omega), List.length_map, List.length_take, Nat.min_eq_left hk, List.getElem?_drop, show k + (j - k) = j by omega] at h
      exact ⟨e, h, .inl rfl⟩
    · omega
theorem pcells_val (l : List En) (i : Nat) (p : En) (v : List UInt8) (hi : l[i]? = some p) : pcells (l.set i ⟨p.key, v⟩) = (pcells l).set (i * 2 + 1) (str v) := by
  have hlt := (List.getElem?_eq_some_iff.1 hi).1
  rw [pcells_set l i ⟨p.key, v⟩ hlt]
  congr 1
  obtain ⟨c0, _⟩ := pcells_get hi
  obtain ⟨h1, h2⟩ := List.getElem?_eq_some_iff.1 c0
  rw [← h2, List.set_getElem_self]
theorem pcells_key (l : List En) (i : Nat) (p : En) (v : List UInt8) (hi : l[i]? = some p) : pcells (l.set i ⟨v, p.val⟩) = (pcells l).set (i * 2) (str v) := by
  have hlt := (List.getElem?_eq_some_iff.1 hi).1
  rw [pcells_set l i ⟨v, p.val⟩ hlt, List.set_comm _ _ (by omega)]
  congr 1
  obtain ⟨_, c1⟩ := pcells_get hi
  obtain ⟨h1, h2⟩ := List.getElem?_eq_some_iff.1 c1
  rw [← h2, List.set_getElem_self]
theorem Ow.val {base : Nat} {w : World} {g cap n : Nat} {l : List En} (h : Ow base w (.slice (some ⟨g, 0, none⟩) n cap) l) (hn : l.length = n) {i : Nat} {p : En} (hi : l[i]? = some p) (v : List UInt8) : Ow base (w.setCell ⟨g, i * 2 + 1, none⟩ (str v)) (.slice (some ⟨g, 0, none⟩) n cap) (l.set i ⟨p.key, v⟩) := by
  subst hn
  have hlt := (List.getElem?_eq_some_iff.1 hi).1
  refine ⟨?_, by simpa using h.le⟩
  rw [pcells_val l i p v hi, List.length_set]
  exact own_cell h.own _ (by rw [pcells_length]; omega) _
theorem Ow.key {base : Nat} {w : World} {g cap n : Nat} {l : List En} (h : Ow base w (.slice (some ⟨g, 0, none⟩) n cap) l) (hn : l.length = n) {i : Nat} {p : En} (hi : l[i]? = some p) (v : List UInt8) : Ow base (w.setCell ⟨g, i * 2, none⟩ (str v)) (.slice (some ⟨g, 0, none⟩) n cap) (l.set i ⟨v, p.val⟩) := by
  subst hn
  have hlt := (List.getElem?_eq_some_iff.1 hi).1
  refine ⟨?_, by simpa using h.le⟩
  rw [pcells_key l i p v hi, List.length_set]
  exact own_cell h.own _ (by rw [pcells_length]; omega) _
theorem below_set {B : Nat} {w0 w : World} (h : Below B w0 w) {g j : Nat} (hg : B ≤ g) (v : Value) : Below B w0 (w.setCell ⟨g, j, none⟩ v) := h.setCell hg v
def forty : List UInt8 := [48, 49, 50, 51, 52, 53, 54, 55, 56, 57, 48, 49, 50, 51, 52, 53, 54, 55, 56, 57, 48, 49, 50, 51, 52, 53, 54, 55, 56, 57, 48, 49, 50, 51, 52, 53, 54, 55, 56, 57]
def addV (e : En) : En := ⟨e.key, e.val ++ forty⟩
set_option maxHeartbeats 4000000 in
theorem namesMetas_walk (l : List En) (a : Option Addr) (cap : Nat) (W : World) (hP : PIn W a l) (hz : ∀ (k : Nat) (e : En), l[k]? = some e → e.key.length ≤ 140737488351232 ∧ e.val.length ≤ 140737488351232) (hl : l.length ≤ 4398046510976) (hsl : l.length ≤ cap ∧ cap ≤ 9223372036854775807 ∧ (a = none → cap = 0)) :
    Calls Try.prog 7 #[.slice a l.length cap] W fun e W' => e = .returned (.bool true) ∧ Below W.heap.size W W' := by
  have hS : Sl W a cap l := ⟨hP, hsl.1, hsl.2.1, hsl.2.2⟩
  have HZ : Hid (∀ (k j : Nat) (e : En), (bump addV l k)[j]? = some e → e.key.length ≤ 9223372036854775806 ∧ e.val.length ≤ 9223372036854775806) := ⟨fun k j e h => by
    obtain ⟨p, hp, he⟩ := bump_or h
    have := hz j p hp
    rcases he with rfl | rfl
    · omega
    · show p.key.length ≤ _ ∧ (p.val ++ forty).length ≤ _
      rw [List.length_append]
      have : forty.length = 40 := rfl
      omega⟩
  have hr := fun w h => rMeta_any l w a l.length cap rfl h (fun k e he => ⟨by have := (hz k e he).1; omega, by have := (hz k e he).2; omega⟩) (by omega)
  have hm := fun w a2 c2 h => meta_any l w a2 l.length c2 rfl h (by omega)
  have hmB := fun k w a2 c2 h => meta_any (bump addV l k) w a2 l.length c2 (bump_len _ _ _) h (by rw [bump_len]; omega)
  have hrB := fun k w a2 c2 h => rMeta_any (bump addV l k) w a2 l.length c2 (bump_len _ _ _) h (HZ.out k) (by rw [bump_len]; omega)
  have hk := fun w ad c h1 h2 => kept_any l w ad a l.length c cap rfl h1 h2 hl
  generalize mtE l = M at *
  have HmB := Hid.mk hmB
  have HrB := Hid.mk hrB
  clear hmB hrB
  go_enter Try.func7, Try.ntmps7
  go_wp2_with (first
    | (go_at_call 9; refine (first_any _).mono ?_; rintro e w1 ⟨rfl, b1⟩)
    | (go_at_call 19; refine (lend_any l _ _ _ _ rfl (hS.later b1) hl).mono ?_; rintro e w2 ⟨ad, c, rfl, o2, b2⟩; have B2 := below_seq b1 b2)
    | (go_at_call 20; refine (hr _ (hP.later B2)).mono ?_; rintro e w3 ⟨rfl, b3⟩; have B3 := below_seq B2 b3))
  have s2 : Sl w2 ad c (l ++ [mk]) := by
    obtain ⟨a', c', e', s'⟩ := o2.sl
    rw [List.length_append, List.length_singleton] at e'
    injection e' with e1 e2 e3
    subst e1 e3
    exact s'
  obtain ⟨g, cp, ev, hgb, hgl, hfz⟩ := o2.form (by simp)
  injection ev with ev1 ev2 ev3
  subst ev1 ev3
  clear ev2 hr
  go_wp2_with fail
  with_reducible refine Calls.mono (hm w3 _ _ (s2.later b3).head.at') ?_
  rintro e w4 ⟨rfl, b4⟩
  dsimp only
  have b34 := below_seq b3 b4
  go_wp2_with fail
  with_reducible refine Calls.mono (hm w4 _ _ (s2.later b34).head.at') ?_
  rintro e w5 ⟨rfl, b5⟩
  dsimp only
  have b35 := below_seq b34 b5
  have B5 := B2.trans (b35.mono B2.size)
  have hk5 := hk w5 _ _ (s2.later b35) (hP.later B5)
  go_wp2_with fail
  with_reducible refine Calls.mono hk5 ?_
  rintro e w6 ⟨rfl, b6⟩
  dsimp only
  have b36 := below_seq b35 b6
  have B6 := B2.trans (b36.mono B2.size)
  have o6 := o2.later b36
  have hgw := B2.size
  have hgw1 := b1.size
  clear hm hk hk5 b3 b4 b5 b34 b35 b36 B5 s2 o2 b1 b2 b6 B3
  go_wp2_with fail
  go_loopw [7] (fun i wr => ∃ k : Nat, k ≤ l.length ∧ i = .int .i64 (k : Int) ∧ Hid (Ow W.heap.size wr (.slice (some ⟨g, 0, none⟩) (l.length + 1) c) (bump addV l k ++ [mk])) ∧ Below W.heap.size W wr) (fun i _ => l.length - (intOf i).toNat)
  case atStart => exact ⟨0, by omega, rfl, ⟨by rw [bump_zero]; exact o6.base hgw1⟩, B6⟩
  case round =>
    obtain ⟨k, hk, rfl, HO, hb⟩ := hrel
    by_cases hlt : k < l.length
    · have d1 : decide ((k : Int) < (l.length : Int)) = true := decide_eq_true (by omega)
      have k2 : (k : Int) < (l.length : Int) := by omega
      obtain ⟨p, hp⟩ : ∃ p, l[k]? = some p := ⟨l[k], List.getElem?_eq_getElem hlt⟩
      have hbl := bump_len addV l k
      have hbg : (bump addV l k ++ [mk])[k]? = some p := by rw [List.getElem?_append_left (by omega)]; exact bump_get hp
      have hset : (bump addV l k ++ [mk]).set k ⟨p.key, p.val ++ forty⟩ = bump addV l (k + 1) ++ [mk] := by
        rw [List.set_append_left _ _ (by omega)]
        congr 1
        exact bump_set (f := addV) hp
      have slOf : ∀ {w : World} {j : Nat}, Ow W.heap.size w (.slice (some ⟨g, 0, none⟩) (l.length + 1) c) (bump addV l j ++ [mk]) → Sl w (some ⟨g, 0, none⟩) c (bump addV l j ++ [mk]) := fun {w j} h => by
        obtain ⟨a', c', e', s'⟩ := h.sl
        injection e' with e1 e2 e3
        subst e1 e3
        exact s'
      have SO := Hid.mk @slOf
      have hz1 := (hz k p hp).2
      have rad : ∀ w, (adS (str p.val) (.string ⟨#[48, 49, 50, 51, 52, 53, 54, 55, 56, 57, 48, 49, 50, 51, 52, 53, 54, 55, 56, 57, 48, 49, 50, 51, 52, 53, 54, 55, 56, 57, 48, 49, 50, 51, 52, 53, 54, 55, 56, 57]⟩)).run Try.prog w = .ok (str (p.val ++ forty)) w := fun w => run_ad p.val forty (by show p.val.length + 40 ≤ _; omega) w
      have h7 := HmB.out k wr (some ⟨g, 0, none⟩) c (SO.out HO.out).head.at'
      have HBG := Hid.mk hbg
      have HSET := Hid.mk hset
      clear hbg hset slOf hp hbl
      generalize hV : p.val ++ forty = V at *
      go_wp2_with fail
      with_reducible refine Calls.mono h7 ?_
      rintro e w7 ⟨rfl, b7⟩
      dsimp only
      have o7 := HO.out.later b7
      have B7 := hb.trans (b7.mono hb.size)
      obtain ⟨b', off', e', hb', c0, c1⟩ := (SO.out o7).at'.get k p HBG.out
      injection e' with e'
      injection e' with e1 e2
      subst e1 e2
      rw [Nat.zero_add] at c0 c1
      have hfg : W.heap.size ≤ g ∧ ∀ j, w7.frozen? ⟨g, j, none⟩ = false := by
        obtain ⟨g', cp', ev', hg1, hg2, h⟩ := o7.form (by simp)
        injection ev' with ev1
        injection ev1 with ev1
        injection ev1 with ev1
        subst ev1
        exact ⟨hg1, h⟩
      obtain ⟨hg1, hfz7⟩ := hfg
      have o8 := o7.val (by simp [bump_len]) HBG.out V
      rw [HSET.out] at o8
      have B8 := B7.setCell (p := ⟨g, k * 2 + 1, none⟩) hg1 (str V)
      have s8 := SO.out o8
      have hf7 := hfz7 (k * 2 + 1)
      generalize hw8 : w7.setCell ⟨g, k * 2 + 1, none⟩ (str V) = w8 at *
      have hl1 := bump_len addV l (k + 1)
      have s9 := s8.head.later ((Below.refl w8.heap.size w8).alloc (Nat.le_refl _) (.cells #[] 27))
      clear h7 HO hb b7 o7
      go_wp2_with (refine app_sliceB rfl _ _ rfl (bump addV l (k + 1)) (Ow.empty (base := w8.heap.size) w8 (Nat.le_refl _)) s9 hl1 (by rw [hl1]; simp; omega) rfl rfl ?_; intro v10 w10 o10 b10)
      have B810 : Below w8.heap.size w8 w10 := ((Below.refl _ _).alloc (Nat.le_refl _) _).trans b10
      obtain ⟨a10, c10, rfl, s10⟩ : ∃ a cap, v10 = .slice a l.length cap ∧ Sl w10 a cap (bump addV l (k + 1)) := by
        have := o10.sl
        rw [List.nil_append, hl1] at this
        exact this
      have h11 := HmB.out (k + 1) w10 (some ⟨g, 0, none⟩) c (s8.later B810).head.at'
      have h12 := fun w h => HrB.out (k + 1) w a10 c10 h
      have o10' := o8.later B810
      have B10 := B8.trans (B810.mono B8.size)
      clear o10 o8 s8 s9 b10 B810 B8 B7 hw8 HZ
      generalize mtE (bump addV l (k + 1)) = M2 at *
      generalize mtE (bump addV l k) = M1 at *
      with_reducible refine Calls.mono h11 ?_
      rintro e w11 ⟨rfl, b11⟩
      dsimp only
      go_wp2_with fail
      with_reducible refine Calls.mono (h12 w11 (s10.later b11).at') ?_
      rintro e w12 ⟨rfl, b12⟩
      dsimp only
      have b1012 := below_seq b11 b12
      go_wp2_with fail
      exact ⟨⟨k + 1, by omega, by go_num, ⟨o10'.later b1012⟩, B10.trans (b1012.mono B10.size)⟩, by simp [intOf]; omega⟩
    · obtain rfl : k = l.length := by omega
      have d1 : decide ((l.length : Int) < (l.length : Int)) = false := decide_eq_false (by omega)
      go_wp2_with fail
      go_ret
      exact ⟨rfl, hb⟩
end Go.Proofs.Ytehjhlaeojmciaa
