/- NamesSizes: the walk. -/
import Derived.Test.YtehjhlaeojmciaaVerW
namespace Go.Proofs.Ytehjhlaeojmciaa
set_option linter.unusedVariables false
set_option linter.unusedSimpArgs false
open Go.RowKit
attribute [local go_sem ↓] Go.wp_at_zero Go.wp_at_succ
attribute [local go_sem ↓] slPe ad9
theorem i64L (n : Int) : IntKind.i64.wrap n = wrap64 n := by rw [IntKind.wrap_i64]; unfold wrap64; rfl
theorem wr1 (A n : Nat) : wrap64 ((A + n : Nat) : Int) = wrap64 (wrap64 (A : Int) + (n : Int)) := by
  unfold wrap64
  omega
theorem wr2 (A m n : Nat) : wrap64 ((A + (m + n) : Nat) : Int) = wrap64 (wrap64 (wrap64 (A : Int) + (m : Int)) + (n : Int)) := by
  rw [← Nat.add_assoc, wr1, wr1]
theorem vsz_eq {key data key2 data2 : List UInt8} {l l2 : List En} {n : Nat} (h : 32 + key2.length + data2.length + tt l2 = 32 + key.length + data.length + tt l + n) : vsz key2 data2 l2 = wrap64 ((32 + key.length + data.length + tt l + n : Nat) : Int) := congrArg (fun x : Nat => wrap64 (x : Int)) h
theorem sz_n {key data key2 data2 : List UInt8} {l l2 : List En} (n : Nat) (h : 32 + key2.length + data2.length + tt l2 = 32 + key.length + data.length + tt l + n) : IntKind.i64.wrap (vsz key data l + (n : Int)) = vsz key2 data2 l2 := by
  rw [i64L, vsz_eq h, wr1]
  rfl
theorem sz_2 {key data : List UInt8} {l l2 : List En} (m n : Nat) (h : tt l2 = tt l + (m + n)) : IntKind.i64.wrap (wrap64 (vsz key data l + (m : Int)) + (n : Int)) = vsz key data l2 := by
  rw [i64L, vsz_eq (key := key) (data := data) (l := l) (l2 := l2) (n := m + n) (by rw [h]; omega), wr2]
  rfl
theorem tt_le {l : List En} (h : ∀ p ∈ l, p.key.length ≤ 16 ∧ p.val.length ≤ 64) : tt l ≤ 80 * l.length := by
  induction l with
  | nil => simp [tt]
  | cons p l ih =>
    have h1 := h p (by simp)
    have h2 := ih (fun q hq => h q (by simp [hq]))
    unfold tt at h2 ⊢
    simp only [List.map_cons, List.sum_cons, List.length_cons]
    omega
theorem prb_len {p : En} (h : prb p = true) : p.key.length ≤ 16 ∧ p.val.length ≤ 64 := by
  unfold prb smN at h
  simp at h
  omega
theorem mtE_zeroS {l : List En} (h : mtE l = 0) : l.length ≤ 8 ∧ (∀ p ∈ l, prb p = true) ∧ Srt l := by
  unfold mtE at h
  by_cases q : l.length ≤ 8 ∧ (∀ p ∈ l, prb p = true) ∧ Srt l
  · exact q
  · rw [if_neg q] at h; cases h
theorem wr_small {A : Nat} (h : 33 ≤ A) (h2 : A ≤ 1728) : 33 ≤ wrap64 (A : Int) ∧ wrap64 (A : Int) ≤ 1728 := by
  unfold wrap64
  omega
theorem vsz_ok {key data : List UInt8} {mk : Bool} {l : List En} (h : vrE key mk data l = 0) : 33 ≤ vsz key data l ∧ vsz key data l ≤ 1728 := by
  unfold vrE at h
  by_cases h1 : ¬ keyE key = 0
  · rw [if_pos h1] at h; cases h
  · rw [if_neg h1] at h
    have h1' : keyE key = 0 := by
      apply Classical.byContradiction; exact h1
    by_cases h2 : (mk = true ∧ ¬ data = []) ∨ ¬ datE data = 0
    · rw [if_pos h2] at h; cases h
    · rw [if_neg h2] at h
      have h2' : datE data = 0 := by
        apply Classical.byContradiction; exact fun q => h2 (.inr q)
      have hm : mtE l = 0 := by
        by_cases h3 : mk = true ∧ 1 ≤ l.length
        · rw [if_pos h3] at h; cases h
        · rw [if_neg h3] at h; exact h
      obtain ⟨l8, lp, _⟩ := mtE_zeroS hm
      have ht := tt_le (fun p hp => prb_len (lp p hp))
      have hk : 1 ≤ key.length ∧ key.length ≤ 32 := by
        unfold keyE at h1'
        apply Classical.byContradiction
        intro q; rw [if_neg q] at h1'; cases h1'
      have hd : data.length ≤ 1024 := by
        unfold datE at h2'
        apply Classical.byContradiction
        intro q; rw [if_neg q] at h2'; cases h2'
      exact wr_small (by omega) (by omega)
set_option maxHeartbeats 4000000 in
theorem namesSizes_walk (key : List UInt8) (seq : Int) (mkr : Bool) (data : List UInt8) (a : Option Addr) (cap : Nat) (l : List En) (name value : List UInt8) (W : World) (hV : VIn W key data a cap l) (hnm : name.length ≤ 140737488351232) (hvl : value.length ≤ 140737488351232) :
    Calls Try.prog 5 #[vv key seq mkr data a l.length cap, str name, str value] W fun e W' => e = .returned (.bool true) ∧ Below W.heap.size W W' := by
  have hP := hV.p
  have hl := hV.l
  have hz := hV.z
  have hk0 := hV.k
  have hd0 := hV.d
  have hS : Sl W a cap l := ⟨hV.p, hV.s.1, hV.s.2.1, hV.s.2.2⟩
  have HS : Hid (∀ w, PIn w a l → Calls Try.prog 12 #[vv key seq mkr data a l.length cap] w fun e w' => e = .returned (.int .i64 (vsz key data l)) ∧ Below w.heap.size w w') := ⟨fun w h => size_any key seq mkr data l w a l.length cap rfl h (by omega)⟩
  have radk : ∀ w, (adS (str key) (.string ⟨#[107]⟩)).run Try.prog w = .ok (str (key ++ [107])) w := fun w => run_ad key [107] (by simp; omega) w
  have radd : ∀ w, (adS (.string ⟨#[100]⟩) (str data)).run Try.prog w = .ok (str (100 :: data)) w := fun w => run_ad [100] data (by simp; omega) w
  clear hV
  go_enter Try.func5, Try.ntmps5
  go_wp2_with fail
  have v0 := Bv.new W (str key) (.int .i64 seq) (.bool mkr) (str data) (.slice a l.length cap)
  have B0 : Below W.heap.size W (W.alloc (.cells #[str key, .int .i64 seq, .bool mkr, str data, .slice a l.length cap] 32)) := (Below.refl _ _).alloc (Nat.le_refl _) _
  refine (first_any _).mono ?_
  rintro e w1 ⟨rfl, b1⟩
  dsimp only
  have v1 := v0.later b1
  have B1 := B0.trans (b1.mono B0.size)
  obtain ⟨p0, p1, p2, p3, p4, _⟩ := v1.cells
  go_wp2_with fail
  with_reducible refine Calls.mono (HS.out w1 (hP.later B1)) ?_
  rintro e w2 ⟨rfl, b2⟩
  dsimp only
  have v2 := v1.later b2
  have B2 := B1.trans (b2.mono B1.size)
  clear v0 v1 B0 B1 b1 b2 p0 p1 p2 p3 p4
  obtain ⟨p0, p1, p2, p3, p4, _⟩ := v2.cells
  have hgv := v2.lt
  have HSv0 : Hid (vsz key data l = vsz key data l) := ⟨rfl⟩
  obtain ⟨S, HSv⟩ : ∃ S, Hid (vsz key data l = S) := ⟨_, ⟨rfl⟩⟩
  rw [HSv.out]
  clear HSv0
  have xA : Bv (w2.alloc (.cells #[str (key ++ [107]), .int .i64 seq, .bool mkr, str data, .slice a l.length cap] 32)) w2.heap.size (str (key ++ [107])) (.int .i64 seq) (.bool mkr) (str data) (.slice a l.length cap) := Bv.new _ _ _ _ _ _
  have xB : Bv ((w2.alloc (.cells #[str (key ++ [107]), .int .i64 seq, .bool mkr, str data, .slice a l.length cap] 32)).alloc (.cells #[str key, .int .i64 seq, .bool mkr, str (100 :: data), .slice a l.length cap] 32)) (w2.heap.size + 1) (str key) (.int .i64 seq) (.bool mkr) (str (100 :: data)) (.slice a l.length cap) := by
    have := Bv.new (w2.alloc (.cells #[str (key ++ [107]), .int .i64 seq, .bool mkr, str data, .slice a l.length cap] 32)) (str key) (.int .i64 seq) (.bool mkr) (str (100 :: data)) (.slice a l.length cap)
    rw [World.size_alloc] at this
    exact this
  have xC : Bv (((w2.alloc (.cells #[str (key ++ [107]), .int .i64 seq, .bool mkr, str data, .slice a l.length cap] 32)).alloc (.cells #[str key, .int .i64 seq, .bool mkr, str (100 :: data), .slice a l.length cap] 32)).alloc (.cells #[str key, .int .i64 seq, .bool mkr, str data, .slice a l.length cap] 32)) (w2.heap.size + 1 + 1) (str key) (.int .i64 seq) (.bool mkr) (str data) (.slice a l.length cap) := by
    have := Bv.new ((w2.alloc (.cells #[str (key ++ [107]), .int .i64 seq, .bool mkr, str data, .slice a l.length cap] 32)).alloc (.cells #[str key, .int .i64 seq, .bool mkr, str (100 :: data), .slice a l.length cap] 32)) (str key) (.int .i64 seq) (.bool mkr) (str data) (.slice a l.length cap)
    rw [World.size_alloc, World.size_alloc] at this
    exact this
  have bA : Below w2.heap.size w2 (w2.alloc (.cells #[str (key ++ [107]), .int .i64 seq, .bool mkr, str data, .slice a l.length cap] 32)) := (Below.refl _ _).alloc (Nat.le_refl _) _
  have bB : Below (w2.alloc (.cells #[str (key ++ [107]), .int .i64 seq, .bool mkr, str data, .slice a l.length cap] 32)).heap.size (w2.alloc (.cells #[str (key ++ [107]), .int .i64 seq, .bool mkr, str data, .slice a l.length cap] 32)) ((w2.alloc (.cells #[str (key ++ [107]), .int .i64 seq, .bool mkr, str data, .slice a l.length cap] 32)).alloc (.cells #[str key, .int .i64 seq, .bool mkr, str (100 :: data), .slice a l.length cap] 32)) := (Below.refl _ _).alloc (Nat.le_refl _) _
  have bC : Below ((w2.alloc (.cells #[str (key ++ [107]), .int .i64 seq, .bool mkr, str data, .slice a l.length cap] 32)).alloc (.cells #[str key, .int .i64 seq, .bool mkr, str (100 :: data), .slice a l.length cap] 32)).heap.size ((w2.alloc (.cells #[str (key ++ [107]), .int .i64 seq, .bool mkr, str data, .slice a l.length cap] 32)).alloc (.cells #[str key, .int .i64 seq, .bool mkr, str (100 :: data), .slice a l.length cap] 32)) (((w2.alloc (.cells #[str (key ++ [107]), .int .i64 seq, .bool mkr, str data, .slice a l.length cap] 32)).alloc (.cells #[str key, .int .i64 seq, .bool mkr, str (100 :: data), .slice a l.length cap] 32)).alloc (.cells #[str key, .int .i64 seq, .bool mkr, str data, .slice a l.length cap] 32)) := (Below.refl _ _).alloc (Nat.le_refl _) _
  have bE : Below (((w2.alloc (.cells #[str (key ++ [107]), .int .i64 seq, .bool mkr, str data, .slice a l.length cap] 32)).alloc (.cells #[str key, .int .i64 seq, .bool mkr, str (100 :: data), .slice a l.length cap] 32)).alloc (.cells #[str key, .int .i64 seq, .bool mkr, str data, .slice a l.length cap] 32)).heap.size (((w2.alloc (.cells #[str (key ++ [107]), .int .i64 seq, .bool mkr, str data, .slice a l.length cap] 32)).alloc (.cells #[str key, .int .i64 seq, .bool mkr, str (100 :: data), .slice a l.length cap] 32)).alloc (.cells #[str key, .int .i64 seq, .bool mkr, str data, .slice a l.length cap] 32)) ((((w2.alloc (.cells #[str (key ++ [107]), .int .i64 seq, .bool mkr, str data, .slice a l.length cap] 32)).alloc (.cells #[str key, .int .i64 seq, .bool mkr, str (100 :: data), .slice a l.length cap] 32)).alloc (.cells #[str key, .int .i64 seq, .bool mkr, str data, .slice a l.length cap] 32)).alloc (.cells #[] 27)) := (Below.refl _ _).alloc (Nat.le_refl _) _
  have xA2 := (xA.later bB).later bC
  have xB2 := xB.later bC
  have B3 := B2.trans ((below_seq (below_seq bA bB) bC).mono B2.size)
  have vE := v2.later (below_seq (below_seq (below_seq bA bB) bC) bE)
  have hC3 : (((w2.alloc (.cells #[str (key ++ [107]), .int .i64 seq, .bool mkr, str data, .slice a l.length cap] 32)).alloc (.cells #[str key, .int .i64 seq, .bool mkr, str (100 :: data), .slice a l.length cap] 32)).alloc (.cells #[str key, .int .i64 seq, .bool mkr, str data, .slice a l.length cap] 32)).heap.size = w2.heap.size + 1 + 1 + 1 := by rw [World.size_alloc, World.size_alloc, World.size_alloc]
  have bv2 := Hid.mk (below_seq (below_seq bA bB) bC)
  obtain ⟨_, _, _, _, p4E, _⟩ := vE.cells
  have sE := hS.later (B3.trans (bE.mono B3.size))
  have oE := Ow.empty (base := (((w2.alloc (.cells #[str (key ++ [107]), .int .i64 seq, .bool mkr, str data, .slice a l.length cap] 32)).alloc (.cells #[str key, .int .i64 seq, .bool mkr, str (100 :: data), .slice a l.length cap] 32)).alloc (.cells #[str key, .int .i64 seq, .bool mkr, str data, .slice a l.length cap] 32)).heap.size) (((w2.alloc (.cells #[str (key ++ [107]), .int .i64 seq, .bool mkr, str data, .slice a l.length cap] 32)).alloc (.cells #[str key, .int .i64 seq, .bool mkr, str (100 :: data), .slice a l.length cap] 32)).alloc (.cells #[str key, .int .i64 seq, .bool mkr, str data, .slice a l.length cap] 32)) (Nat.le_refl _)
  rw [hC3] at oE
  clear xA xB bA bB bC
  have XC := Hid.mk xC
  have XA := Hid.mk xA2
  have XB := Hid.mk xB2
  have H3 := Hid.mk hC3
  have BE := Hid.mk bE
  have HB3 := Hid.mk B3
  clear xC xA2 xB2 hC3 bE B3 vE
  have LL : Hid ((l ++ [(⟨name, value⟩ : En)]).length = l.length + 1) := ⟨by simp⟩
  go_wp2_with (first
    | (refine app_sliceB rfl _ _ rfl l oE sE rfl (by simp; omega) rfl rfl ?_; intro v10 w10 o10 b10; rw [List.nil_append] at o10; have BC10 := Hid.mk (BE.out.trans (by rw [H3.out]; exact b10)))
    | (refine app_oneB rfl _ _ rfl ⟨name, value⟩ rfl o10 rfl (by omega) rfl rfl ?_
       intro v11 w11 o11 b11
       have BC11 := Hid.mk (BC10.out.trans (by rw [H3.out]; exact b11))
       obtain ⟨a11, c11, hv11, s11⟩ := o11.sl
       rw [LL.out] at hv11
       subst hv11
       have n11 := XC.out.later BC11.out
       obtain ⟨_, _, _, _, _, nf⟩ := n11.cells
       have nf4 := nf 4
       have n12 := n11.set4 (.slice a11 (l.length + 1) c11)
       obtain ⟨t0, t1, t2, t3, t4, _⟩ := n12.cells
       have n14 := (n12.later ((Below.refl _ _).alloc (Nat.le_refl _) (.cells #[str key, .int .i64 seq, .bool mkr, str data, .slice a11 (l.length + 1) c11] 32))).later ((Below.refl _ _).alloc (Nat.le_refl _) (.cells #[] 27))
       obtain ⟨_, _, _, _, t44, _⟩ := n14.cells
       have o12 := o11.other (g := w2.heap.size + 1 + 1) (j := 4) (fun h => by have := (o11.own.lt _ h).1; omega) (.slice a11 (l.length + 1) c11)
       have o14 := (o12.later ((Below.refl _ _).alloc (Nat.le_refl _) (.cells #[str key, .int .i64 seq, .bool mkr, str data, .slice a11 (l.length + 1) c11] 32))).later ((Below.refl _ _).alloc (Nat.le_refl _) (.cells #[] 27))
       have hs11 : (w11.setCell ⟨w2.heap.size + 1 + 1, 4, none⟩ (.slice a11 (l.length + 1) c11)).heap.size = w11.heap.size := by simp
       have hx11 : ((w11.setCell ⟨w2.heap.size + 1 + 1, 4, none⟩ (.slice a11 (l.length + 1) c11)).alloc (.cells #[str key, .int .i64 seq, .bool mkr, str data, .slice a11 (l.length + 1) c11] 32)).heap.size = w11.heap.size + 1 := by rw [World.size_alloc, hs11]
       have oe14 := Ow.empty (base := ((w11.setCell ⟨w2.heap.size + 1 + 1, 4, none⟩ (.slice a11 (l.length + 1) c11)).alloc (.cells #[str key, .int .i64 seq, .bool mkr, str data, .slice a11 (l.length + 1) c11] 32)).heap.size) ((w11.setCell ⟨w2.heap.size + 1 + 1, 4, none⟩ (.slice a11 (l.length + 1) c11)).alloc (.cells #[str key, .int .i64 seq, .bool mkr, str data, .slice a11 (l.length + 1) c11] 32)) (Nat.le_refl _)
       have dn := Bv.new (w11.setCell ⟨w2.heap.size + 1 + 1, 4, none⟩ (.slice a11 (l.length + 1) c11)) (str key) (.int .i64 seq) (.bool mkr) (str data) (.slice a11 (l.length + 1) c11)
       rw [hx11] at oe14
       rw [hs11] at dn
       have HX11 := Hid.mk hx11
       have HS11 := Hid.mk hs11
       clear nf hs11 hx11)
    | (refine app_sliceB rfl _ _ rfl (l ++ [⟨name, value⟩]) oe14 o14.asSl LL.out (by rw [LL.out]; simp; omega) rfl rfl ?_
       intro v15 w15 o15 b15
       rw [List.nil_append] at o15
       obtain ⟨a15, c15, hv15, s15⟩ := o15.sl
       rw [LL.out] at hv15
       subst hv15
       have b1415 : Below ((w11.setCell ⟨w2.heap.size + 1 + 1, 4, none⟩ (.slice a11 (l.length + 1) c11)).alloc (.cells #[str key, .int .i64 seq, .bool mkr, str data, .slice a11 (l.length + 1) c11] 32)).heap.size ((w11.setCell ⟨w2.heap.size + 1 + 1, 4, none⟩ (.slice a11 (l.length + 1) c11)).alloc (.cells #[str key, .int .i64 seq, .bool mkr, str data, .slice a11 (l.length + 1) c11] 32)) w15 := ((Below.refl _ _).alloc (Nat.le_refl _) _).trans (by rw [HX11.out]; exact b15)
       have d15 := dn.later b1415
       obtain ⟨_, _, _, _, _, df⟩ := d15.cells
       have df4 := df 4
       clear df))
  have h11 : w2.heap.size + 1 + 1 + 1 ≤ w11.heap.size := by have := BC11.out.size; rw [H3.out] at this; exact this
  have up : ∀ {g : Nat} {x y z u v : Value}, Bv (w11.setCell ⟨w2.heap.size + 1 + 1, 4, none⟩ (.slice a11 (l.length + 1) c11)) g x y z u v → g < w11.heap.size → Bv (w15.setCell ⟨w11.heap.size, 4, none⟩ (.slice a15 (l.length + 1) c15)) g x y z u v := fun h hg => ((h.later ((Below.refl _ _).alloc (Nat.le_refl _) (.cells #[str key, .int .i64 seq, .bool mkr, str data, .slice a11 (l.length + 1) c11] 32))).later b1415).other (by omega) _
  have A16 := up ((XA.out.later BC11.out).other (g2 := w2.heap.size + 1 + 1) (j := 4) (by omega) (.slice a11 (l.length + 1) c11)) (by omega)
  have B16 := up ((XB.out.later BC11.out).other (g2 := w2.heap.size + 1 + 1) (j := 4) (by omega) (.slice a11 (l.length + 1) c11)) (by omega)
  have C16 := up n12 (by omega)
  have D16 := d15.set4 (.slice a15 (l.length + 1) c15)
  have v11 := (v2.later (bv2.out.trans (BC11.out.mono (by rw [H3.out]; omega)))).other (g2 := w2.heap.size + 1 + 1) (j := 4) (by omega) (.slice a11 (l.length + 1) c11)
  have V16 := up v11 (by omega)
  have o16 := o15.other (g := w11.heap.size) (j := 4) (fun h => by have := (o15.own.lt _ h).1; omega) (.slice a15 (l.length + 1) c15)
  have r16 := ((o12.later ((Below.refl _ _).alloc (Nat.le_refl _) (.cells #[str key, .int .i64 seq, .bool mkr, str data, .slice a11 (l.length + 1) c11] 32))).later b1415).other (g := w11.heap.size) (j := 4) (fun h => by have := (o11.own.lt _ h).2; omega) (.slice a15 (l.length + 1) c15)
  have Bw11 := HB3.out.trans (BC11.out.mono HB3.out.size)
  have hW11 := Bw11.size
  have Bw12 : Below W.heap.size W (w11.setCell ⟨w2.heap.size + 1 + 1, 4, none⟩ (.slice a11 (l.length + 1) c11)) := Bw11.setCell (p := ⟨w2.heap.size + 1 + 1, 4, none⟩) (by show _ ≤ w2.heap.size + 1 + 1; omega) _
  have Bw13 : Below W.heap.size W ((w11.setCell ⟨w2.heap.size + 1 + 1, 4, none⟩ (.slice a11 (l.length + 1) c11)).alloc (.cells #[str key, .int .i64 seq, .bool mkr, str data, .slice a11 (l.length + 1) c11] 32)) := Bw12.alloc Bw12.size _
  have Bw15 : Below W.heap.size W w15 := Bw13.trans (b1415.mono Bw13.size)
  have Bw16 : Below W.heap.size W (w15.setCell ⟨w11.heap.size, 4, none⟩ (.slice a15 (l.length + 1) c15)) := Bw15.setCell (p := ⟨w11.heap.size, 4, none⟩) hW11 _
  have hr16 : ∀ g', (Value.slice a11 (l.length + 1) c11).ownBlock = some g' → g' < w11.heap.size := fun g' h => (o11.own.lt _ h).2
  clear up XA XB XC n12 n11 n14 d15 dn o15 o12 o14 o11 o10 oe14 oE sE BE HB3 Bw11 Bw12 Bw13 Bw15 b1415 b15 b11 b10 BC10 BC11 df4 nf4 t0 t1 t2 t3 t4 t44 p0 p1 p2 p3 p4 p4E s11 s15 v11 HX11 HS11 bv2 v2
  generalize w15.setCell ⟨w11.heap.size, 4, none⟩ (.slice a15 (l.length + 1) c15) = w16 at *
  generalize w11.heap.size = gd at *
  generalize hgc : w2.heap.size + 1 + 1 = gc at *
  generalize hgb : w2.heap.size + 1 = gb at *
  generalize hga : w2.heap.size = ga at *
  obtain ⟨g15, rfl, hg15, hg15l, hf15⟩ := o16.at0 (by rw [LL.out]; omega)
  obtain ⟨p, hp⟩ : ∃ p, (l ++ [(⟨name, value⟩ : En)])[0]? = some p := ⟨_, List.getElem?_eq_getElem (by rw [LL.out]; omega)⟩
  have hpv : p.val.length ≤ 140737488351232 := by
    rcases Nat.eq_zero_or_pos l.length with h0 | h0
    · have : l = [] := List.eq_nil_of_length_eq_zero h0
      subst this
      simp at hp
      rw [← hp]; exact hvl
    · rw [List.getElem?_append_left h0] at hp
      exact (hz 0 p hp).2
  obtain ⟨b', off', e', hb', c0, c1⟩ := o16.asSl.at'.get 0 p hp
  injection e' with e'
  injection e' with e1 e2
  subst e1 e2
  simp only [Nat.zero_mul, Nat.zero_add] at c1
  obtain ⟨_, _, _, _, dd4, _⟩ := D16.cells
  have hf1 := hf15 1
  have radv : ∀ w, (adS (str p.val) (.string ⟨#[118]⟩)).run Try.prog w = .ok (str (p.val ++ [118])) w := fun w => run_ad p.val [118] (by simp; omega) w
  have hpos : (0 : Int) < (l.length : Int) + 1 := by omega
  have O17 := Hid.mk (o16.val LL.out hp (p.val ++ [118]))
  have R17 := Hid.mk (r16.other (g := g15) (j := 1) (fun h => by have := hr16 _ h; omega) (str (p.val ++ [118])))
  have A17 := Hid.mk (A16.other (g2 := g15) (j := 1) (by omega) (str (p.val ++ [118])))
  have B17 := Hid.mk (B16.other (g2 := g15) (j := 1) (by omega) (str (p.val ++ [118])))
  have C17 := Hid.mk (C16.other (g2 := g15) (j := 1) (by omega) (str (p.val ++ [118])))
  have D17 := Hid.mk (D16.other (g2 := g15) (j := 1) (by omega) (str (p.val ++ [118])))
  have V17 := Hid.mk (V16.other (g2 := g15) (j := 1) (by omega) (str (p.val ++ [118])))
  have W17 := Hid.mk (Bw16.setCell (p := ⟨g15, 1, none⟩) (by show _ ≤ g15; omega) (str (p.val ++ [118])))
  clear A16 B16 C16 D16 V16 Bw16 o16 r16 hf15 c0
  go_region
  have A18 := A17.out.drew
  have B18 := B17.out.drew
  have C18 := C17.out.drew
  have D18 := D17.out.drew
  have V18 := V17.out.drew
  have O18 := O17.out.drew
  have R18 := R17.out.drew
  have W18 := W17.out.drew
  clear A17 B17 C17 D17 V17 O17 R17 W17 dd4 hf1 c1
  generalize (w16.setCell ⟨g15, 1, none⟩ (str (p.val ++ [118]))).drew = w18 at *
  have hlen2 : ((l ++ [(⟨name, value⟩ : En)]).set 0 ⟨p.key, p.val ++ [118]⟩).length = l.length + 1 := by rw [List.length_set, LL.out]
  have tt1 : tt (l ++ [(⟨name, value⟩ : En)]) = tt l + (name.length + value.length) := by rw [tt_append]; simp [tt]
  have tt2 : tt ((l ++ [(⟨name, value⟩ : En)]).set 0 ⟨p.key, p.val ++ [118]⟩) = tt (l ++ [(⟨name, value⟩ : En)]) + 1 := by
    obtain ⟨q, r, hqr⟩ : ∃ q r, l ++ [(⟨name, value⟩ : En)] = q :: r := by
      cases l with
      | nil => exact ⟨_, _, rfl⟩
      | cons x y => exact ⟨_, _, rfl⟩
    rw [hqr] at hp ⊢
    simp at hp
    subst hp
    simp [tt]
    omega
  obtain ⟨SA, hSA⟩ : ∃ x, x = vsz (key ++ [107]) data l := ⟨_, rfl⟩
  obtain ⟨SC, hSC⟩ : ∃ x, x = vsz key data (l ++ [(⟨name, value⟩ : En)]) := ⟨_, rfl⟩
  obtain ⟨SD, hSD⟩ : ∃ x, x = vsz key data ((l ++ [(⟨name, value⟩ : En)]).set 0 ⟨p.key, p.val ++ [118]⟩) := ⟨_, rfl⟩
  have hSB : vsz key (100 :: data) l = SA := by
    rw [hSA]
    unfold vsz
    congr 2
    simp
    omega
  have eA : IntKind.i64.wrap (S + 1) = SA := by
    rw [hSA, ← HSv.out]
    exact sz_n 1 (by simp; omega)
  obtain ⟨T1, hT1⟩ : ∃ x, x = wrap64 (S + (name.length : Int)) := ⟨_, rfl⟩
  have eT : IntKind.i64.wrap (S + (name.length : Int)) = T1 := by rw [i64L, hT1]
  have eC : IntKind.i64.wrap (T1 + (value.length : Int)) = SC := by
    rw [hSC, hT1, ← HSv.out]
    exact sz_2 name.length value.length tt1
  have eD : IntKind.i64.wrap (SC + 1) = SD := by
    rw [hSD, hSC]
    exact sz_n 1 (by rw [tt2]; omega)
  have hA := fun w (h : Below w18.heap.size w18 w) => size_any (key ++ [107]) seq mkr data l w a l.length cap rfl (hP.later (W18.trans (h.mono W18.size))) (by omega)
  have hB := fun w (h : Below w18.heap.size w18 w) => size_any key seq mkr (100 :: data) l w a l.length cap rfl (hP.later (W18.trans (h.mono W18.size))) (by omega)
  have hC := fun w (h : Below w18.heap.size w18 w) => size_any key seq mkr data (l ++ [⟨name, value⟩]) w a11 (l.length + 1) c11 LL.out (R18.asSl.later h).at' (by rw [LL.out]; omega)
  have hD := fun w (h : Below w18.heap.size w18 w) => size_any key seq mkr data ((l ++ [(⟨name, value⟩ : En)]).set 0 ⟨p.key, p.val ++ [118]⟩) w (some ⟨g15, 0, none⟩) (l.length + 1) c15 hlen2 (O18.asSl.later h).at' (by rw [hlen2]; omega)
  rw [← hSA] at hA
  rw [hSB] at hB
  rw [← hSC] at hC
  rw [← hSD] at hD
  have XC : Hid (∀ w', Below w18.heap.size w18 w' → Below w18.heap.size w18 w' ∧ w'.cell? ⟨ga, 0, none⟩ = some (str (key ++ [107])) ∧ w'.cell? ⟨ga, 1, none⟩ = some (.int .i64 seq) ∧ w'.cell? ⟨ga, 2, none⟩ = some (.bool mkr) ∧ w'.cell? ⟨ga, 3, none⟩ = some (str data) ∧ w'.cell? ⟨ga, 4, none⟩ = some (.slice a l.length cap) ∧ w'.cell? ⟨gb, 0, none⟩ = some (str key) ∧ w'.cell? ⟨gb, 1, none⟩ = some (.int .i64 seq) ∧ w'.cell? ⟨gb, 2, none⟩ = some (.bool mkr) ∧ w'.cell? ⟨gb, 3, none⟩ = some (str (100 :: data)) ∧ w'.cell? ⟨gb, 4, none⟩ = some (.slice a l.length cap) ∧ w'.cell? ⟨gc, 0, none⟩ = some (str key) ∧ w'.cell? ⟨gc, 1, none⟩ = some (.int .i64 seq) ∧ w'.cell? ⟨gc, 2, none⟩ = some (.bool mkr) ∧ w'.cell? ⟨gc, 3, none⟩ = some (str data) ∧ w'.cell? ⟨gc, 4, none⟩ = some (.slice a11 (l.length + 1) c11) ∧ w'.cell? ⟨gd, 0, none⟩ = some (str key) ∧ w'.cell? ⟨gd, 1, none⟩ = some (.int .i64 seq) ∧ w'.cell? ⟨gd, 2, none⟩ = some (.bool mkr) ∧ w'.cell? ⟨gd, 3, none⟩ = some (str data) ∧ w'.cell? ⟨gd, 4, none⟩ = some (.slice (some ⟨g15, 0, none⟩) (l.length + 1) c15)) := ⟨fun w' h => by
    obtain ⟨x0, x1, x2, x3, x4, _⟩ := (A18.later h).cells
    obtain ⟨y0, y1, y2, y3, y4, _⟩ := (B18.later h).cells
    obtain ⟨z0, z1, z2, z3, z4, _⟩ := (C18.later h).cells
    obtain ⟨u0, u1, u2, u3, u4, _⟩ := (D18.later h).cells
    exact ⟨h, x0, x1, x2, x3, x4, y0, y1, y2, y3, y4, z0, z1, z2, z3, z4, u0, u1, u2, u3, u4⟩⟩
  have V19 := Hid.mk V18
  have W19 := Hid.mk W18
  clear A18 B18 C18 D18 V18 O18 R18 W18 hSA hSC hSD hSB hT1 tt1 tt2 hlen2 hgc hgb hga hp
  go_wp2_with fail
  go_region_held3 (fun w' => Below w18.heap.size w18 w' ∧ w'.cell? ⟨ga, 0, none⟩ = some (str (key ++ [107])) ∧ w'.cell? ⟨ga, 1, none⟩ = some (.int .i64 seq) ∧ w'.cell? ⟨ga, 2, none⟩ = some (.bool mkr) ∧ w'.cell? ⟨ga, 3, none⟩ = some (str data) ∧ w'.cell? ⟨ga, 4, none⟩ = some (.slice a l.length cap) ∧ w'.cell? ⟨gb, 0, none⟩ = some (str key) ∧ w'.cell? ⟨gb, 1, none⟩ = some (.int .i64 seq) ∧ w'.cell? ⟨gb, 2, none⟩ = some (.bool mkr) ∧ w'.cell? ⟨gb, 3, none⟩ = some (str (100 :: data)) ∧ w'.cell? ⟨gb, 4, none⟩ = some (.slice a l.length cap) ∧ w'.cell? ⟨gc, 0, none⟩ = some (str key) ∧ w'.cell? ⟨gc, 1, none⟩ = some (.int .i64 seq) ∧ w'.cell? ⟨gc, 2, none⟩ = some (.bool mkr) ∧ w'.cell? ⟨gc, 3, none⟩ = some (str data) ∧ w'.cell? ⟨gc, 4, none⟩ = some (.slice a11 (l.length + 1) c11) ∧ w'.cell? ⟨gd, 0, none⟩ = some (str key) ∧ w'.cell? ⟨gd, 1, none⟩ = some (.int .i64 seq) ∧ w'.cell? ⟨gd, 2, none⟩ = some (.bool mkr) ∧ w'.cell? ⟨gd, 3, none⟩ = some (str data) ∧ w'.cell? ⟨gd, 4, none⟩ = some (.slice (some ⟨g15, 0, none⟩) (l.length + 1) c15)) (first
    | exact XC.out _ (Below.refl _ _).drew
    | exact XC.out _ (below_seq (And.left (by assumption)) bv)) (first
    | (go_at_call 12; with_reducible refine Calls.mono (hA _ (And.left (by assumption))) ?_; rintro e wv ⟨rfl, bv⟩)
    | (go_at_call 12; with_reducible refine Calls.mono (hB _ (And.left (by assumption))) ?_; rintro e wv ⟨rfl, bv⟩)
    | (go_at_call 12; with_reducible refine Calls.mono (hC _ (And.left (by assumption))) ?_; rintro e wv ⟨rfl, bv⟩)
    | (go_at_call 12; with_reducible refine Calls.mono (hD _ (And.left (by assumption))) ?_; rintro e wv ⟨rfl, bv⟩))
  have hbv : Below w18.heap.size w18 wv := And.left (by assumption)
  have BV9 := W19.out.trans (hbv.mono W19.out.size)
  obtain ⟨q0, q1, q2, q3, q4, _⟩ := (V19.out.later hbv).cells
  have hver := version_any key seq mkr data l wv a l.length cap rfl (hP.later BV9) (by omega)
  by_cases h0 : vrE key mkr data l = 0
  · have hok := vsz_ok h0
    rw [HSv.out] at hok
    rw [h0] at hver
    have d1 : decide ((33 : Int) ≤ S) = true := decide_eq_true hok.1
    have d2 : decide (S ≤ 1728) = true := decide_eq_true hok.2
    clear hA hB hC hD XC h0 V19 W19 hok
    go_wp2_with fail
    with_reducible refine Calls.mono hver ?_
    rintro e w20 ⟨rfl, b20⟩
    dsimp only
    go_wp2_with fail
    go_ret
    exact ⟨rfl, BV9.trans (b20.mono BV9.size)⟩
  · have d0 : (vrE key mkr data l != 0) = true := by rw [bne_iff_ne]; exact h0
    have d1 : (vrE key mkr data l == 0) = false := by rw [beq_eq_false_iff_ne]; exact h0
    clear hA hB hC hD XC h0 V19 W19
    generalize vrE key mkr data l = EV at *
    go_wp2_with fail
    with_reducible refine Calls.mono hver ?_
    rintro e w20 ⟨rfl, b20⟩
    dsimp only
    go_wp2_with fail
    go_ret
    exact ⟨rfl, BV9.trans (b20.mono BV9.size)⟩
end Go.Proofs.Ytehjhlaeojmciaa
