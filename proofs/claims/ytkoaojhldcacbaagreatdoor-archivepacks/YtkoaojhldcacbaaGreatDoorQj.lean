import Derived.Test.YtkoaojhldcacbaaGreatDoorQi
import Derived.Laws.OwnMore
/- The row above one. -/
namespace Go.Proofs.YtkoaojhldcacbaaGreatDoorH
set_option maxRecDepth 100000
set_option linter.unusedVariables false
set_option linter.unusedSimpArgs false
open Go.RowKit
attribute [local go_sem ↓] Go.wp_at_zero Go.wp_at_succ
attribute [local go_sem ↓] ld23 bs25
attribute [local go_sem] run_bs
theorem up_in (n : Nat) (f : Nat → Hs) (k p q : Nat) (h : p = 2 * k ∧ q = 2 * k + 1) (hq : q < n) : Tree.up node n f k = node (f p) (f q) := by
  unfold Tree.up; rw [if_pos (by omega), h.1, h.2]
theorem up_last (n : Nat) (f : Nat → Hs) (k p : Nat) (h : p = 2 * k) (hq : ¬ p + 1 < n) : Tree.up node n f k = f p := by
  unfold Tree.up; rw [if_neg (by omega), h]
theorem undrew {w w2 : World} (bq : Below w.drew.heap.size w.drew w2) : Below w.heap.size w w2 := ((Below.refl w.heap.size w).drew).trans bq
/-- One hash more at the row's end. -/
theorem one_more {w wr w2 : World} {B k m : Nat} {F : Nat → Hs} (hB : w.heap.size = B) (bel : Below B w wr) (th : wr.there B 0 (32 * m)) (hrw : HRow wr B 0 k F) (hkm : k < m) (b0 : Below wr.heap.size wr w2) (g : Hs) (hg : F k = g) :
    Below B w ((w2.alloc (.cells (hv g).toArray 71)).setCells B (k * 32) (hv g)) ∧ ((w2.alloc (.cells (hv g).toArray 71)).setCells B (k * 32) (hv g)).there B 0 (32 * m) ∧ HRow ((w2.alloc (.cells (hv g).toArray 71)).setCells B (k * 32) (hv g)) B 0 (k + 1) F := by
  have hs2 := b0.size
  have hs1 := bel.size
  have b1 : Below wr.heap.size wr (w2.alloc (.cells (hv g).toArray 71)) := b0.alloc hs2 _
  have t1 := thereNext th b1
  subst hg
  exact ⟨below_setCells (Nat.le_refl _) _ _ (bel.trans (b1.mono (by omega))), World.there_setCells t1 _ _ _, (hrw.next b1).set t1 hkm⟩
set_option maxHeartbeats 400000 in
set_option maxRecDepth 8000 in
theorem above_any (b off n cap : Nat) (f : Nat → Hs) (w : World) (hK : KIn w) (hr : HRow w b off n f) (hn : n ≤ 8796093022208) :
    Calls Tryz.prog 113 #[.slice (some ⟨b, off, none⟩) n cap] w fun e w' => e = .returned (.slice (some ⟨w.heap.size, 0, none⟩) (Tree.upLen n) (Tree.upLen n)) ∧ HRow w' w.heap.size 0 (Tree.upLen n) (Tree.up node n f) ∧ Below w.heap.size w w' := by
  obtain ⟨i, z, e1, e2, e3, e4, e5⟩ := info23x
  obtain ⟨m, hm⟩ : ∃ m, m = n / 2 + n % 2 := ⟨_, rfl⟩
  have hb2 : i.bytes * m ≤ 281474976710656 := by rw [e4]; omega
  have hb3 : m ≤ maxLen := by unfold maxLen; omega
  obtain ⟨h, Hh⟩ : ∃ h, h = n / 2 := ⟨_, rfl⟩
  have hh2 : (n : Int) / 2 = (h : Int) := by omega
  have hC : (h : Int) + (n : Int) % 2 = (m : Int) := by omega
  have HH : Hid (h = n / 2) := Hh
  clear Hh
  have hB0 := hK.lt
  have Hm : Hid (m = n / 2 + n % 2) := hm
  clear hm
  go_enter Tryz.func113, Tryz.ntmps113
  go_wp2_with (refine wpList_make_own _ rfl _ _ 113 rfl w.heap.size 71 i z 32 Tryz.underlying113 e1 e2 e3 _ _ _ m rfl rfl (by first | rfl | exact hC) hb2 hb3 (Nat.le_refl _) ?_; intro w1 own1 gr1)
  have bel1 : Below w.heap.size w w1 := (Below.refl _ _).grown gr1 (Nat.le_refl _) (fun _ h => by cases h)
  have th1 : w1.there w.heap.size 0 (32 * m) := by
    rcases own1.2 with ⟨h, _⟩ | ⟨g, cp, cur, hv1, _, hg1, _, _, hsz1, _⟩
    · cases h
    · injection hv1 with h1 h2 h3
      injection h1 with h1
      injection h1 with h1
      subst h1
      exact there_of_row hg1 0 (by omega)
  clear own1 gr1 e2 e4 e5 hb2 hb3 z
  generalize hB : w.heap.size = B at *
  go_loopw [3, 16] (fun v i wr => ∃ k : Nat, k ≤ h ∧ i = .int .i64 k ∧ v = .slice (some ⟨B, 0, none⟩) k m ∧ Below B w wr ∧ wr.there B 0 (32 * m) ∧ HRow wr B 0 k (Tree.up node n f)) (fun _ i _ => h - (intOf i).toNat)
  case atStart => exact ⟨0, by omega, rfl, rfl, bel1, th1, fun k hk => by omega⟩
  case round =>
    clear bel1 th1
    obtain ⟨k, hk, rfl, rfl, bel, th, hrw⟩ := hrel
    by_cases hlt : k < h
    · have hd : decide ((k : Int) < (h : Int)) = true := by simp; omega
      obtain ⟨p, hp⟩ : ∃ p, p = 2 * k := ⟨_, rfl⟩
      obtain ⟨q, hq⟩ : ∃ q, q = 2 * k + 1 := ⟨_, rfl⟩
      have hqn : q < n := by have := HH.out; omega
      have ep : 2 * (k : Int) = (p : Int) := by omega
      have eq : (p : Int) + 1 = (q : Int) := by omega
      have ewp : IntKind.i64.wrap (p : Int) = (p : Int) := by rw [IntKind.wrap_i64]; omega
      have ewq : IntKind.i64.wrap (q : Int) = (q : Int) := by rw [IntKind.wrap_i64]; omega
      have i0 : (0 : Int) ≤ (p : Int) := by omega
      have i1 : (p : Int) < (n : Int) := by omega
      have i2 : (0 : Int) ≤ (q : Int) := by omega
      have i3 : (q : Int) < (n : Int) := by omega
      have kr : KIn wr := hK.below bel hB0
      have r1 := hr.at (k := p) (by omega) bel hB
      have r2 := hr.at hqn bel hB
      have hl1 := load23 (w := wr.drew) (World.rangeAt_drew _ _ _ _ |>.2 r1)
      have hl2 := load23 (w := wr.drew) (World.rangeAt_drew _ _ _ _ |>.2 r2)
      have Hp : Hid (p = 2 * k ∧ q = 2 * k + 1) := ⟨hp, hq⟩
      clear hp hq
      go_wp2_with fail
      have hkm : k < m := by have := HH.out; have := Hm.out; omega
      go_region_law (first | (go_simp; go_at_call 157; refine (node_hv (f p) (f q) _ (kr.seq ((Below.refl _ _).drew))).mono ?_; rintro e w2 ⟨rfl, bq⟩) | (refine step_append_room rfl _ _ 113 rfl 71 i 32 Tryz.underlying113 e1 e3 B 0 k m rfl _ 1 1 (hv (node (f p) (f q))) rfl (hv_length _) (news_alloc w2 _ _) (hv_one _) hkm (spare_of (thereNext (World.there_drew _ _ _ _ |>.2 th) bq) hkm _) ?_))
      all_goals (go_wp2_with fail; go_round)
      all_goals first
        | exact ⟨k + 1, by omega, by go_num, rfl, one_more hB bel th hrw hkm (undrew bq) _ (up_in n f k p q Hp.out hqn)⟩
        | (show h - ((k : Int) + 1).toNat < h - ((k : Int)).toNat; omega)
    · obtain rfl : k = h := by omega
      have hd : decide ((k : Int) < (k : Int)) = false := by simp
      have kr : KIn wr := hK.below bel hB0
      by_cases hodd : n % 2 = 1
      · have ho : (n : Int) % 2 = 1 := by omega
        obtain ⟨p, hp⟩ : ∃ p, p = n - 1 := ⟨_, rfl⟩
        have ep : (n : Int) - 1 = (p : Int) := by omega
        have ewp : IntKind.i64.wrap (p : Int) = (p : Int) := by rw [IntKind.wrap_i64]; omega
        have i0 : (0 : Int) ≤ (p : Int) := by omega
        have i1 : (p : Int) < (n : Int) := by omega
        have r1 := hr.at (k := p) (by omega) bel hB
        have hl2 := load23 r1
        have hkm : k < m := by have := HH.out; have := Hm.out; omega
        have Hp : Hid (p = n - 1) := hp
        clear hp
        go_wp2_with (refine wpList_append_here rfl _ _ 113 rfl 71 i 32 Tryz.underlying113 e1 e3 B 0 k m rfl _ 1 1 (hv (f p)) rfl (hv_length _) (news_alloc wr _ _) (hv_one _) hkm (spare_of th hkm _) ?_)
        go_ret
        have hup : Tree.up node n f k = f p := up_last n f k p (by have := Hp.out; have := HH.out; omega) (by have := Hp.out; omega)
        obtain ⟨q1, q2, q3⟩ := one_more (w2 := wr) hB bel th hrw hkm (Below.refl _ _) _ hup
        have em : m = k + 1 := by have := HH.out; have := Hm.out; omega
        have eu : Tree.upLen n = k + 1 := by unfold Tree.upLen; have := HH.out; omega
        subst hB
        rw [eu]
        rw [em] at *
        exact ⟨rfl, q3, q1⟩
      · have ho : (n : Int) % 2 = 0 := by omega
        go_wp2_with fail
        go_ret
        have em : m = k := by have := HH.out; have := Hm.out; omega
        have eu : Tree.upLen n = k := by unfold Tree.upLen; have := HH.out; omega
        subst hB
        rw [eu]
        rw [em] at *
        exact ⟨rfl, hrw, bel⟩
end Go.Proofs.YtkoaojhldcacbaaGreatDoorH

/- The root of the texts. -/
namespace Go.Proofs.YtkoaojhldcacbaaGreatDoorH
set_option maxRecDepth 100000
set_option linter.unusedVariables false
set_option linter.unusedSimpArgs false
open Go.RowKit
attribute [local go_sem ↓] Go.wp_at_zero Go.wp_at_succ
noncomputable def leaves (t : Nat → ByteArray) (k : Nat) : Hs := leaf (t k).data.toList
noncomputable def rootOf (n : Nat) (t : Nat → ByteArray) : Hs := if n = 0 then none0 else Tree.root node n (leaves t)
theorem sum2 (w : World) (hK : KIn w) : Calls Tryz.prog 111 #[.string ⟨#[2]⟩] w fun e w' => e = .returned (.agg (hv none0).toArray) ∧ Below w.heap.size w w' := by
  rw [none0_eq]; exact sum_hv ⟨#[2]⟩ w hK (by decide)
def sLen : Value → Nat | .slice _ n _ => n | _ => 0
attribute [local go_sem ↓] ld23
set_option maxHeartbeats 400000 in
set_option maxRecDepth 8000 in
theorem root_none (a : Option Addr) (cap : Nat) (t : Nat → ByteArray) (w : World) (hK : KIn w) :
    Calls Tryz.prog 61 #[.slice a 0 cap] w fun e w' => e = .returned (.agg (hv (rootOf 0 t)).toArray) ∧ Below w.heap.size w w' := by
  rw [rootOf, if_pos rfl]
  go_enter Tryz.func61, Tryz.ntmps61
  go_wp2_with fail
  have b0 : Below w.heap.size w (w.alloc (.cells zero32 71)) := (Below.refl _ _).alloc (Nat.le_refl _) _
  have t0 := there_new w 71
  have k0 := hK.seq b0
  refine (sum2 _ k0).mono ?_
  rintro e w2 ⟨rfl, bq⟩
  have t2 := thereNext t0 bq
  have b2 := below_seq b0 bq
  go_wp2_with (refine wpList_store_mid rfl 71 _ _ rfl w.heap.size 0 _ rfl rfl (there_hv t2 _) (size_hv _) (all_oneCell_toArray (hv_one _)) ?_)
  exact bodyPost_ret (v := .agg (hv none0).toArray) (results_mid Tryz.results61 _ _ w.heap.size none0 rfl (range_new t2 _)) rfl ⟨rfl, below_setCells (Nat.le_refl _) _ _ b2⟩
set_option maxHeartbeats 400000 in
set_option maxRecDepth 8000 in
theorem root_some (b off n cap : Nat) (t : Nat → ByteArray) (w : World) (hK : KIn w) (hT : TextsAt w b off n t) (hz : ∀ k, k < n → (t k).size < 1152921504606845000) (hn : n ≤ 8796093022208) (h0 : 0 < n) :
    Calls Tryz.prog 61 #[.slice (some ⟨b, off, none⟩) n cap] w fun e w' => e = .returned (.agg (hv (rootOf n t)).toArray) ∧ Below w.heap.size w w' := by
  have hd0 : ((n : Int) == 0) = false := by simp; omega
  have hne : ¬ n = 0 := by omega
  rw [rootOf, if_neg hne]
  obtain ⟨R, hR⟩ : ∃ R, R = Tree.root node n (leaves t) := ⟨_, rfl⟩
  rw [← hR]
  have hB0 := hK.lt
  go_enter Tryz.func61, Tryz.ntmps61
  go_wp2_with fail
  have b0 : Below w.heap.size w (w.alloc (.cells zero32 71)) := (Below.refl _ _).alloc (Nat.le_refl _) _
  have t0 := there_new w 71
  have k0 := hK.seq b0
  refine (lowest_any b off n cap t _ k0 (hT.next b0) hz hn).mono ?_
  rintro e w2 ⟨rfl, hr2, _, bq⟩
  have t2 := thereNext t0 bq
  have b2 := below_seq b0 bq
  obtain ⟨G, hG⟩ : ∃ G, G = (w.alloc (.cells zero32 71)).heap.size := ⟨_, rfl⟩
  have hGB : w.heap.size < G := by rw [hG]; simp
  rw [← hG] at hr2 ⊢
  clear hG b0 t0 k0 bq
  generalize hB : w.heap.size = B at *
  go_wp2_with fail
  go_loopw [3] (fun v wr => ∃ (m G : Nat) (f : Nat → Hs), 0 < m ∧ m ≤ n ∧ B < G ∧ v = .slice (some ⟨G, 0, none⟩) m m ∧ Below B w wr ∧ wr.there B 0 32 ∧ HRow wr G 0 m f ∧ Tree.root node m f = R) (fun v _ => sLen v)
  case atStart => exact ⟨n, G, leaves t, h0, Nat.le_refl _, hGB, rfl, b2, t2, hr2, hR.symm⟩
  case round =>
    clear hr2 t2 b2 hGB hR
    obtain ⟨m, G, f, hm0, hmn, hGB, rfl, bel, th, hr, eR⟩ := hrel
    have kr : KIn wr := hK.below bel hB0
    by_cases h1 : 1 < m
    · have hd : decide ((1 : Int) < (m : Int)) = true := by simp; omega
      go_wp2_with fail
      refine (above_any G 0 m m f wr kr hr (by omega)).mono ?_
      rintro e w2 ⟨rfl, hr2, bq⟩
      have t2 := thereNext th bq
      have b2 : Below B w w2 := bel.trans (bq.mono (by have := bel.size; omega))
      have hGw : B < wr.heap.size := by have := hr.lt hm0; omega
      have hmu : Tree.upLen m < m := Tree.upLen_lt (by omega)
      have hmp : 0 < Tree.upLen m := by unfold Tree.upLen; omega
      generalize hu : Tree.upLen m = u at *
      go_wp2_with fail
      go_round
      case rel => exact ⟨u, wr.heap.size, Tree.up node m f, hmp, by omega, hGw, rfl, b2, t2, hr2, by rw [← eR, Tree.root_more node f (by omega), hu]⟩
      case measure => simp [sLen]; omega
    · obtain rfl : m = 1 := by omega
      have hd : decide ((1 : Int) < ((1 : Nat) : Int)) = false := by simp
      have r1 : wr.rangeAt G 0 (hv R) := by
        have := hr 0 (by omega)
        rw [← eR, Tree.root_one node f (by omega)]
        simpa using this
      have hl1 := load23 r1
      go_wp2_with (refine wpList_store_mid rfl 71 _ _ rfl B 0 _ rfl rfl (there_hv th _) (size_hv _) (all_oneCell_toArray (hv_one _)) ?_)
      exact bodyPost_ret (v := .agg (hv R).toArray) (results_mid Tryz.results61 _ _ B R rfl (range_new th _)) rfl ⟨rfl, by subst hB; exact below_setCells (Nat.le_refl _) _ _ bel⟩
end Go.Proofs.YtkoaojhldcacbaaGreatDoorH

/- Lists of texts that came in; the root of any. -/
namespace Go.Proofs.YtkoaojhldcacbaaGreatDoorH
set_option maxRecDepth 100000
set_option linter.unusedVariables false
set_option linter.unusedSimpArgs false
open Go.RowKit
def TextsIn (w : World) (a : Option Addr) (n : Nat) (t : Nat → ByteArray) : Prop := ∀ k, k < n → ∃ b off, a = some ⟨b, off, none⟩ ∧ w.cell? ⟨b, off + k, none⟩ = some (.string (t k))
theorem TextsIn.at {w : World} {a : Option Addr} {n : Nat} {t : Nat → ByteArray} (h : TextsIn w a n t) (hn : 0 < n) : ∃ b off, a = some ⟨b, off, none⟩ ∧ TextsAt w b off n t ∧ b < w.heap.size := by
  obtain ⟨b, off, rfl, h0⟩ := h 0 hn
  refine ⟨b, off, rfl, fun k hk => ?_, block_lt_of_cell h0⟩
  obtain ⟨b', off', e, hk'⟩ := h k hk
  injection e with e
  injection e with e1 e2
  subst e1 e2
  exact hk'
theorem TextsIn.next {w w' : World} {a : Option Addr} {n : Nat} {t : Nat → ByteArray} (h : TextsIn w a n t) (bq : Below w.heap.size w w') : TextsIn w' a n t := fun k hk => by
  obtain ⟨b, off, e, hc⟩ := h k hk
  exact ⟨b, off, e, by rw [bq.cell (p := ⟨b, off + k, none⟩) (block_lt_of_cell hc)]; exact hc⟩
theorem TextsIn.first {w : World} {a : Option Addr} {n : Nat} {t : Nat → ByteArray} (h : TextsIn w a n t) (m : Nat) (hm : m ≤ n) : TextsIn w a m t := fun k hk => h k (by omega)
theorem root_in {w : World} {a : Option Addr} {n : Nat} (cap : Nat) {t : Nat → ByteArray} (hK : KIn w) (hT : TextsIn w a n t) (hz : ∀ k, k < n → (t k).size < 1152921504606845000) (hn : n ≤ 8796093022208) :
    Calls Tryz.prog 61 #[.slice a n cap] w fun e w' => e = .returned (.agg (hv (rootOf n t)).toArray) ∧ Below w.heap.size w w' := by
  rcases Nat.eq_zero_or_pos n with rfl | h0
  · exact root_none _ cap t w hK
  · obtain ⟨b, off, rfl, hTA, _⟩ := hT.at h0
    exact root_some b off n cap t w hK hTA hz hn h0
end Go.Proofs.YtkoaojhldcacbaaGreatDoorH

/- Rows of hashes (of layer 3's path). -/
namespace Go.Proofs.YtkoaojhldcacbaaGreatDoorH
set_option maxRecDepth 100000
set_option linter.unusedVariables false
set_option linter.unusedSimpArgs false
open Go.RowKit
noncomputable def flatL (l : List Hs) : List Value := l.flatMap hv
theorem flatL_snoc (l : List Hs) (g : Hs) : flatL (l ++ [g]) = flatL l ++ hv g := by unfold flatL; simp
theorem flatL_get : ∀ (l : List Hs) (k j : Nat) (g : Hs), l[k]? = some g → j < 32 → (flatL l)[k * 32 + j]? = (hv g)[j]?
  | [], k, j, g, h, _ => by simp at h
  | a :: r, 0, j, g, h, hj => by
    have : a = g := by simpa using h
    subst this
    show (hv a ++ flatL r)[0 * 32 + j]? = _
    rw [List.getElem?_append_left (by rw [hv_length]; omega)]
    congr 1; omega
  | a :: r, k + 1, j, g, h, hj => by
    have h' : r[k]? = some g := by simpa using h
    show (hv a ++ flatL r)[(k + 1) * 32 + j]? = _
    rw [List.getElem?_append_right (by rw [hv_length]; omega), hv_length, ← flatL_get r k j g h' hj]
    congr 1; omega
theorem grow_range {w w' : World} {row : Option Nat} (hg : w.grownBy w' row) {b o : Nat} {cs : List Value} (h : w.rangeAt b o cs) (hne : some b ≠ row) : w'.rangeAt b o cs := fun j v hv =>
  hg.cell (a := ⟨b, o + j, none⟩) (h j v hv) hne
theorem own_next {w w' : World} {base e size n : Nat} {v : Value} {xs : List Value} (h : w.ownsRow base e size v n xs) (bq : Below w.heap.size w w') : w'.ownsRow base e size v n xs := by
  refine ⟨h.1, ?_⟩
  rcases h.2 with h0 | ⟨g, cap, cur, h1, h2, h3, h4⟩
  · exact .inl h0
  · exact .inr ⟨g, cap, cur, h1, h2, carry h3 bq, h4⟩
/-- What an owned row of hashes holds, place by place. -/
theorem own_range {w : World} {base : Nat} {v : Value} {l : List Hs} (h : w.ownsRow base 71 32 v l.length (flatL l)) {k : Nat} {x : Hs} (hk : l[k]? = some x) : ∃ g cap, v = .slice (some ⟨g, 0, none⟩) l.length cap ∧ base ≤ g ∧ w.rangeAt g (k * 32) (hv x) := by
  have hlt : k < l.length := (List.getElem?_eq_some_iff.1 hk).1
  rcases h.2 with ⟨_, h0⟩ | ⟨g, cap, cur, h1, h2, h3, h4, h5, h6, h7⟩
  · omega
  · refine ⟨g, cap, h1, h2, fun j u hj => ?_⟩
    have hj32 : j < 32 := by have := (List.getElem?_eq_some_iff.1 hj).1; rw [hv_length] at this; exact this
    have := flatL_get l k j x hk hj32
    rw [hj, ← h7, List.getElem?_take_of_lt (by omega)] at this
    rw [cell_of_row _ _ _ _ _ _ h3]
    simpa using this

end Go.Proofs.YtkoaojhldcacbaaGreatDoorH
