/- The row above one. -/
import Derived.Test.YtlpiokepagkahaaDoorBox
namespace Go.Proofs.YtlpiokepagkahaaDoor
set_option linter.unusedVariables false
set_option linter.unusedSimpArgs false
open Go.RowKit
attribute [local go_sem ↓] Go.wp_at_zero Go.wp_at_succ
attribute [local go_sem ↓] ld23 bs25
attribute [local go_sem] run_bs
theorem up_in (n : Nat) (f : Nat → Hs) (k p q : Nat) (h : p = 2 * k ∧ q = 2 * k + 1) (hq : q < n) : Tree.up node n f k = node (f p) (f q) := by
  unfold Tree.up; rw [if_pos (by omega), h.1, h.2]
theorem up_last (n : Nat) (f : Nat → Hs) (k p : Nat) (h : p = 2 * k) (hq : ¬ p + 1 < n) : Tree.up node n f k = f p := by
  unfold Tree.up; rw [if_neg (by omega), h]
theorem undrew {w w2 : World} (bq : Below w.drew.heap.size w.drew w2) : Below w.heap.size w w2 := ((Below.refl w.heap.size w).drew).trans bq
/-- One hash more at the row's end. -/
theorem one_more {w wr w2 : World} {B k m : Nat} {F : Nat → Hs} (hB : w.heap.size = B) (bel : Below B w wr) (th : wr.there B 0 (32 * m)) (hrw : HRow wr B 0 k F) (hkm : k < m) (b0 : Below wr.heap.size wr w2) (g : Hs) (hg : F k = g) :
    Below B w ((w2.alloc (.cells (hv g).toArray 23)).setCells B (k * 32) (hv g)) ∧ ((w2.alloc (.cells (hv g).toArray 23)).setCells B (k * 32) (hv g)).there B 0 (32 * m) ∧ HRow ((w2.alloc (.cells (hv g).toArray 23)).setCells B (k * 32) (hv g)) B 0 (k + 1) F := by
  have hs2 := b0.size
  have hs1 := bel.size
  have b1 : Below wr.heap.size wr (w2.alloc (.cells (hv g).toArray 23)) := b0.alloc hs2 _
  have t1 := thereNext th b1
  subst hg
  exact ⟨below_setCells (Nat.le_refl _) _ _ (bel.trans (b1.mono (by omega))), World.there_setCells t1 _ _ _, (hrw.next b1).set t1 hkm⟩
set_option maxHeartbeats 400000 in
set_option maxRecDepth 8000 in
theorem above_any (b off n cap : Nat) (f : Nat → Hs) (w : World) (hK : KIn w) (hr : HRow w b off n f) (hn : n ≤ 8796093022208) :
    Calls Tryd.prog 24 #[.slice (some ⟨b, off, none⟩) n cap] w fun e w' => e = .returned (.slice (some ⟨w.heap.size, 0, none⟩) (Tree.upLen n) (Tree.upLen n)) ∧ HRow w' w.heap.size 0 (Tree.upLen n) (Tree.up node n f) ∧ Below w.heap.size w w' := by
  obtain ⟨i, z, e1, e2, e3, e4, e5⟩ := info23x
  obtain ⟨m, hm⟩ : ∃ m, m = n / 2 + n % 2 := ⟨_, rfl⟩
  have hb2 : i.bytes * m ≤ 281474976710656 := by rw [e4]; omega
  have hb3 : m ≤ maxLen := by unfold maxLen; omega
  obtain ⟨h, Hh⟩ : ∃ h, h = n / 2 := ⟨_, rfl⟩
  have hh2 : (n : Int) / 2 = (h : Int) := by omega
  have hC : (h : Int) + (n : Int) % 2 = (m : Int) := by omega
  have HH : Hid (h = n / 2) := Hh
  clear Hh
  have hB0 := hK.lt
  have Hm : Hid (m = n / 2 + n % 2) := hm
  clear hm
  go_enter Tryd.func24, Tryd.ntmps24
  go_wp2_with (refine wpList_make_own _ rfl _ _ 25 rfl w.heap.size 23 i z 32 Tryd.underlying25 e1 e2 e3 _ _ _ m rfl rfl (by first | rfl | exact hC) hb2 hb3 (Nat.le_refl _) ?_; intro w1 own1 gr1)
  have bel1 : Below w.heap.size w w1 := (Below.refl _ _).grown gr1 (Nat.le_refl _) (fun _ h => by cases h)
  have th1 : w1.there w.heap.size 0 (32 * m) := by
    rcases own1.2 with ⟨h, _⟩ | ⟨g, cp, cur, hv1, _, hg1, _, _, hsz1, _⟩
    · cases h
    · injection hv1 with h1 h2 h3
      injection h1 with h1
      injection h1 with h1
      subst h1
      exact there_of_row hg1 0 (by omega)
  clear own1 gr1 e2 e4 e5 hb2 hb3 z
  generalize hB : w.heap.size = B at *
  go_loopw [3, 16] (fun v i wr => ∃ k : Nat, k ≤ h ∧ i = .int .i64 k ∧ v = .slice (some ⟨B, 0, none⟩) k m ∧ Below B w wr ∧ wr.there B 0 (32 * m) ∧ HRow wr B 0 k (Tree.up node n f)) (fun _ i _ => h - (intOf i).toNat)
  case atStart => exact ⟨0, by omega, rfl, rfl, bel1, th1, fun k hk => by omega⟩
  case round =>
    clear bel1 th1
    obtain ⟨k, hk, rfl, rfl, bel, th, hrw⟩ := hrel
    by_cases hlt : k < h
    · have hd : decide ((k : Int) < (h : Int)) = true := by simp; omega
      obtain ⟨p, hp⟩ : ∃ p, p = 2 * k := ⟨_, rfl⟩
      obtain ⟨q, hq⟩ : ∃ q, q = 2 * k + 1 := ⟨_, rfl⟩
      have hqn : q < n := by have := HH.out; omega
      have ep : 2 * (k : Int) = (p : Int) := by omega
      have eq : (p : Int) + 1 = (q : Int) := by omega
      have ewp : IntKind.i64.wrap (p : Int) = (p : Int) := by rw [IntKind.wrap_i64]; omega
      have ewq : IntKind.i64.wrap (q : Int) = (q : Int) := by rw [IntKind.wrap_i64]; omega
      have i0 : (0 : Int) ≤ (p : Int) := by omega
      have i1 : (p : Int) < (n : Int) := by omega
      have i2 : (0 : Int) ≤ (q : Int) := by omega
      have i3 : (q : Int) < (n : Int) := by omega
      have kr : KIn wr := hK.below bel hB0
      have r1 := hr.at (k := p) (by omega) bel hB
      have r2 := hr.at hqn bel hB
      have hl1 := load23 (w := wr.drew) (World.rangeAt_drew _ _ _ _ |>.2 r1)
      have hl2 := load23 (w := wr.drew) (World.rangeAt_drew _ _ _ _ |>.2 r2)
      have Hp : Hid (p = 2 * k ∧ q = 2 * k + 1) := ⟨hp, hq⟩
      clear hp hq
      go_wp2_with fail
      have hkm : k < m := by have := HH.out; have := Hm.out; omega
      go_region_law (first | (go_simp; go_at_call 13; refine (node_hv (f p) (f q) _ (kr.seq ((Below.refl _ _).drew))).mono ?_; rintro e w2 ⟨rfl, bq⟩) | (refine step_append_room rfl _ _ 25 rfl 23 i 32 Tryd.underlying25 e1 e3 B 0 k m rfl _ 1 1 (hv (node (f p) (f q))) rfl (hv_length _) (news_alloc w2 _ _) (hv_one _) hkm (spare_of (thereNext (World.there_drew _ _ _ _ |>.2 th) bq) hkm _) ?_))
      all_goals (go_wp2_with fail; go_round)
      all_goals first
        | exact ⟨k + 1, by omega, by go_num, rfl, one_more hB bel th hrw hkm (undrew bq) _ (up_in n f k p q Hp.out hqn)⟩
        | (show h - ((k : Int) + 1).toNat < h - ((k : Int)).toNat; omega)
    · obtain rfl : k = h := by omega
      have hd : decide ((k : Int) < (k : Int)) = false := by simp
      have kr : KIn wr := hK.below bel hB0
      by_cases hodd : n % 2 = 1
      · have ho : (n : Int) % 2 = 1 := by omega
        obtain ⟨p, hp⟩ : ∃ p, p = n - 1 := ⟨_, rfl⟩
        have ep : (n : Int) - 1 = (p : Int) := by omega
        have ewp : IntKind.i64.wrap (p : Int) = (p : Int) := by rw [IntKind.wrap_i64]; omega
        have i0 : (0 : Int) ≤ (p : Int) := by omega
        have i1 : (p : Int) < (n : Int) := by omega
        have r1 := hr.at (k := p) (by omega) bel hB
        have hl2 := load23 r1
        have hkm : k < m := by have := HH.out; have := Hm.out; omega
        have Hp : Hid (p = n - 1) := hp
        clear hp
        go_wp2_with (refine wpList_append_here rfl _ _ 25 rfl 23 i 32 Tryd.underlying25 e1 e3 B 0 k m rfl _ 1 1 (hv (f p)) rfl (hv_length _) (news_alloc wr _ _) (hv_one _) hkm (spare_of th hkm _) ?_)
        go_ret
        have hup : Tree.up node n f k = f p := up_last n f k p (by have := Hp.out; have := HH.out; omega) (by have := Hp.out; omega)
        obtain ⟨q1, q2, q3⟩ := one_more (w2 := wr) hB bel th hrw hkm (Below.refl _ _) _ hup
        have em : m = k + 1 := by have := HH.out; have := Hm.out; omega
        have eu : Tree.upLen n = k + 1 := by unfold Tree.upLen; have := HH.out; omega
        subst hB
        rw [eu]
        rw [em] at *
        exact ⟨rfl, q3, q1⟩
      · have ho : (n : Int) % 2 = 0 := by omega
        go_wp2_with fail
        go_ret
        have em : m = k := by have := HH.out; have := Hm.out; omega
        have eu : Tree.upLen n = k := by unfold Tree.upLen; have := HH.out; omega
        subst hB
        rw [eu]
        rw [em] at *
        exact ⟨rfl, hrw, bel⟩
end Go.Proofs.YtlpiokepagkahaaDoor
