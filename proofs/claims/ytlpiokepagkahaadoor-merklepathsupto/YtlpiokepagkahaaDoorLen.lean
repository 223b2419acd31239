/- Texts lent in memory of their own; are they kept? -/
import Derived.Test.YtlpiokepagkahaaDoorHol
namespace Go.Proofs.YtlpiokepagkahaaDoor
set_option linter.unusedVariables false
set_option linter.unusedSimpArgs false
open Go.RowKit
attribute [local go_sem ↓] Go.wp_at_zero Go.wp_at_succ
attribute [local go_sem ↓] sl22
abbrev markB : ByteArray := ⟨#[109, 97, 114, 107]⟩
theorem own_cap2 {w : World} {base e size g n cap : Nat} {xs : List Value} (h : w.ownsRow base e size (.slice (some ⟨g, 0, none⟩) n cap) n xs) : n ≤ cap ∧ cap ≤ 9223372036854775807 := by
  rcases h.2 with ⟨h, _⟩ | ⟨g', cap', cur, h1, _, _, h2, h3, _⟩
  · cases h
  · injection h1 with e1 e2 e3
    subst e3
    exact ⟨h2, by unfold maxLen at h3; omega⟩
set_option maxHeartbeats 400000 in
set_option maxRecDepth 8000 in
theorem lent_any {w : World} {a : Option Addr} {n : Nat} (cap : Nat) {t : Nat → ByteArray} (hK : KIn w) (hT : TextsIn w a n t) (hn : n ≤ 2097152) :
    Calls Tryd.prog 15 #[.slice a n cap] w fun e w' => ∃ g c, e = .returned (.slice (some ⟨g, 0, none⟩) n c) ∧ w'.ownsRow w.heap.size 9 1 (.slice (some ⟨g, 0, none⟩) (n + 1) c) (n + 1) (strL t n ++ [.string markB]) ∧ Below w.heap.size w w' := by
  obtain ⟨i9, z9, f1, f2, f3, f4, f5⟩ := info9x
  have hB0 := hK.lt
  rcases Nat.eq_zero_or_pos n with rfl | h0
  · have s0 : ∀ (g c : Nat) (w : World), (slT (.slice (some ⟨g, 0, none⟩) 1 c) none (some (.int .i64 0)) none).run Tryd.prog w = .ok (.slice (some ⟨g, 0, none⟩) 0 c) w := fun g c w => slice_to g 0 1 c 0 (by omega) w
    rcases a with _ | ad
    · go_enter Tryd.func15, Tryd.ntmps15
      go_wp2_with (refine wpList_append_lies _ rfl _ _ 22 rfl w.heap.size 9 i9 z9 1 16 Tryd.underlying22 f1 f2 f3 f4 f5 (by omega) (.slice none 0 0) 0 [] rfl (World.ownsRow_nil _ _ _ _) ⟨w.heap.size, 0, none⟩ 1 1 [.string markB] rfl rfl (news_str _ _ _) (by simp [Value.oneCell']) (by omega) (by unfold maxLen; omega) (by omega) (by simp) _ rfl ?_; intro g2 c2 w5 own5 grow5 at5 lt5)
      go_ret
      exact ⟨g2, c2, rfl, own5, ((Below.refl _ _).alloc (Nat.le_refl _) _).grown grow5 (by simp) (fun k hk => by simp [Value.ownBlock] at hk)⟩
    · go_enter Tryd.func15, Tryd.ntmps15
      go_wp2_with (refine wpList_append_lies _ rfl _ _ 22 rfl w.heap.size 9 i9 z9 1 16 Tryd.underlying22 f1 f2 f3 f4 f5 (by omega) (.slice none 0 0) 0 [] rfl (World.ownsRow_nil _ _ _ _) ⟨w.heap.size, 0, none⟩ 1 1 [.string markB] rfl rfl (news_str _ _ _) (by simp [Value.oneCell']) (by omega) (by unfold maxLen; omega) (by omega) (by simp) _ rfl ?_; intro g2 c2 w5 own5 grow5 at5 lt5)
      go_ret
      exact ⟨g2, c2, rfl, own5, ((Below.refl _ _).alloc (Nat.le_refl _) _).grown grow5 (by simp) (fun k hk => by simp [Value.ownBlock] at hk)⟩
  · obtain ⟨b, off, rfl, hTA, hb⟩ := hT.at h0
    go_enter Tryd.func15, Tryd.ntmps15
    go_wp2_with (first
      | (refine wpList_append_lies _ rfl _ _ 22 rfl w.heap.size 9 i9 z9 1 16 Tryd.underlying22 f1 f2 f3 f4 f5 (by omega) (.slice none 0 0) 0 [] rfl (World.ownsRow_nil _ _ _ _) ⟨b, off, none⟩ n cap (strL t n) rfl (by rw [strL_length]; omega) (strL_news hTA) (strL_one _ _) h0 (by unfold maxLen; omega) (by omega) (Nat.le_refl _) _ rfl ?_; intro g1 c1 w4 own4 grow4 at4 lt4; rw [Nat.zero_add, List.nil_append] at own4)
      | (refine wpList_append_lies _ rfl _ _ 22 rfl w.heap.size 9 i9 z9 1 16 Tryd.underlying22 f1 f2 f3 f4 f5 (by omega) (.slice (some ⟨g1, 0, none⟩) n c1) n (strL t n) rfl (own4.alloc _) ⟨w4.heap.size, 0, none⟩ 1 1 [.string markB] rfl rfl (news_str _ _ _) (by simp [Value.oneCell']) (by omega) (by unfold maxLen; omega) (by omega) (by have := grow4.size; simp; omega) _ rfl ?_; intro g2 c2 w5 own5 grow5 at5 lt5; have hs := slice_to g2 0 (n + 1) c2 n (by have := (own_cap2 own5).1; omega)))
    go_ret
    have b4 : Below w.heap.size w w4 := (Below.refl _ _).grown grow4 (Nat.le_refl _) (fun k hk => by simp [Value.ownBlock] at hk)
    exact ⟨g2, c2, rfl, own5, (b4.alloc b4.size _).grown grow5 (by have := b4.size; simp; omega) (fun k hk => (own4.lt k hk).1)⟩
set_option maxHeartbeats 400000 in
set_option maxRecDepth 8000 in
theorem sameTexts_any {w : World} {a a2 : Option Addr} {n : Nat} (cap cap2 : Nat) {t : Nat → ByteArray} (hT : TextsIn w a n t) (hT2 : TextsIn w a2 n t) (hn : n ≤ 2097152) :
    Calls Tryd.prog 32 #[.slice a n cap, .slice a2 n cap2] w fun e w' => e = .returned (.bool true) ∧ Below w.heap.size w w' := by
  go_enter Tryd.func32, Tryd.ntmps32
  go_wp2_with fail
  go_loopw [5] (fun i wr => ∃ k : Nat, k ≤ n ∧ i = .int .i64 (k : Int) ∧ Below w.heap.size w wr) (fun i _ => n - (intOf i).toNat)
  case atStart => exact ⟨0, by omega, rfl, Below.refl _ _⟩
  case round =>
    obtain ⟨k, hk, rfl, bel⟩ := hrel
    by_cases hlt : k < n
    · have hd : decide ((k : Int) < (n : Int)) = true := by simp; omega
      have i0 : (0 : Int) ≤ (k : Int) := by omega
      have i1 : (k : Int) < (n : Int) := by omega
      obtain ⟨b, off, rfl, hTA, _⟩ := hT.at (by omega)
      obtain ⟨b2, off2, rfl, hTA2, _⟩ := hT2.at (by omega)
      have c1 := (hTA.next bel) k hlt
      have c2 := (hTA2.next bel) k hlt
      go_wp2_with fail
      go_quiet (fail)
      all_goals go_wp2_with fail
      all_goals go_round
      case rel => exact ⟨k + 1, by omega, by go_num, ⟨bel.os, bel.tape, bel.output, bel.size, bel.block⟩⟩
      case measure => simp [intOf]; omega
    · obtain rfl : k = n := by omega
      have hd : decide ((k : Int) < (k : Int)) = false := by simp
      go_wp2_with fail
      go_ret
      exact ⟨rfl, bel⟩
set_option maxHeartbeats 400000 in
set_option maxRecDepth 8000 in
theorem kept_any {w : World} {g n c : Nat} {a2 : Option Addr} (cap2 : Nat) {t : Nat → ByteArray} (hT : TextsAt w g 0 n t) (hT2 : TextsIn w a2 n t) (hm : w.cell? ⟨g, n, none⟩ = some (.string markB)) (hc : n + 1 ≤ c) (hn : n ≤ 2097152) :
    Calls Tryd.prog 17 #[.slice (some ⟨g, 0, none⟩) n c, .slice a2 n cap2] w fun e w' => e = .returned (.bool true) ∧ Below w.heap.size w w' := by
  have hS : ∀ {w' : World}, Below w.heap.size w w' → Calls Tryd.prog 32 #[.slice (some ⟨g, 0, none⟩) n c, .slice a2 n cap2] w' fun e w2 => e = .returned (.bool true) ∧ Below w'.heap.size w' w2 := fun bq =>
    sameTexts_any c cap2 (fun k hk => ⟨g, 0, rfl, (hT.next bq) k hk⟩) (hT2.next bq) hn
  obtain ⟨n1, hn1⟩ : ∃ n1, n1 = n + 1 := ⟨_, rfl⟩
  have en : (n : Int) + 1 = (n1 : Int) := by omega
  have ew : IntKind.i64.wrap (n1 : Int) = (n1 : Int) := by rw [IntKind.wrap_i64]; omega
  have s1 := slice_to g 0 n c n1 (by omega)
  have i0 : (0 : Int) ≤ (n : Int) := by omega
  have i1 : (n : Int) < (n1 : Int) := by omega
  have Hn1 : Hid (n1 = n + 1) := hn1
  clear hn1
  have cM : Hid (∀ w', Below w.heap.size w w' → w'.cell? ⟨g, n, none⟩ = some (.string markB)) := fun w' bq => by
    rw [bq.cell (p := ⟨g, n, none⟩) (block_lt_of_cell hm)]; exact hm
  go_enter Tryd.func17, Tryd.ntmps17
  go_wp2_with fail
  refine (hS (Below.refl _ _)).mono ?_
  rintro e w2 ⟨rfl, bq⟩
  have c1 := cM.out _ bq
  go_wp2_with fail
  go_ret
  exact ⟨rfl, bq⟩
end Go.Proofs.YtlpiokepagkahaaDoor
