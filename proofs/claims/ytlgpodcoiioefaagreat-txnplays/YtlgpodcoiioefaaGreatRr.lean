/- The reference's Read. -/
import Derived.Test.YtlgpodcoiioefaaGreatRf
namespace Go.Proofs.YtlgpodcoiioefaaGreat
set_option linter.unusedVariables false
set_option linter.unusedSimpArgs false
open Go.RowKit Go.Maps
variable {w0 w w' : World} {Ls : List (Th → Prop)} {b x g : Nat} {B : List ByteArray} {W : Wl} {o : Bool}
theorem lookW_at : ∀ {W : Wl} {k n : Nat} {Y : ByteArray}, (∀ p ∈ W.take k, p.1 ≠ n) → W[k]? = some (n, Y) → lookW W n = some Y
  | [], k, n, Y, _, h => by simp at h
  | p :: r, 0, n, Y, _, h => by
    have : p = (n, Y) := by simpa using h
    subst this
    simp [lookW]
  | p :: r, k + 1, n, Y, hn, h => by
    have h0 : p.1 ≠ n := hn p (by simp)
    show (if p.1 = n then some p.2 else lookW r n) = some Y
    rw [if_neg h0]
    exact lookW_at (k := k) (fun q hq => hn q (by rw [List.take_succ_cons]; exact List.mem_cons_of_mem _ hq)) (by simpa using h)
theorem lookW_miss : ∀ {W : Wl} {n : Nat}, (∀ p ∈ W, p.1 ≠ n) → lookW W n = none
  | [], _, _ => rfl
  | p :: r, n, h => by
    show (if p.1 = n then some p.2 else lookW r n) = none
    rw [if_neg (h p List.mem_cons_self)]
    exact lookW_miss (fun q hq => h q (List.mem_cons_of_mem _ hq))
theorem lookI_at {W : Wl} {k : Nat} {n : Int} {N : Nat} {Y : ByteArray} (hn : ∀ p ∈ W.take k, (p.1 : Int) ≠ n) (h : W[k]? = some (N, Y)) (e : (N : Int) = n) : lookI W n = some Y := by
  subst e
  unfold lookI
  rw [if_neg (by omega), Int.toNat_natCast]
  exact lookW_at (fun p hp e => hn p hp (by omega)) h
theorem lookI_miss {W : Wl} {n : Int} (hn : ∀ p ∈ W, (p.1 : Int) ≠ n) : lookI W n = none := by
  unfold lookI
  by_cases h : n < 0
  · rw [if_pos h]
  · rw [if_neg h]
    exact lookW_miss (fun p hp e => hn p hp (by omega))
/-- what a transaction that is under way reads -/
def rdV (W : Wl) (B : List ByteArray) (n : Int) : Value := match lookI W n with
  | some t => .tuple #[.string t, .int .i64 0]
  | none => if 0 ≤ n ∧ n < B.length then .tuple #[.string (B.getD n.toNat ByteArray.empty), .int .i64 0] else .tuple #[.string ⟨#[]⟩, .int .i64 1]
set_option maxRecDepth 100000 in
theorem rread_over (h : EnvP w0 w Ls) (i : Nat) (hi : Ls[i]? = some (rt x g W true)) (v : Value) : Calls Tryz.prog 23 #[pt x, v] w fun e w' => e = .returned (.tuple #[.string ⟨#[]⟩, .int .i64 8]) ∧ ∃ k, w' = w.drewN k := by
  obtain ⟨v, hne, hx, hm, _⟩ := h.rt i hi
  have c2 : w.cell? ⟨x, 2, none⟩ = some (.bool true) := cell_of_row w x 2 _ _ (0, 0) hx
  clear h hi hx hm
  go_enter Tryz.func23, Tryz.ntmps23
  go_wp2
  go_ret2
  exact ⟨rfl, 0, rfl⟩
set_option maxRecDepth 100000 in
theorem rread_env (h : EnvP w0 w Ls) (i j : Nat) (hi : Ls[i]? = some (rt x b W false)) (hj : Ls[j]? = some (rl b B)) (n : Int) (hl : W.length ≤ 8192) (hB : B.length ≤ 8192) : Calls Tryz.prog 23 #[pt x, .int .i64 n] w fun e w' => e = .returned (rdV W B n) ∧ ∃ k, w' = w.drewN k := by
  obtain ⟨v, hne, hx, hm, _⟩ := h.rt i hi
  obtain ⟨vl, hnb, hb, hmb, _⟩ := h.rl j hj
  obtain ⟨a, c, rfl⟩ := own_slice hm
  obtain ⟨la, lc, rfl, hls⟩ := own_sin hmb
  have c0 : w.cell? ⟨x, 0, none⟩ = some (pt b) := cell_of_row w x 0 _ _ (0, 0) hx
  have c1 : w.cell? ⟨x, 1, none⟩ = some (.slice a W.length c) := cell_of_row w x 1 _ _ (0, 0) hx
  have c2 : w.cell? ⟨x, 2, none⟩ = some (.bool false) := cell_of_row w x 2 _ _ (0, 0) hx
  have d0 : w.cell? ⟨b, 0, none⟩ = some (.slice la B.length lc) := cell_of_row w b 0 _ _ (0, 0) hb
  have HW : Hid (∀ (k : Nat) (p : Nat × ByteArray), W[k]? = some p → ∃ g, a = some ⟨g, 0, none⟩ ∧ w.cell? ⟨g, k * 2, none⟩ = some (.int .i64 (p.1 : Int)) ∧ w.cell? ⟨g, k * 2 + 1, none⟩ = some (.string p.2)) := ⟨fun k p hp => by
    rcases hm.2 with ⟨_, h0⟩ | ⟨g, cap, cur, e, _⟩
    · have := (List.getElem?_eq_some_iff.1 hp).1; omega
    · injection e with e1 _ _
      subst e1
      have hm' : w.ownsRow 0 78 2 (.slice (some ⟨g, 0, none⟩) W.length c) (ints W).length (wci (ints W)) := by rw [wci_ints, ints_length]; exact hm
      obtain ⟨q0, q1⟩ := own_cell2 (l := ints W) hm' k _ (ints_at W k p hp)
      exact ⟨g, rfl, q0, q1⟩⟩
  have HLS : Hid (SIn w la B) := ⟨hls⟩
  obtain ⟨R, hR⟩ : ∃ R, rdV W B n = R := ⟨_, rfl⟩
  have HR : Hid (rdV W B n = R) := ⟨hR⟩
  rw [hR]
  clear h hi hx hm hj hb hmb hls hR
  go_enter Tryz.func23, Tryz.ntmps23
  go_wp2_with fail
  go_loopw [6] (fun i wr => ∃ k m : Nat, k ≤ W.length ∧ i = .int .i64 (k : Int) ∧ wr = w.drewN m ∧ Hid (∀ p ∈ W.take k, (p.1 : Int) ≠ n)) (fun i _ => W.length - (intOf i).toNat)
  case atStart => exact ⟨0, 0, Nat.zero_le _, rfl, rfl, ⟨fun p hp => by simp at hp⟩⟩
  case round =>
    obtain ⟨k, m, hk, rfl, rfl, HT⟩ := hrel
    by_cases hlt : k < W.length
    · obtain ⟨⟨N, Y⟩, hz⟩ : ∃ z, W[k]? = some z := ⟨_, List.getElem?_eq_getElem hlt⟩
      obtain ⟨g, rfl, cN, cY⟩ := HW.out k _ hz
      simp only at cN cY
      have hi : (k : Int) < W.length := by omega
      by_cases e : (N : Int) = n
      · have e1 : R = .tuple #[.string Y, .int .i64 0] := by rw [← HR.out, rdV, lookI_at HT.out hz e]
        subst e1 e
        clear hz HT HR HW
        go_wp2
        go_ret2
        exact ⟨rfl, _, rfl⟩
      · have HT2 : Hid (∀ p ∈ W.take (k + 1), (p.1 : Int) ≠ n) := ⟨fun p hp => by
          rw [List.take_succ_eq_append_getElem hlt, Option.some.inj ((List.getElem?_eq_getElem hlt).symm.trans hz)] at hp
          rcases List.mem_append.1 hp with hp | hp
          · exact HT.out p hp
          · simp at hp; subst hp; exact e⟩
        clear hz HT
        go_wp2
        go_roundw
        case rel => exact ⟨k + 1, m, by omega, by go_num, rfl, HT2⟩
        case measure => simp [intOf]; omega
    · have hke : k = W.length := by omega
      subst hke
      have hi : ¬ ((W.length : Int) < W.length) := by omega
      have hlk : lookI W n = none := lookI_miss (by have := HT.out; rwa [List.take_length] at this)
      have hrr := HR.out
      rw [rdV, hlk] at hrr
      simp only at hrr
      clear hlk HT HR
      by_cases h0 : n < 0
      · rw [if_neg (by omega)] at hrr
        subst hrr
        go_wp2
        go_ret2
        exact ⟨rfl, _, rfl⟩
      · by_cases h1 : n < B.length
        · rw [if_pos ⟨by omega, h1⟩] at hrr
          obtain ⟨N, rfl⟩ : ∃ N : Nat, n = N := ⟨n.toNat, by omega⟩
          obtain ⟨t, ht⟩ : ∃ t, B[N]? = some t := ⟨_, List.getElem?_eq_getElem (by omega)⟩
          obtain ⟨lb, off, rfl, ct⟩ := HLS.out N t ht
          have et : B.getD (N : Int).toNat ByteArray.empty = t := by rw [Int.toNat_natCast, List.getD_eq_getElem?_getD, ht]; rfl
          rw [et] at hrr
          subst hrr
          clear et ht
          go_wp2
          go_ret2
          exact ⟨rfl, _, rfl⟩
        · rw [if_neg (by omega)] at hrr
          subst hrr
          go_wp2
          go_ret2
          exact ⟨rfl, _, rfl⟩
end Go.Proofs.YtlgpodcoiioefaaGreat
