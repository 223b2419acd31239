import Derived.Test.YtlgpodcoiioefaaGreatOpn8
import Derived.Test.YtlgpodcoiioefaaGreatFs8
import Derived.Test.YtlgpodcoiioefaaGreatIns
import Derived.Deep.CutRange
/- The reference's log and transactions: their blocks, Begin, Dirty, Abort, Read. -/
namespace Go.Proofs.YtlgpodcoiioefaaGreat
set_option linter.unusedVariables false
set_option linter.unusedSimpArgs false
open Go.RowKit Go.Maps
/-- the reference's log: a block with a slice of texts -/
def rlTh (b : Nat) (v : Value) (B : List ByteArray) : Th := ⟨fun k => k = b ∨ v.ownBlock = some k, fun w => w.heap[b]? = some (.cells #[v] 43 (0, 0)) ∧ w.ownsRow 0 9 1 v B.length (strv B),
  fun w h k hk => by rcases hk with rfl | hk; exact heap_lt h.1; exact (h.2.lt k hk).2,
  fun S w w' h fr hs => ⟨fr.heap h.1 (hs b (.inl rfl)), fr.own h.2 (fun k hk => hs k (.inr hk))⟩⟩
def rl (b : Nat) (B : List ByteArray) : Th → Prop := fun t => ∃ v : Value, v.ownBlock ≠ some b ∧ t = rlTh b v B
/-- the reference's transaction -/
def rtTh (x g : Nat) (v : Value) (W : Wl) (o : Bool) : Th := ⟨fun k => k = x ∨ v.ownBlock = some k, fun w => w.heap[x]? = some (.cells #[pt g, v, .bool o] 67 (0, 0)) ∧ w.ownsRow 0 78 2 v W.length (wcs W),
  fun w h k hk => by rcases hk with rfl | hk; exact heap_lt h.1; exact (h.2.lt k hk).2,
  fun S w w' h fr hs => ⟨fr.heap h.1 (hs x (.inl rfl)), fr.own h.2 (fun k hk => hs k (.inr hk))⟩⟩
def rt (x g : Nat) (W : Wl) (o : Bool) : Th → Prop := fun t => ∃ v : Value, v.ownBlock ≠ some x ∧ t = rtTh x g v W o
section
variable {w0 w w' : World} {Ls : List (Th → Prop)} {b x g : Nat} {B : List ByteArray} {W : Wl} {o : Bool}
theorem EnvP.rl (h : EnvP w0 w Ls) (i : Nat) (hi : Ls[i]? = some (rl b B)) : ∃ v : Value, v.ownBlock ≠ some b ∧ w.heap[b]? = some (.cells #[v] 43 (0, 0)) ∧ w.ownsRow 0 9 1 v B.length (strv B) ∧
    ∀ w' (v' : Value) B', w'.heap[b]? = some (.cells #[v'] 43 (0, 0)) → w'.ownsRow 0 9 1 v' B'.length (strv B') → Fr (fun k => k = b ∨ v.ownBlock = some k) w w' → (∀ k, v'.ownBlock = some k → v.ownBlock = some k ∨ w.heap.size ≤ k) → EnvP w0 w' (Ls.set i (rl b B')) := by
  obtain ⟨t, ⟨v, hne, rfl⟩, ha, ho, hn⟩ := h.get i _ hi
  refine ⟨v, hne, ha.1, ha.2, fun w' v' B' h1 h2 fr nw => hn w' (rlTh b v' B') _ ⟨v', fun e => ?_, rfl⟩ fr ⟨h1, h2⟩ (fun k hk => ?_)⟩
  · rcases nw b e with e | e
    · exact hne e
    · have := heap_lt ha.1; omega
  · rcases hk with rfl | hk
    · exact .inl (.inl rfl)
    · rcases nw k hk with e | e
      · exact .inl (.inr e)
      · exact .inr e
theorem EnvP.rt (h : EnvP w0 w Ls) (i : Nat) (hi : Ls[i]? = some (rt x g W o)) : ∃ v : Value, v.ownBlock ≠ some x ∧ w.heap[x]? = some (.cells #[pt g, v, .bool o] 67 (0, 0)) ∧ w.ownsRow 0 78 2 v W.length (wcs W) ∧
    ∀ w' (v' : Value) W' o', w'.heap[x]? = some (.cells #[pt g, v', .bool o'] 67 (0, 0)) → w'.ownsRow 0 78 2 v' W'.length (wcs W') → Fr (fun k => k = x ∨ v.ownBlock = some k) w w' → (∀ k, v'.ownBlock = some k → v.ownBlock = some k ∨ w.heap.size ≤ k) → EnvP w0 w' (Ls.set i (rt x g W' o')) := by
  obtain ⟨t, ⟨v, hne, rfl⟩, ha, ho, hn⟩ := h.get i _ hi
  refine ⟨v, hne, ha.1, ha.2, fun w' v' W' o' h1 h2 fr nw => hn w' (rtTh x g v' W' o') _ ⟨v', fun e => ?_, rfl⟩ fr ⟨h1, h2⟩ (fun k hk => ?_)⟩
  · rcases nw x e with e | e
    · exact hne e
    · have := heap_lt ha.1; omega
  · rcases hk with rfl | hk
    · exact .inl (.inl rfl)
    · rcases nw k hk with e | e
      · exact .inl (.inr e)
      · exact .inr e
set_option maxRecDepth 100000 in
theorem rbegin_env (h : EnvP w0 w Ls) (g : Nat) : Calls Tryz.prog 22 #[pt g] w fun e w' => ∃ x, e = .returned (pt x) ∧ EnvP w0 w' (Ls ++ [Go.Proofs.YtlgpodcoiioefaaGreat.rt x g [] false]) := by
  have H : Hid (EnvP w0 w Ls) := ⟨h⟩
  clear h
  go_enter Tryz.func22, Tryz.ntmps22
  go_wp2
  go_ret
  refine ⟨w.heap.size, rfl, H.out.push (rtTh w.heap.size g (.slice none 0 0) [] false) _ ⟨_, fun e => (by cases e), rfl⟩ ((Below.refl _ _).alloc (Nat.le_refl _) _) ⟨heap_alloc_new w _, World.ownsRow_nil _ _ _ _⟩ ?_⟩
  intro k hk
  rcases hk with rfl | hk
  · exact Nat.le_refl _
  · cases hk
set_option maxRecDepth 100000 in
theorem rabort_env (h : EnvP w0 w Ls) (i : Nat) (hi : Ls[i]? = some (Go.Proofs.YtlgpodcoiioefaaGreat.rt x g W o)) : Calls Tryz.prog 27 #[pt x] w fun e w' => e = .returned (.tuple #[]) ∧ EnvP w0 w' (Ls.set i (Go.Proofs.YtlgpodcoiioefaaGreat.rt x g W true)) := by
  obtain ⟨v, hne, hx, hm, hn⟩ := h.rt i hi
  have c2 : w.cell? ⟨x, 2, none⟩ = some (.bool o) := cell_of_row w x 2 _ _ (0, 0) hx
  have f2 : w.frozen? ⟨x, 2, none⟩ = false := frozen_of_row w x 2 _ _ hx
  have h1 : (w.setCell ⟨x, 2, none⟩ (.bool true)).heap[x]? = some (.cells #[pt g, v, .bool true] 67 (0, 0)) := cell_set w x 2 _ _ _ hx
  have fr1 : Fr (fun k => k = x) w (w.setCell ⟨x, 2, none⟩ (.bool true)) := fr_set w x 2 _ rfl
  have HE : Hid (EnvP w0 (w.setCell ⟨x, 2, none⟩ (.bool true)) (Ls.set i (Go.Proofs.YtlgpodcoiioefaaGreat.rt x g W true))) := ⟨hn _ v W true h1 (fr1.own hm (fun k hk e => hne (by rw [hk, e]))) (fr1.mono (fun k _ e => .inl e)) (fun k hk => .inl hk)⟩
  clear h hi hx hm hn h1 fr1
  go_enter Tryz.func27, Tryz.ntmps27
  go_wp2
  all_goals (first | go_end0 | refine bodyPost_ret (results_none rfl _ _ _) rfl ?_)
  exact ⟨rfl, HE.out⟩
set_option maxRecDepth 100000 in
theorem rdirty_env (h : EnvP w0 w Ls) (i : Nat) (hi : Ls[i]? = some (Go.Proofs.YtlgpodcoiioefaaGreat.rt x g W o)) {n : Int} (hn : n = if o then 0 else (W.length : Int)) : Calls Tryz.prog 10 #[pt x] w fun e w' => e = .returned (.int .i64 n) ∧ ∃ k, w' = w.drewN k := by
  obtain ⟨v, hne, hx, hm, _⟩ := h.rt i hi
  obtain ⟨a, c, rfl⟩ := own_slice hm
  have c1 : w.cell? ⟨x, 1, none⟩ = some (.slice a W.length c) := cell_of_row w x 1 _ _ (0, 0) hx
  have c2 : w.cell? ⟨x, 2, none⟩ = some (.bool o) := cell_of_row w x 2 _ _ (0, 0) hx
  subst hn
  clear h hi hx hm
  cases o with
  | true =>
    go_enter Tryz.func10, Tryz.ntmps10
    go_wp2
    go_ret
    exact ⟨rfl, 0, rfl⟩
  | false =>
    go_enter Tryz.func10, Tryz.ntmps10
    go_wp2
    go_ret
    exact ⟨rfl, 0, rfl⟩
end
end Go.Proofs.YtlgpodcoiioefaaGreat

/- The reference's Read. -/
namespace Go.Proofs.YtlgpodcoiioefaaGreat
set_option linter.unusedVariables false
set_option linter.unusedSimpArgs false
open Go.RowKit Go.Maps
variable {w0 w w' : World} {Ls : List (Th → Prop)} {b x g : Nat} {B : List ByteArray} {W : Wl} {o : Bool}
theorem lookW_at : ∀ {W : Wl} {k n : Nat} {Y : ByteArray}, (∀ p ∈ W.take k, p.1 ≠ n) → W[k]? = some (n, Y) → lookW W n = some Y
  | [], k, n, Y, _, h => by simp at h
  | p :: r, 0, n, Y, _, h => by
    have : p = (n, Y) := by simpa using h
    subst this
    simp [lookW]
  | p :: r, k + 1, n, Y, hn, h => by
    have h0 : p.1 ≠ n := hn p (by simp)
    show (if p.1 = n then some p.2 else lookW r n) = some Y
    rw [if_neg h0]
    exact lookW_at (k := k) (fun q hq => hn q (by rw [List.take_succ_cons]; exact List.mem_cons_of_mem _ hq)) (by simpa using h)
theorem lookW_miss : ∀ {W : Wl} {n : Nat}, (∀ p ∈ W, p.1 ≠ n) → lookW W n = none
  | [], _, _ => rfl
  | p :: r, n, h => by
    show (if p.1 = n then some p.2 else lookW r n) = none
    rw [if_neg (h p List.mem_cons_self)]
    exact lookW_miss (fun q hq => h q (List.mem_cons_of_mem _ hq))
theorem lookI_at {W : Wl} {k : Nat} {n : Int} {N : Nat} {Y : ByteArray} (hn : ∀ p ∈ W.take k, (p.1 : Int) ≠ n) (h : W[k]? = some (N, Y)) (e : (N : Int) = n) : lookI W n = some Y := by
  subst e
  unfold lookI
  rw [if_neg (by omega), Int.toNat_natCast]
  exact lookW_at (fun p hp e => hn p hp (by omega)) h
theorem lookI_miss {W : Wl} {n : Int} (hn : ∀ p ∈ W, (p.1 : Int) ≠ n) : lookI W n = none := by
  unfold lookI
  by_cases h : n < 0
  · rw [if_pos h]
  · rw [if_neg h]
    exact lookW_miss (fun p hp e => hn p hp (by omega))
/-- what a transaction that is under way reads -/
def rdV (W : Wl) (B : List ByteArray) (n : Int) : Value := match lookI W n with
  | some t => .tuple #[.string t, .int .i64 0]
  | none => if 0 ≤ n ∧ n < B.length then .tuple #[.string (B.getD n.toNat ByteArray.empty), .int .i64 0] else .tuple #[.string ⟨#[]⟩, .int .i64 1]
set_option maxRecDepth 100000 in
theorem rread_over (h : EnvP w0 w Ls) (i : Nat) (hi : Ls[i]? = some (rt x g W true)) (v : Value) : Calls Tryz.prog 23 #[pt x, v] w fun e w' => e = .returned (.tuple #[.string ⟨#[]⟩, .int .i64 8]) ∧ ∃ k, w' = w.drewN k := by
  obtain ⟨v, hne, hx, hm, _⟩ := h.rt i hi
  have c2 : w.cell? ⟨x, 2, none⟩ = some (.bool true) := cell_of_row w x 2 _ _ (0, 0) hx
  clear h hi hx hm
  go_enter Tryz.func23, Tryz.ntmps23
  go_wp2
  go_ret2
  exact ⟨rfl, 0, rfl⟩
set_option maxRecDepth 100000 in
theorem rread_env (h : EnvP w0 w Ls) (i j : Nat) (hi : Ls[i]? = some (rt x b W false)) (hj : Ls[j]? = some (rl b B)) (n : Int) (hl : W.length ≤ 8192) (hB : B.length ≤ 8192) : Calls Tryz.prog 23 #[pt x, .int .i64 n] w fun e w' => e = .returned (rdV W B n) ∧ ∃ k, w' = w.drewN k := by
  obtain ⟨v, hne, hx, hm, _⟩ := h.rt i hi
  obtain ⟨vl, hnb, hb, hmb, _⟩ := h.rl j hj
  obtain ⟨a, c, rfl⟩ := own_slice hm
  obtain ⟨la, lc, rfl, hls⟩ := own_sin hmb
  have c0 : w.cell? ⟨x, 0, none⟩ = some (pt b) := cell_of_row w x 0 _ _ (0, 0) hx
  have c1 : w.cell? ⟨x, 1, none⟩ = some (.slice a W.length c) := cell_of_row w x 1 _ _ (0, 0) hx
  have c2 : w.cell? ⟨x, 2, none⟩ = some (.bool false) := cell_of_row w x 2 _ _ (0, 0) hx
  have d0 : w.cell? ⟨b, 0, none⟩ = some (.slice la B.length lc) := cell_of_row w b 0 _ _ (0, 0) hb
  have HW : Hid (∀ (k : Nat) (p : Nat × ByteArray), W[k]? = some p → ∃ g, a = some ⟨g, 0, none⟩ ∧ w.cell? ⟨g, k * 2, none⟩ = some (.int .i64 (p.1 : Int)) ∧ w.cell? ⟨g, k * 2 + 1, none⟩ = some (.string p.2)) := ⟨fun k p hp => by
    rcases hm.2 with ⟨_, h0⟩ | ⟨g, cap, cur, e, _⟩
    · have := (List.getElem?_eq_some_iff.1 hp).1; omega
    · injection e with e1 _ _
      subst e1
      have hm' : w.ownsRow 0 78 2 (.slice (some ⟨g, 0, none⟩) W.length c) (ints W).length (wci (ints W)) := by rw [wci_ints, ints_length]; exact hm
      obtain ⟨q0, q1⟩ := own_cell2 (l := ints W) hm' k _ (ints_at W k p hp)
      exact ⟨g, rfl, q0, q1⟩⟩
  have HLS : Hid (SIn w la B) := ⟨hls⟩
  obtain ⟨R, hR⟩ : ∃ R, rdV W B n = R := ⟨_, rfl⟩
  have HR : Hid (rdV W B n = R) := ⟨hR⟩
  rw [hR]
  clear h hi hx hm hj hb hmb hls hR
  go_enter Tryz.func23, Tryz.ntmps23
  go_wp2_with fail
  go_loopw [6] (fun i wr => ∃ k m : Nat, k ≤ W.length ∧ i = .int .i64 (k : Int) ∧ wr = w.drewN m ∧ Hid (∀ p ∈ W.take k, (p.1 : Int) ≠ n)) (fun i _ => W.length - (intOf i).toNat)
  case atStart => exact ⟨0, 0, Nat.zero_le _, rfl, rfl, ⟨fun p hp => by simp at hp⟩⟩
  case round =>
    obtain ⟨k, m, hk, rfl, rfl, HT⟩ := hrel
    by_cases hlt : k < W.length
    · obtain ⟨⟨N, Y⟩, hz⟩ : ∃ z, W[k]? = some z := ⟨_, List.getElem?_eq_getElem hlt⟩
      obtain ⟨g, rfl, cN, cY⟩ := HW.out k _ hz
      simp only at cN cY
      have hi : (k : Int) < W.length := by omega
      by_cases e : (N : Int) = n
      · have e1 : R = .tuple #[.string Y, .int .i64 0] := by rw [← HR.out, rdV, lookI_at HT.out hz e]
        subst e1 e
        clear hz HT HR HW
        go_wp2
        go_ret2
        exact ⟨rfl, _, rfl⟩
      · have HT2 : Hid (∀ p ∈ W.take (k + 1), (p.1 : Int) ≠ n) := ⟨fun p hp => by
          rw [List.take_succ_eq_append_getElem hlt, Option.some.inj ((List.getElem?_eq_getElem hlt).symm.trans hz)] at hp
          rcases List.mem_append.1 hp with hp | hp
          · exact HT.out p hp
          · simp at hp; subst hp; exact e⟩
        clear hz HT
        go_wp2
        go_roundw
        case rel => exact ⟨k + 1, m, by omega, by go_num, rfl, HT2⟩
        case measure => simp [intOf]; omega
    · have hke : k = W.length := by omega
      subst hke
      have hi : ¬ ((W.length : Int) < W.length) := by omega
      have hlk : lookI W n = none := lookI_miss (by have := HT.out; rwa [List.take_length] at this)
      have hrr := HR.out
      rw [rdV, hlk] at hrr
      simp only at hrr
      clear hlk HT HR
      by_cases h0 : n < 0
      · rw [if_neg (by omega)] at hrr
        subst hrr
        go_wp2
        go_ret2
        exact ⟨rfl, _, rfl⟩
      · by_cases h1 : n < B.length
        · rw [if_pos ⟨by omega, h1⟩] at hrr
          obtain ⟨N, rfl⟩ : ∃ N : Nat, n = N := ⟨n.toNat, by omega⟩
          obtain ⟨t, ht⟩ : ∃ t, B[N]? = some t := ⟨_, List.getElem?_eq_getElem (by omega)⟩
          obtain ⟨lb, off, rfl, ct⟩ := HLS.out N t ht
          have et : B.getD (N : Int).toNat ByteArray.empty = t := by rw [Int.toNat_natCast, List.getD_eq_getElem?_getD, ht]; rfl
          rw [et] at hrr
          subst hrr
          clear et ht
          go_wp2
          go_ret2
          exact ⟨rfl, _, rfl⟩
        · rw [if_neg (by omega)] at hrr
          subst hrr
          go_wp2
          go_ret2
          exact ⟨rfl, _, rfl⟩
end Go.Proofs.YtlgpodcoiioefaaGreat

/- The reference's Write. -/
namespace Go.Proofs.YtlgpodcoiioefaaGreat
set_option linter.unusedVariables false
set_option linter.unusedSimpArgs false
open Go.RowKit Go.Maps
variable {w0 w w' : World} {Ls : List (Th → Prop)} {b x g : Nat} {B : List ByteArray} {W : Wl} {o : Bool}
set_option maxRecDepth 100000 in
theorem rwrite_over (h : EnvP w0 w Ls) (i : Nat) (hi : Ls[i]? = some (rt x g W true)) (v t : Value) : Calls Tryz.prog 24 #[pt x, v, t] w fun e w' => e = .returned (.int .i64 8) ∧ ∃ k, w' = w.drewN k := by
  obtain ⟨v, hne, hx, hm, _⟩ := h.rt i hi
  have c2 : w.cell? ⟨x, 2, none⟩ = some (.bool true) := cell_of_row w x 2 _ _ (0, 0) hx
  clear h hi hx hm
  go_enter Tryz.func24, Tryz.ntmps24
  go_wp2
  go_ret
  exact ⟨rfl, 0, rfl⟩
set_option maxRecDepth 100000 in
theorem rwrite_bad (h : EnvP w0 w Ls) (i j : Nat) (hi : Ls[i]? = some (rt x b W false)) (hj : Ls[j]? = some (rl b B)) (z : Int) (t : ByteArray) (hz : ¬ (0 ≤ z ∧ z < B.length ∧ t.size = 512)) : Calls Tryz.prog 24 #[pt x, .int .i64 z, .string t] w fun e w' => e = .returned (.int .i64 1) ∧ ∃ k, w' = w.drewN k := by
  obtain ⟨v, hne, hx, hm, _⟩ := h.rt i hi
  obtain ⟨vl, hnb, hb, hmb, _⟩ := h.rl j hj
  obtain ⟨la, lc, rfl⟩ := own_slice hmb
  have c0 : w.cell? ⟨x, 0, none⟩ = some (pt b) := cell_of_row w x 0 _ _ (0, 0) hx
  have c2 : w.cell? ⟨x, 2, none⟩ = some (.bool false) := cell_of_row w x 2 _ _ (0, 0) hx
  have d0 : w.cell? ⟨b, 0, none⟩ = some (.slice la B.length lc) := cell_of_row w b 0 _ _ (0, 0) hb
  clear h hi hx hm hj hb hmb
  by_cases h0 : z < 0
  · clear hz
    go_enter Tryz.func24, Tryz.ntmps24
    go_wp2
    go_ret
    exact ⟨rfl, 0, rfl⟩
  · by_cases h1 : z < B.length
    · have h2 : ¬ ((t.size : Int) = 512) := fun e => hz ⟨by omega, h1, by omega⟩
      have h3 : ((t.size : Int) != 512) = true := by rw [bne_iff_ne]; exact h2
      clear hz h2
      go_enter Tryz.func24, Tryz.ntmps24
      go_wp2
      go_ret
      exact ⟨rfl, 0, rfl⟩
    · clear hz
      go_enter Tryz.func24, Tryz.ntmps24
      go_wp2
      go_ret
      exact ⟨rfl, 0, rfl⟩
set_option maxHeartbeats 4000000 in
set_option maxRecDepth 100000 in
theorem rwrite_env (h : EnvP w0 w Ls) (i j : Nat) (hi : Ls[i]? = some (rt x b W false)) (hj : Ls[j]? = some (rl b B)) (N : Nat) (t : ByteArray) (hN : N < B.length) (ht : t.size = 512) (hR : Rising W) (hl : W.length ≤ 8192) (hB : B.length ≤ 8192) : Calls Tryz.prog 24 #[pt x, .int .i64 (N : Int), .string t] w fun e w' => e = .returned (.int .i64 0) ∧ EnvP w0 w' (Ls.set i (rt x b (insW N t W) false)) := by
  obtain ⟨v, hne, hx, hm, hn⟩ := h.rt i hi
  obtain ⟨vl, hnb, hb, hmb, _⟩ := h.rl j hj
  obtain ⟨la, lc, rfl⟩ := own_slice hmb
  obtain ⟨a, c, rfl⟩ := own_slice hm
  have c0 : w.cell? ⟨x, 0, none⟩ = some (pt b) := cell_of_row w x 0 _ _ (0, 0) hx
  have c1 : w.cell? ⟨x, 1, none⟩ = some (.slice a W.length c) := cell_of_row w x 1 _ _ (0, 0) hx
  have c2 : w.cell? ⟨x, 2, none⟩ = some (.bool false) := cell_of_row w x 2 _ _ (0, 0) hx
  have d0 : w.cell? ⟨b, 0, none⟩ = some (.slice la B.length lc) := cell_of_row w b 0 _ _ (0, 0) hb
  have hNi : (N : Int) < B.length := by omega
  have hN0 : ¬ ((N : Int) < 0) := by omega
  have hti : (t.size : Int) = 512 := by omega
  have HC : Hid (∀ w', Below w.heap.size w w' → w'.cell? ⟨x, 1, none⟩ = some (.slice a W.length c) ∧ w'.frozen? ⟨x, 1, none⟩ = false) := ⟨fun w' bw => ⟨(bw.cell (p := ⟨x, 1, none⟩) (heap_lt hx)).trans c1, by
    have := bw.block x (heap_lt hx)
    rw [World.frozen?_of_block (a := ⟨x, 1, none⟩) this]; exact frozen_of_row w x 1 _ _ hx⟩⟩
  have HW : Hid (∀ (k : Nat) (p : Nat × ByteArray), W[k]? = some p → ∃ g, a = some ⟨g, 0, none⟩ ∧ ∀ w', Below w.heap.size w w' → w'.cell? ⟨g, k * 2, none⟩ = some (.int .i64 (p.1 : Int)) ∧ w'.cell? ⟨g, k * 2 + 1, none⟩ = some (.string p.2)) := ⟨fun k p hp => by
    rcases hm.2 with ⟨_, h0⟩ | ⟨g, cap, cur, e, _⟩
    · have := (List.getElem?_eq_some_iff.1 hp).1; omega
    · injection e with e1 _ _
      subst e1
      have hm' : w.ownsRow 0 78 2 (.slice (some ⟨g, 0, none⟩) W.length c) (ints W).length (wci (ints W)) := by rw [wci_ints, ints_length]; exact hm
      obtain ⟨q0, q1⟩ := own_cell2 (l := ints W) hm' k _ (ints_at W k p hp)
      exact ⟨g, rfl, fun w' bw => ⟨later_cell bw (World.block_lt_of_cell? w _ q0) q0, later_cell bw (World.block_lt_of_cell? w _ q1) q1⟩⟩⟩
  have HE : Hid (∀ (w' : World) (ra : Option Addr) (rc : Nat), w'.ownsRow 0 78 2 (.slice ra (insW N t W).length rc) (insW N t W).length (wcs (insW N t W)) → Below w.heap.size w w' → (∀ k, (Value.slice ra (insW N t W).length rc).ownBlock = some k → w.heap.size ≤ k) → EnvP w0 (w'.setCell ⟨x, 1, none⟩ (.slice ra (insW N t W).length rc)) (Ls.set i (rt x b (insW N t W) false))) := ⟨fun w' ra rc o bw hy => by
    have hx' : w'.heap[x]? = some (.cells #[pt b, .slice a W.length c, .bool false] 67 (0, 0)) := (bw.block x (heap_lt hx)).trans hx
    have fr2 : Fr (fun k => k = x) w' (w'.setCell ⟨x, 1, none⟩ (.slice ra (insW N t W).length rc)) := fr_set w' x 1 _ rfl
    refine hn _ (.slice ra (insW N t W).length rc) (insW N t W) false (cell_set w' x 1 _ _ _ hx') (fr2.own o (fun k hk e => by have := hy k hk; have := heap_lt hx; omega)) ((Fr.of_below bw).trans fr2 (fun k _ hk => .inl hk)) (fun k hk => .inr (hy k hk))⟩
  have HRS : Hid (Rising W) := ⟨hR⟩
  clear h hi hj hx hm hn hb hmb hR hnb hne
  go_enter Tryz.func24, Tryz.ntmps24
  go_wp2_with fail
  go_loopw [7, 8, 9] (fun v bv i wr => ∃ (k : Nat) (pb : Bool) (R : Wl) (ra : Option Addr) (rc : Nat), k ≤ W.length ∧ i = .int .i64 (k : Int) ∧ bv = .bool pb ∧ v = .slice ra R.length rc ∧ Hid (InsAt N t W k pb R) ∧ Hid (wr.ownsRow 0 78 2 (.slice ra R.length rc) R.length (wcs R)) ∧ Hid (Below w.heap.size w wr) ∧ Hid (∀ k, (Value.slice ra R.length rc).ownBlock = some k → w.heap.size ≤ k)) (fun _ _ i _ => W.length - (intOf i).toNat)
  case atStart => exact ⟨0, false, [], none, 0, Nat.zero_le _, rfl, rfl, rfl, ⟨InsAt.zero N t W⟩, ⟨World.ownsRow_nil _ _ _ _⟩, ⟨Below.refl _ _⟩, ⟨fun k hk => by cases hk⟩⟩
  case round =>
    obtain ⟨k, pb, R, ra, rc, hk, rfl, rfl, rfl, HI, O, BB, HY⟩ := hrel
    obtain ⟨d1, f1⟩ := HC.out wr BB.out
    have hRl : R.length ≤ 8193 := by have := HI.out.len; omega
    by_cases hlt : k < W.length
    · obtain ⟨⟨M, Y⟩, hy⟩ : ∃ z, W[k]? = some z := ⟨_, List.getElem?_eq_getElem hlt⟩
      obtain ⟨g, rfl, HG⟩ := HW.out k _ hy
      have HGG : Hid (∀ w', Below w.heap.size w w' → w'.cell? ⟨g, k * 2, none⟩ = some (.int .i64 (M : Int)) ∧ w'.cell? ⟨g, k * 2 + 1, none⟩ = some (.string Y)) := ⟨HG⟩
      have HYY : Hid (W[k]? = some (M, Y)) := ⟨hy⟩
      obtain ⟨cM, cY⟩ := HG wr BB.out
      have hki : (k : Int) < W.length := by omega
      clear hy HG HW HE
      go_upto_region 10 with fail
      go_cut [55] from 33 to 81 (fun v wx => v = .bool (!pb && decide (N ≤ M)) ∧ wx = wr)
      case first =>
        cases pb with
        | true =>
          go_wp2_with fail
          go_meet
          exact ⟨rfl, rfl⟩
        | false =>
          by_cases hge : N ≤ M
          · have hgi : (N : Int) ≤ (M : Int) := by omega
            have hd : decide (N ≤ M) = true := decide_eq_true hge
            go_wp2_with fail
            go_meet
            exact ⟨by rw [hd]; rfl, rfl⟩
          · have hgi : ¬ ((N : Int) ≤ (M : Int)) := by omega
            have hd : decide (N ≤ M) = false := decide_eq_false hge
            go_wp2_with fail
            go_meet
            exact ⟨by rw [hd]; rfl, rfl⟩
      case rest =>
        obtain ⟨rfl, rfl⟩ := hcut
        go_upto_if 55 with fail
        go_cut [7, 8] from 33 to 81 (fun r pv wx => ∃ (pb2 : Bool) (R2 : Wl) (ra2 : Option Addr) (rc2 : Nat), r = .slice ra2 R2.length rc2 ∧ pv = .bool pb2 ∧ Hid (InsMid N t W k (M, Y) pb2 R2 ∧ R2.length ≤ 8194) ∧ Hid (wx.ownsRow 0 78 2 (.slice ra2 R2.length rc2) R2.length (wcs R2)) ∧ Hid (Below w.heap.size w wx) ∧ Hid (∀ k, (Value.slice ra2 R2.length rc2).ownBlock = some k → w.heap.size ≤ k))
        case first =>
          cases pb with
          | true =>
            rw [Bool.not_true, Bool.false_and]
            have HM : Hid (InsMid N t W k (M, Y) true R ∧ R.length ≤ 8194) := ⟨HI.out.mid_past HRS.out HYY.out, by omega⟩
            go_wp2_with fail
            go_meet
            exact ⟨true, R, ra, rc, rfl, rfl, HM, O, BB, HY⟩
          | false =>
            by_cases hge : N ≤ M
            · have HM : Hid (InsMid N t W k (M, Y) true (R ++ [(N, t)]) ∧ (R ++ [(N, t)]).length ≤ 8194) := ⟨HI.out.mid_more HYY.out hge, by rw [List.length_append]; simp; omega⟩
              have hd : decide (N ≤ M) = true := decide_eq_true hge
              rw [hd, Bool.not_false, Bool.true_and]
              go_wp2_with (at_builtin; refine app_write (v := .slice ra R.length rc) (g := wc.heap.size) (l := R) (i := (N : Int)) N rfl rfl rfl O.out (by omega) rfl _ _ rfl rfl rfl ?_; intro y3 c3 W3 q3 g3 n3)
              have O3 : Hid (W3.ownsRow 0 78 2 (.slice (some ⟨y3, 0, none⟩) (R ++ [(N, t)]).length c3) (R ++ [(N, t)]).length (wcs (R ++ [(N, t)]))) := ⟨by rw [List.length_append]; exact q3⟩
              have B3 : Hid (Below w.heap.size w W3) := ⟨BB.out.grown g3 BB.out.size (fun k hk => HY.out k hk)⟩
              have Y3 : Hid (∀ k, (Value.slice (some ⟨y3, 0, none⟩) (R ++ [(N, t)]).length c3).ownBlock = some k → w.heap.size ≤ k) := ⟨fun k hk => by cases hk; rcases n3 with n3 | n3; exact HY.out _ n3; exact Nat.le_trans BB.out.size n3⟩
              clear q3 g3 n3
              go_meet
              exact ⟨true, R ++ [(N, t)], some ⟨y3, 0, none⟩, c3, by first | rfl | (rw [List.length_append]; rfl), rfl, HM, O3, B3, Y3⟩
            · have HM : Hid (InsMid N t W k (M, Y) false R ∧ R.length ≤ 8194) := ⟨HI.out.mid_less HYY.out (by simp only; omega), by omega⟩
              have hd : decide (N ≤ M) = false := decide_eq_false hge
              rw [hd, Bool.not_false, Bool.true_and]
              go_wp2_with fail
              go_meet
              exact ⟨false, R, ra, rc, rfl, rfl, HM, O, BB, HY⟩
        case rest =>
          obtain ⟨pb2, R2, ra2, rc2, rfl, rfl, HM, O2, B2, Y2⟩ := hcut
          have hR2 := HM.out.2
          obtain ⟨d2, _⟩ := HC.out wc B2.out
          obtain ⟨cM2, cY2⟩ := HGG.out wc B2.out
          clear O BB HY d1 f1 cM cY HI
          by_cases hne : M = N
          · have HN : Hid (InsAt N t W (k + 1) pb2 R2) := ⟨HM.out.1.same hne⟩
            have hni : (M : Int) = (N : Int) := by omega
            subst hne
            clear hni
            go_wp2
            go_roundw
            case rel => exact ⟨k + 1, pb2, R2, ra2, rc2, by omega, by go_num, rfl, rfl, HN, O2, B2, Y2⟩
            case measure => simp [intOf]; omega
          · have HN : Hid (InsAt N t W (k + 1) pb2 (R2 ++ [(M, Y)])) := ⟨HM.out.1.other hne⟩
            have hni : ¬ ((M : Int) = (N : Int)) := by omega
            have hnb : ((M : Int) != (N : Int)) = true := by rw [bne_iff_ne]; exact hni
            go_wp2_with (at_builtin; refine app_write (v := .slice ra2 R2.length rc2) (g := wc.heap.size) (l := R2) (i := (M : Int)) M rfl rfl rfl O2.out (by omega) rfl _ _ rfl rfl rfl ?_; intro y4 c4 W4 q4 g4 n4)
            have O4 : Hid (W4.ownsRow 0 78 2 (.slice (some ⟨y4, 0, none⟩) (R2 ++ [(M, Y)]).length c4) (R2 ++ [(M, Y)]).length (wcs (R2 ++ [(M, Y)]))) := ⟨by rw [List.length_append]; exact q4⟩
            have B4 : Hid (Below w.heap.size w W4) := ⟨B2.out.grown g4 B2.out.size (fun k hk => Y2.out k hk)⟩
            have Y4 : Hid (∀ k, (Value.slice (some ⟨y4, 0, none⟩) (R2 ++ [(M, Y)]).length c4).ownBlock = some k → w.heap.size ≤ k) := ⟨fun k hk => by cases hk; rcases n4 with n4 | n4; exact Y2.out _ n4; exact Nat.le_trans B2.out.size n4⟩
            clear q4 g4 n4
            go_roundw
            case rel => exact ⟨k + 1, pb2, R2 ++ [(M, Y)], some ⟨y4, 0, none⟩, c4, by omega, by go_num, rfl, by first | rfl | (rw [List.length_append]; rfl), HN, O4, B4, Y4⟩
            case measure => simp [intOf]; omega
    · have hke : k = W.length := by omega
      subst hke
      have hki : ¬ ((W.length : Int) < W.length) := by omega
      cases pb with
      | true =>
        have eR := HI.out.end_yes
        subst eR
        have E9 : Hid _ := ⟨HE.out wr ra rc O.out BB.out HY.out⟩
        clear O BB HY HI HW HE
        go_wp2
        go_ret
        exact ⟨rfl, E9.out⟩
      | false =>
        have eR := HI.out.end_no
        go_wp2_with (at_builtin; refine app_write (v := .slice ra R.length rc) (g := wr.heap.size) (l := R) (i := (N : Int)) N rfl rfl rfl O.out (by omega) rfl _ _ rfl rfl rfl ?_; intro y3 c3 W3 q3 g3 n3; obtain ⟨d3, f3⟩ := HC.out W3 (BB.out.grown g3 BB.out.size (fun k hk => HY.out k hk)); have O3 : Hid (W3.ownsRow 0 78 2 (.slice (some ⟨y3, 0, none⟩) (insW N t W).length c3) (insW N t W).length (wcs (insW N t W))) := ⟨by rw [eR, List.length_append]; exact q3⟩; have B3 : Hid (Below w.heap.size w W3) := ⟨BB.out.grown g3 BB.out.size (fun k hk => HY.out k hk)⟩; have Y3 : Hid (∀ k, (Value.slice (some ⟨y3, 0, none⟩) (insW N t W).length c3).ownBlock = some k → w.heap.size ≤ k) := ⟨fun k hk => by cases hk; rcases n3 with n3 | n3; exact HY.out _ n3; exact Nat.le_trans BB.out.size n3⟩; clear q3 g3 n3 d1 f1)
        have E9 := HE.out W3 (some ⟨y3, 0, none⟩) c3 O3.out B3.out Y3.out
        have el : (insW N t W).length = R.length + 1 := by rw [eR]; exact List.length_append
        rw [el] at E9
        rw [eR] at E9
        go_ret
        exact ⟨rfl, E9⟩
end Go.Proofs.YtlgpodcoiioefaaGreat

/- The reference's New and Commit. -/
namespace Go.Proofs.YtlgpodcoiioefaaGreat
set_option linter.unusedVariables false
set_option linter.unusedSimpArgs false
open Go.RowKit Go.Maps
variable {w0 w w' : World} {Ls : List (Th → Prop)} {b x g : Nat} {B : List ByteArray} {W : Wl} {o : Bool}
theorem rep_snoc (k : Nat) (t : ByteArray) : List.replicate (k + 1) t = List.replicate k t ++ [t] := List.replicate_succ' ..
set_option maxRecDepth 100000 in
theorem rnew_env (h : EnvP w0 w Ls) (n : Nat) (hn : n ≤ 8192) : Calls Tryz.prog 6 #[.int .i64 (n : Int)] w fun e w' => ∃ b, e = .returned (pt b) ∧ EnvP w0 w' (Ls ++ [rl b (List.replicate n (fl 0))]) := by
  have H : Hid (EnvP w0 (w.alloc (.cells #[.slice none 0 0] 43)) (Ls ++ [rl w.heap.size (List.replicate 0 (fl 0))])) := ⟨h.push (rlTh w.heap.size (.slice none 0 0) []) _ ⟨_, fun e => (by cases e), rfl⟩ ((Below.refl _ _).alloc (Nat.le_refl _) _) ⟨heap_alloc_new w _, World.ownsRow_nil _ _ _ _⟩ (fun k hk => by
    rcases hk with rfl | hk
    · exact Nat.le_refl _
    · cases hk)⟩
  have HA : Hid (∀ (b k : Nat) (w5 w8 : World) (v : Value) (y c : Nat), EnvP w0 w5 (Ls ++ [rl b (List.replicate k (fl 0))]) → w5.heap[b]? = some (.cells #[v] 43 (0, 0)) → w8.ownsRow 0 9 1 (rw_ y (k + 1) c) (k + 1) (strv (List.replicate k (fl 0) ++ [fl 0])) → w5.grownBy w8 v.ownBlock → (v.ownBlock = some y ∨ w5.heap.size ≤ y) → EnvP w0 (w8.setCell ⟨b, 0, none⟩ (rw_ y (k + 1) c)) (Ls ++ [rl b (List.replicate (k + 1) (fl 0))]) ∧ w8.cell? ⟨b, 0, none⟩ = some v ∧ w8.frozen? ⟨b, 0, none⟩ = false) := ⟨fun b k w5 w8 v y c h5 hv q8 g8 n8 => by
    obtain ⟨v', hne, hb, hm, hn⟩ := h5.rl (b := b) (B := List.replicate k (fl 0)) Ls.length (by simp)
    have e0 : v' = v := by rw [hb] at hv; injection hv with hv; injection hv with hv _ _; simpa using hv
    subst e0
    have hb8 : w8.heap[b]? = some (.cells #[v'] 43 (0, 0)) := (g8.block b (heap_lt hb) (fun e => hne e.symm)).trans hb
    have hyb : y ≠ b := fun e => by
      rcases n8 with n8 | n8
      · exact hne (by rw [n8, e])
      · have := heap_lt hb; omega
    refine ⟨?_, cell_of_row w8 b 0 _ _ (0, 0) hb8, frozen_of_row w8 b 0 _ _ hb8⟩
    have fr2 : Fr (fun k => k = b) w8 (w8.setCell ⟨b, 0, none⟩ (rw_ y (k + 1) c)) := fr_set w8 b 0 _ rfl
    have := hn (w8.setCell ⟨b, 0, none⟩ (rw_ y (k + 1) c)) (rw_ y (k + 1) c) (List.replicate (k + 1) (fl 0)) (cell_set w8 b 0 _ _ _ hb8) (by rw [rep_snoc]; rw [List.length_append, List.length_replicate]; exact fr2.own q8 (fun j hj e => by cases hj; exact hyb e)) ((Fr.of_grown (S := fun k => v'.ownBlock = some k) g8 (fun k hk => hk)).mono (fun k _ hk => .inr hk) |>.trans fr2 (fun k _ hk => .inl hk)) (fun j hj => by cases hj; exact n8)
    have es : (Ls ++ [rl b (List.replicate k (fl 0))]).set Ls.length (rl b (List.replicate (k + 1) (fl 0))) = Ls ++ [rl b (List.replicate (k + 1) (fl 0))] := by rw [List.set_append_right _ _ (Nat.le_refl _)]; simp
    rw [es] at this
    exact this⟩
  have HB : Hid (∀ (b k : Nat) (w5 : World), EnvP w0 w5 (Ls ++ [rl b (List.replicate k (fl 0))]) → ∃ a c, w5.heap[b]? = some (.cells #[.slice a k c] 43 (0, 0)) ∧ w5.ownsRow 0 9 1 (.slice a k c) (List.replicate k (fl 0)).length (strv (List.replicate k (fl 0)))) := ⟨fun b k w5 h5 => by
    obtain ⟨v, hne, hb, hm, hn⟩ := h5.rl (b := b) (B := List.replicate k (fl 0)) Ls.length (by simp)
    obtain ⟨a, c, rfl⟩ := own_slice hm
    rw [List.length_replicate] at hb
    exact ⟨a, c, hb, by rw [List.length_replicate] at hm ⊢; exact hm⟩⟩
  have qZ : Hid (∀ w5, Calls Tryz.prog 18 #[] w5 fun e w' => e = .returned (.string (fl 0)) ∧ Below w5.heap.size w5 w') := ⟨fun w5 => zeros_any w5⟩
  generalize hF : fl 0 = F at *
  clear h hF
  go_enter Tryz.func6, Tryz.ntmps6
  go_wp2_with fail
  go_loopw [4] (fun i wr => ∃ k : Nat, k ≤ n ∧ i = .int .i64 (k : Int) ∧ Hid (EnvP w0 wr (Ls ++ [rl w.heap.size (List.replicate k F)]))) (fun i _ => n - (intOf i).toNat)
  case atStart => exact ⟨0, Nat.zero_le _, rfl, H⟩
  case round =>
    obtain ⟨k, hk, rfl, E⟩ := hrel
    clear H
    generalize w.heap.size = b at *
    obtain ⟨a, c, hb, hm⟩ := HB.out b k wr E.out
    have c0 : wr.cell? ⟨b, 0, none⟩ = some (.slice a k c) := cell_of_row wr b 0 _ _ (0, 0) hb
    have HBB : Hid (wr.heap[b]? = some (.cells #[.slice a k c] 43 (0, 0))) := ⟨hb⟩
    have HMM : Hid (wr.ownsRow 0 9 1 (.slice a k c) (List.replicate k F).length (strv (List.replicate k F))) := ⟨hm⟩
    clear hb hm
    by_cases hlt : k < n
    · have hi : (k : Int) < n := by omega
      obtain ⟨i0, hi0, hz0, hz1, hz2⟩ := info_parts infoSf
      have hk9 : (k + 1) * 16 ≤ 140737488355328 := by omega
      have hk8 : k + 1 ≤ maxLen := by unfold maxLen; omega
      go_wp2_with fail
      go_region_law (first
        | (go_simp; go_at_call 18; refine (qZ.out _).mono ?_; rintro e w5 ⟨rfl, b5⟩; have B5 : w5.heap[b]? = some (.cells #[.slice a k c] 43 (0, 0)) := (b5.block b (heap_lt HBB.out)).trans HBB.out; have c5 := cell_of_row w5 b 0 _ _ (0, 0) B5; have c6 : (w5.alloc (.cells #[.string F] 9)).cell? ⟨b, 0, none⟩ = some (.slice a k c) := Lib.cell?_alloc_marked (W := w5) _ c5)
        | (refine step_append_lies _ (by rfl) _ _ 41 (by rfl) 0 9 i0 _ 1 16 Tryz.underlying41 hi0 hz0 hz1 hz2 rfl (by omega) (.slice a k c) k (strv (List.replicate k F)) (by rfl) (World.ownsRow.alloc (own_later (w := wr.drew) (by have := HMM.out; rw [List.length_replicate] at this; exact this) b5) _) ⟨w5.heap.size, 0, none⟩ 1 1 [.string F] (by rfl) rfl (World.news_of_block (cs := #[.string F]) (t := 9) (fr := (0, 0)) (heap_alloc_new w5 _)) (by simp [Value.oneCell']) (by omega) hk8 hk9 (Nat.zero_le _) _ rfl ?_; intro y c2 w8 q8 g8 n8 l8; obtain ⟨E8, c8, f8⟩ := HA.out b k w5 w8 (.slice a k c) y c2 (E.out.drew.below b5) B5 (by rw [strv_append]; exact q8) ((World.grownBy_alloc _ _ _).trans g8) (n8.imp id (fun e => by rw [e]; simp))))
      all_goals (go_wp2_with fail)
      all_goals (refine ⟨⟨k + 1, by omega, by go_num, ⟨E8⟩⟩, ?_⟩; simp [intOf]; omega)
    · have hke : k = n := by omega
      subst hke
      have hi : ¬ ((k : Int) < k) := by omega
      clear HBB HMM c0
      go_wp2
      go_ret
      exact ⟨b, rfl, E.out⟩
set_option maxRecDepth 100000 in
theorem rcommit_over (h : EnvP w0 w Ls) (i : Nat) (hi : Ls[i]? = some (rt x g W true)) : Calls Tryz.prog 37 #[pt x] w fun e w' => e = .returned (.int .i64 8) ∧ ∃ k, w' = w.drewN k := by
  obtain ⟨v, hne, hx, hm, _⟩ := h.rt i hi
  have c2 : w.cell? ⟨x, 2, none⟩ = some (.bool true) := cell_of_row w x 2 _ _ (0, 0) hx
  clear h hi hx hm
  go_enter Tryz.func37, Tryz.ntmps37
  go_wp2
  go_ret
  exact ⟨rfl, 0, rfl⟩
set_option maxRecDepth 100000 in
theorem rcommit_env (h : EnvP w0 w Ls) (i j : Nat) (hi : Ls[i]? = some (rt x b W false)) (hj : Ls[j]? = some (rl b B)) (hij : i ≠ j) (hin : InB B.length W) (hl : W.length ≤ 8192) (hB : B.length ≤ 8192) : Calls Tryz.prog 37 #[pt x] w fun e w' => e = .returned (.int .i64 0) ∧ EnvP w0 w' ((Ls.set i (rt x b W true)).set j (rl b (lay B W))) := by
  obtain ⟨v, hne, hx, hm, hn⟩ := h.rt i hi
  have c2 : w.cell? ⟨x, 2, none⟩ = some (.bool false) := cell_of_row w x 2 _ _ (0, 0) hx
  have f2 : w.frozen? ⟨x, 2, none⟩ = false := frozen_of_row w x 2 _ _ hx
  have h1 : (w.setCell ⟨x, 2, none⟩ (.bool true)).heap[x]? = some (.cells #[pt b, v, .bool true] 67 (0, 0)) := cell_set w x 2 _ _ _ hx
  have fr1 : Fr (fun k => k = x) w (w.setCell ⟨x, 2, none⟩ (.bool true)) := fr_set w x 2 _ rfl
  have HE : Hid (EnvP w0 (w.setCell ⟨x, 2, none⟩ (.bool true)) ((Ls.set i (rt x b W true)).set j (rl b (lay B (W.take 0))))) := ⟨by
    have e1 := hn _ v W true h1 (fr1.own hm (fun k hk e => hne (by rw [hk, e]))) (fr1.mono (fun k _ e => .inl e)) (fun k hk => .inl hk)
    have e2 : (Ls.set i (rt x b W true)).set j (rl b (lay B (W.take 0))) = Ls.set i (rt x b W true) := by
      apply List.ext_getElem?
      intro k
      by_cases e : j = k
      · subst e
        rw [List.getElem?_set_self (by rw [List.length_set]; exact (List.getElem?_eq_some_iff.1 hj).1), List.getElem?_set_ne hij, hj]
        rfl
      · rw [List.getElem?_set_ne e]
    rw [e2]; exact e1⟩
  have hjl := (List.getElem?_eq_some_iff.1 hj).1
  have hil := (List.getElem?_eq_some_iff.1 hi).1
  have HI : Hid (∀ B', ((Ls.set i (rt x b W true)).set j (rl b B'))[i]? = some (rt x b W true)) := ⟨fun B' => by rw [List.getElem?_set_ne (fun e => hij e.symm), List.getElem?_set_self hil]⟩
  have HJ : Hid (∀ B', ((Ls.set i (rt x b W true)).set j (rl b B'))[j]? = some (rl b B')) := ⟨fun B' => List.getElem?_set_self (by rw [List.length_set]; exact hjl)⟩
  have HS : Hid (∀ B' B'', ((Ls.set i (rt x b W true)).set j (rl b B')).set j (rl b B'') = (Ls.set i (rt x b W true)).set j (rl b B'')) := ⟨fun B' B'' => List.set_set ..⟩
  have HIN : Hid (InB B.length W) := ⟨hin⟩
  generalize hLL : (fun B' => (Ls.set i (rt x b W true)).set j (rl b B')) = LL at *
  have HE' : Hid (EnvP w0 (w.setCell ⟨x, 2, none⟩ (.bool true)) (LL (lay B (W.take 0)))) := ⟨by rw [← hLL]; exact HE.out⟩
  have HI' : Hid (∀ B', (LL B')[i]? = some (rt x b W true)) := ⟨fun B' => by rw [← hLL]; exact HI.out B'⟩
  have HJ' : Hid (∀ B', (LL B')[j]? = some (rl b B')) := ⟨fun B' => by rw [← hLL]; exact HJ.out B'⟩
  have HS' : Hid (∀ B' B'', (LL B').set j (rl b B'') = LL B'') := ⟨fun B' B'' => by rw [← hLL]; exact HS.out B' B''⟩
  have eG : (Ls.set i (rt x b W true)).set j (rl b (lay B W)) = LL (lay B W) := by rw [← hLL]
  rw [eG]
  clear h hi hj hx hm hn h1 fr1 HE HI HJ HS hLL eG hin hil hjl
  go_enter Tryz.func37, Tryz.ntmps37
  go_wp2_with fail
  go_loopw [3] (fun i wr => ∃ k : Nat, k ≤ W.length ∧ i = .int .i64 (k : Int) ∧ Hid (EnvP w0 wr (LL (lay B (W.take k))))) (fun i _ => W.length - (intOf i).toNat)
  case atStart => exact ⟨0, Nat.zero_le _, rfl, HE'⟩
  case round =>
    obtain ⟨k, hk, rfl, E⟩ := hrel
    clear HE'
    obtain ⟨v2, hne2, hx2, hm2, _⟩ := E.out.rt i (HI'.out _)
    obtain ⟨v3, hne3, hx3, hm3, hn3⟩ := E.out.rl j (HJ'.out _)
    obtain ⟨a, c, rfl⟩ := own_slice hm2
    have c0 : wr.cell? ⟨x, 0, none⟩ = some (pt b) := cell_of_row wr x 0 _ _ (0, 0) hx2
    have c1 : wr.cell? ⟨x, 1, none⟩ = some (.slice a W.length c) := cell_of_row wr x 1 _ _ (0, 0) hx2
    have hll : (lay B (W.take k)).length = B.length := lay_length _ _
    by_cases hlt : k < W.length
    · obtain ⟨⟨N, Y⟩, hz⟩ : ∃ z, W[k]? = some z := ⟨_, List.getElem?_eq_getElem hlt⟩
      have hN : N < B.length := (HIN.out _ (List.mem_of_getElem? hz)).1
      rw [hll] at hm3
      obtain ⟨lg3, lc, rfl⟩ : ∃ lg3 lc, v3 = .slice (some ⟨lg3, 0, none⟩) B.length lc := by
        rcases hm3.2 with ⟨_, h0⟩ | ⟨g, cap, cur, e, _⟩
        · omega
        · exact ⟨g, cap, e⟩
      have d0 : wr.cell? ⟨b, 0, none⟩ = some (.slice (some ⟨lg3, 0, none⟩) B.length lc) := cell_of_row wr b 0 _ _ (0, 0) hx3
      obtain ⟨g, rfl, cN, cY⟩ : ∃ g, a = some ⟨g, 0, none⟩ ∧ wr.cell? ⟨g, k * 2, none⟩ = some (.int .i64 (N : Int)) ∧ wr.cell? ⟨g, k * 2 + 1, none⟩ = some (.string Y) := by
        rcases hm2.2 with ⟨_, h0⟩ | ⟨g, cap, cur, e, _⟩
        · omega
        · injection e with e1 _ _
          subst e1
          have hm' : wr.ownsRow 0 78 2 (.slice (some ⟨g, 0, none⟩) W.length c) (ints W).length (wci (ints W)) := by rw [wci_ints, ints_length]; exact hm2
          obtain ⟨q0, q1⟩ := own_cell2 (l := ints W) hm' k _ (ints_at W k _ hz)
          exact ⟨g, rfl, q0, q1⟩
      obtain ⟨o2, g2⟩ := hm3.stored N (.string Y)
      obtain ⟨cur9, h9⟩ : ∃ cur9, wr.heap[lg3]? = some (.cells cur9 9 (0, 0)) := by
        rcases hm3.2 with ⟨e, _⟩ | ⟨g, cap, cur, e, _, hh, _⟩
        · cases e
        · injection e with e1 _ _; injection e1 with e1; injection e1 with e1 _ _; subst e1; exact ⟨cur, hh⟩
      obtain ⟨curg, h78⟩ : ∃ curg, wr.heap[g]? = some (.cells curg 78 (0, 0)) := by
        rcases hm2.2 with ⟨e, _⟩ | ⟨g', cap, cur, e, _, hh, _⟩
        · cases e
        · injection e with e1 _ _; injection e1 with e1; injection e1 with e1 _ _; subst e1; exact ⟨cur, hh⟩
      have far : ∀ (z : Nat) (cs : Array Value) (ty : TypeId), wr.heap[z]? = some (.cells cs ty (0, 0)) → ty ≠ 9 → ∀ (m : Nat) (v : Value), wr.cell? ⟨z, m, none⟩ = some v → (wr.setCell ⟨lg3, N, none⟩ (.string Y)).drew.cell? ⟨z, m, none⟩ = some v := fun z cs ty hz hty m v hv => by
        have hzl : z ≠ lg3 := fun e => by
          rw [e, h9] at hz
          injection hz with hz
          injection hz with _ hz _
          exact hty hz.symm
        show (wr.setCell ⟨lg3, N, none⟩ (.string Y)).cell? ⟨z, m, none⟩ = some v
        rw [World.cell?_setCell_other _ _ _ _ (by intro q; injection q with q _ _; exact hzl q.symm)]
        exact hv
      have e0 := far x _ _ hx2 (by decide) 0 _ c0
      have e1 := far x _ _ hx2 (by decide) 1 _ c1
      have e2 := far b _ _ hx3 (by decide) 0 _ d0
      have e3 := far g _ _ h78 (by decide) _ _ cN
      have e4 := far g _ _ h78 (by decide) _ _ cY
      clear far h78 h9
      obtain ⟨t0, ct0⟩ : ∃ t0, wr.cell? ⟨lg3, N, none⟩ = some t0 := by
        rw [hm3.cellAt N (by omega)]
        exact ⟨_, List.getElem?_eq_getElem (by rw [strv_length, hll]; exact hN)⟩
      have ft0 := hm3.frozenAt N
      have et : lay B (W.take (k + 1)) = (lay B (W.take k)).set N Y := by
        rw [List.take_succ_eq_append_getElem hlt, Option.some.inj ((List.getElem?_eq_getElem hlt).symm.trans hz), lay_snoc]
      have E2 : Hid (EnvP w0 (wr.setCell ⟨lg3, N, none⟩ (.string Y)) (LL (lay B (W.take (k + 1))))) := ⟨by
        rw [et, ← HS'.out (lay B (W.take k))]
        refine hn3 _ (.slice (some ⟨lg3, 0, none⟩) B.length lc) _ ?_ ?_ (Fr.of_grown g2 (fun k hk => .inr hk)) (fun k hk => .inl hk)
        · rw [g2.block b (heap_lt hx3) (fun e => hne3 e.symm)]; exact hx3
        · rw [List.length_set, hll]
          have e : strv ((lay B (W.take k)).set N Y) = (strv (lay B (W.take k))).set N (.string Y) := by unfold strv; rw [List.map_set]
          rw [e]; exact o2⟩
      have hi : (k : Int) < W.length := by omega
      have hNi : (N : Int) < B.length := by omega
      clear hz hm2 hm3 hx2 hx3 hn3 o2 g2 et hll E
      go_wp2_with fail
      go_region_held3 (fun w' => w'.cell? ⟨x, 0, none⟩ = some (pt b) ∧ w'.cell? ⟨x, 1, none⟩ = some (.slice (some ⟨g, 0, none⟩) W.length c) ∧ w'.cell? ⟨b, 0, none⟩ = some (.slice (some ⟨lg3, 0, none⟩) B.length lc) ∧ w'.cell? ⟨g, k * 2, none⟩ = some (.int .i64 (N : Int)) ∧ w'.cell? ⟨g, k * 2 + 1, none⟩ = some (.string Y)) (first | exact ⟨c0, c1, d0, cN, cY⟩ | exact ⟨e0, e1, e2, e3, e4⟩ | (go_keep; done)) (fail)
      have E3 : Hid (EnvP w0 ((wr.setCell ⟨lg3, N, none⟩ (.string Y)).drew) (LL (lay B (W.take (k + 1))))) := ⟨E2.out.drew⟩
      go_wp2_with fail
      refine ⟨⟨k + 1, by omega, by go_num, E3⟩, ?_⟩
      simp [intOf]; omega
    · have hke : k = W.length := by omega
      subst hke
      have hi : ¬ ((W.length : Int) < W.length) := by omega
      rw [List.take_length] at E
      clear hm2 hm3 hx2 hx3 hn3 hll
      go_wp2
      go_ret
      exact ⟨rfl, E.out⟩
end Go.Proofs.YtlgpodcoiioefaaGreat
