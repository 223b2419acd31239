/- The reference's log and transactions: their blocks, Begin, Dirty, Abort, Read. -/
import Derived.Test.YtlgpodcoiioefaaGreatOpn8
import Derived.Test.YtlgpodcoiioefaaGreatFs8
namespace Go.Proofs.YtlgpodcoiioefaaGreat
set_option linter.unusedVariables false
set_option linter.unusedSimpArgs false
open Go.RowKit Go.Maps
/-- the reference's log: a block with a slice of texts -/
def rlTh (b : Nat) (v : Value) (B : List ByteArray) : Th := ⟨fun k => k = b ∨ v.ownBlock = some k, fun w => w.heap[b]? = some (.cells #[v] 43 (0, 0)) ∧ w.ownsRow 0 9 1 v B.length (strv B),
  fun w h k hk => by rcases hk with rfl | hk; exact heap_lt h.1; exact (h.2.lt k hk).2,
  fun S w w' h fr hs => ⟨fr.heap h.1 (hs b (.inl rfl)), fr.own h.2 (fun k hk => hs k (.inr hk))⟩⟩
def rl (b : Nat) (B : List ByteArray) : Th → Prop := fun t => ∃ v : Value, v.ownBlock ≠ some b ∧ t = rlTh b v B
/-- the reference's transaction -/
def rtTh (x g : Nat) (v : Value) (W : Wl) (o : Bool) : Th := ⟨fun k => k = x ∨ v.ownBlock = some k, fun w => w.heap[x]? = some (.cells #[pt g, v, .bool o] 67 (0, 0)) ∧ w.ownsRow 0 78 2 v W.length (wcs W),
  fun w h k hk => by rcases hk with rfl | hk; exact heap_lt h.1; exact (h.2.lt k hk).2,
  fun S w w' h fr hs => ⟨fr.heap h.1 (hs x (.inl rfl)), fr.own h.2 (fun k hk => hs k (.inr hk))⟩⟩
def rt (x g : Nat) (W : Wl) (o : Bool) : Th → Prop := fun t => ∃ v : Value, v.ownBlock ≠ some x ∧ t = rtTh x g v W o
section
variable {w0 w w' : World} {Ls : List (Th → Prop)} {b x g : Nat} {B : List ByteArray} {W : Wl} {o : Bool}
theorem EnvP.rl (h : EnvP w0 w Ls) (i : Nat) (hi : Ls[i]? = some (rl b B)) : ∃ v : Value, v.ownBlock ≠ some b ∧ w.heap[b]? = some (.cells #[v] 43 (0, 0)) ∧ w.ownsRow 0 9 1 v B.length (strv B) ∧
    ∀ w' (v' : Value) B', w'.heap[b]? = some (.cells #[v'] 43 (0, 0)) → w'.ownsRow 0 9 1 v' B'.length (strv B') → Fr (fun k => k = b ∨ v.ownBlock = some k) w w' → (∀ k, v'.ownBlock = some k → v.ownBlock = some k ∨ w.heap.size ≤ k) → EnvP w0 w' (Ls.set i (rl b B')) := by
  obtain ⟨t, ⟨v, hne, rfl⟩, ha, ho, hn⟩ := h.get i _ hi
  refine ⟨v, hne, ha.1, ha.2, fun w' v' B' h1 h2 fr nw => hn w' (rlTh b v' B') _ ⟨v', fun e => ?_, rfl⟩ fr ⟨h1, h2⟩ (fun k hk => ?_)⟩
  · rcases nw b e with e | e
    · exact hne e
    · have := heap_lt ha.1; omega
  · rcases hk with rfl | hk
    · exact .inl (.inl rfl)
    · rcases nw k hk with e | e
      · exact .inl (.inr e)
      · exact .inr e
theorem EnvP.rt (h : EnvP w0 w Ls) (i : Nat) (hi : Ls[i]? = some (rt x g W o)) : ∃ v : Value, v.ownBlock ≠ some x ∧ w.heap[x]? = some (.cells #[pt g, v, .bool o] 67 (0, 0)) ∧ w.ownsRow 0 78 2 v W.length (wcs W) ∧
    ∀ w' (v' : Value) W' o', w'.heap[x]? = some (.cells #[pt g, v', .bool o'] 67 (0, 0)) → w'.ownsRow 0 78 2 v' W'.length (wcs W') → Fr (fun k => k = x ∨ v.ownBlock = some k) w w' → (∀ k, v'.ownBlock = some k → v.ownBlock = some k ∨ w.heap.size ≤ k) → EnvP w0 w' (Ls.set i (rt x g W' o')) := by
  obtain ⟨t, ⟨v, hne, rfl⟩, ha, ho, hn⟩ := h.get i _ hi
  refine ⟨v, hne, ha.1, ha.2, fun w' v' W' o' h1 h2 fr nw => hn w' (rtTh x g v' W' o') _ ⟨v', fun e => ?_, rfl⟩ fr ⟨h1, h2⟩ (fun k hk => ?_)⟩
  · rcases nw x e with e | e
    · exact hne e
    · have := heap_lt ha.1; omega
  · rcases hk with rfl | hk
    · exact .inl (.inl rfl)
    · rcases nw k hk with e | e
      · exact .inl (.inr e)
      · exact .inr e
set_option maxRecDepth 100000 in
theorem rbegin_env (h : EnvP w0 w Ls) (g : Nat) : Calls Tryz.prog 22 #[pt g] w fun e w' => ∃ x, e = .returned (pt x) ∧ EnvP w0 w' (Ls ++ [Go.Proofs.YtlgpodcoiioefaaGreat.rt x g [] false]) := by
  have H : Hid (EnvP w0 w Ls) := ⟨h⟩
  clear h
  go_enter Tryz.func22, Tryz.ntmps22
  go_wp2
  go_ret
  refine ⟨w.heap.size, rfl, H.out.push (rtTh w.heap.size g (.slice none 0 0) [] false) _ ⟨_, fun e => (by cases e), rfl⟩ ((Below.refl _ _).alloc (Nat.le_refl _) _) ⟨heap_alloc_new w _, World.ownsRow_nil _ _ _ _⟩ ?_⟩
  intro k hk
  rcases hk with rfl | hk
  · exact Nat.le_refl _
  · cases hk
set_option maxRecDepth 100000 in
theorem rabort_env (h : EnvP w0 w Ls) (i : Nat) (hi : Ls[i]? = some (Go.Proofs.YtlgpodcoiioefaaGreat.rt x g W o)) : Calls Tryz.prog 27 #[pt x] w fun e w' => e = .returned (.tuple #[]) ∧ EnvP w0 w' (Ls.set i (Go.Proofs.YtlgpodcoiioefaaGreat.rt x g W true)) := by
  obtain ⟨v, hne, hx, hm, hn⟩ := h.rt i hi
  have c2 : w.cell? ⟨x, 2, none⟩ = some (.bool o) := cell_of_row w x 2 _ _ (0, 0) hx
  have f2 : w.frozen? ⟨x, 2, none⟩ = false := frozen_of_row w x 2 _ _ hx
  have h1 : (w.setCell ⟨x, 2, none⟩ (.bool true)).heap[x]? = some (.cells #[pt g, v, .bool true] 67 (0, 0)) := cell_set w x 2 _ _ _ hx
  have fr1 : Fr (fun k => k = x) w (w.setCell ⟨x, 2, none⟩ (.bool true)) := fr_set w x 2 _ rfl
  have HE : Hid (EnvP w0 (w.setCell ⟨x, 2, none⟩ (.bool true)) (Ls.set i (Go.Proofs.YtlgpodcoiioefaaGreat.rt x g W true))) := ⟨hn _ v W true h1 (fr1.own hm (fun k hk e => hne (by rw [hk, e]))) (fr1.mono (fun k _ e => .inl e)) (fun k hk => .inl hk)⟩
  clear h hi hx hm hn h1 fr1
  go_enter Tryz.func27, Tryz.ntmps27
  go_wp2
  all_goals (first | go_end0 | refine bodyPost_ret (results_none rfl _ _ _) rfl ?_)
  exact ⟨rfl, HE.out⟩
set_option maxRecDepth 100000 in
theorem rdirty_env (h : EnvP w0 w Ls) (i : Nat) (hi : Ls[i]? = some (Go.Proofs.YtlgpodcoiioefaaGreat.rt x g W o)) {n : Int} (hn : n = if o then 0 else (W.length : Int)) : Calls Tryz.prog 10 #[pt x] w fun e w' => e = .returned (.int .i64 n) ∧ ∃ k, w' = w.drewN k := by
  obtain ⟨v, hne, hx, hm, _⟩ := h.rt i hi
  obtain ⟨a, c, rfl⟩ := own_slice hm
  have c1 : w.cell? ⟨x, 1, none⟩ = some (.slice a W.length c) := cell_of_row w x 1 _ _ (0, 0) hx
  have c2 : w.cell? ⟨x, 2, none⟩ = some (.bool o) := cell_of_row w x 2 _ _ (0, 0) hx
  subst hn
  clear h hi hx hm
  cases o with
  | true =>
    go_enter Tryz.func10, Tryz.ntmps10
    go_wp2
    go_ret
    exact ⟨rfl, 0, rfl⟩
  | false =>
    go_enter Tryz.func10, Tryz.ntmps10
    go_wp2
    go_ret
    exact ⟨rfl, 0, rfl⟩
end
end Go.Proofs.YtlgpodcoiioefaaGreat
