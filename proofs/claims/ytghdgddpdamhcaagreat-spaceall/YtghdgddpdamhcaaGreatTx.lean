/- A transaction: its block, its map of blocks. -/
import Derived.Test.YtghdgddpdamhcaaGreatOpe
import Derived.Test.YtghdgddpdamhcaaGreatTMath
import Derived.Deep.WholeRow
import Derived.Lib.SlKeysI
namespace Go.Proofs.YtghdgddpdamhcaaGreat
set_option linter.unusedVariables false
set_option linter.unusedSimpArgs false
open Go.RowKit Go.Maps
theorem blk_ex : ∃ f : ByteArray → Value, ∀ t, f t = .agg (vals t.data.toList).toArray := ⟨fun t => .agg (vals t.data.toList).toArray, fun _ => rfl⟩
/-- a block as a value -/
noncomputable def blk : ByteArray → Value := Classical.choose blk_ex
theorem blk_eq (t : ByteArray) : blk t = .agg (vals t.data.toList).toArray := Classical.choose_spec blk_ex t
theorem vals_inj {a b : List UInt8} (h : vals a = vals b) : a = b := by
  unfold vals at h
  refine (List.map_inj_right (f := fun b : UInt8 => Value.int .u8 b.toNat) (fun x y e => ?_)).1 h
  injection e with _ e
  exact UInt8.toNat_inj.1 (by omega)
theorem blk_inj {a b : ByteArray} (h : blk a = blk b) : a = b := by
  rw [blk_eq, blk_eq] at h
  injection h with h
  have := vals_inj (List.toArray_inj h)
  exact ByteArray.ext (Array.toList_inj.1 this)
open Classical in
noncomputable def bElem (v : Value) : Option (DataW Unit × List MemPlace) := if h : ∃ t : ByteArray, t.size = 512 ∧ v = blk t then some (.lit (.string (Classical.choose h).data.toList), []) else none
theorem bElem_mk {t : ByteArray} (ht : t.size = 512) : bElem (blk t) = some (.lit (.string t.data.toList), []) := by
  have h : ∃ t' : ByteArray, t'.size = 512 ∧ blk t = blk t' := ⟨t, ht, rfl⟩
  unfold bElem
  rw [dif_pos h, ← blk_inj (Classical.choose_spec h).2]
theorem bElem_inv {v : Value} {z : DataW Unit × List MemPlace} (h : bElem v = some z) : ∃ t : ByteArray, t.size = 512 ∧ v = blk t ∧ z = (.lit (.string t.data.toList), []) := by
  unfold bElem at h
  split at h
  · next hx => cases h; exact ⟨_, (Classical.choose_spec hx).1, (Classical.choose_spec hx).2, rfl⟩
  · cases h
def ent (p : Nat × ByteArray) : Lit × DataW Unit := (.int .i64 (p.1 : Int), .lit (.string p.2.data.toList))
def txD (W : Wl) : DataW Unit := .map (W.map ent)
theorem same_int (a b : Nat) : (Lit.int .i64 (a : Int)).sameKey (.int .i64 (b : Int)) = decide (a = b) := by
  simp only [Lit.sameKey, true_and]
  by_cases h : a = b
  · subst h; simp
  · rw [decide_eq_false h, decide_eq_false (by omega)]
theorem filter_far {n : Nat} : ∀ {W : Wl}, (∀ q ∈ W, q.1 ≠ n) → (W.map ent).filter (fun p => !p.1.sameKey (.int .i64 (n : Int))) = W.map ent
  | [], _ => rfl
  | p :: r, h => by
    have h0 := h p List.mem_cons_self
    rw [List.map_cons, List.filter_cons_of_pos (by simp only [ent, same_int]; simp [h0]), filter_far (fun q hq => h q (List.mem_cons_of_mem _ hq))]
theorem insert_front {n : Nat} {t : ByteArray} : ∀ {W : Wl}, (∀ q ∈ W, n < q.1) → DataW.insert (ent (n, t)) (W.map ent) = ent (n, t) :: W.map ent
  | [], _ => rfl
  | p :: r, h => by
    have h0 := h p List.mem_cons_self
    have : (ent (n, t)).1.before (ent p).1 = true := by simp [ent, Lit.before]; exact h0
    rw [List.map_cons, DataW.insert, if_pos this]
theorem txD_put {n : Nat} {t : ByteArray} : ∀ {W : Wl}, Rising W → DataW.insert (ent (n, t)) ((W.map ent).filter fun p => !p.1.sameKey (.int .i64 (n : Int))) = (insW n t W).map ent
  | [], _ => rfl
  | p :: r, h => by
    obtain ⟨h1, h2⟩ := List.pairwise_cons.1 h
    unfold insW
    split
    · next hlt =>
      rw [filter_far (fun q hq => by
        rcases List.mem_cons.1 hq with rfl | hq
        · omega
        · have := h1 q hq; omega), insert_front (fun q hq => by
        rcases List.mem_cons.1 hq with rfl | hq
        · exact hlt
        · have := h1 q hq; omega)]
      rfl
    · split
      · next he =>
        rw [List.map_cons, List.filter_cons_of_neg (by simp only [ent, same_int]; simp [he]), filter_far (fun q hq => by have := h1 q hq; omega), insert_front (fun q hq => by have := h1 q hq; omega)]
        rfl
      · next hn he =>
        have hb : (ent (n, t)).1.before (ent p).1 = false := by simp [ent, Lit.before]; omega
        rw [List.map_cons, List.filter_cons_of_pos (by simp only [ent, same_int]; simp; omega), DataW.insert, if_neg (by rw [hb]; decide), txD_put h2]
        rfl
theorem put_txD {n : Nat} {t : ByteArray} {W : Wl} (h : Rising W) : (txD W).put (.int .i64 (n : Int)) (.lit (.string t.data.toList)) = txD (insW n t W) := by
  show DataW.map (DataW.insert _ _) = _
  rw [txD, ← txD_put h]; rfl
theorem find_txD (n : Nat) : ∀ W : Wl, (W.map ent).find? (fun p => p.1.sameKey (.int .i64 (n : Int))) = (lookW W n).map fun t => ent (n, t)
  | [] => rfl
  | p :: r => by
    rw [List.map_cons, lookW]
    by_cases e : p.1 = n
    · subst e
      rw [List.find?_cons_of_pos (by simp only [ent, same_int]; simp), if_pos rfl]; rfl
    · rw [List.find?_cons_of_neg (by simp only [ent, same_int]; simp [e]), if_neg e, find_txD n r]
theorem has_txD (W : Wl) (n : Nat) : Maps.has (txD W) (.int .i64 (n : Int)) = (lookW W n).isSome := by
  have e : ((W.map ent).find? (fun p => p.1.sameKey (.int .i64 (n : Int)))).isSome = (W.map ent).any (fun p => p.1.sameKey (.int .i64 (n : Int))) := by
    induction W.map ent with
    | nil => rfl
    | cons p r ih =>
      rw [List.any_cons]
      cases hp : p.1.sameKey (.int .i64 (n : Int)) with
      | true => rw [List.find?_cons_of_pos (p := fun p : Lit × DataW Unit => p.1.sameKey (.int .i64 (n : Int))) hp]; rfl
      | false => rw [List.find?_cons_of_neg (p := fun p : Lit × DataW Unit => p.1.sameKey (.int .i64 (n : Int))) (by rw [hp]; decide), ih]; rfl
  show (W.map ent).any _ = _
  rw [← e, find_txD]; cases lookW W n <;> rfl
theorem has_txD_neg (W : Wl) (z : Int) (hz : z < 0) : Maps.has (txD W) (.int .i64 z) = false := by
  show (W.map ent).any _ = false
  rw [List.any_eq_false]
  intro p hp
  obtain ⟨q, _, rfl⟩ := List.mem_map.1 hp
  simp only [ent, Lit.sameKey]
  simp; omega
theorem at_txD (W : Wl) (n : Nat) (z : DataW Unit) : (txD W).atKey (.int .i64 (n : Int)) z = match lookW W n with | some t => .lit (.string t.data.toList) | none => z := by
  unfold txD DataW.atKey
  simp only
  rw [find_txD]; cases lookW W n <;> rfl
theorem size_txD (W : Wl) : Maps.size (txD W) = W.length := by show (W.map ent).length = _; simp
theorem keys_txD : ∀ W : Wl, intKeys (txD W) = W.map fun p => (p.1 : Int)
  | W => by
    show (W.map ent).map _ = _
    rw [List.map_map]; rfl
/-- the map that a transaction has -/
abbrev MapAt (w : World) (b : Nat) (W : Wl) : Prop := w.ownsMap Tryz.prog 3 bElem b W.length (txD W)
theorem tight {w : World} {b n : Nat} {W : Wl} (h : w.ownsMap Tryz.prog 3 bElem b n (txD W)) : MapAt w b W := by
  obtain ⟨es, clock, hb, F, hs, hD⟩ := h
  refine ⟨es, clock, hb, F, ?_, hD⟩
  have h1 : (W.map ent).length = es.size := by
    have : DataW.map (W.map ent) = DataW.map _ := hD
    injection this with this
    rw [this, length_sorted]; simp
  rw [← h1]; simp
def txTh (x mb q : Nat) (W : Wl) (o : Bool) : Th := ⟨fun k => k = x ∨ k = mb, fun w => w.heap[x]? = some (.cells #[pt q, .map (some mb), .bool o] 82 (0, 0)) ∧ MapAt w mb W,
  fun w h k hk => by rcases hk with rfl | rfl; exact heap_lt h.1; exact h.2.lt,
  fun S w w' h fr hs => ⟨fr.heap h.1 (hs x (.inl rfl)), by
    obtain ⟨es, clock, hb, r⟩ := h.2
    exact ⟨es, clock, fr.heap hb (hs mb (.inr rfl)), r⟩⟩⟩
def tx (x q : Nat) (W : Wl) (o : Bool) : Th → Prop := fun t => ∃ mb, x ≠ mb ∧ t = txTh x mb q W o
section
variable {w0 w w' : World} {Ls : List (Th → Prop)} {x q : Nat} {W : Wl} {o : Bool}
theorem EnvP.tx (h : EnvP w0 w Ls) (i : Nat) (hi : Ls[i]? = some (tx x q W o)) : ∃ mb, x ≠ mb ∧ w.heap[x]? = some (.cells #[pt q, .map (some mb), .bool o] 82 (0, 0)) ∧ MapAt w mb W ∧ w0.heap.size ≤ x ∧ w0.heap.size ≤ mb ∧
    ∀ w' W' o', w'.heap[x]? = some (.cells #[pt q, .map (some mb), .bool o'] 82 (0, 0)) → MapAt w' mb W' → Fr (fun k => k = x ∨ k = mb) w w' → EnvP w0 w' (Ls.set i (tx x q W' o')) := by
  obtain ⟨t, ⟨mb, hne, rfl⟩, ha, ho, hn⟩ := h.get i _ hi
  exact ⟨mb, hne, ha.1, ha.2, ho x (.inl rfl), ho mb (.inr rfl), fun w' W' o' h1 h2 fr => hn w' (txTh x mb q W' o') _ ⟨mb, hne, rfl⟩ fr ⟨h1, h2⟩ (fun k hk => .inl hk)⟩
end
end Go.Proofs.YtghdgddpdamhcaaGreat
