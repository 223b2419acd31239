/- Layer 22: whole commands loaded and stored; read of any part. -/
import Derived.Test.YtgbkloihclbimaaDoorXh
namespace Go.Proofs.YtgbkloihclbimaaDoor
set_option maxRecDepth 100000
set_option linter.unusedVariables false
set_option linter.unusedSimpArgs false
open Go.RowKit
attribute [local go_sem ↓] Go.wp_at_zero Go.wp_at_succ
theorem infoC : (Tryd.prog.info? 36).map (·.size) = some 12 := by kernel_rfl
noncomputable def ldC (v : Value) : Sem Value := Instr.loadAt 36 v
theorem ldCe (v : Value) : Instr.loadAt 36 v = ldC v := rfl
noncomputable def stC (p v : Value) : Sem Unit := Instr.storeAt 36 p v
theorem stCe (p v : Value) : Instr.storeAt 36 p v = stC p v := rfl
theorem there_of_row {w : World} {b n : Nat} {C : Array Value} {T : TypeId} (h : w.heap[b]? = some (.cells C T (0, 0))) (o : Nat) (hn : o + n ≤ C.size) : w.there b o n := fun j hj => by
  refine ⟨?_, frozen_of_row _ _ _ _ _ h⟩
  rw [cell_of_row _ _ _ _ _ _ h, Array.getElem?_eq_getElem (by omega)]; rfl
theorem ccs_one (c : Cm) (ma : Option Addr) (mc : Nat) (ka : Option Addr) (kc : Nat) : (ccs c ma mc ka kc).all (·.oneCell') = true := by simp [ccs, Value.oneCell']
abbrev zC : Array Value := #[.int .i64 0, .int .i64 0, .int .i64 0, .int .i64 0, .string ⟨#[]⟩, .string ⟨#[]⟩, .string ⟨#[]⟩, .slice none 0 0, .int .i64 0, .int .i64 0, .slice none 0 0, .string ⟨#[]⟩]
theorem run_stC (w : World) (c : Cm) (ma : Option Addr) (mc : Nat) (ka : Option Addr) (kc : Nat) : (stC (.pointer (some ⟨w.heap.size, 0, none⟩)) (cV c ma mc ka kc)).run Tryd.prog (w.alloc (.cells zC 36)) = .ok () (w.alloc (.cells (ccs c ma mc ka kc) 36)) := by
  unfold stC
  exact run_storeAt_new w 36 zC (ccs c ma mc ka kc) infoC rfl (ccs_one ..)
def sC (w : World) (g : Nat) (c : Cm) (ma : Option Addr) (mc : Nat) (ka : Option Addr) (kc : Nat) : World := w.setCells g 0 (ccs c ma mc ka kc).toList
theorem run_stC2 {w : World} {g : Nat} {C : Array Value} (h : w.heap[g]? = some (.cells C 36 (0, 0))) (hC : C.size = 12) (c : Cm) (ma : Option Addr) (mc : Nat) (ka : Option Addr) (kc : Nat) : (stC (.pointer (some ⟨g, 0, none⟩)) (cV c ma mc ka kc)).run Tryd.prog w = .ok () (sC w g c ma mc ka kc) := by
  unfold stC
  exact run_storeAt_mid (P := Tryd.prog) w g 0 36 (ccs c ma mc ka kc) (there_of_row h 0 (by rw [hC]; exact Nat.le_refl _)) infoC (ccs_one ..)
def lay (cs : Array Value) : Nat → List Value → Array Value
  | _, [] => cs
  | o, v :: r => lay (cs.setIfInBounds o v) (o + 1) r
theorem heap_setCells {g : Nat} {t : TypeId} : ∀ (vs : List Value) (o : Nat) (cs : Array Value) (w : World), w.heap[g]? = some (.cells cs t (0, 0)) → (w.setCells g o vs).heap[g]? = some (.cells (lay cs o vs) t (0, 0))
  | [], _, _, _, h => h
  | v :: r, o, cs, w, h => heap_setCells r (o + 1) _ _ (heap_setCell_same w g o cs t v h)
theorem lay_size : ∀ (vs : List Value) (o : Nat) (cs : Array Value), (lay cs o vs).size = cs.size
  | [], _, _ => rfl
  | v :: r, o, cs => by rw [lay, lay_size r]; simp
theorem lay_get : ∀ (vs : List Value) (o : Nat) (cs : Array Value) (i : Nat), i < cs.size → (lay cs o vs)[i]? = if o ≤ i then (if h : i - o < vs.length then some vs[i - o] else cs[i]?) else cs[i]?
  | [], o, cs, i, hi => by simp [lay]
  | v :: r, o, cs, i, hi => by
    rw [lay, lay_get r (o + 1) _ i (by simpa using hi)]
    by_cases h1 : o + 1 ≤ i
    · rw [if_pos h1, if_pos (by omega)]
      by_cases h2 : i - (o + 1) < r.length
      · have h3 : i - o < (v :: r).length := by simp; omega
        rw [dif_pos h2, dif_pos h3]
        congr 1
        have : i - o = (i - (o + 1)) + 1 := by omega
        simp only [this, List.getElem_cons_succ]
      · have h3 : ¬ i - o < (v :: r).length := by simp; omega
        rw [dif_neg h2, dif_neg h3, Array.getElem?_setIfInBounds_ne (by omega)]
    · rw [if_neg h1]
      by_cases h4 : o = i
      · subst h4
        rw [if_pos (Nat.le_refl _), dif_pos (by simp)]
        rw [Array.getElem?_setIfInBounds_self_of_lt hi]
        simp
      · rw [if_neg (by omega), Array.getElem?_setIfInBounds_ne h4]
theorem lay_all (C : Array Value) (L : List Value) (h : C.size = L.length) : lay C 0 L = L.toArray := by
  apply Array.ext_getElem?
  intro i
  by_cases hi : i < L.length
  · rw [lay_get _ _ _ _ (by omega), if_pos (Nat.zero_le _), dif_pos (by omega), List.getElem?_toArray, List.getElem?_eq_getElem hi]
    rfl
  · rw [Array.getElem?_eq_none (by rw [lay_size, h]; omega), Array.getElem?_eq_none (by rw [List.size_toArray]; omega)]
theorem sC_heap {w : World} {g : Nat} {C : Array Value} (h : w.heap[g]? = some (.cells C 36 (0, 0))) (hC : C.size = 12) (c : Cm) (ma : Option Addr) (mc : Nat) (ka : Option Addr) (kc : Nat) : Bc (sC w g c ma mc ka kc) g c ma mc ka kc := by
  have e : (ccs c ma mc ka kc).toList.toArray = ccs c ma mc ka kc := Array.toArray_toList
  have hl : (ccs c ma mc ka kc).toList.length = 12 := rfl
  unfold Bc sC
  generalize ccs c ma mc ka kc = X at *
  rw [heap_setCells _ _ _ _ h, lay_all _ _ (by rw [hC, hl]), e]
theorem oth_setCells {X : Bs} {w : World} {g : Nat} (hg : X g) : ∀ (vs : List Value) (o : Nat) (w' : World), Oth X w w' → Oth X w (w'.setCells g o vs)
  | [], _, _, h => h
  | v :: r, o, w', h => oth_setCells hg r (o + 1) _ (h.set hg)
theorem sC_oth (w : World) (g : Nat) (c : Cm) (ma : Option Addr) (mc : Nat) (ka : Option Addr) (kc : Nat) : Oth (fun x => x = g) w (sC w g c ma mc ka kc) := oth_setCells (X := fun x => x = g) (g := g) rfl _ _ _ (Oth.refl _ _)
theorem Bc.range {w : World} {g : Nat} {c : Cm} {ma : Option Addr} {mc : Nat} {ka : Option Addr} {kc : Nat} (h : Bc w g c ma mc ka kc) : w.rangeAt g 0 (ccs c ma mc ka kc).toList := fun j v hv => by
  rw [Nat.zero_add, cell_of_row _ _ _ _ _ _ h, ← Array.getElem?_toList]; exact hv
theorem run_ldC {w : World} {g o : Nat} {c : Cm} {ma : Option Addr} {mc : Nat} {ka : Option Addr} {kc : Nat} (h : w.rangeAt g o (ccs c ma mc ka kc).toList) : (ldC (.pointer (some ⟨g, o, none⟩))).run Tryd.prog w = .ok (cV c ma mc ka kc) w := by
  unfold ldC
  exact run_loadAt_mid (P := Tryd.prog) w g o 36 (ccs c ma mc ka kc).toList _ h Tryd.underlying36 rfl infoC
def letters : By := [83, 90, 66, 98, 107, 100, 113, 110, 109, 99]
theorem shps_letters : ∀ s ∈ shps, ∀ p ∈ s.parts, p ∈ letters := by decide +kernel
theorem read_any (p : UInt8) (hp : p ∈ letters) (M gc gr : Nat) (c : Cm) (r : Rr) (w0 w : World) (ma : Option Addr) (mc : Nat) (ka : Option Addr) (kc : Nat) (a : Option Addr) (ac : Nat) (h : CS w M gc gr c r ma mc ka kc a ac) (hB : Below w0.heap.size w0 w) (hg : w0.heap.size ≤ M) (hT : TB w0) (hE : EG w0) (hl : c.st.kept.length + r.1.length ≤ 1000000000000) (hl2 : c.st.mt.length + r.1.length ≤ 1000000000000) :
    Calls Tryd.prog 39 #[.pointer (some ⟨gc, 0, none⟩), .int .u8 (p.toNat : Int), .pointer (some ⟨gr, 0, none⟩)] w fun e w' => e = .returned (.tuple #[]) ∧ RS M gc gr (rdp (c, r) p) w w' := by
  have hg2 := Nat.le_trans hg h.rx.ge
  simp only [letters, List.mem_cons, List.not_mem_nil, or_false] at hp
  rcases hp with rfl | rfl | rfl | rfl | rfl | rfl | rfl | rfl | rfl | rfl
  · exact read83 M gc gr c r w0 w ma mc ka kc a ac h hB hg2 hT hE
  · exact read90 M gc gr c r w0 w ma mc ka kc a ac h hB hg2 hT hE
  · exact read66 M gc gr c r w0 w ma mc ka kc a ac h hB hg2 hT hE
  · exact read98 M gc gr c r w0 w ma mc ka kc a ac h hB hg2 hT hE
  · exact read107 M gc gr c r w0 w ma mc ka kc a ac h hB hg2 hT hE
  · exact read100 M gc gr c r w0 w ma mc ka kc a ac h hB hg2 hT hE
  · exact read113 M gc gr c r w0 w ma mc ka kc a ac h hB hg2 hT hE
  · exact read110 M gc gr c r w0 w ma mc ka kc a ac h hB hg2 hT hE
  · exact read109 M gc gr c r w0 w ma mc ka kc a ac h hB hg hT hE hl2
  · exact read99 M gc gr c r w0 w ma mc ka kc a ac h hB hg hT hE hl
end Go.Proofs.YtgbkloihclbimaaDoor
