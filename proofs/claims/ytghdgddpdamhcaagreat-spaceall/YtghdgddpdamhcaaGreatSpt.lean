/- flipped: the bits of some blocks turned over. lay: blocks of the bitmap written. -/
import Derived.Test.YtghdgddpdamhcaaGreatGc
import Derived.Test.YtghdgddpdamhcaaGreatVal
import Derived.Test.YtghdgddpdamhcaaGreatAll
namespace Go.Proofs.YtghdgddpdamhcaaGreat
set_option linter.unusedVariables false
set_option linter.unusedSimpArgs false
open Go.RowKit Go.Maps
variable {w0 w w' : World} {q p n x sb first : Nat} {W : Wl} {o : Bool} {B : List ByteArray} {X : List (Th → Prop)}
/-- are the bits of all these as was says? -/
def allB (t : ByteArray) (was : Bool) (l : List Nat) : Bool := l.all fun k => bt t k == was
theorem set_mk (w : World) (g i : Nat) (cs : Array Value) (t : TypeId) (mk : Nat × Nat) (v : Value) (hg : w.heap[g]? = some (.cells cs t mk)) : (w.setCell ⟨g, i, none⟩ v).heap[g]? = some (.cells (cs.setIfInBounds i v) t mk) := by
  rw [setCell_eq_setRow w g i cs t mk v hg]
  exact setRow_heap w g cs _ t _ hg
/-- a row of bytes of the call's own, at b, whose first ones are these -/
structure FB (w : World) (b : Nat) (l : List UInt8) : Prop where
  row : ∃ (cs : Array Value) (mk : Nat × Nat), w.heap[b]? = some (.cells cs 5 mk) ∧ l.length ≤ mk.1 ∧ l.length ≤ cs.size ∧ ∀ (j : Nat) (u : UInt8), l[j]? = some u → cs[j]? = some (Value.int .u8 (u.toNat : Int))
theorem FB.cell {w : World} {b : Nat} {l : List UInt8} (h : FB w b l) {j : Nat} {u : UInt8} (hj : l[j]? = some u) : w.cell? ⟨b, j, none⟩ = some (.int .u8 (u.toNat : Int)) := by
  obtain ⟨cs, mk, h1, _, _, h3⟩ := h.row
  rw [cell_of_row w b j cs 5 mk h1]; exact h3 j u hj
theorem FB.froz {w : World} {b : Nat} {l : List UInt8} (h : FB w b l) {j : Nat} (hj : j < l.length) : w.frozen? ⟨b, j, none⟩ = false := by
  obtain ⟨cs, mk, h1, h2, _, h3⟩ := h.row
  have : ¬ mk.1 ≤ j := by omega
  simp [World.frozen?, h1, this]
theorem FB.set {w : World} {b : Nat} {l : List UInt8} (h : FB w b l) (j : Nat) (u : UInt8) : FB (w.setCell ⟨b, j, none⟩ (.int .u8 (u.toNat : Int))) b (l.set j u) := by
  obtain ⟨cs, mk, h1, h2, h4, h3⟩ := h.row
  refine ⟨_, mk, set_mk w b j cs 5 mk _ h1, by simpa using h2, by simpa using h4, fun i v hi => ?_⟩
  by_cases e : j = i
  · subst e
    have hl : j < l.length := by have := (List.getElem?_eq_some_iff.1 hi).1; simpa using this
    rw [List.getElem?_set_self hl] at hi
    cases hi
    rw [Array.getElem?_setIfInBounds_self_of_lt (by omega)]
  · rw [List.getElem?_set_ne e] at hi
    rw [Array.getElem?_setIfInBounds_ne e]
    exact h3 i v hi
theorem FB.of_bytes (w : World) (t : ByteArray) : FB (Lib.bytesWorld w 5 t) w.heap.size t.data.toList := by
  have hge : t.size ≤ grownCap w t.size 0 5 := grownCap_ge _ _ _ _
  have hsz : (Lib.bytesCells w 5 t).size = grownCap w t.size 0 5 := by
    have e2 : t.data.size = t.size := rfl
    simp only [Lib.bytesCells, Array.size_append, Array.size_map, Array.size_replicate, e2]; omega
  have hL : t.data.toList.length = t.size := by simp
  refine ⟨_, _, Lib.bytesWorld_at_new w 5 t, by rw [hL]; show t.size ≤ (Lib.bytesCells w 5 t).size; omega, by omega, fun j u hj => ?_⟩
  have hjl : j < t.size := by have := (List.getElem?_eq_some_iff.1 hj).1; omega
  have := Lib.bytesWorld_cell w 5 t j hjl
  rw [cell_of_row _ _ _ _ _ _ (Lib.bytesWorld_at_new w 5 t), List.getD_eq_getElem?_getD, hj] at this
  exact this
theorem FB.str {w : World} {b c : Nat} {l : List UInt8} (h : FB w b l) {m : Nat} (hm : m = l.length) : (convert 40 9 (.slice (some ⟨b, 0, none⟩) m c)).run Tryz.prog w = .ok (.string ⟨l.toArray⟩) w := by
  subst hm
  refine run_convert_bytes_back w 40 9 5 ⟨b, 0, none⟩ c l Tryz.underlying40 Tryz.underlying5 Tryz.underlying9 ?_
  intro j hj
  have hadd : (⟨b, 0, none⟩ : Addr).add j = ⟨b, j, none⟩ := by unfold Addr.add; split <;> simp_all
  rw [hadd, h.cell (List.getElem?_eq_getElem hj)]
theorem shl_u8 (i : Nat) (hi : i < 8) : ((((1 : UInt8) <<< i.toUInt8).toNat : Nat) : Int) = 2 ^ i := by
  have : i = 0 ∨ i = 1 ∨ i = 2 ∨ i = 3 ∨ i = 4 ∨ i = 5 ∨ i = 6 ∨ i = 7 := by omega
  rcases this with rfl | rfl | rfl | rfl | rfl | rfl | rfl | rfl <;> rfl
theorem allB_snoc (t : ByteArray) (was : Bool) (l : List Nat) (k : Nat) : allB t was (l ++ [k]) = (allB t was l && (bt t k == was)) := by
  unfold allB; rw [List.all_append]; simp
theorem takeN_get (l : List Nat) {k : Nat} (h : k < l.length) : l.take (k + 1) = l.take k ++ [l.getD k 0] := by
  rw [List.take_add_one, List.getD_eq_getElem?_getD, List.getElem?_eq_getElem h]; rfl
theorem flip1_list (t : ByteArray) (k : Nat) : (flip1 t k).data.toList = flipL t.data.toList k := by show ((flipL t.data.toList k).toArray).toList = _; simp
set_option maxRecDepth 100000 in
theorem flipped_any (t : ByteArray) (ht : t.size = 512) (a : Option Addr) (cap : Nat) (l : List Nat) (was : Bool) (w : World) (hl : l.length ≤ 4096) (hk : ∀ k ∈ l, k < 4096)
    (hc : ∀ j, j < l.length → ∃ b off, a = some ⟨b, off, none⟩ ∧ b < w.heap.size ∧ w.cell? ⟨b, off + j, none⟩ = some (.int .i64 ((l.getD j 0 : Nat) : Int))) :
    Calls Tryz.prog 67 #[.string t, .slice a l.length cap, .bool was] w fun e w' => e = .returned (if allB t was l then .tuple #[.string (flipA t l), .bool true] else .tuple #[.string ⟨#[]⟩, .bool false]) ∧ Below w.heap.size w w' := by
  have hcv := Lib.run_convert_string_bytes (P := Tryz.prog) w 9 40 5 t Tryz.underlying9 Tryz.underlying40 Tryz.underlying5
  have HB : Hid (Below w.heap.size w (Lib.bytesWorld w 5 t)) := ⟨⟨rfl, rfl, rfl, by rw [Lib.bytesWorld_size]; omega, fun j hj => Lib.bytesWorld_at_old w 5 t j hj⟩⟩
  have HM : Hid (FB (Lib.bytesWorld w 5 t) w.heap.size (flipA t (l.take 0)).data.toList) := ⟨FB.of_bytes w t⟩
  have HC : Hid (∀ j, j < l.length → ∃ b off, a = some ⟨b, off, none⟩ ∧ b < w.heap.size ∧ w.cell? ⟨b, off + j, none⟩ = some (.int .i64 ((l.getD j 0 : Nat) : Int))) := ⟨hc⟩
  have HK : Hid (∀ j, j < l.length → l.getD j 0 < 4096) := ⟨fun j hj => hk _ (by rw [List.getD_eq_getElem?_getD, List.getElem?_eq_getElem hj]; exact List.getElem_mem _)⟩
  have HA : Hid (allB t was (l.take 0) = true) := ⟨rfl⟩
  have HT : Hid (∀ k, k < l.length → l.take (k + 1) = l.take k ++ [l.getD k 0]) := ⟨fun k h => takeN_get l h⟩
  obtain ⟨R, hR⟩ : ∃ R, R = (if allB t was l then Value.tuple #[.string (flipA t l), .bool true] else .tuple #[.string ⟨#[]⟩, .bool false]) := ⟨_, rfl⟩
  rw [← hR]
  have HR : Hid (R = (if allB t was l then Value.tuple #[.string (flipA t l), .bool true] else .tuple #[.string ⟨#[]⟩, .bool false])) := ⟨hR⟩
  clear hR
  rw [ht] at hcv
  generalize Lib.bytesWorld w 5 t = W1 at *
  generalize grownCap w 512 0 5 = gc at *
  clear hc hk
  go_enter Tryz.func67, Tryz.ntmps67
  go_wp2_with fail
  go_loopw [16] (fun i wr => ∃ k : Nat, k ≤ l.length ∧ i = .int .i64 (k : Int) ∧ Hid (FB wr w.heap.size (flipA t (l.take k)).data.toList) ∧ Hid (Below w.heap.size w wr) ∧ Hid (allB t was (l.take k) = true)) (fun i _ => l.length - (intOf i).toNat)
  case atStart => exact ⟨0, Nat.zero_le _, rfl, HM, HB, HA⟩
  case round =>
    obtain ⟨k, hk, rfl, M, BB, A⟩ := hrel
    clear HM HB HA hcv
    by_cases hlt : k < l.length
    · obtain ⟨b, off, rfl, hbl, hcl⟩ := HC.out k hlt
      have hcl2 : wr.cell? ⟨b, off + k, none⟩ = some (.int .i64 ((l.getD k 0 : Nat) : Int)) := (BB.out.cell (p := ⟨b, off + k, none⟩) hbl).trans hcl
      have hz := HK.out k hlt
      have ht1 := HT.out k hlt
      have M1 := M.out
      clear hcl hbl M HC HT HK
      generalize l.getD k 0 = z at *
      generalize hL : l.take k = L at *
      have hki : (k : Int) < (l.length : Int) := by omega
      have qb := bit_any t z wr (by omega) hz
      have hmz : (z : Int) % 4096 = (z : Int) := by omega
      have hd8 : (z : Int) / 8 < 512 := by omega
      cases hb : (bt t z == was) with
      | false =>
        have HN : Hid (allB t was l = false) := ⟨by
          have e : l = (L ++ [z]) ++ l.drop (k + 1) := by rw [← ht1, List.take_append_drop]
          rw [e]; unfold allB; rw [List.all_append, List.all_append]; simp [hb]⟩
        have HR2 : Hid (R = .tuple #[.string ⟨#[]⟩, .bool false]) := ⟨by rw [HR.out, HN.out]; rfl⟩
        clear ht1 HN HR A
        generalize bt t z = bz at *
        go_wp2_with fail
        refine qb.mono ?_
        rintro e w2 ⟨rfl, rfl⟩
        dsimp only
        go_wp2
        go_ret2
        exact ⟨by rw [HR2.out]; rfl, BB.out⟩
      | true =>
        have HA2 : Hid (allB t was (l.take (k + 1)) = true) := ⟨by rw [ht1, allB_snoc, A.out, hb]; rfl⟩
        have hbyte : z / 8 < (flipA t L).data.toList.length := by rw [Array.length_toList]; show z / 8 < (flipA t L).size; rw [flipA_size, ht]; omega
        obtain ⟨u, hu⟩ : ∃ u, (flipA t L).data.toList[z / 8]? = some u := ⟨_, List.getElem?_eq_getElem hbyte⟩
        have cb := M1.cell hu
        have fb := M1.froz hbyte
        have hcast : ((z / 8 : Nat) : Int) = (z : Int) / 8 := by omega
        have HM2 : Hid (FB (wr.setCell ⟨w.heap.size, z / 8, none⟩ (.int .u8 (((u ^^^ ((1 : UInt8) <<< (z % 8).toUInt8)).toNat : Nat) : Int))) w.heap.size (flipA t (l.take (k + 1))).data.toList) := ⟨by
          have := M1.set (z / 8) (u ^^^ ((1 : UInt8) <<< (z % 8).toUInt8))
          rw [ht1, flipA_snoc, flip1_list]
          unfold flipL
          rw [List.getD_eq_getElem?_getD, hu]
          exact this⟩
        have HB2 : Hid (Below w.heap.size w (wr.setCell ⟨w.heap.size, z / 8, none⟩ (.int .u8 (((u ^^^ ((1 : UInt8) <<< (z % 8).toUInt8)).toNat : Nat) : Int)))) := ⟨BB.out.setCell (Nat.le_refl _) _⟩
        have hx : bits BinOp.xor IntKind.u8 (u.toNat : Int) (2 ^ (z % 8)) = (((u ^^^ ((1 : UInt8) <<< (z % 8).toUInt8)).toNat : Nat) : Int) := by
          rw [← shl_u8 (z % 8) (by omega), u8_xor_nat _ _ u.toNat_lt (UInt8.toNat_lt _), UInt8.toNat_xor]
        clear A M1 HR ht1 BB
        generalize (u ^^^ ((1 : UInt8) <<< (z % 8).toUInt8)).toNat = U at *
        generalize hbz : bt t z = bz at *
        clear hbz
        have hq8 : IntKind.i64.wrap ((z : Int) / 8) = ((z / 8 : Nat) : Int) := by rw [IntKind.wrap_i64]; omega
        have hr8 : (z : Int).tmod 8 = ((z % 8 : Nat) : Int) := by rw [Int.tmod_eq_emod_of_nonneg (by omega)]; omega
        have hZ8 : ((z / 8 : Nat) : Int) < 512 := by omega
        have hZr : ((z % 8 : Nat) : Int) ≤ 8 := by omega
        have hsh : IntKind.u8.wrap ((2 : Int) ^ (z % 8)) = 2 ^ (z % 8) := by
          have : z % 8 = 0 ∨ z % 8 = 1 ∨ z % 8 = 2 ∨ z % 8 = 3 ∨ z % 8 = 4 ∨ z % 8 = 5 ∨ z % 8 = 6 ∨ z % 8 = 7 := by omega
          rcases this with h | h | h | h | h | h | h | h <;> rw [h] <;> rfl
        go_wp2_with fail
        refine qb.mono ?_
        rintro e w2 ⟨rfl, rfl⟩
        dsimp only
        go_wp2_with fail
        rw [hmz]
        clear hmz hd8 hcast qb hcl2 hu hbyte
        generalize z / 8 = Z8 at *
        generalize z % 8 = Zr at *
        go_region_with (fail)
        all_goals
          go_wp2_with fail
          exact ⟨⟨k + 1, by omega, by go_num, ⟨⟨HM2.out.row⟩⟩, ⟨HB2.out.drew⟩, HA2⟩, by simp [intOf]; omega⟩
    · obtain rfl : k = l.length := by omega
      have hs := M.out.str (c := gc) (m := 512) (by rw [Array.length_toList]; show 512 = (flipA t (l.take l.length)).size; rw [flipA_size, ht])
      rw [List.take_length] at hs
      have HA2 := A.out
      rw [List.take_length] at HA2
      have HR2 := HR.out
      rw [HA2, if_pos rfl] at HR2
      have e2 : (⟨(flipA t l).data.toList.toArray⟩ : ByteArray) = flipA t l := by cases flipA t l; rfl
      rw [e2] at hs
      have HR3 : Hid (R = .tuple #[.string (flipA t l), .bool true]) := ⟨HR2⟩
      clear hlt M A HA2 HC HK HT HR HR2
      generalize flipA t l = R1 at *
      go_wp2
      go_ret2
      exact ⟨by rw [HR3.out]; rfl, BB.out⟩
end Go.Proofs.YtghdgddpdamhcaaGreat
