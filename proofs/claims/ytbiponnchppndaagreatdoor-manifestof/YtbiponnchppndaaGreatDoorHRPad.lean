/- The reference: the padded text. -/
import Derived.Test.YtbiponnchppndaaGreatDoorHRWords
import Derived.Test.YtbiponnchppndaaGreatDoorGb
import Derived.OwnWalk
import Derived.Deep.AppendLies
import Derived.Laws.OwnMore
import Derived.Lib.AppendStr
namespace Go.Proofs.YtbiponnchppndaaGreatDoorH
set_option maxRecDepth 100000
set_option linter.unusedVariables false
set_option linter.unusedSimpArgs false
open Go.RowKit
theorem info5f : (Tryz.prog.info? 5).map (fun i => (i.zero, i.size, i.bytes)) = some (some (.int .u8 0), 1, 1) := by kernel_rfl
theorem vals_append (a b : List UInt8) : vals (a ++ b) = vals a ++ vals b := List.map_append ..
theorem vals_length (a : List UInt8) : (vals a).length = a.length := List.length_map ..
theorem news1 {W : World} {c : Value} : ∀ j u, [c][j]? = some u → (W.alloc (.cells #[c] 5)).cell? ((⟨W.heap.size, 0, none⟩ : Addr).add j) = some u :=
  World.news_of_block (cs := #[c]) (t := 5) (fr := (0, 0)) (heap_alloc_new W _)
theorem below_grow {w wr w2 : World} {v : Value} {o : Obj} {k : Nat} {xs : List Value} (hbr : Below w.heap.size w wr) (hown : wr.ownsRow w.heap.size 5 1 v k xs) (hg : (wr.alloc o).grownBy w2 v.ownBlock) : Below w.heap.size w w2 :=
  (hbr.alloc hbr.size _).grown hg (by have := hbr.size; simp; omega) (fun k0 hk0 => (hown.lt k0 hk0).1)
def lnOf : Value → Nat | .slice _ n _ => n | _ => 0
/-- A slice of its own that holds these bytes. -/
def OwnL (w wr : World) (v : Value) (L : List UInt8) : Prop := ∃ g cap, v = .slice (some ⟨g, 0, none⟩) L.length cap ∧ wr.ownsRow w.heap.size 5 1 v L.length (vals L) ∧ Below w.heap.size w wr
def zs (n j : Nat) (m : List UInt8) : List UInt8 := m ++ 128 :: List.replicate j 0
def ls (n k : Nat) (m : List UInt8) : List UInt8 := m ++ 128 :: (List.replicate ((119 - n % 64) % 64) 0 ++ (List.range k).map (Sha.lenByte n))
theorem zs_len (n j : Nat) (m : List UInt8) : (zs n j m).length = m.length + 1 + j := by simp [zs]; omega
theorem ls_len (n j : Nat) (m : List UInt8) : (ls n j m).length = m.length + 1 + (119 - n % 64) % 64 + j := by simp [ls]; omega
theorem zs_succ (n j : Nat) (m : List UInt8) : zs n (j + 1) m = zs n j m ++ [0] := by simp [zs, List.replicate_succ']
theorem ls_succ (n j : Nat) (m : List UInt8) : ls n (j + 1) m = ls n j m ++ [Sha.lenByte n j] := by simp [ls, List.range_succ]
theorem zs_ls (n : Nat) (m : List UInt8) : zs n ((119 - n % 64) % 64) m = ls n 0 m := by simp [zs, ls]
set_option maxHeartbeats 1000000 in
set_option maxRecDepth 8000 in
theorem padded_any (s : ByteArray) (w : World) (hs : s.size ≤ 140737488351232) :
    Calls Tryz.prog 123 #[.string s] w fun e w' => ∃ g cap, e = .returned (.slice (some ⟨g, 0, none⟩) (s.data.toList ++ Sha.pad s.size).length cap) ∧ w'.ownsRow w.heap.size 5 1 (.slice (some ⟨g, 0, none⟩) (s.data.toList ++ Sha.pad s.size).length cap) (s.data.toList ++ Sha.pad s.size).length (vals (s.data.toList ++ Sha.pad s.size)) ∧ Below w.heap.size w w' := by
  obtain ⟨i0, hi0, hz0, hz1, hz2⟩ : ∃ i, Tryz.prog.info? 5 = some i ∧ i.zero = some (.int .u8 0) ∧ i.size = 1 ∧ i.bytes = 1 := by
    have := info5f
    cases hq : Tryz.prog.info? 5 with
    | none => rw [hq] at this; cases this
    | some i => rw [hq] at this; simp at this; exact ⟨i, rfl, this.1, this.2.1, this.2.2⟩
  have hm : maxLen = 9223372036854775807 := rfl
  go_enter Tryz.func123, Tryz.ntmps123
  go_wp2_with (first
    | (refine Lib.wpList_append_own_string _ rfl _ _ _ _ rfl w.heap.size 5 i0 Tryz.underlying67 Tryz.underlying9 hi0 hz0 hz1 hz2 _ 0 [] rfl (World.ownsRow_nil _ _ _ _) s rfl (by rw [hm]; omega) (by omega) (Nat.le_refl _) ?_; intro v1 w1 hown1 hgrow1 hiff1)
    | (refine wpList_append_lies _ rfl _ _ _ rfl w.heap.size 5 i0 _ 1 1 Tryz.underlying67 hi0 hz0 hz1 hz2 rfl (by omega) v1 (0 + s.size) ([] ++ Lib.strCells s) rfl (hown1.alloc _) _ 1 1 [.int .u8 128] rfl rfl news1 (by simp [Value.oneCell']) (by omega) (by rw [hm]; omega) (by omega) (by have := hgrow1.size; simp; omega) _ rfl ?_; intro g2 c2 w2 hown2 hgrow2 hat2 hlt2))
  have hb2 : Below w.heap.size w w2 := by
    have h1 : Below w.heap.size w w1 := (Below.refl _ _).grown hgrow1 (Nat.le_refl _) (fun k0 hk0 => by simp [go_sem, Value.ownBlock] at hk0)
    exact below_grow h1 hown1 hgrow2
  have e0 : ([] ++ Lib.strCells s ++ [Value.int IntKind.u8 128]) = vals (zs s.size 0 s.data.toList) := by simp [vals, zs, Lib.strCells]
  have hl0 : s.data.toList.length = s.size := Array.length_toList
  have e1 : 0 + s.size + 1 = (zs s.size 0 s.data.toList).length := by rw [zs_len, hl0]; omega
  have hO : OwnL w w2 (.slice (some ⟨g2, 0, none⟩) (s.size + 1) c2) (zs s.size 0 s.data.toList) := by
    rw [e0, e1] at hown2
    have e2 : s.size + 1 = (zs s.size 0 s.data.toList).length := by omega
    rw [e2]
    exact ⟨g2, c2, rfl, hown2, hb2⟩
  clear hown2 hgrow2 hat2 hlt2 hown1 hgrow1 hiff1 hb2 e0 e1
  generalize (.slice (some ⟨g2, 0, none⟩) (s.size + 1) c2 : Value) = v2 at *
  obtain ⟨n, hn⟩ : ∃ n, n = s.size := ⟨_, rfl⟩
  obtain ⟨z, hz⟩ : ∃ z, z = (119 - n % 64) % 64 := ⟨_, rfl⟩
  have hz64 : z < 64 := by omega
  rw [← hn] at hO hl0
  have hn47 : n ≤ 140737488351232 := by omega
  have HL0 : Hid (s.data.toList.length = n) := hl0
  have HZ : Hid (z = (119 - n % 64) % 64) := hz
  have HN : Hid (n = s.size) := hn
  clear hz hn
  clear hl0
  generalize hM : s.data.toList = m at *
  have HM : Hid (s.data.toList = m) := hM
  clear hM
  go_loopw [3] (fun v wr => ∃ j : Nat, j ≤ z ∧ OwnL w wr v (zs n j m)) (fun v _ => n + 1 + z - lnOf v)
  case atStart => exact ⟨0, by omega, hO⟩
  case round =>
    clear hO
    obtain ⟨j, hj, g, cap, rfl, hown, hb⟩ := hrel
    obtain ⟨l, hl⟩ : ∃ l, l = (zs n j m).length := ⟨_, rfl⟩
    have hll : l = n + 1 + j := by rw [hl, zs_len, HL0.out]
    rw [← hl] at hown
    have Hl : Hid (l = (zs n j m).length) := hl
    rw [← hl]
    clear hl
    have Hll : Hid (l = n + 1 + j) := hll
    have hl47 : l ≤ n + 1 + z := by omega
    by_cases hlt : j < z
    · have hne : ((l : Int) % 64 != 56) = true := by rw [bne_iff_ne]; have := HZ.out; omega
      clear hll
      go_wp2_with (refine wpList_append_lies _ rfl _ _ _ rfl w.heap.size 5 i0 _ 1 1 Tryz.underlying67 hi0 hz0 hz1 hz2 rfl (by omega) (.slice (some ⟨g, 0, none⟩) l cap) l (vals (zs n j m)) rfl (hown.alloc _) _ 1 1 [.int .u8 0] rfl rfl news1 (by simp [Value.oneCell']) (by omega) (by rw [hm]; omega) (by omega) (by have := hb.size; simp; omega) _ rfl ?_; intro g3 c3 w3 hown3 hgrow3 hat3 hlt3)
      refine ⟨⟨j + 1, by omega, g3, c3, ?_, ?_, below_grow hb hown hgrow3⟩, ?_⟩
      · rw [zs_len, HL0.out, Hll.out]; rfl
      · rw [zs_succ, vals_append, List.length_append, ← Hl.out]; exact hown3
      · show n + 1 + z - (l + 1) < n + 1 + z - l
        have := Hll.out; omega
    · obtain rfl : z = j := by omega
      have hne : ((l : Int) % 64 != 56) = false := by rw [bne_eq_false_iff_eq]; have := HZ.out; omega
      clear hll
      have hO : OwnL w wr (.slice (some ⟨g, 0, none⟩) l cap) (ls n 0 m) := ⟨g, cap, by rw [← zs_ls, ← HZ.out, ← Hl.out], by rw [← zs_ls, ← HZ.out, ← Hl.out]; exact hown, hb⟩
      clear hown hb
      go_wp2_with fail
      generalize (.slice (some ⟨g, 0, none⟩) l cap : Value) = v3 at *
      go_loopw [3, 5] (fun v i wr => ∃ k : Nat, k ≤ 8 ∧ i = .int .i64 (7 - (k : Int)) ∧ OwnL w wr v (ls n k m)) (fun _ i _ => (intOf i + 1).toNat)
      case atStart => exact ⟨0, by omega, rfl, hO⟩
      case round =>
        clear hO
        obtain ⟨k, hk, rfl, g, cap, rfl, hown, hb⟩ := hrel
        obtain ⟨l, hl⟩ : ∃ l, l = (ls n k m).length := ⟨_, rfl⟩
        have hll : l = n + 1 + z + k := by rw [hl, ls_len, HL0.out, ← HZ.out]
        rw [← hl] at hown
        have Hl : Hid (l = (ls n k m).length) := hl
        rw [← hl]
        clear hl
        have Hll : Hid (l = n + 1 + z + k) := hll
        have hl47 : l ≤ n + 1 + z + 8 := by omega
        clear hll
        by_cases hlt : k < 8
        · have hge : decide ((0 : Int) ≤ 7 - (k : Int)) = true := decide_eq_true (by omega)
          go_wp2_with (refine wpList_append_lies _ rfl _ _ _ rfl w.heap.size 5 i0 _ 1 1 Tryz.underlying67 hi0 hz0 hz1 hz2 rfl (by omega) (.slice (some ⟨g, 0, none⟩) l cap) l (vals (ls n k m)) rfl (hown.alloc _) _ 1 1 [.int .u8 ((s.size : Int) * 8 / 2 ^ (8 * (7 - k)) % 256)] rfl rfl news1 (by simp [Value.oneCell']) (by omega) (by rw [hm]; omega) (by omega) (by have := hb.size; simp; omega) _ rfl ?_; intro g3 c3 w3 hown3 hgrow3 hat3 hlt3)
          have e : (s.size : Int) * 8 / 2 ^ (8 * (7 - k)) % 256 = ((Sha.lenByte n k).toNat : Int) := by
            have e1 : 8 * (7 - k) = 56 - 8 * k := by omega
            have e2 : (s.size : Int) * 8 = ((8 * n : Nat) : Int) := by have := HN.out; omega
            rw [e1, e2]
            unfold Sha.lenByte; rw [UInt8.toNat_ofNat']; exact (cast_div (8 * n) _).symm
          rw [e] at hown3
          refine ⟨⟨k + 1, by omega, by go_num, g3, c3, ?_, ?_, below_grow hb hown hgrow3⟩, ?_⟩
          · rw [ls_succ, List.length_append, ← Hl.out]; rfl
          · rw [ls_succ, vals_append, List.length_append, ← Hl.out]; exact hown3
          · simp [intOf]; omega
        · obtain rfl : k = 8 := by omega
          go_wp2_with fail
          go_ret
          have e : ls n 8 m = m ++ Sha.pad s.size := by rw [← HN.out]; rfl
          rw [e] at hown Hl
          rw [HM.out, ← Hl.out]
          exact ⟨g, cap, rfl, hown, hb⟩
end Go.Proofs.YtbiponnchppndaaGreatDoorH
