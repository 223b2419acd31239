/- Write: a page's block. -/
import Derived.Test.YtibmnpkmbhjniaaFau
import Derived.Test.YtibmnpkmbhjniaaRun
namespace Go.Proofs.Ytibmnpkmbhjniaa
set_option linter.unusedVariables false
set_option linter.unusedSimpArgs false
open Go.RowKit
attribute [local go_sem ↓] Go.wp_at_zero Go.wp_at_succ
def n2 (n : Nat) : List UInt8 := [UInt8.ofNat (n / 256), UInt8.ofNat n]
def ent (e : En) : List UInt8 := UInt8.ofNat e.key.length :: UInt8.ofNat e.val.length :: (e.key ++ e.val)
def body (l : List En) : List UInt8 := (l.map ent).flatten
theorem ent_length (e : En) : (ent e).length = sz e := by simp [ent, sz]; omega
theorem body_length (l : List En) : (body l).length = tot l := by
  induction l with
  | nil => rfl
  | cons e l ih => simp [body, tot_cons, ent_length] at ih ⊢; exact ih
theorem body_take {l : List En} {k : Nat} {e : En} (h : l[k]? = some e) : body (l.take (k + 1)) = body (l.take k) ++ ent e := by
  rw [take_succ' h]; simp [body]
/-- the head and the entries -/
def blk0 (kind link : Int) (n : Nat) (l : List En) : List UInt8 := UInt8.ofNat kind.toNat :: (n2 link.toNat ++ (n2 n ++ body l))
def blk (kind link : Int) (l : List En) : List UInt8 := blk0 kind link l.length l ++ List.replicate (507 - tot l) 0
theorem blk0_length (kind link : Int) (n : Nat) (l : List En) : (blk0 kind link n l).length = 5 + tot l := by
  simp [blk0, n2, body_length]; omega
theorem blk_length {kind link : Int} {l : List En} (h : tot l ≤ 507) : (blk kind link l).length = 512 := by
  unfold blk; rw [List.length_append, blk0_length, List.length_replicate]; omega
/-- what Write answers -/
noncomputable def wrote (kind link : Int) (l : List En) : Value := .tuple #[str (if flt kind link l = 0 then blk kind link l else []), .int .i64 (flt kind link l)]
theorem flt_zero {kind link : Int} {l : List En} (h : flt kind link l = 0) : (0 ≤ kind ∧ kind ≤ 255 ∧ 0 ≤ link ∧ link ≤ 65535) ∧ l.any lng = false ∧ tot l ≤ 507 ∧ Srt l := by
  unfold flt at h
  split at h
  · omega
  · split at h
    · omega
    · next h0 h1 =>
      split at h
      · next h2 =>
        refine ⟨by omega, by simpa using fun q => h1 (Or.inl q), by omega, ?_⟩
        apply Classical.byContradiction
        intro q
        rw [srtb_false q] at h2
        cases h2
      · omega
theorem app_two {ops : Array Oper} {rest : List Oper} {o : Oper} {a : Act} {Q : Exit → Act → World → Prop} {W : World} (hgd : o.guard = none) (s x : Operand) (ho : o.op = .call { callee := .builtin .append, args := #[s, x], argTypes := #[62, 62] })
    {base : Nat} {w : World} {v : Value} {L : List UInt8} {c d : Int} {g : Nat} (C D : UInt8) (hW : W = w.alloc (.cells #[.int .u8 c, .int .u8 d] 5)) (hO : Ob base w v L) (hg : g = w.heap.size) (hn : L.length ≤ 1000000000) (hC : c = (C.toNat : Int)) (hD : d = (D.toNat : Int))
    (hs : a.eval s = v) (hx : a.eval x = .slice (some ⟨g, 0, none⟩) 2 2)
    (h : ∀ v' w', Ob base w' v' (L ++ [C, D]) → Below base w w' → wpList Try.prog ops Q rest (a.put o.dst v') w') : wpList Try.prog ops Q (o :: rest) a W := by
  obtain ⟨i0, hi0, hz0, hz1, hz2⟩ := info5
  subst hW hC hD hg
  have hm : maxLen = 9223372036854775807 := rfl
  refine wpList_append_own_wide _ hgd s x 62 ho base 5 i0 _ 1 1 Try.underlying62 hi0 hz0 hz1 hz2 rfl (by omega) v L.length (vals L) hs (hO.own.alloc _) _ 2 2 [.int .u8 C.toNat, .int .u8 D.toNat] hx rfl
    (World.news_of_block (cs := #[.int .u8 C.toNat, .int .u8 D.toNat]) (t := 5) (fr := (0, 0)) (heap_alloc_new w _)) (by simp [Value.oneCell']) (by rw [hm]; omega) (by omega) (by have := hO.le; simp; omega) ?_
  intro v' w' hown hgrow _
  refine h v' w' ⟨?_, ?_⟩ ?_
  · rw [vals_append, List.length_append]; exact hown
  · have := hgrow.size; have h2 := hO.le; simp at this; omega
  · exact ((Below.refl _ _).alloc hO.le _).trans (grown_below (hO.own.alloc _) (by have := hO.le; simp; omega) hgrow)
theorem byte_of (n : Nat) : (((UInt8.ofNat n).toNat : Nat) : Int) = (n : Int) % 256 := by simp
theorem appendNumber_any {base : Nat} {w : World} {v : Value} {L : List UInt8} (n : Nat) (hn : n ≤ 65535) (hO : Ob base w v L) (hL : L.length ≤ 1000000) :
    Calls Try.prog 34 #[v, .int .i64 (n : Int)] w fun e w' => ∃ v', e = .returned v' ∧ Ob base w' v' (L ++ n2 n) ∧ Below base w w' := by
  have e1 : (n : Int) / 256 = (((UInt8.ofNat (n / 256)).toNat : Nat) : Int) := by rw [byte_of]; omega
  have e2 : (n : Int) % 256 = (((UInt8.ofNat n).toNat : Nat) : Int) := by rw [byte_of]
  have HE : Hid ((n : Int) / 256 = (((UInt8.ofNat (n / 256)).toNat : Nat) : Int) ∧ (n : Int) % 256 = (((UInt8.ofNat n).toNat : Nat) : Int)) := ⟨e1, e2⟩
  clear e1 e2
  go_enter Try.func34, Try.ntmps34
  go_wp2_with (refine app_two rfl _ _ rfl (UInt8.ofNat (n / 256)) (UInt8.ofNat n) rfl hO rfl (by omega) HE.out.1 HE.out.2 rfl rfl ?_; intro v' w' o1 b1)
  go_ret
  exact ⟨_, rfl, o1, b1⟩
theorem run_append_zeros (w : World) (ty : TypeId) (b : Option Addr) (n c : Nat) (m : Nat) (hm : m ≤ 100000) (hn : n ≤ 100000) (hc : n ≤ c) :
    (Builtin.append_ #[62, 3] ty #[.slice b n c, .int .i64 (m : Int)]).run Try.prog w = (Builtin.append_ #[62, 9] ty #[.slice b n c, .string ⟨(List.replicate m (0 : UInt8)).toArray⟩]).run Try.prog w := by
  obtain ⟨i0, hi0, hz0, hz1, hz2⟩ := info5
  have hw : IntKind.i64.wrap (m : Int) = (m : Int) := by rw [IntKind.wrap_i64]; omega
  have hs : (⟨(List.replicate m (0 : UInt8)).toArray⟩ : ByteArray).size = m := by rw [str_size, List.length_replicate]
  have e0 : ((⟨(List.replicate m (0 : UInt8)).toArray⟩ : ByteArray).extract 0 m) = ⟨(List.replicate m (0 : UInt8)).toArray⟩ := by
    have := ByteArray.extract_zero_size (b := (⟨(List.replicate m (0 : UInt8)).toArray⟩ : ByteArray))
    rw [hs] at this
    exact this
  have e1 : ((⟨(List.replicate m (0 : UInt8)).toArray⟩ : ByteArray).data.map fun b => Value.int .u8 b.toNat) = Builtin.zeroCells (Value.int .u8 0).cells m := by
    apply Array.ext
    · simp [Builtin.zeroCells, Value.cells]
    · intro i h1 h2
      simp [Builtin.zeroCells, Value.cells, Nat.mod_one]
  have hneg : ¬ ((m : Int) < 0) := by omega
  have hbig : ¬ ((281474976710656 : Int) < m) := by omega
  have hbig2 : ¬ ((9223372036854775807 : Int) < (n : Int) + m) := by omega
  generalize (⟨(List.replicate m (0 : UInt8)).toArray⟩ : ByteArray) = X at *
  have hzs : (Builtin.zeroCells (Value.int .u8 0).cells m).size = m := by simp [Builtin.zeroCells, Value.cells]
  have et : List.take m (Builtin.zeroCells (Value.int .u8 0).cells m).toList = (Builtin.zeroCells (Value.int .u8 0).cells m).toList := List.take_of_length_le (by simp [hzs])
  have ex : (Builtin.zeroCells (Value.int .u8 0).cells m).extract 0 m = Builtin.zeroCells (Value.int .u8 0).cells m := by
    have := Array.extract_size (xs := Builtin.zeroCells (Value.int .u8 0).cells m)
    rw [hzs] at this
    exact this
  by_cases h0 : m = 0
  · subst h0
    have hroom : n + 0 ≤ c := by omega
    have ez : Builtin.zeroCells (Value.int .u8 0).cells 0 = #[] := by simp [Builtin.zeroCells]
    rw [ez] at e1
    cases b <;> simp [Builtin.append_, run_underlying Try.underlying62, run_underlying Try.underlying3, run_underlying Try.underlying9, sizeOf, typeInfo, hi0, hz0, hz1, hz2, Builtin.lenOf, Builtin.firstCells, IntKind.wrap_i64, hs, asInt, asIntOf, hroom, e0, e1, zeroValue, hc]
  · by_cases hroom : n + m ≤ c
    · cases b <;> simp [Builtin.append_, run_underlying Try.underlying62, run_underlying Try.underlying3, run_underlying Try.underlying9, sizeOf, typeInfo, hi0, hz0, hz1, hz2, Builtin.lenOf, Builtin.firstCells, hw, hs, asInt, asIntOf, hneg, hbig, hroom, e0, e1, et, ex, zeroValue, h0]
    · have hcap : ¬ (281474976710656 < Builtin.nextslicecap (n + m) c) := by
        have := growslice_fits_wide (need := n + m) (old := c) (bytes := 1) (by omega) (by omega)
        omega
      cases b <;> simp [Builtin.append_, run_underlying Try.underlying62, run_underlying Try.underlying3, run_underlying Try.underlying9, sizeOf, typeInfo, hi0, hz0, hz1, hz2, Builtin.lenOf, Builtin.firstCells, hw, hs, asInt, asIntOf, hneg, hbig, hbig2, hcap, hroom, e0, e1, et, ex, zeroValue, h0]
theorem Ob.form {base : Nat} {w : World} {v : Value} {L : List UInt8} (h : Ob base w v L) : ∃ a c, v = .slice a L.length c ∧ L.length ≤ c := by
  rcases h.own.2 with ⟨rfl, h0⟩ | ⟨g, cap, cur, rfl, _, _, h1, _⟩
  · exact ⟨none, 0, by rw [h0], by omega⟩
  · exact ⟨_, _, rfl, h1⟩
theorem Ob.base' {b b' : Nat} {w : World} {v : Value} {l : List UInt8} (h : Ob b w v l) (hb : b' ≤ b) : Ob b' w v l := by
  refine ⟨⟨h.own.1, ?_⟩, Nat.le_trans hb h.le⟩
  rcases h.own.2 with e | ⟨g, cap, cur, e1, e2, e3⟩
  · exact Or.inl e
  · exact Or.inr ⟨g, cap, cur, e1, Nat.le_trans hb e2, e3⟩
theorem ob_lt {base : Nat} {w : World} {v : Value} {L : List UInt8} (h : Ob base w v L) : v.ownBlock ≠ some w.heap.size := fun q => by
  have := (h.own.lt _ q).2
  omega
/-- two bytes more; the block behind all stays -/
theorem app_twok {ops : Array Oper} {rest : List Oper} {o : Oper} {a : Act} {Q : Exit → Act → World → Prop} {W : World} (hgd : o.guard = none) (s x : Operand) (ho : o.op = .call { callee := .builtin .append, args := #[s, x], argTypes := #[62, 62] })
    {base : Nat} {w : World} {v : Value} {L : List UInt8} {c d : Int} {g : Nat} (C D : UInt8) (hW : W = w.alloc (.cells #[.int .u8 c, .int .u8 d] 5)) (hO : Ob base w v L) (hg : g = w.heap.size) (hn : L.length ≤ 1000000000) (hC : c = (C.toNat : Int)) (hD : d = (D.toNat : Int))
    (hs : a.eval s = v) (hx : a.eval x = .slice (some ⟨g, 0, none⟩) 2 2)
    (h : ∀ v' w', Ob base w' v' (L ++ [C, D]) → Below base w w' → (∀ k, k < w.heap.size → v.ownBlock ≠ some k → w'.heap[k]? = w.heap[k]? ∧ v'.ownBlock ≠ some k) → wpList Try.prog ops Q rest (a.put o.dst v') w') : wpList Try.prog ops Q (o :: rest) a W := by
  obtain ⟨i0, hi0, hz0, hz1, hz2⟩ := info5
  subst hW hC hD hg
  have hm : maxLen = 9223372036854775807 := rfl
  refine wpList_append_lies _ hgd s x 62 ho base 5 i0 _ 1 1 Try.underlying62 hi0 hz0 hz1 hz2 rfl (by omega) v L.length (vals L) hs (hO.own.alloc _) _ 2 2 [.int .u8 C.toNat, .int .u8 D.toNat] hx rfl
    (World.news_of_block (cs := #[.int .u8 C.toNat, .int .u8 D.toNat]) (t := 5) (fr := (0, 0)) (heap_alloc_new w _)) (by simp [Value.oneCell']) (by omega) (by rw [hm]; omega) (by omega) (by have := hO.le; simp; omega) _ rfl ?_
  intro g2 cap2 w' hown hgrow hat hlt
  refine h _ w' ⟨?_, ?_⟩ ?_ ?_
  · rw [vals_append, List.length_append]; exact hown
  · have := hgrow.size; have h2 := hO.le; simp at this; omega
  · exact ((Below.refl _ _).alloc hO.le _).trans (grown_below (hO.own.alloc _) (by have := hO.le; simp; omega) hgrow)
  · intro k hk hne
    refine ⟨by rw [hgrow.block k (by simp; omega) (Ne.symm hne), heap_alloc_old _ _ hk], ?_⟩
    intro q
    have e1 : g2 = k := by simpa [Value.ownBlock] using q
    subst e1
    rcases hat with q2 | q2
    · exact hne q2
    · simp at q2; omega
theorem app_strk {ops : Array Oper} {rest : List Oper} {o : Oper} {a : Act} {Q : Exit → Act → World → Prop} {base : Nat} {w : World} {v : Value} {L : List UInt8} (l : List UInt8) (hO : Ob base w v L) (hn : L.length + l.length ≤ 1000000000)
    (hgd : o.guard = none) (s x : Operand) (ho : o.op = .call { callee := .builtin .append, args := #[s, x], argTypes := #[62, 9] })
    (hs : a.eval s = v) (hx : a.eval x = str l)
    (h : ∀ v' w', Ob base w' v' (L ++ l) → Below base w w' → (∀ k, k < w.heap.size → v.ownBlock ≠ some k → w'.heap[k]? = w.heap[k]?) → wpList Try.prog ops Q rest (a.put o.dst v') w') : wpList Try.prog ops Q (o :: rest) a w := by
  obtain ⟨i0, hi0, hz0, hz1, hz2⟩ := info5
  have hm : maxLen = 9223372036854775807 := rfl
  obtain ⟨v', w', hr, hown, hgrow, _⟩ := Lib.run_append_own_string (P := Try.prog) w base 62 9 o.type 5 i0 Try.underlying62 Try.underlying9 hi0 hz0 hz1 hz2 v L.length (vals L) hO.own ⟨l.toArray⟩ (by rw [str_size, hm]; omega) (by rw [str_size]; omega) hO.le
  refine app_run hgd s x ho hs hx hr ?_
  refine h v' w' ⟨?_, ?_⟩ (grown_below hO.own hO.le hgrow) (fun k hk hne => hgrow.block k hk (Ne.symm hne))
  · rw [vals_append, List.length_append, ← vals_str l]; rw [str_size] at hown; exact hown
  · have := hgrow.size; have h2 := hO.le; omega
theorem box2 {w : World} {g : Nat} {a b : Value} {t : TypeId} (h : w.heap[g]? = some (.cells #[a, b] t (0, 0))) : w.cell? ⟨g, 0, none⟩ = some a ∧ w.cell? ⟨g, 1, none⟩ = some b :=
  ⟨by rw [cell_of_row _ _ _ _ _ _ h]; rfl, by rw [cell_of_row _ _ _ _ _ _ h]; rfl⟩
theorem box3 {w : World} {g : Nat} {a b c : Value} {t : TypeId} (h : w.heap[g]? = some (.cells #[a, b, c] t (0, 0))) : w.cell? ⟨g, 0, none⟩ = some a ∧ w.cell? ⟨g, 1, none⟩ = some b ∧ w.cell? ⟨g, 2, none⟩ = some c :=
  ⟨by rw [cell_of_row _ _ _ _ _ _ h]; rfl, by rw [cell_of_row _ _ _ _ _ _ h]; rfl, by rw [cell_of_row _ _ _ _ _ _ h]; rfl⟩
set_option maxHeartbeats 4000000 in
theorem write_any (kind link : Int) (l : List En) (w : World) (a : Option Addr) (n cap : Nat) (hn : l.length = n) (hP : PIn w a l) (hl : l.length ≤ 1000000000000) :
    Calls Try.prog 11 #[pgv kind link (.slice a n cap)] w fun e w' => e = .returned (wrote kind link l) ∧ Below w.heap.size w w' := by
  subst hn
  have hf := fault_any kind link l
  by_cases h0 : flt kind link l = 0
  · have HW : Hid (wrote kind link l = .tuple #[str (blk kind link l), .int .i64 0]) := ⟨by unfold wrote; rw [h0]; rfl⟩
    obtain ⟨hk, hlg, ht, hs⟩ := flt_zero h0
    rw [h0] at hf
    obtain ⟨K, rfl⟩ : ∃ K : Nat, kind = (K : Int) := ⟨kind.toNat, by omega⟩
    obtain ⟨J, rfl⟩ : ∃ J : Nat, link = (J : Int) := ⟨link.toNat, by omega⟩
    have hK : K ≤ 255 := by omega
    have hJ : J ≤ 65535 := by omega
    have hl2 := tot_len l
    have hl3 : l.length ≤ 253 := by omega
    have H0 : Hid (blk (K : Int) (J : Int) l = [UInt8.ofNat K] ++ n2 J ++ n2 l.length ++ body l ++ List.replicate (507 - tot l) 0) := ⟨by simp [blk, blk0]⟩
    have HS : Hid (∀ (k : Nat) (e : En), l[k]? = some e → e.key.length ≤ 100 ∧ e.val.length ≤ 150) := ⟨fun k e he => lng_sz (any_false hlg e (List.mem_of_getElem? he))⟩
    generalize blk (K : Int) (J : Int) l = BB at *
    have HF : Hid (∀ w1 : World, w.heap.size + 1 ≤ w1.heap.size → ∃ w', (Instr.makeSlice 62 (.int .i64 0) (.int .i64 512)).run Try.prog w1 = .ok (.slice (some ⟨w1.heap.size, 0, none⟩) 0 512) w' ∧ Ob (w.heap.size + 1) w' (.slice (some ⟨w1.heap.size, 0, none⟩) 0 512) [] ∧ Below (w.heap.size + 1) w1 w') := ⟨fun w1 h1 => by
      obtain ⟨i0, hi0, hz0, hz1, hz2⟩ := info5
      obtain ⟨w', a1, a2, a3⟩ := run_make_own (P := Try.prog) w1 (w.heap.size + 1) 62 5 i0 _ 1 Try.underlying62 hi0 hz0 hz1 .i64 .i64 512 (by rw [hz2]; omega) (by unfold maxLen; omega) h1
      exact ⟨w', a1, ⟨a2, Nat.le_trans h1 a3.size⟩, (Below.refl _ _).grown a3 h1 (fun k0 hk0 => by cases hk0)⟩⟩
    have PB : Hid (∀ w', Below (w.heap.size + 1) (w.alloc (.cells #[.int .i64 (K : Int), .int .i64 (J : Int), .slice a l.length cap] 29)) w' → w'.cell? ⟨w.heap.size, 0, none⟩ = some (.int .i64 (K : Int)) ∧ w'.cell? ⟨w.heap.size, 1, none⟩ = some (.int .i64 (J : Int)) ∧ w'.cell? ⟨w.heap.size, 2, none⟩ = some (.slice a l.length cap)) := ⟨fun w' hb => box3 (t := 29) (by rw [hb.block _ (by omega)]; exact heap_alloc_new _ _)⟩
    have PL : Hid (∀ w', Below (w.heap.size + 1) (w.alloc (.cells #[.int .i64 (K : Int), .int .i64 (J : Int), .slice a l.length cap] 29)) w' → PIn w' a l) := ⟨fun w' hb => (hP.later ((Below.refl _ _).alloc (Nat.le_refl _) _)).later (hb.mono (by simp))⟩
    have HE : Hid (∀ w', Below (w.heap.size + 1) (w.alloc (.cells #[.int .i64 (K : Int), .int .i64 (J : Int), .slice a l.length cap] 29)) w' → Below w.heap.size w w') := ⟨fun w' hb => ((Below.refl _ _).alloc (Nat.le_refl _) _).trans (hb.mono (by omega))⟩
    clear h0 hlg hs hk
    go_enter Try.func11, Try.ntmps11
    go_wp2_with (first
      | (go_at_call 33; refine (hf _ a cap (hP.later ((Below.refl _ _).alloc (Nat.le_refl _) _)) hl).mono ?_; rintro e w1 ⟨rfl, hb1⟩; obtain ⟨e0, e1, e2⟩ := new3 hb1; have hz1 := hb1.size; simp only [World.size_alloc] at hz1; obtain ⟨w2, hm2, o2, b2⟩ := HF.out w1 hz1; have X2 := Hid.mk ((hb1.mono (by simp)).trans b2); obtain ⟨f0, f1, f2⟩ := PB.out _ X2.out)
      | (refine app_byteg (UInt8.ofNat K) o2 rfl (by simp) (by rw [byte_of]; omega) rfl _ _ rfl rfl rfl ?_; intro v3 w3 o3 b3; have X3 := Hid.mk (X2.out.trans b3); obtain ⟨g0, g1, g2⟩ := PB.out _ X3.out; clear hm2 f0 f1 f2 e0 e1 e2)
      | (go_at_call 34; refine (appendNumber_any J hJ o3 (by simp)).mono ?_; rintro e w4 ⟨v4, rfl, o4, b4⟩; have X4 := Hid.mk (X3.out.trans b4); obtain ⟨h0, h1, h2⟩ := PB.out _ X4.out; clear g0 g1 g2 o3)
      | (go_at_call 34; refine (appendNumber_any l.length (by omega) o4 (by simp [n2])).mono ?_; rintro e w5 ⟨v5, rfl, o5, b5⟩; have X5 := Hid.mk (X4.out.trans b5); obtain ⟨i0, i1, i2⟩ := PB.out _ X5.out; clear h0 h1 h2))
    clear b2 b3 b4 b5 X2 X3 X4 o2 o4 hb1
    go_loopw [5, 32] (fun b i wr => ∃ k : Nat, k ≤ l.length ∧ i = .int .i64 (k : Int) ∧ Hid (Ob (w.heap.size + 1) wr b ([UInt8.ofNat K] ++ n2 J ++ n2 l.length ++ body (l.take k)) ∧ Below (w.heap.size + 1) (w.alloc (.cells #[.int .i64 (K : Int), .int .i64 (J : Int), .slice a l.length cap] 29)) wr)) (fun _ i _ => l.length - (intOf i).toNat)
    case atStart => exact ⟨0, by omega, rfl, ⟨by simpa [body] using o5, X5.out⟩⟩
    case round =>
      clear o5 X5 i0 i1 i2
      obtain ⟨k, hk, rfl, HO⟩ := hrel
      by_cases hlt : k < l.length
      · have hd : decide ((k : Int) < (l.length : Int)) = true := decide_eq_true (by omega)
        obtain ⟨p, hp⟩ : ∃ p, l[k]? = some p := ⟨l[k], List.getElem?_eq_getElem hlt⟩
        obtain ⟨b, off, rfl, hbl, c0, c1⟩ := (PL.out _ HO.out.2).get k p hp
        obtain ⟨s1, s2⟩ := HS.out k p hp
        have hbo : (body (l.take k)).length ≤ 507 := by
          rw [body_length]
          have := tot_split l k
          omega
        have HN := Hid.mk (body_take hp)
        have HL : Hid (([UInt8.ofNat K] ++ n2 J ++ n2 l.length ++ body (l.take k)).length ≤ 1000) := ⟨by simp [n2]; omega⟩
        generalize hLL : [UInt8.ofNat K] ++ n2 J ++ n2 l.length ++ body (l.take k) = LL at *
        have HO1 := Hid.mk (HO.out.1.alloc (.cells #[str p.key, str p.val] 43))
        have hne := ob_lt HO.out.1
        go_wp2_with (first
          | (refine app_twok rfl _ _ rfl (UInt8.ofNat p.key.length) (UInt8.ofNat p.val.length) rfl HO1.out (by simp) (by have := HL.out; omega) (by rw [byte_of]; omega) (by rw [byte_of]; omega) rfl rfl ?_; intro v3 w3 o3 b3 k3; obtain ⟨q3, q4⟩ := k3 wr.heap.size (by simp) hne; rw [heap_alloc_new] at q3; obtain ⟨j0, j1⟩ := box2 q3)
          | (refine app_strk p.key o3 (by have := HL.out; simp; omega) rfl _ _ rfl rfl rfl ?_; intro v4 w4 o4 b4 k4; have q5 := k4 wr.heap.size (by have := b3.size; simp at this; omega) q4; rw [q3] at q5; obtain ⟨m0, m1⟩ := box2 q5; clear j0 j1)
          | (refine app_strk p.val o4 (by have := HL.out; simp; omega) rfl _ _ rfl rfl rfl ?_; intro v5 w5 o5 b5 k5))
        exact ⟨⟨k + 1, by omega, by go_num, ⟨by rw [HN.out]; simpa [hLL.symm, ent] using o5, (((HO.out.2.alloc (by have := HO.out.2.size; simp at this; omega) _).trans b3).trans b4).trans b5⟩⟩, by simp [intOf]; omega⟩
      · obtain rfl : k = l.length := by omega
        have hd : decide ((l.length : Int) < (l.length : Int)) = false := decide_eq_false (by omega)
        rw [List.take_length] at HO
        have hLn : ([UInt8.ofNat K] ++ n2 J ++ n2 l.length ++ body l).length = 5 + tot l := by simp [n2, body_length]; omega
        obtain ⟨ab, cb, rfl, hcb⟩ := HO.out.1.form
        obtain ⟨v9, w9, hr, o9, b9⟩ := run_append_str wr (List.replicate (507 - tot l) 0) 62 HO.out.1 (by rw [hLn, List.length_replicate]; omega)
        have hr2 := run_append_zeros wr 62 ab ([UInt8.ofNat K] ++ n2 J ++ n2 l.length ++ body l).length cb (507 - tot l) (by omega) (by omega) hcb
        rw [hr] at hr2
        rw [← H0.out] at o9
        have hcv := conv_own o9
        rw [hLn] at hr2 ⊢
        have hnum : wrap64 (512 - ((5 + tot l : Nat) : Int)) = ((507 - tot l : Nat) : Int) := by rw [wrap_small] <;> omega
        have HB := Hid.mk (HE.out _ (HO.out.2.trans b9))
        generalize 507 - tot l = ZZ at *
        generalize 5 + tot l = YY at *
        clear hLn hr HO b9 o9
        go_wp2_with (refine app_run rfl _ _ rfl rfl (by simp [Act.eval, Act.put, hnum]) hr2 ?_)
        go_ret2
        exact ⟨by rw [HW.out]; rfl, HB.out⟩
  · have HW : Hid (wrote kind link l = .tuple #[str [], .int .i64 (flt kind link l)]) := ⟨by unfold wrote; rw [if_neg h0]⟩
    have d0 : (flt kind link l != 0) = true := by rw [bne_iff_ne]; exact h0
    generalize flt kind link l = FF at *
    clear h0
    go_enter Try.func11, Try.ntmps11
    go_wp2_with (go_at_call 33; refine (hf _ a cap (hP.later ((Below.refl _ _).alloc (Nat.le_refl _) _)) hl).mono ?_; rintro e w1 ⟨rfl, hb1⟩)
    go_ret2
    exact ⟨by rw [HW.out]; rfl, ((Below.refl _ _).alloc (Nat.le_refl _) _).trans (hb1.mono (by simp))⟩
end Go.Proofs.Ytibmnpkmbhjniaa
