import Derived.Test.YtkoaojhldcacbaaGreatDoorQk
import Derived.Laws.MakeOwn
import Derived.Laws.OwnMore
import Derived.Test.YtkoaojhldcacbaaGreatDoorQb
import Derived.Test.YtkoaojhldcacbaaGreatDoorQg
import Derived.Test.YtkoaojhldcacbaaGreatDoorGw
import Derived.Test.YtkoaojhldcacbaaGreatDoorHe
import Derived.Test.YtkoaojhldcacbaaGreatDoorRa
import Derived.Test.YtkoaojhldcacbaaGreatDoorRe
import Derived.Deep.RegionHeld3
import Derived.Test.YtkoaojhldcacbaaGreatDoorQd
import Derived.Test.YtkoaojhldcacbaaGreatDoorGr
import Derived.Test.YtkoaojhldcacbaaGreatDoorQRr
import Derived.Deep.CutRange
import Derived.Test.YtkoaojhldcacbaaGreatDoorQe
import Derived.Test.YtkoaojhldcacbaaGreatDoorQf
/- Rows of texts that grow: what is no row of texts stays (as in MOa). -/
namespace Go.Proofs.YtkoaojhldcacbaaGreatDoor
set_option maxRecDepth 100000
set_option linter.unusedVariables false
set_option linter.unusedSimpArgs false
open Go.RowKit
theorem svs_one (ps : List (List UInt8)) : ∀ u ∈ svs ps, u.oneCell' = true := by
  intro u hu
  unfold svs at hu
  obtain ⟨q, _, rfl⟩ := List.mem_map.1 hu
  rfl
/-- what is no row of texts stays -/
structure Kp9 (w w' : World) : Prop where
  keep : ∀ (g : Nat) (cs : Array Value) (t : TypeId), w.heap[g]? = some (.cells cs t (0, 0)) → t ≠ 9 → w'.heap[g]? = some (.cells cs t (0, 0))
theorem Kp9.of {w w' : World} (h : Below w.heap.size w w') : Kp9 w w' := ⟨fun g cs t hg _ => (h.block g (Array.getElem?_eq_some_iff.1 hg).1).trans hg⟩
theorem Kp9.trans {w w1 w2 : World} (h : Kp9 w w1) (h2 : Kp9 w1 w2) : Kp9 w w2 := ⟨fun g cs t hg ht => h2.keep g cs t (h.keep g cs t hg ht) ht⟩
theorem kp9_own {base n : Nat} {w w' : World} {v : Value} {xs : List Value} (o : w.ownsRow base 9 1 v n xs) (hk : ∀ x, x < w.heap.size → v.ownBlock ≠ some x → w'.heap[x]? = w.heap[x]?) : Kp9 w w' := ⟨fun g cs t hg ht => by
  rw [hk g (Array.getElem?_eq_some_iff.1 hg).1 (fun q => by
    obtain ⟨c1, e1⟩ := own_type o q
    rw [hg] at e1
    injection e1 with e1
    injection e1 with _ e2
    exact ht e2)]
  exact hg⟩
theorem run_s {base : Nat} {w1 : World} {v : Value} {l : List (List UInt8)} (ps : List (List UInt8)) (hp : 1 ≤ ps.length) (hp2 : ps.length ≤ 16) (hO : So base w1 v l) (hn : l.length ≤ 1000000000) :
    ∃ v' w', (∀ ty, (Builtin.append_ #[65, 65] ty #[v, .slice (some ⟨w1.heap.size, 0, none⟩) ps.length ps.length]).run Tryz.prog (w1.alloc (.cells (svs ps).toArray 9)) = .ok v' w') ∧ So base w' v' (l ++ ps) ∧ Below base w1 w' ∧ Kp9 w1 w' := by
  obtain ⟨i0, hi, hz0, hz1, hz2⟩ := info9
  have hmx : maxLen = 9223372036854775807 := rfl
  have o1 : (w1.alloc (.cells (svs ps).toArray 9)).ownsRow base 9 1 v l.length (svs l) := hO.own.alloc _
  have hle := hO.le
  have hlen : (svs ps).length = ps.length := by simp [svs]
  obtain ⟨g2, cap2, w', hr, hown, hgrow, hat, hlt⟩ := run_append_lies (P := Tryz.prog) (w := w1.alloc (.cells (svs ps).toArray 9)) 65 65 base 9 i0 _ 1 16 Tryz.underlying65 hi hz0 hz1 hz2 rfl (by omega) v l.length (svs l) o1 ⟨w1.heap.size, 0, none⟩ ps.length ps.length (svs ps) (by rw [hlen, Nat.mul_one])
    (World.news_of_block (cs := (svs ps).toArray) (t := 9) (fr := (0, 0)) (heap_alloc_new w1 _)) (svs_one ps) (by omega) (by rw [hmx]; omega) (by omega) (by simp; omega) _ rfl
  have hsz : w1.heap.size ≤ w'.heap.size := by have := hgrow.size; simp at this; omega
  refine ⟨_, w', fun ty => hr, ⟨?_, by omega⟩, ((Below.refl _ _).alloc hle _).trans (grown_below o1 (by simp; omega) hgrow), kp9_own hO.own (fun x hx hne => by rw [hgrow.block x (by simp; omega) (Ne.symm hne)]; exact heap_alloc_old _ _ _ hx)⟩
  unfold svs
  rw [List.map_append, List.length_append]
  exact hown
/-- the same in a plain region -/
theorem app_s2 {ops : Array Oper} {rest : List Oper} {o : Oper} {a : Act} {Q : Exit → Act → World → Prop} {W : World} (hgd : o.guard = none) (s x : Operand) (ho : o.op = .call { callee := .builtin .append, args := #[s, x], argTypes := #[65, 65] })
    {base : Nat} {w : World} {v : Value} {l : List (List UInt8)} {g : Nat} (ps : List (List UInt8)) (hp1 : 1 ≤ ps.length) (hp : ps.length ≤ 16) (hW : W = w.alloc (.cells (svs ps).toArray 9)) (hO : So base w v l) (hg : g = w.heap.size) (hn : l.length ≤ 1000000000)
    (hs : a.eval s = v) (hx : a.eval x = .slice (some ⟨g, 0, none⟩) ps.length ps.length)
    (h : ∀ v' w', So base w' v' (l ++ ps) → Below base w w' → Kp9 w w' → wpList Tryz.prog ops Q rest (a.put o.dst v') w') :
    wpList Tryz.prog ops Q (o :: rest) a W := by
  subst hW hg
  refine wpList_plain hgd fun K hK => ?_
  obtain ⟨v', w', hr, h2, h3, h4⟩ := run_s ps hp1 hp hO hn
  unfold Oper.wp execOp
  simp only [ho, resolve, invoke, builtin, Sem.run_bind, Sem.run_pure, Result.andThen_ok, List.map_toArray, List.map_cons, List.map_nil, hs, hx, hr]
  exact hK _ _ (h v' w' h2 h3 h4)
theorem So.lit (w : World) (ts : List (List UInt8)) (h : ts.length ≤ 1000) : So w.heap.size (w.alloc (.cells (svs ts).toArray 9)) (.slice (some ⟨w.heap.size, 0, none⟩) ts.length ts.length) ts := by
  refine ⟨⟨by simp [svs], Or.inr ⟨w.heap.size, ts.length, (svs ts).toArray, rfl, Nat.le_refl _, heap_alloc_new w _, Nat.le_refl _, ?_, by simp [svs], by simp only [svs, Nat.mul_one]; exact List.take_of_length_le (by simp)⟩⟩, by simp⟩
  have : maxLen = 9223372036854775807 := rfl
  omega
theorem So.mon {b b' : Nat} {w : World} {v : Value} {ts : List (List UInt8)} (h : So b w v ts) (hb : b' ≤ b) : So b' w v ts := by
  refine ⟨⟨h.own.1, ?_⟩, Nat.le_trans hb h.le⟩
  rcases h.own.2 with q | ⟨g, cap, cur, h1, h2, h3⟩
  · exact Or.inl q
  · exact Or.inr ⟨g, cap, cur, h1, Nat.le_trans hb h2, h3⟩
theorem info5zf : (Tryz.prog.info? 5).map (fun i => (i.zero, i.size, i.bytes)) = some (some (.int .u8 0), 1, 1) := by kernel_rfl
theorem info5z : ∃ i, Tryz.prog.info? 5 = some i ∧ i.zero = some (.int .u8 0) ∧ i.size = 1 ∧ i.bytes = 1 := by
  have h := info5zf
  cases hi : Tryz.prog.info? 5 with
  | none => rw [hi] at h; cases h
  | some i =>
    rw [hi] at h
    injection h with h
    injection h with h1 h
    injection h with h2 h3
    exact ⟨i, rfl, h1, h2, h3⟩
/-- some zeros, made -/
def zO (F : Nat) : Obj := .cells (madeCells #[.int .u8 0] F) 5
theorem mk_zero (F : Nat) (hF : F ≤ 1000) (w : World) : (Instr.makeSlice 67 (.int .i64 (F : Int)) (.int .i64 (F : Int))).run Tryz.prog w = .ok (.slice (some ⟨w.heap.size, 0, none⟩) F F) (w.alloc (zO F)) := by
  obtain ⟨i, hi, hz, h1, h2⟩ := info5z
  have h := run_make (P := Tryz.prog) (w := w) 67 5 i (.int .u8 0) Tryz.underlying67 hi hz .i64 .i64 (F : Int) (F : Int) (by omega) (by omega) (by rw [h2]; omega) (by omega)
  rw [h1, Nat.mul_one, Int.toNat_natCast] at h
  exact h
theorem conv_zero (F : Nat) (w : World) : (convert 67 9 (.slice (some ⟨w.heap.size, 0, none⟩) F F)).run Tryz.prog (w.alloc (zO F)) = .ok (str (List.replicate F 0)) (w.alloc (zO F)) := by
  have h := run_convert_bytes_back (P := Tryz.prog) (w.alloc (zO F)) 67 9 5 ⟨w.heap.size, 0, none⟩ F (List.replicate F (0 : UInt8)) Tryz.underlying67 Tryz.underlying5 Tryz.underlying9 (fun j hj => by
    have hg : (w.alloc (zO F)).heap[w.heap.size]? = some (.cells (madeCells #[.int .u8 0] F) 5 (0, 0)) := heap_alloc_new w _
    have hj2 : j < F := by simpa using hj
    have hadd : (⟨w.heap.size, 0, none⟩ : Addr).add j = ⟨w.heap.size, j, none⟩ := by unfold Addr.add; split <;> simp_all
    rw [hadd, cell_of_row _ _ _ _ _ _ hg, ← Array.getElem?_toList, toList_madeCells_one, List.getElem?_replicate, if_pos hj2, List.getElem_replicate]
    rfl)
  rw [List.length_replicate] at h
  exact h
end Go.Proofs.YtkoaojhldcacbaaGreatDoor

/- The document's Pack. -/
namespace Go.Proofs.YtkoaojhldcacbaaGreatDoor
set_option maxRecDepth 100000
set_option linter.unusedVariables false
set_option linter.unusedSimpArgs false
open Go.RowKit
open Go.Proofs.YtkoaojhldcacbaaGreatDoorP (TB recd nn LEN key itoa_any)
open Go.Proofs.YtkoaojhldcacbaaGreatDoorH (hv hv_b32 KIn hexL refHex_any refRoot_in rootOf TextsIn)
attribute [local go_sem ↓] Go.wp_at_zero Go.wp_at_succ ad9
set_option maxHeartbeats 1000000 in
theorem qfill_any (n : Nat) (hn : n ≤ 4611686018427387904) (w : World) : Calls Tryz.prog 34 #[.int .i64 (n : Int)] w fun e w' => e = .returned (.int .i64 (fil n : Nat)) ∧ Below w.heap.size w w' := by
  have e1 : Int.tmod (n : Int) 64 = ((n % 64 : Nat) : Int) := by rw [Int.tmod_eq_emod_of_nonneg (by omega)]; omega
  have hlt : n % 64 < 64 := Nat.mod_lt _ (by decide)
  have e2 : Int.tmod (64 - ((n % 64 : Nat) : Int)) 64 = ((fil n : Nat) : Int) := by
    rw [Int.tmod_eq_emod_of_nonneg (by omega)]
    unfold fil
    omega
  have e3 : Int.tmod (64 - (n : Int) % 64) 64 = ((fil n : Nat) : Int) := by rw [← e2]; congr 1
  obtain ⟨F, hF⟩ : ∃ F, F = fil n := ⟨_, rfl⟩
  have HF : Hid (F = fil n) := ⟨hF⟩
  rw [← hF] at e2 e3 ⊢
  obtain ⟨r, hr⟩ : ∃ r, r = n % 64 := ⟨_, rfl⟩
  rw [← hr] at e1 e2 hlt
  clear hF
  go_enter Tryz.func34, Tryz.ntmps34
  go_wp2_with fail
  go_ret
  exact ⟨by first | rfl | (congr 2), Below.refl _ _⟩
/-- a right record is written -/
theorem rpwrite_any (k v : List UInt8) (h1 : key k = true) (h2 : LEN (nn k v) ≤ 1048576) (w : World) : Calls Tryz.prog 35 #[str k, str v] w fun e w' => e = .returned (.tuple #[str (recd k v), .int .i64 0]) ∧ Below w.heap.size w w' := by
  obtain ⟨e1, e2⟩ := wr_ok h1 h2
  obtain ⟨z1, z2⟩ := kv_len h2
  have := Go.Proofs.YtkoaojhldcacbaaGreatDoorP.refWrite_any ⟨k.toArray⟩ ⟨v.toArray⟩ (by show k.toArray.size ≤ _; rw [List.size_toArray]; omega) (by show v.toArray.size ≤ _; rw [List.size_toArray]; omega) w
  rw [show ((⟨k.toArray⟩ : ByteArray).data.toList) = k from rfl, show ((⟨v.toArray⟩ : ByteArray).data.toList) = v from rfl, e1, e2] at this
  exact this
theorem refRoot_so {base : Nat} {w : World} {v : Value} {ts : List (List UInt8)} (h : So base w v ts) (hK : KIn w) (hz : ∀ t ∈ ts, t.length ≤ 1048576) (hn : ts.length ≤ 1000) :
    Calls Tryz.prog 37 #[v] w fun e w' => e = .returned (.agg (hv (rootOf ts.length (txF ts))).toArray) ∧ Below w.heap.size w w' := by
  obtain ⟨a, cap, rfl, ht⟩ := h.slice
  refine refRoot_in cap hK (fun k hk => ?_) (fun k hk => ?_) (by omega)
  · obtain ⟨b, off, e, _, hc⟩ := ht.get k ts[k] (List.getElem?_eq_getElem hk)
    refine ⟨b, off, e, ?_⟩
    rw [hc]
    unfold txF
    rw [List.getD_eq_getElem?_getD, List.getElem?_eq_getElem hk]
    rfl
  · unfold txF
    rw [List.getD_eq_getElem?_getD, List.getElem?_eq_getElem hk]
    have := hz ts[k] (List.getElem_mem hk)
    show (ts[k]).toArray.size ≤ _
    rw [List.size_toArray]
    omega
theorem bod_at {L : List Vs} {n c : Int} {k : Nat} (hk : k ≤ L.length) : (mtx ⟨c, n, ofI L⟩ ++ con (L.take k)).length ≤ (bod L n c).length := by
  have e : con L = con (L.take k) ++ con (L.drop k) := by rw [← con_append, List.take_append_drop]
  unfold bod
  rw [e]
  simp only [List.length_append]
  omega
set_option maxRecDepth 100000 in
set_option maxHeartbeats 8000000 in
theorem qpack_any (L : List Vs) (next since : Int) (w : World) (a : Option Addr) (cap : Nat) (hL : VIn w a L) (hl : L.length ≤ 1954687338240) (hz : ∀ v ∈ L, v.l.length ≤ 4398046510976) (hp : ∀ v ∈ L, ∀ (k : Nat) (e : En), v.l[k]? = some e → e.key.length ≤ 9223372036854775806 ∧ e.val.length ≤ 9223372036854775806) (hT : TB w) (hK : KIn w) :
    Calls Tryz.prog 9 #[.agg #[.int .i64 next, .slice a L.length cap], .int .i64 since] w fun e w' => e = .returned (.tuple #[str (pkX L next since), .int .i64 (pkC L next since)]) ∧ Below w.heap.size w w' := by
  have b0 := (Below.refl w.heap.size w).alloc (Nat.le_refl _) (.cells #[.int .i64 next, .slice a L.length cap] 24)
  have z0 := Bb2.new w next (.slice a L.length cap)
  have hof := qOf_any L next since (w.alloc (.cells #[.int .i64 next, .slice a L.length cap] 24)) a L.length cap rfl (hL.later b0) hl hz hp
  have HL := Hid.mk hL
  have HT := Hid.mk hT
  have HK := Hid.mk hK
  have HB := Hid.mk b0
  have HZ := Hid.mk z0
  have HPL := Hid.mk (pk_len L next since)
  have HZl := Hid.mk hz
  have HPp := Hid.mk hp
  clear hL hT hK b0 z0 hl hz hp
  go_enter Tryz.func9, Tryz.ntmps9
  go_wp2_with fail
  generalize w.alloc (.cells #[.int .i64 next, .slice a L.length cap] 24) = W1 at *
  generalize hg2 : w.heap.size = g2 at HZ ⊢
  have HG2 := Hid.mk hg2
  clear hg2
  with_reducible refine Calls.mono hof ?_
  rintro e w2 ⟨h2, b2⟩
  have HB2 := Hid.mk (below_seq HB.out b2)
  have HZ2 := Hid.mk (HZ.out.later b2)
  clear hof HB HZ
  rcases h2 with ⟨ra, rc, hOf, rfl, hi⟩ | ⟨hOf, rfl⟩
  rotate_left
  · obtain ⟨e1, e2⟩ := pk_no hOf
    have HE := Hid.mk (And.intro e1 e2)
    have b3 := (Below.refl w2.heap.size w2).alloc (Nat.le_refl _) (.cells #[.int .i64 0, .int .i64 0, .slice none 0 0] 61)
    have HB3 := Hid.mk (below_seq HB2.out b3)
    clear hOf e1 e2 b3 b2
    dsimp only
    go_wp2_with fail
    go_ret2
    exact ⟨by rw [HE.out.1, HE.out.2]; rfl, HB3.out⟩
  obtain ⟨e1, e2⟩ := pk_yes hOf
  have hol : (ofI L).length = L.length := by simp [ofI]
  rw [hol]
  have b3 := (Below.refl w2.heap.size w2).alloc (Nat.le_refl _) (.cells #[.int .i64 since, .int .i64 next, .slice ra L.length rc] 61)
  have z3 := Bn3.new w2 since next (.slice ra L.length rc)
  have hw : Calls Tryz.prog 32 #[.agg #[.int .i64 since, .int .i64 next, .slice ra L.length rc]] (w2.alloc (.cells #[.int .i64 since, .int .i64 next, .slice ra L.length rc] 61)) (WrP ⟨since, next, ofI L⟩ (w2.alloc (.cells #[.int .i64 since, .int .i64 next, .slice ra L.length rc] 61))) := by
    have h9 := qWriteM_any ⟨since, next, ofI L⟩ (w2.alloc (.cells #[.int .i64 since, .int .i64 next, .slice ra L.length rc] 61)) ra rc (hi.later b3) (fun x hx => by
      obtain ⟨v, hv, rfl⟩ := List.mem_map.1 hx
      exact HZl.out v hv) (fun x hx => by
      obtain ⟨v, hv, rfl⟩ := List.mem_map.1 hx
      exact HPp.out v hv) (by have := hOf.2.2.len; simp only at this ⊢; omega)
    rw [show (⟨since, next, ofI L⟩ : Ma).items.length = L.length from hol] at h9
    exact h9
  have HE := Hid.mk (And.intro e1 e2)
  have HOf := Hid.mk hOf
  have HZ3 := Hid.mk (HZ2.out.later b3)
  obtain ⟨q0, q1, q2⟩ := z3.cells
  have HB3 := Hid.mk (below_seq HB2.out b3)
  clear e1 e2 hOf hi b3 z3 b2 HZ2 HB2 hol
  dsimp only
  go_wp2_with fail
  generalize w2.alloc (.cells #[.int .i64 since, .int .i64 next, .slice ra L.length rc] 61) = W3 at *
  generalize w2.heap.size = g6 at *
  with_reducible refine Calls.mono hw ?_
  rintro e w4 ⟨h4, b4⟩
  clear hw q0 q1 q2
  rcases h4 with ⟨_, rfl⟩ | ⟨hno, _⟩
  rotate_left
  · exact absurd HOf.out.2.2 hno
  have HB4 := Hid.mk (below_seq HB3.out b4)
  have HZ4 := Hid.mk (HZ3.out.later b4)
  have HLw : Hid (L.length ≤ 256 ∧ (bod L next since).length ≤ 6000278528) := ⟨HOf.out.1, bod_le HOf.out⟩
  have HTr : Hid ((trl (L.map enc) (bod L next since).length).length ≤ 6010000000 ∧ (bod L next since ++ trl (L.map enc) (bod L next since).length) = pkX L next since) := ⟨by
    have h9 := HPL.out
    rw [HE.out.1] at h9
    unfold arc at h9
    rw [List.length_append] at h9
    omega, by rw [HE.out.1]; rfl⟩
  have HSk : Hid (∀ k, k ≤ L.length → (mtx ⟨since, next, ofI L⟩ ++ con (L.take k)).length ≤ 6000278528) := ⟨fun k hk => Nat.le_trans (bod_at hk) HLw.out.2⟩
  have HSn : Hid (∀ (k : Nat) (v : Vs), L[k]? = some v → mtx ⟨since, next, ofI L⟩ ++ con (L.take (k + 1)) = mtx ⟨since, next, ofI L⟩ ++ con (L.take k) ++ v.data ++ List.replicate (fil v.data.length) 0) := ⟨fun k v hv => by rw [con_take hv]; simp only [List.append_assoc]⟩
  have hS0 : mtx ⟨since, next, ofI L⟩ = mtx ⟨since, next, ofI L⟩ ++ con (L.take 0) := by simp [con]
  have HSe : Hid (mtx ⟨since, next, ofI L⟩ ++ con (L.take L.length) = bod L next since) := ⟨by rw [List.take_length]; rfl⟩
  rw [hS0]
  obtain ⟨S, hS⟩ : ∃ S : Nat → List UInt8, ∀ k, S k = mtx ⟨since, next, ofI L⟩ ++ con (L.take k) := ⟨fun k => mtx ⟨since, next, ofI L⟩ ++ con (L.take k), fun _ => rfl⟩
  simp only [← hS] at HSk HSn HSe
  rw [← hS 0]
  have HJ0 : Hid (TJ w4 w4 (.slice none 0 0) ((L.take 0).map enc)) := ⟨⟨So.nil _ _ (Nat.le_refl _), Below.refl _ _⟩⟩
  obtain ⟨x0, x1⟩ := HZ4.out.cells
  clear b4 HB3 HZ3 hS hS0
  dsimp only
  go_wp2_with fail
  clear x0 x1
  go_loopw [8, 9, 10, 11, 12, 13] (fun v8 v9 v10 _ _ _ wr => ∃ k : Nat, v8 = str (S k) ∧ v10 = .int .i64 (k : Int) ∧ k ≤ L.length ∧ Hid (TJ w4 wr v9 ((L.take k).map enc))) (fun _ _ v10 _ _ _ _ => L.length - (intOf v10).toNat)
  case atStart => exact ⟨0, rfl, rfl, Nat.zero_le _, HJ0⟩
  case round =>
    clear HJ0
    obtain ⟨k, rfl, rfl, hk, HJ⟩ := hrel
    obtain ⟨x0, x1⟩ := (HZ4.out.later HJ.out.bel).cells
    by_cases hlt : k < L.length
    · have d1 : decide ((k : Int) < (L.length : Int)) = true := decide_eq_true (Int.ofNat_lt.2 hlt)
      have k0 : (0 : Int) ≤ (k : Int) := Int.natCast_nonneg k
      have k2 : (k : Int) < (L.length : Int) := Int.ofNat_lt.2 hlt
      have hw1 : wrap64 ((k : Int) + 1) = ((k + 1 : Nat) : Int) := by unfold wrap64; have := HLw.out.1; omega
      obtain ⟨v, hvk⟩ : ∃ v, L[k]? = some v := ⟨L[k], List.getElem?_eq_getElem hlt⟩
      have hrv := HOf.out.2.1 v (List.mem_of_getElem? hvk)
      have hpp := HPp.out v (List.mem_of_getElem? hvk)
      have hzz := HZl.out v (List.mem_of_getElem? hvk)
      obtain ⟨b, off, ma, mc, hab, hbl, c0, c1, c2, c3, c4, hsl⟩ := (HL.out.later (below_seq HB4.out HJ.out.bel)).get k v hvk
      subst hab
      have HTk : Hid ((L.take (k + 1)).map enc = (L.take k).map enc ++ [enc v]) := ⟨by rw [List.take_add_one, hvk]; simp⟩
      have HLk : Hid (((L.take k).map enc).length ≤ 1000) := ⟨by rw [List.length_map, List.length_take]; have := HLw.out.1; omega⟩
      have HS1 := Hid.mk (HSn.out k v hvk)
      have HS1l := Hid.mk (HSk.out (k + 1) hlt)
      have HMk2 : Hid (v.mkr = true → v.data = []) := ⟨fun h => ((rt_of hrv).m h).1⟩
      have bx := (Below.refl wr.heap.size wr).alloc (Nat.le_refl _) (.cells #[str v.key, .int .i64 v.seq, .bool v.mkr, str v.data, .slice ma v.l.length mc] 33)
      have HV1 := Hid.mk (B5v.new wr v.key v.seq v.mkr v.data (.slice ma v.l.length mc))
      have HJ1 := Hid.mk (HJ.out.later bx)
      have hwr := qWrite_any v (wr.alloc (.cells #[str v.key, .int .i64 v.seq, .bool v.mkr, str v.data, .slice ma v.l.length mc] 33)) ma v.l.length mc rfl (hsl.later bx).at' hpp (by omega)
      rw [wro_ok hrv] at hwr
      generalize (L.take k).map enc = ts at *
      generalize htx : enc v = tx at *
      obtain ⟨key, seq, mkr, data, l⟩ := v
      dsimp only at *
      clear hrv hpp hzz hvk hsl bx htx
      go_wp2_with fail
      generalize wr.alloc (.cells #[str key, .int .i64 seq, .bool mkr, str data, .slice ma l.length mc] 33) = W2 at *
      generalize wr.heap.size = gv at *
      with_reducible refine Calls.mono hwr ?_
      rintro e w5 ⟨rfl, b5⟩
      have HJ5 := Hid.mk (HJ1.out.later b5)
      have HV5 := Hid.mk (HV1.out.later b5)
      clear hwr b5 HJ1 HV1 HJ c0 c1 c2 c3 c4 x0 x1 hbl
      have hJ5 := HJ5.out
      dsimp only
      go_upto_region 16 with (refine app_s2 rfl _ _ rfl [tx] (by simp) (by simp) rfl hJ5.so rfl (by have := HLk.out; omega) rfl rfl ?_; intro v9 w7 hs7 hb7 hk7)
      have HJ7 : Hid (TJ w4 w7 v9 (ts ++ [tx])) := ⟨⟨hs7, hJ5.bel.trans hb7⟩⟩
      have hv7 : B5v w7 gv key seq mkr data (.slice ma l.length mc) := hk7.keep _ _ _ HV5.out (by decide)
      have HS7 : Hid (∀ w', Below w7.heap.size w7 w' → w'.cell? ⟨gv, 3, none⟩ = some (str data)) := ⟨fun w' h => (hv7.later h).cells.2.2.2.1⟩
      have c2 := hv7.cells.2.2.1
      clear hJ5 hs7 hb7 hk7 hv7 HJ5 HV5
      cases mkr with
      | true =>
        have hdd := HMk2.out rfl
        have HSS : Hid (S (k + 1) = S k) := ⟨by rw [HS1.out, hdd]; simp [fil]⟩
        clear hdd
        go_wp2_with fail
        exact ⟨⟨k + 1, by rw [HSS.out], by first | (rw [hw1]; done) | rfl | go_num, hlt, ⟨by rw [HTk.out]; exact HJ7.out⟩⟩, by first | (rw [hw1]; exact Nat.sub_lt_sub_left hlt (Nat.lt_succ_self k)) | (simp [intOf]; omega)⟩
      | false =>
        obtain ⟨F, hF⟩ : ∃ F, F = fil data.length := ⟨_, rfl⟩
        have hS1 := HS1.out
        have hSl := HS1l.out
        rw [← hF] at hS1
        have hFl : F ≤ 1000 := by rw [hF]; have := fil_lt data.length; omega
        have hdl : (S k).length + data.length + F ≤ 6000278528 := by rw [hS1] at hSl; simp only [List.length_append, List.length_replicate] at hSl; exact hSl
        have HFl := Hid.mk hFl
        have HFi : Hid (∀ w', Calls Tryz.prog 34 #[.int .i64 (data.length : Int)] w' fun e w'' => e = .returned (.int .i64 ((F : Nat) : Int)) ∧ Below w'.heap.size w' w'') := ⟨fun w' => by rw [hF]; exact qfill_any data.length (by omega) w'⟩
        have HMk : Hid ((∀ w, (Instr.makeSlice 67 (.int .i64 (F : Int)) (.int .i64 (F : Int))).run Tryz.prog w = .ok (.slice (some ⟨w.heap.size, 0, none⟩) F F) (w.alloc (zO F))) ∧ ∀ w : World, (convert 67 9 (.slice (some ⟨w.heap.size, 0, none⟩) F F)).run Tryz.prog (w.alloc (zO F)) = .ok (str (List.replicate F 0)) (w.alloc (zO F))) := ⟨fun w => mk_zero F HFl.out w, fun w => conv_zero F w⟩
        obtain ⟨S1, hS1e⟩ : ∃ S1, S1 = S k ++ data := ⟨_, rfl⟩
        have ad1 : ∀ w, (Go.Proofs.YtkoaojhldcacbaaGreatDoor.adS (str (S k)) (str data)).run Tryz.prog w = .ok (str S1) w := fun w => by rw [hS1e]; exact run_ad (S k) data (by omega) w
        have ad2 : ∀ w, (Go.Proofs.YtkoaojhldcacbaaGreatDoor.adS (str S1) (str (List.replicate F 0))).run Tryz.prog w = .ok (str (S (k + 1))) w := fun w => by
          rw [hS1, hS1e]
          exact run_ad (S k ++ data) (List.replicate F 0) (by simp only [List.length_append, List.length_replicate]; omega) w
        generalize List.replicate F (0 : UInt8) = ZZ at *
        clear hS1 hSl hF hFl hdl HFl hS1e HS1 HS1l HSk
        go_upto_region 17 with fail
        clear c2
        refine wp_region_held (S := fun w' => w'.cell? ⟨gv, 3, none⟩ = some (str data)) (by kernel_rfl) ?_
        try (change wpAnyH _ _ _ _ _ _ _ _ (World.drew _))
        have bq0 := (Below.refl w7.heap.size w7).drew
        have hHeld := HS7.out _ bq0
        generalize w7.drew = wq at *
        refine take2 0 59 (str (S k)) rfl rfl (by kernel_rfl) (by kernel_rfl) (by kernel_rfl) (fun _ _ _ h => h) (by kernel_rfl) ?_ (by assumption) ?_
        · intro w' s0
          go_simp
        try simp only [Act.put, List.setIfInBounds_toArray, List.set_cons_zero, List.set_cons_succ]
        refine take2 1 60 (.pointer (some ⟨gv, 3, none⟩)) rfl rfl (by kernel_rfl) (by kernel_rfl) (by kernel_rfl) (fun _ _ _ h => h) (by kernel_rfl) ?_ (by assumption) ?_
        · intro w' s0
          go_simp
        try simp only [Act.put, List.setIfInBounds_toArray, List.set_cons_zero, List.set_cons_succ]
        refine take2 2 61 (str data) rfl rfl (by kernel_rfl) (by kernel_rfl) (by kernel_rfl) (fun _ _ _ h => h) (by kernel_rfl) ?_ (by assumption) ?_
        · intro w' s0
          go_simp
        try simp only [Act.put, List.setIfInBounds_toArray, List.set_cons_zero, List.set_cons_succ]
        refine take2 3 62 (str S1) rfl rfl (by kernel_rfl) (by kernel_rfl) (by kernel_rfl) (fun _ _ _ h => h) (by kernel_rfl) ?_ (by assumption) ?_
        · intro w' s0
          go_simp
        try simp only [Act.put, List.setIfInBounds_toArray, List.set_cons_zero, List.set_cons_succ]
        refine take2 4 63 (.pointer (some ⟨gv, 3, none⟩)) rfl rfl (by kernel_rfl) (by kernel_rfl) (by kernel_rfl) (fun _ _ _ h => h) (by kernel_rfl) ?_ (by assumption) ?_
        · intro w' s0
          go_simp
        try simp only [Act.put, List.setIfInBounds_toArray, List.set_cons_zero, List.set_cons_succ]
        refine take2 5 64 (str data) rfl rfl (by kernel_rfl) (by kernel_rfl) (by kernel_rfl) (fun _ _ _ h => h) (by kernel_rfl) ?_ (by assumption) ?_
        · intro w' s0
          go_simp
        try simp only [Act.put, List.setIfInBounds_toArray, List.set_cons_zero, List.set_cons_succ]
        refine take2 6 65 (.int .i64 ((data.length : Nat) : Int)) rfl rfl (by kernel_rfl) (by kernel_rfl) (by kernel_rfl) (fun _ _ _ h => h) (by kernel_rfl) ?_ (by assumption) ?_
        · intro w' s0
          go_simp
        try simp only [Act.put, List.setIfInBounds_toArray, List.set_cons_zero, List.set_cons_succ]
        refine wpAnyH_ready (rs := [7]) (by kernel_rfl) (by simp) ?_
        refine AllReadyH.cons rfl (fun K9 hK9 => ?_) AllReadyH.nil
        rw [if_pos (by kernel_rfl)]
        refine call_step2 66 rfl (by go_simp) (HFi.out wq) ?_
        intro w20 y1
        have b20 := bq0.trans (y1.mono bq0.size)
        have hh0 := HS7.out _ b20
        refine hK9.out _ _ (hh0) (fun hHeld => ?_)
        clear hK9 K9
        try simp only [Act.put, List.setIfInBounds_toArray, List.set_cons_zero, List.set_cons_succ]
        have b1 := bal2 b20 (zO F)
        have hh1 := HS7.out _ b1
        have hmz := HMk.out.1 w20
        refine wpAnyH_ready (rs := [8]) (by kernel_rfl) (by simp) ?_
        refine AllReadyH.cons rfl (fun K9 hK9 => ?_) AllReadyH.nil
        rw [if_pos (by kernel_rfl)]
        refine val_step2 (v := .slice (some ⟨w20.heap.size, 0, none⟩) F F) (w2 := (w20.alloc (zO F))) 67 rfl ?_ ?_
        · go_simp
        refine hK9.out _ _ (hh1) (fun hHeld => ?_)
        clear hK9 K9
        try simp only [Act.put, List.setIfInBounds_toArray, List.set_cons_zero, List.set_cons_succ]
        have hcv := HMk.out.2 w20
        try clear hmz
        refine wpAnyH_ready (rs := [9]) (by kernel_rfl) (by simp) ?_
        refine AllReadyH.cons rfl (fun K9 hK9 => ?_) AllReadyH.nil
        rw [if_pos (by kernel_rfl)]
        refine val_step2 (v := str ZZ) (w2 := (w20.alloc (zO F))) 68 rfl ?_ ?_
        · go_simp
        refine hK9.out _ _ (hh1) (fun hHeld => ?_)
        clear hK9 K9
        try simp only [Act.put, List.setIfInBounds_toArray, List.set_cons_zero, List.set_cons_succ]
        refine take2 10 69 (str (S (k + 1))) rfl rfl (by kernel_rfl) (by kernel_rfl) (by kernel_rfl) (fun _ _ _ h => h) (by kernel_rfl) ?_ (by assumption) ?_
        · intro w' s0
          go_simp
        try simp only [Act.put, List.setIfInBounds_toArray, List.set_cons_zero, List.set_cons_succ]
        refine take2 11 8 (str (S (k + 1))) rfl rfl (by kernel_rfl) (by kernel_rfl) (by kernel_rfl) (fun _ _ _ h => h) (by kernel_rfl) ?_ (by assumption) ?_
        · intro w' s0
          go_simp
        try simp only [Act.put, List.setIfInBounds_toArray, List.set_cons_zero, List.set_cons_succ]
        have HJ9 := Hid.mk (HJ7.out.later b1)
        refine wpAnyH_done (by kernel_rfl) ?_ _
        clear hcv hh1 hh0 hHeld bq0 b1 b20 y1
        clear ad1 ad2
        go_wp2_with fail
        exact ⟨⟨k + 1, rfl, by first | (rw [hw1]; done) | rfl | go_num, hlt, ⟨by rw [HTk.out]; exact HJ9.out⟩⟩, by first | (rw [hw1]; exact Nat.sub_lt_sub_left hlt (Nat.lt_succ_self k)) | (simp [intOf]; omega)⟩
    · obtain rfl : k = L.length := Nat.le_antisymm hk (Nat.le_of_not_lt hlt)
      have d1 : decide ((L.length : Int) < (L.length : Int)) = false := decide_eq_false (fun h => Int.lt_irrefl _ h)
      have hJ := HJ.out
      rw [List.take_length] at hJ
      have HBe := Hid.mk (below_seq HB4.out hJ.bel)
      have hro := refRoot_so hJ.so (HK.out.seq HBe.out) (fun t ht => by
        obtain ⟨v, hvm, rfl⟩ := List.mem_map.1 ht
        exact enc_le (HOf.out.2.1 v hvm)) (by rw [List.length_map]; have := HLw.out.1; omega)
      obtain ⟨ts, hts⟩ : ∃ ts, ts = L.map enc := ⟨_, rfl⟩
      rw [← hts] at hro HTr
      rw [HSe.out]
      have h1 : hexL (rootOf ts.length (txF ts)) = rtX ts := rfl
      have hw1 : ∀ w, Calls Tryz.prog 35 #[.string ⟨#[114, 111, 111, 116]⟩, str (rtX ts)] w fun e w' => e = .returned (.tuple #[str (recd sRoot (rtX ts)), .int .i64 0]) ∧ Below w.heap.size w w' := fun w => rpwrite_any sRoot (rtX ts) key_root (nn_root ts) w
      have hw2 : ∀ w, Calls Tryz.prog 35 #[.string ⟨#[108, 101, 110, 103, 116, 104]⟩, str (dec ((bod L next since).length : Int))] w fun e w' => e = .returned (.tuple #[str (recd sLength (dec ((bod L next since).length : Int))), .int .i64 0]) ∧ Below w.heap.size w w' := fun w => rpwrite_any sLength (dec ((bod L next since).length : Int)) key_length (nn_length (by have := HLw.out.2; omega)) w
      have hx := fun w => refHex_any (rootOf ts.length (txF ts)) w
      rw [← hv_b32, h1] at hx
      have hit : ∀ w, TB w → Calls Tryz.prog 38 #[.int .i64 ((bod L next since).length : Int)] w fun e w' => e = .returned (str (dec ((bod L next since).length : Int))) ∧ Below w.heap.size w w' := fun w t => (itoa_any (bod L next since).length (by have := HLw.out.2; omega) w t).mono fun e w' h => ⟨h.1.trans rfl, h.2⟩
      have htr := HTr.out
      have etr : trl ts (bod L next since).length = recd sRoot (rtX ts) ++ recd sLength (dec ((bod L next since).length : Int)) := rfl
      rw [etr] at htr
      have HLb := Hid.mk HLw.out.2
      generalize bod L next since = bd at *
      obtain ⟨t1, ht1⟩ : ∃ t, t = recd sRoot (rtX ts) := ⟨_, rfl⟩
      obtain ⟨t2, ht2⟩ : ∃ t, t = recd sLength (dec ((bd.length : Nat) : Int)) := ⟨_, rfl⟩
      rw [← ht1, ← ht2] at htr
      rw [← ht1] at hw1
      rw [← ht2] at hw2
      have ad1 : ∀ w, (Go.Proofs.YtkoaojhldcacbaaGreatDoor.adS (str bd) (str t1)).run Tryz.prog w = .ok (str (bd ++ t1)) w := fun w => run_ad bd t1 (by have h5 := htr.1; rw [List.length_append] at h5; have := HLb.out; omega) w
      have ad2 : ∀ w, (Go.Proofs.YtkoaojhldcacbaaGreatDoor.adS (str (bd ++ t1)) (str t2)).run Tryz.prog w = .ok (str (pkX L next since)) w := fun w => by
        have h6 := run_ad (bd ++ t1) t2 (by have h5 := htr.1; rw [List.length_append] at h5; have := HLb.out; rw [List.length_append]; omega) w
        rw [List.append_assoc, htr.2] at h6
        exact h6
      generalize bd ++ t1 = bd1 at *
      generalize hpx : pkX L next since = px at *
      have HPx := Hid.mk hpx
      clear hpx
      generalize rootOf ts.length (txF ts) = rt at *
      generalize rtX ts = rx at *
      generalize hdx : dec ((bd.length : Nat) : Int) = dx at *
      have HHro := Hid.mk hro
      clear hJ HJ hlt hk hts h1 etr htr ht1 ht2 hdx HTr HSe HSn HSk
      go_wp2_with fail
      with_reducible refine Calls.mono hro ?_
      rintro e w10 ⟨rfl, b10⟩
      have HB10 := Hid.mk (below_seq HBe.out b10)
      clear b10 hro HHro
      dsimp only
      go_wp2_with fail
      with_reducible refine Calls.mono (hx _) ?_
      rintro e w11 ⟨rfl, b11⟩
      have HB11 := Hid.mk (below_seq HB10.out b11)
      clear b11 hx
      dsimp only
      go_wp2_with fail
      with_reducible refine Calls.mono (hw1 _) ?_
      rintro e w12 ⟨rfl, b12⟩
      have HB12 := Hid.mk (below_seq HB11.out b12)
      have hi2 := hit w12 (HT.out.below HB12.out)
      clear b12 hw1 hit
      dsimp only
      go_wp2_with fail
      with_reducible refine Calls.mono hi2 ?_
      rintro e w13 ⟨rfl, b13⟩
      have HB13 := Hid.mk (below_seq HB12.out b13)
      clear b13 hi2
      dsimp only
      go_wp2_with fail
      with_reducible refine Calls.mono (hw2 _) ?_
      rintro e w14 ⟨rfl, b14⟩
      have HB14 := Hid.mk (below_seq HB13.out b14)
      clear b14 hw2
      dsimp only
      go_wp2_with fail
      go_ret2
      exact ⟨by rw [HE.out.2, HPx.out]; rfl, HB14.out⟩
end Go.Proofs.YtkoaojhldcacbaaGreatDoor

/- The document's Unpack: the value of which a text tells, and the list that is made. -/
namespace Go.Proofs.YtkoaojhldcacbaaGreatDoor
set_option maxRecDepth 100000
set_option linter.unusedVariables false
set_option linter.unusedSimpArgs false
open Go.RowKit
open Stk (Rv rcs rcells rcells_append rcells_length rcells_get infoV)
theorem run_sliceQ {w : World} {base : Nat} {v : Value} {l : List En} (ty : TypeId) {ad : Option Addr} {k c : Nat} (q : List En) (hO : Ow base w v l) (hS : Sl w ad c q) (hk : q.length = k) (hn : l.length + q.length ≤ 4500000000000) :
    ∃ v' w', (Builtin.append_ #[31, 31] ty #[v, .slice ad k c]).run Tryz.prog w = .ok v' w' ∧ Ow base w' v' (l ++ q) ∧ Below base w w' := by
  obtain ⟨i0, hi0, hz0, hz1, hz2⟩ := infoP
  have hm : maxLen = 9223372036854775807 := rfl
  subst hk
  cases ad with
  | none =>
    have hc := hS.nil rfl
    have h0 : q.length = 0 := by have := hS.le; omega
    have hq : q = [] := List.eq_nil_of_length_eq_zero h0
    subst hq hc
    exact ⟨v, w, run_append_owned_none (P := Tryz.prog) w base 31 ty 50 i0 2 Tryz.underlying31 hi0 _ l.length (pcells l) hO.own, by simpa using hO, Below.refl _ _⟩
  | some ad =>
    have hcells : ∀ j u, (pcells q)[j]? = some u → w.cell? (ad.add j) = some u := by
      rcases Nat.eq_zero_or_pos q.length with h0 | h0
      · intro j u hj
        have hq : q = [] := List.eq_nil_of_length_eq_zero h0
        subst hq
        simp [pcells] at hj
      · obtain ⟨b, off, e, _⟩ := hS.at'.get 0 q[0] (List.getElem?_eq_getElem h0)
        injection e with e
        subst e
        exact hS.at'.cells
    obtain ⟨v', w', hr, hown, hgrow, _⟩ := run_append_own_wide (P := Tryz.prog) w base 31 ty 50 i0 _ 2 32 Tryz.underlying31 hi0 hz0 hz1 hz2 rfl (by omega) v l.length (pcells l) hO.own ad q.length c (pcells q) (pcells_length q) hcells (pcells_one q) (by rw [hm]; omega) (by omega) hO.le
    refine ⟨v', w', hr, ⟨?_, ?_⟩, grown_below hO.own hO.le hgrow⟩
    · rw [pcells_append, List.length_append]; exact hown
    · have := hgrow.size; have h2 := hO.le; omega
theorem ow_form {base : Nat} {w : World} {v : Value} {l : List En} (h : Ow base w v l) : ∃ a c, v = .slice a l.length c := by
  rcases h.own.2 with ⟨e, h0⟩ | ⟨g, cap, cur, e, _⟩
  · exact ⟨none, 0, by rw [e, h0]⟩
  · exact ⟨_, cap, e⟩
/-- what is kept while the document's value is made -/
structure Uk (W0 w : World) (g8 : Nat) (nx : Int) (v : Value) (R : List Rv) : Prop where
  box : Bb2 w g8 nx v
  own : w.ownsRow (g8 + 1) 33 5 v R.length (rcells R)
  le : g8 + 1 ≤ w.heap.size
  met : ∀ r ∈ R, r.z = [] ∧ Ow (g8 + 1) w r.mv r.v.l
  bel : Below g8 W0 w
theorem Uk.later {W0 w w' : World} {g8 : Nat} {nx : Int} {v : Value} {R : List Rv} (h : Uk W0 w g8 nx v R) (hb : Below w.heap.size w w') : Uk W0 w' g8 nx v R :=
  ⟨h.box.later hb, own_later h.own hb, Nat.le_trans h.le hb.size, fun r hr => ⟨(h.met r hr).1, (h.met r hr).2.later hb⟩, h.bel.trans (hb.mono (by have := h.le; omega))⟩
theorem ow_keep {base : Nat} {w w' : World} {v : Value} {l : List En} (h : Ow base w v l) (hs : w.heap.size ≤ w'.heap.size) (hb : ∀ g, v.ownBlock = some g → w'.heap[g]? = w.heap[g]?) : Ow base w' v l := ⟨own_keep h.own hb, Nat.le_trans h.le hs⟩
theorem bb2_ne {w : World} {g : Nat} {n : Int} {q v : Value} {B s m : Nat} {t : TypeId} {xs : List Value} (h : Bb2 w g n q) (ho : w.ownsRow B t s v m xs) (ht : t ≠ 24) : v.ownBlock ≠ some g := fun e => by
  obtain ⟨cs, e2⟩ := own_type ho e
  unfold Bb2 at h
  rw [h] at e2
  injection e2 with e2
  injection e2 with _ e2 _
  exact ht e2.symm
/-- a version behind it -/
theorem Uk.more {W0 w : World} {g8 : Nat} {nx : Int} {v : Value} {R : List Rv} (h : Uk W0 w g8 nx v R) (r : Rv) (hz : r.z = []) (hm : Ow (g8 + 1) w r.mv r.v.l) (hn : R.length ≤ 1000000000) :
    ∃ g' c' w', (∀ ty, (Builtin.append_ #[22, 22] ty #[v, .slice (some ⟨w.heap.size, 0, none⟩) 1 1]).run Tryz.prog (w.alloc (.cells (rcs r).toArray 33)) = .ok (.slice (some ⟨g', 0, none⟩) (R.length + 1) c') w') ∧ Bb2 w' g8 nx v ∧ Uk W0 (w'.setCell ⟨g8, 1, none⟩ (.slice (some ⟨g', 0, none⟩) (R.length + 1) c')) g8 nx (.slice (some ⟨g', 0, none⟩) (R.length + 1) c') (R ++ [r]) := by
  obtain ⟨g', c', w', hr, hown, hb, hk⟩ := run_av r h.own h.le hn
  have hle := h.le
  have hsz : w.heap.size ≤ w'.heap.size := hb.size
  have hbx : Bb2 w' g8 nx v := h.box.oth (hk g8 (lt_of_block h.box) (bb2_ne h.box h.own (by decide)))
  have hvp : ∀ (x : Rv), Ow (g8 + 1) w x.mv x.v.l → ∀ g, x.mv.ownBlock = some g → w'.heap[g]? = w.heap[g]? := fun x hx g hg => by
    refine hk g (hx.own.lt g hg).2 (fun q => ?_)
    obtain ⟨c1, e1⟩ := own_type hx.own hg
    obtain ⟨c2, e2⟩ := own_type h.own q
    rw [e1] at e2
    injection e2 with e2
    injection e2 with _ e2 _
    exact absurd e2 (by decide)
  have hset : ∀ (x : Rv), Ow (g8 + 1) w' x.mv x.v.l → Ow (g8 + 1) (w'.setCell ⟨g8, 1, none⟩ (.slice (some ⟨g', 0, none⟩) (R.length + 1) c')) x.mv x.v.l := fun x hx => ow_keep hx (by simp) (fun g hg => hso _ _ (by have := (hx.own.lt g hg).1; omega))
  refine ⟨g', c', w', hr, hbx, ⟨hbx.set1 _, ?_, by simpa using Nat.le_trans h.le hsz, fun x hx => ?_, (h.bel.trans (hb.mono (by omega))).setCell (p := ⟨g8, 1, none⟩) (Nat.le_refl _) _⟩⟩
  · have := own_keep (w' := w'.setCell ⟨g8, 1, none⟩ (.slice (some ⟨g', 0, none⟩) (R.length + 1) c')) hown (fun g hg => hso _ _ (by have := (hown.lt g hg).1; omega))
    simpa using this
  · rcases List.mem_append.1 hx with hx | hx
    · exact ⟨(h.met x hx).1, hset x (ow_keep (h.met x hx).2 hsz (hvp x (h.met x hx).2))⟩
    · have e : x = r := by simpa using hx
      subst e
      exact ⟨hz, hset x (ow_keep hm hsz (hvp x hm))⟩
theorem Uk.vin {W0 w : World} {g8 : Nat} {nx : Int} {a : Option Addr} {n c : Nat} {R : List Rv} (h : Uk W0 w g8 nx (.slice a n c) R) : VIn w a (R.map (·.v)) := by
  refine ⟨fun k v hk => ?_⟩
  rw [List.getElem?_map] at hk
  cases hr : R[k]? with
  | none => rw [hr] at hk; cases hk
  | some r =>
    rw [hr] at hk
    simp at hk
    subst hk
    have hkl := (List.getElem?_eq_some_iff.1 hr).1
    rcases h.own.2 with ⟨e, h0⟩ | ⟨g, cap, cur, e, h2, h3, _⟩
    · omega
    · injection e with e1 e2 e3
      subst e1 e2
      have hc : ∀ j u, j < 5 → (rcs r)[j]? = some u → w.cell? ⟨g, 0 + k * 5 + j, none⟩ = some u := fun j u hj hu => by
        have hl := rcells_length R
        have hce : w.cell? ⟨g, k * 5 + j, none⟩ = (rcells R)[k * 5 + j]? := h.own.cellAt (k * 5 + j) (by omega)
        rw [Nat.zero_add, hce, rcells_get hr j hj]
        exact hu
      obtain ⟨hz, ho⟩ := h.met r (List.mem_of_getElem? hr)
      have hmv : r.mv = .slice r.a r.v.l.length r.c := by unfold Rv.mv; rw [hz]; rfl
      rw [hmv] at ho
      exact ⟨g, 0, r.a, r.c, rfl, lt_of_block h3, hc 0 _ (by omega) rfl, hc 1 _ (by omega) rfl, hc 2 _ (by omega) rfl, hc 3 _ (by omega) rfl, hc 4 _ (by omega) rfl, ho.asSl2⟩
/-- what the document's Unpack answers -/
def UnV (s : List UInt8) (w : World) (e : Ending) (w' : World) : Prop :=
  ((∃ (L : List Vs) (next since : Int) (va : Option Addr) (vc : Nat), Arc s L next since ∧ e = .returned (.tuple #[.agg #[.int .i64 next, .slice va L.length vc], .int .i64 since, .int .i64 0]) ∧ VIn w' va L) ∨
   ((∀ L n c, ¬ Arc s L n c) ∧ e = .returned (.tuple #[.agg #[.int .i64 0, .slice none 0 0], .int .i64 0, .int .i64 90]))) ∧ Below w.heap.size w w'
theorem UnP.v {s : List UInt8} {w w' : World} {e : Ending} (h : UnP s w e w') : UnV s w e w' := by
  obtain ⟨⟨L, n, c, R, va, vc, hA, rfl, hR, _, hF⟩ | h, hb⟩ := h
  · have hl : R.length = L.length := by rw [← hR, List.length_map]
    refine ⟨.inl ⟨L, n, c, va, vc, hA, by rw [hl], ?_⟩, hb⟩
    rw [← hR]
    exact fo_vin hF
  · exact ⟨.inr h, hb⟩
end Go.Proofs.YtkoaojhldcacbaaGreatDoor

/- The document's Unpack: the walk. -/
namespace Go.Proofs.YtkoaojhldcacbaaGreatDoor
set_option maxRecDepth 100000
set_option linter.unusedVariables false
set_option linter.unusedSimpArgs false
open Go.RowKit
open Go.Proofs.YtkoaojhldcacbaaGreatDoorP (TB)
open Go.Proofs.YtkoaojhldcacbaaGreatDoorH (KIn)
open Stk (Rv rcs rcells rcells_append rcells_length rcells_get infoV)
attribute [local go_sem ↓] Go.wp_at_zero Go.wp_at_succ ad9 Go.Proofs.YtkoaojhldcacbaaGreatDoorP.sl9 ldQe stQe
attribute [-go_sem] Go.Builtin.append_
theorem Uk.start (w : World) (nx : Int) : Uk (w.alloc (.cells #[.int .i64 nx, .slice none 0 0] 24)) (w.alloc (.cells #[.int .i64 nx, .slice none 0 0] 24)) w.heap.size nx (.slice none 0 0) [] :=
  ⟨Bb2.new _ _ _, World.ownsRow_nil _ _ _ _, by simp, fun r h => by simp at h, Below.refl _ _⟩
theorem ow_mon {b b' : Nat} {w : World} {v : Value} {l : List En} (h : Ow b w v l) (hb : b' ≤ b) : Ow b' w v l := by
  refine ⟨⟨h.own.1, ?_⟩, Nat.le_trans hb h.le⟩
  rcases h.own.2 with q | ⟨g, cap, cur, h1, h2, h3⟩
  · exact Or.inl q
  · exact Or.inr ⟨g, cap, cur, h1, Nat.le_trans hb h2, h3⟩
/-- a copy of pairs -/
theorem copy_pairs {w : World} {ma : Option Addr} {mc : Nat} {l : List En} (hS : Sl w ma mc l) (hl : l.length ≤ 4400000000000) :
    ∃ ma2 mc2 w', (∀ ty, (Builtin.append_ #[31, 31] ty #[.slice none 0 0, .slice ma l.length mc]).run Tryz.prog w = .ok (.slice ma2 l.length mc2) w') ∧ Ow w.heap.size w' (.slice ma2 l.length mc2) l ∧ Below w.heap.size w w' := by
  have h := fun ty => run_sliceQ ty l (Ow.nil w w.heap.size (Nat.le_refl _)) hS rfl (by simp; omega)
  obtain ⟨v1, w1, hr, ho, hb⟩ := h 31
  rw [List.nil_append] at ho
  obtain ⟨a, c, e⟩ := ow_form ho
  subst e
  refine ⟨a, c, w1, fun ty => ?_, ho, hb⟩
  have e : ∀ ty, (Builtin.append_ #[31, 31] ty #[.slice none 0 0, .slice ma l.length mc]) = (Builtin.append_ #[31, 31] 31 #[.slice none 0 0, .slice ma l.length mc]) := fun ty => rfl
  rw [e]
  exact hr
theorem B5v.put {w : World} {g : Nat} {k d : List UInt8} {s : Int} {m : Bool} {v : Value} (h : B5v w g k s m d v) (k' d' : List UInt8) (s' : Int) (m' : Bool) (v' : Value) :
    B5v (((((w.setCell ⟨g, 0, none⟩ (str k')).setCell ⟨g, 1, none⟩ (.int .i64 s')).setCell ⟨g, 2, none⟩ (.bool m')).setCell ⟨g, 3, none⟩ (str d')).setCell ⟨g, 4, none⟩ v') g k' s' m' d' v' := by
  have e0 : B5v (w.setCell ⟨g, 0, none⟩ (str k')) g k' s m d v := by unfold B5v; rw [heap_setCell_same _ _ _ _ _ _ h]; rfl
  have e1 : B5v ((w.setCell ⟨g, 0, none⟩ (str k')).setCell ⟨g, 1, none⟩ (.int .i64 s')) g k' s' m d v := by unfold B5v; rw [heap_setCell_same _ _ _ _ _ _ e0]; rfl
  have e2 : B5v (((w.setCell ⟨g, 0, none⟩ (str k')).setCell ⟨g, 1, none⟩ (.int .i64 s')).setCell ⟨g, 2, none⟩ (.bool m')) g k' s' m' d v := by unfold B5v; rw [heap_setCell_same _ _ _ _ _ _ e1]; rfl
  exact (e2.set3 d').set4 v'
theorem ow_b5 {b : Nat} {w : World} {v : Value} {l : List En} (h : Ow b w v l) {g : Nat} {k d : List UInt8} {s : Int} {m : Bool} {q : Value} (h5 : B5v w g k s m d q) (j : Nat) (x : Value) : Ow b (w.setCell ⟨g, j, none⟩ x) v l :=
  ow_keep h (by simp) (fun g' hg => hso _ _ (fun e => by
    subst e
    obtain ⟨cs, e2⟩ := own_type h.own hg
    unfold B5v at h5
    rw [h5] at e2
    injection e2 with e2
    injection e2 with _ e2 _
    exact absurd e2 (by decide)))
end Go.Proofs.YtkoaojhldcacbaaGreatDoor

/- ArchivePacks: a list of one's own with marks behind. -/
namespace Go.Proofs.YtkoaojhldcacbaaGreatDoor
set_option maxRecDepth 100000
set_option linter.unusedVariables false
set_option linter.unusedSimpArgs false
open Go.RowKit
open Go.Proofs.YtkoaojhldcacbaaGreatDoorP (TB)
open Go.Proofs.YtkoaojhldcacbaaGreatDoorH (KIn)
open Stk (Rv rcs rcells rcells_append rcells_length rcells_get infoV)
noncomputable def slVo (v : Value) (a b c : Option Value) : Sem Value := Instr.slice 22 v a b c
theorem slVoe (v : Value) (a b c : Option Value) : Instr.slice 22 v a b c = slVo v a b c := rfl
theorem run_slVo (a : Option Addr) (len cap n : Nat) (h1 : n ≤ cap) (h3 : cap ≤ 9223372036854775807) (hn : a = none → cap = 0) (w : World) : (slVo (.slice a len cap) none (some (.int .i64 (n : Int))) none).run Tryz.prog w = .ok (.slice a n cap) w := by
  unfold slVo
  cases a with
  | none =>
    obtain rfl := hn rfl
    obtain rfl : n = 0 := by omega
    simp [Instr.slice, Tryz.underlying22, go_sem]
  | some ad =>
    simp [Instr.slice, Tryz.underlying22, go_sem]
    intro hc
    omega
noncomputable def slPo (v : Value) (a b c : Option Value) : Sem Value := Instr.slice 31 v a b c
theorem slPoe (v : Value) (a b c : Option Value) : Instr.slice 31 v a b c = slPo v a b c := rfl
theorem run_slPo (a : Option Addr) (len cap n : Nat) (h1 : n ≤ cap) (h3 : cap ≤ 9223372036854775807) (hn : a = none → cap = 0) (w : World) : (slPo (.slice a len cap) none (some (.int .i64 (n : Int))) none).run Tryz.prog w = .ok (.slice a n cap) w := by
  unfold slPo
  cases a with
  | none =>
    obtain rfl := hn rfl
    obtain rfl : n = 0 := by omega
    simp [Instr.slice, Tryz.underlying31, go_sem]
  | some ad =>
    simp [Instr.slice, Tryz.underlying31, go_sem]
    intro hc
    omega
theorem run_avQ {base : Nat} {w1 : World} {v : Value} {R : List Rv} (r : Rv) (hO : w1.ownsRow base 33 5 v R.length (rcells R)) (hle : base ≤ w1.heap.size) (hn : R.length ≤ 1954687338240) :
    ∃ g' c' w', (∀ ty, (Builtin.append_ #[22, 22] ty #[v, .slice (some ⟨w1.heap.size, 0, none⟩) 1 1]).run Tryz.prog (w1.alloc (.cells (rcs r).toArray 33)) = .ok (.slice (some ⟨g', 0, none⟩) (R.length + 1) c') w') ∧ w'.ownsRow base 33 5 (.slice (some ⟨g', 0, none⟩) (R.length + 1) c') (R.length + 1) (rcells (R ++ [r])) ∧ Below base w1 w' ∧ ∀ k, k < w1.heap.size → v.ownBlock ≠ some k → w'.heap[k]? = w1.heap[k]? := by
  obtain ⟨i0, hi, hz0, hz1, hz2⟩ := infoV
  have hmx : maxLen = 9223372036854775807 := rfl
  have o1 : (w1.alloc (.cells (rcs r).toArray 33)).ownsRow base 33 5 v R.length (rcells R) := hO.alloc _
  obtain ⟨v', w', hr, hown, hgrow, _⟩ := run_append_own_wide (P := Tryz.prog) (w := w1.alloc (.cells (rcs r).toArray 33)) base 22 22 33 i0 _ 5 72 Tryz.underlying22 hi hz0 hz1 hz2 rfl (by omega) v R.length (rcells R) o1 ⟨w1.heap.size, 0, none⟩ 1 1 (rcs r) rfl
    (World.news_of_block (cs := (rcs r).toArray) (t := 33) (fr := (0, 0)) (heap_alloc_new w1 _)) (by simp [rcs, Value.oneCell']) (by rw [hmx]; omega) (by omega) (by simp; omega)
  rcases hown.2 with ⟨e, h0⟩ | ⟨g2, cap2, cur, e, h2⟩
  · omega
  · subst e
    refine ⟨g2, cap2, w', fun ty => hr, ?_, ((Below.refl _ _).alloc hle _).trans (grown_below o1 (by simp; omega) hgrow), fun k hk hne => ?_⟩
    · rw [rcells_append]
      have : rcells [r] = rcs r := by simp [rcells]
      rw [this]; exact hown
    · rw [hgrow.block k (by simp; omega) (Ne.symm hne)]
      first | exact heap_alloc_old _ _ hk | exact heap_alloc_old _ _ _ hk
def mrkL : List UInt8 := [109, 97, 114, 107]
def mkMk : En := ⟨mrkL, []⟩
/-- versions of one's own, their pairs too -/
structure OkL (B : Nat) (w : World) (v : Value) (R : List Rv) : Prop where
  own : w.ownsRow B 33 5 v R.length (rcells R)
  le : B ≤ w.heap.size
  met : ∀ r ∈ R, Ow B w r.mv (r.v.l ++ r.z)
theorem OkL.later {B : Nat} {w w' : World} {v : Value} {R : List Rv} (h : OkL B w v R) (hb : Below w.heap.size w w') : OkL B w' v R := ⟨own_later h.own hb, Nat.le_trans h.le hb.size, fun r hr => (h.met r hr).later hb⟩
theorem OkL.nil (w : World) : OkL w.heap.size w (.slice none 0 0) [] := ⟨World.ownsRow_nil _ _ _ _, Nat.le_refl _, fun r h => by simp at h⟩
theorem OkL.keep {B : Nat} {w w' : World} {v : Value} {R : List Rv} (h : OkL B w v R) (hs : w.heap.size ≤ w'.heap.size) (hb : ∀ (g : Nat) (cs : Array Value) (t : TypeId), w.heap[g]? = some (.cells cs t (0, 0)) → (t = 33 ∨ t = 50) → w'.heap[g]? = w.heap[g]?) : OkL B w' v R :=
  ⟨own_keep h.own (fun g hg => by obtain ⟨cs, e⟩ := own_type h.own hg; exact hb g cs _ e (.inl rfl)), Nat.le_trans h.le hs, fun r hr => ow_keep (h.met r hr) hs (fun g hg => by obtain ⟨cs, e⟩ := own_type (h.met r hr).own hg; exact hb g cs _ e (.inr rfl))⟩
theorem OkL.more {B : Nat} {w : World} {v : Value} {R : List Rv} (h : OkL B w v R) (r : Rv) (hm : Ow B w r.mv (r.v.l ++ r.z)) (hn : R.length ≤ 1954687338240) :
    ∃ g' c' w', (∀ ty, (Builtin.append_ #[22, 22] ty #[v, .slice (some ⟨w.heap.size, 0, none⟩) 1 1]).run Tryz.prog (w.alloc (.cells (rcs r).toArray 33)) = .ok (.slice (some ⟨g', 0, none⟩) (R.length + 1) c') w') ∧ OkL B w' (.slice (some ⟨g', 0, none⟩) (R.length + 1) c') (R ++ [r]) ∧ Below B w w' ∧ (∀ (g : Nat) (cs : Array Value) (t : TypeId), w.heap[g]? = some (.cells cs t (0, 0)) → t ≠ 33 → w'.heap[g]? = some (.cells cs t (0, 0))) := by
  obtain ⟨g', c', w', hr, hown, hb, hk⟩ := run_avQ r h.own h.le hn
  have hkk : ∀ (g : Nat) (cs : Array Value) (t : TypeId), w.heap[g]? = some (.cells cs t (0, 0)) → t ≠ 33 → w'.heap[g]? = some (.cells cs t (0, 0)) := fun g cs t hg ht => by
    rw [hk g (Array.getElem?_eq_some_iff.1 hg).1 (fun q => by
      obtain ⟨c2, e2⟩ := own_type h.own q
      rw [hg] at e2
      injection e2 with e2
      injection e2 with _ e2 _
      exact ht e2)]
    exact hg
  have hvp : ∀ (x : Rv), Ow B w x.mv (x.v.l ++ x.z) → Ow B w' x.mv (x.v.l ++ x.z) := fun x hx => ow_keep hx hb.size (fun g hg => by
    obtain ⟨c1, e1⟩ := own_type hx.own hg
    rw [hkk g c1 _ e1 (by decide), e1])
  refine ⟨g', c', w', hr, ⟨by rw [List.length_append]; exact hown, Nat.le_trans h.le hb.size, fun x hx => ?_⟩, hb, hkk⟩
  rcases List.mem_append.1 hx with hx | hx
  · exact hvp x (h.met x hx)
  · have e : x = r := by simpa using hx
    subst e
    exact hvp x hm
/-- the places of a version -/
theorem OkL.row {B : Nat} {w : World} {a : Option Addr} {n c : Nat} {R : List Rv} (h : OkL B w (.slice a n c) R) {k : Nat} {r : Rv} (hr : R[k]? = some r) : ∃ g, a = some ⟨g, 0, none⟩ ∧ B ≤ g ∧ g < w.heap.size ∧ n = R.length ∧ n ≤ c ∧ c ≤ 9223372036854775807 ∧ (∀ j u, j < 5 → (rcs r)[j]? = some u → w.cell? ⟨g, k * 5 + j, none⟩ = some u) ∧ ∀ j, w.frozen? ⟨g, j, none⟩ = false := by
  have hkl := (List.getElem?_eq_some_iff.1 hr).1
  rcases h.own.2 with ⟨e, h0⟩ | ⟨g, cap, cur, e, h2, h3, h4, h5, _⟩
  · omega
  · injection e with e1 e2 e3
    subst e1 e2 e3
    refine ⟨g, rfl, h2, lt_of_block h3, rfl, h4, h5, fun j u hj hu => ?_, fun j => frozen_of_row _ _ _ _ _ h3⟩
    have hl := rcells_length R
    have hce : w.cell? ⟨g, k * 5 + j, none⟩ = (rcells R)[k * 5 + j]? := h.own.cellAt (k * 5 + j) (by omega)
    rw [hce, rcells_get hr j hj]
    exact hu
theorem rv_mv (r : Rv) : r.mv = .slice r.a (r.v.l ++ r.z).length r.c := by unfold Rv.mv; simp
theorem OkL.sl {B : Nat} {w : World} {v : Value} {R : List Rv} (h : OkL B w v R) {r : Rv} (hr : r ∈ R) : Sl w r.a r.c r.v.l := by
  have ho := h.met r hr
  rw [rv_mv] at ho
  have := ho.asSl2.take r.v.l.length
  rw [List.take_left' rfl] at this
  exact this
theorem OkL.vin {B : Nat} {w : World} {a : Option Addr} {n c : Nat} {R S : List Rv} (h : OkL B w (.slice a n c) (R ++ S)) : VIn w a (R.map (·.v)) := by
  refine ⟨fun k v hk => ?_⟩
  rw [List.getElem?_map] at hk
  cases hr : R[k]? with
  | none => rw [hr] at hk; cases hk
  | some r =>
    rw [hr] at hk
    simp at hk
    subst hk
    have hlt := (List.getElem?_eq_some_iff.1 hr).1
    have hr2 : (R ++ S)[k]? = some r := by rw [List.getElem?_append_left hlt]; exact hr
    obtain ⟨g, rfl, _, hg, _, _, _, hc, _⟩ := h.row hr2
    have hd : ∀ j u, j < 5 → (rcs r)[j]? = some u → w.cell? ⟨g, 0 + k * 5 + j, none⟩ = some u := fun j u hj hu => by rw [Nat.zero_add]; exact hc j u hj hu
    exact ⟨g, 0, r.a, r.c, rfl, hg, by have := hd 0 _ (by omega) rfl; exact this, hd 1 _ (by omega) rfl, hd 2 _ (by omega) rfl, hd 3 _ (by omega) rfl, hd 4 _ (by omega) rfl, h.sl (List.mem_append_left _ (List.mem_of_getElem? hr))⟩
/-- the list with its mark, and a mark behind each one's pairs -/
structure Om (B : Nat) (w : World) (a : Option Addr) (cap : Nat) (L : List Vs) : Prop where
  ex : ∃ (R : List Rv) (mk : Rv), OkL B w (.slice a (L.length + 1) cap) (R ++ [mk]) ∧ R.map (·.v) = L ∧ (∀ r ∈ R, r.z = [mkMk]) ∧ mk.v.key = mrkL
theorem Om.later {B : Nat} {w w' : World} {a : Option Addr} {cap : Nat} {L : List Vs} (h : Om B w a cap L) (hb : Below w.heap.size w w') : Om B w' a cap L := by
  obtain ⟨R, mk, h1, h2⟩ := h.ex
  exact ⟨R, mk, h1.later hb, h2⟩
theorem Om.keep {B : Nat} {w w' : World} {a : Option Addr} {cap : Nat} {L : List Vs} (h : Om B w a cap L) (hs : w.heap.size ≤ w'.heap.size) (hb : ∀ (g : Nat) (cs : Array Value) (t : TypeId), w.heap[g]? = some (.cells cs t (0, 0)) → (t = 33 ∨ t = 50) → w'.heap[g]? = w.heap[g]?) : Om B w' a cap L := by
  obtain ⟨R, mk, h1, h2⟩ := h.ex
  exact ⟨R, mk, h1.keep hs hb, h2⟩
theorem Om.vin {B : Nat} {w : World} {a : Option Addr} {cap : Nat} {L : List Vs} (h : Om B w a cap L) : VIn w a L := by
  obtain ⟨R, mk, h1, h2, _⟩ := h.ex
  rw [← h2]
  exact h1.vin
theorem Om.end' {B : Nat} {w : World} {a : Option Addr} {cap : Nat} {L : List Vs} (h : Om B w a cap L) : ∃ g, a = some ⟨g, 0, none⟩ ∧ B ≤ g ∧ g < w.heap.size ∧ L.length + 1 ≤ cap ∧ cap ≤ 9223372036854775807 ∧ w.cell? ⟨g, L.length * 5, none⟩ = some (.string ⟨#[109, 97, 114, 107]⟩) := by
  obtain ⟨R, mk, h1, h2, h3, h4⟩ := h.ex
  have hl : R.length = L.length := by rw [← h2, List.length_map]
  have hg : (R ++ [mk])[L.length]? = some mk := by rw [← hl]; simp
  obtain ⟨g, e, hB, hgl, hn, hc1, hc2, hc, _⟩ := h1.row hg
  have c0 := hc 0 (str mk.v.key) (by omega) rfl
  rw [h4] at c0
  exact ⟨g, e, hB, hgl, hc1, hc2, c0⟩
theorem Om.at' {B : Nat} {w : World} {g : Nat} {cap : Nat} {L : List Vs} (h : Om B w (some ⟨g, 0, none⟩) cap L) {k : Nat} {u : Vs} (hk : L[k]? = some u) : ∃ q mc, w.cell? ⟨g, k * 5 + 4, none⟩ = some (.slice (some ⟨q, 0, none⟩) u.l.length mc) ∧ q < w.heap.size ∧ u.l.length + 1 ≤ mc ∧ mc ≤ 9223372036854775807 ∧ w.cell? ⟨q, u.l.length * 2, none⟩ = some (.string ⟨#[109, 97, 114, 107]⟩) := by
  obtain ⟨R, mk, h1, h2, h3, h4⟩ := h.ex
  rw [← h2, List.getElem?_map] at hk
  cases hq : R[k]? with
  | none => rw [hq] at hk; cases hk
  | some r =>
    rw [hq] at hk
    injection hk with hk
    subst hk
    have hlt := (List.getElem?_eq_some_iff.1 hq).1
    have hr : (R ++ [mk])[k]? = some r := by rw [List.getElem?_append_left hlt]; exact hq
    have hz := h3 r (List.mem_of_getElem? hq)
    obtain ⟨g', e, _, _, _, _, _, hc, _⟩ := h1.row hr
    injection e with e
    injection e with e
    subst e
    have c4 := hc 4 (.slice r.a r.v.l.length r.c) (by omega) rfl
    have ho := h1.met r (List.mem_of_getElem? hr)
    rw [rv_mv, hz] at ho
    obtain ⟨b, off, ea, hb, k0, k1⟩ := ho.asSl2.at'.get r.v.l.length mkMk (by simp)
    rcases ho.own.2 with ⟨e0, h0⟩ | ⟨q, cp, cur, e0, x2, x3, x4, x5, _⟩
    · simp at h0
    · injection e0 with y1 y2 y3
      rw [y1] at ea c4
      injection ea with ea
      injection ea with ea1 ea2
      subst ea1 ea2
      rw [Nat.zero_add] at k0
      rw [← y3] at x4 x5
      exact ⟨_, r.c, c4, hb, by simpa using x4, x5, k0⟩
theorem rcells_put : ∀ (l : List Rv) (k : Nat) (r : Rv) (d : List UInt8) (s : Int), l[k]? = some r → ((rcells l).set (k * 5 + 3) (str d)).set (k * 5 + 1) (.int .i64 s) = rcells (l.set k { r with v := { r.v with data := d, seq := s } })
  | [], k, r, d, s, h => by simp at h
  | x :: l, 0, r, d, s, h => by
    have h : x = r := by simpa using h
    subst h
    rfl
  | x :: l, k + 1, r, d, s, h => by
    have ih := rcells_put l k r d s (by simpa using h)
    have e0 : ∀ (y : Rv) (m : List Rv), rcells (y :: m) = str y.v.key :: .int .i64 y.v.seq :: .bool y.v.mkr :: str y.v.data :: .slice y.a y.v.l.length y.c :: rcells m := fun _ _ => rfl
    rw [List.set_cons_succ, e0, e0, ← ih, show (k + 1) * 5 + 3 = (k * 5 + 3) + 1 + 1 + 1 + 1 + 1 by omega, show (k + 1) * 5 + 1 = (k * 5 + 1) + 1 + 1 + 1 + 1 + 1 by omega]
    simp only [List.set_cons_succ]
/-- a version's number and data are changed -/
theorem Om.put {B : Nat} {w : World} {g cap : Nat} {L : List Vs} (h : Om B w (some ⟨g, 0, none⟩) cap L) {k : Nat} {u : Vs} (hk : L[k]? = some u) (s : Int) :
    w.cell? ⟨g, k * 5 + 3, none⟩ = some (str u.data) ∧ w.cell? ⟨g, k * 5 + 1, none⟩ = some (.int .i64 u.seq) ∧ (∀ j, w.frozen? ⟨g, j, none⟩ = false) ∧
    (w.setCell ⟨g, k * 5 + 3, none⟩ (.string ⟨#[]⟩)).cell? ⟨g, k * 5 + 1, none⟩ = some (.int .i64 u.seq) ∧ (∀ j, (w.setCell ⟨g, k * 5 + 3, none⟩ (.string ⟨#[]⟩)).frozen? ⟨g, j, none⟩ = false) ∧
    Om B ((w.setCell ⟨g, k * 5 + 3, none⟩ (.string ⟨#[]⟩)).setCell ⟨g, k * 5 + 1, none⟩ (.int .i64 s)) (some ⟨g, 0, none⟩) cap (L.set k { u with data := [], seq := s }) := by
  obtain ⟨R, mk, h1, h2, h3, h4⟩ := h.ex
  rw [← h2, List.getElem?_map] at hk
  cases hq : R[k]? with
  | none => rw [hq] at hk; cases hk
  | some r =>
    rw [hq] at hk
    injection hk with hk
    subst hk
    have hlt := (List.getElem?_eq_some_iff.1 hq).1
    have hlL : k < L.length := by rw [← h2, List.length_map]; exact hlt
    have hr : (R ++ [mk])[k]? = some r := by rw [List.getElem?_append_left hlt]; exact hq
    obtain ⟨g', e, _, _, _, _, _, hc, hf⟩ := h1.row hr
    injection e with e
    injection e with e
    subst e
    have hn : (R ++ [mk]).length = L.length + 1 := by rw [List.length_append, ← h2, List.length_map]; rfl
    have hty : ∀ (x : Rv), x ∈ R ++ [mk] → ∀ b, x.mv.ownBlock = some b → b ≠ g := fun x hx b hb e => by
      subst e
      obtain ⟨c1, e1⟩ := own_type (h1.met x hx).own hb
      obtain ⟨c2, e2⟩ := own_type h1.own (g := b) rfl
      rw [e1] at e2
      injection e2 with e2
      injection e2 with _ e2 _
      exact absurd e2 (by decide)
    have o0 := h1.own
    rw [hn] at o0
    have o1 := own_cellT o0 (k * 5 + 3) (.string ⟨#[]⟩)
    have o2 := own_cellT o1 (k * 5 + 1) (.int .i64 s)
    have hset : ((rcells (R ++ [mk])).set (k * 5 + 3) (.string ⟨#[]⟩)).set (k * 5 + 1) (.int .i64 s) = rcells ((R.set k { r with v := { r.v with data := [], seq := s } }) ++ [mk]) := by
      have := rcells_put (R ++ [mk]) k r [] s hr
      rw [List.set_append_left _ _ hlt] at this
      exact this
    rw [hset] at o2
    have hl0 := rcells_length (R ++ [mk])
    have f1 : (w.setCell ⟨g, k * 5 + 3, none⟩ (.string ⟨#[]⟩)).cell? ⟨g, k * 5 + 1, none⟩ = some (.int .i64 r.v.seq) := by
      have hx : (w.setCell ⟨g, k * 5 + 3, none⟩ (.string ⟨#[]⟩)).cell? ⟨g, k * 5 + 1, none⟩ = ((rcells (R ++ [mk])).set (k * 5 + 3) (.string ⟨#[]⟩))[k * 5 + 1]? := o1.cellAt (k * 5 + 1) (by rw [hn] at hl0; have : k < L.length + 1 := by omega
                                                                                                                                                                                              omega)
      rw [hx, List.getElem?_set_ne (by omega), rcells_get hr 1 (by omega)]
      rfl
    refine ⟨hc 3 _ (by omega) rfl, hc 1 _ (by omega) rfl, hf, f1, fun j => ?_, ⟨⟨R.set k { r with v := { r.v with data := [], seq := s } }, mk, ⟨?_, ?_, fun x hx => ?_⟩, ?_, fun x hx => ?_, h4⟩⟩⟩
    · rcases o1.2 with ⟨e0, h0⟩ | ⟨g9, cp, cur, e0, x2, x3, _⟩
      · omega
      · injection e0 with e0 _ _
        injection e0 with e0
        injection e0 with e0
        subst e0
        exact frozen_of_row _ _ _ _ _ x3
    · have e9 : (R.set k { r with v := { r.v with data := [], seq := s } } ++ [mk]).length = L.length + 1 := by simp [List.length_set]; rw [← h2, List.length_map]
      rw [List.length_set, e9]
      exact o2
    · simp; exact h1.le
    · have hx2 : ∃ y ∈ R ++ [mk], x.mv = y.mv ∧ x.v.l ++ x.z = y.v.l ++ y.z := by
        rcases List.mem_append.1 hx with hx | hx
        · rcases List.mem_or_eq_of_mem_set hx with hx | hx
          · exact ⟨x, List.mem_append_left _ hx, rfl, rfl⟩
          · exact ⟨r, List.mem_of_getElem? hr, by rw [hx, rv_mv, rv_mv], by rw [hx]⟩
        · exact ⟨x, List.mem_append_right _ hx, rfl, rfl⟩
      obtain ⟨y, hy, e1, e2⟩ := hx2
      rw [e1, e2]
      refine ow_keep (h1.met y hy) (by simp) (fun b hb => ?_)
      rw [hso _ _ (hty y hy b hb), hso _ _ (hty y hy b hb)]
    · rw [List.map_set, h2]
    · rcases List.mem_or_eq_of_mem_set hx with hx | hx
      · exact h3 x hx
      · rw [hx]; exact h3 r (List.mem_of_getElem? hq)
end Go.Proofs.YtkoaojhldcacbaaGreatDoor

/- ArchivePacks: Own. -/
namespace Go.Proofs.YtkoaojhldcacbaaGreatDoor
set_option maxRecDepth 100000
set_option linter.unusedVariables false
set_option linter.unusedSimpArgs false
open Go.RowKit
open Stk (Rv rcs rcells rcells_append rcells_length rcells_get infoV)
attribute [local go_sem ↓] Go.wp_at_zero Go.wp_at_succ slVoe slPoe
attribute [-go_sem] Go.Builtin.append_
theorem OkL.mon {b b' : Nat} {w : World} {v : Value} {R : List Rv} (h : OkL b w v R) (hb : b' ≤ b) : OkL b' w v R := by
  refine ⟨⟨h.own.1, ?_⟩, Nat.le_trans hb h.le, fun r hr => ow_mon (h.met r hr) hb⟩
  rcases h.own.2 with q | ⟨g, cap, cur, h1, h2, h3⟩
  · exact Or.inl q
  · exact Or.inr ⟨g, cap, cur, h1, Nat.le_trans hb h2, h3⟩
theorem Om.mon {b b' : Nat} {w : World} {a : Option Addr} {cap : Nat} {L : List Vs} (h : Om b w a cap L) (hb : b' ≤ b) : Om b' w a cap L := by
  obtain ⟨R, mk, h1, h2⟩ := h.ex
  exact ⟨R, mk, h1.mon hb, h2⟩
theorem sl_oneQ {w : World} {g : Nat} (p : En) (h : w.heap[g]? = some (.cells #[str p.key, str p.val] 50 (0, 0))) : Sl w (some ⟨g, 0, none⟩) 1 [p] := by
  have hg : g < w.heap.size := (Array.getElem?_eq_some_iff.1 h).1
  refine ⟨⟨fun k q hk => ?_⟩, by simp, by omega, fun q => by cases q⟩
  cases k with
  | zero =>
    simp at hk
    subst hk
    exact ⟨g, 0, rfl, hg, by rw [cell_of_row _ _ _ _ _ _ h]; rfl, by rw [cell_of_row _ _ _ _ _ _ h]; rfl⟩
  | succ k => simp at hk
/-- a mark behind pairs -/
theorem mark_pairs {B : Nat} {w : World} {a : Option Addr} {c : Nat} {l : List En} (ho : Ow B w (.slice a l.length c) l) (hl : l.length ≤ 4400000000000) :
    ∃ a2 c2 w', (Builtin.append_ #[31, 31] 31 #[.slice a l.length c, .slice (some ⟨w.heap.size, 0, none⟩) 1 1]).run Tryz.prog (w.alloc (.cells #[.string ⟨#[109, 97, 114, 107]⟩, .string ⟨#[]⟩] 50)) = .ok (.slice a2 (l.length + 1) c2) w' ∧ Ow B w' (.slice a2 (l ++ [mkMk]).length c2) (l ++ [mkMk]) ∧ Below B w w' ∧ l.length + 1 ≤ c2 ∧ c2 ≤ 9223372036854775807 := by
  have ba := (Below.refl w.heap.size w).alloc (Nat.le_refl _) (.cells #[.string ⟨#[109, 97, 114, 107]⟩, .string ⟨#[]⟩] 50)
  have hs : Sl (w.alloc (.cells #[.string ⟨#[109, 97, 114, 107]⟩, .string ⟨#[]⟩] 50)) (some ⟨w.heap.size, 0, none⟩) 1 [mkMk] := sl_oneQ mkMk (heap_alloc_new w _)
  obtain ⟨v', w', hr, ho2, hb⟩ := run_sliceQ 31 [mkMk] (ho.later ba) hs rfl (by simp; omega)
  obtain ⟨a2, c2, e⟩ := ow_form ho2
  subst e
  have hle := ho2.asSl2
  have h1 := hle.le
  rw [List.length_append] at h1
  refine ⟨a2, c2, w', ?_, ho2, ((Below.refl B w).alloc ho.le _).trans hb, h1, hle.max⟩
  rw [List.length_append] at hr
  exact hr
set_option maxRecDepth 100000 in
set_option maxHeartbeats 8000000 in
theorem ownQ_any (next : Int) (L : List Vs) (w : World) (a : Option Addr) (cap : Nat) (hL : VIn w a L) (hl : L.length ≤ 1954687338230) (hz : ∀ v ∈ L, v.l.length ≤ 4398046510976) :
    Calls Tryz.prog 7 #[.agg #[.int .i64 next, .slice a L.length cap]] w fun e w' => ∃ a2 cap2, e = .returned (.agg #[.int .i64 next, .slice a2 L.length cap2]) ∧ Om w.heap.size w' a2 cap2 L ∧ Below w.heap.size w w' := by
  have b1 := (Below.refl w.heap.size w).alloc (Nat.le_refl _) (.cells #[.int .i64 next, .slice a L.length cap] 24)
  have b2 := b1.alloc b1.size (.cells #[.int .i64 0, .slice none 0 0] 24)
  have z0 : Bb2 ((w.alloc (.cells #[.int .i64 next, .slice a L.length cap] 24)).alloc (.cells #[.int .i64 0, .slice none 0 0] 24)) w.heap.size next (.slice a L.length cap) := (Bb2.new w next (.slice a L.length cap)).later ((Below.refl _ _).alloc (Nat.le_refl _) _)
  have z1 : Bb2 ((w.alloc (.cells #[.int .i64 next, .slice a L.length cap] 24)).alloc (.cells #[.int .i64 0, .slice none 0 0] 24)) (w.heap.size + 1) 0 (.slice none 0 0) := by
    have := Bb2.new (w.alloc (.cells #[.int .i64 next, .slice a L.length cap] 24)) 0 (.slice none 0 0)
    rw [World.size_alloc] at this
    exact this
  have HB := Hid.mk b2
  have HZ0 := Hid.mk z0
  have HZ1 := Hid.mk z1
  have HL := Hid.mk (hL.later b2)
  have HLn := Hid.mk hl
  have HLz := Hid.mk hz
  clear b1 b2 z0 z1 hL hl hz
  go_enter Tryz.func7, Tryz.ntmps7
  go_wp2_with fail
  generalize (w.alloc (.cells #[.int .i64 next, .slice a L.length cap] 24)).alloc (.cells #[.int .i64 0, .slice none 0 0] 24) = W0 at *
  have HJ0 : Hid (OkL W0.heap.size W0 (.slice none 0 0) [] ∧ Below W0.heap.size W0 W0) := ⟨OkL.nil W0, Below.refl _ _⟩
  go_loopw [3, 4, 5, 6] (fun v3 v4 _ _ wr => ∃ (k : Nat) (R : List Rv) (ra : Option Addr) (rc : Nat), v3 = .slice ra R.length rc ∧ v4 = .int .i64 (k : Int) ∧ k ≤ L.length ∧ Hid (R.length = k ∧ R.map (·.v) = L.take k ∧ ∀ r ∈ R, r.z = [mkMk]) ∧ Hid (OkL W0.heap.size wr (.slice ra R.length rc) R ∧ Below W0.heap.size W0 wr)) (fun _ v4 _ _ _ => L.length - (intOf v4).toNat)
  case atStart => exact ⟨0, [], none, 0, rfl, rfl, Nat.zero_le _, ⟨rfl, by simp, fun r h => by simp at h⟩, HJ0⟩
  case round =>
    clear HJ0
    obtain ⟨k, R, ra, rc, rfl, rfl, hk, HR, HJ⟩ := hrel
    obtain ⟨x0, x1⟩ := (HZ0.out.later HJ.out.2).cells
    by_cases hlt : k < L.length
    · have d1 : decide ((k : Int) < (L.length : Int)) = true := decide_eq_true (Int.ofNat_lt.2 hlt)
      have k0 : (0 : Int) ≤ (k : Int) := Int.natCast_nonneg k
      have k2 : (k : Int) < (L.length : Int) := Int.ofNat_lt.2 hlt
      have hw1 : wrap64 ((k : Int) + 1) = ((k + 1 : Nat) : Int) := by unfold wrap64; have := HLn.out; omega
      obtain ⟨v, hvk⟩ : ∃ v, L[k]? = some v := ⟨L[k], List.getElem?_eq_getElem hlt⟩
      obtain ⟨b, off, ma, mc, hab, hbl, c0, c1, c2, c3, c4, hsl⟩ := (HL.out.later HJ.out.2).get k v hvk
      subst hab
      have hvl : v.l.length ≤ 4398046510976 := HLz.out v (List.mem_of_getElem? hvk)
      have HTk : Hid (L.take (k + 1) = L.take k ++ [v]) := ⟨by rw [List.take_add_one, hvk]; rfl⟩
      have b5 := (Below.refl wr.heap.size wr).alloc (Nat.le_refl _) (.cells #[str v.key, .int .i64 v.seq, .bool v.mkr, str v.data, .slice ma v.l.length mc] 33)
      have hv5 := B5v.new wr v.key v.seq v.mkr v.data (.slice ma v.l.length mc)
      have hsl5 := hsl.later b5
      have hgv : wr.heap.size < (wr.alloc (.cells #[str v.key, .int .i64 v.seq, .bool v.mkr, str v.data, .slice ma v.l.length mc] 33)).heap.size := by simp
      obtain ⟨key, seq, mkr, data, l⟩ := v
      dsimp only at *
      go_upto_region 6 with fail
      generalize wr.alloc (.cells #[str key, .int .i64 seq, .bool mkr, str data, .slice ma l.length mc] 33) = W5 at *
      generalize hgve : wr.heap.size = gv at *
      obtain ⟨ma2, mc2, w6, hr6, ho6, b6⟩ := copy_pairs hsl5 (by omega)
      obtain ⟨ma3, mc3, w8, hr8, ho8, b8, hc3, hm3⟩ := mark_pairs ho6 (by omega)
      have b68 : Below W5.heap.size W5 w8 := b6.trans b8
      have hv8 := hv5.later b68
      have hs9 : ∀ w, (slPo (.slice ma3 (l.length + 1) mc3) none (some (.int .i64 (l.length : Int))) none).run Tryz.prog w = .ok (.slice ma3 l.length mc3) w := fun w => run_slPo ma3 (l.length + 1) mc3 l.length (by omega) hm3 (fun q => ho8.asSl2.nil q) w
      have h6e := hr6 31
      obtain ⟨e0, e1, e2, e3, e4⟩ := hv8.cells
      have e4' := (hv5.later b6).cells.2.2.2.2
      have e4'' := hv5.cells.2.2.2.2
      have f4 := hv8.fz 4
      have hv9 := hv8.set4 (.slice ma3 l.length mc3)
      have ho9 := ow_b5 ho8 hv8 4 (.slice ma3 l.length mc3)
      have b58 : Below gv W5 w8 := b68.mono (Nat.le_of_lt hgv)
      have b59 : Below gv W5 (w8.setCell ⟨gv, 4, none⟩ (.slice ma3 l.length mc3)) := b58.setCell (p := ⟨gv, 4, none⟩) (Nat.le_refl _) _
      have bw9 : Below wr.heap.size wr (w8.setCell ⟨gv, 4, none⟩ (.slice ma3 l.length mc3)) := by rw [hgve]; exact b5.trans b59
      have hO9 := HJ.out.1.later bw9
      obtain ⟨g', c', w', hrun, hok, hbw, hkk⟩ := hO9.more ⟨⟨key, seq, mkr, data, l⟩, [mkMk], ma3, mc3⟩ (by rw [rv_mv]; exact ow_mon ho9 (by have := HJ.out.2.size; omega)) (by rw [HR.out.1]; have := HLn.out; omega)
      have hrun' : (Builtin.append_ #[22, 22] 22 #[.slice ra R.length rc, .slice (some ⟨w8.heap.size, 0, none⟩) 1 1]).run Tryz.prog ((w8.setCell ⟨gv, 4, none⟩ (.slice ma3 l.length mc3)).alloc (.cells #[str key, .int .i64 seq, .bool mkr, str data, .slice ma3 l.length mc3] 33)) = .ok (.slice (some ⟨g', 0, none⟩) (R.length + 1) c') w' := by
        have h0 := hrun 22
        rw [show (w8.setCell ⟨gv, 4, none⟩ (.slice ma3 l.length mc3)).heap.size = w8.heap.size by simp] at h0
        exact h0
      obtain ⟨y0, y1, y2, y3, y4⟩ := hv9.cells
      have hlen : (R ++ [(⟨⟨key, seq, mkr, data, l⟩, [mkMk], ma3, mc3⟩ : Rv)]).length = R.length + 1 := by simp
      have HN : Hid (OkL W0.heap.size w' (.slice (some ⟨g', 0, none⟩) (R ++ [(⟨⟨key, seq, mkr, data, l⟩, [mkMk], ma3, mc3⟩ : Rv)]).length c') (R ++ [⟨⟨key, seq, mkr, data, l⟩, [mkMk], ma3, mc3⟩]) ∧ Below W0.heap.size W0 w') := ⟨by rw [hlen]; exact hok, (HJ.out.2.trans (bw9.mono HJ.out.2.size)).trans hbw⟩
      have HRn : Hid ((R ++ [(⟨⟨key, seq, mkr, data, l⟩, [mkMk], ma3, mc3⟩ : Rv)]).length = k + 1 ∧ (R ++ [(⟨⟨key, seq, mkr, data, l⟩, [mkMk], ma3, mc3⟩ : Rv)]).map (·.v) = L.take (k + 1) ∧ ∀ r ∈ R ++ [(⟨⟨key, seq, mkr, data, l⟩, [mkMk], ma3, mc3⟩ : Rv)], r.z = [mkMk]) := ⟨by rw [hlen, HR.out.1], by rw [List.map_append, HR.out.2.1, HTk.out]; rfl, fun r hr => by
        rcases List.mem_append.1 hr with hr | hr
        · exact HR.out.2.2 r hr
        · have e : r = (⟨⟨key, seq, mkr, data, l⟩, [mkMk], ma3, mc3⟩ : Rv) := by simpa using hr
          rw [e]⟩
      have HHl := Hid.mk hlen
      clear hvk hbl c0 c1 c2 c3 c4 hsl hvl b5 hv5 hsl5 hgv hgve hr6 ho6 b6 ho8 b8 hc3 hm3 b68 hv8 hv9 ho9 b58 b59 bw9 hO9 hrun hok hbw hkk hlen x0 x1 HTk
      go_wp2_with fail
      exact ⟨⟨k + 1, R ++ [⟨⟨key, seq, mkr, data, l⟩, [mkMk], ma3, mc3⟩], _, _, by rw [HHl.out], by first | (rw [hw1]; done) | rfl | go_num, hlt, HRn, HN⟩, by first | (rw [hw1]; exact Nat.sub_lt_sub_left hlt (Nat.lt_succ_self k)) | (simp [intOf]; omega)⟩
    · obtain rfl : k = L.length := Nat.le_antisymm hk (Nat.le_of_not_lt hlt)
      have d1 : decide ((L.length : Int) < (L.length : Int)) = false := decide_eq_false (fun h => Int.lt_irrefl _ h)
      have hRl : R.length = L.length := HR.out.1
      obtain ⟨g', c', w', hrun, hok, hbw, hkk⟩ := HJ.out.1.more ⟨⟨mrkL, 0, false, [], []⟩, [], none, 0⟩ (ow_mon (Ow.nil wr wr.heap.size (Nat.le_refl _)) HJ.out.2.size) (by rw [hRl]; have := HLn.out; omega)
      rw [hRl] at hok
      have hrun' : (Builtin.append_ #[22, 22] 22 #[.slice ra L.length rc, .slice (some ⟨wr.heap.size, 0, none⟩) 1 1]).run Tryz.prog (wr.alloc (.cells #[.string ⟨#[109, 97, 114, 107]⟩, .int .i64 0, .bool false, .string ⟨#[]⟩, .slice none 0 0] 33)) = .ok (.slice (some ⟨g', 0, none⟩) (L.length + 1) c') w' := by
        have h0 := hrun 22
        rw [hRl] at h0
        exact h0
      have HM : Hid (Om W0.heap.size w' (some ⟨g', 0, none⟩) c' L) := ⟨⟨R, _, hok, by rw [HR.out.2.1, List.take_length], HR.out.2.2, rfl⟩⟩
      have hz0 : Bb2 w' w.heap.size next (.slice a L.length cap) := hkk _ _ _ (HZ0.out.later HJ.out.2) (by decide)
      have hz1 : Bb2 w' (w.heap.size + 1) 0 (.slice none 0 0) := hkk _ _ _ (HZ1.out.later HJ.out.2) (by decide)
      obtain ⟨g2, e2, _, _, hc1, hc2, _⟩ := HM.out.end'
      have hsl : ∀ w, (slVo (.slice (some ⟨g', 0, none⟩) (L.length + 1) c') none (some (.int .i64 (L.length : Int))) none).run Tryz.prog w = .ok (.slice (some ⟨g', 0, none⟩) L.length c') w := fun w => run_slVo _ (L.length + 1) c' L.length (by omega) hc2 (fun q => by cases q) w
      obtain ⟨y0, y1⟩ := hz0.cells
      obtain ⟨q0, q1⟩ := hz1.cells
      have f0 := hz1.fz 0
      have f1 := hz1.fz 1
      have HZe := Hid.mk hz1
      have HBe : Hid (Below w.heap.size w w') := ⟨(HB.out.trans (HJ.out.2.mono HB.out.size)).trans (hbw.mono HB.out.size)⟩
      have HW0 : Hid (w.heap.size ≤ W0.heap.size) := ⟨HB.out.size⟩
      have n3 := hz1.set2 next (.slice (some ⟨g', 0, none⟩) L.length c')
      have B6 := Hid.mk (below2 (r := w.heap.size + 1) HBe.out (Nat.le_succ _) (.int .i64 next) (.slice (some ⟨g', 0, none⟩) L.length c'))
      have HO6 : Hid (Om w.heap.size ((w'.setCell ⟨w.heap.size + 1, 0, none⟩ (.int .i64 next)).setCell ⟨w.heap.size + 1, 1, none⟩ (.slice (some ⟨g', 0, none⟩) L.length c')) (some ⟨g', 0, none⟩) c' L) := ⟨by
        have h6 := HM.out.keep (w' := (w'.setCell ⟨w.heap.size + 1, 0, none⟩ (.int .i64 next)).setCell ⟨w.heap.size + 1, 1, none⟩ (.slice (some ⟨g', 0, none⟩) L.length c')) (by simp) (fun g cs t hg ht => by
          have hne : g ≠ w.heap.size + 1 := fun e => by
            subst e
            unfold Bb2 at hz1
            rw [hz1] at hg
            injection hg with hg
            injection hg with _ hg _
            rcases ht with ht | ht <;> (rw [← hg] at ht; exact absurd ht (by decide))
          rw [hso _ _ hne, hso _ _ hne])
        exact h6.mon HW0.out⟩
      rw [hRl]
      clear hrun hok hbw hkk hz0 hz1 e2 hc1 hc2 hlt hk HR HJ hRl
      go_wp2_with fail
      go_region
      all_goals (go_wp2_with fail)
      generalize (w'.setCell ⟨w.heap.size + 1, 0, none⟩ (.int .i64 next)).setCell ⟨w.heap.size + 1, 1, none⟩ (.slice (some ⟨g', 0, none⟩) L.length c') = W9 at *
      obtain ⟨z0, z1⟩ := n3.cells
      refine bodyPost_ret (v := .agg #[.int .i64 next, .slice (some ⟨g', 0, none⟩) L.length c']) ?_ rfl ⟨_, _, rfl, HO6.out.later (Below.refl _ _).drew, B6.out.drew⟩
      rw [results_c1 rfl]
      go_simp
end Go.Proofs.YtkoaojhldcacbaaGreatDoor

/- ArchivePacks: kept. -/
namespace Go.Proofs.YtkoaojhldcacbaaGreatDoor
set_option maxRecDepth 100000
set_option linter.unusedVariables false
set_option linter.unusedSimpArgs false
open Go.RowKit
open Stk (Rv rcs rcells)
attribute [local go_sem ↓] Go.wp_at_zero Go.wp_at_succ slVoe slPoe
theorem kp_len {n : Nat} (h : n ≤ 4398046510976) : IntKind.i64.wrap ((n : Int) + 1) = (n : Int) + 1 ∧ wrap64 ((n : Int) + 1) = (n : Int) + 1 := by
  refine ⟨?_, ?_⟩
  · rw [IntKind.wrap_i64]; omega
  · unfold wrap64; omega
set_option maxRecDepth 100000 in
set_option maxHeartbeats 8000000 in
theorem keptQ_any (next : Int) (L : List Vs) (a a2 : Option Addr) (cap c2 lo : Nat) (w : World) (hF : Om lo w a cap L) (hL : VIn w a2 L) (hn : L.length ≤ 1954687338240) (hz : ∀ u ∈ L, u.l.length ≤ 4398046510976) :
    Calls Tryz.prog 12 #[.agg #[.int .i64 next, .slice a L.length cap], .agg #[.int .i64 next, .slice a2 L.length c2]] w fun e w' => e = .returned (.bool true) ∧ Below w.heap.size w w' := by
  have b1 := (Below.refl w.heap.size w).alloc (Nat.le_refl _) (.cells #[.int .i64 next, .slice a L.length cap] 24)
  have bb := b1.alloc b1.size (.cells #[.int .i64 next, .slice a2 L.length c2] 24)
  have z1 : Bb2 ((w.alloc (.cells #[.int .i64 next, .slice a L.length cap] 24)).alloc (.cells #[.int .i64 next, .slice a2 L.length c2] 24)) w.heap.size next (.slice a L.length cap) := (Bb2.new w next (.slice a L.length cap)).later ((Below.refl _ _).alloc (Nat.le_refl _) _)
  have z2 : Bb2 ((w.alloc (.cells #[.int .i64 next, .slice a L.length cap] 24)).alloc (.cells #[.int .i64 next, .slice a2 L.length c2] 24)) (w.heap.size + 1) next (.slice a2 L.length c2) := by
    have := Bb2.new (w.alloc (.cells #[.int .i64 next, .slice a L.length cap] 24)) next (.slice a2 L.length c2)
    rw [World.size_alloc] at this
    exact this
  have HF := Hid.mk (hF.later bb)
  have HL := Hid.mk (hL.later bb)
  have HBB := Hid.mk bb
  have HZ := Hid.mk hz
  have HN := Hid.mk hn
  have HZ1 := Hid.mk z1
  have HZ2 := Hid.mk z2
  clear hF hL b1 bb z1 z2 hz
  go_enter Tryz.func12, Tryz.ntmps12
  go_wp2_with fail
  generalize (w.alloc (.cells #[.int .i64 next, .slice a L.length cap] 24)).alloc (.cells #[.int .i64 next, .slice a2 L.length c2] 24) = W2 at *
  generalize hg2 : w.heap.size = g2 at HZ1 HZ2 ⊢
  have HG2 := Hid.mk hg2
  clear hg2
  have HSM : Hid (∀ (w' : World), Below W2.heap.size W2 w' → Calls Tryz.prog 18 #[.agg #[.int .i64 next, .slice a L.length cap], .agg #[.int .i64 next, .slice a2 L.length c2]] w' fun e w'' => e = .returned (.bool true) ∧ Below w'.heap.size w' w'') := ⟨fun w' hb => by
    have h := asame_any next next L L w' a a2 cap c2 ((HF.out.later hb).vin) (HL.out.later hb) (by have := HN.out; omega) (fun v hv => by have := HZ.out v hv; omega) (fun v hv => by have := HZ.out v hv; omega)
    rw [svB_true ⟨rfl, rfl⟩] at h
    exact h⟩
  obtain ⟨g, rfl, _, hg, m1, m2, mk⟩ := HF.out.end'
  have XC : Hid (∀ w', Below W2.heap.size W2 w' → Below W2.heap.size W2 w' ∧ w'.cell? ⟨g2, 0, none⟩ = some (.int .i64 next) ∧ w'.cell? ⟨g2, 1, none⟩ = some (.slice (some ⟨g, 0, none⟩) L.length cap) ∧ w'.cell? ⟨g2 + 1, 0, none⟩ = some (.int .i64 next) ∧ w'.cell? ⟨g2 + 1, 1, none⟩ = some (.slice a2 L.length c2) ∧ w'.cell? ⟨g, L.length * 5, none⟩ = some (.string ⟨#[109, 97, 114, 107]⟩)) := ⟨fun w' hb => by
    obtain ⟨p0, p1⟩ := (HZ1.out.later hb).cells
    obtain ⟨q0, q1⟩ := (HZ2.out.later hb).cells
    exact ⟨hb, p0, p1, q0, q1, (hb.cell (p := ⟨g, _, none⟩) hg).trans mk⟩⟩
  have hsl : ∀ w, (slVo (.slice (some ⟨g, 0, none⟩) L.length cap) none (some (.int .i64 ((L.length : Int) + 1))) none).run Tryz.prog w = .ok (.slice (some ⟨g, 0, none⟩) (L.length + 1) cap) w := fun w => run_slVo _ L.length cap (L.length + 1) m1 m2 (fun q => by cases q) w
  have i1 : (L.length : Int) < ((L.length : Int) + 1) := by omega
  have i3 : (0 : Int) ≤ (L.length : Int) := Int.natCast_nonneg _
  have iw : IntKind.i64.wrap ((L.length : Int) + 1) = (L.length : Int) + 1 := (kp_len (by omega)).1
  clear mk m1 m2 hn
  go_region_held3 (fun w' => Below W2.heap.size W2 w' ∧ w'.cell? ⟨g2, 0, none⟩ = some (.int .i64 next) ∧ w'.cell? ⟨g2, 1, none⟩ = some (.slice (some ⟨g, 0, none⟩) L.length cap) ∧ w'.cell? ⟨g2 + 1, 0, none⟩ = some (.int .i64 next) ∧ w'.cell? ⟨g2 + 1, 1, none⟩ = some (.slice a2 L.length c2) ∧ w'.cell? ⟨g, L.length * 5, none⟩ = some (.string ⟨#[109, 97, 114, 107]⟩)) (first
    | (with_reducible exact XC.out _ (Below.refl _ _).drew)
    | (with_reducible exact XC.out _ B8)) (first
    | (go_at_call 18; with_reducible refine Calls.mono (HSM.out _ (And.left (by assumption))) ?_; rintro e v8 ⟨rfl, c8⟩; have B8 := below_seq (And.left (by assumption)) c8))
  have HB := Hid.mk B8
  clear B8 c8 HSM iw i1 i3 hsl
  go_wp2_with fail
  go_loopw [5, 6] (fun i _ wr => ∃ k : Nat, i = .int .i64 (k : Int) ∧ k ≤ L.length ∧ Hid (Below W2.heap.size W2 wr)) (fun i _ _ => L.length - (intOf i).toNat)
  case atStart => exact ⟨0, rfl, Nat.zero_le _, HB⟩
  case round =>
    clear HB
    obtain ⟨k, rfl, hk, HB⟩ := hrel
    obtain ⟨-, p0, p1, q0, q1, -⟩ := XC.out _ HB.out
    by_cases hlt : k < L.length
    · have d1 : decide ((k : Int) < (L.length : Int)) = true := decide_eq_true (Int.ofNat_lt.2 hlt)
      have k0 : (0 : Int) ≤ (k : Int) := Int.natCast_nonneg k
      have k1 : (k : Int) < (L.length : Int) := Int.ofNat_lt.2 hlt
      have hw1 : wrap64 ((k : Int) + 1) = ((k + 1 : Nat) : Int) := by unfold wrap64; have := HN.out; omega
      obtain ⟨u, hu⟩ : ∃ u, L[k]? = some u := ⟨_, List.getElem?_eq_getElem hlt⟩
      obtain ⟨b2, off, ma, mc2, rfl, hbl, c0, c1, c2', c3, c4, -⟩ := (HL.out.later HB.out).get k u hu
      obtain ⟨q, mc, e4, hq, n1, n2, mk⟩ := (HF.out.later HB.out).at' hu
      have hul := HZ.out u (List.mem_of_getElem? hu)
      have s1 : ∀ w, (slPo (.slice (some ⟨q, 0, none⟩) u.l.length mc) none (some (.int .i64 ((u.l.length : Int) + 1))) none).run Tryz.prog w = .ok (.slice (some ⟨q, 0, none⟩) (u.l.length + 1) mc) w := fun w => run_slPo _ u.l.length mc (u.l.length + 1) n1 n2 (fun q => by cases q) w
      have j0 : (0 : Int) ≤ (u.l.length : Int) := Int.natCast_nonneg _
      have j1 : (u.l.length : Int) < ((u.l.length : Int) + 1) := by omega
      have jw : wrap64 ((u.l.length : Int) + 1) = (u.l.length : Int) + 1 := (kp_len hul).2
      have HLt := Hid.mk hlt
      clear c0 c1 c2' c3 p0 q0 n1 n2 hu hbl hq hul hk hlt
      generalize u.l.length = ul at *
      go_wp2_with fail
      exact ⟨⟨k + 1, by first | (rw [hw1]; done) | rfl | go_num, HLt.out, HB⟩, by first | (rw [hw1]; exact Nat.sub_lt_sub_left HLt.out (Nat.lt_succ_self k)) | (have := HLt.out; simp [intOf]; omega)⟩
    · have d1 : decide ((k : Int) < (L.length : Int)) = false := decide_eq_false (fun q => hlt (Int.ofNat_lt.1 q))
      have d2 : decide (k < L.length) = false := decide_eq_false hlt
      go_wp2_with fail
      go_ret
      exact ⟨rfl, HBB.out.trans (HB.out.mono HBB.out.size)⟩
end Go.Proofs.YtkoaojhldcacbaaGreatDoor

/- ArchivePacks: the walk. -/
namespace Go.Proofs.YtkoaojhldcacbaaGreatDoor
set_option maxRecDepth 100000
set_option linter.unusedVariables false
set_option linter.unusedSimpArgs false
open Go.RowKit
open Go.Proofs.YtkoaojhldcacbaaGreatDoorP (TB)
open Go.Proofs.YtkoaojhldcacbaaGreatDoorH (KIn)
attribute [local go_sem ↓] Go.wp_at_zero Go.wp_at_succ
set_option maxRecDepth 100000 in
set_option maxHeartbeats 8000000 in
theorem qencode_any (L : List Vs) (next : Int) (w : World) (a : Option Addr) (cap : Nat) (hL : VIn w a L) (hl : L.length ≤ 1954687338240) (hz : ∀ v ∈ L, v.l.length ≤ 4398046510976) (hp : ∀ v ∈ L, ∀ (k : Nat) (e : En), v.l[k]? = some e → e.key.length ≤ 9223372036854775806 ∧ e.val.length ≤ 9223372036854775806) (hT : TB w) (hK : KIn w) :
    Calls Tryz.prog 11 #[.agg #[.int .i64 next, .slice a L.length cap]] w fun e w' => e = .returned (.tuple #[str (pkX L next 0), .int .i64 (pkC L next 0)]) ∧ Below w.heap.size w w' := by
  have b0 := (Below.refl w.heap.size w).alloc (Nat.le_refl _) (.cells #[.int .i64 next, .slice a L.length cap] 24)
  have hp := qpack_any L next 0 (w.alloc (.cells #[.int .i64 next, .slice a L.length cap] 24)) a cap (hL.later b0) hl hz hp (hT.below b0) (hK.seq b0)
  have p0 := (Bb2.new w next (.slice a L.length cap)).cells
  obtain ⟨p0, p1⟩ := p0
  have HB := Hid.mk b0
  generalize pkX L next 0 = px at *
  generalize pkC L next 0 = pc at *
  clear hL hT hK b0 hl hz
  go_enter Tryz.func11, Tryz.ntmps11
  go_wp2_with fail
  with_reducible refine Calls.mono hp ?_
  rintro e w2 ⟨rfl, b2⟩
  dsimp only
  go_wp2_with fail
  go_ret2
  exact ⟨rfl, below_seq HB.out b2⟩
theorem Bb2.set0 {W : World} {r : Nat} {n : Int} {v : Value} (h : Bb2 W r n v) (n' : Int) : Bb2 (W.setCell ⟨r, 0, none⟩ (.int .i64 n')) r n' v := by unfold Bb2; rw [heap_setCell_same _ _ _ _ _ _ h]; rfl
theorem w64_eq (x : Int) : IntKind.i64.wrap x = wrap64 x := by rw [IntKind.wrap_i64, wrap64]
set_option maxRecDepth 100000 in
set_option maxHeartbeats 8000000 in
theorem packs_walk (L : List Vs) (next since : Int) (w : World) (a : Option Addr) (cap : Nat) (hL : VIn w a L) (hl : L.length ≤ 1954687338230) (hz : ∀ v ∈ L, v.l.length ≤ 4398046510976) (hp : ∀ v ∈ L, ∀ (k : Nat) (e : En), v.l[k]? = some e → e.key.length ≤ 9223372036854775806 ∧ e.val.length ≤ 9223372036854775806) (hT : TB w) (hE : EG w) (hK : KIn w) :
    Calls Tryz.prog 3 #[.agg #[.int .i64 next, .slice a L.length cap], .int .i64 since] w fun e w' => e = .returned (.bool true) ∧ Below w.heap.size w w' := by
  have b1 := (Below.refl w.heap.size w).alloc (Nat.le_refl _) (.cells #[.int .i64 next, .slice a L.length cap] 24)
  have HT := Hid.mk hT
  have HE := Hid.mk hE
  have HK := Hid.mk hK
  have HB1 := Hid.mk b1
  have HZ1 := Hid.mk (Bb2.new w next (.slice a L.length cap))
  have HV1 := Hid.mk (hL.later b1)
  have HLn := Hid.mk hl
  have HLz := Hid.mk hz
  have HLp := Hid.mk hp
  have ho := ownQ_any next L (w.alloc (.cells #[.int .i64 next, .slice a L.length cap] 24)) a cap (hL.later b1) hl hz
  clear hL hT hE hK b1 hl hz hp
  go_enter Tryz.func3, Tryz.ntmps3
  go_wp2_with fail
  generalize w.alloc (.cells #[.int .i64 next, .slice a L.length cap] 24) = W1 at *
  generalize hg2 : w.heap.size = g2 at HZ1 ⊢
  have HG2 := Hid.mk hg2
  clear hg2
  with_reducible refine Calls.mono ho ?_
  rintro e w2 ⟨ma, mc, rfl, hom, b2⟩
  have bx := (Below.refl w2.heap.size w2).alloc (Nat.le_refl _) (.cells #[.int .i64 next, .slice ma L.length mc] 24)
  have b12 := below_seq b2 bx
  have HB2 := Hid.mk (below_seq HB1.out b12)
  have HZ2 := Hid.mk (HZ1.out.later b12)
  have HV2 := Hid.mk (HV1.out.later b12)
  have HM2 : Hid (Bb2 (w2.alloc (.cells #[.int .i64 next, .slice ma L.length mc] 24)) w2.heap.size next (.slice ma L.length mc) ∧ Om W1.heap.size (w2.alloc (.cells #[.int .i64 next, .slice ma L.length mc] 24)) ma mc L) := ⟨Bb2.new _ _ _, hom.later bx⟩
  have HW1 : Hid (w.heap.size ≤ W1.heap.size) := ⟨HB1.out.size⟩
  have HPk : Hid (∀ w' (c : Int), VIn w' ma L → TB w' → KIn w' → Calls Tryz.prog 8 #[.agg #[.int .i64 next, .slice ma L.length mc], .int .i64 c] w' fun e w'' => e = .returned (.tuple #[str (pkX L next c), .int .i64 (pkC L next c)]) ∧ Below w'.heap.size w' w'') := ⟨fun w' c v t k => pack_any L next c w' ma mc v (by have := HLn.out; omega) (fun u hu => by have := HLz.out u hu; omega) t k⟩
  have HG5 : Hid (w.heap.size ≤ w2.heap.size) := ⟨Nat.le_trans HB1.out.size b2.size⟩
  clear ho hom b2 bx b12 HZ1 HV1
  obtain ⟨p0, p1⟩ := HM2.out.1.cells
  have hq := HPk.out _ since HM2.out.2.vin (HT.out.below HB2.out) (HK.out.seq HB2.out)
  obtain ⟨px, hpx⟩ : ∃ x, x = pkX L next since := ⟨_, rfl⟩
  obtain ⟨pc, hpc⟩ : ∃ x, x = pkC L next since := ⟨_, rfl⟩
  obtain ⟨qx, hqx⟩ : ∃ x, x = pkX L next 0 := ⟨_, rfl⟩
  obtain ⟨qc, hqc⟩ : ∃ x, x = pkC L next 0 := ⟨_, rfl⟩
  have HPe := Hid.mk (And.intro hpx (And.intro hpc (And.intro hqx hqc)))
  rw [← hpx, ← hpc] at hq
  clear hpx hpc hqx hqc
  dsimp only
  go_wp2_with fail
  generalize w2.alloc (.cells #[.int .i64 next, .slice ma L.length mc] 24) = W2 at *
  generalize w2.heap.size = g5 at *
  with_reducible refine Calls.mono hq ?_
  rintro e w3 ⟨rfl, b3⟩
  have HB3 := Hid.mk (below_seq HB2.out b3)
  have HM3 : Hid (Bb2 w3 g5 next (.slice ma L.length mc) ∧ Om W1.heap.size w3 ma mc L) := ⟨HM2.out.1.later b3, HM2.out.2.later b3⟩
  have HZ3 := Hid.mk (HZ2.out.later b3)
  have HV3 := Hid.mk (HV2.out.later b3)
  clear hq b3 p0 p1 HM2 HZ2 HV2 HB2
  obtain ⟨p0, p1⟩ := HM3.out.1.cells
  have hq := HPk.out _ since HM3.out.2.vin (HT.out.below HB3.out) (HK.out.seq HB3.out)
  rw [← HPe.out.1, ← HPe.out.2.1] at hq
  dsimp only
  go_wp2_with fail
  with_reducible refine Calls.mono hq ?_
  rintro e w4 ⟨rfl, b4⟩
  have HB4 := Hid.mk (below_seq HB3.out b4)
  have HM4 : Hid (Bb2 w4 g5 next (.slice ma L.length mc) ∧ Om W1.heap.size w4 ma mc L) := ⟨HM3.out.1.later b4, HM3.out.2.later b4⟩
  have HZ4 := Hid.mk (HZ3.out.later b4)
  have HV4 := Hid.mk (HV3.out.later b4)
  clear hq b4 p0 p1 HM3 HZ3 HV3 HB3
  obtain ⟨p0, p1⟩ := HZ4.out.cells
  have hq := qpack_any L next since w4 a cap HV4.out (by have := HLn.out; omega) HLz.out HLp.out (HT.out.below HB4.out) (HK.out.seq HB4.out)
  rw [← HPe.out.1, ← HPe.out.2.1] at hq
  dsimp only
  go_wp2_with fail
  with_reducible refine Calls.mono hq ?_
  rintro e w5 ⟨rfl, b5⟩
  have HB5 := Hid.mk (below_seq HB4.out b5)
  have HM5 : Hid (Bb2 w5 g5 next (.slice ma L.length mc) ∧ Om W1.heap.size w5 ma mc L) := ⟨HM4.out.1.later b5, HM4.out.2.later b5⟩
  have HZ5 := Hid.mk (HZ4.out.later b5)
  have HV5 := Hid.mk (HV4.out.later b5)
  clear hq b5 p0 p1 HM4 HZ4 HV4 HB4
  obtain ⟨p0, p1⟩ := HM5.out.1.cells
  have hq := encode_any L next w5 ma mc HM5.out.2.vin (by have := HLn.out; omega) (fun u hu => by have := HLz.out u hu; omega) (HT.out.below HB5.out) (HK.out.seq HB5.out)
  rw [← HPe.out.2.2.1, ← HPe.out.2.2.2] at hq
  dsimp only
  go_wp2_with fail
  with_reducible refine Calls.mono hq ?_
  rintro e w6 ⟨rfl, b6⟩
  have HB6 := Hid.mk (below_seq HB5.out b6)
  have HM6 : Hid (Bb2 w6 g5 next (.slice ma L.length mc) ∧ Om W1.heap.size w6 ma mc L) := ⟨HM5.out.1.later b6, HM5.out.2.later b6⟩
  have HZ6 := Hid.mk (HZ5.out.later b6)
  have HV6 := Hid.mk (HV5.out.later b6)
  clear hq b6 p0 p1 HM5 HZ5 HV5 HB5
  obtain ⟨p0, p1⟩ := HZ6.out.cells
  have hq := qencode_any L next w6 a cap HV6.out (by have := HLn.out; omega) HLz.out HLp.out (HT.out.below HB6.out) (HK.out.seq HB6.out)
  rw [← HPe.out.2.2.1, ← HPe.out.2.2.2] at hq
  dsimp only
  go_wp2_with fail
  with_reducible refine Calls.mono hq ?_
  rintro e w7 ⟨rfl, b7⟩
  have HB7 := Hid.mk (below_seq HB6.out b7)
  have HM7 : Hid (Bb2 w7 g5 next (.slice ma L.length mc) ∧ Om W1.heap.size w7 ma mc L) := ⟨HM6.out.1.later b7, HM6.out.2.later b7⟩
  have HZ7 := Hid.mk (HZ6.out.later b7)
  have HV7 := Hid.mk (HV6.out.later b7)
  clear hq b7 p0 p1 HM6 HZ6 HV6 HB6 HPk
  obtain ⟨p0, p1⟩ := HM7.out.1.cells
  obtain ⟨q0, q1⟩ := HZ7.out.cells
  have hq := keptQ_any next L ma a mc cap W1.heap.size w7 HM7.out.2 HV7.out (by have := HLn.out; omega) HLz.out
  clear HPe
  dsimp only
  go_wp2_with fail
  with_reducible refine Calls.mono hq ?_
  rintro e w8 ⟨rfl, b8⟩
  have HB8 := Hid.mk (below_seq HB7.out b8)
  obtain ⟨g, hga, _⟩ := HM7.out.2.end'
  subst hga
  have HJ0 : Hid (Om W1.heap.size w8 (some ⟨g, 0, none⟩) mc L ∧ Bb2 w8 g5 next (.slice (some ⟨g, 0, none⟩) L.length mc) ∧ Below W1.heap.size w8 w8) := ⟨HM7.out.2.later b8, HM7.out.1.later b8, Below.refl _ _⟩
  have HS8 : Hid (W1.heap.size ≤ w8.heap.size) := ⟨by
    obtain ⟨_, _, h, _⟩ := HJ0.out.1.ex
    exact h.le⟩
  clear hq b8 p0 p1 q0 q1 HM7 HZ7 HV7 HB7
  dsimp only
  go_wp2_with fail
  go_loopw [16] (fun v16 wr => ∃ (k : Nat) (M : List Vs), v16 = .int .i64 (k : Int) ∧ k ≤ L.length ∧ Hid (Om W1.heap.size wr (some ⟨g, 0, none⟩) mc M ∧ Bb2 wr g5 next (.slice (some ⟨g, 0, none⟩) L.length mc) ∧ Below W1.heap.size w8 wr) ∧ Hid (M.length = L.length ∧ ∀ v ∈ M, ∃ u ∈ L, v.l = u.l)) (fun v16 _ => L.length - (intOf v16).toNat)
  case atStart => exact ⟨0, L, rfl, Nat.zero_le _, HJ0, ⟨rfl, fun v hv => ⟨v, hv, rfl⟩⟩⟩
  case round =>
    clear HJ0
    obtain ⟨k, M, rfl, hk, HJ, HM⟩ := hrel
    obtain ⟨p0, p1⟩ := HJ.out.2.1.cells
    by_cases hlt : k < L.length
    · have d1 : decide ((k : Int) < (L.length : Int)) = true := decide_eq_true (Int.ofNat_lt.2 hlt)
      have k0 : (0 : Int) ≤ (k : Int) := Int.natCast_nonneg k
      have k2 : (k : Int) < (L.length : Int) := Int.ofNat_lt.2 hlt
      have hw1 : wrap64 ((k : Int) + 1) = ((k + 1 : Nat) : Int) := by unfold wrap64; have := HLn.out; omega
      obtain ⟨v, hvk⟩ : ∃ v, M[k]? = some v := ⟨_, List.getElem?_eq_getElem (by rw [HM.out.1]; exact hlt)⟩
      obtain ⟨s, hs⟩ : ∃ s, s = wrap64 (v.seq + 1) := ⟨_, rfl⟩
      have hs2 : IntKind.i64.wrap (v.seq + 1) = s := by rw [w64_eq, hs]
      obtain ⟨c3, c1, fz, c1', fz', hom⟩ := HJ.out.1.put hvk s
      have f3 := fz (k * 5 + 3)
      have f1 := fz' (k * 5 + 1)
      have hgne : g5 ≠ g := fun e => by
        obtain ⟨R9, mk9, h9, _⟩ := HJ.out.1.ex
        exact bb2_ne HJ.out.2.1 h9.own (by decide) (by rw [e]; rfl)
      have hb5 : Bb2 ((wr.setCell ⟨g, k * 5 + 3, none⟩ (.string ⟨#[]⟩)).setCell ⟨g, k * 5 + 1, none⟩ (.int .i64 s)) g5 next (.slice (some ⟨g, 0, none⟩) L.length mc) := HJ.out.2.1.oth ((hso _ _ hgne).trans (hso _ _ hgne))
      have hb5' : Bb2 (wr.setCell ⟨g, k * 5 + 3, none⟩ (.string ⟨#[]⟩)) g5 next (.slice (some ⟨g, 0, none⟩) L.length mc) := HJ.out.2.1.oth (hso _ _ hgne)
      obtain ⟨p0', p1'⟩ := hb5'.cells
      have hgB : W1.heap.size ≤ g := by
        obtain ⟨g', e, h, _⟩ := HJ.out.1.end'
        injection e with e
        injection e with e
        rw [e]; exact h
      have HN : Hid (Om W1.heap.size ((wr.setCell ⟨g, k * 5 + 3, none⟩ (.string ⟨#[]⟩)).setCell ⟨g, k * 5 + 1, none⟩ (.int .i64 s)).drew (some ⟨g, 0, none⟩) mc (M.set k { v with data := [], seq := s }) ∧ Bb2 ((wr.setCell ⟨g, k * 5 + 3, none⟩ (.string ⟨#[]⟩)).setCell ⟨g, k * 5 + 1, none⟩ (.int .i64 s)).drew g5 next (.slice (some ⟨g, 0, none⟩) L.length mc) ∧ Below W1.heap.size w8 ((wr.setCell ⟨g, k * 5 + 3, none⟩ (.string ⟨#[]⟩)).setCell ⟨g, k * 5 + 1, none⟩ (.int .i64 s)).drew) := ⟨hom.later (Below.refl _ _).drew, hb5.later (Below.refl _ _).drew, ((HJ.out.2.2.setCell (p := ⟨g, k * 5 + 3, none⟩) hgB _).setCell (p := ⟨g, k * 5 + 1, none⟩) hgB _).drew⟩
      have HNm : Hid ((M.set k { v with data := [], seq := s }).length = L.length ∧ ∀ x ∈ M.set k { v with data := [], seq := s }, ∃ u ∈ L, x.l = u.l) := ⟨by rw [List.length_set]; exact HM.out.1, fun x hx => by
        rcases List.mem_or_eq_of_mem_set hx with hx | hx
        · exact HM.out.2 x hx
        · rw [hx]; exact HM.out.2 v (List.mem_of_getElem? hvk)⟩
      clear fz fz' hom hgne hb5 hb5' hgB hvk hs
      go_wp2_with fail
      go_region
      all_goals (go_wp2_with fail)
      all_goals exact ⟨⟨k + 1, _, by first | (rw [hw1]; done) | rfl | go_num, hlt, HN, HNm⟩, by first | (rw [hw1]; exact Nat.sub_lt_sub_left hlt (Nat.lt_succ_self k)) | (simp [intOf]; omega)⟩
    · obtain rfl : k = L.length := Nat.le_antisymm hk (Nat.le_of_not_lt hlt)
      have d1 : decide ((L.length : Int) < (L.length : Int)) = false := decide_eq_false (fun h => Int.lt_irrefl _ h)
      obtain ⟨n2, hn2⟩ : ∃ n, n = wrap64 (next + 1) := ⟨_, rfl⟩
      have f0 := HJ.out.2.1.fz 0
      have hbn := HJ.out.2.1.set0 n2
      have hMl : M.length = L.length := HM.out.1
      have hon : Om W1.heap.size (wr.setCell ⟨g5, 0, none⟩ (.int .i64 n2)) (some ⟨g, 0, none⟩) mc M := HJ.out.1.keep (by simp) (fun b cs t hb ht => hso _ _ (fun e => by
        subst e
        have h := HJ.out.2.1
        unfold Bb2 at h
        rw [h] at hb
        injection hb with hb
        injection hb with _ hb _
        rcases ht with ht | ht <;> (rw [← hb] at ht; exact absurd ht (by decide))))
      have hB5 : W1.heap.size ≤ g5 ∨ True := .inr trivial
      have HBn : Hid (Below w.heap.size w (wr.setCell ⟨g5, 0, none⟩ (.int .i64 n2))) := ⟨(HB8.out.trans (HJ.out.2.2.mono HW1.out)).setCell (p := ⟨g5, 0, none⟩) HG5.out _⟩
      have HOn := Hid.mk hon
      have hpk := pack_any M n2 since (wr.setCell ⟨g5, 0, none⟩ (.int .i64 n2)) (some ⟨g, 0, none⟩) mc hon.vin (by have := HLn.out; omega) (fun u hu => by
        obtain ⟨x, hx, e⟩ := HM.out.2 u hu
        have := HLz.out x hx
        rw [e]; omega) (HT.out.below HBn.out) (HK.out.seq HBn.out)
      have HZn := Hid.mk hbn
      have hwn : wrap64 (next + 1) = n2 := hn2.symm
      obtain ⟨y0, y1⟩ := hbn.cells
      obtain ⟨x1, hx1⟩ : ∃ x, x = pkX M n2 since := ⟨_, rfl⟩
      obtain ⟨x2, hx2⟩ : ∃ x, x = pkC M n2 since := ⟨_, rfl⟩
      have HXe := Hid.mk (And.intro hx1 hx2)
      have HMl := Hid.mk hMl
      rw [← hx1, ← hx2, hMl] at hpk
      clear hlt hk HJ hbn hon hn2 hB5 hx1 hx2 hMl
      go_wp2_with fail
      generalize wr.setCell ⟨g5, 0, none⟩ (.int .i64 n2) = W9 at *
      with_reducible refine Calls.mono hpk ?_
      rintro e w10 ⟨rfl, b10⟩
      have HB10 := Hid.mk (below_seq HBn.out b10)
      have hpk2 := qpack_any M n2 since w10 (some ⟨g, 0, none⟩) mc ((HOn.out.later b10).vin) (by rw [HMl.out]; have := HLn.out; omega) (fun u hu => by
        obtain ⟨x, hx, e⟩ := HM.out.2 u hu
        rw [e]; exact HLz.out x hx) (fun u hu => by
        obtain ⟨x, hx, e⟩ := HM.out.2 u hu
        rw [e]; exact HLp.out x hx) (HT.out.below HB10.out) (HK.out.seq HB10.out)
      rw [← HXe.out.1, ← HXe.out.2, HMl.out] at hpk2
      obtain ⟨y0', y1'⟩ := (HZn.out.later b10).cells
      clear hpk b10 y0 y1 hwn p0 p1 f0
      dsimp only
      go_wp2_with fail
      with_reducible refine Calls.mono hpk2 ?_
      rintro e w11 ⟨rfl, b11⟩
      have HB11 := Hid.mk (below_seq HB10.out b11)
      have hf := first_any w11 (HT.out.below HB11.out) (HE.out.below HB11.out) (HK.out.seq HB11.out)
      clear hpk2 b11 y0' y1'
      dsimp only
      go_wp2_with fail
      with_reducible refine Calls.mono hf ?_
      rintro e w12 ⟨rfl, b12⟩
      dsimp only
      go_wp2_with fail
      go_ret
      exact ⟨rfl, below_seq HB11.out b12⟩
end Go.Proofs.YtkoaojhldcacbaaGreatDoor
