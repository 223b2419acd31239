import Derived.Test.YtbiponnchppndaaGreatDoorGt
import Derived.Test.YtbiponnchppndaaGreatDoorMBm
/- The law's decimal and says. -/
namespace Go.Proofs.YtbiponnchppndaaGreatDoor
set_option maxRecDepth 100000
set_option linter.unusedVariables false
set_option linter.unusedSimpArgs false
open Go.RowKit
open Go.Proofs.YtbiponnchppndaaGreatDoorP (TB recd nn LEN key Rd RdAt conv_dig dgc cat_one dec_small dec_big nDigits_int)
attribute [local go_sem ↓] Go.wp_at_zero Go.wp_at_succ
theorem decimal_nat (n : Nat) (hn : n ≤ 9223372036854775807) (w : World) :
    Calls Tryz.prog 17 #[.int .i64 (n : Int)] w fun e w' => e = .returned (str (Lib.decDigits n)) ∧ Below w.heap.size w w' := by
  go_enter Tryz.func17, Tryz.ntmps17
  go_wp2_with fail
  go_loopw [0, 3] (fun v q wr => ∃ (m : Nat) (l : List UInt8), v = .int .i64 m ∧ q = .string ⟨l.toArray⟩ ∧ m ≤ n ∧ Lib.decDigits n = Lib.decDigits m ++ l ∧ Below w.heap.size w wr) (fun v _ _ => (intOf v).toNat)
  case atStart => exact ⟨n, [], rfl, rfl, Nat.le_refl _, by simp, Below.refl _ _⟩
  case round =>
    obtain ⟨m, l, rfl, rfl, hm, hD, hb⟩ := hrel
    have HD : Hid (Lib.decDigits n = Lib.decDigits m ++ l) := ⟨hD⟩
    clear hD
    have hlen : l.length ≤ 19 := by
      have := congrArg List.length HD.out
      rw [List.length_append, Lib.decDigits_length] at this
      have := nDigits_int hn
      omega
    have hcv := conv_dig m wr
    have hct : Hid ((⟨#[dgc m]⟩ : ByteArray) ++ ⟨l.toArray⟩ = ⟨(dgc m :: l).toArray⟩) := ⟨cat_one (dgc m) l⟩
    have hsz : (⟨l.toArray⟩ : ByteArray).size = l.length := by rfl
    have hs1 : (⟨#[dgc m]⟩ : ByteArray).size = 1 := by rfl
    have hnl : ¬ 9223372036854775807 < 1 + l.length := by omega
    have hbb := hb.alloc hb.size (Obj.cells #[Value.int .u8 (48 + (m : Int) % 10)] 5)
    by_cases h1 : m < 10
    · have d1 : (((m : Int) / 10) == 0) = true := by rw [show (m : Int) / 10 = 0 by omega]; rfl
      have hE : Hid (Lib.decDigits n = dgc m :: l) := ⟨by rw [HD.out, dec_small h1]; rfl⟩
      go_wp2_with fail
      go_ret
      refine ⟨?_, hbb⟩
      show Ending.returned (.string (_ ++ _)) = _
      rw [hct.out, hE.out]
    · have d1 : (((m : Int) / 10) == 0) = false := beq_eq_false_iff_ne.2 (by omega)
      have hE : Hid (Lib.decDigits n = Lib.decDigits (m / 10) ++ dgc m :: l) := ⟨by rw [HD.out, dec_big h1]; simp⟩
      go_wp2_with fail
      exact ⟨⟨m / 10, dgc m :: l, by simp, by rw [hct.out], by omega, hE.out, hbb⟩, by simp [intOf]; omega⟩
theorem decimal_any (n : Int) (h0 : 0 ≤ n) (h1 : n ≤ 9223372036854775807) (w : World) :
    Calls Tryz.prog 17 #[.int .i64 n] w fun e w' => e = .returned (str (dec n)) ∧ Below w.heap.size w w' := by
  obtain ⟨k, rfl⟩ := Int.eq_ofNat_of_zero_le h0
  exact decimal_nat k (by omega) w
/-- keys and values in turns -/
def wnt (R : List Kv) : List (List UInt8) := (R.map fun p => [p.1, p.2]).flatten
theorem wnt_append (R S : List Kv) : wnt (R ++ S) = wnt R ++ wnt S := by simp [wnt]
theorem wnt_len (R : List Kv) : (wnt R).length = R.length * 2 := by
  induction R with
  | nil => rfl
  | cons p R ih => simp [wnt] at ih ⊢; omega
theorem wnt_get {R : List Kv} {k : Nat} {p : Kv} (h : R[k]? = some p) : (wnt R)[k * 2]? = some p.1 ∧ (wnt R)[k * 2 + 1]? = some p.2 := by
  obtain ⟨hk, he⟩ := List.getElem?_eq_some_iff.1 h
  have e : R = R.take k ++ (p :: R.drop (k + 1)) := by
    rw [← he, List.getElem_cons_drop]
    simp
  have e2 : wnt R = wnt (R.take k) ++ ([p.1, p.2] ++ wnt (R.drop (k + 1))) := by
    conv => lhs; rw [e]
    rw [wnt_append]
    rfl
  have hl : (wnt (R.take k)).length = k * 2 := by rw [wnt_len, List.length_take]; omega
  rw [e2]
  refine ⟨?_, ?_⟩
  · rw [List.getElem?_append_right (by omega), hl, show k * 2 - k * 2 = 0 by omega]; rfl
  · rw [List.getElem?_append_right (by omega), hl, show k * 2 + 1 - k * 2 = 1 by omega]; rfl
theorem str_of3 (a : ByteArray) : str a.data.toList = .string a := by simp [str]
set_option maxHeartbeats 4000000 in
theorem says_any (R : List Kv) (hR : Kvs R) (hl : (txt R).length ≤ 200000000000) (hn : R.length ≤ 100000) (w : World) (a : Option Addr) (cap : Nat) (hI : TIn w a (wnt R)) (hT : TB w) :
    Calls Tryz.prog 22 #[str (txt R), .slice a (wnt R).length cap] w fun e w' => e = .returned (.bool true) ∧ Below w.heap.size w w' := by
  obtain ⟨P, hP⟩ : ∃ P : Nat → Nat, P = fun k => (txt (R.take k)).length := ⟨_, rfl⟩
  obtain ⟨X, hX⟩ : ∃ X, X = txt R := ⟨_, rfl⟩
  have HP0 : Hid (P 0 = 0) := ⟨by rw [hP]; rfl⟩
  have HPn : Hid (P R.length = X.length) := ⟨by rw [hP, hX]; simp only [List.take_length]⟩
  have HPl : Hid (∀ k, P k ≤ X.length) := ⟨fun k => by rw [hP, hX]; exact pos_le R k⟩
  have HPs : Hid (∀ k q, R[k]? = some q → P (k + 1) = P k + LEN (nn q.1 q.2) ∧ P k < P (k + 1) ∧ Rd (X.drop (P k)) q.1 q.2) := ⟨fun k q hq => by
    have e1 : P (k + 1) = P k + LEN (nn q.1 q.2) := by rw [hP]; simp only; rw [txt_take hq, List.length_append, Go.Proofs.YtbiponnchppndaaGreatDoorP.recd_length]
    have e2 := Go.Proofs.YtbiponnchppndaaGreatDoorP.LEN_pos (nn q.1 q.2)
    refine ⟨e1, by omega, ?_⟩
    rw [hP, hX]; exact rd_at hR hq⟩
  have Hl : Hid (X.length ≤ 200000000000) := ⟨by rw [hX]; exact hl⟩
  have Hn := Hid.mk hn
  have HI := Hid.mk hI
  rw [← hX, wnt_len]
  obtain ⟨N, hN⟩ : ∃ N, N = R.length * 2 := ⟨_, rfl⟩
  have HN := Hid.mk hN
  rw [← hN]
  clear hP hX hl hn hR hN hI
  go_enter Tryz.func22, Tryz.ntmps22
  go_wp2_with fail
  go_loopw [5, 6] (fun p v wr => ∃ k i : Nat, k ≤ R.length ∧ p = .int .i64 (P k : Int) ∧ v = .int .i64 (i : Int) ∧ Hid (i = k * 2) ∧ Hid (Below w.heap.size w wr)) (fun _ v _ => N - (intOf v).toNat)
  case atStart => exact ⟨0, 0, Nat.zero_le _, by rw [HP0.out]; rfl, rfl, ⟨rfl⟩, ⟨Below.refl _ _⟩⟩
  case round =>
    obtain ⟨k, i, hk, rfl, rfl, hik, hb⟩ := hrel
    have hpk := HPl.out k
    have hxl := Hl.out
    have hnn := Hn.out
    have hNN := HN.out
    have hi := hik.out
    have hw1 : wrap64 ((i : Int) + 1) = ((i + 1 : Nat) : Int) := by unfold wrap64; omega
    have hw2 : wrap64 ((i : Int) + 2) = ((i + 2 : Nat) : Int) := by unfold wrap64; omega
    by_cases hlt : k < R.length
    · have hrd := Go.Proofs.YtbiponnchppndaaGreatDoorP.read_any ⟨X.toArray⟩ (P k : Int) (by rw [str_size]; omega) (by omega) wr (hT.below hb.out)
      obtain ⟨q, hq⟩ : ∃ q, R[k]? = some q := ⟨R[k], List.getElem?_eq_getElem hlt⟩
      obtain ⟨s1, s2, s3⟩ := HPs.out k q hq
      have hpk2 := HPl.out (k + 1)
      obtain ⟨g1, g2⟩ := wnt_get hq
      have hI := HI.out.later hb.out
      obtain ⟨b0, o0, rfl, hb0, c0⟩ := hI.get _ _ g1
      obtain ⟨b1, o1, e01, hb1, c1⟩ := hI.get _ _ g2
      have e01 := Option.some.inj e01
      injection e01 with e1 e2
      subst e1 e2
      rw [← hi] at c0 c1
      have c1 : wr.cell? ⟨b0, o0 + (i + 1), none⟩ = some (str q.2) := c1
      have k1 : (i : Int) < (N : Int) := by omega
      have k2 : ((i + 1 : Nat) : Int) < (N : Int) := by omega
      have d1 : decide ((i : Int) + 1 < (N : Int)) = true := decide_eq_true (by omega)
      have d2 : decide (i + 1 < N) = true := decide_eq_true (by omega)
      have d3 : decide (((i + 1 : Nat) : Int) < (N : Int)) = true := decide_eq_true (by omega)
      have HM : Hid (N - (i + 2) < N - i) := ⟨by omega⟩
      have HI2 : Hid (i + 2 = (k + 1) * 2) := ⟨by omega⟩
      have HE : Hid (∀ (ky vl : ByteArray) (n er : Int), RdAt X (P k : Int) ky.data.toList vl.data.toList n er → Value.string ky = str q.1 ∧ Value.string vl = str q.2 ∧ n = (P (k + 1) : Int) ∧ er = 0) := ⟨fun ky vl n er h => by
        rcases h.at' (by omega) (by omega) with ⟨h1, h2, h3⟩ | ⟨_, _, _, _, h5⟩
        · rw [Int.toNat_natCast] at h2
          obtain ⟨e1, e2⟩ := h2.uniq s3
          rw [e1, e2] at h3
          exact ⟨(str_of3 ky).symm.trans (by rw [e1]), (str_of3 vl).symm.trans (by rw [e2]), by rw [h3, s1]; simp, h1⟩
        · exact absurd (by rw [Int.toNat_natCast]; exact s3) (h5 q.1 q.2)⟩
      have HB := Hid.mk hb.out
      have HCs : Hid (wr.cell? ⟨b0, o0 + i, none⟩ = some (str q.1) ∧ wr.cell? ⟨b0, o0 + (i + 1), none⟩ = some (str q.2) ∧ b0 < wr.heap.size) := ⟨c0, c1, hb0⟩
      clear s1 s2 s3 hpk hpk2 hxl hq g1 g2 c0 c1 hb0 hb1 hI hi hnn hNN hik hb
      go_wp2_with fail
      with_reducible refine Calls.mono hrd ?_
      rintro e w1 ⟨ky, vl, n, er, rfl, hat, b1⟩
      obtain ⟨e1, e2, rfl, rfl⟩ := HE.out _ _ _ _ hat
      rw [e1, e2]
      have HB1 := Hid.mk (below_seq HB.out b1)
      have c0 : w1.cell? ⟨b0, o0 + i, none⟩ = some (str q.1) := by rw [b1.cell (p := ⟨b0, _, none⟩) HCs.out.2.2]; exact HCs.out.1
      have c1 : w1.cell? ⟨b0, o0 + (i + 1), none⟩ = some (str q.2) := by rw [b1.cell (p := ⟨b0, _, none⟩) HCs.out.2.2]; exact HCs.out.2.1
      clear hat hrd e1 e2 HE HCs b1
      dsimp only
      go_wp2_with fail
      exact ⟨⟨k + 1, i + 2, hlt, rfl, by first | rfl | (rw [hw2]), HI2, HB1⟩, by first | exact HM.out | (rw [hw2]; exact HM.out)⟩
    · obtain rfl : k = R.length := by omega
      have d1 : decide ((i : Int) + 1 < (N : Int)) = false := decide_eq_false (by omega)
      have d2 : decide (i + 1 < N) = false := decide_eq_false (by omega)
      have d3 : decide (((i + 1 : Nat) : Int) < (N : Int)) = false := decide_eq_false (by omega)
      have e1 : ((P R.length : Int) == (X.length : Int)) = true := by rw [HPn.out]; simp
      have e2 : (P R.length == X.length) = true := by rw [HPn.out]; simp
      clear hpk hxl hnn hNN hi
      go_wp2_with fail
      go_ret
      exact ⟨rfl, hb.out⟩
end Go.Proofs.YtbiponnchppndaaGreatDoor

/- ManifestOf: rows of texts in runs, boxes with a bucket or a version; what the records are. -/
namespace Go.Proofs.YtbiponnchppndaaGreatDoor
set_option maxRecDepth 100000
set_option linter.unusedVariables false
set_option linter.unusedSimpArgs false
open Go.RowKit
open Go.Proofs.YtbiponnchppndaaGreatDoorP (TB recd nn LEN key)
open Go.Proofs.YtbiponnchppndaaGreatDoorH (hv hv_length hv_one hv_eq KIn leaf leaf_hv hexL)
theorem svs_one (ps : List (List UInt8)) : ∀ u ∈ svs ps, u.oneCell' = true := by
  intro u hu
  unfold svs at hu
  obtain ⟨q, _, rfl⟩ := List.mem_map.1 hu
  rfl
/-- what is no row of texts stays -/
structure Kp9 (w w' : World) : Prop where
  keep : ∀ (g : Nat) (cs : Array Value) (t : TypeId), w.heap[g]? = some (.cells cs t (0, 0)) → t ≠ 9 → w'.heap[g]? = some (.cells cs t (0, 0))
theorem Kp9.of {w w' : World} (h : Below w.heap.size w w') : Kp9 w w' := ⟨fun g cs t hg _ => (h.block g (Array.getElem?_eq_some_iff.1 hg).1).trans hg⟩
theorem Kp9.trans {w w1 w2 : World} (h : Kp9 w w1) (h2 : Kp9 w1 w2) : Kp9 w w2 := ⟨fun g cs t hg ht => h2.keep g cs t (h.keep g cs t hg ht) ht⟩
theorem kp9_own {base n : Nat} {w w' : World} {v : Value} {xs : List Value} (o : w.ownsRow base 9 1 v n xs) (hk : ∀ x, x < w.heap.size → v.ownBlock ≠ some x → w'.heap[x]? = w.heap[x]?) : Kp9 w w' := ⟨fun g cs t hg ht => by
  rw [hk g (Array.getElem?_eq_some_iff.1 hg).1 (fun q => by
    obtain ⟨c1, e1⟩ := own_type o q
    rw [hg] at e1
    injection e1 with e1
    injection e1 with _ e2
    exact ht e2)]
  exact hg⟩
theorem run_s {base : Nat} {w1 : World} {v : Value} {l : List (List UInt8)} (ps : List (List UInt8)) (hp : 1 ≤ ps.length) (hp2 : ps.length ≤ 16) (hO : So base w1 v l) (hn : l.length ≤ 1000000000) :
    ∃ v' w', (∀ ty, (Builtin.append_ #[34, 34] ty #[v, .slice (some ⟨w1.heap.size, 0, none⟩) ps.length ps.length]).run Tryz.prog (w1.alloc (.cells (svs ps).toArray 9)) = .ok v' w') ∧ So base w' v' (l ++ ps) ∧ Below base w1 w' ∧ Kp9 w1 w' := by
  obtain ⟨i0, hi, hz0, hz1, hz2⟩ := info9
  have hmx : maxLen = 9223372036854775807 := rfl
  have o1 : (w1.alloc (.cells (svs ps).toArray 9)).ownsRow base 9 1 v l.length (svs l) := hO.own.alloc _
  have hle := hO.le
  have hlen : (svs ps).length = ps.length := by simp [svs]
  obtain ⟨g2, cap2, w', hr, hown, hgrow, hat, hlt⟩ := run_append_lies (P := Tryz.prog) (w := w1.alloc (.cells (svs ps).toArray 9)) 34 34 base 9 i0 _ 1 16 Tryz.underlying34 hi hz0 hz1 hz2 rfl (by omega) v l.length (svs l) o1 ⟨w1.heap.size, 0, none⟩ ps.length ps.length (svs ps) (by rw [hlen, Nat.mul_one])
    (World.news_of_block (cs := (svs ps).toArray) (t := 9) (fr := (0, 0)) (heap_alloc_new w1 _)) (svs_one ps) (by omega) (by rw [hmx]; omega) (by omega) (by simp; omega) _ rfl
  have hsz : w1.heap.size ≤ w'.heap.size := by have := hgrow.size; simp at this; omega
  refine ⟨_, w', fun ty => hr, ⟨?_, by omega⟩, ((Below.refl _ _).alloc hle _).trans (grown_below o1 (by simp; omega) hgrow), kp9_own hO.own (fun x hx hne => by rw [hgrow.block x (by simp; omega) (Ne.symm hne)]; exact heap_alloc_old _ _ _ hx)⟩
  unfold svs
  rw [List.map_append, List.length_append]
  exact hown
/-- the same in a plain region -/
theorem app_s2 {ops : Array Oper} {rest : List Oper} {o : Oper} {a : Act} {Q : Exit → Act → World → Prop} {W : World} (hgd : o.guard = none) (s x : Operand) (ho : o.op = .call { callee := .builtin .append, args := #[s, x], argTypes := #[34, 34] })
    {base : Nat} {w : World} {v : Value} {l : List (List UInt8)} {g : Nat} (ps : List (List UInt8)) (hp1 : 1 ≤ ps.length) (hp : ps.length ≤ 16) (hW : W = w.alloc (.cells (svs ps).toArray 9)) (hO : So base w v l) (hg : g = w.heap.size) (hn : l.length ≤ 1000000000)
    (hs : a.eval s = v) (hx : a.eval x = .slice (some ⟨g, 0, none⟩) ps.length ps.length)
    (h : ∀ v' w', So base w' v' (l ++ ps) → Below base w w' → Kp9 w w' → wpList Tryz.prog ops Q rest (a.put o.dst v') w') :
    wpList Tryz.prog ops Q (o :: rest) a W := by
  subst hW hg
  refine wpList_plain hgd fun K hK => ?_
  obtain ⟨v', w', hr, h2, h3, h4⟩ := run_s ps hp1 hp hO hn
  unfold Oper.wp execOp
  simp only [ho, resolve, invoke, builtin, Sem.run_bind, Sem.run_pure, Result.andThen_ok, List.map_toArray, List.map_cons, List.map_nil, hs, hx, hr]
  exact hK _ _ (h v' w' h2 h3 h4)
theorem So.lit (w : World) (ts : List (List UInt8)) (h : ts.length ≤ 1000) : So w.heap.size (w.alloc (.cells (svs ts).toArray 9)) (.slice (some ⟨w.heap.size, 0, none⟩) ts.length ts.length) ts := by
  refine ⟨⟨by simp [svs], Or.inr ⟨w.heap.size, ts.length, (svs ts).toArray, rfl, Nat.le_refl _, heap_alloc_new w _, Nat.le_refl _, ?_, by simp [svs], by simp only [svs, Nat.mul_one]; exact List.take_of_length_le (by simp)⟩⟩, by simp⟩
  have : maxLen = 9223372036854775807 := rfl
  omega
theorem So.mon {b b' : Nat} {w : World} {v : Value} {ts : List (List UInt8)} (h : So b w v ts) (hb : b' ≤ b) : So b' w v ts := by
  refine ⟨⟨h.own.1, ?_⟩, Nat.le_trans hb h.le⟩
  rcases h.own.2 with q | ⟨g, cap, cur, h1, h2, h3⟩
  · exact Or.inl q
  · exact Or.inr ⟨g, cap, cur, h1, Nat.le_trans hb h2, h3⟩
/-- a box with a bucket -/
def Bb (w : World) (g : Nat) (n : Int) (v : Value) : Prop := w.heap[g]? = some (.cells #[.int .i64 n, v] 44 (0, 0))
theorem Bb.new (w : World) (n : Int) (v : Value) : Bb (w.alloc (.cells #[.int .i64 n, v] 44)) w.heap.size n v := heap_alloc_new _ _
theorem Bb.lt {w : World} {g : Nat} {n : Int} {v : Value} (h : Bb w g n v) : g < w.heap.size := (Array.getElem?_eq_some_iff.1 h).1
theorem Bb.later {w w' : World} {g : Nat} {n : Int} {v : Value} (h : Bb w g n v) (hb : Below w.heap.size w w') : Bb w' g n v := (hb.block g h.lt).trans h
theorem Bb.cells {w : World} {g : Nat} {n : Int} {v : Value} (h : Bb w g n v) : w.cell? ⟨g, 0, none⟩ = some (.int .i64 n) ∧ w.cell? ⟨g, 1, none⟩ = some v := by
  refine ⟨?_, ?_⟩ <;> (rw [cell_of_row _ _ _ _ _ _ h]; rfl)
/-- a box with a version -/
def B5 (w : World) (g : Nat) (v : Vs) (a : Option Addr) (c : Nat) : Prop := w.heap[g]? = some (.cells #[str v.key, .int .i64 v.seq, .bool v.mkr, str v.data, .slice a v.l.length c] 50 (0, 0))
theorem B5.new (w : World) (v : Vs) (a : Option Addr) (c : Nat) : B5 (w.alloc (.cells #[str v.key, .int .i64 v.seq, .bool v.mkr, str v.data, .slice a v.l.length c] 50)) w.heap.size v a c := heap_alloc_new _ _
theorem B5.lt {w : World} {g : Nat} {v : Vs} {a : Option Addr} {c : Nat} (h : B5 w g v a c) : g < w.heap.size := (Array.getElem?_eq_some_iff.1 h).1
theorem B5.later {w w' : World} {g : Nat} {v : Vs} {a : Option Addr} {c : Nat} (h : B5 w g v a c) (hb : Below w.heap.size w w') : B5 w' g v a c := (hb.block g h.lt).trans h
theorem B5.cells {w : World} {g : Nat} {v : Vs} {a : Option Addr} {c : Nat} (h : B5 w g v a c) : w.cell? ⟨g, 0, none⟩ = some (str v.key) ∧ w.cell? ⟨g, 1, none⟩ = some (.int .i64 v.seq) ∧ w.cell? ⟨g, 2, none⟩ = some (.bool v.mkr) ∧ w.cell? ⟨g, 3, none⟩ = some (str v.data) ∧ w.cell? ⟨g, 4, none⟩ = some (.slice a v.l.length c) := by
  refine ⟨?_, ?_, ?_, ?_, ?_⟩ <;> (rw [cell_of_row _ _ _ _ _ _ h]; rfl)
theorem B5.kp {w w' : World} {g : Nat} {v : Vs} {a : Option Addr} {c : Nat} (h : B5 w g v a c) (hk : Kp9 w w') : B5 w' g v a c := hk.keep _ _ _ h (by decide)
theorem Bi.kp {w w' : World} {g : Nat} {x : It} {a : Option Addr} {c : Nat} (h : Bi w g x a c) (hk : Kp9 w w') : Bi w' g x a c := hk.keep _ _ _ h (by decide)
/-- the head's records, ahead of the count -/
def hd3 (next since : Int) : List Kv := [(sKind, if since = 0 then sFull else sDelta), (sFormat, sCoffer), (sNext, dec next)] ++ (if since = 0 then [] else [(sSince, dec since)])
theorem hd3_recs (m : Ma) : headR m = hd3 m.next m.since ++ [(sCount, dec m.items.length)] := rfl
theorem wnt_cons (p : Kv) (R : List Kv) : wnt (p :: R) = [p.1, p.2] ++ wnt R := rfl
/-- the records of the first k items -/
noncomputable def upR (m : Ma) (k : Nat) : List Kv := headR m ++ ((m.items.take k).map itemR).flatten
theorem upR_succ {m : Ma} {k : Nat} {x : It} (h : m.items[k]? = some x) : upR m (k + 1) = upR m k ++ itemR x := by
  unfold upR
  rw [List.take_add_one, h]
  simp
theorem upR_all (m : Ma) : upR m m.items.length ++ [(sEnd, sMani)] = recs m := by unfold upR recs; rw [List.take_length]
theorem item_mk {x : It} (h : x.mkr = true) (hl : x.l = []) : itemR x = [(sKey, x.key), (sSeq, dec x.seq)] ++ [(sType, sMarker)] ++ [(sLeaf, hexL x.g)] := by
  unfold itemR; rw [if_pos h, hl]; simp [metaR]
theorem item_da {x : It} (h : x.mkr = false) : itemR x = [(sKey, x.key), (sSeq, dec x.seq)] ++ [(sType, sData), (sSize, dec x.size)] ++ metaR x.l ++ [(sLeaf, hexL x.g)] := by
  unfold itemR; rw [if_neg (by rw [h]; decide)]
theorem meta_succ {l : List En} {k : Nat} {p : En} (h : l[k]? = some p) : metaR (l.take (k + 1)) = metaR (l.take k) ++ [(sMeta ++ p.key, p.val)] := by
  unfold metaR
  rw [List.take_add_one, h]
  simp
end Go.Proofs.YtbiponnchppndaaGreatDoor
