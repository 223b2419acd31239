/- Read: the page whose block this is. -/
import Derived.Test.YtibmnpkmbhjniaaWri
import Derived.Test.YtibmnpkmbhjniaaShelf
import Derived.RegionCalls
import Derived.Deep.RegionHeld3
namespace Go.Proofs.Ytibmnpkmbhjniaa
set_option linter.unusedVariables false
set_option linter.unusedSimpArgs false
open Go.RowKit
attribute [local go_sem ↓] Go.wp_at_zero Go.wp_at_succ
attribute [local go_sem ↓] sl9 ix9
theorem or8 (n : Nat) (c : UInt8) (h : n < 256) : bits BinOp.or IntKind.i64 ((n : Int) * 256) (c.toNat : Int) = ((n * 256 + c.toNat : Nat) : Int) := by
  have hc := c.toNat_lt
  have e : (n : Int) * 256 = ((n * 256 : Nat) : Int) := by omega
  have := Nat.two_pow_add_eq_or_of_lt (i := 8) (b := c.toNat) (by omega) n
  have hx : (n * 256) ||| c.toNat = n * 256 + c.toNat := by rw [show n * 256 = 2 ^ 8 * n by omega, ← this]
  rw [e]
  show IntKind.i64.wrap ((BitVec.ofInt 64 ((n * 256 : Nat) : Int) ||| BitVec.ofInt 64 ((c.toNat : Nat) : Int)).toNat : Int) = _
  rw [BitVec.ofInt_natCast, BitVec.ofInt_natCast, BitVec.toNat_or, BitVec.toNat_ofNat, BitVec.toNat_ofNat, Nat.mod_eq_of_lt (by omega), Nat.mod_eq_of_lt (by omega), hx, IntKind.wrap_i64]
  omega
/-- the number of the two bytes at i -/
def num2 (b : List UInt8) (i : Nat) : Nat := (b.getD i 0).toNat * 256 + (b.getD (i + 1) 0).toNat
theorem readNumber_any (b : List UInt8) (w : World) (h2 : 2 ≤ b.length) :
    Calls Try.prog 36 #[str b] w fun e w' => ∃ m, e = .returned (.int .i64 (num2 b 0 : Int)) ∧ w' = w.drewN m := by
  have i0 : ∀ w, (ixS (str b) (.int .i64 0)).run Try.prog w = .ok (.int .u8 ((b.getD 0 0).toNat : Int)) w := run_ix b 0 (by omega)
  have i1 : ∀ w, (ixS (str b) (.int .i64 1)).run Try.prog w = .ok (.int .u8 ((b.getD 1 0).toNat : Int)) w := run_ix b 1 (by omega)
  have HN : Hid (num2 b 0 = (b.getD 0 0).toNat * 256 + (b.getD 1 0).toNat) := ⟨rfl⟩
  generalize num2 b 0 = N at *
  generalize b.getD 0 0 = c at *
  generalize b.getD 1 0 = d at *
  have hc := c.toNat_lt
  have hd := d.toNat_lt
  have hor := or8 c.toNat d (by omega)
  go_enter Try.func36, Try.ntmps36
  go_wp2_with fail
  go_quiet (fail)
  go_wp2_with fail
  go_ret
  exact ⟨nq, by rw [HN.out, Int.natCast_add, Int.natCast_mul]; rfl, rfl⟩
theorem sclone_any (l : List UInt8) (w : World) (h : l.length ≤ 1000000) : Calls Try.prog 49 #[str l] w fun e w' => e = .returned (str l) ∧ Below w.heap.size w w' := by
  have hc := Try.stringslite_Clone ⟨l.toArray⟩ w (by rw [str_size]; omega)
  go_enter Try.func49, Try.ntmps49
  go_wp2_with (go_at_call 53; refine hc.mono ?_; rintro e w1 ⟨rfl, hb1⟩)
  go_ret
  exact ⟨rfl, hb1⟩
/-- the entries that a text begins with -/
def rde : Nat → List UInt8 → Option (List En)
  | 0, _ => some []
  | n + 1, b => if b.length < 2 then none else if b.length - 2 < (b.getD 0 0).toNat + (b.getD 1 0).toNat then none else
      (rde n ((b.drop 2).drop ((b.getD 0 0).toNat + (b.getD 1 0).toNat))).map (⟨(b.drop 2).take (b.getD 0 0).toNat, ((b.drop 2).drop (b.getD 0 0).toNat).take (b.getD 1 0).toNat⟩ :: ·)
theorem rde_short {n : Nat} {b : List UInt8} (h : b.length < 2) : rde (n + 1) b = none := by rw [rde, if_pos h]
theorem rde_over {n : Nat} {b : List UInt8} (h : ¬ b.length < 2) (h2 : b.length - 2 < (b.getD 0 0).toNat + (b.getD 1 0).toNat) : rde (n + 1) b = none := by rw [rde, if_neg h, if_pos h2]
theorem rde_more {n : Nat} {b : List UInt8} (h : ¬ b.length < 2) (h2 : ¬ b.length - 2 < (b.getD 0 0).toNat + (b.getD 1 0).toNat) : rde (n + 1) b = (rde n ((b.drop 2).drop ((b.getD 0 0).toNat + (b.getD 1 0).toNat))).map (⟨(b.drop 2).take (b.getD 0 0).toNat, ((b.drop 2).drop (b.getD 0 0).toNat).take (b.getD 1 0).toNat⟩ :: ·) := by rw [rde, if_neg h, if_neg h2]
def EntP (w : World) (o : Option (List En)) (e : Ending) (w' : World) : Prop := Below w.heap.size w w' ∧ match o with
  | some L => ∃ v, e = .returned (.tuple #[v, .bool true]) ∧ Ow w.heap.size w' v L
  | none => e = .returned (.tuple #[.slice none 0 0, .bool false])
theorem step_one {ops : Array Oper} {o : Oper} {a : Act} {K : Act → World → Prop} {Q : Exit → Act → World → Prop} {E : Prop} {W : World} (hgd : o.guard = none) (s x : Operand) (ho : o.op = .call { callee := .builtin .append, args := #[s, x], argTypes := #[22, 22] })
    {base : Nat} {w : World} {v : Value} {l : List En} {g : Nat} (p : En) (hW : W = w.alloc (.cells #[str p.key, str p.val] 43)) (hO : Ow base w v l) (hg : g = w.heap.size) (hn : l.length ≤ 1000000000)
    (hs : a.eval s = v) (hx : a.eval x = .slice (some ⟨g, 0, none⟩) 1 1)
    (h : ∀ v' w', Ow base w' v' (l ++ [p]) → Below base w w' → K (a.put o.dst v') w') :
    if Region.wanted o (yielded ops a.tmps) = true then Oper.wp Try.prog o a W K Q else E := by
  obtain ⟨i0, hi0, hz0, hz1, hz2⟩ := infoP
  subst hW hg
  have hm : maxLen = 9223372036854775807 := rfl
  refine step_append_lies _ hgd s x 22 ho base 43 i0 _ 2 32 Try.underlying22 hi0 hz0 hz1 hz2 rfl (by omega) v l.length (pcells l) hs (hO.own.alloc _) _ 1 1 (pcs p) hx rfl
    (World.news_of_block (cs := #[str p.key, str p.val]) (t := 43) (fr := (0, 0)) (heap_alloc_new w _)) (by simp [pcs, Value.oneCell']) (by omega) (by rw [hm]; omega) (by omega) (by have := hO.le; simp; omega) _ rfl ?_
  intro g2 cap w' hown hgrow _ _
  refine h _ w' ⟨?_, ?_⟩ ?_
  · rw [pcells_append, List.length_append]
    have : pcells [p] = pcs p := by simp [pcells]
    rw [this]; exact hown
  · have := hgrow.size; have h2 := hO.le; simp at this; omega
  · exact ((Below.refl _ _).alloc hO.le _).trans (grown_below (hO.own.alloc _) (by have := hO.le; simp; omega) hgrow)
set_option maxHeartbeats 4000000 in
theorem readEntries_any (b : List UInt8) (n : Nat) (w : World) (hb0 : b.length ≤ 1000) (hn : n ≤ 65535) :
    Calls Try.prog 35 #[str b, .int .i64 (n : Int)] w (EntP w (rde n b)) := by
  have HE0 : Hid (∀ w', Below w.heap.size w w' → rde n b = none → EntP w (rde n b) (.returned (.tuple #[.slice none 0 0, .bool false])) w') := ⟨fun w' h1 h2 => by rw [h2]; exact ⟨h1, rfl⟩⟩
  have HE1 : Hid (∀ v w' L, Below w.heap.size w w' → Ow w.heap.size w' v L → rde n b = some L → EntP w (rde n b) (.returned (.tuple #[v, .bool true])) w') := ⟨fun v w' L h1 h2 h3 => by rw [h3]; exact ⟨h1, v, rfl, h2⟩⟩
  generalize EntP w (rde n b) = PP at *
  go_enter Try.func35, Try.ntmps35
  go_wp2_with fail
  go_loopw [0, 6, 10] (fun bv lv i wr => ∃ (k : Nat) (c : List UInt8) (L : List En), k ≤ n ∧ i = .int .i64 (k : Int) ∧ bv = str c ∧ c.length ≤ 1000 ∧ L.length = k ∧ Hid (rde n b = (rde (n - k) c).map (L ++ ·)) ∧ Ow w.heap.size wr lv L ∧ Below w.heap.size w wr) (fun _ _ i _ => n - (intOf i).toNat)
  case atStart => exact ⟨0, b, [], by omega, rfl, rfl, hb0, rfl, ⟨by simp⟩, Ow.nil _ _ (Nat.le_refl _), Below.refl _ _⟩
  case round =>
    obtain ⟨k, c, L, hk, rfl, rfl, hc, hL, HI, hO, hb⟩ := hrel
    by_cases hlt : k < n
    · have hd : decide ((k : Int) < (n : Int)) = true := decide_eq_true (by omega)
      obtain ⟨m, hm⟩ : ∃ m, n - k = m + 1 := ⟨n - k - 1, by omega⟩
      rw [hm] at HI
      have hm2 : Hid (m = n - (k + 1)) := ⟨by omega⟩
      clear hm
      by_cases h2 : c.length < 2
      · have d2 : decide ((c.length : Int) < 2) = true := decide_eq_true (by omega)
        rw [rde_short h2] at HI
        have HX := Hid.mk (HE0.out wr hb HI.out)
        go_wp2_with fail
        exact HX.out
      · have d2 : decide ((c.length : Int) < 2) = false := decide_eq_false (by omega)
        have i0 : ∀ w, (ixS (str c) (.int .i64 0)).run Try.prog w = .ok (.int .u8 ((c.getD 0 0).toNat : Int)) w := run_ix c 0 (by omega)
        have i1 : ∀ w, (ixS (str c) (.int .i64 1)).run Try.prog w = .ok (.int .u8 ((c.getD 1 0).toNat : Int)) w := run_ix c 1 (by omega)
        have s0 : ∀ w, (slS (str c) (some (.int .i64 2)) none none).run Try.prog w = .ok (str (c.drop 2)) w := run_lo c 2 (by omega) (by omega)
        have hx := (c.getD 0 0).toNat_lt
        have hy := (c.getD 1 0).toNat_lt
        by_cases h3 : c.length - 2 < (c.getD 0 0).toNat + (c.getD 1 0).toNat
        · rw [rde_over h2 h3] at HI
          have HX := fun w' h => HE0.out w' h HI.out
          have hl2 : (c.drop 2).length = c.length - 2 := List.length_drop
          have d3 : decide (((c.drop 2).length : Int) < ((c.getD 0 0).toNat : Int) + ((c.getD 1 0).toNat : Int)) = true := decide_eq_true (by omega)
          generalize c.drop 2 = c2 at *
          generalize (c.getD 0 0).toNat = x at *
          generalize (c.getD 1 0).toNat = y at *
          clear h3 hl2 HI
          go_wp2_with fail
          go_quiet (fail)
          go_wp2_with fail
          exact below_dN hb nq
        · rw [rde_more h2 h3] at HI
          have hl2 : (c.drop 2).length = c.length - 2 := List.length_drop
          have d3 : decide (((c.drop 2).length : Int) < ((c.getD 0 0).toNat : Int) + ((c.getD 1 0).toNat : Int)) = false := decide_eq_false (by omega)
          have h4 : (c.getD 0 0).toNat + (c.getD 1 0).toNat ≤ (c.drop 2).length := by omega
          generalize c.drop 2 = c2 at *
          generalize (c.getD 0 0).toNat = x at *
          generalize (c.getD 1 0).toNat = y at *
          have t1 := run_hi c2 x (by omega) (by omega)
          have t2 : ∀ w, (slS (str c2) (some (.int .i64 (x : Int))) (some (.int .i64 ((x : Int) + (y : Int)))) none).run Try.prog w = .ok (str ((c2.drop x).take y)) w := fun w => by
            have := run_mid c2 x (x + y) (by omega) (by omega) (by omega) w
            rw [show x + y - x = y by omega, Int.natCast_add] at this
            exact this
          have t3 : ∀ w, (slS (str c2) (some (.int .i64 ((x : Int) + (y : Int)))) none none).run Try.prog w = .ok (str (c2.drop (x + y))) w := fun w => by
            have := run_lo c2 (x + y) (by omega) (by omega) w
            rw [Int.natCast_add] at this
            exact this
          have q1 := fun w => sclone_any (c2.take x) w (by rw [List.length_take]; omega)
          have q2 := fun w => sclone_any ((c2.drop x).take y) w (by rw [List.length_take, List.length_drop]; omega)
          have hl3 : (c2.drop (x + y)).length ≤ 1000 := by rw [List.length_drop]; omega
          have HI2 : Hid (rde n b = (rde (n - (k + 1)) (c2.drop (x + y))).map ((L ++ [⟨c2.take x, (c2.drop x).take y⟩]) ++ ·)) := ⟨by rw [HI.out, hm2.out]; cases rde (n - (k + 1)) (c2.drop (x + y)) <;> simp⟩
          generalize c2.drop (x + y) = c3 at *
          generalize c2.take x = ky at *
          generalize (c2.drop x).take y = vl at *
          clear h3 hl2 HI hm2
          go_wp2_with fail
          go_quiet (fail)
          go_wp2_with fail
          have hbq := below_dN hb nq
          have hOq := hO.drewN nq
          generalize wr.drewN nq = wq at *
          have hwx : IntKind.i64.wrap ((x : Int) + (y : Int)) = (x : Int) + (y : Int) := by rw [IntKind.wrap_i64]; omega
          go_region_held3 (fun w' => Below w.heap.size w w') (first | exact hbq.drew | exact below_seq (by assumption) b1 | exact below_seq (by assumption) b2 | exact Below.alloc (by assumption) (Below.size (by assumption)) _ | exact (below_seq (below_seq hbq.drew b1) b2).trans b3) (first
            | (go_at_call 49; with_reducible refine Calls.mono (q1 _) ?_; rintro e w1 ⟨rfl, b1⟩)
            | (go_at_call 49; with_reducible refine Calls.mono (q2 _) ?_; rintro e w2 ⟨rfl, b2⟩)
            | (refine step_one rfl _ _ rfl ⟨ky, vl⟩ rfl (hOq.drew.later (below_seq b1 b2)) (by simp) (by omega) rfl rfl ?_; intro v3 w3 o3 b3))
          have HB := Hid.mk ((below_seq (below_seq hbq.drew b1) b2).trans b3)
          clear hO hb hOq hbq b1 b2 b3
          go_wp2_with fail
          exact ⟨⟨k + 1, c3, L ++ [⟨ky, vl⟩], by omega, by go_num, rfl, hl3, by simp [hL], HI2, o3, HB.out⟩, by simp [intOf]; omega⟩
    · obtain rfl : k = n := by omega
      have hd : decide ((k : Int) < (k : Int)) = false := decide_eq_false (by omega)
      have HX := Hid.mk (HE1.out _ wr L hb hO (by rw [HI.out, Nat.sub_self]; simp [rde]))
      go_wp2_with fail
      exact HX.out
end Go.Proofs.Ytibmnpkmbhjniaa
