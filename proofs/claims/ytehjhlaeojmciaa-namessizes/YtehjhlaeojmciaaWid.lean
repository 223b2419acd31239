/- Long lists; lend, kept; the document's Version and Size. -/
import Derived.Test.YtehjhlaeojmciaaVer
namespace Go.Proofs.Ytehjhlaeojmciaa
set_option linter.unusedVariables false
set_option linter.unusedSimpArgs false
open Go.RowKit
attribute [local go_sem ↓] Go.wp_at_zero Go.wp_at_succ
attribute [local go_sem ↓] slPe
theorem app_oneB {ops : Array Oper} {rest : List Oper} {o : Oper} {a : Act} {Q : Exit → Act → World → Prop} {W : World} (hgd : o.guard = none) (s x : Operand) (ho : o.op = .call { callee := .builtin .append, args := #[s, x], argTypes := #[28, 28] })
    {base : Nat} {w : World} {v : Value} {l : List En} {g : Nat} (p : En) (hW : W = w.alloc (.cells #[str p.key, str p.val] 27)) (hO : Ow base w v l) (hg : g = w.heap.size) (hn : l.length ≤ 4500000000000)
    (hs : a.eval s = v) (hx : a.eval x = .slice (some ⟨g, 0, none⟩) 1 1)
    (h : ∀ v' w', Ow base w' v' (l ++ [p]) → Below base w w' → wpList Try.prog ops Q rest (a.put o.dst v') w') :
    wpList Try.prog ops Q (o :: rest) a W := by
  obtain ⟨i0, hi0, hz0, hz1, hz2⟩ := infoP
  subst hW hg
  have hm : maxLen = 9223372036854775807 := rfl
  refine wpList_append_own_wide _ hgd s x 28 ho base 27 i0 _ 2 32 Try.underlying28 hi0 hz0 hz1 hz2 rfl (by omega) v l.length (pcells l) hs (hO.own.alloc _) _ 1 1 (pcs p) hx rfl
    (World.news_of_block (cs := #[str p.key, str p.val]) (t := 27) (fr := (0, 0)) (heap_alloc_new w _)) (by simp [pcs, Value.oneCell']) (by rw [hm]; omega) (by omega) (by have := hO.le; simp; omega) ?_
  intro v' w' hown hgrow _
  refine h v' w' ⟨?_, ?_⟩ ?_
  · rw [pcells_append, List.length_append]
    have : pcells [p] = pcs p := by simp [pcells]
    rw [this]; exact hown
  · have := hgrow.size; have h2 := hO.le; simp at this; omega
  · exact ((Below.refl _ _).alloc hO.le _).trans (grown_below (hO.own.alloc _) (by have := hO.le; simp; omega) hgrow)
theorem app_sliceB {ops : Array Oper} {rest : List Oper} {o : Oper} {a : Act} {Q : Exit → Act → World → Prop} {w : World} (hgd : o.guard = none) (s x : Operand) (ho : o.op = .call { callee := .builtin .append, args := #[s, x], argTypes := #[28, 28] })
    {base : Nat} {v : Value} {l : List En} {ad : Option Addr} {k c : Nat} (q : List En) (hO : Ow base w v l) (hS : Sl w ad c q) (hk : q.length = k) (hn : l.length + q.length ≤ 4500000000000)
    (hs : a.eval s = v) (hx : a.eval x = .slice ad k c)
    (h : ∀ v' w', Ow base w' v' (l ++ q) → Below base w w' → wpList Try.prog ops Q rest (a.put o.dst v') w') :
    wpList Try.prog ops Q (o :: rest) a w := by
  obtain ⟨i0, hi0, hz0, hz1, hz2⟩ := infoP
  have hm : maxLen = 9223372036854775807 := rfl
  subst hk
  cases ad with
  | none =>
    have hc := hS.nil rfl
    have h0 : q.length = 0 := by have := hS.le; omega
    have hq : q = [] := List.eq_nil_of_length_eq_zero h0
    subst hq hc
    refine wpList_plain hgd fun K hK' => ?_
    have hrun := run_append_owned_none (P := Try.prog) w base 28 o.type 27 i0 2 Try.underlying28 hi0 _ l.length (pcells l) hO.own
    unfold Oper.wp
    simp [execOp, ho, resolve, invoke, builtin, hs, hx, hrun, Result.andThen]
    exact hK' _ _ (h v w (by simpa using hO) (Below.refl _ _))
  | some ad =>
    have hspot : q.length = 0 ∨ ad.spot = none := by
      rcases Nat.eq_zero_or_pos q.length with h0 | h0
      · exact Or.inl h0
      · obtain ⟨b, off, e, _⟩ := hS.at'.get 0 q[0] (List.getElem?_eq_getElem h0)
        injection e with e
        exact Or.inr (by rw [e])
    have hcells : ∀ j u, (pcells q)[j]? = some u → w.cell? (ad.add j) = some u := by
      rcases hspot with h0 | h0
      · intro j u hj
        have hq : q = [] := List.eq_nil_of_length_eq_zero h0
        subst hq
        simp [pcells] at hj
      · obtain ⟨b, off, sp⟩ := ad
        simp at h0
        subst h0
        exact hS.at'.cells
    refine wpList_append_own_wide _ hgd s x 28 ho base 27 i0 _ 2 32 Try.underlying28 hi0 hz0 hz1 hz2 rfl (by omega) v l.length (pcells l) hs hO.own ad q.length c (pcells q) hx (pcells_length q) hcells (pcells_one q) (by rw [hm]; omega) (by omega) hO.le ?_
    intro v' w' hown hgrow _
    refine h v' w' ⟨?_, ?_⟩ (grown_below hO.own hO.le hgrow)
    · rw [pcells_append, List.length_append]; exact hown
    · have := hgrow.size; have h2 := hO.le; omega
def mk : En := ⟨[109, 97, 114, 107], []⟩
theorem Sl.head {w : World} {a : Option Addr} {cap : Nat} {l : List En} {m : En} (h : Sl w a cap (l ++ [m])) : Sl w a cap l := by
  have := h.take l.length
  rw [List.take_left] at this
  exact this
theorem lend_any (l : List En) (w : World) (a : Option Addr) (n cap : Nat) (hn : l.length = n) (hS : Sl w a cap l) (hl : l.length ≤ 4398046510976) :
    Calls Try.prog 19 #[.slice a n cap] w fun e w' => ∃ ad c, e = .returned (.slice ad l.length c) ∧ Ow w.heap.size w' (.slice ad (l.length + 1) c) (l ++ [mk]) ∧ Below w.heap.size w w' := by
  subst hn
  go_enter Try.func19, Try.ntmps19
  go_wp2_with (first
    | (refine app_sliceB rfl _ _ rfl l (Ow.nil _ w.heap.size (Nat.le_refl _)) hS rfl (by simp; omega) rfl rfl ?_; intro v1 w1 o1 b1)
    | (refine app_oneB rfl _ _ rfl mk rfl o1 rfl (by simp; omega) rfl rfl ?_; intro v2 w2 o2 b2; obtain ⟨a2, c2, rfl, s2⟩ := o2.sl; rw [List.nil_append] at s2 o2; have hr := fun w => run_slP a2 (l.length + 1) c2 l.length (by have := s2.le; simp at this; omega) s2.max s2.nil w))
  go_ret
  refine ⟨a2, c2, rfl, ?_, b1.trans b2⟩
  simpa using o2
set_option maxHeartbeats 1000000 in
theorem kept_any (l : List En) (w : World) (ad a : Option Addr) (n c cap : Nat) (hn : l.length = n) (hM : Sl w ad c (l ++ [mk])) (hL : PIn w a l) (hl : l.length ≤ 4398046510976) :
    Calls Try.prog 21 #[.slice ad n c, .slice a n cap] w fun e w' => e = .returned (.bool true) ∧ Below w.heap.size w w' := by
  subst hn
  have hle : l.length + 1 ≤ c := by have := hM.le; simp at this; exact this
  have hr : ∀ w, (slP (.slice ad l.length c) none (some (.int .i64 ((l.length : Int) + 1))) none).run Try.prog w = .ok (.slice ad (l.length + 1) c) w := fun w => run_slP ad l.length c (l.length + 1) hle hM.max hM.nil w
  go_enter Try.func21, Try.ntmps21
  go_wp2_with fail
  go_loopw [5] (fun i wr => ∃ k : Nat, k ≤ l.length ∧ i = .int .i64 (k : Int) ∧ Below w.heap.size w wr) (fun i _ => l.length - (intOf i).toNat)
  case atStart => exact ⟨0, by omega, rfl, Below.refl _ _⟩
  case round =>
    obtain ⟨k, hk, rfl, hb⟩ := hrel
    by_cases hlt : k < l.length
    · have d1 : decide ((k : Int) < (l.length : Int)) = true := decide_eq_true (by omega)
      have k2 : (k : Int) < (l.length : Int) := by omega
      obtain ⟨p, hp⟩ : ∃ p, l[k]? = some p := ⟨l[k], List.getElem?_eq_getElem hlt⟩
      obtain ⟨b, off, rfl, hbl, c0, c1⟩ := (hL.later hb).get k p hp
      obtain ⟨b2, off2, rfl, hbl2, e0, e1⟩ := (hM.later hb).at'.get k p (by rw [List.getElem?_append_left hlt]; exact hp)
      go_wp2_with fail
      go_quiet (fail)
      go_wp2_with fail
      exact ⟨⟨k + 1, by omega, by go_num, below_dN hb nq⟩, by simp [intOf]; omega⟩
    · obtain rfl : k = l.length := by omega
      have d1 : decide ((l.length : Int) < (l.length : Int)) = false := decide_eq_false (by omega)
      obtain ⟨b, off, rfl, hbl, c0, c1⟩ := (hM.later hb).at'.get l.length mk (by simp)
      have hlt : (l.length : Int) < (l.length : Int) + 1 := by omega
      go_wp2_with fail
      go_ret
      exact ⟨rfl, hb⟩
set_option maxHeartbeats 2000000 in
theorem rVersion_any (key : List UInt8) (seq : Int) (mk : Bool) (data : List UInt8) (l : List En) (w : World) (a : Option Addr) (n cap : Nat) (hn : l.length = n) (hP : PIn w a l) (hs : ∀ (k : Nat) (e : En), l[k]? = some e → e.key.length ≤ 9223372036854775806 ∧ e.val.length ≤ 9223372036854775806) (hz : l.length ≤ 9223372036854775806) :
    Calls Try.prog 22 #[vv key seq mk data a n cap] w fun e w' => e = .returned (.int .i64 (vrE key mk data l)) ∧ Below w.heap.size w w' := by
  have hk := fun w => rKey_any key w
  have hd := fun w => rData_any data w
  have hbx : Below w.heap.size w (w.alloc (.cells #[str key, .int .i64 seq, .bool mk, str data, .slice a n cap] 32)) := (Below.refl _ _).alloc (Nat.le_refl _) _
  have hm := rMeta_any l _ a n cap hn (hP.later hbx) hs hz
  rcases keyE_or key with h1 | h1
  · rw [h1] at hk
    rcases datE_or data with h2 | h2
    · rw [h2] at hd
      by_cases h3 : mk = true ∧ ¬ data = []
      · have HV : Hid (vrE key mk data l = 63) := ⟨by unfold vrE; rw [if_neg (by rw [h1]; simp), if_pos (.inl h3)]⟩
        obtain ⟨rfl, h4⟩ := h3
        have d0 : (data == []) = false := by rw [beq_eq_false_iff_ne]; exact h4
        clear h4 h1 h2 hm
        go_enter Try.func22, Try.ntmps22
        go_wp2_with (first | (go_at_call 17; refine (hk _).mono ?_; rintro e w1 ⟨rfl, rfl⟩) | (go_at_call 18; refine (hd _).mono ?_; rintro e w1 ⟨rfl, rfl⟩))
        go_ret
        exact ⟨by rw [HV.out]; rfl, hbx⟩
      · have HV : Hid (vrE key mk data l = if mk = true ∧ 1 ≤ l.length then 62 else mtE l) := ⟨by unfold vrE; rw [if_neg (by rw [h1]; simp), if_neg (by rw [h2]; simpa using h3)]⟩
        have h7 : mk = true → data = [] := fun hm => by
          apply Classical.byContradiction
          intro h; exact h3 ⟨hm, h⟩
        rcases mtE_or l with h4 | h4
        · rw [h4] at hm HV
          cases mk with
          | false =>
            rw [if_neg (by simp)] at HV
            clear h3 h1 h2 h4 h7
            go_enter Try.func22, Try.ntmps22
            go_wp2_with (first | (go_at_call 17; refine (hk _).mono ?_; rintro e w1 ⟨rfl, rfl⟩) | (go_at_call 18; refine (hd _).mono ?_; rintro e w1 ⟨rfl, rfl⟩) | (go_at_call 20; refine hm.mono ?_; rintro e w1 ⟨rfl, b1⟩; obtain ⟨x0, x1, x2, x3, x4⟩ := box5 b1))
            go_ret
            exact ⟨by rw [HV.out]; rfl, hbx.trans (b1.mono (by simp))⟩
          | true =>
            obtain rfl := h7 rfl
            by_cases h6 : 1 ≤ l.length
            · rw [if_pos ⟨rfl, h6⟩] at HV
              have d3 : decide ((0 : Int) < (n : Int)) = true := decide_eq_true (by omega)
              have d4 : decide (0 < n) = true := decide_eq_true (by omega)
              clear h3 h1 h2 h4 h7 h6
              go_enter Try.func22, Try.ntmps22
              go_wp2_with (first | (go_at_call 17; refine (hk _).mono ?_; rintro e w1 ⟨rfl, rfl⟩) | (go_at_call 18; refine (hd _).mono ?_; rintro e w1 ⟨rfl, rfl⟩) | (go_at_call 20; refine hm.mono ?_; rintro e w1 ⟨rfl, b1⟩; obtain ⟨x0, x1, x2, x3, x4⟩ := box5 b1))
              go_ret
              exact ⟨by rw [HV.out]; rfl, hbx.trans (b1.mono (by simp))⟩
            · rw [if_neg (fun h => h6 h.2)] at HV
              have d3 : decide ((0 : Int) < (n : Int)) = false := decide_eq_false (by omega)
              have d4 : decide (0 < n) = false := decide_eq_false (by omega)
              clear h3 h1 h2 h4 h7 h6
              go_enter Try.func22, Try.ntmps22
              go_wp2_with (first | (go_at_call 17; refine (hk _).mono ?_; rintro e w1 ⟨rfl, rfl⟩) | (go_at_call 18; refine (hd _).mono ?_; rintro e w1 ⟨rfl, rfl⟩) | (go_at_call 20; refine hm.mono ?_; rintro e w1 ⟨rfl, b1⟩; obtain ⟨x0, x1, x2, x3, x4⟩ := box5 b1))
              go_ret
              exact ⟨by rw [HV.out]; rfl, hbx.trans (b1.mono (by simp))⟩
        · rw [h4] at hm HV
          rw [ite_self] at HV
          cases mk with
          | false =>
            clear h3 h1 h2 h4 h7
            go_enter Try.func22, Try.ntmps22
            go_wp2_with (first | (go_at_call 17; refine (hk _).mono ?_; rintro e w1 ⟨rfl, rfl⟩) | (go_at_call 18; refine (hd _).mono ?_; rintro e w1 ⟨rfl, rfl⟩) | (go_at_call 20; refine hm.mono ?_; rintro e w1 ⟨rfl, b1⟩))
            go_ret
            exact ⟨by rw [HV.out]; rfl, hbx.trans (b1.mono (by simp))⟩
          | true =>
            obtain rfl := h7 rfl
            clear h3 h1 h2 h4 h7
            go_enter Try.func22, Try.ntmps22
            go_wp2_with (first | (go_at_call 17; refine (hk _).mono ?_; rintro e w1 ⟨rfl, rfl⟩) | (go_at_call 18; refine (hd _).mono ?_; rintro e w1 ⟨rfl, rfl⟩) | (go_at_call 20; refine hm.mono ?_; rintro e w1 ⟨rfl, b1⟩))
            go_ret
            exact ⟨by rw [HV.out]; rfl, hbx.trans (b1.mono (by simp))⟩
    · rw [h2] at hd
      have HV : Hid (vrE key mk data l = 63) := ⟨by unfold vrE; rw [if_neg (by rw [h1]; simp), if_pos (.inr (by rw [h2]; decide))]⟩
      clear h1 h2 hm
      go_enter Try.func22, Try.ntmps22
      go_wp2_with (first | (go_at_call 17; refine (hk _).mono ?_; rintro e w1 ⟨rfl, rfl⟩) | (go_at_call 18; refine (hd _).mono ?_; rintro e w1 ⟨rfl, rfl⟩))
      go_ret
      exact ⟨by rw [HV.out]; rfl, hbx⟩
  · rw [h1] at hk
    have HV : Hid (vrE key mk data l = 61) := ⟨by unfold vrE; rw [if_pos (by rw [h1]; decide)]⟩
    clear h1 hm
    go_enter Try.func22, Try.ntmps22
    go_wp2_with (go_at_call 17; refine (hk _).mono ?_; rintro e w1 ⟨rfl, rfl⟩)
    go_ret
    exact ⟨by rw [HV.out]; rfl, hbx⟩
set_option maxHeartbeats 2000000 in
theorem rSize_any (key : List UInt8) (seq : Int) (mk : Bool) (data : List UInt8) (l : List En) (w : World) (a : Option Addr) (n cap : Nat) (hn : l.length = n) (hP : PIn w a l) (hz : l.length ≤ 9223372036854775806) :
    Calls Try.prog 23 #[vv key seq mk data a n cap] w fun e w' => e = .returned (.int .i64 (vsz key data l)) ∧ Below w.heap.size w w' := by
  subst hn
  have hbx : Below w.heap.size w (w.alloc (.cells #[str key, .int .i64 seq, .bool mk, str data, .slice a l.length cap] 32)) := (Below.refl _ _).alloc (Nat.le_refl _) _
  have HZ := Hid.mk (vsz_zero key data l)
  go_enter Try.func23, Try.ntmps23
  go_wp2_with fail
  go_loopw [3, 4] (fun s i wr => ∃ k : Nat, k ≤ l.length ∧ i = .int .i64 (k : Int) ∧ s = .int .i64 (vsz key data (l.take k)) ∧ Below (w.alloc (.cells #[str key, .int .i64 seq, .bool mk, str data, .slice a l.length cap] 32)).heap.size (w.alloc (.cells #[str key, .int .i64 seq, .bool mk, str data, .slice a l.length cap] 32)) wr) (fun _ i _ => l.length - (intOf i).toNat)
  case atStart => exact ⟨0, by omega, rfl, by rw [← HZ.out], Below.refl _ _⟩
  case round =>
    obtain ⟨k, hk, rfl, rfl, hb⟩ := hrel
    obtain ⟨x0, x1, x2, x3, x4⟩ := box5 hb
    have hB : Below w.heap.size w wr := hbx.trans (hb.mono (by simp))
    by_cases hlt : k < l.length
    · have d1 : decide ((k : Int) < (l.length : Int)) = true := decide_eq_true (by omega)
      have k2 : (k : Int) < (l.length : Int) := by omega
      obtain ⟨p, hp⟩ : ∃ p, l[k]? = some p := ⟨l[k], List.getElem?_eq_getElem hlt⟩
      obtain ⟨b, off, rfl, hbl, c0, c1⟩ := (hP.later hB).get k p hp
      have HX := Hid.mk (vsz_next (key := key) (data := data) hp).2
      generalize vsz key data (l.take k) = A at *
      have Hb := Hid.mk hb
      clear hb
      go_wp2_with fail
      go_quiet (fail)
      go_wp2_with fail
      exact ⟨⟨k + 1, by omega, by go_num, by rw [← HX.out], below_dN Hb.out nq⟩, by simp [intOf]; omega⟩
    · obtain rfl : k = l.length := by omega
      have d1 : decide ((l.length : Int) < (l.length : Int)) = false := decide_eq_false (by omega)
      rw [List.take_length]
      have Hb := Hid.mk hb
      clear hb
      go_wp2_with fail
      go_ret
      exact ⟨rfl, hB⟩
end Go.Proofs.Ytehjhlaeojmciaa
