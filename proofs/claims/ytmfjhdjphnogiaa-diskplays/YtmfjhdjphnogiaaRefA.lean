/- The document's disk: Read, Write, Flush. -/
import Derived.Test.YtmfjhdjphnogiaaRef
import Derived.BigRegion
import Derived.Deep.RegionHeld3
namespace Go.Proofs.Ytmfjhdjphnogiaa
set_option linter.unusedVariables false
set_option linter.unusedSimpArgs false
open Go.RowKit
theorem step_append_at {ops : Array Oper} {o : Oper} {a : Act} {K : Act → World → Prop} {Q : Exit → Act → World → Prop} {E : Prop} {w : World} {t e : TypeId} {size bytes : Nat} {i : TypeInfo} {z : Value} (ht : Try.prog.underlying t = some (.slice e)) (hi : Try.prog.info? e = some i) (hz : i.zero = some z)
    (hsize : i.size = size) (hby : i.bytes = bytes) (hzs : z.cells.size = size) (hsz : 0 < size)
    {v : Value} {n : Nat} {xs : List Value} (base : Nat) (hown : w.ownsRow base e size v n xs) {b : Addr} {m c : Nat} {news : List Value} (hl : news.length = m * size) (hnews : ∀ j u, news[j]? = some u → w.cell? (b.add j) = some u) (h1 : ∀ u ∈ news, u.oneCell' = true)
    (h63 : n + m ≤ maxLen) (hbytes : ((n + m) + (n + m) / 4 + 192) * bytes ≤ 281474976710656) (hbase : base ≤ w.heap.size)
    (hgd : o.guard = none) (s x : Operand) (ho : o.op = .call { callee := .builtin .append, args := #[s, x], argTypes := #[t, t] })
    (hs : a.eval s = v) (hx : a.eval x = .slice (some b) m c)
    (h : ∀ v' w', w'.ownsRow base e size v' (n + m) (xs ++ news) → w.grownBy w' v.ownBlock → (v' = .slice none 0 0 ↔ v = .slice none 0 0 ∧ m = 0) → (∀ k, v'.ownBlock = some k → v.ownBlock = some k ∨ w.heap.size ≤ k) → K (a.put o.dst v') w') :
    if Region.wanted o (yielded ops a.tmps) = true then Oper.wp Try.prog o a w K Q else E := by
  rw [if_pos (by simp [Region.wanted, hgd])]
  obtain ⟨v', w', hr, h2, h3, h4, h5⟩ := run_append_at (P := Try.prog) w base t o.type e i z size bytes ht hi hz hsize hby hzs hsz v n xs hown b m c news hl hnews h1 h63 hbytes hbase
  unfold Oper.wp execOp
  simp only [ho, resolve, invoke, builtin, Sem.run_bind, Sem.run_pure, Result.andThen_ok, List.map_toArray, List.map_cons, List.map_nil, hs, hx, hr]
  exact h v' w' h2 h3 h4 h5
set_option maxRecDepth 100000 in
theorem rRead_any (R : Rk) (st : St) (n : Int) (w : World) (h : RefAt w R st) (hpl : st.pend.length ≤ 9000000000000) : Calls Try.prog 36 #[pt R.p, .int .i64 n] w fun e w' => e = .returned (.tuple #[.string (st.read n).1, .int .i64 (st.read n).2]) ∧ w' = w := by
  have c2 := h.c2
  have c1 := h.c1
  have c0 := h.c0
  obtain ⟨g, c, e1⟩ := h.raw.v1 h.wf.lo
  obtain ⟨av, cv, e2⟩ := h.raw.v2
  rw [e1] at c0
  rw [e2] at c1
  have EV : Hid (R.v1 = rw_ g st.safe.length c ∧ R.v2 = .slice av st.pend.length cv) := ⟨e1, e2⟩
  have H : Hid (RefAt w R st) := ⟨h⟩
  clear e1 e2 h
  by_cases ho : st.off = true
  · rw [ho] at c2
    have e1 : st.read n = (ByteArray.empty, 9) := by unfold St.read; rw [if_pos ho]
    rw [e1]
    go_enter Try.func36, Try.ntmps36
    go_wp2
    go_ret2
    exact ⟨rfl, rfl⟩
  · have ho' : st.off = false := by simpa using ho
    rw [ho'] at c2
    by_cases hn : st.has n = true
    · have hr : 0 ≤ n ∧ n < st.safe.length := by simpa [St.has] using hn
      obtain ⟨j, rfl⟩ : ∃ j : Nat, n = j := ⟨n.toNat, by omega⟩
      have hj : j < st.safe.length := by omega
      have e1 : st.read j = (st.seen.getD j ByteArray.empty, 0) := by unfold St.read; rw [if_neg ho, if_pos hn]; simp
      rw [e1]
      clear e1 hr
      obtain ⟨X, hX⟩ : ∃ X, X = st.seen.getD j ByteArray.empty := ⟨_, rfl⟩
      rw [← hX]
      have HX0 : Hid (X = st.seen.getD j ByteArray.empty) := ⟨hX⟩
      clear hX
      have hnb : (!st.has (j : Int)) = false := by rw [hn]; rfl
      go_enter Try.func36, Try.ntmps36
      go_wp2_with (go_at_call 54; refine (none_any R st _ _ H.out).mono ?_; rintro e w' ⟨rfl, hw⟩; subst w'; rw [hnb])
      go_loopw [6] (fun i wr => wr = w ∧ ∃ k : Nat, k ≤ st.pend.length ∧ i = .int .i64 ((k : Int) - 1) ∧ Hid ((lay st.safe st.pend)[j]? = (lay st.safe (st.pend.take k))[j]?)) (fun i _ => (intOf i + 1).toNat)
      case atStart => exact ⟨rfl, st.pend.length, Nat.le_refl _, by go_num, ⟨by rw [List.take_length]⟩⟩
      case round =>
        obtain ⟨hw, k, hk, rfl, HR⟩ := hrel
        subst hw
        by_cases hk0 : k = 0
        · subst hk0
          have hi : ¬ ((0 : Int) ≤ ((0 : Nat) : Int) - 1) := by omega
          have cs := (H.out.raw.safeAt EV.out.1 j hj).1
          have hx : st.seen.getD j ByteArray.empty = st.safe.getD j ByteArray.empty := by
            rw [List.getD_eq_getElem?_getD, List.getD_eq_getElem?_getD]
            show ((lay st.safe st.pend)[j]?).getD _ = _
            rw [HR.out]; rfl
          have hji : (j : Int) < st.safe.length := by omega
          have HX : Hid (X = st.safe.getD j ByteArray.empty) := ⟨HX0.out.trans hx⟩
          clear hx HX0
          generalize st.safe.getD j ByteArray.empty = x2 at *
          go_wp2
          go_ret2
          exact ⟨by rw [HX.out]; rfl, rfl⟩
        · obtain ⟨m, rfl⟩ : ∃ m, k = m + 1 := ⟨k - 1, by omega⟩
          obtain ⟨⟨N, T⟩, hp⟩ : ∃ p, st.pend[m]? = some p := ⟨_, List.getElem?_eq_getElem (show m < st.pend.length by omega)⟩
          obtain ⟨y, rfl, hy, cN, cT⟩ := H.out.raw.pendAt EV.out.2 m _ hp
          simp only at cN cT
          have em : ((m + 1 : Nat) : Int) - 1 = (m : Int) := by omega
          rw [em]
          have hm0 : (0 : Int) ≤ (m : Int) := by omega
          have hmi : (m : Int) < st.pend.length := by omega
          have hw1 : wrap64 ((m : Int) - 1) = (m : Int) - 1 := by unfold wrap64; omega
          have hst : st.pend.take (m + 1) = st.pend.take m ++ [(N, T)] := take_step _ _ _ hp
          by_cases hN : N = j
          · have hNi : ((N : Int) == (j : Int)) = true := by rw [beq_iff_eq]; omega
            have hx : st.seen.getD j ByteArray.empty = T := by
              rw [List.getD_eq_getElem?_getD]
              show ((lay st.safe st.pend)[j]?).getD _ = _
              rw [HR.out, hst, lay_snoc, hN, List.getElem?_set_self (by rw [lay_length]; exact hj)]; rfl
            have HX : Hid (X = T) := ⟨HX0.out.trans hx⟩
            clear hx hst hp HX0
            go_wp2
            go_ret2
            exact ⟨by rw [HX.out]; rfl, rfl⟩
          · have hNi : ((N : Int) == (j : Int)) = false := by rw [beq_eq_false_iff_ne]; omega
            have HR2 : Hid ((lay st.safe st.pend)[j]? = (lay st.safe (st.pend.take m))[j]?) := ⟨by rw [HR.out, hst, lay_snoc, List.getElem?_set_ne hN]⟩
            clear hst hp HR
            go_wp2
            go_roundw
            case rel => exact ⟨trivial, m, by omega, by go_num, HR2⟩
            case measure => simp [intOf]
    · have hn' : (!st.has n) = true := by simpa using hn
      have e1 : st.read n = (ByteArray.empty, 1) := by unfold St.read; rw [if_neg ho, if_neg hn]
      rw [e1]
      go_enter Try.func36, Try.ntmps36
      go_wp2_with (go_at_call 54; refine (none_any R st _ _ H.out).mono ?_; rintro e w' ⟨rfl, hw⟩; subst w'; rw [hn'])
      go_ret2
      exact ⟨rfl, rfl⟩
end Go.Proofs.Ytmfjhdjphnogiaa
