/- takeOwnPairs. -/
import Derived.Test.YthbdaadhcheggaaGg
namespace Go.Proofs.Ythbdaadhcheggaa
set_option linter.unusedVariables false
set_option linter.unusedSimpArgs false
open Go.RowKit
attribute [local go_sem ↓] Go.wp_at_zero Go.wp_at_succ
attribute [local go_sem ↓] slPe
theorem Tk.get {w0 w : World} {a : Option Addr} {c : Nat} {R : List Rv} {k : Nat} (h : Tk w0 w (.slice a R.length c) R k) {r : Rv} (hr : R[k]? = some r) :
    ∃ g, a = some ⟨g, 0, none⟩ ∧ g < w.heap.size ∧ w0.heap.size ≤ g ∧ (w.cell? ⟨g, k * 5, none⟩ = some (str r.v.key) ∧ w.cell? ⟨g, k * 5 + 1, none⟩ = some (.int .i64 r.v.seq) ∧ w.cell? ⟨g, k * 5 + 2, none⟩ = some (.bool r.v.mkr) ∧ w.cell? ⟨g, k * 5 + 3, none⟩ = some (str r.v.data) ∧ w.cell? ⟨g, k * 5 + 4, none⟩ = some (.slice r.a r.v.l.length r.c)) ∧ ∀ j, w.frozen? ⟨g, j, none⟩ = false := by
  have hk := (List.getElem?_eq_some_iff.1 hr).1
  rcases h.own.2 with ⟨e, h0⟩ | ⟨g, cap, cur, e, h2, h3, h4, h5, h6, h7⟩
  · omega
  · injection e with e1 e2 e3
    subst e1 e3
    have hp : (rcells R).length = R.length * 5 := rcells_length R
    have hx : ∀ j, j < 5 → w.cell? ⟨g, k * 5 + j, none⟩ = (rcs r)[j]? := fun j hj => by rw [h.own.cellAt _ (by omega), rcells_get hr j hj]
    exact ⟨g, rfl, (h.own.lt g rfl).2, h2, ⟨hx 0 (by omega), hx 1 (by omega), hx 2 (by omega), hx 3 (by omega), hx 4 (by omega)⟩, fun j => frozen_of_row _ _ _ _ _ h3⟩
set_option maxRecDepth 100000 in
set_option maxHeartbeats 4000000 in
theorem takeOwn_any (w0 : World) (R : List Rv) (w : World) (v : Value) (h : Ro w0.heap.size w v R) (hb : Below w0.heap.size w0 w) (hs : Sh w0 R) (hl : R.length ≤ 1954687338260) :
    Calls Try.prog 24 #[v] w fun e w' => e = .returned (.tuple #[]) ∧ Cp w0.heap.size w' v (R.map (·.v)) ∧ Below w0.heap.size w0 w' := by
  have T0 := Hid.mk (Tk.start h hb hs)
  obtain ⟨a, c, rfl⟩ := h.sl
  clear h hb hs
  have HM : Hid (R.map (·.v) = R.map (·.v)) := ⟨rfl⟩
  obtain ⟨n, hn⟩ : ∃ n, n = R.length := ⟨_, rfl⟩
  obtain ⟨L, hL⟩ : ∃ L, L = R.map (·.v) := ⟨_, rfl⟩
  rw [← hL]
  rw [← hn] at T0 hl ⊢
  have HN := Hid.mk hn
  have HL := Hid.mk hL
  clear hn hL
  go_enter Try.func24, Try.ntmps24
  go_wp2_with fail
  go_loopw [6] (fun i wr => ∃ (k : Nat) (R' : List Rv), k ≤ n ∧ i = .int .i64 (k : Int) ∧ Hid (n = R'.length ∧ L = R'.map (·.v) ∧ Tk w0 wr (.slice a n c) R' k)) (fun i _ => n - (intOf i).toNat)
  case atStart => exact ⟨0, R, Nat.zero_le _, rfl, ⟨HN.out, HL.out, T0.out⟩⟩
  case round =>
    clear T0 HN HL HM
    obtain ⟨k, R', hk, rfl, HT⟩ := hrel
    by_cases hlt : k < n
    · have d1 : decide ((k : Int) < (n : Int)) = true := decide_eq_true (Int.ofNat_lt.2 hlt)
      have k2 : (k : Int) < (n : Int) := Int.ofNat_lt.2 hlt
      have hw1 : wrap64 ((k : Int) + 1) = ((k + 1 : Nat) : Int) := by unfold wrap64; omega
      obtain ⟨u, hu⟩ : ∃ u, R'[k]? = some u := ⟨R'[k]'(by rw [← HT.out.1]; exact hlt), List.getElem?_eq_getElem _⟩
      have hTk := HT.out.2.2
      have hnn := HT.out.1
      rw [hnn] at hTk
      obtain ⟨g, rfl, hgl, hg0, ⟨c0, c1, c2, c3, c4⟩, hfr⟩ := hTk.get hu
      rw [← hnn] at hTk
      have hsh := hTk.sh k u (Nat.le_refl _) hu
      have bx := (Below.refl wr.heap.size wr).alloc (Nat.le_refl _) (.cells #[str u.v.key, .int .i64 u.v.seq, .bool u.v.mkr, str u.v.data, .slice u.a u.v.l.length u.c] 41)
      have z1 := Bv.new wr (str u.v.key) (.int .i64 u.v.seq) (.bool u.v.mkr) (str u.v.data) (.slice u.a u.v.l.length u.c)
      obtain ⟨y0, y1, y2, y3, y4, _⟩ := z1.cells
      have hS1 := (hsh.1.later hTk.b).later bx
      have hlen := hsh.2
      have HX : Hid (∀ a5 c5 w3, Ow (wr.heap.size + 1) w3 (.slice a5 u.v.l.length c5) u.v.l → Below (wr.heap.size + 1) (wr.alloc (.cells #[str u.v.key, .int .i64 u.v.seq, .bool u.v.mkr, str u.v.data, .slice u.a u.v.l.length u.c] 41)) w3 → (w3.cell? ⟨g, k * 5 + 4, none⟩ = some (.slice u.a u.v.l.length u.c) ∧ w3.frozen? ⟨g, k * 5 + 4, none⟩ = false) ∧ (n = (R'.set k ⟨u.v, [], a5, c5⟩).length ∧ L = (R'.set k ⟨u.v, [], a5, c5⟩).map (·.v) ∧ Tk w0 (w3.setCell ⟨g, k * 5 + 4, none⟩ (.slice a5 u.v.l.length c5)) (.slice (some ⟨g, 0, none⟩) n c) (R'.set k ⟨u.v, [], a5, c5⟩) (k + 1))) := ⟨fun a5 c5 w3 o3 b3 => by
        have hb3 : Below wr.heap.size wr w3 := bx.trans (b3.mono (by omega))
        refine ⟨⟨(hb3.cell (p := ⟨g, _, none⟩) hgl).trans c4, ?_⟩, by rw [List.length_set]; exact hnn, by rw [map_setX hu]; exact HT.out.2.1, hTk.step hnn hu hb3 (o3.base (by omega))⟩
        rw [World.frozen?_of_block (w := wr) (hb3.block g hgl)]
        exact hfr _⟩
      clear HT hTk hu hnn hsh hfr hl
      go_wp2_with (refine app_sliceB rfl _ _ rfl u.v.l (Ow.nil _ (wr.heap.size + 1) (by simp)) hS1 rfl (by simp; omega) rfl rfl ?_; intro v3 w3 o3 b3; rw [List.nil_append] at o3; obtain ⟨a5, c5, rfl, s3⟩ := o3.sl; obtain ⟨⟨x4, f4⟩, HF0⟩ := HX.out a5 c5 w3 o3 b3; have HF := Hid.mk HF0; clear HF0)
      exact ⟨⟨k + 1, _, hlt, by first | (rw [hw1]; done) | go_num, HF⟩, by first | (rw [hw1]; exact lss_meas hlt) | (simp [intOf]; omega)⟩
    · obtain rfl : k = n := Nat.le_antisymm hk (Nat.le_of_not_lt hlt)
      have d1 : decide ((k : Int) < (k : Int)) = false := decide_eq_false (fun q => Int.lt_irrefl _ q)
      go_wp2_with fail
      go_end0
      have hT := HT.out.2.2
      have hq := HT.out.1
      exact ⟨rfl, by rw [HT.out.2.1]; rw [hq] at hT ⊢; exact hT.cp, hT.b⟩
end Go.Proofs.Ythbdaadhcheggaa
