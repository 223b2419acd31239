/- Layer 22 without the model: what is printed is read. -/
import Derived.Test.YtiifkcnpdihlmaaDoorXm
namespace Go.Proofs.YtiifkcnpdihlmaaDoor
set_option maxRecDepth 100000
set_option linter.unusedVariables false
set_option linter.unusedSimpArgs false
open Go.Lib (decDigits parseUintM parseUintB parseIntB)
/-- digits -/
def isDg (c : UInt8) : Prop := 48 ≤ c.toNat ∧ c.toNat ≤ 57
theorem dd_small {u : Nat} (h : u < 10) : decDigits u = [UInt8.ofNat (48 + u)] := Lib.decDigits_one h
theorem dd_big {u : Nat} (h : ¬ u < 10) : decDigits u = decDigits (u / 10) ++ [UInt8.ofNat (48 + u % 10)] := by
  conv => lhs; rw [decDigits, dif_neg h]
theorem u8n {n : Nat} (h : n < 256) : (UInt8.ofNat n).toNat = n := by simp [UInt8.toNat_ofNat', Nat.mod_eq_of_lt h]
theorem dd_dig : ∀ (n u : Nat), u ≤ n → ∀ c ∈ decDigits u, isDg c
  | n, u, h, c, hc => by
    by_cases hu : u < 10
    · rw [dd_small hu] at hc
      rw [List.mem_singleton] at hc
      subst hc
      unfold isDg
      rw [u8n (by omega)]; omega
    · rw [dd_big hu] at hc
      rcases List.mem_append.1 hc with q | q
      · cases n with
        | zero => omega
        | succ n => exact dd_dig n (u / 10) (by omega) c q
      · rw [List.mem_singleton] at q
        subst q
        unfold isDg
        rw [u8n (by omega)]; omega
theorem dd_ne (u : Nat) : decDigits u ≠ [] := by
  by_cases hu : u < 10
  · rw [dd_small hu]; simp
  · rw [dd_big hu]; simp
def fv (l : By) (a : Nat) : Nat := l.foldl (fun n c => n * 10 + (c.toNat - 48)) a
theorem dd_val : ∀ (n u : Nat), u ≤ n → fv (decDigits u) 0 = u
  | n, u, h => by
    by_cases hu : u < 10
    · rw [dd_small hu]
      simp only [fv, List.foldl_cons, List.foldl_nil]
      rw [u8n (by omega)]; omega
    · rw [dd_big hu]
      cases n with
      | zero => omega
      | succ n =>
        have := dd_val n (u / 10) (by omega)
        unfold fv at this ⊢
        rw [List.foldl_append, this]
        simp only [List.foldl_cons, List.foldl_nil]
        rw [u8n (by omega)]; omega
theorem fv_ge : ∀ (l : By) (a : Nat), a ≤ fv l a
  | [], a => Nat.le_refl _
  | c :: l, a => by
    have := fv_ge l (a * 10 + (c.toNat - 48))
    unfold fv at this ⊢
    rw [List.foldl_cons]; omega
theorem pumM (M : Nat) (hM : M ≤ 18446744073709551615) : ∀ (l : By) (a : Nat), (∀ c ∈ l, isDg c) → fv l a ≤ M → parseUintM M a l = .ok (fv l a)
  | [], a, _, _ => rfl
  | c :: l, a, hd, hl => by
    have hc := hd c (by simp)
    have hge := fv_ge l (a * 10 + (c.toNat - 48))
    unfold fv at hl hge ⊢
    rw [List.foldl_cons] at hl ⊢
    unfold isDg at hc
    unfold parseUintM
    rw [if_pos hc, if_neg (by omega), if_neg (by omega)]
    exact pumM M hM l _ (fun x hx => hd x (by simp [hx])) hl
theorem pub_dd (u : Nat) (h : u ≤ 18446744073709551615) : parseUintB 64 (decDigits u) = .ok u := by
  unfold parseUintB
  rw [if_neg (dd_ne u), pumM _ (by decide) _ _ (dd_dig u u (Nat.le_refl _)) (by rw [dd_val u u (Nat.le_refl _)]; exact h), dd_val u u (Nat.le_refl _)]
theorem pib_itoa {n : Int} (h0 : -9223372036854775808 ≤ n) (h1 : n ≤ 9223372036854775807) : parseIntB 64 (Lib.itoa n) = .ok n := by
  have hp : (2 : Nat) ^ (64 - 1) = 9223372036854775808 := by decide
  unfold Lib.itoa
  split
  · rename_i hn
    have hu := pub_dd n.natAbs (by omega)
    unfold parseIntB
    simp only
    rw [if_pos (.inr rfl), hu]
    simp only
    rw [if_neg (by simp), if_neg (by rintro ⟨_, q⟩; omega), if_pos (by rfl)]
    congr 1
    omega
  · have hu := pub_dd n.toNat (by omega)
    have hdg := dd_dig n.toNat n.toNat (Nat.le_refl _)
    cases hl : decDigits n.toNat with
    | nil => exact absurd hl (dd_ne _)
    | cons c r =>
      rw [hl] at hu hdg
      have hc := hdg c (by simp)
      unfold isDg at hc
      unfold parseIntB
      simp only
      rw [if_neg (by omega), hu]
      simp only
      rw [if_neg (by rintro ⟨_, q⟩; omega), if_neg (by rintro ⟨q, _⟩; omega), if_neg (by omega)]
      congr 1
      omega
theorem numO_itoa {n : Int} (h0 : -9223372036854775808 ≤ n) (h1 : n ≤ 9223372036854775807) : numO (Lib.itoa n) = some n := by
  unfold numO
  rw [pib_itoa h0 h1]
  simp
theorem numO_some {w : By} {n : Int} (h : numO w = some n) : w = Lib.itoa n ∧ -9223372036854775808 ≤ n ∧ n ≤ 9223372036854775807 := by
  unfold numO at h
  cases hp : parseIntB 64 w with
  | ok v =>
    rw [hp] at h
    simp only at h
    split at h
    · rename_i hi
      injection h with h
      subst h
      have hb := Lib.parseIntB_bounds hp
      have hp : (2 : Nat) ^ (64 - 1) = 9223372036854775808 := by decide
      exact ⟨hi.symm, by omega, by omega⟩
    · simp at h
  | «syntax» => rw [hp] at h; simp at h
  | range => rw [hp] at h; simp at h
theorem itoa_mem {n : Int} {c : UInt8} (h : c ∈ Lib.itoa n) : c = 45 ∨ isDg c := by
  unfold Lib.itoa at h
  split at h
  · rcases List.mem_cons.1 h with q | q
    · exact .inl q
    · exact .inr (dd_dig _ _ (Nat.le_refl _) c q)
  · exact .inr (dd_dig _ _ (Nat.le_refl _) c h)
theorem itoa_ne (n : Int) : Lib.itoa n ≠ [] := by
  unfold Lib.itoa
  split
  · simp
  · exact dd_ne _
/-- bytes of a word that stands without quotes -/
def plainB (c : UInt8) : Prop := c ≠ 92 ∧ c ≠ 34 ∧ c ≠ 32 ∧ c ≠ 10
theorem itoa_plain {n : Int} {c : UInt8} (h : c ∈ Lib.itoa n) : plainB c := by
  unfold plainB
  rcases itoa_mem h with rfl | q
  · decide
  · unfold isDg at q
    refine ⟨?_, ?_, ?_, ?_⟩ <;> (intro e; subst e; revert q; decide)
/-- a word that is taken as one, whatever follows its blank -/
def Cl (w : By) : Prop := wsz false w = w.length ∧ ∀ r, wsz false (w ++ 32 :: r) = w.length
theorem wsz_plain : ∀ (w : By) (q : Bool) (r : By), (∀ c ∈ w, plainB c) → wsz q (w ++ r) = w.length + wsz q r
  | [], q, r, _ => by simp
  | c :: w, q, r, h => by
    obtain ⟨h1, h2, h3, _⟩ := h c (by simp)
    have ih := wsz_plain w q r (fun x hx => h x (by simp [hx]))
    rw [List.cons_append]
    conv => lhs; unfold wsz
    rw [if_neg h1, if_neg h2, if_neg (fun q => h3 q.1), ih, List.length_cons]; omega
theorem wsz_nil (q : Bool) : wsz q [] = 0 := by cases q <;> rfl
theorem wsz_blank (r : By) : wsz false (32 :: r) = 0 := by
  unfold wsz
  rw [if_neg (by decide), if_neg (by decide), if_pos ⟨rfl, rfl⟩]
theorem cl_plain {w : By} (h : ∀ c ∈ w, plainB c) : Cl w := by
  refine ⟨?_, fun r => ?_⟩
  · have := wsz_plain w false [] h
    rw [List.append_nil, wsz_nil] at this; exact this
  · rw [wsz_plain w false _ h, wsz_blank]; rfl
theorem wsz_q1 {c : UInt8} (r : By) (h1 : c ≠ 92) (h2 : c ≠ 34) : wsz true (c :: r) = 1 + wsz true r := by
  conv => lhs; unfold wsz
  rw [if_neg h1, if_neg h2, if_neg (fun q => Bool.noConfusion q.2)]
theorem wsz_esc (q : Bool) (d : UInt8) (r : By) : wsz q (92 :: d :: r) = 2 + wsz q r := by
  conv => lhs; unfold wsz
  rw [if_pos rfl]
theorem hxd_dg {n : Nat} (h : n < 16) : hxd n ≠ 92 ∧ hxd n ≠ 34 ∧ hxd n ≠ 10 ∧ hxd n ≠ 32 ∧ hxv (hxd n) = some n := by
  have : ∀ m : Fin 16, hxd m.val ≠ 92 ∧ hxd m.val ≠ 34 ∧ hxd m.val ≠ 10 ∧ hxd m.val ≠ 32 ∧ hxv (hxd m.val) = some m.val := by decide +kernel
  exact this ⟨n, h⟩
theorem wsz_qb (c : UInt8) (r : By) : wsz true (qb c ++ r) = (qb c).length + wsz true r := by
  have hc : c.toNat < 256 := c.toNat_lt
  unfold qb
  split
  · exact wsz_esc true c r
  · rename_i h1
    split
    · show wsz true (92 :: 120 :: _ :: _ :: r) = _
      have a := hxd_dg (n := c.toNat / 16) (by omega)
      have b := hxd_dg (n := c.toNat % 16) (by omega)
      rw [wsz_esc, wsz_q1 _ a.1 a.2.1, wsz_q1 _ b.1 b.2.1]
      show _ = 4 + _
      omega
    · exact wsz_q1 r (fun q => h1 (.inr q)) (fun q => h1 (.inl q))
theorem wsz_qbs : ∀ (s r : By), wsz true (s.flatMap qb ++ r) = (s.flatMap qb).length + wsz true r
  | [], r => by simp
  | c :: s, r => by
    rw [List.flatMap_cons, List.append_assoc, wsz_qb, wsz_qbs s r, List.length_append]; omega
theorem wsz_quo (s r : By) : wsz false (quo s ++ r) = (quo s).length + wsz false r := by
  unfold quo
  rw [List.cons_append]
  conv => lhs; unfold wsz
  rw [if_neg (by decide), if_pos rfl, List.append_assoc]
  show 1 + wsz true _ = _
  rw [wsz_qbs, List.cons_append, List.nil_append]
  have : wsz true (34 :: r) = 1 + wsz false r := by
    conv => lhs; unfold wsz
    rw [if_neg (by decide), if_pos rfl]; rfl
  rw [this]
  simp only [List.length_cons, List.length_append, List.length_nil]; omega
theorem cl_quo (s : By) : Cl (quo s) := by
  refine ⟨?_, fun r => ?_⟩
  · have := wsz_quo s []
    rw [List.append_nil, wsz_nil] at this; exact this
  · rw [wsz_quo, wsz_blank]; rfl
theorem cl_wtx (d : Wd) : Cl (wtx d) := by
  cases d with
  | n i => exact cl_plain fun c hc => itoa_plain hc
  | t s => exact cl_quo s
theorem wds_jn : ∀ (ws : List By) (w : By), Cl w → (∀ x ∈ ws, Cl x) → wds (w ++ jn ws) = w :: ws
  | [], w, h, _ => by
    simp only [jn, List.flatMap_nil, List.append_nil]
    exact wds_all h.1
  | x :: ws, w, h, hs => by
    have e : w ++ jn (x :: ws) = w ++ 32 :: (x ++ jn ws) := by simp [jn]
    rw [e]
    have h2 := h.2 (x ++ jn ws)
    rw [wds_cut (by rw [h2]; simp), h2]
    have h3 := wds_jn ws x (hs x (by simp)) (fun y hy => hs y (by simp [hy]))
    rw [List.take_left' rfl, List.drop_append, List.drop_of_length_le (by omega), show w.length + 1 - w.length = 1 by omega]
    simp only [List.nil_append, List.drop_succ_cons, List.drop_zero]
    rw [h3]
/-- what is in quotes is read -/
theorem dec_qb (c : UInt8) (r : By) : decF (qb c ++ r) = (decF r).map (c :: ·) := by
  have hc : c.toNat < 256 := c.toNat_lt
  unfold qb
  split
  · rename_i h
    show decF (92 :: c :: r) = _
    conv => lhs; unfold decF
    rw [if_neg (by decide), if_neg (by decide)]
    simp only
    rw [if_pos h]
  · rename_i h1
    split
    · show decF (92 :: 120 :: _ :: _ :: r) = _
      have a := hxd_dg (n := c.toNat / 16) (by omega)
      have b := hxd_dg (n := c.toNat % 16) (by omega)
      conv => lhs; unfold decF
      rw [if_neg (by decide), if_neg (by decide)]
      simp only
      rw [if_neg (by decide), if_pos ⟨trivial, by rw [a.2.2.2.2]; rfl, by rw [b.2.2.2.2]; rfl⟩, a.2.2.2.2, b.2.2.2.2]
      simp only [Option.getD_some]
      rw [show 16 * (c.toNat / 16) + c.toNat % 16 = c.toNat by omega]
      simp
    · rename_i h2
      show decF (c :: r) = _
      conv => lhs; unfold decF
      rw [if_neg (by rintro (q | q | q); exact h2 (.inl q); exact h2 (.inr q); exact h1 (.inl q)), if_pos (fun q => h1 (.inr q))]
theorem dec_qbs : ∀ (s : By), decF (s.flatMap qb) = some s
  | [] => rfl
  | c :: s => by rw [List.flatMap_cons, dec_qb, dec_qbs s]; rfl
theorem txtO_of {m : By} : txtO (34 :: (m ++ [34])) = decF m := by
  unfold txtO
  rw [if_pos ⟨by simp, by simp, by rw [← List.cons_append, List.getLast?_append]; simp⟩]
  simp
theorem txtO_quo (s : By) : txtO (quo s) = some s := by
  unfold quo
  rw [txtO_of, dec_qbs]
end Go.Proofs.YtiifkcnpdihlmaaDoor
