import Derived.Test.YtcmmbdcflblekaaGreatDoorGf
/- A version's bytes: written, taken apart (no model). -/
namespace Go.Proofs.YtcmmbdcflblekaaGreatDoor
set_option maxRecDepth 100000
set_option linter.unusedVariables false
set_option linter.unusedSimpArgs false
/-- a number of so many bytes -/
def be (w n : Nat) : List UInt8 := (List.range w).map fun i => UInt8.ofNat (n / 256 ^ (w - 1 - i))
/-- the number of bytes -/
def vl (s : List UInt8) : Nat := s.foldl (fun n c => n * 256 + c.toNat) 0
theorem be_len (w n : Nat) : (be w n).length = w := by simp [be]
theorem be_get {w n i : Nat} (h : i < w) : (be w n)[i]? = some (UInt8.ofNat (n / 256 ^ (w - 1 - i))) := by
  unfold be
  rw [List.getElem?_map, List.getElem?_range h]; rfl
theorem be_take {w n i : Nat} (h : i < w) : (be w n).take (i + 1) = (be w n).take i ++ [UInt8.ofNat (n / 256 ^ (w - 1 - i))] := by
  rw [List.take_add_one, be_get h]; rfl
theorem be_all (w n : Nat) : (be w n).take w = be w n := by rw [List.take_of_length_le (by rw [be_len]; omega)]
theorem vl_nil : vl [] = 0 := rfl
theorem vl_snoc (s : List UInt8) (c : UInt8) : vl (s ++ [c]) = vl s * 256 + c.toNat := by simp [vl]
theorem vl_one (c : UInt8) : vl [c] = c.toNat := by simp [vl]
theorem snoc_ind {α : Type} {P : List α → Prop} (h0 : P []) (h1 : ∀ s c, P s → P (s ++ [c])) (s : List α) : P s := by
  rw [← List.reverse_reverse s]
  induction s.reverse with
  | nil => exact h0
  | cons c r ih => rw [List.reverse_cons]; exact h1 _ _ ih
theorem vl_lt (s : List UInt8) : vl s < 256 ^ s.length := by
  refine snoc_ind (P := fun s => vl s < 256 ^ s.length) (by simp [vl]) (fun s c ih => ?_) s
  have hc := c.toNat_lt
  rw [vl_snoc, List.length_append, List.length_singleton, Nat.pow_succ]
  omega
theorem be_snoc (w n : Nat) (c : Nat) (hc : c < 256) : be (w + 1) (n * 256 + c) = be w n ++ [UInt8.ofNat c] := by
  unfold be
  rw [List.range_succ, List.map_append]
  congr 1
  · apply List.map_congr_left
    intro i hi
    rw [List.mem_range] at hi
    congr 1
    rw [show w + 1 - 1 - i = (w - 1 - i) + 1 by omega, Nat.pow_succ, Nat.mul_comm (256 ^ _) 256, ← Nat.div_div_eq_div_mul]
    congr 1
    omega
  · simp only [List.map_cons, List.map_nil]
    rw [show w + 1 - 1 - w = 0 by omega, Nat.pow_zero, Nat.div_one]
    congr 1
    apply UInt8.toNat.inj
    simp
theorem be_vl (s : List UInt8) : be s.length (vl s) = s := by
  refine snoc_ind (P := fun s => be s.length (vl s) = s) (by simp [be]) (fun s c ih => ?_) s
  rw [vl_snoc, List.length_append, List.length_singleton, be_snoc _ _ _ c.toNat_lt, ih]
  simp
theorem vl_be (w n : Nat) (h : n < 256 ^ w) : vl (be w n) = n := by
  induction w generalizing n with
  | zero => simp at h; subst h; rfl
  | succ w ih =>
    have e : n = n / 256 * 256 + n % 256 := by omega
    have hl : n % 256 < 256 := Nat.mod_lt _ (by omega)
    have h2 : n / 256 < 256 ^ w := by
      rw [Nat.pow_succ] at h
      omega
    conv => lhs; rw [e]
    rw [be_snoc _ _ _ hl, vl_snoc, ih _ h2, UInt8.toNat_ofNat_of_lt' hl]
    exact e.symm
/-- a text behind its length -/
def sh (s : List UInt8) : List UInt8 := UInt8.ofNat s.length :: s
def pe (p : En) : List UInt8 := sh p.key ++ sh p.val
def pes (l : List En) : List UInt8 := (l.map pe).flatten
theorem pes_take {l : List En} {k : Nat} {p : En} (h : l[k]? = some p) : pes (l.take (k + 1)) = pes (l.take k) ++ pe p := by
  rw [take_succ' h]; simp [pes]
structure Vs where
  key : List UInt8
  seq : Int
  mkr : Bool
  data : List UInt8
  l : List En
def hd (k : UInt8) (v : Vs) : List UInt8 := k :: (be 8 v.seq.toNat ++ sh v.key)
def enc (v : Vs) : List UInt8 := if v.mkr = true then hd 1 v else hd 0 v ++ (be 2 v.data.length ++ v.data) ++ (UInt8.ofNat v.l.length :: pes v.l)
theorem enc_mk {v : Vs} (h : v.mkr = true) : enc v = hd 1 v := by unfold enc; rw [if_pos h]
theorem enc_ob {v : Vs} (h : v.mkr = false) : enc v = hd 0 v ++ (be 2 v.data.length ++ v.data) ++ (UInt8.ofNat v.l.length :: pes v.l) := by unfold enc; rw [if_neg (by rw [h]; decide)]
theorem enc_ob' (key : List UInt8) (seq : Int) (data : List UInt8) (l : List En) : enc ⟨key, seq, false, data, l⟩ = hd 0 ⟨key, seq, false, data, l⟩ ++ (be 2 data.length ++ data) ++ (UInt8.ofNat l.length :: pes l) := enc_ob rfl
/-- what is wrong with a version -/
noncomputable def rtE (v : Vs) : Int := by
  classical exact if v.seq < 1 ∨ 1099511627776 < v.seq then 1 else vrE v.key v.mkr v.data v.l
structure Rt (v : Vs) : Prop where
  s1 : 1 ≤ v.seq
  s2 : v.seq ≤ 1099511627776
  k1 : 1 ≤ v.key.length
  k2 : v.key.length ≤ 32
  d : v.data.length ≤ 1024
  m : v.mkr = true → v.data = [] ∧ v.l = []
  n : v.l.length ≤ 8
  p : ∀ (k : Nat) (e : En), v.l[k]? = some e → e.key.length ≤ 16 ∧ e.val.length ≤ 64
theorem prb_len {p : En} (h : prb p = true) : p.key.length ≤ 16 ∧ p.val.length ≤ 64 := by
  unfold prb smN at h
  simp at h
  omega
theorem rt_of {v : Vs} (h : rtE v = 0) : Rt v := by
  unfold rtE at h
  split at h
  · omega
  · next hs =>
    unfold vrE at h
    split at h
    · omega
    · next hk =>
      split at h
      · omega
      · next hd =>
        split at h
        · omega
        · next hm =>
          have hk' : keyE v.key = 0 := Classical.byContradiction hk
          have hd1 : ¬ (v.mkr = true ∧ ¬ v.data = []) := fun q => hd (.inl q)
          have hd2 : datE v.data = 0 := Classical.byContradiction fun q => hd (.inr q)
          unfold keyE at hk'
          unfold datE at hd2
          unfold mtE at h
          split at hk'
          · split at hd2
            · split at h
              · next a b c =>
                refine ⟨by omega, by omega, a.1, a.2, b, fun q => ⟨?_, ?_⟩, c.1, fun k e he => prb_len (c.2.1 e (List.mem_of_getElem? he))⟩
                · exact Classical.byContradiction fun z => hd1 ⟨q, z⟩
                · exact List.eq_nil_of_length_eq_zero (by have : ¬ 1 ≤ v.l.length := fun z => hm ⟨q, z⟩
                                                          omega)
              · omega
            · omega
          · omega
def tv (n : Nat) (r : List UInt8) : List UInt8 := if n ≤ r.length then r.take n else []
def tr (n : Nat) (r : List UInt8) : List UInt8 := if n ≤ r.length then r.drop n else r
def tb (n : Nat) (r : List UInt8) (b : Bool) : Bool := if n ≤ r.length then b else true
def xv (w : Nat) (r : List UInt8) : List UInt8 := tv (vl (tv w r)) (tr w r)
def xr (w : Nat) (r : List UInt8) : List UInt8 := tr (vl (tv w r)) (tr w r)
def xb (w : Nat) (r : List UInt8) (b : Bool) : Bool := tb (vl (tv w r)) (tr w r) (tb w r b)
theorem tv_len (n : Nat) (r : List UInt8) : (tv n r).length ≤ n := by unfold tv; split <;> simp <;> omega
theorem tv_len2 (n : Nat) (r : List UInt8) : (tv n r).length ≤ r.length := by unfold tv; split <;> simp <;> omega
theorem tr_len (n : Nat) (r : List UInt8) : (tr n r).length ≤ r.length := by unfold tr; split <;> simp
theorem tb_f {n : Nat} {r : List UInt8} {b : Bool} (h : tb n r b = false) : n ≤ r.length ∧ b = false := by
  unfold tb at h
  split at h
  · exact ⟨by assumption, h⟩
  · cases h
theorem tb_t {n : Nat} {r : List UInt8} (h : n ≤ r.length) (b : Bool) : tb n r b = b := by unfold tb; rw [if_pos h]
theorem tk_eq {n : Nat} {r : List UInt8} (h : n ≤ r.length) : tv n r ++ tr n r = r ∧ (tv n r).length = n := by
  unfold tv tr
  rw [if_pos h, if_pos h]
  exact ⟨List.take_append_drop _ _, by simp; omega⟩
theorem tk_app (a z : List UInt8) : tv a.length (a ++ z) = a ∧ tr a.length (a ++ z) = z ∧ ∀ b, tb a.length (a ++ z) b = b := by
  have h : a.length ≤ (a ++ z).length := by simp
  refine ⟨by unfold tv; rw [if_pos h]; simp, by unfold tr; rw [if_pos h]; simp, fun b => tb_t h b⟩
theorem tk_of {n : Nat} {a z : List UInt8} (h : a.length = n) : tv n (a ++ z) = a ∧ tr n (a ++ z) = z ∧ ∀ b, tb n (a ++ z) b = b := by subst h; exact tk_app a z
theorem vl_small {w : Nat} (r : List UInt8) : vl (tv w r) < 256 ^ w := Nat.lt_of_lt_of_le (vl_lt _) (Nat.pow_le_pow_right (by omega) (tv_len w r))
/-- a text that was taken -/
theorem x_eq {w : Nat} {r : List UInt8} {b : Bool} (h : xb w r b = false) : b = false ∧ be w (xv w r).length ++ xv w r ++ xr w r = r := by
  obtain ⟨h1, h2⟩ := tb_f h
  obtain ⟨h3, h4⟩ := tb_f h2
  obtain ⟨e1, l1⟩ := tk_eq h3
  obtain ⟨e2, l2⟩ := tk_eq h1
  refine ⟨h4, ?_⟩
  have e3 : (xv w r).length = vl (tv w r) := l2
  have e4 := be_vl (tv w r)
  rw [l1] at e4
  rw [e3, e4, List.append_assoc]
  show _ ++ (tv (vl (tv w r)) (tr w r) ++ tr (vl (tv w r)) (tr w r)) = r
  rw [e2, e1]
theorem x_app (w : Nat) (s z : List UInt8) (h : s.length < 256 ^ w) : xv w (be w s.length ++ s ++ z) = s ∧ xr w (be w s.length ++ s ++ z) = z ∧ ∀ b, xb w (be w s.length ++ s ++ z) b = b := by
  rw [List.append_assoc]
  obtain ⟨e1, e2, e3⟩ := tk_of (z := s ++ z) (be_len w s.length)
  have e4 := vl_be w s.length h
  obtain ⟨f1, f2, f3⟩ := tk_app s z
  refine ⟨?_, ?_, fun b => ?_⟩
  · unfold xv; rw [e1, e2, e4, f1]
  · unfold xr; rw [e1, e2, e4, f2]
  · unfold xb; rw [e1, e2, e3, e4, f3]
theorem be_one (n : Nat) : be 1 n = [UInt8.ofNat n] := by simp [be]
theorem sh_be (s : List UInt8) : sh s = be 1 s.length ++ s := by rw [be_one]; rfl
theorem xs_app (s z : List UInt8) (h : s.length < 256) : xv 1 (sh s ++ z) = s ∧ xr 1 (sh s ++ z) = z ∧ ∀ b, xb 1 (sh s ++ z) b = b := by
  rw [sh_be]; exact x_app 1 s z (by omega)
theorem xs_eq {r : List UInt8} {b : Bool} (h : xb 1 r b = false) : b = false ∧ sh (xv 1 r) ++ xr 1 r = r := by
  obtain ⟨h1, h2⟩ := x_eq h
  exact ⟨h1, by rw [sh_be]; exact h2⟩
theorem xv_len (w : Nat) (r : List UInt8) : (xv w r).length < 256 ^ w := Nat.lt_of_le_of_lt (tv_len _ _) (vl_small r)
theorem xr_len (w : Nat) (r : List UInt8) : (xr w r).length ≤ r.length := Nat.le_trans (tr_len _ _) (tr_len _ _)
/-- pairs -/
def psR : Nat → List UInt8 → List UInt8
  | 0, r => r
  | k + 1, r => xr 1 (xr 1 (psR k r))
def psL : Nat → List UInt8 → List En
  | 0, _ => []
  | k + 1, r => psL k r ++ [⟨xv 1 (psR k r), xv 1 (xr 1 (psR k r))⟩]
def psB : Nat → List UInt8 → Bool → Bool
  | 0, _, b => b
  | k + 1, r, b => xb 1 (xr 1 (psR k r)) (xb 1 (psR k r) (psB k r b))
theorem psL_len (k : Nat) (r : List UInt8) : (psL k r).length = k := by
  induction k with
  | zero => rfl
  | succ k ih => simp [psL, ih]
theorem psR_len (k : Nat) (r : List UInt8) : (psR k r).length ≤ r.length := by
  induction k with
  | zero => exact Nat.le_refl _
  | succ k ih => exact Nat.le_trans (xr_len _ _) (Nat.le_trans (xr_len _ _) ih)
theorem psL_small (k : Nat) (r : List UInt8) : ∀ e ∈ psL k r, e.key.length < 256 ∧ e.val.length < 256 := by
  induction k with
  | zero => intro e he; cases he
  | succ k ih =>
    intro e he
    rw [psL, List.mem_append] at he
    rcases he with he | he
    · exact ih e he
    · simp only [List.mem_singleton] at he
      subst he
      exact ⟨by simpa using xv_len 1 _, by simpa using xv_len 1 _⟩
theorem ps_eq {k : Nat} {r : List UInt8} {b : Bool} (h : psB k r b = false) : b = false ∧ pes (psL k r) ++ psR k r = r := by
  induction k with
  | zero => exact ⟨h, rfl⟩
  | succ k ih =>
    obtain ⟨h1, e1⟩ := xs_eq h
    obtain ⟨h2, e2⟩ := xs_eq h1
    obtain ⟨h3, e3⟩ := ih h2
    refine ⟨h3, ?_⟩
    rw [psL, psR, pes, List.map_append, List.flatten_append]
    show pes (psL k r) ++ _ ++ _ = r
    simp only [List.map_cons, List.map_nil, List.flatten_cons, List.flatten_nil, List.append_nil, pe]
    rw [List.append_assoc, List.append_assoc, e1, e2, e3]
theorem ps_app (l : List En) (z : List UInt8) (h : ∀ (k : Nat) (e : En), l[k]? = some e → e.key.length < 256 ∧ e.val.length < 256) (k : Nat) (hk : k ≤ l.length) :
    psL k (pes l ++ z) = l.take k ∧ psR k (pes l ++ z) = pes (l.drop k) ++ z ∧ ∀ b, psB k (pes l ++ z) b = b := by
  induction k with
  | zero => exact ⟨rfl, rfl, fun b => rfl⟩
  | succ k ih =>
    obtain ⟨h1, h2, h3⟩ := ih (by omega)
    obtain ⟨p, hp⟩ : ∃ p, l[k]? = some p := ⟨l[k], List.getElem?_eq_getElem (by omega)⟩
    have e : pes (l.drop k) ++ z = sh p.key ++ (sh p.val ++ (pes (l.drop (k + 1)) ++ z)) := by
      have : l.drop k = p :: l.drop (k + 1) := by
        rw [List.drop_eq_getElem_cons (by omega)]
        congr 1
        rw [List.getElem?_eq_getElem (by omega)] at hp
        injection hp
      rw [this]
      simp [pes, pe]
    obtain ⟨s1, s2⟩ := h k p hp
    obtain ⟨a1, a2, a3⟩ := xs_app p.key (sh p.val ++ (pes (l.drop (k + 1)) ++ z)) s1
    obtain ⟨b1, b2, b3⟩ := xs_app p.val (pes (l.drop (k + 1)) ++ z) s2
    refine ⟨?_, ?_, fun b => ?_⟩
    · rw [psL, h1, h2, e, a1, a2, b1, take_succ' hp]
    · rw [psR, h2, e, a2, b2]
    · rw [psB, h2, h3, e, a2, a3, b3]
/-- what a text is taken for -/
def kd (b : List UInt8) : Nat := vl (tv 1 b)
def r1 (b : List UInt8) : List UInt8 := tr 1 b
def b1 (b : List UInt8) : Bool := tb 1 b false
def sq (b : List UInt8) : Nat := vl (tv 8 (r1 b))
def r2 (b : List UInt8) : List UInt8 := tr 8 (r1 b)
def ky (b : List UInt8) : List UInt8 := xv 1 (r2 b)
def r3 (b : List UInt8) : List UInt8 := xr 1 (r2 b)
def b3 (b : List UInt8) (q : Bool) : Bool := xb 1 (r2 b) (tb 8 (r1 b) q)
def da (b : List UInt8) : List UInt8 := xv 2 (r3 b)
def r4 (b : List UInt8) : List UInt8 := xr 2 (r3 b)
def b4 (b : List UInt8) (q : Bool) : Bool := xb 2 (r3 b) (b3 b q)
def cn (b : List UInt8) : Nat := vl (tv 1 (r4 b))
def r5 (b : List UInt8) : List UInt8 := tr 1 (r4 b)
def b5 (b : List UInt8) (q : Bool) : Bool := tb 1 (r4 b) (b4 b q)
def sgn (n : Nat) : Int := if n < 9223372036854775808 then (n : Int) else (n : Int) - 18446744073709551616
noncomputable def pV (b : List UInt8) : Vs := if kd b = 1 then ⟨ky b, sgn (sq b), true, [], []⟩ else ⟨ky b, sgn (sq b), false, da b, psL (cn b) (r5 b)⟩
noncomputable def pR (b : List UInt8) : List UInt8 := if kd b = 1 then r3 b else psR (cn b) (r5 b)
noncomputable def pB (b : List UInt8) (q : Bool) : Bool := if kd b = 1 then b3 b q else psB (cn b) (r5 b) (b5 b q)
theorem ofNat_toNat (c : UInt8) : UInt8.ofNat c.toNat = c := by simp
/-- one byte -/
theorem t1_eq {r : List UInt8} (h : 1 ≤ r.length) : UInt8.ofNat (vl (tv 1 r)) :: tr 1 r = r := by
  obtain ⟨e, l⟩ := tk_eq h
  have := be_vl (tv 1 r)
  rw [l, be_one] at this
  rw [show UInt8.ofNat (vl (tv 1 r)) :: tr 1 r = [UInt8.ofNat (vl (tv 1 r))] ++ tr 1 r from rfl, this, e]
theorem t1_app (c : UInt8) (z : List UInt8) : vl (tv 1 (c :: z)) = c.toNat ∧ tr 1 (c :: z) = z ∧ ∀ b, tb 1 (c :: z) b = b := by
  obtain ⟨e1, e2, e3⟩ := tk_of (a := [c]) (z := z) (n := 1) rfl
  refine ⟨?_, e2, e3⟩
  rw [show c :: z = [c] ++ z from rfl, e1, vl_one]
theorem head_eq {b : List UInt8} {q : Bool} (h : b3 b q = false) (h1 : b1 b = false) (hs : 1 ≤ sgn (sq b)) (k : UInt8) (hk : UInt8.ofNat (kd b) = k) (d : List UInt8) (l : List En) (mk : Bool) : q = false ∧ hd k ⟨ky b, sgn (sq b), mk, d, l⟩ ++ r3 b = b := by
  obtain ⟨h2, e2⟩ := xs_eq h
  obtain ⟨h3, h4⟩ := tb_f h2
  obtain ⟨h5, _⟩ := tb_f h1
  obtain ⟨e3, l3⟩ := tk_eq h3
  have e4 := t1_eq h5
  have e5 := be_vl (tv 8 (r1 b))
  rw [l3] at e5
  have e6 : (sgn (sq b)).toNat = vl (tv 8 (r1 b)) := by
    have hl := vl_small (w := 8) (r1 b)
    rw [show (256 : Nat) ^ 8 = 18446744073709551616 by decide] at hl
    unfold sgn at hs ⊢
    split at hs <;> rename_i hq
    · rw [if_pos hq, Int.toNat_natCast]; rfl
    · exfalso
      have hq2 : sq b < 18446744073709551616 := hl
      omega
  refine ⟨h4, ?_⟩
  unfold hd
  show k :: (be 8 (sgn (sq b)).toNat ++ sh (ky b)) ++ r3 b = b
  rw [e6, e5, List.cons_append, List.append_assoc]
  show k :: (tv 8 (r1 b) ++ (sh (xv 1 (r2 b)) ++ xr 1 (r2 b))) = b
  rw [e2]
  show k :: (tv 8 (r1 b) ++ tr 8 (r1 b)) = b
  rw [e3, ← hk]
  exact e4
theorem read_eq {b : List UInt8} (hb : pB b (b1 b || decide (2 ≤ kd b)) = false) (hr : pR b = []) (hv : rtE (pV b) = 0) : enc (pV b) = b := by
  have R := rt_of hv
  by_cases hk : kd b = 1
  · have eV : pV b = ⟨ky b, sgn (sq b), true, [], []⟩ := by unfold pV; rw [if_pos hk]
    have eR : pR b = r3 b := by unfold pR; rw [if_pos hk]
    have eB : pB b (b1 b || decide (2 ≤ kd b)) = b3 b (b1 b || decide (2 ≤ kd b)) := by unfold pB; rw [if_pos hk]
    rw [eB] at hb
    rw [eR] at hr
    rw [eV] at R ⊢
    have q0 : (b1 b || decide (2 ≤ kd b)) = false := (tb_f (xs_eq hb).1).2
    simp only [Bool.or_eq_false_iff] at q0
    obtain ⟨_, e⟩ := head_eq hb q0.1 R.s1 1 (by rw [hk]; rfl) [] [] true
    rw [hr, List.append_nil] at e
    rw [enc_mk rfl]
    exact e
  · have eV : pV b = ⟨ky b, sgn (sq b), false, da b, psL (cn b) (r5 b)⟩ := by unfold pV; rw [if_neg hk]
    have eR : pR b = psR (cn b) (r5 b) := by unfold pR; rw [if_neg hk]
    have eB : pB b (b1 b || decide (2 ≤ kd b)) = psB (cn b) (r5 b) (b5 b (b1 b || decide (2 ≤ kd b))) := by unfold pB; rw [if_neg hk]
    rw [eB] at hb
    rw [eR] at hr
    rw [eV] at R ⊢
    obtain ⟨p5, e5⟩ := ps_eq hb
    obtain ⟨t5, p4⟩ := tb_f p5
    obtain ⟨p3, e4⟩ := x_eq p4
    have q0 : (b1 b || decide (2 ≤ kd b)) = false := (tb_f (xs_eq p3).1).2
    simp only [Bool.or_eq_false_iff, decide_eq_false_iff_not] at q0
    have hk0 : kd b = 0 := by omega
    obtain ⟨_, e⟩ := head_eq p3 q0.1 R.s1 0 (by rw [hk0]; rfl) (da b) (psL (cn b) (r5 b)) false
    rw [hr, List.append_nil] at e5
    have e6 := t1_eq t5
    have e6' : UInt8.ofNat (cn b) :: r5 b = r4 b := e6
    have e4' : be 2 (da b).length ++ da b ++ r4 b = r3 b := e4
    rw [enc_ob', psL_len, e5]
    generalize hd 0 ⟨ky b, sgn (sq b), false, da b, psL (cn b) (r5 b)⟩ = X at *
    rw [e6', List.append_assoc, e4']
    exact e
theorem head_app (k : UInt8) (v : Vs) (z : List UInt8) (R : Rt v) : kd (hd k v ++ z) = k.toNat ∧ b1 (hd k v ++ z) = false ∧ sgn (sq (hd k v ++ z)) = v.seq ∧ ky (hd k v ++ z) = v.key ∧ r3 (hd k v ++ z) = z ∧ ∀ q, b3 (hd k v ++ z) q = q := by
  have s1 := R.s1
  have s2 := R.s2
  have k2 := R.k2
  have e : hd k v ++ z = k :: (be 8 v.seq.toNat ++ (sh v.key ++ z)) := by unfold hd; simp
  obtain ⟨a1, a2, a3⟩ := t1_app k (be 8 v.seq.toNat ++ (sh v.key ++ z))
  rw [← e] at a1 a2 a3
  obtain ⟨c1, c2, c3⟩ := tk_of (z := sh v.key ++ z) (be_len 8 v.seq.toNat)
  obtain ⟨d1, d2, d3⟩ := xs_app v.key z (by omega)
  have x1 : r1 (hd k v ++ z) = be 8 v.seq.toNat ++ (sh v.key ++ z) := a2
  have x2 : r2 (hd k v ++ z) = sh v.key ++ z := by unfold r2; rw [x1]; exact c2
  have x3 : sq (hd k v ++ z) = v.seq.toNat := by
    unfold sq
    rw [x1, c1]
    exact vl_be 8 _ (by rw [show (256 : Nat) ^ 8 = 18446744073709551616 by decide]; omega)
  refine ⟨a1, a3 false, ?_, ?_, ?_, fun q => ?_⟩
  · rw [x3]; unfold sgn; rw [if_pos (by omega)]; omega
  · unfold ky; rw [x2]; exact d1
  · unfold r3; rw [x2]; exact d2
  · unfold b3; rw [x1, c3, x2]; exact d3 q
theorem enc_read {v : Vs} (R : Rt v) (z : List UInt8) : pV (enc v ++ z) = v ∧ pR (enc v ++ z) = z ∧ pB (enc v ++ z) (b1 (enc v ++ z)) = false ∧ b1 (enc v ++ z) = false ∧ kd (enc v ++ z) < 2 := by
  obtain ⟨key, seq, mk, data, l⟩ := v
  cases mk with
  | true =>
    obtain ⟨m1, m2⟩ := R.m rfl
    simp only at m1 m2
    subst m1 m2
    rw [enc_mk rfl]
    obtain ⟨a1, a2, a3, a4, a5, a6⟩ := head_app 1 _ z R
    have a1' : kd (hd 1 ⟨key, seq, true, [], []⟩ ++ z) = 1 := a1
    refine ⟨?_, ?_, ?_, a2, by omega⟩
    · unfold pV; rw [if_pos a1', a3, a4]
    · unfold pR; rw [if_pos a1', a5]
    · unfold pB; rw [if_pos a1', a6, a2]
  | false =>
    have hd0 := R.d
    have hn := R.n
    have hp := R.p
    simp only at hd0 hn hp
    rw [enc_ob rfl]
    simp only
    rw [List.append_assoc, List.append_assoc]
    obtain ⟨a1, a2, a3, a4, a5, a6⟩ := head_app 0 _ ((be 2 data.length ++ data) ++ ((UInt8.ofNat l.length :: pes l) ++ z)) R
    generalize hE : hd 0 ⟨key, seq, false, data, l⟩ ++ ((be 2 data.length ++ data) ++ ((UInt8.ofNat l.length :: pes l) ++ z)) = E at *
    have a1' : kd E = 0 := a1
    obtain ⟨c1, c2, c3⟩ := x_app 2 data ((UInt8.ofNat l.length :: pes l) ++ z) (by rw [show (256 : Nat) ^ 2 = 65536 by decide]; omega)
    rw [← a5] at c1 c2 c3
    have x4 : r4 E = UInt8.ofNat l.length :: (pes l ++ z) := c2
    obtain ⟨d1, d2, d3⟩ := t1_app (UInt8.ofNat l.length) (pes l ++ z)
    rw [← x4] at d1 d2 d3
    have x5 : cn E = l.length := by
      unfold cn
      rw [d1]
      exact UInt8.toNat_ofNat_of_lt' (show l.length < 256 by omega)
    obtain ⟨f1, f2, f3⟩ := ps_app l z (fun k e he => by have := hp k e he; omega) l.length (Nat.le_refl _)
    have x6 : r5 E = pes l ++ z := d2
    rw [List.take_length] at f1
    have f2' : psR l.length (pes l ++ z) = z := by rw [f2]; simp [pes]
    have hk : ¬ kd E = 1 := by omega
    refine ⟨?_, ?_, ?_, a2, by omega⟩
    · have c1' : da E = data := c1
      unfold pV; rw [if_neg hk, a3, a4, x5, x6, f1, c1']
    · unfold pR; rw [if_neg hk, x5, x6, f2']
    · unfold pB; rw [if_neg hk, x5, x6, f3]
      have g1 : b5 E (b1 E) = b4 E (b1 E) := d3 _
      have g2 : b4 E (b1 E) = b3 E (b1 E) := c3 _
      rw [g1, g2, a6, a2]
theorem enc_inj {v u : Vs} (R : Rt v) (S : Rt u) {z y : List UInt8} (h : enc v ++ z = enc u ++ y) : v = u ∧ z = y := by
  obtain ⟨a1, a2, _⟩ := enc_read R z
  obtain ⟨c1, c2, _⟩ := enc_read S y
  rw [h] at a1 a2
  exact ⟨a1.symm.trans c1, a2.symm.trans c2⟩
/-- the right version that a text is the bytes of -/
noncomputable def rdV (b : List UInt8) : Option Vs := by
  classical exact if h : ∃ v, rtE v = 0 ∧ enc v = b then some (Classical.choose h) else none
theorem rdV_some {b : List UInt8} {v : Vs} (h : rdV b = some v) : rtE v = 0 ∧ enc v = b := by
  unfold rdV at h
  split at h
  · next q => injection h with h; subst h; exact Classical.choose_spec q
  · cases h
theorem rdV_enc {v : Vs} (h : rtE v = 0) : rdV (enc v) = some v := by
  have q : ∃ u, rtE u = 0 ∧ enc u = enc v := ⟨v, h, rfl⟩
  unfold rdV
  rw [dif_pos q]
  have := Classical.choose_spec q
  congr 1
  exact (enc_inj (rt_of this.1) (rt_of h) (z := []) (y := []) (by rw [this.2])).1
theorem rdV_none {b : List UInt8} (h : ∀ v, rtE v = 0 → enc v ≠ b) : rdV b = none := by
  unfold rdV
  rw [dif_neg]
  rintro ⟨v, h1, h2⟩
  exact h v h1 h2
/-- the program's own: all are taken, none is left, it is right -/
theorem rdV_prog (b : List UInt8) : (pB b (b1 b || decide (2 ≤ kd b)) = false ∧ pR b = [] ∧ rtE (pV b) = 0 → rdV b = some (pV b)) ∧ (¬ (pB b (b1 b || decide (2 ≤ kd b)) = false ∧ pR b = [] ∧ rtE (pV b) = 0) → rdV b = none) := by
  refine ⟨fun ⟨h1, h2, h3⟩ => ?_, fun h => ?_⟩
  · have := rdV_enc h3
    rw [read_eq h1 h2 h3] at this
    exact this
  · refine rdV_none fun v hv hb => h ?_
    obtain ⟨e1, e2, e3, e4, e5⟩ := enc_read (rt_of hv) []
    rw [List.append_nil, hb] at e1 e2 e3 e4 e5
    refine ⟨?_, e2, by rw [e1]; exact hv⟩
    rw [e4] at e3 ⊢
    rw [decide_eq_false (by omega)]
    exact e3
/-- the document's: it is written anew -/
theorem rdV_doc (b : List UInt8) : (pB b (b1 b) = false ∧ rtE (pV b) = 0 ∧ enc (pV b) = b → rdV b = some (pV b)) ∧ (¬ (pB b (b1 b) = false ∧ rtE (pV b) = 0 ∧ enc (pV b) = b) → rdV b = none) := by
  refine ⟨fun ⟨h1, h2, h3⟩ => ?_, fun h => ?_⟩
  · have := rdV_enc h2
    rw [h3] at this
    exact this
  · refine rdV_none fun v hv hb => h ?_
    obtain ⟨e1, e2, e3, e4, e5⟩ := enc_read (rt_of hv) []
    rw [List.append_nil, hb] at e1 e2 e3 e4 e5
    exact ⟨e3, by rw [e1]; exact hv, by rw [e1]; exact hb⟩
end Go.Proofs.YtcmmbdcflblekaaGreatDoor

/- wrong, putNumber, putText, putHead, Write. -/
namespace Go.Proofs.YtcmmbdcflblekaaGreatDoor
set_option maxRecDepth 100000
set_option linter.unusedVariables false
set_option linter.unusedSimpArgs false
open Go.RowKit
attribute [local go_sem ↓] Go.wp_at_zero Go.wp_at_succ
theorem Ob.base' {b b' : Nat} {w : World} {v : Value} {l : List UInt8} (h : Ob b w v l) (hb : b' ≤ b) : Ob b' w v l := by
  refine ⟨⟨h.own.1, ?_⟩, Nat.le_trans hb h.le⟩
  rcases h.own.2 with e | ⟨g, cap, cur, e1, e2, e3⟩
  · exact Or.inl e
  · exact Or.inr ⟨g, cap, cur, e1, Nat.le_trans hb e2, e3⟩
/-- blocks that aren't the row's stay, and aren't its new one -/
def Kp (w : World) (v : Value) (w' : World) (v' : Value) : Prop := ∀ k, k < w.heap.size → v.ownBlock ≠ some k → w'.heap[k]? = w.heap[k]? ∧ v'.ownBlock ≠ some k
theorem Kp.refl (w : World) (v : Value) : Kp w v w v := fun k _ h => ⟨rfl, h⟩
theorem Kp.trans {w w1 w2 : World} {v v1 v2 : Value} (h : Kp w v w1 v1) (hs : w.heap.size ≤ w1.heap.size) (h2 : Kp w1 v1 w2 v2) : Kp w v w2 v2 := fun k hk hn => by
  obtain ⟨a1, a2⟩ := h k hk hn
  obtain ⟨b1, b2⟩ := h2 k (by omega) a2
  exact ⟨b1.trans a1, b2⟩
theorem ob_lt {base : Nat} {w : World} {v : Value} {L : List UInt8} (h : Ob base w v L) : v.ownBlock ≠ some w.heap.size := fun q => by
  have := (h.own.lt _ q).2
  omega
/-- one byte more; the other blocks stay -/
theorem app_onek {ops : Array Oper} {rest : List Oper} {o : Oper} {a : Act} {Q : Exit → Act → World → Prop} {W : World} (hgd : o.guard = none) (s x : Operand) (ho : o.op = .call { callee := .builtin .append, args := #[s, x], argTypes := #[47, 47] })
    {base : Nat} {w : World} {v : Value} {L : List UInt8} {c : Int} {g : Nat} (C : UInt8) (hW : W = w.alloc (.cells #[.int .u8 c] 5)) (hO : Ob base w v L) (hg : g = w.heap.size) (hn : L.length ≤ 1000000000) (hC : c = (C.toNat : Int))
    (hs : a.eval s = v) (hx : a.eval x = .slice (some ⟨g, 0, none⟩) 1 1)
    (h : ∀ v' w', Ob base w' v' (L ++ [C]) → Below base w w' → Kp w v w' v' → wpList Tryz.prog ops Q rest (a.put o.dst v') w') : wpList Tryz.prog ops Q (o :: rest) a W := by
  obtain ⟨i0, hi0, hz0, hz1, hz2⟩ := info5
  subst hW hC hg
  have hm : maxLen = 9223372036854775807 := rfl
  refine wpList_append_lies _ hgd s x 47 ho base 5 i0 _ 1 1 Tryz.underlying47 hi0 hz0 hz1 hz2 rfl (by omega) v L.length (vals L) hs (hO.own.alloc _) _ 1 1 [.int .u8 C.toNat] hx rfl
    (World.news_of_block (cs := #[.int .u8 C.toNat]) (t := 5) (fr := (0, 0)) (heap_alloc_new w _)) (by simp [Value.oneCell']) (by omega) (by rw [hm]; omega) (by omega) (by have := hO.le; simp; omega) _ rfl ?_
  intro g2 cap2 w' hown hgrow hat hlt
  refine h _ w' ⟨?_, ?_⟩ ?_ ?_
  · rw [vals_append, List.length_append]; exact hown
  · have := hgrow.size; have h2 := hO.le; simp at this; omega
  · exact ((Below.refl _ _).alloc hO.le _).trans (grown_below (hO.own.alloc _) (by have := hO.le; simp; omega) hgrow)
  · intro k hk hne
    refine ⟨by rw [hgrow.block k (by simp; omega) (Ne.symm hne), heap_alloc_old _ _ hk], ?_⟩
    intro q
    have e1 : g2 = k := by simpa [Value.ownBlock] using q
    subst e1
    rcases hat with q2 | q2
    · exact hne q2
    · simp at q2; omega
theorem app_run {ops : Array Oper} {rest : List Oper} {o : Oper} {a : Act} {Q : Exit → Act → World → Prop} {w w' : World} {v x' r : Value} {t1 t2 : TypeId} (hgd : o.guard = none) (s x : Operand) (ho : o.op = .call { callee := .builtin .append, args := #[s, x], argTypes := #[t1, t2] })
    (hs : a.eval s = v) (hx : a.eval x = x') (hr : (Builtin.append_ #[t1, t2] o.type #[v, x']).run Tryz.prog w = .ok r w')
    (h : wpList Tryz.prog ops Q rest (a.put o.dst r) w') : wpList Tryz.prog ops Q (o :: rest) a w := by
  refine wpList_plain hgd fun K hK => ?_
  unfold Oper.wp execOp
  simp only [ho, resolve, invoke, builtin, Sem.run_bind, Sem.run_pure, Result.andThen_ok, List.map_toArray, List.map_cons, List.map_nil, hs, hx, hr]
  exact hK _ _ h
theorem app_strk {ops : Array Oper} {rest : List Oper} {o : Oper} {a : Act} {Q : Exit → Act → World → Prop} {base : Nat} {w : World} {v : Value} {L : List UInt8} (l : List UInt8) (hO : Ob base w v L) (hn : L.length + l.length ≤ 1000000000)
    (hgd : o.guard = none) (s x : Operand) (ho : o.op = .call { callee := .builtin .append, args := #[s, x], argTypes := #[47, 9] })
    (hs : a.eval s = v) (hx : a.eval x = str l)
    (h : ∀ v' w', Ob base w' v' (L ++ l) → Below base w w' → (∀ k, k < w.heap.size → v.ownBlock ≠ some k → w'.heap[k]? = w.heap[k]?) → wpList Tryz.prog ops Q rest (a.put o.dst v') w') : wpList Tryz.prog ops Q (o :: rest) a w := by
  obtain ⟨i0, hi0, hz0, hz1, hz2⟩ := info5
  have hm : maxLen = 9223372036854775807 := rfl
  obtain ⟨v', w', hr, hown, hgrow, _⟩ := Lib.run_append_own_string (P := Tryz.prog) w base 47 9 o.type 5 i0 Tryz.underlying47 Tryz.underlying9 hi0 hz0 hz1 hz2 v L.length (vals L) hO.own ⟨l.toArray⟩ (by rw [str_size, hm]; omega) (by rw [str_size]; omega) hO.le
  refine app_run hgd s x ho hs hx hr ?_
  refine h v' w' ⟨?_, ?_⟩ (grown_below hO.own hO.le hgrow) (fun k hk hne => hgrow.block k hk (Ne.symm hne))
  · rw [vals_append, List.length_append, ← vals_str l]; rw [str_size] at hown; exact hown
  · have := hgrow.size; have h2 := hO.le; omega
theorem wrong_any (v : Vs) (w : World) (a : Option Addr) (n cap : Nat) (hn : v.l.length = n) (hP : PIn w a v.l) (hz : v.l.length ≤ 9223372036854775806) :
    Calls Tryz.prog 42 #[vv v.key v.seq v.mkr v.data a n cap] w fun e w' => e = .returned (.int .i64 (rtE v)) ∧ Below w.heap.size w w' := by
  obtain ⟨key, seq, mk, data, l⟩ := v
  simp only at hn hP hz ⊢
  have hbx : Below w.heap.size w (w.alloc (.cells #[str key, .int .i64 seq, .bool mk, str data, .slice a n cap] 54)) := (Below.refl _ _).alloc (Nat.le_refl _) _
  have hm := version_any key seq mk data l _ a n cap hn (hP.later hbx) hz
  by_cases h1 : seq < 1
  · have HV : Hid (rtE ⟨key, seq, mk, data, l⟩ = 1) := ⟨by unfold rtE; rw [if_pos (.inl h1)]⟩
    have d1 : decide (seq < 1) = true := decide_eq_true h1
    generalize rtE ⟨key, seq, mk, data, l⟩ = E at *
    go_enter Tryz.func42, Tryz.ntmps42
    go_wp2_with fail
    go_ret
    exact ⟨by rw [HV.out]; rfl, hbx⟩
  · have d1 : decide (seq < 1) = false := decide_eq_false h1
    by_cases h2 : 1099511627776 < seq
    · have HV : Hid (rtE ⟨key, seq, mk, data, l⟩ = 1) := ⟨by unfold rtE; rw [if_pos (.inr h2)]⟩
      have d2 : decide (1099511627776 < seq) = true := decide_eq_true h2
      generalize rtE ⟨key, seq, mk, data, l⟩ = E at *
      go_enter Tryz.func42, Tryz.ntmps42
      go_wp2_with fail
      go_ret
      exact ⟨by rw [HV.out]; rfl, hbx⟩
    · have HV : Hid (rtE ⟨key, seq, mk, data, l⟩ = vrE key mk data l) := ⟨by unfold rtE; rw [if_neg (by simp only; omega)]⟩
      have d2 : decide (1099511627776 < seq) = false := decide_eq_false h2
      generalize rtE ⟨key, seq, mk, data, l⟩ = E at *
      generalize vrE key mk data l = E2 at *
      go_enter Tryz.func42, Tryz.ntmps42
      go_wp2_with (go_at_call 71; refine hm.mono ?_; rintro e w1 ⟨rfl, b1⟩)
      go_ret
      exact ⟨by rw [HV.out]; rfl, hbx.trans (b1.mono (by simp))⟩
theorem byte_of (n : Nat) : (((UInt8.ofNat n).toNat : Nat) : Int) = (n : Int) % 256 := by simp
theorem shr_byte (n k : Nat) : (n : Int) / 2 ^ (8 * k) % 256 = (((UInt8.ofNat (n / 256 ^ k)).toNat : Nat) : Int) := by
  rw [byte_of, show (256 : Nat) = 2 ^ 8 by decide, ← Nat.pow_mul, Int.natCast_ediv, Int.natCast_pow]; rfl
theorem putNumber_any {base : Nat} {w : World} {v : Value} {L : List UInt8} (n width : Nat) (hw : width ≤ 8) (hn : n < 18446744073709551616) (hO : Ob base w v L) (hL : L.length ≤ 1000000) :
    Calls Tryz.prog 45 #[v, .int .u64 (n : Int), .int .i64 (width : Int)] w fun e w' => ∃ v', e = .returned v' ∧ Ob base w' v' (L ++ be width n) ∧ Below base w w' ∧ Kp w v w' v' := by
  have hB : (be width n).length = width := be_len _ _
  have HT := fun i (h : i < width) => be_take (n := n) h
  have hall := be_all width n
  generalize hBE : be width n = B at *
  have HB := Hid.mk hB
  clear hB hBE
  go_enter Tryz.func45, Tryz.ntmps45
  go_wp2_with fail
  go_loopw [0, 9] (fun b i wr => ∃ k : Nat, k ≤ width ∧ i = .int .i64 (k : Int) ∧ Ob base wr b (L ++ B.take k) ∧ Below base w wr ∧ Hid (Kp w v wr b)) (fun _ i _ => width - (intOf i).toNat)
  case atStart => exact ⟨0, by omega, rfl, by simpa using hO, Below.refl _ _, ⟨Kp.refl _ _⟩⟩
  case round =>
    obtain ⟨k, hk, rfl, o1, hb, HK⟩ := hrel
    by_cases hlt : k < width
    · have d1 : decide ((k : Int) < (width : Int)) = true := decide_eq_true (by omega)
      have HT1 := Hid.mk (HT k hlt)
      have hlen : (L ++ B.take k).length ≤ 1000000000 := by rw [List.length_append, List.length_take]; omega
      have HE := Hid.mk (shr_byte n (width - 1 - k))
      clear HT hall
      go_wp2_with (refine app_onek rfl _ _ rfl (UInt8.ofNat (n / 256 ^ (width - 1 - k))) rfl o1 rfl hlen HE.out rfl rfl ?_; intro v2 w2 o2 b2 k2)
      exact ⟨⟨k + 1, by omega, by go_num, by rw [HT1.out, ← List.append_assoc]; exact o2, hb.trans b2, ⟨HK.out.trans hb.size k2⟩⟩, by simp [intOf]; omega⟩
    · obtain rfl : k = width := by omega
      have d1 : decide ((k : Int) < (k : Int)) = false := decide_eq_false (by omega)
      rw [hall] at o1
      go_wp2_with fail
      go_ret
      exact ⟨_, rfl, o1, hb, HK.out⟩
theorem putText_any {base : Nat} {w : World} {v : Value} {L : List UInt8} (s : List UInt8) (width : Nat) (hw : width ≤ 8) (hs : s.length ≤ 100000) (hO : Ob base w v L) (hL : L.length ≤ 500000) :
    Calls Tryz.prog 44 #[v, str s, .int .i64 (width : Int)] w fun e w' => ∃ v', e = .returned v' ∧ Ob base w' v' (L ++ (be width s.length ++ s)) ∧ Below base w w' ∧ (∀ k, k < w.heap.size → v.ownBlock ≠ some k → w'.heap[k]? = w.heap[k]?) := by
  have hp := putNumber_any s.length width hw (by omega) hO (by omega)
  have hlen : (L ++ be width s.length).length + s.length ≤ 1000000000 := by rw [List.length_append, be_len]; omega
  generalize be width s.length = B at *
  go_enter Tryz.func44, Tryz.ntmps44
  go_wp2_with (first | (go_at_call 45; refine hp.mono ?_; rintro e w1 ⟨v1, rfl, o1, b1, k1⟩) | (refine app_strk s o1 hlen rfl _ _ rfl rfl rfl ?_; intro v2 w2 o2 b2 k2))
  go_ret
  exact ⟨_, rfl, by rw [← List.append_assoc]; exact o2, b1.trans b2, fun k hk hn => (k2 k (Nat.lt_of_lt_of_le hk b1.size) (k1 k hk hn).2).trans (k1 k hk hn).1⟩
theorem putHead_any (k : UInt8) (v : Vs) (w : World) (a : Option Addr) (n cap : Nat) (R : Rt v) :
    Calls Tryz.prog 43 #[.slice none 0 0, .int .u8 (k.toNat : Int), vv v.key v.seq v.mkr v.data a n cap] w fun e w' => ∃ v', e = .returned v' ∧ Ob w.heap.size w' v' (hd k v) ∧ Below w.heap.size w w' := by
  obtain ⟨key, seq, mk, data, l⟩ := v
  have s1 := R.s1
  have s2 := R.s2
  have k2 := R.k2
  simp only at s1 s2 k2 ⊢
  obtain ⟨S, rfl⟩ : ∃ S : Nat, seq = (S : Int) := ⟨seq.toNat, by omega⟩
  have hbx : Below w.heap.size w (w.alloc (.cells #[str key, .int .i64 (S : Int), .bool mk, str data, .slice a n cap] 54)) := (Below.refl _ _).alloc (Nat.le_refl _) _
  have o0 : Ob (w.heap.size + 1) (w.alloc (.cells #[str key, .int .i64 (S : Int), .bool mk, str data, .slice a n cap] 54)) (.slice none 0 0) [] := Ob.nil _ _ (by simp)
  have HX : Hid (∀ w1, Below (w.heap.size + 1) (w.alloc (.cells #[str key, .int .i64 (S : Int), .bool mk, str data, .slice a n cap] 54)) w1 → w1.cell? ⟨w.heap.size, 0, none⟩ = some (str key) ∧ w1.cell? ⟨w.heap.size, 1, none⟩ = some (.int .i64 (S : Int))) := ⟨fun w1 h => by
    have := box5 (w := w) (w1 := w1) (by rw [World.size_alloc]; exact h)
    exact ⟨this.1, this.2.1⟩⟩
  have HH : Hid (hd k ⟨key, (S : Int), mk, data, l⟩ = [] ++ [k] ++ be 8 S ++ (be 1 key.length ++ key)) := ⟨by unfold hd; simp [sh_be]⟩
  have hl8 := be_len 8 S
  have hp2 := fun w v (h : Ob (w.heap.size + 1) w v ([] ++ [k])) => putNumber_any S 8 (by omega) (by omega) h (by simp)
  generalize hd k ⟨key, (S : Int), mk, data, l⟩ = H at *
  go_enter Tryz.func43, Tryz.ntmps43
  go_wp2_with (refine app_byteg k o0 (by simp) (by simp) rfl rfl _ _ rfl rfl rfl ?_; intro v1 w1 o1 b1; obtain ⟨x0, x1⟩ := HX.out w1 b1)
  with_reducible refine Calls.mono (putNumber_any S 8 (by omega) (by omega) o1 (by simp)) ?_
  rintro e w2 ⟨v2, rfl, o2, b2, _⟩
  dsimp only
  have b12 := b1.trans b2
  obtain ⟨y0, y1⟩ := HX.out w2 b12
  have hl9 : ([] ++ [k] ++ be 8 S).length ≤ 500000 := by rw [List.length_append, hl8]; simp
  clear x0 x1 hp2
  go_wp2_with fail
  with_reducible refine Calls.mono (putText_any key 1 (by omega) (by omega) o2 hl9) ?_
  rintro e w3 ⟨v3, rfl, o3, b3, _⟩
  dsimp only
  rw [← HH.out] at o3
  go_wp2_with fail
  go_ret
  exact ⟨_, rfl, o3.base' (by omega), hbx.trans ((b12.trans b3).mono (by omega))⟩
/-- what Write answers -/
noncomputable def wro (v : Vs) : Value := .tuple #[str (if rtE v = 0 then enc v else []), .int .i64 (rtE v)]
theorem wro_ok {v : Vs} (h : rtE v = 0) : wro v = .tuple #[str (enc v), .int .i64 0] := by unfold wro; rw [if_pos h, h]
theorem wro_no {v : Vs} (h : ¬ rtE v = 0) : wro v = .tuple #[str [], .int .i64 (rtE v)] := by unfold wro; rw [if_neg h]
theorem pes_len (l : List En) (h : ∀ (k : Nat) (e : En), l[k]? = some e → e.key.length ≤ 16 ∧ e.val.length ≤ 64) : (pes l).length ≤ 82 * l.length := by
  induction l with
  | nil => simp [pes]
  | cons p l ih =>
    have h0 := h 0 p rfl
    have := ih fun k e he => h (k + 1) e (by simpa using he)
    simp only [pes, List.map_cons, List.flatten_cons, List.length_append, List.length_cons, pe, sh] at this ⊢
    omega
theorem hd_len (k : UInt8) (v : Vs) : (hd k v).length = 10 + v.key.length := by unfold hd; simp [be_len, sh]; omega
theorem enc_len {v : Vs} (R : Rt v) : 1 ≤ (enc v).length ∧ (enc v).length ≤ 3000 := by
  have k2 := R.k2
  have d := R.d
  have n := R.n
  have q := pes_len v.l R.p
  unfold enc
  split
  · rw [hd_len]; omega
  · simp only [List.length_append, List.length_cons, hd_len, be_len]; omega
theorem box2 {w : World} {g : Nat} {a b : Value} {t : TypeId} (h : w.heap[g]? = some (.cells #[a, b] t (0, 0))) : w.cell? ⟨g, 0, none⟩ = some a ∧ w.cell? ⟨g, 1, none⟩ = some b :=
  ⟨by rw [cell_of_row _ _ _ _ _ _ h]; rfl, by rw [cell_of_row _ _ _ _ _ _ h]; rfl⟩
set_option maxHeartbeats 4000000 in
theorem write_any (v : Vs) (w : World) (a : Option Addr) (n cap : Nat) (hn : v.l.length = n) (hP : PIn w a v.l) (hz : v.l.length ≤ 9223372036854775806) :
    Calls Tryz.prog 22 #[vv v.key v.seq v.mkr v.data a n cap] w fun e w' => e = .returned (wro v) ∧ Below w.heap.size w w' := by
  subst hn
  have hbx : Below w.heap.size w (w.alloc (.cells #[str v.key, .int .i64 v.seq, .bool v.mkr, str v.data, .slice a v.l.length cap] 54)) := (Below.refl _ _).alloc (Nat.le_refl _) _
  have hP1 := hP.later hbx
  have hw := wrong_any v _ a v.l.length cap rfl hP1 hz
  have HX : Hid (∀ w1, Below (w.heap.size + 1) (w.alloc (.cells #[str v.key, .int .i64 v.seq, .bool v.mkr, str v.data, .slice a v.l.length cap] 54)) w1 → w1.cell? ⟨w.heap.size, 0, none⟩ = some (str v.key) ∧ w1.cell? ⟨w.heap.size, 1, none⟩ = some (.int .i64 v.seq) ∧ w1.cell? ⟨w.heap.size, 2, none⟩ = some (.bool v.mkr) ∧ w1.cell? ⟨w.heap.size, 3, none⟩ = some (str v.data) ∧ w1.cell? ⟨w.heap.size, 4, none⟩ = some (.slice a v.l.length cap)) := ⟨fun w1 h => box5 (w := w) (w1 := w1) (by rw [World.size_alloc]; exact h)⟩
  by_cases h0 : rtE v = 0
  · have R := rt_of h0
    have HW := Hid.mk (wro_ok h0)
    have el := (enc_len R).2
    rw [h0] at hw
    generalize wro v = WR at *
    have hh := fun k w => putHead_any k v w a v.l.length cap R
    obtain ⟨key, seq, mk, data, l⟩ := v
    have HS := Hid.mk R.p
    have hd0 := R.d
    have hn0 := R.n
    have hk0 := R.k2
    simp only at hP hz hbx hP1 hw HX hh HS hd0 hn0 hk0
    have HE : Hid (∀ w', Below (w.heap.size + 1) (w.alloc (.cells #[str key, .int .i64 seq, .bool mk, str data, .slice a l.length cap] 54)) w' → Below w.heap.size w w') := ⟨fun w' hb => hbx.trans (hb.mono (by omega))⟩
    have PL : Hid (∀ w', Below (w.heap.size + 1) (w.alloc (.cells #[str key, .int .i64 seq, .bool mk, str data, .slice a l.length cap] 54)) w' → PIn w' a l) := ⟨fun w' hb => hP1.later (hb.mono (by simp))⟩
    cases mk with
    | true =>
      rw [enc_mk rfl] at HW
      have hh1 := fun w => hh 1 w
      generalize hd 1 ⟨key, seq, true, data, l⟩ = H at *
      clear el h0 R hh
      go_enter Tryz.func22, Tryz.ntmps22
      go_wp2_with (first
        | (go_at_call 42; refine hw.mono ?_; rintro e w1 ⟨rfl, b1⟩; rw [World.size_alloc] at b1; obtain ⟨x0, x1, x2, x3, x4⟩ := HX.out w1 b1)
        | (go_at_call 43; refine (hh1 _).mono ?_; rintro e w2 ⟨v2, rfl, o2, b2⟩; have hc := conv_own o2))
      go_ret2
      exact ⟨by rw [HW.out]; rfl, HE.out _ (b1.trans (b2.mono (by have := b1.size; simp at this; omega)))⟩
    | false =>
      rw [enc_ob' key seq data l] at HW
      have hh0 := fun w => hh 0 w
      have hl1 := hd_len 0 ⟨key, seq, false, data, l⟩
      simp only at hl1
      generalize hd 0 ⟨key, seq, false, data, l⟩ = H at *
      have hl2 := be_len 2 data.length
      have hpl := pes_len l HS.out
      have HL : Hid ((H ++ (be 2 data.length ++ data) ++ be 1 l.length).length ≤ 2000) := ⟨by simp only [List.length_append, hl1, hl2, be_len]; omega⟩
      clear el h0 R hh
      go_enter Tryz.func22, Tryz.ntmps22
      go_wp2_with (first
        | (go_at_call 42; refine hw.mono ?_; rintro e w1 ⟨rfl, b1⟩; rw [World.size_alloc] at b1; obtain ⟨x0, x1, x2, x3, x4⟩ := HX.out w1 b1)
        | (go_at_call 43; refine (hh0 _).mono ?_; rintro e w2 ⟨v2, rfl, o2, b2⟩; have X2 := b1.trans (b2.mono (by have := b1.size; simp at this; omega)); obtain ⟨y0, y1, y2, y3, y4⟩ := HX.out w2 X2; clear x0 x1 x2 x3 x4))
      have hwb := b1.size
      simp at hwb
      with_reducible refine Calls.mono (putText_any data 2 (by omega) (by omega) o2 (by omega)) ?_
      rintro e w3 ⟨v3, rfl, o3, b3, _⟩
      dsimp only
      have X3 := X2.trans (b3.mono (by omega))
      obtain ⟨z0, z1, z2, z3, z4⟩ := HX.out w3 X3
      clear y0 y1 y2 y3 y4 hw
      go_wp2_with fail
      with_reducible refine Calls.mono (putNumber_any l.length 1 (by omega) (by omega) o3 (by simp only [List.length_append, hl1, hl2]; omega)) ?_
      rintro e w4 ⟨v4, rfl, o4, b4, _⟩
      dsimp only
      have X4 := X3.trans (b4.mono (by omega))
      obtain ⟨y0, y1, y2, y3, y4⟩ := HX.out w4 X4
      clear z0 z1 z2 z3 z4
      go_wp2_with fail
      have o4' := Hid.mk (o4.base' (b' := w.heap.size + 1) (by omega))
      have hBB := HL.out
      have HW2 : Hid (WR = .tuple #[str ((H ++ (be 2 data.length ++ data) ++ be 1 l.length) ++ pes l), .int .i64 0]) := ⟨by rw [HW.out, be_one]; simp⟩
      clear HW
      generalize H ++ (be 2 data.length ++ data) ++ be 1 l.length = BB at *
      have X4' := Hid.mk X4
      clear o2 o3 o4 b1 b2 b3 b4 X2 X3 X4 y0 y1 y2 y3 y4
      go_loopw [5, 33] (fun b i wr => ∃ k : Nat, k ≤ l.length ∧ i = .int .i64 (k : Int) ∧ Hid (Ob (w.heap.size + 1) wr b (BB ++ pes (l.take k)) ∧ Below (w.heap.size + 1) (w.alloc (.cells #[str key, .int .i64 seq, .bool false, str data, .slice a l.length cap] 54)) wr)) (fun _ i _ => l.length - (intOf i).toNat)
      case atStart => exact ⟨0, by omega, rfl, ⟨by simpa [pes] using o4'.out, X4'.out⟩⟩
      case round =>
        obtain ⟨k, hk, rfl, HO⟩ := hrel
        by_cases hlt : k < l.length
        · have hd : decide ((k : Int) < (l.length : Int)) = true := decide_eq_true (by omega)
          have k2 : (k : Int) < (l.length : Int) := by omega
          obtain ⟨p, hp⟩ : ∃ p, l[k]? = some p := ⟨l[k], List.getElem?_eq_getElem hlt⟩
          obtain ⟨b, off, rfl, hbl, c0, c1⟩ := (PL.out _ HO.out.2).get k p hp
          obtain ⟨s1, s2⟩ := HS.out k p hp
          have hbo : (BB ++ pes (l.take k)).length ≤ 3000 := by
            have q1 := pes_len (l.take k) (fun j e he => HS.out j e (by
              by_cases hj : j < k
              · rw [List.getElem?_take_of_lt hj] at he; exact he
              · rw [List.getElem?_eq_none (by rw [List.length_take]; omega)] at he; cases he))
            rw [List.length_take] at q1
            rw [List.length_append]
            omega
          have HN : Hid (BB ++ pes (l.take (k + 1)) = BB ++ pes (l.take k) ++ (be 1 p.key.length ++ p.key) ++ (be 1 p.val.length ++ p.val)) := ⟨by rw [pes_take hp]; simp [pe, sh_be]⟩
          have HO1 := HO.out.1.alloc (.cells #[str p.key, str p.val] 49)
          have hne := ob_lt HO.out.1
          have hB1 := HO.out.2.alloc (by have := HO.out.2.size; simp at this; omega) (.cells #[str p.key, str p.val] 49)
          have hg1 : (wr.alloc (.cells #[str p.key, str p.val] 49)).heap[wr.heap.size]? = some (.cells #[str p.key, str p.val] 49 (0, 0)) := heap_alloc_new _ _
          clear o4' X4' hp HO
          generalize BB ++ pes (l.take k) = LL at *
          have ht1 := putText_any p.key 1 (by omega) (by omega) HO1 (by omega)
          have hl5 : (LL ++ (be 1 p.key.length ++ p.key)).length ≤ 500000 := by simp only [List.length_append, be_len]; omega
          go_wp2_with fail
          with_reducible refine Calls.mono ht1 ?_
          rintro e w5 ⟨v5, rfl, o5, b5, k5⟩
          have q5 := k5 wr.heap.size (by simp) hne
          rw [hg1] at q5
          obtain ⟨m0, m1⟩ := box2 q5
          dsimp only
          clear ht1 k5 c0 c1 HO1 hg1
          go_wp2_with fail
          with_reducible refine Calls.mono (putText_any p.val 1 (by omega) (by omega) o5 hl5) ?_
          rintro e w6 ⟨v6, rfl, o6, b6, k6⟩
          dsimp only
          go_wp2_with fail
          exact ⟨⟨k + 1, by omega, by go_num, ⟨by rw [HN.out]; exact o6, (hB1.trans b5).trans b6⟩⟩, by simp [intOf]; omega⟩
        · obtain rfl : k = l.length := by omega
          have hd : decide ((l.length : Int) < (l.length : Int)) = false := decide_eq_false (by omega)
          rw [List.take_length] at HO
          have hcv := conv_own HO.out.1
          have HB := Hid.mk (HE.out _ HO.out.2)
          clear HO o4' X4'
          go_wp2_with fail
          go_ret2
          exact ⟨by rw [HW2.out]; rfl, HB.out⟩
  · have HW := Hid.mk (wro_no h0)
    have HN := Hid.mk h0
    have hne : (rtE v == 0) = false := by rw [beq_eq_false_iff_ne]; exact h0
    generalize wro v = WR at *
    generalize rtE v = E at *
    clear h0
    go_enter Tryz.func22, Tryz.ntmps22
    go_wp2_with (go_at_call 42; refine hw.mono ?_; rintro e w1 ⟨rfl, b1⟩)
    go_ret2
    exact ⟨by rw [HW.out]; rfl, hbx.trans (b1.mono (by simp))⟩
end Go.Proofs.YtcmmbdcflblekaaGreatDoor
