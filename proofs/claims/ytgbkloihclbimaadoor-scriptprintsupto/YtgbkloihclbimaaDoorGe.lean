import Derived.Test.YtgbkloihclbimaaDoorGh
import Derived.ProofKit
/- Layer 22: the values that the document's first examples have (no model). -/
namespace Go.Proofs.YtgbkloihclbimaaDoor
set_option maxRecDepth 100000
set_option linter.unusedVariables false
set_option linter.unusedSimpArgs false
abbrev ft1 : By := [109, 97, 107, 101, 32, 34, 97, 34, 10, 112, 117, 116, 32, 34, 97, 34, 32, 34, 107, 34, 32, 34, 100, 34, 32, 34, 116, 34, 32, 34, 120, 34, 10, 35, 10, 99, 114, 97, 115, 104, 32, 51, 32, 48, 32, 50]
abbrev ft2 : By := [102, 97, 108, 108, 32, 48, 51]
abbrev fc1 : Cm := ⟨2, 0, 0, ⟨1, [97], [], [], [], 0, 0, []⟩, []⟩
abbrev fc2 : Cm := ⟨2, 0, 0, ⟨3, [97], [107], [100], [⟨[116], [120]⟩], 0, 0, []⟩, []⟩
abbrev fc3 : Cm := ⟨2, 0, 0, ⟨18, [], [], [], [], 0, 3, [0, 2]⟩, []⟩
abbrev fd1 : Cm := ⟨2, 0, 0, ⟨17, [], [], [], [], 0, -1, []⟩, []⟩
abbrev fd2 : Cm := ⟨4, 0, 0, ⟨0, [], [], [], [], 0, 0, []⟩, []⟩
abbrev fd3 : Cm := ⟨6, 0, 0, ⟨0, [], [], [], [], 0, 0, []⟩, []⟩
abbrev fs1 : By := [102, 97, 108, 108, 32, 45, 49, 10, 100, 105, 103, 101, 115, 116, 10]
theorem n3 : numO [51] = some 3 := by kernel_rfl
theorem f_prsE1 : prsE ft1 = 0 := by kernel_rfl
theorem f_prsL1 : prsL ft1 = [fc1, fc2, fc3] := by kernel_rfl
theorem f_prsE2 : prsE ft2 = 110 := by kernel_rfl
theorem f_prsL2 : prsL ft2 = [] := by kernel_rfl
theorem f_prE1 : prE [fd1, fd2] = 0 := by kernel_rfl
theorem f_prT1 : prT [fd1, fd2] = fs1 := by kernel_rfl
theorem f_prE2 : prE [fd3] = 110 := by kernel_rfl
theorem f_prT2 : prT [fd3] = [] := by kernel_rfl
theorem f_quo : quo [0, 34, 97] = [34, 92, 120, 48, 48, 92, 34, 97, 34] := by kernel_rfl
end Go.Proofs.YtgbkloihclbimaaDoor

/- Layer 22 without the model: what ScriptNumbers and ScriptQuotes ask. -/
namespace Go.Proofs.YtgbkloihclbimaaDoor
set_option maxRecDepth 100000
set_option linter.unusedVariables false
set_option linter.unusedSimpArgs false
open Go.Lib (decDigits)
/-- a text of one line -/
theorem one_line {t : By} (h10 : (10 : UInt8) ∉ t) (hn : t ≠ []) (hs : says0 t = false) (hl : t.length ≤ 8192) : isLongF t = false ∧ cmds (lnl t) = (plF t).map (fun c => [c]) := by
  have e := lnl_last t h10 hn
  refine ⟨?_, ?_⟩
  · rw [isLong_lines t _ e]
    have a1 : decide (65536 < t.length) = false := decide_eq_false (by omega)
    have a2 : decide (8192 < t.length) = false := decide_eq_false (by omega)
    simp [a1, a2]
  · rw [e]
    simp only [cmds]
    rw [hs, if_neg (by decide)]
    cases plF t <;> rfl
theorem prs_bad {t : By} (h10 : (10 : UInt8) ∉ t) (hn : t ≠ []) (hs : says0 t = false) (hl : t.length ≤ 8192) (hp : plF t = none) : prsE t = 110 ∧ prsL t = [] := by
  obtain ⟨h1, h2⟩ := one_line h10 hn hs hl
  unfold prsE prsL
  rw [h1, h2, hp]
  exact ⟨rfl, rfl⟩
theorem prs_good {t : By} {c : Cm} (h10 : (10 : UInt8) ∉ t) (hn : t ≠ []) (hs : says0 t = false) (hl : t.length ≤ 8192) (hp : plF t = some c) : prsE t = 0 ∧ prsL t = [c] := by
  obtain ⟨h1, h2⟩ := one_line h10 hn hs hl
  unfold prsE prsL
  rw [h1, h2, hp]
  exact ⟨rfl, rfl⟩
abbrev fall : By := [102, 97, 108, 108]
abbrev fallS : Shp := ⟨[102, 97, 108, 108], 2, 17, [110]⟩
theorem fall_named : shpNamed fall = some fallS := by kernel_rfl
theorem fall_cl : Cl fall := cl_plain (by unfold plainB; decide)
theorem pl_named {line w : By} {ws : List By} {s : Shp} (hw : wds line = w :: ws) (hs : shpNamed w = some s) (x : Cm × Rr) (hx : rdAll s ws = x) : plF line = if x.2.2 = true ∨ x.2.1 ≠ [] then none else some x.1 := by
  subst hx
  unfold plF
  have e : nxtW (wds line) = w := by rw [hw]; rfl
  have e2 : (wds line).tail = ws := by rw [hw]; rfl
  rw [e, hs, e2]
theorem fall_none {ws : List By} (h : ∀ x ∈ ws, Cl x) (hb : numO (ws.headD []) = none ∨ ws.tail ≠ []) : plF (fall ++ jn ws) = none := by
  have z : rdAll fallS ws = ({ cm0 2 17 with st := { (cm0 2 17).st with n := (rnum (ws, false)).1 } }, (rnum (ws, false)).2) := rfl
  rw [pl_named (wds_jn ws fall fall_cl h) fall_named _ z, if_pos]
  rcases hb with q | q
  · left
    simp only [rnum, nxtW]
    rw [q]; rfl
  · right
    exact q
theorem numO_no {w : By} (h : ∀ n, w ≠ Lib.itoa n) : numO w = none := by
  cases hq : numO w with
  | none => rfl
  | some n => exact absurd (numO_some hq).1 (h n)
theorem numO_nil : numO [] = none := numO_no fun n e => itoa_ne n e.symm
theorem dd_head : ∀ (n u : Nat), u ≤ n → u ≠ 0 → ∀ r, decDigits u ≠ 48 :: r
  | n, u, h, h0, r => by
    by_cases hu : u < 10
    · rw [dd_small hu]
      intro e
      injection e with e1 _
      have := congrArg UInt8.toNat e1
      rw [u8n (by omega)] at this
      have h48 : (48 : UInt8).toNat = 48 := rfl
      omega
    · rw [dd_big hu]
      cases n with
      | zero => omega
      | succ n =>
        cases hd : decDigits (u / 10) with
        | nil => exact absurd hd (dd_ne _)
        | cons c s =>
          intro e
          rw [List.cons_append] at e
          injection e with e1 _
          subst e1
          exact dd_head n (u / 10) (by omega) (by omega) s hd
theorem num_zero {d : By} (hd : d ≠ []) : numO (48 :: d) = none := numO_no fun n e => by
  unfold Lib.itoa at e
  split at e
  · injection e with e1 _
    revert e1; decide
  · by_cases h0 : n.toNat = 0
    · rw [h0, dd_small (by decide)] at e
      injection e with _ e2
      exact hd e2
    · exact dd_head _ _ (Nat.le_refl _) h0 d e.symm
theorem num_other {w : By} {c : UInt8} (hc : c ∈ w) (h1 : c ≠ 45) (h2 : c.toNat < 48 ∨ 57 < c.toNat) : numO w = none := numO_no fun n e => by
  rw [e] at hc
  rcases itoa_mem hc with q | q
  · exact h1 q
  · unfold isDg at q; omega
/-- the ten texts that are none -/
def badN (n : Int) : List By := [
  fall ++ [32, 48] ++ Lib.itoa n, fall ++ [32, 43] ++ Lib.itoa n, fall ++ [32, 32] ++ Lib.itoa n, fall ++ [32] ++ Lib.itoa n ++ [32], fall ++ [32, 34] ++ Lib.itoa n ++ [34],
  fall, fall ++ [32] ++ Lib.itoa n ++ [32] ++ Lib.itoa n,
  [102, 97, 108, 108, 32, 57, 50, 50, 51, 51, 55, 50, 48, 51, 54, 56, 53, 52, 55, 55, 53, 56, 48, 56],
  [102, 97, 108, 108, 32, 45, 57, 50, 50, 51, 51, 55, 50, 48, 51, 54, 56, 53, 52, 55, 55, 53, 56, 48, 57],
  [102, 97, 108, 108, 32, 45, 48]]
theorem cl_itoa (n : Int) : Cl (Lib.itoa n) := cl_wtx (.n n)
theorem fall_bad {ws : List By} (h : ∀ x ∈ ws, Cl x) (h10 : ∀ x ∈ ws, (10 : UInt8) ∉ x) (hl : (jn ws).length ≤ 1000) (hb : numO (ws.headD []) = none ∨ ws.tail ≠ []) : prsE (fall ++ jn ws) = 110 := by
  refine (prs_bad ?_ (by simp) rfl (by rw [List.length_append]; show 4 + _ ≤ _; omega) (fall_none h hb)).1
  intro q
  rcases List.mem_append.1 q with e | e
  · revert e; decide
  · exact jn_no10 ws h10 e
theorem badN_all {n : Int} (hn : In64 n) : ∀ t ∈ badN n, prsE t = 110 ∧ t.length ≤ 1000 := by
  have hd := cl_itoa n
  have hdl := Lib.itoa_length_le n hn.1 hn.2
  have h10 : (10 : UInt8) ∉ Lib.itoa n := fun h => (itoa_plain h).2.2.2 rfl
  have hne := itoa_ne n
  have key : ∀ (ws : List By) (t : By), t = fall ++ jn ws → (∀ x ∈ ws, Cl x ∧ (10 : UInt8) ∉ x) → (jn ws).length ≤ 900 → (numO (ws.headD []) = none ∨ ws.tail ≠ []) → prsE t = 110 ∧ t.length ≤ 1000 := by
    rintro ws t rfl h1 h2 h3
    refine ⟨fall_bad (fun x hx => (h1 x hx).1) (fun x hx => (h1 x hx).2) (by omega) h3, ?_⟩
    rw [List.length_append]; show 4 + _ ≤ _; omega
  have cln : Cl ([] : By) := cl_plain (fun c hc => by cases hc)
  have cl1 : ∀ c : UInt8, plainB c → Cl (c :: Lib.itoa n) := fun c hc => cl_plain fun x hx => by
    rcases List.mem_cons.1 hx with rfl | q
    · exact hc
    · exact itoa_plain q
  have no1 : ∀ c : UInt8, c ≠ 10 → (10 : UInt8) ∉ c :: Lib.itoa n := fun c hc q => by
    rcases List.mem_cons.1 q with q | q
    · exact hc q.symm
    · exact h10 q
  have clq : Cl (34 :: (Lib.itoa n ++ [34])) := by
    have e : ∀ r : By, wsz false (34 :: (Lib.itoa n ++ 34 :: r)) = (Lib.itoa n).length + 2 + wsz false r := fun r => by
      conv => lhs; unfold wsz
      rw [if_neg (by decide), if_pos rfl]
      show 1 + wsz true _ = _
      rw [wsz_plain _ true _ (fun c hc => itoa_plain hc)]
      have : wsz true (34 :: r) = 1 + wsz false r := by
        conv => lhs; unfold wsz
        rw [if_neg (by decide), if_pos rfl]; rfl
      rw [this]; omega
    refine ⟨?_, fun r => ?_⟩
    · rw [e, wsz_nil]; simp
    · have e2 : (34 :: (Lib.itoa n ++ [34])) ++ 32 :: r = 34 :: (Lib.itoa n ++ 34 :: (32 :: r)) := by simp
      rw [e2, e, wsz_blank]; simp
  intro t ht
  unfold badN at ht
  simp only [List.mem_cons, List.not_mem_nil, or_false] at ht
  rcases ht with rfl | rfl | rfl | rfl | rfl | rfl | rfl | rfl | rfl | rfl
  · exact key [48 :: Lib.itoa n] _ (by simp [jn]) (by simp; exact ⟨cl1 48 (by unfold plainB; decide), h10⟩) (by simp [jn]; omega) (.inl (num_zero hne))
  · exact key [43 :: Lib.itoa n] _ (by simp [jn]) (by simp; exact ⟨cl1 43 (by unfold plainB; decide), h10⟩) (by simp [jn]; omega) (.inl (num_other (c := 43) (by simp) (by decide) (.inl (by decide))))
  · exact key [[], Lib.itoa n] _ (by simp [jn]) (by simp; exact ⟨cln, hd, h10⟩) (by simp [jn]; omega) (.inl numO_nil)
  · exact key [Lib.itoa n, []] _ (by simp [jn]) (by simp; exact ⟨⟨hd, h10⟩, cln⟩) (by simp [jn]; omega) (.inr (by simp))
  · exact key [34 :: (Lib.itoa n ++ [34])] _ (by simp [jn]) (by simp; exact ⟨clq, h10⟩) (by simp [jn]; omega) (.inl (num_other (c := 34) (by simp) (by decide) (.inl (by decide))))
  · exact key [] _ (by simp [jn]) (fun x hx => by cases hx) (by simp [jn]) (.inl numO_nil)
  · exact key [Lib.itoa n, Lib.itoa n] _ (by simp [jn]) (by simp; exact ⟨hd, h10⟩) (by simp [jn]; omega) (.inr (by simp))
  · exact ⟨by kernel_rfl, by simp⟩
  · exact ⟨by kernel_rfl, by simp⟩
  · exact ⟨by kernel_rfl, by simp⟩
/-- what is printed -/
abbrev n1 (n : Int) : Cm := ⟨2, 0, 0, ⟨17, [], [], [], [], 0, n, []⟩, []⟩
abbrev n2 (q : Int) : Cm := ⟨2, 0, 0, ⟨12, [], [], [], [], q, 0, []⟩, []⟩
abbrev n9 (n q : Int) : Cm := ⟨1, n, q, ⟨0, [], [], [], [], 0, 0, []⟩, []⟩
abbrev N3 (n q : Int) : List Cm := [n1 n, n2 q, n9 n q]
theorem n3_no (n q : Int) : noSh (N3 n q) = false := by rfl
theorem n3_prE {n q : Int} (hn : In64 n) (hq : In64 q) : prE (N3 n q) = 0 := by
  have h := (txt_same (n3_no n q)).1
  have hl := txFlines (n3_no n q)
  have ln := Lib.itoa_length_le n hn.1 hn.2
  have lq := Lib.itoa_length_le q hq.1 hq.2
  have e1 : lineF (shD (n1 n)) (n1 n) = fall ++ 32 :: Lib.itoa n := by
    show fall ++ jn [Lib.itoa n] = _
    simp [jn]
  have e2 : lineF (shD (n2 q)) (n2 q) = [115, 105, 110, 99, 101] ++ 32 :: 34 :: 34 :: 32 :: Lib.itoa q := by
    show [115, 105, 110, 99, 101] ++ jn [quo [], Lib.itoa q] = _
    simp [jn, quo]
  have e3 : lineF (shD (n9 n q)) (n9 n q) = [119, 111, 114, 108, 100] ++ 32 :: Lib.itoa n ++ 32 :: Lib.itoa q := by
    show [119, 111, 114, 108, 100] ++ jn [Lib.itoa n, Lib.itoa q] = _
    simp [jn]
  have et : txF (N3 n q) = lineF (shD (n1 n)) (n1 n) ++ [10] ++ (lineF (shD (n2 q)) (n2 q) ++ [10]) ++ (lineF (shD (n9 n q)) (n9 n q) ++ [10]) := by
    simp [txF, txtF]
  have hlong : isLongF (txF (N3 n q)) = false := by
    rw [isLong_lines _ _ hl]
    simp only [List.map_cons, List.map_nil]
    rw [et, e1, e2, e3]
    generalize Lib.itoa n = a at *
    generalize Lib.itoa q = b at *
    have x0 : decide (65536 < (fall ++ 32 :: a ++ [10] ++ ([115, 105, 110, 99, 101] ++ 32 :: 34 :: 34 :: 32 :: b ++ [10]) ++ ([119, 111, 114, 108, 100] ++ 32 :: a ++ 32 :: b ++ [10])).length) = false := decide_eq_false (by simp; omega)
    have x1 : decide (8192 < (fall ++ 32 :: a).length) = false := decide_eq_false (by simp; omega)
    have x2 : decide (8192 < ([115, 105, 110, 99, 101] ++ 32 :: 34 :: 34 :: 32 :: b).length) = false := decide_eq_false (by simp; omega)
    have x3 : decide (8192 < ([119, 111, 114, 108, 100] ++ 32 :: a ++ 32 :: b).length) = false := decide_eq_false (by simp; omega)
    rw [x0]
    simp only [List.any_cons, List.any_nil]
    rw [x1, x2, x3]
    rfl
  unfold prE
  rw [n3_no, if_neg (by decide), h, hlong]
  rfl
theorem n3_ok {n q : Int} (hn : In64 n) (hq : In64 q) : ∀ c ∈ N3 n q, OkC c := by
  intro c hc
  have : c = n1 n ∨ c = n2 q ∨ c = n9 n q := by simpa using hc
  have z : ∀ k : Int, 0 ≤ k → k ≤ 100 → In64 k := fun k h1 h2 => ⟨by omega, by omega⟩
  rcases this with rfl | rfl | rfl
  · exact ⟨z 2 (by decide) (by decide), z 0 (by decide) (by decide), z 0 (by decide) (by decide), z 17 (by decide) (by decide), z 0 (by decide) (by decide), hn, fun x hx => by cases hx⟩
  · exact ⟨z 2 (by decide) (by decide), z 0 (by decide) (by decide), z 0 (by decide) (by decide), z 12 (by decide) (by decide), hq, z 0 (by decide) (by decide), fun x hx => by cases hx⟩
  · exact ⟨z 1 (by decide) (by decide), hn, hq, z 0 (by decide) (by decide), z 0 (by decide) (by decide), z 0 (by decide) (by decide), fun x hx => by cases hx⟩
theorem prTlen (L : List Cm) : (prT L).length ≤ 65536 := by
  unfold prT
  split
  · simp
  · split
    · simp
    · rename_i h
      unfold isLongF at h
      simp at h
      omega
theorem n3_len {n q : Int} (hn : In64 n) (hq : In64 q) : (prT (N3 n q)).length ≤ 65536 := prTlen _
theorem n3_back {n q : Int} (hn : In64 n) (hq : In64 q) : prsE (prT (N3 n q)) = 0 ∧ prsL (prT (N3 n q)) = N3 n q := by
  have h := print_back (n3_ok hn hq) (n3_prE hn hq)
  refine ⟨h.1, h.2.1.trans ?_⟩
  rfl
/-- a text in quotes in the longest way -/
def hx4 (c : UInt8) : By := [92, 120, hxd (c.toNat / 16), hxd (c.toNat % 16)]
def hxs (s : By) : By := s.flatMap hx4
def lgq (s : By) : By := 34 :: (hxs s ++ [34])
theorem hxs_len : ∀ s : By, (hxs s).length = 4 * s.length
  | [] => rfl
  | c :: s => by
    unfold hxs
    rw [List.flatMap_cons, List.length_append, List.length_cons]
    have := hxs_len s
    unfold hxs at this
    rw [this]
    show 4 + _ = _
    omega
theorem hxs_append (a b : By) : hxs (a ++ b) = hxs a ++ hxs b := by unfold hxs; rw [List.flatMap_append]
theorem lgq_len (s : By) : (lgq s).length = 4 * s.length + 2 := by
  unfold lgq
  rw [List.length_cons, List.length_append, hxs_len]; rfl
theorem wsz_hx (c : UInt8) (r : By) : wsz true (hx4 c ++ r) = 4 + wsz true r := by
  have hc : c.toNat < 256 := c.toNat_lt
  have a := hxd_dg (n := c.toNat / 16) (by omega)
  have b := hxd_dg (n := c.toNat % 16) (by omega)
  show wsz true (92 :: 120 :: _ :: _ :: r) = _
  rw [wsz_esc, wsz_q1 _ a.1 a.2.1, wsz_q1 _ b.1 b.2.1]
  omega
theorem wsz_hxs : ∀ (s r : By), wsz true (hxs s ++ r) = (hxs s).length + wsz true r
  | [], r => by simp [hxs]
  | c :: s, r => by
    have ih := wsz_hxs s r
    have e : hxs (c :: s) = hx4 c ++ hxs s := by simp [hxs]
    rw [e, List.append_assoc, wsz_hx, ih, List.length_append]
    show _ = 4 + _ + _
    omega
theorem dec_hx (c : UInt8) (r : By) : decF (hx4 c ++ r) = (decF r).map (c :: ·) := by
  have hc : c.toNat < 256 := c.toNat_lt
  have a := hxd_dg (n := c.toNat / 16) (by omega)
  have b := hxd_dg (n := c.toNat % 16) (by omega)
  show decF (92 :: 120 :: _ :: _ :: r) = _
  conv => lhs; unfold decF
  rw [if_neg (by decide), if_neg (by decide)]
  simp only
  rw [if_neg (by decide), if_pos ⟨trivial, by rw [a.2.2.2.2]; rfl, by rw [b.2.2.2.2]; rfl⟩, a.2.2.2.2, b.2.2.2.2]
  simp only [Option.getD_some]
  rw [show 16 * (c.toNat / 16) + c.toNat % 16 = c.toNat by omega]
  simp
theorem dec_hxs : ∀ (s r : By), decF (hxs s ++ r) = (decF r).map (s ++ ·)
  | [], r => by simp [hxs]
  | c :: s, r => by
    have ih := dec_hxs s r
    have e : hxs (c :: s) = hx4 c ++ hxs s := by simp [hxs]
    rw [e, List.append_assoc, dec_hx, ih]
    cases decF r <;> simp
theorem dec_none (s r : By) (h : decF r = none) : decF (hxs s ++ r) = none := by rw [dec_hxs, h]; rfl
abbrev mk5 : By := [109, 97, 107, 101, 32]
abbrev makeS : Shp := ⟨[109, 97, 107, 101], 2, 1, [98]⟩
theorem make_named : shpNamed [109, 97, 107, 101] = some makeS := by kernel_rfl
theorem make_words {x : By} (h : wsz false x = x.length) : wds (mk5 ++ x) = [[109, 97, 107, 101], x] := by
  have c := cl_plain (w := [109, 97, 107, 101]) (by unfold plainB; decide)
  have e : mk5 ++ x = [109, 97, 107, 101] ++ 32 :: x := rfl
  rw [e, wds_cut (by rw [c.2 x]; simp), c.2 x]
  have e2 : ([109, 97, 107, 101] ++ 32 :: x : By).take ([109, 97, 107, 101] : By).length = [109, 97, 107, 101] := rfl
  have e3 : ([109, 97, 107, 101] ++ 32 :: x : By).drop (([109, 97, 107, 101] : By).length + 1) = x := rfl
  rw [e2, e3, wds_all h]
abbrev mkC (s : By) : Cm := ⟨2, 0, 0, ⟨1, s, [], [], [], 0, 0, []⟩, []⟩
theorem make_pl {x : By} (h : wsz false x = x.length) : plF (mk5 ++ x) = (txtO x).map mkC := by
  have z : rdAll makeS [x] = ({ cm0 2 1 with st := { (cm0 2 1).st with bucket := (rtxt ([x], false)).1 } }, (rtxt ([x], false)).2) := rfl
  rw [pl_named (make_words h) make_named _ z]
  cases hx : txtO x with
  | none => rw [if_pos (by left; simp [rtxt, nxtW, hx])]; rfl
  | some s =>
    rw [if_neg (by simp [rtxt, nxtW, hx])]
    simp only [rtxt, nxtW, List.headD_cons, hx]
    rfl
theorem make_prs {x : By} (h : wsz false x = x.length) (h10 : (10 : UInt8) ∉ x) (hl : x.length ≤ 8100) : (txtO x = none → prsE (mk5 ++ x) = 110) ∧ (∀ s, txtO x = some s → prsE (mk5 ++ x) = 0 ∧ prsL (mk5 ++ x) = [mkC s]) := by
  have a10 : (10 : UInt8) ∉ mk5 ++ x := fun q => by
    rcases List.mem_append.1 q with e | e
    · revert e; decide
    · exact h10 e
  have hle : (mk5 ++ x).length ≤ 8192 := by rw [List.length_append]; show 5 + _ ≤ _; omega
  refine ⟨fun q => (prs_bad a10 (by simp) rfl hle (by rw [make_pl h, q]; rfl)).1, fun s q => prs_good a10 (by simp) rfl hle (by rw [make_pl h, q]; rfl)⟩
theorem wsz_open (r : By) : wsz false (34 :: r) = 1 + wsz true r := by
  conv => lhs; unfold wsz
  rw [if_neg (by decide), if_pos rfl]; rfl
theorem wsz_shut (r : By) : wsz true (34 :: r) = 1 + wsz false r := by
  conv => lhs; unfold wsz
  rw [if_neg (by decide), if_pos rfl]; rfl
theorem hx_no10 (c : UInt8) : (10 : UInt8) ∉ hx4 c := by
  have hc : c.toNat < 256 := c.toNat_lt
  have a := hxd_dg (n := c.toNat / 16) (by omega)
  have b := hxd_dg (n := c.toNat % 16) (by omega)
  intro q
  simp [hx4] at q
  rcases q with q | q
  · exact a.2.2.1 q.symm
  · exact b.2.2.1 q.symm
theorem hxs_no10 (s : By) : (10 : UInt8) ∉ hxs s := by
  unfold hxs
  intro q
  obtain ⟨c, _, hc⟩ := List.mem_flatMap.1 q
  exact hx_no10 c hc
/-- the long way with something put between -/
theorem ins_prs (a b i : By) (hi : wsz true (i ++ (hxs b ++ [34])) = i.length + wsz true (hxs b ++ [34])) (h10 : (10 : UInt8) ∉ i) (hl : 4 * a.length + 4 * b.length + i.length ≤ 8090) (hd : decF (i ++ hxs b) = none) : prsE (mk5 ++ (34 :: (hxs a ++ (i ++ (hxs b ++ [34]))))) = 110 := by
  have hw : wsz false (34 :: (hxs a ++ (i ++ (hxs b ++ [34])))) = (34 :: (hxs a ++ (i ++ (hxs b ++ [34])))).length := by
    rw [wsz_open, wsz_hxs, hi, wsz_hxs, wsz_shut, wsz_nil]
    simp only [List.length_cons, List.length_append, List.length_nil]
    omega
  refine (make_prs hw ?_ ?_).1 ?_
  · intro q
    simp only [List.mem_cons, List.mem_append] at q
    rcases q with q | q | q | q | q
    · revert q; decide
    · exact hxs_no10 a q
    · exact h10 q
    · exact hxs_no10 b q
    · revert q; simp
  · have := hxs_len a
    have := hxs_len b
    simp only [List.length_cons, List.length_append, List.length_nil]
    omega
  · have e : (34 :: (hxs a ++ (i ++ (hxs b ++ [34]))) : By) = 34 :: ((hxs a ++ (i ++ hxs b)) ++ [34]) := by simp
    rw [e, txtO_of, dec_none a _ hd]
theorem quote_prs (s : By) (hs : s.length ≤ 2000) : prsE (mk5 ++ quo s) = 0 ∧ prsL (mk5 ++ quo s) = [mkC s] ∧ prsE (mk5 ++ lgq s) = 0 ∧ prsL (mk5 ++ lgq s) = [mkC s] ∧ (quo s).length ≤ (lgq s).length := by
  have hq4 : ∀ c : UInt8, (qb c).length ≤ 4 := fun c => by
    unfold qb
    split
    · simp
    · split <;> simp
  have hlen : ∀ s : By, (s.flatMap qb).length ≤ 4 * s.length := by
    intro s
    induction s with
    | nil => simp
    | cons c s ih =>
      rw [List.flatMap_cons, List.length_append, List.length_cons]
      have := hq4 c
      omega
  have l1 : (quo s).length ≤ (lgq s).length := by
    rw [lgq_len]
    unfold quo
    have := hlen s
    simp only [List.length_cons, List.length_append, List.length_nil]
    omega
  have l2 := lgq_len s
  have a := (make_prs (x := quo s) (cl_quo s).1 (quo_no10 s) (by omega)).2 s (txtO_quo s)
  have hw : wsz false (lgq s) = (lgq s).length := by
    rw [lgq_len]
    unfold lgq
    rw [wsz_open, wsz_hxs, wsz_shut, wsz_nil, hxs_len]; omega
  have b := (make_prs (x := lgq s) hw (by
    intro q
    unfold lgq at q
    simp only [List.mem_cons, List.mem_append] at q
    rcases q with q | q | q
    · revert q; decide
    · exact hxs_no10 s q
    · revert q; simp) (by omega)).2 s (by
      unfold lgq
      rw [txtO_of]
      have := dec_hxs s []
      rw [List.append_nil] at this
      rw [this]
      simp [decF])
  exact ⟨a.1, a.2, b.1, b.2, l1⟩
theorem lgq_cut (s : By) (k : Nat) (hk : k ≤ s.length) : (lgq s).take (1 + 4 * k) = 34 :: hxs (s.take k) ∧ (lgq s).drop (1 + 4 * k) = hxs (s.drop k) ++ [34] := by
  have e : lgq s = 34 :: hxs (s.take k) ++ (hxs (s.drop k) ++ [34]) := by
    unfold lgq
    conv => lhs; rw [← List.take_append_drop k s, hxs_append]
    simp
  have hl : (34 :: hxs (s.take k)).length = 1 + 4 * k := by
    rw [List.length_cons, hxs_len, List.length_take]; omega
  constructor
  · rw [e]; exact List.take_left' hl
  · rw [e]; exact List.drop_left' hl
/-- the four that are none -/
theorem bad_q (s : By) (k : Nat) (hs : s.length ≤ 2000) (hk : k ≤ s.length) :
    prsE (mk5 ++ ((lgq s).take (1 + 4 * k) ++ ([92, 113] ++ (lgq s).drop (1 + 4 * k)))) = 110 ∧
    prsE (mk5 ++ (lgq s).take ((lgq s).length - 1)) = 110 ∧
    prsE (mk5 ++ ((lgq s).take (1 + 4 * k) ++ ([92, 120, 65, 48] ++ (lgq s).drop (1 + 4 * k)))) = 110 ∧
    ∀ b : UInt8, (b < 32 ∨ 126 < b) → b ≠ 10 → prsE (mk5 ++ ((lgq s).take (1 + 4 * k) ++ ([b] ++ (lgq s).drop (1 + 4 * k)))) = 110 := by
  obtain ⟨e1, e2⟩ := lgq_cut s k hk
  have hl : 4 * (s.take k).length + 4 * (s.drop k).length ≤ 8000 := by rw [List.length_take, List.length_drop]; omega
  rw [e1, e2]
  have cc : ∀ i : By, (34 :: hxs (s.take k)) ++ (i ++ (hxs (s.drop k) ++ [34])) = 34 :: (hxs (s.take k) ++ (i ++ (hxs (s.drop k) ++ [34]))) := fun i => rfl
  refine ⟨?_, ?_, ?_, ?_⟩
  · rw [cc]
    refine ins_prs _ _ [92, 113] (wsz_esc ..) (by decide) (by simp; omega) ?_
    show decF (92 :: 113 :: hxs (s.drop k)) = none
    unfold decF
    rw [if_neg (by decide), if_neg (by decide)]
    simp only
    rw [if_neg (by decide)]
    split
    · rw [if_neg (by rintro ⟨q, _⟩; revert q; decide)]
    · rfl
  · have e : (lgq s).take ((lgq s).length - 1) = 34 :: hxs s := by
      rw [lgq_len]
      have := (lgq_cut s s.length (Nat.le_refl _)).1
      rw [List.take_length] at this
      rw [← this]; congr 1; omega
    rw [e]
    have hw : wsz false (34 :: hxs s) = (34 :: hxs s).length := by
      have := wsz_hxs s []
      rw [List.append_nil, wsz_nil] at this
      rw [wsz_open, this, List.length_cons]; omega
    refine (make_prs hw (by
      intro q
      rcases List.mem_cons.1 q with q | q
      · revert q; decide
      · exact hxs_no10 s q) (by rw [List.length_cons, hxs_len]; omega)).1 ?_
    unfold txtO
    split
    · rename_i h
      exfalso
      rcases List.eq_nil_or_concat s with rfl | ⟨a, c, rfl⟩
      · simp [hxs] at h
      · have hc : c.toNat < 256 := c.toNat_lt
        have b := hxd_dg (n := c.toNat % 16) (by omega)
        have h3 := h.2.2
        rw [List.concat_eq_append, hxs_append] at h3
        have e9 : (34 :: (hxs a ++ hxs [c]) : By) = (34 :: (hxs a ++ [92, 120, hxd (c.toNat / 16)])) ++ [hxd (c.toNat % 16)] := by simp [hxs, hx4]
        rw [e9, List.getLast?_append] at h3
        simp at h3
        exact b.2.1 h3
    · rfl
  · rw [cc]
    refine ins_prs _ _ [92, 120, 65, 48] ?_ (by decide) (by simp; omega) ?_
    · show wsz true (92 :: 120 :: 65 :: 48 :: (hxs (s.drop k) ++ [34])) = 4 + wsz true (hxs (s.drop k) ++ [34])
      rw [wsz_esc, wsz_q1 _ (by decide) (by decide), wsz_q1 _ (by decide) (by decide)]
      omega
    · show decF (92 :: 120 :: 65 :: 48 :: hxs (s.drop k)) = none
      unfold decF
      rw [if_neg (by decide), if_neg (by decide)]
      simp only
      rw [if_neg (by decide), if_neg (by rintro ⟨_, q, _⟩; revert q; decide)]
  · intro b hb h10
    rw [cc]
    have n92 : b ≠ 92 := fun e => by subst e; revert hb; decide
    have n34 : b ≠ 34 := fun e => by subst e; revert hb; decide
    refine ins_prs _ _ [b] (wsz_q1 _ n92 n34) (by simp; exact Ne.symm h10) (by simp; omega) ?_
    show decF (b :: hxs (s.drop k)) = none
    unfold decF
    rw [if_pos (by rcases hb with q | q; exact .inl q; exact .inr (.inl q))]
theorem quo_bytes (s : By) : ∀ c ∈ quo s, ¬ (c < 32) ∧ ¬ (126 < c) := by
  have hb : ∀ m : Fin 16, ¬ (hxd m.val < 32) ∧ ¬ (126 < hxd m.val) := by decide +kernel
  have hq : ∀ d c : UInt8, c ∈ qb d → ¬ (c < 32) ∧ ¬ (126 < c) := fun d c hc => by
    have hd : d.toNat < 256 := d.toNat_lt
    unfold qb at hc
    split at hc
    · rename_i h
      simp at hc
      rcases hc with rfl | rfl
      · decide
      · rcases h with rfl | rfl <;> decide
    · split at hc
      · simp at hc
        rcases hc with rfl | rfl | rfl | rfl
        · decide
        · decide
        · exact hb ⟨d.toNat / 16, by omega⟩
        · exact hb ⟨d.toNat % 16, by omega⟩
      · rename_i h
        simp at hc
        subst hc
        exact ⟨fun q => h (.inl q), fun q => h (.inr q)⟩
  intro c hc
  unfold quo at hc
  rcases List.mem_cons.1 hc with rfl | q
  · decide
  · rcases List.mem_append.1 q with q | q
    · obtain ⟨d, _, h⟩ := List.mem_flatMap.1 q
      exact hq d c h
    · simp at q; subst q; decide
end Go.Proofs.YtgbkloihclbimaaDoor
