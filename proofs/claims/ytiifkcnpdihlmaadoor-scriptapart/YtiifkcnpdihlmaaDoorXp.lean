/- Layer 22 without the model: lines that are cut, and what Print tells is read. -/
import Derived.Test.YtiifkcnpdihlmaaDoorXo
namespace Go.Proofs.YtiifkcnpdihlmaaDoor
set_option maxRecDepth 100000
set_option linter.unusedVariables false
set_option linter.unusedSimpArgs false
def wfull (ln : By) (d : Wd) : By := ln ++ 32 :: wtx d
theorem fulls_eq : ∀ (ds : List Wd) (ln : By), ds.foldl wfull ln = ln ++ jn (ds.map wtx)
  | [], ln => by simp [jn]
  | d :: ds, ln => by
    rw [List.foldl_cons, fulls_eq ds]
    simp [wfull, jn]
theorem full_mono : ∀ (ds : List Wd) (ln : By), ln.length ≤ (ds.foldl wfull ln).length
  | [], ln => Nat.le_refl _
  | d :: ds, ln => by
    have := full_mono ds (wfull ln d)
    rw [List.foldl_cons]
    have h : ln.length ≤ (wfull ln d).length := by unfold wfull; rw [List.length_append]; omega
    omega
theorem qb_pos (c : UInt8) : 1 ≤ (qb c).length := by
  unfold qb
  split
  · simp
  · split <;> simp
theorem quo_ge (s : By) : s.length + 2 ≤ (quo s).length := by
  unfold quo
  have : ∀ s : By, s.length ≤ (s.flatMap qb).length := by
    intro s
    induction s with
    | nil => simp
    | cons c s ih =>
      rw [List.flatMap_cons, List.length_append, List.length_cons]
      have := qb_pos c
      omega
  have := this s
  simp only [List.length_cons, List.length_append, List.length_nil]; omega
theorem cutW_same {d : Wd} (h : (wtx d).length ≤ 8192) : cutW d = d := by
  cases d with
  | n i => rfl
  | t s =>
    have := quo_ge s
    simp only [wtx] at h
    simp only [cutW]
    rw [List.take_of_length_le (by omega)]
theorem cut_eq : ∀ (ds : List Wd) (ln : By), (ds.foldl wfull ln).length ≤ 8192 → ds.foldl wcut ln = ds.foldl wfull ln
  | [], ln, _ => rfl
  | d :: ds, ln, h => by
    rw [List.foldl_cons] at h
    have h1 := full_mono ds (wfull ln d)
    have h2 : (wfull ln d).length = ln.length + (wtx d).length + 1 := by unfold wfull; rw [List.length_append, List.length_cons]; omega
    have e : wcut ln d = wfull ln d := by
      unfold wcut wfull
      rw [if_neg (by omega), cutW_same (by omega)]
    rw [List.foldl_cons, List.foldl_cons, e]
    exact cut_eq ds _ h
theorem cut_stay : ∀ (ds : List Wd) (ln : By), 8192 < ln.length → ds.foldl wcut ln = ln
  | [], ln, _ => rfl
  | d :: ds, ln, h => by
    have e : wcut ln d = ln := by unfold wcut; rw [if_pos h]
    rw [List.foldl_cons, e]
    exact cut_stay ds ln h
theorem cut_long : ∀ (ds : List Wd) (ln : By), 8192 < (ds.foldl wfull ln).length → 8192 < (ds.foldl wcut ln).length
  | [], ln, h => h
  | d :: ds, ln, h => by
    by_cases hl : 8192 < ln.length
    · rw [cut_stay _ _ hl]; exact hl
    rw [List.foldl_cons] at h ⊢
    by_cases hd : cutW d = d
    · have e : wcut ln d = wfull ln d := by unfold wcut wfull; rw [if_neg hl, hd]
      rw [e]
      exact cut_long ds _ h
    · have hb : 8192 < (wcut ln d).length := by
        unfold wcut
        rw [if_neg hl, List.length_append, List.length_cons]
        cases d with
        | n i => exact absurd rfl hd
        | t s =>
          have hs : 8192 < s.length := Nat.lt_of_not_le fun q => hd (by simp only [cutW]; rw [List.take_of_length_le q])
          have := quo_ge (s.take 8192)
          rw [List.length_take] at this
          simp only [cutW, wtx]
          omega
      rw [cut_stay _ _ hb]; exact hb
theorem lineP_eq {s : Shp} {c : Cm} (h : (lineF s c).length ≤ 8192) : lineP s c = lineF s c := by
  unfold lineP lineF at *
  rw [← fulls_eq] at h ⊢
  exact cut_eq _ _ h
theorem lineP_long {s : Shp} {c : Cm} (h : 8192 < (lineF s c).length) : 8192 < (lineP s c).length := by
  unfold lineP lineF at *
  rw [← fulls_eq] at h
  exact cut_long _ _ h
theorem cuts_no10 : ∀ (ds : List Wd) (ln : By), (10 : UInt8) ∉ ln → (10 : UInt8) ∉ ds.foldl wcut ln
  | [], ln, h => h
  | d :: ds, ln, h => by
    rw [List.foldl_cons]
    refine cuts_no10 ds _ ?_
    unfold wcut
    split
    · exact h
    · intro q
      rcases List.mem_append.1 q with e | e
      · exact h e
      · rcases List.mem_cons.1 e with e | e
        · revert e; decide
        · exact wtx_no10 _ e
theorem lineP_no10 {s : Shp} (hs : s ∈ shps) (c : Cm) : (10 : UInt8) ∉ lineP s c := cuts_no10 _ _ (fun e => ((shps_ok s hs).2.1 _ e).2.2.2 rfl)
/-- lines laid one behind the other -/
theorem lnl_flat : ∀ (ls : List By), (∀ l ∈ ls, (10 : UInt8) ∉ l) → lnl (ls.flatMap (· ++ [10])) = ls
  | [], _ => rfl
  | l :: ls, h => by
    rw [List.flatMap_cons, List.append_assoc, List.singleton_append, lnl_cons _ _ (h l (by simp)), lnl_flat ls (fun x hx => h x (by simp [hx]))]
def shD (c : Cm) : Shp := (shpOf c).getD ⟨[], 0, 0, []⟩
def txP (L : List Cm) : By := L.flatMap (fun c => lineP (shD c) c ++ [10])
def noSh (L : List Cm) : Bool := L.any (fun c => (shpOf c).isNone)
def prE (L : List Cm) : Int := if noSh L = true then 110 else if isLongF (txP L) = true then 3 else 0
def prT (L : List Cm) : By := if noSh L = true then [] else if isLongF (txP L) = true then [] else txP L
/-- the document's text -/
def txF (L : List Cm) : By := txtF (L.map fun c => (shD c, c))
theorem sh_mem {L : List Cm} (h : noSh L = false) : ∀ c ∈ L, shD c ∈ shps := by
  intro c hc
  unfold noSh at h
  have := List.any_eq_false.1 h c hc
  unfold shD
  cases hq : shpOf c with
  | none => rw [hq] at this; simp at this
  | some s => exact List.mem_of_find?_eq_some hq
theorem isLong_lines (t : By) (ls : List By) (h : lnl t = ls) : isLongF t = (decide (65536 < t.length) || ls.any (fun l => decide (8192 < l.length)) || decide (1024 < ls.length)) := by
  unfold isLongF; rw [h]
theorem txFlines {L : List Cm} (h : noSh L = false) : lnl (txF L) = L.map (fun c => lineF (shD c) c) := by
  unfold txF
  rw [lnl_txt _ (fun x hx => by obtain ⟨c, hc, rfl⟩ := List.mem_map.1 hx; exact sh_mem h c hc), List.map_map]
  rfl
theorem txP_lines {L : List Cm} (h : noSh L = false) : lnl (txP L) = L.map (fun c => lineP (shD c) c) := by
  have e : txP L = (L.map (fun c => lineP (shD c) c)).flatMap (· ++ [10]) := by unfold txP; rw [List.flatMap_map]
  rw [e, lnl_flat _ (fun l hl => by obtain ⟨c, hc, rfl⟩ := List.mem_map.1 hl; exact lineP_no10 (sh_mem h c hc) c)]
/-- what is cut is too long, and what isn't is whole -/
theorem txt_same {L : List Cm} (h : noSh L = false) : isLongF (txP L) = isLongF (txF L) ∧ (isLongF (txF L) = false → txP L = txF L) := by
  by_cases hl : ∃ c ∈ L, 8192 < (lineF (shD c) c).length
  · obtain ⟨c, hc, hlen⟩ := hl
    have a : isLongF (txP L) = true := by
      have q : (L.map (fun c => lineP (shD c) c)).any (fun l => decide (8192 < l.length)) = true := List.any_eq_true.2 ⟨lineP (shD c) c, List.mem_map.2 ⟨c, hc, rfl⟩, decide_eq_true (lineP_long hlen)⟩
      rw [isLong_lines _ _ (txP_lines h), q]; simp
    have b : isLongF (txF L) = true := by
      have q : (L.map (fun c => lineF (shD c) c)).any (fun l => decide (8192 < l.length)) = true := List.any_eq_true.2 ⟨lineF (shD c) c, List.mem_map.2 ⟨c, hc, rfl⟩, decide_eq_true hlen⟩
      rw [isLong_lines _ _ (txFlines h), q]; simp
    exact ⟨by rw [a, b], fun q => by rw [b] at q; cases q⟩
  · have e : txP L = txF L := by
      unfold txP txF txtF
      rw [List.flatMap_map]
      have : ∀ M : List Cm, (∀ c ∈ M, c ∈ L) → M.flatMap (fun c => lineP (shD c) c ++ [10]) = M.flatMap (fun c => lineF (shD c) c ++ [10]) := by
        intro M
        induction M with
        | nil => intro _; rfl
        | cons c M ih =>
          intro hM
          rw [List.flatMap_cons, List.flatMap_cons, ih (fun x hx => hM x (by simp [hx])), lineP_eq (Nat.le_of_not_lt fun q => hl ⟨c, hM c (by simp), q⟩)]
      exact this L (fun c hc => hc)
    exact ⟨by rw [e], fun _ => e⟩
/-- what Print tells Parse reads as the same commands, cleared -/
theorem print_back {L : List Cm} (ok : ∀ c ∈ L, OkC c) (h : prE L = 0) : prsE (prT L) = 0 ∧ prsL (prT L) = L.map (fun c => clr (shD c) c) ∧ prT L = txF L := by
  unfold prE at h
  cases hn : noSh L with
  | true => rw [hn] at h; simp at h
  | false =>
    rw [hn, if_neg (by decide)] at h
    cases hl : isLongF (txP L) with
    | true => rw [hl] at h; simp at h
    | false =>
      have ht := txt_same hn
      rw [hl] at ht
      have e := ht.2 ht.1.symm
      have hp : prT L = txF L := by unfold prT; rw [hn, if_neg (by decide), hl, if_neg (by decide), e]
      have hb := prs_back (L.map fun c => (shD c, c)) (fun x hx => by obtain ⟨c, hc, rfl⟩ := List.mem_map.1 hx; exact ⟨sh_mem hn c hc, ok c hc⟩) ht.1.symm
      rw [hp]
      refine ⟨hb.1, ?_, rfl⟩
      have := hb.2
      rw [List.map_map] at this
      exact this
end Go.Proofs.YtiifkcnpdihlmaaDoor
