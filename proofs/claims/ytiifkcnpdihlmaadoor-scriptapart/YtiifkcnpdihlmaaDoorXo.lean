/- Layer 22 without the model: lines and texts, there and back. -/
import Derived.Test.YtiifkcnpdihlmaaDoorXn
namespace Go.Proofs.YtiifkcnpdihlmaaDoor
set_option maxRecDepth 100000
set_option linter.unusedVariables false
set_option linter.unusedSimpArgs false
/-- numbers in range -/
def In64 (n : Int) : Prop := -9223372036854775808 ≤ n ∧ n ≤ 9223372036854775807
structure OkC (c : Cm) : Prop where
  k : In64 c.kind
  a : In64 c.sectors
  b : In64 c.size
  sk : In64 c.st.kind
  q : In64 c.st.seq
  n : In64 c.st.n
  kp : ∀ x ∈ c.st.kept, In64 x
/-- a part of one command put into another -/
def setP (c : Cm) (x : Cm) (p : UInt8) : Cm :=
  if p = 83 then { x with sectors := c.sectors }
  else if p = 90 then { x with size := c.size }
  else if p = 66 then { x with bucket := c.bucket }
  else if p = 98 then { x with st := { x.st with bucket := c.st.bucket } }
  else if p = 107 then { x with st := { x.st with key := c.st.key } }
  else if p = 100 then { x with st := { x.st with data := c.st.data } }
  else if p = 113 then { x with st := { x.st with seq := c.st.seq } }
  else if p = 110 then { x with st := { x.st with n := c.st.n } }
  else if p = 109 then { x with st := { x.st with mt := x.st.mt ++ c.st.mt } }
  else if p = 99 then { x with st := { x.st with kept := x.st.kept ++ c.st.kept } }
  else x
/-- what a kind names of a command, all else zero -/
def clr (s : Shp) (c : Cm) : Cm := s.parts.foldl (setP c) (cm0 s.kind s.step)
theorem mets_back : ∀ (l : List En) (b : Bool), mets ((l.flatMap (fun e => [Wd.t e.key, Wd.t e.val])).map wtx) b = (l, b)
  | [], b => rfl
  | e :: l, b => by
    have ih := mets_back l b
    simp only [List.flatMap_cons, List.cons_append, List.nil_append, List.map_cons, wtx] at ih ⊢
    unfold mets
    rw [txtO_quo, txtO_quo]
    simp only [Option.isNone_some, Bool.or_false, Option.getD_some]
    rw [ih]
theorem kpts_back : ∀ (l : List Int) (b : Bool), (∀ x ∈ l, In64 x) → kpts ((l.map Wd.n).map wtx) b = (l, b)
  | [], b, _ => rfl
  | x :: l, b, h => by
    have hx := h x (by simp)
    have ih := kpts_back l b (fun y hy => h y (by simp [hy]))
    simp only [List.map_cons, wtx] at ih ⊢
    unfold kpts
    rw [numO_itoa hx.1 hx.2]
    simp only [Option.isNone_some, Bool.or_false, Option.getD_some]
    rw [ih]
theorem rnum_back {n : Int} (h : In64 n) (ws : List By) (b : Bool) : rnum (Lib.itoa n :: ws, b) = (n, (ws, b)) := by
  unfold rnum nxtW
  simp only [List.headD_cons, List.tail_cons]
  rw [numO_itoa h.1 h.2]
  simp
theorem rtxt_back (s : By) (ws : List By) (b : Bool) : rtxt (quo s :: ws, b) = (s, (ws, b)) := by
  unfold rtxt nxtW
  simp only [List.headD_cons, List.tail_cons]
  rw [txtO_quo]
  simp
/-- one part: those that take all that is left want nothing behind them -/
theorem rdp_back {c : Cm} (ok : OkC c) (x : Cm) (p : UInt8) (ws : List By) (b : Bool) (h : (p = 109 ∨ p = 99) → ws = []) : rdp (x, ((pw c p).map wtx ++ ws, b)) p = (setP c x p, (ws, b)) := by
  by_cases e83 : p = 83
  · subst e83
    have q := rnum_back ok.a ws b
    have r : (pw c 83).map wtx ++ ws = Lib.itoa c.sectors :: ws := rfl
    have z : ∀ y, rdp (x, y) 83 = ({ x with sectors := (rnum y).1 }, (rnum y).2) := fun _ => rfl
    rw [r, z, q]; rfl
  by_cases e90 : p = 90
  · subst e90
    have q := rnum_back ok.b ws b
    have r : (pw c 90).map wtx ++ ws = Lib.itoa c.size :: ws := rfl
    have z : ∀ y, rdp (x, y) 90 = ({ x with size := (rnum y).1 }, (rnum y).2) := fun _ => rfl
    rw [r, z, q]; rfl
  by_cases e66 : p = 66
  · subst e66
    have q := rtxt_back c.bucket ws b
    have r : (pw c 66).map wtx ++ ws = quo c.bucket :: ws := rfl
    have z : ∀ y, rdp (x, y) 66 = ({ x with bucket := (rtxt y).1 }, (rtxt y).2) := fun _ => rfl
    rw [r, z, q]; rfl
  by_cases e98 : p = 98
  · subst e98
    have q := rtxt_back c.st.bucket ws b
    have r : (pw c 98).map wtx ++ ws = quo c.st.bucket :: ws := rfl
    have z : ∀ y, rdp (x, y) 98 = ({ x with st := { x.st with bucket := (rtxt y).1 } }, (rtxt y).2) := fun _ => rfl
    rw [r, z, q]; rfl
  by_cases e107 : p = 107
  · subst e107
    have q := rtxt_back c.st.key ws b
    have r : (pw c 107).map wtx ++ ws = quo c.st.key :: ws := rfl
    have z : ∀ y, rdp (x, y) 107 = ({ x with st := { x.st with key := (rtxt y).1 } }, (rtxt y).2) := fun _ => rfl
    rw [r, z, q]; rfl
  by_cases e100 : p = 100
  · subst e100
    have q := rtxt_back c.st.data ws b
    have r : (pw c 100).map wtx ++ ws = quo c.st.data :: ws := rfl
    have z : ∀ y, rdp (x, y) 100 = ({ x with st := { x.st with data := (rtxt y).1 } }, (rtxt y).2) := fun _ => rfl
    rw [r, z, q]; rfl
  by_cases e113 : p = 113
  · subst e113
    have q := rnum_back ok.q ws b
    have r : (pw c 113).map wtx ++ ws = Lib.itoa c.st.seq :: ws := rfl
    have z : ∀ y, rdp (x, y) 113 = ({ x with st := { x.st with seq := (rnum y).1 } }, (rnum y).2) := fun _ => rfl
    rw [r, z, q]; rfl
  by_cases e110 : p = 110
  · subst e110
    have q := rnum_back ok.n ws b
    have r : (pw c 110).map wtx ++ ws = Lib.itoa c.st.n :: ws := rfl
    have z : ∀ y, rdp (x, y) 110 = ({ x with st := { x.st with n := (rnum y).1 } }, (rnum y).2) := fun _ => rfl
    rw [r, z, q]; rfl
  by_cases e109 : p = 109
  · subst e109
    rw [h (.inl rfl), List.append_nil]
    have q := mets_back c.st.mt b
    have z : ∀ y : Rr, rdp (x, y) 109 = ({ x with st := { x.st with mt := x.st.mt ++ (mets y.1 y.2).1 } }, ([], (mets y.1 y.2).2)) := fun _ => rfl
    have r : (pw c 109).map wtx = (c.st.mt.flatMap (fun e => [Wd.t e.key, Wd.t e.val])).map wtx := rfl
    rw [r, z, q]; rfl
  by_cases e99 : p = 99
  · subst e99
    rw [h (.inr rfl), List.append_nil]
    have q := kpts_back c.st.kept b ok.kp
    have z : ∀ y : Rr, rdp (x, y) 99 = ({ x with st := { x.st with kept := x.st.kept ++ (kpts y.1 y.2).1 } }, ([], (kpts y.1 y.2).2)) := fun _ => rfl
    have r : (pw c 99).map wtx = (c.st.kept.map Wd.n).map wtx := rfl
    rw [r, z, q]; rfl
  unfold rdp pw setP
  rw [if_neg e83, if_neg e90, if_neg e66, if_neg e98, if_neg e107, if_neg e100, if_neg e113, if_neg e110, if_neg e109, if_neg e99]
  rw [if_neg e83, if_neg e90, if_neg e66, if_neg e98, if_neg e107, if_neg e100, if_neg e113, if_neg e110, if_neg e109, if_neg e99]
  rw [if_neg e83, if_neg e90, if_neg e66, if_neg e98, if_neg e107, if_neg e100, if_neg e113, if_neg e110, if_neg e109, if_neg e99]
  rfl
/-- parts of which the last alone may take all that is left -/
def okParts : By → Bool
  | [] => true
  | p :: ps => ((p != 109 && p != 99) || ps == []) && okParts ps
theorem shps_ok : ∀ s ∈ shps, okParts s.parts = true ∧ (∀ c ∈ s.name, plainB c) ∧ s.name ≠ [] ∧ s.name.head? ≠ some 35 := by
  unfold plainB
  decide +kernel
theorem rds_back {c : Cm} (ok : OkC c) : ∀ (ps : By) (x : Cm) (b : Bool), okParts ps = true → ps.foldl rdp (x, ((ps.flatMap (pw c)).map wtx, b)) = (ps.foldl (setP c) x, ([], b))
  | [], x, b, _ => rfl
  | p :: ps, x, b, h => by
    unfold okParts at h
    rw [Bool.and_eq_true] at h
    rw [List.foldl_cons, List.foldl_cons, List.flatMap_cons, List.map_append, rdp_back ok x p _ b (fun hp => ?_)]
    · exact rds_back ok ps _ b h.2
    · have h1 := h.1
      rcases hp with rfl | rfl
      · simp at h1; subst h1; rfl
      · simp at h1; subst h1; rfl
theorem rdAll_back {c : Cm} (ok : OkC c) {s : Shp} (hs : s ∈ shps) : rdAll s ((pws s c).map wtx) = (clr s c, ([], false)) := rds_back ok s.parts _ false (shps_ok s hs).1
theorem shps_names : ∀ s ∈ shps, shpNamed s.name = some s := by
  intro s hs
  have : ∀ i : Fin 22, (shps.findIdx (fun s => s.name == (shps[i.val]'(by have := i.isLt; rw [shps_len]; exact this)).name)) = i.val := by decide +kernel
  obtain ⟨i, hi, rfl⟩ := List.getElem_of_mem hs
  have h := this ⟨i, by rw [shps_len] at hi; exact hi⟩
  simp only at h
  unfold shpNamed
  have hf := List.findIdx_getElem (w := by rw [h]; exact hi) (p := fun s => s.name == shps[i].name) (xs := shps)
  rw [List.find?_eq_some_iff_getElem]
  refine ⟨by simp, i, hi, rfl, fun j hj => ?_⟩
  have := List.not_of_lt_findIdx (p := fun s => s.name == shps[i].name) (xs := shps) (i := j) (by rw [h]; exact hj)
  simpa using this
theorem line_words {s : Shp} (hs : s ∈ shps) (c : Cm) : wds (lineF s c) = s.name :: (pws s c).map wtx := by
  unfold lineF
  refine wds_jn _ _ (cl_plain (shps_ok s hs).2.1) (fun x hx => ?_)
  obtain ⟨d, _, rfl⟩ := List.mem_map.1 hx
  exact cl_wtx d
/-- a command's line is read as the command, cleared -/
theorem pl_back {c : Cm} (ok : OkC c) {s : Shp} (hs : s ∈ shps) : plF (lineF s c) = some (clr s c) := by
  unfold plF
  rw [line_words hs]
  simp only [nxtW, List.headD_cons, List.tail_cons]
  rw [shps_names s hs]
  simp [rdAll_back ok hs]
/-- no byte 10 stands in a line -/
theorem qb_no10 (c : UInt8) : (10 : UInt8) ∉ qb c := by
  have hc : c.toNat < 256 := c.toNat_lt
  unfold qb
  split
  · rename_i h
    intro q
    simp at q
    subst q
    revert h; decide
  · split
    · have a := hxd_dg (n := c.toNat / 16) (by omega)
      have b := hxd_dg (n := c.toNat % 16) (by omega)
      intro q
      simp at q
      rcases q with q | q
      · exact a.2.2.1 q.symm
      · exact b.2.2.1 q.symm
    · rename_i h
      intro q
      simp at q
      subst q
      exact h (.inl (by decide))
theorem quo_no10 (s : By) : (10 : UInt8) ∉ quo s := by
  unfold quo
  intro h
  rcases List.mem_cons.1 h with q | q
  · revert q; decide
  · rcases List.mem_append.1 q with q | q
    · obtain ⟨c, _, hc⟩ := List.mem_flatMap.1 q
      exact qb_no10 c hc
    · simp at q
theorem wtx_no10 (d : Wd) : (10 : UInt8) ∉ wtx d := by
  cases d with
  | n i => exact fun h => (itoa_plain h).2.2.2 rfl
  | t s => exact quo_no10 s
theorem jn_no10 (ws : List By) (h : ∀ w ∈ ws, (10 : UInt8) ∉ w) : (10 : UInt8) ∉ jn ws := by
  unfold jn
  intro q
  obtain ⟨w, hw, hc⟩ := List.mem_flatMap.1 q
  rcases List.mem_cons.1 hc with e | e
  · revert e; decide
  · exact h w hw e
theorem line_no10 {s : Shp} (hs : s ∈ shps) (c : Cm) : (10 : UInt8) ∉ lineF s c := by
  unfold lineF
  intro q
  rcases List.mem_append.1 q with e | e
  · exact ((shps_ok s hs).2.1 _ e).2.2.2 rfl
  · refine jn_no10 _ (fun w hw => ?_) e
    obtain ⟨d, _, rfl⟩ := List.mem_map.1 hw
    exact wtx_no10 d
theorem lnl_cons : ∀ (a t : By), (10 : UInt8) ∉ a → lnl (a ++ 10 :: t) = a :: lnl t
  | [], t, _ => by simp [lnl]
  | c :: a, t, h => by
    have hc : c ≠ 10 := fun e => h (by simp [e])
    have ih := lnl_cons a t (fun q => h (by simp [q]))
    rw [List.cons_append]
    conv => lhs; unfold lnl
    rw [if_neg hc, ih]
theorem lnl_last : ∀ (a : By), (10 : UInt8) ∉ a → a ≠ [] → lnl a = [a]
  | [], _, h => absurd rfl h
  | c :: a, h, _ => by
    have hc : c ≠ 10 := fun e => h (by simp [e])
    conv => lhs; unfold lnl
    rw [if_neg hc]
    cases a with
    | nil => rfl
    | cons d a => rw [lnl_last (d :: a) (fun q => h (by simp at q ⊢; exact .inr q)) (by simp)]
/-- the text of commands whose shapes are known -/
def txtF (l : List (Shp × Cm)) : By := l.flatMap (fun x => lineF x.1 x.2 ++ [10])
theorem lnl_txt : ∀ (l : List (Shp × Cm)), (∀ x ∈ l, x.1 ∈ shps) → lnl (txtF l) = l.map (fun x => lineF x.1 x.2)
  | [], _ => rfl
  | x :: l, h => by
    have ih := lnl_txt l (fun y hy => h y (by simp [hy]))
    unfold txtF at ih ⊢
    rw [List.flatMap_cons, List.append_assoc, List.singleton_append, lnl_cons _ _ (line_no10 (h x (by simp)) x.2), ih]
    rfl
theorem line_says {s : Shp} (hs : s ∈ shps) (c : Cm) : says0 (lineF s c) = false := by
  obtain ⟨_, _, h1, h2⟩ := shps_ok s hs
  unfold says0 lineF
  cases hn : s.name with
  | nil => exact absurd hn h1
  | cons x r =>
    rw [hn] at h2
    simp at h2
    simp [h2]
theorem cmds_back : ∀ (l : List (Shp × Cm)), (∀ x ∈ l, x.1 ∈ shps ∧ OkC x.2) → cmds (l.map (fun x => lineF x.1 x.2)) = some (l.map (fun x => clr x.1 x.2))
  | [], _ => rfl
  | x :: l, h => by
    have hx := h x (by simp)
    have ih := cmds_back l (fun y hy => h y (by simp [hy]))
    rw [List.map_cons]
    unfold cmds
    rw [line_says hx.1, if_neg (by decide), pl_back hx.2 hx.1]
    simp only
    rw [ih]
    rfl
/-- there and back -/
theorem prs_back (l : List (Shp × Cm)) (h : ∀ x ∈ l, x.1 ∈ shps ∧ OkC x.2) (hl : isLongF (txtF l) = false) : prsE (txtF l) = 0 ∧ prsL (txtF l) = l.map (fun x => clr x.1 x.2) := by
  unfold prsE prsL
  rw [hl, lnl_txt l (fun x hx => (h x hx).1), cmds_back l h]
  simp
end Go.Proofs.YtiifkcnpdihlmaaDoor
