/- Layer 22 without the model: what is read is small, in range, and cleared. -/
import Derived.Test.YtiifkcnpdihlmaaDoorZl
namespace Go.Proofs.YtiifkcnpdihlmaaDoor
set_option maxRecDepth 100000
set_option linter.unusedVariables false
set_option linter.unusedSimpArgs false
theorem wdsFsmall : ∀ (n : Nat) (l : By), l.length ≤ n → (wdsF n l).length ≤ l.length + 1 ∧ ∀ w ∈ wdsF n l, w.length ≤ l.length
  | 0, l, h => by simp [wdsF]
  | n + 1, l, h => by
    unfold wdsF
    split
    · simp
    · rename_i hne
      have hle := wsz_le' false l
      have hd : (l.drop (wsz false l + 1)).length = l.length - (wsz false l + 1) := List.length_drop
      obtain ⟨h1, h2⟩ := wdsFsmall n (l.drop (wsz false l + 1)) (by rw [hd]; omega)
      refine ⟨?_, fun w hw => ?_⟩
      · rw [List.length_cons]; omega
      · rcases List.mem_cons.1 hw with q | q
        · rw [q, List.length_take]; omega
        · have := h2 w q; omega
theorem wds_sm9 (l : By) : (wds l).length ≤ l.length + 1 ∧ ∀ w ∈ wds l, w.length ≤ l.length := wdsFsmall _ l (Nat.le_refl _)
theorem dec_len : ∀ (n : Nat) (r s : By), r.length ≤ n → decF r = some s → s.length ≤ r.length
  | _, [], s, _, h => by simp [decF] at h; subst h; simp
  | 0, _ :: _, _, h, _ => by simp at h
  | n + 1, c :: r, s, hl, h => by
    unfold decF at h
    split at h
    · cases h
    · split at h
      · cases hq : decF r with
        | none => rw [hq] at h; cases h
        | some s1 =>
          rw [hq] at h
          injection h with h
          subst h
          have := dec_len n r s1 (by simp at hl; omega) hq
          simp; omega
      · cases r with
        | nil => cases h
        | cons d r1 =>
          simp only at h
          split at h
          · cases hq : decF r1 with
            | none => rw [hq] at h; cases h
            | some s1 =>
              rw [hq] at h
              injection h with h
              subst h
              have := dec_len n r1 s1 (by simp at hl; omega) hq
              simp; omega
          · match r1, h, hl with
            | [], h, hl => cases h
            | [_], h, hl => cases h
            | a :: b :: r2, h, hl =>
              simp only at h
              split at h
              · cases hq : decF r2 with
                | none => rw [hq] at h; cases h
                | some s1 =>
                  rw [hq] at h
                  injection h with h
                  subst h
                  have := dec_len n r2 s1 (by simp at hl; omega) hq
                  simp; omega
              · cases h
theorem txt_len {w s : By} (h : txtO w = some s) : s.length ≤ w.length := by
  unfold txtO at h
  split at h
  · have := dec_len _ _ s (Nat.le_refl _) h
    rw [List.length_dropLast, List.length_drop] at this
    omega
  · cases h
theorem txt_getD {M : Nat} {w : By} (h : w.length ≤ M) : ((txtO w).getD []).length ≤ M := by
  cases hq : txtO w with
  | none => simp
  | some s => have := txt_len hq; simp; omega
theorem num_getD (w : By) : In64 ((numO w).getD 0) := by
  cases hq : numO w with
  | none => exact ⟨by simp, by simp⟩
  | some n => exact (numO_some hq).2
theorem nxt_len {M : Nat} {ws : List By} (h : ∀ w ∈ ws, w.length ≤ M) : (nxtW ws).length ≤ M := by
  cases ws with
  | nil => simp [nxtW]
  | cons w ws => exact h w (by simp)
theorem mets_small {M : Nat} : ∀ (ws : List By) (b : Bool), (∀ w ∈ ws, w.length ≤ M) → (mets ws b).1.length ≤ ws.length ∧ ∀ e ∈ (mets ws b).1, e.key.length ≤ M ∧ e.val.length ≤ M
  | [], b, _ => by simp [mets]
  | [a], b, h => by
    simp only [mets]
    refine ⟨by simp, fun e he => ?_⟩
    rw [List.mem_singleton.1 he]
    exact ⟨txt_getD (h a (by simp)), by simp⟩
  | a :: c :: r, b, h => by
    obtain ⟨h1, h2⟩ := mets_small r (b || (txtO a).isNone || (txtO c).isNone) (fun w hw => h w (by simp [hw]))
    simp only [mets]
    refine ⟨by simp; omega, fun e he => ?_⟩
    rcases List.mem_cons.1 he with q | q
    · rw [q]; exact ⟨txt_getD (h a (by simp)), txt_getD (h c (by simp))⟩
    · exact h2 e q
theorem kpts_small : ∀ (ws : List By) (b : Bool), (kpts ws b).1.length ≤ ws.length ∧ ∀ n ∈ (kpts ws b).1, In64 n
  | [], b => by simp [kpts]
  | a :: r, b => by
    obtain ⟨h1, h2⟩ := kpts_small r (b || (numO a).isNone)
    simp only [kpts]
    refine ⟨by simp; omega, fun n hn => ?_⟩
    rcases List.mem_cons.1 hn with q | q
    · rw [q]; exact num_getD a
    · exact h2 n q
/-- what holds while a line's parts are taken -/
structure RI (M : Nat) (x : Cm × Rr) : Prop where
  ok : OkC x.1
  b : x.1.bucket.length ≤ M
  sb : x.1.st.bucket.length ≤ M
  sk : x.1.st.key.length ≤ M
  sd : x.1.st.data.length ≤ M
  me : ∀ e ∈ x.1.st.mt, e.key.length ≤ M ∧ e.val.length ≤ M
  ml : x.1.st.mt.length + x.2.1.length ≤ M
  kl : x.1.st.kept.length + x.2.1.length ≤ M
  ws : ∀ w ∈ x.2.1, w.length ≤ M
theorem tail_mem {α : Type} {l : List α} {x : α} (h : x ∈ l.tail) : x ∈ l := List.mem_of_mem_tail h
theorem RI.step {M : Nat} {x : Cm × Rr} (h : RI M x) (p : UInt8) : RI M (rdp x p) := by
  obtain ⟨c, r⟩ := x
  have hn : In64 (rnum r).1 := num_getD _
  have ht : (rtxt r).1.length ≤ M := txt_getD (nxt_len h.ws)
  have e1 : (rnum r).2.1 = r.1.tail := rfl
  have e2 : (rtxt r).2.1 = r.1.tail := rfl
  have hl : r.1.tail.length ≤ r.1.length := by rw [List.length_tail]; omega
  have hw : ∀ w ∈ r.1.tail, w.length ≤ M := fun w q => h.ws w (tail_mem q)
  have hml := h.ml
  have hkl := h.kl
  simp only at hml hkl
  have gm : c.st.mt.length + r.1.tail.length ≤ M := by omega
  have gk : c.st.kept.length + r.1.tail.length ≤ M := by omega
  have hm := mets_small r.1 r.2 h.ws
  have hk := kpts_small r.1 r.2
  unfold rdp
  simp only
  repeat' split
  · exact ⟨⟨h.ok.k, hn, h.ok.b, h.ok.sk, h.ok.q, h.ok.n, h.ok.kp⟩, h.b, h.sb, h.sk, h.sd, h.me, gm, gk, hw⟩
  · exact ⟨⟨h.ok.k, h.ok.a, hn, h.ok.sk, h.ok.q, h.ok.n, h.ok.kp⟩, h.b, h.sb, h.sk, h.sd, h.me, gm, gk, hw⟩
  · exact ⟨⟨h.ok.k, h.ok.a, h.ok.b, h.ok.sk, h.ok.q, h.ok.n, h.ok.kp⟩, ht, h.sb, h.sk, h.sd, h.me, gm, gk, hw⟩
  · exact ⟨⟨h.ok.k, h.ok.a, h.ok.b, h.ok.sk, h.ok.q, h.ok.n, h.ok.kp⟩, h.b, ht, h.sk, h.sd, h.me, gm, gk, hw⟩
  · exact ⟨⟨h.ok.k, h.ok.a, h.ok.b, h.ok.sk, h.ok.q, h.ok.n, h.ok.kp⟩, h.b, h.sb, ht, h.sd, h.me, gm, gk, hw⟩
  · exact ⟨⟨h.ok.k, h.ok.a, h.ok.b, h.ok.sk, h.ok.q, h.ok.n, h.ok.kp⟩, h.b, h.sb, h.sk, ht, h.me, gm, gk, hw⟩
  · exact ⟨⟨h.ok.k, h.ok.a, h.ok.b, h.ok.sk, hn, h.ok.n, h.ok.kp⟩, h.b, h.sb, h.sk, h.sd, h.me, gm, gk, hw⟩
  · exact ⟨⟨h.ok.k, h.ok.a, h.ok.b, h.ok.sk, h.ok.q, hn, h.ok.kp⟩, h.b, h.sb, h.sk, h.sd, h.me, gm, gk, hw⟩
  · refine ⟨⟨h.ok.k, h.ok.a, h.ok.b, h.ok.sk, h.ok.q, h.ok.n, h.ok.kp⟩, h.b, h.sb, h.sk, h.sd, fun e he => ?_, ?_, ?_, fun w q => by cases q⟩
    · rcases List.mem_append.1 he with q | q
      · exact h.me e q
      · exact hm.2 e q
    · show (c.st.mt ++ (mets r.1 r.2).1).length + 0 ≤ M
      rw [List.length_append]; omega
    · show c.st.kept.length + 0 ≤ M
      omega
  · refine ⟨⟨h.ok.k, h.ok.a, h.ok.b, h.ok.sk, h.ok.q, h.ok.n, fun n hn => ?_⟩, h.b, h.sb, h.sk, h.sd, h.me, ?_, ?_, fun w q => by cases q⟩
    · rcases List.mem_append.1 hn with q | q
      · exact h.ok.kp n q
      · exact hk.2 n q
    · show c.st.mt.length + 0 ≤ M
      omega
    · show (c.st.kept ++ (kpts r.1 r.2).1).length + 0 ≤ M
      rw [List.length_append]; omega
  · exact h
theorem RI.all {M : Nat} : ∀ (ps : By) {x : Cm × Rr}, RI M x → RI M (ps.foldl rdp x)
  | [], _, h => h
  | p :: ps, _, h => by rw [List.foldl_cons]; exact RI.all ps (h.step p)
theorem shps_in64 : ∀ s ∈ shps, (0 ≤ s.kind ∧ s.kind ≤ 100) ∧ (0 ≤ s.step ∧ s.step ≤ 100) := by decide +kernel
/-- a command that was read: it is what its kind names, and small -/
structure Rd1 (c : Cm) : Prop where
  sh : shpOf c ≠ none
  cl : clr (shD c) c = c
  ok : OkC c
  b : c.bucket.length ≤ 9000
  sb : c.st.bucket.length ≤ 9000
  sk : c.st.key.length ≤ 9000
  sd : c.st.data.length ≤ 9000
  me : ∀ e ∈ c.st.mt, e.key.length ≤ 9000 ∧ e.val.length ≤ 9000
  ml : c.st.mt.length ≤ 9000
  kl : c.st.kept.length ≤ 9000
theorem rd_shape : ∀ s ∈ shps, ∀ ws : List By, shpOf (rdAll s ws).1 = some s ∧ clr s (rdAll s ws).1 = (rdAll s ws).1 := by
  intro s hs ws
  simp only [shps, List.mem_cons, List.not_mem_nil, or_false] at hs
  rcases hs with rfl | rfl | rfl | rfl | rfl | rfl | rfl | rfl | rfl | rfl | rfl | rfl | rfl | rfl | rfl | rfl | rfl | rfl | rfl | rfl | rfl | rfl <;> exact ⟨rfl, rfl⟩
theorem pl_rd {line : By} {c : Cm} (hl : line.length ≤ 8192) (h : plF line = some c) : Rd1 c := by
  unfold plF at h
  split at h
  · cases h
  · rename_i s hs
    split at h
    · cases h
    · injection h with h
      subst h
      have hm : s ∈ shps := List.mem_of_find?_eq_some hs
      obtain ⟨e1, e2⟩ := rd_shape s hm (wds line).tail
      have hw := wds_sm9 line
      have h64 := shps_in64 s hm
      have z : In64 0 := ⟨by decide, by decide⟩
      have h0 : RI 9000 (cm0 s.kind s.step, ((wds line).tail, false)) := by
        refine ⟨⟨⟨by show _ ≤ s.kind; omega, by show s.kind ≤ _; omega⟩, z, z, ⟨by show _ ≤ s.step; omega, by show s.step ≤ _; omega⟩, z, z, fun x hx => by cases hx⟩, by simp [cm0], by simp [cm0, sp0], by simp [cm0, sp0], by simp [cm0, sp0], (fun e he => by cases he), ?_, ?_, fun w q => ?_⟩
        · show 0 + (wds line).tail.length ≤ 9000
          rw [List.length_tail]; omega
        · show 0 + (wds line).tail.length ≤ 9000
          rw [List.length_tail]; omega
        · have := hw.2 w (tail_mem q); omega
      have h1 : RI 9000 (rdAll s (wds line).tail) := RI.all s.parts h0
      generalize rdAll s (wds line).tail = x at *
      have es : shD x.1 = s := by unfold shD; rw [e1]; rfl
      exact ⟨by rw [e1]; simp, by rw [es]; exact e2, h1.ok, h1.b, h1.sb, h1.sk, h1.sd, h1.me, by have := h1.ml; omega, by have := h1.kl; omega⟩
theorem cmds_rd : ∀ (ls : List By) (L : List Cm), (∀ l ∈ ls, l.length ≤ 8192) → cmds ls = some L → L.length ≤ ls.length ∧ ∀ c ∈ L, Rd1 c
  | [], L, _, h => by simp [cmds] at h; subst h; simp
  | l :: ls, L, hl, h => by
    rw [cmds_cons] at h
    split at h
    · obtain ⟨h1, h2⟩ := cmds_rd ls L (fun x hx => hl x (by simp [hx])) h
      exact ⟨by simp; omega, h2⟩
    · cases hp : plF l with
      | none => rw [hp] at h; cases h
      | some c =>
        rw [hp] at h
        simp only at h
        cases hc : cmds ls with
        | none => rw [hc] at h; cases h
        | some L1 =>
          rw [hc] at h
          injection h with h
          subst h
          obtain ⟨h1, h2⟩ := cmds_rd ls L1 (fun x hx => hl x (by simp [hx])) hc
          refine ⟨by simp; omega, fun x hx => ?_⟩
          rcases List.mem_cons.1 hx with q | q
          · rw [q]; exact pl_rd (hl l (by simp)) hp
          · exact h2 x q
theorem long_no {t : By} (h : isLongF t = false) : t.length ≤ 65536 ∧ (lnl t).length ≤ 1024 ∧ ∀ l ∈ lnl t, l.length ≤ 8192 := by
  unfold isLongF at h
  simp only [Bool.or_eq_false_iff, decide_eq_false_iff_not] at h
  obtain ⟨⟨h1, h2⟩, h3⟩ := h
  refine ⟨by omega, by omega, fun l hl => ?_⟩
  have := List.any_eq_false.1 h2 l hl
  simp at this
  omega
/-- all that Parse tells -/
theorem prs_rd (t : By) : (prsL t).length ≤ 1024 ∧ ∀ c ∈ prsL t, Rd1 c := by
  unfold prsL
  cases hl : isLongF t with
  | true => simp
  | false =>
    obtain ⟨h1, h2, h3⟩ := long_no hl
    cases hc : cmds (lnl t) with
    | none => simp
    | some L =>
      obtain ⟨a, b⟩ := cmds_rd _ L h3 hc
      exact ⟨by simp; omega, b⟩
/-- printed and read again it is the same -/
theorem rd_back {L : List Cm} (h : ∀ c ∈ L, Rd1 c) : L.map (fun c => clr (shD c) c) = L := by
  have : ∀ c ∈ L, (fun c => clr (shD c) c) c = id c := fun c hc => (h c hc).cl
  rw [List.map_congr_left this, List.map_id]
end Go.Proofs.YtiifkcnpdihlmaaDoor
