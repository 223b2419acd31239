import Derived.Test.YtghdgddpdamhcaaGreatGp
import Derived.Test.YtghdgddpdamhcaaGreatGl
/- SpacePlays: picks. -/
namespace Go.Proofs.YtghdgddpdamhcaaGreat
set_option linter.unusedVariables false
set_option linter.unusedSimpArgs false
open Go.RowKit Go.Maps
section
variable {w0 w w' : World} {first pb mb : Nat} {I : List Bool} {Ls X : List (Th → Prop)}
theorem rsM_cell (h : EnvP w0 w Ls) (hm : rs mb first I ∈ Ls) : ∃ va vc, w.cell? ⟨mb, 1, none⟩ = some (.slice va I.length vc) ∧ ∀ j, j < I.length → ∃ g, va = some ⟨g, 0, none⟩ ∧ w.cell? ⟨g, j, none⟩ = some (.bool (I.getD j false)) := by
  obtain ⟨i, hi⟩ := List.getElem?_of_mem hm
  obtain ⟨va, vc, _, c1, c2⟩ := h.rsc i hi
  exact ⟨va, vc, c1, c2⟩
theorem rsM_kept (h : EnvP w0 w Ls) (hm : rs mb first I ∈ Ls) (z : Int) (m : Nat) (h1 : 1 ≤ m) (h2 : m ≤ 4000) (hf : first < 5000) : Calls Tryz.prog 55 #[pt mb, .int .i64 z, .int .i64 (m : Int)] w fun e w' => e = .returned (.bool (decide (z < ((first + 1 : Nat) : Int)))) ∧ ∃ k, w' = w.drewN k := by
  obtain ⟨i, hi⟩ := List.getElem?_of_mem hm
  exact rKept_env h i hi z m h1 h2 hf
theorem EnvP.appL {v v' : Value} {zs zs' : List Int} (h : EnvP w0 w (X ++ [rowI v zs])) (o : w'.ownsRow 0 3 1 v' zs'.length (iv zs')) (g : w.grownBy w' v.ownBlock) (nw : ∀ k, v'.ownBlock = some k → v.ownBlock = some k ∨ w.heap.size ≤ k) : EnvP w0 w' (X ++ [rowI v' zs']) := by
  have E2 := h.appI (v := v) (l := zs) (v' := v') (l' := zs') X.length (by simp) o g nw
  have e : (X ++ [rowI v zs]).set X.length (rowI v' zs') = X ++ [rowI v' zs'] := by simp
  rw [e] at E2
  exact E2
theorem EnvP.rowLast {v : Value} {zs : List Int} (h : EnvP w0 w (X ++ [rowI v zs])) : w.ownsRow 0 3 1 v zs.length (iv zs) := h.rowAt X.length (by simp)
theorem EnvP.rowM {v : Value} {zs : List Int} (h : EnvP w0 w Ls) (hm : rowI v zs ∈ Ls) : w.ownsRow 0 3 1 v zs.length (iv zs) := by
  obtain ⟨i, hi⟩ := List.getElem?_of_mem hm
  exact h.rowAt i hi
theorem EnvP.pushNil (h : EnvP w0 w Ls) : EnvP w0 w (Ls ++ [rowI (.slice none 0 0) []]) := h.push (rowTh (.slice none 0 0) 0 []) _ rfl (Below.refl _ _) (World.ownsRow_nil _ _ _ _) (fun k e => by cases e)
theorem picks_end {A B C : Th → Prop} (h : EnvP w0 w (Ls ++ [A] ++ [B] ++ [C])) : EnvP w0 w (Ls ++ [C]) := by
  have p : List.Perm (Ls ++ [A] ++ [B] ++ [C]) ((Ls ++ [C]) ++ [A, B]) := by
    simp only [List.append_assoc]
    refine List.Perm.append_left Ls ?_
    show List.Perm ([A, B] ++ [C]) ([C] ++ [A, B])
    exact List.perm_append_comm
  exact (h.perm p).initA
set_option maxRecDepth 100000 in
set_option maxHeartbeats 4000000 in
theorem picks_env (h : EnvP w0 w Ls) (va0 va1 va2 va3 va5 va6 : Value) (hp : ob pb #[va0, va1, va2, va3, pt mb, va5, va6] 63 ∈ Ls) (hr : rs mb first I ∈ Ls) (h1 : 1 ≤ I.length) (h2 : I.length ≤ 4000) (hf : first < 5000) (kd N : Int) (pa : Option Addr) (pc : Nat) (ps : List Int) (raw : Bool) (hz : IIn w0 pa ps) (hpl : ps.length ≤ 20000000000000) :
    Calls Tryz.prog 61 #[pt pb, .agg #[.int .i64 kd, .int .i64 N, .slice pa ps.length pc, .bool raw]] w fun e w' => ∃ v zs, e = .returned v ∧ zs.length ≤ 40 ∧ EnvP w0 w' (Ls ++ [rowI v zs]) := by
  have E0 := h.alloc #[.int .i64 kd, .int .i64 N, .slice pa ps.length pc, .bool raw] 67
  have E1 := E0.pushNil
  have HE1 := Hid.mk E1
  clear h E0 E1
  go_enter Tryz.func61, Tryz.ntmps61
  go_wp2_with fail
  generalize hbo : w.heap.size = bo at *
  generalize w.alloc (.cells #[.int .i64 kd, .int .i64 N, .slice pa ps.length pc, .bool raw] 67) = W1 at *
  go_loopw [5, 6] (fun v i wr => ∃ (k : Nat) (hs : List Int), k ≤ I.length ∧ i = .int .i64 (k : Int) ∧ hs.length ≤ k ∧ Hid (EnvP w0 wr (Ls ++ [ob bo #[.int .i64 kd, .int .i64 N, .slice pa ps.length pc, .bool raw] 67] ++ [rowI v hs]))) (fun _ i _ => I.length - (intOf i).toNat)
  case atStart => exact ⟨0, [], by omega, rfl, by simp, HE1⟩
  case round =>
    obtain ⟨k, hs, hk, rfl, hsl, HE⟩ := hrel
    clear HE1
    have c4 : wr.cell? ⟨pb, 4, none⟩ = some (pt mb) := HE.out.cellM (List.mem_append_left _ (List.mem_append_left _ hp)) 4
    obtain ⟨va, vc, c1, cg⟩ := rsM_cell HE.out (List.mem_append_left _ (List.mem_append_left _ hr))
    by_cases hlt : k < I.length
    · have d1 : decide ((k : Int) < (I.length : Int)) = true := decide_eq_true (by omega)
      have k2 : (k : Int) < (I.length : Int) := by omega
      obtain ⟨g, rfl, ck⟩ := cg k hlt
      have qK : Hid (∀ j, Calls Tryz.prog 55 #[pt mb, .int .i64 (k : Int), .int .i64 (I.length : Int)] (wr.drewN j) fun e w' => e = .returned (.bool (decide ((k : Int) < ((first + 1 : Nat) : Int)))) ∧ ∃ m, w' = (wr.drewN j).drewN m) := ⟨fun j => rsM_kept (HE.out.drewN j) (List.mem_append_left _ (List.mem_append_left _ hr)) (k : Int) I.length h1 h2 hf⟩
      have Hp := Hid.mk hp
      have Hr := Hid.mk hr
      have HD : Hid (∀ j, EnvP w0 (wr.drewN j) (Ls ++ [ob bo #[.int .i64 kd, .int .i64 N, .slice pa ps.length pc, .bool raw] 67] ++ [rowI u5 hs])) := ⟨fun j => HE.out.drewN j⟩
      clear hp hr cg HE
      generalize decide ((k : Int) < ((first + 1 : Nat) : Int)) = kb at *
      generalize I.getD k false = ib at *
      cases ib with
      | false =>
        go_wp2_with fail
        go_quiet ((go_at_call 55; exact Calls.quiet_of (qK.out _)))
        go_wp2_with fail
        exact ⟨⟨k + 1, hs, by omega, by go_num, by omega, ⟨HD.out _⟩⟩, by simp [intOf]; omega⟩
      | true =>
        cases kb with
        | true =>
          go_wp2_with fail
          go_quiet ((go_at_call 55; exact Calls.quiet_of (qK.out _)))
          go_wp2_with fail
          exact ⟨⟨k + 1, hs, by omega, by go_num, by omega, ⟨HD.out _⟩⟩, by simp [intOf]; omega⟩
        | false =>
          go_wp2_with fail
          go_quiet ((go_at_call 55; exact Calls.quiet_of (qK.out _)))
          have E5 := HD.out nq
          go_wp2_with (refine app_int (zs := hs) (m := hs.length) (v := u5) (z := (k : Int)) rfl rfl rfl E5.rowLast (by omega) rfl _ _ rfl rfl rfl ?_; intro y9 c9 w9 k9 o9 g9 n9)
          have n9' : ∀ kk, (rw_ y9 (hs.length + 1) c9).ownBlock = some kk → u5.ownBlock = some kk ∨ (wr.drewN nq).heap.size ≤ kk := fun kk e => by
            have e2 : some y9 = some kk := e
            injection e2 with e2
            subst e2
            exact n9
          have E9 := E5.appL (zs' := hs ++ [(k : Int)]) (by rw [List.length_append]; exact o9) g9 n9'
          exact ⟨⟨k + 1, hs ++ [(k : Int)], by omega, by go_num, by simp; omega, ⟨E9⟩⟩, by simp [intOf]; omega⟩
    · obtain rfl : k = I.length := by omega
      have d1 : decide ((I.length : Int) < (I.length : Int)) = false := decide_eq_false (by omega)
      have E2 := HE.out.pushNil
      obtain ⟨ha, hc, eh⟩ := own_slice HE.out.rowLast
      subst eh
      have HE2 := Hid.mk E2
      have HLE : Hid (hs.length ≤ I.length) := ⟨hsl⟩
      clear E2 HE hsl
      go_wp2_with fail
      clear c4 c1 cg
      go_loopw [7, 8] (fun v i wr => ∃ (j : Nat) (zs : List Int), j ≤ ps.length ∧ j ≤ 40 ∧ i = .int .i64 (j : Int) ∧ zs.length ≤ j ∧ Hid (EnvP w0 wr (Ls ++ [ob bo #[.int .i64 kd, .int .i64 N, .slice pa ps.length pc, .bool raw] 67] ++ [rowI (.slice ha hs.length hc) hs] ++ [rowI v zs]))) (fun _ i _ => 40 - (intOf i).toNat)
      case atStart => exact ⟨0, [], by omega, by omega, rfl, by simp, HE2⟩
      case round =>
        obtain ⟨j, zs, hj, hj40, rfl, hzl, HE2⟩ := hrel
        have hmo : ob bo #[.int .i64 kd, .int .i64 N, .slice pa ps.length pc, .bool raw] 67 ∈ Ls ++ [ob bo #[.int .i64 kd, .int .i64 N, .slice pa ps.length pc, .bool raw] 67] ++ [rowI (.slice ha hs.length hc) hs] ++ [rowI u7 zs] := by simp
        have o2 : wr.cell? ⟨bo, 2, none⟩ = some (.slice pa ps.length pc) := HE2.out.cellM hmo 2
        have o3 : wr.cell? ⟨bo, 3, none⟩ = some (.bool raw) := HE2.out.cellM hmo 3
        by_cases hjl : j < ps.length
        · have e1 : decide ((j : Int) < (ps.length : Int)) = true := decide_eq_true (by omega)
          have j2 : (j : Int) < (ps.length : Int) := by omega
          by_cases hj4 : j < 40
          · have e2 : decide ((j : Int) < 40) = true := decide_eq_true (by omega)
            obtain ⟨z, hzj⟩ : ∃ z, ps[j]? = some z := ⟨ps[j], List.getElem?_eq_getElem hjl⟩
            obtain ⟨bz, oz, rfl, hbz, cz, z1, z2⟩ := (hz.below HE2.out.bel (fun _ _ _ hb => hb)).get j z hzj
            have hrow : w0 = w0 := rfl
            have HZJ := Hid.mk hzj
            have HMO := Hid.mk hmo
            clear hmo hzj hrow
            cases raw with
            | true =>
              go_wp2_with (refine app_int (zs := zs) (m := zs.length) (v := u7) (z := z) rfl rfl rfl HE2.out.rowLast (by omega) rfl _ _ rfl rfl rfl ?_; intro y9 c9 w9 k9 o9 g9 n9)
              have n9' : ∀ kk, (rw_ y9 (zs.length + 1) c9).ownBlock = some kk → u7.ownBlock = some kk ∨ wr.heap.size ≤ kk := fun kk e => by
                have e2 : some y9 = some kk := e
                injection e2 with e2
                subst e2
                exact n9
              have E9 := HE2.out.appL (zs' := zs ++ [z]) (by rw [List.length_append]; exact o9) g9 n9'
              exact ⟨⟨j + 1, zs ++ [z], by omega, by omega, by go_num, by simp; omega, ⟨E9⟩⟩, by simp [intOf]; omega⟩
            | false =>
              by_cases h0 : hs.length = 0
              · have e3 : ((hs.length : Int) == 0) = true := by rw [beq_iff_eq]; omega
                have HH0 := Hid.mk h0
                clear h0
                go_wp2_with (refine app_int (zs := zs) (m := zs.length) (v := u7) (z := z) rfl rfl rfl HE2.out.rowLast (by omega) rfl _ _ rfl rfl rfl ?_; intro y9 c9 w9 k9 o9 g9 n9)
                have n9' : ∀ kk, (rw_ y9 (zs.length + 1) c9).ownBlock = some kk → u7.ownBlock = some kk ∨ wr.heap.size ≤ kk := fun kk e => by
                  have e2 : some y9 = some kk := e
                  injection e2 with e2
                  subst e2
                  exact n9
                have E9 := HE2.out.appL (zs' := zs ++ [z]) (by rw [List.length_append]; exact o9) g9 n9'
                exact ⟨⟨j + 1, zs ++ [z], by omega, by omega, by go_num, by simp; omega, ⟨E9⟩⟩, by simp [intOf]; omega⟩
              · have e3 : ((hs.length : Int) == 0) = false := by rw [beq_eq_false_iff_ne]; omega
                have hpos : 0 < hs.length := by omega
                have hlt2 := lst_lt z hs.length hpos
                have qL := fun w => least_any z hs.length w hpos (by have := HLE.out; omega) z1 z2
                have orow : wr.ownsRow 0 3 1 (.slice ha hs.length hc) hs.length (iv hs) := HE2.out.rowM (by simp)
                generalize hLL : lst z hs.length = t at *
                have hg : ∃ g, ha = some ⟨g, 0, none⟩ ∧ wr.cell? ⟨g, t, none⟩ = some (.int .i64 (hs.getD t 0)) := by
                  rcases orow.2 with ⟨_, hx⟩ | ⟨g, cap, cur, e, _⟩
                  · omega
                  · injection e with e1 e2 e3
                    refine ⟨g, e1, ?_⟩
                    subst e1
                    rw [orow.cellAt t (by simp [iv]; omega)]
                    simp [iv, List.getElem?_map, List.getElem?_eq_getElem hlt2, List.getD_eq_getElem?_getD]
                obtain ⟨g, rfl, ct⟩ := hg
                have t2 : (t : Int) < (hs.length : Int) := by omega
                generalize hs.getD t 0 = hv at *
                clear orow hLL h0
                go_wp2_with (first | (go_at_call 9; refine (qL _).mono ?_; rintro e w5 ⟨rfl, rfl⟩) | (refine app_int (zs := zs) (m := zs.length) (v := u7) (z := hv) rfl rfl rfl HE2.out.rowLast (by omega) rfl _ _ rfl rfl rfl ?_; intro y9 c9 w9 k9 o9 g9 n9))
                have n9' : ∀ kk, (rw_ y9 (zs.length + 1) c9).ownBlock = some kk → u7.ownBlock = some kk ∨ w5.heap.size ≤ kk := fun kk e => by
                  have e2 : some y9 = some kk := e
                  injection e2 with e2
                  subst e2
                  exact n9
                have E9 := HE2.out.appL (zs' := zs ++ [hv]) (by rw [List.length_append]; exact o9) g9 n9'
                exact ⟨⟨j + 1, zs ++ [hv], by omega, by omega, by go_num, by simp; omega, ⟨E9⟩⟩, by simp [intOf]; omega⟩
          · have e2 : decide ((j : Int) < 40) = false := decide_eq_false (by omega)
            have HF : Hid (EnvP w0 wr (Ls ++ [rowI u7 zs])) := ⟨picks_end HE2.out⟩
            go_wp2_with fail
            go_ret
            exact ⟨u7, zs, rfl, by omega, HF.out⟩
        · have e1 : decide ((j : Int) < (ps.length : Int)) = false := decide_eq_false (by omega)
          have HF : Hid (EnvP w0 wr (Ls ++ [rowI u7 zs])) := ⟨picks_end HE2.out⟩
          go_wp2_with fail
          go_ret
          exact ⟨u7, zs, rfl, by omega, HF.out⟩
end
end Go.Proofs.YtghdgddpdamhcaaGreat

/- SpacePlays: the pair's state; Commit, Abort, Crash, and steps that do nothing. -/
namespace Go.Proofs.YtghdgddpdamhcaaGreat
set_option linter.unusedVariables false
set_option linter.unusedSimpArgs false
open Go.RowKit Go.Maps
/-- what a transaction has written: nothing, or the bitmap -/
def WF1 (first : Nat) (W : Wl) (T1 T : ByteArray) : Prop := W = [] ∧ T = T1 ∨ W = [(first, T)]
section
variable {w0 w w' : World} {q p n x sb first pb mb yb : Nat} {W : Wl} {o : Bool} {B : List ByteArray} {X Y : List (Th → Prop)} {I : List Bool} {s0 : Th → Prop} {v2 v3 v4 v5 : Value} {st : St} {T1 T T3 : ByteArray}
theorem wf_cur (h : WF1 first W T1 T) (hb : B.getD first ByteArray.empty = T1) : cur W B first = T := by
  rcases h with ⟨rfl, rfl⟩ | rfl
  · exact hb
  · show ((lookW [(first, T)] first).getD _) = T
    unfold lookW
    simp
theorem wf_ins (h : WF1 first W T1 T) : insW first T3 W = [(first, T3)] := by
  rcases h with ⟨rfl, _⟩ | rfl
  · rfl
  · unfold insW
    simp
theorem lay_oneF {B : List ByteArray} {T : ByteArray} (h : first < B.length) : (lay B [(first, T)]).getD first ByteArray.empty = T := by
  show (B.set first T).getD first ByteArray.empty = T
  rw [List.getD_eq_getElem?_getD, List.getElem?_set_self h]; rfl
theorem SS.commitW (h : SS w0 w q p n x sb first W false B X) (hw : WF1 first W T1 T) (hb : B.getD first ByteArray.empty = T1) (hf : first + 1 ≤ n - 24) : Calls Tryz.prog 18 #[pt x] w fun e w' => e = .returned (.int .i64 0) ∧ ∃ B', SS w0 w' q p n x sb first [] true B' X ∧ B'.getD first ByteArray.empty = T := by
  have hlen := h.len
  obtain ⟨st, E, ⟨ok, hfa⟩, hn, hR, hI⟩ := h
  rcases hw with ⟨rfl, rfl⟩ | rfl
  · refine (tcommit_nil E 2 rfl).mono ?_
    rintro e w' ⟨rfl, h1⟩
    exact ⟨rfl, B, ⟨st, h1, ⟨ok, hfa⟩, hn, hR, hI⟩, hb⟩
  · refine (tcommit_run E 0 rfl ok hfa (by omega) (by omega) hR hI (by simp)).mono ?_
    rintro e w' (⟨_, rfl, st', h1, h2, h3⟩ | ⟨hx, _⟩)
    · exact ⟨rfl, _, ⟨st', h1, ⟨h2, h3⟩, hn, List.Pairwise.nil, fun p hp => by cases hp⟩, lay_oneF (by omega)⟩
    · have h1 : fitsB 24 1 = true := by decide
      have h2 : fitsB 24 1 = false := hx
      rw [h1] at h2; cases h2
theorem SS.abortW (h : SS w0 w q p n x sb first W false B X) : Calls Tryz.prog 45 #[pt x] w fun e w' => e = .returned (.tuple #[]) ∧ SS w0 w' q p n x sb first [] true B X := by
  obtain ⟨st, E, ok, hn, hR, hI⟩ := h
  refine (abort_env E 2 rfl).mono ?_
  rintro e w' ⟨rfl, h1⟩
  exact ⟨rfl, st, h1, ok, hn, List.Pairwise.nil, fun p hp => by cases hp⟩
/-- the pair as it is between steps -/
def PL (w0 w : World) (pb p n first : Nat) : Prop := ∃ q x sb mb yb T1 T W B X, SS w0 w q p n x sb first W false B (pr7 pb p q x sb mb first (pt yb) :: rs mb first (mdl first (n - 24) T) :: rs yb first (mdl first (n - 24) T1) :: X) ∧ WF1 first W T1 T ∧ B.getD first ByteArray.empty = T1 ∧ first + 1 ≤ n - 24
theorem PL.bel (h : PL w0 w pb p n first) : Below w0.heap.size w0 w := by
  obtain ⟨q, x, sb, mb, yb, T1, T, W, B, X, h1, _⟩ := h
  exact h1.bel
/-- a step's value -/
abbrev opv (kd N : Int) (pa : Option Addr) (pl pc : Nat) (raw : Bool) : Value := .agg #[.int .i64 kd, .int .i64 N, .slice pa pl pc, .bool raw]
set_option maxRecDepth 100000 in
set_option maxHeartbeats 4000000 in
theorem plays_other (h : PL w0 w pb p n first) (kd N : Int) (pa : Option Addr) (pl pc : Nat) (raw : Bool) (h1 : kd ≠ 1) (h2 : kd ≠ 2) (h3 : kd ≠ 3) (h4 : kd ≠ 4) (h5 : kd ≠ 5) : Calls Tryz.prog 31 #[pt pb, opv kd N pa pl pc raw] w fun e w' => e = .returned (.bool true) ∧ PL w0 w' pb p n first := by
  obtain ⟨q, x, sb, mb, yb, T1, T, W, B, X, hs, hr⟩ := h
  have hs2 := hs.alloc #[.int .i64 kd, .int .i64 N, .slice pa pl pc, .bool raw] 67
  have HF : Hid (PL w0 (w.alloc (.cells #[.int .i64 kd, .int .i64 N, .slice pa pl pc, .bool raw] 67)) pb p n first) := ⟨q, x, sb, mb, yb, T1, T, W, B, _, hs2, hr⟩
  have e1 : (kd == 1) = false := by rw [beq_eq_false_iff_ne]; exact h1
  have e2 : (kd == 2) = false := by rw [beq_eq_false_iff_ne]; exact h2
  have e3 : (kd == 3) = false := by rw [beq_eq_false_iff_ne]; exact h3
  have e4 : (kd == 4) = false := by rw [beq_eq_false_iff_ne]; exact h4
  have e5 : (kd == 5) = false := by rw [beq_eq_false_iff_ne]; exact h5
  clear hs hs2 hr h1 h2 h3 h4 h5
  go_enter Tryz.func31, Tryz.ntmps31
  go_wp2_with fail
  go_ret
  exact ⟨rfl, HF.out⟩
end
end Go.Proofs.YtghdgddpdamhcaaGreat

/- SpacePlays: Commit, Abort and Crash. -/
namespace Go.Proofs.YtghdgddpdamhcaaGreat
set_option linter.unusedVariables false
set_option linter.unusedSimpArgs false
open Go.RowKit Go.Maps
section
variable {w0 w w' : World} {q p n x sb first pb mb yb : Nat} {W : Wl} {o : Bool} {B : List ByteArray} {X Y : List (Th → Prop)} {I J : List Bool} {v2 v3 v4 v5 : Value} {st : St} {T1 T T3 : ByteArray}
/-- the things as 'again' wants them: the model that was changed -/
theorem ss_forM (h : SS w0 w q p n x sb first W true B (pr7 pb p q x sb mb first v5 :: rs mb first I :: rs yb first J :: X)) : ∃ st, EnvP w0 w (lg q p 24 false :: dk p st :: pr7 pb p q x sb mb first v5 :: rs mb first I :: tx x q W true :: ob sb #[pt x, .int .i64 (first : Int)] 73 :: rs yb first J :: X) ∧ (OKst NN st n 24 B ∧ st.fall = 0) ∧ (24 < n ∧ n ≤ 4000) := by
  obtain ⟨st, E, ok, hn, _⟩ := h
  refine ⟨st, E.perm ?_, ok, hn⟩
  refine List.Perm.cons _ (List.Perm.cons _ ?_)
  show List.Perm ([tx x q W true, ob sb #[pt x, .int .i64 (first : Int)] 73] ++ ([pr7 pb p q x sb mb first v5, rs mb first I] ++ (rs yb first J :: X))) ([pr7 pb p q x sb mb first v5, rs mb first I] ++ ([tx x q W true, ob sb #[pt x, .int .i64 (first : Int)] 73] ++ (rs yb first J :: X)))
  rw [← List.append_assoc, ← List.append_assoc]
  exact List.Perm.append_right _ List.perm_append_comm
/-- the model as it was -/
theorem SS.forY (h : SS w0 w q p n x sb first W o B (pr7 pb p q x sb mb first v5 :: rs mb first I :: rs yb first J :: X)) : SS w0 w q p n x sb first W o B (pr7 pb p q x sb mb first v5 :: rs yb first J :: rs mb first I :: X) := h.perm (List.Perm.cons _ (List.Perm.swap _ _ _))
theorem pl_of (h : SS w0 w q p n x sb first [] false B (pr7 pb p q x sb mb first (pt yb) :: rs mb first (mdl first (n - 24) (B.getD first ByteArray.empty)) :: rs yb first (mdl first (n - 24) (B.getD first ByteArray.empty)) :: X)) (hf : first + 1 ≤ n - 24) : PL w0 w pb p n first :=
  ⟨q, x, sb, mb, yb, _, _, [], B, X, h, .inl ⟨rfl, rfl⟩, rfl, hf⟩
set_option maxRecDepth 100000 in
set_option maxHeartbeats 4000000 in
theorem plays_commit (h : PL w0 w pb p n first) (N : Int) (pa : Option Addr) (pl pc : Nat) (raw : Bool) : Calls Tryz.prog 31 #[pt pb, opv 3 N pa pl pc raw] w fun e w' => e = .returned (.bool true) ∧ PL w0 w' pb p n first := by
  obtain ⟨q, x, sb, mb, yb, T1, T, W, B, X, hs, hw, hb, hf⟩ := h
  have h1 : SS w0 (w.alloc (.cells #[.int .i64 3, .int .i64 N, .slice pa pl pc, .bool raw] 67)) q p n x sb first W false B (pr7 pb p q x sb mb first (pt yb) :: rs mb first (mdl first (n - 24) T) :: rs yb first (mdl first (n - 24) T1) :: (X ++ [ob w.heap.size #[.int .i64 3, .int .i64 N, .slice pa pl pc, .bool raw] 67])) := hs.alloc #[.int .i64 3, .int .i64 N, .slice pa pl pc, .bool raw] 67
  have hn := hs.nn
  have c2 := h1.head 2
  have HF := Hid.mk hf
  have HN := Hid.mk hn
  generalize X ++ [ob w.heap.size #[.int .i64 3, .int .i64 N, .slice pa pl pc, .bool raw] 67] = X1 at *
  have b0 := heap_alloc_new w (.cells #[.int .i64 3, .int .i64 N, .slice pa pl pc, .bool raw] 67)
  have qC := h1.commitW hw hb hf
  clear hs h1 hw hb hf hn
  go_enter Tryz.func31, Tryz.ntmps31
  go_wp2_with fail
  with_reducible refine Calls.mono qC ?_
  rintro e w1 ⟨rfl, B1, h2, hB1⟩
  have c3 := h2.head 3
  have qO := over_ss h2 (by have := HF.out; have := HN.out; omega)
  clear h2 qC c2
  dsimp only
  go_wp2_with fail
  with_reducible refine Calls.mono qO ?_
  rintro e w2 ⟨rfl, h3⟩
  have c4 := h3.head 4
  obtain ⟨st, E, ok, hn⟩ := ss_forM h3
  rw [← hB1] at E
  have qA := again_env E ok hn HF.out
  clear h3 E ok hn qO c3
  dsimp only
  go_wp2_with fail
  with_reducible refine Calls.mono qA ?_
  rintro e w5 ⟨rfl, x2, sb2, yb2, h5⟩
  have H5 : Hid (PL w0 w5 pb p n first) := ⟨pl_of h5 HF.out⟩
  clear h5 qA c4
  dsimp only
  go_wp2_with fail
  go_ret
  exact ⟨rfl, H5.out⟩
set_option maxRecDepth 100000 in
set_option maxHeartbeats 4000000 in
theorem plays_abort (h : PL w0 w pb p n first) (N : Int) (pa : Option Addr) (pl pc : Nat) (raw : Bool) : Calls Tryz.prog 31 #[pt pb, opv 4 N pa pl pc raw] w fun e w' => e = .returned (.bool true) ∧ PL w0 w' pb p n first := by
  obtain ⟨q, x, sb, mb, yb, T1, T, W, B, X, hs, hw, hb, hf⟩ := h
  have h1 : SS w0 (w.alloc (.cells #[.int .i64 4, .int .i64 N, .slice pa pl pc, .bool raw] 67)) q p n x sb first W false B (pr7 pb p q x sb mb first (pt yb) :: rs mb first (mdl first (n - 24) T) :: rs yb first (mdl first (n - 24) T1) :: (X ++ [ob w.heap.size #[.int .i64 4, .int .i64 N, .slice pa pl pc, .bool raw] 67])) := hs.alloc #[.int .i64 4, .int .i64 N, .slice pa pl pc, .bool raw] 67
  have hn := hs.nn
  have c2 := h1.head 2
  have HF := Hid.mk hf
  have HN := Hid.mk hn
  generalize X ++ [ob w.heap.size #[.int .i64 4, .int .i64 N, .slice pa pl pc, .bool raw] 67] = X1 at *
  have b0 := heap_alloc_new w (.cells #[.int .i64 4, .int .i64 N, .slice pa pl pc, .bool raw] 67)
  have qC := h1.abortW
  have HB := Hid.mk hb
  clear hs h1 hw hb hf hn
  go_enter Tryz.func31, Tryz.ntmps31
  go_wp2_with fail
  with_reducible refine Calls.mono qC ?_
  rintro e w1 ⟨rfl, h2⟩
  have c3 := h2.head 3
  have qO := over_ss h2 (by have := HF.out; have := HN.out; omega)
  clear h2 qC c2
  dsimp only
  go_wp2_with fail
  with_reducible refine Calls.mono qO ?_
  rintro e w2 ⟨rfl, h3⟩
  have c4 := h3.head 5
  have h4 := h3.forY
  obtain ⟨st0, E0, ok, hn, _⟩ := h4
  have E : EnvP w0 w2 (lg q p 24 false :: dk p st0 :: pr7 pb p q x sb mb first (pt yb) :: rs yb first (mdl first (n - 24) T1) :: tx x q [] true :: ob sb #[pt x, .int .i64 (first : Int)] 73 :: rs mb first (mdl first (n - 24) T) :: X1) := E0.perm (by
    refine List.Perm.cons _ (List.Perm.cons _ ?_)
    show List.Perm ([tx x q [] true, ob sb #[pt x, .int .i64 (first : Int)] 73] ++ ([pr7 pb p q x sb mb first (pt yb), rs yb first (mdl first (n - 24) T1)] ++ (rs mb first (mdl first (n - 24) T) :: X1))) ([pr7 pb p q x sb mb first (pt yb), rs yb first (mdl first (n - 24) T1)] ++ ([tx x q [] true, ob sb #[pt x, .int .i64 (first : Int)] 73] ++ (rs mb first (mdl first (n - 24) T) :: X1)))
    rw [← List.append_assoc, ← List.append_assoc]
    exact List.Perm.append_right _ List.perm_append_comm)
  rw [← HB.out] at E
  have qA := again_env E ok hn HF.out
  clear h3 E ok hn qO c3
  dsimp only
  go_wp2_with fail
  with_reducible refine Calls.mono qA ?_
  rintro e w5 ⟨rfl, x2, sb2, yb2, h5⟩
  have H5 : Hid (PL w0 w5 pb p n first) := ⟨pl_of h5 HF.out⟩
  clear h5 qA c4
  dsimp only
  go_wp2_with fail
  go_ret
  exact ⟨rfl, H5.out⟩
set_option maxRecDepth 100000 in
set_option maxHeartbeats 4000000 in
theorem plays_crash (h : PL w0 w pb p n first) (N : Int) (pa : Option Addr) (pl pc : Nat) (raw : Bool) : Calls Tryz.prog 31 #[pt pb, opv 5 N pa pl pc raw] w fun e w' => e = .returned (.bool true) ∧ PL w0 w' pb p n first := by
  obtain ⟨q, x, sb, mb, yb, T1, T, W, B, X, hs, hw, hb, hf⟩ := h
  have h1 : SS w0 (w.alloc (.cells #[.int .i64 5, .int .i64 N, .slice pa pl pc, .bool raw] 67)) q p n x sb first W false B (pr7 pb p q x sb mb first (pt yb) :: rs mb first (mdl first (n - 24) T) :: rs yb first (mdl first (n - 24) T1) :: (X ++ [ob w.heap.size #[.int .i64 5, .int .i64 N, .slice pa pl pc, .bool raw] 67])) := hs.alloc #[.int .i64 5, .int .i64 N, .slice pa pl pc, .bool raw] 67
  have c0 := h1.head 0
  have HF := Hid.mk hf
  have HB := Hid.mk hb
  generalize X ++ [ob w.heap.size #[.int .i64 5, .int .i64 N, .slice pa pl pc, .bool raw] 67] = X1 at *
  have b0 := heap_alloc_new w (.cells #[.int .i64 5, .int .i64 N, .slice pa pl pc, .bool raw] 67)
  obtain ⟨st, E1, ⟨ok, hfa⟩, hn, _⟩ := h1
  have hpend : st.pend.length ≤ 300 := by rw [ok.pend]; simp
  have qC := crash_env E1 1 rfl none 0 [] (Nat.le_trans hpend (by omega)) (by simp) (IIn.nil _ _)
  have HBK := Hid.mk (ok.back [])
  have HN := Hid.mk hn
  have HP := Hid.mk hpend
  clear hs E1 hw hb hf hn ok hfa hpend
  go_enter Tryz.func31, Tryz.ntmps31
  go_wp2_with fail
  with_reducible refine Calls.mono qC ?_
  rintro e w1 ⟨rfl, E2⟩
  have d0 : w1.cell? ⟨pb, 0, none⟩ = some (pt p) := E2.cell 4 rfl 0
  have qN := on_env E2 1 rfl (crash_few _ _ HP.out)
  clear E2 qC c0
  dsimp only
  go_wp2_with fail
  with_reducible refine Calls.mono qN ?_
  rintro e w2 ⟨rfl, E3⟩
  have d1 : w2.cell? ⟨pb, 0, none⟩ = some (pt p) := E3.cell 4 rfl 0
  have qO := open_rec (s := 24) E3.tail HBK.out.1.off HBK.out.1.opn HBK.out.1.pend (by omega) HBK.out.1.len (by have := HN.out; omega) HBK.out.1.recl
  clear E3 qN d0
  dsimp only
  go_wp2_with fail
  with_reducible refine Calls.mono qO ?_
  rintro e w3 (⟨q2, st2, rfl, E4, ok4, fa4⟩ | ⟨st2, _, _, _, hx⟩)
  · have E5 : EnvP w0 w3 (lg q2 p 24 false :: dk p st2 :: pr7 pb p q x sb mb first (pt yb) :: rs yb first (mdl first (n - 24) T1) :: tx x q W false :: ob sb #[pt x, .int .i64 (first : Int)] 73 :: rs mb first (mdl first (n - 24) T) :: X1) := E4.perm (by
      refine List.Perm.cons _ (List.Perm.cons _ ?_)
      show List.Perm ([tx x q W false, ob sb #[pt x, .int .i64 (first : Int)] 73] ++ (pr7 pb p q x sb mb first (pt yb) :: rs mb first (mdl first (n - 24) T) :: rs yb first (mdl first (n - 24) T1) :: X1)) ([pr7 pb p q x sb mb first (pt yb), rs yb first (mdl first (n - 24) T1)] ++ ([tx x q W false, ob sb #[pt x, .int .i64 (first : Int)] 73] ++ (rs mb first (mdl first (n - 24) T) :: X1)))
      refine List.Perm.trans (List.Perm.append_left _ (List.Perm.cons _ (List.Perm.swap _ _ _))) ?_
      show List.Perm ([tx x q W false, ob sb #[pt x, .int .i64 (first : Int)] 73] ++ ([pr7 pb p q x sb mb first (pt yb), rs yb first (mdl first (n - 24) T1)] ++ (rs mb first (mdl first (n - 24) T) :: X1))) _
      rw [← List.append_assoc, ← List.append_assoc]
      exact List.Perm.append_right _ List.perm_append_comm)
    have f1 := E5.frozen 2 rfl 1
    have g1 := E5.cell 2 rfl 1
    have E6 := E5.setCell 2 rfl 1 (pt q2)
    have g5 : (w3.setCell ⟨pb, 1, none⟩ (pt q2)).cell? ⟨pb, 5, none⟩ = some (pt yb) := E6.cell 2 rfl 5
    have E7 : EnvP w0 (w3.setCell ⟨pb, 1, none⟩ (pt q2)) (lg q2 p 24 false :: dk p st2 :: ob pb #[pt p, pt q2, pt x, pt sb, pt mb, pt yb, .int .i64 (first : Int)] 63 :: rs yb first (mdl first (n - 24) (B.getD first ByteArray.empty)) :: tx x q W false :: ob sb #[pt x, .int .i64 (first : Int)] 73 :: rs mb first (mdl first (n - 24) T) :: X1) := by rw [HB.out]; exact E6
    have qA := again_env E7 ⟨ok4, fa4 HBK.out.2⟩ HN.out HF.out
    clear E4 E5 E6 E7 qO ok4 fa4 d1
    dsimp only
    go_wp2_with fail
    with_reducible refine Calls.mono qA ?_
    rintro e w5 ⟨rfl, x2, sb2, yb2, h5⟩
    have H5 : Hid (PL w0 w5 pb p n first) := ⟨pl_of h5 HF.out⟩
    clear h5 qA f1 g1 g5
    dsimp only
    go_wp2_with fail
    go_ret
    exact ⟨rfl, H5.out⟩
  · exact absurd HBK.out.2 hx
end
end Go.Proofs.YtghdgddpdamhcaaGreat

/- SpacePlays: Alloc. -/
namespace Go.Proofs.YtghdgddpdamhcaaGreat
set_option linter.unusedVariables false
set_option linter.unusedSimpArgs false
open Go.RowKit Go.Maps
section
variable {w0 w w' : World} {q p n x sb first pb mb yb : Nat} {W : Wl} {o : Bool} {B : List ByteArray} {X Y : List (Th → Prop)} {I J : List Bool} {s0 : Th → Prop} {v2 v3 v4 v5 : Value} {st : St} {T1 T T3 : ByteArray}
theorem wf_sz (h : SS w0 w q p n x sb first W o B X) (hw : WF1 first W T1 T) (hb : B.getD first ByteArray.empty = T1) (hf : first + 1 ≤ n - 24) : T.size = 512 := by
  have := h.curSz first (by omega)
  rw [wf_cur hw hb] at this
  exact this
/-- the four ways of an Alloc -/
def AW (w0 w' : World) (q p n x sb first : Nat) (W : Wl) (B : List ByteArray) (T1 T : ByteArray) (X : List (Th → Prop)) (z : Int) (aa : Option Addr) (k cc : Nat) (ee : Int) : Prop :=
  (z < 0 ∧ aa = none ∧ k = 0 ∧ cc = 0 ∧ ee = 1 ∧ SS w0 w' q p n x sb first W false B X) ∨
  (¬ z < 0 ∧ (((frees T (first + 1) (n - 24)).length : Nat) : Int) < z ∧ aa = none ∧ k = 0 ∧ cc = 0 ∧ ee = 40 ∧ SS w0 w' q p n x sb first W false B X) ∨
  (z = 0 ∧ aa = none ∧ k = 0 ∧ cc = 0 ∧ ee = 0 ∧ SS w0 w' q p n x sb first W false B X) ∨
  (∃ g, aa = some ⟨g, 0, none⟩ ∧ z = (k : Int) ∧ 1 ≤ k ∧ k ≤ (frees T (first + 1) (n - 24)).length ∧ k ≤ cc ∧ ee = 0 ∧ SS w0 w' q p n x sb first [(first, flipA T ((frees T (first + 1) (n - 24)).take k))] false B (rowI (.slice (some ⟨g, 0, none⟩) k cc) (ni ((frees T (first + 1) (n - 24)).take k)) :: X))
theorem SS.allocW (h : SS w0 w q p n x sb first W false B X) (hw : WF1 first W T1 T) (hb : B.getD first ByteArray.empty = T1) (hf : first + 1 ≤ n - 24) (z : Int) : Calls Tryz.prog 13 #[pt sb, .int .i64 z] w fun e w' => ∃ aa k cc ee, e = .returned (.tuple #[.slice aa k cc, .int .i64 ee]) ∧ AW w0 w' q p n x sb first W B T1 T X z aa k cc ee := by
  have hc := wf_cur hw hb
  have hl := frees_len (cur W B first) (first + 1) (n - 24)
  by_cases c1 : z < 0
  · refine (h.takeNeg z c1).mono ?_
    rintro e w' ⟨rfl, h2⟩
    exact ⟨none, 0, 0, 1, rfl, .inl ⟨c1, rfl, rfl, rfl, rfl, h2⟩⟩
  · by_cases c2 : ((n - 24 - (first + 1) : Nat) : Int) < z
    · refine (h.takeMore hf z c2).mono ?_
      rintro e w' ⟨rfl, h2⟩
      refine ⟨none, 0, 0, 40, rfl, .inr (.inl ⟨c1, ?_, rfl, rfl, rfl, rfl, h2⟩)⟩
      rw [hc] at hl
      omega
    · by_cases c3 : z = 0
      · subst c3
        refine (h.takeZero hf).mono ?_
        rintro e w' ⟨rfl, h2⟩
        exact ⟨none, 0, 0, 0, rfl, .inr (.inr (.inl ⟨rfl, rfl, rfl, rfl, rfl, h2⟩))⟩
      · obtain ⟨N, rfl⟩ := Int.eq_ofNat_of_zero_le (by omega : 0 ≤ z)
        refine (h.takeSome hf N (by omega) (by omega)).mono ?_
        rw [hc]
        rintro e w' (⟨hlt, rfl, h2⟩ | ⟨hle, g, c, rfl, hcc, h2⟩)
        · exact ⟨none, 0, 0, 40, rfl, .inr (.inl ⟨c1, by omega, rfl, rfl, rfl, rfl, h2⟩)⟩
        · rw [wf_ins hw] at h2
          exact ⟨_, N, c, 0, rfl, .inr (.inr (.inr ⟨g, rfl, rfl, by omega, hle, hcc, rfl, h2⟩))⟩
/-- the model is told what was taken -/
theorem SS.rneg (h : SS w0 w q p n x sb first W o B X) (z : Int) (hz : z < 0) : Calls Tryz.prog 60 #[pt mb, .int .i64 z, .slice none 0 0, .int .i64 1] w fun e w' => e = .returned (.bool true) ∧ SS w0 w' q p n x sb first W o B X := by
  obtain ⟨st, E, r⟩ := h
  refine (rTakes_neg E z hz).mono ?_
  rintro e w' ⟨rfl, E'⟩
  exact ⟨rfl, st, E', r⟩
theorem SS.rmore (h : SS w0 w q p n x sb first W o B (s0 :: rs mb first I :: X)) (hl : I.length ≤ 5000) (z : Int) (hz : ¬ z < 0) (hm : ((rlf I : Nat) : Int) < z) : Calls Tryz.prog 60 #[pt mb, .int .i64 z, .slice none 0 0, .int .i64 40] w fun e w' => e = .returned (.bool true) ∧ SS w0 w' q p n x sb first W o B (s0 :: rs mb first I :: X) := by
  obtain ⟨st, E, r⟩ := h
  refine (rTakes_more E 5 rfl hl z hz hm).mono ?_
  rintro e w' ⟨rfl, E'⟩
  exact ⟨rfl, st, E', r⟩
theorem SS.rtake (h : SS w0 w q p n x sb first W o B (s0 :: rs mb first I :: X)) (hl : I.length ≤ 4000) (l : List Nat) (hr : l.Pairwise (· < ·)) (hin : ∀ k ∈ l, k < I.length ∧ I.getD k false = false) (hle : l.length ≤ rlf I) (a : Option Addr) (cap : Nat) (hc : l = [] ∨ ∃ g, a = some ⟨g, 0, none⟩ ∧ rowI (.slice (some ⟨g, 0, none⟩) l.length cap) (ni l) ∈ X) :
    Calls Tryz.prog 60 #[pt mb, .int .i64 (l.length : Int), .slice a l.length cap, .int .i64 0] w fun e w' => e = .returned (.bool true) ∧ SS w0 w' q p n x sb first W o B (s0 :: rs mb first (tak I l) :: X) := by
  obtain ⟨st, E, r⟩ := h
  refine (rTakes_env E 5 rfl hl l hr hin hle a cap (fun w1 I1 E1 j hj => ?_)).mono ?_
  · rcases hc with rfl | ⟨g, rfl, hm⟩
    · simp at hj
    · refine ⟨g, 0, rfl, ?_⟩
      have hm2 : rowI (.slice (some ⟨g, 0, none⟩) l.length cap) (ni l) ∈ (lg q p 24 false :: dk p st :: Go.Proofs.YtghdgddpdamhcaaGreat.tx x q W o :: ob sb #[pt x, .int .i64 (first : Int)] 73 :: s0 :: rs mb first I1 :: X) := by simp [hm]
      have orow := E1.rowM hm2
      rw [ni_len] at orow
      rw [Nat.zero_add, orow.cellAt j (by simp [iv, ni_len]; omega)]
      simp [iv, ni, List.getElem?_map, List.getElem?_eq_getElem hj]
  · rintro e w' ⟨rfl, E'⟩
    exact ⟨rfl, st, E', r⟩
/-- the pair behind an Alloc: the model, and what it is told -/
theorem aw_cells {X1 : List (Th → Prop)} {z : Int} {aa : Option Addr} {k cc : Nat} {ee : Int} {bo : Nat} {cs : Array Value} (h : AW w0 w q p n x sb first W B T1 T (pr7 pb p q x sb mb first (pt yb) :: rs mb first I :: rs yb first J :: (X1 ++ [ob bo cs 67])) z aa k cc ee) : w.cell? ⟨pb, 3, none⟩ = some (pt sb) ∧ w.cell? ⟨pb, 4, none⟩ = some (pt mb) ∧ w.cell? ⟨bo, 1, none⟩ = cs[1]? := by
  rcases h with ⟨_, _, _, _, _, h⟩ | ⟨_, _, _, _, _, _, h⟩ | ⟨_, _, _, _, _, h⟩ | ⟨g, _, _, _, _, _, _, h⟩
  · exact ⟨h.head 3, h.head 4, h.cellM (b := bo) (cs := cs) (ty := 67) (by simp) 1⟩
  · exact ⟨h.head 3, h.head 4, h.cellM (b := bo) (cs := cs) (ty := 67) (by simp) 1⟩
  · exact ⟨h.head 3, h.head 4, h.cellM (b := bo) (cs := cs) (ty := 67) (by simp) 1⟩
  · exact ⟨h.tail.head 3, h.tail.head 4, h.tail.cellM (b := bo) (cs := cs) (ty := 67) (by simp) 1⟩
/-- what Takes answers, and what it leaves: the model and the bitmap agree -/
theorem aw_takes {X1 : List (Th → Prop)} {z : Int} {aa : Option Addr} {k cc : Nat} {ee : Int} (h : AW w0 w q p n x sb first W B T1 T (pr7 pb p q x sb mb first (pt yb) :: rs mb first (mdl first (n - 24) T) :: rs yb first J :: X1) z aa k cc ee) (hw : WF1 first W T1 T) (hb : B.getD first ByteArray.empty = T1) (hf : first + 1 ≤ n - 24) (hT : T.size = 512) (hn : n ≤ 4000) :
    Calls Tryz.prog 60 #[pt mb, .int .i64 z, .slice aa k cc, .int .i64 ee] w fun e w' => e = .returned (.bool true) ∧ ∃ W2 T2 X2, SS w0 w' q p n x sb first W2 false B (pr7 pb p q x sb mb first (pt yb) :: rs mb first (mdl first (n - 24) T2) :: rs yb first J :: (X2 ++ X1)) ∧ WF1 first W2 T1 T2 := by
  have hlm := mdl_len first (n - 24) T
  rcases h with ⟨hz, rfl, rfl, rfl, rfl, h⟩ | ⟨hz, hm, rfl, rfl, rfl, rfl, h⟩ | ⟨rfl, rfl, rfl, rfl, rfl, h⟩ | ⟨g, rfl, rfl, hk1, hk, hkc, rfl, h⟩
  · refine (h.rneg z hz).mono ?_
    rintro e w' ⟨rfl, h2⟩
    exact ⟨rfl, W, T, [], h2, hw⟩
  · refine (h.rmore (by rw [hlm]; omega) z hz (by rw [rlf_mdl]; exact hm)).mono ?_
    rintro e w' ⟨rfl, h2⟩
    exact ⟨rfl, W, T, [], h2, hw⟩
  · refine (h.rtake (by rw [hlm]; omega) [] List.Pairwise.nil (fun k hk => by cases hk) (by simp) none 0 (.inl rfl)).mono ?_
    rintro e w' ⟨rfl, h2⟩
    exact ⟨rfl, W, T, [], h2, hw⟩
  · have hll : ((frees T (first + 1) (n - 24)).take k).length = k := by rw [List.length_take]; omega
    have h1 : SS w0 w q p n x sb first [(first, flipA T ((frees T (first + 1) (n - 24)).take k))] false B (pr7 pb p q x sb mb first (pt yb) :: rs mb first (mdl first (n - 24) T) :: (rowI (.slice (some ⟨g, 0, none⟩) k cc) (ni ((frees T (first + 1) (n - 24)).take k)) :: rs yb first J :: X1)) := h.perm ((List.Perm.swap _ _ _).trans (List.Perm.cons _ (List.Perm.swap _ _ _)))
    have hsub : ∀ j ∈ (frees T (first + 1) (n - 24)).take k, j ∈ frees T (first + 1) (n - 24) := fun j hj => List.mem_of_mem_take hj
    have hnd : ((frees T (first + 1) (n - 24)).take k).Nodup := List.Nodup.sublist (List.take_sublist _ _) (frees_nodup _ _ _)
    have qT := h1.rtake (by rw [hlm]; omega) ((frees T (first + 1) (n - 24)).take k) (List.Pairwise.sublist (List.take_sublist _ _) (frees_rise _ _ _)) (fun j hj => by
      have := mem_frees.1 (hsub j hj)
      rw [hlm, mdl_get this.1]
      refine ⟨this.1, ?_⟩
      rw [this.2.2, decide_eq_false (by omega)]; rfl) (by rw [rlf_mdl, hll]; exact hk) (some ⟨g, 0, none⟩) cc (.inr ⟨g, rfl, by rw [hll]; exact List.mem_cons_self⟩)
    rw [hll, tak_mdl hT (by omega) hnd hsub] at qT
    refine qT.mono ?_
    rintro e w' ⟨rfl, h2⟩
    refine ⟨rfl, _, _, [rowI (.slice (some ⟨g, 0, none⟩) k cc) (ni ((frees T (first + 1) (n - 24)).take k))], h2.perm ?_, .inr rfl⟩
    refine List.Perm.cons _ (List.Perm.cons _ ?_)
    exact List.Perm.swap _ _ _
set_option maxRecDepth 100000 in
set_option maxHeartbeats 4000000 in
theorem plays_alloc (h : PL w0 w pb p n first) (N : Int) (pa : Option Addr) (pl pc : Nat) (raw : Bool) : Calls Tryz.prog 31 #[pt pb, opv 1 N pa pl pc raw] w fun e w' => e = .returned (.bool true) ∧ PL w0 w' pb p n first := by
  obtain ⟨q, x, sb, mb, yb, T1, T, W, B, X, hs, hw, hb, hf⟩ := h
  have h1 : SS w0 (w.alloc (.cells #[.int .i64 1, .int .i64 N, .slice pa pl pc, .bool raw] 67)) q p n x sb first W false B (pr7 pb p q x sb mb first (pt yb) :: rs mb first (mdl first (n - 24) T) :: rs yb first (mdl first (n - 24) T1) :: (X ++ [ob w.heap.size #[.int .i64 1, .int .i64 N, .slice pa pl pc, .bool raw] 67])) := hs.alloc #[.int .i64 1, .int .i64 N, .slice pa pl pc, .bool raw] 67
  have hn := hs.nn
  have hTs := wf_sz hs hw hb hf
  have S0 : (w.alloc (.cells #[.int .i64 1, .int .i64 N, .slice pa pl pc, .bool raw] 67)).drew.cell? ⟨pb, 3, none⟩ = some (pt sb) ∧ (w.alloc (.cells #[.int .i64 1, .int .i64 N, .slice pa pl pc, .bool raw] 67)).drew.cell? ⟨pb, 4, none⟩ = some (pt mb) ∧ (w.alloc (.cells #[.int .i64 1, .int .i64 N, .slice pa pl pc, .bool raw] 67)).drew.cell? ⟨w.heap.size, 1, none⟩ = some (.int .i64 N) := ⟨h1.drew.head 3, h1.drew.head 4, h1.drew.cellM (b := w.heap.size) (cs := #[.int .i64 1, .int .i64 N, .slice pa pl pc, .bool raw]) (ty := 67) (by simp) 1⟩
  have c0 : (w.alloc (.cells #[.int .i64 1, .int .i64 N, .slice pa pl pc, .bool raw] 67)).cell? ⟨w.heap.size, 0, none⟩ = some (.int .i64 1) := h1.cellM (b := w.heap.size) (cs := #[.int .i64 1, .int .i64 N, .slice pa pl pc, .bool raw]) (ty := 67) (by simp) 0
  have qA := h1.drew.allocW hw hb hf N
  have HT : Hid (∀ w2 aa k cc ee, AW w0 w2 q p n x sb first W B T1 T (pr7 pb p q x sb mb first (pt yb) :: rs mb first (mdl first (n - 24) T) :: rs yb first (mdl first (n - 24) T1) :: (X ++ [ob w.heap.size #[.int .i64 1, .int .i64 N, .slice pa pl pc, .bool raw] 67])) N aa k cc ee → (w2.cell? ⟨pb, 3, none⟩ = some (pt sb) ∧ w2.cell? ⟨pb, 4, none⟩ = some (pt mb) ∧ w2.cell? ⟨w.heap.size, 1, none⟩ = some (.int .i64 N)) ∧ Calls Tryz.prog 60 #[pt mb, .int .i64 N, .slice aa k cc, .int .i64 ee] w2 fun e w' => e = .returned (.bool true) ∧ ∃ W2 T2 X2, SS w0 w' q p n x sb first W2 false B (pr7 pb p q x sb mb first (pt yb) :: rs mb first (mdl first (n - 24) T2) :: rs yb first (mdl first (n - 24) T1) :: (X2 ++ (X ++ [ob w.heap.size #[.int .i64 1, .int .i64 N, .slice pa pl pc, .bool raw] 67]))) ∧ WF1 first W2 T1 T2) := ⟨fun w2 aa k cc ee ha => ⟨aw_cells ha, aw_takes ha hw hb hf hTs hn.2⟩⟩
  have HAD : Hid (∀ w2 aa k cc ee, AW w0 w2 q p n x sb first W B T1 T (pr7 pb p q x sb mb first (pt yb) :: rs mb first (mdl first (n - 24) T) :: rs yb first (mdl first (n - 24) T1) :: (X ++ [ob w.heap.size #[.int .i64 1, .int .i64 N, .slice pa pl pc, .bool raw] 67])) N aa k cc ee → AW w0 w2.drew q p n x sb first W B T1 T (pr7 pb p q x sb mb first (pt yb) :: rs mb first (mdl first (n - 24) T) :: rs yb first (mdl first (n - 24) T1) :: (X ++ [ob w.heap.size #[.int .i64 1, .int .i64 N, .slice pa pl pc, .bool raw] 67])) N aa k cc ee) := ⟨fun w2 aa k cc ee ha => by
    rcases ha with ⟨a1, a2, a3, a4, a5, h⟩ | ⟨a1, a2, a3, a4, a5, a6, h⟩ | ⟨a1, a2, a3, a4, a5, h⟩ | ⟨g, a1, a2, a3, a4, a5, a6, h⟩
    · exact .inl ⟨a1, a2, a3, a4, a5, h.drew⟩
    · exact .inr (.inl ⟨a1, a2, a3, a4, a5, a6, h.drew⟩)
    · exact .inr (.inr (.inl ⟨a1, a2, a3, a4, a5, h.drew⟩))
    · exact .inr (.inr (.inr ⟨g, a1, a2, a3, a4, a5, a6, h.drew⟩))⟩
  have HPS : Hid (∀ w2 W2 T2 X2, SS w0 w2 q p n x sb first W2 false B (pr7 pb p q x sb mb first (pt yb) :: rs mb first (mdl first (n - 24) T2) :: rs yb first (mdl first (n - 24) T1) :: (X2 ++ (X ++ [ob w.heap.size #[.int .i64 1, .int .i64 N, .slice pa pl pc, .bool raw] 67]))) → WF1 first W2 T1 T2 → (w2.cell? ⟨pb, 3, none⟩ = some (pt sb) ∧ w2.cell? ⟨pb, 4, none⟩ = some (pt mb) ∧ w2.cell? ⟨w.heap.size, 1, none⟩ = some (.int .i64 N)) ∧ Calls Tryz.prog 29 #[pt pb] w2 fun e w' => e = .returned (.bool true) ∧ (w'.cell? ⟨pb, 3, none⟩ = some (pt sb) ∧ w'.cell? ⟨pb, 4, none⟩ = some (pt mb) ∧ w'.cell? ⟨w.heap.size, 1, none⟩ = some (.int .i64 N)) ∧ PL w0 w' pb p n first) := ⟨fun w2 W2 T2 X2 h2 hw2 => by
    have hc := wf_cur hw2 hb
    have := psame_ss (by rw [hc]; exact h2) hf
    rw [hc] at this
    refine ⟨⟨h2.head 3, h2.head 4, h2.cellM (b := w.heap.size) (cs := #[.int .i64 1, .int .i64 N, .slice pa pl pc, .bool raw]) (ty := 67) (by simp) 1⟩, this.mono ?_⟩
    rintro e w' ⟨rfl, h3⟩
    exact ⟨rfl, ⟨h3.head 3, h3.head 4, h3.cellM (b := w.heap.size) (cs := #[.int .i64 1, .int .i64 N, .slice pa pl pc, .bool raw]) (ty := 67) (by simp) 1⟩, q, x, sb, mb, yb, T1, T2, W2, B, _, h3, hw2, hb, hf⟩⟩
  generalize hAW : (fun w2 aa k cc ee => AW w0 w2 q p n x sb first W B T1 T (pr7 pb p q x sb mb first (pt yb) :: rs mb first (mdl first (n - 24) T) :: rs yb first (mdl first (n - 24) T1) :: (X ++ [ob w.heap.size #[.int .i64 1, .int .i64 N, .slice pa pl pc, .bool raw] 67])) N aa k cc ee) = AX at *
  have e : ∀ w2 aa k cc ee, AW w0 w2 q p n x sb first W B T1 T (pr7 pb p q x sb mb first (pt yb) :: rs mb first (mdl first (n - 24) T) :: rs yb first (mdl first (n - 24) T1) :: (X ++ [ob w.heap.size #[.int .i64 1, .int .i64 N, .slice pa pl pc, .bool raw] 67])) N aa k cc ee = AX w2 aa k cc ee := fun w2 aa k cc ee => by rw [← hAW]
  simp only [e] at qA HT HAD
  have b0 := heap_alloc_new w (.cells #[.int .i64 1, .int .i64 N, .slice pa pl pc, .bool raw] 67)
  clear e hAW hs h1 hw hf hTs hn
  go_enter Tryz.func31, Tryz.ntmps31
  go_wp2_with fail
  generalize w.alloc (.cells #[.int .i64 1, .int .i64 N, .slice pa pl pc, .bool raw] 67) = W1 at *
  generalize hbo : w.heap.size = bo at *
  go_region_held3 (fun w' => w'.cell? ⟨pb, 3, none⟩ = some (pt sb) ∧ w'.cell? ⟨pb, 4, none⟩ = some (pt mb) ∧ w'.cell? ⟨bo, 1, none⟩ = some (.int .i64 N)) (first | exact S0 | exact (HT.out _ _ _ _ _ ha).1) ((go_at_call 13; with_reducible refine Calls.mono qA ?_; rintro e w2 ⟨aa, k, cc, ee, rfl, ha⟩))
  obtain ⟨S4, qT⟩ := HT.out _ _ _ _ _ (HAD.out _ _ _ _ _ ha)
  clear S0 qA ha HT HAD c0 b0
  go_wp2_with fail
  go_region_held3 (fun w' => w'.cell? ⟨pb, 3, none⟩ = some (pt sb) ∧ w'.cell? ⟨pb, 4, none⟩ = some (pt mb) ∧ w'.cell? ⟨bo, 1, none⟩ = some (.int .i64 N)) (first | exact S4 | exact (HPS.out _ _ _ _ h3 hw3).1 | exact c4) ((first
    | (go_at_call 60; with_reducible refine Calls.mono qT ?_; rintro e w3 ⟨rfl, W2, T2, X2, h3, hw3⟩)
    | (go_at_call 29; with_reducible refine Calls.mono (HPS.out _ _ _ _ h3 hw3).2 ?_; rintro e w4 ⟨rfl, c4, h4⟩)))
  have H4 := Hid.mk h4
  clear h4 h3 hw3 qT S4 HPS c4
  go_wp2_with fail
  go_ret
  exact ⟨rfl, H4.out⟩
end
end Go.Proofs.YtghdgddpdamhcaaGreat

/- SpacePlays: Free. -/
namespace Go.Proofs.YtghdgddpdamhcaaGreat
set_option linter.unusedVariables false
set_option linter.unusedSimpArgs false
open Go.RowKit Go.Maps
theorem app_slA {ops : Array Oper} {rest : List Oper} {o : Oper} {a : Act} {Q : Exit → Act → World → Prop} {w : World} {v : Value} {zs ys : List Int} {va : Option Addr} {m c : Nat} (hy : ys.length = m) (hown : w.ownsRow 0 3 1 v zs.length (iv zs)) (hrow : w.ownsRow 0 3 1 (.slice va m c) ys.length (iv ys)) (hn : zs.length + m < 9000000000000)
    (hgd : o.guard = none) (s x : Operand) (ho : o.op = .call { callee := .builtin .append, args := #[s, x], argTypes := #[22, 22] })
    (hs : a.eval s = v) (hx : a.eval x = .slice va m c)
    (h : ∀ v' w', w'.ownsRow 0 3 1 v' (zs ++ ys).length (iv (zs ++ ys)) → w.grownBy w' v.ownBlock → (∀ k, v'.ownBlock = some k → v.ownBlock = some k ∨ w.heap.size ≤ k) → wpList Tryz.prog ops Q rest (a.put o.dst v') w') : wpList Tryz.prog ops Q (o :: rest) a w := by
  subst hy
  rcases hrow.2 with ⟨e, h0⟩ | ⟨g, cap, cur, e, _⟩
  · injection e with e1 e2 e3
    subst e1 e3
    have hq : ys = [] := List.eq_nil_of_length_eq_zero h0
    subst hq
    obtain ⟨i0, hi0, hz0, hz1, hz2⟩ := info_parts infoIf
    refine wpList_plain hgd fun K hK' => ?_
    have hrun := run_append_owned_none (P := Tryz.prog) w 0 22 o.type 3 i0 1 Tryz.underlying22 hi0 _ zs.length (iv zs) hown
    unfold Oper.wp
    simp [execOp, ho, resolve, invoke, builtin, hs, hx, hrun, Result.andThen]
    exact hK' _ _ (h v w (by simpa using hown) ⟨rfl, rfl, rfl, Nat.le_refl _, fun k _ _ => rfl⟩ (fun k e => .inl e))
  · injection e with e1 e2 e3
    subst e1
    refine app_sl (g := g) (off := 0) rfl hown (fun j hj => ?_) hn hgd s x ho hs hx h
    rw [Nat.zero_add, hrow.cellAt j (by simpa [iv] using hj)]
    simp [iv, List.getElem?_map, List.getElem?_eq_getElem hj, List.getD_eq_getElem?_getD]
section
variable {w0 w w' : World} {q p n x sb first pb mb yb : Nat} {W : Wl} {o : Bool} {B : List ByteArray} {X Y : List (Th → Prop)} {I J : List Bool} {s0 : Th → Prop} {v2 v3 v4 v5 : Value} {st : St} {T1 T T3 : ByteArray}
/-- what is freed -/
def gdF (first m : Nat) (T : ByteArray) (zs : List Int) : Prop := fgood (first + 1) m (srt zs) ∧ allB T true (nats (srt zs)) = true
def FW (first m : Nat) (T T2 : ByteArray) (zs : List Int) (ee : Int) : Prop := (gdF first m T zs ∧ ee = 0 ∧ T2 = flipA T (nats (srt zs))) ∨ (¬ gdF first m T zs ∧ ee = 1 ∧ T2 = T)
theorem srt_nil : srt [] = [] := List.eq_nil_of_length_eq_zero (srt_len [])
theorem SS.freeW (h : SS w0 w q p n x sb first W false B X) (hw : WF1 first W T1 T) (hb : B.getD first ByteArray.empty = T1) (hf : first + 1 ≤ n - 24) (a : Option Addr) (cap : Nat) (zs : List Int) (hN : zs.length ≤ 4096)
    (hcs : ∀ w1, SS w0 w1 q p n x sb first W false B X → ∀ j, j < zs.length → ∃ b off, a = some ⟨b, off, none⟩ ∧ b < w1.heap.size ∧ w1.cell? ⟨b, off + j, none⟩ = some (.int .i64 (zs.getD j 0))) :
    Calls Tryz.prog 15 #[pt sb, .slice a zs.length cap] w fun e w' => ∃ ee W2 T2, e = .returned (.int .i64 ee) ∧ SS w0 w' q p n x sb first W2 false B X ∧ WF1 first W2 T1 T2 ∧ FW first (n - 24) T T2 zs ee := by
  have hc := wf_cur hw hb
  refine (h.freeL hf a cap zs hN hcs).mono ?_
  intro e w' hp
  unfold FP at hp
  rw [hc] at hp
  rcases hp with ⟨rfl, rfl, h2⟩ | ⟨_, hg, ha, rfl, h2⟩ | ⟨hx, rfl, h2⟩
  · refine ⟨0, W, T, rfl, h2, hw, .inl ⟨⟨fun i hi => by rw [srt_len] at hi; simp at hi, by rw [srt_nil]; rfl⟩, rfl, by rw [srt_nil]; rfl⟩⟩
  · rw [wf_ins hw] at h2
    exact ⟨0, _, _, rfl, h2, .inr rfl, .inl ⟨⟨hg, ha⟩, rfl, rfl⟩⟩
  · exact ⟨1, W, T, rfl, h2, hw, .inr ⟨hx, rfl, rfl⟩⟩
theorem SS.rfree (h : SS w0 w q p n x sb first W o B (s0 :: rs mb first (mdl first (n - 24) T) :: X)) (hT : T.size = 512) (hf : first + 1 ≤ n - 24) {T2 : ByteArray} {ee : Int} {zs : List Int} (hF : FW first (n - 24) T T2 zs ee) {va : Option Addr} {vc : Nat} (hm : rowI (.slice va zs.length vc) zs ∈ X) (hzl : zs.length ≤ 100) :
    Calls Tryz.prog 62 #[pt mb, .slice va zs.length vc] w fun e w' => e = .returned (.int .i64 ee) ∧ SS w0 w' q p n x sb first W o B (s0 :: rs mb first (mdl first (n - 24) T2) :: X) := by
  have hn := h.nn
  have hlm := mdl_len first (n - 24) T
  obtain ⟨st, E, r⟩ := h
  refine (rFree_env E 5 rfl (by rw [hlm]; omega) (by rw [hlm]; omega) (by omega) zs va vc (by omega) (fun w1 I1 E1 j hj => ?_)).mono ?_
  · have hm2 : rowI (.slice va zs.length vc) zs ∈ (lg q p 24 false :: dk p st :: Go.Proofs.YtghdgddpdamhcaaGreat.tx x q W o :: ob sb #[pt x, .int .i64 (first : Int)] 73 :: s0 :: rs mb first I1 :: X) := by simp [hm]
    have orow := E1.rowM hm2
    rcases orow.2 with ⟨_, h0⟩ | ⟨g, cap, cur, e, _⟩
    · omega
    · injection e with e1 e2 e3
      refine ⟨g, 0, e1, ?_⟩
      rw [Nat.zero_add]
      subst e1
      rw [orow.cellAt j (by simp [iv]; omega)]
      simp [iv, List.getElem?_map, List.getElem?_eq_getElem hj, List.getD_eq_getElem?_getD]
  · rw [fgd_iff (by omega)]
    rintro e w' (⟨hg, rfl, E'⟩ | ⟨hg, rfl, E'⟩)
    · rcases hF with ⟨_, rfl, rfl⟩ | ⟨hng, _⟩
      · rw [fre_mdl hT (by omega) hg.1 hg.2] at E'
        exact ⟨rfl, st, E', r⟩
      · exact absurd hg hng
    · rcases hF with ⟨hng, _⟩ | ⟨_, rfl, rfl⟩
      · exact absurd hng hg
      · exact ⟨rfl, st, E', r⟩
theorem SS.picksW (h : SS w0 w q p n x sb first W o B (pr7 pb p q x sb mb first v5 :: rs mb first I :: X)) (hl : I.length = n - 24) (hf : first + 1 ≤ n - 24) (kd N : Int) (pa : Option Addr) (pc : Nat) (ps : List Int) (raw : Bool) (hz : IIn w0 pa ps) (hpl : ps.length ≤ 20000000000000) :
    Calls Tryz.prog 61 #[pt pb, .agg #[.int .i64 kd, .int .i64 N, .slice pa ps.length pc, .bool raw]] w fun e w' => ∃ va vc zs, e = .returned (.slice va zs.length vc) ∧ zs.length ≤ 40 ∧ SS w0 w' q p n x sb first W o B (pr7 pb p q x sb mb first v5 :: rs mb first I :: (X ++ [rowI (.slice va zs.length vc) zs])) := by
  have hn := h.nn
  obtain ⟨st, E, r⟩ := h
  refine (picks_env E (pt p) (pt q) (pt x) (pt sb) v5 (.int .i64 (first : Int)) (mb := mb) (pb := pb) (first := first) (I := I) (by simp) (by simp) (by omega) (by omega) (by omega) kd N pa pc ps raw hz hpl).mono ?_
  rintro e w' ⟨v, zs, rfl, hzl, E'⟩
  obtain ⟨va, vc, rfl⟩ := own_slice E'.rowLast
  exact ⟨va, vc, zs, rfl, hzl, st, E', r⟩
end
end Go.Proofs.YtghdgddpdamhcaaGreat

/- SpacePlays: a Free. -/
namespace Go.Proofs.YtghdgddpdamhcaaGreat
set_option linter.unusedVariables false
set_option linter.unusedSimpArgs false
open Go.RowKit Go.Maps
attribute [local go_sem ↓] slIe
section
variable {w0 w w' : World} {q p n x sb first pb mb yb : Nat} {W : Wl} {o : Bool} {B : List ByteArray} {X Y : List (Th → Prop)} {I J : List Bool} {v5 : Value} {T1 T T3 : ByteArray}
theorem SS.rowM (h : SS w0 w q p n x sb first W o B X) {v : Value} {zs : List Int} (hm : rowI v zs ∈ X) : w.ownsRow 0 3 1 v zs.length (iv zs) := by
  obtain ⟨st, E, r⟩ := h
  exact E.rowM (by simp [hm])
theorem SS.appL {v v' : Value} {zs zs' : List Int} (h : SS w0 w q p n x sb first W o B (X ++ [rowI v zs])) (ow : w'.ownsRow 0 3 1 v' zs'.length (iv zs')) (g : w.grownBy w' v.ownBlock) (nw : ∀ k, v'.ownBlock = some k → v.ownBlock = some k ∨ w.heap.size ≤ k) : SS w0 w' q p n x sb first W o B (X ++ [rowI v' zs']) := by
  obtain ⟨st, E, r⟩ := h
  exact ⟨st, EnvP.appL (X := lg q p 24 false :: dk p st :: Go.Proofs.YtghdgddpdamhcaaGreat.tx x q W o :: ob sb #[pt x, .int .i64 (first : Int)] 73 :: X) E ow g nw, r⟩
theorem own_some {v : Value} {zs : List Int} {va : Option Addr} {m c j : Nat} (h : w.ownsRow 0 3 1 (.slice va m c) zs.length (iv zs)) (hj : j < zs.length) : ∃ g, va = some ⟨g, 0, none⟩ ∧ g < w.heap.size ∧ w.cell? ⟨g, j, none⟩ = some (.int .i64 (zs.getD j 0)) := by
  rcases h.2 with ⟨_, h0⟩ | ⟨g, cap, cur, e, _, hg, _⟩
  · omega
  · injection e with e1 e2 e3
    have hlt : g < w.heap.size := heap_lt hg
    refine ⟨g, e1, hlt, ?_⟩
    subst e1 e2
    rw [h.cellAt j (by simp [iv]; omega)]
    simp [iv, List.getElem?_map, List.getElem?_eq_getElem hj, List.getD_eq_getElem?_getD]
theorem own_empty (w : World) : (w.alloc (.cells #[] 3)).ownsRow 0 3 1 (.slice (some ⟨w.heap.size, 0, none⟩) 0 0) 0 [] :=
  ⟨rfl, Or.inr ⟨w.heap.size, 0, #[], rfl, Nat.zero_le _, heap_alloc_new _ _, Nat.le_refl _, Nat.zero_le _, rfl, rfl⟩⟩
theorem own_cap {zs : List Int} {va : Option Addr} {m c : Nat} (h : w.ownsRow 0 3 1 (.slice va m c) zs.length (iv zs)) : m = zs.length ∧ m ≤ c ∧ c ≤ 9223372036854775807 ∧ (va = none → c = 0) := by
  rcases h.2 with ⟨e, h0⟩ | ⟨g, cap, cur, e, _, _, h1, h2, _⟩
  · injection e with e1 e2 e3
    subst e1 e2 e3
    exact ⟨by omega, by omega, by omega, fun _ => rfl⟩
  · injection e with e1 e2 e3
    subst e1 e2 e3
    exact ⟨rfl, h1, h2, fun q => by cases q⟩
set_option maxRecDepth 100000 in
set_option maxHeartbeats 4000000 in
theorem plays_free (h : PL w0 w pb p n first) (N : Int) (pa : Option Addr) (pc : Nat) (ps : List Int) (raw : Bool) (hz : IIn w0 pa ps) (hpl : ps.length ≤ 20000000000000) : Calls Tryz.prog 31 #[pt pb, opv 2 N pa ps.length pc raw] w fun e w' => e = .returned (.bool true) ∧ PL w0 w' pb p n first := by
  obtain ⟨q, x, sb, mb, yb, T1, T, W, B, X, hs, hw, hb, hf⟩ := h
  have h1 : SS w0 (w.alloc (.cells #[.int .i64 2, .int .i64 N, .slice pa ps.length pc, .bool raw] 67)) q p n x sb first W false B (pr7 pb p q x sb mb first (pt yb) :: rs mb first (mdl first (n - 24) T) :: (rs yb first (mdl first (n - 24) T1) :: X ++ [ob w.heap.size #[.int .i64 2, .int .i64 N, .slice pa ps.length pc, .bool raw] 67])) := hs.alloc #[.int .i64 2, .int .i64 N, .slice pa ps.length pc, .bool raw] 67
  have hTs := wf_sz hs hw hb hf
  have b0 := heap_alloc_new w (.cells #[.int .i64 2, .int .i64 N, .slice pa ps.length pc, .bool raw] 67)
  have qP := h1.picksW (mdl_len _ _ _) hf 2 N pa pc ps raw hz hpl
  have HW := Hid.mk hw
  have HB := Hid.mk hb
  have HF := Hid.mk hf
  have HT := Hid.mk hTs
  have qP' : Calls Tryz.prog 61 #[pt pb, .agg #[.int .i64 2, .int .i64 N, .slice pa ps.length pc, .bool raw]] (w.alloc (.cells #[.int .i64 2, .int .i64 N, .slice pa ps.length pc, .bool raw] 67)) fun e w' => ∃ va vc zs, e = .returned (.slice va zs.length vc) ∧ zs.length ≤ 40 ∧ SS w0 w' q p n x sb first W false B (pr7 pb p q x sb mb first (pt yb) :: rs mb first (mdl first (n - 24) T) :: (rs yb first (mdl first (n - 24) T1) :: ((X ++ [ob w.heap.size #[.int .i64 2, .int .i64 N, .slice pa ps.length pc, .bool raw] 67]) ++ [rowI (.slice va zs.length vc) zs]))) := qP
  generalize X ++ [ob w.heap.size #[.int .i64 2, .int .i64 N, .slice pa ps.length pc, .bool raw] 67] = Xr at *
  clear qP h1 hs hw hb hf hTs
  go_enter Tryz.func31, Tryz.ntmps31
  go_wp2_with fail
  with_reducible refine Calls.mono qP' ?_
  rintro e w1 ⟨va, vc, zs, rfl, hzl, h2⟩
  have h3 : SS w0 (w1.alloc (.cells #[] 3)) q p n x sb first W false B (pr7 pb p q x sb mb first (pt yb) :: rs mb first (mdl first (n - 24) T) :: (rs yb first (mdl first (n - 24) T1) :: (Xr ++ [rowI (.slice va zs.length vc) zs] ++ [rowI (.slice (some ⟨w1.heap.size, 0, none⟩) 0 0) []]))) := h2.pushI (l := []) ((Below.refl _ _).alloc (Nat.le_refl _) _) (own_empty w1) (fun k e => by
    have e2 : some w1.heap.size = some k := e
    injection e2 with e2
    omega)
  have rL := h3.rowM (v := .slice va zs.length vc) (zs := zs) (by simp)
  have rE : (w1.alloc (.cells #[] 3)).ownsRow 0 3 1 (.slice (some ⟨w1.heap.size, 0, none⟩) 0 0) ([] : List Int).length (iv []) := own_empty w1
  have HAp : Hid (∀ (w4 : World) (v4 : Value), w4.ownsRow 0 3 1 v4 ([] ++ zs).length (iv ([] ++ zs)) → (w1.alloc (.cells #[] 3)).grownBy w4 (Value.slice (some ⟨w1.heap.size, 0, none⟩) 0 0).ownBlock → (∀ k, v4.ownBlock = some k → (Value.slice (some ⟨w1.heap.size, 0, none⟩) 0 0).ownBlock = some k ∨ (w1.alloc (.cells #[] 3)).heap.size ≤ k) → SS w0 w4 q p n x sb first W false B (pr7 pb p q x sb mb first (pt yb) :: rs mb first (mdl first (n - 24) T) :: (rs yb first (mdl first (n - 24) T1) :: (Xr ++ [rowI (.slice va zs.length vc) zs] ++ [rowI v4 zs])))) := ⟨fun w4 v4 o g nw => SS.appL (X := pr7 pb p q x sb mb first (pt yb) :: rs mb first (mdl first (n - 24) T) :: (rs yb first (mdl first (n - 24) T1) :: (Xr ++ [rowI (.slice va zs.length vc) zs]))) h3 o g nw⟩
  have HA2 : Hid (∀ (w4 w5 : World) (v4 v5 : Value), SS w0 w4 q p n x sb first W false B (pr7 pb p q x sb mb first (pt yb) :: rs mb first (mdl first (n - 24) T) :: (rs yb first (mdl first (n - 24) T1) :: (Xr ++ [rowI (.slice va zs.length vc) zs] ++ [rowI v4 zs]))) → w5.ownsRow 0 3 1 v5 (zs ++ [-77]).length (iv (zs ++ [-77])) → w4.grownBy w5 v4.ownBlock → (∀ k, v5.ownBlock = some k → v4.ownBlock = some k ∨ w4.heap.size ≤ k) → SS w0 w5 q p n x sb first W false B (pr7 pb p q x sb mb first (pt yb) :: rs mb first (mdl first (n - 24) T) :: (rs yb first (mdl first (n - 24) T1) :: (Xr ++ [rowI (.slice va zs.length vc) zs] ++ [rowI v5 (zs ++ [-77])])))) := ⟨fun w4 w5 v4 v5 h o g nw => SS.appL (X := pr7 pb p q x sb mb first (pt yb) :: rs mb first (mdl first (n - 24) T) :: (rs yb first (mdl first (n - 24) T1) :: (Xr ++ [rowI (.slice va zs.length vc) zs]))) h o g nw⟩
  clear h2 h3 qP'
  dsimp only
  go_wp2_with (first
    | (refine app_slA (zs := []) (ys := zs) (va := va) (m := zs.length) (c := vc) rfl rE rL (by simp; omega) rfl _ _ rfl rfl rfl ?_; intro v4 w4 o4 g4 n4; have h4 := HAp.out w4 v4 o4 g4 n4; have r4 := h4.rowM (v := v4) (zs := zs) (by simp))
    | (refine app_int (zs := zs) (m := zs.length) (v := v4) (z := -77) rfl rfl rfl r4 (by omega) rfl _ _ rfl rfl rfl ?_; intro y5 c5 w5 k5 o5 g5 n5))
  have h5 := HA2.out w4 w5 v4 (rw_ y5 (zs.length + 1) c5) h4 (by rw [List.length_append]; exact o5) g5 (fun k e => by
    have e2 : some y5 = some k := e
    injection e2 with e2
    subst e2
    exact n5)
  have r5 := h5.rowM (v := rw_ y5 (zs.length + 1) c5) (zs := zs ++ [-77]) (by simp)
  have k5b := (own_cap r5).2.2.1
  clear HAp HA2 rL rE h4 r4 o4 g4 n4 o5 g5 n5 r5
  have hsl := run_slI (some ⟨y5, 0, none⟩) (zs.length + 1) c5 zs.length (by omega) k5b (fun q => by cases q)
  have qF := h5.drew.freeW HW.out HB.out HF.out (some ⟨y5, 0, none⟩) c5 zs (by omega) (fun w1 hh j hj => by
    have ro := hh.rowM (v := rw_ y5 (zs.length + 1) c5) (zs := zs ++ [-77]) (by simp)
    obtain ⟨g, e, hg, hc⟩ := own_some (v := rw_ y5 (zs.length + 1) c5) ro (j := j) (by simp; omega)
    injection e with e
    injection e with e1
    subst e1
    refine ⟨y5, 0, rfl, hg, ?_⟩
    rw [Nat.zero_add, hc, List.getD_eq_getElem?_getD, List.getElem?_append_left hj, List.getD_eq_getElem?_getD])
  have S0 : w5.drew.cell? ⟨pb, 3, none⟩ = some (pt sb) := h5.drew.head 3
  have H5 := Hid.mk h5
  clear h5
  go_region_held3 (fun w' => w'.cell? ⟨pb, 3, none⟩ = some (pt sb)) (first | exact S0 | exact h6.head 3) ((go_at_call 15; with_reducible refine Calls.mono qF ?_; rintro e w6 ⟨ee, W2, T2, rfl, h6, hw6, hF6⟩))
  have H6 := Hid.mk h6
  have HW6 := Hid.mk hw6
  have HF6 := Hid.mk hF6
  have hk5 : (zs.length : Int) < (zs.length : Int) + 1 := by omega
  clear h6 hw6 hF6 S0 qF H5 hsl HW b0 k5b hz hpl
  go_wp2_with fail
  go_loopw [10] (fun i wr => ∃ k : Nat, k ≤ zs.length ∧ i = .int .i64 (k : Int) ∧ Hid (SS w0 wr q p n x sb first W2 false B (pr7 pb p q x sb mb first (pt yb) :: rs mb first (mdl first (n - 24) T) :: (rs yb first (mdl first (n - 24) T1) :: (Xr ++ [rowI (.slice va zs.length vc) zs] ++ [rowI (rw_ y5 (zs.length + 1) c5) (zs ++ [-77])]))))) (fun i _ => zs.length - (intOf i).toNat)
  case atStart => exact ⟨0, by omega, rfl, H6⟩
  case round =>
    obtain ⟨k, hk, rfl, HK⟩ := hrel
    clear H6
    by_cases hlt : k < zs.length
    · have d1 : decide ((k : Int) < (zs.length : Int)) = true := decide_eq_true (by omega)
      have k2 : (k : Int) < (zs.length : Int) := by omega
      have k3 : (k : Int) < (zs.length : Int) + 1 := by omega
      have rl := HK.out.rowM (v := .slice va zs.length vc) (zs := zs) (by simp)
      have rx := HK.out.rowM (v := rw_ y5 (zs.length + 1) c5) (zs := zs ++ [-77]) (by simp)
      obtain ⟨gl, hgl, _, cl⟩ := own_some (v := .slice va zs.length vc) rl hlt
      have cx : wr.cell? ⟨y5, k, none⟩ = some (.int .i64 (zs.getD k 0)) := by
        obtain ⟨g, e, hg, hc⟩ := own_some (v := rw_ y5 (zs.length + 1) c5) rx (j := k) (by simp; omega)
        injection e with e
        injection e with e1
        subst e1
        rw [hc, List.getD_eq_getElem?_getD, List.getElem?_append_left hlt, List.getD_eq_getElem?_getD]
      subst hgl
      generalize zs.getD k 0 = zk at *
      clear rl rx
      go_wp2_with fail
      go_quiet (fail)
      go_wp2_with fail
      exact ⟨⟨k + 1, by omega, by go_num, ⟨HK.out.drewN nq⟩⟩, by simp [intOf]; omega⟩
    · obtain rfl : k = zs.length := by omega
      have d1 : decide ((zs.length : Int) < (zs.length : Int)) = false := decide_eq_false (by omega)
      have c4 := HK.out.head 4
      have qR := HK.out.rfree HT.out HF.out HF6.out (va := va) (vc := vc) (by simp) (by omega)
      clear HK
      go_wp2_with fail
      with_reducible refine Calls.mono qR ?_
      rintro e w7 ⟨rfl, h7⟩
      have c77 : w7.cell? ⟨y5, zs.length, none⟩ = some (.int .i64 (-77)) := by
        have rx := h7.rowM (v := rw_ y5 (zs.length + 1) c5) (zs := zs ++ [-77]) (by simp)
        obtain ⟨g, e, hg, hc⟩ := own_some (v := rw_ y5 (zs.length + 1) c5) rx (j := zs.length) (by simp)
        injection e with e
        injection e with e1
        subst e1
        rw [hc, List.getD_eq_getElem?_getD, List.getElem?_append_right (Nat.le_refl _), Nat.sub_self]
        rfl
      have qS : Calls Tryz.prog 29 #[pt pb] w7 fun e w' => e = .returned (.bool true) ∧ PL w0 w' pb p n first := by
        have hc := wf_cur HW6.out HB.out
        have := psame_ss (by rw [hc]; exact h7) HF.out
        rw [hc] at this
        refine this.mono ?_
        rintro e w' ⟨rfl, h3⟩
        exact ⟨rfl, q, x, sb, mb, yb, T1, T2, W2, B, _, h3, HW6.out, HB.out, HF.out⟩
      clear h7 qR c4
      dsimp only
      go_wp2_with fail
      with_reducible refine Calls.mono qS ?_
      rintro e w8 ⟨rfl, h8⟩
      have H8 := Hid.mk h8
      clear h8 qS c77
      dsimp only
      go_wp2_with fail
      go_ret
      exact ⟨rfl, H8.out⟩
end
end Go.Proofs.YtghdgddpdamhcaaGreat

/- SpacePlays: the steps that came in. -/
namespace Go.Proofs.YtghdgddpdamhcaaGreat
set_option linter.unusedVariables false
set_option linter.unusedSimpArgs false
open Go.ChangeShapes Go.WideShapes Go.ChangeAt Go.RowKit
theorem bytesO : Tryz.prog.bytesOf 67 = 48 := by kernel_rfl
theorem cellsO : Tryz.prog.cellsOf 67 = 4 := by kernel_rfl
theorem cells4t : Tryz.prog.cellsOf 4 = 1 := by kernel_rfl
theorem cellsIt : Tryz.prog.cellsOf 22 = 1 := by kernel_rfl
theorem undO : ∃ f0 f1 f2 f3 : Field, Tryz.prog.underlying 67 = some (.struct #[f0, f1, f2, f3]) ∧ (f0.type = 3 ∧ f1.type = 3 ∧ f2.type = 22 ∧ f3.type = 4) ∧ (f0.offset = 0 ∧ f1.offset = 1 ∧ f2.offset = 2 ∧ f3.offset = 3) := by
  refine ⟨_, _, _, _, Tryz.underlying67, ⟨rfl, rfl, rfl, rfl⟩, rfl, rfl, rfl, rfl⟩
/-- a step -/
structure Ox where
  kd : Int
  n : Int
  ka : Option Addr
  kc : Nat
  zs : List Int
  raw : Bool
structure Ox.ok (w : World) (o : Ox) : Prop where
  zl : o.zs.length ≤ 20000000000000
  zi : IIn w o.ka o.zs
structure OIn (w : World) (a : Option Addr) (l : List Ox) : Prop where
  get : ∀ (k : Nat) o, l[k]? = some o → ∃ b off, a = some ⟨b, off, none⟩ ∧ b < w.heap.size ∧ (w.cell? ⟨b, off + k * 4, none⟩ = some (.int .i64 o.kd) ∧ w.cell? ⟨b, off + k * 4 + 1, none⟩ = some (.int .i64 o.n) ∧ w.cell? ⟨b, off + k * 4 + 2, none⟩ = some (.slice o.ka o.zs.length o.kc) ∧ w.cell? ⟨b, off + k * 4 + 3, none⟩ = some (.bool o.raw)) ∧ o.ok w
theorem later_cell {w w' : World} {b j : Nat} {v : Value} (hb : Below w.heap.size w w') (h : b < w.heap.size) (hc : w.cell? ⟨b, j, none⟩ = some v) : w'.cell? ⟨b, j, none⟩ = some v := (hb.cell (p := ⟨b, j, none⟩) h).trans hc
theorem Ox.ok.later {w w' : World} {o : Ox} (h : o.ok w) (b : Below w.heap.size w w') : o.ok w' := ⟨h.zl, h.zi.below b (fun _ _ _ hb => hb)⟩
theorem OIn.later {w w' : World} {a : Option Addr} {l : List Ox} (h : OIn w a l) (b : Below w.heap.size w w') : OIn w' a l := ⟨fun k p hk => by
  obtain ⟨g, off, e, h1, ⟨c0, c1, c2, c3⟩, h3⟩ := h.get k p hk
  exact ⟨g, off, e, Nat.lt_of_lt_of_le h1 b.size, ⟨later_cell b h1 c0, later_cell b h1 c1, later_cell b h1 c2, later_cell b h1 c3⟩, h3.later b⟩⟩
set_option maxRecDepth 100000 in
theorem op_at {H : Type} {enc : TypeId × Value → H} {W : World} {fuel : Nat} {cs : List Value} {d : DataW H} {pl : List MemPlace} (h : DataW.trod enc Tryz.prog W 0 (fun _ => true) true fuel 67 cs = some (d, pl)) (hlen : cs.length = 4) (hw : ∀ n ∈ d.weights Tryz.prog 67, n ≤ 140737488351232) :
    ∃ o : Ox, cs = [.int .i64 o.kd, .int .i64 o.n, .slice o.ka o.zs.length o.kc, .bool o.raw] ∧ o.ok W := by
  obtain ⟨f0, f1, f2, f3, hu, ⟨t0, t1, t2, t3⟩, o0, o1, o2, o3⟩ := undO
  obtain ⟨xs, n', _, hxd, _, hxl, hfs⟩ := DataW.trod_struct hu h
  match xs, hxl, cs, hlen with
  | [y0, y1, y2, y3], _, [v0, v1, v2, v3], _ =>
    have g0 := hfs 0 f0 rfl
    have g1 := hfs 1 f1 rfl
    have g2 := hfs 2 f2 rfl
    have g3 := hfs 3 f3 rfl
    simp [o0, o1, o2, o3, t0, t1, t2, t3, cells3t, cellsIt, cells4t] at g0 g1 g2 g3
    obtain ⟨z0, e0, _, hz0⟩ := DataW.trod_int Tryz.underlying3 g0
    obtain ⟨z1, e1, _, hz1⟩ := DataW.trod_int Tryz.underlying3 g1
    obtain ⟨z3, e3, _⟩ := DataW.trod_bool Tryz.underlying4 g3
    simp at e0 e1 e3
    subst e0 e1 e3
    have hDe : d = .agg [y0.1, y1.1, y2.1, y3.1] := congrArg Prod.fst hxd
    have hws : ∀ n ∈ DataW.weightsEach Tryz.prog [3, 3, 22, 4] [y0.1, y1.1, y2.1, y3.1], n ≤ 140737488351232 := by
      intro n hn
      refine hw n ?_
      rw [hDe]
      simp only [DataW.weights, hu]
      simpa [t0, t1, t2, t3] using hn
    have hwk : ∀ n ∈ y2.1.weights Tryz.prog 22, n ≤ 140737488351232 := fun n hn => hws n (DataW.weights_mem_each (j := 2) rfl rfl n hn)
    obtain ⟨ka, kl, kc, rfl⟩ : ∃ ka kl kc, v2 = .slice ka kl kc := by
      rcases Go.Deep.open_slice Tryz.underlying22 g2 with ⟨hcs, _⟩ | ⟨x, l, c, m, n, D, Pl, hcs, _⟩
      · simp at hcs; exact ⟨none, 0, 0, hcs⟩
      · simp at hcs; exact ⟨some x, l, c, hcs⟩
    obtain ⟨zs, hzl, hzi, hzr⟩ := ints_in (p := y2.2) (d := y2.1) ⟨_, by simpa [Value.cells] using g2⟩ hwk
    subst hzl
    have h2 := ints_in_len hzr hwk
    exact ⟨⟨z0, z1, ka, kc, zs, z3⟩, rfl, ⟨Nat.le_trans h2 (by decide), hzi⟩⟩
set_option maxRecDepth 100000 in
theorem ops_in {H : Type} {enc : TypeId × Value → H} {W : World} {a : Option Addr} {len cap : Nat} {d : DataW H} {p : List MemPlace} (h : DataW.Trod enc Tryz.prog W 0 (fun _ => true) true 55 (.slice a len cap) d p) (hw : ∀ n ∈ d.weights Tryz.prog 55, n ≤ 140737488351232) :
    ∃ L : List Ox, L.length = len ∧ OIn W a L ∧ Reads d len := by
  obtain ⟨fuel, hf⟩ := h
  rcases Go.Deep.open_slice Tryz.underlying55 hf with ⟨hcs, _⟩ | ⟨x, l, c, m, n, D, Pl, hcs, _, hl, hm, hmm, hx, hel⟩
  · simp [Value.cells] at hcs
    obtain ⟨rfl, rfl, rfl⟩ := hcs
    exact ⟨[], rfl, ⟨fun k p hk => by simp at hk⟩, .inl rfl⟩
  · simp [Value.cells] at hcs
    obtain ⟨rfl, rfl, rfl⟩ := hcs
    have hmc : m = cap := by simpa using hmm
    have hd : d = .slice ((List.range len).map D) ((List.range (m - len)).map fun j => D (len + j)) := congrArg Prod.fst hx
    have hwe : ∀ k, k < len → ∀ n ∈ (D k).weights Tryz.prog 67, n ≤ 140737488351232 := by
      intro k hk n hn
      refine hw n ?_
      rw [hd]
      simp only [DataW.weights, Tryz.underlying55]
      exact List.mem_cons_of_mem _ (List.mem_append_left _ (weightsAll_mem (List.mem_map.2 ⟨k, List.mem_range.2 hk, rfl⟩) n hn))
    obtain ⟨b, off, spot⟩ := x
    have key : ∀ k, ∃ o : Ox, k < len → (spot = none ∧ b < W.heap.size ∧ (W.cell? ⟨b, off + k * 4, none⟩ = some (.int .i64 o.kd) ∧ W.cell? ⟨b, off + k * 4 + 1, none⟩ = some (.int .i64 o.n) ∧ W.cell? ⟨b, off + k * 4 + 2, none⟩ = some (.slice o.ka o.zs.length o.kc) ∧ W.cell? ⟨b, off + k * 4 + 3, none⟩ = some (.bool o.raw)) ∧ o.ok W) := by
      intro k
      by_cases hk : k < len
      · obtain ⟨cs', h1, h2⟩ := hel k (by omega)
        rw [cellsO] at h1
        obtain ⟨_, hlen, hcell⟩ := World.cells?_some h1
        have hwk := hwe k hk
        have hspot : spot = none := by
          obtain ⟨cs0, h10, _⟩ := hel 0 (by omega)
          rw [cellsO] at h10
          obtain ⟨_, hlen0, hcell0⟩ := World.cells?_some h10
          match cs0, hlen0 with
          | [u0, u1, u2, u3], _ =>
            have q0 := hcell0 0 (by omega)
            simpa [Addr.add] using World.cell?_spot q0
        subst hspot
        have hadd : ∀ j i, ((⟨b, off, none⟩ : Addr).add j).add i = ⟨b, off + j + i, none⟩ := fun j i => by rw [addr_add, addr_add]
        obtain ⟨o, rfl, ok⟩ := op_at h2 hlen hwk
        have c0 := hcell 0 (by simp)
        have c1 := hcell 1 (by simp)
        have c2 := hcell 2 (by simp)
        have c3 := hcell 3 (by simp)
        rw [hadd] at c0 c1 c2 c3
        exact ⟨o, fun _ => ⟨rfl, block_lt_of_cell c0, ⟨by simpa using c0, by simpa using c1, by simpa using c2, by simpa using c3⟩, ok⟩⟩
      · exact ⟨⟨0, 0, none, 0, [], false⟩, fun h => absurd h hk⟩
    have hf := fun k => Classical.choose_spec (key k)
    refine ⟨(List.range len).map fun k => Classical.choose (key k), by simp, ⟨fun k q hk => ?_⟩, .inr ⟨_, _, hd, by simp⟩⟩
    have hkl : k < len := by
      have := (List.getElem?_eq_some_iff.1 hk).1
      simpa using this
    rw [List.getElem?_map, List.getElem?_range hkl] at hk
    have hq := (Option.some.inj hk).symm
    subst hq
    obtain ⟨h1, h2, h3⟩ := hf k hkl
    exact ⟨b, off, by rw [h1], h2, h3⟩
theorem ops_in_len {H : Type} {d : DataW H} {len : Nat} (h : Reads d len) (hw : ∀ n ∈ d.weights Tryz.prog 55, n ≤ 140737488351232) : len ≤ 2932031007402 := by
  rcases h with h0 | ⟨es, sp, he, hl⟩
  · omega
  · have := hw ((es.length + sp.length) * Tryz.prog.bytesOf 67) (by rw [he]; simp only [DataW.weights, Tryz.underlying55]; exact List.mem_cons_self)
    rw [bytesO] at this
    omega
end Go.Proofs.YtghdgddpdamhcaaGreat

/- SpacePlays: the walk. -/
namespace Go.Proofs.YtghdgddpdamhcaaGreat
set_option linter.unusedVariables false
set_option linter.unusedSimpArgs false
open Go.RowKit Go.Maps
section
variable {w0 w w' : World} {q p n x sb first pb mb yb : Nat} {W : Wl} {o : Bool} {B : List ByteArray} {X Y : List (Th → Prop)} {I J : List Bool} {v5 : Value} {T1 T T3 : ByteArray}
set_option maxRecDepth 100000 in
theorem atOver (h : TS w0 w q p n x W false B X) (first : Nat) (hc : n - 24 < first + 1) : Calls Tryz.prog 20 #[pt x, .int .i64 (first : Int)] w fun e w' => e = .returned (.tuple #[.pointer none, .int .i64 40]) ∧ TS w0 w' q p n x W false B X := by
  have h1 := h.sp first
  have hn := h1.nn
  have H1 : Hid (SS w0 (w.alloc (.cells #[pt x, .int .i64 (first : Int)] 73)) q p n x w.heap.size first W false B X) := ⟨h1⟩
  clear h h1
  have hf0 : ¬ (first : Int) < 0 := by omega
  go_enter Tryz.func20, Tryz.ntmps20
  go_wp2_with fail
  refine H1.out.over'.mono ?_
  rintro e w2 ⟨rfl, h2⟩
  have H2 : Hid (SS w0 w2 q p n x w.heap.size first W false B X) := ⟨h2⟩
  clear h2 H1
  generalize w.heap.size = sb at *
  dsimp only
  go_wp2_with fail
  have qB : Hid (∀ k, Calls Tryz.prog 36 #[pt x] (w2.drewN k) fun e w' => e = .returned (.int .i64 ((n - 24 : Nat) : Int)) ∧ ∃ k', w' = (w2.drewN k).drewN k') := ⟨fun k => (H2.out.drewN k).tblocks⟩
  have qP : Hid (∀ k, Calls Tryz.prog 47 #[pt sb] (w2.drewN k) fun e w' => e = .returned (.int .i64 1) ∧ ∃ k', w' = (w2.drewN k).drewN k') := ⟨fun k => (H2.out.drewN k).pages⟩
  have HE : Hid (∀ k, SS w0 (w2.drewN k) q p n x sb first W false B X) := ⟨fun k => H2.out.drewN k⟩
  have hw : IntKind.i64.wrap (((n - 24 : Nat) : Int) - 1) = ((n - 25 : Nat) : Int) := by rw [IntKind.wrap_i64]; omega
  clear H2
  have hc2 : ((n - 25 : Nat) : Int) < (first : Int) := by omega
  clear hc
  generalize ((n - 24 : Nat) : Int) = M1 at *
  generalize ((n - 25 : Nat) : Int) = M2 at *
  refine (qB.out 0).mono ?_
  rintro e w3 ⟨rfl, k3, rfl⟩
  dsimp only
  go_wp2_with fail
  refine (qP.out k3).mono ?_
  rintro e w4 ⟨rfl, k4, rfl⟩
  dsimp only
  go_wp2
  go_ret2
  exact ⟨rfl, (HE.out (k3 + k4)).ts⟩
set_option maxRecDepth 100000 in
theorem mkOver (h : TS w0 w q p n x W false B X) (first : Nat) (hc : n - 24 < first + 1) : Calls Tryz.prog 27 #[pt x, .int .i64 (first : Int)] w fun e w' => e = .returned (.tuple #[.pointer none, .int .i64 40]) ∧ TS w0 w' q p n x W false B X := by
  have qA := atOver h first hc
  clear h
  go_enter Tryz.func27, Tryz.ntmps27
  go_wp2_with fail
  refine qA.mono ?_
  rintro e w1 ⟨rfl, h1⟩
  have H1 := Hid.mk h1
  clear h1 qA
  dsimp only
  go_wp2
  go_ret2
  exact ⟨rfl, H1.out⟩
theorem ss_forM0 (h : SS w0 w q p n x sb first W true B (pr7 pb p q x sb mb first v5 :: rs mb first I :: X)) : ∃ st, EnvP w0 w (lg q p 24 false :: dk p st :: pr7 pb p q x sb mb first v5 :: rs mb first I :: tx x q W true :: ob sb #[pt x, .int .i64 (first : Int)] 73 :: X) ∧ (OKst NN st n 24 B ∧ st.fall = 0) ∧ (24 < n ∧ n ≤ 4000) := by
  obtain ⟨st, E, ok, hn, _⟩ := h
  refine ⟨st, E.perm ?_, ok, hn⟩
  refine List.Perm.cons _ (List.Perm.cons _ ?_)
  show List.Perm ([tx x q W true, ob sb #[pt x, .int .i64 (first : Int)] 73] ++ ([pr7 pb p q x sb mb first v5, rs mb first I] ++ X)) ([pr7 pb p q x sb mb first v5, rs mb first I] ++ ([tx x q W true, ob sb #[pt x, .int .i64 (first : Int)] 73] ++ X))
  rw [← List.append_assoc, ← List.append_assoc]
  exact List.Perm.append_right _ List.perm_append_comm
theorem plays_any (h : PL w0 w pb p n first) (op : Ox) (hok : op.ok w0) : Calls Tryz.prog 31 #[pt pb, opv op.kd op.n op.ka op.zs.length op.kc op.raw] w fun e w' => e = .returned (.bool true) ∧ PL w0 w' pb p n first := by
  obtain ⟨kd, N, pa, pc, ps, raw⟩ := op
  by_cases h1 : kd = 1
  · subst h1; exact plays_alloc h N pa ps.length pc raw
  · by_cases h2 : kd = 2
    · subst h2; exact plays_free h N pa pc ps raw hok.zi hok.zl
    · by_cases h3 : kd = 3
      · subst h3; exact plays_commit h N pa ps.length pc raw
      · by_cases h4 : kd = 4
        · subst h4; exact plays_abort h N pa ps.length pc raw
        · by_cases h5 : kd = 5
          · subst h5; exact plays_crash h N pa ps.length pc raw
          · exact plays_other h kd N pa ps.length pc raw h1 h2 h3 h4 h5
theorem ts_bel (h : TS w0 w q p n x W o B X) : Below w0.heap.size w0 w := by
  obtain ⟨st, E, _⟩ := h
  exact E.bel
/-- the space and its model made -/
theorem SS.rmade (h : SS w0 w q p n x sb first W o B X) (hf : first + 1 ≤ n - 24) : Calls Tryz.prog 28 #[.int .i64 ((n - 24 : Nat) : Int), .int .i64 (first : Int)] w fun e w' => ∃ y, e = .returned (.tuple #[pt y, .int .i64 0]) ∧ SS w0 w' q p n x sb first W o B (X ++ [rs y first (mdl first (n - 24) (fl 0))]) := by
  have hn := h.nn
  obtain ⟨st, E, r⟩ := h
  refine (rMake_env E (n - 24) first (by omega) hf).mono ?_
  rintro e w' ⟨y, rfl, E'⟩
  rw [mdl_zero] at E'
  exact ⟨y, rfl, st, E', r⟩
end
set_option maxRecDepth 1000000 in
set_option maxHeartbeats 8000000 in
theorem spacePlays_walk (sec fst : Int) (ops : List Ox) (oa : Option Addr) (oc : Nat) (W : World) (s1 : -9223372036854775808 ≤ sec) (s2 : sec ≤ 9223372036854775807) (f1 : -9223372036854775808 ≤ fst) (f2 : fst ≤ 9223372036854775807) (ho : OIn W oa ops) (hol : ops.length ≤ 2932031007402) :
    Calls Tryz.prog 7 #[.int .i64 sec, .int .i64 fst, .slice oa ops.length oc] W fun e w' => e = .returned (.bool true) ∧ Below W.heap.size W w' := by
  have qH := head_any W
  have hk1 := lst_lt sec 100 (by omega)
  have qN := fun w => least_any sec 100 w (by omega) (by omega) s1 s2
  generalize lst sec 100 = ks at *
  go_enter Tryz.func7, Tryz.ntmps7
  go_wp2_with fail
  refine qH.mono ?_
  rintro e w1 ⟨rfl, b1'⟩
  have HB1 : Hid (Below W.heap.size W w1) := ⟨b1'⟩
  have HO : Hid (OIn w1 oa ops) := ⟨ho.later b1'⟩
  have hcast : (60 : Int) + (ks : Int) = ((60 + ks : Nat) : Int) := by omega
  have qM := made_s (EnvP.nil w1) (60 + ks) (by omega) (by omega)
  rw [← hcast] at qM
  clear qH b1' ho hcast
  dsimp only
  go_wp2_with fail
  refine (qN w1).mono ?_
  rintro e w1 ⟨rfl, rfl⟩
  dsimp only
  go_wp2_with fail
  with_reducible refine Calls.mono qM ?_
  rintro e w3 ⟨q, p, st, rfl, h3, ok3⟩
  have qG := begin_s h3 ok3 (by omega)
  clear h3 ok3 qM qN
  dsimp only
  go_wp2_with fail
  with_reducible refine Calls.mono qG ?_
  rintro e w4 ⟨x, rfl, h4⟩
  have H4 := Hid.mk h4
  clear h4 qG
  dsimp only
  generalize hB0 : List.replicate (60 + ks - 24) (fl 0) = B0 at *
  generalize hnn : 60 + ks = n at *
  have hn : 60 ≤ n ∧ n < 160 := by omega
  clear hnn hB0 hk1
  by_cases c1 : fst < 0
  · have qK := H4.out.mkNeg fst c1
    go_wp2_with fail
    with_reducible refine Calls.mono qK ?_
    rintro e w5 ⟨rfl, h5⟩
    have qL := h5.blocks
    clear h5 qK H4
    dsimp only
    go_wp2_with fail
    with_reducible refine Calls.mono qL ?_
    rintro e w6 ⟨rfl, h6⟩
    have HB6 : Hid (Below W.heap.size W w6) := ⟨HB1.out.trans ((ts_bel h6).mono HB1.out.size)⟩
    have qR := rMake_neg (n - 24) fst c1 w6
    clear h6 qL
    dsimp only
    go_wp2_with fail
    with_reducible refine Calls.mono qR ?_
    rintro e w7 ⟨rfl, rfl⟩
    dsimp only
    go_wp2_with fail
    go_ret
    exact ⟨rfl, HB6.out⟩
  · obtain ⟨first, rfl⟩ := Int.eq_ofNat_of_zero_le (by omega : 0 ≤ fst)
    by_cases c2 : n - 24 < first + 1
    · have qK := mkOver H4.out first c2
      go_wp2_with fail
      with_reducible refine Calls.mono qK ?_
      rintro e w5 ⟨rfl, h5⟩
      have qL := h5.blocks
      clear h5 qK H4
      dsimp only
      go_wp2_with fail
      with_reducible refine Calls.mono qL ?_
      rintro e w6 ⟨rfl, h6⟩
      have HB6 : Hid (Below W.heap.size W w6) := ⟨HB1.out.trans ((ts_bel h6).mono HB1.out.size)⟩
      have qR := rMake_over (n - 24) (by omega) (by omega) (first : Int) (by omega) (by omega) f2 w6
      clear h6 qL
      dsimp only
      go_wp2_with fail
      with_reducible refine Calls.mono qR ?_
      rintro e w7 ⟨rfl, rfl⟩
      dsimp only
      go_wp2_with fail
      go_ret
      exact ⟨rfl, HB6.out⟩
    · have hf : first + 1 ≤ n - 24 := by omega
      have qK := H4.out.mk first (by omega)
      have HF := Hid.mk hf
      clear c2 hf H4
      go_wp2_with fail
      with_reducible refine Calls.mono qK ?_
      rintro e w5 (⟨hx, _⟩ | ⟨_, sb, rfl, h5⟩)
      · exact absurd HF.out (by omega)
      have h5' : SS w1 w5 q p n x sb first [(first, fl 0)] false B0 [] := h5
      have qL : Calls Tryz.prog 11 #[pt q] w5 fun e w' => e = .returned (.int .i64 ((n - 24 : Nat) : Int)) ∧ SS w1 w' q p n x sb first [(first, fl 0)] false B0 [] := TS.blocks (X := [ob sb #[pt x, .int .i64 (first : Int)] 73]) h5'
      clear h5 h5' qK
      dsimp only
      go_wp2_with fail
      with_reducible refine Calls.mono qL ?_
      rintro e w6 ⟨rfl, h6⟩
      have qR := h6.rmade HF.out
      clear h6 qL
      dsimp only
      go_wp2_with fail
      with_reducible refine Calls.mono qR ?_
      rintro e w7 ⟨mb, rfl, h7⟩
      have h8 : SS w1 (w7.alloc (.cells #[pt p, pt q, pt x, pt sb, pt mb, .pointer none, .int .i64 (first : Int)] 63)) q p n x sb first [(first, fl 0)] false B0 (pr7 w7.heap.size p q x sb mb first (.pointer none) :: rs mb first (mdl first (n - 24) (fl 0)) :: []) := (h7.alloc #[pt p, pt q, pt x, pt sb, pt mb, .pointer none, .int .i64 (first : Int)] 63).perm (List.Perm.swap _ _ _)
      have hc0 : cur [(first, fl 0)] B0 first = fl 0 := wf_cur (T1 := B0.getD first ByteArray.empty) (.inr rfl) rfl
      have qS := psame_ss (by rw [hc0]; exact h8) HF.out
      rw [hc0] at qS
      clear h7 h8 qR hc0
      dsimp only
      go_wp2_with fail
      generalize w7.heap.size = pb at *
      with_reducible refine Calls.mono qS ?_
      rintro e w9 ⟨rfl, h9⟩
      have qC := h9.commitW (T1 := B0.getD first ByteArray.empty) (T := fl 0) (.inr rfl) rfl HF.out
      clear h9 qS
      dsimp only
      go_wp2_with fail
      with_reducible refine Calls.mono qC ?_
      rintro e w10 ⟨rfl, B1, h10, hB1⟩
      obtain ⟨st, E, ok, hn4⟩ := ss_forM0 h10
      rw [← hB1] at E
      have qA := again_env E ok hn4 HF.out
      clear h10 E ok hn4 qC hB1
      dsimp only
      go_wp2_with fail
      with_reducible refine Calls.mono qA ?_
      rintro e w11 ⟨rfl, x2, sb2, yb2, h11⟩
      have H11 : Hid (PL w1 w11 pb p n first) := ⟨pl_of h11 HF.out⟩
      clear h11 qA
      dsimp only
      go_wp2_with fail
      go_loopw [15] (fun i wr => ∃ k : Nat, k ≤ ops.length ∧ i = .int .i64 (k : Int) ∧ Hid (PL w1 wr pb p n first)) (fun i _ => ops.length - (intOf i).toNat)
      case atStart => exact ⟨0, by omega, rfl, H11⟩
      case round =>
        obtain ⟨k, hk, rfl, HK⟩ := hrel
        clear H11
        by_cases hlt : k < ops.length
        · have d1 : decide ((k : Int) < (ops.length : Int)) = true := decide_eq_true (by omega)
          have k2 : (k : Int) < (ops.length : Int) := by omega
          obtain ⟨op, hop⟩ : ∃ p, ops[k]? = some p := ⟨ops[k], List.getElem?_eq_getElem hlt⟩
          have hok : op.ok w1 := by
            obtain ⟨_, _, _, _, _, hok⟩ := HO.out.get k op hop
            exact hok
          obtain ⟨bz, oz, rfl, hbz, ⟨c0, c1', c2, c3⟩, _⟩ := (HO.out.later HK.out.bel).get k op hop
          have qP := plays_any HK.out op hok
          obtain ⟨kd, N, pa, pc, ps, raw⟩ := op
          dsimp only at c0 c1' c2 c3 qP
          clear hbz HK hok hop
          go_wp2_with fail
          with_reducible refine Calls.mono qP ?_
          rintro e w12 ⟨rfl, h12⟩
          have H12 := Hid.mk h12
          clear h12 qP c0 c1' c2 c3
          dsimp only
          go_wp2_with fail
          exact ⟨⟨k + 1, by omega, by go_num, H12⟩, by simp [intOf]; omega⟩
        · obtain rfl : k = ops.length := by omega
          have d1 : decide ((ops.length : Int) < (ops.length : Int)) = false := decide_eq_false (by omega)
          have HB6 : Hid (Below W.heap.size W wr) := ⟨HB1.out.trans (HK.out.bel.mono HB1.out.size)⟩
          go_wp2_with fail
          go_ret
          exact ⟨rfl, HB6.out⟩
end Go.Proofs.YtghdgddpdamhcaaGreat
