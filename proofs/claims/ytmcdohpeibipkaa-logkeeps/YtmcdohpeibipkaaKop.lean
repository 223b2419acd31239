/- The log is opened anew. -/
import Derived.Test.YtmcdohpeibipkaaKpr
namespace Go.Proofs.Ytmcdohpeibipkaa
set_option linter.unusedVariables false
set_option linter.unusedSimpArgs false
open Go.RowKit
abbrev nilv : Value := .slice none 0 0
/-- alive: the log, its disk, the keeper, the document's blocks -/
def Alive (w0 w : World) (kp p r s n q : Nat) (st : St) (B : List ByteArray) : Prop := ∃ gB cB, EnvP w0 w [lg q p s false, dk p st, kpo kp p r (pt q) nilv, rfo r s (rw_ gB (n - s) cB), rowS (rw_ gB (n - s) cB) B, rowS nilv []] ∧ OKst NN st n s B
def MayB (n s : Nat) (M : Value) (Mx : List ByteArray) : Prop := (M = nilv ∧ Mx = []) ∨ (∃ gM cM, M = rw_ gM (n - s) cM ∧ Mx.length = n - s)
/-- dead: the disk is off -/
def Dead (w0 w : World) (kp p r s n : Nat) (st : St) (B : List ByteArray) (M : Value) (Mx : List ByteArray) : Prop := ∃ gB cB, EnvP w0 w [dk p st, kpo kp p r (.pointer none) M, rfo r s (rw_ gB (n - s) cB), rowS (rw_ gB (n - s) cB) B, rowS M Mx] ∧ B.length = n - s ∧ MayB n s M Mx ∧ OFFst st n (fun L => RecL NN L s B ∨ (M ≠ nilv ∧ RecL NN L s Mx))
theorem eq_nil1 (g n c : Nat) (w : World) : (binOp .eql 42 (rw_ g n c) (.slice none 0 0)).run Try.prog w = .ok (.bool false) w := by
  kernel_rfl
theorem rws_nil {y n c : Nat} : rw_ y n c ≠ nilv := fun e => by injection e with e1; cases e1
set_option maxHeartbeats 4000000 in
set_option maxRecDepth 100000 in
theorem opens_env {w0 w : World} {kp p r s n gB cB : Nat} {st : St} {B G Mx : List ByteArray} {L M : Value} (h : EnvP w0 w [dk p st, kpo kp p r L M, rfo r s (rw_ gB (n - s) cB), rowS (rw_ gB (n - s) cB) B, rowS M Mx]) (ho : st.off = false) (hopn : st.opn = false) (hp : st.pend = []) (h4 : 4 ≤ s) (hn : st.safe.length = n) (hs : s < n) (hr : RecL NN st.safe s G) (hBl : B.length = n - s) (hM : MayB n s M Mx) (hG : G = B ∨ (M ≠ nilv ∧ G = Mx)) :
    Calls Try.prog 47 #[pt kp] w fun e w' => e = .returned (.bool true) ∧ ((∃ q st', Alive w0 w' kp p r s n q st' G) ∨ (∃ st', Dead w0 w' kp p r s n st' B M Mx)) := by
  have hhi : n ≤ 8192 := by rw [← hn]; exact (h.wf 0 rfl).hi
  have qO : Hid (∀ {w5 : World}, EnvP w0 w5 [dk p st, kpo kp p r L M, rfo r s (rw_ gB (n - s) cB), rowS (rw_ gB (n - s) cB) B, rowS M Mx] → Calls Try.prog 9 #[pt p, .int .i64 (s : Int)] w5 fun e w' => ∃ Lq er, e = .returned (.tuple #[Lq, .int .i64 er]) ∧ OPost w0 p s n G [kpo kp p r L M, rfo r s (rw_ gB (n - s) cB), rowS (rw_ gB (n - s) cB) B, rowS M Mx] Lq er w') := ⟨fun h5 => open_post h5 ho hopn hp h4 hn hs hr⟩
  have E0 : Hid (EnvP w0 w [dk p st, kpo kp p r L M, rfo r s (rw_ gB (n - s) cB), rowS (rw_ gB (n - s) cB) B, rowS M Mx]) := ⟨h⟩
  have HBl : Hid (B.length = n - s) := ⟨hBl⟩
  have HM : Hid (MayB n s M Mx) := ⟨hM⟩
  have HG : Hid (G = B ∨ (M ≠ nilv ∧ G = Mx)) := ⟨hG⟩
  have HS : Hid (s < n) := ⟨hs⟩
  have HNS : Hid (((n - s : Nat) : Int) = (n : Int) - (s : Int)) := ⟨by omega⟩
  have H8 : Hid (n - s ≤ 1000000) := ⟨by omega⟩
  clear h ho hopn hp hn hr hBl hM hG hs h4 hhi
  go_enter Try.func47, Try.ntmps47
  go_wp2_with fail
  have E7 := E0.out.drew
  have S7 := kcell (pre := []) 1 E7 rfl rfl
  clear E0
  go_region_held3 (fun w' => w'.cell? ⟨kp, 0, none⟩ = some (pt p) ∧ w'.cell? ⟨kp, 2, none⟩ = some (pt r) ∧ w'.cell? ⟨r, 0, none⟩ = some (.int .i64 (s : Int))) (first | exact S7 | exact OPost.cells h6 | assumption)
    ((go_at_call 9; refine (qO.out (by assumption)).mono ?_; rintro e w6 ⟨Lq, er, rfl, h6⟩))
  clear E7 S7 qO
  rcases h6 with ⟨q, st', rfl, rfl, h1, ok⟩ | ⟨st', rfl, rfl, h1, off⟩
  rotate_left
  · have E1 : Hid (EnvP w0 w6 [dk p st', kpo kp p r L M, rfo r s (rw_ gB (n - s) cB), rowS (rw_ gB (n - s) cB) B, rowS M Mx]) := ⟨h1⟩
    have k0 := E1.out.cell 1 rfl 0
    have k1 := E1.out.cell 1 rfl 1
    have fk := E1.out.frozen 1 rfl 1
    simp only [List.getElem?_toArray, List.getElem?_cons_zero, List.getElem?_cons_succ] at k0 k1
    have E2 : Hid (EnvP w0 (w6.setCell ⟨kp, 1, none⟩ (.pointer none)) [dk p st', kpo kp p r (.pointer none) M, rfo r s (rw_ gB (n - s) cB), rowS (rw_ gB (n - s) cB) B, rowS M Mx]) := ⟨E1.out.setCell 1 rfl 1 _⟩
    have OFF : Hid (OFFst st' n (fun L => RecL NN L s G)) := ⟨off⟩
    have hoff := off.off
    clear h1 off
    go_wp2_with fail
    refine (off_env E1.out 0 rfl hoff).mono ?_
    rintro e w6 ⟨rfl, rfl⟩
    dsimp only
    go_wp2
    go_ret
    refine ⟨rfl, .inr ⟨st', gB, cB, E2.out, HBl.out, HM.out, OFF.out.mono (fun L hL => ?_)⟩⟩
    rcases HG.out with rfl | ⟨hm, rfl⟩
    · exact .inl hL
    · exact .inr ⟨hm, hL⟩
  · have E1 : Hid (EnvP w0 w6 [lg q p s false, dk p st', kpo kp p r L M, rfo r s (rw_ gB (n - s) cB), rowS (rw_ gB (n - s) cB) B, rowS M Mx]) := ⟨h1⟩
    have OK : Hid (OKst NN st' n s G) := ⟨ok⟩
    have k0 := E1.out.cell 2 rfl 0
    have k2 := E1.out.cell 2 rfl 2
    have r1 := E1.out.cell 3 rfl 1
    simp only [List.getElem?_toArray, List.getElem?_cons_zero, List.getElem?_cons_succ] at k0 k2 r1
    clear h1 ok
    go_wp2_with fail
    refine (pending_env E1.out 1 rfl (n := 0) (by rw [OK.out.pend]; rfl)).mono ?_
    rintro e w6 ⟨rfl, rfl⟩
    dsimp only
    go_wp2_with fail
    refine (all_env E1.out OK.out HS.out HNS.out).mono ?_
    rintro e w9 ⟨vg, rfl, h9⟩
    have hGl : G.length = n - s := OK.out.blen
    obtain ⟨gg, cg, hvg⟩ : ∃ gg cg, vg = rw_ gg (n - s) cg := by
      rcases (h9.rowSAt 2 rfl).2 with ⟨_, h0⟩ | ⟨g, cap, cur, hv, _⟩
      · rw [hGl] at h0; have := HS.out; omega
      · rw [hGl] at hv; exact ⟨g, cap, hv⟩
    subst hvg
    have E9 : Hid (EnvP w0 w9 [lg q p s false, dk p st', rowS (rw_ gg (n - s) cg) G, kpo kp p r L M, rfo r s (rw_ gB (n - s) cB), rowS (rw_ gB (n - s) cB) B, rowS M Mx]) := ⟨h9⟩
    have SG : Hid (∀ w5, EnvP w0 w5 [lg q p s false, dk p st', rowS (rw_ gg (n - s) cg) G, kpo kp p r L M, rfo r s (rw_ gB (n - s) cB), rowS (rw_ gB (n - s) cB) B, rowS M Mx] → (Calls Try.prog 22 #[rw_ gg (n - s) cg, rw_ gB (n - s) cB] w5 fun e w' => e = .returned (.bool (decide (G = B))) ∧ ∃ m, w' = w5.drewN m) ∧ (∀ gM cM, M = rw_ gM (n - s) cM → Mx.length = n - s → Calls Try.prog 22 #[rw_ gg (n - s) cg, rw_ gM (n - s) cM] w5 fun e w' => e = .returned (.bool (decide (G = Mx))) ∧ ∃ m, w' = w5.drewN m)) := ⟨fun w5 h5 => by
      obtain ⟨a1, c1, e1, i1⟩ := own_sin (h5.rowSAt 2 rfl)
      obtain ⟨a2, c2, e2, i2⟩ := own_sin (h5.rowSAt 5 rfl)
      have hl : G.length ≤ 1000000 := by rw [hGl]; exact H8.out
      refine ⟨?_, fun gM cM hMv hMl => ?_⟩
      · have := same_texts w5 a1 a2 c1 c2 G B i1 i2 hl
        rw [← e1, ← e2] at this
        exact this
      · obtain ⟨a3, c3, e3, i3⟩ := own_sin (h5.rowSAt 6 rfl)
        have := same_texts w5 a1 a3 c1 c3 G Mx i1 i3 hl
        rw [← e1, ← e3, hMv] at this
        exact this⟩
    have r1 := E9.out.cell 4 rfl 1
    have k2 := E9.out.cell 3 rfl 2
    have k3 := E9.out.cell 3 rfl 3
    simp only [List.getElem?_toArray, List.getElem?_cons_zero, List.getElem?_cons_succ] at r1 k2 k3
    clear h9 E1
    dsimp only
    go_wp2_with fail
    by_cases hGB : G = B
    · refine (SG.out _ E9.out).1.mono ?_
      rintro e w10 ⟨rfl, j10, rfl⟩
      rw [decide_eq_true hGB]
      have E10 : Hid (EnvP w0 (w9.drewN j10) [lg q p s false, dk p st', rowS (rw_ gg (n - s) cg) G, kpo kp p r L M, rfo r s (rw_ gB (n - s) cB), rowS (rw_ gB (n - s) cB) B, rowS M Mx]) := ⟨E9.out.drewN j10⟩
      clear E9 SG r1 k3 k2
      generalize w9.drewN j10 = W at *
      have r1 := E10.out.cell 4 rfl 1
      have fr1 := E10.out.frozen 4 rfl 1
      have k2 := E10.out.cell 3 rfl 2
      have E11 := E10.out.setCell 4 rfl 1 (rw_ gg (n - s) cg)
      have k3 := E11.cell 3 rfl 3
      have fk3 := E11.frozen 3 rfl 3
      have E12 := E11.setCell 3 rfl 3 nilv
      have k1 := E12.cell 3 rfl 1
      have fk1 := E12.frozen 3 rfl 1
      have E13 : Hid (EnvP w0 _ [lg q p s false, dk p st', rowS (rw_ gg (n - s) cg) G, kpo kp p r (pt q) nilv, rfo r s (rw_ gg (n - s) cg), rowS (rw_ gB (n - s) cB) B, rowS M Mx]) := ⟨E12.setCell 3 rfl 1 (pt q)⟩
      simp only [List.getElem?_toArray, List.getElem?_cons_zero, List.getElem?_cons_succ] at r1 k2
      have k3' : (W.setCell ⟨r, 1, none⟩ (rw_ gg (n - s) cg)).cell? ⟨kp, 3, none⟩ = some M := k3
      have k1' : ((W.setCell ⟨r, 1, none⟩ (rw_ gg (n - s) cg)).setCell ⟨kp, 3, none⟩ nilv).cell? ⟨kp, 1, none⟩ = some L := k1
      clear k3 k1 E11 E12
      dsimp only
      go_wp2
      go_ret
      exact ⟨rfl, .inl ⟨q, st', gg, cg, EnvP.nilS (EnvP.canon E13.out), OK.out⟩⟩
    · obtain ⟨hMn, hGM⟩ := HG.out.resolve_left hGB
      obtain ⟨gM, cM, hMv, hMl⟩ := HM.out.resolve_left (fun h => hMn h.1)
      refine (SG.out _ E9.out).1.mono ?_
      rintro e w10 ⟨rfl, j10, rfl⟩
      rw [decide_eq_false hGB]
      have E9b : Hid (EnvP w0 (w9.drewN j10) [lg q p s false, dk p st', rowS (rw_ gg (n - s) cg) G, kpo kp p r L M, rfo r s (rw_ gB (n - s) cB), rowS (rw_ gB (n - s) cB) B, rowS M Mx]) := ⟨E9.out.drewN j10⟩
      have QM := (SG.out _ E9b.out).2 gM cM hMv hMl
      rw [decide_eq_true hGM] at QM
      rw [hMv] at k3
      have heq := fun w => eq_nil1 gM (n - s) cM w
      dsimp only
      go_wp2_with fail
      refine QM.mono ?_
      rintro e w11 ⟨rfl, j11, rfl⟩
      rw [World.drewN_drewN]
      generalize j10 + j11 = j10 at *
      clear E9b QM hGM hMv hMl heq
      have E10 : Hid (EnvP w0 (w9.drewN j10) [lg q p s false, dk p st', rowS (rw_ gg (n - s) cg) G, kpo kp p r L M, rfo r s (rw_ gB (n - s) cB), rowS (rw_ gB (n - s) cB) B, rowS M Mx]) := ⟨E9.out.drewN j10⟩
      clear E9 SG r1 k3 k2
      generalize w9.drewN j10 = W at *
      have r1 := E10.out.cell 4 rfl 1
      have fr1 := E10.out.frozen 4 rfl 1
      have k2 := E10.out.cell 3 rfl 2
      have E11 := E10.out.setCell 4 rfl 1 (rw_ gg (n - s) cg)
      have k3 := E11.cell 3 rfl 3
      have fk3 := E11.frozen 3 rfl 3
      have E12 := E11.setCell 3 rfl 3 nilv
      have k1 := E12.cell 3 rfl 1
      have fk1 := E12.frozen 3 rfl 1
      have E13 : Hid (EnvP w0 _ [lg q p s false, dk p st', rowS (rw_ gg (n - s) cg) G, kpo kp p r (pt q) nilv, rfo r s (rw_ gg (n - s) cg), rowS (rw_ gB (n - s) cB) B, rowS M Mx]) := ⟨E12.setCell 3 rfl 1 (pt q)⟩
      simp only [List.getElem?_toArray, List.getElem?_cons_zero, List.getElem?_cons_succ] at r1 k2
      have k3' : (W.setCell ⟨r, 1, none⟩ (rw_ gg (n - s) cg)).cell? ⟨kp, 3, none⟩ = some M := k3
      have k1' : ((W.setCell ⟨r, 1, none⟩ (rw_ gg (n - s) cg)).setCell ⟨kp, 3, none⟩ nilv).cell? ⟨kp, 1, none⟩ = some L := k1
      clear k3 k1 E11 E12
      dsimp only
      go_wp2
      go_ret
      exact ⟨rfl, .inl ⟨q, st', gg, cg, EnvP.nilS (EnvP.canon E13.out), OK.out⟩⟩
end Go.Proofs.Ytmcdohpeibipkaa
