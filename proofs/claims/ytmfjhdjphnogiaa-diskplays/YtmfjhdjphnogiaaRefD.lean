/- The document's disk: Crash, On. -/
import Derived.Test.YtmfjhdjphnogiaaRefC
namespace Go.Proofs.Ytmfjhdjphnogiaa
set_option linter.unusedVariables false
set_option linter.unusedSimpArgs false
open Go.RowKit
theorem RefAt.setOff {w : World} {R : Rk} {st : St} (h : RefAt w R st) (b : Bool) : RefAt (w.setCell ⟨R.p, 2, none⟩ (.bool b)) R { st with off := b } := ⟨⟨h.wf.lo, h.wf.hi, h.wf.sz, h.wf.pd, h.wf.fl⟩, h.raw.setOff b⟩
theorem RStp.set {w w' : World} {R R' : Rk} (h : RStp w R w' R') (j : Nat) (v : Value) : RStp w R (w'.setCell ⟨R'.p, j, none⟩ v) R' := ⟨h.p, h.fr.setCell _ _ _ (.inl (.inl h.p)), h.nw⟩
/-- the one write laid, if its number was met so far -/
def met (zs : List Int) (m k : Nat) (l : List ByteArray) (N : Nat) (T : ByteArray) : List ByteArray := if (k : Int) ∈ zs.take m then l.set N T else l
theorem met_length (zs : List Int) (m k : Nat) (l : List ByteArray) (N : Nat) (T : ByteArray) : (met zs m k l N T).length = l.length := by unfold met; split <;> simp
theorem met_yes (zs : List Int) (m k : Nat) (l : List ByteArray) (N : Nat) (T : ByteArray) (h : zs[m]? = some (k : Int)) : (met zs m k l N T).set N T = met zs (m + 1) k l N T := by
  unfold met
  rw [take_step _ _ _ h, if_pos (show (k : Int) ∈ zs.take m ++ [(k : Int)] by simp)]
  split <;> simp
theorem met_no (zs : List Int) (m k : Nat) (l : List ByteArray) (N : Nat) (T : ByteArray) (z : Int) (h : zs[m]? = some z) (hz : z ≠ (k : Int)) : met zs m k l N T = met zs (m + 1) k l N T := by
  unfold met
  rw [take_step _ _ _ h]
  have : ((k : Int) ∈ zs.take m ++ [z]) ↔ ((k : Int) ∈ zs.take m) := by simp; exact fun e => absurd e.symm hz
  simp only [this]
set_option maxHeartbeats 2000000 in
set_option maxRecDepth 100000 in
theorem rCrash_run (R : Rk) (st : St) (a : Option Addr) (cap : Nat) (zs : List Int) (w : World) (h : RefAt w R st) (hc : (st.off && !st.opn) = false) (hpl : st.pend.length ≤ 9000000000000) (hl : zs.length ≤ 20000000000000) (hz : IIn w a zs) (hf : ∀ b off, a = some ⟨b, off, none⟩ → zs ≠ [] → ¬ R.foot b) :
    Calls Try.prog 41 #[pt R.p, .slice a zs.length cap] w fun e w' => e = .returned (.tuple #[]) ∧ ∃ R', RRaw w' R' (layK zs 0 st.safe st.pend) [] true false 0 ∧ RStp w R w' R' := by
  have c2 := h.c2
  have c3 := h.c3
  have HW : Hid (st.WF) := ⟨h.wf⟩
  obtain ⟨g, c, e1⟩ := h.raw.v1 h.wf.lo
  obtain ⟨av, cv, e2⟩ := h.raw.v2
  have EV : Hid (R.v1 = rw_ g st.safe.length c ∧ R.v2 = .slice av st.pend.length cv) := ⟨e1, e2⟩
  have HP : Hid (st.pend.length ≤ 9223372036854775806) := ⟨by omega⟩
  have R1 : Hid (RRaw w R st.safe st.pend st.off st.opn st.fall ∧ RStp w R w R) := ⟨h.raw, RStp.refl _ _⟩
  have HF : Hid (IIn w a zs ∧ ∀ b off, a = some ⟨b, off, none⟩ → zs ≠ [] → ¬ R.foot b) := ⟨hz, hf⟩
  clear h hpl e1 e2 hz hf
  go_enter Try.func41, Try.ntmps41
  have hcond : (st.off = true → st.opn = true) := by intro h1; rw [h1] at hc; simpa using hc
  have HCO : Hid (st.off = true → st.opn = true) := ⟨hcond⟩
  clear hc hcond
  generalize hof : st.off = of at *
  generalize hop : st.opn = op at *
  clear hof hop
  have hgo : of = false ∨ (of = true ∧ op = true) := by
    cases of
    · exact .inl rfl
    · exact .inr ⟨rfl, HCO.out rfl⟩
  rcases hgo with rfl | ⟨rfl, rfl⟩
  all_goals go_wp2
  all_goals
    go_loopw [4] (fun i wr => ∃ k : Nat, k ≤ st.pend.length ∧ i = .int .i64 k ∧ ∃ of op, Hid (RRaw wr R (layK zs 0 st.safe (st.pend.take k)) st.pend of op st.fall ∧ RStp w R wr R)) (fun i _ => st.pend.length - (intOf i).toNat)
    case atStart => exact ⟨0, Nat.zero_le _, rfl, _, _, R1⟩
    case round =>
      obtain ⟨k, hk, rfl, of, op, R2⟩ := hrel
      have c1 : wr.cell? ⟨R.p, 1, none⟩ = some (.slice av st.pend.length cv) := by rw [← EV.out.2]; exact R2.out.1.cell 1
      by_cases hlt : k < st.pend.length
      · obtain ⟨p, hp⟩ : ∃ p, st.pend[k]? = some p := ⟨_, List.getElem?_eq_getElem hlt⟩
        have hN := HW.out.pd p (List.mem_of_getElem? hp)
        obtain ⟨N, T⟩ := p
        simp only at hN
        have hi : (k : Int) < st.pend.length := by omega
        have hpl : st.pend.length ≤ 9223372036854775806 := HP.out
        have hw1 : wrap64 ((k : Int) + 1) = ((k + 1 : Nat) : Int) := by unfold wrap64; omega
        have hfin : layK zs 0 st.safe (st.pend.take (k + 1)) = met zs zs.length k (layK zs 0 st.safe (st.pend.take k)) N T := by
          rw [take_step _ _ _ hp, layK_snoc, List.length_take, Nat.min_eq_left hk, Nat.zero_add]
          unfold met
          rw [List.take_length]
        have HFIN : Hid (layK zs 0 st.safe (st.pend.take (k + 1)) = met zs zs.length k (layK zs 0 st.safe (st.pend.take k)) N T) := ⟨hfin⟩
        have hll : (layK zs 0 st.safe (st.pend.take k)).length = st.safe.length := layK_length _ _ _ _
        have HP1 : Hid (st.pend[k]? = some (N, T)) := ⟨hp⟩
        clear hfin hp
        generalize layK zs 0 st.safe (st.pend.take k) = L at *
        go_wp2
        go_loopw [5] (fun i wr => ∃ m : Nat, m ≤ zs.length ∧ i = .int .i64 m ∧ Hid (RRaw wr R (met zs m k L N T) st.pend of op st.fall ∧ RStp w R wr R)) (fun i _ => zs.length - (intOf i).toNat)
        case atStart => exact ⟨0, Nat.zero_le _, rfl, ⟨by unfold met; simpa using R2.out⟩⟩
        case round =>
          obtain ⟨m, hm, rfl, R3⟩ := hrel
          by_cases hmt : m < zs.length
          · obtain ⟨z, hzk⟩ : ∃ z, zs[m]? = some z := ⟨_, List.getElem?_eq_getElem hmt⟩
            obtain ⟨b, off, rfl, hb, hcz, hz1, hz2⟩ := HF.out.1.get m z hzk
            have hcx := R3.out.2.fr.cell hcz (HF.out.2 b off rfl (List.ne_nil_of_mem (List.mem_of_getElem? hzk)))
            clear hcz
            have c1r : wr.cell? ⟨R.p, 1, none⟩ = some (.slice av st.pend.length cv) := by rw [← EV.out.2]; exact R3.out.1.cell 1
            have hmi : (m : Int) < zs.length := by omega
            have hw2 : wrap64 ((m : Int) + 1) = ((m + 1 : Nat) : Int) := by unfold wrap64; omega
            by_cases he : z = (k : Int)
            · subst he
              obtain ⟨y, rfl, hy, cN, cT⟩ := R3.out.1.pendAt EV.out.2 k _ HP1.out
              have c0 : wr.cell? ⟨R.p, 0, none⟩ = some (rw_ g st.safe.length c) := by rw [← EV.out.1]; exact R3.out.1.cell 0
              have hml := met_length zs m k L N T
              obtain ⟨cs, fs⟩ := R3.out.1.safeAt EV.out.1 N (by omega)
              have hset := R3.out.1.setSafe EV.out.1 (by have := HW.out.lo; omega) N T
              rw [met_yes _ _ _ _ _ _ hzk] at hset
              have R6 : Hid (RRaw (wr.setCell ⟨g, N, none⟩ (.string T)) R (met zs (m + 1) k L N T) st.pend of op st.fall ∧ RStp w R (wr.setCell ⟨g, N, none⟩ (.string T)) R) := ⟨hset, R3.out.2.setSafe EV.out.1 _ _⟩
              generalize (met zs m k L N T).getD N ByteArray.empty = oN at *
              clear hset R3 hml hll hzk hz1 hz2 hb
              have hN1 : (N : Int) < st.safe.length := by omega
              go_wp2
              go_region
              go_wp2
              go_roundw
              case rel => exact ⟨m + 1, by omega, by go_num, ⟨R6.out.1.drew, R6.out.2.drew⟩⟩
              case measure => simp [intOf]; omega
            · have e1 : (z == (k : Int)) = false := beq_eq_false_iff_ne.2 he
              rw [met_no _ _ _ _ _ _ z hzk he] at R3
              clear hzk hz1 hz2 hb he
              go_wp2
              go_roundw
              case rel => exact ⟨m + 1, by omega, by go_num, R3⟩
              case measure => simp [intOf]; omega
          · have hme : m = zs.length := by omega
            subst hme
            have hmi : ¬ ((zs.length : Int) < zs.length) := by omega
            rw [← HFIN.out] at R3
            go_wp2
            go_roundw
            case rel => exact ⟨k + 1, by omega, by go_num, _, _, R3⟩
            case measure => simp [intOf]; omega
      · have hke : k = st.pend.length := by omega
        subst hke
        have hi : ¬ ((st.pend.length : Int) < st.pend.length) := by omega
        rw [List.take_length] at R2
        have f1 := R2.out.1.frozen 1
        have f2 := R2.out.1.frozen 2
        have f3 := R2.out.1.frozen 3
        have f4 := R2.out.1.frozen 4
        have c2r := R2.out.1.cell 2
        have c3r := R2.out.1.cell 3
        have c4r := R2.out.1.cell 4
        simp only [rcells] at c2r c3r c4r
        go_wp2
        all_goals (first | go_end0 | refine bodyPost_ret (results_none rfl _ _ _) rfl ?_)
        refine ⟨rfl, { R with v2 := .slice none 0 0 }, ((R2.out.1.noPend.setOff true).setOpn false).setFall 0 rfl, ⟨rfl, (((R2.out.2.fr.setCell _ _ _ (.inl (.inl rfl))).setCell _ _ _ (.inl (.inl rfl))).setCell _ _ _ (.inl (.inl rfl))).setCell _ _ _ (.inl (.inl rfl)), ?_⟩⟩
        rintro q (h | h | h)
        · exact .inl (.inl h)
        · exact .inl (.inr (.inl h))
        · simp [Value.ownBlock] at h
end Go.Proofs.Ytmfjhdjphnogiaa
