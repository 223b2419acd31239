/- The keeper's Commit. -/
import Derived.Test.YtmcdohpeibipkaaKop
import Derived.Laws.StructEq
namespace Go.Proofs.Ytmcdohpeibipkaa
set_option linter.unusedVariables false
set_option linter.unusedSimpArgs false
open Go.RowKit
set_option maxRecDepth 100000 in
theorem eqW (z : Int) (T : ByteArray) (w : World) : (Op.equalIn 10000 33 (.agg #[.int .i64 z, .string T]) (.agg #[.int .i64 z, .string T])).run Try.prog w = .ok true w := by
  have u3 := Try.underlying3
  have a3 := Try.isAgg3
  have z3 := Try.sizeOf3
  have u9 := Try.underlying9
  have a9 := Try.isAgg9
  have z9 := Try.sizeOf9
  have hb := ba_self T
  have hS : Try.prog.underlying 33 = some (.struct (Try.prog.fieldsOf 33)) := by kernel_rfl
  have hp : Try.prog.stoodInHeld 33 = false := by kernel_rfl
  rw [show (10000 : Nat) = 9999 + 1 from rfl, run_equalIn_agg w 9999 33 _ _ hS hp]
  simp only [Program.fieldsOf, Try.underlying33]
  go_simp
theorem guardW : Try.prog.eqGuardType Try.prog.depth 33 = false := by kernel_rfl
noncomputable def slWr (v : Value) (a b c : Option Value) : Sem Value := Instr.slice 34 v a b c
theorem slWe (v : Value) (a b c : Option Value) : Instr.slice 34 v a b c = slWr v a b c := rfl
theorem slW (y k c : Nat) (hk : k ≤ c) (w : World) : (slWr (rw_ y (k + 1) c) none (some (.int .i64 (k : Int))) none).run Try.prog w = .ok (.slice (some ⟨y, 0, none⟩) k c) w := by
  unfold slWr
  simp [Instr.slice, run_underlying Try.underlying34, go_sem]
  intro hc
  omega
theorem wci_set : ∀ (l : Il) (k : Nat) (n : Int) (t : ByteArray), ((wci l).set (k * 2) (.int .i64 n)).set (k * 2 + 1) (.string t) = wci (l.set k (n, t))
  | [], _, _, _ => by simp [wci]
  | p :: r, 0, n, t => by simp [wci]
  | p :: r, k + 1, n, t => by
    have e : (k + 1) * 2 = k * 2 + 1 + 1 := by omega
    simp only [wci, e, List.set_cons_succ, wci_set r k n t]
theorem EnvP.storeW {w0 w : World} {Ls : List (Th → Prop)} {y n c : Nat} {L : Il} (h : EnvP w0 w Ls) (i : Nat) (hi : Ls[i]? = some (rowW (rw_ y n c) L)) (j : Nat) (z : Int) (t : ByteArray) : EnvP w0 ((w.setCell ⟨y, j * 2, none⟩ (.int .i64 z)).setCell ⟨y, j * 2 + 1, none⟩ (.string t)) (Ls.set i (rowW (rw_ y n c) (L.set j (z, t)))) := by
  obtain ⟨x, rfl, ha, _, hn⟩ := h.get i _ hi
  have ha' : w.ownsRow 0 33 2 (rw_ y n c) L.length (wci L) := ha
  obtain ⟨a0, c0, e0⟩ := own_slice ha'
  obtain rfl : n = L.length := by injection e0
  obtain ⟨o1, _⟩ := ha'.stored (j * 2) (.int .i64 z)
  obtain ⟨o2, _⟩ := o1.stored (j * 2 + 1) (.string t)
  rw [wci_set] at o2
  refine hn _ (rowWTh (rw_ y L.length c) (L.set j (z, t)).length (wci (L.set j (z, t)))) _ rfl ((fr_set (S := fun k => (rw_ y L.length c).ownBlock = some k) w y _ _ rfl).setCell y _ _ (.inl rfl)) ?_ (fun k hk => .inl hk)
  show World.ownsRow _ 0 33 2 _ _ _
  rw [List.length_set]
  exact o2
def l2 (l : Il) (i : Nat) : Il := List.replicate i (-1, ⟨#[]⟩) ++ (l.drop i ++ [(-77, ⟨#[]⟩)])
theorem l2_zero (l : Il) : l2 l 0 = l ++ [(-77, ⟨#[]⟩)] := by simp [l2]
theorem l2_at (l : Il) (i : Nat) (z : Int × ByteArray) (h : l[i]? = some z) : (l2 l i)[i]? = some z := by
  have hi := (List.getElem?_eq_some_iff.1 h).1
  unfold l2
  rw [List.getElem?_append_right (by simp), List.length_replicate, Nat.sub_self, List.getElem?_append_left (by simp; omega), List.getElem?_drop, Nat.add_zero]
  exact h
theorem l2_last (l : Il) : (l2 l l.length)[l.length]? = some (-77, ⟨#[]⟩) := by
  unfold l2
  rw [List.getElem?_append_right (by simp), List.length_replicate, Nat.sub_self, List.drop_length]; rfl
theorem l2_step (l : Il) (i : Nat) (h : i < l.length) : (l2 l i).set i (-1, ⟨#[]⟩) = l2 l (i + 1) := by
  unfold l2
  rw [List.set_append_right _ _ (by simp), List.length_replicate, Nat.sub_self, List.drop_eq_getElem_cons h, List.cons_append, List.set_cons_zero, List.replicate_succ' (n := i), List.append_assoc]
  rfl
/-- what a Commit tells and leaves -/
def CR (n s : Nat) (B : List ByteArray) (l : Il) (er : Int) (d : Bool) (st : St) : Prop :=
  (er = 1 ∧ d = false ∧ rightB (n - s) l = false ∧ OKst NN st n s B) ∨ (er = 0 ∧ d = false ∧ rightB (n - s) l = true ∧ l.length ≤ s ∧ OKst NN st n s (lay B (natL l))) ∨ (er = 41 ∧ d = false ∧ rightB (n - s) l = true ∧ s ≤ 1 + l.length ∧ OKst NN st n s B) ∨ (er = 9 ∧ d = true ∧ rightB (n - s) l = true ∧ l.length ≤ s ∧ OFFst st n (fun L => RecL NN L s B ∨ RecL NN L s (lay B (natL l))))
theorem commit_post {w0 w : World} {rest : List (Th → Prop)} {q p s n : Nat} {st : St} {B : List ByteArray} (h : EnvP w0 w (lg q p s false :: dk p st :: rest)) (ok : OKst NN st n s B) (h4 : 4 ≤ s) (hs : s < n) (hs2 : s ≤ 250) (a : Option Addr) (cap : Nat) (l : Il) {k : Nat} (hk : k = l.length) (ha : Arg rest a l) (hl : l.length ≤ 20000000000000) :
    Calls Try.prog 10 #[pt q, .slice a k cap] w fun e w' => ∃ er d st', e = .returned (.int .i64 er) ∧ EnvP w0 w' (lg q p s d :: dk p st' :: rest) ∧ CR n s B l er d st' := by
  refine (commit_env h ok h4 hs hs2 a cap l hk ha hl).mono ?_
  rintro e w' (⟨hr, rfl, h1⟩ | ⟨hr, rfl, rfl, h1⟩ | ⟨hr, hf, rfl, h1⟩ | ⟨hr, _, hf, _, st', rfl, h1, ok', _⟩ | ⟨hr, _, hf, _, _, st', rfl, h1, off, _⟩)
  · exact ⟨1, false, st, rfl, h1, .inl ⟨rfl, rfl, hr, ok⟩⟩
  · exact ⟨0, false, st, rfl, h1, .inr (.inl ⟨rfl, rfl, hr, Nat.zero_le _, ok⟩)⟩
  · exact ⟨41, false, st, rfl, h1, .inr (.inr (.inl ⟨rfl, rfl, hr, hf, ok⟩))⟩
  · exact ⟨0, false, st', rfl, h1, .inr (.inl ⟨rfl, rfl, hr, by omega, ok'⟩)⟩
  · exact ⟨9, true, st', rfl, h1, .inr (.inr (.inr ⟨rfl, rfl, hr, by omega, off⟩))⟩
abbrev L8 (q p s n kp r gB cB y k c : Nat) (v3 : Value) (B : List ByteArray) (l l2' : Il) (d : Bool) (st : St) : List (Th → Prop) := [lg q p s d, dk p st, kpo kp p r (pt q) nilv, rfo r s (rw_ gB (n - s) cB), rowS (rw_ gB (n - s) cB) B, rowS nilv [], rowW (rw_ y (k + 1) c) l2', rowW v3 l]
theorem capk {w : World} {y k c : Nat} {l : Il} (h : w.ownsRow 0 33 2 (rw_ y (k + 1) c) l.length (wci l)) : k ≤ c := by
  rcases h.2 with ⟨e, _⟩ | ⟨g, cap, cur, e, _, _, h1, _⟩
  · cases e
  · injection e with e1 e2 e3; omega
theorem EnvP.cut2 {w0 w : World} {a b c d e f g h : Th → Prop} (H : EnvP w0 w [a, b, c, d, e, f, g, h]) : EnvP w0 w [a, b, c, d, e, f] := EnvP.init (Ls := [a, b, c, d, e, f]) (x := g) (EnvP.init (Ls := [a, b, c, d, e, f, g]) (x := h) H)
theorem EnvP.pick9 {w0 w : World} {a b c d e f g h i : Th → Prop} (H : EnvP w0 w [a, b, c, d, e, f, g, h, i]) : EnvP w0 w [a, b, c, d, i, f] := by
  refine H.remap (fun i => match i with | 0 => 0 | 1 => 1 | 2 => 2 | 3 => 3 | 4 => 8 | _ => 5) ?_ ?_
  · intro i s hi
    match i with
    | 0 => exact hi
    | 1 => exact hi
    | 2 => exact hi
    | 3 => exact hi
    | 4 => exact hi
    | 5 => exact hi
    | i + 6 => simp at hi
  · intro i j hi hj e
    simp at hi hj
    rcases i with _ | _ | _ | _ | _ | _ | i <;> rcases j with _ | _ | _ | _ | _ | _ | j <;> simp at e <;> omega
theorem EnvP.pickD {w0 w : World} {a b c d e f g h i : Th → Prop} (H : EnvP w0 w [a, b, c, d, e, f, g, h, i]) : EnvP w0 w [b, c, d, e, i] := by
  refine H.remap (fun i => match i with | 0 => 1 | 1 => 2 | 2 => 3 | 3 => 4 | _ => 8) ?_ ?_
  · intro i s hi
    match i with
    | 0 => exact hi
    | 1 => exact hi
    | 2 => exact hi
    | 3 => exact hi
    | 4 => exact hi
    | i + 5 => simp at hi
  · intro i j hi hj e
    simp at hi hj
    rcases i with _ | _ | _ | _ | _ | i <;> rcases j with _ | _ | _ | _ | _ | j <;> simp at e <;> omega
theorem cmc {w0 w : World} {q p s kp r : Nat} {d : Bool} {L M v : Value} {st : St} {rest : List (Th → Prop)} (h : EnvP w0 w (lg q p s d :: dk p st :: kpo kp p r L M :: rfo r s v :: rest)) : w.cell? ⟨kp, 2, none⟩ = some (pt r) ∧ w.cell? ⟨r, 1, none⟩ = some v ∧ w.frozen? ⟨r, 1, none⟩ = false :=
  ⟨h.cell 2 rfl 2, h.cell 3 rfl 1, h.frozen 3 rfl 1⟩
theorem cmm {w0 w : World} {q p s kp r : Nat} {d : Bool} {L M : Value} {st : St} {rest : List (Th → Prop)} (h : EnvP w0 w (lg q p s d :: dk p st :: kpo kp p r L M :: rest)) : w.cell? ⟨kp, 3, none⟩ = some M := h.cell 2 rfl 3
attribute [local go_sem ↓] slWe
set_option maxHeartbeats 4000000 in
set_option maxRecDepth 100000 in
theorem commits_env {w0 w : World} {kp p r s n q : Nat} {st : St} {B : List ByteArray} (h : Alive w0 w kp p r s n q st B) (h4 : 4 ≤ s) (hs : s < n) (hs2 : s ≤ 250) (a : Option Addr) (cap : Nat) (l : List Px) (hin : ∀ w5 Ls, EnvP w0 w5 Ls → PIn w5 a l) (hl : l.length ≤ 4398046510976) :
    Calls Try.prog 48 #[pt kp, .slice a l.length cap] w fun e w' => e = .returned (.bool true) ∧ ((∃ q st' B', Alive w0 w' kp p r s n q st' B') ∨ (∃ st' M Mx, Dead w0 w' kp p r s n st' B M Mx)) := by
  obtain ⟨gB, cB, h, ok⟩ := h
  have OK : Hid (OKst NN st n s B) := ⟨ok⟩
  have HBl : Hid (B.length = n - s) := ⟨ok.blen⟩
  have HN8 : Hid (n - s ≤ 8192) := ⟨by have h1 := ok.wf.hi; have h2 := ok.len; omega⟩
  have HN0 : Hid (0 < n - s) := ⟨by omega⟩
  have E0 : Hid (EnvP w0 w [lg q p s false, dk p st, kpo kp p r (pt q) nilv, rfo r s (rw_ gB (n - s) cB), rowS (rw_ gB (n - s) cB) B, rowS nilv []]) := ⟨h⟩
  have HI : Hid (∀ w5 Ls, EnvP w0 w5 Ls → PIn w5 a l) := ⟨hin⟩
  have HKL : Hid ((pw l).length = l.length) := ⟨pw_length l⟩
  have qW := writes_any a cap l w (hin _ _ h) hl
  clear h ok hin
  go_enter Try.func48, Try.ntmps48
  go_wp2_with fail
  refine qW.mono ?_
  rintro e w1 ⟨v1, rfl, o1, b1, f1⟩
  have E1 : Hid (EnvP w0 w1 [lg q p s false, dk p st, kpo kp p r (pt q) nilv, rfo r s (rw_ gB (n - s) cB), rowS (rw_ gB (n - s) cB) B, rowS nilv [], rowW v1 (pw l)]) := ⟨E0.out.pushW b1 (by rw [HKL.out]; exact o1) f1⟩
  clear o1 b1 f1 E0 qW
  have qW2 : Hid (∀ w5 Ls, EnvP w0 w5 Ls → Calls Try.prog 23 #[.slice a l.length cap] w5 fun e w' => ∃ v, e = .returned v ∧ w'.ownsRow 0 33 2 v l.length (wci (pw l)) ∧ Below w5.heap.size w5 w' ∧ ∀ k, v.ownBlock = some k → w5.heap.size ≤ k) := ⟨fun w5 Ls h5 => writes_any a cap l w5 (HI.out _ _ h5) hl⟩
  clear HI
  generalize l.length = k at *
  generalize pw l = l1 at *
  have HK9 : Hid (k < 9000000000000) := ⟨by omega⟩
  have HK2 : Hid (k ≤ 20000000000000) := ⟨by omega⟩
  dsimp only
  go_wp2_with (at_builtin; refine app_wi (l := l1) (m := k) HKL.out rfl rfl (E1.out.rowWAt 6 rfl) (by rw [HKL.out]; exact HK9.out) rfl _ _ rfl rfl rfl ?_; intro y c w2 q2 g2 n2)
  have E2 : Hid (EnvP w0 w2 [lg q p s false, dk p st, kpo kp p r (pt q) nilv, rfo r s (rw_ gB (n - s) cB), rowS (rw_ gB (n - s) cB) B, rowS nilv [], rowW (rw_ y (k + 1) c) (l2 l1 0)]) := ⟨by
    have := E1.out.appW 6 rfl (v' := rw_ y (k + 1) c) (l' := l2 l1 0) (by rw [l2_zero, List.length_append, HKL.out]; exact q2) g2 (fun j hj => by cases hj; exact n2)
    exact this⟩
  clear q2 g2 n2 E1
  refine (qW2.out _ _ E2.out).mono ?_
  rintro e w3 ⟨v3, rfl, o3, b3, f3⟩
  have E3 : Hid (EnvP w0 w3 (L8 q p s n kp r gB cB y k c v3 B l1 (l2 l1 0) false st)) := ⟨E2.out.pushW b3 (by rw [HKL.out]; exact o3) f3⟩
  obtain ⟨a3, c3, hv3⟩ := own_slice o3
  subst hv3
  clear o3 b3 f3 E2 qW2
  have hsl := fun w => slW y k c (capk (E3.out.rowWAt 6 rfl)) w
  have qC : Hid (∀ {w5 : World}, EnvP w0 w5 (L8 q p s n kp r gB cB y k c (.slice a3 k c3) B l1 (l2 l1 0) false st) → Calls Try.prog 10 #[pt q, .slice (some ⟨y, 0, none⟩) k c] w5 fun e w' => ∃ er d st', e = .returned (.int .i64 er) ∧ EnvP w0 w' (L8 q p s n kp r gB cB y k c (.slice a3 k c3) B l1 (l2 l1 0) d st') ∧ CR n s B l1 er d st') := ⟨fun h5 =>
    commit_post h5 OK.out h4 hs hs2 (some ⟨y, 0, none⟩) c l1 HKL.out.symm (.inr ⟨4, rowW (rw_ y (k + 1) c) (l2 l1 0), rfl, by
      have := shows_row y (k + 1) c (l2 l1 0) k
      rw [show (l2 l1 0).take k = l1 from by rw [l2_zero, ← HKL.out, List.take_left']; rfl] at this
      exact this⟩) (by rw [HKL.out]; exact HK2.out)⟩
  dsimp only
  go_wp2_with fail
  have E4 := E3.out.drew
  have S4 := E4.cell 2 rfl 1
  simp only [List.getElem?_toArray, List.getElem?_cons_zero, List.getElem?_cons_succ] at S4
  clear E3
  go_region_held3 (fun w' => w'.cell? ⟨kp, 1, none⟩ = some (pt q)) (first | exact S4 | exact E5.cell 2 rfl 1 | assumption)
    ((go_at_call 10; refine (qC.out (by assumption)).mono ?_; rintro e w5 ⟨er, d, st', rfl, E5, hCR⟩))
  have E6 : Hid (EnvP w0 w5 (L8 q p s n kp r gB cB y k c (.slice a3 k c3) B l1 (l2 l1 0) d st')) := ⟨E5⟩
  have HCR : Hid (CR n s B l1 er d st') := ⟨hCR⟩
  clear E5 hCR E4 S4 qC OK hsl
  go_wp2_with fail
  go_loopw [8] (fun i wr => ∃ j : Nat, j ≤ k ∧ i = .int .i64 (j : Int) ∧ Hid (EnvP w0 wr (L8 q p s n kp r gB cB y k c (.slice a3 k c3) B l1 (l2 l1 j) d st'))) (fun i _ => k - (intOf i).toNat)
  case atStart => exact ⟨0, Nat.zero_le _, rfl, E6⟩
  case round =>
    obtain ⟨j, hj, rfl, E⟩ := hrel
    clear E6
    by_cases hjl : j < k
    · obtain ⟨⟨z, T⟩, hz⟩ : ∃ z, l1[j]? = some z := ⟨_, List.getElem?_eq_getElem (by rw [HKL.out]; exact hjl)⟩
      have cy := own_cell2 (E.out.rowWAt 6 rfl) j _ (l2_at l1 j _ hz)
      obtain ⟨b3, o3, e3, d0, d1⟩ := shows_v a3 c3 (by rw [HKL.out]) _ (E.out.rowWAt 7 rfl) j _ hz
      subst e3
      simp only at cy d0 d1
      have y0 := cy.1
      have y1 := cy.2
      have ow := E.out.rowWAt 6 rfl
      obtain ⟨_, _, eo⟩ := own_slice ow
      have hlo : (l2 l1 j).length = k + 1 := by injection eo with e1 e2 e3; exact e2.symm
      rw [hlo] at ow
      have fy0 := ow.frozenAt (j * 2)
      have fy1 := ow.frozenAt (j * 2 + 1)
      clear ow eo hlo
      have hw1 : wrap64 ((j : Int) + 1) = ((j + 1 : Nat) : Int) := wpt j k hjl HK2.out
      have hji := ltk j _ hjl
      have hjk : (j : Int) < (k : Int) + 1 := by omega
      have heq := eqW z T
      have hgd := guardW
      clear hz cy
      go_wp2_with fail
      go_quiet (fail)
      have E3 : Hid (EnvP w0 (((wr.drewN nq).setCell ⟨y, j * 2, none⟩ (.int .i64 (-1))).setCell ⟨y, j * 2 + 1, none⟩ (.string ⟨#[]⟩)) (L8 q p s n kp r gB cB y k c (.slice (some ⟨b3, o3, none⟩) k c3) B l1 (l2 l1 (j + 1)) d st')) := ⟨by
        rw [← l2_step l1 j (by rw [HKL.out]; exact hjl)]
        exact (E.out.drewN nq).storeW 6 rfl j (-1) ⟨#[]⟩⟩
      clear E
      go_wp2_with fail
      exact ⟨⟨j + 1, hjl, by go_num, E3⟩, meask j _ hjl⟩
    · have hjk : j = k := by omega
      subst hjk
      have cy := own_cell2 (E.out.rowWAt 6 rfl) j _ (by have := l2_last l1; rw [HKL.out] at this; exact this)
      simp only at cy
      have y0 := cy.1
      have y1 := cy.2
      have C1 := (E.out.cell 2 rfl 2)
      have C2 := (E.out.cell 3 rfl 0)
      have C3 := (E.out.cell 3 rfl 1)
      simp only [List.getElem?_toArray, List.getElem?_cons_zero, List.getElem?_cons_succ] at C1 C2 C3
      have hjk : (j : Int) < (j : Int) + 1 := by omega
      have hlt : ¬ ((j : Int) < (j : Int)) := by omega
      clear cy
      go_wp2_with fail
      refine (takes_any wr r s (n - s) (some ⟨gB, 0, none⟩) cB C2 C3 a3 c3 l1 (shows_v a3 c3 (by rw [HKL.out]) _ (E.out.rowWAt 7 rfl)) (by rw [HKL.out]; exact HK2.out) HKL.out.symm).mono ?_
      rintro e w5 ⟨rfl, m5, rfl⟩
      have E5 : Hid (EnvP w0 (wr.drewN m5) (L8 q p s n kp r gB cB y j c (.slice a3 j c3) B l1 (l2 l1 j) d st')) := ⟨E.out.drewN m5⟩
      clear E y0 y1 C1 C2 C3
      generalize wr.drewN m5 = W at *
      rcases HCR.out with ⟨rfl, rfl, hr, ok⟩ | ⟨rfl, rfl, hr, hl, ok⟩ | ⟨rfl, rfl, hr, hl, ok⟩ | ⟨rfl, rfl, hr, hl, off⟩
      · have ht : tk (n - s) s l1 = 1 := by unfold tk; rw [hr]; rfl
        have OK : Hid (OKst NN st' n s B) := ⟨ok⟩
        clear ok HCR
        rw [ht]
        dsimp only
        go_wp2
        go_ret
        exact ⟨rfl, .inl ⟨q, st', B, gB, cB, E5.out.cut2, OK.out⟩⟩
      · have ht : tk (n - s) s l1 = 0 := by unfold tk; rw [hr, if_pos rfl, if_neg (by omega)]
        have OK : Hid (OKst NN st' n s (lay B (natL l1))) := ⟨ok⟩
        have HR : Hid (rightB (n - s) l1 = true) := ⟨hr⟩
        have C1 := (E5.out.cell 2 rfl 2)
        have C3 := (E5.out.cell 3 rfl 1)
        have FR := (E5.out.frozen 3 rfl 1)
        have C0 := (E5.out.cell 2 rfl 0)
        simp only [List.getElem?_toArray, List.getElem?_cons_zero, List.getElem?_cons_succ] at C1 C3 C0
        have qW3 : Hid (∀ {w5 : World}, EnvP w0 w5 (L8 q p s n kp r gB cB y j c (.slice a3 j c3) B l1 (l2 l1 j) false st') → Calls Try.prog 68 #[pt r, .slice a3 j c3] w5 fun e w' => ∃ y' c', e = .returned (rw_ y' (n - s) c') ∧ EnvP w0 w' (L8 q p s n kp r gB cB y j c (.slice a3 j c3) B l1 (l2 l1 j) false st' ++ [rowS (rw_ y' (n - s) c') (lay B (natL l1))])) := ⟨fun {w5} h5 => by
          have c3' := h5.cell 3 rfl 1
          simp only [List.getElem?_toArray, List.getElem?_cons_zero, List.getElem?_cons_succ] at c3'
          obtain ⟨a1, c1, e1, i1⟩ := own_sin (h5.rowSAt 4 rfl)
          injection e1 with e1 e2 e4
          subst e1
          refine (with_any w5 r gB cB (n - s) B HBl.out HN0.out HN8.out c3' i1 a3 c3 l1 j HKL.out HK2.out (shows_v a3 c3 (by rw [HKL.out]) _ (h5.rowWAt 7 rfl)) HR.out).mono ?_
          rintro e w' ⟨y', c', rfl, o', b', f'⟩
          exact ⟨y', c', rfl, h5.pushS b' (by rw [lay_length, HBl.out]; exact o') (fun k hk => by cases hk; exact f')⟩⟩
        clear ok HCR hl hr C1 C3 C0 FR
        rw [ht]
        dsimp only
        go_wp2_with fail
        have E6 := E5.out.drew
        have S6 := (cmc E6).1
        clear E5
        go_region_held3 (fun w' => w'.cell? ⟨kp, 2, none⟩ = some (pt r)) (first | exact S6 | exact (cmc E7).1 | exact (cmc (E7.setCell 3 rfl 1 _)).1 | assumption)
          ((go_at_call 68; refine (qW3.out (by assumption)).mono ?_; rintro e w7 ⟨y', c', rfl, E7⟩; have c7 := (cmc E7).2.1; have f7 := (cmc E7).2.2))
        have E8 : Hid (EnvP w0 (w7.setCell ⟨r, 1, none⟩ (rw_ y' (n - s) c')) [lg q p s false, dk p st', kpo kp p r (pt q) nilv, rfo r s (rw_ y' (n - s) c'), rowS (rw_ gB (n - s) cB) B, rowS nilv [], rowW (rw_ y (j + 1) c) (l2 l1 j), rowW (.slice a3 j c3) l1, rowS (rw_ y' (n - s) c') (lay B (natL l1))]) := ⟨E7.setCell 3 rfl 1 _⟩
        have C0 := (E8.out.cell 2 rfl 0)
        simp only [List.getElem?_toArray, List.getElem?_cons_zero, List.getElem?_cons_succ] at C0
        clear E7 E6 S6 qW3 c7 f7
        go_wp2_with fail
        refine (pending_env E8.out 1 rfl (n := 0) (by rw [OK.out.pend]; rfl)).mono ?_
        rintro e w9 ⟨rfl, rfl⟩
        dsimp only
        go_wp2
        go_ret
        exact ⟨rfl, .inl ⟨q, st', lay B (natL l1), y', c', E8.out.pick9, OK.out⟩⟩
      · by_cases hsl : s < l1.length
        · have ht : tk (n - s) s l1 = 41 := by unfold tk; rw [hr, if_pos rfl, if_pos hsl]
          have OK : Hid (OKst NN st' n s B) := ⟨ok⟩
          clear ok HCR
          rw [ht]
          dsimp only
          go_wp2
          go_ret
          exact ⟨rfl, .inl ⟨q, st', B, gB, cB, E5.out.cut2, OK.out⟩⟩
        · have ht : tk (n - s) s l1 = 0 := by unfold tk; rw [hr, if_pos rfl, if_neg hsl]
          have OK : Hid (OKst NN st' n s B) := ⟨ok⟩
          have HF : Hid (decide (j ≤ (s - 2) / 2) = false) := ⟨by rw [decide_eq_false_iff_not]; have := HKL.out; omega⟩
          have C1 := (E5.out.cell 2 rfl 2)
          have C2 := (E5.out.cell 3 rfl 0)
          simp only [List.getElem?_toArray, List.getElem?_cons_zero, List.getElem?_cons_succ] at C1 C2
          clear ok HCR hl hsl
          rw [ht]
          dsimp only
          go_wp2_with fail
          refine (sure_any W r s h4 (by omega) C2 a3 j c3).mono ?_
          rintro e w6 ⟨rfl, rfl⟩
          rw [HF.out]
          dsimp only
          go_wp2
          go_ret
          exact ⟨rfl, .inl ⟨q, st', B, gB, cB, E5.out.cut2, OK.out⟩⟩
      · have ht : tk (n - s) s l1 = 0 := by unfold tk; rw [hr, if_pos rfl, if_neg (by omega)]
        have OFF : Hid (OFFst st' n (fun L => RecL NN L s B ∨ RecL NN L s (lay B (natL l1)))) := ⟨off⟩
        have HR : Hid (rightB (n - s) l1 = true) := ⟨hr⟩
        have qW3 : Hid (∀ {w5 : World}, EnvP w0 w5 (L8 q p s n kp r gB cB y j c (.slice a3 j c3) B l1 (l2 l1 j) true st') → Calls Try.prog 68 #[pt r, .slice a3 j c3] w5 fun e w' => ∃ y' c', e = .returned (rw_ y' (n - s) c') ∧ EnvP w0 w' (L8 q p s n kp r gB cB y j c (.slice a3 j c3) B l1 (l2 l1 j) true st' ++ [rowS (rw_ y' (n - s) c') (lay B (natL l1))])) := ⟨fun {w5} h5 => by
          have c3' := h5.cell 3 rfl 1
          simp only [List.getElem?_toArray, List.getElem?_cons_zero, List.getElem?_cons_succ] at c3'
          obtain ⟨a1, c1, e1, i1⟩ := own_sin (h5.rowSAt 4 rfl)
          injection e1 with e1 e2 e4
          subst e1
          refine (with_any w5 r gB cB (n - s) B HBl.out HN0.out HN8.out c3' i1 a3 c3 l1 j HKL.out HK2.out (shows_v a3 c3 (by rw [HKL.out]) _ (h5.rowWAt 7 rfl)) HR.out).mono ?_
          rintro e w' ⟨y', c', rfl, o', b', f'⟩
          exact ⟨y', c', rfl, h5.pushS b' (by rw [lay_length, HBl.out]; exact o') (fun k hk => by cases hk; exact f')⟩⟩
        clear off HCR hl hr
        rw [ht]
        dsimp only
        have S6 := (cmc E5.out).1
        go_wp2_with fail
        refine (qW3.out E5.out).mono ?_
        rintro e w7 ⟨y', c', rfl, E7⟩
        have c7 := cmm E7
        have f7 := E7.frozen 2 rfl 3
        clear E5
        have E8 : Hid (EnvP w0 (w7.setCell ⟨kp, 3, none⟩ (rw_ y' (n - s) c')) [lg q p s true, dk p st', kpo kp p r (pt q) (rw_ y' (n - s) c'), rfo r s (rw_ gB (n - s) cB), rowS (rw_ gB (n - s) cB) B, rowS nilv [], rowW (rw_ y (j + 1) c) (l2 l1 j), rowW (.slice a3 j c3) l1, rowS (rw_ y' (n - s) c') (lay B (natL l1))]) := ⟨E7.setCell 2 rfl 3 _⟩
        have C1 := (E8.out.cell 2 rfl 1)
        simp only [List.getElem?_toArray, List.getElem?_cons_zero, List.getElem?_cons_succ] at C1
        clear E7 S6 qW3
        dsimp only
        go_wp2_with fail
        refine (lread_off E8.out 0 rfl).mono ?_
        rintro e w9 ⟨rfl, h9⟩
        have E9 : Hid (EnvP w0 w9 [lg q p s true, dk p st', kpo kp p r (pt q) (rw_ y' (n - s) c'), rfo r s (rw_ gB (n - s) cB), rowS (rw_ gB (n - s) cB) B, rowS nilv [], rowW (rw_ y (j + 1) c) (l2 l1 j), rowW (.slice a3 j c3) l1, rowS (rw_ y' (n - s) c') (lay B (natL l1))]) := ⟨h9⟩
        have C2 := (E9.out.cell 2 rfl 1)
        simp only [List.getElem?_toArray, List.getElem?_cons_zero, List.getElem?_cons_succ] at C2
        clear h9 E8 C1
        dsimp only
        go_wp2_with fail
        refine (commit_off E9.out rfl _).mono ?_
        rintro e w10 ⟨rfl, h10⟩
        have C2 := (h10.cell 2 rfl 1)
        have F2 := (h10.frozen 2 rfl 1)
        have E10 : Hid (EnvP w0 (w10.setCell ⟨kp, 1, none⟩ (.pointer none)) [lg q p s true, dk p st', kpo kp p r (.pointer none) (rw_ y' (n - s) c'), rfo r s (rw_ gB (n - s) cB), rowS (rw_ gB (n - s) cB) B, rowS nilv [], rowW (rw_ y (j + 1) c) (l2 l1 j), rowW (.slice a3 j c3) l1, rowS (rw_ y' (n - s) c') (lay B (natL l1))]) := ⟨h10.setCell 2 rfl 1 _⟩
        have C0 := (E10.out.cell 2 rfl 0)
        simp only [List.getElem?_toArray, List.getElem?_cons_zero, List.getElem?_cons_succ] at C2 C0
        clear h10 E9
        dsimp only
        go_wp2_with fail
        refine (off_env E10.out 1 rfl OFF.out.off).mono ?_
        rintro e w11 ⟨rfl, rfl⟩
        dsimp only
        go_wp2
        go_ret
        refine ⟨rfl, .inr ⟨st', rw_ y' (n - s) c', lay B (natL l1), gB, cB, E10.out.pickD, HBl.out, .inr ⟨y', c', rfl, by rw [lay_length, HBl.out]⟩, OFF.out.mono (fun L hL => ?_)⟩⟩
        rcases hL with hL | hL
        · exact .inl hL
        · exact .inr ⟨rws_nil, hL⟩
end Go.Proofs.Ytmcdohpeibipkaa
