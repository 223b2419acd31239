import Derived.Test.YtghdgddpdamhcaaGreatNum
import Derived.Test.YtghdgddpdamhcaaGreatRows
import Derived.ProofKit
import Derived.OpenShut
import Derived.JoinedCond
import Derived.SizedLaws
import Derived.Deep.Slices
import Derived.Test.YtghdgddpdamhcaaGreatGk
import Derived.Test.YtghdgddpdamhcaaGreatGm
import Derived.Test.YtghdgddpdamhcaaGreatEnv
/- Integers that came in. -/
namespace Go.Proofs.YtghdgddpdamhcaaGreat
set_option linter.unusedVariables false
set_option linter.unusedSimpArgs false
open Go.ChangeShapes Go.WideShapes Go.ChangeAt Go.RowKit
theorem own : ownKnob Tryz.prog.godebug = none := by kernel_rfl
theorem addr_add (b off j : Nat) : (⟨b, off, none⟩ : Addr).add j = ⟨b, off + j, none⟩ := by unfold Addr.add; split <;> simp_all
theorem wf64 {n : Int} (h : (Lit.int .i64 n).wf = true) : -9223372036854775808 ≤ n ∧ n ≤ 9223372036854775807 := by
  simpa [Lit.wf, IntKind.min, IntKind.max, IntKind.signed, IntKind.bits] using h
theorem bytesI : Tryz.prog.bytesOf 3 = 8 := by kernel_rfl
theorem cells3t : Tryz.prog.cellsOf 3 = 1 := by kernel_rfl
/-- how long the slice reads -/
def Reads {H : Type} (d : DataW H) (len : Nat) : Prop := len = 0 ∨ ∃ es sp, d = .slice es sp ∧ es.length = len
theorem weightsAll_mem {H : Type} {P : Program} {e : TypeId} : ∀ {l : List (DataW H)} {d : DataW H}, d ∈ l → ∀ n ∈ d.weights P e, n ∈ DataW.weightsAll P e l
  | x :: r, d, h, n, hn => by
    simp only [DataW.weightsAll, List.mem_append]
    rcases List.mem_cons.1 h with rfl | h
    · exact .inl hn
    · exact .inr (weightsAll_mem h n hn)
theorem weights_le {H : Type} {ts : List TypeId} {ds : List (DataW H)} (h : (DataW.weightsEach Tryz.prog ts ds).all (· ≤ reachBytes) = true) {j : Nat} {t : TypeId} {d : DataW H} (ht : ts[j]? = some t) (hd : ds[j]? = some d) : ∀ n ∈ d.weights Tryz.prog t, n ≤ 140737488351232 := fun n hn => by
  have := of_decide_eq_true (List.all_eq_true.1 h n (DataW.weights_mem_each ht hd n hn))
  simpa [reachBytes] using this
set_option maxRecDepth 100000 in
theorem ints_in {H : Type} {enc : TypeId × Value → H} {W : World} {a : Option Addr} {len cap : Nat} {d : DataW H} {p : List MemPlace} (h : DataW.Trod enc Tryz.prog W 0 (fun _ => true) true 22 (.slice a len cap) d p) (hw : ∀ n ∈ d.weights Tryz.prog 22, n ≤ 140737488351232) :
    ∃ L : List Int, L.length = len ∧ IIn W a L ∧ Reads d len := by
  obtain ⟨fuel, hf⟩ := h
  rcases Go.Deep.open_slice Tryz.underlying22 hf with ⟨hcs, _⟩ | ⟨x, l, c, m, n, D, Pl, hcs, _, hl, hm, hmm, hx, hel⟩
  · simp [Value.cells] at hcs
    obtain ⟨rfl, rfl, rfl⟩ := hcs
    exact ⟨[], rfl, ⟨fun k p hk => by simp at hk⟩, .inl rfl⟩
  · simp [Value.cells] at hcs
    obtain ⟨rfl, rfl, rfl⟩ := hcs
    have hmc : m = cap := by simpa using hmm
    have hd : d = .slice ((List.range len).map D) ((List.range (m - len)).map fun j => D (len + j)) := congrArg Prod.fst hx
    have hwe : ∀ k, k < len → ∀ n ∈ (D k).weights Tryz.prog 3, n ≤ 140737488351232 := by
      intro k hk n hn
      refine hw n ?_
      rw [hd]
      simp only [DataW.weights, Tryz.underlying22]
      exact List.mem_cons_of_mem _ (List.mem_append_left _ (weightsAll_mem (List.mem_map.2 ⟨k, List.mem_range.2 hk, rfl⟩) n hn))
    obtain ⟨b, off, spot⟩ := x
    have key : ∀ k, ∃ o : Int, k < len → (spot = none ∧ b < W.heap.size ∧ W.cell? ⟨b, off + k, none⟩ = some (.int .i64 o) ∧ -9223372036854775808 ≤ o ∧ o ≤ 9223372036854775807) := by
      intro k
      by_cases hk : k < len
      · obtain ⟨cs', h1, h2⟩ := hel k (by omega)
        rw [cells3t] at h1
        obtain ⟨_, hlen, hcell⟩ := World.cells?_some h1
        have hwk := hwe k hk
        have hspot : spot = none := by
          obtain ⟨cs0, h10, _⟩ := hel 0 (by omega)
          rw [cells3t] at h10
          obtain ⟨_, hlen0, hcell0⟩ := World.cells?_some h10
          match cs0, hlen0 with
          | [u0], _ =>
            have q0 := hcell0 0 (by omega)
            simpa [Addr.add] using World.cell?_spot q0
        subst hspot
        have hadd : ∀ j i, ((⟨b, off, none⟩ : Addr).add j).add i = ⟨b, off + j + i, none⟩ := fun j i => by rw [addr_add, addr_add]
        obtain ⟨z0, e0, _, hz0⟩ := DataW.trod_int Tryz.underlying3 h2
        subst e0
        have c0 := hcell 0 (by simp)
        rw [hadd] at c0
        exact ⟨z0, fun _ => ⟨rfl, block_lt_of_cell c0, by simpa using c0, wf64 hz0⟩⟩
      · exact ⟨0, fun h => absurd h hk⟩
    have hf := fun k => Classical.choose_spec (key k)
    refine ⟨(List.range len).map fun k => Classical.choose (key k), by simp, ⟨fun k q hk => ?_⟩, .inr ⟨_, _, hd, by simp⟩⟩
    have hkl : k < len := by
      have := (List.getElem?_eq_some_iff.1 hk).1
      simpa using this
    rw [List.getElem?_map, List.getElem?_range hkl] at hk
    have hq := (Option.some.inj hk).symm
    subst hq
    obtain ⟨h1, h2, h3⟩ := hf k hkl
    exact ⟨b, off, by rw [h1], h2, h3⟩
theorem ints_in_len {H : Type} {d : DataW H} {len : Nat} (h : Reads d len) (hw : ∀ n ∈ d.weights Tryz.prog 22, n ≤ 140737488351232) : len ≤ 17592186043904 := by
  rcases h with h0 | ⟨es, sp, he, hl⟩
  · omega
  · have := hw ((es.length + sp.length) * Tryz.prog.bytesOf 3) (by rw [he]; simp only [DataW.weights, Tryz.underlying22]; exact List.mem_cons_self)
    rw [bytesI] at this
    omega
end Go.Proofs.YtghdgddpdamhcaaGreat

/- said; a Commit of a transaction while the power may go. -/
namespace Go.Proofs.YtghdgddpdamhcaaGreat
set_option linter.unusedVariables false
set_option linter.unusedSimpArgs false
open Go.RowKit Go.Maps
/-- behind a crash and with the power on again -/
structure Back (st : St) (n : Nat) (P : List ByteArray → Prop) : Prop where
  wf : st.WF
  off : st.off = false
  opn : st.opn = false
  pend : st.pend = []
  fall : st.fall = 0
  len : st.safe.length = n
  may : P st.safe
theorem OFFst.back {st : St} {n : Nat} {P : List ByteArray → Prop} (h : OFFst st n P) (kept : List Int) : Back (st.crash kept).on n P := by
  have e : st.crash kept = { st.settle kept with off := true } := by unfold St.crash; rw [h.off, h.opn]; rfl
  have hw := (h.wf.crash kept).on
  rw [e] at hw ⊢
  exact ⟨hw, rfl, rfl, rfl, rfl, by show (layK kept 0 st.safe st.pend).length = n; rw [layK_length]; exact h.len, h.may kept⟩
theorem OKst.back {st : St} {n s : Nat} {B : List ByteArray} (h : OKst NN st n s B) (kept : List Int) : OKst NN (st.crash kept).on n s B ∧ (st.crash kept).on.fall = 0 := by
  have e : st.crash kept = { st.settle kept with off := true } := by unfold St.crash; rw [h.off]; rfl
  have hw := (h.wf.crash kept).on
  have es : layK kept 0 st.safe st.pend = st.safe := by rw [h.pend]; rfl
  rw [e] at hw ⊢
  exact ⟨⟨hw, rfl, rfl, rfl, by show (layK kept 0 st.safe st.pend).length = n; rw [es]; exact h.len, by show (layK kept 0 st.safe st.pend)[0]? = _; rw [es]; exact h.head, by show (layK kept 0 st.safe st.pend).drop s = B; rw [es]; exact h.blk⟩, rfl⟩
theorem OKst.recl {st : St} {n s : Nat} {B : List ByteArray} (h : OKst NN st n s B) : RecL NN st.safe s B := .inl ⟨.inr h.head, h.blk⟩
/-- what a space says of its 76 blocks -/
def sdl (T : ByteArray) (i : Nat) : List UInt8 := (List.range i).map fun k : Nat => if usd 76 1 T (k : Int) then 49 else 48
def cnt (T : ByteArray) (i : Nat) : Nat := ((List.range i).filter fun k : Nat => !usd 76 1 T (k : Int)).length
def sdT (T : ByteArray) : ByteArray := ⟨(sdl T 76).toArray⟩
theorem sdl_len (T : ByteArray) (i : Nat) : (vals (sdl T i)).length = i := by simp [vals, sdl]
theorem sdl_one {T : ByteArray} {i : Nat} (h : usd 76 1 T (i : Int) = true) : vals (sdl T i) ++ [.int .u8 49] = vals (sdl T (i + 1)) := by
  unfold sdl
  rw [List.range_succ, List.map_append, vals_append]
  simp [vals, h]
theorem sdl_nul {T : ByteArray} {i : Nat} (h : usd 76 1 T (i : Int) = false) : vals (sdl T i) ++ [.int .u8 48] = vals (sdl T (i + 1)) := by
  unfold sdl
  rw [List.range_succ, List.map_append, vals_append]
  simp [vals, h]
theorem cnt_one {T : ByteArray} {i : Nat} (h : usd 76 1 T (i : Int) = true) : cnt T (i + 1) = cnt T i := by unfold cnt; rw [List.range_succ, List.filter_append]; simp [h]
theorem cnt_nul {T : ByteArray} {i : Nat} (h : usd 76 1 T (i : Int) = false) : cnt T (i + 1) = cnt T i + 1 := by unfold cnt; rw [List.range_succ, List.filter_append]; simp [h]
theorem cnt_le (T : ByteArray) (i : Nat) : cnt T i ≤ i := by unfold cnt; exact Nat.le_trans (List.length_filter_le _ _) (by simp)
theorem cnt_all (T : ByteArray) : cnt T 76 = (frees T 2 76).length := by
  unfold cnt frees
  refine congrArg List.length (List.filter_congr fun k hk => ?_)
  have h76 : k < 76 := List.mem_range.1 hk
  unfold usd
  rw [decide_eq_true (show (0 : Int) ≤ (k : Int) by omega), decide_eq_true (show (k : Int) < ((76 : Nat) : Int) by omega), show ((k : Int)).toNat = k by omega]
  by_cases h2 : 2 ≤ k
  · rw [decide_eq_true h2, decide_eq_false (show ¬ (k : Int) < ((1 : Nat) : Int) + 1 by omega)]; simp
  · rw [decide_eq_false h2, decide_eq_true (show (k : Int) < ((1 : Nat) : Int) + 1 by omega)]; simp
section
variable {w0 w w' : World} {q p n x sb first : Nat} {W : Wl} {o : Bool} {B : List ByteArray} {X : List (Th → Prop)}
theorem SS.pushX (h : SS w0 w q p n x sb first W o B X) (ty : TypeId) {v : Value} {xs : List Value} (b : Below w.heap.size w w') (ow : w'.ownsRow 0 ty 1 v xs.length xs) (f : ∀ k, v.ownBlock = some k → w.heap.size ≤ k) : SS w0 w' q p n x sb first W o B (X ++ [rowX ty v xs]) := by
  obtain ⟨st, E, r⟩ := h
  exact ⟨st, E.push (rowXTh ty v xs) (rowX ty v xs) rfl b ow f, r⟩
theorem SS.getL {ty : TypeId} {v : Value} {xs : List Value} (h : SS w0 w q p n x sb first W o B (X ++ [rowX ty v xs])) : w.ownsRow 0 ty 1 v xs.length xs := by
  obtain ⟨st, E, r⟩ := h
  obtain ⟨t, rfl, ha, _⟩ := E.get (X.length + 4) (rowX ty v xs) (by simp)
  exact ha
theorem SS.setL {ty : TypeId} {v v' : Value} {xs xs' : List Value} (h : SS w0 w q p n x sb first W o B (X ++ [rowX ty v xs])) (ow : w'.ownsRow 0 ty 1 v' xs'.length xs') (g : w.grownBy w' v.ownBlock) (nw : ∀ k, v'.ownBlock = some k → v.ownBlock = some k ∨ w.heap.size ≤ k) : SS w0 w' q p n x sb first W o B (X ++ [rowX ty v' xs']) := by
  obtain ⟨st, E, r⟩ := h
  obtain ⟨t, rfl, ha, _, hn⟩ := E.get (X.length + 4) (rowX ty v xs) (by simp)
  have E2 := hn w' (rowXTh ty v' xs') (rowX ty v' xs') rfl (Fr.of_grown g (fun k hk => hk)) ow nw
  refine ⟨st, ?_, r⟩
  have e : (lg q p 24 false :: dk p st :: tx x q W o :: ob sb #[pt x, .int .i64 (first : Int)] 73 :: (X ++ [rowX ty v xs])).set (X.length + 4) (rowX ty v' xs') = lg q p 24 false :: dk p st :: tx x q W o :: ob sb #[pt x, .int .i64 (first : Int)] 73 :: (X ++ [rowX ty v' xs']) := by simp
  rw [e] at E2
  exact E2
theorem own_off {y m c k : Nat} (h : (Value.slice (some ⟨y, 0, none⟩) m c).ownBlock = some k) : y = k := by simpa [Value.ownBlock] using h
set_option maxRecDepth 100000 in
set_option maxHeartbeats 4000000 in
theorem said_ss (h : SS w0 w q p 100 x sb 1 W false B X) : Calls Tryz.prog 21 #[pt sb, .int .i64 76] w fun e w' => e = .returned (.string (sdT (cur W B 1))) ∧ SS w0 w' q p 100 x sb 1 W false B X := by
  obtain ⟨T, hT⟩ : ∃ T, T = cur W B 1 := ⟨_, rfl⟩
  have HU : Hid (∀ w1 X1 (i : Nat), SS w0 w1 q p 100 x sb 1 W false B X1 → Calls Tryz.prog 14 #[pt sb, .int .i64 (i : Int)] w1 fun e w' => e = .returned (.bool (usd 76 1 T (i : Int))) ∧ SS w0 w' q p 100 x sb 1 W false B X1) := ⟨fun w1 X1 i h1 => by rw [hT]; exact h1.used (by omega) (i : Int)⟩
  have HL : Hid (∀ w1 X1, SS w0 w1 q p 100 x sb 1 W false B X1 → Calls Tryz.prog 12 #[pt sb] w1 fun e w' => e = .returned (.int .i64 ((cnt T 76 : Nat) : Int)) ∧ SS w0 w' q p 100 x sb 1 W false B X1) := ⟨fun w1 X1 h1 => by rw [cnt_all, hT]; exact h1.left (by omega)⟩
  rw [← hT]
  have H0 : Hid (SS w0 w q p 100 x sb 1 W false B (X ++ [rowX 5 (.slice none 0 0) (vals (sdl T 0))])) := ⟨h.pushX 5 (xs := []) (Below.refl _ _) (World.ownsRow_nil _ _ _ _) (fun k e => by cases e)⟩
  clear h hT
  go_enter Tryz.func21, Tryz.ntmps21
  go_wp2_with fail
  go_loopw [5, 6, 7] (fun vb vn vi wr => ∃ (i : Nat) (va : Option Addr) (vc : Nat), i ≤ 76 ∧ vb = .slice va i vc ∧ vn = .int .i64 ((cnt T i : Nat) : Int) ∧ vi = .int .i64 (i : Int) ∧ Hid (SS w0 wr q p 100 x sb 1 W false B (X ++ [rowX 5 (.slice va i vc) (vals (sdl T i))]))) (fun _ _ i _ => 76 - (intOf i).toNat)
  case atStart => exact ⟨0, none, 0, by omega, rfl, rfl, rfl, H0⟩
  case round =>
    clear H0
    obtain ⟨i, va, vc, hi, rfl, rfl, rfl, H1⟩ := hrel
    by_cases hil : i < 76
    · have d1 : decide ((i : Int) < 76) = true := decide_eq_true (by omega)
      go_wp2_with fail
      refine (HU.out _ _ i H1.out).mono ?_
      rintro e w2 ⟨rfl, h2⟩
      have ho := h2.getL
      have HX : Hid (i = (vals (sdl T i)).length) := ⟨(sdl_len T i).symm⟩
      have hn9 : (vals (sdl T i)).length < 9000000000000 := by rw [sdl_len]; omega
      have HS : Hid (∀ (zz : Int) y cap w', vals (sdl T i) ++ [.int .u8 zz] = vals (sdl T (i + 1)) → w'.ownsRow 0 5 1 (.slice (some ⟨y, 0, none⟩) (i + 1) cap) (i + 1) (vals (sdl T i) ++ [.int .u8 zz]) → w2.grownBy w' (Value.slice va i vc).ownBlock → ((Value.slice va i vc).ownBlock = some y ∨ w2.heap.size ≤ y) → SS w0 w' q p 100 x sb 1 W false B (X ++ [rowX 5 (.slice (some ⟨y, 0, none⟩) (i + 1) cap) (vals (sdl T (i + 1)))])) := ⟨fun zz y cap w' e o g nw => by
        rw [e] at o
        exact h2.setL (by rw [sdl_len]; exact o) g (fun k hk => own_off hk ▸ nw)⟩
      have hcb := cnt_le T i
      clear h2 H1
      dsimp only
      cases hu : usd 76 1 T (i : Int) with
      | true =>
        have HE := Hid.mk (sdl_one hu)
        have HC := Hid.mk (cnt_one hu)
        clear hu
        generalize vals (sdl T i) = xs at *
        go_wp2_with (at_builtin; refine app_u8 (v := .slice va i vc) (xs := xs) (m := i) (z := 49) HX.out rfl rfl ho hn9 rfl _ _ rfl rfl rfl ?_; intro y5 c5 w5 k5 o5 g5 n5; have H5 := Hid.mk (HS.out _ y5 c5 w5 HE.out o5 g5 n5); clear o5 g5 n5 ho HS)
        exact ⟨⟨i + 1, _, _, by omega, rfl, by rw [HC.out], by go_num, H5⟩, by simp [intOf]; omega⟩
      | false =>
        have HE := Hid.mk (sdl_nul hu)
        have HC := Hid.mk (cnt_nul hu)
        clear hu
        generalize vals (sdl T i) = xs at *
        go_wp2_with (at_builtin; refine app_u8 (v := .slice va i vc) (xs := xs) (m := i) (z := 48) HX.out rfl rfl ho hn9 rfl _ _ rfl rfl rfl ?_; intro y5 c5 w5 k5 o5 g5 n5; have H5 := Hid.mk (HS.out _ y5 c5 w5 HE.out o5 g5 n5); clear o5 g5 n5 ho HS)
        exact ⟨⟨i + 1, _, _, by omega, rfl, by rw [HC.out]; go_num, by go_num, H5⟩, by simp [intOf]; omega⟩
    · obtain rfl : i = 76 := by omega
      have d1 : decide ((76 : Int) < 76) = false := by decide
      go_wp2_with fail
      refine (HL.out _ _ H1.out).mono ?_
      rintro e w2 ⟨rfl, h2⟩
      have ho := h2.getL
      rw [vals_length] at ho
      have cv : (convert 40 9 (.slice va 76 vc)).run Tryz.prog w2 = .ok (.string (sdT T)) w2 := conv_own ho
      have H2 : Hid (SS w0 w2 q p 100 x sb 1 W false B X) := ⟨h2.init⟩
      clear h2 H1 ho
      dsimp only
      go_wp2_with fail
      go_ret
      exact ⟨rfl, H2.out⟩
end
end Go.Proofs.YtghdgddpdamhcaaGreat

/- SpaceCrashes: a space begun, its first commit, and a commit while the power may go. -/
namespace Go.Proofs.YtghdgddpdamhcaaGreat
set_option linter.unusedVariables false
set_option linter.unusedSimpArgs false
open Go.RowKit Go.Maps
section
variable {w0 w w' : World} {q p n x sb first s : Nat} {W : Wl} {o : Bool} {B : List ByteArray} {X Ls rest : List (Th → Prop)} {st : St}
theorem begun_w (h : EnvP w0 w Ls) (N first : Nat) (h8 : N ≤ 4000) (hs : 24 < N) (hf : first + 1 ≤ N - 24) : Calls Tryz.prog 10 #[.int .i64 (N : Int), .int .i64 (first : Int)] w fun e w' => ∃ q p x sb, e = .returned (.tuple #[pt sb, pt x, pt q, pt p]) ∧ SS w0 w' q p N x sb first [(first, fl 0)] false (List.replicate (N - 24) (fl 0)) Ls := by
  have qM := made_s h N h8 hs
  have hfb : Hid (first ≤ 9000000000000000000) := ⟨by omega⟩
  have hff : Hid (first + 1 ≤ N - 24) := ⟨hf⟩
  have hnn : Hid (24 < N ∧ N ≤ 4000) := ⟨hs, h8⟩
  clear h hf hs h8
  go_enter Tryz.func10, Tryz.ntmps10
  go_wp2_with fail
  refine qM.mono ?_
  rintro e w1 ⟨q, p, st, rfl, h1, ok⟩
  have qG := begin_s h1 ok hnn.out
  clear h1 ok qM
  dsimp only
  go_wp2_with fail
  refine qG.mono ?_
  rintro e w2 ⟨x, rfl, h2⟩
  have qK := h2.mk first hfb.out
  clear h2 qG
  dsimp only
  go_wp2_with fail
  refine qK.mono ?_
  rintro e w3 (⟨hx, _⟩ | ⟨_, sb, rfl, h3⟩)
  · have := hff.out; omega
  have H3 : Hid (SS w0 w3 q p N x sb first [(first, fl 0)] false (List.replicate (N - 24) (fl 0)) Ls) := ⟨h3⟩
  clear h3 qK
  dsimp only
  go_wp2
  refine bodyPost_ret (results_tmp4 rfl _ _ _) rfl ?_
  exact ⟨q, p, x, sb, rfl, H3.out⟩
theorem ris1 (k : Nat) (t : ByteArray) : Rising [(k, t)] := List.pairwise_singleton _ _
/-- a Commit of one write, the power on -/
theorem SS.commit1 {T : ByteArray} (h : SS w0 w q p 100 x sb 1 [(1, T)] false B X) : Calls Tryz.prog 18 #[pt x] w fun e w' => e = .returned (.int .i64 0) ∧ ∃ st', EnvP w0 w' (lg q p 24 false :: dk p st' :: tx x q [] true :: ob sb #[pt x, .int .i64 ((1 : Nat) : Int)] 73 :: X) ∧ OKst NN st' 100 24 (lay B [(1, T)]) ∧ st'.fall = 0 := by
  obtain ⟨st, E, ⟨ok, hf⟩, hn, hR, hI⟩ := h
  refine (tcommit_run E 0 rfl ok hf (by omega) (by omega) hR hI (by simp)).mono ?_
  rintro e w' (⟨_, rfl, st', h1, h2, h3⟩ | ⟨hx, _⟩)
  · exact ⟨rfl, st', h1, h2, h3⟩
  · have h1 : fitsB 24 1 = true := by decide
    have h2 : fitsB 24 1 = false := hx
    rw [h1] at h2; cases h2
theorem natL_ints (W : Wl) : natL (ints W) = W := by
  unfold natL ints
  rw [List.map_map]
  conv => rhs; rw [← List.map_id W]
  apply List.map_congr_left
  intro p _
  simp
set_option maxRecDepth 100000 in
/-- a Commit of writes while the power may go -/
theorem tcommit_fall (h : EnvP w0 w (lg q p s false :: dk p st :: rest)) (i : Nat) (hi : rest[i]? = some (tx x q W false)) {n : Nat} {B : List ByteArray} (ok : OKst NN st n s B) (h4 : 4 ≤ s) (hs : s < n) (hs2 : s ≤ 250) (hR : Rising W) (hin : InB (n - s) W) (hW : 1 ≤ W.length) (hfit : 1 + W.length < s) :
    Calls Tryz.prog 18 #[pt x] w fun e w' => (∃ st', e = .returned (.int .i64 0) ∧ EnvP w0 w' (lg q p s false :: dk p st' :: rest.set i (tx x q [] true)) ∧ OKst NN st' n s (lay B W)) ∨
      (∃ st', e = .returned (.int .i64 9) ∧ EnvP w0 w' (lg q p s true :: dk p st' :: rest.set i (tx x q [] true)) ∧ OFFst st' n (fun L => RecL NN L s B ∨ RecL NN L s (lay B W))) := by
  obtain ⟨mb, hne, hx, hm, _⟩ := h.tx (i + 2) (by simpa using hi)
  have c2 : w.cell? ⟨x, 2, none⟩ = some (.bool false) := cell_of_row w x 2 _ _ (0, 0) hx
  have hhi : n ≤ 8192 := by have := ok.wf.hi; rw [ok.len] at this; exact this
  have hle := hR.length hin
  have hil := (List.getElem?_eq_some_iff.1 hi).1
  have qW := twrites_env h (i + 2) (by simpa using hi) hR (by omega) (fun p hp => ⟨by have := (hin p hp).1; omega, (hin p hp).2⟩)
  have qA : Hid (∀ w5 T, EnvP w0 w5 (lg q p s false :: dk p st :: (rest ++ [T])) → Calls Tryz.prog 45 #[pt x] w5 fun e w' => e = .returned (.tuple #[]) ∧ EnvP w0 w' (lg q p s false :: dk p st :: (rest.set i (tx x q [] true) ++ [T]))) := ⟨fun w5 T h5 => by
    refine (abort_env h5 (i + 2) (by simp only [List.getElem?_cons_succ]; rw [List.getElem?_append_left hil]; exact hi)).mono ?_
    rintro e w' ⟨rfl, h6⟩
    have e6 : (lg q p s false :: dk p st :: (rest ++ [T])).set (i + 2) (tx x q [] true) = lg q p s false :: dk p st :: (rest.set i (tx x q [] true) ++ [T]) := by
      show lg q p s false :: dk p st :: ((rest ++ [T]).set i (tx x q [] true)) = _
      rw [List.set_append_left _ _ hil]
    rw [e6] at h6
    exact ⟨rfl, h6⟩⟩
  have hci : (rest.set i (tx x q [] true))[i]? = some (tx x q [] true) := List.getElem?_set_self hil
  have HC : Hid (∀ w5 T, EnvP w0 w5 (lg q p s false :: dk p st :: (rest.set i (tx x q [] true) ++ [T])) → w5.cell? ⟨x, 0, none⟩ = some (pt q)) := ⟨fun w5 T h5 => by
    obtain ⟨mb, _, hx, _⟩ := h5.tx (i + 2) (by simp only [List.getElem?_cons_succ]; rw [List.getElem?_append_left (by simpa using hil)]; exact hci)
    exact cell_of_row w5 x 0 _ _ (0, 0) hx⟩
  have qC : Hid (∀ w5 a c, EnvP w0 w5 (lg q p s false :: dk p st :: (rest.set i (tx x q [] true) ++ [rowW (.slice a W.length c) (ints W)])) → Calls Tryz.prog 46 #[pt q, .slice a W.length c] w5 fun e w' => (∃ st', e = .returned (.int .i64 0) ∧ EnvP w0 w' (lg q p s false :: dk p st' :: rest.set i (tx x q [] true)) ∧ OKst NN st' n s (lay B W)) ∨
      (∃ st', e = .returned (.int .i64 9) ∧ EnvP w0 w' (lg q p s true :: dk p st' :: rest.set i (tx x q [] true)) ∧ OFFst st' n (fun L => RecL NN L s B ∨ RecL NN L s (lay B W)))) := ⟨fun w5 a c h5 => by
    have ha : Arg (rest.set i (tx x q [] true) ++ [rowW (.slice a W.length c) (ints W)]) a (ints W) := by
      obtain ⟨t, ht, hat, _⟩ := h5.get ((rest.set i (tx x q [] true)).length + 2) (rowW (.slice a W.length c) (ints W)) (by simp)
      have ht' : t = rowWTh _ _ _ := ht
      subst ht'
      have o5 : w5.ownsRow 0 95 2 (.slice a W.length c) (ints W).length (wci (ints W)) := hat
      rcases o5.2 with ⟨_, h0⟩ | ⟨g, cap, cur, e, _⟩
      · rw [ints_length] at h0; omega
      · injection e with e1 e2 e3
        subst e1
        exact Arg.last _ g _ _ _
    have hr := right_of hR hin
    have hlw := ints_length W
    refine (commit_env h5 ok h4 hs hs2 a c (ints W) hlw.symm ha (by rw [hlw]; omega)).mono ?_
    rw [natL_ints]
    rintro e w' (⟨hh, _⟩ | ⟨_, hh, _⟩ | ⟨_, hh, _⟩ | ⟨_, _, _, _, st', rfl, h6, k6, _⟩ | ⟨_, _, _, _, _, st', rfl, h6, k6, _⟩)
    · rw [hr] at hh; cases hh
    · have : (ints W).length = 0 := by rw [hh]; rfl
      omega
    · rw [hlw] at hh; omega
    · exact .inl ⟨st', rfl, EnvP.init (Ls := lg q p s false :: dk p st' :: rest.set i (tx x q [] true)) h6, k6⟩
    · exact .inr ⟨st', rfl, EnvP.init (Ls := lg q p s true :: dk p st' :: rest.set i (tx x q [] true)) h6, k6⟩⟩
  have hne0 : ¬ ((W.length : Int) = 0) := by omega
  clear h hi hx hm ok hR hin
  go_enter Tryz.func18, Tryz.ntmps18
  go_wp2_with fail
  refine qW.mono ?_
  rintro e w1 ⟨a, c, rfl, h1⟩
  have E1 := qA.out _ _ h1
  clear h1
  dsimp only
  go_wp2_with fail
  refine E1.mono ?_
  rintro e w2 ⟨rfl, h2⟩
  have d0 := HC.out _ _ h2
  have E2 := qC.out _ _ _ h2
  clear h2
  dsimp only
  go_wp2_with fail
  refine E2.mono ?_
  intro e w3 h3
  rcases h3 with ⟨st', rfl, h3⟩ | ⟨st', rfl, h3⟩
  · have H3 : Hid _ := ⟨h3⟩
    clear h3
    dsimp only
    go_wp2
    go_ret
    exact .inl ⟨st', rfl, H3.out⟩
  · have H3 : Hid _ := ⟨h3⟩
    clear h3
    dsimp only
    go_wp2
    go_ret
    exact .inr ⟨st', rfl, H3.out⟩
/-- what a Commit of the bitmap, or of nothing, leaves behind, whatever is kept -/
def CA (w0 w' : World) (q p x2 : Nat) (T1 T3 : ByteArray) (rest : List (Th → Prop)) (e : Ending) : Prop := ∃ (g : Int) (d : Bool) (st5 : St), e = .returned (.int .i64 g) ∧ (g = 0 ∨ g = 9) ∧ EnvP w0 w' (lg q p 24 d :: dk p st5 :: tx x2 q [] true :: rest) ∧ st5.pend.length ≤ 300 ∧
  ∀ zs, ∃ B4, Back (st5.crash zs).on 100 (fun L => RecL NN L 24 B4) ∧ (B4.getD 1 ByteArray.empty = T3 ∨ g = 9 ∧ B4.getD 1 ByteArray.empty = T1)
theorem lay_one {B : List ByteArray} {T : ByteArray} (h : 1 < B.length) : (lay B [(1, T)]).getD 1 ByteArray.empty = T := by
  show (B.set 1 T).getD 1 ByteArray.empty = T
  rw [List.getD_eq_getElem?_getD, List.getElem?_set_self h]; rfl
theorem commit_any {T1 T3 : ByteArray} (h : EnvP w0 w (lg q p 24 false :: dk p st :: tx x q W false :: rest)) (ok : OKst NN st 100 24 B) (hT : B.getD 1 ByteArray.empty = T1) (h3 : T3.size = 512) (hW : W = [] ∧ T3 = T1 ∨ W = [(1, T3)]) :
    Calls Tryz.prog 18 #[pt x] w fun e w' => CA w0 w' q p x T1 T3 rest e := by
  have hlen : B.length = 76 := ok.blen
  rcases hW with ⟨rfl, rfl⟩ | rfl
  · refine (tcommit_nil h 2 rfl).mono ?_
    rintro e w' ⟨rfl, h1⟩
    refine ⟨0, false, st, rfl, .inl rfl, h1, by rw [ok.pend]; simp, fun zs => ⟨B, ?_, .inl hT⟩⟩
    have := ok.back zs
    exact ⟨this.1.wf, this.1.off, this.1.opn, this.1.pend, this.2, this.1.len, this.1.recl⟩
  · refine (tcommit_fall h 0 rfl ok (by omega) (by omega) (by omega) (ris1 1 T3) (fun p hp => by simp at hp; subst hp; exact ⟨by omega, h3⟩) (by simp) (by simp)).mono ?_
    rintro e w' (⟨st', rfl, h1, k1⟩ | ⟨st', rfl, h1, k1⟩)
    · refine ⟨0, false, st', rfl, .inl rfl, h1, by rw [k1.pend]; simp, fun zs => ⟨lay B [(1, T3)], ?_, .inl (lay_one (by omega))⟩⟩
      have := k1.back zs
      exact ⟨this.1.wf, this.1.off, this.1.opn, this.1.pend, this.2, this.1.len, this.1.recl⟩
    · refine ⟨9, true, st', rfl, .inr rfl, h1, k1.few, fun zs => ?_⟩
      have hb := k1.back zs
      rcases hb.may with hm | hm
      · exact ⟨B, ⟨hb.wf, hb.off, hb.opn, hb.pend, hb.fall, hb.len, hm⟩, .inr ⟨rfl, hT⟩⟩
      · exact ⟨lay B [(1, T3)], ⟨hb.wf, hb.off, hb.opn, hb.pend, hb.fall, hb.len, hm⟩, .inl (lay_one (by omega))⟩
end
end Go.Proofs.YtghdgddpdamhcaaGreat

/- SpaceCrashes: the Allocs and the Free, by what is written. -/
namespace Go.Proofs.YtghdgddpdamhcaaGreat
set_option linter.unusedVariables false
set_option linter.unusedSimpArgs false
open Go.RowKit Go.Maps
noncomputable def slI (v : Value) (a b c : Option Value) : Sem Value := Instr.slice 22 v a b c
theorem slIe (v : Value) (a b c : Option Value) : Instr.slice 22 v a b c = slI v a b c := rfl
theorem run_slI (a : Option Addr) (len cap n : Nat) (h1 : n ≤ cap) (h3 : cap ≤ 9223372036854775807) (hn : a = none → cap = 0) (w : World) : (slI (.slice a len cap) none (some (.int .i64 (n : Int))) none).run Tryz.prog w = .ok (.slice a n cap) w := by
  unfold slI
  cases a with
  | none =>
    obtain rfl := hn rfl
    obtain rfl : n = 0 := by omega
    simp [Instr.slice, Tryz.underlying22, go_sem]
  | some ad =>
    simp [Instr.slice, Tryz.underlying22, go_sem]
    intro hc
    omega
section
variable {w0 w w' : World} {q p x sb : Nat} {W : Wl} {B : List ByteArray} {X : List (Th → Prop)}
/-- the list of the first Alloc: nothing, or a row -/
def AR (aa : Option Addr) (ca k1 : Nat) (Xa : List (Th → Prop)) : Prop := (k1 = 0 ∧ aa = none ∧ ca = 0 ∧ Xa = []) ∨ (∃ ga, aa = some ⟨ga, 0, none⟩ ∧ 1 ≤ k1 ∧ Xa = [rowI (.slice (some ⟨ga, 0, none⟩) k1 ca) (sgI 2 k1)])
theorem frees_tk (s N : Nat) (h : s + N ≤ 74) : (frees (tk 2 76 s) (1 + 1) (100 - 24)).take N = List.range' (2 + s) N := by
  have e : frees (tk 2 76 s) (1 + 1) (100 - 24) = (frees (fl 0) 2 76).drop s := tk_frees (by omega) s
  rw [e, frees_range (by omega), seg_range (by omega)]
theorem flip_tk (s N : Nat) : flipA (tk 2 76 s) ((frees (tk 2 76 s) (1 + 1) (100 - 24)).take N) = tk 2 76 (s + N) := tk_more (by omega) s N
theorem left_tk (s : Nat) : (frees (tk 2 76 s) (1 + 1) (100 - 24)).length = 74 - s := tk_left (by omega) s
theorem cur_one {T : ByteArray} : cur [(1, T)] B 1 = T := by unfold cur; simp [lookW]
theorem cur_nil : cur [] B 1 = B.getD 1 ByteArray.empty := rfl
theorem SS.alloc1 (k1 : Nat) (h : SS w0 w q p 100 x sb 1 [(1, fl 0)] false B []) (hk : k1 ≤ 74) : Calls Tryz.prog 13 #[pt sb, .int .i64 (k1 : Int)] w fun e w' => ∃ aa ca Xa, k1 ≤ ca ∧ ca ≤ 9223372036854775807 ∧ e = .returned (.tuple #[.slice aa k1 ca, .int .i64 0]) ∧ AR aa ca k1 Xa ∧ SS w0 w' q p 100 x sb 1 [(1, tk 2 76 k1)] false B Xa := by
  by_cases h0 : k1 = 0
  · subst h0
    refine (h.takeZero (by omega)).mono ?_
    rintro e w' ⟨rfl, h1⟩
    exact ⟨none, 0, [], by omega, by omega, rfl, .inl ⟨rfl, rfl, rfl, rfl⟩, by rw [tk_zero]; exact h1⟩
  · have ec : cur [(1, fl 0)] B 1 = tk 2 76 0 := by rw [tk_zero]; exact cur_one
    refine (h.takeSome (by omega) k1 (by omega) (by omega)).mono ?_
    rw [ec]
    rintro e w' (⟨hlt, _⟩ | ⟨_, g, c, rfl, hc, h2⟩)
    · rw [left_tk] at hlt; omega
    · rw [flip_tk, frees_tk 0 k1 (by omega), Nat.zero_add] at h2
      have ho := SU.row (T := tk 2 76 k1) ⟨_, _, h2, cur_one, by omega⟩ (v := .slice (some ⟨g, 0, none⟩) k1 c) (zs := ni (List.range' (2 + 0) k1)) (by simp)
      have hcm : c ≤ 9223372036854775807 := by
        rcases ho.2 with ⟨e, _⟩ | ⟨g', c', cur', e, _, _, _, h5, _⟩
        · cases e
        · injection e with e1 e2 e3
          subst e3; exact h5
      exact ⟨some ⟨g, 0, none⟩, c, _, hc, hcm, rfl, .inr ⟨g, rfl, by omega, rfl⟩, h2⟩
/-- what may be written, and what the bitmap says -/
def WT (W : Wl) (T1 T : ByteArray) : Prop := W = [] ∧ T = T1 ∨ W = [(1, T)]
theorem SS.alloc2 (k1 k2 : Nat) (h : SS w0 w q p 100 x sb 1 [] false B X) (hc : B.getD 1 ByteArray.empty = tk 2 76 k1) (hk : k1 + k2 ≤ 74) : Calls Tryz.prog 13 #[pt sb, .int .i64 (k2 : Int)] w fun e w' => ∃ aa ca W2, e = .returned (.tuple #[.slice aa k2 ca, .int .i64 0]) ∧ WT W2 (tk 2 76 k1) (tk 2 76 (k1 + k2)) ∧ SS w0 w' q p 100 x sb 1 W2 false B X := by
  by_cases h0 : k2 = 0
  · subst h0
    refine (h.takeZero (by omega)).mono ?_
    rintro e w' ⟨rfl, h1⟩
    exact ⟨none, 0, [], rfl, .inl ⟨rfl, rfl⟩, h1⟩
  · have ec : cur [] B 1 = tk 2 76 k1 := hc
    refine (h.takeSome (by omega) k2 (by omega) (by omega)).mono ?_
    rw [ec]
    rintro e w' (⟨hlt, _⟩ | ⟨_, g, c, rfl, hc, h2⟩)
    · rw [left_tk] at hlt; omega
    · rw [flip_tk] at h2
      exact ⟨some ⟨g, 0, none⟩, c, [(1, tk 2 76 (k1 + k2))], rfl, .inr rfl, h2.tail⟩
theorem wt_cur {T1 T : ByteArray} (h : WT W T1 T) (hb : B.getD 1 ByteArray.empty = T1) : cur W B 1 = T := by
  rcases h with ⟨rfl, rfl⟩ | rfl
  · exact hb
  · exact cur_one
theorem wt_ins {T1 T T3 : ByteArray} (h : WT W T1 T) : insW 1 T3 W = [(1, T3)] := by
  rcases h with ⟨rfl, rfl⟩ | rfl
  · rfl
  · simp [insW]
theorem SS.free2 (k1 s k3 : Nat) {T1 : ByteArray} {aa : Option Addr} {ca : Nat} {Xa : List (Th → Prop)} (h : SS w0 w q p 100 x sb 1 W false B X) (hw : WT W T1 (tk 2 76 s)) (hb : B.getD 1 ByteArray.empty = T1) (hs : s ≤ 74) (hk1 : k1 ≤ s) (hk3 : k3 ≤ k1) (ha : AR aa ca k1 Xa) (hX : ∀ r ∈ Xa, r ∈ X) :
    Calls Tryz.prog 15 #[pt sb, .slice aa k3 ca] w fun e w' => e = .returned (.int .i64 0) ∧ ∃ W3 T3, WT W3 T1 T3 ∧ SS w0 w' q p 100 x sb 1 W3 false B X := by
  have ec := wt_cur hw hb
  have hin : ∀ k ∈ List.range' 2 k3, 2 ≤ k ∧ k < 2 + k3 := fun k hk => List.mem_range'_1.1 hk
  have hr := range_rise 2 k3
  have hq := h.freeL (by omega) aa ca (sgI 2 k3) (by rw [sgI_len]; omega) (fun w1 hh j hj => by
    rw [sgI_len] at hj
    rcases ha with ⟨h0, _⟩ | ⟨ga, rfl, _, rfl⟩
    · omega
    · have hu : SU w0 w1 q p 100 x sb 1 (cur W B 1) X := ⟨W, B, hh, rfl, by omega⟩
      have := hu.rowC (g := ga) (c := ca) (hX _ (by simp)) (sgI_len 2 k1) j (by omega)
      rw [sgI_get (by omega)] at this
      rw [sgI_get hj]
      exact this)
  rw [sgI_len] at hq
  refine hq.mono ?_
  rintro e w' (⟨_, rfl, h2⟩ | ⟨_, _, _, rfl, h2⟩ | ⟨hx, _⟩)
  · exact ⟨rfl, W, _, hw, h2⟩
  · rw [wt_ins hw] at h2
    exact ⟨rfl, _, _, .inr rfl, h2⟩
  · refine absurd ⟨?_, ?_⟩ hx
    · unfold sgI; rw [srt_ni hr]; exact fgood_ni hr (fun k hk => by have := hin k hk; omega)
    · unfold sgI; rw [srt_ni hr, nats_ni, ec]; exact allB_true (fun k hk => by rw [tk_bits _ _ hs]; have := hin k hk; exact decide_eq_true ⟨by omega, by omega⟩)
end
end Go.Proofs.YtghdgddpdamhcaaGreat

/- Crash and On of a disk. -/
namespace Go.Proofs.YtghdgddpdamhcaaGreat
set_option linter.unusedVariables false
set_option linter.unusedSimpArgs false
open Go.RowKit Go.Maps
set_option maxRecDepth 100000 in
theorem below_any (m : Nat) (a : Option Addr) (cap : Nat) (zs : List Int) (w : World) (hm : m ≤ 9000000000000) (hl : zs.length ≤ 20000000000000) (hz : IIn w a zs) : Calls Tryz.prog 78 #[.int .i64 (m : Int), .slice a zs.length cap] w fun e w' => e = .returned (.map (some w.heap.size)) ∧ SetAt w' w.heap.size zs.length m zs ∧ Below w.heap.size w w' := by
  have hmm := @run_makeMap Tryz.prog
  go_enter Tryz.func78, Tryz.ntmps78
  go_wp2
  go_loopw [11] (fun i wr => ∃ k : Nat, k ≤ zs.length ∧ i = .int .i64 k ∧ Hid (SetAt wr w.heap.size k m (zs.take k)) ∧ Hid (Below w.heap.size w wr)) (fun i _ => zs.length - (intOf i).toNat)
  case atStart => exact ⟨0, Nat.zero_le _, rfl, ⟨World.ownsMap_made _ _ _ _⟩, ⟨(Below.refl _ _).alloc (Nat.le_refl _) _⟩⟩
  case round =>
    obtain ⟨k, hk, rfl, HS, HB⟩ := hrel
    by_cases hlt : k < zs.length
    · obtain ⟨z, hzk⟩ : ∃ z, zs[k]? = some z := ⟨_, List.getElem?_eq_getElem hlt⟩
      obtain ⟨b, off, rfl, hb, hc, hz1, hz2⟩ := hz.get k z hzk
      have hcx : wr.cell? ⟨b, off + k, none⟩ = some (.int .i64 z) := (HB.out.cell (p := ⟨b, off + k, none⟩) hb).trans hc
      have hkey : keyOf Tryz.prog 3 (.int .i64 z) = some (.int .i64 z) := keyOf_int_mk Tryz.underlying3 (WalkArith.wf_i64 ⟨by omega, by omega⟩)
      have hi : (k : Int) < zs.length := by omega
      have hw1 : wrap64 ((k : Int) + 1) = ((k + 1 : Nat) : Int) := by unfold wrap64; omega
      have HK : Hid (zs[k]? = some z) := ⟨hzk⟩
      clear hzk hc hz
      cases ho : okN m z with
      | true =>
        have h01 : 0 ≤ z ∧ z < m := by simpa [okN] using ho
        have h0 := h01.1
        have h1 := h01.2
        go_wp2_with (first
          | (at_mapUpdate; refine wpList_mapUpdate_own _ rfl _ _ _ 112 rfl 3 114 law3 Tryz.underlying112 (unitElem (H := Unit)) w.heap.size k _ rfl HS.out (by unfold maxLen; omega) _ _ _ rfl rfl hkey _ [] unitElem_mk ?_; intro w1 hown1 hgrow1)
          | go_in)
        go_roundw
        case rel => exact ⟨k + 1, by omega, by go_num, ⟨by unfold SetAt; rw [numD_step m zs k z HK.out ho]; exact hown1⟩, ⟨HB.out.grown hgrow1 HB.out.size (fun j hj => by cases hj; exact Nat.le_refl _)⟩⟩
        case measure => simp [intOf]; omega
      | false =>
        have h01 : ¬ (0 ≤ z ∧ z < m) := fun h => by simp [okN] at ho; omega
        go_wp2
        all_goals first
          | (exfalso; omega)
          | (go_roundw
             case rel => exact ⟨k + 1, by omega, by go_num, ⟨by unfold SetAt; rw [numD_skip m zs k z HK.out ho]; exact HS.out.mono (Nat.le_succ _)⟩, HB⟩
             case measure => simp [intOf]; omega)
    · have hke : k = zs.length := by omega
      subst hke
      have hi : ¬ ((zs.length : Int) < zs.length) := by omega
      rw [List.take_length] at HS
      go_wp2
      go_ret
      exact ⟨rfl, HS.out, HB.out⟩
set_option maxRecDepth 100000 in
theorem settle_any (D : Dk) (st : St) (a : Option Addr) (cap : Nat) (zs : List Int) (w : World) (h : DiskAt w D st) (hpl : st.pend.length ≤ 9000000000000) (hl : zs.length ≤ 20000000000000) (hz : IIn w a zs) :
    Calls Tryz.prog 48 #[pt D.p, .slice a zs.length cap] w fun e w' => e = .returned (.tuple #[]) ∧ ∃ D', DiskAt w' D' (st.settle zs) ∧ Stp w D w' D' := by
  have H : Hid (DiskAt w D st) := ⟨h⟩
  obtain ⟨av, cv, ev⟩ := h.v3
  have c2 : w.cell? ⟨D.p, 2, none⟩ = some (.slice av st.pend.length cv) := by rw [← ev]; exact h.c2
  have EV : Hid (D.v3 = .slice av st.pend.length cv) := ⟨ev⟩
  have HP : Hid (st.pend.length ≤ 9223372036854775806) := ⟨by omega⟩
  clear h ev
  go_enter Tryz.func48, Tryz.ntmps48
  go_wp2_with fail
  refine (below_any st.pend.length a cap zs _ hpl hl hz).mono ?_
  rintro e w1 ⟨rfl, hs1, bq⟩
  have R1 : Hid (SI w D st st.off st.opn st.fall w.heap.size zs st.seen st.safe w1) := ⟨⟨H.out.raw.below bq, ⟨rfl, Fr.of_below bq, fun _ h => .inl h⟩, hs1, fun e => by have := H.out.lt _ e; omega⟩⟩
  have c21 : w1.cell? ⟨D.p, 2, none⟩ = some (.slice av st.pend.length cv) := by rw [← EV.out]; exact R1.out.raw.cell 2
  clear hs1 bq c2 hz hl
  dsimp only
  go_wp2
  go_loopw [23] (fun i wr => ∃ k : Nat, k ≤ st.pend.length ∧ i = .int .i64 k ∧ Hid (SI w D st st.off st.opn st.fall w.heap.size zs st.seen (layK zs 0 st.safe (st.pend.take k)) wr)) (fun i _ => st.pend.length - (intOf i).toNat)
  case atStart => exact ⟨0, Nat.zero_le _, rfl, R1⟩
  case round =>
    obtain ⟨k, hk, rfl, R⟩ := hrel
    by_cases hlt : k < st.pend.length
    · obtain ⟨p, hp⟩ : ∃ p, st.pend[k]? = some p := ⟨_, List.getElem?_eq_getElem hlt⟩
      obtain ⟨y, rfl, hy, cN, cT⟩ := R.out.raw.pendAt EV.out k p hp
      have hN := H.out.wf.pd p (List.mem_of_getElem? hp)
      obtain ⟨N, T⟩ := p
      simp only at cN cT hN
      have hi : (k : Int) < st.pend.length := by omega
      have hpl : st.pend.length ≤ 9223372036854775806 := HP.out
      have hw1 : wrap64 ((k : Int) + 1) = ((k + 1 : Nat) : Int) := by unfold wrap64; omega
      have R5 : Hid (SI w D st st.off st.opn st.fall w.heap.size zs st.seen (layK zs 0 st.safe (st.pend.take k)) (wr.alloc (.cells #[.int .i64 (N : Int), .string T] 95))) := ⟨R.out.alloc _⟩
      have R6 : Hid (SI w D st st.off st.opn st.fall w.heap.size zs st.seen (layK zs 0 st.safe (st.pend.take k)) ((wr.alloc (.cells #[.int .i64 (N : Int), .string T] 95)).alloc (.cells #[] 114))) := ⟨R5.out.alloc _⟩
      have hkey : keyOf Tryz.prog 3 (.int .i64 (k : Int)) = some (.int .i64 (k : Int)) := keyOf_int_mk Tryz.underlying3 (WalkArith.wf_i64 ⟨by omega, by omega⟩)
      have hhas := has_numD st.pend.length zs k hlt
      by_cases hin : (k : Int) ∈ zs
      · rw [decide_eq_true hin] at hhas
        go_wp2_with (first
          | (at_lookup; refine wpList_lookup_own_unit _ rfl _ _ 112 rfl 3 114 law3 Tryz.underlying112 (zeroU _) w.heap.size zs.length _ rfl R5.out.set _ _ rfl hkey ?_; rw [hhas])
          | go_in)
        have b5 : ((wr.alloc (.cells #[.int .i64 (N : Int), .string T] 95)).alloc (.cells #[] 114)).heap[wr.heap.size]? = some (.cells #[.int .i64 (N : Int), .string T] 95 (0, 0)) := by
          rw [Below.heap_alloc _ _ _ (by simp)]; exact heap_alloc_new wr _
        generalize (wr.alloc (.cells #[.int .i64 (N : Int), .string T] 95)).alloc (.cells #[] 114) = W5 at *
        have c51 : W5.cell? ⟨D.p, 1, none⟩ = some (rw_ D.g2 st.safe.length D.c2) := R6.out.raw.cell 1
        have c5f := R6.out.raw.safeAt N hN.1
        have f5f := R6.out.raw.safe.frozenAt N
        have n0 : W5.cell? ⟨wr.heap.size, 0, none⟩ = some (.int .i64 (N : Int)) := cell_of_row W5 _ 0 _ _ (0, 0) b5
        have n1 : W5.cell? ⟨wr.heap.size, 1, none⟩ = some (.string T) := cell_of_row W5 _ 1 _ _ (0, 0) b5
        have hsn : (layK zs 0 st.safe (st.pend.take k)).set N T = layK zs 0 st.safe (st.pend.take (k + 1)) := by
          rw [take_step _ _ _ hp, layK_snoc, List.length_take, Nat.min_eq_left hk, Nat.zero_add, if_pos hin]
        have hset := R6.out.setSafe N T
        rw [hsn] at hset
        have R7 : Hid (SI w D st st.off st.opn st.fall w.heap.size zs st.seen (layK zs 0 st.safe (st.pend.take (k + 1))) (W5.setCell ⟨D.g2, N, none⟩ (.string T))) := ⟨hset⟩
        generalize (layK zs 0 st.safe (st.pend.take k)).getD N ByteArray.empty = oN at *
        clear hset hsn R5 R6 R cN cT b5
        have hN1 : (N : Int) < st.safe.length := by omega
        go_region
        go_wp2
        go_roundw
        case rel => exact ⟨k + 1, by omega, by go_num, ⟨R7.out.drew⟩⟩
        case measure => simp [intOf]; omega
      · rw [decide_eq_false hin] at hhas
        have hsn : layK zs 0 st.safe (st.pend.take k) = layK zs 0 st.safe (st.pend.take (k + 1)) := by
          rw [take_step _ _ _ hp, layK_snoc, List.length_take, Nat.min_eq_left hk, Nat.zero_add, if_neg hin]
        rw [hsn] at R6
        clear hsn
        go_wp2_with (first
          | (at_lookup; refine wpList_lookup_own_unit _ rfl _ _ 112 rfl 3 114 law3 Tryz.underlying112 (zeroU _) w.heap.size zs.length _ rfl R5.out.set _ _ rfl hkey ?_; rw [hhas])
          | go_in)
        go_roundw
        case rel => exact ⟨k + 1, by omega, by go_num, R6⟩
        case measure => simp [intOf]; omega
    · have hke : k = st.pend.length := by omega
      subst hke
      have hi : ¬ ((st.pend.length : Int) < st.pend.length) := by omega
      rw [List.take_length] at R
      have c22 : wr.cell? ⟨D.p, 2, none⟩ = some (.slice av st.pend.length cv) := by rw [← EV.out]; exact R.out.raw.cell 2
      have hcp : cpy (layK zs 0 st.safe st.pend) st.seen st.pend = layK zs 0 st.safe st.pend := cpy_full _ _ _ (by rw [st.seen_length, layK_length]) (fun n hn => (lay_get _ _ _ hn).trans (layK_get _ _ _ _ _ hn).symm)
      have HC : Hid (cpy (layK zs 0 st.safe st.pend) st.seen st.pend = layK zs 0 st.safe st.pend) := ⟨hcp⟩
      clear R1 hcp c21
      go_wp2
      go_loopw [50] (fun i wr => ∃ k : Nat, k ≤ st.pend.length ∧ i = .int .i64 k ∧ Hid (SI w D st st.off st.opn st.fall w.heap.size zs (cpy (layK zs 0 st.safe st.pend) st.seen (st.pend.take k)) (layK zs 0 st.safe st.pend) wr)) (fun i _ => st.pend.length - (intOf i).toNat)
      case atStart => exact ⟨0, Nat.zero_le _, rfl, R⟩
      case round =>
        obtain ⟨k, hk, rfl, R⟩ := hrel
        by_cases hlt : k < st.pend.length
        · obtain ⟨p, hp⟩ : ∃ p, st.pend[k]? = some p := ⟨_, List.getElem?_eq_getElem hlt⟩
          obtain ⟨y, rfl, hy, cN, cT⟩ := R.out.raw.pendAt EV.out k p hp
          have hN := H.out.wf.pd p (List.mem_of_getElem? hp)
          obtain ⟨N, T⟩ := p
          simp only at cN cT hN
          have hi : (k : Int) < st.pend.length := by omega
          have hpl : st.pend.length ≤ 9223372036854775806 := HP.out
          have hw1 : wrap64 ((k : Int) + 1) = ((k + 1 : Nat) : Int) := by unfold wrap64; omega
          have R5 : Hid (SI w D st st.off st.opn st.fall w.heap.size zs (cpy (layK zs 0 st.safe st.pend) st.seen (st.pend.take k)) (layK zs 0 st.safe st.pend) (wr.alloc (.cells #[.int .i64 (N : Int), .string T] 95))) := ⟨R.out.alloc _⟩
          have b5 : (wr.alloc (.cells #[.int .i64 (N : Int), .string T] 95)).heap[wr.heap.size]? = some (.cells #[.int .i64 (N : Int), .string T] 95 (0, 0)) := heap_alloc_new wr _
          go_wp2
          generalize wr.alloc (.cells #[.int .i64 (N : Int), .string T] 95) = W5 at *
          have c50 : W5.cell? ⟨D.p, 0, none⟩ = some (rw_ D.g1 st.safe.length D.c1) := R5.out.raw.cell 0
          have c51 : W5.cell? ⟨D.p, 1, none⟩ = some (rw_ D.g2 st.safe.length D.c2) := R5.out.raw.cell 1
          have c5s := R5.out.raw.seenAt N hN.1
          have c5f := R5.out.raw.safeAt N hN.1
          have f5f := R5.out.raw.seen.frozenAt N
          have n0 : W5.cell? ⟨wr.heap.size, 0, none⟩ = some (.int .i64 (N : Int)) := cell_of_row W5 _ 0 _ _ (0, 0) b5
          have n1 : W5.cell? ⟨wr.heap.size, 1, none⟩ = some (.string T) := cell_of_row W5 _ 1 _ _ (0, 0) b5
          have hset := R5.out.setSeen N ((layK zs 0 st.safe st.pend).getD N ByteArray.empty)
          have hsn : (cpy (layK zs 0 st.safe st.pend) st.seen (st.pend.take k)).set N ((layK zs 0 st.safe st.pend).getD N ByteArray.empty) = cpy (layK zs 0 st.safe st.pend) st.seen (st.pend.take (k + 1)) := by rw [take_step _ _ _ hp, cpy_snoc]
          rw [hsn] at hset
          have R7 : Hid (SI w D st st.off st.opn st.fall w.heap.size zs (cpy (layK zs 0 st.safe st.pend) st.seen (st.pend.take (k + 1))) (layK zs 0 st.safe st.pend) (W5.setCell ⟨D.g1, N, none⟩ (.string ((layK zs 0 st.safe st.pend).getD N ByteArray.empty)))) := ⟨hset⟩
          generalize (layK zs 0 st.safe st.pend).getD N ByteArray.empty = tN at *
          generalize (cpy (layK zs 0 st.safe st.pend) st.seen (st.pend.take k)).getD N ByteArray.empty = oN at *
          clear hset hsn R5 R cN cT b5 c22
          have hN1 : (N : Int) < st.safe.length := by omega
          go_region
          go_wp2
          go_roundw
          case rel => exact ⟨k + 1, by omega, by go_num, ⟨R7.out.drew⟩⟩
          case measure => simp [intOf]; omega
        · have hke : k = st.pend.length := by omega
          subst hke
          have hi : ¬ ((st.pend.length : Int) < st.pend.length) := by omega
          rw [List.take_length, HC.out] at R
          have c2r : wr.cell? ⟨D.p, 2, none⟩ = some D.v3 := R.out.raw.cell 2
          have f2r := R.out.raw.frozen 2
          have c4r : wr.cell? ⟨D.p, 4, none⟩ = some (.bool st.opn) := R.out.raw.cell 4
          have f4r := R.out.raw.frozen 4
          have c5r : wr.cell? ⟨D.p, 5, none⟩ = some (.int .i64 (st.fall : Int)) := R.out.raw.cell 5
          have f5r := R.out.raw.frozen 5
          go_wp2
          all_goals (first | go_end0 | refine bodyPost_ret (results_none rfl _ _ _) rfl ?_)
          have r3 := ((R.out.raw.noPend.setOpn false).setFall 0 rfl)
          refine ⟨rfl, { D with v3 := .slice none 0 0 }, ⟨H.out.wf.settle zs, ?_⟩, ⟨rfl, ((R.out.stp.fr.setCell _ _ _ (.inl (.inl rfl))).setCell _ _ _ (.inl (.inl rfl))).setCell _ _ _ (.inl (.inl rfl)), ?_⟩⟩
          · show Raw _ _ (layK zs 0 st.safe st.pend).length (layK zs 0 st.safe st.pend) (layK zs 0 st.safe st.pend) [] st.off false 0
            rw [layK_length]
            exact r3
          · rintro q (h | h | h | h)
            · exact .inl (.inl h)
            · exact .inl (.inr (.inl h))
            · exact .inl (.inr (.inr (.inl h)))
            · simp [Value.ownBlock] at h
theorem crash_any (D : Dk) (st : St) (a : Option Addr) (cap : Nat) (zs : List Int) (w : World) (h : DiskAt w D st) (hpl : st.pend.length ≤ 9000000000000) (hl : zs.length ≤ 20000000000000) (hz : IIn w a zs) :
    Calls Tryz.prog 23 #[pt D.p, .slice a zs.length cap] w fun e w' => e = .returned (.tuple #[]) ∧ ∃ D', DiskAt w' D' (st.crash zs) ∧ Stp w D w' D' := by
  have c3 := h.c3
  have c4 := h.c4
  have H : Hid (DiskAt w D st) := ⟨h⟩
  clear h
  by_cases hc : (st.off && !st.opn) = true
  · have e1 : st.crash zs = st := by unfold St.crash; rw [if_pos hc]
    rw [e1]
    have h2 : st.off = true ∧ st.opn = false := by simpa using hc
    rw [h2.1] at c3
    rw [h2.2] at c4
    clear hc h2 e1
    go_enter Tryz.func23, Tryz.ntmps23
    go_wp2
    all_goals (first | go_end0 | refine bodyPost_ret (results_none rfl _ _ _) rfl ?_)
    exact ⟨rfl, D, H.out, Stp.refl _ _⟩
  · have e1 : st.crash zs = { st.settle zs with off := true } := by unfold St.crash; rw [if_neg hc]
    rw [e1]
    have fin : ∀ w1 D1, DiskAt w1 D1 (st.settle zs) → Stp w D w1 D1 → ∃ D', DiskAt (w1.setCell ⟨D1.p, 3, none⟩ (.bool true)) D' { st.settle zs with off := true } ∧ Stp w D (w1.setCell ⟨D1.p, 3, none⟩ (.bool true)) D' := fun w1 D1 h1 s1 => ⟨D1, h1.setOff true, s1.set 3 _⟩
    have HF : Hid (∀ w1 D1, DiskAt w1 D1 (st.settle zs) → Stp w D w1 D1 → ∃ D', DiskAt (w1.setCell ⟨D1.p, 3, none⟩ (.bool true)) D' { st.settle zs with off := true } ∧ Stp w D (w1.setCell ⟨D1.p, 3, none⟩ (.bool true)) D') := ⟨fin⟩
    clear fin e1
    have C : Hid (w.cell? ⟨D.p, 3, none⟩ = some (.bool st.off) ∧ w.cell? ⟨D.p, 4, none⟩ = some (.bool st.opn)) := ⟨c3, c4⟩
    clear c3 c4
    have hrest : ∀ (o q : Bool), (o && !q) = false → w.cell? ⟨D.p, 3, none⟩ = some (.bool o) → w.cell? ⟨D.p, 4, none⟩ = some (.bool q) → Calls Tryz.prog 23 #[pt D.p, .slice a zs.length cap] w fun e w' => e = .returned (.tuple #[]) ∧ ∃ D', DiskAt w' D' { st.settle zs with off := true } ∧ Stp w D w' D' := by
      intro o q hoq c3 c4
      cases o with
      | false =>
        go_enter Tryz.func23, Tryz.ntmps23
        go_wp2_with fail
        refine (settle_any D st a cap zs _ H.out hpl hl hz).mono ?_
        rintro e w1 ⟨rfl, D1, d1, s1⟩
        have c31 := d1.c3
        have f31 := d1.raw.frozen 3
        rw [s1.p] at c31 f31
        have F1 := HF.out w1 D1 d1 s1
        rw [s1.p] at F1
        have G : Hid (∃ D', DiskAt (w1.setCell ⟨D.p, 3, none⟩ (.bool true)) D' { st.settle zs with off := true } ∧ Stp w D (w1.setCell ⟨D.p, 3, none⟩ (.bool true)) D') := ⟨F1⟩
        clear F1 d1 s1
        dsimp only
        go_wp2
        all_goals (first | go_end0 | refine bodyPost_ret (results_none rfl _ _ _) rfl ?_)
        exact ⟨rfl, G.out⟩
      | true =>
        have hq : q = true := by simpa using hoq
        subst hq
        go_enter Tryz.func23, Tryz.ntmps23
        go_wp2_with fail
        refine (settle_any D st a cap zs _ H.out hpl hl hz).mono ?_
        rintro e w1 ⟨rfl, D1, d1, s1⟩
        have c31 := d1.c3
        have f31 := d1.raw.frozen 3
        rw [s1.p] at c31 f31
        have F1 := HF.out w1 D1 d1 s1
        rw [s1.p] at F1
        have G : Hid (∃ D', DiskAt (w1.setCell ⟨D.p, 3, none⟩ (.bool true)) D' { st.settle zs with off := true } ∧ Stp w D (w1.setCell ⟨D.p, 3, none⟩ (.bool true)) D') := ⟨F1⟩
        clear F1 d1 s1
        dsimp only
        go_wp2
        all_goals (first | go_end0 | refine bodyPost_ret (results_none rfl _ _ _) rfl ?_)
        exact ⟨rfl, G.out⟩
    exact hrest st.off st.opn (by simpa using hc) C.out.1 C.out.2
theorem on_any (D : Dk) (st : St) (w : World) (h : DiskAt w D st) (hpl : st.pend.length ≤ 9000000000000) :
    Calls Tryz.prog 24 #[pt D.p] w fun e w' => e = .returned (.tuple #[]) ∧ ∃ D', DiskAt w' D' st.on ∧ Stp w D w' D' := by
  have c3 := h.c3
  have c4 := h.c4
  have f3 := h.raw.frozen 3
  have H : Hid (DiskAt w D st) := ⟨h⟩
  clear h
  cases ho : st.opn with
  | false =>
    have e1 : st.on = { st with off := false } := by unfold St.on; rw [if_neg (by rw [ho]; simp)]
    have G : Hid (DiskAt (w.setCell ⟨D.p, 3, none⟩ (.bool false)) D { st with off := false }) := ⟨H.out.setOff false⟩
    rw [e1]
    rw [ho] at c4
    clear e1 ho
    go_enter Tryz.func24, Tryz.ntmps24
    go_wp2
    all_goals (first | go_end0 | refine bodyPost_ret (results_none rfl _ _ _) rfl ?_)
    exact ⟨rfl, D, G.out, (Stp.refl _ _).set 3 _⟩
  | true =>
    have e1 : st.on = { st.settle [] with off := false } := by unfold St.on; rw [if_pos ho]
    rw [e1]
    rw [ho] at c4
    clear e1 ho
    go_enter Tryz.func24, Tryz.ntmps24
    go_wp2_with fail
    refine (settle_any D st none 0 [] _ H.out hpl (by simp) (IIn.nil _ _)).mono ?_
    rintro e w1 ⟨rfl, D1, d1, s1⟩
    have c31 := d1.c3
    have f31 := d1.raw.frozen 3
    have G : Hid (∃ D', DiskAt (w1.setCell ⟨D1.p, 3, none⟩ (.bool false)) D' { st.settle [] with off := false } ∧ Stp w D (w1.setCell ⟨D1.p, 3, none⟩ (.bool false)) D') := ⟨D1, d1.setOff false, s1.set 3 _⟩
    rw [s1.p] at c31 f31 G
    clear d1 s1
    dsimp only
    go_wp2
    all_goals (first | go_end0 | refine bodyPost_ret (results_none rfl _ _ _) rfl ?_)
    exact ⟨rfl, G.out⟩
section
variable {w0 w w' : World} {Ls : List (Th → Prop)} {p : Nat} {st : St}
theorem crash_env (h : EnvP w0 w Ls) (i : Nat) (hi : Ls[i]? = some (dk p st)) (a : Option Addr) (cap : Nat) (zs : List Int) (hp : st.pend.length ≤ 9000000000000) (hl : zs.length ≤ 20000000000000) (hz : IIn w a zs) :
    Calls Tryz.prog 23 #[pt p, .slice a zs.length cap] w fun e w' => e = .returned (.tuple #[]) ∧ EnvP w0 w' (Ls.set i (dk p (st.crash zs))) := by
  obtain ⟨D, rfl, d, _, hn⟩ := h.disk i hi
  refine (crash_any D st a cap zs w d hp hl hz).mono ?_
  rintro e w' ⟨rfl, D', d', s⟩
  exact ⟨rfl, hn _ _ _ d' s⟩
theorem on_env (h : EnvP w0 w Ls) (i : Nat) (hi : Ls[i]? = some (dk p st)) (hp : st.pend.length ≤ 9000000000000) :
    Calls Tryz.prog 24 #[pt p] w fun e w' => e = .returned (.tuple #[]) ∧ EnvP w0 w' (Ls.set i (dk p st.on)) := by
  obtain ⟨D, rfl, d, _, hn⟩ := h.disk i hi
  refine (on_any D st w d hp).mono ?_
  rintro e w' ⟨rfl, D', d', s⟩
  exact ⟨rfl, hn _ _ _ d' s⟩
end
end Go.Proofs.YtghdgddpdamhcaaGreat

/- SpaceCrashes: the walk. -/
namespace Go.Proofs.YtghdgddpdamhcaaGreat
set_option linter.unusedVariables false
set_option linter.unusedSimpArgs false
open Go.RowKit Go.Maps
attribute [local go_sem ↓] slIe
theorem crash_few (st : St) (zs : List Int) (h : st.pend.length ≤ 300) : (st.crash zs).pend.length ≤ 9000000000000 := by
  unfold St.crash
  split
  · omega
  · simp [St.settle]
set_option maxRecDepth 1000000 in
set_option maxHeartbeats 8000000 in
theorem spaceCrashes_walk (n m back fall : Int) (zs : List Int) (za : Option Addr) (zc : Nat) (W : World) (n1 : -9223372036854775808 ≤ n) (n2 : n ≤ 9223372036854775807) (m1 : -9223372036854775808 ≤ m) (m2 : m ≤ 9223372036854775807)
    (b1 : -9223372036854775808 ≤ back) (b2 : back ≤ 9223372036854775807) (f1 : -9223372036854775808 ≤ fall) (f2 : fall ≤ 9223372036854775807) (hz : IIn W za zs) (hzl : zs.length ≤ 20000000000000) :
    Calls Tryz.prog 6 #[.int .i64 n, .int .i64 m, .int .i64 back, .int .i64 fall, .slice za zs.length zc] W fun e w' => e = .returned (.bool true) ∧ Below W.heap.size W w' := by
  have qH := head_any W
  have hk1 := lst_lt n 30 (by omega)
  have hk2 := lst_lt m 30 (by omega)
  have hkf := lst_lt fall 30 (by omega)
  have qN := fun w => least_any n 30 w (by omega) (by omega) n1 n2
  have qM := fun w => least_any m 30 w (by omega) (by omega) m1 m2
  have qF := fun w => least_any fall 30 w (by omega) (by omega) f1 f2
  generalize lst n 30 = k1 at *
  generalize lst m 30 = k2 at *
  generalize lst fall 30 = kf at *
  go_enter Tryz.func6, Tryz.ntmps6
  go_wp2_with fail
  refine qH.mono ?_
  rintro e w1 ⟨rfl, b1'⟩
  have HB1 : Hid (Below W.heap.size W w1) := ⟨b1'⟩
  have qB : Calls Tryz.prog 10 #[.int .i64 100, .int .i64 1] w1 _ := begun_w (EnvP.nil w1) 100 1 (by omega) (by omega) (by omega)
  clear qH b1'
  dsimp only
  go_wp2_with fail
  refine qB.mono ?_
  rintro e w2 ⟨q, p, x, sb, rfl, h2⟩
  have H2 := Hid.mk h2
  clear qB h2
  dsimp only
  go_wp2_with fail
  refine (qN w2).mono ?_
  rintro e w3 ⟨rfl, rfl⟩
  dsimp only
  go_wp2_with fail
  with_reducible refine Calls.mono (H2.out.alloc1 k1 (by omega)) ?_
  rintro e w4 ⟨aa, ca, Xa, hca, hcm, rfl, har, h4⟩
  have HAR := Hid.mk har
  have H4 := Hid.mk h4
  have hB0 : (List.replicate (100 - 24) (fl 0)).length = 76 := by simp
  generalize List.replicate (100 - 24) (fl 0) = B0 at *
  have hl0 : (lay B0 [(1, tk 2 76 k1)]).getD 1 ByteArray.empty = tk 2 76 k1 := lay_one (by omega)
  have HL0 := Hid.mk hl0
  clear h4 har H2 hB0 hl0 qN
  dsimp only
  go_wp2_with fail
  with_reducible refine Calls.mono H4.out.commit1 ?_
  rintro e w5 ⟨rfl, st5, h5, ok5, fa5⟩
  have H5 := Hid.mk h5
  have OK5 := Hid.mk (And.intro ok5 fa5)
  generalize lay B0 [(1, tk 2 76 k1)] = B1 at *
  clear h5 ok5 fa5 H4
  dsimp only
  have HBL : Hid (∀ q w5 d st rest, EnvP w1 w5 (lg q p 24 d :: dk p st :: rest) → st.safe.length = 100 → Calls Tryz.prog 11 #[pt q] w5 fun e w' => e = .returned (.int .i64 76) ∧ EnvP w1 w' (lg q p 24 d :: dk p st :: rest)) := ⟨fun q w5 d st rest h hl => by
    have := blocks_env h (by rw [hl]; omega)
    rw [hl] at this
    refine this.mono ?_
    rintro e w' ⟨rfl, k, rfl⟩
    exact ⟨rfl, h.drewN k⟩⟩
  go_wp2_with fail
  with_reducible refine Calls.mono (HBL.out q w5 false st5 _ H5.out OK5.out.1.len) ?_
  rintro e w6 ⟨rfl, h6⟩
  have H6 := Hid.mk h6
  clear h6 H5
  dsimp only
  go_wp2_with fail
  with_reducible refine Calls.mono (begin_s H6.out OK5.out (by omega)) ?_
  rintro e w7 ⟨x2, rfl, h7⟩
  have q7 : Calls Tryz.prog 20 #[pt x2, .int .i64 1] w7 _ := h7.at 1 (by omega)
  clear h7 H6
  dsimp only
  go_wp2_with fail
  refine q7.mono ?_
  rintro e w8 (⟨hx, _⟩ | ⟨_, sb2, rfl, h8⟩)
  · omega
  have H8 := Hid.mk h8
  clear h8 q7 OK5
  dsimp only
  have qs1 := said_ss H8.out
  rw [cur_nil, HL0.out] at qs1
  have hk3 := lst_lt back (k1 + 1) (by omega)
  have qB3 : ∀ w, Calls Tryz.prog 9 #[.int .i64 back, .int .i64 ((k1 : Int) + 1)] w fun e w'' => e = .returned (.int .i64 ((lst back (k1 + 1) : Nat) : Int)) ∧ w'' = w := fun w => by
    have := least_any back (k1 + 1) w (by omega) (by omega) b1 b2
    rw [show ((k1 + 1 : Nat) : Int) = (k1 : Int) + 1 by omega] at this
    exact this
  generalize lst back (k1 + 1) = k3 at *
  have hsl := run_slI aa k1 ca k3 (by omega) hcm (fun h => by rcases HAR.out with ⟨_, _, e, _⟩ | ⟨ga, e, _⟩; exact e; rw [e] at h; cases h)
  obtain ⟨S1, hS1⟩ : ∃ S1, S1 = sdT (tk 2 76 k1) := ⟨_, rfl⟩
  rw [← hS1] at qs1
  have HS1 := Hid.mk hS1
  clear hS1 H8
  go_wp2_with fail
  with_reducible refine Calls.mono qs1 ?_
  rintro e w9 ⟨rfl, h9⟩
  have H9 := Hid.mk h9
  clear h9 qs1
  dsimp only
  go_wp2_with fail
  refine (qM w9).mono ?_
  rintro e w10 ⟨rfl, rfl⟩
  dsimp only
  go_wp2_with fail
  with_reducible refine Calls.mono (H9.out.alloc2 k1 k2 HL0.out (by omega)) ?_
  rintro e w11 ⟨a2, c2, W2, rfl, hw2, h11⟩
  have H11 := Hid.mk h11
  have HW2 := Hid.mk hw2
  clear h11 hw2 H9 qM
  dsimp only
  go_wp2_with fail
  with_reducible refine Calls.mono (qB3 w11) ?_
  rintro e w12 ⟨rfl, rfl⟩
  dsimp only
  go_wp2_with fail
  with_reducible refine Calls.mono (H11.out.free2 k1 (k1 + k2) k3 HW2.out HL0.out (by omega) (by omega) (by omega) HAR.out (fun r hr => by simp [hr])) ?_
  rintro e w13 ⟨rfl, W3, T3, hw3, h13⟩
  have e3 := wt_cur hw3 HL0.out
  have qs3 := said_ss h13
  have s3 := h13.curSz 1 (by omega)
  rw [e3] at qs3 s3
  obtain ⟨S3, hS3⟩ : ∃ S3, S3 = sdT T3 := ⟨_, rfl⟩
  rw [← hS3] at qs3
  have HS3 := Hid.mk hS3
  have HW3 := Hid.mk hw3
  have HZ3 := Hid.mk s3
  clear h13 hw3 e3 s3 hS3 H11 HW2 qB3 hsl
  dsimp only
  go_wp2_with fail
  with_reducible refine Calls.mono qs3 ?_
  rintro e w14 ⟨rfl, st14, E14, ⟨ok14, _⟩, _⟩
  have H14 := Hid.mk E14
  have OK14 := Hid.mk (ok14.fallTo (kf : Int) (by omega))
  clear E14 ok14 qs3
  dsimp only
  go_wp2_with fail
  refine (qF w14).mono ?_
  rintro e w15 ⟨rfl, rfl⟩
  clear qF
  dsimp only
  go_wp2_with fail
  with_reducible refine Calls.mono (fall_env H14.out 1 rfl (kf : Int) (by omega)) ?_
  rintro e w16 ⟨rfl, h16⟩
  have qc : Calls Tryz.prog 18 #[pt x2] w16 fun e w' => CA w1 w' q p x2 (tk 2 76 k1) T3 _ e := commit_any h16 OK14.out HL0.out HZ3.out HW3.out
  have QC := Hid.mk qc
  clear h16 H14 qc
  dsimp only
  go_wp2_with fail
  with_reducible refine Calls.mono QC.out ?_
  rintro e w17 ⟨g, d, st17, rfl, hg, h17, hp17, hb17⟩
  have H17 := Hid.mk h17
  have HP17 := Hid.mk hp17
  have IZ : Hid (IIn w17 za zs) := ⟨hz.below (HB1.out.trans (h17.bel.mono HB1.out.size)) (fun _ _ _ hb => hb)⟩
  obtain ⟨B4, hbk, hT4⟩ := hb17 zs
  have HBK := Hid.mk hbk
  have HT4 := Hid.mk hT4
  clear h17 hp17 hb17 hbk hT4 QC OK14 HW3 HZ3
  dsimp only
  rcases hg with rfl | rfl
  all_goals
    go_wp2_with fail
    with_reducible refine Calls.mono (crash_env H17.out 1 rfl za zc zs (Nat.le_trans HP17.out (by omega)) hzl IZ.out) ?_
    rintro e w18 ⟨rfl, h18⟩
    have H18 := Hid.mk h18
    clear h18
    dsimp only
    go_wp2_with fail
    with_reducible refine Calls.mono (on_env H18.out 1 rfl (crash_few _ _ HP17.out)) ?_
    rintro e w19 ⟨rfl, h19⟩
    have H19 := Hid.mk h19
    clear h19
    dsimp only
    go_wp2_with fail
    with_reducible refine Calls.mono (open_rec (s := 24) H19.out.tail HBK.out.off HBK.out.opn HBK.out.pend (by omega) HBK.out.len (by omega) HBK.out.may) ?_
    rintro e w20 (⟨q2, st20, rfl, h20, ok20, fa20⟩ | ⟨st20, _, _, _, hx⟩)
    · have H20 := Hid.mk h20
      have OK20 := Hid.mk (And.intro ok20 (fa20 HBK.out.fall))
      clear h20 ok20 fa20
      dsimp only
      go_wp2_with fail
      with_reducible refine Calls.mono (HBL.out q2 w20 false st20 _ H20.out OK20.out.1.len) ?_
      rintro e w21 ⟨rfl, h21⟩
      have H21 := Hid.mk h21
      clear h21
      dsimp only
      go_wp2_with fail
      with_reducible refine Calls.mono (begin_s H21.out OK20.out (by omega)) ?_
      rintro e w22 ⟨x3, rfl, h22⟩
      have q22 : Calls Tryz.prog 20 #[pt x3, .int .i64 1] w22 _ := h22.at 1 (by omega)
      clear h22
      dsimp only
      go_wp2_with fail
      refine q22.mono ?_
      rintro e w23 (⟨hx, _⟩ | ⟨_, sb3, rfl, h23⟩)
      · omega
      have qs := said_ss h23
      rw [cur_nil] at qs
      clear h23 q22
      dsimp only
      go_wp2_with fail
      with_reducible refine Calls.mono qs ?_
      rintro e w24 ⟨rfl, h24⟩
      have HB24 : Hid (Below W.heap.size W w24) := ⟨HB1.out.trans (h24.bel.mono HB1.out.size)⟩
      clear h24 qs
      dsimp only
      rcases HT4.out with e4 | ⟨e9, e4⟩
      · rw [e4, ← HS3.out]
        go_wp2_with fail
        go_ret
        exact ⟨rfl, HB24.out⟩
      · first
          | (cases e9; done)
          | (rw [e4, ← HS1.out]
             go_wp2_with fail
             all_goals
               go_ret
               exact ⟨rfl, HB24.out⟩)
    · exact absurd HBK.out.fall hx
end Go.Proofs.YtghdgddpdamhcaaGreat
