/- The keeper plays a step. -/
import Derived.Test.YtmcdohpeibipkaaKco
import Derived.Test.YtmcdohpeibipkaaOpn
namespace Go.Proofs.Ytmcdohpeibipkaa
set_option linter.unusedVariables false
set_option linter.unusedSimpArgs false
open Go.RowKit
theorem EnvP.back {w0 w : World} {Ls : List (Th → Prop)} {x : Th → Prop} (h : EnvP w0 w (x :: Ls)) : EnvP w0 w (Ls ++ [x]) := by
  refine h.remap (fun i => if i < Ls.length then i + 1 else 0) ?_ ?_
  · intro i s hi
    by_cases hl : i < Ls.length
    · rw [List.getElem?_append_left hl] at hi; rw [if_pos hl]; exact hi
    · rw [List.getElem?_append_right (by omega)] at hi
      rw [if_neg hl]
      have : i - Ls.length = 0 := by
        by_cases h0 : i - Ls.length = 0
        · exact h0
        · rw [List.getElem?_eq_none (by simp; omega)] at hi; cases hi
      rw [this] at hi; exact hi
  · intro i j hi hj e
    simp at hi hj
    split at e <;> split at e <;> omega
abbrev ov (kd : Int) (la : Option Addr) (ll lc : Nat) (n : Int) (ka : Option Addr) (kl kc : Nat) : Array Value := #[.int .i64 kd, .slice la ll lc, .int .i64 n, .slice ka kl kc]
theorem bxc {w0 w : World} {b kp p r : Nat} {st : St} {L M : Value} {rest : List (Th → Prop)} {kd : Int} {la : Option Addr} {ll lc : Nat} {n : Int} {ka : Option Addr} {kl kc : Nat} (h : EnvP w0 w (ob b (ov kd la ll lc n ka kl kc) 67 :: dk p st :: kpo kp p r L M :: rest)) : w.cell? ⟨kp, 0, none⟩ = some (pt p) ∧ w.cell? ⟨b, 2, none⟩ = some (.int .i64 n) :=
  ⟨h.cell 2 rfl 0, h.cell 0 rfl 2⟩
theorem bxk {w0 w : World} {b : Nat} {rest : List (Th → Prop)} {kd : Int} {la : Option Addr} {ll lc : Nat} {n : Int} {ka : Option Addr} {kl kc : Nat} (h : EnvP w0 w (ob b (ov kd la ll lc n ka kl kc) 67 :: rest)) : w.cell? ⟨b, 3, none⟩ = some (.slice ka kl kc) := h.cell 0 rfl 3
set_option maxRecDepth 100000 in
theorem plays_fall {w0 w : World} {rest : List (Th → Prop)} {kp p r : Nat} {st : St} {L M : Value} (h : EnvP w0 w (dk p st :: kpo kp p r L M :: rest)) (n : Int) (la : Option Addr) (ll lc : Nat) (ka : Option Addr) (kl kc : Nat) (hn : n ≤ 9223372036854775807) :
    Calls Try.prog 28 #[pt kp, .agg (ov 3 la ll lc n ka kl kc)] w fun e w' => e = .returned (.bool true) ∧ EnvP w0 w' (dk p (st.fallTo n) :: kpo kp p r L M :: rest) := by
  have E1 : Hid (EnvP w0 (w.alloc (.cells (ov 3 la ll lc n ka kl kc) 67)) (ob w.heap.size (ov 3 la ll lc n ka kl kc) 67 :: dk p st :: kpo kp p r L M :: rest)) := ⟨(h.alloc _ _).front⟩
  have qF : Hid (∀ {w5 : World}, EnvP w0 w5 (ob w.heap.size (ov 3 la ll lc n ka kl kc) 67 :: dk p st :: kpo kp p r L M :: rest) → Calls Try.prog 29 #[pt p, .int .i64 n] w5 fun e w' => e = .returned (.tuple #[]) ∧ EnvP w0 w' (ob w.heap.size (ov 3 la ll lc n ka kl kc) 67 :: dk p (st.fallTo n) :: kpo kp p r L M :: rest)) := ⟨fun h5 => fall_env h5 1 rfl n hn⟩
  clear h hn
  go_enter Try.func28, Try.ntmps28
  go_wp2_with fail
  have E6 := E1.out.drew
  have S6 := bxc E6
  clear E1
  go_region_held3 (fun w' => w'.cell? ⟨kp, 0, none⟩ = some (pt p) ∧ w'.cell? ⟨w.heap.size, 2, none⟩ = some (.int .i64 n)) (first | exact S6 | exact bxc E7 | assumption)
    ((go_at_call 29; refine (qF.out (by assumption)).mono ?_; rintro e w7 ⟨rfl, E7⟩))
  have H1 : Hid (EnvP w0 w7 (dk p (st.fallTo n) :: kpo kp p r L M :: rest)) := ⟨E7.tail⟩
  clear E7 E6 S6 qF
  go_wp2
  go_ret
  exact ⟨rfl, H1.out⟩
theorem ints_iin2 {w : World} {v : Value} {zs : List Int} (h : w.ownsRow 0 3 1 v zs.length (intv zs)) (hb : ∀ k, v.ownBlock = some k → k < w.heap.size) (hz : ∀ z ∈ zs, -9223372036854775808 ≤ z ∧ z ≤ 9223372036854775807) : ∃ a c, v = .slice a zs.length c ∧ IIn w a zs := by
  obtain ⟨a, c, hv, hc⟩ := own_ints h
  refine ⟨a, c, hv, ⟨fun k z hk => ?_⟩⟩
  obtain ⟨b, e, hcell⟩ := hc k z hk
  subst e
  exact ⟨b, 0, rfl, hb b (by rw [hv]; rfl), by rw [Nat.zero_add]; exact hcell, hz z (List.mem_of_getElem? hk)⟩
theorem intv_one (zs : List Int) : ∀ u ∈ intv zs, u.oneCell' = true := fun u hu => by obtain ⟨_, _, rfl⟩ := List.mem_map.1 hu; rfl
theorem IIn.cells {w : World} {b : Addr} {zs : List Int} (h : IIn w (some b) zs) : ∀ j u, (intv zs)[j]? = some u → w.cell? (b.add j) = some u := fun j u hj => by
  unfold intv at hj
  rw [List.getElem?_map] at hj
  cases hz : zs[j]? with
  | none => rw [hz] at hj; simp at hj
  | some z =>
    rw [hz] at hj
    obtain ⟨c, off, e, _, hc, _⟩ := h.get j z hz
    injection e with e
    subst e
    have hadd : (⟨c, off, none⟩ : Addr).add j = ⟨c, off + j, none⟩ := by unfold Addr.add; split <;> simp_all
    rw [hadd, hc]
    simpa using hj
/-- the kept numbers taken over -/
theorem step_kept {ops : Array Oper} {o : Oper} {a : Act} {K : Act → World → Prop} {Q : Exit → Act → World → Prop} {E : Prop} {w : World} {ka : Option Addr} {kc : Nat} {zs : List Int}
    (hz : IIn w ka zs) (hn : ka = none → zs = []) (hl : zs.length ≤ 20000000000000) (hc : ka = none → kc = 0)
    (hgd : o.guard = none) (s x : Operand) (ho : o.op = .call { callee := .builtin .append, args := #[s, x], argTypes := #[65, 65] })
    (hs : a.eval s = .slice none 0 0) (hx : a.eval x = .slice ka zs.length kc)
    (h : ∀ za zc w', IIn w' za zs → Below w.heap.size w w' → K (a.put o.dst (.slice za zs.length zc)) w') :
    if Region.wanted o (yielded ops a.tmps) = true then Oper.wp Try.prog o a w K Q else E := by
  obtain ⟨i0, hi0, hz0, hz1, hz2⟩ := info_parts infoIf
  have hm : maxLen = 9223372036854775807 := rfl
  rw [if_pos (by simp [Region.wanted, hgd])]
  cases ka with
  | none =>
    obtain rfl := hn rfl
    obtain rfl := hc rfl
    have hr := fun ty => run_append_owned_none (P := Try.prog) w 0 65 ty 3 i0 1 Try.underlying65 hi0 _ 0 [] (World.ownsRow_nil w 0 3 1)
    unfold Oper.wp execOp
    simp only [ho, resolve, invoke, builtin, Sem.run_bind, Sem.run_pure, Result.andThen_ok, List.map_toArray, List.map_cons, List.map_nil, hs, hx, List.length_nil, hr]
    exact h none 0 _ (IIn.nil _ _) (Below.refl _ _)
  | some b =>
    obtain ⟨v', w', hr, q1, q2, q3, q4⟩ := run_append_at (P := Try.prog) w 0 65 o.type 3 i0 _ 1 8 Try.underlying65 hi0 hz0 hz1 hz2 rfl (by omega) (.slice none 0 0) 0 [] (World.ownsRow_nil _ _ _ _) b zs.length kc (intv zs) (by simp [intv]) (IIn.cells hz) (intv_one zs) (by rw [hm]; omega) (by omega) (Nat.zero_le _)
    rw [Nat.zero_add, List.nil_append] at q1
    unfold Oper.wp execOp
    simp only [ho, resolve, invoke, builtin, Sem.run_bind, Sem.run_pure, Result.andThen_ok, List.map_toArray, List.map_cons, List.map_nil, hs, hx, hr]
    obtain ⟨za, zc, rfl, iz⟩ := ints_iin2 q1 (fun k hk => (q1.lt k hk).2) (fun z hz' => by
      obtain ⟨k, hk⟩ := List.getElem?_of_mem hz'
      obtain ⟨_, _, _, _, _, h1, h2⟩ := hz.get k z hk
      exact ⟨h1, h2⟩)
    exact h za zc w' iz ((Below.refl _ _).grown q2 (Nat.le_refl _) (fun k hk => by cases hk))
/-- alive or dead -/
def KS (w0 w : World) (kp p r s n : Nat) : Prop := (∃ q st B, Alive w0 w kp p r s n q st B) ∨ (∃ st B M Mx, Dead w0 w kp p r s n st B M Mx)
abbrev K5 (kp p r s n gB cB : Nat) (st : St) (B : List ByteArray) (L M : Value) (Mx : List ByteArray) : List (Th → Prop) := [dk p st, kpo kp p r L M, rfo r s (rw_ gB (n - s) cB), rowS (rw_ gB (n - s) cB) B, rowS M Mx]
/-- the power may go -/
structure KG (s n : Nat) (st : St) (B : List ByteArray) (M : Value) (Mx : List ByteArray) : Prop where
  bl : B.length = n - s
  mb : MayB n s M Mx
  few : st.pend.length ≤ 300
  bk : ∀ kept, Back (st.crash kept).on n (fun L => RecL NN L s B ∨ (M ≠ nilv ∧ RecL NN L s Mx))
theorem OKst.kg {s n : Nat} {st : St} {B : List ByteArray} (h : OKst NN st n s B) : KG s n st B nilv [] :=
  ⟨h.blen, .inl ⟨rfl, rfl⟩, by rw [h.pend]; simp, fun kept => by
    have b := (h.back kept).1.toBack (h.back kept).2
    exact ⟨b.wf, b.off, b.opn, b.pend, b.fall, b.len, .inl b.may⟩⟩
theorem KS.of {w0 w : World} {kp p r s n : Nat} {B M Mx G} (h : (∃ q st', Alive w0 w kp p r s n q st' G) ∨ (∃ st', Dead w0 w kp p r s n st' B M Mx)) : KS w0 w kp p r s n := by
  rcases h with ⟨q, st, h⟩ | ⟨st, h⟩
  · exact .inl ⟨q, st, G, h⟩
  · exact .inr ⟨st, B, M, Mx, h⟩
set_option maxHeartbeats 4000000 in
set_option maxRecDepth 100000 in
theorem plays_crash {w0 w : World} {kp p r s n gB cB : Nat} {st : St} {B Mx : List ByteArray} {L M : Value} (h : EnvP w0 w (K5 kp p r s n gB cB st B L M Mx)) (g : KG s n st B M Mx) (h4 : 4 ≤ s) (hs : s < n) (N : Int) (la : Option Addr) (ll lc : Nat) (ka : Option Addr) (kc : Nat) (zs : List Int) (hn : N ≤ 9223372036854775807) (hl : zs.length ≤ 20000000000000) (hz : IIn w0 ka zs) (hc : ka = none → kc = 0) :
    Calls Try.prog 28 #[pt kp, .agg (ov 4 la ll lc N ka zs.length kc)] w fun e w' => e = .returned (.bool true) ∧ KS w0 w' kp p r s n := by
  have E1 : Hid (EnvP w0 (w.alloc (.cells (ov 4 la ll lc N ka zs.length kc) 67)) (ob w.heap.size (ov 4 la ll lc N ka zs.length kc) 67 :: K5 kp p r s n gB cB st B L M Mx)) := ⟨(h.alloc _ _).front⟩
  have hn0 : ka = none → zs = [] := fun e => by
    cases zs with
    | nil => rfl
    | cons z r => obtain ⟨b, off, e2, _⟩ := hz.get 0 z rfl; rw [e] at e2; cases e2
  have KPT : Hid (∀ {w' : World} {L : List (Th → Prop)}, EnvP w0 w' L → IIn w' ka zs) := ⟨fun hE => hz.later hE.bel⟩
  have HC : Hid ((ka = none → zs = []) ∧ zs.length ≤ 20000000000000 ∧ (ka = none → kc = 0)) := ⟨hn0, hl, hc⟩
  have qC : Hid (∀ {w5 : World} {za : Option Addr} {zc : Nat}, EnvP w0 w5 (ob w.heap.size (ov 4 la ll lc N ka zs.length kc) 67 :: K5 kp p r s n gB cB st B L M Mx) → IIn w5 za zs → Calls Try.prog 13 #[pt p, .slice za zs.length zc] w5 fun e w' => e = .returned (.tuple #[]) ∧ EnvP w0 w' (ob w.heap.size (ov 4 la ll lc N ka zs.length kc) 67 :: K5 kp p r s n gB cB (st.crash zs) B L M Mx)) := ⟨fun h5 i5 => crash_env h5 1 rfl _ _ zs (Nat.le_trans g.few (by decide)) hl i5⟩
  have HCP : Hid ((st.crash zs).pend.length ≤ 9000000000000) := ⟨crash_pend st zs g.few⟩
  have BK : Hid (Back (st.crash zs).on n (fun L => RecL NN L s B ∨ (M ≠ nilv ∧ RecL NN L s Mx))) := ⟨g.bk zs⟩
  have HB : Hid (B.length = n - s ∧ MayB n s M Mx) := ⟨g.bl, g.mb⟩
  have HN : Hid (N ≤ 9223372036854775807) := ⟨hn⟩
  clear h hn hz hc hn0 hl g
  go_enter Try.func28, Try.ntmps28
  go_wp2_with fail
  have E6 := E1.out.drew
  have S6 := And.intro (bxc E6).1 (bxk E6)
  clear E1
  go_region_held3 (fun w' => w'.cell? ⟨kp, 0, none⟩ = some (pt p) ∧ w'.cell? ⟨w.heap.size, 3, none⟩ = some (.slice ka zs.length kc)) (first | exact S6 | exact And.intro (bxc E7).1 (bxk E7) | exact And.intro (bxc E8).1 (bxk E8) | assumption)
    ((first
      | (go_at_call 13; refine (qC.out E7 i7).mono ?_; rintro e w8 ⟨rfl, E8⟩)
      | (refine step_kept (KPT.out E6) HC.out.1 HC.out.2.1 HC.out.2.2 rfl _ _ rfl rfl rfl ?_; intro za zc w7 i7 b7; have E7 := E6.below b7)))
  have E9 : Hid (EnvP w0 w8 (ob w.heap.size (ov 4 la ll lc N ka zs.length kc) 67 :: K5 kp p r s n gB cB (st.crash zs) B L M Mx)) := ⟨E8⟩
  have C9 := (bxc E8).1
  clear E8 E7 E6 S6 qC i7 b7 KPT
  go_wp2_with fail
  refine (on_env E9.out 1 rfl HCP.out).mono ?_
  rintro e w10 ⟨rfl, h10⟩
  have E10 : Hid (EnvP w0 w10 (ob w.heap.size (ov 4 la ll lc N ka zs.length kc) 67 :: K5 kp p r s n gB cB (st.crash zs).on B L M Mx)) := ⟨h10⟩
  clear h10 E9 C9 HCP
  generalize (st.crash zs).on = st2 at *
  have qF : Hid (∀ {w5 : World}, EnvP w0 w5 (ob w.heap.size (ov 4 la ll lc N ka zs.length kc) 67 :: K5 kp p r s n gB cB st2 B L M Mx) → Calls Try.prog 29 #[pt p, .int .i64 N] w5 fun e w' => e = .returned (.tuple #[]) ∧ EnvP w0 w' (ob w.heap.size (ov 4 la ll lc N ka zs.length kc) 67 :: K5 kp p r s n gB cB (st2.fallTo N) B L M Mx)) := ⟨fun h5 => fall_env h5 1 rfl N HN.out⟩
  dsimp only
  go_wp2_with fail
  have E6 := E10.out.drew
  have S6 := bxc E6
  clear E10
  go_region_held3 (fun w' => w'.cell? ⟨kp, 0, none⟩ = some (pt p) ∧ w'.cell? ⟨w.heap.size, 2, none⟩ = some (.int .i64 N)) (first | exact S6 | exact bxc E7 | assumption)
    ((go_at_call 29; refine (qF.out (by assumption)).mono ?_; rintro e w11 ⟨rfl, E7⟩))
  have E11 : Hid (EnvP w0 w11 (K5 kp p r s n gB cB (st2.fallTo N) B L M Mx)) := ⟨E7.tail⟩
  clear E7 E6 S6 qF
  obtain ⟨G, hG, hr⟩ : ∃ G, (G = B ∨ (M ≠ nilv ∧ G = Mx)) ∧ RecL NN st2.safe s G := by
    rcases BK.out.may with h | ⟨h1, h⟩
    · exact ⟨B, .inl rfl, h⟩
    · exact ⟨Mx, .inr ⟨h1, rfl⟩, h⟩
  have qO := opens_env (st := st2.fallTo N) E11.out BK.out.off BK.out.opn BK.out.pend h4 BK.out.len hs hr HB.out.1 HB.out.2 hG
  clear E11 hG hr
  go_wp2_with fail
  refine qO.mono ?_
  rintro e w12 ⟨rfl, h12⟩
  have E12 : Hid (KS w0 w12 kp p r s n) := ⟨KS.of h12⟩
  clear h12 qO
  dsimp only
  go_wp2
  go_ret
  exact ⟨rfl, E12.out⟩
/-- Open once more, the power on -/
theorem plays_open {w0 w : World} {kp p r s n q : Nat} {st : St} {B : List ByteArray} (h : Alive w0 w kp p r s n q st B) (h4 : 4 ≤ s) (hs : s < n) (N : Int) (la : Option Addr) (ll lc : Nat) (ka : Option Addr) (kl kc : Nat) :
    Calls Try.prog 28 #[pt kp, .agg (ov 5 la ll lc N ka kl kc)] w fun e w' => e = .returned (.bool true) ∧ KS w0 w' kp p r s n := by
  obtain ⟨gB, cB, h, ok⟩ := h
  have E1 : Hid (EnvP w0 (w.alloc (.cells (ov 5 la ll lc N ka kl kc) 67)) (ob w.heap.size (ov 5 la ll lc N ka kl kc) 67 :: K5 kp p r s n gB cB st B (pt q) nilv [])) := ⟨(h.tail.alloc _ _).front⟩
  have OK : Hid (OKst NN st n s B) := ⟨ok⟩
  have qO := opens_env (st := st) E1.out.tail ok.off ok.opn ok.pend h4 ok.len hs ok.recl ok.blen (.inl ⟨rfl, rfl⟩) (.inl rfl)
  have c0 := (bxc E1.out).1
  clear h ok
  go_enter Try.func28, Try.ntmps28
  go_wp2_with fail
  refine (off_env E1.out 1 rfl OK.out.off).mono ?_
  rintro e w2 ⟨rfl, rfl⟩
  dsimp only
  go_wp2_with fail
  refine qO.mono ?_
  rintro e w12 ⟨rfl, h12⟩
  have E12 : Hid (KS w0 w12 kp p r s n) := ⟨KS.of h12⟩
  clear h12 qO E1
  dsimp only
  go_wp2
  go_ret
  exact ⟨rfl, E12.out⟩
theorem bxs {w0 w : World} {b kp p r s : Nat} {st : St} {L M v : Value} {cs : Array Value} {rest : List (Th → Prop)} (h : EnvP w0 w (dk p st :: ob b cs 67 :: kpo kp p r L M :: rfo r s v :: rest)) : w.cell? ⟨kp, 0, none⟩ = some (pt p) ∧ w.cell? ⟨kp, 2, none⟩ = some (pt r) ∧ w.cell? ⟨r, 0, none⟩ = some (.int .i64 (s : Int)) :=
  ⟨h.cell 2 rfl 0, h.cell 2 rfl 2, h.cell 3 rfl 0⟩
theorem EnvP.swap {w0 w : World} {a b : Th → Prop} {rest : List (Th → Prop)} (h : EnvP w0 w (a :: b :: rest)) : EnvP w0 w (b :: a :: rest) := by
  refine h.remap (fun i => match i with | 0 => 1 | 1 => 0 | i + 2 => i + 2) ?_ ?_
  · intro i s hi
    match i with
    | 0 => exact hi
    | 1 => exact hi
    | i + 2 => exact hi
  · intro i j hi hj e
    rcases i with _ | _ | i <;> rcases j with _ | _ | j <;> simp at e ⊢ <;> omega
/-- Open once more, the power off -/
theorem plays_open_off {w0 w : World} {kp p r s n : Nat} {st : St} {B : List ByteArray} {M : Value} {Mx : List ByteArray} (h : Dead w0 w kp p r s n st B M Mx) (N : Int) (la : Option Addr) (ll lc : Nat) (ka : Option Addr) (kl kc : Nat) :
    Calls Try.prog 28 #[pt kp, .agg (ov 5 la ll lc N ka kl kc)] w fun e w' => e = .returned (.bool true) ∧ KS w0 w' kp p r s n := by
  obtain ⟨gB, cB, h, D⟩ := h
  have DD : Hid (B.length = n - s ∧ MayB n s M Mx ∧ OFFst st n (fun L => RecL NN L s B ∨ (M ≠ nilv ∧ RecL NN L s Mx))) := ⟨D⟩
  have E0 := (h.alloc (ov 5 la ll lc N ka kl kc) 67).front.swap
  have E1 : Hid (EnvP w0 (w.alloc (.cells (ov 5 la ll lc N ka kl kc) 67)) [dk p st, ob w.heap.size (ov 5 la ll lc N ka kl kc) 67, kpo kp p r (.pointer none) M, rfo r s (rw_ gB (n - s) cB), rowS (rw_ gB (n - s) cB) B, rowS M Mx]) := ⟨E0⟩
  have qO : Hid (∀ {w5 : World}, EnvP w0 w5 [dk p st, ob w.heap.size (ov 5 la ll lc N ka kl kc) 67, kpo kp p r (.pointer none) M, rfo r s (rw_ gB (n - s) cB), rowS (rw_ gB (n - s) cB) B, rowS M Mx] → Calls Try.prog 9 #[pt p, .int .i64 (s : Int)] w5 fun e w' => e = .returned (.tuple #[.pointer none, .int .i64 9]) ∧ EnvP w0 w' [dk p st, ob w.heap.size (ov 5 la ll lc N ka kl kc) 67, kpo kp p r (.pointer none) M, rfo r s (rw_ gB (n - s) cB), rowS (rw_ gB (n - s) cB) B, rowS M Mx]) := ⟨fun h5 => open_off h5 D.2.2.off (s : Int)⟩
  have hoff := D.2.2.off
  have c0 := (bxs E0).1
  clear h D E0
  go_enter Try.func28, Try.ntmps28
  go_wp2_with fail
  refine (off_env E1.out 0 rfl hoff).mono ?_
  rintro e w2 ⟨rfl, rfl⟩
  dsimp only
  go_wp2_with fail
  have E6 := E1.out.drew
  have S6 := bxs E6
  clear E1
  go_region_held3 (fun w' => w'.cell? ⟨kp, 0, none⟩ = some (pt p) ∧ w'.cell? ⟨kp, 2, none⟩ = some (pt r) ∧ w'.cell? ⟨r, 0, none⟩ = some (.int .i64 (s : Int))) (first | exact S6 | exact bxs E7 | assumption)
    ((go_at_call 9; refine (qO.out (by assumption)).mono ?_; rintro e w11 ⟨rfl, E7⟩))
  have E11 : Hid (KS w0 w11 kp p r s n) := ⟨.inr ⟨st, B, M, Mx, gB, cB, E7.swap.tail, DD.out⟩⟩
  clear E7 E6 S6 qO
  go_wp2
  go_ret
  exact ⟨rfl, E11.out⟩
end Go.Proofs.Ytmcdohpeibipkaa
