/- plays: a Crash on both. -/
import Derived.Test.YtmfjhdjphnogiaaPla
namespace Go.Proofs.Ytmfjhdjphnogiaa
set_option linter.unusedVariables false
set_option linter.unusedSimpArgs false
open Go.RowKit
def ivals (zs : List Int) : List Value := zs.map (Value.int .i64)
theorem ivals_one (zs : List Int) : ∀ u ∈ ivals zs, u.oneCell' = true := fun u hu => by obtain ⟨_, _, rfl⟩ := List.mem_map.1 hu; rfl
theorem IIn.cells {w : World} {b : Addr} {zs : List Int} (h : IIn w (some b) zs) : ∀ j u, (ivals zs)[j]? = some u → w.cell? (b.add j) = some u := fun j u hj => by
  unfold ivals at hj
  rw [List.getElem?_map] at hj
  cases hz : zs[j]? with
  | none => rw [hz] at hj; simp at hj
  | some z =>
    rw [hz] at hj
    obtain ⟨c, off, e, _, hc, _⟩ := h.get j z hz
    injection e with e
    subst e
    have hadd : (⟨c, off, none⟩ : Addr).add j = ⟨c, off + j, none⟩ := by unfold Addr.add; split <;> simp_all
    rw [hadd, hc]
    simpa using hj
/-- the kept numbers taken over -/
theorem app_kept {ops : Array Oper} {rest : List Oper} {o : Oper} {a : Act} {Q : Exit → Act → World → Prop} {w w0 : World} {ka : Option Addr} {kc : Nat} {zs : List Int} {g : Nat}
    (hw : w0 = w.alloc (.cells #[] 3)) (hg : g = w.heap.size) (hz : IIn w ka zs) (hn : ka = none → zs = []) (hl : zs.length ≤ 20000000000000)
    (hgd : o.guard = none) (s x : Operand) (ho : o.op = .call { callee := .builtin .append, args := #[s, x], argTypes := #[23, 23] })
    (hs : a.eval s = .slice (some ⟨g, 0, none⟩) 0 0) (hx : a.eval x = .slice ka zs.length kc) (hc : ka = none → kc = 0)
    (h : ∀ y cap w', w'.ownsRow 0 3 1 (rw_ y zs.length cap) zs.length (ivals zs) → Below w.heap.size w w' → w.heap.size ≤ y → wpList Try.prog ops Q rest (a.put o.dst (rw_ y zs.length cap)) w') : wpList Try.prog ops Q (o :: rest) a w0 := by
  subst hw hg
  obtain ⟨i0, hi0, hz0, hz1, hz2⟩ := info_parts infoIf
  have hm : maxLen = 9223372036854775807 := rfl
  have own0 : (w.alloc (.cells #[] 3)).ownsRow w.heap.size 3 1 (.slice (some ⟨w.heap.size, 0, none⟩) 0 0) 0 [] := World.ownsRow_made w #[] 0 (Nat.le_refl _) (Nat.zero_le _) (by simp)
  cases ka with
  | none =>
    obtain rfl := hn rfl
    obtain rfl := hc rfl
    refine wpList_plain hgd fun K hK => ?_
    have hr := fun ty => run_append_owned_none (P := Try.prog) (w.alloc (.cells #[] 3)) w.heap.size 23 ty 3 i0 1 Try.underlying23 hi0 _ 0 [] own0
    unfold Oper.wp execOp
    simp only [ho, resolve, invoke, builtin, Sem.run_bind, Sem.run_pure, Result.andThen_ok, List.map_toArray, List.map_cons, List.map_nil, hs, hx, List.length_nil, hr]
    exact hK _ _ (h w.heap.size 0 _ (own_mono own0 (Nat.zero_le _)) ((Below.refl _ _).alloc (Nat.le_refl _) _) (Nat.le_refl _))
  | some b =>
    have hz' : IIn (w.alloc (.cells #[] 3)) (some b) zs := hz.below ((Below.refl w.heap.size w).alloc (Nat.le_refl _) _) (fun _ _ _ hb => hb)
    refine wp_append_at Try.underlying23 hi0 hz0 hz1 hz2 rfl (by omega) w.heap.size own0 (news := ivals zs) (by simp [ivals]) hz'.cells (ivals_one zs) (by rw [hm]; omega) (by omega) (by simp) hgd s x ho hs hx ?_
    intro v' w' q1 q2 q3 q4
    rw [Nat.zero_add, List.nil_append] at q1
    rcases q1.2 with ⟨e1, e2⟩ | ⟨y, cap, cur, rfl, hy, _⟩
    · exact absurd (q3.1 e1).1 (by simp)
    · exact h y cap w' (own_mono q1 (Nat.zero_le _)) (((Below.refl _ w).alloc (Nat.le_refl _) _).grown q2 (by simp) (by intro k hk; simp [Value.ownBlock] at hk; omega)) hy
/-- one number more -/
theorem app_int {ops : Array Oper} {rest : List Oper} {o : Oper} {a : Act} {Q : Exit → Act → World → Prop} {w w0 : World} {v : Value} {zs : List Int} {g : Nat} {z : Int} {n : Nat}
    (hw : w0 = w.alloc (.cells #[.int .i64 z] 3)) (hg : g = w.heap.size) (hown : w.ownsRow 0 3 1 v n (ivals zs)) (hn : n ≤ 20000000000000)
    (hgd : o.guard = none) (s x : Operand) (ho : o.op = .call { callee := .builtin .append, args := #[s, x], argTypes := #[23, 23] })
    (hs : a.eval s = v) (hx : a.eval x = .slice (some ⟨g, 0, none⟩) 1 1)
    (h : ∀ y cap w', w'.ownsRow 0 3 1 (rw_ y (n + 1) cap) (n + 1) (ivals (zs ++ [z])) → w.grownBy w' v.ownBlock → (v.ownBlock = some y ∨ w.heap.size ≤ y) → wpList Try.prog ops Q rest (a.put o.dst (rw_ y (n + 1) cap)) w') : wpList Try.prog ops Q (o :: rest) a w0 := by
  subst hw hg
  obtain ⟨i0, hi0, hz0, hz1, hz2⟩ := info_parts infoIf
  have hm : maxLen = 9223372036854775807 := rfl
  refine wp_append_at Try.underlying23 hi0 hz0 hz1 hz2 rfl (by omega) 0 (hown.alloc _) (news := [.int .i64 z]) rfl
    (World.news_of_block (cs := #[.int .i64 z]) (t := 3) (fr := (0, 0)) (heap_alloc_new w _)) (by simp [Value.oneCell']) (by rw [hm]; omega) (by omega) (Nat.zero_le _) hgd s x ho hs hx ?_
  intro v' w' q1 q2 _ q4
  have q1' : w'.ownsRow 0 3 1 v' (n + 1) (ivals (zs ++ [z])) := by unfold ivals; rw [List.map_append]; exact q1
  rcases q1'.2 with ⟨_, h0⟩ | ⟨y, cap, cur, rfl, _⟩
  · simp at h0
  · exact h y cap w' q1' ((World.grownBy_alloc _ _ _).trans q2) ((q4 y rfl).imp id (fun e => by simp at e; omega))
section
variable {w0 w : World} {p q : Nat} {st : St} {rest : List (Th → Prop)}
/-- what the row holds, as a slice -/
theorem row_in {w : World} {y n cap : Nat} {zs : List Int} {z : Int} (ho : w.ownsRow 0 3 1 (rw_ y n cap) n (ivals (zs ++ [z]))) (hb : ∀ (k : Nat) z, zs[k]? = some z → -9223372036854775808 ≤ z ∧ z ≤ 9223372036854775807) : IIn w (some ⟨y, 0, none⟩) zs := ⟨fun k x hk => by
  have hl : (ivals (zs ++ [z])).length = n * 1 := ho.1
  have hkl : k < zs.length := (List.getElem?_eq_some_iff.1 hk).1
  have hl2 : zs.length + 1 = n := by simpa [ivals] using hl
  refine ⟨y, 0, rfl, (ho.lt _ rfl).2, ?_, hb k x hk⟩
  rw [ho.cellAt (0 + k) (by omega), Nat.zero_add]
  unfold ivals
  rw [List.getElem?_map, List.getElem?_append_left hkl, hk]
  rfl⟩
theorem row_last {w : World} {y n cap : Nat} {zs : List Int} {z : Int} (ho : w.ownsRow 0 3 1 (rw_ y n cap) n (ivals (zs ++ [z]))) : w.cell? ⟨y, zs.length, none⟩ = some (.int .i64 z) := by
  have hl : (ivals (zs ++ [z])).length = n * 1 := ho.1
  have hl2 : zs.length + 1 = n := by simpa [ivals] using hl
  rw [ho.cellAt zs.length (by omega)]
  unfold ivals
  simp
theorem env_row {A w2 w3 : World} {L : List (Th → Prop)} {y y2 cap cap2 : Nat} {zs : List Int} {z : Int} (H : EnvP w0 A L) (b1 : Below A.heap.size A w2) (hy : A.heap.size ≤ y) (q2 : w3.ownsRow 0 3 1 (rw_ y2 (zs.length + 1) cap2) (zs.length + 1) (ivals (zs ++ [z]))) (g2 : w2.grownBy w3 (Value.ownBlock (rw_ y zs.length cap))) (hy2 : Value.ownBlock (rw_ y zs.length cap) = some y2 ∨ w2.heap.size ≤ y2) : EnvP w0 w3 (rowI (rw_ y2 (zs.length + 1) cap2) (zs ++ [z]) :: L) := by
  refine H.rowPush (b1.grown g2 b1.size (fun k hk => by cases hk; exact hy)) ?_ ?_
  · rw [List.length_append]; exact q2
  · intro k hk
    cases hk
    rcases hy2 with h | h
    · cases h; exact hy
    · exact Nat.le_trans b1.size h
theorem EnvP.rowL {w : World} {L : List (Th → Prop)} {y cap : Nat} {zs : List Int} {z : Int} (h : EnvP w0 w (rowI (rw_ y (zs.length + 1) cap) (zs ++ [z]) :: L)) : w.ownsRow 0 3 1 (rw_ y (zs.length + 1) cap) (zs.length + 1) (ivals (zs ++ [z])) := by
  have := h.rowAt 0 rfl
  rw [List.length_append] at this
  exact this
theorem own_cap {w : World} {base : Nat} {e : TypeId} {size g n cap : Nat} {xs : List Value} (h : w.ownsRow base e size (rw_ g n cap) n xs) : n ≤ cap := by
  rcases h.2 with ⟨h1, h2⟩ | ⟨g, cap, cur, h1, _, _, h4, _⟩
  · cases h1
  · cases h1; exact h4
set_option maxRecDepth 100000 in
theorem plays_crash (h : EnvP w0 w (dk p st :: rk q st :: rest)) (n : Int) (t : ByteArray) (ev : Bool) (ka : Option Addr) (kc : Nat) (zs : List Int) (hp : st.pend.length ≤ 9000000000000) (hl : zs.length ≤ 20000000000000) (hz : IIn w0 ka zs) (hc : ka = none → kc = 0) :
    Calls Try.prog 25 #[pt p, pt q, .agg #[.int .i64 5, .int .i64 n, .string t, .bool ev, .slice ka zs.length kc]] w fun e w' => e = .returned (.bool true) ∧ EnvP w0 w' (dk p (st.crash zs) :: rk q (st.crash zs) :: rest) := by
  have E1 := (h.alloc #[.int .i64 5, .int .i64 n, .string t, .bool ev, .slice ka zs.length kc] 56).front
  have H : Hid (EnvP w0 (w.alloc (.cells #[.int .i64 5, .int .i64 n, .string t, .bool ev, .slice ka zs.length kc] 56)) (ob w.heap.size #[.int .i64 5, .int .i64 n, .string t, .bool ev, .slice ka zs.length kc] 56 :: dk p st :: rk q st :: rest)) := ⟨E1⟩
  have hn : ka = none → zs = [] := fun e => by
    cases zs with
    | nil => rfl
    | cons z r => obtain ⟨b, off, e2, _⟩ := hz.get 0 z rfl; rw [e] at e2; cases e2
  have hf : ∀ b off, ka = some ⟨b, off, none⟩ → zs ≠ [] → b < w0.heap.size := fun b off e ne => by
    cases zs with
    | nil => exact absurd rfl ne
    | cons z r => obtain ⟨b2, off2, e2, hb, _⟩ := hz.get 0 z rfl; rw [e] at e2; cases e2; exact hb
  have F : Hid (IIn w0 ka zs ∧ (∀ b off, ka = some ⟨b, off, none⟩ → zs ≠ [] → b < w0.heap.size) ∧ (ka = none → kc = 0) ∧ (ka = none → zs = [])) := ⟨hz, hf, hc, hn⟩
  have hB : ∀ (k : Nat) z, zs[k]? = some z → -9223372036854775808 ≤ z ∧ z ≤ 9223372036854775807 := fun k z hk => by
    obtain ⟨_, _, _, _, _, h1, h2⟩ := hz.get k z hk
    exact ⟨h1, h2⟩
  have HB : Hid (∀ (k : Nat) z, zs[k]? = some z → -9223372036854775808 ≤ z ∧ z ≤ 9223372036854775807) := ⟨hB⟩
  have HP : Hid (st.pend.length ≤ 9000000000000 ∧ zs.length ≤ 20000000000000) := ⟨hp, hl⟩
  have kpt : Hid (∀ {w' : World} {L : List (Th → Prop)}, EnvP w0 w' L → IIn w' ka zs) := ⟨fun hE => hz.below hE.bel (fun b off e hb => hb)⟩
  clear E1 h hz hf hc hn hB hp hl
  go_enter Try.func25, Try.ntmps25
  go_wp2_with (first
    | (at_builtin; refine app_kept (w := w.alloc (.cells #[.int .i64 5, .int .i64 n, .string t, .bool ev, .slice ka zs.length kc] 56)) rfl (by simp) (kpt.out H.out) F.out.2.2.2 HP.out.2 rfl _ _ rfl rfl rfl F.out.2.2.1 ?_; intro y cap w2 q1 b1 hy)
    | (at_builtin; refine app_int (w := w2) rfl rfl q1 HP.out.2 rfl _ _ rfl rfl rfl ?_; intro y2 cap2 w3 q2 g2 hy2; have E3 := env_row H.out b1 hy q2 g2 hy2; have hcp := own_cap q2; have c4 : w3.cell? ⟨w.heap.size, 4, none⟩ = some (.slice ka zs.length kc) := E3.cell 1 rfl 4; have hcp2 : (zs.length : Int) ≤ (cap2 : Int) := by (clear E3 c4; omega)))
  have G3 : Hid (EnvP w0 w3 (rowI (rw_ y2 (zs.length + 1) cap2) (zs ++ [-77]) :: ob w.heap.size #[.int .i64 5, .int .i64 n, .string t, .bool ev, .slice ka zs.length kc] 56 :: dk p st :: rk q st :: rest)) := ⟨E3⟩
  clear E3 q1 b1 hy q2 g2 hy2 H
  refine (crash_env G3.out 2 rfl (some ⟨y2, 0, none⟩) cap2 zs HP.out.1 HP.out.2 (row_in G3.out.rowL HB.out)).mono ?_
  rintro e w4 ⟨rfl, E4⟩
  have c44 : w4.cell? ⟨w.heap.size, 4, none⟩ = some (.slice ka zs.length kc) := E4.cell 1 rfl 4
  have G4 : Hid (EnvP w0 w4 (rowI (rw_ y2 (zs.length + 1) cap2) (zs ++ [-77]) :: ob w.heap.size #[.int .i64 5, .int .i64 n, .string t, .bool ev, .slice ka zs.length kc] 56 :: dk p (st.crash zs) :: rk q st :: rest)) := ⟨E4⟩
  clear E4 G3 c4
  dsimp only
  go_wp2_with fail
  refine (rCrash_env G4.out 3 rfl ka kc zs HP.out.1 HP.out.2 (kpt.out G4.out) F.out.2.1).mono ?_
  rintro e w5 ⟨rfl, E5⟩
  have G5 : Hid (EnvP w0 w5 (rowI (rw_ y2 (zs.length + 1) cap2) (zs ++ [-77]) :: ob w.heap.size #[.int .i64 5, .int .i64 n, .string t, .bool ev, .slice ka zs.length kc] 56 :: dk p (st.crash zs) :: rk q (st.crash zs) :: rest)) := ⟨E5⟩
  clear E5 G4 c44
  dsimp only
  go_wp2
  go_loopw [14] (fun i wr => ∃ k : Nat, k ≤ zs.length ∧ i = .int .i64 k ∧ Hid (EnvP w0 wr (rowI (rw_ y2 (zs.length + 1) cap2) (zs ++ [-77]) :: ob w.heap.size #[.int .i64 5, .int .i64 n, .string t, .bool ev, .slice ka zs.length kc] 56 :: dk p (st.crash zs) :: rk q (st.crash zs) :: rest))) (fun i _ => zs.length - (intOf i).toNat)
  case atStart => exact ⟨0, Nat.zero_le _, rfl, G5⟩
  case round =>
    obtain ⟨k, hk, rfl, R⟩ := hrel
    have c4r : wr.cell? ⟨w.heap.size, 4, none⟩ = some (.slice ka zs.length kc) := R.out.cell 1 rfl 4
    have hzl : zs.length ≤ 20000000000000 := HP.out.2
    by_cases hlt : k < zs.length
    · obtain ⟨z, hzk⟩ : ∃ z, zs[k]? = some z := ⟨_, List.getElem?_eq_getElem hlt⟩
      obtain ⟨b, off, rfl, hb, hcz, _, _⟩ := (kpt.out R.out).get k z hzk
      obtain ⟨b2, off2, e2, hb2, hcl, _, _⟩ := (row_in R.out.rowL HB.out).get k z hzk
      cases e2
      rw [Nat.zero_add] at hcl
      have hi : (k : Int) < zs.length := by omega
      have hi2 : (k : Int) < ((zs.length + 1 : Nat) : Int) := by omega
      have hw1 : wrap64 ((k : Int) + 1) = ((k + 1 : Nat) : Int) := by unfold wrap64; omega
      clear hzk hb hb2
      go_wp2
      go_quiet (fail)
      go_wp2
      go_roundw
      case rel => exact ⟨k + 1, by omega, by go_num, ⟨R.out.below ⟨rfl, rfl, rfl, Nat.le_refl _, fun _ _ => rfl⟩⟩⟩
      case measure => simp [intOf]; omega
    · have hke : k = zs.length := by omega
      subst hke
      have hi : ¬ ((zs.length : Int) < zs.length) := by omega
      have cl : wr.cell? ⟨y2, zs.length, none⟩ = some (.int .i64 (-77)) := row_last R.out.rowL
      have hi2 : (zs.length : Int) < ((zs.length + 1 : Nat) : Int) := by omega
      go_wp2
      go_ret
      exact ⟨rfl, R.out.tail.tail⟩
theorem plays_any (h : EnvP w0 w (dk p st :: rk q st :: rest)) (o : Opx) (ho : o.ok w0) (hp : st.pend.length < 9000000000000) :
    Calls Try.prog 25 #[pt p, pt q, .agg o.cells] w (Played w0 p q st rest o) := by
  obtain ⟨kd, n, t, ev, ka, kc, zs⟩ := o
  have hp' : st.pend.length ≤ 9000000000000 := by omega
  unfold Played Opx.next Opx.cells
  dsimp only
  by_cases h2 : kd = 2
  · subst h2; simp only [if_true]; exact plays_write h n t ev ka zs.length kc ho.ts hp
  · rw [if_neg h2]
    by_cases h3 : kd = 3
    · subst h3; simp only [if_true]; exact plays_flush h n t ev ka zs.length kc hp'
    · rw [if_neg h3]
      by_cases h4 : kd = 4
      · subst h4; simp only [if_true]; exact plays_fall h n t ev ka zs.length kc ho.n2
      · rw [if_neg h4]
        by_cases h5 : kd = 5
        · subst h5; simp only [if_true]; exact plays_crash h n t ev ka kc zs hp' ho.zl ho.zi ho.zc
        · rw [if_neg h5]
          by_cases h6 : kd = 6
          · subst h6; simp only [if_true]; exact plays_on h n t ev ka zs.length kc hp'
          · rw [if_neg h6]
            by_cases h1 : kd = 1
            · subst h1; exact plays_read h n t ev ka zs.length kc hp'
            · exact plays_none h kd n t ev ka zs.length kc h1 h2 h3 h4 h5 h6
theorem write_len (st : St) (n : Int) (t : ByteArray) : (st.write n t).1.pend.length ≤ st.pend.length + 1 := by
  unfold St.write
  split
  · simp
  · split
    · split
      · rw [St.went_pend]; omega
      · simp
    · simp
theorem flush_len (st : St) : st.flush.1.pend.length ≤ st.pend.length + 1 := by
  unfold St.flush
  split
  · simp
  · split
    · rw [St.went_pend]; omega
    · simp
theorem next_len (o : Opx) (st : St) : (o.next st).pend.length ≤ st.pend.length + 1 := by
  unfold Opx.next
  split
  · exact write_len _ _ _
  · split
    · exact flush_len _
    · split
      · simp [St.fallTo]
      · split
        · unfold St.crash; split <;> simp [St.settle]
        · split
          · unfold St.on; dsimp only; split <;> simp [St.settle]
          · omega
end
end Go.Proofs.Ytmfjhdjphnogiaa
