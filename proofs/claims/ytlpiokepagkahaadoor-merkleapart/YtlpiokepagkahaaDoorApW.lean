/- MerkleApart: the walk. -/
import Derived.Test.YtlpiokepagkahaaDoorAps
namespace Go.Proofs.YtlpiokepagkahaaDoor
set_option linter.unusedVariables false
set_option linter.unusedSimpArgs false
open Go.RowKit
namespace merkleApart
attribute [local go_sem ↓] Go.wp_at_zero Go.wp_at_succ
attribute [local go_sem ↓] ld23 st23 sl22 bs25
attribute [local go_sem] eqH run_bs
set_option maxHeartbeats 4000000 in
set_option maxRecDepth 8000 in
theorem walk (a : Option Addr) (n0 cap : Nat) (mk : Hs) (t : Nat → ByteArray) (w : World) (hT0 : TextsIn w a n0 t) (hz0 : ∀ k, k < n0 → (t k).size ≤ 140737488351232) (hc : n0 ≤ cap) (hK : KIn w) :
    Calls Tryd.prog 5 #[.slice a n0 cap, .agg (hv mk).toArray] w fun e w' => e = .returned (.bool true) ∧ Below w.heap.size w w' := by
  obtain ⟨n, hn⟩ : ∃ n, n = if 40 < n0 then 40 else n0 := ⟨_, rfl⟩
  have hn40 : n ≤ 40 := by rw [hn]; split <;> omega
  have hT : TextsIn w a n t := hT0.first n (by rw [hn]; split <;> omega)
  have hz : ∀ k, k < n → (t k).size < 1152921504606845000 := fun k hk => by
    have := hz0 k (by rw [hn] at hk; split at hk <;> omega); omega
  have Hn : Hid (n = if 40 < n0 then 40 else n0) := hn
  clear hn
  have ba : Below w.heap.size w (w.alloc (.cells (hv mk).toArray 23)) := (Below.refl _ _).alloc (Nat.le_refl _) _
  have S0 : SB w (w.heap.size + 1) w.heap.size mk (w.alloc (.cells (hv mk).toArray 23)) := ⟨hK.seq ba, ba, range_of_row (heap_alloc_new _ _), by omega, by omega, by simp⟩
  go_enter Tryd.func5, Tryd.ntmps5
  go_upto_if 23 with fail
  go_cut [0] (fun v wx => v = .slice a n cap ∧ wx = w.alloc (.cells (hv mk).toArray 23))
  case first =>
    by_cases h3 : 40 < n0
    · have hd : decide ((40 : Int) < (n0 : Int)) = true := by simp; omega
      obtain ⟨b, off, rfl, _, _⟩ := hT0.at (by omega)
      have s1 : ∀ w, (slT (.slice (some ⟨b, off, none⟩) n0 cap) none (some (.int .i64 40)) none).run Tryd.prog w = .ok (.slice (some ⟨b, off, none⟩) 40 cap) w := fun w => slice_to b off n0 cap 40 (by omega) w
      go_wp2_with fail
      go_meet
      exact ⟨by rw [Hn.out, if_pos h3], rfl⟩
    · have hd : decide ((40 : Int) < (n0 : Int)) = false := by simp; omega
      go_wp2_with fail
      go_meet
      exact ⟨by rw [Hn.out, if_neg h3], rfl⟩
  case rest =>
    obtain ⟨rfl, rfl⟩ := hcut
    clear ba
    generalize w.alloc (.cells (hv mk).toArray 23) = W0 at *
    obtain ⟨Mb, hMb⟩ : ∃ Mb, Mb = w.heap.size := ⟨_, rfl⟩
    obtain ⟨Bb, hBb⟩ : ∃ Bb, Bb = w.heap.size + 1 := ⟨_, rfl⟩
    rw [← hBb, ← hMb] at S0
    rw [← hMb]
    clear hMb hBb
    obtain ⟨P, hP⟩ : ∃ P : Nat → List Hs, P = fun k => pathOf n t k := ⟨_, rfl⟩
    have HP : Hid (P = fun k => pathOf n t k) := hP
    have hPl : Hid (∀ k, (P k).length ≤ 9) := fun k => by rw [hP]; exact pathOf_len n t k (by omega)
    clear hP
    obtain ⟨ti, z, e1, e2, e3, e4, e5⟩ := info23x
    obtain ⟨ri, rz, r1, r2, r3, r4, r5⟩ := info25x
    go_wp2_with fail
    go_loopw [5, 6, 7, 8] (fun va vb vw iv wr => ∃ (i : Nat) (E : Ix → Ent), i ≤ n ∧ iv = .int .i64 (i : Int) ∧ va = (E .oa).v ∧ vb = (E .ob).v ∧ vw = (E .ow).v ∧ ST w Bb Mb mk P P i E wr) (fun _ _ _ iv _ => n - (intOf iv).toNat)
    case atStart => exact ⟨0, nilE, by omega, rfl, rfl, rfl, rfl, S0.k, S0.bel, S0.rm, S0.hb, OW.start _ _, rfl, rfl, rfl, fun k hk => by omega, fun k hk => by omega, fun k hk => by omega, fun k _ => ⟨rfl, rfl, rfl⟩⟩
    case round =>
      clear S0
      obtain ⟨i, E, hin, rfl, rfl, rfl, rfl, S⟩ := hrel
      by_cases hi : i < n
      · have hd : decide ((i : Int) < (n : Int)) = true := by simp; omega
        have cP : Hid (∀ w', SB w Bb Mb mk w' → Calls Tryd.prog 9 #[.slice a n cap, .int .i64 (i : Int)] w' fun e w2 => ∃ v, e = .returned (.tuple #[v, .int .i64 0]) ∧ w2.ownsRow w'.heap.size 23 32 v (P i).length (flatL (P i)) ∧ Below w'.heap.size w' w2) := fun w' h => by
          rw [HP.out]; exact path_in cap h.k (hT.next h.bel) hz (by omega) hi
        go_wp2_with fail
        refine Calls.mono (cP.out wr S.sb) ?_
        rintro e w2 ⟨vp, rfl, ownP, b2⟩
        have B2 := S.sb.next b2
        obtain ⟨E2, hE2⟩ : ∃ E2, E2 = put E (.ia i) (hE vp (P i)) := ⟨_, rfl⟩
        have O2 : OW w2 Bb E2 := by rw [hE2]; exact S.ow.made (.ia i) _ b2 (S.fr i (Nat.le_refl _)).1 ownP S.hb.2.2
        go_wp2_with fail
        refine Calls.mono (cP.out w2 B2) ?_
        rintro e w3 ⟨vq, rfl, ownQ, b3⟩
        have B3 := B2.next b3
        obtain ⟨E3, hE3⟩ : ∃ E3, E3 = put E2 (.ib i) (hE vq (P i)) := ⟨_, rfl⟩
        have O3 : OW w3 Bb E3 := by
          rw [hE3]; exact O2.made (.ib i) _ b3 (by rw [hE2, put_other _ _ (by simp)]; exact (S.fr i (Nat.le_refl _)).2.1) ownQ B2.hb.2.2
        have ownP3 := own_next ownP b3
        obtain ⟨pa, pc, hvp, hp1, hp2, hPA, _⟩ := own_path ownP3
        obtain ⟨qa, qc, hvq, hq1, hq2, hQA, hqc⟩ := own_path ownQ
        have hlen := hPl.out i
        have hoa3 : E3 .oa = sE (E .oa).v ((List.range i).map fun k => (E (.ia k)).v) := by rw [hE3, put_other _ _ (by simp), hE2, put_other _ _ (by simp)]; exact S.oa
        have hob3 : E3 .ob = sE (E .ob).v ((List.range i).map fun k => (E (.ib k)).v) := by rw [hE3, put_other _ _ (by simp), hE2, put_other _ _ (by simp)]; exact S.ob
        have how3 : E3 .ow = sE (E .ow).v ((List.range i).map fun k => (E (.iw k)).v) := by rw [hE3, put_other _ _ (by simp), hE2, put_other _ _ (by simp)]; exact S.oW
        have hiw3 : (E3 (.iw i)).v.ownBlock = none := by rw [hE3, put_other _ _ (by simp), hE2, put_other _ _ (by simp)]; exact (S.fr i (Nat.le_refl _)).2.2
        have HE : Hid (E3 = put (put E (.ia i) (hE vp (P i))) (.ib i) (hE vq (P i))) := by rw [hE3, hE2]; rfl
        have hib3 : E3 (.ib i) = hE vq (P i) := by rw [hE3, put_same]
        clear hE2 hE3 ownP ownP3 ownQ O2 B2 b2 b3
        obtain ⟨va, hva⟩ : ∃ va, va = (E .oa).v := ⟨_, rfl⟩
        obtain ⟨vb, hvb⟩ : ∃ vb, vb = (E .ob).v := ⟨_, rfl⟩
        obtain ⟨vw, hvw⟩ : ∃ vw, vw = (E .ow).v := ⟨_, rfl⟩
        obtain ⟨xa, hxa⟩ : ∃ xa, xa = (List.range i).map fun k => (E (.ia k)).v := ⟨_, rfl⟩
        obtain ⟨xb, hxb⟩ : ∃ xb, xb = (List.range i).map fun k => (E (.ib k)).v := ⟨_, rfl⟩
        obtain ⟨xw, hxw⟩ : ∃ xw, xw = (List.range i).map fun k => (E (.iw k)).v := ⟨_, rfl⟩
        rw [← hva, ← hxa] at hoa3
        rw [← hvb, ← hxb] at hob3
        rw [← hvw, ← hxw] at how3
        rw [← hva, ← hvb, ← hvw]
        have la : xa.length = i := by rw [hxa]; simp
        have lb : xb.length = i := by rw [hxb]; simp
        have lw : xw.length = i := by rw [hxw]; simp
        have HX : Hid ((xa = (List.range i).map fun k => (E (.ia k)).v) ∧ (xb = (List.range i).map fun k => (E (.ib k)).v) ∧ (xw = (List.range i).map fun k => (E (.iw k)).v)) := ⟨hxa, hxb, hxw⟩
        clear hva hvb hvw hxa hxb hxw
        obtain ⟨pl, hpl⟩ : ∃ pl, pl = (P i).length := ⟨_, rfl⟩
        rw [← hpl] at hvp hvq hp1 hq1 hlen
        have Hpl : Hid (pl = (P i).length) := hpl
        clear hpl
        subst hvp hvq
        go_wp2_with fail
        refine (same_any pl pc qc Hpl.out hPA hQA (by omega)).mono ?_
        rintro e w4 ⟨rfl, b4⟩
        have O4 := O3.next b4
        have B4 := B3.next b4
        have oa4 := O4.out hoa3 la
        have hb4 := B4.hb
        clear O3 B3 hPA hp1 hp2
        have h3n : ∀ {x : Ix} {v : Value} {xs : List Value} (e : Ent) (y : Ix), E3 x = sE v xs → x ≠ y → put E3 y e x = sE v xs := fun e y h hne => by rw [put_other _ _ hne]; exact h
        by_cases hpl0 : pl = 0
        · subst hpl0
          have hPi : Hid (P i = []) := List.length_eq_zero_iff.mp Hpl.out.symm
          rcases hqc with ⟨h1, h2, _⟩ | ⟨qg, h1, _⟩
          · subst h1 h2
            go_wp2_with (first
              | (refine wpList_append_lies _ rfl _ _ 35 rfl Bb 25 ri rz 1 24 Tryd.underlying35 r1 r2 r3 r4 r5 (by omega) va i xa rfl (oa4.alloc _) ⟨w4.heap.size, 0, none⟩ 1 1 [.slice pa 0 pc] rfl rfl (news_one _ _ _) (by simp [Value.oneCell']) (by omega) (by unfold maxLen; omega) (by omega) (by simp; omega) _ rfl ?_; intro g5 c5 w5 own5 grow5 at5 lt5; have O5 := O4.add .oa hoa3 la own5 grow5 at5; have B5 := (B4.next ((Below.refl _ _).alloc (Nat.le_refl _) _)).grow grow5 (O4.row_ge (x := .oa) (by rw [hoa3]; rfl)) hK; have ob5 := O5.out (h3n _ _ hob3 (by simp)) lb; have hb5 := B5.hb)
              | (refine wpList_append_lies _ rfl _ _ 35 rfl Bb 25 ri rz 1 24 Tryd.underlying35 r1 r2 r3 r4 r5 (by omega) vb i xb rfl (ob5.alloc _) ⟨w5.heap.size, 0, none⟩ 1 1 [.slice none 0 0] rfl rfl (news_one _ _ _) (by simp [Value.oneCell']) (by omega) (by unfold maxLen; omega) (by omega) (by simp; omega) _ rfl ?_; intro g6 c6 w6 own6 grow6 at6 lt6; have O6 := O5.add .ob (h3n _ _ hob3 (by simp)) lb own6 grow6 at6; have B6 := (B5.next ((Below.refl _ _).alloc (Nat.le_refl _) _)).grow grow6 (O4.row_ge (x := .ob) (by rw [hob3]; rfl)) hK; have O7 := O6.made (.iw i) (hE (.slice none 0 0) (P i)) (Below.refl _ _) (by rw [put_other _ _ (by simp), put_other _ _ (by simp)]; exact hiw3) (by rw [hPi.out]; exact World.ownsRow_nil _ _ _ _) B6.hb.2.2; have hb7 := B6.hb; have ow7 := O7.out (x := .ow) (v := vw) (xs := xw) (by rw [put_other _ _ (by simp), put_other _ _ (by simp), put_other _ _ (by simp)]; exact how3) lw)
              | (refine wpList_append_lies _ rfl _ _ 35 rfl Bb 25 ri rz 1 24 Tryd.underlying35 r1 r2 r3 r4 r5 (by omega) vw i xw rfl (ow7.alloc _) ⟨w6.heap.size, 0, none⟩ 1 1 [.slice none 0 0] rfl rfl (news_one _ _ _) (by simp [Value.oneCell']) (by omega) (by unfold maxLen; omega) (by omega) (by simp; omega) _ rfl ?_; intro g8 c8 w8 own8 grow8 at8 lt8))
            have O8 := O7.add .ow (v := vw) (xs := xw) (by rw [put_other _ _ (by simp), put_other _ _ (by simp), put_other _ _ (by simp)]; exact how3) lw own8 grow8 at8
            have B8 := (B6.next ((Below.refl _ _).alloc (Nat.le_refl _) _)).grow grow8 (O7.row_ge (x := .ow) (by rw [put_other _ _ (by simp), put_other _ _ (by simp), put_other _ _ (by simp), how3]; rfl)) hK
            obtain ⟨E8, h1, h2, h3, S8⟩ := S.more HE.out HX.out B8 O8
            exact ⟨⟨i + 1, E8, by omega, by push_cast; rfl, h1, h2, h3, S8⟩, by simp [intOf]; omega⟩
          · subst h1
            go_wp2_with (first
              | (refine wpList_append_lies _ rfl _ _ 35 rfl Bb 25 ri rz 1 24 Tryd.underlying35 r1 r2 r3 r4 r5 (by omega) va i xa rfl (oa4.alloc _) ⟨w4.heap.size, 0, none⟩ 1 1 [.slice pa 0 pc] rfl rfl (news_one _ _ _) (by simp [Value.oneCell']) (by omega) (by unfold maxLen; omega) (by omega) (by simp; omega) _ rfl ?_; intro g5 c5 w5 own5 grow5 at5 lt5; have O5 := O4.add .oa hoa3 la own5 grow5 at5; have B5 := (B4.next ((Below.refl _ _).alloc (Nat.le_refl _) _)).grow grow5 (O4.row_ge (x := .oa) (by rw [hoa3]; rfl)) hK; have ob5 := O5.out (h3n _ _ hob3 (by simp)) lb; have hb5 := B5.hb)
              | (refine wpList_append_lies _ rfl _ _ 35 rfl Bb 25 ri rz 1 24 Tryd.underlying35 r1 r2 r3 r4 r5 (by omega) vb i xb rfl (ob5.alloc _) ⟨w5.heap.size, 0, none⟩ 1 1 [.slice (some ⟨qg, 0, none⟩) 0 qc] rfl rfl (news_one _ _ _) (by simp [Value.oneCell']) (by omega) (by unfold maxLen; omega) (by omega) (by simp; omega) _ rfl ?_; intro g6 c6 w6 own6 grow6 at6 lt6; have O6 := O5.add .ob (h3n _ _ hob3 (by simp)) lb own6 grow6 at6; have B6 := (B5.next ((Below.refl _ _).alloc (Nat.le_refl _) _)).grow grow6 (O4.row_ge (x := .ob) (by rw [hob3]; rfl)) hK; have O7 := O6.made (.iw i) (hE (.slice none 0 0) (P i)) (Below.refl _ _) (by rw [put_other _ _ (by simp), put_other _ _ (by simp)]; exact hiw3) (by rw [hPi.out]; exact World.ownsRow_nil _ _ _ _) B6.hb.2.2; have hb7 := B6.hb; have ow7 := O7.out (x := .ow) (v := vw) (xs := xw) (by rw [put_other _ _ (by simp), put_other _ _ (by simp), put_other _ _ (by simp)]; exact how3) lw)
              | (refine wpList_append_lies _ rfl _ _ 35 rfl Bb 25 ri rz 1 24 Tryd.underlying35 r1 r2 r3 r4 r5 (by omega) vw i xw rfl (ow7.alloc _) ⟨w6.heap.size, 0, none⟩ 1 1 [.slice none 0 0] rfl rfl (news_one _ _ _) (by simp [Value.oneCell']) (by omega) (by unfold maxLen; omega) (by omega) (by simp; omega) _ rfl ?_; intro g8 c8 w8 own8 grow8 at8 lt8))
            have O8 := O7.add .ow (v := vw) (xs := xw) (by rw [put_other _ _ (by simp), put_other _ _ (by simp), put_other _ _ (by simp)]; exact how3) lw own8 grow8 at8
            have B8 := (B6.next ((Below.refl _ _).alloc (Nat.le_refl _) _)).grow grow8 (O7.row_ge (x := .ow) (by rw [put_other _ _ (by simp), put_other _ _ (by simp), put_other _ _ (by simp), how3]; rfl)) hK
            obtain ⟨E8, h1, h2, h3, S8⟩ := S.more HE.out HX.out B8 O8
            exact ⟨⟨i + 1, E8, by omega, by push_cast; rfl, h1, h2, h3, S8⟩, by simp [intOf]; omega⟩
        · obtain ⟨qg, rfl, _⟩ : ∃ qg, qa = some ⟨qg, 0, none⟩ ∧ True := by
            rcases hqc with ⟨_, _, h⟩ | ⟨qg, h, _⟩
            · have := Hpl.out; rw [h] at this; exact absurd this hpl0
            · exact ⟨qg, h, trivial⟩
          have hfl : (flatL (P i)).length = pl * 32 := by rw [flatL_length, ← Hpl.out]
          go_wp2_with (first
            | (refine wpList_append_lies _ rfl _ _ 35 rfl Bb 25 ri rz 1 24 Tryd.underlying35 r1 r2 r3 r4 r5 (by omega) va i xa rfl (oa4.alloc _) ⟨w4.heap.size, 0, none⟩ 1 1 [.slice pa pl pc] rfl rfl (news_one _ _ _) (by simp [Value.oneCell']) (by omega) (by unfold maxLen; omega) (by omega) (by simp; omega) _ rfl ?_; intro g5 c5 w5 own5 grow5 at5 lt5; have O5 := O4.add .oa hoa3 la own5 grow5 at5; have B5 := (B4.next ((Below.refl _ _).alloc (Nat.le_refl _) _)).grow grow5 (O4.row_ge (x := .oa) (by rw [hoa3]; rfl)) hK; have ob5 := O5.out (h3n _ _ hob3 (by simp)) lb; have hb5 := B5.hb)
            | (refine wpList_append_lies _ rfl _ _ 35 rfl Bb 25 ri rz 1 24 Tryd.underlying35 r1 r2 r3 r4 r5 (by omega) vb i xb rfl (ob5.alloc _) ⟨w5.heap.size, 0, none⟩ 1 1 [.slice (some ⟨qg, 0, none⟩) pl qc] rfl rfl (news_one _ _ _) (by simp [Value.oneCell']) (by omega) (by unfold maxLen; omega) (by omega) (by simp; omega) _ rfl ?_; intro g6 c6 w6 own6 grow6 at6 lt6; have O6 := O5.add .ob (h3n _ _ hob3 (by simp)) lb own6 grow6 at6; have B6 := (B5.next ((Below.refl _ _).alloc (Nat.le_refl _) _)).grow grow6 (O4.row_ge (x := .ob) (by rw [hob3]; rfl)) hK; have q6 := O6.inn (x := .ib i) (v := .slice (some ⟨qg, 0, none⟩) pl qc) (l := P i) (by rw [put_other _ _ (by simp), put_other _ _ (by simp)]; exact hib3); have hb6 := B6.hb)
            | (refine wpList_append_lies _ rfl _ _ 25 rfl w6.heap.size 23 ti z 32 32 Tryd.underlying25 e1 e2 e3 e4 e5 (by omega) (.slice none 0 0) 0 [] rfl (World.ownsRow_nil _ _ _ _) ⟨qg, 0, none⟩ pl qc (flatL (P i)) rfl hfl (q6.cells rfl) (flatL_one _) (by omega) (by unfold maxLen; omega) (by omega) (Nat.le_refl _) _ rfl ?_; intro g7 c7 w7 own7 grow7 at7 lt7; rw [Nat.zero_add, List.nil_append] at own7; have b7 : Below w6.heap.size w6 w7 := (Below.refl _ _).grown grow7 (Nat.le_refl _) (fun k hk => by simp [Value.ownBlock] at hk); have O7 := O6.made (.iw i) (hE (.slice (some ⟨g7, 0, none⟩) pl c7) (P i)) b7 (by rw [put_other _ _ (by simp), put_other _ _ (by simp)]; exact hiw3) (by show w7.ownsRow _ 23 32 _ (P i).length _; rw [← Hpl.out]; exact own7) hb6.2.2; have B7 := B6.next b7; have ow7 := O7.out (x := .ow) (v := vw) (xs := xw) (by rw [put_other _ _ (by simp), put_other _ _ (by simp), put_other _ _ (by simp)]; exact how3) lw; have hb7 := B7.hb)
            | (refine wpList_append_lies _ rfl _ _ 35 rfl Bb 25 ri rz 1 24 Tryd.underlying35 r1 r2 r3 r4 r5 (by omega) vw i xw rfl (ow7.alloc _) ⟨w7.heap.size, 0, none⟩ 1 1 [.slice (some ⟨g7, 0, none⟩) pl c7] rfl rfl (news_one _ _ _) (by simp [Value.oneCell']) (by omega) (by unfold maxLen; omega) (by omega) (by simp; omega) _ rfl ?_; intro g8 c8 w8 own8 grow8 at8 lt8))
          have O8 := O7.add .ow (v := vw) (xs := xw) (by rw [put_other _ _ (by simp), put_other _ _ (by simp), put_other _ _ (by simp)]; exact how3) lw own8 grow8 at8
          have B8 := (B7.next ((Below.refl _ _).alloc (Nat.le_refl _) _)).grow grow8 (O7.row_ge (x := .ow) (by rw [put_other _ _ (by simp), put_other _ _ (by simp), put_other _ _ (by simp), how3]; rfl)) hK
          obtain ⟨E8, h1, h2, h3, S8⟩ := S.more HE.out HX.out B8 O8
          exact ⟨⟨i + 1, E8, by omega, by push_cast; rfl, h1, h2, h3, S8⟩, by simp [intOf]; omega⟩
      · obtain rfl : i = n := by omega
        have hd : decide ((i : Int) < (i : Int)) = false := by simp
        obtain ⟨va, hva⟩ : ∃ va, va = (E .oa).v := ⟨_, rfl⟩
        obtain ⟨vb, hvb⟩ : ∃ vb, vb = (E .ob).v := ⟨_, rfl⟩
        obtain ⟨vw, hvw⟩ : ∃ vw, vw = (E .ow).v := ⟨_, rfl⟩
        rw [← hva, ← hvb, ← hvw]
        have HV : Hid ((E .oa).v = va ∧ (E .ob).v = vb ∧ (E .ow).v = vw) := ⟨hva.symm, hvb.symm, hvw.symm⟩
        clear hva hvb hvw
        obtain ⟨aa, ca, rfl, hca, hcm, _⟩ := own_out (S.ra HV.out.1)
        obtain ⟨ab, cb, rfl, _, _, _⟩ := own_out (S.rb HV.out.2.1)
        obtain ⟨aw, cw, rfl, _, _, _⟩ := own_out (S.rw HV.out.2.2)
        obtain ⟨va, hva⟩ : ∃ va, va = Value.slice aa i ca := ⟨_, rfl⟩
        obtain ⟨vb, hvb⟩ : ∃ vb, vb = Value.slice ab i cb := ⟨_, rfl⟩
        obtain ⟨vw, hvw⟩ : ∃ vw, vw = Value.slice aw i cw := ⟨_, rfl⟩
        have HVV : Hid (va = Value.slice aa i ca ∧ vb = Value.slice ab i cb ∧ vw = Value.slice aw i cw) := ⟨hva, hvb, hvw⟩
        have S2 : P2 w Bb Mb mk P i va vb vw 0 0 P E wr := ⟨⟨S, by rw [hva]; exact HV.out.1, by rw [hvb]; exact HV.out.2.1, by rw [hvw]; exact HV.out.2.2⟩, fun _ _ => rfl, fun m hm => by omega, fun m x hm => by omega⟩
        clear hva hvb hvw HV S
        go_wp2_with fail
        go_loopw [13] (fun iv wr => ∃ (j : Nat) (PA : Nat → List Hs) (E : Ix → Ent), j ≤ i ∧ iv = .int .i64 (j : Int) ∧ P2 w Bb Mb mk P i va vb vw j 0 PA E wr) (fun iv _ => i - (intOf iv).toNat)
        case atStart => exact ⟨0, P, E, by omega, rfl, S2⟩
        case round =>
          clear S2 hd
          obtain ⟨j, PA, E, hji, rfl, S⟩ := hrel
          by_cases hj : j < i
          · have hd : decide ((j : Int) < (i : Int)) = true := by simp; omega
            obtain ⟨ag, rfl⟩ := S.ph.cellA0 HVV.out.1 hj
            obtain ⟨L, hL⟩ : ∃ L, L = (P j).length := ⟨_, rfl⟩
            have HL : Hid (L = (P j).length) := hL
            have hL9 : L ≤ 9 := by rw [hL]; exact hPl.out j
            clear hL
            go_wp2_with fail
            go_loopw [14] (fun kv wr => ∃ (k : Nat) (PA : Nat → List Hs) (E : Ix → Ent), k ≤ L ∧ kv = .int .i64 (k : Int) ∧ P2 w Bb Mb mk P i va vb vw j k PA E wr) (fun kv _ => L - (intOf kv).toNat)
            case atStart => exact ⟨0, PA, E, by omega, rfl, S⟩
            case round =>
              clear S hd
              obtain ⟨k, PA, E, hk, rfl, S⟩ := hrel
              have hc := S.ph.cellA HVV.out.1 hj
              obtain ⟨ja, jc, hjv, hjs, hjt⟩ := S.row hj HL.out
              rw [hjv] at hc
              have j0 : (0 : Int) ≤ (j : Int) := by omega
              have j1 : (j : Int) < (i : Int) := by omega
              by_cases hlt : k < L
              · have hd : decide ((k : Int) < (L : Int)) = true := by simp; omega
                obtain ⟨jg, rfl⟩ := hjs (by omega)
                have th := hjt jg k rfl hlt
                have k0 : (0 : Int) ≤ (k : Int) := by omega
                have k1 : (k : Int) < (L : Int) := by omega
                have hst := store_at (World.there_drew _ _ _ _ |>.2 th) mk
                have hld := load23 (w := wr.drew) S.ph.st.rm
                obtain ⟨PA', E', S'⟩ := (S.next (below_drew wr)).set (g := jg) (c := jc) hK hj (by rw [← HL.out]; exact hlt) (by rw [hjv, HL.out])
                clear hjt hjs hjv S th
                go_wp2_with fail
                go_region_law (fail)
                all_goals (go_wp2_with fail; go_round)
                all_goals first
                  | exact ⟨k + 1, PA', E', by omega, by go_num, S'⟩
                  | (simp [intOf]; omega)
              · obtain rfl : k = L := by omega
                have hd : decide ((k : Int) < (k : Int)) = false := by simp
                have S' := P2.up (HL.out ▸ S) hj
                clear hjt hjs hjv S
                go_wp2_with fail
                go_round
                case rel => exact ⟨j + 1, PA, E, by omega, by go_num, S'⟩
                case measure => simp [intOf]; omega
          · obtain rfl : j = i := by omega
            have hd : decide ((j : Int) < (j : Int)) = false := by simp
            have S3 := S.third
            clear S
            go_wp2_with fail
            go_loopw [15] (fun iv wr => ∃ (i : Nat) (E : Ix → Ent), i ≤ j ∧ iv = .int .i64 (i : Int) ∧ PH w Bb Mb mk P j va vb vw (PB P mk i 0) E wr) (fun iv _ => j - (intOf iv).toNat)
            case atStart => exact ⟨0, E, by omega, rfl, S3⟩
            case round =>
              clear S3 hd
              obtain ⟨i, E, hij, rfl, S⟩ := hrel
              by_cases hi2 : i < j
              · have hd : decide ((i : Int) < (j : Int)) = true := by simp; omega
                obtain ⟨ag, rfl⟩ := S.cellA0 HVV.out.1 hi2
                go_wp2_with fail
                go_loopw [16] (fun kv wr => ∃ (k : Nat) (E : Ix → Ent), k ≤ 10 ∧ kv = .int .i64 (k : Int) ∧ PH w Bb Mb mk P j va vb vw (PB P mk i k) E wr) (fun kv _ => 10 - (intOf kv).toNat)
                case atStart => exact ⟨0, E, by omega, rfl, S⟩
                case round =>
                  clear S hd
                  obtain ⟨k, E, hk, rfl, S⟩ := hrel
                  by_cases hlt : k < 10
                  · have hd : decide ((k : Int) < 10) = true := by simp; omega
                    have hc := S.cellA HVV.out.1 hi2
                    obtain ⟨L, hL⟩ : ∃ L, L = (PB P mk i k i).length := ⟨_, rfl⟩
                    have HL : Hid (L = (PB P mk i k i).length) := hL
                    have hL20 : L ≤ 20 := by have := hPl.out i; rw [hL, PB_at, List.length_replicate]; omega
                    obtain ⟨ja, jc, hjv⟩ := S.row hi2 hL
                    clear hL
                    rw [hjv] at hc
                    have i0 : (0 : Int) ≤ (i : Int) := by omega
                    have i1 : (i : Int) < (j : Int) := by omega
                    have hld := load23 (w := wr.drew) S.st.rm
                    have Sd := S.next (below_drew wr)
                    have own := Sd.st.ai i hi2
                    rw [hjv, ← HL.out] at own
                    have hbs := Sd.st.hb
                    have hfl : (PB P mk i k i).length = L := HL.out.symm
                    have hcA : (wr.drew.alloc (.cells (hv mk).toArray 23)).cell? ⟨ag, i, none⟩ = some (.slice ja L jc) := by
                      rw [← hjv]; exact (Sd.next ((Below.refl _ _).alloc (Nat.le_refl _) _)).cellA HVV.out.1 hi2
                    have Hjv : Hid ((E (.ia i)).v = .slice ja L jc) := hjv
                    have hcB : ((wr.alloc (.cells (hv mk).toArray 23)).drew).cell? ⟨ag, i, none⟩ = some (.slice ja L jc) := hcA
                    have ownA : ((wr.alloc (.cells (hv mk).toArray 23)).drew).ownsRow Bb 23 32 (.slice ja L jc) L (flatL (PB P mk i k i)) := own.alloc _
                    have newsA : ∀ j u, (hv mk)[j]? = some u → ((wr.alloc (.cells (hv mk).toArray 23)).drew).cell? ((⟨wr.heap.size, 0, none⟩ : Addr).add j) = some u := news_alloc wr mk 23
                    have hbA : Bb ≤ ((wr.alloc (.cells (hv mk).toArray 23)).drew).heap.size := by simp at hbs ⊢; omega
                    have FA : Hid (∀ g c w3, w3.ownsRow Bb 23 32 (.slice (some ⟨g, 0, none⟩) (L + 1) c) (L + 1) (flatL (PB P mk i k i) ++ hv mk) → ((wr.alloc (.cells (hv mk).toArray 23)).drew).grownBy w3 (Value.slice ja L jc).ownBlock → ((Value.slice ja L jc).ownBlock = some g ∨ g = ((wr.alloc (.cells (hv mk).toArray 23)).drew).heap.size) → (w3.cell? ⟨ag, i, none⟩ = some (.slice ja L jc) ∧ w3.frozen? ⟨ag, i, none⟩ = false) ∧ ∃ E', PH w Bb Mb mk P j va vb vw (PB P mk i (k + 1)) E' (w3.setCell ⟨ag, i, none⟩ (.slice (some ⟨g, 0, none⟩) (L + 1) c))) := fun g c w3 h1 h2 h3 => by
                      have := Sd.app (o := .cells (hv mk).toArray 23) hK hi2 HVV.out.1 HL.out h1 (by rw [hjv]; exact h2) (by rw [hjv]; exact h3)
                      rw [hjv, PB_more] at this
                      exact this
                    clear S hjv hcA
                    go_wp2_with fail
                    go_region_law (first
                      | (refine step_append_lies _ (by rfl) _ _ 25 (by rfl) Bb 23 ti z 32 32 Tryd.underlying25 e1 e2 e3 e4 e5 (by omega) (.slice ja L jc) L (flatL (PB P mk i k i)) (by rfl) ownA ⟨wr.heap.size, 0, none⟩ 1 1 (hv mk) (by rfl) (hv_length _) newsA (hv_one _) (by omega) (by unfold maxLen; omega) (by omega) hbA _ rfl ?_; intro g3 c3 w3 own3 grow3 at3 lt3; have A3 := FA.out g3 c3 w3 own3 grow3 at3; have A4 := A3.1.1; have A5 := A3.1.2; clear A3))
                    all_goals (go_wp2_with fail; go_round)
                    all_goals first
                      | (obtain ⟨E', S'⟩ := (FA.out g3 c3 w3 own3 grow3 at3).2; exact ⟨k + 1, E', by omega, by go_num, S'⟩)
                      | (simp [intOf]; omega)
                  · obtain rfl : k = 10 := by omega
                    have hd : decide (((10 : Nat) : Int) < 10) = false := by simp
                    rw [PB_up] at S
                    go_wp2_with fail
                    go_round
                    case rel => exact ⟨i + 1, E, by omega, by go_num, S⟩
                    case measure => simp [intOf]; omega
              · obtain rfl : i = j := by omega
                have hd : decide ((i : Int) < (i : Int)) = false := by simp
                go_wp2_with fail
                go_loopw [17] (fun iv wr => ∃ (q : Nat), q ≤ i ∧ iv = .int .i64 (q : Int) ∧ PH w Bb Mb mk P i va vb vw (PB P mk i 0) E wr) (fun iv _ => i - (intOf iv).toNat)
                case atStart => exact ⟨0, by omega, rfl, S⟩
                case round =>
                  clear S hd
                  obtain ⟨q, hqi, rfl, S⟩ := hrel
                  by_cases hq : q < i
                  · have hd : decide ((q : Int) < (i : Int)) = true := by simp; omega
                    obtain ⟨ag, rfl⟩ := S.cellA0 HVV.out.1 hq
                    obtain ⟨bg, rfl⟩ := S.cellB0 HVV.out.2.1 hq
                    obtain ⟨wg, rfl⟩ := S.cellW0 HVV.out.2.2 hq
                    have q0 : (0 : Int) ≤ (q : Int) := by omega
                    have q1 : (q : Int) < (i : Int) := by omega
                    obtain ⟨L, hL⟩ : ∃ L, L = (P q).length := ⟨_, rfl⟩
                    have HL : Hid (L = (P q).length) := hL
                    have hL9 : L ≤ 9 := by rw [hL]; exact hPl.out q
                    clear hL
                    obtain ⟨LA, hLA⟩ : ∃ LA, LA = L + 10 := ⟨_, rfl⟩
                    have hPB : PB P mk i 0 q = List.replicate LA mk := by unfold PB; rw [if_pos hq, hLA, HL.out]
                    have HPB : Hid (PB P mk i 0 q = List.replicate LA mk) := hPB
                    have HLA : Hid (LA = L + 10) := hLA
                    obtain ⟨ja, jc, hjv⟩ := S.row hq (L := LA) (by rw [hPB, List.length_replicate])
                    have Hjv : Hid ((E (.ia q)).v = .slice ja LA jc) := hjv
                    clear hPB hLA hjv
                    have hLA20 : LA ≤ 20 := by have := HLA.out; omega
                    go_wp2_with fail
                    go_loopw [18] (fun kv wr => ∃ (k : Nat), k ≤ LA ∧ kv = .int .i64 (k : Int) ∧ PH w Bb Mb mk P i va vb vw (PB P mk i 0) E wr) (fun kv _ => LA - (intOf kv).toNat)
                    case atStart => exact ⟨0, by omega, rfl, S⟩
                    case round =>
                      clear S hd
                      obtain ⟨k, hk, rfl, S⟩ := hrel
                      have hc := S.cellA HVV.out.1 hq
                      rw [Hjv.out] at hc
                      by_cases hlt : k < LA
                      · have hd : decide ((k : Int) < (LA : Int)) = true := by simp; omega
                        obtain ⟨jg, rfl⟩ : ∃ jg, ja = some ⟨jg, 0, none⟩ := by
                          have own := S.st.ai q hq
                          rw [Hjv.out, HPB.out, List.length_replicate] at own
                          rcases own.2 with ⟨h1, h2⟩ | ⟨g, c, cur, h1, _⟩
                          · omega
                          · injection h1 with h1; exact ⟨g, h1⟩
                        have k0 : (0 : Int) ≤ (k : Int) := by omega
                        have k1 : (k : Int) < (LA : Int) := by omega
                        have r1 : wr.rangeAt jg (k * 32) (hv mk) := S.rowMk hq HPB.out Hjv.out hlt
                        have l1 : ∀ q, (ldS 23 (.pointer (some ⟨jg, k * 32, none⟩))).run Tryd.prog (wr.drewN q) = .ok (.agg (hv mk).toArray) (wr.drewN q) := fun q => load23 (w := wr.drewN q) r1
                        have l2 : ∀ q, (ldS 23 (.pointer (some ⟨Mb, 0, none⟩))).run Tryd.prog (wr.drewN q) = .ok (.agg (hv mk).toArray) (wr.drewN q) := fun q => load23 (w := wr.drewN q) S.st.rm
                        have ex := eqb_self mk
                        clear r1
                        go_wp2_with fail
                        go_quiet (fail)
                        go_wp2_with fail
                        exact ⟨⟨k + 1, by omega, by push_cast; rfl, S.next ⟨rfl, rfl, rfl, Nat.le_refl _, fun _ _ => rfl⟩⟩, by simp [intOf]; omega⟩
                      · obtain rfl : k = LA := by omega
                        have hd : decide ((k : Int) < (k : Int)) = false := by simp
                        go_wp2_with fail
                        have cP : Calls Tryd.prog 9 #[.slice a i cap, .int .i64 (q : Int)] wr fun e w2 => ∃ v, e = .returned (.tuple #[v, .int .i64 0]) ∧ w2.ownsRow wr.heap.size 23 32 v (P q).length (flatL (P q)) ∧ Below wr.heap.size wr w2 := by
                          rw [HP.out]; exact path_in cap S.st.k (hT.next S.st.bel) hz (by omega) hq
                        refine Calls.mono cP ?_
                        rintro e w2 ⟨vp, rfl, ownP, b2⟩
                        have S2 := S.next b2
                        obtain ⟨pa, pc, hvp, _, _, hPA, _⟩ := own_path ownP
                        obtain ⟨ba, bc, hvb2, _, _, hPB2, _⟩ := own_path (S2.st.bi q hq)
                        obtain ⟨wa, wc, hvw2, _, _, hPW, _⟩ := own_path (S2.st.wi q hq)
                        rw [← HL.out] at hvp hvb2 hvw2
                        have hca2 := S2.cellA HVV.out.1 hq
                        have hcb2 := S2.cellB HVV.out.2.1 hq
                        have hcw2 := S2.cellW HVV.out.2.2 hq
                        rw [Hjv.out] at hca2
                        rw [hvb2] at hcb2
                        rw [hvw2] at hcw2
                        subst hvp
                        have FB : Hid (∀ wx, PH w Bb Mb mk P i va vb vw (PB P mk i 0) E wx → wx.cell? ⟨bg, q, none⟩ = some (.slice ba L bc) ∧ wx.cell? ⟨wg, q, none⟩ = some (.slice wa L wc) ∧ wx.cell? ⟨ag, q, none⟩ = some (.slice ja k jc)) := fun wx h => ⟨by rw [← hvb2]; exact h.cellB HVV.out.2.1 hq, by rw [← hvw2]; exact h.cellW HVV.out.2.2 hq, by rw [← Hjv.out]; exact h.cellA HVV.out.1 hq⟩
                        have hwr : IntKind.i64.wrap ((L : Int) + 10) = (k : Int) := by
                          have := HLA.out
                          rw [IntKind.wrap_i64]; omega
                        have b0 := below_drew w2
                        have Sd := S2.next b0
                        have hne : decide ((k : Int) = (k : Int)) = true := by simp
                        clear S hc hvb2 hvw2 ownP hd cP hca2 hcb2 hcw2
                        go_wp2_with fail
                        go_region_held3 (fun wx => (PH w Bb Mb mk P i va vb vw (PB P mk i 0) E wx ∧ Below w2.heap.size w2 wx) ∧ wx.cell? ⟨bg, q, none⟩ = some (.slice ba L bc) ∧ wx.cell? ⟨wg, q, none⟩ = some (.slice wa L wc) ∧ wx.cell? ⟨ag, q, none⟩ = some (.slice ja k jc))
                          (first | exact ⟨⟨Sd, b0⟩, FB.out _ Sd⟩ | exact ⟨⟨PH.next (And.left (And.left (by assumption))) bq, below_seq (And.right (And.left (by assumption))) bq⟩, FB.out _ (PH.next (And.left (And.left (by assumption))) bq)⟩)
                          (first
                            | (go_at_call 14; with_reducible refine Calls.mono (same_any (a := ba) (a2 := wa) (l := P q) L bc wc HL.out (hPB2.next (And.right (And.left (by assumption)))) (hPW.next (And.right (And.left (by assumption)))) (by omega)) ?_; rintro e w' ⟨rfl, bq⟩)
                            | (go_at_call 14; with_reducible refine Calls.mono (same_any (a := pa) (a2 := wa) (l := P q) L pc wc HL.out (hPA.next (And.right (And.left (by assumption)))) (hPW.next (And.right (And.left (by assumption)))) (by omega)) ?_; rintro e w' ⟨rfl, bq⟩))
                        rename_i hH
                        have S4 := hH.1.1
                        clear hH bq
                        go_wp2_with fail
                        go_round
                        case rel => exact ⟨q + 1, by omega, by go_num, S4⟩
                        case measure => simp [intOf]; omega
                  · obtain rfl : q = i := by omega
                    have hd : decide ((q : Int) < (q : Int)) = false := by simp
                    go_wp2_with fail
                    refine (first_any wr S.st.k).mono ?_
                    rintro e w2 ⟨rfl, b2⟩
                    go_wp2_with fail
                    go_ret
                    exact ⟨rfl, below_seq S.st.bel b2⟩
end merkleApart
end Go.Proofs.YtlpiokepagkahaaDoor
