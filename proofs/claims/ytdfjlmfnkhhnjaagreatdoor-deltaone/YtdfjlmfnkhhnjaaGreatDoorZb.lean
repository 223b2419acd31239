import Derived.Test.YtdfjlmfnkhhnjaaGreatDoorGf
import Derived.Test.YtdfjlmfnkhhnjaaGreatDoorGv
import Derived.Test.YtdfjlmfnkhhnjaaGreatDoorZa
import Derived.Test.YtdfjlmfnkhhnjaaGreatDoorGe
/- Long lists; lend, kept; the document's Version and Size. -/
namespace Go.Proofs.YtdfjlmfnkhhnjaaGreatDoor.Stk
set_option maxRecDepth 100000
set_option linter.unusedVariables false
set_option linter.unusedSimpArgs false
open Go.RowKit
attribute [local go_sem ↓] Go.wp_at_zero Go.wp_at_succ
attribute [local go_sem ↓] slPe
set_option maxHeartbeats 2000000 in
theorem rSize_any (key : List UInt8) (seq : Int) (mk : Bool) (data : List UInt8) (l : List En) (w : World) (a : Option Addr) (n cap : Nat) (hn : l.length = n) (hP : PIn w a l) (hz : l.length ≤ 9223372036854775806) :
    Calls Tryz.prog 118 #[vv key seq mk data a n cap] w fun e w' => e = .returned (.int .i64 (vsz key data l)) ∧ Below w.heap.size w w' := by
  subst hn
  have hbx : Below w.heap.size w (w.alloc (.cells #[str key, .int .i64 seq, .bool mk, str data, .slice a l.length cap] 62)) := (Below.refl _ _).alloc (Nat.le_refl _) _
  have HZ := Hid.mk (vsz_zero key data l)
  go_enter Tryz.func118, Tryz.ntmps118
  go_wp2_with fail
  go_loopw [3, 4] (fun s i wr => ∃ k : Nat, k ≤ l.length ∧ i = .int .i64 (k : Int) ∧ s = .int .i64 (vsz key data (l.take k)) ∧ Below (w.alloc (.cells #[str key, .int .i64 seq, .bool mk, str data, .slice a l.length cap] 62)).heap.size (w.alloc (.cells #[str key, .int .i64 seq, .bool mk, str data, .slice a l.length cap] 62)) wr) (fun _ i _ => l.length - (intOf i).toNat)
  case atStart => exact ⟨0, by omega, rfl, by rw [← HZ.out], Below.refl _ _⟩
  case round =>
    obtain ⟨k, hk, rfl, rfl, hb⟩ := hrel
    obtain ⟨x0, x1, x2, x3, x4⟩ := box5 hb
    have hB : Below w.heap.size w wr := hbx.trans (hb.mono (by simp))
    by_cases hlt : k < l.length
    · have d1 : decide ((k : Int) < (l.length : Int)) = true := decide_eq_true (by omega)
      have k2 : (k : Int) < (l.length : Int) := by omega
      obtain ⟨p, hp⟩ : ∃ p, l[k]? = some p := ⟨l[k], List.getElem?_eq_getElem hlt⟩
      obtain ⟨b, off, rfl, hbl, c0, c1⟩ := (hP.later hB).get k p hp
      have HX := Hid.mk (vsz_next (key := key) (data := data) hp).2
      generalize vsz key data (l.take k) = A at *
      have Hb := Hid.mk hb
      clear hb
      go_wp2_with fail
      go_quiet (fail)
      go_wp2_with fail
      exact ⟨⟨k + 1, by omega, by go_num, by rw [← HX.out], below_dN Hb.out nq⟩, by simp [intOf]; omega⟩
    · obtain rfl : k = l.length := by omega
      have d1 : decide ((l.length : Int) < (l.length : Int)) = false := decide_eq_false (by omega)
      rw [List.take_length]
      have Hb := Hid.mk hb
      clear hb
      go_wp2_with fail
      go_ret
      exact ⟨rfl, hB⟩
end Go.Proofs.YtdfjlmfnkhhnjaaGreatDoor.Stk

/- A bucket's lists, without the model. -/
namespace Go.Proofs.YtdfjlmfnkhhnjaaGreatDoor.Stk
set_option maxRecDepth 100000
set_option linter.unusedVariables false
set_option linter.unusedSimpArgs false
/-- canonical order -/
def ltv (a b : Vs) : Prop := lt a.key b.key ∨ a.key = b.key ∧ a.seq < b.seq
instance (a b : Vs) : Decidable (ltv a b) := by unfold ltv; infer_instance
def SrtV (L : List Vs) : Prop := L.Pairwise ltv
instance (L : List Vs) : Decidable (SrtV L) := by unfold SrtV; infer_instance
theorem ltv_trans {a b c : Vs} (h1 : ltv a b) (h2 : ltv b c) : ltv a c := by
  rcases h1 with h1 | ⟨e1, h1⟩ <;> rcases h2 with h2 | ⟨e2, h2⟩
  · exact .inl (bcmp_trans h1 h2)
  · exact .inl (by rw [← e2]; exact h1)
  · exact .inl (by rw [e1]; exact h2)
  · exact .inr ⟨e1.trans e2, by omega⟩
theorem ltv_irrefl {a : Vs} : ¬ ltv a a := by
  rintro (h | ⟨_, h⟩)
  · exact lt_irrefl h
  · omega
theorem SrtV.get {L : List Vs} (h : SrtV L) {i j : Nat} {a b : Vs} (hij : i < j) (ha : L[i]? = some a) (hb : L[j]? = some b) : ltv a b := by
  obtain ⟨hi, rfl⟩ := List.getElem?_eq_some_iff.1 ha
  obtain ⟨hj, rfl⟩ := List.getElem?_eq_some_iff.1 hb
  exact List.pairwise_iff_getElem.1 h i j hi hj hij
theorem ltv_le {a b : Vs} (h : ltv a b) : ¬ lt b.key a.key := by
  rcases h with h | ⟨e, _⟩
  · exact lt_asymm h
  · rw [e]; exact lt_irrefl
theorem SrtV.le {L : List Vs} (h : SrtV L) {i j : Nat} {a b : Vs} (hij : i ≤ j) (ha : L[i]? = some a) (hb : L[j]? = some b) : ¬ lt b.key a.key := by
  by_cases e : i = j
  · subst e; rw [ha] at hb; cases hb; exact lt_irrefl
  · exact ltv_le (h.get (by omega) ha hb)
/-- it is enough that each stands ahead of the next one -/
theorem srtv_of {L : List Vs} (h : ∀ i a b, L[i]? = some a → L[i + 1]? = some b → ltv a b) : SrtV L := by
  induction L with
  | nil => exact List.Pairwise.nil
  | cons v t ih =>
    have it : SrtV t := ih fun i a b ha hb => h (i + 1) a b (by simpa using ha) (by simpa using hb)
    refine List.Pairwise.cons (fun u hu => ?_) it
    obtain ⟨k, hk, rfl⟩ := List.getElem_of_mem hu
    cases t with
    | nil => simp at hk
    | cons x s =>
      have h0 : ltv v x := h 0 v x rfl rfl
      by_cases e : k = 0
      · subst e; exact h0
      · exact ltv_trans h0 (it.get (i := 0) (j := k) (by omega) rfl (List.getElem?_eq_getElem hk))
/-- where a key's versions begin -/
def fndV : List Vs → List UInt8 → Nat
  | [], _ => 0
  | v :: t, k => if lt v.key k then fndV t k + 1 else 0
theorem fndV_lt : ∀ {L : List Vs} {k : List UInt8} {i : Nat} {e : Vs}, i < fndV L k → L[i]? = some e → lt e.key k
  | [], _, i, e, h, _ => by simp [fndV] at h
  | v :: t, k, i, e, h, he => by
    unfold fndV at h
    split at h
    · rename_i hv
      match i with
      | 0 => simp at he; subst he; exact hv
      | i + 1 => exact fndV_lt (L := t) (i := i) (by omega) (by simpa using he)
    · omega
theorem fndV_at : ∀ {L : List Vs} {k : List UInt8} {e : Vs}, L[fndV L k]? = some e → ¬ lt e.key k
  | [], _, e, h => by simp at h
  | v :: t, k, e, h => by
    unfold fndV at h
    split at h
    · exact fndV_at (L := t) (by simpa using h)
    · rename_i hv; simp at h; subst h; exact hv
theorem fndV_ge {L : List Vs} (hs : SrtV L) {k : List UInt8} {i : Nat} {e : Vs} (h : fndV L k ≤ i) (he : L[i]? = some e) : ¬ lt e.key k := by
  have hi := (List.getElem?_eq_some_iff.1 he).1
  obtain ⟨f, hf⟩ : ∃ f, L[fndV L k]? = some f := ⟨L[fndV L k]'(by omega), List.getElem?_eq_getElem (by omega)⟩
  have h1 := fndV_at hf
  have h2 := hs.le h hf he
  intro q
  rcases tri f.key e.key with z | z | z
  · exact h1 (bcmp_trans z q)
  · exact h1 (z ▸ q)
  · exact h2 z
/-- how many at the beginning are of a key -/
def ken (L : List Vs) (k : List UInt8) : Nat := (L.takeWhile fun v => v.key == k).length
theorem ken_cons {v : Vs} {t : List Vs} {k : List UInt8} : ken (v :: t) k = if v.key = k then ken t k + 1 else 0 := by
  unfold ken
  rw [List.takeWhile_cons]
  by_cases h : v.key = k
  · rw [if_pos (by rw [beq_iff_eq]; exact h), if_pos h]; rfl
  · rw [if_neg (by rw [beq_iff_eq]; exact h), if_neg h]; rfl
theorem ken_key : ∀ {L : List Vs} {k : List UInt8} {i : Nat} {u : Vs}, i < ken L k → L[i]? = some u → u.key = k
  | [], _, i, u, h, hu => by simp at hu
  | v :: t, k, i, u, h, hu => by
    rw [ken_cons] at h
    split at h
    · rename_i hv
      match i with
      | 0 => simp at hu; subst hu; exact hv
      | i + 1 => exact ken_key (L := t) (i := i) (by omega) (by simpa using hu)
    · omega
end Go.Proofs.YtdfjlmfnkhhnjaaGreatDoor.Stk

/- Bytes. -/
namespace Go.Proofs.YtdfjlmfnkhhnjaaGreatDoor.Stk
set_option maxRecDepth 100000
set_option linter.unusedVariables false
set_option linter.unusedSimpArgs false
open Go.RowKit
attribute [local go_sem ↓] Go.wp_at_zero Go.wp_at_succ
/-- a version's size, as it is told -/
def szV (v : Vs) : Int := vsz v.key v.data v.l
/-- all sizes together, as they are told: the sum goes round -/
def bw (L : List Vs) : Int := L.foldl (fun s v => wrap64 (s + szV v)) 0
theorem bw_step {L : List Vs} {k : Nat} {u : Vs} (h : L[k]? = some u) : bw (L.take (k + 1)) = wrap64 (bw (L.take k) + szV u) := by
  unfold bw
  rw [takeV h, List.foldl_append]
  rfl
set_option maxRecDepth 100000 in
set_option maxHeartbeats 4000000 in
theorem bBytes_any (L : List Vs) (next : Int) (w : World) (a : Option Addr) (n cap : Nat) (hL : Li w L a n cap) :
    Calls Tryz.prog 63 #[bv next a n cap] w fun e w' => e = .returned (.int .i64 (bw L)) ∧ Below w.heap.size w w' := by
  obtain rfl := hL.n
  have b0 := (Below.refl w.heap.size w).alloc (Nat.le_refl _) (.cells #[.int .i64 next, .slice a L.length cap] 24)
  have z0 := Bq.new w (.int .i64 next) (.slice a L.length cap)
  have hl := hL.l
  have HL := Hid.mk hL
  clear hL
  go_enter Tryz.func63, Tryz.ntmps63
  obtain ⟨p0, p1, _⟩ := z0.cells
  go_wp2_with fail
  have HB := Hid.mk b0
  have HZ := Hid.mk z0
  clear p0 p1 b0 z0
  generalize w.alloc (.cells #[.int .i64 next, .slice a L.length cap] 24) = W1 at *
  go_loopw [3, 9] (fun o i wr => ∃ k : Nat, k ≤ L.length ∧ i = .int .i64 (k : Int) ∧ o = .int .i64 (bw (L.take k)) ∧ Hid (Below W1.heap.size W1 wr)) (fun o i _ => L.length - (intOf i).toNat)
  case atStart => exact ⟨0, by omega, rfl, rfl, ⟨Below.refl _ _⟩⟩
  case round =>
    obtain ⟨k, hk, rfl, rfl, hb⟩ := hrel
    have bwr := HB.out.trans (hb.out.mono HB.out.size)
    obtain ⟨p0, p1, _⟩ := (HZ.out.later hb.out).cells
    by_cases hlt : k < L.length
    · have d1 : decide ((k : Int) < (L.length : Int)) = true := decide_eq_true (by omega)
      have k2 : (k : Int) < (L.length : Int) := by omega
      obtain ⟨u, hu⟩ : ∃ u, L[k]? = some u := ⟨L[k], List.getElem?_eq_getElem hlt⟩
      obtain ⟨b, off, ma, mc, rfl, hbl, c0, c1, c2, c3, c4, hsl⟩ := (HL.out.s.at'.later bwr).get k u hu
      have hzu := HL.out.z u (List.mem_of_getElem? hu)
      have bx := (Below.refl wr.heap.size wr).alloc (Nat.le_refl _) (.cells #[str u.key, .int .i64 u.seq, .bool u.mkr, str u.data, .slice ma u.l.length mc] 62)
      have hc := size_any u.key u.seq u.mkr u.data u.l _ ma u.l.length mc rfl (hsl.later bx).at' (by omega)
      have hT := Hid.mk (bw_step hu)
      have hw1 : wrap64 ((k : Int) + 1) = ((k + 1 : Nat) : Int) := by unfold wrap64; omega
      clear hu hsl bwr
      change Calls Tryz.prog 95 _ _ (fun e w' => e = .returned (.int .i64 (szV u)) ∧ _) at hc
      generalize bw (L.take k) = BK at *
      generalize szV u = SU at *
      go_wp2_with (go_at_call 95; refine hc.mono ?_; rintro e w1 ⟨rfl, b1⟩)
      exact ⟨⟨k + 1, by omega, by first | (rw [hw1]; done) | go_num, by rw [hT.out], ⟨below_seq hb.out (below_seq bx b1)⟩⟩, by first | (rw [hw1]; exact Nat.sub_lt_sub_left hlt (Nat.lt_succ_self k)) | (simp [intOf]; omega)⟩
    · obtain rfl : k = L.length := by omega
      have d1 : decide ((L.length : Int) < (L.length : Int)) = false := decide_eq_false (by omega)
      rw [List.take_length]
      go_wp2_with fail
      go_ret
      exact ⟨rfl, bwr⟩
set_option maxRecDepth 100000 in
set_option maxHeartbeats 4000000 in
theorem qBytes_any (L : List Vs) (next : Int) (w : World) (a : Option Addr) (n cap : Nat) (hL : Li w L a n cap) :
    Calls Tryz.prog 74 #[bv next a n cap] w fun e w' => e = .returned (.int .i64 (bw L)) ∧ Below w.heap.size w w' := by
  obtain rfl := hL.n
  have b0 := (Below.refl w.heap.size w).alloc (Nat.le_refl _) (.cells #[.int .i64 next, .slice a L.length cap] 24)
  have z0 := Bq.new w (.int .i64 next) (.slice a L.length cap)
  have hl := hL.l
  have HL := Hid.mk hL
  clear hL
  go_enter Tryz.func74, Tryz.ntmps74
  obtain ⟨p0, p1, _⟩ := z0.cells
  go_wp2_with fail
  have HB := Hid.mk b0
  have HZ := Hid.mk z0
  clear p0 p1 b0 z0
  generalize w.alloc (.cells #[.int .i64 next, .slice a L.length cap] 24) = W1 at *
  go_loopw [3, 4] (fun o i wr => ∃ k : Nat, k ≤ L.length ∧ i = .int .i64 (k : Int) ∧ o = .int .i64 (bw (L.take k)) ∧ Hid (Below W1.heap.size W1 wr)) (fun o i _ => L.length - (intOf i).toNat)
  case atStart => exact ⟨0, by omega, rfl, rfl, ⟨Below.refl _ _⟩⟩
  case round =>
    obtain ⟨k, hk, rfl, rfl, hb⟩ := hrel
    have bwr := HB.out.trans (hb.out.mono HB.out.size)
    obtain ⟨p0, p1, _⟩ := (HZ.out.later hb.out).cells
    by_cases hlt : k < L.length
    · have d1 : decide ((k : Int) < (L.length : Int)) = true := decide_eq_true (by omega)
      have k2 : (k : Int) < (L.length : Int) := by omega
      obtain ⟨u, hu⟩ : ∃ u, L[k]? = some u := ⟨L[k], List.getElem?_eq_getElem hlt⟩
      obtain ⟨b, off, ma, mc, rfl, hbl, c0, c1, c2, c3, c4, hsl⟩ := (HL.out.s.at'.later bwr).get k u hu
      have hzu := HL.out.z u (List.mem_of_getElem? hu)
      have hc := rSize_any u.key u.seq u.mkr u.data u.l wr ma u.l.length mc rfl hsl.at' (by omega)
      have hT := Hid.mk (bw_step hu)
      have hw1 : wrap64 ((k : Int) + 1) = ((k + 1 : Nat) : Int) := by unfold wrap64; omega
      clear hu hsl bwr
      change Calls Tryz.prog 118 _ _ (fun e w' => e = .returned (.int .i64 (szV u)) ∧ _) at hc
      generalize bw (L.take k) = BK at *
      generalize szV u = SU at *
      go_wp2_with (go_at_call 118; refine hc.mono ?_; rintro e w1 ⟨rfl, b1⟩)
      exact ⟨⟨k + 1, by omega, by first | (rw [hw1]; done) | go_num, by rw [hT.out], ⟨below_seq hb.out b1⟩⟩, by first | (rw [hw1]; exact Nat.sub_lt_sub_left hlt (Nat.lt_succ_self k)) | (simp [intOf]; omega)⟩
    · obtain rfl : k = L.length := by omega
      have d1 : decide ((L.length : Int) < (L.length : Int)) = false := decide_eq_false (by omega)
      rw [List.take_length]
      go_wp2_with fail
      go_ret
      exact ⟨rfl, bwr⟩
end Go.Proofs.YtdfjlmfnkhhnjaaGreatDoor.Stk

/- Where the versions of a key stand. -/
namespace Go.Proofs.YtdfjlmfnkhhnjaaGreatDoor.Stk
set_option maxRecDepth 100000
set_option linter.unusedVariables false
set_option linter.unusedSimpArgs false
open Go.RowKit
attribute [local go_sem ↓] Go.wp_at_zero Go.wp_at_succ
theorem bL_lt {a b : List UInt8} (h : lt a b) : Go.Op.bytesLess a b = true := by rw [bytesLess_eq]; exact decide_eq_true h
theorem bL_not {a b : List UInt8} (h : ¬ lt a b) : Go.Op.bytesLess a b = false := by rw [bytesLess_eq]; exact decide_eq_false h
theorem cmpS_any (a b : List UInt8) (w : World) : Calls Tryz.prog 91 #[str a, str b] w fun e w' => e = .returned (.int .i64 (bcmp a b)) ∧ w' = w := by
  rcases tri a b with h | h | h
  · have h1 := bL_lt h
    have e : bcmp a b = -1 := h
    rw [e]
    clear h e
    go_enter Tryz.func91, Tryz.ntmps91
    go_wp2
    go_ret
    exact ⟨rfl, rfl⟩
  · subst h
    have h1 := bL_not (lt_irrefl (a := a))
    rw [bcmp_self]
    go_enter Tryz.func91, Tryz.ntmps91
    go_wp2
    go_ret
    exact ⟨rfl, rfl⟩
  · have h1 := bL_lt h
    have h2 := bL_not (lt_asymm h)
    have h3 : (a == b) = false := by rw [beq_eq_false_iff_ne]; rintro rfl; exact lt_irrefl h
    have e : bcmp a b = 1 := by rw [bcmp_neg b a, h]; rfl
    rw [e]
    clear h e
    go_enter Tryz.func91, Tryz.ntmps91
    go_wp2
    go_ret
    exact ⟨rfl, rfl⟩
end Go.Proofs.YtdfjlmfnkhhnjaaGreatDoor.Stk

/- places. -/
namespace Go.Proofs.YtdfjlmfnkhhnjaaGreatDoor.Stk
set_option maxRecDepth 100000
set_option linter.unusedVariables false
set_option linter.unusedSimpArgs false
open Go.RowKit
attribute [local go_sem ↓] Go.wp_at_zero Go.wp_at_succ
attribute [local go_sem ↓] slVe
end Go.Proofs.YtdfjlmfnkhhnjaaGreatDoor.Stk

/- Get and GetVersion. -/
namespace Go.Proofs.YtdfjlmfnkhhnjaaGreatDoor.Stk
set_option maxRecDepth 100000
set_option linter.unusedVariables false
set_option linter.unusedSimpArgs false
open Go.RowKit
attribute [local go_sem ↓] Go.wp_at_zero Go.wp_at_succ
attribute [local go_sem ↓] slVe
/-- the versions of a key that stand from a place on -/
def gpL (L : List Vs) (i : Nat) (k : List UInt8) : List Vs := (L.drop i).take (ken (L.drop i) k)
end Go.Proofs.YtdfjlmfnkhhnjaaGreatDoor.Stk

/- refused. -/
namespace Go.Proofs.YtdfjlmfnkhhnjaaGreatDoor.Stk
set_option maxRecDepth 100000
set_option linter.unusedVariables false
set_option linter.unusedSimpArgs false
open Go.RowKit
attribute [local go_sem ↓] Go.wp_at_zero Go.wp_at_succ
/-- what names tells of a version -/
noncomputable def vrV (v : Vs) : Int := vrE v.key v.mkr v.data v.l
/-- why a value may not get a version more -/
noncomputable def rfE (next : Int) (L : List Vs) (v : Vs) : Int := if ¬ vrV v = 0 then vrV v else if 1099511627776 < next then 74 else if 256 ≤ L.length then 75 else if 65536 < wrap64 (bw L + szV v) then 76 else 0
theorem wrap_eq (x : Int) : IntKind.i64.wrap x = wrap64 x := by rw [IntKind.wrap_i64]; unfold wrap64; omega
theorem rfE_1 {next : Int} {L : List Vs} {v : Vs} {E : Int} (h : vrV v = E) (hE : ¬ E = 0) : rfE next L v = E := by unfold rfE; rw [h, if_pos hE]
theorem rfE_2 {next : Int} {L : List Vs} {v : Vs} (h : vrV v = 0) (h2 : 1099511627776 < next) : rfE next L v = 74 := by unfold rfE; rw [h, if_neg (by simp), if_pos h2]
theorem rfE_3 {next : Int} {L : List Vs} {v : Vs} (h : vrV v = 0) (h2 : ¬ 1099511627776 < next) (h3 : 256 ≤ L.length) : rfE next L v = 75 := by unfold rfE; rw [h, if_neg (by simp), if_neg h2, if_pos h3]
theorem rfE_4 {next : Int} {L : List Vs} {v : Vs} (h : vrV v = 0) (h2 : ¬ 1099511627776 < next) (h3 : ¬ 256 ≤ L.length) (h4 : 65536 < wrap64 (bw L + szV v)) : rfE next L v = 76 := by unfold rfE; rw [h, if_neg (by simp), if_neg h2, if_neg h3, if_pos h4]
end Go.Proofs.YtdfjlmfnkhhnjaaGreatDoor.Stk

/- An append by its run. -/
namespace Go.Proofs.YtdfjlmfnkhhnjaaGreatDoor.Stk
set_option maxRecDepth 100000
set_option linter.unusedVariables false
set_option linter.unusedSimpArgs false
open Go.RowKit
theorem app_run {ops : Array Oper} {rest : List Oper} {o : Oper} {a : Act} {Q : Exit → Act → World → Prop} {w w' : World} {v x' r : Value} {t1 t2 : TypeId} (hgd : o.guard = none) (s x : Operand) (ho : o.op = .call { callee := .builtin .append, args := #[s, x], argTypes := #[t1, t2] })
    (hs : a.eval s = v) (hx : a.eval x = x') (hr : (Builtin.append_ #[t1, t2] o.type #[v, x']).run Tryz.prog w = .ok r w')
    (h : wpList Tryz.prog ops Q rest (a.put o.dst r) w') : wpList Tryz.prog ops Q (o :: rest) a w := by
  refine wpList_plain hgd fun K hK => ?_
  unfold Oper.wp execOp
  simp only [ho, resolve, invoke, builtin, Sem.run_bind, Sem.run_pure, Result.andThen_ok, List.map_toArray, List.map_cons, List.map_nil, hs, hx, hr]
  exact hK _ _ h
end Go.Proofs.YtdfjlmfnkhhnjaaGreatDoor.Stk

/- Concat of three lists of versions. -/
namespace Go.Proofs.YtdfjlmfnkhhnjaaGreatDoor.Stk
set_option maxRecDepth 100000
set_option linter.unusedVariables false
set_option linter.unusedSimpArgs false
open Go.RowKit
attribute [local go_sem ↓] Go.wp_at_zero Go.wp_at_succ
attribute [local go_sem ↓] slVe
/-- a row of versions of one's own; whose the pairs' rows are is not told -/
structure Ro (base : Nat) (w : World) (v : Value) (R : List Rv) : Prop where
  own : w.ownsRow base 62 5 v R.length (rcells R)
  le : base ≤ w.heap.size
theorem Ro.later {base : Nat} {w w' : World} {v : Value} {R : List Rv} (h : Ro base w v R) (hb : Below w.heap.size w w') : Ro base w' v R := ⟨own_same h.own (fun g hg => hb.block g (h.own.lt g hg).2), Nat.le_trans h.le hb.size⟩
theorem Ro.nil (w : World) (base : Nat) (h : base ≤ w.heap.size) : Ro base w (.slice none 0 0) [] := ⟨World.ownsRow_nil _ _ _ _, h⟩
theorem Ro.sl {base : Nat} {w : World} {v : Value} {R : List Rv} (h : Ro base w v R) : ∃ a c, v = .slice a R.length c := by
  rcases h.own.2 with ⟨rfl, h0⟩ | ⟨g, cap, cur, rfl, _⟩
  · exact ⟨none, 0, by rw [h0]⟩
  · exact ⟨_, cap, rfl⟩
end Go.Proofs.YtdfjlmfnkhhnjaaGreatDoor.Stk

/- exchanged. -/
namespace Go.Proofs.YtdfjlmfnkhhnjaaGreatDoor.Stk
set_option maxRecDepth 100000
set_option linter.unusedVariables false
set_option linter.unusedSimpArgs false
open Go.RowKit
attribute [local go_sem ↓] Go.wp_at_zero Go.wp_at_succ
attribute [local go_sem ↓] slVe
/-- the pairs' rows of some versions: of one's own, no two of them one, within two bounds -/
structure Mt (base lo hi : Nat) (w : World) (R : List Rv) : Prop where
  met : ∀ (k : Nat) (r : Rv), R[k]? = some r → Ow base w r.mv (r.v.l ++ r.z)
  par : ∀ (j k : Nat) (r r' : Rv), ¬ j = k → R[j]? = some r → R[k]? = some r' → ∀ b, r.mv.ownBlock = some b → r'.mv.ownBlock ≠ some b
  rng : ∀ (k : Nat) (r : Rv), R[k]? = some r → ∀ b, r.mv.ownBlock = some b → lo ≤ b ∧ b < hi
theorem Fo.mt {base : Nat} {w : World} {v : Value} {R : List Rv} (h : Fo base w v R) : Mt base base w.heap.size w R := ⟨h.met, h.par, fun k r hr b hb => (h.met k r hr).own.lt b hb⟩
theorem Mt.later {base lo hi : Nat} {w w' : World} {R : List Rv} (h : Mt base lo hi w R) (hb : Below w.heap.size w w') : Mt base lo hi w' R := ⟨fun k r hr => (h.met k r hr).later hb, h.par, h.rng⟩
theorem Mt.base {b b' lo hi : Nat} {w : World} {R : List Rv} (h : Mt b lo hi w R) (hb : b' ≤ b) : Mt b' lo hi w R := ⟨fun k r hr => (h.met k r hr).base hb, h.par, h.rng⟩
theorem Mt.mono {b lo hi lo' hi' : Nat} {w : World} {R : List Rv} (h : Mt b lo hi w R) (h1 : lo' ≤ lo) (h2 : hi ≤ hi') : Mt b lo' hi' w R := ⟨h.met, h.par, fun k r hr x hx => by have := h.rng k r hr x hx; omega⟩
/-- two that lie apart, side by side -/
theorem Mt.append {base lo hi l1 h1 l2 h2 : Nat} {w : World} {X Y : List Rv} (hX : Mt base l1 h1 w X) (hY : Mt base l2 h2 w Y) (hd : h1 ≤ l2 ∨ h2 ≤ l1) (q1 : lo ≤ l1) (q2 : lo ≤ l2) (q3 : h1 ≤ hi) (q4 : h2 ≤ hi) : Mt base lo hi w (X ++ Y) := by
  have cut : ∀ (k : Nat) (r : Rv), (X ++ Y)[k]? = some r → (k < X.length ∧ X[k]? = some r) ∨ (X.length ≤ k ∧ Y[k - X.length]? = some r) := fun k r hr => by
    by_cases hk : k < X.length
    · rw [List.getElem?_append_left hk] at hr; exact .inl ⟨hk, hr⟩
    · rw [List.getElem?_append_right (by omega)] at hr; exact .inr ⟨by omega, hr⟩
  refine ⟨fun k r hr => ?_, fun j k r r' hjk hj hk b hb hb' => ?_, fun k r hr b hb => ?_⟩
  · rcases cut k r hr with ⟨_, q⟩ | ⟨_, q⟩
    · exact hX.met _ _ q
    · exact hY.met _ _ q
  · rcases cut j r hj with ⟨n1, q⟩ | ⟨n1, q⟩ <;> rcases cut k r' hk with ⟨n2, q'⟩ | ⟨n2, q'⟩
    · exact hX.par j k r r' hjk q q' b hb hb'
    · have := hX.rng _ _ q b hb; have := hY.rng _ _ q' b hb'; omega
    · have := hY.rng _ _ q b hb; have := hX.rng _ _ q' b hb'; omega
    · exact hY.par _ _ r r' (by omega) q q' b hb hb'
  · rcases cut k r hr with ⟨_, q⟩ | ⟨_, q⟩
    · have := hX.rng _ _ q b hb; omega
    · have := hY.rng _ _ q b hb; omega
theorem Ro.fo {base b2 lo hi : Nat} {w : World} {v : Value} {R : List Rv} (h : Ro base w v R) (hb : b2 ≤ base) (hm : Mt b2 lo hi w R) : Fo b2 w v R :=
  ⟨⟨h.own.1, by
    rcases h.own.2 with e | ⟨g, cap, cur, e1, e2, e3⟩
    · exact Or.inl e
    · exact Or.inr ⟨g, cap, cur, e1, Nat.le_trans hb e2, e3⟩⟩, Nat.le_trans hb h.le, hm.met, hm.par⟩
end Go.Proofs.YtdfjlmfnkhhnjaaGreatDoor.Stk

/- DeleteVersion. -/
namespace Go.Proofs.YtdfjlmfnkhhnjaaGreatDoor.Stk
set_option maxRecDepth 100000
set_option linter.unusedVariables false
set_option linter.unusedSimpArgs false
open Go.RowKit
attribute [local go_sem ↓] Go.wp_at_zero Go.wp_at_succ
attribute [local go_sem ↓] slVe
/-- a bucket of one's own is answered, and a number -/
def RB (w w' : World) (e : Ending) (next : Int) (X : List Vs) (c : Int) : Prop := ∃ v, e = .returned (.tuple #[.agg #[.int .i64 next, v], .int .i64 c]) ∧ Cp w.heap.size w' v X ∧ Below w.heap.size w w'
end Go.Proofs.YtdfjlmfnkhhnjaaGreatDoor.Stk

/- added. -/
namespace Go.Proofs.YtdfjlmfnkhhnjaaGreatDoor.Stk
set_option maxRecDepth 100000
set_option linter.unusedVariables false
set_option linter.unusedSimpArgs false
open Go.RowKit
attribute [local go_sem ↓] Go.wp_at_zero Go.wp_at_succ
attribute [local go_sem ↓] slVe
/-- a bucket of one's own is answered, and two numbers -/
def RC (w w' : World) (e : Ending) (next : Int) (X : List Vs) (s c : Int) : Prop := ∃ v, e = .returned (.tuple #[.agg #[.int .i64 next, v], .int .i64 s, .int .i64 c]) ∧ Cp w.heap.size w' v X ∧ Below w.heap.size w w'
theorem results_ctt {fn : Func} {p t u : Tmp} {ty : TypeId} (h : fn.results = #[.cell p ty, .tmp t, .tmp u]) (tmps : Array Value) (P : Program) (w : World) :
    (results fn tmps).run P w = ((asAddr (tmps.getD p undef)).run P w).andThen fun a w₁ => ((loadVar ty a).run P w₁).andThen fun v w₂ => .ok (.tuple #[v, tmps.getD t undef, tmps.getD u undef]) w₂ := by
  simp only [results, h]
  simp [Sem.run_bind, Result.andThen]
theorem rfE_zero {next : Int} {L : List Vs} {v : Vs} (h : rfE next L v = 0) : vrV v = 0 ∧ next ≤ 1099511627776 ∧ L.length < 256 ∧ wrap64 (bw L + szV v) ≤ 65536 := by
  by_cases h1 : vrV v = 0
  · by_cases h2 : 1099511627776 < next
    · rw [rfE_2 h1 h2] at h; omega
    · by_cases h3 : 256 ≤ L.length
      · rw [rfE_3 h1 h2 h3] at h; omega
      · by_cases h4 : 65536 < wrap64 (bw L + szV v)
        · rw [rfE_4 h1 h2 h3 h4] at h; omega
        · exact ⟨h1, by omega, by omega, by omega⟩
  · rw [rfE_1 rfl h1] at h
    exact absurd h h1
end Go.Proofs.YtdfjlmfnkhhnjaaGreatDoor.Stk

/- Put and Delete. -/
namespace Go.Proofs.YtdfjlmfnkhhnjaaGreatDoor.Stk
set_option maxRecDepth 100000
set_option linter.unusedVariables false
set_option linter.unusedSimpArgs false
open Go.RowKit
attribute [local go_sem ↓] Go.wp_at_zero Go.wp_at_succ
/-- what is answered where a version is added -/
def AdP (w w' : World) (e : Ending) (next : Int) (L : List Vs) (i : Nat) (v : Vs) : Prop := (¬ rfE next L v = 0 ∧ RC w w' e 0 [] 0 (rfE next L v)) ∨ (rfE next L v = 0 ∧ ¬ puE (gpL L i v.key) v = 0 ∧ RC w w' e 0 [] 0 (puE (gpL L i v.key) v)) ∨ (rfE next L v = 0 ∧ puE (gpL L i v.key) v = 0 ∧ RC w w' e (wrap64 (next + 1)) (L.take i ++ puL (gpL L i v.key) v ++ L.drop (i + ken (L.drop i) v.key)) v.seq 0)
/-- there is one answer, in one of three ways -/
theorem AdP.out {w w' : World} {e : Ending} {next : Int} {L : List Vs} {i : Nat} {v : Vs} (h : AdP w w' e next L i v) : ∃ n1 X s c, RC w w' e n1 X s c ∧ ∀ W W' E, RC W W' E n1 X s c → AdP W W' E next L i v := by
  rcases h with ⟨h1, h2⟩ | ⟨h1, h2, h3⟩ | ⟨h1, h2, h3⟩
  · exact ⟨_, _, _, _, h2, fun _ _ _ q => .inl ⟨h1, q⟩⟩
  · exact ⟨_, _, _, _, h3, fun _ _ _ q => .inr (.inl ⟨h1, h2, q⟩)⟩
  · exact ⟨_, _, _, _, h3, fun _ _ _ q => .inr (.inr ⟨h1, h2, q⟩)⟩
end Go.Proofs.YtdfjlmfnkhhnjaaGreatDoor.Stk
