/- The laws' own lists: Sorted, cut, full; value1. -/
import Derived.Test.YtibmnpkmbhjniaaLaw
import Derived.Test.YtibmnpkmbhjniaaRea
namespace Go.Proofs.Ytibmnpkmbhjniaa
set_option linter.unusedVariables false
set_option linter.unusedSimpArgs false
open Go.RowKit
attribute [local go_sem ↓] Go.wp_at_zero Go.wp_at_succ
attribute [local go_sem ↓] slPe sl9
set_option maxHeartbeats 2000000 in
theorem sorted_any (l : List En) (w : World) (a : Option Addr) (n cap : Nat) (hn : l.length = n) (hP : PIn w a l) (hl : l.length ≤ 9223372036854775807) :
    Calls Try.prog 15 #[.slice a n cap] w fun e w' => ∃ v, e = .returned v ∧ Ow w.heap.size w' v (srtd l) ∧ Below w.heap.size w w' := by
  subst hn
  have HE : Hid (∀ k, k ≤ 200 → (k = l.length ∨ k = 200) → srt_upto l k = srtd l) := ⟨fun k h1 h2 => by
    rcases h2 with rfl | rfl
    · exact srt_upto_all (Nat.le_refl _) h1
    · rfl⟩
  go_enter Try.func15, Try.ntmps15
  go_wp2_with fail
  go_loopw [3, 4] (fun v i wr => ∃ k : Nat, k ≤ l.length ∧ k ≤ 200 ∧ i = .int .i64 (k : Int) ∧ Hid (Ow w.heap.size wr v (srt_upto l k)) ∧ Below w.heap.size w wr) (fun _ i _ => l.length - (intOf i).toNat)
  case atStart => exact ⟨0, by omega, by omega, rfl, ⟨Ow.nil _ _ (Nat.le_refl _)⟩, Below.refl _ _⟩
  case round =>
    obtain ⟨k, hk, hk2, rfl, HO, hb⟩ := hrel
    by_cases h1 : k < l.length
    · have d1 : decide ((k : Int) < (l.length : Int)) = true := decide_eq_true (by omega)
      have k2 : (k : Int) < (l.length : Int) := by omega
      by_cases h2 : k < 200
      · have d2 : decide ((k : Int) < 200) = true := decide_eq_true (by omega)
        obtain ⟨p, hp⟩ : ∃ p, l[k]? = some p := ⟨l[k], List.getElem?_eq_getElem h1⟩
        obtain ⟨b1, off1, rfl, hbl, c0, c1⟩ := (hP.later hb).get k p hp
        have HS := Hid.mk (srt_upto_succ hp)
        have hle := srt_upto_len l k
        obtain ⟨av, cv, rfl, hSv⟩ := HO.out.sl
        have hpu := fun w' (h : Below wr.heap.size wr w') => rPut_any (srt_upto l k) p.key p.val w' av _ cv rfl (hSv.later h) (by omega)
        generalize hU : srt_upto l k = U at *
        go_wp2_with fail
        go_region_held3 (fun w' => w'.cell? ⟨b1, off1 + k * 2, none⟩ = some (str p.key) ∧ w'.cell? ⟨b1, off1 + k * 2 + 1, none⟩ = some (str p.val)) (first | (go_keep; done) | exact ⟨c0, c1⟩ | exact ⟨(Below.cell (p := ⟨b1, _, none⟩) b2 hbl).trans c0, (Below.cell (p := ⟨b1, _, none⟩) b2 hbl).trans c1⟩) ((go_at_call 32; with_reducible refine Calls.mono (hpu _ (Below.refl _ _).drew) ?_; rintro e w2 ⟨v2, rfl, o2, b2⟩))
        have HB := Hid.mk ((hb.drew).trans (b2.mono hb.size))
        have HO2 := Hid.mk (o2.base (b' := w.heap.size) hb.size)
        clear o2 b2 hb HO hSv hpu
        go_wp2_with fail
        exact ⟨⟨k + 1, by omega, by omega, by go_num, ⟨by rw [HS.out]; exact HO2.out⟩, HB.out⟩, by simp [intOf]; omega⟩
      · have d2 : decide ((k : Int) < 200) = false := decide_eq_false (by omega)
        have HV := Hid.mk (HE.out k hk2 (Or.inr (by omega)))
        go_wp2_with fail
        go_ret
        exact ⟨_, rfl, by rw [← HV.out]; exact HO.out, hb⟩
    · obtain rfl : k = l.length := by omega
      have d1 : decide ((l.length : Int) < (l.length : Int)) = false := decide_eq_false (by omega)
      have HV := Hid.mk (HE.out l.length hk2 (Or.inl rfl))
      go_wp2_with fail
      go_ret
      exact ⟨_, rfl, by rw [← HV.out]; exact HO.out, hb⟩
/-- an entry that may stand in a page -/
def ctE (e : En) : En := ⟨e.key.take 100, e.val.take 150⟩
theorem ctE_short (e : En) : lng (ctE e) = false := by simp [lng, ctE]; omega
theorem results_cell1 {fn : Func} {p : Tmp} {ty : TypeId} (h : fn.results = #[.cell p ty]) (tmps : Array Value) (P : Program) (w : World) :
    (results fn tmps).run P w = ((asAddr (tmps.getD p undef)).run P w).andThen fun a w₁ => (loadVar ty a).run P w₁ := by
  simp only [results, h]
  simp [Sem.run_bind, Result.andThen]
theorem set2 {w : World} {R : Nat} {a b a' b' : Value} {t : TypeId} (h : w.heap[R]? = some (.cells #[a, b] t (0, 0))) :
    ((w.setCell ⟨R, 0, none⟩ a').setCell ⟨R, 1, none⟩ b').heap[R]? = some (.cells #[a', b'] t (0, 0)) :=
  heap_setCell_same _ R 1 _ t b' (heap_setCell_same w R 0 #[a, b] t a' h)
theorem ta {l : List UInt8} {n : Nat} (h : ¬ n < l.length) : l.take n = l := List.take_of_length_le (by omega)
set_option maxHeartbeats 1000000 in
theorem lcut_any (p : En) (w : World) (h1 : p.key.length ≤ 9223372036854775807) (h2 : p.val.length ≤ 9223372036854775807) :
    Calls Try.prog 21 #[pv p] w fun e w' => e = .returned (pv (ctE p)) ∧ Below w.heap.size w w' := by
  obtain ⟨a, b⟩ := p
  dsimp only at h1 h2
  have HC : Hid (pv (ctE ⟨a, b⟩) = .agg #[str (a.take 100), str (b.take 150)]) := ⟨rfl⟩
  have HB : ∀ o1 o2 : Obj, Below w.heap.size w ((w.alloc o1).alloc o2) := fun o1 o2 => ((Below.refl _ _).alloc (Nat.le_refl _) o1).alloc (by simp) o2
  by_cases ha : 100 < a.length
  · have da : decide ((100 : Int) < (a.length : Int)) = true := decide_eq_true (by omega)
    have ra : ∀ w, (slS (str a) none (some (.int .i64 100)) none).run Try.prog w = .ok (str (a.take 100)) w := run_hi a 100 (by omega) h1
    by_cases hb : 150 < b.length
    · have db : decide ((150 : Int) < (b.length : Int)) = true := decide_eq_true (by omega)
      have rb : ∀ w, (slS (str b) none (some (.int .i64 150)) none).run Try.prog w = .ok (str (b.take 150)) w := run_hi b 150 (by omega) h2
      go_enter Try.func21, Try.ntmps21
      go_wp2_with fail
      refine bodyPost_ret (v := .agg #[str (a.take 100), str (b.take 150)]) ?_ rfl ⟨by rw [HC.out], HB _ _⟩
      rw [results_cell1 rfl]
      go_simp
    · have db : decide ((150 : Int) < (b.length : Int)) = false := decide_eq_false (by omega)
      rw [ta hb] at HC
      go_enter Try.func21, Try.ntmps21
      go_wp2_with fail
      refine bodyPost_ret (v := .agg #[str (a.take 100), str b]) ?_ rfl ⟨by rw [HC.out], HB _ _⟩
      rw [results_cell1 rfl]
      go_simp
  · have da : decide ((100 : Int) < (a.length : Int)) = false := decide_eq_false (by omega)
    rw [ta ha] at HC
    by_cases hb : 150 < b.length
    · have db : decide ((150 : Int) < (b.length : Int)) = true := decide_eq_true (by omega)
      have rb : ∀ w, (slS (str b) none (some (.int .i64 150)) none).run Try.prog w = .ok (str (b.take 150)) w := run_hi b 150 (by omega) h2
      go_enter Try.func21, Try.ntmps21
      go_wp2_with fail
      refine bodyPost_ret (v := .agg #[str a, str (b.take 150)]) ?_ rfl ⟨by rw [HC.out], HB _ _⟩
      rw [results_cell1 rfl]
      go_simp
    · have db : decide ((150 : Int) < (b.length : Int)) = false := decide_eq_false (by omega)
      rw [ta hb] at HC
      go_enter Try.func21, Try.ntmps21
      go_wp2_with fail
      refine bodyPost_ret (v := .agg #[str a, str b]) ?_ rfl ⟨by rw [HC.out], HB _ _⟩
      rw [results_cell1 rfl]
      go_simp
/-- as many of any as have room -/
def fulU (room : Nat) (raw : List En) (k : Nat) : List En := (raw.take k).foldl (fun l x => if tot (srtd (l ++ [ctE x])) ≤ room then srtd (l ++ [ctE x]) else l) []
def fulL (room : Nat) (raw : List En) : List En := fulU room raw 300
theorem fulU_succ {room : Nat} {raw : List En} {k : Nat} {e : En} (h : raw[k]? = some e) : fulU room raw (k + 1) = if tot (srtd (fulU room raw k ++ [ctE e])) ≤ room then srtd (fulU room raw k ++ [ctE e]) else fulU room raw k := by
  unfold fulU
  rw [List.take_add_one, h, List.foldl_append]
  rfl
theorem fulU_all {room : Nat} {raw : List En} {k : Nat} (h : raw.length ≤ k) (h2 : k ≤ 300) : fulU room raw k = fulL room raw := by
  unfold fulL fulU; rw [List.take_of_length_le h, List.take_of_length_le (by omega)]
theorem fulU_inv (room : Nat) (raw : List En) (k : Nat) : Srt (fulU room raw k) ∧ (∀ e ∈ fulU room raw k, lng e = false) ∧ tot (fulU room raw k) ≤ room := by
  refine foldl_inv _ (fun l => Srt l ∧ (∀ e ∈ l, lng e = false) ∧ tot l ≤ room) _ (fun l x _ h => ?_) _ ⟨Srt.nil, by simp, by simp [tot_nil]⟩
  split
  · next hc =>
    refine ⟨srtd_srt _, fun e he => ?_, hc⟩
    rcases List.mem_append.1 (srtd_mem he) with q | q
    · exact h.2.1 e q
    · rw [List.mem_singleton.1 q]; exact ctE_short x
  · exact h
theorem fulU_len (raw : List En) (k : Nat) : (fulU 507 raw k).length ≤ 253 := by
  have := (fulU_inv 507 raw k).2.2
  have := tot_len (fulU 507 raw k)
  omega
theorem srtd_tot_small {l : List En} (h : ∀ e ∈ l, lng e = false) : tot (srtd l) ≤ 50400 := by
  have := tot_short (l := srtd l) fun e he => h e (srtd_mem he)
  have := srtd_len l
  omega
end Go.Proofs.Ytibmnpkmbhjniaa
