/- PageKeeps: the words, value1. -/
import Derived.Test.YtibmnpkmbhjniaaBacW
namespace Go.Proofs.Ytibmnpkmbhjniaa
set_option linter.unusedVariables false
set_option linter.unusedSimpArgs false
open Go.RowKit
attribute [local go_sem ↓] Go.wp_at_zero Go.wp_at_succ
attribute [local go_sem ↓] slPe sl9 ad9
theorem hit_put {l : List En} (hs : Srt l) (k v : List UInt8) : hit (put l k v) k = true := by rw [hit_look (put_srt hs k v), look_put hs]; simp
theorem hit_del {l : List En} (hs : Srt l) (k : List UInt8) : hit (del l k) k = false := by rw [hit_look (del_srt hs k), look_del hs]; simp
theorem del_same {l : List En} {k : List UInt8} (h : hit l k = false) : del l k = l := by unfold del; rw [h]; simp
theorem get_put {l : List En} (hs : Srt l) (k v : List UInt8) : (put l k v)[fnd (put l k v) k]? = some ⟨k, v⟩ := by
  have h1 := hit_put hs k v
  have h2 := look_fnd (put_srt hs k v) k
  rw [h1, if_pos rfl, look_put hs, if_pos rfl] at h2
  unfold hit at h1
  split at h1
  · next e he =>
    rw [he] at h2 ⊢
    have hk : e.key = k := by simpa using h1
    have hv : v = e.val := by simpa using h2
    congr 1
    exact En.ext' hk hv.symm
  · cases h1
theorem del_put {l : List En} (hs : Srt l) {k : List UInt8} (v : List UInt8) (h : hit l k = false) : del (put l k v) k = l := by
  induction l with
  | nil => rw [put_nil, del_eq rfl]
  | cons e l ih =>
    rcases tri e.key k with q | q | q
    · rw [put_lt q, del_lt q, ih hs.tail (by rw [hit_cons_lt q] at h; exact h)]
    · have hn : ¬ lt e.key k := by rw [q]; exact lt_irrefl
      rw [hit_cons_not hn, q] at h
      simp at h
    · rw [put_gt q, del_eq rfl]
theorem look_mem {l : List En} (hs : Srt l) {e : En} (h : e ∈ l) : look l e.key = some e.val := by
  induction l with
  | nil => simp at h
  | cons f l ih =>
    show (if f.key = e.key then _ else _) = _
    rcases List.mem_cons.1 h with rfl | h
    · rw [if_pos rfl]
    · have := hs.head e h
      rw [if_neg (fun q => by rw [q] at this; exact lt_irrefl this)]
      exact ih hs.tail h
def v1 (l : List En) (k : List UInt8) : List UInt8 := match look l k with
  | none => []
  | some v => 43 :: v
theorem v1_put {l : List En} (hs : Srt l) (k v j : List UInt8) (h : j ≠ k) : v1 (put l k v) j = v1 l j := by unfold v1; rw [look_put hs, if_neg h]
theorem v1_del {l : List En} (hs : Srt l) (k j : List UInt8) (h : j ≠ k) : v1 (del l k) j = v1 l j := by unfold v1; rw [look_del hs, if_neg h]
theorem v1_mem {l : List En} (hs : Srt l) {e : En} (h : e ∈ l) : v1 l e.key = 43 :: e.val := by unfold v1; rw [look_mem hs h]
theorem value1_any (l : List En) (k : List UInt8) (hs : Srt l) (w : World) (a : Option Addr) (n cap : Nat) (hn : l.length = n) (hP : PIn w a l) (hl : l.length ≤ 1000000) (hz : ∀ (j : Nat) (e : En), l[j]? = some e → e.val.length ≤ 140737488351232) :
    Calls Try.prog 20 #[.slice a n cap, str k] w fun e w' => e = .returned (str (v1 l k)) ∧ Below w.heap.size w w' := by
  subst hn
  have hf := find_any l k hs w a cap hP (by omega)
  unfold found at hf
  have hlk := look_fnd hs k
  by_cases hh : hit l k = true
  · obtain ⟨e, he⟩ : ∃ e, l[fnd l k]? = some e := by
      unfold hit at hh
      split at hh
      · next e he => exact ⟨e, he⟩
      · cases hh
    rw [hh, if_pos rfl, he] at hlk
    have HV : Hid (v1 l k = 43 :: e.val) := ⟨by unfold v1; rw [hlk]; rfl⟩
    have hlt : (fnd l k : Int) < (l.length : Int) := by have := (List.getElem?_eq_some_iff.1 he).1; omega
    have ra : ∀ w, (adS (.string ⟨#[43]⟩) (str e.val)).run Try.prog w = .ok (str (43 :: e.val)) w := fun w => run_ad [43] e.val (by have := hz _ _ he; simp; omega) w
    rw [hh] at hf
    generalize fnd l k = f at *
    clear hlk hh
    go_enter Try.func20, Try.ntmps20
    go_wp2_with fail
    refine hf.mono ?_
    rintro e1 w1 ⟨rfl, b1⟩
    dsimp only
    obtain ⟨b, off, rfl, hbl, c0, c1⟩ := (hP.later b1).get f e he
    go_wp2_with fail
    go_ret
    exact ⟨by rw [HV.out]; rfl, b1⟩
  · have hh' : hit l k = false := by simpa using hh
    rw [hh', if_neg (by decide)] at hlk
    have HV : Hid (v1 l k = []) := ⟨by unfold v1; rw [hlk]⟩
    rw [hh'] at hf
    generalize fnd l k = f at *
    clear hlk hh hh'
    go_enter Try.func20, Try.ntmps20
    go_wp2_with fail
    refine hf.mono ?_
    rintro e1 w1 ⟨rfl, b1⟩
    dsimp only
    go_wp2_with fail
    go_ret
    exact ⟨by rw [HV.out]; rfl, b1⟩
/-- a slice of texts that came in -/
structure TIn (w : World) (a : Option Addr) (l : List (List UInt8)) : Prop where
  get : ∀ (k : Nat) t, l[k]? = some t → ∃ b off, a = some ⟨b, off, none⟩ ∧ b < w.heap.size ∧ w.cell? ⟨b, off + k, none⟩ = some (str t)
theorem TIn.later {w w' : World} {a : Option Addr} {l : List (List UInt8)} (h : TIn w a l) (hb : Below w.heap.size w w') : TIn w' a l := by
  refine ⟨fun k t hk => ?_⟩
  obtain ⟨b, off, h1, h2, h3⟩ := h.get k t hk
  exact ⟨b, off, h1, Nat.lt_of_lt_of_le h2 hb.size, by rw [hb.cell (p := ⟨b, _, none⟩) h2]; exact h3⟩
end Go.Proofs.Ytibmnpkmbhjniaa
