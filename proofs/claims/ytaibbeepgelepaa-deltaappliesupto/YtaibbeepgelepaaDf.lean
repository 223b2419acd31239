/- What a delta's laws stand on. -/
import Derived.Test.YtaibbeepgelepaaDx
namespace Go.Proofs.Ytaibbeepgelepaa
set_option linter.unusedVariables false
set_option linter.unusedSimpArgs false
open Go.RowKit
theorem sN_le {next : Int} {L : List Vs} (h : RtB next L) : 0 ≤ bw L ∧ bw L ≤ 65536 := ⟨by rw [h.bws]; exact Int.natCast_nonneg _, h.byt⟩
theorem wr_sum {n1 n2 : Int} {L M : List Vs} (h1 : RtB n1 L) (h2 : RtB n2 M) : wrap64 (bw L + bw M) = bw L + bw M := by
  have a1 := sN_le h1
  have a2 := sN_le h2
  unfold wrap64
  omega
theorem ap_zero {m n1 n2 : Int} {b d : List Vs} (hb : RtB n1 b) (hd : RtB n2 d) (hl : b.length + d.length ≤ 256) (hw : bw b + bw d ≤ 65536) : apE m m b d = 0 := by
  unfold apE
  rw [if_neg (by simp), if_neg (by omega), wr_sum hb hd, if_neg (by omega)]
theorem ap_part {next m : Int} {L : List Vs} (h : RtB next L) (k : Int) : apE k k (blL m L) (snL m L) = 0 := by
  refine ap_zero (n1 := next) (n2 := next) (h.sub List.filter_sublist) (h.sub List.filter_sublist) ?_ ?_
  · rw [part_len]; exact h.len
  · rw [part_bw h]; exact h.byt
theorem ap_step {next m n : Int} {L : List Vs} (h : RtB next L) (hmn : m ≤ n) (k : Int) : apE k k (blL m L) (snL m (blL n L)) = 0 := by
  have := ap_part (m := m) (h.sub (M := blL n L) List.filter_sublist) k
  rw [bl_bl hmn] at this
  exact this
theorem sn_next {next : Int} {L : List Vs} (h : RtB next L) : snL next L = [] := by
  unfold snL
  rw [List.filter_eq_nil_iff]
  intro v hv
  have := (h.ok v hv).2.1
  simp only [decide_eq_true_eq]
  omega
theorem ap_again {next : Int} {L : List Vs} (h : RtB next L) (k : Int) : apE k k L (snL next L) = 0 := by
  rw [sn_next h]
  have hl := h.len
  have hb := sN_le h
  unfold apE
  rw [if_neg (by simp), if_neg (by simp; omega)]
  have : bw [] = 0 := rfl
  rw [this, Int.add_zero]
  have e : wrap64 (bw L) = bw L := by unfold wrap64; omega
  rw [e, if_neg (by omega)]
theorem mg_again {next : Int} {L : List Vs} (h : RtB next L) : mg L (snL next L) = L := by rw [sn_next h, mg_nil2]
theorem ap_ne {next since : Int} {L M : List Vs} (h : ¬ since = next) : apE next since L M = 91 := by unfold apE; rw [if_pos h]
/-- a bucket in its box -/
structure Bk (w : World) (g : Nat) (next : Int) (L : List Vs) (a : Option Addr) (c : Nat) : Prop where
  z : Bq w g (.int .i64 next) (.slice a L.length c)
  l : Li w L a L.length c
theorem Bk.later {w w' : World} {g : Nat} {next : Int} {L : List Vs} {a : Option Addr} {c : Nat} (h : Bk w g next L a c) (hb : Below w.heap.size w w') : Bk w' g next L a c := ⟨h.z.later hb, h.l.later hb⟩
theorem Bk.new {w : World} {next : Int} {L : List Vs} {a : Option Addr} {c : Nat} (h : Li w L a L.length c) : Bk (w.alloc (.cells #[.int .i64 next, .slice a L.length c] 24)) w.heap.size next L a c := ⟨Bq.new _ _ _, h.later ((Below.refl _ _).alloc (Nat.le_refl _) _)⟩
/-- a delta in its box -/
structure Dk (w : World) (g : Nat) (since next : Int) (L : List Vs) (a : Option Addr) (c : Nat) : Prop where
  z : Bd w g (.int .i64 since) (.int .i64 next) (.slice a L.length c)
  l : Li w L a L.length c
theorem Dk.later {w w' : World} {g : Nat} {since next : Int} {L : List Vs} {a : Option Addr} {c : Nat} (h : Dk w g since next L a c) (hb : Below w.heap.size w w') : Dk w' g since next L a c := ⟨h.z.later hb, h.l.later hb⟩
theorem Dk.new {w : World} {since next : Int} {L : List Vs} {a : Option Addr} {c : Nat} (h : Li w L a L.length c) : Dk (w.alloc (.cells #[.int .i64 since, .int .i64 next, .slice a L.length c] 27)) w.heap.size since next L a c := ⟨Bd.new _ _ _ _, h.later ((Below.refl _ _).alloc (Nat.le_refl _) _)⟩
theorem bl_alloc (w : World) (o : Obj) : Below w.heap.size w (w.alloc o) := (Below.refl _ _).alloc (Nat.le_refl _) o
theorem Cp.li {base : Nat} {w : World} {v : Value} {L : List Vs} (h : Cp base w v L) (hl : L.length ≤ 1954687338240) (hz : ∀ v ∈ L, v.l.length ≤ 4398046510976) : ∃ a c, v = .slice a L.length c ∧ Li w L a L.length c := by
  obtain ⟨a, c, e, s⟩ := h.ls
  exact ⟨a, c, e, ⟨rfl, s, hl, hz⟩⟩
theorem bal {w w' : World} (h : Below w.heap.size w w') (o : Obj) : Below w.heap.size w (w'.alloc o) := h.alloc h.size o
theorem bset {B : Nat} {w w' : World} (h : Below B w w') {g : Nat} (hg : B ≤ g) (x y : Value) : Below B w ((w'.setCell ⟨g, 0, none⟩ x).setCell ⟨g, 1, none⟩ y) := (h.setCell (p := ⟨g, 0, none⟩) hg x).setCell (p := ⟨g, 1, none⟩) hg y
theorem bk_sets {w6 : World} {g base : Nat} {nx : Int} {X : List Vs} {za : Option Addr} {zc : Nat} {x y : Value} (hz : Bq w6 g x y) (hc : Cp base w6 (.slice za X.length zc) X) (hg : g < base) (hl : X.length ≤ 1954687338240 ∧ ∀ v ∈ X, v.l.length ≤ 4398046510976) : Bk ((w6.setCell ⟨g, 0, none⟩ (.int .i64 nx)).setCell ⟨g, 1, none⟩ (.slice za X.length zc)) g nx X za zc := by
  refine ⟨(hz.set0 _).set1 _, ?_⟩
  obtain ⟨a, c, e, s⟩ := ((hc.low hg (j := 0) (.int .i64 nx)).low hg (j := 1) (.slice za X.length zc)).ls
  injection e with e1 e2 e3
  subst e1 e3
  exact ⟨rfl, s, hl.1, hl.2⟩
theorem bk_news {w6 : World} {base : Nat} {nx : Int} {X : List Vs} {za : Option Addr} {zc : Nat} (hc : Cp base w6 (.slice za X.length zc) X) (hl : X.length ≤ 1954687338240 ∧ ∀ v ∈ X, v.l.length ≤ 4398046510976) : Bk (w6.alloc (.cells #[.int .i64 nx, .slice za X.length zc] 24)) w6.heap.size nx X za zc := by
  obtain ⟨a, c, e, s⟩ := hc.ls
  injection e with e1 e2 e3
  subst e1 e3
  exact Bk.new ⟨rfl, s, hl.1, hl.2⟩
theorem zq1 {w w5 : World} (h : Below (w.alloc (.cells #[.int .i64 0, .slice none 0 0] 24)).drew.heap.size (w.alloc (.cells #[.int .i64 0, .slice none 0 0] 24)).drew w5) : Bq w5 w.heap.size (.int .i64 0) (.slice none 0 0) := Bq.later (w := (w.alloc (.cells #[.int .i64 0, .slice none 0 0] 24)).drew) (Bq.new w _ _) h
theorem zq2 {w w5 : World} (h : Below (w.alloc (.cells #[.int .i64 0, .slice none 0 0] 24)).heap.size (w.alloc (.cells #[.int .i64 0, .slice none 0 0] 24)) w5) : Bq w5 w.heap.size (.int .i64 0) (.slice none 0 0) := Bq.later (Bq.new w _ _) h
theorem Bd.other {w : World} {g : Nat} {x y z : Value} (h : Bd w g x y z) {g2 j : Nat} (hg : g ≠ g2) (c : Value) : Bd (w.setCell ⟨g2, j, none⟩ c) g x y z := by
  unfold Bd
  rw [heap_setCell_other _ _ _ _ (by first | exact hg | exact hg.symm)]; exact h
theorem ap_count {next : Int} {L M : List Vs} (h : 256 < L.length + M.length) : apE next next L M = 75 := by
  unfold apE
  rw [if_neg (by simp), if_pos h]
theorem ap_bytes {next : Int} {L M : List Vs} (h : ¬ 256 < L.length + M.length) (hb : 65536 < wrap64 (bw L + bw M)) : apE next next L M = 76 := by
  unfold apE
  rw [if_neg (by simp), if_neg h, if_pos hb]
theorem ap_ok {next : Int} {L M : List Vs} (h : ¬ 256 < L.length + M.length) (hb : ¬ 65536 < wrap64 (bw L + bw M)) : apE next next L M = 0 := by
  unfold apE
  rw [if_neg (by simp), if_neg h, if_neg hb]
/-- what Apply tells, in one form -/
def aX (next since : Int) (L M : List Vs) : List Vs := if apE next since L M = 0 then mg L M else []
def aN (next since mnext : Int) (L M : List Vs) : Int := if apE next since L M = 0 then mnext else 0
theorem aX_ok {next since : Int} {L M : List Vs} (h : apE next since L M = 0) : aX next since L M = mg L M := by unfold aX; rw [if_pos h]
theorem aX_no {next since : Int} {L M : List Vs} (h : ¬ apE next since L M = 0) : aX next since L M = [] := by unfold aX; rw [if_neg h]
theorem aN_ok {next since mnext : Int} {L M : List Vs} (h : apE next since L M = 0) : aN next since mnext L M = mnext := by unfold aN; rw [if_pos h]
theorem aN_no {next since mnext : Int} {L M : List Vs} (h : ¬ apE next since L M = 0) : aN next since mnext L M = 0 := by unfold aN; rw [if_neg h]
theorem aX_z {next since : Int} {L M : List Vs} (h1 : ∀ v ∈ L, v.l.length ≤ 4398046510976) (h2 : ∀ v ∈ M, v.l.length ≤ 4398046510976) : ∀ v ∈ aX next since L M, v.l.length ≤ 4398046510976 := fun v hv => by
  unfold aX at hv
  split at hv
  · rcases mg_mem.1 hv with q | q
    · exact h1 v q
    · exact h2 v q
  · simp at hv
theorem aX_l {next since : Int} {L M : List Vs} : (aX next since L M).length ≤ 256 := by
  unfold aX
  split
  · rename_i h
    unfold apE at h
    split at h
    · omega
    · split at h
      · omega
      · rw [mg_len]; omega
  · simp
theorem ApP.uni {next since mnext : Int} {L M : List Vs} {w w' : World} {e : Ending} (h : ApP next since mnext L M w w' e) (hb : Below w.heap.size w w') : ∃ za zc, e = .returned (.tuple #[bv (aN next since mnext L M) za (aX next since L M).length zc, .int .i64 (apE next since L M)]) ∧ Cp w.heap.size w' (.slice za (aX next since L M).length zc) (aX next since L M) := by
  rcases h with ⟨h0, v, rfl, o⟩ | ⟨h0, rfl⟩
  · rw [aX_ok h0, aN_ok h0, h0]
    obtain ⟨za, zc, rfl, _⟩ := o.ls
    exact ⟨za, zc, rfl, o⟩
  · rw [aX_no h0, aN_no h0]
    exact ⟨none, 0, rfl, Cp.nil _ _ hb.size⟩
theorem bl_z {m : Int} {L : List Vs} (h : ∀ v ∈ L, v.l.length ≤ 4398046510976) : ∀ v ∈ blL m L, v.l.length ≤ 4398046510976 := fun v hv => h v (blL_mem hv).1
theorem sn_z {m : Int} {L : List Vs} (h : ∀ v ∈ L, v.l.length ≤ 4398046510976) : ∀ v ∈ snL m L, v.l.length ≤ 4398046510976 := fun v hv => h v (snL_mem hv).1
end Go.Proofs.Ytaibbeepgelepaa
