import Derived.Test.YthbdaadhcheggaaGf
import Derived.Test.YthbdaadhcheggaaGi
import Derived.Test.YthbdaadhcheggaaDe
/- DeltaApart: the lists that the walk holds. -/
namespace Go.Proofs.Ythbdaadhcheggaa
set_option linter.unusedVariables false
set_option linter.unusedSimpArgs false
open Go.RowKit
/-- a list of one's own with its box: its blocks lie from lo to hi -/
structure Kob where
  lo : Nat
  hi : Nat
  g : Nat
  C : Array Value
  t : TypeId
  v : Value
  R : List Rv
structure Kob.on (o : Kob) (w : World) : Prop where
  box : w.heap[o.g]? = some (.cells o.C o.t (0, 0))
  fo : Fo o.lo w o.v o.R
  lt : ∀ b, Tc o.v o.R b → b < o.hi
  le : o.hi ≤ w.heap.size
  t1 : o.t ≠ 41
  t2 : o.t ≠ 51
theorem ktc_type {B : Nat} {w : World} {v : Value} {R : List Rv} (h : Fo B w v R) {g : Nat} (ht : Tc v R g) : ∃ cs t, w.heap[g]? = some (.cells cs t (0, 0)) ∧ (t = 41 ∨ t = 51) := by
  rcases ht with q | ⟨k, r, hr, hq⟩
  · obtain ⟨cs, e⟩ := own_type h.own q
    exact ⟨cs, _, e, .inl rfl⟩
  · obtain ⟨cs, e⟩ := own_type (h.met k r hr).own hq
    exact ⟨cs, _, e, .inr rfl⟩
theorem kbox_ot {B : Nat} {w w' : World} {v : Value} {R : List Rv} (h : Fo B w v R) (ho : Ot (Tc v R) w w') {g : Nat} {C : Array Value} {t : TypeId} (hb : w.heap[g]? = some (.cells C t (0, 0))) (h1 : t ≠ 41) (h2 : t ≠ 51) : w'.heap[g]? = some (.cells C t (0, 0)) := by
  rw [ho.block g (Array.getElem?_eq_some_iff.1 hb).1 (fun q => ?_)]
  · exact hb
  · obtain ⟨cs, t', e, he⟩ := ktc_type h q
    rw [hb] at e
    injection e with e
    injection e with _ e _
    rcases he with he | he
    · exact h1 (e.trans he)
    · exact h2 (e.trans he)
theorem Kob.on.later {o : Kob} {w w' : World} (h : o.on w) (hb : Below w.heap.size w w') : o.on w' :=
  ⟨by rw [hb.block _ (Array.getElem?_eq_some_iff.1 h.box).1]; exact h.box, h.fo.later hb, h.lt, Nat.le_trans h.le hb.size, h.t1, h.t2⟩
theorem Kob.on.ot {x o : Kob} {w w' : World} (h : x.on w) (hO : o.on w) (ho : Ot (Tc o.v o.R) w w') (hd : x.hi ≤ o.lo ∨ o.hi ≤ x.lo) : x.on w' := by
  refine ⟨kbox_ot hO.fo ho h.box h.t1 h.t2, h.fo.frame ho.size (fun g hg => ho.block g (h.fo.tc hg).2 (fun q => ?_)), h.lt, Nat.le_trans h.le ho.size, h.t1, h.t2⟩
  have a1 := h.lt g hg
  have a2 := (h.fo.tc hg).1
  have b1 := hO.lt g q
  have b2 := (hO.fo.tc q).1
  omega
/-- all that the walk holds -/
structure Kev (V : Array Value) (W w : World) (T : List Kob) : Prop where
  bel : Below W.heap.size W w
  vb : w.heap[W.heap.size]? = some (.cells V 24 (0, 0))
  on : ∀ o ∈ T, o.on w
  lo : ∀ o ∈ T, W.heap.size ≤ o.lo
  par : T.Pairwise (fun a b => a.hi ≤ b.lo)
theorem Kev.later {V : Array Value} {W w w' : World} {T : List Kob} (h : Kev V W w T) (hb : Below w.heap.size w w') : Kev V W w' T :=
  ⟨h.bel.trans (hb.mono h.bel.size), by rw [hb.block _ (Array.getElem?_eq_some_iff.1 h.vb).1]; exact h.vb, fun o ho => (h.on o ho).later hb, h.lo, h.par⟩
theorem Kev.add {V : Array Value} {W w w1 : World} {T : List Kob} (h : Kev V W w T) (hb : Below w.heap.size w w1) {v : Value} {R : List Rv} (hF : Fo w.heap.size w1 v R) (C : Array Value) (t : TypeId) (h1 : t ≠ 41) (h2 : t ≠ 51) : Kev V W (w1.alloc (.cells C t)) (T ++ [⟨w.heap.size, w1.heap.size, w1.heap.size, C, t, v, R⟩]) := by
  have ha : Below w1.heap.size w1 (w1.alloc (.cells C t)) := (Below.refl _ _).alloc (Nat.le_refl _) _
  have hE := (h.later hb).later ha
  refine ⟨hE.bel, hE.vb, fun o ho => ?_, fun o ho => ?_, ?_⟩
  · rcases List.mem_append.1 ho with q | q
    · exact hE.on o q
    · rw [List.mem_singleton.1 q]
      exact ⟨heap_alloc_new _ _, hF.later ha, fun b hb => (hF.tc hb).2, ha.size, h1, h2⟩
  · rcases List.mem_append.1 ho with q | q
    · exact h.lo o q
    · rw [List.mem_singleton.1 q]
      exact h.bel.size
  · rw [List.pairwise_append]
    refine ⟨h.par, by simp, fun a ha b hb => ?_⟩
    rw [List.mem_singleton.1 hb]
    exact (h.on a ha).le
theorem Kev.upd {V : Array Value} {W w w' : World} {A B : List Kob} {o : Kob} (h : Kev V W w (A ++ o :: B)) {R' : List Rv} (hF : Fo o.lo w' o.v R') (ho : Ot (Tc o.v o.R) w w') (ht : ∀ g, Tc o.v R' g → Tc o.v o.R g) : Kev V W w' (A ++ { o with R := R' } :: B) := by
  have hO := h.on o (by simp)
  have hp := h.par
  rw [List.pairwise_append, List.pairwise_cons] at hp
  obtain ⟨pA, ⟨pB, pB2⟩, pAB⟩ := hp
  refine ⟨h.bel.trans (ho.below h.bel.size (fun k hk => Nat.le_trans (h.lo o (by simp)) (hO.fo.tc hk).1)), kbox_ot hO.fo ho h.vb (by decide) (by decide), fun x hx => ?_, fun x hx => ?_, ?_⟩
  · rcases List.mem_append.1 hx with q | q
    · exact (h.on x (by simp [q])).ot hO ho (.inl (pAB x q o (by simp)))
    · rcases List.mem_cons.1 q with rfl | q
      · exact ⟨kbox_ot hO.fo ho hO.box hO.t1 hO.t2, hF, fun b hb => hO.lt b (ht b hb), Nat.le_trans hO.le ho.size, hO.t1, hO.t2⟩
      · exact (h.on x (by simp [q])).ot hO ho (.inr (pB x q))
  · rcases List.mem_append.1 hx with q | q
    · exact h.lo x (by simp [q])
    · rcases List.mem_cons.1 q with rfl | q
      · exact h.lo o (by simp)
      · exact h.lo x (by simp [q])
  · rw [List.pairwise_append, List.pairwise_cons]
    refine ⟨pA, ⟨pB, pB2⟩, fun a ha b hb => ?_⟩
    rcases List.mem_cons.1 hb with rfl | q
    · exact pAB a ha o (by simp)
    · exact pAB a ha b (by simp [q])
theorem Kev.del {V : Array Value} {W w w' : World} {A B : List Kob} {o : Kob} (h : Kev V W w (A ++ o :: B)) (ho : Ot (Tc o.v o.R) w w') : Kev V W w' (A ++ B) := by
  have hO := h.on o (by simp)
  have hp := h.par
  rw [List.pairwise_append, List.pairwise_cons] at hp
  obtain ⟨pA, ⟨pB, pB2⟩, pAB⟩ := hp
  refine ⟨h.bel.trans (ho.below h.bel.size (fun k hk => Nat.le_trans (h.lo o (by simp)) (hO.fo.tc hk).1)), kbox_ot hO.fo ho h.vb (by decide) (by decide), fun x hx => ?_, fun x hx => ?_, ?_⟩
  · rcases List.mem_append.1 hx with q | q
    · exact (h.on x (by simp [q])).ot hO ho (.inl (pAB x q o (by simp)))
    · exact (h.on x (by simp [q])).ot hO ho (.inr (pB x q))
  · rcases List.mem_append.1 hx with q | q
    · exact h.lo x (by simp [q])
    · exact h.lo x (by simp [q])
  · rw [List.pairwise_append]
    exact ⟨pA, pB2, fun a ha b hb => pAB a ha b (by simp [hb])⟩
/-- a full list -/
structure Kfob (o : Kob) (g : Nat) (next : Int) (L : List Vs) (a : Option Addr) (cap : Nat) : Prop where
  g : o.g = g
  C : o.C = #[.int .i64 next, .slice a L.length cap]
  t : o.t = 24
  v : o.v = .slice a (L.length + 1) cap
  R : ∃ (R : List Rv) (mk : Rv), o.R = R ++ [mk] ∧ R.map (·.v) = L ∧ (∀ r ∈ R, r.z = [mkP]) ∧ mk.v.key = mark ∧ mk.z = []
structure Kcob (o : Kob) (g : Nat) (C : Array Value) (t : TypeId) (L : List Vs) (a : Option Addr) (cap : Nat) : Prop where
  g : o.g = g
  C : o.C = C
  t : o.t = t
  v : o.v = .slice a L.length cap
  R : o.R.map (·.v) = L
  z : ∀ r ∈ o.R, r.z = []
structure Kmob (o : Kob) (g : Nat) (C : Array Value) (t : TypeId) (n : Nat) (a : Option Addr) (cap : Nat) : Prop where
  g : o.g = g
  C : o.C = C
  t : o.t = t
  v : o.v = .slice a n cap
  len : o.R.length = n
  z : ∀ r ∈ o.R, r.z = []
  l : ∀ r ∈ o.R, r.v.l.length ≤ 1000000
  m : ∀ (i : Nat) (r : Rv), o.R[i]? = some r → Mkr i r
structure Ksm (L : List Vs) : Prop where
  n : L.length ≤ 256
  l : ∀ u ∈ L, u.l.length ≤ 1000000
theorem Ksm.n6 {L : List Vs} (h : Ksm L) : L.length ≤ 1000000 := Nat.le_trans h.n (by decide)
theorem Ksm.n9 {L : List Vs} (h : Ksm L) : L.length ≤ 1954687338240 := Nat.le_trans h.n (by decide)
theorem Ksm.z {L : List Vs} (h : Ksm L) : ∀ u ∈ L, u.l.length ≤ 4398046510976 := fun u hu => Nat.le_trans (h.l u hu) (by decide)
theorem RtB.sm {next : Int} {L : List Vs} (h : RtB next L) : Ksm L := by
  refine ⟨h.len, fun u hu => ?_⟩
  have h3 := (vrV_iff.1 (h.ok u hu).2.2).1.2.2
  unfold mtE at h3
  split at h3
  · rename_i q
    have := q.1
    omega
  · exact absurd h3 (by decide)
theorem Ksm.bl {L : List Vs} (h : Ksm L) (m : Int) : Ksm (blL m L) := ⟨Nat.le_trans (blL_len m L) h.n, fun u hu => h.l u (blL_mem hu).1⟩
theorem Ksm.sn {L : List Vs} (h : Ksm L) (m : Int) : Ksm (snL m L) := ⟨Nat.le_trans (snL_len m L) h.n, fun u hu => h.l u (snL_mem hu).1⟩
theorem Kev.addF {V : Array Value} {W w w1 : World} {T : List Kob} (h : Kev V W w T) (hb : Below w.heap.size w w1) {L : List Vs} {a : Option Addr} {cap : Nat} (hF : Fm w.heap.size w1 a cap L) (next : Int) : ∃ o, Kfob o w1.heap.size next L a cap ∧ Kev V W (w1.alloc (.cells #[.int .i64 next, .slice a L.length cap] 24)) (T ++ [o]) := by
  obtain ⟨R, mk, h1, h2, h3, h4, h5⟩ := hF.ex
  exact ⟨_, ⟨rfl, rfl, rfl, rfl, R, mk, rfl, h2, h3, h4, h5⟩, h.add hb h1 _ _ (by decide) (by decide)⟩
theorem Kev.addC {V : Array Value} {W w w1 : World} {T : List Kob} (h : Kev V W w T) (hb : Below w.heap.size w w1) {L : List Vs} {v : Value} (hC : Cp w.heap.size w1 v L) : ∃ a cap, v = .slice a L.length cap ∧ ∀ (C : Array Value) (t : TypeId), t ≠ 41 → t ≠ 51 → ∃ o, Kcob o w1.heap.size C t L a cap ∧ Kev V W (w1.alloc (.cells C t)) (T ++ [o]) := by
  obtain ⟨a, cap, rfl, _⟩ := hC.ls
  obtain ⟨R, h1, h2, h3⟩ := hC
  exact ⟨a, cap, rfl, fun C t t1 t2 => ⟨_, ⟨rfl, rfl, rfl, rfl, h2, h3⟩, h.add hb h1 C t t1 t2⟩⟩
theorem Kev.addB {V : Array Value} {W w w1 : World} {T : List Kob} (h : Kev V W w T) (hb : Below w.heap.size w w1) {L : List Vs} {v : Value} (hC : Cp w.heap.size w1 v L) (next : Int) : ∃ a cap o, v = .slice a L.length cap ∧ Kcob o w1.heap.size #[.int .i64 next, .slice a L.length cap] 24 L a cap ∧ Kev V W (w1.alloc (.cells #[.int .i64 next, .slice a L.length cap] 24)) (T ++ [o]) := by
  obtain ⟨a, cap, e, q⟩ := h.addC hb hC
  obtain ⟨o, h1, h2⟩ := q #[.int .i64 next, .slice a L.length cap] 24 (by decide) (by decide)
  exact ⟨a, cap, o, e, h1, h2⟩
theorem Kev.addD {V : Array Value} {W w w1 : World} {T : List Kob} (h : Kev V W w T) (hb : Below w.heap.size w w1) {L : List Vs} {v : Value} (hC : Cp w.heap.size w1 v L) (m next : Int) : ∃ a cap o, v = .slice a L.length cap ∧ Kcob o w1.heap.size #[.int .i64 m, .int .i64 next, .slice a L.length cap] 31 L a cap ∧ Kev V W (w1.alloc (.cells #[.int .i64 m, .int .i64 next, .slice a L.length cap] 31)) (T ++ [o]) := by
  obtain ⟨a, cap, e, q⟩ := h.addC hb hC
  obtain ⟨o, h1, h2⟩ := q #[.int .i64 m, .int .i64 next, .slice a L.length cap] 31 (by decide) (by decide)
  exact ⟨a, cap, o, e, h1, h2⟩
theorem Kev.fm {V : Array Value} {W w : World} {T : List Kob} (h : Kev V W w T) {o : Kob} (ho : o ∈ T) {g : Nat} {next : Int} {L : List Vs} {a : Option Addr} {cap : Nat} (hf : Kfob o g next L a cap) : Fm o.lo w a cap L ∧ w.heap[g]? = some (.cells #[.int .i64 next, .slice a L.length cap] 24 (0, 0)) := by
  obtain ⟨e0, e1, e2, e3, R, mk, e4, h2, h3, h4, h5⟩ := hf
  have hO := h.on o ho
  have hF := hO.fo
  have hB := hO.box
  rw [e3, e4] at hF
  rw [e0, e1, e2] at hB
  exact ⟨⟨R, mk, hF, h2, h3, h4, h5⟩, hB⟩
theorem Kev.cp {V : Array Value} {W w : World} {T : List Kob} (h : Kev V W w T) {o : Kob} (ho : o ∈ T) {g : Nat} {C : Array Value} {t : TypeId} {L : List Vs} {a : Option Addr} {cap : Nat} (hf : Kcob o g C t L a cap) : Ls w a cap L ∧ w.heap[g]? = some (.cells C t (0, 0)) := by
  obtain ⟨e0, e1, e2, e3, h2, h3⟩ := hf
  have hO := h.on o ho
  have hF := hO.fo
  have hB := hO.box
  rw [e0, e1, e2] at hB
  refine ⟨?_, hB⟩
  obtain ⟨a', c', e, s⟩ := hF.ls
  rw [e3] at e
  injection e with q1 q2 q3
  subst q1 q3
  rw [h2] at s
  exact s
theorem Kev.mb {V : Array Value} {W w : World} {T : List Kob} (h : Kev V W w T) {o : Kob} (ho : o ∈ T) {g : Nat} {C : Array Value} {t : TypeId} {n : Nat} {a : Option Addr} {cap : Nat} (hf : Kmob o g C t n a cap) : w.heap[g]? = some (.cells C t (0, 0)) := by
  have hB := (h.on o ho).box
  rw [hf.g, hf.C, hf.t] at hB
  exact hB
theorem Kev.mark {V : Array Value} {W w : World} {A B : List Kob} {o : Kob} (h : Kev V W w (A ++ o :: B)) {g : Nat} {C : Array Value} {t : TypeId} {L : List Vs} {a : Option Addr} {cap : Nat} (hc : Kcob o g C t L a cap) (hs : Ksm L) (next : Int) :
    Calls Try.prog 14 #[bv next a L.length cap] w fun e w' => e = .returned (.tuple #[]) ∧ ∃ o', Kmob o' g C t L.length a cap ∧ Kev V W w' (A ++ o' :: B) := by
  obtain ⟨e0, e1, e2, e3, h2, h3⟩ := hc
  have hO := h.on o (by simp)
  have hl : o.R.length = L.length := by rw [← h2, List.length_map]
  have hF := hO.fo
  rw [e3, ← hl] at hF
  have hlm : ∀ r ∈ o.R, r.v.l.length ≤ 1000000 := fun r hr => hs.l r.v (by rw [← h2]; exact List.mem_map_of_mem hr)
  rw [← hl]
  refine (marked_any next o.R a cap o.lo w hF h3 (by rw [hl]; exact hs.n6) hlm).mono fun e w' ⟨he, hM⟩ => ⟨he, ?_⟩
  obtain ⟨R, hF', hS, hmk, _⟩ := hM.ex
  refine ⟨{ o with R := R }, ⟨e0, e1, e2, by rw [e3, hl], hS.len, fun r hr => ?_, fun r hr => ?_, fun i r hr => hmk i r (by have h1 : i < R.length := (List.getElem?_eq_some_iff.1 hr).1; have := hS.len; omega) hr⟩, h.upd (by rw [e3, ← hl]; exact hF') (by rw [e3, ← hl]; exact hM.ot) (fun g hg => hS.tc hg)⟩
  · obtain ⟨j, hj, e⟩ := List.getElem_of_mem hr
    have hr1 : R[j]? = some r := by rw [List.getElem?_eq_getElem hj, e]
    have hj0 : j < o.R.length := by rw [← hS.len]; exact hj
    have hr0 := List.getElem?_eq_getElem hj0
    rw [(hS.at' j r _ hr1 hr0).2.2.1]
    exact h3 _ (List.getElem_mem hj0)
  · obtain ⟨j, hj, e⟩ := List.getElem_of_mem hr
    have hr1 : R[j]? = some r := by rw [List.getElem?_eq_getElem hj, e]
    have hj0 : j < o.R.length := by rw [← hS.len]; exact hj
    have hr0 := List.getElem?_eq_getElem hj0
    rw [(hS.at' j r _ hr1 hr0).2.2.2]
    exact hlm _ (List.getElem_mem hj0)
theorem Kev.grow {V : Array Value} {W w : World} {A B : List Kob} {o : Kob} (h : Kev V W w (A ++ o :: B)) {g : Nat} {C : Array Value} {t : TypeId} {n : Nat} {a : Option Addr} {cap : Nat} (hm : Kmob o g C t n a cap) (hn : n ≤ 1000000) (next : Int) :
    Calls Try.prog 15 #[bv next a n cap] w fun e w' => e = .returned (.bool true) ∧ Kev V W w' (A ++ B) := by
  have hO := h.on o (by simp)
  have hl := hm.len
  have hF := hO.fo
  rw [hm.v, ← hl] at hF
  rw [← hl]
  exact (grown_any next o.R a cap o.lo w hF hm.z hm.m (by omega) hm.l).mono fun e w' ⟨he, ho⟩ => ⟨he, h.del (by rw [hm.v, ← hl]; exact ho)⟩
/-- a full list whose versions are emptied -/
structure Kxob (o : Kob) (g : Nat) (next : Int) (n : Nat) (a : Option Addr) (cap : Nat) : Prop where
  g : o.g = g
  C : o.C = #[.int .i64 next, .slice a n cap]
  t : o.t = 24
  v : o.v = .slice a (n + 1) cap
  len : o.R.length = n + 1
  l : ∀ (i : Nat) (r : Rv), i < n → o.R[i]? = some r → r.v.l.length ≤ 1000000
theorem Kfob.x {o : Kob} {g : Nat} {next : Int} {L : List Vs} {a : Option Addr} {cap : Nat} (h : Kfob o g next L a cap) (hs : Ksm L) : Kxob o g next L.length a cap := by
  obtain ⟨e0, e1, e2, e3, R, mk, e4, h2, h3, h4, h5⟩ := h
  have hl : R.length = L.length := by rw [← h2, List.length_map]
  refine ⟨e0, e1, e2, e3, by rw [e4, ← h2]; simp, fun i r hi hr => ?_⟩
  rw [e4, List.getElem?_append_left (by omega)] at hr
  exact hs.l r.v (by rw [← h2]; exact List.mem_map_of_mem (List.mem_of_getElem? hr))
theorem Kev.row {V : Array Value} {W w : World} {B : List Kob} {o : Kob} (h : Kev V W w (o :: B)) {g : Nat} {next : Int} {n : Nat} {a : Option Addr} {cap : Nat} (hx : Kxob o g next n a cap) {i : Nat} (hi : i < n) :
    ∃ gb ra len c d, a = some ⟨gb, 0, none⟩ ∧ w.cell? ⟨gb, i * 5 + 3, none⟩ = some (str d) ∧ w.cell? ⟨gb, i * 5 + 4, none⟩ = some (.slice ra len c) ∧ (∀ j, w.frozen? ⟨gb, j, none⟩ = false) ∧ len ≤ c ∧ c ≤ 9223372036854775807 ∧ (ra = none → c = 0) ∧
      (∃ o', Kxob o' g next n a cap ∧ Kev V W (w.setCell ⟨gb, i * 5 + 3, none⟩ (str [])) (o' :: B)) ∧ (∃ o', Kxob o' g next n a cap ∧ Kev V W (w.setCell ⟨gb, i * 5 + 4, none⟩ (.slice ra 0 c)) (o' :: B)) := by
  have hO := h.on o (by simp)
  obtain ⟨e0, e1, e2, e3, hn, hl⟩ := hx
  have hF := hO.fo
  rw [e3] at hF
  obtain ⟨r, hr⟩ : ∃ r, o.R[i]? = some r := ⟨_, List.getElem?_eq_getElem (by omega)⟩
  obtain ⟨gb, ea, en, hgb, ⟨c0, c1, c2, c3, c4⟩, hf⟩ := hF.row hr
  subst ea
  obtain ⟨ra, rc, em, hS⟩ := (hF.met i r hr).sl
  have hle := hS.le
  unfold Rv.mv at em
  injection em with m1 m2 m3
  rw [List.length_append] at hle
  have ho : ∀ (j : Nat) (x : Value), Ot (Tc o.v o.R) w (w.setCell ⟨gb, j, none⟩ x) := fun j x => (Ot.refl _ _).set (g := gb) (.inl (by rw [e3]; rfl))
  have ht : ∀ r' : Rv, r'.mv = r.mv → ∀ g, Tc o.v (o.R.set i r') g → Tc o.v o.R g := fun r' hm g hg => by
    rcases hg with q | ⟨k, x, hx, hb⟩
    · exact .inl q
    · rcases set_get hx with ⟨rfl, rfl⟩ | ⟨_, hx⟩
      · exact .inr ⟨k, r, hr, by rw [← hm]; exact hb⟩
      · exact .inr ⟨k, x, hx, hb⟩
  have hl' : ∀ r' : Rv, r'.v.l.length ≤ r.v.l.length → ∀ (k : Nat) (x : Rv), k < n → (o.R.set i r')[k]? = some x → x.v.l.length ≤ 1000000 := fun r' hm k x hk hx => by
    rcases set_get hx with ⟨rfl, rfl⟩ | ⟨_, hx⟩
    · exact Nat.le_trans hm (hl k r hk hr)
    · exact hl k x hk hx
  refine ⟨gb, r.a, r.v.l.length, r.c, r.v.data, rfl, c3, c4, hf, by omega, by rw [m3]; exact hS.max, fun q => by rw [m3]; exact hS.nil (by rw [← m1]; exact q), ⟨{ o with R := o.R.set i { r with v := { r.v with data := [] } } }, ⟨e0, e1, e2, e3, by rw [← hn]; exact List.length_set, hl' _ (Nat.le_refl _)⟩, ?_⟩, ⟨{ o with R := o.R.set i ⟨{ r.v with l := [] }, r.v.l ++ r.z, r.a, r.c⟩ }, ⟨e0, e1, e2, e3, by rw [← hn]; exact List.length_set, hl' _ (Nat.zero_le _)⟩, ?_⟩⟩
  · exact Kev.upd (A := []) h (by rw [e3]; exact hF.setData hn.symm hr []) (ho _ _) (ht _ rfl)
  · have hm : (⟨{ r.v with l := [] }, r.v.l ++ r.z, r.a, r.c⟩ : Rv).mv = r.mv := by unfold Rv.mv; simp
    exact Kev.upd (A := []) h (by rw [e3]; exact hF.setCellV hn.symm hr _ _ (rcells_set4 o.R i r [] r.a r.c (r.v.l ++ r.z) hr) hm (by simp)) (ho _ _) (ht _ hm)
theorem Kev.xb {V : Array Value} {W w : World} {T : List Kob} (h : Kev V W w T) {o : Kob} (ho : o ∈ T) {g : Nat} {next : Int} {n : Nat} {a : Option Addr} {cap : Nat} (hx : Kxob o g next n a cap) : w.heap[g]? = some (.cells #[.int .i64 next, .slice a n cap] 24 (0, 0)) := by
  have hB := (h.on o ho).box
  rw [hx.g, hx.C, hx.t] at hB
  exact hB
theorem Kev.xl {V : Array Value} {W w : World} {T : List Kob} (h : Kev V W w T) {o : Kob} (ho : o ∈ T) {g : Nat} {next : Int} {n : Nat} {a : Option Addr} {cap : Nat} (hx : Kxob o g next n a cap) (hn : n ≤ 256) : ∃ L, Ksm L ∧ L.length = n ∧ Li w L a n cap := by
  have hO := h.on o ho
  obtain ⟨e0, e1, e2, e3, hn2, hl⟩ := hx
  have hF := hO.fo
  rw [e3] at hF
  obtain ⟨a', c', e, s⟩ := hF.ls
  injection e with q1 q2 q3
  subst q1 q3
  have hlen : ((o.R.map (·.v)).take n).length = n := by rw [List.length_take, List.length_map, hn2]; omega
  have hz : ∀ u ∈ (o.R.map (·.v)).take n, u.l.length ≤ 1000000 := fun u hu => by
    obtain ⟨j, hj, e⟩ := List.getElem_of_mem hu
    have hu1 : ((o.R.map (·.v)).take n)[j]? = some u := by rw [List.getElem?_eq_getElem hj, e]
    rw [List.getElem?_take_of_lt (by omega), List.getElem?_map] at hu1
    cases hr : o.R[j]? with
    | none => rw [hr] at hu1; cases hu1
    | some r =>
      rw [hr] at hu1
      injection hu1 with hu1
      rw [← hu1]
      exact hl j r (by omega) hr
  exact ⟨_, ⟨by omega, hz⟩, hlen, hlen, s.take n, by omega, fun u hu => Nat.le_trans (hz u hu) (by decide)⟩
theorem kcells2 {w : World} {g : Nat} {t : TypeId} {x y : Value} (h : w.heap[g]? = some (.cells #[x, y] t (0, 0))) : w.cell? ⟨g, 0, none⟩ = some x ∧ w.cell? ⟨g, 1, none⟩ = some y := ⟨by rw [cell_of_row _ _ _ _ _ _ h]; rfl, by rw [cell_of_row _ _ _ _ _ _ h]; rfl⟩
theorem kcells3 {w : World} {g : Nat} {t : TypeId} {x y z : Value} (h : w.heap[g]? = some (.cells #[x, y, z] t (0, 0))) : w.cell? ⟨g, 0, none⟩ = some x ∧ w.cell? ⟨g, 1, none⟩ = some y ∧ w.cell? ⟨g, 2, none⟩ = some z := ⟨by rw [cell_of_row _ _ _ _ _ _ h]; rfl, by rw [cell_of_row _ _ _ _ _ _ h]; rfl, by rw [cell_of_row _ _ _ _ _ _ h]; rfl⟩
end Go.Proofs.Ythbdaadhcheggaa

/- DeltaApart: the walk. -/
namespace Go.Proofs.Ythbdaadhcheggaa
set_option linter.unusedVariables false
set_option linter.unusedSimpArgs false
open Go.RowKit
attribute [local go_sem ↓] Go.wp_at_zero Go.wp_at_succ slPe
theorem Kev.start (next : Int) (L : List Vs) (a : Option Addr) (cap : Nat) (W : World) : Kev #[.int .i64 next, .slice a L.length cap] W (W.alloc (.cells #[.int .i64 next, .slice a L.length cap] 24)) [] :=
  ⟨bl_alloc _ _, heap_alloc_new _ _, fun o ho => by simp at ho, fun o ho => by simp at ho, List.Pairwise.nil⟩
set_option maxRecDepth 100000 in
set_option maxHeartbeats 4000000 in
theorem deltaApart_walk (next : Int) (L : List Vs) (a : Option Addr) (cap : Nat) (m : Int) (W : World) (hL : Li W L a L.length cap) (hP : ∀ u ∈ L, Pz u.l) (hm1 : -9223372036854775808 ≤ m) (hm2 : m ≤ 9223372036854775807) :
    Calls Try.prog 3 #[bv next a L.length cap, .int .i64 m] W fun e W' => e = .returned (.bool true) ∧ Below W.heap.size W W' := by
  have HE := Hid.mk (Kev.start next L a cap W)
  have HL := Hid.mk hL
  have HP := Hid.mk hP
  clear hL hP hm1 hm2
  go_enter Try.func3, Try.ntmps3
  go_wp2_with fail
  generalize W.alloc (.cells #[.int .i64 next, .slice a L.length cap] 24) = W1 at *
  with_reducible refine Calls.mono (first_any _) ?_
  rintro e w1 ⟨rfl, c1⟩
  dsimp only
  replace HE := Hid.mk (HE.out.later c1)
  clear c1
  have hc := qRight_any L next w1 a _ cap (HL.out.later HE.out.bel) HP.out
  obtain ⟨p0, p1⟩ := kcells2 HE.out.vb
  go_wp2_with fail
  clear p0 p1
  with_reducible refine Calls.mono hc ?_
  rintro e w2 ⟨⟨t, rfl, ht⟩, c2⟩
  dsimp only
  replace HE := Hid.mk (HE.out.later c2)
  clear hc c2
  cases t with
  | false =>
    clear ht
    go_wp2_with fail
    go_ret
    exact ⟨rfl, HE.out.bel⟩
  | true =>
  have HR : Hid (RtB next L) := ⟨ht.1 rfl⟩
  have HS := Hid.mk HR.out.sm
  clear ht HP
  have hc := fun w => number_any m next w HR.out.n1 HR.out.n2
  have HM1 := Hid.mk (nuof_rg m next HR.out.n1 HR.out.n2)
  obtain ⟨p0, p1⟩ := kcells2 HE.out.vb
  generalize nuof m next = m1 at *
  go_wp2_with fail
  clear p0 p1
  with_reducible refine Calls.mono (hc _) ?_
  rintro e w3 ⟨rfl, rfl⟩
  clear hc
  try dsimp only
  have hc := full_any next L a cap _ (HL.out.later HE.out.bel) HS.out.n6 HS.out.l
  obtain ⟨cv0, cv1⟩ := kcells2 HE.out.vb
  go_wp2_with fail
  clear cv0 cv1
  with_reducible refine Calls.mono hc ?_
  rintro e w1 ⟨aown, cown, rfl, ox, cx⟩
  clear hc
  try dsimp only
  obtain ⟨oown, Hown, hE⟩ := HE.out.addF cx ox next
  replace HE : Hid (Kev #[.int .i64 next, .slice a L.length cap] W (w1.alloc (.cells #[.int .i64 next, .slice aown L.length cown] 24)) [oown]) := Hid.mk hE
  replace Hown := Hid.mk Hown
  clear hE cx ox
  try dsimp only
  have hc := below_any L next m1 _ a _ cap (HL.out.later HE.out.bel)
  obtain ⟨cv0, cv1⟩ := kcells2 HE.out.vb
  go_wp2_with fail
  clear cv0 cv1
  generalize w1.alloc (.cells #[.int .i64 next, .slice aown L.length cown] 24) = w2 at *
  generalize w1.heap.size = g3 at *
  with_reducible refine Calls.mono hc ?_
  rintro e w4 ⟨vx, rfl, ox, cx⟩
  clear hc
  try dsimp only
  obtain ⟨xa, xc, rfl, lx⟩ := ox.li (HS.out.bl m1).n9 (HS.out.bl m1).z
  replace HE := Hid.mk (HE.out.later cx)
  clear ox cx
  have hc := full_any m1 (blL m1 L) xa xc _ lx (HS.out.bl m1).n6 (HS.out.bl m1).l
  go_wp2_with fail
  with_reducible refine Calls.mono hc ?_
  rintro e w5 ⟨alow, clow, rfl, ox, cx⟩
  clear hc
  try dsimp only
  clear lx
  obtain ⟨olow, Hlow, hE⟩ := HE.out.addF cx ox m1
  replace HE : Hid (Kev #[.int .i64 next, .slice a L.length cap] W (w5.alloc (.cells #[.int .i64 m1, .slice alow (blL m1 L).length clow] 24)) [oown, olow]) := Hid.mk hE
  replace Hlow := Hid.mk Hlow
  clear hE cx ox
  try dsimp only
  have hc := below_any L next m1 _ a _ cap (HL.out.later HE.out.bel)
  obtain ⟨cv0, cv1⟩ := kcells2 HE.out.vb
  go_wp2_with fail
  clear cv0 cv1
  generalize w5.alloc (.cells #[.int .i64 m1, .slice alow (blL m1 L).length clow] 24) = w6 at *
  generalize w5.heap.size = g7 at *
  with_reducible refine Calls.mono hc ?_
  rintro e w8 ⟨vx, rfl, ox, cx⟩
  clear hc
  try dsimp only
  obtain ⟨awas, cwas, owas, rfl, Hwas, hE⟩ := HE.out.addB cx ox m1
  replace HE : Hid (Kev #[.int .i64 next, .slice a L.length cap] W (w8.alloc (.cells #[.int .i64 m1, .slice awas (blL m1 L).length cwas] 24)) [oown, olow, owas]) := Hid.mk hE
  replace Hwas := Hid.mk Hwas
  clear hE cx ox
  try dsimp only
  have hc := dSince_any L next m1 _ aown _ cown ((HE.out.fm (by simp) Hown.out).1.li HS.out.n9 HS.out.z)
  obtain ⟨c12, c13⟩ := kcells2 ((HE.out.fm (by simp) Hown.out).2)
  go_wp2_with fail
  clear c12 c13
  generalize w8.alloc (.cells #[.int .i64 m1, .slice awas (blL m1 L).length cwas] 24) = w9 at *
  generalize w8.heap.size = g10 at *
  with_reducible refine Calls.mono hc ?_
  rintro e w11 ⟨hsn, cx⟩
  clear hc
  try dsimp only
  rcases hsn with ⟨_, _, vx, rfl, ox⟩ | ⟨hno, _⟩
  rotate_left
  · exact absurd HM1.out hno
  try dsimp only
  obtain ⟨aa, ca, oa, rfl, Ha, hE⟩ := HE.out.addD cx ox m1 next
  replace HE : Hid (Kev #[.int .i64 next, .slice a L.length cap] W (w11.alloc (.cells #[.int .i64 m1, .int .i64 next, .slice aa (snL m1 L).length ca] 31)) [oown, olow, owas, oa]) := Hid.mk hE
  replace Ha := Hid.mk Ha
  clear hE cx ox
  try dsimp only
  have hc := dSince_any L next m1 _ aown _ cown ((HE.out.fm (by simp) Hown.out).1.li HS.out.n9 HS.out.z)
  obtain ⟨c17, c18⟩ := kcells2 ((HE.out.fm (by simp) Hown.out).2)
  go_wp2_with fail
  clear c17 c18
  generalize w11.alloc (.cells #[.int .i64 m1, .int .i64 next, .slice aa (snL m1 L).length ca] 31) = w14 at *
  generalize w11.heap.size = g15 at *
  with_reducible refine Calls.mono hc ?_
  rintro e w16 ⟨hsn, cx⟩
  clear hc
  try dsimp only
  rcases hsn with ⟨_, _, vx, rfl, ox⟩ | ⟨hno, _⟩
  rotate_left
  · exact absurd HM1.out hno
  try dsimp only
  obtain ⟨ab, cb, ob, rfl, Hb, hE⟩ := HE.out.addD cx ox m1 next
  replace HE : Hid (Kev #[.int .i64 next, .slice a L.length cap] W (w16.alloc (.cells #[.int .i64 m1, .int .i64 next, .slice ab (snL m1 L).length cb] 31)) [oown, olow, owas, oa, ob]) := Hid.mk hE
  replace Hb := Hid.mk Hb
  clear hE cx ox
  try dsimp only
  have hc := qCopy_any (snL m1 L) next _ ab _ cb rfl (HE.out.cp (by simp) Hb.out).1 (HS.out.sn m1).n9 (HS.out.sn m1).z
  obtain ⟨c22, c23, c24⟩ := kcells3 ((HE.out.cp (by simp) Hb.out).2)
  go_wp2_with fail
  clear c22 c23 c24
  generalize w16.alloc (.cells #[.int .i64 m1, .int .i64 next, .slice ab (snL m1 L).length cb] 31) = w19 at *
  generalize w16.heap.size = g20 at *
  with_reducible refine Calls.mono hc ?_
  rintro e w21 ⟨vx, rfl, ox, cx⟩
  clear hc
  try dsimp only
  obtain ⟨awant, cwant, owant, rfl, Hwant, hE⟩ := HE.out.addB cx ox next
  replace HE : Hid (Kev #[.int .i64 next, .slice a L.length cap] W (w21.alloc (.cells #[.int .i64 next, .slice awant (snL m1 L).length cwant] 24)) [oown, olow, owas, oa, ob, owant]) := Hid.mk hE
  replace Hwant := Hid.mk Hwant
  clear hE cx ox
  try dsimp only
  have hc := qSame_eq next (snL m1 L) _ aa ca awant cwant ⟨rfl, (HE.out.cp (by simp) Ha.out).1, (HS.out.sn m1).n9, (HS.out.sn m1).z⟩ ⟨rfl, (HE.out.cp (by simp) Hwant.out).1, (HS.out.sn m1).n9, (HS.out.sn m1).z⟩ (HS.out.sn m1).n6
  obtain ⟨c28, c29, c30⟩ := kcells3 ((HE.out.cp (by simp) Ha.out).2)
  obtain ⟨c31, c32⟩ := kcells2 ((HE.out.cp (by simp) Hwant.out).2)
  go_wp2_with fail
  clear c28 c29 c30 c31 c32
  generalize w21.alloc (.cells #[.int .i64 next, .slice awant (snL m1 L).length cwant] 24) = w25 at *
  generalize w21.heap.size = g26 at *
  with_reducible refine Calls.mono hc ?_
  rintro e w27 ⟨rfl, cx⟩
  clear hc
  try dsimp only
  replace HE := Hid.mk (HE.out.later cx)
  clear cx
  have hc := kept_any next L aown a cown cap _ _ (HE.out.fm (by simp) Hown.out).1 (HL.out.later HE.out.bel) HS.out.n6 HS.out.l
  obtain ⟨c34, c35⟩ := kcells2 ((HE.out.fm (by simp) Hown.out).2)
  obtain ⟨cv0, cv1⟩ := kcells2 HE.out.vb
  go_wp2_with fail
  clear c34 c35 cv0 cv1
  with_reducible refine Calls.mono hc ?_
  rintro e w33 ⟨rfl, cx⟩
  clear hc
  try dsimp only
  replace HE := Hid.mk (HE.out.later cx)
  clear cx
  have hc := dApply_any (blL m1 L) (snL m1 L) m1 m1 next _ alow _ clow ab _ cb ((HE.out.fm (by simp) Hlow.out).1.li (HS.out.bl m1).n9 (HS.out.bl m1).z) ⟨rfl, (HE.out.cp (by simp) Hb.out).1, (HS.out.sn m1).n9, (HS.out.sn m1).z⟩
  obtain ⟨c37, c38⟩ := kcells2 ((HE.out.fm (by simp) Hlow.out).2)
  obtain ⟨c39, c40, c41⟩ := kcells3 ((HE.out.cp (by simp) Hb.out).2)
  go_wp2_with fail
  clear c37 c38 c39 c40 c41
  with_reducible refine Calls.mono hc ?_
  rintro e w36 ⟨hax, cx⟩
  clear hc
  try dsimp only
  rcases hax with ⟨_, vx, rfl, ox⟩ | ⟨hno, _⟩
  rotate_left
  · exact absurd (ap_part HR.out _) hno
  rw [mg_back HR.out.srt m1] at ox
  try dsimp only
  obtain ⟨ac, cc, oc, rfl, Hc, hE⟩ := HE.out.addB cx ox next
  replace HE : Hid (Kev #[.int .i64 next, .slice a L.length cap] W (w36.alloc (.cells #[.int .i64 next, .slice ac L.length cc] 24)) [oown, olow, owas, oa, ob, owant, oc]) := Hid.mk hE
  replace Hc := Hid.mk Hc
  clear hE cx ox
  try dsimp only
  have hc := dApply_any (blL m1 L) (snL m1 L) m1 m1 next _ alow _ clow ab _ cb ((HE.out.fm (by simp) Hlow.out).1.li (HS.out.bl m1).n9 (HS.out.bl m1).z) ⟨rfl, (HE.out.cp (by simp) Hb.out).1, (HS.out.sn m1).n9, (HS.out.sn m1).z⟩
  obtain ⟨c45, c46⟩ := kcells2 ((HE.out.fm (by simp) Hlow.out).2)
  obtain ⟨c47, c48, c49⟩ := kcells3 ((HE.out.cp (by simp) Hb.out).2)
  go_wp2_with fail
  clear c45 c46 c47 c48 c49
  generalize w36.alloc (.cells #[.int .i64 next, .slice ac L.length cc] 24) = w42 at *
  generalize w36.heap.size = g43 at *
  with_reducible refine Calls.mono hc ?_
  rintro e w44 ⟨hax, cx⟩
  clear hc
  try dsimp only
  rcases hax with ⟨_, vx, rfl, ox⟩ | ⟨hno, _⟩
  rotate_left
  · exact absurd (ap_part HR.out _) hno
  rw [mg_back HR.out.srt m1] at ox
  try dsimp only
  obtain ⟨ad, cd, od, rfl, Hd, hE⟩ := HE.out.addB cx ox next
  replace HE : Hid (Kev #[.int .i64 next, .slice a L.length cap] W (w44.alloc (.cells #[.int .i64 next, .slice ad L.length cd] 24)) [oown, olow, owas, oa, ob, owant, oc, od]) := Hid.mk hE
  replace Hd := Hid.mk Hd
  clear hE cx ox
  try dsimp only
  have hc := qSame_eq next L _ ac cc a cap ⟨rfl, (HE.out.cp (by simp) Hc.out).1, HS.out.n9, HS.out.z⟩ (HL.out.later HE.out.bel) HS.out.n6
  obtain ⟨c53, c54⟩ := kcells2 ((HE.out.cp (by simp) Hc.out).2)
  obtain ⟨cv0, cv1⟩ := kcells2 HE.out.vb
  go_wp2_with fail
  clear c53 c54 cv0 cv1
  generalize w44.alloc (.cells #[.int .i64 next, .slice ad L.length cd] 24) = w50 at *
  generalize w44.heap.size = g51 at *
  with_reducible refine Calls.mono hc ?_
  rintro e w52 ⟨rfl, cx⟩
  clear hc
  try dsimp only
  replace HE := Hid.mk (HE.out.later cx)
  clear cx
  have hc := qSame_eq next L _ ad cd a cap ⟨rfl, (HE.out.cp (by simp) Hd.out).1, HS.out.n9, HS.out.z⟩ (HL.out.later HE.out.bel) HS.out.n6
  obtain ⟨c56, c57⟩ := kcells2 ((HE.out.cp (by simp) Hd.out).2)
  obtain ⟨cv0, cv1⟩ := kcells2 HE.out.vb
  go_wp2_with fail
  clear c56 c57 cv0 cv1
  with_reducible refine Calls.mono hc ?_
  rintro e w55 ⟨rfl, cx⟩
  clear hc
  try dsimp only
  replace HE := Hid.mk (HE.out.later cx)
  clear cx
  have hc := kept_any m1 (blL m1 L) alow awas clow cwas _ _ (HE.out.fm (by simp) Hlow.out).1 ⟨rfl, (HE.out.cp (by simp) Hwas.out).1, (HS.out.bl m1).n9, (HS.out.bl m1).z⟩ (HS.out.bl m1).n6 (HS.out.bl m1).l
  obtain ⟨c59, c60⟩ := kcells2 ((HE.out.fm (by simp) Hlow.out).2)
  obtain ⟨c61, c62⟩ := kcells2 ((HE.out.cp (by simp) Hwas.out).2)
  go_wp2_with fail
  clear c59 c60 c61 c62
  with_reducible refine Calls.mono hc ?_
  rintro e w58 ⟨rfl, cx⟩
  clear hc
  try dsimp only
  replace HE := Hid.mk (HE.out.later cx)
  clear cx
  have hc := qSame_eq next (snL m1 L) _ ab cb awant cwant ⟨rfl, (HE.out.cp (by simp) Hb.out).1, (HS.out.sn m1).n9, (HS.out.sn m1).z⟩ ⟨rfl, (HE.out.cp (by simp) Hwant.out).1, (HS.out.sn m1).n9, (HS.out.sn m1).z⟩ (HS.out.sn m1).n6
  obtain ⟨c64, c65, c66⟩ := kcells3 ((HE.out.cp (by simp) Hb.out).2)
  obtain ⟨c67, c68⟩ := kcells2 ((HE.out.cp (by simp) Hwant.out).2)
  go_wp2_with fail
  clear c64 c65 c66 c67 c68
  with_reducible refine Calls.mono hc ?_
  rintro e w63 ⟨rfl, cx⟩
  clear hc
  try dsimp only
  replace HE := Hid.mk (HE.out.later cx)
  clear cx
  have hc := Kev.mark (A := [oown, olow, owas]) (B := [ob, owant, oc, od]) HE.out Ha.out (HS.out.sn m1) next
  obtain ⟨c70, c71, c72⟩ := kcells3 ((HE.out.cp (by simp) Ha.out).2)
  go_wp2_with fail
  clear c70 c71 c72
  with_reducible refine Calls.mono hc ?_
  rintro e w69 ⟨rfl, oay, hx, hE⟩
  clear hc
  try dsimp only
  clear Ha
  replace HE : Hid (Kev #[.int .i64 next, .slice a L.length cap] W w69 [oown, olow, owas, oay, ob, owant, oc, od]) := Hid.mk hE
  have Ha := Hid.mk hx
  clear hE hx
  have hc := Kev.mark (A := [oown, olow, owas, oay, ob, owant]) (B := [od]) HE.out Hc.out HS.out next
  obtain ⟨c74, c75⟩ := kcells2 ((HE.out.cp (by simp) Hc.out).2)
  go_wp2_with fail
  clear c74 c75
  with_reducible refine Calls.mono hc ?_
  rintro e w73 ⟨rfl, ocy, hx, hE⟩
  clear hc
  try dsimp only
  clear Hc
  replace HE : Hid (Kev #[.int .i64 next, .slice a L.length cap] W w73 [oown, olow, owas, oay, ob, owant, ocy, od]) := Hid.mk hE
  have Hc := Hid.mk hx
  clear hE hx
  have hc := Kev.grow (A := [oown, olow, owas]) (B := [ob, owant, ocy, od]) HE.out Ha.out (HS.out.sn m1).n6 next
  obtain ⟨c77, c78, c79⟩ := kcells3 (HE.out.mb (by simp) Ha.out)
  go_wp2_with fail
  clear c77 c78 c79
  with_reducible refine Calls.mono hc ?_
  rintro e w76 ⟨rfl, hE⟩
  clear hc
  try dsimp only
  clear Ha
  replace HE : Hid (Kev #[.int .i64 next, .slice a L.length cap] W w76 [oown, olow, owas, ob, owant, ocy, od]) := Hid.mk hE
  clear hE
  have hc := Kev.grow (A := [oown, olow, owas, ob, owant]) (B := [od]) HE.out Hc.out HS.out.n6 next
  obtain ⟨c81, c82⟩ := kcells2 (HE.out.mb (by simp) Hc.out)
  go_wp2_with fail
  clear c81 c82
  with_reducible refine Calls.mono hc ?_
  rintro e w80 ⟨rfl, hE⟩
  clear hc
  try dsimp only
  clear Hc
  replace HE : Hid (Kev #[.int .i64 next, .slice a L.length cap] W w80 [oown, olow, owas, ob, owant, od]) := Hid.mk hE
  clear hE
  have hc := qSame_eq next (snL m1 L) _ ab cb awant cwant ⟨rfl, (HE.out.cp (by simp) Hb.out).1, (HS.out.sn m1).n9, (HS.out.sn m1).z⟩ ⟨rfl, (HE.out.cp (by simp) Hwant.out).1, (HS.out.sn m1).n9, (HS.out.sn m1).z⟩ (HS.out.sn m1).n6
  obtain ⟨c84, c85, c86⟩ := kcells3 ((HE.out.cp (by simp) Hb.out).2)
  obtain ⟨c87, c88⟩ := kcells2 ((HE.out.cp (by simp) Hwant.out).2)
  go_wp2_with fail
  clear c84 c85 c86 c87 c88
  with_reducible refine Calls.mono hc ?_
  rintro e w83 ⟨rfl, cx⟩
  clear hc
  try dsimp only
  replace HE := Hid.mk (HE.out.later cx)
  clear cx
  have hc := qSame_eq next L _ ad cd a cap ⟨rfl, (HE.out.cp (by simp) Hd.out).1, HS.out.n9, HS.out.z⟩ (HL.out.later HE.out.bel) HS.out.n6
  obtain ⟨c90, c91⟩ := kcells2 ((HE.out.cp (by simp) Hd.out).2)
  obtain ⟨cv0, cv1⟩ := kcells2 HE.out.vb
  go_wp2_with fail
  clear c90 c91 cv0 cv1
  with_reducible refine Calls.mono hc ?_
  rintro e w89 ⟨rfl, cx⟩
  clear hc
  try dsimp only
  replace HE := Hid.mk (HE.out.later cx)
  clear cx
  have hc := kept_any next L aown a cown cap _ _ (HE.out.fm (by simp) Hown.out).1 (HL.out.later HE.out.bel) HS.out.n6 HS.out.l
  obtain ⟨c93, c94⟩ := kcells2 ((HE.out.fm (by simp) Hown.out).2)
  obtain ⟨cv0, cv1⟩ := kcells2 HE.out.vb
  go_wp2_with fail
  clear c93 c94 cv0 cv1
  with_reducible refine Calls.mono hc ?_
  rintro e w92 ⟨rfl, cx⟩
  clear hc
  try dsimp only
  replace HE := Hid.mk (HE.out.later cx)
  clear cx
  have hc := kept_any m1 (blL m1 L) alow awas clow cwas _ _ (HE.out.fm (by simp) Hlow.out).1 ⟨rfl, (HE.out.cp (by simp) Hwas.out).1, (HS.out.bl m1).n9, (HS.out.bl m1).z⟩ (HS.out.bl m1).n6 (HS.out.bl m1).l
  obtain ⟨c96, c97⟩ := kcells2 ((HE.out.fm (by simp) Hlow.out).2)
  obtain ⟨c98, c99⟩ := kcells2 ((HE.out.cp (by simp) Hwas.out).2)
  go_wp2_with fail
  clear c96 c97 c98 c99
  with_reducible refine Calls.mono hc ?_
  rintro e w95 ⟨rfl, cx⟩
  clear hc
  try dsimp only
  replace HE := Hid.mk (HE.out.later cx)
  clear cx
  have hc := dSince_any L next m1 _ aown _ cown ((HE.out.fm (by simp) Hown.out).1.li HS.out.n9 HS.out.z)
  obtain ⟨c101, c102⟩ := kcells2 ((HE.out.fm (by simp) Hown.out).2)
  go_wp2_with fail
  clear c101 c102
  with_reducible refine Calls.mono hc ?_
  rintro e w100 ⟨hsn, cx⟩
  clear hc
  try dsimp only
  rcases hsn with ⟨_, _, vx, rfl, ox⟩ | ⟨hno, _⟩
  rotate_left
  · exact absurd HM1.out hno
  try dsimp only
  replace HE := Hid.mk (HE.out.later cx)
  clear ox cx
  obtain ⟨c103, c104⟩ := kcells2 ((HE.out.fm (by simp) Hown.out).2)
  go_wp2_with fail
  clear c103 c104
  have HX := Hid.mk (Hown.out.x HS.out)
  clear Hown
  go_loopw [17] (fun i wr => ∃ (k : Nat) (oo : Kob), i = .int .i64 (k : Int) ∧ k ≤ L.length ∧ Hid (Kxob oo g3 next L.length aown cown) ∧ Hid (Kev #[.int .i64 next, .slice a L.length cap] W wr [oo, olow, owas, ob, owant, od])) (fun i _ => L.length - (intOf i).toNat)
  case atStart => exact ⟨0, _, rfl, Nat.zero_le _, HX, HE⟩
  case round =>
    clear HX HE
    obtain ⟨k, oo, rfl, hk, HX, HE⟩ := hrel
    obtain ⟨p0, p1⟩ := kcells2 (HE.out.xb (by simp) HX.out)
    by_cases hlt : k < L.length
    · have d1 : decide ((k : Int) < (L.length : Int)) = true := decide_eq_true (Int.ofNat_lt.2 hlt)
      have k0 : (0 : Int) ≤ (k : Int) := Int.natCast_nonneg k
      have k1 : (k : Int) < (L.length : Int) := Int.ofNat_lt.2 hlt
      have hwk : wrap64 ((k : Int) + 1) = (k : Int) + 1 := by have := HS.out.n; unfold wrap64; omega
      obtain ⟨gb, ra, ln, rc, dd, ea, c3, c4, hf, -, -, -, ⟨o2, hx2, hE2⟩, -⟩ := HE.out.row HX.out hlt
      subst ea
      have f3 := hf (k * 5 + 3)
      replace hE2 : Kev #[.int .i64 next, .slice a L.length cap] W (wr.setCell ⟨gb, k * 5 + 3, none⟩ (.string ⟨#[]⟩)) [o2, olow, owas, ob, owant, od] := hE2
      have HE2 := Hid.mk hE2
      have HX2 := Hid.mk hx2
      clear hf c4 hE2 hx2 HE HX
      go_upto_region 29 with fail
      clear c3 f3 p0 p1
      generalize wr.setCell ⟨gb, k * 5 + 3, none⟩ (.string ⟨#[]⟩) = w9 at *
      obtain ⟨q0, q1⟩ := kcells2 (HE2.out.xb (by simp) HX2.out)
      obtain ⟨gb2, ra, ln, rc, dd, ea, -, c4, hf, h1, h2, h3, -, -⟩ := HE2.out.row HX2.out hlt
      obtain rfl : gb = gb2 := by have := congrArg (fun a => (a.map Addr.block)) ea; simpa using this
      obtain ⟨gb2, ra2, ln2, rc2, dd2, ea2, -, c42, -, -, -, -, -, ⟨o3, hx3, hE3⟩⟩ := (HE2.out.later (Below.refl _ _).drew).row HX2.out hlt
      obtain rfl : gb = gb2 := by have := congrArg (fun a => (a.map Addr.block)) ea2; simpa using this
      have e42 : w9.cell? ⟨gb, k * 5 + 4, none⟩ = some (.slice ra2 ln2 rc2) := c42
      rw [c4] at e42
      injection e42 with e42
      injection e42 with r1 r2 r3
      subst r1 r2 r3
      have s1 : ∀ w, (slP (.slice ra ln rc) none (some (.int .i64 0)) none).run Try.prog w = .ok (.slice ra 0 rc) w := fun w => run_slP ra ln rc 0 (Nat.zero_le _) h2 h3 w
      have f4 := hf (k * 5 + 4)
      have HE3 := Hid.mk hE3
      have HX3 := Hid.mk hx3
      clear hf hE3 hx3 ea ea2 c42 HE2 HX2 h1 h2 h3
      go_region
      all_goals go_wp2_with fail
      all_goals refine ⟨⟨k + 1, _, by rw [hwk]; rfl, hlt, HX3, HE3⟩, ?_⟩
      all_goals rw [hwk]
      all_goals exact meas3 hlt
    · have d1 : decide ((k : Int) < (L.length : Int)) = false := decide_eq_false (fun q => hlt (Int.ofNat_lt.1 q))
      have d1n : decide (k < L.length) = false := decide_eq_false hlt
      obtain ⟨L2, hs2, hl2, li2⟩ := HE.out.xl (by simp) HX.out HS.out.n
      have HS2 := Hid.mk hs2
      have HL2 := Hid.mk li2
      have HN2 := Hid.mk hl2
      clear hs2 hl2 li2 hk hlt
      have hc := dSince_any L2 next m1 _ aown _ cown HL2.out
      obtain ⟨c106, c107⟩ := kcells2 (HE.out.xb (by simp) HX.out)
      go_wp2_with fail
      clear c106 c107
      with_reducible refine Calls.mono hc ?_
      rintro e w105 ⟨hsn, cx⟩
      clear hc
      try dsimp only
      rcases hsn with ⟨_, _, vx, rfl, ox⟩ | ⟨hno, _⟩
      rotate_left
      · exact absurd HM1.out hno
      try dsimp only
      have HL3 := Hid.mk (HL2.out.later cx)
      clear HL2
      obtain ⟨abare, cbare, obare, rfl, Hbare, hE⟩ := HE.out.addD cx ox m1 next
      replace HE : Hid (Kev #[.int .i64 next, .slice a L.length cap] W (w105.alloc (.cells #[.int .i64 m1, .int .i64 next, .slice abare (snL m1 L2).length cbare] 31)) [oo, olow, owas, ob, owant, od, obare]) := Hid.mk hE
      replace Hbare := Hid.mk Hbare
      clear hE cx ox
      try dsimp only
      have HL2 := Hid.mk (HL3.out.later (bl_alloc w105 (.cells #[.int .i64 m1, .int .i64 next, .slice abare (snL m1 L2).length cbare] 31)))
      clear HL3
      have hc := qCopy_any L2 next _ aown _ cown HN2.out HL2.out.s HL2.out.l HL2.out.z
      obtain ⟨c111, c112⟩ := kcells2 (HE.out.xb (by simp) HX.out)
      go_wp2_with fail
      clear c111 c112
      generalize w105.alloc (.cells #[.int .i64 m1, .int .i64 next, .slice abare (snL m1 L2).length cbare] 31) = w108 at *
      generalize w105.heap.size = g109 at *
      with_reducible refine Calls.mono hc ?_
      rintro e w110 ⟨vx, rfl, ox, cx⟩
      clear hc
      try dsimp only
      clear HL2
      obtain ⟨acp, ccp, ocp, rfl, Hcp, hE⟩ := HE.out.addB cx ox next
      replace HE : Hid (Kev #[.int .i64 next, .slice a L.length cap] W (w110.alloc (.cells #[.int .i64 next, .slice acp L2.length ccp] 24)) [oo, olow, owas, ob, owant, od, obare, ocp]) := Hid.mk hE
      replace Hcp := Hid.mk Hcp
      clear hE cx ox
      try dsimp only
      have hc := eSince_any L2 next m1 _ acp _ ccp ⟨rfl, (HE.out.cp (by simp) Hcp.out).1, HS2.out.n9, HS2.out.z⟩
      obtain ⟨c116, c117⟩ := kcells2 ((HE.out.cp (by simp) Hcp.out).2)
      go_wp2_with fail
      clear c116 c117
      generalize w110.alloc (.cells #[.int .i64 next, .slice acp L2.length ccp] 24) = w113 at *
      generalize w110.heap.size = g114 at *
      with_reducible refine Calls.mono hc ?_
      rintro e w115 ⟨hsn, cx⟩
      clear hc
      try dsimp only
      rcases hsn with ⟨_, _, vx, rfl, ox⟩ | ⟨hno, _⟩
      rotate_left
      · exact absurd HM1.out hno
      try dsimp only
      obtain ⟨axx, cxx, oxx, rfl, Hxx, hE⟩ := HE.out.addD cx ox m1 next
      replace HE : Hid (Kev #[.int .i64 next, .slice a L.length cap] W (w115.alloc (.cells #[.int .i64 m1, .int .i64 next, .slice axx (snL m1 L2).length cxx] 31)) [oo, olow, owas, ob, owant, od, obare, ocp, oxx]) := Hid.mk hE
      replace Hxx := Hid.mk Hxx
      clear hE cx ox
      try dsimp only
      have hc := Kev.mark (A := [oo, olow, owas]) (B := [owant, od, obare, ocp, oxx]) HE.out Hb.out (HS.out.sn m1) next
      obtain ⟨c121, c122, c123⟩ := kcells3 ((HE.out.cp (by simp) Hb.out).2)
      go_wp2_with fail
      clear c121 c122 c123
      generalize w115.alloc (.cells #[.int .i64 m1, .int .i64 next, .slice axx (snL m1 L2).length cxx] 31) = w118 at *
      generalize w115.heap.size = g119 at *
      with_reducible refine Calls.mono hc ?_
      rintro e w120 ⟨rfl, oby, hx, hE⟩
      clear hc
      try dsimp only
      clear Hb
      replace HE : Hid (Kev #[.int .i64 next, .slice a L.length cap] W w120 [oo, olow, owas, oby, owant, od, obare, ocp, oxx]) := Hid.mk hE
      have Hb := Hid.mk hx
      clear hE hx
      have hc := eSame_eq m1 next (snL m1 L2) _ abare cbare axx cxx ⟨rfl, (HE.out.cp (by simp) Hbare.out).1, (HS2.out.sn m1).n9, (HS2.out.sn m1).z⟩ ⟨rfl, (HE.out.cp (by simp) Hxx.out).1, (HS2.out.sn m1).n9, (HS2.out.sn m1).z⟩ (HS2.out.sn m1).n6
      obtain ⟨c125, c126, c127⟩ := kcells3 ((HE.out.cp (by simp) Hbare.out).2)
      obtain ⟨c128, c129, c130⟩ := kcells3 ((HE.out.cp (by simp) Hxx.out).2)
      go_wp2_with fail
      clear c125 c126 c127 c128 c129 c130
      with_reducible refine Calls.mono hc ?_
      rintro e w124 ⟨rfl, cx⟩
      clear hc
      try dsimp only
      replace HE := Hid.mk (HE.out.later cx)
      clear cx
      have hc := qSame_eq next L _ ad cd a cap ⟨rfl, (HE.out.cp (by simp) Hd.out).1, HS.out.n9, HS.out.z⟩ (HL.out.later HE.out.bel) HS.out.n6
      obtain ⟨c132, c133⟩ := kcells2 ((HE.out.cp (by simp) Hd.out).2)
      obtain ⟨cv0, cv1⟩ := kcells2 HE.out.vb
      go_wp2_with fail
      clear c132 c133 cv0 cv1
      with_reducible refine Calls.mono hc ?_
      rintro e w131 ⟨rfl, cx⟩
      clear hc
      try dsimp only
      replace HE := Hid.mk (HE.out.later cx)
      clear cx
      have hc := kept_any m1 (blL m1 L) alow awas clow cwas _ _ (HE.out.fm (by simp) Hlow.out).1 ⟨rfl, (HE.out.cp (by simp) Hwas.out).1, (HS.out.bl m1).n9, (HS.out.bl m1).z⟩ (HS.out.bl m1).n6 (HS.out.bl m1).l
      obtain ⟨c135, c136⟩ := kcells2 ((HE.out.fm (by simp) Hlow.out).2)
      obtain ⟨c137, c138⟩ := kcells2 ((HE.out.cp (by simp) Hwas.out).2)
      go_wp2_with fail
      clear c135 c136 c137 c138
      with_reducible refine Calls.mono hc ?_
      rintro e w134 ⟨rfl, cx⟩
      clear hc
      try dsimp only
      replace HE := Hid.mk (HE.out.later cx)
      clear cx
      go_wp2_with fail
      go_ret
      exact ⟨rfl, HE.out.bel⟩
end Go.Proofs.Ythbdaadhcheggaa
