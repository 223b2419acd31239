import Derived.Test.YthbdaadhcheggaaGe
import Derived.Test.YthbdaadhcheggaaKd
import Derived.Deep.RegionHeld3
/- DeltaApart: grown. -/
namespace Go.Proofs.Ythbdaadhcheggaa
set_option linter.unusedVariables false
set_option linter.unusedSimpArgs false
open Go.RowKit
theorem Bq.no {w : World} {g B n s : Nat} {x y v : Value} {t : TypeId} {xs : List Value} (h : Bq w g x y) (ho : w.ownsRow B t s v n xs) (ht : t ≠ 24) : v.ownBlock ≠ some g := fun q => by
  obtain ⟨cs, e⟩ := own_type ho q
  unfold Bq at h
  rw [h] at e
  injection e with e
  injection e with _ e _
  exact ht e.symm
/-- a pair behind a row of pairs of one's own -/
theorem app_p {ops : Array Oper} {rest : List Oper} {o : Oper} {a : Act} {Q : Exit → Act → World → Prop} {W : World} (hgd : o.guard = none) (s x : Operand) (ho : o.op = .call { callee := .builtin .append, args := #[s, x], argTypes := #[39, 39] })
    {base : Nat} {w : World} {v : Value} {l : List En} {g : Nat} (p : En) (hW : W = w.alloc (.cells #[str p.key, str p.val] 51)) (hO : Ow base w v l) (hg : g = w.heap.size) (hn : l.length ≤ 1000000000000)
    (hs : a.eval s = v) (hx : a.eval x = .slice (some ⟨g, 0, none⟩) 1 1)
    (h : ∀ g' cap w', Ow base w' (.slice (some ⟨g', 0, none⟩) (l.length + 1) cap) (l ++ [p]) → Below base w w' → (∀ k, k < w.heap.size → v.ownBlock ≠ some k → w'.heap[k]? = w.heap[k]?) → (v.ownBlock = some g' ∨ w.heap.size ≤ g') → wpList Try.prog ops Q rest (a.put o.dst (.slice (some ⟨g', 0, none⟩) (l.length + 1) cap)) w') :
    wpList Try.prog ops Q (o :: rest) a W := by
  obtain ⟨i0, hi0, hz0, hz1, hz2⟩ := infoP
  subst hW hg
  have hm : maxLen = 9223372036854775807 := rfl
  refine wpList_append_lies _ hgd s x 39 ho base 51 i0 _ 2 32 Try.underlying39 hi0 hz0 hz1 hz2 rfl (by omega) v l.length (pcells l) hs (hO.own.alloc _) _ 1 1 (pcs p) hx rfl
    (World.news_of_block (cs := #[str p.key, str p.val]) (t := 51) (fr := (0, 0)) (heap_alloc_new w _)) (by simp [pcs, Value.oneCell']) (by omega) (by rw [hm]; omega) (by omega) (by have := hO.le; simp; omega) _ rfl ?_
  intro g2 cap2 w' hown hgrow hat hlt
  refine h g2 cap2 w' ⟨?_, ?_⟩ ?_ (fun k hk hne => by rw [hgrow.block k (by simp; omega) (Ne.symm hne), heap_alloc_old _ _ hk]) ?_
  · rw [pcells_append, List.length_append]
    have : pcells [p] = pcs p := by simp [pcells]
    rw [this]; exact hown
  · have := hgrow.size; have h2 := hO.le; simp at this; omega
  · exact ((Below.refl _ _).alloc hO.le _).trans (grown_below (hO.own.alloc _) (by have := hO.le; simp; omega) hgrow)
  · rcases hat with q | q
    · exact .inl q
    · right; rw [q]; simp
theorem infoLf : (Try.prog.info? 39).map (fun i => (i.zero, i.size, i.bytes)) = some (some (.slice none 0 0), 1, 24) := by kernel_rfl
/-- a row of pairs behind a list of such rows of one's own -/
theorem app_l {ops : Array Oper} {rest : List Oper} {o : Oper} {a : Act} {Q : Exit → Act → World → Prop} {W : World} (hgd : o.guard = none) (s x : Operand) (ho : o.op = .call { callee := .builtin .append, args := #[s, x], argTypes := #[57, 57] })
    {base : Nat} {w : World} {v m : Value} {n : Nat} {xs : List Value} {g : Nat} (hW : W = w.alloc (.cells #[m] 39)) (hO : w.ownsRow base 39 1 v n xs) (hle : base ≤ w.heap.size) (h1 : m.oneCell' = true) (hg : g = w.heap.size) (hn : n ≤ 1000000000000)
    (hs : a.eval s = v) (hx : a.eval x = .slice (some ⟨g, 0, none⟩) 1 1)
    (h : ∀ g' cap w', w'.ownsRow base 39 1 (.slice (some ⟨g', 0, none⟩) (n + 1) cap) (n + 1) (xs ++ [m]) → Below base w w' → (∀ k, k < w.heap.size → v.ownBlock ≠ some k → w'.heap[k]? = w.heap[k]?) → wpList Try.prog ops Q rest (a.put o.dst (.slice (some ⟨g', 0, none⟩) (n + 1) cap)) w') :
    wpList Try.prog ops Q (o :: rest) a W := by
  have hif := infoLf
  cases hq : Try.prog.info? 39 with
  | none => rw [hq] at hif; cases hif
  | some i0 =>
  rw [hq] at hif
  simp at hif
  obtain ⟨hz0, hz1, hz2⟩ := hif
  subst hW hg
  have hm : maxLen = 9223372036854775807 := rfl
  refine wpList_append_lies _ hgd s x 57 ho base 39 i0 _ 1 24 Try.underlying57 hq hz0 hz1 hz2 rfl (by omega) v n xs hs (hO.alloc _) _ 1 1 [m] hx rfl
    (World.news_of_block (cs := #[m]) (t := 39) (fr := (0, 0)) (heap_alloc_new w _)) (by simpa using h1) (by omega) (by rw [hm]; omega) (by omega) (by simp; omega) _ rfl ?_
  intro g2 cap2 w' hown hgrow hat hlt
  refine h g2 cap2 w' hown ?_ (fun k hk hne => by rw [hgrow.block k (by simp; omega) (Ne.symm hne), heap_alloc_old _ _ hk])
  exact ((Below.refl _ _).alloc hle _).trans (grown_below (hO.alloc _) (by simp; omega) hgrow)
theorem Ot.step {X : Nat → Prop} {w wr w' : World} {B : Nat} (h : Ot X w wr) (hb : Below B wr w') (hx : ∀ k, k < w.heap.size → ¬ X k → w'.heap[k]? = wr.heap[k]?) : Ot X w w' := ⟨hb.os.trans h.os, hb.tape.trans h.tape, hb.output.trans h.output, Nat.le_trans h.size hb.size, fun k hk hn => (hx k hk hn).trans (h.block k hk hn)⟩
theorem Ot.new {X : Nat → Prop} {w w' : World} {g j : Nat} {v : Value} (h : Ot X w w') (hg : w.heap.size ≤ g) : Ot X w (w'.setCell ⟨g, j, none⟩ v) := ⟨h.os, h.tape, h.output, by simpa using h.size, fun k hk hn => (Below.heap_setCell _ _ _ _ (fun e => by have e : k = g := e; omega)).trans (h.block k hk hn)⟩
def kgrn : List UInt8 := [103, 114, 111, 119, 110]
def kgrV : Rv := ⟨⟨kgrn, 0, false, [], []⟩, [], none, 0⟩
/-- behind k versions more -/
structure Kgq (lo : Nat) (w : World) (next : Int) (v0 : Value) (R : List Rv) (k : Nat) (a : Option Addr) (cap : Nat) (wr : World) : Prop where
  box : Bq wr w.heap.size (.int .i64 next) (.slice a (R.length + k) cap)
  fo : Fo lo wr (.slice a (R.length + k) cap) (R ++ List.replicate k kgrV)
  at' : ∀ g, (Value.slice a (R.length + k) cap).ownBlock = some g → Tc v0 R g ∨ w.heap.size ≤ g
  ot : Ot (Tc v0 R) w wr
theorem Kgq.start {lo : Nat} {w : World} {next : Int} {a : Option Addr} {cap : Nat} {R : List Rv} (h : Fo lo w (.slice a R.length cap) R) : Kgq lo w next (.slice a R.length cap) R 0 a cap (w.alloc (.cells #[.int .i64 next, .slice a R.length cap] 24)) := by
  have bb : Below w.heap.size w (w.alloc (.cells #[.int .i64 next, .slice a R.length cap] 24)) := (Below.refl _ _).alloc (Nat.le_refl _) _
  refine ⟨Bq.new w _ _, ?_, fun g hg => .inl (.inl hg), Ot.bel bb⟩
  simp only [List.replicate_zero, List.append_nil, Nat.add_zero]
  exact h.later bb
theorem Kgq.ad {lo : Nat} {w : World} {next : Int} {v0 : Value} {R : List Rv} {k : Nat} {a : Option Addr} {cap : Nat} {wr : World} (h : Kgq lo w next v0 R k a cap wr) :
    (R ++ List.replicate k kgrV).length = R.length + k ∧ Ad lo wr (.slice a (R.length + k) cap) (R ++ List.replicate k kgrV) kgrV ∧
      ∀ g' cap' w', Fo lo w' (.slice (some ⟨g', 0, none⟩) (R.length + k + 1) cap') ((R ++ List.replicate k kgrV) ++ [kgrV]) → Below lo wr w' → (∀ j, j < wr.heap.size → (Value.slice a (R.length + k) cap).ownBlock ≠ some j → w'.heap[j]? = wr.heap[j]?) → ((Value.slice a (R.length + k) cap).ownBlock = some g' ∨ wr.heap.size ≤ g') →
        Bq w' w.heap.size (.int .i64 next) (.slice a (R.length + k) cap) ∧ Kgq lo w next v0 R (k + 1) (some ⟨g', 0, none⟩) cap' (w'.setCell ⟨w.heap.size, 1, none⟩ (.slice (some ⟨g', 0, none⟩) (R.length + k + 1) cap')) := by
  refine ⟨by simp, ⟨h.fo, ⟨World.ownsRow_nil _ _ _ _, h.fo.le⟩, fun _ _ _ b hb => by cases hb⟩, fun g' cap' w' hF hb hk hat => ?_⟩
  have hbx := h.box.same (hk _ h.box.lt (h.box.no h.fo.own (by decide)))
  have hsz := h.ot.size
  refine ⟨hbx, ⟨hbx.set1 _, ?_, fun g hg => ?_, ?_⟩⟩
  · rw [List.append_assoc] at hF
    have e : List.replicate k kgrV ++ [kgrV] = List.replicate (k + 1) kgrV := by rw [List.replicate_succ']
    rw [e] at hF
    exact hF.frame (by simp) (fun g hg => Below.heap_setCell _ _ _ _ (fun e => by
      have e : g = w.heap.size := e
      subst e
      exact hbx.nm hF hg))
  · have e : g' = g := by simpa [Value.ownBlock] using hg
    subst e
    rcases hat with q | q
    · exact h.at' _ q
    · right; omega
  · refine (h.ot.step hb (fun j hj hn => hk j (by omega) (fun q => ?_))).new (Nat.le_refl _)
    rcases h.at' j q with q | q
    · exact hn q
    · omega
/-- a row of pairs: where it lies, its room, its list -/
structure Kpr where
  a : Option Addr
  c : Nat
  l : List En
def Kpr.mv (q : Kpr) : Value := .slice q.a q.l.length q.c
def kprOf (r : Rv) : Kpr := ⟨r.a, r.c, r.v.l⟩
def kgs (i k : Nat) : List En := (List.range k).map (gpr i)
theorem kgs_succ (i k : Nat) : kgs i (k + 1) = kgs i k ++ [gpr i k] := by simp [kgs, List.range_succ]
theorem kgs_length (i k : Nat) : (kgs i k).length = k := by simp [kgs]
structure Kpw (lo : Nat) (w : World) (Q : List Kpr) : Prop where
  met : ∀ (k : Nat) (q : Kpr), Q[k]? = some q → Ow lo w q.mv q.l
  par : ∀ (i j : Nat) (q q' : Kpr), i ≠ j → Q[i]? = some q → Q[j]? = some q' → ∀ b, q.mv.ownBlock = some b → q'.mv.ownBlock ≠ some b
/-- what is kept while the rows of pairs grow -/
structure Kgb (lo : Nat) (w : World) (next : Int) (v0 : Value) (R : List Rv) (v : Value) (i : Nat) (lv : Value) (Q : List Kpr) (wr : World) : Prop where
  box : Bq wr w.heap.size (.int .i64 next) v
  own : wr.ownsRow lo 41 5 v (R.length + 9) (rcells (R ++ List.replicate 9 kgrV))
  pw : Kpw lo wr Q
  len : Q.length = R.length
  done : ∀ (j : Nat) (r : Rv), j < i → R[j]? = some r → ∃ q, Q[j]? = some q ∧ q.l = r.v.l ++ kgs j 9
  low : wr.ownsRow w.heap.size 39 1 lv i ((Q.take i).map Kpr.mv)
  at' : ∀ (g k : Nat) (q : Kpr), Q[k]? = some q → q.mv.ownBlock = some g → Tc v0 R g ∨ w.heap.size ≤ g
  ot : Ot (Tc v0 R) w wr
theorem Kgb.later {lo : Nat} {w : World} {next : Int} {v0 : Value} {R : List Rv} {v : Value} {i : Nat} {lv : Value} {Q : List Kpr} {wr w' : World} (h : Kgb lo w next v0 R v i lv Q wr) (hb : Below wr.heap.size wr w') : Kgb lo w next v0 R v i lv Q w' :=
  ⟨h.box.later hb, own_later h.own hb, ⟨fun k q hq => (h.pw.met k q hq).later hb, h.pw.par⟩, h.len, h.done, own_later h.low hb, h.at', h.ot.trans (Ot.bel hb)⟩
theorem kpr_get {Q : List Kpr} {k j : Nat} {r' q : Kpr} (h : (Q.set k r')[j]? = some q) : (j = k ∧ q = r') ∨ (¬ j = k ∧ Q[j]? = some q) := by
  by_cases e : j = k
  · subst e
    have hl := (List.getElem?_eq_some_iff.1 h).1
    rw [List.getElem?_set_self (by simpa using hl)] at h
    injection h with h
    exact .inl ⟨rfl, h.symm⟩
  · rw [List.getElem?_set_ne (fun q => e q.symm)] at h
    exact .inr ⟨e, h⟩
theorem Kgb.put {lo : Nat} {w : World} {next : Int} {v0 : Value} {R : List Rv} {v : Value} {i : Nat} {lv : Value} {Q : List Kpr} {wr w' : World} (h : Kgb lo w next v0 R v i lv Q wr) {q q' : Kpr} (hq : Q[i]? = some q) (ho : Ow lo w' q'.mv q'.l) (hb : Below lo wr w')
    (hk : ∀ k, k < wr.heap.size → q.mv.ownBlock ≠ some k → w'.heap[k]? = wr.heap[k]?) (hat : ∀ g, q'.mv.ownBlock = some g → q.mv.ownBlock = some g ∨ wr.heap.size ≤ g) : Kgb lo w next v0 R v i lv (Q.set i q') w' := by
  have hqo := h.pw.met i q hq
  have hsz := h.ot.size
  have hot : Ot (Tc v0 R) w w' := h.ot.step hb (fun j hj hn => hk j (by omega) (fun e => by
    rcases h.at' j i q hq e with e | e
    · exact hn e
    · omega))
  refine ⟨h.box.same (hk _ h.box.lt (h.box.no hqo.own (by decide))), own_same h.own (fun g hg => hk g (h.own.lt g hg).2 (own_apart h.own hqo.own (by decide) hg)), ⟨fun k x hx => ?_, fun a b x y hab hx hy g hg => ?_⟩, by rw [List.length_set]; exact h.len, fun j r hj hr => ?_, ?_, fun g k x hx hg => ?_, hot⟩
  · rcases kpr_get hx with ⟨rfl, rfl⟩ | ⟨hne, hx⟩
    · exact ho
    · exact (h.pw.met k x hx).same hb.size (fun g hg => hk g ((h.pw.met k x hx).own.lt g hg).2 (h.pw.par k i x q hne hx hq g hg))
  · rcases kpr_get hx with ⟨rfl, rfl⟩ | ⟨hne, hx2⟩
    · rcases kpr_get hy with ⟨rfl, _⟩ | ⟨_, hy2⟩
      · exact absurd rfl hab
      · rcases hat g hg with e | e
        · exact h.pw.par a b q y hab hq hy2 g e
        · intro e2
          have := ((h.pw.met b y hy2).own.lt g e2).2
          omega
    · rcases kpr_get hy with ⟨rfl, rfl⟩ | ⟨_, hy2⟩
      · intro e2
        rcases hat g e2 with e | e
        · exact h.pw.par a b x q hab hx2 hq g hg e
        · have := ((h.pw.met a x hx2).own.lt g hg).2
          omega
      · exact h.pw.par a b x y hab hx2 hy2 g hg
  · obtain ⟨x, hx, e⟩ := h.done j r hj hr
    exact ⟨x, by rw [List.getElem?_set_ne (by omega)]; exact hx, e⟩
  · rw [List.take_set_of_le (Nat.le_refl _)]
    exact own_same h.low (fun g hg => hk g (h.low.lt g hg).2 (own_apart h.low hqo.own (by decide) hg))
  · rcases kpr_get hx with ⟨rfl, rfl⟩ | ⟨hne, hx⟩
    · rcases hat g hg with e | e
      · exact h.at' g k q hq e
      · right; omega
    · exact h.at' g k x hx hg
theorem Kgb.lst {lo : Nat} {w : World} {next : Int} {v0 : Value} {R : List Rv} {v : Value} {i : Nat} {lv lv' : Value} {Q : List Kpr} {wr w' : World} (h : Kgb lo w next v0 R v i lv Q wr) {q : Kpr} {r : Rv} (hr : R[i]? = some r) (hq : Q[i]? = some q) (hl : q.l = r.v.l ++ kgs i 9)
    (ho : w'.ownsRow w.heap.size 39 1 lv' (i + 1) ((Q.take i).map Kpr.mv ++ [q.mv])) (hb : Below w.heap.size wr w') (hk : ∀ k, k < wr.heap.size → lv.ownBlock ≠ some k → w'.heap[k]? = wr.heap[k]?) : Kgb lo w next v0 R v (i + 1) lv' Q w' := by
  refine ⟨h.box.same (hk _ h.box.lt (h.box.no h.low (by decide))), own_same h.own (fun g hg => hk g (h.own.lt g hg).2 (own_apart h.own h.low (by decide) hg)), ⟨fun k x hx => (h.pw.met k x hx).same hb.size (fun g hg => hk g ((h.pw.met k x hx).own.lt g hg).2 (own_apart (h.pw.met k x hx).own h.low (by decide) hg)), h.pw.par⟩, h.len, fun j x hj hx => ?_, ?_, h.at', h.ot.step hb (fun j hj hn => hb.block j hj)⟩
  · by_cases e : j = i
    · subst e
      rw [hr] at hx
      injection hx with hx
      subst hx
      exact ⟨q, hq, hl⟩
    · exact h.done j x (by omega) hx
  · rw [List.take_add_one, hq]
    simpa using ho
structure Kgr (lo : Nat) (w : World) (next : Int) (v0 : Value) (R : List Rv) (v : Value) (i : Nat) (lv : Value) (wr : World) : Prop where
  ex : ∃ Q, Kgb lo w next v0 R v i lv Q wr ∧ ∀ j : Nat, i ≤ j → Q[j]? = (R[j]?).map kprOf
structure Kgm (lo : Nat) (w : World) (next : Int) (v0 : Value) (R : List Rv) (v : Value) (i k : Nat) (r : Rv) (ma : Option Addr) (mc : Nat) (lv : Value) (wr : World) : Prop where
  ex : ∃ Q, Kgb lo w next v0 R v i lv Q wr ∧ Q[i]? = some ⟨ma, mc, r.v.l ++ kgs i k⟩ ∧ ∀ j : Nat, i < j → Q[j]? = (R[j]?).map kprOf
theorem Kgr.start {lo : Nat} {w : World} {next : Int} {v0 : Value} {R : List Rv} {a : Option Addr} {cap : Nat} {wr : World} (hz : ∀ r ∈ R, r.z = []) (h : Kgq lo w next v0 R 9 a cap wr) (ht : ∀ (k : Nat) (r : Rv) (g : Nat), R[k]? = some r → r.mv.ownBlock = some g → Tc v0 R g) : Kgr lo w next v0 R (.slice a (R.length + 9) cap) 0 (.slice none 0 0) wr := by
  have hg : ∀ (k : Nat) (q : Kpr), (R.map kprOf)[k]? = some q → ∃ r, R[k]? = some r ∧ kprOf r = q := fun k q hq => by
    rw [List.getElem?_map] at hq
    cases hr : R[k]? with
    | none => rw [hr] at hq; cases hq
    | some r => rw [hr] at hq; injection hq with hq; exact ⟨r, rfl, hq⟩
  have hR : ∀ (k : Nat) (r : Rv), R[k]? = some r → (R ++ List.replicate 9 kgrV)[k]? = some r := fun k r hr => by rw [List.getElem?_append_left (List.getElem?_eq_some_iff.1 hr).1]; exact hr
  have hmv : ∀ (k : Nat) (r : Rv), R[k]? = some r → (kprOf r).mv = r.mv := fun k r hr => by
    unfold kprOf Kpr.mv Rv.mv
    rw [hz r (List.mem_of_getElem? hr)]; rfl
  refine ⟨R.map kprOf, ⟨h.box, by have := h.fo.own; rw [List.length_append, List.length_replicate] at this; exact this, ⟨fun k q hq => ?_, fun i j q q' hij hq hq' b hb => ?_⟩, List.length_map .., fun j r hj => by omega, World.ownsRow_nil _ _ _ _, fun g k q hq hb => ?_, h.ot⟩, fun j _ => List.getElem?_map ..⟩
  · obtain ⟨r, hr, rfl⟩ := hg k q hq
    have := h.fo.met k r (hR k r hr)
    rw [← hmv k r hr, hz r (List.mem_of_getElem? hr), List.append_nil] at this
    exact this
  · obtain ⟨r, hr, rfl⟩ := hg i q hq
    obtain ⟨r', hr', rfl⟩ := hg j q' hq'
    rw [hmv i r hr] at hb
    rw [hmv j r' hr']
    exact h.fo.par i j r r' hij (hR i r hr) (hR j r' hr') b hb
  · obtain ⟨r, hr, rfl⟩ := hg k q hq
    rw [hmv k r hr] at hb
    exact .inl (ht k r g hr hb)
theorem Kgr.row {lo : Nat} {w : World} {next : Int} {v0 : Value} {R : List Rv} {a : Option Addr} {cap : Nat} {i : Nat} {lv : Value} {wr : World} (h : Kgr lo w next v0 R (.slice a (R.length + 9) cap) i lv wr) {r : Rv} (hr : R[i]? = some r) :
    ∃ g, a = some ⟨g, 0, none⟩ ∧ wr.cell? ⟨g, i * 5 + 4, none⟩ = some (.slice r.a r.v.l.length r.c) ∧ Kgm lo w next v0 R (.slice a (R.length + 9) cap) i 0 r r.a r.c lv wr := by
  obtain ⟨Q, hG, hQ⟩ := h.ex
  have hl := (List.getElem?_eq_some_iff.1 hr).1
  have hR : (R ++ List.replicate 9 kgrV)[i]? = some r := by rw [List.getElem?_append_left hl]; exact hr
  have hp := rcells_length (R ++ List.replicate 9 kgrV)
  rw [List.length_append, List.length_replicate] at hp
  rcases hG.own.2 with ⟨e, h0⟩ | ⟨g, cp, cur, e, _⟩
  · omega
  · injection e with e1 e2 e3
    subst e1 e3
    refine ⟨g, rfl, ?_, ⟨Q, hG, ?_, fun j hj => hQ j (by omega)⟩⟩
    · rw [hG.own.cellAt _ (by omega), rcells_get hR 4 (by omega)]; rfl
    · rw [hQ i (Nat.le_refl _), hr]
      simp [kprOf, kgs]
theorem Kgm.app {lo : Nat} {w : World} {next : Int} {v0 : Value} {R : List Rv} {v : Value} {i k : Nat} {r : Rv} {ma : Option Addr} {mc : Nat} {lv : Value} {wr : World} (h : Kgm lo w next v0 R v i k r ma mc lv wr) (w2 : World) (h2 : Below wr.heap.size wr w2) :
    Ow lo w2 (.slice ma (r.v.l.length + k) mc) (r.v.l ++ kgs i k) ∧ ∀ g' cap' w', Ow lo w' (.slice (some ⟨g', 0, none⟩) ((r.v.l ++ kgs i k).length + 1) cap') (r.v.l ++ kgs i k ++ [gpr i k]) → Below lo w2 w' → (∀ j, j < w2.heap.size → (Value.slice ma (r.v.l.length + k) mc).ownBlock ≠ some j → w'.heap[j]? = w2.heap[j]?) → ((Value.slice ma (r.v.l.length + k) mc).ownBlock = some g' ∨ w2.heap.size ≤ g') → Kgm lo w next v0 R v i (k + 1) r (some ⟨g', 0, none⟩) cap' lv w' := by
  obtain ⟨Q, hG, hq, hQ⟩ := h.ex
  have hl : (r.v.l ++ kgs i k).length = r.v.l.length + k := by rw [List.length_append, kgs_length]
  have e : Kpr.mv ⟨ma, mc, r.v.l ++ kgs i k⟩ = .slice ma (r.v.l.length + k) mc := by unfold Kpr.mv; rw [hl]
  have ho := (hG.later h2).pw.met i _ hq
  rw [e] at ho
  refine ⟨ho, fun g' cap' w' ho' hb hk hat => ⟨Q.set i ⟨some ⟨g', 0, none⟩, cap', r.v.l ++ kgs i (k + 1)⟩, (hG.later h2).put hq (q' := ⟨some ⟨g', 0, none⟩, cap', r.v.l ++ kgs i (k + 1)⟩) ?_ hb (by rw [e]; exact hk) (fun g hg => ?_), ?_, fun j hj => ?_⟩⟩
  · show Ow lo w' (.slice (some ⟨g', 0, none⟩) (r.v.l ++ kgs i (k + 1)).length cap') (r.v.l ++ kgs i (k + 1))
    rw [kgs_succ, ← List.append_assoc, List.length_append]
    exact ho'
  · have e2 : g' = g := by simpa [Kpr.mv, Value.ownBlock] using hg
    subst e2
    rw [e]; exact hat
  · rw [List.getElem?_set_self (List.getElem?_eq_some_iff.1 hq).1]
  · rw [List.getElem?_set_ne (by omega)]; exact hQ j hj
theorem Kgm.later {lo : Nat} {w : World} {next : Int} {v0 : Value} {R : List Rv} {v : Value} {i k : Nat} {r : Rv} {ma : Option Addr} {mc : Nat} {lv : Value} {wr w' : World} (h : Kgm lo w next v0 R v i k r ma mc lv wr) (hb : Below wr.heap.size wr w') : Kgm lo w next v0 R v i k r ma mc lv w' := by
  obtain ⟨Q, hG, hq, hQ⟩ := h.ex
  exact ⟨Q, hG.later hb, hq, hQ⟩
theorem Kgm.end' {lo : Nat} {w : World} {next : Int} {v0 : Value} {R : List Rv} {v : Value} {i : Nat} {r : Rv} {ma : Option Addr} {mc : Nat} {lv : Value} {wr : World} (h : Kgm lo w next v0 R v i 9 r ma mc lv wr) (hr : R[i]? = some r) :
    ∃ xs, wr.ownsRow w.heap.size 39 1 lv i xs ∧ w.heap.size ≤ wr.heap.size ∧ ∀ g' cap' w', w'.ownsRow w.heap.size 39 1 (.slice (some ⟨g', 0, none⟩) (i + 1) cap') (i + 1) (xs ++ [.slice ma (r.v.l.length + 9) mc]) → Below w.heap.size wr w' → (∀ j, j < wr.heap.size → lv.ownBlock ≠ some j → w'.heap[j]? = wr.heap[j]?) → Kgr lo w next v0 R v (i + 1) (.slice (some ⟨g', 0, none⟩) (i + 1) cap') w' := by
  obtain ⟨Q, hG, hq, hQ⟩ := h.ex
  have e : Kpr.mv ⟨ma, mc, r.v.l ++ kgs i 9⟩ = .slice ma (r.v.l.length + 9) mc := by unfold Kpr.mv; rw [List.length_append, kgs_length]
  refine ⟨_, hG.low, hG.ot.size, fun g' cap' w' ho hb hk => ⟨Q, hG.lst hr hq rfl (by rw [e]; exact ho) hb hk, fun j hj => hQ j (by omega)⟩⟩
/-- what the look at the end finds -/
def kgk (r : Rv) (i k : Nat) : En := if k < r.v.l.length then mpr i k else gpr i (k - r.v.l.length)
structure Kgl (wr : World) (i : Nat) (r : Rv) (g lg : Nat) (mg mc : Nat) : Prop where
  key : wr.cell? ⟨g, i * 5, none⟩ = some (.string ⟨#[109, 97, 114, 107, 101, 100]⟩)
  seq : wr.cell? ⟨g, i * 5 + 1, none⟩ = some (.int .i64 (-(i : Int) - 1))
  glt : g < wr.heap.size
  row : wr.cell? ⟨lg, i, none⟩ = some (.slice (some ⟨mg, 0, none⟩) (r.v.l.length + 9) mc)
  llt : lg < wr.heap.size
  mlt : mg < wr.heap.size
  prs : ∀ k, k < r.v.l.length + 9 → wr.cell? ⟨mg, k * 2, none⟩ = some (str (kgk r i k).key) ∧ wr.cell? ⟨mg, k * 2 + 1, none⟩ = some (str (kgk r i k).val)
theorem Kgl.later {wr w' : World} {i : Nat} {r : Rv} {g lg mg mc : Nat} (h : Kgl wr i r g lg mg mc) (hb : Below wr.heap.size wr w') : Kgl w' i r g lg mg mc := by
  have := hb.size
  exact ⟨(hb.cell (p := ⟨g, _, none⟩) h.glt).trans h.key, (hb.cell (p := ⟨g, _, none⟩) h.glt).trans h.seq, by have := h.glt; omega, (hb.cell (p := ⟨lg, _, none⟩) h.llt).trans h.row, by have := h.llt; omega, by have := h.mlt; omega, fun k hk => ⟨(hb.cell (p := ⟨mg, _, none⟩) h.mlt).trans (h.prs k hk).1, (hb.cell (p := ⟨mg, _, none⟩) h.mlt).trans (h.prs k hk).2⟩⟩
theorem Kgr.look {lo : Nat} {w : World} {next : Int} {v0 : Value} {R : List Rv} {a la : Option Addr} {cap lc : Nat} {wr : World} (h : Kgr lo w next v0 R (.slice a (R.length + 9) cap) R.length (.slice la R.length lc) wr) (hm : ∀ (i : Nat) (r : Rv), R[i]? = some r → Mkr i r) {i : Nat} {r : Rv} (hr : R[i]? = some r) :
    ∃ g lg mg mc, a = some ⟨g, 0, none⟩ ∧ la = some ⟨lg, 0, none⟩ ∧ Kgl wr i r g lg mg mc := by
  obtain ⟨Q, hG, hQ⟩ := h.ex
  have hl := (List.getElem?_eq_some_iff.1 hr).1
  have hR : (R ++ List.replicate 9 kgrV)[i]? = some r := by rw [List.getElem?_append_left hl]; exact hr
  have hp := rcells_length (R ++ List.replicate 9 kgrV)
  rw [List.length_append, List.length_replicate] at hp
  obtain ⟨q, hq, hql⟩ := hG.done i r hl hr
  have hqo := hG.pw.met i q hq
  have hqn : q.l.length = r.v.l.length + 9 := by rw [hql, List.length_append, kgs_length]
  obtain ⟨mk1, mk2, mk3⟩ := hm i r hr
  rcases hG.own.2 with ⟨e, h0⟩ | ⟨g, cp, cur, e, _⟩
  · omega
  rcases hG.low.2 with ⟨e', h0⟩ | ⟨lg, lcp, lcur, e', _⟩
  · omega
  rcases hqo.own.2 with ⟨e'', h0⟩ | ⟨mg, mcp, mcur, e'', _⟩
  · omega
  injection e with e1 e2 e3
  injection e' with l1 l2 l3
  have ho : wr.ownsRow lo 51 2 (.slice (some ⟨mg, 0, none⟩) q.l.length q.c) q.l.length (pcells q.l) := by
    have := hqo.own
    unfold Kpr.mv at this e''
    injection e'' with m1 m2 m3
    rw [m1] at this
    exact this
  have em : q.mv = .slice (some ⟨mg, 0, none⟩) (r.v.l.length + 9) q.c := by
    unfold Kpr.mv at e'' ⊢
    injection e'' with m1 m2 m3
    rw [m1, hqn]
  have hpl : (pcells q.l).length = q.l.length * 2 := pcells_length _
  subst e1 e3 l1 l3
  have hlow := hG.low
  have hmp : ((Q.take R.length).map Kpr.mv)[i]? = some q.mv := by
    rw [List.getElem?_map, List.getElem?_take_of_lt hl, hq]; rfl
  have hml : ((Q.take R.length).map Kpr.mv).length = R.length := by rw [List.length_map, List.length_take, hG.len]; omega
  refine ⟨g, lg, mg, q.c, rfl, rfl, ⟨?_, ?_, (hG.own.lt g rfl).2, ?_, (hlow.lt lg rfl).2, (ho.lt mg rfl).2, fun k hk => ?_⟩⟩
  · have := hG.own.cellAt (i * 5) (by omega)
    rw [show i * 5 = i * 5 + 0 from rfl] at this ⊢
    rw [this, rcells_get hR 0 (by omega)]
    show some (str r.v.key) = _
    rw [mk1]; rfl
  · rw [hG.own.cellAt _ (by omega), rcells_get hR 1 (by omega)]
    show some (Value.int .i64 r.v.seq) = _
    rw [mk2]
  · rw [hlow.cellAt _ (by omega), hmp, em]
  · have hgk : q.l[k]? = some (kgk r i k) := by
      rw [hql]
      unfold kgk
      split
      · rename_i hlt
        rw [List.getElem?_append_left hlt, List.getElem?_eq_getElem hlt]
        exact congrArg some (mk3 k _ (List.getElem?_eq_getElem hlt))
      · rename_i hge
        rw [List.getElem?_append_right (by omega)]
        unfold kgs
        rw [List.getElem?_map, List.getElem?_range (by omega)]
        rfl
    obtain ⟨c0, c1⟩ := pcells_get hgk
    exact ⟨by rw [ho.cellAt _ (by omega)]; exact c0, by rw [ho.cellAt _ (by omega)]; exact c1⟩
end Go.Proofs.Ythbdaadhcheggaa

/- DeltaApart: grown, the walk. -/
namespace Go.Proofs.Ythbdaadhcheggaa
set_option linter.unusedVariables false
set_option linter.unusedSimpArgs false
open Go.RowKit
attribute [local go_sem ↓] Go.wp_at_zero Go.wp_at_succ
theorem conv_b2d' (k m : Nat) (w : World) : (convert 56 9 (.slice (some ⟨w.heap.size, 0, none⟩) 2 2)).run Try.prog (w.alloc (.cells #[.int .u8 ((k : Int) % 256), .int .u8 ((m : Int) % 256)] 5)) = .ok (str (b2 k m)) (w.alloc (.cells #[.int .u8 ((k : Int) % 256), .int .u8 ((m : Int) % 256)] 5)) := by
  rw [mod8, mod8]
  exact conv_b2 _ _ w
theorem conv_b2s (k m : Nat) (w : World) (hm : m < 256) : (convert 56 9 (.slice (some ⟨w.heap.size, 0, none⟩) 2 2)).run Try.prog (w.alloc (.cells #[.int .u8 ((k : Int) % 256), .int .u8 (m : Int)] 5)) = .ok (str (b2 k m)) (w.alloc (.cells #[.int .u8 ((k : Int) % 256), .int .u8 (m : Int)] 5)) := by
  have := conv_b2d' k m w
  rw [show (m : Int) % 256 = (m : Int) by omega] at this
  exact this
theorem meas3 {m n : Nat} (h : m < n) : n - (intOf (.int .i64 ((m : Int) + 1))).toNat < n - (intOf (.int .i64 (m : Int))).toNat := by
  show n - ((m : Int) + 1).toNat < n - ((m : Int)).toNat
  omega
theorem two_al {w X : World} {o : Obj} {a b : Value} (h : (w.alloc o).alloc (.cells #[a, b] 51) = X) : Below w.heap.size w X ∧ X.cell? ⟨w.heap.size + 1, 0, none⟩ = some a ∧ X.cell? ⟨w.heap.size + 1, 1, none⟩ = some b := by
  have e := heap_alloc_new (w.alloc o) (.cells #[a, b] 51)
  rw [h, World.size_alloc] at e
  refine ⟨?_, by rw [cell_of_row _ _ _ _ _ _ e]; rfl, by rw [cell_of_row _ _ _ _ _ _ e]; rfl⟩
  rw [← h]
  exact ((Below.refl _ _).alloc (Nat.le_refl _) _).alloc (by simp) _
theorem two_al3 {w X : World} {o o2 : Obj} {a b : Value} (h : ((w.alloc o).alloc (.cells #[a, b] 51)).alloc o2 = X) : Below w.heap.size w X ∧ X.cell? ⟨w.heap.size + 1, 0, none⟩ = some a ∧ X.cell? ⟨w.heap.size + 1, 1, none⟩ = some b := by
  obtain ⟨h1, h2, h3⟩ := two_al (w := w) (o := o) (a := a) (b := b) rfl
  have hb : Below ((w.alloc o).alloc (.cells #[a, b] 51)).heap.size ((w.alloc o).alloc (.cells #[a, b] 51)) X := by rw [← h]; exact (Below.refl _ _).alloc (Nat.le_refl _) _
  have hlt : w.heap.size + 1 < ((w.alloc o).alloc (.cells #[a, b] 51)).heap.size := by simp
  exact ⟨h1.trans (hb.mono h1.size), (hb.cell (p := ⟨_, _, none⟩) hlt).trans h2, (hb.cell (p := ⟨_, _, none⟩) hlt).trans h3⟩
set_option maxRecDepth 100000 in
set_option maxHeartbeats 2000000 in
theorem grown_any (next : Int) (R : List Rv) (a : Option Addr) (cap lo : Nat) (w : World) (hF : Fo lo w (.slice a R.length cap) R) (hz : ∀ r ∈ R, r.z = []) (hm : ∀ (i : Nat) (r : Rv), R[i]? = some r → Mkr i r) (hn : R.length ≤ 1000000) (hl : ∀ r ∈ R, r.v.l.length ≤ 1000000) :
    Calls Try.prog 15 #[bv next a R.length cap] w fun e w' => e = .returned (.bool true) ∧ Ot (Tc (.slice a R.length cap) R) w w' := by
  have HG := Hid.mk (Kgq.start (next := next) hF)
  have HZ := Hid.mk hz
  have HM := Hid.mk hm
  have HL := Hid.mk hl
  have HT : Hid (∀ (k : Nat) (r : Rv) (g : Nat), R[k]? = some r → r.mv.ownBlock = some g → Tc (.slice a R.length cap) R g) := ⟨fun k r g hr hg => .inr ⟨k, r, hr, hg⟩⟩
  clear hF hz hm hl
  generalize hW : w.alloc (.cells #[.int .i64 next, .slice a R.length cap] 24) = W1 at HG
  replace hW := Hid.mk hW
  generalize hv0 : Value.slice a R.length cap = v0 at HG HT ⊢
  have HV := Hid.mk hv0
  clear hv0
  go_enter Try.func15, Try.ntmps15
  go_wp2_with fail
  rw [hW.out]
  go_loopw [4] (fun i wr => ∃ (k : Nat) (a : Option Addr) (cap : Nat), i = .int .i64 (k : Int) ∧ k ≤ 9 ∧ Hid (Kgq lo w next v0 R k a cap wr)) (fun i _ => 9 - (intOf i).toNat)
  case atStart => exact ⟨0, a, cap, rfl, Nat.zero_le _, HG⟩
  case round =>
    clear HG
    obtain ⟨k, a, cap, rfl, hk, HG⟩ := hrel
    obtain ⟨p0, p1, pf⟩ := HG.out.box.cells
    by_cases hlt : k < 9
    · have d1 : decide ((k : Int) < 9) = true := decide_eq_true (by omega)
      obtain ⟨hRl, hAd, hnx⟩ := HG.out.ad
      have hRn : (R ++ List.replicate k kgrV).length ≤ 1954687338260 := by omega
      have HNX := Hid.mk hnx
      have HRL := Hid.mk hRl
      clear hnx hRl p0 pf
      go_wp2_with (refine app_v rfl _ _ rfl kgrV rfl hAd rfl hRn rfl rfl ?_; intro g' cap' w' o' b' k' at'; rw [HRL.out] at o'; obtain ⟨q1, q2⟩ := HNX.out g' cap' w' o' b' k' at'; obtain ⟨t0, t1, tf⟩ := q1.cells; have f1 := tf 1; rw [HRL.out])
      exact ⟨⟨k + 1, _, _, rfl, hlt, ⟨q2⟩⟩, by simp only [intOf, Int.toNat_natCast]; exact Nat.sub_lt_sub_left hlt (Nat.lt_succ_self k)⟩
    · have d1 : decide ((k : Int) < 9) = false := decide_eq_false (by omega)
      have hk9 : k = 9 := Nat.le_antisymm hk (Nat.le_of_not_lt hlt)
      have hG9 := HG.out
      rw [hk9] at hG9
      have HR := Hid.mk (Kgr.start HZ.out hG9 HT.out)
      clear hlt hk HG p0 p1 pf hG9 hk9
      generalize (k : Int) = k9 at *
      go_wp2_with fail
      clear d1
      go_loopw [3, 5, 6, 7] (fun lv i _ _ wr => ∃ (k : Nat) (la : Option Addr) (lc : Nat), i = .int .i64 (k : Int) ∧ lv = .slice la k lc ∧ k ≤ R.length ∧ Hid (Kgr lo w next v0 R (.slice a (R.length + 9) cap) k (.slice la k lc) wr)) (fun _ i _ _ _ => R.length - (intOf i).toNat)
      case atStart => exact ⟨0, none, 0, rfl, rfl, Nat.zero_le _, HR⟩
      case round =>
        clear HR
        obtain ⟨k, la, lc, rfl, rfl, hk, HR⟩ := hrel
        obtain ⟨Q, hG, -⟩ := HR.out.ex
        obtain ⟨p0, p1, pf⟩ := hG.box.cells
        clear hG Q p0 pf
        by_cases hlt : k < R.length
        · have d1 : decide (((k : Int) + 9) < ((R.length : Int) + 9)) = true := decide_eq_true (by omega)
          have k0 : (0 : Int) ≤ (k : Int) := Int.natCast_nonneg k
          have k1 : (k : Int) < (R.length : Int) + 9 := by omega
          obtain ⟨r, hr⟩ : ∃ r, R[k]? = some r := ⟨_, List.getElem?_eq_getElem hlt⟩
          have HRL := Hid.mk (HL.out r (List.mem_of_getElem? hr))
          obtain ⟨g, ea, c4, hM⟩ := HR.out.row hr
          subst ea
          have HM0 := Hid.mk hM
          have Hr := Hid.mk hr
          clear hM hr HR
          go_wp2_with fail
          clear c4 d1 k1 p1
          go_loopw [6, 7] (fun mv n wr => ∃ (m : Nat) (ma : Option Addr) (mc : Nat), n = .int .i64 (m : Int) ∧ mv = .slice ma (r.v.l.length + m) mc ∧ m ≤ 9 ∧ Hid (Kgm lo w next v0 R (.slice (some ⟨g, 0, none⟩) (R.length + 9) cap) k m r ma mc (.slice la k lc) wr)) (fun _ n _ => 9 - (intOf n).toNat)
          case atStart => exact ⟨0, r.a, r.c, rfl, rfl, Nat.zero_le _, HM0⟩
          case round =>
            clear HM0
            obtain ⟨m, ma, mc, rfl, rfl, hm9, HM1⟩ := hrel
            by_cases hlm : m < 9
            · have d2 : decide ((m : Int) < 9) = true := decide_eq_true (by omega)
              have hcv := conv_b2s k m wr (by omega)
              obtain ⟨ho, hnx⟩ := HM1.out.app _ ((Below.refl wr.heap.size wr).alloc (Nat.le_refl _) (.cells #[.int .u8 ((k : Int) % 256), .int .u8 (m : Int)] 5))
              have HO := Hid.mk ho
              have HNX := Hid.mk hnx
              have HB2 : Hid ((r.v.l ++ kgs k m).length = r.v.l.length + m) := ⟨by rw [List.length_append, kgs_length]⟩
              clear ho hnx
              go_wp2_with (refine app_p rfl _ _ rfl (gpr k m) rfl HO.out (by simp) (by rw [HB2.out]; have := HRL.out; omega) rfl rfl ?_; intro g' cap' w' o' b' k' at'; have HN2 := Hid.mk (HNX.out g' cap' w' o' b' k' at'); rw [HB2.out])
              exact ⟨⟨m + 1, _, _, rfl, rfl, hlm, HN2⟩, by simp only [intOf, Int.toNat_natCast]; exact Nat.sub_lt_sub_left hlm (Nat.lt_succ_self m)⟩
            · have d2 : decide ((m : Int) < 9) = false := decide_eq_false (by omega)
              have hm9' : m = 9 := Nat.le_antisymm hm9 (Nat.le_of_not_lt hlm)
              have hM9 := HM1.out
              rw [hm9'] at hM9
              obtain ⟨xs, hown, hle, hnx⟩ := hM9.end' Hr.out
              have hone : (Value.slice ma (r.v.l.length + m) mc).oneCell' = true := rfl
              have HNX := Hid.mk hnx
              have hkn : k ≤ 1000000000000 := by omega
              have H9 := Hid.mk hm9'
              clear hnx hlm hm9 HM1 hM9 hm9'
              go_wp2_with (refine app_l rfl _ _ rfl rfl hown hle hone rfl hkn rfl rfl ?_; intro g' cap' w' o' b' k'; rw [H9.out] at o'; have HN2 := Hid.mk (HNX.out g' cap' w' o' b' k'))
              exact ⟨⟨k + 1, _, _, rfl, rfl, hlt, HN2⟩, by simp only [intOf, Int.toNat_natCast]; exact Nat.sub_lt_sub_left hlt (Nat.lt_succ_self k)⟩
        · have d1 : decide (((k : Int) + 9) < ((R.length : Int) + 9)) = false := decide_eq_false (by omega)
          have hke : k = R.length := Nat.le_antisymm hk (Nat.le_of_not_lt hlt)
          have hRe := HR.out
          rw [hke] at hRe
          have HE := Hid.mk hRe
          obtain ⟨Q, hG, -⟩ := hRe.ex
          have HX : Hid (Bq wr w.heap.size (.int .i64 next) (.slice a (R.length + 9) cap) ∧ Ot (Tc v0 R) w wr) := ⟨hG.box, hG.ot⟩
          have HK := Hid.mk hke
          have d1n : decide (k < R.length) = false := decide_eq_false hlt
          have hw9 : wrap64 ((k : Int) + 9) = (k : Int) + 9 := by unfold wrap64; omega
          clear HR hRe hG Q hke hk hlt
          go_wp2_with fail
          clear d1 d1n p1 hw9
          generalize hWG : wr = W3 at *
          clear hWG
          go_loopw [8, 9, 10, 11] (fun i _ _ _ wr => ∃ n : Nat, i = .int .i64 (n : Int) ∧ n ≤ k ∧ Hid (Below W3.heap.size W3 wr)) (fun i _ _ _ _ => k - (intOf i).toNat)
          case atStart => exact ⟨0, rfl, Nat.zero_le _, ⟨Below.refl _ _⟩⟩
          case round =>
            obtain ⟨i, rfl, hi, HB⟩ := hrel
            by_cases hlt : i < k
            · have d1 : decide ((i : Int) < (k : Int)) = true := decide_eq_true (Int.ofNat_lt.2 hlt)
              obtain ⟨r, hr⟩ : ∃ r, R[i]? = some r := ⟨_, List.getElem?_eq_getElem (by rw [← HK.out]; exact hlt)⟩
              have HRL := Hid.mk (HL.out r (List.mem_of_getElem? hr))
              obtain ⟨g, lg, mg, mc, ea, el, hGl⟩ := HE.out.look HM.out hr
              subst ea el
              have HG := Hid.mk hGl
              obtain ⟨p0, p1, pf⟩ := (HX.out.1.later HB.out).cells
              have hGl2 := hGl.later HB.out
              have c0 := hGl2.key
              have c1 := hGl2.seq
              have i0 : (0 : Int) ≤ (i : Int) := Int.natCast_nonneg i
              have i1 : (i : Int) < (R.length : Int) + 9 := by have := HK.out; omega
              have i2 : (i : Int) < (k : Int) := Int.ofNat_lt.2 hlt
              have HW : Hid (i ≤ 1000000) := ⟨by have := HK.out; omega⟩
              clear hGl hGl2 hr p0 pf
              go_wp2_with fail
              clear d1 c0 c1 p1 i1
              go_loopw [9, 10, 11] (fun m _ _ wr => ∃ n : Nat, m = .int .i64 (n : Int) ∧ n ≤ r.v.l.length + 9 ∧ Hid (Below W3.heap.size W3 wr)) (fun m _ _ _ => r.v.l.length + 9 - (intOf m).toNat)
              case atStart => exact ⟨0, rfl, Nat.zero_le _, HB⟩
              case round =>
                clear HB
                obtain ⟨m, rfl, hm9, HB⟩ := hrel
                have cR := (HG.out.later HB.out).row
                by_cases hlm : m < r.v.l.length + 9
                · have d2 : decide ((m : Int) < (r.v.l.length : Int) + 9) = true := decide_eq_true (by omega)
                  have m0 : (0 : Int) ≤ (m : Int) := Int.natCast_nonneg m
                  have m1 : (m : Int) < (r.v.l.length : Int) + 9 := by omega
                  have hw1 : wrap64 (r.v.l.length : Int) = (r.v.l.length : Int) := by have := HRL.out; unfold wrap64; omega
                  have hw2 : wrap64 ((m : Int) - (r.v.l.length : Int)) = (m : Int) - (r.v.l.length : Int) := by have := HRL.out; unfold wrap64; omega
                  have hw3 : wrap64 ((m : Int) + 1) = (m : Int) + 1 := by have := HRL.out; unfold wrap64; omega
                  have hcv := conv_b2d' i m wr
                  obtain ⟨e0, e1⟩ := (HG.out.later HB.out).prs m hlm
                  by_cases hge : m < r.v.l.length
                  · have d3 : decide ((0 : Int) ≤ (m : Int) - (r.v.l.length : Int)) = false := decide_eq_false (by omega)
                    have hgk : kgk r i m = mpr i m := if_pos hge
                    rw [hgk] at e0 e1
                    have d4 : (m : Int) < (r.v.l.length : Int) := by omega
                    have d5 : (m : Int) - (r.v.l.length : Int) < 0 := by omega
                    have e0' : wr.cell? ⟨mg, m * 2, none⟩ = some (.string ⟨#[109]⟩) := e0
                    have e1' : wr.cell? ⟨mg, m * 2 + 1, none⟩ = some (.string ⟨(b2 i m).toArray⟩) := e1
                    have HN : Hid (Below W3.heap.size W3 (((wr.alloc (.cells #[.int .u8 ((i : Int) % 256), .int .u8 ((m : Int) % 256)] 5)).alloc (.cells #[.string ⟨#[109]⟩, .string ⟨(b2 i m).toArray⟩] 51)).drew)) := ⟨((HB.out.alloc HB.out.size _).alloc (by have := HB.out.size; simp; omega) _).drew⟩
                    clear hgk e0 e1
                    go_wp2_with fail
                    obtain ⟨X, hX⟩ : ∃ X, ((wr.alloc (.cells #[.int .u8 ((i : Int) % 256), .int .u8 ((m : Int) % 256)] 5)).alloc (.cells #[.string ⟨#[109]⟩, .string ⟨(b2 i m).toArray⟩] 51)) = X := ⟨_, rfl⟩
                    obtain ⟨bX, x0, x1⟩ := two_al hX
                    rw [hX] at HN ⊢
                    have HG2 := ((HG.out.later HB.out).later bX)
                    have e0 := (bX.cell (p := ⟨mg, _, none⟩) (HG.out.later HB.out).mlt).trans e0'
                    have e1 := (bX.cell (p := ⟨mg, _, none⟩) (HG.out.later HB.out).mlt).trans e1'
                    have cRX := HG2.row
                    clear HG2 hX bX e0' e1' cR
                    go_region
                    all_goals go_wp2_with fail
                    all_goals refine ⟨⟨m + 1, by rw [hw3]; rfl, hlm, HN⟩, ?_⟩
                    all_goals rw [hw3]
                    all_goals exact meas3 hlm
                  · have d4 : (r.v.l.length : Int) ≤ (m : Int) := by omega
                    have hx9 : m - r.v.l.length < 9 := by omega
                    have hxe : (m : Int) - (r.v.l.length : Int) = ((m - r.v.l.length : Nat) : Int) := by omega
                    have hgk : kgk r i m = gpr i (m - r.v.l.length) := if_neg hge
                    rw [hgk] at e0 e1
                    have e0' : wr.cell? ⟨mg, m * 2, none⟩ = some (.string ⟨#[103]⟩) := e0
                    have e1' : wr.cell? ⟨mg, m * 2 + 1, none⟩ = some (.string ⟨(b2 i (m - r.v.l.length)).toArray⟩) := e1
                    have hcv2 := conv_b2s i (m - r.v.l.length) ((wr.alloc (.cells #[.int .u8 ((i : Int) % 256), .int .u8 ((m : Int) % 256)] 5)).alloc (.cells #[.string ⟨#[109]⟩, .string ⟨(b2 i m).toArray⟩] 51)) (by omega)
                    simp only [World.size_alloc, ← hxe] at hcv2
                    clear hgk e0 e1 hxe hge
                    go_wp2_with fail
                    obtain ⟨X, hX⟩ : ∃ X, ((wr.alloc (.cells #[.int .u8 ((i : Int) % 256), .int .u8 ((m : Int) % 256)] 5)).alloc (.cells #[.string ⟨#[103]⟩, .string ⟨(b2 i (m - r.v.l.length)).toArray⟩] 51)).alloc (.cells #[.int .u8 ((i : Int) % 256), .int .u8 ((m : Int) - (r.v.l.length : Int))] 5) = X := ⟨_, rfl⟩
                    obtain ⟨bX, x0, x1⟩ := two_al3 hX
                    rw [hX]
                    have HG2 := ((HG.out.later HB.out).later bX)
                    have e0 := (bX.cell (p := ⟨mg, _, none⟩) (HG.out.later HB.out).mlt).trans e0'
                    have e1 := (bX.cell (p := ⟨mg, _, none⟩) (HG.out.later HB.out).mlt).trans e1'
                    have cRX := HG2.row
                    have HN : Hid (Below W3.heap.size W3 X.drew) := ⟨(HB.out.trans (bX.mono HB.out.size)).drew⟩
                    clear HG2 hX bX e0' e1' cR hcv hcv2
                    go_region
                    all_goals go_wp2_with fail
                    all_goals refine ⟨⟨m + 1, by rw [hw3]; rfl, hlm, HN⟩, ?_⟩
                    all_goals rw [hw3]
                    all_goals exact meas3 hlm
                · have d2 : decide ((m : Int) < (r.v.l.length : Int) + 9) = false := decide_eq_false (by omega)
                  have d2n : decide (m < r.v.l.length + 9) = false := decide_eq_false hlm
                  have hwi : wrap64 ((i : Int) + 1) = (i : Int) + 1 := by have := HW.out; unfold wrap64; omega
                  go_wp2_with fail
                  refine ⟨⟨i + 1, by rw [hwi]; rfl, hlt, HB⟩, ?_⟩
                  rw [hwi]
                  exact meas3 hlt
            · have d1 : decide ((i : Int) < (k : Int)) = false := decide_eq_false (fun q => hlt (Int.ofNat_lt.1 q))
              have d1' : decide (i < k) = false := decide_eq_false hlt
              have HEnd : Hid (Ot (Tc v0 R) w wr) := ⟨HX.out.2.trans (Ot.bel HB.out)⟩
              go_wp2_with fail
              go_ret
              exact ⟨rfl, HEnd.out⟩
end Go.Proofs.Ythbdaadhcheggaa
