/- StackApart: the walk. -/
import Derived.Test.YtaonjmmdgfbceaaAst
import Derived.Test.YtaonjmmdgfbceaaApq
import Derived.Test.YtaonjmmdgfbceaaApr
import Derived.Deep.RegionWith
namespace Go.Proofs.Ytaonjmmdgfbceaa
set_option linter.unusedVariables false
set_option linter.unusedSimpArgs false
open Go.RowKit
attribute [local go_sem ↓] Go.wp_at_zero Go.wp_at_succ
structure PA (W w : World) (S : List Vs) (u : Vs) (sa : Option Addr) (sc : Nat) (wv : Value) (gw gx : Nat) (oa : Option Addr) (oc : Nat) (xa : Option Addr) (xc : Nat) : Prop where
  b : Below W.heap.size W w
  s : Li w S sa S.length sc
  c : Cp W.heap.size w wv S
  bw : Bv w gw (str u.key) (.int .i64 u.seq) (.bool u.mkr) (str u.data) (.slice oa u.l.length oc)
  bx : Bv w gx (str u.key) (.int .i64 u.seq) (.bool u.mkr) (str u.data) (.slice xa u.l.length xc)
  ow : Sl w oa oc u.l
  ox : Sl w xa xc u.l
theorem PA.later {W w w' : World} {S : List Vs} {u : Vs} {sa : Option Addr} {sc : Nat} {wv : Value} {gw gx : Nat} {oa : Option Addr} {oc : Nat} {xa : Option Addr} {xc : Nat} (h : PA W w S u sa sc wv gw gx oa oc xa xc) (hb : Below w.heap.size w w') : PA W w' S u sa sc wv gw gx oa oc xa xc :=
  ⟨h.b.trans (hb.mono h.b.size), h.s.later hb, h.c.later hb, h.bw.later hb, h.bx.later hb, h.ow.later hb, h.ox.later hb⟩
theorem puE_md {S : List Vs} {u : Vs} (hk : ∀ v ∈ S, v.key = u.key ∧ v.seq < u.seq) (h1 : 1 ≤ u.seq) : puE S u = 0 := by
  unfold puE
  split
  · rw [if_neg (by omega)]
  · rename_i v hv
    have hm : v ∈ S := List.mem_of_getLast? hv
    obtain ⟨q1, q2⟩ := hk v hm
    rw [if_neg (fun q => q q1), if_neg (by omega)]
theorem snc_all {S : List Vs} (h : ∀ v ∈ S, 1 ≤ v.seq) : snc S 0 = S := by
  unfold snc
  rw [List.filter_eq_self]
  intro v hv
  exact decide_eq_true (by have := h v hv; omega)
theorem wr1 {n : Nat} (h : n ≤ 2000000) : wrap64 ((n : Int) + 1) = ((n + 1 : Nat) : Int) := by unfold wrap64; omega
theorem conv_d {w W : World} (i : Nat) (h : i < 5) (hW : W.heap = (w.alloc (.cells #[.int .u8 ((48 : Int) + (i : Int))] 5)).heap) : (convert 48 9 (.slice (some ⟨w.heap.size, 0, none⟩) 1 1)).run Try.prog W = .ok (str (cs i)) W := by
  refine conv_own (base := 0) (l := cs i) ⟨⟨rfl, Or.inr ⟨w.heap.size, 1, _, rfl, Nat.zero_le _, by rw [hW]; exact heap_alloc_new _ _, Nat.le_refl _, by decide, rfl, ?_⟩⟩, Nat.zero_le _⟩
  match i, h with
  | 0, _ => rfl
  | 1, _ => rfl
  | 2, _ => rfl
  | 3, _ => rfl
  | 4, _ => rfl
def apE (a b : Value) : Sem Value := Builtin.append_ #[31, 31] 31 #[a, b]
theorem apEe (a b : Value) : Builtin.append_ #[31, 31] 31 #[a, b] = apE a b := rfl
attribute [-go_sem] Go.Builtin.append_
theorem wr16 {n : Nat} (h : n ≤ 2000000) : wrap64 (n : Int) = (n : Int) := by unfold wrap64; omega
theorem wr48 {i : Nat} (h : i < 5) : wrap64 (48 + (i : Int)) = 48 + (i : Int) := by unfold wrap64; omega
theorem wr48' {i : Nat} (h : i < 5) : IntKind.i64.wrap (48 + (i : Int)) = 48 + (i : Int) := by rw [IntKind.wrap_i64]; omega
theorem wr48'' {i : Nat} (hi : i < 5) : IntKind.u8.wrap (48 + (i : Int)) = 48 + (i : Int) := by
  match i, hi with
  | 0, _ => rfl
  | 1, _ => rfl
  | 2, _ => rfl
  | 3, _ => rfl
  | 4, _ => rfl
set_option maxRecDepth 100000 in
set_option maxHeartbeats 8000000 in
theorem stackApart_walk (L : List Vs) (a : Option Addr) (cap : Nat) (key : List UInt8) (v : Vs) (va : Option Addr) (vc : Nat) (W : World) (hL : Li W L a L.length cap) (hl1 : L.length ≤ 1048576) (hlz : ∀ u ∈ L, u.l.length ≤ 1048576) (hkl : key.length ≤ 140737488351232) (hV : Vi W v va v.l.length vc) (hvz : v.l.length ≤ 1048576) :
    Calls Try.prog 5 #[.slice a L.length cap, str key, vv v.key v.seq v.mkr v.data va v.l.length vc] W fun e W' => e = .returned (.bool true) ∧ Below W.heap.size W W' := by
  have b0 := (Below.refl W.heap.size W).alloc (Nat.le_refl _) (.cells #[str v.key, .int .i64 v.seq, .bool v.mkr, str v.data, .slice va v.l.length vc] 33)
  have z0 := Bv.new W (str v.key) (.int .i64 v.seq) (.bool v.mkr) (str v.data) (.slice va v.l.length vc)
  have hLL := Hid.mk hL
  have hVV := Hid.mk hV
  have hmd : ∀ w, Li w L a L.length cap → Calls Try.prog 9 #[.slice a L.length cap, str key] w fun e w' => ∃ v, e = .returned v ∧ Cp w.heap.size w' v (md key 0 L) ∧ Below w.heap.size w w' := fun w h => made_any L key w a _ cap h
  have hSz : ∀ x ∈ md key 0 L, x.l.length ≤ 1048576 := fun x hx => by
    obtain ⟨_, _, _, y, hy, q, _⟩ := md_mem key 0 L x hx
    rw [q]; exact hlz y hy
  have hSk : ∀ x ∈ md key 0 L, x.key = key ∧ x.seq < 1099511627776 := fun x hx => by
    obtain ⟨q1, _, q2, _⟩ := md_mem key 0 L x hx
    have := (mdE_bd 0 L).2
    exact ⟨q1, by omega⟩
  have hSl : (md key 0 L).length ≤ 1048576 := by rw [md_len]; exact hl1
  have hRt := md_rt key L
  generalize md key 0 L = S at *
  obtain ⟨u, hu⟩ : ∃ u : Vs, u = ⟨key, 1099511627776, v.mkr, v.data, v.l⟩ := ⟨_, rfl⟩
  have hpu : puE S u = 0 := puE_md (by rw [hu]; exact hSk) (by rw [hu]; show (1 : Int) ≤ 1099511627776; decide)
  have hRu := push_rt hRt hpu
  have hus : u.seq = 1099511627776 := by rw [hu]
  obtain ⟨pb1, pb2⟩ := push_back hRu
  rw [hus] at pb1 pb2
  have huz : u.l.length ≤ 1048576 := by rw [hu]; exact hvz
  have hsn := snc_all hRt.one
  have hZ1 : ∀ x ∈ S, x.l.length ≤ 4398046510976 := fun x hx => Nat.le_trans (hSz x hx) (by decide)
  have hZ2 : ∀ x ∈ S ++ [u], x.l.length ≤ 4398046510976 := fun x hx => by
    rcases List.mem_append.1 hx with q | q
    · exact hZ1 x q
    · simp at q; subst q; exact Nat.le_trans huz (by decide)
  have hvz4 : v.l.length ≤ 4398046510976 := Nat.le_trans hvz (by decide)
  have huz4 : u.l.length ≤ 4398046510976 := Nat.le_trans huz (by decide)
  have hSl4 : S.length ≤ 1954687338240 := Nat.le_trans hSl (by decide)
  have hSl5 : (S ++ [u]).length ≤ 1954687338240 := by rw [List.length_append]; show S.length + 1 ≤ _; omega
  have hAz : ∀ x ∈ S ++ [u], x.l.length ≤ 1048576 := fun x hx => by
    rcases List.mem_append.1 hx with q | q
    · exact hSz x q
    · simp at q; subst q; exact huz
  have hAl : (S ++ [u]).length ≤ 1048577 := by rw [List.length_append]; show S.length + 1 ≤ _; omega
  have hpl := puL_yes hpu
  generalize hA : S ++ [u] = A at *
  have H1 := Hid.mk hpu
  have H2 := Hid.mk hpl
  have H3 := Hid.mk pb1
  have H4 := Hid.mk pb2
  have H5 := Hid.mk hsn
  have HA := Hid.mk hA
  have HU := Hid.mk hu
  clear hpl hA
  clear hL hV hSk hRt hpu hRu pb1 pb2 hsn hu hkl hus
  go_enter Try.func5, Try.ntmps5
  go_wp2_with fail
  with_reducible refine Calls.mono (head_any _) ?_
  rintro e w1 ⟨rfl, b1⟩
  dsimp only
  have B1 := b0.trans (b1.mono b0.size)
  have z1 := z0.later b1
  clear b0 b1 z0
  go_wp2_with fail
  with_reducible refine Calls.mono (hmd w1 (hLL.out.later B1)) ?_
  rintro e w2 ⟨r2, rfl, k2, b2⟩
  dsimp only
  have B2 := B1.trans (b2.mono B1.size)
  have z2 := z1.later b2
  obtain ⟨sa, sc, rfl, S2⟩ := k2.li hSl4 hZ1
  clear b2 B1 hmd k2 z1
  go_wp2_with fail
  with_reducible refine Calls.mono (lcopied_any S w2 sa _ sc rfl S2.s hSl4 hZ1) ?_
  rintro e w3 ⟨r3, rfl, k3, b3⟩
  dsimp only
  have B3 := B2.trans (b3.mono B2.size)
  have z3 := z2.later b3
  have S3 := S2.later b3
  have k3' := k3.base (b' := W.heap.size) B2.size
  clear b3 B2 z2 S2 k3
  obtain ⟨p0, p1, p2, p3, p4, _⟩ := z3.cells
  go_wp2_with fail
  with_reducible refine Calls.mono (lown_any v w3 va _ vc rfl (hVV.out.later B3).s hvz4) ?_
  rintro e w4 ⟨oa, oc, rfl, ow4, b4⟩
  dsimp only
  have bw := (Below.refl w4.heap.size w4).alloc (Nat.le_refl _) (.cells #[str key, .int .i64 1099511627776, .bool v.mkr, str v.data, .slice oa v.l.length oc] 33)
  have z5 := Bv.new w4 (str key) (.int .i64 1099511627776) (.bool v.mkr) (str v.data) (.slice oa v.l.length oc)
  have b5 := below_seq b4 bw
  have B5 := B3.trans (b5.mono B3.size)
  have S5 := S3.later b5
  have k5 := k3'.later b5
  have ow5 := ow4.later bw
  have hlo := lown_any ⟨key, 1099511627776, v.mkr, v.data, v.l⟩ _ oa _ oc rfl ow5.asSl hvz4
  dsimp only at hlo
  clear p0 p1 p2 p3 p4 z3 B3 S3 k3' b4 bw b5 ow4
  go_wp2_with fail
  with_reducible refine Calls.mono hlo ?_
  rintro e w6 ⟨xa, xc, rfl, ox6, b6⟩
  dsimp only
  have bx := (Below.refl w6.heap.size w6).alloc (Nat.le_refl _) (.cells #[str key, .int .i64 1099511627776, .bool v.mkr, str v.data, .slice xa v.l.length xc] 33)
  have z7 := Bv.new w6 (str key) (.int .i64 1099511627776) (.bool v.mkr) (str v.data) (.slice xa v.l.length xc)
  have b7 := below_seq b6 bx
  have P7 : PA W (w6.alloc (.cells #[str key, .int .i64 1099511627776, .bool v.mkr, str v.data, .slice xa v.l.length xc] 33)) S u sa sc r3 w4.heap.size w6.heap.size oa oc xa xc := by
    have e := HU.out
    subst e
    exact ⟨B5.trans (b7.mono B5.size), S5.later b7, k5.later b7, z5.later b7, z7, (ow5.later b7).asSl, (ox6.later bx).asSl⟩
  obtain ⟨q0, q1, q2, q3, q4, _⟩ := P7.bx.cells
  clear hlo b6 bx z7 b7 B5 S5 k5 z5 ow5 ox6
  go_wp2_with fail
  generalize w6.alloc (.cells #[str key, .int .i64 1099511627776, .bool v.mkr, str v.data, .slice xa v.l.length xc] 33) = w7 at *
  generalize w4.heap.size = gw at *
  generalize w6.heap.size = gx at *
  with_reducible refine Calls.mono (push_any S u w7 sa _ sc xa _ xc P7.s ⟨rfl, P7.ox, huz4⟩) ?_
  rintro e w8 ⟨r8, rfl, ka8, b8⟩
  dsimp only
  rw [H1.out]
  rw [H2.out] at ka8
  have pa8 := ka8.p1 (Nat.le_refl _)
  have Pa8 := ka8
  obtain ⟨aa, ac, rfl, A8⟩ := ka8.li hSl5 hZ2
  have P8 := P7.later b8
  have Y8 := b8
  have HP7 := Hid.mk P7
  clear P7
  have s7 := b8.size
  clear q0 q1 q2 q3 q4 b8 ka8 Pa8
  obtain ⟨q0, q1, q2, q3, q4, _⟩ := P8.bx.cells
  go_wp2_with fail
  with_reducible refine Calls.mono (push_any S u w8 sa _ sc xa _ xc P8.s ⟨rfl, P8.ox, huz4⟩) ?_
  rintro e w9 ⟨r9, rfl, kb9, b9⟩
  dsimp only
  rw [H1.out]
  rw [H2.out] at kb9
  have pb9 := kb9.p1 (B := w7.heap.size) s7
  obtain ⟨ba, bc, rfl, B9⟩ := kb9.li hSl5 hZ2
  have P9 := P8.later b9
  have Y9 := Y8.trans (b9.mono Y8.size)
  clear Y8
  have pa9 := pa8.later b9
  have A9 := A8.later b9
  have s8 := b9.size
  clear q0 q1 q2 q3 q4 b9 kb9 P8 pa8 A8
  go_wp2_with fail
  with_reducible refine Calls.mono (since_any S 0 w9 sa _ sc P9.s) ?_
  rintro e w10 ⟨r10, rfl, kc10, b10⟩
  dsimp only
  rw [H5.out] at kc10
  have pc10 := kc10.p1 (B := w7.heap.size) (Nat.le_trans s7 s8)
  obtain ⟨ca, cc, rfl, C10⟩ := kc10.li hSl4 hZ1
  have P10 := P9.later b10
  have Y10 := Y9.trans (b10.mono Y9.size)
  clear Y9
  have pa10 := pa9.later b10
  have pb10 := pb9.later b10
  have A10 := A9.later b10
  have B10 := B9.later b10
  have s9 := b10.size
  clear b10 kc10 P9 pa9 pb9 A9 B9
  go_wp2_with fail
  with_reducible refine Calls.mono (since_any S 0 w10 sa _ sc P10.s) ?_
  rintro e w11 ⟨r11, rfl, kd11, b11⟩
  dsimp only
  rw [H5.out] at kd11
  have pd11 := kd11.p1 (B := w7.heap.size) (Nat.le_trans s7 (Nat.le_trans s8 s9))
  obtain ⟨da, dc, rfl, D11⟩ := kd11.li hSl4 hZ1
  have P11 := P10.later b11
  have Y11 := Y10.trans (b11.mono Y10.size)
  clear Y10
  have pa11 := pa10.later b11
  have pb11 := pb10.later b11
  have pc11 := pc10.later b11
  have A11 := A10.later b11
  have B11 := B10.later b11
  have C11 := C10.later b11
  have s10 := b11.size
  clear b11 kd11 P10 pa10 pb10 pc10 A10 B10 C10
  have hrm := remove_any A 1099511627776 w11 aa _ ac A11
  rw [H3.out, H4.out] at hrm
  go_wp2_with fail
  with_reducible refine Calls.mono hrm ?_
  rintro e w12 ⟨r12, rfl, kg12, b12⟩
  dsimp only
  have pg12 := kg12.p1 (B := w7.heap.size) (Nat.le_trans s7 (Nat.le_trans s8 (Nat.le_trans s9 s10)))
  obtain ⟨ga, gc, rfl, G12⟩ := kg12.li hSl4 hZ1
  have P12 := P11.later b12
  have Y12 := Y11.trans (b12.mono Y11.size)
  clear Y11
  have pa12 := pa11.later b12
  have pb12 := pb11.later b12
  have pc12 := pc11.later b12
  have pd12 := pd11.later b12
  have A12 := A11.later b12
  have B12 := B11.later b12
  have C12 := C11.later b12
  have D12 := D11.later b12
  have s11 := b12.size
  clear b12 kg12 hrm P11 pa11 pb11 pc11 pd11 A11 B11 C11 D11
  obtain ⟨q0, q1, q2, q3, q4, _⟩ := P12.bw.cells
  have hcs : ∀ w', Below w12.heap.size w12 w' → Calls Try.prog 20 #[.slice sa S.length sc] w' fun e w'' => ∃ r, e = .returned r ∧ Cp w'.heap.size w'' r S ∧ Below w'.heap.size w' w'' := fun w' hb => lcopied_any S w' sa _ sc rfl (P12.s.later hb).s hSl4 hZ1
  have hcd : ∀ w', Below w12.heap.size w12 w' → Calls Try.prog 16 #[vv u.key u.seq u.mkr u.data oa u.l.length oc] w' fun e w'' => ∃ ad c, e = .returned (vv u.key u.seq u.mkr u.data ad u.l.length c) ∧ Ow w'.heap.size w'' (.slice ad u.l.length c) u.l ∧ Below w'.heap.size w' w'' := fun w' hb => lown_any u w' oa _ oc rfl (P12.ow.later hb) huz4
  have HS : Hid (∀ w', Below w12.heap.size w12 w' → Below w12.heap.size w12 w' ∧ w'.cell? ⟨gw, 0, none⟩ = some (str u.key) ∧ w'.cell? ⟨gw, 1, none⟩ = some (.int .i64 u.seq) ∧ w'.cell? ⟨gw, 2, none⟩ = some (.bool u.mkr) ∧ w'.cell? ⟨gw, 3, none⟩ = some (str u.data) ∧ w'.cell? ⟨gw, 4, none⟩ = some (.slice oa u.l.length oc)) := ⟨fun w' hb => by
    obtain ⟨g0, g1, g2, g3, g4, _⟩ := (P12.bw.later hb).cells
    exact ⟨hb, g0, g1, g2, g3, g4⟩⟩
  clear q0 q1 q2 q3 q4
  have HP := Hid.mk P12
  have hSl6 : S.length ≤ 1954687338260 := Nat.le_trans hSl (by decide)
  clear P12
  go_wp2_with fail
  go_region_held3 (fun w' => Below w12.heap.size w12 w' ∧ w'.cell? ⟨gw, 0, none⟩ = some (str u.key) ∧ w'.cell? ⟨gw, 1, none⟩ = some (.int .i64 u.seq) ∧ w'.cell? ⟨gw, 2, none⟩ = some (.bool u.mkr) ∧ w'.cell? ⟨gw, 3, none⟩ = some (str u.data) ∧ w'.cell? ⟨gw, 4, none⟩ = some (.slice oa u.l.length oc)) (first
    | exact HS.out _ (Below.refl _ _).drew
    | exact HS.out _ (below_seq (And.left (by assumption)) b13)
    | exact HS.out _ (below_seq (And.left (by assumption)) b14)
    | exact HS.out _ (Below.alloc (And.left (by assumption)) (Below.size (w := w12) (And.left (by assumption))) _)
    | exact HS.out _ (Below.trans (And.left (by assumption)) b15)) (first
    | (go_at_call 20; with_reducible refine Calls.mono (hcs _ (And.left (by assumption))) ?_; rintro e w13 ⟨r13, rfl, c13, b13⟩)
    | (go_at_call 16; with_reducible refine Calls.mono (hcd _ (And.left (by assumption))) ?_; rintro e w14 ⟨a14, c14, rfl, o14, b14⟩)
    | (refine step_cp rfl _ _ rfl u rfl c13 (w1 := w14) (by first | exact b14 | exact ((Below.refl _ _).drew).trans b14 | exact ((Below.refl _ _).drew.drew).trans b14) o14 rfl rfl hSl6 rfl rfl ?_; intro v15 w15 c15 b15))
  have b15' : Below w12.heap.size w12 w15 := And.left (by assumption)
  rw [HA.out] at c15
  obtain ⟨wa, wc, rfl, W15⟩ := c15.li hSl5 hZ2
  have P15 := HP.out.later b15'
  have Y15 := Y12.trans (b15'.mono Y12.size)
  clear Y12
  have pa15 := pa12.later b15'
  have pb15 := pb12.later b15'
  have pc15 := pc12.later b15'
  have pd15 := pd12.later b15'
  have pg15 := pg12.later b15'
  have A15 := A12.later b15'
  have B15 := B12.later b15'
  have C15 := C12.later b15'
  have D15 := D12.later b15'
  have G15 := G12.later b15'
  clear b13 b14 b15 b15' c13 o14 HS hcs hcd HP pa12 pb12 pc12 pd12 pg12 A12 B12 C12 D12 G12 c15 hSl6
  have HQ : Hid (∀ w', Below w15.heap.size w15 w' → ∃ R, Q5 w7.heap.size (w'.alloc (.cells #[.slice aa A.length ac, .slice ba A.length bc, .slice ca S.length cc, .slice da S.length dc, .slice ga S.length gc] 47)) w'.heap.size (V5 (.slice aa A.length ac) (.slice ba A.length bc) (.slice ca S.length cc) (.slice da S.length dc) (.slice ga S.length gc)) R ∧ (∀ i, i < 5 → (R i).map (·.v) = V5 A A S S S i) ∧ ∀ i r, i < 5 → r ∈ R i → r.z = []) := ⟨fun w' hb =>
    q5_of (pa15.later hb) (pb15.later hb) (pc15.later hb) (pd15.later hb) (pg15.later hb) (Nat.le_refl _) (Nat.le_refl _) (Nat.le_refl _) (Nat.le_refl _) s7 s8 s9 s10⟩
  clear pa15 pb15 pc15 pd15 pg15 s7 s8 s9 s10 s11
  have X15 := Below.refl w15.heap.size w15
  have hal := alike_any _ _ w15 _ _ _ _ _ _ A15 W15
  rw [svL_true rfl] at hal
  go_wp2_with fail
  with_reducible refine Calls.mono hal ?_
  rintro e w16 ⟨rfl, b16⟩
  dsimp only
  have B16 := B15.later b16
  have C16 := C15.later b16
  have D16 := D15.later b16
  have G16 := G15.later b16
  have P16 := P15.later b16
  have Y16 := Y15.trans (b16.mono Y15.size)
  clear Y15
  have W16 := W15.later b16
  have X16 := below_seq X15 b16
  clear X15
  clear hal b16 A15 P15 B15 C15 D15 G15 W15
  have hal := alike_any _ _ w16 _ _ _ _ _ _ B16 W16
  rw [svL_true rfl] at hal
  go_wp2_with fail
  with_reducible refine Calls.mono hal ?_
  rintro e w17 ⟨rfl, b17⟩
  dsimp only
  have C17 := C16.later b17
  have D17 := D16.later b17
  have G17 := G16.later b17
  have P17 := P16.later b17
  have Y17 := Y16.trans (b17.mono Y16.size)
  clear Y16
  have X17 := below_seq X16 b17
  clear X16
  clear hal b17 B16 P16 C16 D16 G16 W16
  have hal := alike_any _ _ w17 _ _ _ _ _ _ C17 P17.s
  rw [svL_true rfl] at hal
  go_wp2_with fail
  with_reducible refine Calls.mono hal ?_
  rintro e w18 ⟨rfl, b18⟩
  dsimp only
  have D18 := D17.later b18
  have G18 := G17.later b18
  have P18 := P17.later b18
  have Y18 := Y17.trans (b18.mono Y17.size)
  clear Y17
  have X18 := below_seq X17 b18
  clear X17
  clear hal b18 C17 P17 D17 G17
  have hal := alike_any _ _ w18 _ _ _ _ _ _ D18 P18.s
  rw [svL_true rfl] at hal
  go_wp2_with fail
  with_reducible refine Calls.mono hal ?_
  rintro e w19 ⟨rfl, b19⟩
  dsimp only
  have G19 := G18.later b19
  have P19 := P18.later b19
  have Y19 := Y18.trans (b19.mono Y18.size)
  clear Y18
  have X19 := below_seq X18 b19
  clear X18
  clear hal b19 D18 P18 G18
  have hal := alike_any _ _ w19 _ _ _ _ _ _ G19 P19.s
  rw [svL_true rfl] at hal
  go_wp2_with fail
  with_reducible refine Calls.mono hal ?_
  rintro e w20 ⟨rfl, b20⟩
  dsimp only
  have P20 := P19.later b20
  have Y20 := Y19.trans (b20.mono Y19.size)
  clear Y19
  have X20 := below_seq X19 b20
  clear X19
  clear hal b20 G19 P19
  have bal := (Below.refl w20.heap.size w20).alloc (Nat.le_refl _) (.cells #[.slice aa A.length ac, .slice ba A.length bc, .slice ca S.length cc, .slice da S.length dc, .slice ga S.length gc] 47)
  have Y21 := Y20.trans (bal.mono Y20.size)
  have HL : Hid (L1 w7.heap.size (w20.alloc (.cells #[.slice aa A.length ac, .slice ba A.length bc, .slice ca S.length cc, .slice da S.length dc, .slice ga S.length gc] 47)) (w20.alloc (.cells #[.slice aa A.length ac, .slice ba A.length bc, .slice ca S.length cc, .slice da S.length dc, .slice ga S.length gc] 47)) w20.heap.size (V5 A.length A.length S.length S.length S.length) 0 0 0) := ⟨by
    obtain ⟨R, r1, r2, r3⟩ := HQ.out w20 X20
    refine ⟨_, R, ⟨r1, Below.refl _ _, fun i r hi hr => ⟨r3 i r hi hr, ?_⟩⟩, fun j hj => ?_, fun j idx r hj hr hx => by omega, fun r hr q p hq => by omega⟩
    · have hm : r.v ∈ V5 A A S S S i := by rw [← r2 i hi]; exact List.mem_map.2 ⟨r, hr, rfl⟩
      match i, hi with
      | 0, _ => exact Nat.le_trans (hAz _ hm) (by decide)
      | 1, _ => exact Nat.le_trans (hAz _ hm) (by decide)
      | 2, _ => exact Nat.le_trans (hSz _ hm) (by decide)
      | 3, _ => exact Nat.le_trans (hSz _ hm) (by decide)
      | 4, _ => exact Nat.le_trans (hSz _ hm) (by decide)
    · have := congrArg List.length (r2 j hj)
      rw [List.length_map] at this
      rw [this]
      match j, hj with
      | 0, _ => rfl
      | 1, _ => rfl
      | 2, _ => rfl
      | 3, _ => rfl
      | 4, _ => rfl⟩
  have hmm : ∀ i, i < 5 → V5 A.length A.length S.length S.length S.length i ≤ 1048577 := fun i hi => by
    match i, hi with
    | 0, _ => exact hAl
    | 1, _ => exact hAl
    | 2, _ => exact Nat.le_trans hSl (by decide)
    | 3, _ => exact Nat.le_trans hSl (by decide)
    | 4, _ => exact Nat.le_trans hSl (by decide)
  have HM := Hid.mk hmm
  have HE : Hid (∀ w', Cp W.heap.size w' r3 S → ∃ a c, r3 = .slice a S.length c ∧ Li w' S a S.length c) := ⟨fun w' h => h.li hSl4 hZ1⟩
  clear hmm HQ bal Y20 X20 P20 hSz hSl huz hAz hAl hZ1 hZ2 hSl4 hSl5 hl1 hlz H1 H2 H3 H4 H5 HA hvz hvz4 HU
  go_wp2_with fail
  generalize V5 A.length A.length S.length S.length S.length = mm at *
  generalize w20.alloc (.cells #[.slice aa A.length ac, .slice ba A.length bc, .slice ca S.length cc, .slice da S.length dc, .slice ga S.length gc] 47) = w21 at *
  generalize w20.heap.size = ab at *
  go_loopw [21] (fun o wr => ∃ i : Nat, i ≤ 5 ∧ o = .int .i64 (i : Int) ∧ Hid (L1 w7.heap.size w21 wr ab mm i 0 0)) (fun o _ => 5 - (intOf o).toNat)
  case atStart => exact ⟨0, by omega, rfl, HL⟩
  case round =>
    clear HL
    obtain ⟨i, hi, rfl, HI⟩ := hrel
    by_cases hlt : i < 5
    · have d1 : decide ((i : Int) < 5) = true := decide_eq_true (Int.ofNat_lt.2 hlt)
      have hw1 := wr1 (n := i) (Nat.le_trans (Nat.le_of_lt hlt) (by decide))
      have HMi := Hid.mk (HM.out i hlt)
      have hcI := fun (w : World) => conv_d (w := w) (W := (w.alloc (.cells #[.int .u8 ((48 : Int) + (i : Int))] 5)).drew) i hlt rfl
      have hw4 := wr48 hlt
      have hw5 := wr48' hlt
      have hw6 := wr48'' hlt
      go_wp2_with fail
      go_loopw [22] (fun o wq => ∃ k : Nat, k ≤ mm i ∧ o = .int .i64 (k : Int) ∧ Hid (L1 w7.heap.size w21 wq ab mm i k 0)) (fun o _ => mm i - (intOf o).toNat)
      case atStart => exact ⟨0, Nat.zero_le _, rfl, HI⟩
      case round =>
        clear HI
        obtain ⟨k, hk, rfl, HK⟩ := hrel
        have i5 : (i : Int) < 5 := Int.ofNat_lt.2 hlt
        by_cases hlk : k < mm i
        · obtain ⟨g, c, ma, mn, mc, c1, c2, _, _, _, _, _, _, _, _⟩ := HK.out.pair hlt hlk
          have d2 : decide ((k : Int) < (mm i : Int)) = true := decide_eq_true (Int.ofNat_lt.2 hlk)
          have hw2 := wr1 (n := k) (Nat.le_trans (Nat.le_of_lt hlk) (Nat.le_trans HMi.out (by decide)))
          obtain ⟨MX, HX1, HX2⟩ : ∃ MX : Nat, Hid (1048577 ≤ MX) ∧ Hid (MX ≤ 1048577) := ⟨1048577, ⟨Nat.le_refl _⟩, ⟨Nat.le_refl _⟩⟩
          go_wp2_with fail
          go_loopw [23] (fun o wn => ∃ n : Nat, n ≤ MX ∧ o = .int .i64 (n : Int) ∧ Hid (L1 w7.heap.size w21 wn ab mm i k n)) (fun o _ => MX - (intOf o).toNat)
          case atStart => exact ⟨0, Nat.zero_le _, rfl, HK⟩
          case round =>
            clear HK c1 c2
            obtain ⟨n, hn, rfl, HN⟩ := hrel
            obtain ⟨g, c, ma, mn, mc, c1, c2, hg, hab, hmn0, hfz0, hga, ⟨o3, c3⟩, hp0, hd0⟩ := HN.out.pair hlt hlk
            have hmn := Hid.mk hmn0
            have hfz := Hid.mk hfz0
            have hp := Hid.mk hp0
            have hd := Hid.mk hd0
            clear hmn0 hfz0 hp0 hd0 hga
            have hw3 := wr1 (n := n) (Nat.le_trans hn (Nat.le_trans HX2.out (by decide)))
            have k2 : (k : Int) < (mm i : Int) := Int.ofNat_lt.2 hlk
            have hcv := hcI wr
            by_cases hln : n < mn
            · have d3 : decide ((n : Int) < (mn : Int)) = true := decide_eq_true (Int.ofNat_lt.2 hln)
              have k3 : (n : Int) < (mn : Int) := Int.ofNat_lt.2 hln
              obtain ⟨mb, rfl, hmb, hmf, hma, hmg, ⟨o1, o2, y1, y2⟩, hset⟩ := hp.out hln
              have f1 := hmf (n * 2)
              have f2 := hmf (n * 2 + 1)
              have HSE := Hid.mk (hset wr (Below.refl _ _))
              have hnx : n < MX := Nat.lt_of_lt_of_le hln (Nat.le_trans hmn.out HX1.out)
              clear hset hmf hp hd hma hmg c3 hfz hn
              go_wp2_with fail
              go_region
              have HSG : Hid (L1 w7.heap.size w21 ((((wr.setCell ⟨mb, n * 2, none⟩ (Value.string ⟨#[109]⟩)).setCell ⟨mb, n * 2 + 1, none⟩ (Value.string ⟨(cs i).toArray⟩)).alloc (.cells #[.int .u8 ((48 : Int) + (i : Int))] 5)).drew) ab mm i k (n + 1)) := ⟨HSE.out.later ((Below.refl _ _).alloc (Nat.le_refl _) _).drew⟩
              clear y1 y2 f1 f2 HSE hcv c1 c2 hmb hg hab
              generalize ((((wr.setCell ⟨mb, n * 2, none⟩ (Value.string ⟨#[109]⟩)).setCell ⟨mb, n * 2 + 1, none⟩ (Value.string ⟨(cs i).toArray⟩)).alloc (.cells #[.int .u8 ((48 : Int) + (i : Int))] 5)).drew) = wN at *
              clear hmn d3 k3 hln HX1 HX2 HMi hw4 hw5 hw6 i5 d2 d1 hcI hw1 hw2 hk hi hlk hlt k2
              go_wp2_with fail
              exact ⟨⟨n + 1, hnx, by first | (rw [hw3]; done) | rfl | go_num, HSG⟩, by first | (rw [hw3]; exact lss_meas hnx) | exact meas1 hnx⟩
            · have d3 : decide ((n : Int) < (mn : Int)) = false := decide_eq_false (fun q => hln (Int.ofNat_lt.1 q))
              have HSE := Hid.mk (hd.out (Nat.le_of_not_lt hln) wr (Below.refl _ _))
              have f3 := hfz.out (k * 5 + 3)
              clear hp hd hfz hmn hn HX1 HX2 hw3 HN
              have d3' : decide (n < mn) = false := decide_eq_false hln
              go_wp2_with fail
              clear hln d3'
              go_region
              have HSG : Hid (L1 w7.heap.size w21 (((wr.setCell ⟨g, k * 5 + 3, none⟩ (Value.string ⟨(cs i).toArray⟩)).alloc (.cells #[.int .u8 ((48 : Int) + (i : Int))] 5)).drew) ab mm i (k + 1) 0) := ⟨HSE.out.later ((Below.refl _ _).alloc (Nat.le_refl _) _).drew⟩
              clear f3 HSE hcv c1 c2 c3 hg hab
              generalize (((wr.setCell ⟨g, k * 5 + 3, none⟩ (Value.string ⟨(cs i).toArray⟩)).alloc (.cells #[.int .u8 ((48 : Int) + (i : Int))] 5)).drew) = wN at *
              clear d3 HMi hw4 hw5 hw6 i5 d2 d1 hcI hw1 hk hi hlt k2
              go_wp2_with fail
              exact ⟨⟨k + 1, hlk, by first | (rw [hw2]; done) | rfl | go_num, HSG⟩, by first | (rw [hw2]; exact lss_meas hlk) | exact meas1 hlk⟩
        · obtain rfl : k = mm i := Nat.le_antisymm hk (Nat.le_of_not_lt hlk)
          obtain ⟨sa2, sc2, c1⟩ := HK.out.len hlt
          have d2 : decide ((mm i : Int) < (mm i : Int)) = false := decide_eq_false (fun q => Nat.lt_irrefl _ (Int.ofNat_lt.1 q))
          have HNI := Hid.mk HK.out.nextI
          clear HK hk hlk HMi hcI hw4 hw5 hw6
          go_wp2_with fail
          exact ⟨⟨i + 1, hlt, by first | (rw [hw1]; done) | rfl | go_num, HNI⟩, by first | (rw [hw1]; exact lss_meas hlt) | exact meas1 hlt⟩
    · have ei : i = 5 := Nat.le_antisymm hi (Nat.le_of_not_lt hlt)
      have d1 : decide ((i : Int) < 5) = false := decide_eq_false (fun q => hlt (Int.ofNat_lt.1 q))
      have HG : Hid (L2 w7.heap.size w21 wr ab mm 0 0 0) := ⟨by have := HI.out; rw [ei] at this; exact this.grow⟩
      clear HI ei hi
      go_wp2_with fail
      go_loopw [24] (fun o wr => ∃ i : Nat, i ≤ 5 ∧ o = .int .i64 (i : Int) ∧ Hid (L2 w7.heap.size w21 wr ab mm i 0 0)) (fun o _ => 5 - (intOf o).toNat)
      case atStart => exact ⟨0, by omega, rfl, HG⟩
      case round =>
        clear HG
        obtain ⟨i, hi, rfl, HI⟩ := hrel
        by_cases hlt : i < 5
        · have d1 : decide ((i : Int) < 5) = true := decide_eq_true (Int.ofNat_lt.2 hlt)
          have hw1 := wr1 (n := i) (Nat.le_trans (Nat.le_of_lt hlt) (by decide))
          have HMi := Hid.mk (HM.out i hlt)
          have hw4 := wr48 hlt
          have hw5 := wr48' hlt
          have hw6 := wr48'' hlt
          have i5 : (i : Int) < 5 := Int.ofNat_lt.2 hlt
          go_wp2_with fail
          go_loopw [25] (fun o wq => ∃ n : Nat, n ≤ 16 ∧ o = .int .i64 (n : Int) ∧ Hid (L2 w7.heap.size w21 wq ab mm i n 0)) (fun o _ => 16 - (intOf o).toNat)
          case atStart => exact ⟨0, Nat.zero_le _, rfl, HI⟩
          case round =>
            clear HI
            obtain ⟨n, hn, rfl, HN⟩ := hrel
            by_cases hln : n < 16
            · have d2 : decide ((n : Int) < 16) = true := decide_eq_true (Int.ofNat_lt.2 hln)
              have hw2 := wr1 (n := n) (Nat.le_trans (Nat.le_of_lt hln) (by decide))
              obtain ⟨vi, R, c1, hA, hRl, hab, hst0⟩ := HN.out.ver hlt
              have hst := Hid.mk hst0
              have hRb : R.length ≤ 1954687338260 := by rw [hRl]; exact Nat.le_trans (Nat.add_le_add HMi.out hn) (by decide)
              have HRb := Hid.mk hRb
              have HA := Hid.mk hA
              clear hst0 hRb hRl hA HMi hw4 hw5 hw6 hi HN
              go_wp2_with (refine app_v rfl _ _ rfl (rvG i) rfl HA.out rfl HRb.out rfl rfl ?_; intro g' cap' w' fo' bl' fr' at'; have hx := hst.out g' cap' w' fo' bl' fr' at'; obtain ⟨⟨ou, cu⟩, fz, hL2⟩ := hx; have HL2 := Hid.mk hL2; clear hL2 fo' fr' at' hst)
              clear cu fz
              exact ⟨⟨n + 1, hln, by first | (rw [hw2]; done) | rfl | go_num, HL2⟩, by first | (rw [hw2]; exact lss_meas hln) | exact meas1 hln⟩
            · have en : n = 16 := Nat.le_antisymm hn (Nat.le_of_not_lt hln)
              have d2 : decide ((n : Int) < 16) = false := decide_eq_false (fun q => hln (Int.ofNat_lt.1 q))
              have HN16 : Hid (L2 w7.heap.size w21 wr ab mm i 16 0) := ⟨by have := HN.out; rw [en] at this; exact this⟩
              clear HN en hn
              go_wp2_with fail
              clear hln d2
              go_loopw [26] (fun o wk => ∃ k : Nat, k ≤ mm i ∧ o = .int .i64 (k : Int) ∧ Hid (L2 w7.heap.size w21 wk ab mm i 16 k)) (fun o _ => mm i - (intOf o).toNat)
              case atStart => exact ⟨0, Nat.zero_le _, rfl, HN16⟩
              case round =>
                clear HN16
                obtain ⟨k, hk, rfl, HK⟩ := hrel
                obtain ⟨la, lc, cl⟩ := HK.out.len hlt
                have hw7 := wr16 (n := mm i) (Nat.le_trans HMi.out (by decide))
                by_cases hlk : k < mm i
                · have d3 : decide ((k : Int) < (mm i : Int)) = true := decide_eq_true (Int.ofNat_lt.2 hlk)
                  have hw2 := wr1 (n := k) (Nat.le_trans (Nat.le_of_lt hlk) (Nat.le_trans HMi.out (by decide)))
                  clear cl
                  obtain ⟨g, c, ma, mn, mc, c1, c2, hg, hab, hst0⟩ := HK.out.morePair hlt hlk
                  have bA := (Below.refl wr.heap.size wr).alloc (Nat.le_refl _) (.cells #[.int .u8 ((48 : Int) + (i : Int))] 5)
                  have bP := bA.alloc bA.size (.cells #[.string ⟨#[103, 114, 111, 119, 110]⟩, str (cs i)] 50)
                  obtain ⟨g', c', w', hr, ca', ⟨ou, cu⟩, fz, hL2⟩ := hst0 31 _ ((wr.alloc (.cells #[.int .u8 ((48 : Int) + (i : Int))] 5)).alloc (.cells #[.string ⟨#[103, 114, 111, 119, 110]⟩, str (cs i)] 50)).drew bA rfl bP.drew
                  have HL2 := Hid.mk hL2
                  rw [World.size_alloc] at hr
                  have hcv := conv_d (w := wr) (W := (wr.alloc (.cells #[.int .u8 ((48 : Int) + (i : Int))] 5)).drew) i hlt rfl
                  have k2 : (k : Int) < ((mm i + 16 : Nat) : Int) := Int.ofNat_lt.2 (Nat.lt_of_lt_of_le hlk (Nat.le_add_right _ _))
                  have k2' : (k : Int) < (mm i : Int) + 16 := k2
                  clear hst0 hL2 HMi bA bP HK
                  go_wp2_with fail
                  go_region
                  clear hr ca' cu fz hcv k2 k2' c1 c2 hg hab hw4 hw5 hw6 hw7 hk d3
                  generalize w'.setCell ⟨g, k * 5 + 4, none⟩ (.slice (some ⟨g', 0, none⟩) (mn + 1) c') = wN at *
                  clear i5 hi d1 hw1
                  go_wp2_with fail
                  exact ⟨⟨k + 1, hlk, by first | (rw [hw2]; done) | rfl | go_num, HL2⟩, by first | (rw [hw2]; exact lss_meas hlk) | exact meas1 hlk⟩
                · obtain rfl : k = mm i := Nat.le_antisymm hk (Nat.le_of_not_lt hlk)
                  have d3 : decide ((mm i : Int) < (mm i : Int)) = false := decide_eq_false (fun q => Nat.lt_irrefl _ (Int.ofNat_lt.1 q))
                  have HNI := Hid.mk (HK.out.nextI hlt)
                  clear HK hk hlk HMi hw4 hw5 hw6
                  go_wp2_with fail
                  exact ⟨⟨i + 1, hlt, by first | (rw [hw1]; done) | rfl | go_num, HNI⟩, by first | (rw [hw1]; exact lss_meas hlt) | exact meas1 hlt⟩
        · have ei : i = 5 := Nat.le_antisymm hi (Nat.le_of_not_lt hlt)
          have d1 : decide ((i : Int) < 5) = false := decide_eq_false (fun q => hlt (Int.ofNat_lt.1 q))
          have HG : Hid (L2 w7.heap.size w21 wr ab mm 5 0 0) := ⟨by have := HI.out; rw [ei] at this; exact this⟩
          clear HI ei hi
          go_wp2_with fail
          clear d1 hlt
          go_loopw [27] (fun o wt => ∃ i : Nat, i ≤ 5 ∧ o = .int .i64 (i : Int) ∧ Hid (L2 w7.heap.size w21 wt ab mm 5 0 0)) (fun o _ => 5 - (intOf o).toNat)
          case atStart => exact ⟨0, by omega, rfl, HG⟩
          case round =>
            clear HG
            obtain ⟨i, hi, rfl, HI⟩ := hrel
            by_cases hlt : i < 5
            · have d1 : decide ((i : Int) < 5) = true := decide_eq_true (Int.ofNat_lt.2 hlt)
              have hw1 := wr1 (n := i) (Nat.le_trans (Nat.le_of_lt hlt) (by decide))
              have i5 : (i : Int) < 5 := Int.ofNat_lt.2 hlt
              obtain ⟨la, lc, LL, cl, li, gw', hzl⟩ := HI.out.look hlt (HM.out i hlt)
              have hmk := marked_any i (mm i) hlt (Nat.le_trans (HM.out i hlt) (by decide)) LL wr la _ lc li hzl gw'
              clear li gw' hzl
              go_wp2_with fail
              with_reducible refine Calls.mono hmk ?_
              rintro e wm ⟨rfl, bm⟩
              dsimp only
              have HN := Hid.mk (HI.out.later bm)
              clear hmk cl HI bm i5 d1
              go_wp2_with fail
              exact ⟨⟨i + 1, hlt, by first | (rw [hw1]; done) | rfl | go_num, HN⟩, by first | (rw [hw1]; exact lss_meas hlt) | exact meas1 hlt⟩
            · have d1 : decide ((i : Int) < 5) = false := decide_eq_false (fun q => hlt (Int.ofNat_lt.1 q))
              have YE := Y21.trans (HI.out.b.mono (Nat.le_refl _))
              have PE := HP7.out.later YE
              obtain ⟨ra, rc, rfl, RE⟩ := HE.out wr PE.c
              have hal := alike_any _ _ wr _ _ _ _ _ _ PE.s RE
              rw [svL_true rfl] at hal
              clear HI HM hi hlt YE RE
              go_wp2_with fail
              with_reducible refine Calls.mono hal ?_
              rintro e we ⟨rfl, be⟩
              dsimp only
              have PF := PE.later be
              have hlk := like_any u u we xa _ xc rfl PF.ox.at' (Nat.le_trans huz4 (by decide)) oa _ oc rfl PF.ow.at' (Nat.le_trans huz4 (by decide))
              rw [sv_true rfl] at hlk
              obtain ⟨q0, q1, q2, q3, q4, _⟩ := PF.bx.cells
              obtain ⟨t0, t1, t2, t3, t4, _⟩ := PF.bw.cells
              have HF := Hid.mk PF.b
              clear hal be PE PF HE HP7 Y21
              go_wp2_with fail
              with_reducible refine Calls.mono hlk ?_
              rintro e wf ⟨rfl, bf⟩
              dsimp only
              go_wp2_with fail
              go_ret
              exact ⟨rfl, HF.out.trans (bf.mono HF.out.size)⟩
end Go.Proofs.Ytaonjmmdgfbceaa
