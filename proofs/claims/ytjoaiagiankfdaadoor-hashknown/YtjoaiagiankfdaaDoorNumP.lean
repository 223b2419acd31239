/- That the steps over plain numbers are SHA-256's. -/
import Derived.Test.YtjoaiagiankfdaaDoorNum
namespace Go.Proofs.YtjoaiagiankfdaaDoor.Sha
set_option linter.unusedVariables false
set_option linter.unusedSimpArgs false
theorem fz_eq {α : Type} (n : Nat) (k : Nat → α) : fz n k = k n := by cases n <;> rfl
def toN (s : S8) : N8 := ⟨s.a.toNat, s.b.toNat, s.c.toNat, s.d.toNat, s.e.toNat, s.f.toNat, s.g.toNat, s.h.toNat⟩
theorem or_add (a b i : Nat) (hb : b < 2 ^ i) : 2 ^ i * a ||| b = 2 ^ i * a + b := (Nat.two_pow_add_eq_or_of_lt hb a).symm
theorem rr_nat (x : W) (n : Nat) (h0 : 0 < n) (h : n < 32) : (rr x n).toNat = ((x.toNat * 4294967297) >>> n) % 4294967296 := by
  have hx := x.isLt
  unfold rr
  rw [BitVec.toNat_or, BitVec.toNat_shiftLeft, BitVec.toNat_ushiftRight, Nat.shiftLeft_eq, Nat.shiftRight_eq_div_pow, Nat.shiftRight_eq_div_pow]
  have hpq : 2 ^ (32 - n) * 2 ^ n = 4294967296 := by rw [← Nat.pow_add, show 32 - n + n = 32 by omega]
  have hp : 0 < 2 ^ (32 - n) := Nat.two_pow_pos _
  have hq : 0 < 2 ^ n := Nat.two_pow_pos _
  generalize hP : 2 ^ (32 - n) = p at *
  generalize 2 ^ n = q at *
  have hx' : x.toNat < p * q := by rw [hpq]; exact hx
  generalize x.toNat = y at *
  have hr : y / q < p := Nat.div_lt_of_lt_mul (by rw [Nat.mul_comm]; exact hx')
  have e1 : y * p % 2 ^ 32 = p * (y % q) := by
    have : (2 : Nat) ^ 32 = p * q := by rw [hpq]
    rw [this, Nat.mul_comm y p, Nat.mul_mod_mul_left]
  have e2 : y * 4294967297 / q = y * p + y / q := by
    have : y * 4294967297 = q * (y * p) + y := by
      have : q * (y * p) = y * (p * q) := by rw [Nat.mul_comm q, Nat.mul_assoc]
      rw [this, hpq]; omega
    rw [this, Nat.mul_add_div hq]
  rw [e1, e2]
  have e3 : p * (y % q) ||| y / q = p * (y % q) + y / q := by rw [← hP] at *; exact or_add _ _ _ hr
  rw [e3]
  have e4 : (y * p + y / q) % 4294967296 = p * (y % q) + y / q := by
    rw [← hpq]
    have h1 := Nat.div_add_mod y q
    have : y * p + y / q = p * q * (y / q) + (p * (y % q) + y / q) := by
      have a1 : y * p = p * q * (y / q) + p * (y % q) := by
        have : p * y = p * (q * (y / q) + y % q) := by rw [h1]
        rw [Nat.mul_comm y p, this, Nat.mul_add, Nat.mul_assoc]
      omega
    rw [this, Nat.mul_add_mod, Nat.mod_eq_of_lt]
    have h2 : y % q < q := Nat.mod_lt _ hq
    have h3 : p * (y % q) + p ≤ p * q := by
      have : p * (y % q) + p = p * (y % q + 1) := by rw [Nat.mul_add, Nat.mul_one]
      rw [this]; exact Nat.mul_le_mul_left _ h2
    omega
  rw [e4]
theorem xmod (a b : Nat) : (a ^^^ b) % 4294967296 = (a % 4294967296) ^^^ (b % 4294967296) := Nat.xor_mod_two_pow (n := 32)
theorem s3 (x : W) (i j k : Nat) (hi : 0 < i) (hi' : i < 32) (hj : 0 < j) (hj' : j < 32) (hk : 0 < k) (hk' : k < 32) :
    (xo (xo (rr x i) (rr x j)) (rr x k)).toNat = ((x.toNat * 4294967297) >>> i ^^^ (x.toNat * 4294967297) >>> j ^^^ (x.toNat * 4294967297) >>> k) % 4294967296 := by
  unfold xo
  rw [BitVec.toNat_xor, BitVec.toNat_xor, rr_nat x i hi hi', rr_nat x j hj hj', rr_nat x k hk hk', xmod, xmod]
theorem ad_nat (a b : W) : (ad a b).toNat = (a.toNat + b.toNat) % 4294967296 := by unfold ad; rw [BitVec.toNat_add]
theorem no_nat (a : W) : (no a).toNat = 4294967295 ^^^ a.toNat := by
  have e : no a = BitVec.allOnes 32 ^^^ a := by
    apply BitVec.eq_of_getLsbD_eq; intro i hi; unfold no; rw [BitVec.getLsbD_xor, BitVec.getLsbD_allOnes, BitVec.getLsbD_not, decide_eq_true hi, Bool.true_xor, Bool.true_and]
  rw [e, BitVec.toNat_xor]; rfl
theorem t1_nat (s : S8) (k w : W) (kw : Nat) (hkw : kw % 4294967296 = (k.toNat + w.toNat) % 4294967296) :
    (t1 s k w).toNat = (s.h.toNat + ((s.e.toNat * 4294967297) >>> 6 ^^^ (s.e.toNat * 4294967297) >>> 11 ^^^ (s.e.toNat * 4294967297) >>> 25) + ((s.e.toNat &&& s.f.toNat) ^^^ ((4294967295 ^^^ s.e.toNat) &&& s.g.toNat)) + kw) % 4294967296 := by
  unfold t1
  rw [ad_nat, ad_nat, ad_nat, ad_nat, s3 s.e 6 11 25 (by decide) (by decide) (by decide) (by decide) (by decide) (by decide)]
  have e2 : (xo (an s.e s.f) (an (no s.e) s.g)).toNat = (s.e.toNat &&& s.f.toNat) ^^^ ((4294967295 ^^^ s.e.toNat) &&& s.g.toNat) := by
    unfold xo an; rw [BitVec.toNat_xor, BitVec.toNat_and, BitVec.toNat_and, no_nat]
  rw [e2]
  generalize ((s.e.toNat * 4294967297) >>> 6 ^^^ (s.e.toNat * 4294967297) >>> 11 ^^^ (s.e.toNat * 4294967297) >>> 25) = A
  generalize (s.e.toNat &&& s.f.toNat) ^^^ ((4294967295 ^^^ s.e.toNat) &&& s.g.toNat) = B
  omega
theorem t2_nat (s : S8) : (t2 s).toNat = (((s.a.toNat * 4294967297) >>> 2 ^^^ (s.a.toNat * 4294967297) >>> 13 ^^^ (s.a.toNat * 4294967297) >>> 22) + (((s.a.toNat &&& s.b.toNat) ^^^ (s.a.toNat &&& s.c.toNat)) ^^^ (s.b.toNat &&& s.c.toNat))) % 4294967296 := by
  unfold t2
  rw [ad_nat, s3 s.a 2 13 22 (by decide) (by decide) (by decide) (by decide) (by decide) (by decide)]
  have e2 : (xo (xo (an s.a s.b) (an s.a s.c)) (an s.b s.c)).toNat = ((s.a.toNat &&& s.b.toNat) ^^^ (s.a.toNat &&& s.c.toNat)) ^^^ (s.b.toNat &&& s.c.toNat) := by
    unfold xo an; rw [BitVec.toNat_xor, BitVec.toNat_xor, BitVec.toNat_and, BitVec.toNat_and, BitVec.toNat_and]
  rw [e2]
  generalize ((s.a.toNat * 4294967297) >>> 2 ^^^ (s.a.toNat * 4294967297) >>> 13 ^^^ (s.a.toNat * 4294967297) >>> 22) = A
  omega
noncomputable def rndsS (l : List Nat) (n : N8) : N8 := rndsN l n.a n.b n.c n.d n.e n.f n.g n.h
def T (kw e f g h : Nat) : Nat := h + ((e * 4294967297) >>> 6 ^^^ (e * 4294967297) >>> 11 ^^^ (e * 4294967297) >>> 25) + ((e &&& f) ^^^ ((4294967295 ^^^ e) &&& g)) + kw
def U (a b c : Nat) : Nat := ((a * 4294967297) >>> 2 ^^^ (a * 4294967297) >>> 13 ^^^ (a * 4294967297) >>> 22) + (((a &&& b) ^^^ (a &&& c)) ^^^ (b &&& c))
theorem rndsN_cons (kw : Nat) (l : List Nat) (a b c d e f g h : Nat) : rndsN (kw :: l) a b c d e f g h = rndsN l ((T kw e f g h + U a b c) % 4294967296) a b c ((d + T kw e f g h) % 4294967296) e f g := by
  unfold rndsN
  simp only [fz_eq]
  rfl
theorem rndsS_cons (kw : Nat) (l : List Nat) (s : S8) (k w : W) (hkw : kw % 4294967296 = (k.toNat + w.toNat) % 4294967296) : rndsS (kw :: l) (toN s) = rndsS l (toN (rnd s k w)) := by
  have h1 : (t1 s k w).toNat = T kw s.e.toNat s.f.toNat s.g.toNat s.h.toNat % 4294967296 := t1_nat s k w kw hkw
  have h2 : (t2 s).toNat = U s.a.toNat s.b.toNat s.c.toNat % 4294967296 := t2_nat s
  have ha : (ad (t1 s k w) (t2 s)).toNat = (T kw s.e.toNat s.f.toNat s.g.toNat s.h.toNat + U s.a.toNat s.b.toNat s.c.toNat) % 4294967296 := by rw [ad_nat, h1, h2]; omega
  have he : (ad s.d (t1 s k w)).toNat = (s.d.toNat + T kw s.e.toNat s.f.toNat s.g.toNat s.h.toNat) % 4294967296 := by rw [ad_nat, h1]; omega
  unfold rndsS rnd toN
  rw [rndsN_cons]
  show _ = rndsN l (ad (t1 s k w) (t2 s)).toNat s.a.toNat s.b.toNat s.c.toNat (ad s.d (t1 s k w)).toNat s.e.toNat s.f.toNat s.g.toNat
  rw [ha, he]
/-- So many rounds, from the j-th on. -/
def roundsFrom (w : Nat → W) : Nat → Nat → S8 → S8
  | _, 0, s => s
  | j, n + 1, s => roundsFrom w (j + 1) n (rnd s (kt j) (w j))
theorem rounds_from (w : Nat → W) (s : S8) : ∀ n j, roundsFrom w j n (rounds w s j) = rounds w s (j + n)
  | 0, j => rfl
  | n + 1, j => by
    rw [roundsFrom, ← rounds, rounds_from w s n (j + 1)]
    congr 1; omega
theorem rndsS_all (w : Nat → W) : ∀ (l : List Nat) (j : Nat) (s : S8), (∀ i, (h : i < l.length) → l[i] % 4294967296 = ((kt (j + i)).toNat + (w (j + i)).toNat) % 4294967296) → rndsS l (toN s) = toN (roundsFrom w j l.length s)
  | [], j, s, _ => rfl
  | kw :: l, j, s, h => by
    have h0 := h 0 (by simp)
    rw [rndsS_cons kw l s (kt j) (w j) (by simpa using h0)]
    rw [rndsS_all w l (j + 1) _ (fun i hi => by
      have := h (i + 1) (by simp; omega)
      simp only [List.getElem_cons_succ] at this
      rw [show j + 1 + i = j + (i + 1) by omega]; exact this)]
    rfl
noncomputable def blksS (kw : List Nat) (n : Nat) (s : N8) : N8 := blksN kw n s.a s.b s.c s.d s.e s.f s.g s.h
theorem blksN_succ (kw : List Nat) (n a b c d e f g h : Nat) : blksN kw (n + 1) a b c d e f g h =
    blksN kw n ((a + (rndsN kw a b c d e f g h).a) % 4294967296) ((b + (rndsN kw a b c d e f g h).b) % 4294967296) ((c + (rndsN kw a b c d e f g h).c) % 4294967296) ((d + (rndsN kw a b c d e f g h).d) % 4294967296)
      ((e + (rndsN kw a b c d e f g h).e) % 4294967296) ((f + (rndsN kw a b c d e f g h).f) % 4294967296) ((g + (rndsN kw a b c d e f g h).g) % 4294967296) ((h + (rndsN kw a b c d e f g h).h) % 4294967296) := by
  unfold blksN
  simp only [fz_eq]
  rfl
def itr {α : Type} (f : α → α) : Nat → α → α
  | 0, s => s
  | n + 1, s => itr f n (f s)
theorem itr_succ {α : Type} (f : α → α) (n : Nat) (s : α) : itr f (n + 1) s = itr f n (f s) := rfl
theorem itr_add {α : Type} (f : α → α) : ∀ (n m : Nat) (s : α), itr f (n + m) s = itr f m (itr f n s)
  | 0, m, s => by rw [Nat.zero_add]; rfl
  | n + 1, m, s => by rw [show n + 1 + m = (n + m) + 1 by omega, itr_succ, itr_add f n m, itr_succ]
theorem itr_last {α : Type} (f : α → α) (n : Nat) (s : α) : itr f (n + 1) s = f (itr f n s) := itr_add f n 1 s
def cw (w : Nat → W) (s : S8) : S8 := comp s w
theorem blksS_iter (w : Nat → W) (kw : List Nat) (hl : kw.length = 64) (h : ∀ i, (hi : i < kw.length) → kw[i] % 4294967296 = ((kt i).toNat + (w i).toNat) % 4294967296) : ∀ (n : Nat) (s : S8), blksS kw n (toN s) = toN (itr (cw w) n s)
  | 0, s => rfl
  | n + 1, s => by
    have hr : rndsN kw s.a.toNat s.b.toNat s.c.toNat s.d.toNat s.e.toNat s.f.toNat s.g.toNat s.h.toNat = toN (rounds w s 64) := by
      have := rndsS_all w kw 0 s (fun i hi => by rw [Nat.zero_add]; exact h i hi)
      rw [hl] at this
      have e := rounds_from w s 64 0
      rw [rounds, Nat.zero_add] at e
      rw [e] at this
      exact this
    rw [itr_succ, ← blksS_iter w kw hl h n (cw w s)]
    unfold blksS
    show blksN kw (n + 1) s.a.toNat s.b.toNat s.c.toNat s.d.toNat s.e.toNat s.f.toNat s.g.toNat s.h.toNat = _
    rw [blksN_succ, hr]
    unfold cw comp plus toN
    generalize rounds w s 64 = r
    simp only [ad_nat]
theorem toN_inj {s r : S8} (h : toN s = toN r) : s = r := by
  unfold toN at h
  injection h with h1 h2 h3 h4 h5 h6 h7 h8
  cases s; cases r
  congr 1 <;> exact BitVec.eq_of_toNat_eq (by assumption)
/-- A message of one letter, so many whole blocks of it. -/
theorem hs_succ (m : List UInt8) (k : Nat) : hs m (k + 1) = cw (wt (blk m k)) (hs m k) := by rw [hs]; rfl
theorem hs_itr (m : List UInt8) (f : Nat → UInt8) : ∀ k, (∀ q, q < k → ∀ j, j < 64 → blk m q j = f j) → hs m k = itr (cw (wt f)) k iv
  | 0, _ => rfl
  | k + 1, h => by
    rw [hs_succ, hs_itr m f k (fun q hq => h q (by omega)), wt_congr (h k (by omega)), itr_last]
def sv0 : S8 := ⟨1779033703#32, 3144134277#32, 1013904242#32, 2773480762#32, 1359893119#32, 2600822924#32, 528734635#32, 1541459225#32⟩
def sv1 : S8 := ⟨2980184124#32, 4055252723#32, 380558326#32, 3848951136#32, 619917395#32, 3724953604#32, 1241085446#32, 2795455954#32⟩
def sv2 : S8 := ⟨3480499010#32, 1333227246#32, 884393318#32, 2192927904#32, 2339805852#32, 2416519719#32, 2298295811#32, 2434603153#32⟩
def sv3 : S8 := ⟨3817410241#32, 129848790#32, 4156440462#32, 740622841#32, 449295930#32, 2859383890#32, 2573751462#32, 4092511495#32⟩
def sv4 : S8 := ⟨2480449054#32, 887052842#32, 3735950646#32, 2529967085#32, 2552717231#32, 2132796822#32, 2247734032#32, 1574115203#32⟩
def sv5 : S8 := ⟨316970583#32, 4221150854#32, 311357983#32, 64105143#32, 1164177717#32, 1807858894#32, 2571004778#32, 2276785209#32⟩
def sv6 : S8 := ⟨3451735173#32, 1992480860#32, 4114376705#32, 4207124144#32, 1301879602#32, 2314567675#32, 2863845554#32, 413343649#32⟩
def sv7 : S8 := ⟨25303342#32, 1446205656#32, 22677385#32, 2976249951#32, 462609797#32, 3758847419#32, 1575596734#32, 4081208719#32⟩
def sv8 : S8 := ⟨4101075154#32, 129573525#32, 758111687#32, 2809097055#32, 2946173745#32, 4125254953#32, 3590949913#32, 2694474649#32⟩
def sv9 : S8 := ⟨249274935#32, 97276911#32, 2625192275#32, 852671802#32, 2930304310#32, 3421827650#32, 450703807#32, 2891257336#32⟩
def sv10 : S8 := ⟨3950689631#32, 1183676483#32, 523787800#32, 1079288165#32, 3531020339#32, 1967142716#32, 4113132345#32, 1750149100#32⟩
def sv11 : S8 := ⟨92662511#32, 2039292810#32, 2812368728#32, 1398842276#32, 369889284#32, 3416214735#32, 196742846#32, 4050250501#32⟩
def sv12 : S8 := ⟨3644021289#32, 3318186913#32, 3635780383#32, 3250820814#32, 1352957489#32, 568761720#32, 3897415568#32, 2084911344#32⟩
def sv13 : S8 := ⟨2770629724#32, 3718244748#32, 1426248302#32, 1485112788#32, 2393428728#32, 2730147097#32, 2068496129#32, 955849718#32⟩
def sv14 : S8 := ⟨1991337870#32, 2309255265#32, 3993853711#32, 1510319335#32, 975131125#32, 1966570908#32, 2691746226#32, 549922638#32⟩
def sv15 : S8 := ⟨2229091582#32, 1247898798#32, 3129489793#32, 801003700#32, 3664384409#32, 2135943812#32, 1655664929#32, 4043692830#32⟩
def sv16 : S8 := ⟨1482359619#32, 3053920332#32, 2218581276#32, 956914467#32, 3284847132#32, 1532092920#32, 4107310820#32, 2931061524#32⟩
def sv17 : S8 := ⟨2671872303#32, 3494736969#32, 250824018#32, 496096432#32, 3522633456#32, 3909563648#32, 361649023#32, 839489138#32⟩
def sv18 : S8 := ⟨185797383#32, 1717202109#32, 1189823254#32, 219299165#32, 1089675585#32, 3146653644#32, 666783934#32, 2760782249#32⟩
def sv19 : S8 := ⟨3420580859#32, 3753318278#32, 2910203626#32, 3238094755#32, 2261397776#32, 2929822888#32, 3194009251#32, 2296366361#32⟩
def sv20 : S8 := ⟨1527903575#32, 643982266#32, 137930256#32, 1901535836#32, 1469484063#32, 211280277#32, 2609170097#32, 3664365886#32⟩
def sv21 : S8 := ⟨1782389935#32, 2251650807#32, 681093295#32, 2649148146#32, 1901012235#32, 2437441946#32, 16189232#32, 3449983928#32⟩
def sv22 : S8 := ⟨1569553612#32, 654178797#32, 3862343199#32, 1717473844#32, 141936283#32, 2363548559#32, 2018722472#32, 3397912081#32⟩
def sv23 : S8 := ⟨1965015889#32, 2320629160#32, 4007832554#32, 3991684233#32, 1295030224#32, 2131979557#32, 1814944490#32, 3770481227#32⟩
def sv24 : S8 := ⟨3286924927#32, 1855780753#32, 2608627564#32, 176370035#32, 705989294#32, 1480277143#32, 2994088020#32, 951416902#32⟩
def sv25 : S8 := ⟨2061136107#32, 1745259042#32, 791610055#32, 2140370626#32, 1884297759#32, 3529239238#32, 671294972#32, 693152569#32⟩
end Go.Proofs.YtjoaiagiankfdaaDoor.Sha
