/- The document's ahead, well and Right. -/
import Derived.Test.YthbdaadhcheggaaRgb
namespace Go.Proofs.Ythbdaadhcheggaa
set_option linter.unusedVariables false
set_option linter.unusedSimpArgs false
open Go.RowKit
attribute [local go_sem ↓] Go.wp_at_zero Go.wp_at_succ
noncomputable def ahB (u v : Vs) : Bool := by classical exact decide (ltv u v)
theorem ahead_any (u v : Vs) (w : World) (a : Option Addr) (n c : Nat) (a' : Option Addr) (n' c' : Nat) :
    Calls Try.prog 21 #[vv u.key u.seq u.mkr u.data a n c, vv v.key v.seq v.mkr v.data a' n' c'] w fun e w' => e = .returned (.bool (ahB u v)) ∧ Below w.heap.size w w' := by
  have b1 := (Below.refl w.heap.size w).alloc (Nat.le_refl _) (.cells #[str u.key, .int .i64 u.seq, .bool u.mkr, str u.data, .slice a n c] 41)
  have b2 := b1.alloc b1.size (.cells #[str v.key, .int .i64 v.seq, .bool v.mkr, str v.data, .slice a' n' c'] 41)
  clear b1
  by_cases hk : u.key = v.key
  · have HA : Hid (ahB u v = decide (u.seq < v.seq)) := ⟨by
      unfold ahB ltv
      simp [hk, lt_irrefl]⟩
    rw [hk]
    rw [hk] at b2
    go_enter Try.func21, Try.ntmps21
    go_wp2_with fail
    go_ret
    exact ⟨by rw [HA.out]; rfl, b2⟩
  · have HA : Hid (ahB u v = Go.Op.bytesLess u.key v.key) := ⟨by
      unfold ahB ltv
      rw [bytesLess_eq]
      simp [hk]⟩
    have d1 : (u.key == v.key) = false := beq_eq_false_iff_ne.2 hk
    go_enter Try.func21, Try.ntmps21
    go_wp2_with fail
    go_ret
    exact ⟨by rw [HA.out]; rfl, b2⟩
/-- the sizes of a version's pairs -/
def Pz (l : List En) : Prop := ∀ (k : Nat) (e : En), l[k]? = some e → e.key.length ≤ 9223372036854775806 ∧ e.val.length ≤ 9223372036854775806
theorem vrV_iff {v : Vs} : vrV v = 0 ↔ (keyE v.key = 0 ∧ datE v.data = 0 ∧ mtE v.l = 0) ∧ (v.mkr = true → v.data = [] ∧ v.l = []) := by
  unfold vrV vrE
  by_cases h1 : keyE v.key = 0
  · rw [if_neg (by simpa using h1)]
    by_cases h2 : (v.mkr = true ∧ ¬ v.data = []) ∨ ¬ datE v.data = 0
    · rw [if_pos h2]
      refine ⟨fun h => by omega, fun ⟨⟨_, q2, _⟩, q4⟩ => ?_⟩
      rcases h2 with ⟨z1, z2⟩ | z
      · exact absurd (q4 z1).1 z2
      · exact absurd q2 z
    · rw [if_neg h2]
      by_cases h3 : v.mkr = true ∧ 1 ≤ v.l.length
      · rw [if_pos h3]
        refine ⟨fun h => by omega, fun ⟨_, q4⟩ => ?_⟩
        have := (q4 h3.1).2
        rw [this] at h3
        simp at h3
      · rw [if_neg h3]
        have h4 : datE v.data = 0 := by
          rcases datE_or v.data with q | q
          · exact q
          · exact absurd (.inr (by omega)) h2
        refine ⟨fun h => ⟨⟨h1, h4, h⟩, fun hm => ⟨?_, ?_⟩⟩, fun h => h.1.2.2⟩
        · by_cases q : v.data = []
          · exact q
          · exact absurd (.inl ⟨hm, q⟩) h2
        · by_cases q : v.l = []
          · exact q
          · exact absurd ⟨hm, by have := List.length_pos_iff.2 q; omega⟩ h3
  · rw [if_pos (by simpa using h1)]
    exact ⟨fun h => by omega, fun h => absurd h.1.1 h1⟩
set_option maxRecDepth 100000 in
set_option maxHeartbeats 4000000 in
theorem well_any (v : Vs) (w : World) (a : Option Addr) (n cap : Nat) (hV : Vi w v a n cap) (hz : Pz v.l) :
    Calls Try.prog 20 #[vv v.key v.seq v.mkr v.data a n cap] w fun e w' => (∃ t : Bool, e = .returned (.bool t) ∧ (t = true ↔ vrV v = 0)) ∧ Below w.heap.size w w' := by
  obtain rfl := hV.n
  have b1 := (Below.refl w.heap.size w).alloc (Nat.le_refl _) (.cells #[str v.key, .int .i64 v.seq, .bool v.mkr, str v.data, .slice a v.l.length cap] 41)
  have h1 := fun w => rKey_any v.key w
  have h2 := fun w => rData_any v.data w
  have h3 := rMeta_any v.l _ a _ cap rfl (hV.later b1).s.at' hz (by have := hV.z; omega)
  have HI := Hid.mk (vrV_iff (v := v))
  have z1 := Bv.new w (str v.key) (.int .i64 v.seq) (.bool v.mkr) (str v.data) (.slice a v.l.length cap)
  clear hV hz
  obtain ⟨key, seq, mkr, data, l⟩ := v
  simp only at *
  by_cases k1 : keyE key = 0
  · rw [k1] at h1
    by_cases k2 : datE data = 0
    · rw [k2] at h2
      by_cases k3 : mtE l = 0
      · rw [k3] at h3
        cases mkr with
        | false =>
          go_enter Try.func20, Try.ntmps20
          go_wp2_with (first
            | (go_at_call 32; refine (h1 _).mono ?_; rintro e w0 ⟨rfl, rfl⟩)
            | (go_at_call 33; refine (h2 _).mono ?_; rintro e w0 ⟨rfl, rfl⟩)
            | (go_at_call 34; refine h3.mono ?_; rintro e w3 ⟨rfl, b3⟩; obtain ⟨p0, p1, p2, p3, p4, _⟩ := (z1.later b3).cells))
          go_ret
          exact ⟨⟨true, rfl, by rw [HI.out]; simp [k1, k2, k3]⟩, below_seq b1 b3⟩
        | true =>
          by_cases k4 : data = []
          · subst k4
            by_cases k5 : l.length = 0
            · have e5 : l = [] := List.eq_nil_of_length_eq_zero k5
              have d5 : ((l.length : Int) == 0) = true := by rw [k5]; rfl
              have HX : Hid (l = []) := ⟨e5⟩
              clear e5 k5
              go_enter Try.func20, Try.ntmps20
              go_wp2_with (first
                | (go_at_call 32; refine (h1 _).mono ?_; rintro e w0 ⟨rfl, rfl⟩)
                | (go_at_call 33; refine (h2 _).mono ?_; rintro e w0 ⟨rfl, rfl⟩)
                | (go_at_call 34; refine h3.mono ?_; rintro e w3 ⟨rfl, b3⟩; obtain ⟨p0, p1, p2, p3, p4, _⟩ := (z1.later b3).cells))
              go_ret
              exact ⟨⟨true, rfl, by rw [HI.out]; exact ⟨fun _ => ⟨⟨k1, k2, k3⟩, fun _ => ⟨by first | trivial | rfl, HX.out⟩⟩, fun _ => rfl⟩⟩, below_seq b1 b3⟩
            · have d5 : ((l.length : Int) == 0) = false := by rw [beq_eq_false_iff_ne]; omega
              have HX : Hid (¬ l = []) := ⟨fun h => k5 (by rw [h]; rfl)⟩
              clear k5
              go_enter Try.func20, Try.ntmps20
              go_wp2_with (first
                | (go_at_call 32; refine (h1 _).mono ?_; rintro e w0 ⟨rfl, rfl⟩)
                | (go_at_call 33; refine (h2 _).mono ?_; rintro e w0 ⟨rfl, rfl⟩)
                | (go_at_call 34; refine h3.mono ?_; rintro e w3 ⟨rfl, b3⟩; obtain ⟨p0, p1, p2, p3, p4, _⟩ := (z1.later b3).cells))
              go_ret
              exact ⟨⟨false, rfl, by rw [HI.out]; simp [k1, k2, k3, HX.out]⟩, below_seq b1 b3⟩
          · have d4 : data.isEmpty = false := by simpa using k4
            have HX : Hid (¬ data = []) := ⟨k4⟩
            clear k4
            go_enter Try.func20, Try.ntmps20
            go_wp2_with (first
              | (go_at_call 32; refine (h1 _).mono ?_; rintro e w0 ⟨rfl, rfl⟩)
              | (go_at_call 33; refine (h2 _).mono ?_; rintro e w0 ⟨rfl, rfl⟩)
              | (go_at_call 34; refine h3.mono ?_; rintro e w3 ⟨rfl, b3⟩; obtain ⟨p0, p1, p2, p3, p4, _⟩ := (z1.later b3).cells))
            go_ret
            exact ⟨⟨false, rfl, by rw [HI.out]; simp [k1, k2, k3, HX.out]⟩, below_seq b1 b3⟩
      · rw [(mtE_or l).resolve_left k3] at h3
        go_enter Try.func20, Try.ntmps20
        go_wp2_with (first
          | (go_at_call 32; refine (h1 _).mono ?_; rintro e w0 ⟨rfl, rfl⟩)
          | (go_at_call 33; refine (h2 _).mono ?_; rintro e w0 ⟨rfl, rfl⟩)
          | (go_at_call 34; refine h3.mono ?_; rintro e w3 ⟨rfl, b3⟩; obtain ⟨p0, p1, p2, p3, p4, _⟩ := (z1.later b3).cells))
        go_ret
        exact ⟨⟨false, rfl, by rw [HI.out]; simp [k1, k2, k3]⟩, below_seq b1 b3⟩
    · rw [(datE_or data).resolve_left k2] at h2
      go_enter Try.func20, Try.ntmps20
      go_wp2_with (first
        | (go_at_call 32; refine (h1 _).mono ?_; rintro e w0 ⟨rfl, rfl⟩)
        | (go_at_call 33; refine (h2 _).mono ?_; rintro e w0 ⟨rfl, rfl⟩)
        | (go_at_call 34; refine h3.mono ?_; rintro e w3 ⟨rfl, b3⟩; obtain ⟨p0, p1, p2, p3, p4, _⟩ := (z1.later b3).cells))
      go_ret
      exact ⟨⟨false, rfl, by rw [HI.out]; simp [k1, k2]⟩, b1⟩
  · rw [(keyE_or key).resolve_left k1] at h1
    go_enter Try.func20, Try.ntmps20
    go_wp2_with (first
      | (go_at_call 32; refine (h1 _).mono ?_; rintro e w0 ⟨rfl, rfl⟩)
      | (go_at_call 33; refine (h2 _).mono ?_; rintro e w0 ⟨rfl, rfl⟩)
      | (go_at_call 34; refine h3.mono ?_; rintro e w3 ⟨rfl, b3⟩; obtain ⟨p0, p1, p2, p3, p4, _⟩ := (z1.later b3).cells))
    go_ret
    exact ⟨⟨false, rfl, by rw [HI.out]; simp [k1]⟩, b1⟩
end Go.Proofs.Ythbdaadhcheggaa
