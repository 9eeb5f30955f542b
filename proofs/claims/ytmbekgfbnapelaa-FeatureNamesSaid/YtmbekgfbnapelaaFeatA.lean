/-
  WALKS: feature.nameEnd, isName, areFeatures, isRune, featuresOf, isClass.
  WALKS: feature.featuresOf, isClass, isRune.
-/
import Derived.Test.YtmbekgfbnapelaaFeatP
namespace Go.Proofs.Ytmbekgfbnapelaa
open Go.RowKit Go.Lib
set_option linter.unusedVariables false

theorem az_eq (s : ByteArray) (k : Nat) (h : k < s.size) : azB s[k] = (decide (97 ≤ (s[k].toNat : Int)) && decide ((s[k].toNat : Int) ≤ 122)) := by
  unfold azB
  rw [Bool.eq_iff_iff]
  simp
  omega

set_option maxHeartbeats 400000 in
theorem nameEnd_any (s : ByteArray) (p : Nat) (w : World) (hs : s.size ≤ 140737488355328) (hp : p ≤ s.size) :
    Calls Try.prog 75 #[.string s, .int .i64 p] w fun e w' => e = .returned (.int .i64 (endOf s p)) ∧ w = w' := by
  go_enter Try.func75, Try.ntmps75
  go_wp2
  go_loop [1] (fun f => ∃ k : Nat, f = .int .i64 k ∧ p ≤ k ∧ k ≤ s.size ∧ Hid (endOf s k = endOf s p)) (fun f => s.size - (intOf f).toNat)
  case atStart => exact ⟨p, rfl, Nat.le_refl _, hp, rfl⟩
  case round =>
    obtain ⟨k, rfl, hpk, hks, HE⟩ := hrel
    by_cases hk : k < s.size
    · cases ha : azB s[k] with
      | true =>
        have h2 := az_eq s k hk
        rw [ha] at h2
        have h3 : 97 ≤ (s[k].toNat : Int) ∧ (s[k].toNat : Int) ≤ 122 := by simpa using h2.symm
        obtain ⟨h4, h5⟩ := h3
        have HA := Lib.hid ha
        clear ha h2
        go_wp2
        go_round
        case rel => exact ⟨k + 1, by go_num, by omega, by omega, (show _ = _ from by rw [← HE.out, endOf_go s k hk HA.out])⟩
        case measure => simp [intOf]; omega
      | false =>
        have h2 := az_eq s k hk
        rw [ha] at h2
        have HA := Lib.hid ha
        clear ha
        by_cases h4 : 97 ≤ (s[k].toNat : Int)
        · have h5 : ¬ (s[k].toNat : Int) ≤ 122 := by
            intro h5
            simp [h4, h5] at h2
          clear h2
          go_wp2
          go_ret
          exact ⟨by rw [← HE.out, endOf_no s k hk HA.out] <;> rfl, rfl⟩
        · clear h2
          go_wp2
          go_ret
          exact ⟨by rw [← HE.out, endOf_no s k hk HA.out] <;> rfl, rfl⟩
    · go_wp2
      go_ret
      exact ⟨by rw [← HE.out, endOf_end s k hk] <;> rfl, rfl⟩

set_option maxHeartbeats 400000 in
theorem isName_any (s : ByteArray) (w : World) (hs : s.size ≤ 140737488355328) :
    Calls Try.prog 93 #[.string s] w fun e w' => e = .returned (.bool (nameB s)) ∧ w = w' := by
  have hall := endOf_all s
  obtain ⟨E, hE⟩ : ∃ E, E = endOf s 0 := ⟨_, rfl⟩
  have hc := nameEnd_any s 0
  rw [← hE] at hc hall
  have HC := Lib.hid hc; have HL := Lib.hid hall
  clear hc hall hE
  by_cases h1 : 1 ≤ s.size
  · by_cases h2 : s.size ≤ 32
    · go_enter Try.func93, Try.ntmps93
      go_wp2_with fail
      refine (HC.out _ hs (Nat.zero_le _)).mono ?_
      rintro e w1 ⟨rfl, rfl⟩
      go_wp2_with fail
      go_ret
      refine ⟨?_, rfl⟩
      have : ((E : Int) == (s.size : Int)) = nameB s := by
        unfold nameB
        rw [Bool.eq_iff_iff]
        simp only [beq_iff_eq, Bool.and_eq_true, decide_eq_true_eq]
        rw [← HL.out]
        omega
      rw [← this] <;> rfl
    · have hn : nameB s = false := by unfold nameB; simp; omega
      have HN := Lib.hid hn
      clear hn
      go_enter Try.func93, Try.ntmps93
      go_wp2
      go_ret
      exact ⟨by rw [HN.out] <;> rfl, rfl⟩
  · have hn : nameB s = false := by unfold nameB; simp; omega
    have HN := Lib.hid hn
    have h0 : s.size = 0 := by omega
    clear hn
    go_enter Try.func93, Try.ntmps93
    go_wp2
    go_ret
    exact ⟨by rw [HN.out] <;> rfl, rfl⟩

set_option maxHeartbeats 800000 in
theorem areFeatures_any (pf : Option Addr) (bf f0 cf : Nat) (fs : List ByteArray) (w : World) (hF : FsIn pf bf f0 cf fs w) :
    Calls Try.prog 56 #[.slice pf fs.length cf] w fun e w' => e = .returned (.bool (featsB fs)) ∧ w = w' := by
  by_cases h24 : fs.length ≤ 24
  · rcases Nat.eq_zero_or_pos fs.length with h0 | h0
    · have hn : fs = [] := List.length_eq_zero_iff.1 h0
      subst hn
      have hb : featsB [] = true := by decide
      have HB := Lib.hid hb
      clear hb hF
      go_enter Try.func56, Try.ntmps56
      go_wp2
      go_loop [10] (fun v => v = .int .i64 0) (fun _ => 0)
      case atStart => rfl
      case round =>
        obtain rfl := hrel
        go_wp2
        go_ret
        exact ⟨by rw [HB.out] <;> rfl, rfl⟩
    · obtain rfl := hF.at_ h0
      obtain ⟨n, hn⟩ : ∃ n, n = fs.length := ⟨_, rfl⟩
      have HF := Lib.hid hF
      have hcells := hF.cells
      have hroom := hF.room
      rw [← hn] at h24 h0 hcells hroom ⊢
      obtain ⟨G, hG⟩ : ∃ G : Nat → ByteArray, ∀ t, G t = fs.getD t ByteArray.empty := ⟨fun t => fs.getD t ByteArray.empty, fun _ => rfl⟩
      have cw : ∀ j, j < n → w.cell? ⟨bf, f0 + j, none⟩ = some (.string (G j)) := fun j hj => by rw [hG]; exact hcells j hj
      have HG := Lib.hid hG; have HN := Lib.hid hn
      clear hF hcells hG hn
      go_enter Try.func56, Try.ntmps56
      go_wp2
      go_loop [10] (fun v => ∃ k : Nat, v = .int .i64 k ∧ k ≤ n ∧ Hid (∀ j, j < k → nameB (fs.getD j ByteArray.empty) = true ∧ Lib.containsS (fs.take j) (fs.getD j ByteArray.empty) = false)) (fun v => n - (intOf v).toNat)
      case atStart => exact ⟨0, rfl, Nat.zero_le _, (show ∀ j, j < 0 → _ from fun j hj => absurd hj (Nat.not_lt_zero _))⟩
      case round =>
        obtain ⟨k, rfl, hk, HP⟩ := hrel
        by_cases hkn : k < n
        · have hsm := HF.out.small k (by rw [← HN.out]; exact hkn)
          rw [← HG.out] at hsm
          cases hb : nameB (G k) with
          | false =>
            have HB := Lib.hid hb
            clear hb
            go_wp2_with fail
            refine (isName_any (G k) _ hsm).mono ?_
            rintro e w1 ⟨rfl, rfl⟩
            rw [HB.out]
            go_wp2_with fail
            go_ret
            exact ⟨by rw [featsB_bad fs k (by rw [← HN.out]; exact hkn) (Or.inl (by rw [← HG.out]; exact HB.out))] <;> rfl, rfl⟩
          | true =>
            have HB := Lib.hid hb
            clear hb
            go_wp2_with fail
            refine (isName_any (G k) _ hsm).mono ?_
            rintro e w1 ⟨rfl, rfl⟩
            rw [HB.out]
            go_wp2_with fail
            refine (Try.slices_Contains_string bf f0 k _ fs (G k) _ (by rw [← HN.out]; exact hk) (by omega) HF.out.cells).mono ?_
            rintro e w2 ⟨rfl, rfl⟩
            cases hc : Lib.containsS (fs.take k) (G k) with
            | true =>
              have HC := Lib.hid hc
              clear hc
              go_wp2_with fail
              go_ret
              exact ⟨by rw [featsB_bad fs k (by rw [← HN.out]; exact hkn) (Or.inr (by rw [← HG.out]; exact HC.out))] <;> rfl, rfl⟩
            | false =>
              have HC := Lib.hid hc
              clear hc
              go_wp2_with fail
              go_round
              case rel => exact ⟨k + 1, by go_num, by omega, (show ∀ j, j < k + 1 → _ from fun j hj => by
                by_cases hjk : j < k
                · exact HP.out j hjk
                · obtain rfl : j = k := by omega
                  rw [← HG.out]; exact ⟨HB.out, HC.out⟩)⟩
              case measure => simp [intOf]; omega
        · obtain rfl : k = n := by omega
          go_wp2
          go_ret
          refine ⟨?_, rfl⟩
          rw [(featsB_iff fs).2 ⟨by rw [← HN.out]; exact h24, fun j hj => HP.out j (by rw [HN.out]; exact hj)⟩] <;> rfl
  · have hb : featsB fs = false := by
      cases h : featsB fs with
      | false => rfl
      | true => exact absurd ((featsB_iff fs).1 h).1 h24
    have HB := Lib.hid hb
    have hbig := hF.big
    clear hb hF
    go_enter Try.func56, Try.ntmps56
    go_wp2
    go_ret
    exact ⟨by rw [HB.out] <;> rfl, rfl⟩

end Go.Proofs.Ytmbekgfbnapelaa
namespace Go.Proofs.Ytmbekgfbnapelaa
open Go.RowKit Go.Lib
set_option linter.unusedVariables false

theorem allN_int (n : Nat) (hn : n ≤ 24) : (((2 : Int) ^ n % 4294967296 - 1) % 4294967296) = (allN n : Int) := by
  have h1 : 2 ^ n ≤ 2 ^ 24 := Nat.pow_le_pow_right (by decide) hn
  have h0 : 0 < 2 ^ n := Nat.two_pow_pos n
  have e : (2 : Int) ^ n = ((2 ^ n : Nat) : Int) := by push_cast; rfl
  rw [e]
  unfold allN
  generalize (2 : Nat) ^ n = p at h0 h1
  omega

set_option maxHeartbeats 400000 in
theorem featuresOf_any (pf pl : Option Addr) (cf n nl cl : Nat) (w : World) (hn : n ≤ 24) :
    Calls Try.prog 58 #[.agg #[.slice pf n cf, .slice pl nl cl]] w fun e w' => e = .returned (.int .u32 (allN n)) ∧ Below w.heap.size w w' := by
  have e := allN_int n hn
  have HE := Lib.hid e
  clear e
  go_enter Try.func58, Try.ntmps58
  go_wp2
  go_ret
  exact ⟨by rw [← HE.out] <;> rfl, (Below.refl _ _).alloc (Nat.le_refl _) _⟩

set_option maxHeartbeats 400000 in
theorem isClass_any (pf pl : Option Addr) (cf n nl cl p m : Nat) (w : World) (hn : n ≤ 24) (hp : p < 4294967296) (hm : m < 4294967296) :
    Calls Try.prog 96 #[.agg #[.slice pf n cf, .slice pl nl cl], .int .u32 p, .int .u32 m] w fun e w' => e = .returned (.bool (clsB n p m)) ∧ Below w.heap.size w w' := by
  have hA := allN_lt hn
  have lo : p ||| m < 4294967296 := Nat.or_lt_two_pow (n := 32) hp hm
  have eo := u32_or_nat p m hp hm
  have en := u32_andNot_nat (p ||| m) (allN n) lo (by omega)
  have ea := u32_and_nat p m hp hm
  have hc : clsB n p m = (decide ((p ||| m) &&& (4294967295 - allN n) = 0) && decide (p &&& m = 0)) := rfl
  obtain ⟨O, hO⟩ : ∃ O, O = p ||| m := ⟨_, rfl⟩
  obtain ⟨M, hM⟩ : ∃ M, M = allN n := ⟨_, rfl⟩
  have hF := featuresOf_any pf pl cf n nl cl
  rw [← hO] at eo en hc lo
  rw [← hM] at en hc hA hF
  obtain ⟨X, hX⟩ : ∃ X, X = O &&& (4294967295 - M) := ⟨_, rfl⟩
  obtain ⟨Y, hY⟩ : ∃ Y, Y = p &&& m := ⟨_, rfl⟩
  rw [← hX] at en hc
  rw [← hY] at ea hc
  have HC := Lib.hid hc; have HF := Lib.hid hF
  clear hO hM hX hY hc hF
  by_cases hx : X = 0
  · have hxz : ((X : Int) == 0) = true := by simp [hx]
    go_enter Try.func96, Try.ntmps96
    go_wp2_with fail
    refine (HF.out _ hn).mono ?_
    rintro e w1 ⟨rfl, hb1⟩
    have HB := Lib.hid hb1
    clear hb1
    go_wp2_with fail
    go_ret
    refine ⟨?_, ((Below.refl _ _).alloc (Nat.le_refl _) _).trans (HB.out.mono (by simp))⟩
    have e1 : ((Y : Int) == 0) = decide (Y = 0) := by rw [Bool.eq_iff_iff]; simp
    rw [HC.out, hx, ← e1] <;> rfl
  · have hxz : ((X : Int) == 0) = false := by simp; omega
    go_enter Try.func96, Try.ntmps96
    go_wp2_with fail
    refine (HF.out _ hn).mono ?_
    rintro e w1 ⟨rfl, hb1⟩
    have HB := Lib.hid hb1
    clear hb1
    go_wp2_with fail
    go_ret
    refine ⟨?_, ((Below.refl _ _).alloc (Nat.le_refl _) _).trans (HB.out.mono (by simp))⟩
    rw [HC.out]
    simp [hx]

theorem isRune_of (r : Int) (w : World) (b : Bool) (h : letB r = b) (hw : Calls Try.prog 95 #[.int .i32 r] w fun e w' => e = .returned (.bool b) ∧ w = w') :
    Calls Try.prog 95 #[.int .i32 r] w fun e w' => e = .returned (.bool (letB r)) ∧ w = w' := by rw [h]; exact hw
set_option maxHeartbeats 1000000 in
theorem isRune_any (r : Int) (w : World) :
    Calls Try.prog 95 #[.int .i32 r] w fun e w' => e = .returned (.bool (letB r)) ∧ w = w' := by
  by_cases h97 : 97 ≤ r
  · by_cases h122 : r ≤ 122
    · refine isRune_of r w true (by unfold letB; simp [h97, h122]) ?_
      go_enter Try.func95, Try.ntmps95
      go_wp2
      go_ret
      exact ⟨rfl, rfl⟩
    · have h65 : 65 ≤ r := by omega
      have h90 : ¬ r ≤ 90 := by omega
      by_cases h161 : 161 ≤ r
      · by_cases hb : r = 65533
        · subst hb
          refine isRune_of _ w false (by decide) ?_
          go_enter Try.func95, Try.ntmps95
          go_wp2
          go_ret
          exact ⟨rfl, rfl⟩
        · have hb1 : (r == 65533) = false := by simp [hb]
          have hb2 : (r != 65533) = true := by simp [hb]
          refine isRune_of r w (Lib.validRune r) (by unfold letB; simp [h122, h90, h161, hb]) ?_
          have hv := Try.utf8_ValidRune r
          have HV := Lib.hid hv
          clear hv hb
          go_enter Try.func95, Try.ntmps95
          go_wp2_with fail
          refine (HV.out _).mono ?_
          rintro e w1 ⟨rfl, rfl⟩
          go_wp2_with fail
          go_ret
          exact ⟨rfl, rfl⟩
      · refine isRune_of r w false (by unfold letB; simp [h122, h90, h161]) ?_
        go_enter Try.func95, Try.ntmps95
        go_wp2
        go_ret
        exact ⟨rfl, rfl⟩
  · have h161 : ¬ 161 ≤ r := by omega
    by_cases h65 : 65 ≤ r
    · by_cases h90 : r ≤ 90
      · refine isRune_of r w true (by unfold letB; simp [h65, h90]) ?_
        go_enter Try.func95, Try.ntmps95
        go_wp2
        go_ret
        exact ⟨rfl, rfl⟩
      · refine isRune_of r w false (by unfold letB; simp [h97, h90, h161]) ?_
        go_enter Try.func95, Try.ntmps95
        go_wp2
        go_ret
        exact ⟨rfl, rfl⟩
    · refine isRune_of r w false (by unfold letB; simp [h97, h65, h161]) ?_
      go_enter Try.func95, Try.ntmps95
      go_wp2
      go_ret
      exact ⟨rfl, rfl⟩

end Go.Proofs.Ytmbekgfbnapelaa
