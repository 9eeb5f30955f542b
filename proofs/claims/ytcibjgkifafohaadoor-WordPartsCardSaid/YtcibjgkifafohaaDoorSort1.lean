/-
  slices.Sort AT []rune: siftDownOrdered, heapSortOrdered. (Laid by program: the tail of siftDown's round stands once for each way that comes to it.)
-/
import Derived.Test.YtcibjgkifafohaaDoorSort0
namespace Go.Proofs.YtcibjgkifafohaaDoor
open Go.RowKit Go.Lib Go.Sort
set_option linter.unusedVariables false

set_option maxHeartbeats 3200000 in
set_option maxRecDepth 100000 in
theorem sift_any (blk off cap lo hi first n : Nat) (d0 d : Array Int) (w0 w : World) (R : RowR w0 blk off d0) (S : SR w0 blk off d w) (hd0 : d0.size = n) (hd : d.size = n) (hlo : lo ≤ hi) (hb : first + hi ≤ n) (hsz : n < 4611686018427387904) :
    Calls Tryd.prog 161 #[.slice (some ⟨blk, off, none⟩) n cap, .int .i64 lo, .int .i64 hi, .int .i64 first] w fun e w' => e = .returned (.tuple #[]) ∧ SR w0 blk off (siftDown ltInt hi first lo d) w' := by
  have S0 := Lib.hid S; have HD := Lib.hid hd; have HD0 := Lib.hid hd0
  clear S hd hd0
  go_enter Tryd.func161, Tryd.ntmps161
  go_wp2
  go_loopg [8] (hi - lo) (fun k s8 wr => ∃ (root : Nat) (dk : Array Int), s8 = .int .i64 root ∧ root ≤ hi ∧ hi - root ≤ k ∧ Hid (dk.size = n) ∧ Hid (SR w0 blk off dk wr) ∧ Hid (siftDown ltInt hi first root dk = siftDown ltInt hi first lo d))
  case atStart => exact ⟨lo, d, rfl, hlo, Nat.le_refl _, HD, S0, rfl⟩
  case round =>
    clear S0
    obtain ⟨root, dk, rfl, hr, hk, HS, AS, HE⟩ := hrel
    by_cases h0 : hi ≤ 2 * root + 1
    · have h0z : (hi : Int) ≤ 2 * (root : Int) + 1 := by omega
      go_wp2
      go_end0
      refine ⟨rfl, ?_⟩
      rw [← HE.out, sd_end ltInt dk h0]
      exact AS.out
    · have h0z : ¬ ((hi : Int) ≤ 2 * (root : Int) + 1) := by omega
      obtain ⟨G, hG⟩ : ∃ G : Nat → Int, ∀ t, G t = dk[t]! := ⟨fun t => dk[t]!, fun _ => rfl⟩
      have HG := Lib.hid hG
      clear hG
      have cw := SR.cells AS.out R (by rw [HS.out, HD0.out]) HS.out HG.out
      have fw := SR.free AS.out R (by rw [HS.out, HD0.out]) HS.out
      by_cases h1 : 2 * root + 2 < hi
      · have h1z : 2 * (root : Int) + 1 + 1 < (hi : Int) := by omega
        go_wp2_with fail
        go_big_quiet (first | (go_at_call 156; refine Calls.quiet_of_same (cmpless_any _ _ _)))
        go_wp2_with fail
        · have hL : ltInt (G (first + 2 * root + 1)) (G (first + 2 * root + 2)) = true := by assumption
          have HL : Hid (ltInt dk[first + (2 * root + 1)]! dk[first + (2 * root + 2)]! = true) := (show _ = _ from by rw [← HG.out, ← HG.out]; simpa [Nat.add_assoc] using hL)
          have AS1 := Lib.hid (SW.drewN AS.out nq)
          clear hL cw fw AS
          generalize wr.drewN nq = W1 at AS1 ⊢
          clear nq
          have AS := AS1
          clear AS1
          have cw := SR.cells AS.out R (by rw [HS.out, HD0.out]) HS.out HG.out
          have fw := SR.free AS.out R (by rw [HS.out, HD0.out]) HS.out
          go_big_quiet (first | (go_at_call 156; refine Calls.quiet_of_same (cmpless_any _ _ _)))
          go_wp2_with fail
          · have hS : ltInt (G (first + root)) (G (first + 2 * root + 2)) = false := by
              have : (!ltInt (G (first + root)) (G (first + 2 * root + 2))) = true := by assumption
              simpa [Nat.add_assoc] using this
            rw [HG.out, HG.out] at hS
            (try simp only [Exit.inBlock, Exit.then]); refine bodyPost_ret (results_none rfl _ _ _) rfl ?_
            refine ⟨rfl, ?_⟩
            rw [← HE.out, sd_right_stop ltInt dk h1 HL.out hS]
            exact SW.drewN AS.out nq
          · have hL2 : ltInt (G (first + root)) (G (first + 2 * root + 2)) = true := by
              have : (!ltInt (G (first + root)) (G (first + 2 * root + 2))) = false := by assumption
              simpa [Nat.add_assoc] using this
            rw [HG.out, HG.out] at hL2
            have AS2 := Lib.hid (SW.drewN AS.out nq)
            have HL2 := Lib.hid hL2
            clear cw fw AS hL2
            generalize W1.drewN nq = W2 at AS2 ⊢
            have cw := SR.cells AS2.out R (by rw [HS.out, HD0.out]) HS.out HG.out
            have fw := SR.free AS2.out R (by rw [HS.out, HD0.out]) HS.out
            go_region
            go_wp2
            go_roundg (hi - (2 * root + 2))
            case measure => omega
            case rel =>
              refine ⟨2 * root + 2, swp dk (first + root) (first + (2 * root + 2)), by simp <;> omega, by omega, Nat.le_refl _, (show _ = _ from by rw [size_swp]; exact HS.out), (show SR _ _ _ _ _ from ?_), (show _ = _ from ?_)⟩
              · have h := SW.swapped AS2.out R (first + root) (first + (2 * root + 2)) (by rw [HS.out]; omega) (by rw [HS.out]; omega)
                rw [← HG.out, ← HG.out] at h
                first | exact h | (simpa [Nat.add_assoc] using h)
              · rw [← HE.out, sd_right_go ltInt dk h1 HL.out HL2.out]
        · have hL : ltInt (G (first + 2 * root + 1)) (G (first + 2 * root + 2)) = false := by assumption
          have HL : Hid (ltInt dk[first + (2 * root + 1)]! dk[first + (2 * root + 2)]! = false) := (show _ = _ from by rw [← HG.out, ← HG.out]; simpa [Nat.add_assoc] using hL)
          have AS1 := Lib.hid (SW.drewN AS.out nq)
          clear hL cw fw AS
          generalize wr.drewN nq = W1 at AS1 ⊢
          clear nq
          have AS := AS1
          clear AS1
          have cw := SR.cells AS.out R (by rw [HS.out, HD0.out]) HS.out HG.out
          have fw := SR.free AS.out R (by rw [HS.out, HD0.out]) HS.out
          go_big_quiet (first | (go_at_call 156; refine Calls.quiet_of_same (cmpless_any _ _ _)))
          go_wp2_with fail
          · have hS : ltInt (G (first + root)) (G (first + 2 * root + 1)) = false := by
              have : (!ltInt (G (first + root)) (G (first + 2 * root + 1))) = true := by assumption
              simpa [Nat.add_assoc] using this
            rw [HG.out, HG.out] at hS
            (try simp only [Exit.inBlock, Exit.then]); refine bodyPost_ret (results_none rfl _ _ _) rfl ?_
            refine ⟨rfl, ?_⟩
            rw [← HE.out, sd_left_stop ltInt dk (by omega) (fun _ => HL.out) hS]
            exact SW.drewN AS.out nq
          · have hL2 : ltInt (G (first + root)) (G (first + 2 * root + 1)) = true := by
              have : (!ltInt (G (first + root)) (G (first + 2 * root + 1))) = false := by assumption
              simpa [Nat.add_assoc] using this
            rw [HG.out, HG.out] at hL2
            have AS2 := Lib.hid (SW.drewN AS.out nq)
            have HL2 := Lib.hid hL2
            clear cw fw AS hL2
            generalize W1.drewN nq = W2 at AS2 ⊢
            have cw := SR.cells AS2.out R (by rw [HS.out, HD0.out]) HS.out HG.out
            have fw := SR.free AS2.out R (by rw [HS.out, HD0.out]) HS.out
            go_region
            go_wp2
            go_roundg (hi - (2 * root + 1))
            case measure => omega
            case rel =>
              refine ⟨2 * root + 1, swp dk (first + root) (first + (2 * root + 1)), by simp <;> omega, by omega, Nat.le_refl _, (show _ = _ from by rw [size_swp]; exact HS.out), (show SR _ _ _ _ _ from ?_), (show _ = _ from ?_)⟩
              · have h := SW.swapped AS2.out R (first + root) (first + (2 * root + 1)) (by rw [HS.out]; omega) (by rw [HS.out]; omega)
                rw [← HG.out, ← HG.out] at h
                first | exact h | (simpa [Nat.add_assoc] using h)
              · rw [← HE.out, sd_left_go ltInt dk (by omega) (fun _ => HL.out) HL2.out]
      · have h1z : decide (2 * (root : Int) + 1 + 1 < (hi : Int)) = false := decide_eq_false (by omega)
        go_wp2_with fail
        go_big_quiet (first | (go_at_call 156; refine Calls.quiet_of_same (cmpless_any _ _ _)))
        go_wp2_with fail
        have AS1 := Lib.hid (SW.drewN AS.out nq)
        clear cw fw AS
        generalize wr.drewN nq = W1 at AS1 ⊢
        clear nq
        have AS := AS1
        clear AS1
        have cw := SR.cells AS.out R (by rw [HS.out, HD0.out]) HS.out HG.out
        have fw := SR.free AS.out R (by rw [HS.out, HD0.out]) HS.out
        go_big_quiet (first | (go_at_call 156; refine Calls.quiet_of_same (cmpless_any _ _ _)))
        go_wp2_with fail
        · have hS : ltInt (G (first + root)) (G (first + 2 * root + 1)) = false := by
            have : (!ltInt (G (first + root)) (G (first + 2 * root + 1))) = true := by assumption
            simpa [Nat.add_assoc] using this
          rw [HG.out, HG.out] at hS
          (try simp only [Exit.inBlock, Exit.then]); refine bodyPost_ret (results_none rfl _ _ _) rfl ?_
          refine ⟨rfl, ?_⟩
          rw [← HE.out, sd_left_stop ltInt dk (by omega) (fun h => absurd h h1) hS]
          exact SW.drewN AS.out nq
        · have hL2 : ltInt (G (first + root)) (G (first + 2 * root + 1)) = true := by
            have : (!ltInt (G (first + root)) (G (first + 2 * root + 1))) = false := by assumption
            simpa [Nat.add_assoc] using this
          rw [HG.out, HG.out] at hL2
          have AS2 := Lib.hid (SW.drewN AS.out nq)
          have HL2 := Lib.hid hL2
          clear cw fw AS hL2
          generalize W1.drewN nq = W2 at AS2 ⊢
          have cw := SR.cells AS2.out R (by rw [HS.out, HD0.out]) HS.out HG.out
          have fw := SR.free AS2.out R (by rw [HS.out, HD0.out]) HS.out
          go_region
          go_wp2
          go_roundg (hi - (2 * root + 1))
          case measure => omega
          case rel =>
            refine ⟨2 * root + 1, swp dk (first + root) (first + (2 * root + 1)), by simp <;> omega, by omega, Nat.le_refl _, (show _ = _ from by rw [size_swp]; exact HS.out), (show SR _ _ _ _ _ from ?_), (show _ = _ from ?_)⟩
            · have h := SW.swapped AS2.out R (first + root) (first + (2 * root + 1)) (by rw [HS.out]; omega) (by rw [HS.out]; omega)
              rw [← HG.out, ← HG.out] at h
              first | exact h | (simpa [Nat.add_assoc] using h)
            · rw [← HE.out, sd_left_go ltInt dk (by omega) (fun h => absurd h h1) HL2.out]

/-! ### heapSortOrdered -/
theorem size_heapBuild (hi F : Nat) : ∀ (k : Nat) (d : Array Int), (heapBuild ltInt hi F k d).size = d.size
  | 0, _ => rfl
  | k + 1, d => by rw [heapBuild, size_heapBuild hi F k]; exact size_siftDown ltInt _ _ _ _ _ (Nat.le_refl _)

set_option maxHeartbeats 3200000 in
set_option maxRecDepth 100000 in
theorem heap_any (blk off cap a b n : Nat) (d0 d : Array Int) (w0 w : World) (R : RowR w0 blk off d0) (S : SR w0 blk off d w) (hd0 : d0.size = n) (hd : d.size = n) (hab : a ≤ b) (hb : b ≤ n) (hsz : n < 4611686018427387904) :
    Calls Tryd.prog 151 #[.slice (some ⟨blk, off, none⟩) n cap, .int .i64 a, .int .i64 b] w fun e w' => e = .returned (.tuple #[]) ∧ SR w0 blk off (heapSort ltInt d a b) w' := by
  have S0 := Lib.hid S; have HD := Lib.hid hd; have HD0 := Lib.hid hd0
  clear S hd hd0
  have ecast : ((b - a : Nat) : Int) = (b : Int) - (a : Int) := by omega
  have EC := Lib.hid ecast
  clear ecast
  go_enter Tryd.func151, Tryd.ntmps151
  go_wp2
  go_loopg [9] ((b - a - 1) / 2 + 1) (fun k s9 wr => s9 = .int .i64 ((k : Int) - 1) ∧ k ≤ (b - a - 1) / 2 + 1 ∧ ∃ (dk : Array Int), Hid (dk.size = n) ∧ Hid (SR w0 blk off dk wr) ∧ Hid (heapBuild ltInt (b - a) a k dk = heapBuild ltInt (b - a) a ((b - a - 1) / 2 + 1) d))
  case atStart => exact ⟨by rw [half_start hab], Nat.le_refl _, d, HD, S0, rfl⟩
  case round =>
    clear S0
    obtain ⟨rfl, hkk, dk, HS, AS, HE⟩ := hrel
    cases gk with
    | zero =>
      have HB : Hid (dk = heapBuild ltInt (b - a) a ((b - a - 1) / 2 + 1) d) := HE.out
      clear HE hkk
      go_wp2
      go_loopg [10] (b - a) (fun k s10 wr2 => s10 = .int .i64 ((k : Int) - 1) ∧ k ≤ b - a ∧ ∃ (dj : Array Int), Hid (dj.size = n) ∧ Hid (SR w0 blk off dj wr2) ∧ Hid (heapPop ltInt a k dj = heapPop ltInt a (b - a) dk))
      case atStart => exact ⟨by rw [EC.out], Nat.le_refl _, dk, HS, AS, rfl⟩
      case round =>
        clear AS
        obtain ⟨rfl, hkk, dj, HSj, AJ, HEj⟩ := hrel
        cases gk with
        | zero =>
          go_wp2
          go_end0
          refine ⟨rfl, ?_⟩
          have e : dj = heapSort ltInt d a b := by rw [heapSort, ← HB.out, ← HEj.out]; rfl
          rw [← e]
          exact AJ.out
        | succ k =>
          obtain ⟨G, hG⟩ : ∃ G : Nat → Int, ∀ t, G t = dj[t]! := ⟨fun t => dj[t]!, fun _ => rfl⟩
          have cw := SR.cells AJ.out R (by rw [HSj.out, HD0.out]) HSj.out hG
          have fw := SR.free AJ.out R (by rw [HSj.out, HD0.out]) HSj.out
          have HG := Lib.hid hG
          clear hG
          -- at the last round both places are one: the walk parts ahead of the region
          rcases Nat.eq_zero_or_pos k with hk0 | hkp
          · subst hk0
            go_wp2_with fail
            go_region
            go_wp2_with fail
            have SS : SR w0 blk off (swp dj a (a)) _ := SW.swapped AJ.out R a (a) (by rw [HSj.out]; omega) (by rw [HSj.out]; omega)
            rw [← HG.out] at SS
            refine (sift_any blk off cap 0 0 a n d0 (swp dj a (a)) w0 _ R SS HD0.out (by rw [size_swp]; exact HSj.out) (Nat.zero_le _) (by omega) hsz).mono ?_
            rintro e w1 ⟨rfl, S2⟩
            have AS2 := Lib.hid S2
            clear S2 SS cw fw AJ
            go_wp2
            go_roundg 0
            case measure => omega
            case rel => exact ⟨by simp, by omega, siftDown ltInt 0 a 0 (swp dj a (a)), (show _ = _ from by rw [size_siftDown ltInt _ _ _ _ _ (Nat.le_refl _), size_swp]; exact HSj.out), AS2, HEj⟩
          · skip
            go_wp2_with fail
            go_region
            go_wp2_with fail
            have SS : SR w0 blk off (swp dj a (a + k)) _ := SW.swapped AJ.out R a (a + k) (by rw [HSj.out]; omega) (by rw [HSj.out]; omega)
            rw [← HG.out, ← HG.out] at SS
            refine (sift_any blk off cap 0 k a n d0 (swp dj a (a + k)) w0 _ R SS HD0.out (by rw [size_swp]; exact HSj.out) (Nat.zero_le _) (by omega) hsz).mono ?_
            rintro e w1 ⟨rfl, S2⟩
            have AS2 := Lib.hid S2
            clear S2 SS cw fw AJ
            go_wp2
            go_roundg k
            case measure => omega
            case rel => exact ⟨by simp, by omega, siftDown ltInt k a 0 (swp dj a (a + k)), (show _ = _ from by rw [size_siftDown ltInt _ _ _ _ _ (Nat.le_refl _), size_swp]; exact HSj.out), AS2, HEj⟩
    | succ k =>
      have hcall := sift_any blk off cap k (b - a) a n d0 dk w0 wr R AS.out HD0.out HS.out (by omega) (by omega) hsz
      rw [EC.out] at hcall
      go_wp2_with (go_at_call 161; refine hcall.mono ?_; rintro e w1 ⟨rfl, S2⟩)
      have AS2 := Lib.hid S2
      clear S2 AS hcall
      go_roundg k
      case measure => omega
      case rel => exact ⟨by simp, by omega, siftDown ltInt (b - a) a k dk, (show _ = _ from by rw [size_siftDown ltInt _ _ _ _ _ (Nat.le_refl _)]; exact HS.out), AS2, HE⟩

end Go.Proofs.YtcibjgkifafohaaDoor
