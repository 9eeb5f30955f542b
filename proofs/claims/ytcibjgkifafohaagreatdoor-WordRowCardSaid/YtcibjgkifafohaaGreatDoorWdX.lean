/-
  WALKS AT ROWS OF RUNES: slices.Index, Contains, Reverse; runes.Text.
  WALKS AT ROWS OF RUNES: slices.Reverse; runes.Text.
-/
import Derived.Test.YtcibjgkifafohaaGreatDoorRsP
import Derived.Test.YtcibjgkifafohaaGreatDoorTextT
namespace Go.Proofs.YtcibjgkifafohaaGreatDoor
open Go.RowKit Go.Lib
set_option linter.unusedVariables false

set_option maxHeartbeats 1000000 in
theorem idx_any (pr : Option Addr) (br r0 cr : Nat) (l : List Int) (x : Int) (w : World) (hR : RsIn pr br r0 l w) :
    Calls Tryz.prog 38 #[.slice pr l.length cr, .int .i32 x] w fun e w' => e = .returned (.int .i64 (idxI l x 0)) ∧ w' = w := by
  have hbig := hR.big
  obtain ⟨n, hn⟩ : ∃ n, n = l.length := ⟨_, rfl⟩
  rw [← hn] at hbig ⊢
  have HR := Lib.hid hR; have HN := Lib.hid hn
  clear hR hn
  go_enter Tryz.func38, Tryz.ntmps38
  go_wp2_with fail
  go_loop [8] (fun iv => ∃ k : Nat, iv = .int .i64 k ∧ k ≤ n ∧ Hid (idxI l x 0 = idxI (l.drop k) x k)) (fun iv => n - (intOf iv).toNat)
  case atStart => exact ⟨0, rfl, Nat.zero_le _, rfl⟩
  case round =>
    obtain ⟨k, rfl, hk, HK⟩ := hrel
    by_cases hkn : k < n
    · have hkl : k < l.length := by rw [← HN.out]; exact hkn
      obtain rfl := HR.out.at_ (by omega)
      have a0 := HR.out.cells k hkl
      have hy := idxI_yes l x k hkl
      have hno := idxI_no l x k hkl
      obtain ⟨q, hq⟩ : ∃ q, q = l.getD k 0 := ⟨_, rfl⟩
      rw [← hq] at a0 hy hno
      by_cases hxq : x = q
      · have HY := Lib.hid (hy hxq)
        have e1 : (x == q) = true := by simp [hxq]
        clear hy hno hq hkl hxq
        go_wp2_with fail
        go_ret
        exact ⟨by rw [HK.out, HY.out] <;> rfl, rfl⟩
      · have HNo := Lib.hid (hno hxq)
        have e1 : (x == q) = false := by simp [hxq]
        clear hy hno hq hkl hxq
        go_wp2_with fail
        go_round
        case rel => exact ⟨k + 1, by go_num, by omega, by show _ = _; rw [HK.out, HNo.out]⟩
        case measure => simp [intOf]; omega
    · go_wp2_with fail
      go_ret
      exact ⟨by rw [HK.out, idxI_end l x k (by rw [← HN.out]; omega)] <;> rfl, rfl⟩

set_option maxHeartbeats 1000000 in
theorem has_rune (pr : Option Addr) (br r0 cr : Nat) (l : List Int) (x : Int) (w : World) (hR : RsIn pr br r0 l w) :
    Calls Tryz.prog 52 #[.slice pr l.length cr, .int .i32 x] w fun e w' => e = .returned (.bool (decide (x ∈ l))) ∧ w' = w := by
  have hi := fun w h => idx_any pr br r0 cr l x w h
  have hm := idxI_mem l x 0
  obtain ⟨n, hn⟩ : ∃ n, n = l.length := ⟨_, rfl⟩
  obtain ⟨I, hI⟩ : ∃ i, i = idxI l x 0 := ⟨_, rfl⟩
  rw [← hn, ← hI] at hi
  rw [← hI] at hm
  rw [← hn]
  have HI := Lib.hid hi; have HR := Lib.hid hR; have HM := Lib.hid hm
  clear hi hR hn hm hI
  go_enter Tryz.func52, Tryz.ntmps52
  go_wp2_with fail
  refine (HI.out _ HR.out).mono ?_
  rintro e w1 ⟨rfl, rfl⟩
  go_wp2_with fail
  go_ret
  have hb : decide (x ∈ l) = decide (0 ≤ I) := by rw [decide_eq_decide]; exact HM.out.symm
  exact ⟨by rw [hb] <;> rfl, rfl⟩
end Go.Proofs.YtcibjgkifafohaaGreatDoor
namespace Go.Proofs.YtcibjgkifafohaaGreatDoor
open Go.RowKit Go.Lib Go.Sort
set_option linter.unusedVariables false

/-! ### plain -/
theorem revLoop_size : ∀ (n i j : Nat) (d : Array Int), j - i ≤ n → (reverseLoop i j d).size = d.size
  | n, i, j, d, h => by
    rw [reverseLoop]
    split
    · match n, h with
      | 0, h => omega
      | n + 1, h => rw [revLoop_size n _ _ _ (by omega), size_swp]
    · rfl
theorem revLoop_get : ∀ (n i j : Nat) (d : Array Int), j - i ≤ n → j < d.size → ∀ t, (reverseLoop i j d)[t]! = if i ≤ t ∧ t ≤ j then d[i + j - t]! else d[t]!
  | n, i, j, d, h, hj, t => by
    rw [reverseLoop]
    split
    · rename_i hij
      match n, h with
      | 0, h => omega
      | n + 1, h =>
        rw [revLoop_get n _ _ _ (by omega) (by rw [size_swp]; omega) t]
        by_cases h1 : i + 1 ≤ t ∧ t ≤ j - 1
        · rw [if_pos h1, if_pos (by omega), show i + 1 + (j - 1) - t = i + j - t by omega, swp_other _ _ _ _ (by omega) (by omega)]
        · rw [if_neg h1]
          by_cases h2 : t = i
          · subst h2; rw [if_pos (by omega), swp_left _ _ _ (by omega) (by omega), show t + j - t = j by omega]
          · by_cases h3 : t = j
            · subst h3; rw [if_pos (by omega), swp_right _ _ _ hj, show i + t - t = i by omega]
            · rw [if_neg (by omega), swp_other _ _ _ _ h2 h3]
    · rename_i hij
      by_cases h1 : i ≤ t ∧ t ≤ j
      · rw [if_pos h1, show i + j - t = t by omega]
      · rw [if_neg h1]
theorem getE (l : List Int) (t : Nat) : l.toArray[t]! = l.getD t 0 := by
  rw [List.getD_eq_getElem?_getD]
  by_cases h : t < l.length
  · rw [getElem!_pos _ t (by simpa using h), List.getElem?_eq_getElem h]; rfl
  · rw [getElem!_neg _ t (by simpa using h), List.getElem?_eq_none (by omega)]; rfl
theorem revLoop_all (l : List Int) : ∀ t, t < l.length → (reverseLoop 0 (l.length - 1) l.toArray)[t]! = l.reverse.getD t 0 := by
  intro t ht
  rw [revLoop_get (l.length - 1) 0 _ _ (by omega) (by simp; omega), if_pos (by omega), getE]
  rw [List.getD_eq_getElem?_getD, List.getD_eq_getElem?_getD, List.getElem?_reverse ht]
  congr 2
  omega

/-! ### a row of the call's own, as the sort's world -/
theorem own_row {B n : Nat} {v : Value} {l : List Int} {W : World} (h : W.ownsRow B 21 1 v n (l.map E32)) (hn : n = l.length) (h0 : 0 < n) :
    ∃ g cap, v = .slice (some ⟨g, 0, none⟩) n cap ∧ B ≤ g ∧ n ≤ cap ∧ RowR W g 0 l.toArray ∧ SR W g 0 l.toArray W := by
  rcases h.2 with ⟨_, h1⟩ | ⟨g, cap, cur, rfl, hB, hg, hc, hm, hsz, ht⟩
  · omega
  · have hH : Sort.Holds E32 W g 0 l.toArray := fun j hj => by
      have hj' : j < l.length := by simpa using hj
      have e2 : l.toArray[j]! = l.getD j 0 := getE l j
      have e := h.cellAt j (by omega)
      rw [List.getElem?_map, List.getElem?_eq_getElem hj'] at e
      constructor
      · rw [Nat.zero_add, e, e2, getD_at hj']; rfl
      · exact h.frozenAt _
    exact ⟨g, cap, rfl, hB, hc, ⟨oneE32, hH, (Array.getElem?_eq_some_iff.1 hg).1⟩, SW.start hH⟩

set_option maxHeartbeats 1600000 in
set_option maxRecDepth 100000 in
theorem reverse_row (blk off cap n : Nat) (d : Array Int) (w0 w : World) (R : RowR w0 blk off d) (S : SR w0 blk off d w) (hd : d.size = n) (hsz : n < 4611686018427387904) :
    Calls Tryz.prog 35 #[.slice (some ⟨blk, off, none⟩) n cap] w fun e w' => e = .returned (.tuple #[]) ∧ SR w0 blk off (reverseLoop 0 (n - 1) d) w' := by
  have S0 := Lib.hid S; have HD := Lib.hid hd
  clear S hd
  go_enter Tryz.func35, Tryz.ntmps35
  go_wp2_with fail
  go_loopg [2, 3] n (fun k s6 s7 wr => ∃ (i jn : Nat) (jz : Int) (dk : Array Int), s6 = .int .i64 i ∧ s7 = .int .i64 jz ∧ ((i : Int) < jz → jz = jn ∧ jn < n) ∧ (¬ (i : Int) < jz → ¬ i < jn) ∧ jn - i ≤ k ∧
    Hid (dk.size = n) ∧ Hid (SR w0 blk off dk wr) ∧ Hid (reverseLoop i jn dk = reverseLoop 0 (n - 1) d))
  case atStart => exact ⟨0, n - 1, (n : Int) - 1, d, rfl, rfl, fun h => ⟨by omega, by omega⟩, fun h => by omega, by omega, HD, S0, rfl⟩
  case round =>
    obtain ⟨i, jn, jz, dk, rfl, rfl, h1, h2, hk, HS, S1, HE⟩ := hrel
    by_cases hlt : (i : Int) < jz
    · obtain ⟨rfl, hjn⟩ := h1 hlt
      have hij : i < jn := by omega
      clear h1 h2
      obtain ⟨G, hG⟩ : ∃ G : Nat → Int, ∀ t, G t = dk[t]! := ⟨fun t => dk[t]!, fun _ => rfl⟩
      have ci := SR.cells S1.out R (by rw [HS.out, HD.out]) HS.out hG
      have fi := SR.free S1.out R (by rw [HS.out, HD.out]) HS.out
      have HG := Lib.hid hG
      clear hG S0
      go_wp2_with fail
      go_region
      go_wp2
      go_roundg (jn - 1 - (i + 1))
      case measure => omega
      case rel =>
        have he := HE.out
        rw [reverseLoop, if_pos hij] at he
        have hsw := SW.swapped S1.out R i jn (by rw [HS.out]; omega) (by rw [HS.out]; omega)
        exact ⟨i + 1, jn - 1, (jn : Int) - 1, swp dk i jn, by simp, rfl, fun h => ⟨by omega, by omega⟩, fun h => by omega, Nat.le_refl _, (show _ = _ from by rw [size_swp]; exact HS.out),
          (show SR _ _ _ _ _ from by rw [HG.out, HG.out]; exact hsw), he⟩
    · have hnot := h2 hlt
      clear h1 h2
      go_wp2
      go_end0
      refine ⟨rfl, ?_⟩
      have he := HE.out
      rw [reverseLoop, if_neg hnot] at he
      rw [← he]
      exact S1.out
set_option maxHeartbeats 400000 in
theorem reverse_nil (pr : Option Addr) (cap : Nat) (w : World) :
    Calls Tryz.prog 35 #[.slice pr 0 cap] w fun e w' => e = .returned (.tuple #[]) ∧ w' = w := by
  go_enter Tryz.func35, Tryz.ntmps35
  go_wp2_with fail
  go_loop [2, 3] (fun s2 s3 => s2 = .int .i64 0 ∧ s3 = .int .i64 (-1)) (fun _ _ => 0)
  case atStart => exact ⟨rfl, rfl⟩
  case round =>
    obtain ⟨rfl, rfl⟩ := hrel
    go_wp2_with fail
    go_end0
    exact ⟨rfl, rfl⟩
/-- A row of the call's own, turned round in its place. -/
theorem reverse_any (B : Nat) (v : Value) (l : List Int) (w : World) (ho : w.ownsRow B 21 1 v l.length (l.map E32)) (hb : l.length ≤ 140737488355328) :
    Calls Tryz.prog 35 #[v] w fun e w' => e = .returned (.tuple #[]) ∧ (∃ pr br cr, v = .slice pr l.length cr ∧ RsIn pr br 0 l.reverse w') ∧ Below B w w' := by
  by_cases h0 : 0 < l.length
  · obtain ⟨g, cap, rfl, hB, hc, R, S⟩ := own_row ho rfl h0
    refine (reverse_row g 0 cap l.length l.toArray w w R S (by simp) (by omega)).mono ?_
    rintro e w' ⟨rfl, S'⟩
    refine ⟨rfl, ⟨_, g, cap, rfl, ⟨fun _ => rfl, fun j hj => ?_, by simpa using hb⟩⟩, (sw_below R.hblk S').mono hB⟩
    have hj' : j < l.length := by simpa using hj
    have h1 := SR.cells S' R (by rw [revLoop_size _ _ _ _ (Nat.le_refl _)]) (n := l.length) (by rw [revLoop_size _ _ _ _ (Nat.le_refl _)]; simp) (G := fun t => (reverseLoop 0 (l.length - 1) l.toArray)[t]!) (fun _ => rfl) j hj'
    rw [h1, revLoop_all l j hj']
  · obtain rfl : l = [] := List.eq_nil_of_length_eq_zero (by omega)
    obtain ⟨o, c, rfl⟩ := own_shape ho
    refine (reverse_nil o c w).mono ?_
    rintro e w' ⟨rfl, rfl⟩
    exact ⟨rfl, ⟨o, 0, c, rfl, ⟨fun h => absurd h (by decide), fun j hj => absurd hj (by simp), by decide⟩⟩, Below.refl _ _⟩

/-! ### runes.Text at such a row -/
theorem text_row (pr : Option Addr) (br r0 cr : Nat) (l : List Int) (w : World) (hR : RsIn pr br r0 l w) :
    Calls Tryz.prog 30 #[.slice pr l.length cr] w fun e w' => e = .returned (.string (strOf (textL l))) ∧ w' = w := by
  by_cases h0 : 0 < l.length
  · obtain rfl := hR.at_ h0
    refine (text_any ⟨br, r0, none⟩ l.length cr l w rfl fun j v hj => ?_).mono ?_
    · obtain ⟨hj1, hj2⟩ := List.getElem?_eq_some_iff.1 hj
      have hj' : j < l.length := by simpa using hj1
      have h1 := hR.cells j hj'
      rw [Addr.add_lit]
      rw [h1, ← hj2, getD_at hj']
      simp
    · rintro e w' ⟨rfl, rfl⟩; exact ⟨rfl, rfl⟩
  · obtain rfl : l = [] := List.eq_nil_of_length_eq_zero (by omega)
    by_cases hp : pr = none
    · subst hp
      refine (text_nil 0 cr w).mono ?_
      rintro e w' ⟨rfl, rfl⟩; exact ⟨rfl, rfl⟩
    · obtain ⟨a, rfl⟩ := Option.ne_none_iff_exists'.1 hp
      refine (text_any a 0 cr [] w rfl fun j v hj => by simp at hj).mono ?_
      rintro e w' ⟨rfl, rfl⟩; exact ⟨rfl, rfl⟩
end Go.Proofs.YtcibjgkifafohaaGreatDoor
