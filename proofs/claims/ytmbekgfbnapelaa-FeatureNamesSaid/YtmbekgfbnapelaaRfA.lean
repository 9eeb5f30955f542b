/-
  WALKS: cognateref02.all, May, Like, name, letter.
  WALKS: cognateref02.letter, all, May.
  WALKS: cognateref02.all, May, Find.
  WALKS: cognateref02.Find.
-/
import Derived.Test.YtmbekgfbnapelaaFxP
namespace Go.Proofs.Ytmbekgfbnapelaa
open Go.RowKit Go.Lib
set_option linter.unusedVariables false

set_option maxHeartbeats 1000000 in
theorem rname_any (s : ByteArray) (w : World) (hs : s.size ≤ 140737488355328) :
    Calls Try.prog 71 #[.string s] w fun e w' => e = .returned (.bool (nameB s)) ∧ w = w' := by
  by_cases ha : 1 ≤ s.size
  · by_cases hb : s.size ≤ 32
    · have hx : nameB s = s.data.toList.all azB := by unfold nameB; rw [decide_eq_true ⟨ha, hb⟩, Bool.true_and]
      rw [hx]
      have hd : ∀ k (hk : k < s.size), (s.data.toList.drop k).all azB = (azB s[k] && (s.data.toList.drop (k + 1)).all azB) := fun k hk => by
        rw [drop_byte s k hk, List.all_cons]
      have h0 : (s.data.toList.drop s.size).all azB = true := by rw [List.drop_eq_nil_of_le (by simp)]; rfl
      have hB0 : (s.data.toList.drop 0).all azB = s.data.toList.all azB := by rw [List.drop_zero]
      obtain ⟨B, hB⟩ : ∃ B, B = s.data.toList.all azB := ⟨_, rfl⟩
      rw [← hB] at hB0 ⊢
      have HD := Lib.hid hd; have H0 := Lib.hid h0; have HB0 := Lib.hid hB0
      clear hx hd h0 hB0 hB
      go_enter Try.func71, Try.ntmps71
      go_wp2_with fail
      go_loop [3] (fun f => ∃ k : Nat, f = .int .i64 k ∧ k ≤ s.size ∧ Hid ((s.data.toList.drop k).all azB = B)) (fun f => s.size - (intOf f).toNat)
      case atStart => exact ⟨0, rfl, Nat.zero_le _, HB0⟩
      case round =>
        obtain ⟨k, rfl, hks, HE⟩ := hrel
        by_cases hk : k < s.size
        · cases haz : azB s[k] with
          | true =>
            have h2 := az_eq s k hk
            rw [haz] at h2
            have h3 : 97 ≤ (s[k].toNat : Int) ∧ (s[k].toNat : Int) ≤ 122 := by simpa using h2.symm
            obtain ⟨h4, h5⟩ := h3
            have HA := Lib.hid haz
            clear haz h2
            go_wp2_with fail
            go_round
            case rel => exact ⟨k + 1, by go_num, by omega, (show _ = _ from by rw [← HE.out, HD.out k hk, HA.out, Bool.true_and])⟩
            case measure => simp [intOf]; omega
          | false =>
            have h2 := az_eq s k hk
            rw [haz] at h2
            have HA := Lib.hid haz
            clear haz
            by_cases h4 : 97 ≤ (s[k].toNat : Int)
            · have h5 : ¬ (s[k].toNat : Int) ≤ 122 := by
                intro h5
                simp [h4, h5] at h2
              clear h2
              go_wp2_with fail
              go_ret
              exact ⟨by rw [← HE.out, HD.out k hk, HA.out, Bool.false_and] <;> rfl, rfl⟩
            · clear h2
              go_wp2_with fail
              go_ret
              exact ⟨by rw [← HE.out, HD.out k hk, HA.out, Bool.false_and] <;> rfl, rfl⟩
        · obtain rfl : k = s.size := by omega
          go_wp2_with fail
          go_ret
          exact ⟨by rw [← HE.out, H0.out] <;> rfl, rfl⟩
    · have hx : nameB s = false := by unfold nameB; rw [decide_eq_false (by omega), Bool.false_and]
      rw [hx]
      go_enter Try.func71, Try.ntmps71
      go_wp2_with fail
      go_ret
      exact ⟨rfl, rfl⟩
  · have hx : nameB s = false := by unfold nameB; rw [decide_eq_false (by omega), Bool.false_and]
    rw [hx]
    go_enter Try.func71, Try.ntmps71
    go_wp2_with fail
    go_ret
    exact ⟨rfl, rfl⟩

set_option maxRecDepth 100000 in
theorem rlike_any (x : Ltr) (p m : Nat) (w : World) (hx : LtrOk x) (hp : p < 4294967296) (hm : m < 4294967296) :
    Calls Try.prog 68 #[.agg #[.int .i32 x.r, .int .u32 x.p, .int .u32 x.m], .int .u32 p, .int .u32 m] w fun e w' => e = .returned (.bool (hasB x p m)) ∧ Below w.heap.size w w' := by
  have e1 := u32_and_nat x.p p hx.1 hp
  have e2 := u32_and_nat x.m m hx.2 hm
  unfold hasB
  obtain ⟨r, xp, xm⟩ := x
  simp only [] at e1 e2 ⊢
  obtain ⟨Z1, hZ1⟩ : ∃ Z, Z = xp &&& p := ⟨_, rfl⟩
  obtain ⟨Z2, hZ2⟩ : ∃ Z, Z = xm &&& m := ⟨_, rfl⟩
  rw [← hZ1] at e1 ⊢
  rw [← hZ2] at e2 ⊢
  clear hZ1 hZ2 hx hp hm
  by_cases h1 : Z1 = p
  · have i1 : ((Z1 : Int) == (p : Int)) = true := by simp [h1]
    have HX := Lib.hid (show (decide (Z1 = p) && decide (Z2 = m)) = ((Z2 : Int) == (m : Int)) from by rw [decide_eq_true h1, Bool.true_and, Bool.eq_iff_iff]; simp; omega)
    rw [HX.out]
    clear h1
    go_enter Try.func68, Try.ntmps68
    go_wp2_with fail
    go_ret
    exact ⟨rfl, (Below.refl _ _).alloc (Nat.le_refl _) _⟩
  · have i1 : ((Z1 : Int) == (p : Int)) = false := by simp; omega
    have HX := Lib.hid (show (decide (Z1 = p) && decide (Z2 = m)) = false from by rw [decide_eq_false h1, Bool.false_and])
    rw [HX.out]
    clear h1
    go_enter Try.func68, Try.ntmps68
    go_wp2_with fail
    go_ret
    exact ⟨rfl, (Below.refl _ _).alloc (Nat.le_refl _) _⟩
end Go.Proofs.Ytmbekgfbnapelaa
namespace Go.Proofs.Ytmbekgfbnapelaa
open Go.RowKit Go.Lib
set_option linter.unusedVariables false

theorem rletter_of (r : Int) (w : World) (b : Bool) (h : letB r = b) (hw : Calls Try.prog 72 #[.int .i32 r] w fun e w' => e = .returned (.bool b) ∧ w = w') :
    Calls Try.prog 72 #[.int .i32 r] w fun e w' => e = .returned (.bool (letB r)) ∧ w = w' := by rw [h]; exact hw
theorem runeB_doc (r : Int) : letB r = ((decide (97 ≤ r ∧ r ≤ 122) || decide (65 ≤ r ∧ r ≤ 90)) || decide (161 ≤ r ∧ r ≤ 1114111 ∧ r ≠ 65533 ∧ (r < 55296 ∨ 57343 < r))) := by
  unfold letB Lib.validRune
  rw [Bool.eq_iff_iff]
  simp only [Bool.or_eq_true, Bool.and_eq_true, decide_eq_true_eq]
  omega
set_option maxHeartbeats 4000000 in
theorem rletter_any (r : Int) (w : World) :
    Calls Try.prog 72 #[.int .i32 r] w fun e w' => e = .returned (.bool (letB r)) ∧ w = w' := by
  have ht : ∀ b : Bool, ((97 ≤ r ∧ r ≤ 122) ∨ (65 ≤ r ∧ r ≤ 90) ∨ (161 ≤ r ∧ r ≤ 1114111 ∧ r ≠ 65533 ∧ (r < 55296 ∨ 57343 < r)) ↔ b = true) → letB r = b := fun b h => by
    rw [runeB_doc, Bool.eq_iff_iff, ← h]
    simp only [Bool.or_eq_true, decide_eq_true_eq, or_assoc]
  have HT := Lib.hid ht
  clear ht
  by_cases a1 : 97 ≤ r
  · by_cases a2 : r ≤ 122
    · refine rletter_of r w true (HT.out _ (by simp; omega)) ?_
      go_enter Try.func72, Try.ntmps72
      go_wp2_with fail
      go_ret
      exact ⟨rfl, rfl⟩
    · have a3 : 65 ≤ r := by omega
      have a4 : ¬ r ≤ 90 := by omega
      by_cases a5 : 161 ≤ r
      · by_cases a6 : r ≤ 1114111
        · by_cases a7 : r = 65533
          · have b7 : (r == 65533) = true := by simp [a7]
            have c7 : (r != 65533) = false := by simp [a7]
            refine rletter_of r w false (HT.out _ (by simp; omega)) ?_
            clear a7
            go_enter Try.func72, Try.ntmps72
            go_wp2_with fail
            go_ret
            exact ⟨rfl, rfl⟩
          · have b7 : (r == 65533) = false := by simp [a7]
            have c7 : (r != 65533) = true := by simp [a7]
            by_cases a8 : r < 55296
            · refine rletter_of r w true (HT.out _ (by simp; omega)) ?_
              clear a7
              go_enter Try.func72, Try.ntmps72
              go_wp2_with fail
              go_ret
              exact ⟨rfl, rfl⟩
            · by_cases a9 : 57343 < r
              · refine rletter_of r w true (HT.out _ (by simp; omega)) ?_
                clear a7
                go_enter Try.func72, Try.ntmps72
                go_wp2_with fail
                go_ret
                exact ⟨rfl, rfl⟩
              · refine rletter_of r w false (HT.out _ (by simp; omega)) ?_
                clear a7
                go_enter Try.func72, Try.ntmps72
                go_wp2_with fail
                go_ret
                exact ⟨rfl, rfl⟩
        · refine rletter_of r w false (HT.out _ (by simp; omega)) ?_
          go_enter Try.func72, Try.ntmps72
          go_wp2_with fail
          go_ret
          exact ⟨rfl, rfl⟩
      · refine rletter_of r w false (HT.out _ (by simp; omega)) ?_
        go_enter Try.func72, Try.ntmps72
        go_wp2_with fail
        go_ret
        exact ⟨rfl, rfl⟩
  · have a5 : ¬ 161 ≤ r := by omega
    by_cases a3 : 65 ≤ r
    · by_cases a4 : r ≤ 90
      · refine rletter_of r w true (HT.out _ (by simp; omega)) ?_
        go_enter Try.func72, Try.ntmps72
        go_wp2_with fail
        go_ret
        exact ⟨rfl, rfl⟩
      · refine rletter_of r w false (HT.out _ (by simp; omega)) ?_
        go_enter Try.func72, Try.ntmps72
        go_wp2_with fail
        go_ret
        exact ⟨rfl, rfl⟩
    · refine rletter_of r w false (HT.out _ (by simp; omega)) ?_
      go_enter Try.func72, Try.ntmps72
      go_wp2_with fail
      go_ret
      exact ⟨rfl, rfl⟩
end Go.Proofs.Ytmbekgfbnapelaa
namespace Go.Proofs.Ytmbekgfbnapelaa
open Go.RowKit Go.Lib
set_option linter.unusedVariables false

theorem rall_any (pf pl : Option Addr) (cf n nl cl : Nat) (w : World) (hn : n ≤ 24) :
    Calls Try.prog 77 #[.agg #[.slice pf n cf, .slice pl nl cl]] w fun e w' => e = .returned (.int .u32 (allN n)) ∧ Below w.heap.size w w' := by
  have e := allN_int n hn
  have HE := Lib.hid e
  clear e
  go_enter Try.func77, Try.ntmps77
  go_wp2
  go_ret
  exact ⟨by rw [← HE.out] <;> rfl, (Below.refl _ _).alloc (Nat.le_refl _) _⟩

theorem allN_sub' {k p : Nat} (h : p < 2 ^ k) : p &&& allN k = p := by
  unfold allN
  rw [Nat.and_two_pow_sub_one_eq_mod, Nat.mod_eq_of_lt h]
theorem may_bits (k q : Nat) (hk : k ≤ 24) (hq : q < 4294967296) : (q &&& (4294967295 - allN k) = 0) ↔ (q &&& allN k = q) := by
  have hpos := Nat.two_pow_pos k
  constructor
  · intro h
    have hc : clsB k q 0 = true := by unfold clsB; rw [Nat.or_zero, decide_eq_true h, Nat.and_zero]; rfl
    exact allN_sub' (cls_lt hk hq (by omega) hc).1
  · intro h
    have hl : q < 2 ^ k := by
      rw [← h]
      refine Nat.lt_of_le_of_lt Nat.and_le_right ?_
      unfold allN; omega
    have hc := cls_of hk hl hpos (Nat.and_zero q)
    unfold clsB at hc
    rw [Nat.or_zero, Bool.and_eq_true, decide_eq_true_eq] at hc
    exact hc.1

set_option maxHeartbeats 1000000 in
theorem rmay_any (pf pl : Option Addr) (cf n nl cl : Nat) (p m : Nat) (w : World) (hn : n ≤ 24) (hp : p < 4294967296) (hm : m < 4294967296) :
    Calls Try.prog 67 #[.agg #[.slice pf n cf, .slice pl nl cl], .int .u32 p, .int .u32 m] w fun e w' => e = .returned (.bool (clsB n p m)) ∧ Below w.heap.size w w' := by
  have hF := fun w => rall_any pf pl cf n nl cl w hn
  have hq : p ||| m < 4294967296 := Nat.or_lt_two_pow (n := 32) hp hm
  have hb := may_bits n (p ||| m) hn hq
  have hF2 : allN n < 4294967296 := Nat.lt_trans (allN_lt hn) (by omega)
  have e1 := u32_or_nat p m hp hm
  have e2 := u32_and_nat p m hp hm
  have e3 := u32_and_nat (p ||| m) (allN n) hq hF2
  have hcl : clsB n p m = (decide ((p ||| m) &&& allN n = (p ||| m)) && decide (p &&& m = 0)) := by
    unfold clsB
    rw [show decide ((p ||| m) &&& (4294967295 - allN n) = 0) = decide ((p ||| m) &&& allN n = (p ||| m)) from by rw [decide_eq_decide]; exact hb]
  obtain ⟨X, hX⟩ : ∃ X, X = p ||| m := ⟨_, rfl⟩
  obtain ⟨Y, hY⟩ : ∃ X, X = p &&& m := ⟨_, rfl⟩
  rw [← hX] at e1 e3 hcl
  rw [← hY] at e2 hcl
  obtain ⟨F, hFF⟩ : ∃ F, F = allN n := ⟨_, rfl⟩
  rw [← hFF] at hF e3 hcl
  obtain ⟨Z, hZ⟩ : ∃ Z, Z = X &&& F := ⟨_, rfl⟩
  rw [← hZ] at e3 hcl
  rw [hcl]
  have HF := Lib.hid hF
  clear hF hb hF2 hq hX hY hFF hZ hcl hp hm hn
  by_cases h1 : Z = X
  · have i1 : ((Z : Int) == (X : Int)) = true := by simp [h1]
    have HX := Lib.hid (show (decide (Z = X) && decide (Y = 0)) = ((Y : Int) == 0) from by rw [decide_eq_true h1, Bool.true_and, Bool.eq_iff_iff]; simp)
    rw [HX.out]
    clear h1
    go_enter Try.func67, Try.ntmps67
    go_wp2_with fail
    refine (HF.out _).mono ?_
    rintro _ w1 ⟨rfl, hb1⟩
    have HB := Lib.hid hb1
    clear hb1
    go_wp2_with fail
    go_ret
    exact ⟨rfl, ((Below.refl _ _).alloc (Nat.le_refl _) _).trans (HB.out.mono (by simp))⟩
  · have i1 : ((Z : Int) == (X : Int)) = false := by simp; omega
    have HX := Lib.hid (show (decide (Z = X) && decide (Y = 0)) = false from by rw [decide_eq_false h1, Bool.false_and])
    rw [HX.out]
    clear h1
    go_enter Try.func67, Try.ntmps67
    go_wp2_with fail
    refine (HF.out _).mono ?_
    rintro _ w1 ⟨rfl, hb1⟩
    have HB := Lib.hid hb1
    clear hb1
    go_wp2_with fail
    go_ret
    exact ⟨rfl, ((Below.refl _ _).alloc (Nat.le_refl _) _).trans (HB.out.mono (by simp))⟩
end Go.Proofs.Ytmbekgfbnapelaa
namespace Go.Proofs.Ytmbekgfbnapelaa
open Go.RowKit Go.Lib
set_option linter.unusedVariables false

/-- A letter's number from number i on; -1: none. -/
def fnd : List Ltr → Int → Nat → Int
  | [], _, _ => -1
  | x :: ls, r, i => if x.r = r then (i : Int) else fnd ls r (i + 1)
theorem fnd_yes (ls : List Ltr) (r : Int) (k : Nat) (hk : k < ls.length) (h : (ls.getD k default).r = r) : fnd (ls.drop k) r k = (k : Int) := by
  rw [List.getD_eq_getElem?_getD, List.getElem?_eq_getElem hk] at h
  simp only [Option.getD_some] at h
  rw [List.drop_eq_getElem_cons hk, fnd, if_pos h]
theorem fnd_no (ls : List Ltr) (r : Int) (k : Nat) (hk : k < ls.length) (h : ¬ (ls.getD k default).r = r) : fnd (ls.drop k) r k = fnd (ls.drop (k + 1)) r (k + 1) := by
  rw [List.getD_eq_getElem?_getD, List.getElem?_eq_getElem hk] at h
  simp only [Option.getD_some] at h
  rw [List.drop_eq_getElem_cons hk, fnd, if_neg h]
/-- Found just where the program's find finds: at a place that holds the letter. -/
theorem fnd_findL (ls : List Ltr) (r : Int) : (findL ls r = none ∧ fnd ls r 0 = -1) ∨ ∃ j, j < ls.length ∧ findL ls r = some (ls.getD j default) ∧ fnd ls r 0 = (j : Int) := by
  have key : ∀ (ls : List Ltr) (i : Nat), (findL ls r = none ∧ fnd ls r i = -1) ∨ ∃ j, j < ls.length ∧ findL ls r = some (ls.getD j default) ∧ fnd ls r i = ((i + j : Nat) : Int) := by
    intro ls
    induction ls with
    | nil => intro i; exact Or.inl ⟨rfl, rfl⟩
    | cons x ls ih =>
      intro i
      by_cases hx : x.r = r
      · refine Or.inr ⟨0, by simp, ?_, ?_⟩
        · unfold findL; rw [List.find?_cons]; simp [hx]
        · rw [fnd, if_pos hx]; simp
      · have e1 : findL (x :: ls) r = findL ls r := by unfold findL; rw [List.find?_cons]; simp [hx]
        rw [e1, fnd, if_neg hx]
        rcases ih (i + 1) with h | ⟨j, hj, h1, h2⟩
        · exact Or.inl h
        · refine Or.inr ⟨j + 1, by simp; omega, by rw [h1]; rfl, by rw [h2]; congr 1; omega⟩
  rcases key ls 0 with h | ⟨j, hj, h1, h2⟩
  · exact Or.inl h
  · exact Or.inr ⟨j, hj, h1, by rw [h2, Nat.zero_add]⟩

set_option maxHeartbeats 1000000 in
set_option maxRecDepth 100000 in
theorem rfind_any (A : Al) (r : Int) (w : World) (hA : A.In w) (h128 : A.ls.length ≤ 128) :
    Calls Try.prog 66 #[A.v, .int .i32 r] w fun e w' => e = .returned (.int .i64 (fnd A.ls r 0)) ∧ Below w.heap.size w w' := by
  obtain ⟨pf, pl, nf, cf, nl, cl, hv, hnf, hnl, hpl, hcl, hpf, hcf⟩ := A.parts
  rw [hv]
  have hat := hA.L.at_
  rw [← hpl] at hat
  have hcr := hA.L.cr
  have hbx := Bx.start (F := .slice pf nf cf) (L := .slice pl nl cl) hA
  obtain ⟨ls, hls⟩ : ∃ l, l = A.ls := ⟨_, rfl⟩
  obtain ⟨bl, hbl⟩ : ∃ l, l = A.bl := ⟨_, rfl⟩
  obtain ⟨l0, hl0⟩ : ∃ l, l = A.l0 := ⟨_, rfl⟩
  rw [← hls] at hat hnl h128 hcr ⊢
  rw [← hbl, ← hl0] at hat hcr
  rw [← hnl] at hat h128 hcr
  obtain ⟨F0, hF0⟩ : ∃ F0, F0 = fnd ls r 0 := ⟨_, rfl⟩
  rw [← hF0]
  have hcw : ∀ j, j < nl → (w.alloc (.cells #[.slice pf nf cf, .slice pl nl cl] 26)).cell? ⟨bl, l0 + j * 3, none⟩ = some (.int .i32 (ls.getD j default).r) := fun j hj => by
    rw [World.cell?_alloc_lt _ _ _ (lt_of_cell (hcr j hj))]; exact hcr j hj
  have HAT := Lib.hid hat; have HCW := Lib.hid hcw; have HNL := Lib.hid hnl; have HF0 := Lib.hid hF0
  clear hA hv hnf hpl hcl hpf hcf hat hcr hbx hls hbl hl0 hcw hnl hF0
  go_enter Try.func66, Try.ntmps66
  go_wp2_with fail
  go_loop [5] (fun v => ∃ k : Nat, v = .int .i64 k ∧ k ≤ nl ∧ Hid (fnd (ls.drop k) r k = F0)) (fun v => nl - (intOf v).toNat)
  case atStart => exact ⟨0, rfl, Nat.zero_le _, HF0.out.symm⟩
  case round =>
    obtain ⟨k, rfl, hk, HE⟩ := hrel
    by_cases hkn : k < nl
    · obtain rfl := HAT.out (by omega)
      have a0 := HCW.out k hkn
      have hy := fnd_yes ls r k (by rw [← HNL.out]; exact hkn)
      have hn := fnd_no ls r k (by rw [← HNL.out]; exact hkn)
      obtain ⟨q, hq⟩ : ∃ q, q = (ls.getD k default).r := ⟨_, rfl⟩
      rw [← hq] at a0 hy hn
      have HY := Lib.hid hy; have HNo := Lib.hid hn
      clear hy hn hq
      by_cases hqr : q = r
      · have z1 : (q == r) = true := by simp [hqr]
        have HQ := Lib.hid hqr
        clear hqr
        go_wp2_with fail
        go_ret
        exact ⟨by rw [← HE.out, HY.out HQ.out] <;> rfl, (Below.refl _ _).alloc (Nat.le_refl _) _⟩
      · have z1 : (q == r) = false := by simp [hqr]
        have HQ := Lib.hid hqr
        clear hqr
        go_wp2_with fail
        go_round
        case rel => exact ⟨k + 1, by go_num, by omega, (show _ = _ from by rw [← HE.out, HNo.out HQ.out])⟩
        case measure => simp [intOf]; omega
    · obtain rfl : k = nl := by omega
      have hx : F0 = -1 := by rw [← HE.out, HNL.out, List.drop_length]; rfl
      have HX := Lib.hid hx
      clear hx
      go_wp2_with fail
      go_ret
      exact ⟨by rw [HX.out] <;> rfl, (Below.refl _ _).alloc (Nat.le_refl _) _⟩
end Go.Proofs.Ytmbekgfbnapelaa
