/-
  WALKS: cmp.Compare at int, word.compare, word.Cmp.
  PLAIN: the order of two rows of letters is the order of their numbers, place by place.
  WALKS: word.cut.
  WALKS: word.common, word.compare once more: they only draw (for slices.SortFunc).
  WALKS: cognatelaw03.among.
-/
import Derived.Test.YtcibjgkifafohaaGreatDoorPrt
import Derived.Test.YtcibjgkifafohaaGreatDoorSyB
namespace Go.Proofs.YtcibjgkifafohaaGreatDoor
open Go.RowKit Go.Lib
set_option linter.unusedVariables false

set_option maxHeartbeats 1000000 in
theorem nan_any (x : Int) (w : World) : Calls Tryz.prog 48 #[.int .i64 x] w fun e w' => e = .returned (.bool false) ∧ w' = w := by
  go_enter Tryz.func48, Tryz.ntmps48
  go_wp2_with fail
  go_ret
  exact ⟨by simp, rfl⟩
set_option maxHeartbeats 1000000 in
theorem ccmp_any (x y : Int) (w : World) : Calls Tryz.prog 37 #[.int .i64 x, .int .i64 y] w fun e w' => e = .returned (.int .i64 (compareInt x y)) ∧ w' = w := by
  have K := Lib.hid nan_any
  obtain ⟨R, hR⟩ : ∃ R, R = compareInt x y := ⟨_, rfl⟩
  rw [← hR]
  have HR := Lib.hid hR
  clear hR
  go_enter Tryz.func37, Tryz.ntmps37
  go_wp2_with fail
  refine (K.out _ _).mono ?_
  rintro _ _ ⟨rfl, rfl⟩
  go_wp2_with fail
  refine (K.out _ _).mono ?_
  rintro _ _ ⟨rfl, rfl⟩
  by_cases h : x < y
  · obtain rfl : R = -1 := by rw [HR.out]; unfold compareInt; rw [if_pos h]
    go_wp2_with fail
    go_ret
    exact ⟨rfl, rfl⟩
  · by_cases h2 : x > y
    · obtain rfl : R = 1 := by rw [HR.out]; unfold compareInt; rw [if_neg h, if_pos h2]
      go_wp2_with fail
      go_ret
      exact ⟨rfl, rfl⟩
    · obtain rfl : R = 0 := by rw [HR.out]; unfold compareInt; rw [if_neg h, if_neg h2]
      go_wp2_with fail
      go_ret
      exact ⟨rfl, rfl⟩

theorem comI_both : ∀ (l m : List Int), comI l m ≤ l.length ∧ comI l m ≤ m.length
  | [], m => by simp [comI]
  | x :: l, [] => by simp [comI]
  | x :: l, y :: m => by
    have := comI_both l m
    unfold comI
    simp only [List.length_cons]
    split <;> omega
/-- The order of two rows of letters. -/
def cmpI (row l m : List Int) : Int :=
  if comI l m = l.length ∨ comI l m = m.length then compareInt l.length m.length
  else compareInt (idxI row (l.getD (comI l m) 0) 0) (idxI row (m.getD (comI l m) 0) 0)

set_option maxHeartbeats 4000000 in
set_option maxRecDepth 100000 in
theorem wcompare_any (pr qr tr : Option Addr) (br r0 cr ur s0 cs vr t0 ct : Nat) (row l m : List Int) (w : World) (hW : RsIn pr br r0 row w) (hR : RsIn qr ur s0 l w) (hS : RsIn tr vr t0 m w) :
    Calls Tryz.prog 19 #[.slice pr row.length cr, .slice qr l.length cs, .slice tr m.length ct] w fun e w' => e = .returned (.int .i64 (cmpI row l m)) ∧ Below w.heap.size w w' := by
  have k1 := fun W (hb : Below w.heap.size w W) => common_any qr tr ur s0 cs vr t0 ct l m W (hR.next hb) (hS.next hb)
  have k2 := fun x W (hb : Below w.heap.size w W) => idx_any pr br r0 cr row x W (hW.next hb)
  have hle := comI_both l m
  have hcm : cmpI row l m = if comI l m = l.length ∨ comI l m = m.length then compareInt l.length m.length
      else compareInt (idxI row (l.getD (comI l m) 0) 0) (idxI row (m.getD (comI l m) 0) 0) := rfl
  obtain ⟨R, hR'⟩ : ∃ n, n = cmpI row l m := ⟨_, rfl⟩
  obtain ⟨C, hC⟩ : ∃ n, n = comI l m := ⟨_, rfl⟩
  rw [← hR', ← hC] at hcm
  rw [← hR']
  rw [← hC] at hle k1
  have hbl := hR.big
  have hbm := hS.big
  obtain ⟨nr, hnr⟩ : ∃ n, n = row.length := ⟨_, rfl⟩
  obtain ⟨nl, hnl⟩ : ∃ n, n = l.length := ⟨_, rfl⟩
  obtain ⟨nm, hnm⟩ : ∃ n, n = m.length := ⟨_, rfl⟩
  rw [← hnr] at k2 ⊢
  rw [← hnl, ← hnm] at hle k1 hcm ⊢
  rw [← hnl] at hbl
  rw [← hnm] at hbm
  have hlc : C < nl → qr = some ⟨ur, s0, none⟩ ∧ ∀ W, Below w.heap.size w W → W.cell? ⟨ur, s0 + C, none⟩ = some (.int .i32 (l.getD C 0)) := fun h => ⟨hR.at_ (by omega), fun W hb => (hR.next hb).cells C (by omega)⟩
  have hmc : C < nm → tr = some ⟨vr, t0, none⟩ ∧ ∀ W, Below w.heap.size w W → W.cell? ⟨vr, t0 + C, none⟩ = some (.int .i32 (m.getD C 0)) := fun h => ⟨hS.at_ (by omega), fun W hb => (hS.next hb).cells C (by omega)⟩
  obtain ⟨q, hq⟩ : ∃ n, n = l.getD C 0 := ⟨_, rfl⟩
  obtain ⟨u, hu⟩ : ∃ n, n = m.getD C 0 := ⟨_, rfl⟩
  rw [← hq] at hlc hcm
  rw [← hu] at hmc hcm
  obtain ⟨I, hI⟩ : ∃ n, n = idxI row q 0 := ⟨_, rfl⟩
  obtain ⟨J, hJ⟩ : ∃ n, n = idxI row u 0 := ⟨_, rfl⟩
  have kq := k2 q
  have ku := k2 u
  rw [← hI] at kq hcm
  rw [← hJ] at ku hcm
  have K1 := Lib.hid k1; have K3 := Lib.hid ccmp_any; have HCM := Lib.hid hcm; have HLC := Lib.hid hlc; have HMC := Lib.hid hmc; have KQ := Lib.hid kq; have KU := Lib.hid ku
  clear k1 k2 hcm hlc hmc kq ku hI hJ hq hu hnr hnl hnm hC hR' hW hR hS
  go_enter Tryz.func19, Tryz.ntmps19
  go_wp2_with fail
  refine (K1.out _ (by first | exact Below.refl _ _ | exact (Below.refl _ _).alloc (Nat.le_refl _) _)).mono ?_
  rintro _ w1 ⟨rfl, hb⟩
  have HB := Lib.hid hb
  clear hb
  by_cases h1 : C = nl
  · have hr := HCM.out
    rw [if_pos (Or.inl h1)] at hr
    have HR := Lib.hid hr
    subst h1
    clear hr
    go_wp2_with fail
    refine (K3.out _ _ _).mono ?_
    rintro _ _ ⟨rfl, rfl⟩
    go_wp2_with fail
    go_ret
    exact ⟨by rw [HR.out] <;> rfl, HB.out⟩
  · have e1 : ((C : Int) == (nl : Int)) = false := by simp; omega
    have e1' : decide (C = nl) = false := by simp; omega
    by_cases h2 : C = nm
    · have hr := HCM.out
      rw [if_pos (Or.inr h2)] at hr
      have HR := Lib.hid hr
      subst h2
      clear hr
      go_wp2_with fail
      refine (K3.out _ _ _).mono ?_
      rintro _ _ ⟨rfl, rfl⟩
      go_wp2_with fail
      go_ret
      exact ⟨by rw [HR.out] <;> rfl, HB.out⟩
    · have hr := HCM.out
      rw [if_neg (by omega)] at hr
      have HR := Lib.hid hr
      have e2 : ((C : Int) == (nm : Int)) = false := by simp; omega
      have e2' : decide (C = nm) = false := by simp; omega
      obtain ⟨rfl, a0⟩ := HLC.out (by omega)
      obtain ⟨rfl, b0⟩ := HMC.out (by omega)
      have y1 : (C : Int) < (nl : Int) := by omega
      have y2 : (C : Int) < (nm : Int) := by omega
      have A0 := a0 _ HB.out
      have B0 := b0 _ HB.out
      have HA0 := Lib.hid a0; have HB0 := Lib.hid b0
      clear hr a0 b0
      have C2 := Lib.hid (fun n => KQ.out (w1.drewN n) (below_drewN HB.out n))
      have C3 := Lib.hid (fun n => KU.out (w1.drewN n) (below_drewN HB.out n))
      go_upto_region 4 with fail
      clear HLC HMC HCM K1 HA0 HB0 e1 e1' e2 e2' h1 h2 hle hbl hbm KQ KU
      go_quiet (first | (go_at_call 38; with_reducible exact Calls.quiet_of_same (C2.out _)) | (go_at_call 38; with_reducible exact Calls.quiet_of_same (C3.out _)) | (go_at_call 37; with_reducible exact Calls.quiet_of_same (K3.out _ _ _)))
      go_wp2_with fail
      go_ret
      exact ⟨by rw [HR.out] <;> rfl, below_drewN HB.out _⟩

/-- What word.Cmp answers. -/
def cmpR (A : Al) (x y : ByteArray) : Int := if bothE A x y = 0 then cmpI (rowL A) (runesL (cutW x)) (runesL (cutW y)) else 0
def CmpPost (A : Al) (x y : ByteArray) (w : World) (e : Ending) (w' : World) : Prop := e = .returned (.tuple #[.int .i64 (cmpR A x y), .int .i64 (bothE A x y)]) ∧ Below w.heap.size w w'
set_option maxHeartbeats 2000000 in
set_option maxRecDepth 100000 in
theorem wcmp_any (A : Al) (x y : ByteArray) (w : World) (hA : A.In w) (hT : Tabs w) : Calls Tryz.prog 6 #[A.v, .string x, .string y] w (CmpPost A x y w) := by
  unfold CmpPost
  by_cases h : bothE A x y = 0
  · obtain ⟨hok, hx, hy⟩ := bothE_yes h
    have k1 := fun W hA hT => both_yes A x y W hA hT hok hx hy
    have hc : cmpR A x y = cmpI (rowL A) (runesL (cutW x)) (runesL (cutW y)) := by unfold cmpR; rw [if_pos h]
    rw [h, hc]
    have k2 := fun pr br cr qr ur cs tr vr ct w => wcompare_any pr qr tr br 0 cr ur 0 cs vr 0 ct (rowL A) (runesL (cutW x)) (runesL (cutW y)) w
    unfold BothYes at k1
    obtain ⟨n, hn⟩ : ∃ n, n = (rowL A).length := ⟨_, rfl⟩
    obtain ⟨nx, hnx⟩ : ∃ n, n = (runesL (cutW x)).length := ⟨_, rfl⟩
    obtain ⟨ny, hny⟩ : ∃ n, n = (runesL (cutW y)).length := ⟨_, rfl⟩
    obtain ⟨pf, pl, nf, cf, nl, cl, hv, hnf, hnl, hpl, hcl, hpf, hcf⟩ := A.parts
    rw [hv] at k1 ⊢
    rw [← hn] at k1 k2
    rw [← hnx, ← hny] at k1 k2
    obtain ⟨C, hC⟩ : ∃ C, C = cmpI (rowL A) (runesL (cutW x)) (runesL (cutW y)) := ⟨_, rfl⟩
    rw [← hC] at k2 ⊢
    have K1 := Lib.hid k1; have K2 := Lib.hid k2; have HA := Lib.hid hA; have HT := Lib.hid hT
    clear k1 k2 hn hnx hny hA hT hv hnf hnl hpl hcl hpf hcf hx hy hC hc h
    go_enter Tryz.func6, Tryz.ntmps6
    go_wp2_with fail
    refine (K1.out _ (HA.out.alloc _) (HT.out.next ((Below.refl _ _).alloc (Nat.le_refl _) _))).mono ?_
    rintro e w1 ⟨pr, br, cr, qr, ur, cs, tr, vr, ct, rfl, h1, h2, h3, hb1⟩
    have H1 := Lib.hid h1; have H2 := Lib.hid h2; have H3 := Lib.hid h3
    have HB := Lib.hid (show Below w.heap.size w w1 from ((Below.refl _ _).alloc (Nat.le_refl _) _).trans (hb1.mono (by simp)))
    clear h1 h2 h3 hb1
    go_wp2_with fail
    refine (K2.out pr br cr qr ur cs tr vr ct _ H1.out H2.out H3.out).mono ?_
    rintro e w2 ⟨rfl, hb2⟩
    have HB2 := Lib.hid (HB.out.trans (hb2.mono HB.out.size))
    clear hb2
    go_wp2_with fail
    go_ret2
    exact ⟨rfl, HB2.out⟩
  · have k1 := fun W hA hT => both_no A x y W hA hT h
    have hc : cmpR A x y = 0 := by unfold cmpR; rw [if_neg h]
    rw [hc]
    unfold BothNo at k1
    obtain ⟨E, hE⟩ : ∃ E, E = bothE A x y := ⟨_, rfl⟩
    obtain ⟨pf, pl, nf, cf, nl, cl, hv, hnf, hnl, hpl, hcl, hpf, hcf⟩ := A.parts
    rw [hv] at k1 ⊢
    rw [← hE] at k1 h ⊢
    have e1 : (E == 0) = false := by simp [h]
    have e2 : (E != 0) = true := by simp [h]
    have K1 := Lib.hid k1; have HA := Lib.hid hA; have HT := Lib.hid hT
    clear k1 hA hT hv hnf hnl hpl hcl hpf hcf hE hc h
    go_enter Tryz.func6, Tryz.ntmps6
    go_wp2_with fail
    refine (K1.out _ (HA.out.alloc _) (HT.out.next ((Below.refl _ _).alloc (Nat.le_refl _) _))).mono ?_
    rintro e w1 ⟨rfl, hb1⟩
    have HB := Lib.hid (show Below w.heap.size w w1 from ((Below.refl _ _).alloc (Nat.le_refl _) _).trans (hb1.mono (by simp)))
    clear hb1
    go_wp2_with fail
    go_ret2
    exact ⟨rfl, HB.out⟩
end Go.Proofs.YtcibjgkifafohaaGreatDoor
namespace Go.Proofs.YtcibjgkifafohaaGreatDoor
open Go.RowKit Go.Lib
set_option linter.unusedVariables false

/-- Place by place; what ends first comes first. -/
def lexI : List Int → List Int → Int
  | [], [] => 0
  | [], _ :: _ => -1
  | _ :: _, [] => 1
  | a :: l, b :: m => if a < b then -1 else if b < a then 1 else lexI l m
theorem lexI_swap : ∀ (l m : List Int), lexI l m + lexI m l = 0
  | [], [] => rfl
  | [], _ :: _ => rfl
  | _ :: _, [] => rfl
  | a :: l, b :: m => by
    have := lexI_swap l m
    unfold lexI
    by_cases h1 : a < b
    · rw [if_pos h1, if_neg (by omega), if_pos h1]; rfl
    · by_cases h2 : b < a
      · rw [if_neg h1, if_pos h2, if_pos h2]; rfl
      · rw [if_neg h1, if_neg h2, if_neg h2, if_neg h1]; exact this
theorem lexI_range : ∀ (l m : List Int), lexI l m = -1 ∨ lexI l m = 0 ∨ lexI l m = 1
  | [], [] => Or.inr (Or.inl rfl)
  | [], _ :: _ => Or.inl rfl
  | _ :: _, [] => Or.inr (Or.inr rfl)
  | a :: l, b :: m => by
    have := lexI_range l m
    unfold lexI
    by_cases h1 : a < b
    · rw [if_pos h1]; exact Or.inl rfl
    · by_cases h2 : b < a
      · rw [if_neg h1, if_pos h2]; exact Or.inr (Or.inr rfl)
      · rw [if_neg h1, if_neg h2]; exact this
theorem lexI_refl : ∀ (l : List Int), lexI l l = 0
  | [] => rfl
  | a :: l => by unfold lexI; rw [if_neg (by omega), if_neg (by omega)]; exact lexI_refl l
theorem lexI_eq : ∀ (l m : List Int), lexI l m = 0 → l = m
  | [], [], _ => rfl
  | [], _ :: _, h => absurd h (by unfold lexI; decide)
  | _ :: _, [], h => absurd h (by unfold lexI; decide)
  | a :: l, b :: m, h => by
    unfold lexI at h
    by_cases h1 : a < b
    · rw [if_pos h1] at h; exact absurd h (by decide)
    · by_cases h2 : b < a
      · rw [if_neg h1, if_pos h2] at h; exact absurd h (by decide)
      · rw [if_neg h1, if_neg h2] at h
        rw [lexI_eq l m h, show a = b by omega]
/-- Of two steps that do not go down the whole does not go down, and it goes up where one of them does. -/
theorem lexI_trans : ∀ (l m n : List Int), lexI l m ≤ 0 → lexI m n ≤ 0 → lexI l n ≤ 0 ∧ (lexI l m < 0 ∨ lexI m n < 0 → lexI l n < 0)
  | [], [], [], _, _ => by simp [lexI]
  | [], [], _ :: _, _, _ => by simp [lexI]
  | [], _ :: _, [], _, h => absurd h (by unfold lexI; decide)
  | [], _ :: _, _ :: _, _, _ => by simp [lexI]
  | _ :: _, [], _, h, _ => absurd h (by unfold lexI; decide)
  | _ :: _, _ :: _, [], _, h => absurd h (by unfold lexI; decide)
  | a :: l, b :: m, c :: n, h1, h2 => by
    have ih := lexI_trans l m n
    unfold lexI at h1 h2 ⊢
    by_cases x1 : a < b
    · have hac : ¬ c < b → a < c := by omega
      by_cases y2 : c < b
      · simp only [if_neg (show ¬ b < c by omega), if_pos y2] at h2
        exact absurd h2 (by decide)
      · simp only [if_pos (hac y2)]
        exact ⟨by decide, fun _ => by decide⟩
    · by_cases x2 : b < a
      · simp only [if_neg x1, if_pos x2] at h1
        exact absurd h1 (by decide)
      · obtain rfl : a = b := by omega
        simp only [if_neg x1] at h1 ⊢
        by_cases y1 : a < c
        · simp only [if_pos y1]
          exact ⟨by decide, fun _ => by decide⟩
        · by_cases y2 : c < a
          · simp only [if_neg y1, if_pos y2] at h2
            exact absurd h2 (by decide)
          · simp only [if_neg y1, if_neg y2] at h2 ⊢
            exact ih h1 h2
/-- A letter's number finds the letter. -/
theorem idxI_at : ∀ (l : List Int) (x : Int) (k : Nat), 0 ≤ idxI l x k → ∃ j, idxI l x k = ((k + j : Nat) : Int) ∧ l[j]? = some x
  | [], x, k, h => absurd h (by unfold idxI; decide)
  | y :: l, x, k, h => by
    unfold idxI at h ⊢
    split
    · rename_i e
      exact ⟨0, by simp, by simp [e]⟩
    · rename_i e
      rw [if_neg e] at h
      obtain ⟨j, h1, h2⟩ := idxI_at l x (k + 1) h
      exact ⟨j + 1, by rw [h1]; omega, by simpa using h2⟩
theorem idxI_inj {row : List Int} {x y : Int} (hx : x ∈ row) (hy : y ∈ row) (h : idxI row x 0 = idxI row y 0) : x = y := by
  obtain ⟨j, h1, h2⟩ := idxI_at row x 0 ((idxI_mem row x 0).2 hx)
  obtain ⟨i, h3, h4⟩ := idxI_at row y 0 ((idxI_mem row y 0).2 hy)
  obtain rfl : j = i := by omega
  rw [h2] at h4
  exact Option.some.inj h4
def numL (row l : List Int) : List Int := l.map fun r => idxI row r 0
theorem compareInt_succ (a b : Nat) : compareInt ((a + 1 : Nat) : Int) ((b + 1 : Nat) : Int) = compareInt a b := by
  unfold compareInt
  by_cases h1 : a < b
  · rw [if_pos (by omega), if_pos (by omega)]
  · by_cases h2 : b < a
    · rw [if_neg (by omega), if_pos (by omega), if_neg (by omega), if_pos (by omega)]
    · rw [if_neg (by omega), if_neg (by omega), if_neg (by omega), if_neg (by omega)]
theorem cmpI_lex {row : List Int} : ∀ (l m : List Int), (∀ r ∈ l, r ∈ row) → (∀ r ∈ m, r ∈ row) → cmpI row l m = lexI (numL row l) (numL row m)
  | [], [], _, _ => by simp [cmpI, comI, numL, lexI, compareInt]
  | [], y :: m, _, _ => by
    unfold cmpI
    rw [if_pos (Or.inl (by simp [comI]))]
    unfold compareInt
    rw [if_pos (by simp only [List.length_nil, List.length_cons]; omega)]
    rfl
  | x :: l, [], _, _ => by
    unfold cmpI
    rw [if_pos (Or.inr (by simp [comI]))]
    unfold compareInt
    rw [if_neg (by simp only [List.length_nil, List.length_cons]; omega), if_pos (by simp only [List.length_nil, List.length_cons]; omega)]
    rfl
  | x :: l, y :: m, h1, h2 => by
    have ih := cmpI_lex l m (fun r hr => h1 r (List.mem_cons_of_mem _ hr)) (fun r hr => h2 r (List.mem_cons_of_mem _ hr))
    show _ = lexI (idxI row x 0 :: numL row l) (idxI row y 0 :: numL row m)
    unfold lexI
    by_cases hxy : x = y
    · subst hxy
      rw [if_neg (by omega), if_neg (by omega), ← ih]
      have hc : comI (x :: l) (x :: m) = comI l m + 1 := by simp [comI]
      unfold cmpI
      rw [hc]
      simp only [List.length_cons, List.getD_cons_succ]
      by_cases hh : comI l m = l.length ∨ comI l m = m.length
      · rw [if_pos (by omega), if_pos hh]; exact compareInt_succ _ _
      · rw [if_neg (by omega), if_neg hh]
    · have hc : comI (x :: l) (y :: m) = 0 := by simp [comI, hxy]
      have hne : ¬ idxI row x 0 = idxI row y 0 := fun h => hxy (idxI_inj (h1 x List.mem_cons_self) (h2 y List.mem_cons_self) h)
      unfold cmpI
      rw [hc, if_neg (by simp)]
      simp only [List.getD_cons_zero]
      unfold compareInt
      by_cases h3 : idxI row x 0 < idxI row y 0
      · rw [if_pos h3, if_pos h3]
      · rw [if_neg h3, if_neg h3, if_pos (by omega), if_pos (by omega)]
theorem numL_inj {row : List Int} : ∀ (l m : List Int), (∀ r ∈ l, r ∈ row) → (∀ r ∈ m, r ∈ row) → numL row l = numL row m → l = m
  | [], [], _, _, _ => rfl
  | [], _ :: _, _, _, h => absurd h (by simp [numL])
  | _ :: _, [], _, _, h => absurd h (by simp [numL])
  | x :: l, y :: m, h1, h2, h => by
    simp only [numL, List.map_cons, List.cons.injEq] at h
    rw [idxI_inj (h1 x List.mem_cons_self) (h2 y List.mem_cons_self) h.1, numL_inj l m (fun r hr => h1 r (List.mem_cons_of_mem _ hr)) (fun r hr => h2 r (List.mem_cons_of_mem _ hr)) h.2]
end Go.Proofs.YtcibjgkifafohaaGreatDoor
namespace Go.Proofs.YtcibjgkifafohaaGreatDoor
open Go.RowKit Go.Lib
set_option linter.unusedVariables false

/-- What 'part' gives of a row. -/
def prtV : Option Addr → Nat → Nat → Value
  | none, _, _ => .slice none 0 0
  | some ad, a, b => if a < b then .slice (some ⟨ad.block, a, none⟩) (b - a) (b - a) else .slice (some ⟨ad.block, 0, none⟩) 0 0
theorem prtV_shape (o : Option Addr) (a b : Nat) : ∃ p n c, prtV o a b = .slice p n c := by
  cases o with
  | none => exact ⟨none, 0, 0, rfl⟩
  | some ad =>
    unfold prtV
    by_cases h : a < b
    · exact ⟨_, _, _, if_pos h⟩
    · exact ⟨_, _, _, if_neg h⟩
theorem partV_any {B : Nat} {oa : Option Addr} {na ca : Nat} {L : List Int} {W : World} (ho : W.ownsRow B 21 1 (.slice oa na ca) na (L.map E32)) (a b : Nat) (hab : a ≤ b) (hb : b ≤ na) (W' : World) :
    Calls Tryz.prog 43 #[.slice oa na ca, .int .i64 a, .int .i64 b] W' fun e w' => e = .returned (prtV oa a b) ∧ w' = W' := by
  rcases ho.2 with ⟨he, h0⟩ | ⟨g, cap, cur, he, hB, hg, hc, hm, hsz, ht⟩
  · simp only [Value.slice.injEq] at he
    obtain ⟨rfl, rfl, rfl⟩ := he
    obtain rfl : b = 0 := by omega
    obtain rfl : a = 0 := by omega
    exact part_nil W'
  · simp only [Value.slice.injEq] at he
    obtain ⟨rfl, _, rfl⟩ := he
    have hcap : ca ≤ 9223372036854775807 := by unfold maxLen at hm; omega
    by_cases hlt : a < b
    · have h1 : prtV (some ⟨g, 0, none⟩) a b = .slice (some ⟨g, a, none⟩) (b - a) (b - a) := if_pos hlt
      rw [h1]
      exact part_some g na ca a b W' hlt hb (by omega) hcap
    · obtain rfl : a = b := by omega
      have h1 : prtV (some ⟨g, 0, none⟩) a a = .slice (some ⟨g, 0, none⟩) 0 0 := if_neg hlt
      rw [h1]
      exact part_none g na ca a W' hb (by omega) hcap
/-- Where a word begins. -/
def enF (EN : List Nat) (k : Nat) : Nat := if k = 0 then 0 else EN.getD (k - 1) 0
theorem enF_next (EN : List Nat) (k : Nat) : enF EN (k + 1) = EN.getD k 0 := by unfold enF; rw [if_neg (by omega), Nat.add_sub_cancel]
def cutCs (o : Option Addr) (EN : List Nat) (k : Nat) : List Value := (List.range k).map fun i => prtV o (enF EN i) (EN.getD i 0)
theorem cutCs_snoc (o : Option Addr) (EN : List Nat) (k : Nat) : cutCs o EN k ++ [prtV o (enF EN k) (EN.getD k 0)] = cutCs o EN (k + 1) := by
  unfold cutCs
  rw [List.range_succ, List.map_append]
  rfl
theorem seg_info : (Tryz.prog.info? 40).map (fun i => (i.zero, i.size, i.bytes)) = some (some (.slice none 0 0), 1, 24) := by kernel_rfl

set_option maxHeartbeats 4000000 in
set_option maxRecDepth 100000 in
theorem cut_any {B : Nat} {oa : Option Addr} {na ca : Nat} {L : List Int} {np : Option Addr} {nb nc : Nat} {EN : List Nat} (w : World) (ho : w.ownsRow B 21 1 (.slice oa na ca) na (L.map E32)) (hN : NsIn np nb 0 EN w) (hle : ∀ k, k < EN.length → enF EN k ≤ EN.getD k 0 ∧ EN.getD k 0 ≤ na) (hn : EN.length ≤ 4096) (hna : na ≤ 1100000) :
    Calls Tryz.prog 25 #[.slice oa na ca, .slice np EN.length nc] w fun e w' => ∃ v : Value, e = .returned v ∧ w'.ownsRow w.heap.size 40 1 v EN.length (cutCs oa EN EN.length) ∧ Below w.heap.size w w' ∧ v ≠ .slice none 0 0 := by
  have kp := fun a b hab hb W' => partV_any ho a b hab hb W'
  have hsn := cutCs_snoc oa EN
  obtain ⟨n, hn'⟩ : ∃ n, n = EN.length := ⟨_, rfl⟩
  rw [← hn'] at hle hn ⊢
  obtain ⟨i0, hi, hz0, hz1, hz2⟩ := info_parts seg_info
  have HI0 := Lib.hid hi; have HZ0 := Lib.hid hz0; have HZ1 := Lib.hid hz1; have HZ2 := Lib.hid hz2
  have KP := Lib.hid kp; have HSN := Lib.hid hsn; have HNS := Lib.hid hN; have HLE := Lib.hid hle; have HN := Lib.hid hn'
  clear hi hz0 hz1 hz2 kp hsn hN hle hn' ho
  go_enter Tryz.func25, Tryz.ntmps25
  go_wp2_with (at_make; refine wpList_make_own _ rfl _ _ 53 rfl w.heap.size 40 i0 _ 1 Tryz.underlying53 HI0.out HZ0.out HZ1.out .i64 .i64 _ n rfl rfl (by simp) ?m1 ?m2 ?m3 ?_)
  case m1 => rw [HZ2.out]; omega
  case m2 => unfold maxLen; omega
  case m3 => simp
  intro w2 hown2 hgrow2
  have HO := Lib.hid hown2
  have HB := Lib.hid ((Below.refl w.heap.size w).grown hgrow2 (Nat.le_refl _) (fun k hk => by cases hk))
  clear hown2 hgrow2
  go_wp2_with fail
  go_loopw [5, 6, 14] (fun v fr iv wr => ∃ k : Nat, iv = .int .i64 k ∧ k ≤ n ∧ fr = .int .i64 (enF EN k : Nat) ∧ Hid (wr.ownsRow w.heap.size 40 1 v k (cutCs oa EN k)) ∧ Hid (Below w.heap.size w wr) ∧ Hid (v ≠ .slice none 0 0)) (fun _ _ iv _ => n - (intOf iv).toNat)
  case atStart => exact ⟨0, rfl, Nat.zero_le _, rfl, HO, HB, by intro e; simp at e⟩
  case round =>
    clear HO HB
    obtain ⟨k, rfl, hk, rfl, HO, HBr, HNil⟩ := hrel
    have hszr := HBr.out.size
    by_cases hkn : k < n
    · have hkl : k < EN.length := by have := HN.out; omega
      obtain rfl := HNS.out.at_ (by omega)
      have a0 := (HNS.out.next HBr.out).cells k hkl
      rw [Nat.zero_add] at a0
      obtain ⟨hl1, hl2⟩ := HLE.out k hkn
      have hs1 := HSN.out k
      have hnx := enF_next EN k
      obtain ⟨q, hq⟩ : ∃ q, q = EN.getD k 0 := ⟨_, rfl⟩
      rw [← hq] at a0 hl1 hl2 hs1 hnx
      obtain ⟨f, hf⟩ : ∃ q, q = enF EN k := ⟨_, rfl⟩
      rw [← hf] at hl1 hs1 ⊢
      obtain ⟨p2, n2, c2, hV⟩ := prtV_shape oa f q
      have hkp := fun W' => KP.out f q hl1 hl2 W'
      rw [hV] at hkp hs1
      have KPP := Lib.hid hkp; have HS1 := Lib.hid hs1; have HNX := Lib.hid hnx
      obtain ⟨ov, cv, rfl⟩ := own_shape HO.out
      clear hkp hs1 hnx hq hf hV hkl
      go_wp2_with fail
      refine (KPP.out _).mono ?_
      rintro _ w' ⟨rfl, hw⟩
      rw [hw]
      clear hw
      go_wp2_with (at_builtin; refine wpList_append_own _ rfl (.tmp 18) (.tmp 23) 53 rfl w.heap.size 40 i0 (.slice none 0 0) 1 24 Tryz.underlying53 HI0.out HZ0.out HZ1.out HZ2.out rfl (by decide) _ _ _ rfl (HO.out.alloc _) ⟨wr.heap.size, 0, none⟩ 1 1 [.slice p2 n2 c2] rfl rfl ?c1 ?c2 ?c3 ?c4 ?c5 ?_)
      any_goals (first | (unfold maxLen; omega) | omega | (simp; omega) | exact ⟨rfl, rfl⟩ | (intro u hu; simp at hu; rcases hu with rfl; rfl) | (intro j u hj; match j, hj with | 0, hj => (simp at hj; subst hj; simp [Addr.add]) | j + 1, hj => simp at hj))
      intro v3 w4 hown3 hgrow3 hnil3
      have hob : ∀ q, (Value.slice ov k cv).ownBlock = some q → w.heap.size ≤ q := fun q hq => (HO.out.lt q hq).1
      have hB3 : Below w.heap.size w w4 := (HBr.out.alloc (by omega) _).grown hgrow3 (by simp; omega) hob
      have hO3 : w4.ownsRow w.heap.size 40 1 v3 (k + 1) (cutCs oa EN (k + 1)) := by
        rw [← HS1.out]
        exact hown3
      have HB3 := Lib.hid hB3; have HO3 := Lib.hid hO3
      have HNil3 := Lib.hid (show v3 ≠ .slice none 0 0 from by first | exact hnil3 | exact fun e => absurd (hnil3.1 e).2 (by decide))
      clear hob hB3 hown3 hgrow3 hnil3 hO3
      go_wp2_with fail
      go_roundw
      case rel => exact ⟨k + 1, by go_num, by omega, by rw [HNX.out], HO3, HB3, HNil3⟩
      case measure => simp [intOf]; omega
    · obtain ⟨ov, cv, rfl⟩ := own_shape HO.out
      have hk' : k = n := by omega
      have hrow : wr.ownsRow w.heap.size 40 1 (.slice ov k cv) n (cutCs oa EN n) := by
        have h1 := HO.out
        rw [hk'] at h1 ⊢
        exact h1
      have HRW := Lib.hid hrow
      clear hrow
      go_wp2_with fail
      go_ret
      exact ⟨_, rfl, HRW.out, HBr.out, HNil.out⟩
end Go.Proofs.YtcibjgkifafohaaGreatDoor
namespace Go.Proofs.YtcibjgkifafohaaGreatDoor
open Go.RowKit Go.Lib
set_option linter.unusedVariables false

/-- Only draws lie between. -/
def QB (w w' : World) : Prop := ∃ q, w' = w.drewN q
theorem QB.refl (w : World) : QB w w := ⟨0, rfl⟩
theorem QB.drew {w w' : World} (h : QB w w') (n : Nat) : QB w (w'.drewN n) := by
  obtain ⟨q, rfl⟩ := h
  exact ⟨q + n, by rw [World.drewN_drewN]⟩
theorem QB.below {w w' : World} (h : QB w w') : Below w.heap.size w w' := by
  obtain ⟨q, rfl⟩ := h
  exact below_drewN (Below.refl _ _) q

set_option maxHeartbeats 4000000 in
set_option maxRecDepth 100000 in
theorem commonq_any (pr qr : Option Addr) (br r0 cr ur s0 cs : Nat) (l m : List Int) (w : World) (hR : RsIn pr br r0 l w) (hS : RsIn qr ur s0 m w) :
    Calls Tryz.prog 22 #[.slice pr l.length cr, .slice qr m.length cs] w fun e w' => e = .returned (.int .i64 (comI l m : Nat)) ∧ QB w w' := by
  have hb1 := hR.big
  have hb2 := hS.big
  obtain ⟨n, hn⟩ : ∃ n, n = l.length := ⟨_, rfl⟩
  obtain ⟨j, hj⟩ : ∃ n, n = m.length := ⟨_, rfl⟩
  rw [← hn] at hb1 ⊢
  rw [← hj] at hb2 ⊢
  obtain ⟨C, hC⟩ : ∃ C, C = comI l m := ⟨_, rfl⟩
  rw [← hC]
  have HR := Lib.hid hR; have HS := Lib.hid hS; have HN := Lib.hid hn; have HJ := Lib.hid hj; have HC := Lib.hid hC
  clear hR hS hn hj hC
  go_enter Tryz.func22, Tryz.ntmps22
  go_wp2_with fail
  go_loopw [5] (fun iv wr => ∃ k : Nat, iv = .int .i64 k ∧ k ≤ n ∧ k ≤ j ∧ Hid (C = k + comI (l.drop k) (m.drop k)) ∧ Hid (QB w wr)) (fun iv _ => n - (intOf iv).toNat)
  case atStart => exact ⟨0, rfl, Nat.zero_le _, Nat.zero_le _, by show _ = _; rw [HC.out]; simp, QB.refl _⟩
  case round =>
    obtain ⟨k, rfl, hk1, hk2, HK, HB⟩ := hrel
    by_cases hkn : k < n
    · have hkl : k < l.length := by rw [← HN.out]; exact hkn
      have hz1 : (k : Int) < (n : Int) := by omega
      obtain rfl := HR.out.at_ (by omega)
      have a0 := (HR.out.next HB.out.below).cells k hkl
      by_cases hkj : k < j
      · have hkm : k < m.length := by rw [← HJ.out]; exact hkj
        have hz2 : (k : Int) < (j : Int) := by omega
        obtain rfl := HS.out.at_ (by omega)
        have b0 := (HS.out.next HB.out.below).cells k hkm
        have hy := comI_yes hkl hkm
        have hno := comI_no hkl hkm
        obtain ⟨q, hq⟩ : ∃ q, q = l.getD k 0 := ⟨_, rfl⟩
        obtain ⟨u, hu⟩ : ∃ q, q = m.getD k 0 := ⟨_, rfl⟩
        rw [← hq] at a0 hy hno
        rw [← hu] at b0 hy hno
        by_cases hqu : q = u
        · have HY := Lib.hid (hy hqu)
          clear hy hno hq hkl hkm hu
          subst hqu
          go_wp2_with fail
          go_quiet (fail)
          go_wp2_with fail
          go_roundw
          case rel => exact ⟨k + 1, by go_num, by omega, by omega, by show _ = _; rw [HK.out]; exact HY.out, HB.out.drew _⟩
          case measure => simp [intOf]; omega
        · have HNo := Lib.hid (hno hqu)
          have e1 : (q == u) = false := by simp [hqu]
          clear hy hno hq hkl hkm hu
          go_wp2_with fail
          go_quiet (fail)
          go_wp2_with fail
          go_ret
          exact ⟨by rw [HK.out, HNo.out] <;> rfl, HB.out.drew _⟩
      · have hz2 : decide ((k : Int) < (j : Int)) = false := by simp; omega
        have HE := Lib.hid (comI_end2 (l := l) (m := m) (k := k) (by rw [← HJ.out]; omega))
        go_wp2_with fail
        go_quiet (fail)
        go_wp2_with fail
        go_ret
        exact ⟨by rw [HK.out, HE.out] <;> rfl, HB.out.drew _⟩
    · have hz2 : decide ((k : Int) < (n : Int)) = false := by simp; omega
      have HE := Lib.hid (comI_end1 (l := l) (m := m) (k := k) (by rw [← HN.out]; omega))
      go_wp2_with fail
      go_quiet (fail)
      go_wp2_with fail
      go_ret
      exact ⟨by rw [HK.out, HE.out] <;> rfl, HB.out.drew _⟩


set_option maxHeartbeats 4000000 in
set_option maxRecDepth 100000 in
theorem wcompareq_any (pr qr tr : Option Addr) (br r0 cr ur s0 cs vr t0 ct : Nat) (row l m : List Int) (w : World) (hW : RsIn pr br r0 row w) (hR : RsIn qr ur s0 l w) (hS : RsIn tr vr t0 m w) :
    Calls Tryz.prog 19 #[.slice pr row.length cr, .slice qr l.length cs, .slice tr m.length ct] w fun e w' => e = .returned (.int .i64 (cmpI row l m)) ∧ QB w w' := by
  have k1 := fun W (hb : QB w W) => commonq_any qr tr ur s0 cs vr t0 ct l m W (hR.next hb.below) (hS.next hb.below)
  have k2 := fun x W (hb : QB w W) => idx_any pr br r0 cr row x W (hW.next hb.below)
  have hle := comI_both l m
  have hcm : cmpI row l m = if comI l m = l.length ∨ comI l m = m.length then compareInt l.length m.length
      else compareInt (idxI row (l.getD (comI l m) 0) 0) (idxI row (m.getD (comI l m) 0) 0) := rfl
  obtain ⟨R, hR'⟩ : ∃ n, n = cmpI row l m := ⟨_, rfl⟩
  obtain ⟨C, hC⟩ : ∃ n, n = comI l m := ⟨_, rfl⟩
  rw [← hR', ← hC] at hcm
  rw [← hR']
  rw [← hC] at hle k1
  have hbl := hR.big
  have hbm := hS.big
  obtain ⟨nr, hnr⟩ : ∃ n, n = row.length := ⟨_, rfl⟩
  obtain ⟨nl, hnl⟩ : ∃ n, n = l.length := ⟨_, rfl⟩
  obtain ⟨nm, hnm⟩ : ∃ n, n = m.length := ⟨_, rfl⟩
  rw [← hnr] at k2 ⊢
  rw [← hnl, ← hnm] at hle k1 hcm ⊢
  rw [← hnl] at hbl
  rw [← hnm] at hbm
  have hlc : C < nl → qr = some ⟨ur, s0, none⟩ ∧ ∀ W, QB w W → W.cell? ⟨ur, s0 + C, none⟩ = some (.int .i32 (l.getD C 0)) := fun h => ⟨hR.at_ (by omega), fun W hb => (hR.next hb.below).cells C (by omega)⟩
  have hmc : C < nm → tr = some ⟨vr, t0, none⟩ ∧ ∀ W, QB w W → W.cell? ⟨vr, t0 + C, none⟩ = some (.int .i32 (m.getD C 0)) := fun h => ⟨hS.at_ (by omega), fun W hb => (hS.next hb.below).cells C (by omega)⟩
  obtain ⟨q, hq⟩ : ∃ n, n = l.getD C 0 := ⟨_, rfl⟩
  obtain ⟨u, hu⟩ : ∃ n, n = m.getD C 0 := ⟨_, rfl⟩
  rw [← hq] at hlc hcm
  rw [← hu] at hmc hcm
  obtain ⟨I, hI⟩ : ∃ n, n = idxI row q 0 := ⟨_, rfl⟩
  obtain ⟨J, hJ⟩ : ∃ n, n = idxI row u 0 := ⟨_, rfl⟩
  have kq := k2 q
  have ku := k2 u
  rw [← hI] at kq hcm
  rw [← hJ] at ku hcm
  have K1 := Lib.hid k1; have K3 := Lib.hid ccmp_any; have HCM := Lib.hid hcm; have HLC := Lib.hid hlc; have HMC := Lib.hid hmc; have KQ := Lib.hid kq; have KU := Lib.hid ku
  clear k1 k2 hcm hlc hmc kq ku hI hJ hq hu hnr hnl hnm hC hR' hW hR hS
  go_enter Tryz.func19, Tryz.ntmps19
  go_wp2_with fail
  refine (K1.out _ (QB.refl _)).mono ?_
  rintro _ w1 ⟨rfl, hb⟩
  have HB := Lib.hid hb
  clear hb
  by_cases h1 : C = nl
  · have hr := HCM.out
    rw [if_pos (Or.inl h1)] at hr
    have HR := Lib.hid hr
    subst h1
    clear hr
    go_wp2_with fail
    refine (K3.out _ _ _).mono ?_
    rintro _ _ ⟨rfl, rfl⟩
    go_wp2_with fail
    go_ret
    exact ⟨by rw [HR.out] <;> rfl, HB.out⟩
  · have e1 : ((C : Int) == (nl : Int)) = false := by simp; omega
    have e1' : decide (C = nl) = false := by simp; omega
    by_cases h2 : C = nm
    · have hr := HCM.out
      rw [if_pos (Or.inr h2)] at hr
      have HR := Lib.hid hr
      subst h2
      clear hr
      go_wp2_with fail
      refine (K3.out _ _ _).mono ?_
      rintro _ _ ⟨rfl, rfl⟩
      go_wp2_with fail
      go_ret
      exact ⟨by rw [HR.out] <;> rfl, HB.out⟩
    · have hr := HCM.out
      rw [if_neg (by omega)] at hr
      have HR := Lib.hid hr
      have e2 : ((C : Int) == (nm : Int)) = false := by simp; omega
      have e2' : decide (C = nm) = false := by simp; omega
      obtain ⟨rfl, a0⟩ := HLC.out (by omega)
      obtain ⟨rfl, b0⟩ := HMC.out (by omega)
      have y1 : (C : Int) < (nl : Int) := by omega
      have y2 : (C : Int) < (nm : Int) := by omega
      have A0 := a0 _ HB.out
      have B0 := b0 _ HB.out
      have HA0 := Lib.hid a0; have HB0 := Lib.hid b0
      clear hr a0 b0
      have C2 := Lib.hid (fun n => KQ.out (w1.drewN n) (HB.out.drew n))
      have C3 := Lib.hid (fun n => KU.out (w1.drewN n) (HB.out.drew n))
      go_upto_region 4 with fail
      clear HLC HMC HCM K1 HA0 HB0 e1 e1' e2 e2' h1 h2 hle hbl hbm KQ KU
      go_quiet (first | (go_at_call 38; with_reducible exact Calls.quiet_of_same (C2.out _)) | (go_at_call 38; with_reducible exact Calls.quiet_of_same (C3.out _)) | (go_at_call 37; with_reducible exact Calls.quiet_of_same (K3.out _ _ _)))
      go_wp2_with fail
      go_ret
      exact ⟨by rw [HR.out] <;> rfl, HB.out.drew _⟩

end Go.Proofs.YtcibjgkifafohaaGreatDoor
namespace Go.Proofs.YtcibjgkifafohaaGreatDoor
open Go.RowKit Go.Lib
set_option linter.unusedVariables false

theorem toL_inj {a b : ByteArray} (h : a.toList = b.toList) : a = b := by
  rw [Lib.toList_data, Lib.toList_data] at h
  cases a; cases b
  congr 1
  exact Array.toList_inj.1 h
/-- Whether a text is among texts. -/
noncomputable def amg (s : ByteArray) (l : List ByteArray) : Bool := @decide (s ∈ l) (Classical.propDecidable _)
theorem amg_iff (s : ByteArray) (l : List ByteArray) : amg s l = true ↔ s ∈ l := by unfold amg; exact @decide_eq_true_iff _ (Classical.propDecidable _)
theorem mem_yes {l : List ByteArray} {s : ByteArray} {k : Nat} (h1 : k < l.length) (h : l.getD k ByteArray.empty = s) : amg s (l.drop k) = true := by
  rw [getS_at h1] at h
  have e1 : l.drop k = l[k] :: l.drop (k + 1) := List.drop_eq_getElem_cons h1
  rw [e1, h, amg_iff]
  exact List.mem_cons_self
theorem mem_no {l : List ByteArray} {s : ByteArray} {k : Nat} (h1 : k < l.length) (h : ¬ l.getD k ByteArray.empty = s) : amg s (l.drop k) = amg s (l.drop (k + 1)) := by
  rw [getS_at h1] at h
  have e1 : l.drop k = l[k] :: l.drop (k + 1) := List.drop_eq_getElem_cons h1
  rw [e1]
  apply Bool.eq_iff_iff.2
  rw [amg_iff, amg_iff, List.mem_cons]
  exact ⟨fun x => x.resolve_left fun e => h e.symm, Or.inr⟩

end Go.Proofs.YtcibjgkifafohaaGreatDoor
