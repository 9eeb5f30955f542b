/-
  WALKS: word.common, readBoth, Common.
  WALKS: word.Turned, Part, Text, Check.
-/
import Derived.Test.YtcibjgkifafohaaGreatDoorWdY
import Derived.Deep.QuietTactic
import Derived.BigQuiet
namespace Go.Proofs.YtcibjgkifafohaaGreatDoor
open Go.RowKit Go.Lib
set_option linter.unusedVariables false

theorem below_drewN {B : Nat} {w w' : World} (h : Below B w w') (n : Nat) : Below B w (w'.drewN n) := ⟨h.os, h.tape, h.output, h.size, h.block⟩
def comI : List Int → List Int → Nat
  | x :: l, y :: m => if x = y then comI l m + 1 else 0
  | _, _ => 0
theorem comI_yes {l m : List Int} {k : Nat} (h1 : k < l.length) (h2 : k < m.length) (h : l.getD k 0 = m.getD k 0) : k + comI (l.drop k) (m.drop k) = (k + 1) + comI (l.drop (k + 1)) (m.drop (k + 1)) := by
  rw [getD_at h1, getD_at h2] at h
  rw [List.drop_eq_getElem_cons h1, List.drop_eq_getElem_cons h2, comI, if_pos h]
  omega
theorem comI_no {l m : List Int} {k : Nat} (h1 : k < l.length) (h2 : k < m.length) (h : ¬ l.getD k 0 = m.getD k 0) : k + comI (l.drop k) (m.drop k) = k := by
  rw [getD_at h1, getD_at h2] at h
  rw [List.drop_eq_getElem_cons h1, List.drop_eq_getElem_cons h2, comI, if_neg h]; rfl
theorem comI_end1 {l m : List Int} {k : Nat} (h : l.length ≤ k) : k + comI (l.drop k) (m.drop k) = k := by
  rw [List.drop_eq_nil_of_le h]; simp [comI]
theorem comI_end2 {l m : List Int} {k : Nat} (h : m.length ≤ k) : k + comI (l.drop k) (m.drop k) = k := by
  rw [List.drop_eq_nil_of_le h]
  cases l.drop k <;> simp [comI]

set_option maxHeartbeats 4000000 in
set_option maxRecDepth 100000 in
theorem common_any (pr qr : Option Addr) (br r0 cr ur s0 cs : Nat) (l m : List Int) (w : World) (hR : RsIn pr br r0 l w) (hS : RsIn qr ur s0 m w) :
    Calls Tryz.prog 22 #[.slice pr l.length cr, .slice qr m.length cs] w fun e w' => e = .returned (.int .i64 (comI l m : Nat)) ∧ Below w.heap.size w w' := by
  have hb1 := hR.big
  have hb2 := hS.big
  obtain ⟨n, hn⟩ : ∃ n, n = l.length := ⟨_, rfl⟩
  obtain ⟨j, hj⟩ : ∃ n, n = m.length := ⟨_, rfl⟩
  rw [← hn] at hb1 ⊢
  rw [← hj] at hb2 ⊢
  obtain ⟨C, hC⟩ : ∃ C, C = comI l m := ⟨_, rfl⟩
  rw [← hC]
  have HR := Lib.hid hR; have HS := Lib.hid hS; have HN := Lib.hid hn; have HJ := Lib.hid hj; have HC := Lib.hid hC
  clear hR hS hn hj hC
  go_enter Tryz.func22, Tryz.ntmps22
  go_wp2_with fail
  go_loopw [5] (fun iv wr => ∃ k : Nat, iv = .int .i64 k ∧ k ≤ n ∧ k ≤ j ∧ Hid (C = k + comI (l.drop k) (m.drop k)) ∧ Hid (Below w.heap.size w wr)) (fun iv _ => n - (intOf iv).toNat)
  case atStart => exact ⟨0, rfl, Nat.zero_le _, Nat.zero_le _, by show _ = _; rw [HC.out]; simp, Below.refl _ _⟩
  case round =>
    obtain ⟨k, rfl, hk1, hk2, HK, HB⟩ := hrel
    by_cases hkn : k < n
    · have hkl : k < l.length := by rw [← HN.out]; exact hkn
      have hz1 : (k : Int) < (n : Int) := by omega
      obtain rfl := HR.out.at_ (by omega)
      have a0 := (HR.out.next HB.out).cells k hkl
      by_cases hkj : k < j
      · have hkm : k < m.length := by rw [← HJ.out]; exact hkj
        have hz2 : (k : Int) < (j : Int) := by omega
        obtain rfl := HS.out.at_ (by omega)
        have b0 := (HS.out.next HB.out).cells k hkm
        have hy := comI_yes hkl hkm
        have hno := comI_no hkl hkm
        obtain ⟨q, hq⟩ : ∃ q, q = l.getD k 0 := ⟨_, rfl⟩
        obtain ⟨u, hu⟩ : ∃ q, q = m.getD k 0 := ⟨_, rfl⟩
        rw [← hq] at a0 hy hno
        rw [← hu] at b0 hy hno
        by_cases hqu : q = u
        · have HY := Lib.hid (hy hqu)
          clear hy hno hq hkl hkm hu
          subst hqu
          go_wp2_with fail
          go_quiet (fail)
          go_wp2_with fail
          go_roundw
          case rel => exact ⟨k + 1, by go_num, by omega, by omega, by show _ = _; rw [HK.out]; exact HY.out, below_drewN HB.out _⟩
          case measure => simp [intOf]; omega
        · have HNo := Lib.hid (hno hqu)
          have e1 : (q == u) = false := by simp [hqu]
          clear hy hno hq hkl hkm hu
          go_wp2_with fail
          go_quiet (fail)
          go_wp2_with fail
          go_ret
          exact ⟨by rw [HK.out, HNo.out] <;> rfl, below_drewN HB.out _⟩
      · have hz2 : decide ((k : Int) < (j : Int)) = false := by simp; omega
        have HE := Lib.hid (comI_end2 (l := l) (m := m) (k := k) (by rw [← HJ.out]; omega))
        go_wp2_with fail
        go_quiet (fail)
        go_wp2_with fail
        go_ret
        exact ⟨by rw [HK.out, HE.out] <;> rfl, below_drewN HB.out _⟩
    · have hz2 : decide ((k : Int) < (n : Int)) = false := by simp; omega
      have HE := Lib.hid (comI_end1 (l := l) (m := m) (k := k) (by rw [← HN.out]; omega))
      go_wp2_with fail
      go_quiet (fail)
      go_wp2_with fail
      go_ret
      exact ⟨by rw [HK.out, HE.out] <;> rfl, below_drewN HB.out _⟩

/-! ### readBoth -/
theorem results_four {fn : Func} {t u v x : Tmp} (h : fn.results = #[.tmp t, .tmp u, .tmp v, .tmp x]) (tmps : Array Value) (P : Program) (w : World) :
    (results fn tmps).run P w = .ok (.tuple #[tmps.getD t undef, tmps.getD u undef, tmps.getD v undef, tmps.getD x undef]) w := by
  simp [results, h]
def bothE (A : Al) (x y : ByteArray) : Int := if A.ok then (if rdW (rowL A) x = 0 then rdW (rowL A) y else rdW (rowL A) x) else 7
def BothYes (A : Al) (x y : ByteArray) (w : World) (e : Ending) (w' : World) : Prop :=
  ∃ pr br cr qr ur cs tr vr ct, e = .returned (.tuple #[.slice pr (rowL A).length cr, .slice qr (runesL (cutW x)).length cs, .slice tr (runesL (cutW y)).length ct, .int .i64 0]) ∧ RsIn pr br 0 (rowL A) w' ∧ RsIn qr ur 0 (runesL (cutW x)) w' ∧ RsIn tr vr 0 (runesL (cutW y)) w' ∧ Below w.heap.size w w'
/-- 'read' where there is an answer. -/
theorem read_yes (pr : Option Addr) (br cr : Nat) (row : List Int) (s : ByteArray) (w : World) (hT : Tabs w) (hR : RsIn pr br 0 row w) (h : rdW row s = 0) :
    Calls Tryz.prog 36 #[.slice pr row.length cr, .string s] w fun e w' => ∃ qr ur cs, e = .returned (.tuple #[.slice qr (runesL (cutW s)).length cs, .int .i64 0]) ∧ RsIn qr ur 0 (runesL (cutW s)) w' ∧ Below w.heap.size w w' := by
  refine (read_any pr br 0 cr row s w hT hR).mono ?_
  rintro e w' ⟨v, he, ho, hb⟩
  have hl : rdL row s = runesL (cutW s) := by unfold rdL; rw [if_pos h]
  rw [hl] at ho
  rw [h] at he
  have h1 := starts_le (cutW s)
  have h2 := cutW_size s
  obtain ⟨qr, ur, cs, rfl, hr⟩ := own_rs ho (by rw [runesL_length]; omega)
  exact ⟨qr, ur, cs, he, hr, hb⟩
theorem read_no (pr : Option Addr) (br cr : Nat) (row : List Int) (s : ByteArray) (w : World) (hT : Tabs w) (hR : RsIn pr br 0 row w) (h : ¬ rdW row s = 0) :
    Calls Tryz.prog 36 #[.slice pr row.length cr, .string s] w fun e w' => ∃ o c, e = .returned (.tuple #[.slice o 0 c, .int .i64 (rdW row s)]) ∧ Below w.heap.size w w' := by
  refine (read_any pr br 0 cr row s w hT hR).mono ?_
  rintro e w' ⟨v, he, ho, hb⟩
  have hl : rdL row s = [] := by unfold rdL; rw [if_neg h]
  rw [hl] at ho
  obtain ⟨o, c, rfl⟩ := own_shape ho
  exact ⟨o, c, he, hb⟩
set_option maxHeartbeats 2000000 in
set_option maxRecDepth 100000 in
theorem both_yes (A : Al) (x y : ByteArray) (w : World) (hA : A.In w) (hT : Tabs w) (hok : A.ok = true) (hx : rdW (rowL A) x = 0) (hy : rdW (rowL A) y = 0) :
    Calls Tryz.prog 18 #[A.v, .string x, .string y] w (BothYes A x y w) := by
  have hr := fun W h => rowOf_yes A W h hok
  have k1 := fun pr br cr W hT hR => read_yes pr br cr (rowL A) x W hT hR hx
  have k2 := fun pr br cr W hT hR => read_yes pr br cr (rowL A) y W hT hR hy
  unfold RowYes at hr
  unfold BothYes
  obtain ⟨n, hn⟩ : ∃ n, n = (rowL A).length := ⟨_, rfl⟩
  obtain ⟨nx, hnx⟩ : ∃ n, n = (runesL (cutW x)).length := ⟨_, rfl⟩
  obtain ⟨ny, hny⟩ : ∃ n, n = (runesL (cutW y)).length := ⟨_, rfl⟩
  obtain ⟨pf, pl, nf, cf, nl, cl, hv, hnf, hnl, hpl, hcl, hpf, hcf⟩ := A.parts
  rw [hv] at hr ⊢
  rw [← hn] at hr k1 k2 ⊢
  rw [← hnx] at k1 ⊢
  rw [← hny] at k2 ⊢
  have HR := Lib.hid hr; have K1 := Lib.hid k1; have K2 := Lib.hid k2; have HA := Lib.hid hA; have HT := Lib.hid hT
  clear hr k1 k2 hn hnx hny hA hT hv hnf hnl hpl hcl hpf hcf hx hy
  go_enter Tryz.func18, Tryz.ntmps18
  go_wp2_with fail
  refine (HR.out _ (HA.out.alloc _)).mono ?_
  rintro e w1 ⟨pr, br, cr, rfl, hrs, hbr, hb1⟩
  have HRS := Lib.hid hrs
  have HB := Lib.hid (show Below w.heap.size w w1 from ((Below.refl _ _).alloc (Nat.le_refl _) _).trans (hb1.mono (by simp)))
  clear hrs hb1
  go_wp2_with fail
  refine (K1.out pr br cr _ (HT.out.next HB.out) HRS.out).mono ?_
  rintro e w2 ⟨qr, ur, cs, rfl, hx, hb2⟩
  have HX := Lib.hid hx
  have HRS2 := Lib.hid (HRS.out.next hb2)
  have HB2 := Lib.hid (HB.out.trans (hb2.mono HB.out.size))
  clear hx hb2
  go_wp2_with fail
  refine (K2.out pr br cr _ (HT.out.next HB2.out) HRS2.out).mono ?_
  rintro e w3 ⟨tr, vr, ct, rfl, hy, hb3⟩
  have HY := Lib.hid hy
  have HRS3 := Lib.hid (HRS2.out.next hb3)
  have HX3 := Lib.hid (HX.out.next hb3)
  have HB3 := Lib.hid (HB2.out.trans (hb3.mono HB2.out.size))
  clear hy hb3
  go_wp2_with fail
  (try simp only [Exit.inBlock, Exit.then])
  refine bodyPost_ret (results_four rfl _ _ _) rfl ?_
  exact ⟨pr, br, cr, qr, ur, cs, tr, vr, ct, rfl, HRS3.out, HX3.out, HY.out, HB3.out⟩

def BothNo (E : Int) (w : World) (e : Ending) (w' : World) : Prop := e = .returned (.tuple #[.slice none 0 0, .slice none 0 0, .slice none 0 0, .int .i64 E]) ∧ Below w.heap.size w w'
set_option maxHeartbeats 2000000 in
set_option maxRecDepth 100000 in
theorem both_no (A : Al) (x y : ByteArray) (w : World) (hA : A.In w) (hT : Tabs w) (h : ¬ bothE A x y = 0) :
    Calls Tryz.prog 18 #[A.v, .string x, .string y] w (BothNo (bothE A x y) w) := by
  unfold BothNo
  cases hok : A.ok with
  | false =>
    have he : bothE A x y = 7 := by unfold bothE; rw [hok]; rfl
    rw [he]
    have hr := fun W h => rowOf_no A W h hok
    unfold RowNo at hr
    obtain ⟨pf, pl, nf, cf, nl, cl, hv, hnf, hnl, hpl, hcl, hpf, hcf⟩ := A.parts
    rw [hv] at hr ⊢
    have HR := Lib.hid hr; have HA := Lib.hid hA
    clear hr hA hT hv hnf hnl hpl hcl hpf hcf he h
    go_enter Tryz.func18, Tryz.ntmps18
    go_wp2_with fail
    refine (HR.out _ (HA.out.alloc _)).mono ?_
    rintro e w1 ⟨o, c, rfl, hb1⟩
    have HB := Lib.hid (show Below w.heap.size w w1 from ((Below.refl _ _).alloc (Nat.le_refl _) _).trans (hb1.mono (by simp)))
    clear hb1
    go_wp2_with fail
    (try simp only [Exit.inBlock, Exit.then])
    refine bodyPost_ret (results_four rfl _ _ _) rfl ?_
    exact ⟨rfl, HB.out⟩
  | true =>
    have hr := fun W h => rowOf_yes A W h hok
    unfold RowYes at hr
    by_cases hx : rdW (rowL A) x = 0
    · have he : bothE A x y = rdW (rowL A) y := by unfold bothE; rw [hok, hx]; rfl
      rw [he] at h ⊢
      have k1 := fun pr br cr W hT hR => read_yes pr br cr (rowL A) x W hT hR hx
      have k2 := fun pr br cr W hT hR => read_no pr br cr (rowL A) y W hT hR h
      obtain ⟨n, hn⟩ : ∃ n, n = (rowL A).length := ⟨_, rfl⟩
      obtain ⟨nx, hnx⟩ : ∃ n, n = (runesL (cutW x)).length := ⟨_, rfl⟩
      obtain ⟨E, hE⟩ : ∃ E, E = rdW (rowL A) y := ⟨_, rfl⟩
      obtain ⟨pf, pl, nf, cf, nl, cl, hv, hnf, hnl, hpl, hcl, hpf, hcf⟩ := A.parts
      rw [hv] at hr ⊢
      rw [← hn] at hr k1 k2
      rw [← hnx] at k1
      rw [← hE] at h k2 ⊢
      have e1 : (E == 0) = false := by simp [h]
      have e2 : (E != 0) = true := by simp [h]
      have HR := Lib.hid hr; have K1 := Lib.hid k1; have K2 := Lib.hid k2; have HA := Lib.hid hA; have HT := Lib.hid hT
      clear hr k1 k2 hn hnx hE hA hT hv hnf hnl hpl hcl hpf hcf hx h he
      go_enter Tryz.func18, Tryz.ntmps18
      go_wp2_with fail
      refine (HR.out _ (HA.out.alloc _)).mono ?_
      rintro e w1 ⟨pr, br, cr, rfl, hrs, hbr, hb1⟩
      have HRS := Lib.hid hrs
      have HB := Lib.hid (show Below w.heap.size w w1 from ((Below.refl _ _).alloc (Nat.le_refl _) _).trans (hb1.mono (by simp)))
      clear hrs hb1
      go_wp2_with fail
      refine (K1.out pr br cr _ (HT.out.next HB.out) HRS.out).mono ?_
      rintro e w2 ⟨qr, ur, cs, rfl, hx, hb2⟩
      have HRS2 := Lib.hid (HRS.out.next hb2)
      have HB2 := Lib.hid (HB.out.trans (hb2.mono HB.out.size))
      clear hx hb2
      go_wp2_with fail
      refine (K2.out pr br cr _ (HT.out.next HB2.out) HRS2.out).mono ?_
      rintro e w3 ⟨o, c, rfl, hb3⟩
      have HB3 := Lib.hid (HB2.out.trans (hb3.mono HB2.out.size))
      clear hb3
      go_wp2_with fail
      (try simp only [Exit.inBlock, Exit.then])
      refine bodyPost_ret (results_four rfl _ _ _) rfl ?_
      exact ⟨rfl, HB3.out⟩
    · have he : bothE A x y = rdW (rowL A) x := by unfold bothE; rw [hok, if_neg hx]; rfl
      rw [he] at h ⊢
      have k1 := fun pr br cr W hT hR => read_no pr br cr (rowL A) x W hT hR h
      obtain ⟨n, hn⟩ : ∃ n, n = (rowL A).length := ⟨_, rfl⟩
      obtain ⟨E, hE⟩ : ∃ E, E = rdW (rowL A) x := ⟨_, rfl⟩
      obtain ⟨pf, pl, nf, cf, nl, cl, hv, hnf, hnl, hpl, hcl, hpf, hcf⟩ := A.parts
      rw [hv] at hr ⊢
      rw [← hn] at hr k1
      rw [← hE] at h k1 ⊢
      have e1 : (E == 0) = false := by simp [h]
      have e2 : (E != 0) = true := by simp [h]
      have HR := Lib.hid hr; have K1 := Lib.hid k1; have HA := Lib.hid hA; have HT := Lib.hid hT
      clear hr k1 hn hE hA hT hv hnf hnl hpl hcl hpf hcf hx h he
      go_enter Tryz.func18, Tryz.ntmps18
      go_wp2_with fail
      refine (HR.out _ (HA.out.alloc _)).mono ?_
      rintro e w1 ⟨pr, br, cr, rfl, hrs, hbr, hb1⟩
      have HRS := Lib.hid hrs
      have HB := Lib.hid (show Below w.heap.size w w1 from ((Below.refl _ _).alloc (Nat.le_refl _) _).trans (hb1.mono (by simp)))
      clear hrs hb1
      go_wp2_with fail
      refine (K1.out pr br cr _ (HT.out.next HB.out) HRS.out).mono ?_
      rintro e w3 ⟨o, c, rfl, hb3⟩
      have HB3 := Lib.hid (HB.out.trans (hb3.mono HB.out.size))
      clear hb3
      go_wp2_with fail
      (try simp only [Exit.inBlock, Exit.then])
      refine bodyPost_ret (results_four rfl _ _ _) rfl ?_
      exact ⟨rfl, HB3.out⟩

/-! ### Common -/
theorem bothE_yes {A : Al} {x y : ByteArray} (h : bothE A x y = 0) : A.ok = true ∧ rdW (rowL A) x = 0 ∧ rdW (rowL A) y = 0 := by
  unfold bothE at h
  cases hok : A.ok with
  | false => rw [hok] at h; simp at h
  | true =>
    rw [hok, if_pos rfl] at h
    by_cases hx : rdW (rowL A) x = 0
    · rw [if_pos hx] at h; exact ⟨rfl, hx, h⟩
    · rw [if_neg hx] at h; exact absurd h hx
def comN (A : Al) (x y : ByteArray) : Nat := if bothE A x y = 0 then comI (runesL (cutW x)) (runesL (cutW y)) else 0
def ComPost (A : Al) (x y : ByteArray) (w : World) (e : Ending) (w' : World) : Prop := e = .returned (.tuple #[.int .i64 (comN A x y : Nat), .int .i64 (bothE A x y)]) ∧ Below w.heap.size w w'
set_option maxHeartbeats 2000000 in
set_option maxRecDepth 100000 in
theorem wcommon_any (A : Al) (x y : ByteArray) (w : World) (hA : A.In w) (hT : Tabs w) : Calls Tryz.prog 8 #[A.v, .string x, .string y] w (ComPost A x y w) := by
  unfold ComPost
  by_cases h : bothE A x y = 0
  · obtain ⟨hok, hx, hy⟩ := bothE_yes h
    have k1 := fun W hA hT => both_yes A x y W hA hT hok hx hy
    have hc : comN A x y = comI (runesL (cutW x)) (runesL (cutW y)) := by unfold comN; rw [if_pos h]
    rw [h, hc]
    have k2 := fun pr br cr qr ur cs w => common_any pr qr br 0 cr ur 0 cs (runesL (cutW x)) (runesL (cutW y)) w
    unfold BothYes at k1
    obtain ⟨n, hn⟩ : ∃ n, n = (rowL A).length := ⟨_, rfl⟩
    obtain ⟨nx, hnx⟩ : ∃ n, n = (runesL (cutW x)).length := ⟨_, rfl⟩
    obtain ⟨ny, hny⟩ : ∃ n, n = (runesL (cutW y)).length := ⟨_, rfl⟩
    obtain ⟨pf, pl, nf, cf, nl, cl, hv, hnf, hnl, hpl, hcl, hpf, hcf⟩ := A.parts
    rw [hv] at k1 ⊢
    rw [← hn] at k1
    rw [← hnx, ← hny] at k1 k2
    obtain ⟨C, hC⟩ : ∃ C, C = comI (runesL (cutW x)) (runesL (cutW y)) := ⟨_, rfl⟩
    rw [← hC] at k2 ⊢
    have K1 := Lib.hid k1; have K2 := Lib.hid k2; have HA := Lib.hid hA; have HT := Lib.hid hT
    clear k1 k2 hn hnx hny hA hT hv hnf hnl hpl hcl hpf hcf hx hy hC hc h
    go_enter Tryz.func8, Tryz.ntmps8
    go_wp2_with fail
    refine (K1.out _ (HA.out.alloc _) (HT.out.next ((Below.refl _ _).alloc (Nat.le_refl _) _))).mono ?_
    rintro e w1 ⟨pr, br, cr, qr, ur, cs, tr, vr, ct, rfl, h1, h2, h3, hb1⟩
    have H2 := Lib.hid h2; have H3 := Lib.hid h3
    have HB := Lib.hid (show Below w.heap.size w w1 from ((Below.refl _ _).alloc (Nat.le_refl _) _).trans (hb1.mono (by simp)))
    clear h1 h2 h3 hb1
    go_wp2_with fail
    refine (K2.out qr ur cs tr vr ct _ H2.out H3.out).mono ?_
    rintro e w2 ⟨rfl, hb2⟩
    have HB2 := Lib.hid (HB.out.trans (hb2.mono HB.out.size))
    clear hb2
    go_wp2_with fail
    go_ret2
    exact ⟨rfl, HB2.out⟩
  · have k1 := fun W hA hT => both_no A x y W hA hT h
    have hc : comN A x y = 0 := by unfold comN; rw [if_neg h]
    rw [hc]
    unfold BothNo at k1
    obtain ⟨E, hE⟩ : ∃ E, E = bothE A x y := ⟨_, rfl⟩
    obtain ⟨pf, pl, nf, cf, nl, cl, hv, hnf, hnl, hpl, hcl, hpf, hcf⟩ := A.parts
    rw [hv] at k1 ⊢
    rw [← hE] at k1 h ⊢
    have e1 : (E == 0) = false := by simp [h]
    have e2 : (E != 0) = true := by simp [h]
    have K1 := Lib.hid k1; have HA := Lib.hid hA; have HT := Lib.hid hT
    clear k1 hA hT hv hnf hnl hpl hcl hpf hcf hE hc h
    go_enter Tryz.func8, Tryz.ntmps8
    go_wp2_with fail
    refine (K1.out _ (HA.out.alloc _) (HT.out.next ((Below.refl _ _).alloc (Nat.le_refl _) _))).mono ?_
    rintro e w1 ⟨rfl, hb1⟩
    have HB := Lib.hid (show Below w.heap.size w w1 from ((Below.refl _ _).alloc (Nat.le_refl _) _).trans (hb1.mono (by simp)))
    clear hb1
    go_wp2_with fail
    go_ret2
    exact ⟨rfl, HB.out⟩
end Go.Proofs.YtcibjgkifafohaaGreatDoor
namespace Go.Proofs.YtcibjgkifafohaaGreatDoor
open Go.RowKit Go.Lib
set_option linter.unusedVariables false

theorem letL_len (A : Al) (s : ByteArray) : (letL A s).length ≤ 260 := by
  unfold letL rdL
  have h1 := starts_le (cutW s)
  have h2 := cutW_size s
  split
  · split
    · rw [runesL_length]; omega
    · simp
  · simp
def LetYes (l : List Int) (w : World) (e : Ending) (w' : World) : Prop := ∃ v : Value, e = .returned (.tuple #[v, .int .i64 0]) ∧ w'.ownsRow w.heap.size 21 1 v l.length (l.map E32) ∧ Below w.heap.size w w'
theorem let_yes {A : Al} {s : ByteArray} {w : World} (hA : A.In w) (hT : Tabs w) (h : letE A s = 0) : Calls Tryz.prog 34 #[A.v, .string s] w (LetYes (letL A s) w) := by
  refine (letters_any A s w hA hT).mono ?_
  rintro e w' ⟨v, he, ho, hb⟩
  rw [h] at he
  exact ⟨v, he, ho, hb⟩
theorem letL_no {A : Al} {s : ByteArray} (h : ¬ letE A s = 0) : letL A s = [] := by
  unfold letE at h
  unfold letL rdL
  cases hok : A.ok with
  | false => simp
  | true => rw [hok, if_pos rfl] at h; rw [if_pos rfl, if_neg h]
def LetNo (E : Int) (w : World) (e : Ending) (w' : World) : Prop := ∃ o c, e = .returned (.tuple #[.slice o 0 c, .int .i64 E]) ∧ Below w.heap.size w w'
theorem let_no {A : Al} {s : ByteArray} {w : World} (hA : A.In w) (hT : Tabs w) (h : ¬ letE A s = 0) : Calls Tryz.prog 34 #[A.v, .string s] w (LetNo (letE A s) w) := by
  refine (letters_any A s w hA hT).mono ?_
  rintro e w' ⟨v, he, ho, hb⟩
  rw [letL_no h] at ho
  obtain ⟨o, c, rfl⟩ := own_shape ho
  exact ⟨o, c, he, hb⟩

/-! ### Turned -/
def turR (A : Al) (s : ByteArray) : ByteArray := if letE A s = 0 then strOf (textL (letL A s).reverse) else ByteArray.empty
def TurPost (A : Al) (s : ByteArray) (w : World) (e : Ending) (w' : World) : Prop := e = .returned (.tuple #[.string (turR A s), .int .i64 (letE A s)]) ∧ Below w.heap.size w w'
set_option maxHeartbeats 2000000 in
set_option maxRecDepth 100000 in
theorem turned_any (A : Al) (s : ByteArray) (w : World) (hA : A.In w) (hT : Tabs w) : Calls Tryz.prog 16 #[A.v, .string s] w (TurPost A s w) := by
  unfold TurPost
  by_cases h : letE A s = 0
  · have k1 := fun W hA hT => let_yes (A := A) (s := s) (w := W) hA hT h
    have ht : turR A s = strOf (textL (letL A s).reverse) := by unfold turR; rw [if_pos h]
    rw [h, ht]
    unfold LetYes at k1
    have hl := letL_len A s
    obtain ⟨l, hll⟩ : ∃ l, l = letL A s := ⟨_, rfl⟩
    rw [← hll] at k1 hl ⊢
    have k2 := fun B v w ho => reverse_any B v l w ho (by omega)
    have k3 := fun pr br cr w hR => text_row pr br 0 cr l.reverse w hR
    rw [List.length_reverse] at k3
    obtain ⟨n, hn⟩ : ∃ n, n = l.length := ⟨_, rfl⟩
    rw [← hn] at k1 k2 k3
    obtain ⟨pf, pl, nf, cf, nl, cl, hv, hnf, hnl, hpl, hcl, hpf, hcf⟩ := A.parts
    rw [hv] at k1 ⊢
    obtain ⟨T, hT'⟩ : ∃ T, T = strOf (textL l.reverse) := ⟨_, rfl⟩
    rw [← hT'] at k3 ⊢
    have K1 := Lib.hid k1; have K2 := Lib.hid k2; have K3 := Lib.hid k3; have HA := Lib.hid hA; have HT := Lib.hid hT
    clear k1 k2 k3 hn hl hll hT' hA hT hv hnf hnl hpl hcl hpf hcf h ht
    go_enter Tryz.func16, Tryz.ntmps16
    go_wp2_with fail
    refine (K1.out _ (HA.out.alloc _) (HT.out.next ((Below.refl _ _).alloc (Nat.le_refl _) _))).mono ?_
    rintro e w1 ⟨v, rfl, ho, hb1⟩
    have HO := Lib.hid ho
    obtain ⟨o, c, rfl⟩ := own_shape ho
    have HB := Lib.hid (show Below w.heap.size w w1 from ((Below.refl _ _).alloc (Nat.le_refl _) _).trans (hb1.mono (by simp)))
    clear ho hb1
    go_wp2_with fail
    refine (K2.out _ _ _ HO.out).mono ?_
    rintro e w2 ⟨rfl, ⟨pr, br, cr, he, hr⟩, hb2⟩
    simp only [Value.slice.injEq] at he
    obtain ⟨rfl, _, rfl⟩ := he
    have HR := Lib.hid hr
    have HB2 := Lib.hid (HB.out.trans (hb2.mono (by simp)))
    clear hr hb2
    go_wp2_with fail
    refine (K3.out _ br _ _ HR.out).mono ?_
    rintro e w3 ⟨rfl, rfl⟩
    go_wp2_with fail
    go_ret2
    exact ⟨rfl, HB2.out⟩
  · have k1 := fun W hA hT => let_no (A := A) (s := s) (w := W) hA hT h
    have ht : turR A s = ByteArray.empty := by unfold turR; rw [if_neg h]
    rw [ht]
    unfold LetNo at k1
    obtain ⟨E, hE⟩ : ∃ E, E = letE A s := ⟨_, rfl⟩
    obtain ⟨pf, pl, nf, cf, nl, cl, hv, hnf, hnl, hpl, hcl, hpf, hcf⟩ := A.parts
    rw [hv] at k1 ⊢
    rw [← hE] at k1 h ⊢
    have e1 : (E == 0) = false := by simp [h]
    have e2 : (E != 0) = true := by simp [h]
    have K1 := Lib.hid k1; have HA := Lib.hid hA; have HT := Lib.hid hT
    clear k1 hA hT hv hnf hnl hpl hcl hpf hcf hE h ht
    go_enter Tryz.func16, Tryz.ntmps16
    go_wp2_with fail
    refine (K1.out _ (HA.out.alloc _) (HT.out.next ((Below.refl _ _).alloc (Nat.le_refl _) _))).mono ?_
    rintro e w1 ⟨o, c, rfl, hb1⟩
    have HB := Lib.hid (show Below w.heap.size w w1 from ((Below.refl _ _).alloc (Nat.le_refl _) _).trans (hb1.mono (by simp)))
    clear hb1
    go_wp2_with fail
    go_ret2
    exact ⟨rfl, HB.out⟩

/-! ### Check -/
/-! ### Text -/
def txtE (A : Al) (l : List Int) : Int := if A.ok then (if 256 < l.length then 4 else if ∀ r ∈ l, r ∈ rowL A then 0 else 5) else 7
def txtR (A : Al) (l : List Int) : ByteArray := if txtE A l = 0 then strOf (textL l) else ByteArray.empty
def TxtPost (A : Al) (l : List Int) (w : World) (e : Ending) (w' : World) : Prop := e = .returned (.tuple #[.string (txtR A l), .int .i64 (txtE A l)]) ∧ Below w.heap.size w w'
def allIn (row : List Int) (l : List Int) : Bool := l.all fun r => decide (r ∈ row)
theorem allIn_iff (row l : List Int) : allIn row l = true ↔ ∀ r ∈ l, r ∈ row := by unfold allIn; simp
theorem allIn_step {row l : List Int} {k : Nat} (h : k < l.length) : allIn row (l.drop k) = (decide (l.getD k 0 ∈ row) && allIn row (l.drop (k + 1))) := by
  rw [List.drop_eq_getElem_cons h, getD_at h]; rfl
end Go.Proofs.YtcibjgkifafohaaGreatDoor
