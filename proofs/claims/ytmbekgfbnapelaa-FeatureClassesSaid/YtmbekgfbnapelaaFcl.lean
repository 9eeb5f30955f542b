/-
  WALKS: cognatelaw02.FeatureClasses.
-/
import Derived.Test.YtmbekgfbnapelaaAlk
import Derived.Test.YtmbekgfbnapelaaAlv2
namespace Go.Proofs.Ytmbekgfbnapelaa
open Go.RowKit Go.Lib
set_option linter.unusedVariables false

theorem al_ok_same {A A' : Al} (e1 : A'.fs = A.fs) (e2 : A'.ls = A.ls) : A'.ok = A.ok := by unfold Al.ok; rw [e1, e2]
theorem ofR_same {A A' : Al} (e1 : A'.fs = A.fs) (e2 : A'.ls = A.ls) (x : Int) : ofR A' x = ofR A x := by unfold ofR; rw [al_ok_same e1 e2, e2]
theorem lacR_same {A A' : Al} (e1 : A'.fs = A.fs) (e2 : A'.ls = A.ls) (x : Int) (p m : Nat) : lacR A' x p m = lacR A x p m := by unfold lacR; rw [ofR_same e1 e2, e1]
theorem hasR_same {A A' : Al} (e1 : A'.fs = A.fs) (e2 : A'.ls = A.ls) (x : Int) (p m : Nat) : hasR A' x p m = hasR A x p m := by unfold hasR; rw [lacR_same e1 e2]
theorem aacR_same {A A' : Al} (e1 : A'.fs = A.fs) (e2 : A'.ls = A.ls) (p m : Nat) : aacR A' p m = aacR A p m := by unfold aacR; rw [al_ok_same e1 e2, e1]
theorem clsR_same {A A' : Al} (e1 : A'.fs = A.fs) (e2 : A'.ls = A.ls) (p m : Nat) : clsR A' p m = clsR A p m := by unfold clsR; rw [aacR_same e1 e2, e2]
theorem farR_same {A A' : Al} (e1 : A'.fs = A.fs) (e2 : A'.ls = A.ls) (x y : Int) : farR A' x y = farR A x y := by unfold farR; rw [ofR_same e1 e2, e2]
theorem nearR_same {A A' : Al} (e1 : A'.fs = A.fs) (e2 : A'.ls = A.ls) (x : Int) (p m : Nat) : nearR A' x p m = nearR A x p m := by unfold nearR; rw [lacR_same e1 e2, e2]
theorem chk_same {A A' : Al} (e1 : A'.fs = A.fs) (e2 : A'.ls = A.ls) : chk A' = chk A := by unfold chk; rw [al_ok_same e1 e2]
theorem Bx.made {A : Al} {F L : Value} {w w2 : World} (h : A.In w2) (hb : Below w.heap.size w w2) : Bx A F L w w2.heap.size (w2.alloc (.cells #[F, L] 26)) :=
  ⟨h.alloc _, by simp, by simp, hb.alloc hb.size _, by simp⟩
/-- Three cells of a block. -/
structure O3 (b : Nat) (x y z : Value) (w : World) : Prop where
  c0 : w.cell? ⟨b, 0, none⟩ = some x
  c1 : w.cell? ⟨b, 1, none⟩ = some y
  c2 : w.cell? ⟨b, 2, none⟩ = some z
  lt : b < w.heap.size
theorem O3.next {b : Nat} {x y z : Value} {w w' : World} (h : O3 b x y z w) (hb : Below w.heap.size w w') : O3 b x y z w' :=
  ⟨(hb.cell (p := ⟨b, 0, none⟩) h.lt).trans h.c0, (hb.cell (p := ⟨b, 1, none⟩) h.lt).trans h.c1, (hb.cell (p := ⟨b, 2, none⟩) h.lt).trans h.c2, Nat.lt_of_lt_of_le h.lt hb.size⟩
theorem O3.made (w : World) (x y z : Value) (t : TypeId) : O3 w.heap.size x y z (w.alloc (.cells #[x, y, z] t)) := ⟨by simp, by simp, by simp, by simp⟩
/-- A row of runes of the call's own. -/
def Rw (B : Nat) (v : Value) (l : List Int) (w : World) : Prop := w.ownsRow B 21 1 v l.length (l.map E32)
theorem Rw.next {B : Nat} {v : Value} {l : List Int} {w w' : World} (h : Rw B v l w) (hb : Below w.heap.size w w') : Rw B v l w' := ownF_below h hb
/-- From a world on nothing below has turned. -/
structure Sn (w0 w : World) : Prop where
  b : Below w0.heap.size w0 w
theorem Sn.next {w0 w w' : World} (h : Sn w0 w) (hb : Below w.heap.size w w') : Sn w0 w' := ⟨h.b.trans (hb.mono h.b.size)⟩

set_option maxHeartbeats 32000000 in
set_option maxRecDepth 100000 in
theorem classes_walk (A : Al) (x y : Int) (p m : Nat) (w : World) (hA : AlX A w) (hp : p < 4294967296) (hm : m < 4294967296) :
    Calls Try.prog 4 #[A.v, .int .i32 x, .int .i32 y, .int .u32 p, .int .u32 m] w fun e w' => e = .returned (.bool true) ∧ Below w.heap.size w w' := by
  have kal := fun W => alive_any W
  have ktw := fun W (h : A.In W) => twin_any A W ⟨h, hA.nilF, hA.nilL, hA.roomF, hA.roomL⟩
  have kpo := fun (A' : Al) W h => of_any A' x W h
  have kph := fun (A' : Al) W h => hasF_any A' x p m W h hp hm
  have kpc := fun (A' : Al) W h => class_any A' p m W h hp hm
  have kpf := fun (A' : Al) W h => far_any A' x y W h
  have kpn := fun (A' : Al) W h => near_any A' x p m W h hp hm
  have kpk := fun (A' : Al) W h => check_any A' W h
  have kro := fun W h => rof_any A x W h
  have krh := fun W h => rhas_any A x p m W h hp hm
  have krc := fun W h => rclass_any A p m W h hp hm
  have krf := fun W h => rfar_any A x y W h
  have krn := fun W h => rnear_any A x p m W h hp hm
  have krk := fun W h => rcheck_any A W h
  have kak := fun (A' : Al) W h1 h2 e1 e2 => alike_any A A' W h1 h2 e1 e2
  unfold LofPost at kpo kro
  unfold ClsPost at kpc krc
  unfold RchkPost at krk
  obtain ⟨⟨⟨or_, op, om⟩, oe⟩, hO⟩ : ∃ v, v = ofR A x := ⟨_, rfl⟩
  obtain ⟨⟨hB, hE⟩, hH⟩ : ∃ v, v = hasR A x p m := ⟨_, rfl⟩
  obtain ⟨⟨fv, fE⟩, hF⟩ : ∃ v, v = farR A x y := ⟨_, rfl⟩
  obtain ⟨⟨nv, nE⟩, hN⟩ : ∃ v, v = nearR A x p m := ⟨_, rfl⟩
  obtain ⟨aE, hAE⟩ : ∃ v, v = aacR A p m := ⟨_, rfl⟩
  obtain ⟨cL, hCL⟩ : ∃ v, v = clsR A p m := ⟨_, rfl⟩
  obtain ⟨kE, hKE⟩ : ∃ v, v = chk A := ⟨_, rfl⟩
  have hlen : cL.length ≤ 128 ∨ cL.length = 0 := by
    rw [hCL]
    unfold clsR
    split
    · rename_i h0
      have := Al.ok_ltrs (aacR_ok0 h0)
      left
      have h2 := clsL_le A.ls p m A.ls.length
      rw [List.take_of_length_le (Nat.le_refl _)] at h2
      omega
    · right; rfl
  have hlen : cL.length ≤ 128 := by omega
  rw [← hO] at kro
  rw [← hH] at krh
  rw [← hF] at krf
  rw [← hN] at krn
  rw [← hAE, ← hCL] at krc
  rw [← hKE] at krk
  unfold Ltr.v at kro
  simp only [] at kro krh krf krn krc krk
  obtain ⟨pf, pl, nf, cf, nl, cl, hv, hnf, hnl, hpl, hcl, hpf, hcf⟩ := A.parts
  rw [hv] at ktw kro krh krc krf krn krk kak ⊢
  have hs : Bx A (.slice pf nf cf) (.slice pl nl cl) w w.heap.size (w.alloc (.cells #[.slice pf nf cf, .slice pl nl cl] 26)) := Bx.start hA.i
  have KAL := Lib.hid kal; have KTW := Lib.hid ktw; have KPO := Lib.hid kpo; have KPH := Lib.hid kph; have KPC := Lib.hid kpc; have KPF := Lib.hid kpf; have KPN := Lib.hid kpn; have KPK := Lib.hid kpk
  have KRO := Lib.hid kro; have KRH := Lib.hid krh; have KRC := Lib.hid krc; have KRF := Lib.hid krf; have KRN := Lib.hid krn; have KRK := Lib.hid krk; have KAK := Lib.hid kak
  have HX := Lib.hid hs; have HO := Lib.hid hO; have HH := Lib.hid hH; have HF := Lib.hid hF; have HN := Lib.hid hN; have HAE := Lib.hid hAE; have HCL := Lib.hid hCL; have HKE := Lib.hid hKE; have HLEN := Lib.hid hlen
  clear kal ktw kpo kph kpc kpf kpn kpk kro krh krc krf krn krk kak hO hH hF hN hAE hCL hKE hv hnf hnl hpl hcl hpf hcf hs hA hlen
  go_enter Try.func4, Try.ntmps4
  go_wp2_with fail
  refine (KAL.out _).mono ?_
  rintro _ w1 ⟨rfl, hb⟩
  replace HX := Lib.hid (HX.out.next hb)
  clear hb
  obtain ⟨c0, c1, hlt⟩ : w1.cell? ⟨w.heap.size, 0, none⟩ = some (.slice pf nf cf) ∧ w1.cell? ⟨w.heap.size, 1, none⟩ = some (.slice pl nl cl) ∧ w.heap.size < w1.heap.size := ⟨HX.out.c0, HX.out.c1, HX.out.lt⟩
  go_wp2_with fail
  refine (KTW.out _ HX.out.i).mono ?_
  rintro _ w2 ⟨A', rfl, e1, e2, hin, hb⟩
  replace HX := Lib.hid (HX.out.next hb)
  obtain ⟨pf', pl', nf', cf', nl', cl', hv', q1, q2, q3, q4, q5, q6⟩ := A'.parts
  clear q1 q2 q3 q4 q5 q6
  rw [hv']
  have kpo := KPO.out A'; have kph := KPH.out A'; have kpc := KPC.out A'; have kpf := KPF.out A'; have kpn := KPN.out A'; have kpk := KPK.out A'; have kak := fun W h1 h2 => KAK.out A' W h1 h2 e1 e2
  rw [ofR_same e1 e2, ← HO.out, hv'] at kpo
  rw [hasR_same e1 e2, ← HH.out, hv'] at kph
  rw [aacR_same e1 e2, clsR_same e1 e2, ← HAE.out, ← HCL.out, hv'] at kpc
  rw [farR_same e1 e2, ← HF.out, hv'] at kpf
  rw [nearR_same e1 e2, ← HN.out, hv'] at kpn
  rw [chk_same e1 e2, ← HKE.out, hv'] at kpk
  rw [hv'] at kak
  unfold Ltr.v at kpo
  simp only [] at kpo kph kpc kpf kpn kpk kak
  have HY0 := Lib.hid (Bx.made (F := .slice pf' nf' cf') (L := .slice pl' nl' cl') hin HX.out.below)
  replace KPO := Lib.hid kpo; replace KPH := Lib.hid kph; replace KPC := Lib.hid kpc; replace KPF := Lib.hid kpf; replace KPN := Lib.hid kpn; replace KPK := Lib.hid kpk; replace KAK := Lib.hid kak
  have hz2 := HX.out.below.size
  clear kpo kph kpc kpf kpn kpk kak hv' hin e1 e2 c0 c1 hlt hb
  go_wp2_with fail
  replace HX := Lib.hid (HX.out.alloc (.cells #[.slice pf' nf' cf', .slice pl' nl' cl'] 26))
  have HY := HY0
  clear HY0
  refine (KPO.out _ HY.out.i).mono ?_
  rintro _ w3 ⟨rfl, hb⟩
  replace HX := Lib.hid (HX.out.next hb)
  replace HY := Lib.hid (HY.out.next hb)
  clear hb
  obtain ⟨d0, d1, hltd⟩ : w3.cell? ⟨w2.heap.size, 0, none⟩ = some (.slice pf' nf' cf') ∧ w3.cell? ⟨w2.heap.size, 1, none⟩ = some (.slice pl' nl' cl') ∧ w2.heap.size < w3.heap.size := ⟨HY.out.c0, HY.out.c1, HY.out.lt⟩
  go_wp2_with fail
  have HO1 := Lib.hid (O3.made w3 (.int .i32 or_) (.int .u32 op) (.int .u32 om) 35)
  replace HX := Lib.hid (HX.out.alloc (.cells #[.int .i32 or_, .int .u32 op, .int .u32 om] 35))
  replace HY := Lib.hid (HY.out.alloc (.cells #[.int .i32 or_, .int .u32 op, .int .u32 om] 35))
  refine (KPH.out _ HY.out.i).mono ?_
  rintro _ w4 ⟨rfl, hb⟩
  replace HX := Lib.hid (HX.out.next hb)
  replace HY := Lib.hid (HY.out.next hb)
  replace HO1 := Lib.hid (HO1.out.next hb)
  clear hb
  clear d0 d1 hltd
  obtain ⟨d0, d1, hltd⟩ : w4.cell? ⟨w2.heap.size, 0, none⟩ = some (.slice pf' nf' cf') ∧ w4.cell? ⟨w2.heap.size, 1, none⟩ = some (.slice pl' nl' cl') ∧ w2.heap.size < w4.heap.size := ⟨HY.out.c0, HY.out.c1, HY.out.lt⟩
  go_wp2_with fail
  have HSn := Lib.hid (Sn.mk (Below.refl _ w4))
  have HXc := HX; have HYc := HY; have HO1c := HO1
  refine (KPC.out _ HY.out.i).mono ?_
  rintro _ w5 ⟨vc, rfl, hc, hb⟩
  replace HX := Lib.hid (HX.out.next hb)
  replace HY := Lib.hid (HY.out.next hb)
  replace HO1 := Lib.hid (HO1.out.next hb)
  replace HSn := Lib.hid (HSn.out.next hb)
  clear hb
  obtain ⟨oc, cc, rfl⟩ := ownF_shape hc
  have HC := Lib.hid (show Rw w4.heap.size (.slice oc cL.length cc) cL w5 from hc)
  have HCQ := Lib.hid (show ∀ q, (Value.slice oc cL.length cc).ownBlock = some q → w4.heap.size ≤ q ∧ q < w5.heap.size from fun q hq => hc.lt q hq)
  clear hc d0 d1 hltd
  obtain ⟨d0, d1, hltd⟩ : w5.cell? ⟨w2.heap.size, 0, none⟩ = some (.slice pf' nf' cf') ∧ w5.cell? ⟨w2.heap.size, 1, none⟩ = some (.slice pl' nl' cl') ∧ w2.heap.size < w5.heap.size := ⟨HY.out.c0, HY.out.c1, HY.out.lt⟩
  have HS5 := Lib.hid (Sn.mk (Below.refl _ w5))
  go_wp2_with fail
  refine (KPF.out _ HY.out.i).mono ?_
  rintro _ w6 ⟨rfl, hb⟩
  replace HX := Lib.hid (HX.out.next hb)
  replace HY := Lib.hid (HY.out.next hb)
  replace HO1 := Lib.hid (HO1.out.next hb)
  replace HSn := Lib.hid (HSn.out.next hb)
  replace HC := Lib.hid (HC.out.next hb)
  replace HS5 := Lib.hid (HS5.out.next hb)
  clear hb
  clear d0 d1 hltd
  obtain ⟨d0, d1, hltd⟩ : w6.cell? ⟨w2.heap.size, 0, none⟩ = some (.slice pf' nf' cf') ∧ w6.cell? ⟨w2.heap.size, 1, none⟩ = some (.slice pl' nl' cl') ∧ w2.heap.size < w6.heap.size := ⟨HY.out.c0, HY.out.c1, HY.out.lt⟩
  go_wp2_with fail
  refine (KPN.out _ HY.out.i).mono ?_
  rintro _ w7 ⟨rfl, hb⟩
  replace HX := Lib.hid (HX.out.next hb)
  replace HY := Lib.hid (HY.out.next hb)
  replace HO1 := Lib.hid (HO1.out.next hb)
  replace HSn := Lib.hid (HSn.out.next hb)
  replace HC := Lib.hid (HC.out.next hb)
  replace HS5 := Lib.hid (HS5.out.next hb)
  clear hb
  clear d0 d1 hltd
  obtain ⟨d0, d1, hltd⟩ : w7.cell? ⟨w2.heap.size, 0, none⟩ = some (.slice pf' nf' cf') ∧ w7.cell? ⟨w2.heap.size, 1, none⟩ = some (.slice pl' nl' cl') ∧ w2.heap.size < w7.heap.size := ⟨HY.out.c0, HY.out.c1, HY.out.lt⟩
  go_wp2_with fail
  have hz57 := HS5.out.b.size
  refine (KPC.out _ HY.out.i).mono ?_
  rintro _ w8 ⟨vd, rfl, hd, hb⟩
  replace HX := Lib.hid (HX.out.next hb)
  replace HY := Lib.hid (HY.out.next hb)
  replace HO1 := Lib.hid (HO1.out.next hb)
  replace HSn := Lib.hid (HSn.out.next hb)
  replace HC := Lib.hid (HC.out.next hb)
  replace HS5 := Lib.hid (HS5.out.next hb)
  clear hb
  obtain ⟨od, cd, rfl⟩ := ownF_shape hd
  have HD := Lib.hid (show Rw w7.heap.size (.slice od cL.length cd) cL w8 from hd)
  clear hd d0 d1 hltd
  obtain ⟨c0, c1, hlt⟩ : w8.cell? ⟨w.heap.size, 0, none⟩ = some (.slice pf nf cf) ∧ w8.cell? ⟨w.heap.size, 1, none⟩ = some (.slice pl nl cl) ∧ w.heap.size < w8.heap.size := ⟨HX.out.c0, HX.out.c1, HX.out.lt⟩
  go_wp2_with fail
  refine (KRO.out _ HX.out.i).mono ?_
  rintro _ w9 ⟨rfl, hb⟩
  replace HX := Lib.hid (HX.out.next hb)
  replace HY := Lib.hid (HY.out.next hb)
  replace HO1 := Lib.hid (HO1.out.next hb)
  replace HSn := Lib.hid (HSn.out.next hb)
  replace HC := Lib.hid (HC.out.next hb)
  replace HS5 := Lib.hid (HS5.out.next hb)
  replace HD := Lib.hid (HD.out.next hb)
  clear hb
  clear c0 c1 hlt
  obtain ⟨c0, c1, hlt⟩ : w9.cell? ⟨w.heap.size, 0, none⟩ = some (.slice pf nf cf) ∧ w9.cell? ⟨w.heap.size, 1, none⟩ = some (.slice pl nl cl) ∧ w.heap.size < w9.heap.size := ⟨HX.out.c0, HX.out.c1, HX.out.lt⟩
  go_wp2_with fail
  have HO2 := Lib.hid (O3.made w9 (.int .i32 or_) (.int .u32 op) (.int .u32 om) 35)
  replace HX := Lib.hid (HX.out.alloc (.cells #[.int .i32 or_, .int .u32 op, .int .u32 om] 35))
  replace HY := Lib.hid (HY.out.alloc (.cells #[.int .i32 or_, .int .u32 op, .int .u32 om] 35))
  replace HO1 := Lib.hid (HO1.out.next ((Below.refl _ _).alloc (Nat.le_refl _) (.cells #[.int .i32 or_, .int .u32 op, .int .u32 om] 35)))
  replace HSn := Lib.hid (HSn.out.next ((Below.refl _ _).alloc (Nat.le_refl _) (.cells #[.int .i32 or_, .int .u32 op, .int .u32 om] 35)))
  replace HC := Lib.hid (HC.out.next ((Below.refl _ _).alloc (Nat.le_refl _) (.cells #[.int .i32 or_, .int .u32 op, .int .u32 om] 35)))
  replace HS5 := Lib.hid (HS5.out.next ((Below.refl _ _).alloc (Nat.le_refl _) (.cells #[.int .i32 or_, .int .u32 op, .int .u32 om] 35)))
  replace HD := Lib.hid (HD.out.next ((Below.refl _ _).alloc (Nat.le_refl _) (.cells #[.int .i32 or_, .int .u32 op, .int .u32 om] 35)))
  refine (KRH.out _ HX.out.i).mono ?_
  rintro _ w10 ⟨rfl, hb⟩
  replace HX := Lib.hid (HX.out.next hb)
  replace HY := Lib.hid (HY.out.next hb)
  replace HO1 := Lib.hid (HO1.out.next hb)
  replace HSn := Lib.hid (HSn.out.next hb)
  replace HC := Lib.hid (HC.out.next hb)
  replace HS5 := Lib.hid (HS5.out.next hb)
  replace HD := Lib.hid (HD.out.next hb)
  replace HO2 := Lib.hid (HO2.out.next hb)
  clear hb
  clear c0 c1 hlt
  obtain ⟨c0, c1, hlt⟩ : w10.cell? ⟨w.heap.size, 0, none⟩ = some (.slice pf nf cf) ∧ w10.cell? ⟨w.heap.size, 1, none⟩ = some (.slice pl nl cl) ∧ w.heap.size < w10.heap.size := ⟨HX.out.c0, HX.out.c1, HX.out.lt⟩
  go_wp2_with fail
  have hz510 := HS5.out.b.size
  refine (KRC.out _ HX.out.i).mono ?_
  rintro _ w11 ⟨vx, rfl, hx, hb⟩
  replace HX := Lib.hid (HX.out.next hb)
  replace HY := Lib.hid (HY.out.next hb)
  replace HO1 := Lib.hid (HO1.out.next hb)
  replace HSn := Lib.hid (HSn.out.next hb)
  replace HC := Lib.hid (HC.out.next hb)
  replace HS5 := Lib.hid (HS5.out.next hb)
  replace HD := Lib.hid (HD.out.next hb)
  replace HO2 := Lib.hid (HO2.out.next hb)
  clear hb
  obtain ⟨ox, cx, rfl⟩ := ownF_shape hx
  have HC2 := Lib.hid (show Rw w10.heap.size (.slice ox cL.length cx) cL w11 from hx)
  clear hx c0 c1 hlt
  obtain ⟨c0, c1, hlt⟩ : w11.cell? ⟨w.heap.size, 0, none⟩ = some (.slice pf nf cf) ∧ w11.cell? ⟨w.heap.size, 1, none⟩ = some (.slice pl nl cl) ∧ w.heap.size < w11.heap.size := ⟨HX.out.c0, HX.out.c1, HX.out.lt⟩
  go_wp2_with fail
  refine (KRF.out _ HX.out.i).mono ?_
  rintro _ w12 ⟨rfl, hb⟩
  replace HX := Lib.hid (HX.out.next hb)
  replace HY := Lib.hid (HY.out.next hb)
  replace HO1 := Lib.hid (HO1.out.next hb)
  replace HSn := Lib.hid (HSn.out.next hb)
  replace HC := Lib.hid (HC.out.next hb)
  replace HS5 := Lib.hid (HS5.out.next hb)
  replace HD := Lib.hid (HD.out.next hb)
  replace HO2 := Lib.hid (HO2.out.next hb)
  replace HC2 := Lib.hid (HC2.out.next hb)
  clear hb
  clear c0 c1 hlt
  obtain ⟨c0, c1, hlt⟩ : w12.cell? ⟨w.heap.size, 0, none⟩ = some (.slice pf nf cf) ∧ w12.cell? ⟨w.heap.size, 1, none⟩ = some (.slice pl nl cl) ∧ w.heap.size < w12.heap.size := ⟨HX.out.c0, HX.out.c1, HX.out.lt⟩
  go_wp2_with fail
  refine (KRN.out _ HX.out.i).mono ?_
  rintro _ w13 ⟨rfl, hb⟩
  replace HX := Lib.hid (HX.out.next hb)
  replace HY := Lib.hid (HY.out.next hb)
  replace HO1 := Lib.hid (HO1.out.next hb)
  replace HSn := Lib.hid (HSn.out.next hb)
  replace HC := Lib.hid (HC.out.next hb)
  replace HS5 := Lib.hid (HS5.out.next hb)
  replace HD := Lib.hid (HD.out.next hb)
  replace HO2 := Lib.hid (HO2.out.next hb)
  replace HC2 := Lib.hid (HC2.out.next hb)
  clear hb
  clear c0 c1 hlt
  obtain ⟨c0, c1, hlt⟩ : w13.cell? ⟨w.heap.size, 0, none⟩ = some (.slice pf nf cf) ∧ w13.cell? ⟨w.heap.size, 1, none⟩ = some (.slice pl nl cl) ∧ w.heap.size < w13.heap.size := ⟨HX.out.c0, HX.out.c1, HX.out.lt⟩
  obtain ⟨d0, d1, hltd⟩ : w13.cell? ⟨w2.heap.size, 0, none⟩ = some (.slice pf' nf' cf') ∧ w13.cell? ⟨w2.heap.size, 1, none⟩ = some (.slice pl' nl' cl') ∧ w2.heap.size < w13.heap.size := ⟨HY.out.c0, HY.out.c1, HY.out.lt⟩
  obtain ⟨p0, p1, p2, hltp⟩ : w13.cell? ⟨w3.heap.size, 0, none⟩ = some (.int .i32 or_) ∧ w13.cell? ⟨w3.heap.size, 1, none⟩ = some (.int .u32 op) ∧ w13.cell? ⟨w3.heap.size, 2, none⟩ = some (.int .u32 om) ∧ w3.heap.size < w13.heap.size := ⟨HO1.out.c0, HO1.out.c1, HO1.out.c2, HO1.out.lt⟩
  obtain ⟨q0, q1, q2, hltq⟩ : w13.cell? ⟨w9.heap.size, 0, none⟩ = some (.int .i32 or_) ∧ w13.cell? ⟨w9.heap.size, 1, none⟩ = some (.int .u32 op) ∧ w13.cell? ⟨w9.heap.size, 2, none⟩ = some (.int .u32 om) ∧ w9.heap.size < w13.heap.size := ⟨HO2.out.c0, HO2.out.c1, HO2.out.c2, HO2.out.lt⟩
  have CS := Lib.hid (show ∀ W, Below w13.heap.size w13 W → Calls Try.prog 22 #[.slice oc cL.length cc, .slice ox cL.length cx] W fun e w' => e = .returned (.bool true) ∧ Below w13.heap.size w13 w' from fun W hb => by
    obtain ⟨r1, r2, r3, e1, h1⟩ := own_rs (HC.out.next hb) (by have := HLEN.out; omega)
    obtain ⟨s1, s2, s3, e2, h2⟩ := own_rs (HC2.out.next hb) (by have := HLEN.out; omega)
    cases e1
    cases e2
    exact (rsame2_any _ _ _ _ _ _ _ _ cL W h1 h2).mono fun e w' h => ⟨h.1, hb.trans (h.2.mono hb.size)⟩)
  have CK1 := Lib.hid (fun W (hb : Below w13.heap.size w13 W) => (KPK.out W (HY.out.i.next hb)).mono fun e w' (h : e = _ ∧ Below W.heap.size W w') => (⟨h.1, hb.trans (h.2.mono hb.size)⟩ : e = _ ∧ Below w13.heap.size w13 w'))
  have CK2 := Lib.hid (fun W (hb : Below w13.heap.size w13 W) => (KRK.out W (HX.out.i.next hb)).mono fun e w' (h : e = _ ∧ Below W.heap.size W w') => (⟨h.1, hb.trans (h.2.mono hb.size)⟩ : e = _ ∧ Below w13.heap.size w13 w'))
  go_upto_region 16 with fail
  go_cut [35] from 122 (fun s35 wc => s35 = .bool true ∧ Hid (Below w13.heap.size w13 wc))
  case first =>
    go_region_held3 (fun w' => Below w13.heap.size w13 w' ∧ w'.cell? ⟨w.heap.size, 0, none⟩ = some (.slice pf nf cf) ∧ w'.cell? ⟨w.heap.size, 1, none⟩ = some (.slice pl nl cl) ∧ w'.cell? ⟨w2.heap.size, 0, none⟩ = some (.slice pf' nf' cf') ∧ w'.cell? ⟨w2.heap.size, 1, none⟩ = some (.slice pl' nl' cl') ∧ w'.cell? ⟨w3.heap.size, 0, none⟩ = some (.int .i32 or_) ∧ w'.cell? ⟨w3.heap.size, 1, none⟩ = some (.int .u32 op) ∧ w'.cell? ⟨w3.heap.size, 2, none⟩ = some (.int .u32 om) ∧ w'.cell? ⟨w9.heap.size, 0, none⟩ = some (.int .i32 or_) ∧ w'.cell? ⟨w9.heap.size, 1, none⟩ = some (.int .u32 op) ∧ w'.cell? ⟨w9.heap.size, 2, none⟩ = some (.int .u32 om)) (first | exact ⟨(Below.refl _ _).drew, c0, c1, d0, d1, p0, p1, p2, q0, q1, q2⟩ | exact ⟨hacc, (hacc.cell (p := ⟨w.heap.size, 0, none⟩) hlt).trans c0, (hacc.cell (p := ⟨w.heap.size, 1, none⟩) hlt).trans c1, (hacc.cell (p := ⟨w2.heap.size, 0, none⟩) hltd).trans d0, (hacc.cell (p := ⟨w2.heap.size, 1, none⟩) hltd).trans d1, (hacc.cell (p := ⟨w3.heap.size, 0, none⟩) hltp).trans p0, (hacc.cell (p := ⟨w3.heap.size, 1, none⟩) hltp).trans p1, (hacc.cell (p := ⟨w3.heap.size, 2, none⟩) hltp).trans p2, (hacc.cell (p := ⟨w9.heap.size, 0, none⟩) hltq).trans q0, (hacc.cell (p := ⟨w9.heap.size, 1, none⟩) hltq).trans q1, (hacc.cell (p := ⟨w9.heap.size, 2, none⟩) hltq).trans q2⟩) (first | (go_at_call 22; refine (CS.out _ (by first | exact (Below.refl _ _).drew | exact hacc | exact hacc.drew)).mono ?_; rintro _ wq ⟨rfl, hacc⟩) | (go_at_call 9; refine (CK1.out _ (by first | exact (Below.refl _ _).drew | exact hacc | exact hacc.drew)).mono ?_; rintro _ wq ⟨rfl, hacc⟩) | (go_at_call 23; refine (CK2.out _ (by first | exact (Below.refl _ _).drew | exact hacc | exact hacc.drew)).mono ?_; rintro _ wq ⟨rfl, hacc⟩))
    all_goals
      (try go_wp2_with fail)
      go_meet
      exact ⟨rfl, hacc⟩
  case rest =>
  obtain ⟨rfl, HBc⟩ := hcut
  clear CS CK1 CK2 c0 c1 d0 d1 hlt hltd p0 p1 p2 q0 q1 q2 hltp hltq
  replace HX := Lib.hid (HX.out.next HBc.out)
  replace HY := Lib.hid (HY.out.next HBc.out)
  replace HO1 := Lib.hid (HO1.out.next HBc.out)
  replace HSn := Lib.hid (HSn.out.next HBc.out)
  replace HC := Lib.hid (HC.out.next HBc.out)
  replace HS5 := Lib.hid (HS5.out.next HBc.out)
  replace HD := Lib.hid (HD.out.next HBc.out)
  replace HO2 := Lib.hid (HO2.out.next HBc.out)
  replace HC2 := Lib.hid (HC2.out.next HBc.out)
  obtain ⟨w14, rfl⟩ : ∃ w14, w14 = wc := ⟨_, rfl⟩
  have HG0 := Lib.hid (show w14.grownBy w14 (Value.slice oc cL.length cc).ownBlock from ⟨rfl, rfl, rfl, Nat.le_refl _, fun _ _ _ => rfl⟩)
  have HCo := Lib.hid (show w14.ownsRow w4.heap.size 21 1 (.slice oc cL.length cc) cL.length (cL.map E32) from HC.out)
  have hlen := HLEN.out
  obtain ⟨n, hn⟩ : ∃ n, n = cL.length := ⟨_, rfl⟩
  rw [← hn] at HG0 HCo hlen HCQ ⊢
  have HN2 := Lib.hid hn
  clear hn
  go_wp2_with fail
  go_loopw [36] (fun iv wr => ∃ (k : Nat) (ys : List Value), iv = .int .i64 k ∧ k ≤ n ∧ Hid (wr.ownsRow w4.heap.size 21 1 (.slice oc n cc) n ys) ∧ Hid (w14.grownBy wr (Value.slice oc n cc).ownBlock)) (fun iv _ => n - (intOf iv).toNat)
  case atStart => exact ⟨0, _, rfl, Nat.zero_le _, HCo, HG0⟩
  case round =>
    obtain ⟨k, ys, rfl, hk, HOw, HG⟩ := hrel
    by_cases hkn : k < n
    · rcases HOw.out.2 with ⟨_, h1⟩ | ⟨g, cap, cur, he, h1, h2, h3, h4, h5, h6⟩
      · omega
      simp only [Value.slice.injEq] at he
      obtain ⟨rfl, _, rfl⟩ := he
      have hlen2 := HOw.out.1
      have hy := HOw.out.cellAt k (by omega)
      rw [List.getElem?_eq_getElem (by rw [hlen2]; omega)] at hy
      obtain ⟨y, hy2⟩ : ∃ y, wr.cell? ⟨g, k, none⟩ = some y := ⟨_, hy⟩
      clear hy hlen2
      have hfz := HOw.out.frozenAt k
      obtain ⟨hs1, hs2⟩ := HOw.out.stored k (.int .i32 81)
      have HO2' := Lib.hid hs1
      have HG2 := Lib.hid (HG.out.trans hs2)
      have hcap : cc ≤ 9223372036854775807 := by unfold maxLen at h4; omega
      clear hs1 hs2 h1 h2 h4 h5 h6
      go_wp2_with fail
      go_roundw
      case rel => exact ⟨k + 1, _, by go_num, by omega, HO2', HG2⟩
      case measure => simp [intOf]; omega
    · have hsz := HG.out.size
      have hB14 := HSn.out.b
      have HBn := Lib.hid (hB14.grown HG.out hB14.size (fun q hq => (HCQ.out q hq).1))
      have HXn := Lib.hid (HXc.out.next HBn.out)
      have HYn := Lib.hid (HYc.out.next HBn.out)
      have hDne : ∀ (v : Value) (B : Nat) (l : List Int), w5.heap.size ≤ B → Rw B v l w14 → wr.ownsRow B 21 1 v l.length (l.map E32) := fun v B l hB h => World.ownsRow.kept h HG.out (by
        cases hv : v.ownBlock with
        | none => exact Or.inl rfl
        | some q =>
          right
          intro e
          have a := (World.ownsRow.lt h q hv).1
          have b := (HCQ.out q e.symm).2
          omega)
      have HDr := Lib.hid (hDne _ _ _ hz57 HD.out)
      have HC2r := Lib.hid (hDne _ _ _ hz510 HC2.out)
      have KS := Lib.hid (show Calls Try.prog 22 #[.slice od n cd, .slice ox n cx] wr fun e w' => e = .returned (.bool true) ∧ Below wr.heap.size wr w' from by
        obtain ⟨r1, r2, r3, e1, h1⟩ := own_rs HDr.out (by have := HN2.out; omega)
        obtain ⟨s1, s2, s3, e2, h2⟩ := own_rs HC2r.out (by have := HN2.out; omega)
        cases e1
        cases e2
        have := rsame2_any _ _ _ _ cd _ _ cx cL wr h1 h2
        rw [← HN2.out] at this
        exact this)
      have HBw := Lib.hid HXn.out.below
      clear hDne hB14
      obtain ⟨W1, rfl⟩ : ∃ W1, W1 = wr := ⟨_, rfl⟩
      go_wp2_with fail
      refine KS.out.mono ?_
      rintro _ w16 ⟨rfl, hb⟩
      replace HXn := Lib.hid (HXn.out.next hb)
      replace HYn := Lib.hid (HYn.out.next hb)
      clear hb
      obtain ⟨c0, c1, hlt⟩ : w16.cell? ⟨w.heap.size, 0, none⟩ = some (.slice pf nf cf) ∧ w16.cell? ⟨w.heap.size, 1, none⟩ = some (.slice pl nl cl) ∧ w.heap.size < w16.heap.size := ⟨HXn.out.c0, HXn.out.c1, HXn.out.lt⟩
      obtain ⟨d0, d1, hltd⟩ : w16.cell? ⟨w2.heap.size, 0, none⟩ = some (.slice pf' nf' cf') ∧ w16.cell? ⟨w2.heap.size, 1, none⟩ = some (.slice pl' nl' cl') ∧ w2.heap.size < w16.heap.size := ⟨HYn.out.c0, HYn.out.c1, HYn.out.lt⟩
      go_wp2_with fail
      refine (KAK.out _ HXn.out.i HYn.out.i).mono ?_
      rintro _ w17 ⟨rfl, hb⟩
      have HB17 := Lib.hid (HXn.out.below.trans (hb.mono HXn.out.below.size))
      clear hb c0 c1 d0 d1 hlt hltd
      go_wp2_with fail
      go_ret
      exact ⟨rfl, HB17.out⟩
end Go.Proofs.Ytmbekgfbnapelaa
