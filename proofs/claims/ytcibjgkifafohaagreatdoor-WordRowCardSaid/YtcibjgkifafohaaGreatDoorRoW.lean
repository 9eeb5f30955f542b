/-
  WALKS: the document's Order, two, Cmp, Common.
  WALKS: the document's two, Cmp, Common.
  WALKS: the document's list, Join.
-/
import Derived.Test.YtcibjgkifafohaaGreatDoorRwB
import Derived.Test.YtcibjgkifafohaaGreatDoorOrB
import Derived.StillTailTactics
import Derived.Deep.Cut
import Derived.Deep.RegionHeld3
namespace Go.Proofs.YtcibjgkifafohaaGreatDoor
open Go.RowKit Go.Lib
set_option linter.unusedVariables false

theorem fnd_idx : ∀ (ls : List Ltr) (r : Int) (k : Nat), fnd ls r k = idxI (ls.map Ltr.r) r k
  | [], _, _ => rfl
  | x :: ls, r, k => by
    simp only [fnd, List.map_cons, idxI]
    rw [fnd_idx ls r (k + 1)]
    by_cases h : x.r = r
    · rw [if_pos h, if_pos h.symm]
    · rw [if_neg h, if_neg fun e => h e.symm]
theorem lex_lt {row l m : List Int} {k : Nat} (h1 : k < l.length) (h2 : k < m.length) (h : idxI row (l.getD k 0) 0 < idxI row (m.getD k 0) 0) : lexI (numL row (l.drop k)) (numL row (m.drop k)) = -1 := by
  rw [getD_at h1, getD_at h2] at h
  rw [List.drop_eq_getElem_cons h1, List.drop_eq_getElem_cons h2]
  simp only [numL, List.map_cons, lexI]
  rw [if_pos h]
theorem lex_gt {row l m : List Int} {k : Nat} (h1 : k < l.length) (h2 : k < m.length) (h : idxI row (m.getD k 0) 0 < idxI row (l.getD k 0) 0) : lexI (numL row (l.drop k)) (numL row (m.drop k)) = 1 := by
  rw [getD_at h1, getD_at h2] at h
  rw [List.drop_eq_getElem_cons h1, List.drop_eq_getElem_cons h2]
  simp only [numL, List.map_cons, lexI]
  rw [if_neg (by omega), if_pos h]
theorem lex_on {row l m : List Int} {k : Nat} (h1 : k < l.length) (h2 : k < m.length) (h : idxI row (l.getD k 0) 0 = idxI row (m.getD k 0) 0) : lexI (numL row (l.drop k)) (numL row (m.drop k)) = lexI (numL row (l.drop (k + 1))) (numL row (m.drop (k + 1))) := by
  rw [getD_at h1, getD_at h2] at h
  rw [List.drop_eq_getElem_cons h1, List.drop_eq_getElem_cons h2]
  simp only [numL, List.map_cons, lexI]
  rw [if_neg (by omega), if_neg (by omega)]
theorem lex_end {row l m : List Int} {k : Nat} (h1 : k ≤ l.length) (h2 : k ≤ m.length) (h : ¬ (k < l.length ∧ k < m.length)) :
    lexI (numL row (l.drop k)) (numL row (m.drop k)) = if l.length < m.length then -1 else if m.length < l.length then 1 else 0 := by
  by_cases h3 : l.length < m.length
  · rw [if_pos h3, List.drop_eq_nil_of_le (show l.length ≤ k by omega), List.drop_eq_getElem_cons (show k < m.length by omega)]
    rfl
  · by_cases h4 : m.length < l.length
    · rw [if_neg h3, if_pos h4, List.drop_eq_nil_of_le (show m.length ≤ k by omega), List.drop_eq_getElem_cons (show k < l.length by omega)]
      rfl
    · rw [if_neg h3, if_neg h4, List.drop_eq_nil_of_le (show m.length ≤ k by omega), List.drop_eq_nil_of_le (show l.length ≤ k by omega)]
      rfl

set_option maxHeartbeats 4000000 in
set_option maxRecDepth 100000 in
theorem rorder_any (A : Al) (qr tr : Option Addr) (ur s0 cs vr t0 ct : Nat) (l m : List Int) (w : World) (hA : A.In w) (hR : RsIn qr ur s0 l w) (hS : RsIn tr vr t0 m w) :
    Calls Tryz.prog 21 #[A.v, .slice qr l.length cs, .slice tr m.length ct] w fun e w' => e = .returned (.int .i64 (lexI (numL (rowL A) l) (numL (rowL A) m))) ∧ Below w.heap.size w w' := by
  have kn := fun r W h => number_any A r W h
  have hfi := fun r => fnd_idx A.ls r 0
  have hb1 := hR.big
  have hb2 := hS.big
  obtain ⟨R, hR'⟩ : ∃ R, R = lexI (numL (rowL A) l) (numL (rowL A) m) := ⟨_, rfl⟩
  have hR0 : R = lexI (numL (rowL A) (l.drop 0)) (numL (rowL A) (m.drop 0)) := hR'
  rw [← hR']
  have hle := fun k => lex_end (row := rowL A) (l := l) (m := m) (k := k)
  have hlt := fun k => lex_lt (row := rowL A) (l := l) (m := m) (k := k)
  have hgt := fun k => lex_gt (row := rowL A) (l := l) (m := m) (k := k)
  have hon := fun k => lex_on (row := rowL A) (l := l) (m := m) (k := k)
  obtain ⟨G, hG⟩ : ∃ G : Int → Int, ∀ r, G r = idxI (rowL A) r 0 := ⟨_, fun _ => rfl⟩
  have kn2 : ∀ r W, A.In W → Calls Tryz.prog 40 #[A.v, .int .i32 r] W fun e w' => e = .returned (.int .i64 (G r)) ∧ Below W.heap.size W w' := fun r W h => by
    have := kn r W h
    rw [hfi] at this
    rw [hG]
    exact this
  simp only [← hG] at hlt hgt hon
  obtain ⟨nl', hnl'⟩ : ∃ n, n = l.length := ⟨_, rfl⟩
  obtain ⟨nm, hnm⟩ : ∃ n, n = m.length := ⟨_, rfl⟩
  rw [← hnl', ← hnm] at hle ⊢
  rw [← hnl'] at hb1
  rw [← hnm] at hb2
  obtain ⟨pf, pl, nf, cf, nl, cl, hv, hnf, hnl, hpl, hcl, hpf, hcf⟩ := A.parts
  rw [hv] at kn2 ⊢
  have hs := Bx.start (F := .slice pf nf cf) (L := .slice pl nl cl) hA
  have hbx : Below w.heap.size w (w.alloc (.cells #[.slice pf nf cf, .slice pl nl cl] 25)) := (Below.refl _ _).alloc (Nat.le_refl _) _
  have HS := Lib.hid hs; have KN := Lib.hid kn2; have HLE := Lib.hid hle; have HLT := Lib.hid hlt; have HGT := Lib.hid hgt; have HON := Lib.hid hon; have HL := Lib.hid hR; have HM := Lib.hid hS; have HN1 := Lib.hid hnl'; have HN2 := Lib.hid hnm; have HR0 := Lib.hid hR0
  clear hs kn kn2 hle hlt hgt hon hR hS hnl' hnm hR0 hR' hfi hG hA hv hnf hnl hpl hcl hpf hcf hbx
  go_enter Tryz.func21, Tryz.ntmps21
  go_wp2_with fail
  go_loopw [7] (fun iv wr => ∃ k : Nat, iv = .int .i64 k ∧ k ≤ nl' ∧ k ≤ nm ∧ Hid (R = lexI (numL (rowL A) (l.drop k)) (numL (rowL A) (m.drop k))) ∧ Hid (Bx A (.slice pf nf cf) (.slice pl nl cl) w w.heap.size wr)) (fun iv _ => nl' - (intOf iv).toNat)
  case atStart => exact ⟨0, rfl, Nat.zero_le _, Nat.zero_le _, HR0, HS⟩
  case round =>
    clear HS HR0
    obtain ⟨k, rfl, hk1, hk2, HK, HX⟩ := hrel
    obtain ⟨c0, c1, hltb⟩ : wr.cell? ⟨w.heap.size, 0, none⟩ = some (.slice pf nf cf) ∧ wr.cell? ⟨w.heap.size, 1, none⟩ = some (.slice pl nl cl) ∧ w.heap.size < wr.heap.size := ⟨HX.out.c0, HX.out.c1, HX.out.lt⟩
    by_cases h1 : k < nl'
    · by_cases h2 : k < nm
      · have h1l : k < l.length := by have := HN1.out; omega
        have h2l : k < m.length := by have := HN2.out; omega
        obtain rfl := HL.out.at_ (by omega)
        obtain rfl := HM.out.at_ (by omega)
        have a0 := (HL.out.next HX.out.below).cells k h1l
        have hL' := HL.out.next HX.out.below
        have hM' := HM.out.next HX.out.below
        have l1 := HLT.out k h1l h2l
        have l2 := HGT.out k h1l h2l
        have l3 := HON.out k h1l h2l
        have hmc : ∀ W, Below wr.heap.size wr W → W.cell? ⟨vr, t0 + k, none⟩ = some (.int .i32 (m.getD k 0)) := fun W hb => (hM'.next hb).cells k h2l
        obtain ⟨q, hq⟩ : ∃ q, q = l.getD k 0 := ⟨_, rfl⟩
        obtain ⟨u, hu⟩ : ∃ q, q = m.getD k 0 := ⟨_, rfl⟩
        rw [← hq] at a0 l1 l2 l3
        rw [← hu] at hmc l1 l2 l3
        have kq := KN.out q
        have ku := KN.out u
        obtain ⟨I, hI⟩ : ∃ I, I = G q := ⟨_, rfl⟩
        obtain ⟨J, hJ⟩ : ∃ I, I = G u := ⟨_, rfl⟩
        rw [← hI] at kq l1 l2 l3
        rw [← hJ] at ku l1 l2 l3
        have KQ := Lib.hid kq; have KU := Lib.hid ku; have L1 := Lib.hid l1; have L2 := Lib.hid l2; have L3 := Lib.hid l3; have HMC := Lib.hid hmc
        have z1 : (k : Int) < (nl' : Int) := by omega
        have z2 : (k : Int) < (nm : Int) := by omega
        clear kq ku l1 l2 l3 hmc hq hu hI hJ hL' hM'
        go_wp2_with fail
        go_still_tail 5, (by kernel_rfl)
        change wpList _ _ _ _ _ wr.drew
        have hdr : Below wr.heap.size wr wr.drew := (Below.refl _ _).drew
        have HXd := Lib.hid (HX.out.next hdr)
        obtain ⟨W1, hW1⟩ : ∃ W1, W1 = wr.drew := ⟨_, rfl⟩
        rw [← hW1] at HXd hdr ⊢
        have HDR := Lib.hid hdr
        clear hW1 hdr a0 c0 c1 hltb
        go_wp2_with fail
        refine (KQ.out _ HXd.out.i).mono ?_
        rintro _ w2 ⟨rfl, hb2'⟩
        have HX2 := Lib.hid (HXd.out.next hb2')
        have HD2 := Lib.hid (HDR.out.trans (hb2'.mono HDR.out.size))
        have b0 := HMC.out _ HD2.out
        obtain ⟨c0, c1, hltb⟩ : w2.cell? ⟨w.heap.size, 0, none⟩ = some (.slice pf nf cf) ∧ w2.cell? ⟨w.heap.size, 1, none⟩ = some (.slice pl nl cl) ∧ w.heap.size < w2.heap.size := ⟨HX2.out.c0, HX2.out.c1, HX2.out.lt⟩
        clear hb2' HXd HDR HD2
        go_wp2_with fail
        go_still_tail 5, (by kernel_rfl)
        change wpList _ _ _ _ _ w2.drew
        have hdr : Below w2.heap.size w2 w2.drew := (Below.refl _ _).drew
        have HXd := Lib.hid (HX2.out.next hdr)
        obtain ⟨W2, hW2⟩ : ∃ W1, W1 = w2.drew := ⟨_, rfl⟩
        rw [← hW2] at HXd hdr ⊢
        clear hW2 hdr b0 c0 c1 hltb HX2
        go_wp2_with fail
        refine (KU.out _ HXd.out.i).mono ?_
        rintro _ w3 ⟨rfl, hb3⟩
        have HX3 := Lib.hid (HXd.out.next hb3)
        clear hb3 HXd
        by_cases hIJ : I < J
        · have HE := Lib.hid (L1.out hIJ)
          clear L1 L2 L3
          go_wp2_with fail
          go_ret
          exact ⟨by rw [HK.out, HE.out] <;> rfl, HX3.out.below⟩
        · by_cases hJI : J < I
          · have HE := Lib.hid (L2.out hJI)
            clear L1 L2 L3
            go_wp2_with fail
            go_ret
            exact ⟨by rw [HK.out, HE.out] <;> rfl, HX3.out.below⟩
          · have HE := Lib.hid (L3.out (by omega))
            clear L1 L2 L3
            go_wp2_with fail
            go_roundw
            case rel => exact ⟨k + 1, by go_num, by omega, by omega, by show _ = _; rw [HK.out, HE.out], HX3⟩
            case measure => simp [intOf]; omega
      · have HE := Lib.hid (HLE.out k (by have := HN1.out; omega) (by have := HN2.out; omega) (by have := HN1.out; have := HN2.out; omega))
        have z1 : (k : Int) < (nl' : Int) := by omega
        have z2 : ¬ (k : Int) < (nm : Int) := by omega
        have hx : ¬ nl' < nm := by omega
        have hy : nm < nl' := by omega
        have e1 := HE.out
        rw [if_neg hx, if_pos hy] at e1
        clear HE
        have HE := Lib.hid e1
        clear e1
        go_wp2_with fail
        go_ret
        exact ⟨by rw [HK.out, HE.out] <;> rfl, HX.out.below⟩
    · have HE := Lib.hid (HLE.out k (by have := HN1.out; omega) (by have := HN2.out; omega) (by have := HN1.out; have := HN2.out; omega))
      by_cases hx : nl' < nm
      · have e1 := HE.out
        rw [if_pos hx] at e1
        clear HE
        have HE := Lib.hid e1
        clear e1
        go_wp2_with fail
        go_ret
        exact ⟨by rw [HK.out, HE.out] <;> rfl, HX.out.below⟩
      · have hy : ¬ nm < nl' := by omega
        have e1 := HE.out
        rw [if_neg hx, if_neg hy] at e1
        clear HE
        have HE := Lib.hid e1
        clear e1
        go_wp2_with fail
        go_ret
        exact ⟨by rw [HK.out, HE.out] <;> rfl, HX.out.below⟩
end Go.Proofs.YtcibjgkifafohaaGreatDoor
namespace Go.Proofs.YtcibjgkifafohaaGreatDoor
open Go.RowKit Go.Lib
set_option linter.unusedVariables false

theorem rlet_yes {A : Al} {s : ByteArray} {w : World} (hA : A.In w) (hT : Tabs w) (hs : s.size ≤ 9223372036854775807) (h : letE A s = 0) : Calls Tryz.prog 39 #[A.v, .string s] w fun e w' => ∃ qr ur cs, e = .returned (.tuple #[.slice qr (letL A s).length cs, .int .i64 0]) ∧ RsIn qr ur 0 (letL A s) w' ∧ Below w.heap.size w w' := by
  refine (rletters_any A s w hA hT hs).mono ?_
  rintro e w' ⟨v, he, ho, hb⟩
  rw [h] at he
  have hl := letL_len A s
  obtain ⟨qr, ur, cs, rfl, hr⟩ := own_rs ho (by omega)
  exact ⟨qr, ur, cs, he, hr, hb⟩
theorem rlet_no {A : Al} {s : ByteArray} {w : World} (hA : A.In w) (hT : Tabs w) (hs : s.size ≤ 9223372036854775807) (h : ¬ letE A s = 0) : Calls Tryz.prog 39 #[A.v, .string s] w (LetNo (letE A s) w) := by
  refine (rletters_any A s w hA hT hs).mono ?_
  rintro e w' ⟨v, he, ho, hb⟩
  rw [letL_no h] at ho
  obtain ⟨o, c, rfl⟩ := own_shape ho
  exact ⟨o, c, he, hb⟩
theorem both_let (A : Al) (x y : ByteArray) : bothE A x y = if letE A x = 0 then letE A y else letE A x := by
  unfold bothE letE
  cases A.ok with
  | true => simp
  | false => simp
def TwoYes (l m : List Int) (w : World) (e : Ending) (w' : World) : Prop :=
  ∃ qr ur cs tr vr ct, e = .returned (.tuple #[.slice qr l.length cs, .slice tr m.length ct, .int .i64 0]) ∧ RsIn qr ur 0 l w' ∧ RsIn tr vr 0 m w' ∧ Below w.heap.size w w'
def TwoNo (E : Int) (w : World) (e : Ending) (w' : World) : Prop := e = .returned (.tuple #[.slice none 0 0, .slice none 0 0, .int .i64 E]) ∧ Below w.heap.size w w'
set_option maxHeartbeats 4000000 in
set_option maxRecDepth 100000 in
theorem two_yes (A : Al) (x y : ByteArray) (w : World) (hA : A.In w) (hT : Tabs w) (hsx : x.size ≤ 9223372036854775807) (hsy : y.size ≤ 9223372036854775807) (hx : letE A x = 0) (hy : letE A y = 0) :
    Calls Tryz.prog 20 #[A.v, .string x, .string y] w (TwoYes (letL A x) (letL A y) w) := by
  unfold TwoYes
  have k1 := fun W h1 h2 => rlet_yes (A := A) (s := x) (w := W) h1 h2 hsx hx
  have k2 := fun W h1 h2 => rlet_yes (A := A) (s := y) (w := W) h1 h2 hsy hy
  obtain ⟨nx, hnx⟩ : ∃ n, n = (letL A x).length := ⟨_, rfl⟩
  obtain ⟨ny, hny⟩ : ∃ n, n = (letL A y).length := ⟨_, rfl⟩
  rw [← hnx] at k1 ⊢
  rw [← hny] at k2 ⊢
  obtain ⟨pf, pl, nf, cf, nl, cl, hv, hnf, hnl, hpl, hcl, hpf, hcf⟩ := A.parts
  rw [hv] at k1 k2 ⊢
  have hs := Wx.start (F := .slice pf nf cf) (L := .slice pl nl cl) hA hT
  have HS := Lib.hid hs; have K1 := Lib.hid k1; have K2 := Lib.hid k2
  clear hs k1 k2 hnx hny hA hT hv hnf hnl hpl hcl hpf hcf hx hy
  go_enter Tryz.func20, Tryz.ntmps20
  go_wp2_with fail
  refine (K1.out _ (HS.out).i (HS.out).t).mono ?_
  rintro _ w1 ⟨qr, ur, cs, rfl, hr, hb⟩
  have hs := (HS.out).next hb
  obtain ⟨c0, c1, hlt⟩ : w1.cell? ⟨w.heap.size, 0, none⟩ = some (.slice pf nf cf) ∧ w1.cell? ⟨w.heap.size, 1, none⟩ = some (.slice pl nl cl) ∧ w.heap.size < w1.heap.size := ⟨hs.c0, hs.c1, hs.lt⟩
  clear HS
  have HS := Lib.hid hs; have HR := Lib.hid hr
  clear hs hr hb
  go_wp2_with fail
  refine (K2.out _ (HS.out).i (HS.out).t).mono ?_
  rintro _ w2 ⟨tr, vr, ct, rfl, hr2, hb⟩
  have HB := Lib.hid ((HS.out).next hb).below
  have HR1 := Lib.hid (HR.out.next hb); have HR2 := Lib.hid hr2
  clear HS HR hb hr2 c0 c1 hlt
  go_wp2_with fail
  go_ret3
  exact ⟨qr, ur, cs, tr, vr, ct, rfl, HR1.out, HR2.out, HB.out⟩
set_option maxHeartbeats 4000000 in
set_option maxRecDepth 100000 in
theorem two_no (A : Al) (x y : ByteArray) (w : World) (hA : A.In w) (hT : Tabs w) (hsx : x.size ≤ 9223372036854775807) (hsy : y.size ≤ 9223372036854775807) (h : ¬ bothE A x y = 0) :
    Calls Tryz.prog 20 #[A.v, .string x, .string y] w (TwoNo (bothE A x y) w) := by
  unfold TwoNo
  rw [both_let] at h ⊢
  by_cases hx : letE A x = 0
  · rw [if_pos hx] at h ⊢
    have k1 := fun W h1 h2 => rlet_yes (A := A) (s := x) (w := W) h1 h2 hsx hx
    have k2 := fun W h1 h2 => rlet_no (A := A) (s := y) (w := W) h1 h2 hsy h
    unfold LetNo at k2
    obtain ⟨nx, hnx⟩ : ∃ n, n = (letL A x).length := ⟨_, rfl⟩
    rw [← hnx] at k1
    obtain ⟨E, hE⟩ : ∃ E, E = letE A y := ⟨_, rfl⟩
    rw [← hE] at k2 h ⊢
    have e1 : (E == 0) = false := by simp [h]
    have e2 : (E != 0) = true := by simp [h]
    obtain ⟨pf, pl, nf, cf, nl, cl, hv, hnf, hnl, hpl, hcl, hpf, hcf⟩ := A.parts
    rw [hv] at k1 k2 ⊢
    have hs := Wx.start (F := .slice pf nf cf) (L := .slice pl nl cl) hA hT
    have HS := Lib.hid hs; have K1 := Lib.hid k1; have K2 := Lib.hid k2
    clear hs k1 k2 hnx hA hT hv hnf hnl hpl hcl hpf hcf hx h hE
    go_enter Tryz.func20, Tryz.ntmps20
    go_wp2_with fail
    refine (K1.out _ (HS.out).i (HS.out).t).mono ?_
    rintro _ w1 ⟨qr, ur, cs, rfl, hr, hb⟩
    have hs := (HS.out).next hb
    obtain ⟨c0, c1, hlt⟩ : w1.cell? ⟨w.heap.size, 0, none⟩ = some (.slice pf nf cf) ∧ w1.cell? ⟨w.heap.size, 1, none⟩ = some (.slice pl nl cl) ∧ w.heap.size < w1.heap.size := ⟨hs.c0, hs.c1, hs.lt⟩
    clear HS
    have HS := Lib.hid hs
    clear hs hr hb
    go_wp2_with fail
    refine (K2.out _ (HS.out).i (HS.out).t).mono ?_
    rintro _ w2 ⟨o, c, rfl, hb⟩
    have HB := Lib.hid ((HS.out).next hb).below
    clear HS hb c0 c1 hlt
    go_wp2_with fail
    go_ret3
    exact ⟨rfl, HB.out⟩
  · rw [if_neg hx] at h ⊢
    have k1 := fun W h1 h2 => rlet_no (A := A) (s := x) (w := W) h1 h2 hsx hx
    unfold LetNo at k1
    obtain ⟨E, hE⟩ : ∃ E, E = letE A x := ⟨_, rfl⟩
    rw [← hE] at k1 h ⊢
    have e1 : (E == 0) = false := by simp [h]
    have e2 : (E != 0) = true := by simp [h]
    obtain ⟨pf, pl, nf, cf, nl, cl, hv, hnf, hnl, hpl, hcl, hpf, hcf⟩ := A.parts
    rw [hv] at k1 ⊢
    have hs := Wx.start (F := .slice pf nf cf) (L := .slice pl nl cl) hA hT
    have HS := Lib.hid hs; have K1 := Lib.hid k1
    clear hs k1 hA hT hv hnf hnl hpl hcl hpf hcf hx h hE
    go_enter Tryz.func20, Tryz.ntmps20
    go_wp2_with fail
    refine (K1.out _ (HS.out).i (HS.out).t).mono ?_
    rintro _ w1 ⟨o, c, rfl, hb⟩
    have HB := Lib.hid ((HS.out).next hb).below
    clear HS hb
    go_wp2_with fail
    go_ret3
    exact ⟨rfl, HB.out⟩

theorem both_lets {A : Al} {x y : ByteArray} (h : bothE A x y = 0) : letE A x = 0 ∧ letE A y = 0 := by
  rw [both_let] at h
  by_cases hx : letE A x = 0
  · rw [if_pos hx] at h; exact ⟨hx, h⟩
  · rw [if_neg hx] at h; exact absurd h hx
set_option maxHeartbeats 4000000 in
set_option maxRecDepth 100000 in
theorem rcmp_any (A : Al) (x y : ByteArray) (w : World) (hA : A.In w) (hT : Tabs w) (hsx : x.size ≤ 9223372036854775807) (hsy : y.size ≤ 9223372036854775807) : Calls Tryz.prog 7 #[A.v, .string x, .string y] w (CmpPost A x y w) := by
  unfold CmpPost
  by_cases h : bothE A x y = 0
  · obtain ⟨hx, hy⟩ := both_lets h
    have f1 := let_word hx
    have f2 := let_word hy
    have k1 := fun W h1 h2 => two_yes A x y W h1 h2 hsx hsy hx hy
    unfold TwoYes at k1
    have hc := cmpR_lex h
    rw [f1.ru, f2.ru] at hc
    rw [h, hc]
    have k2 := fun qr ur cs tr vr ct W => rorder_any A qr tr ur 0 cs vr 0 ct (letL A x) (letL A y) W
    obtain ⟨l, hl⟩ : ∃ l, l = letL A x := ⟨_, rfl⟩
    obtain ⟨m, hm⟩ : ∃ l, l = letL A y := ⟨_, rfl⟩
    rw [← hl, ← hm] at k1 k2 ⊢
    obtain ⟨C, hC⟩ : ∃ C, C = lexI (numL (rowL A) l) (numL (rowL A) m) := ⟨_, rfl⟩
    rw [← hC] at k2 ⊢
    obtain ⟨n, hn⟩ : ∃ n, n = l.length := ⟨_, rfl⟩
    obtain ⟨j, hj⟩ : ∃ n, n = m.length := ⟨_, rfl⟩
    rw [← hn, ← hj] at k1 k2
    obtain ⟨pf, pl, nf, cf, nl, cl, hv, hnf, hnl, hpl, hcl, hpf, hcf⟩ := A.parts
    rw [hv] at k1 k2 ⊢
    have hs := Wx.start (F := .slice pf nf cf) (L := .slice pl nl cl) hA hT
    have HS := Lib.hid hs; have K1 := Lib.hid k1; have HN := Lib.hid hn; have HJ := Lib.hid hj; have HC := Lib.hid hC
    have K2 := Lib.hid k2
    clear hs k1 k2 hA hT hv hnf hnl hpl hcl hpf hcf hx hy h hl hm hC hn hj f1 f2 hc
    go_enter Tryz.func7, Tryz.ntmps7
    go_wp2_with fail
    refine (K1.out _ (HS.out).i (HS.out).t).mono ?_
    rintro _ w1 ⟨qr, ur, cs, tr, vr, ct, rfl, hr, hr2, hb⟩
    have hs := (HS.out).next hb
    obtain ⟨c0, c1, hlt⟩ : w1.cell? ⟨w.heap.size, 0, none⟩ = some (.slice pf nf cf) ∧ w1.cell? ⟨w.heap.size, 1, none⟩ = some (.slice pl nl cl) ∧ w.heap.size < w1.heap.size := ⟨hs.c0, hs.c1, hs.lt⟩
    clear HS
    have HS := Lib.hid hs; have HR := Lib.hid hr; have HR2 := Lib.hid hr2
    clear hs hr hr2 hb
    go_wp2_with fail
    refine (K2.out qr ur cs tr vr ct _ (HS.out).i HR.out HR2.out).mono ?_
    rintro _ w2 ⟨rfl, hb⟩
    have HB := Lib.hid ((HS.out).next hb).below
    clear HS hb c0 c1 hlt
    go_wp2_with fail
    go_ret2
    exact ⟨rfl, HB.out⟩
  · have k1 := fun W h1 h2 => two_no A x y W h1 h2 hsx hsy h
    unfold TwoNo at k1
    have hc : cmpR A x y = 0 := cmpR_no h
    rw [hc]
    obtain ⟨E, hE⟩ : ∃ E, E = bothE A x y := ⟨_, rfl⟩
    rw [← hE] at k1 h ⊢
    have e1 : (E == 0) = false := by simp [h]
    have e2 : (E != 0) = true := by simp [h]
    obtain ⟨pf, pl, nf, cf, nl, cl, hv, hnf, hnl, hpl, hcl, hpf, hcf⟩ := A.parts
    rw [hv] at k1 ⊢
    have hs := Wx.start (F := .slice pf nf cf) (L := .slice pl nl cl) hA hT
    have HS := Lib.hid hs; have K1 := Lib.hid k1
    clear hs k1 hA hT hv hnf hnl hpl hcl hpf hcf h hE hc
    go_enter Tryz.func7, Tryz.ntmps7
    go_wp2_with fail
    refine (K1.out _ (HS.out).i (HS.out).t).mono ?_
    rintro _ w1 ⟨rfl, hb⟩
    have HB := Lib.hid ((HS.out).next hb).below
    clear HS hb
    go_wp2_with fail
    go_ret2
    exact ⟨rfl, HB.out⟩
set_option maxHeartbeats 4000000 in
set_option maxRecDepth 100000 in
theorem rcommon_any (A : Al) (x y : ByteArray) (w : World) (hA : A.In w) (hT : Tabs w) (hsx : x.size ≤ 9223372036854775807) (hsy : y.size ≤ 9223372036854775807) : Calls Tryz.prog 9 #[A.v, .string x, .string y] w (fun e w' => e = .returned (.tuple #[.int .i64 (comN A x y : Nat), .int .i64 (bothE A x y)]) ∧ Below w.heap.size w w') := by
  by_cases h : bothE A x y = 0
  · obtain ⟨hx, hy⟩ := both_lets h
    have f1 := let_word hx
    have f2 := let_word hy
    have k1 := fun W h1 h2 => two_yes A x y W h1 h2 hsx hsy hx hy
    unfold TwoYes at k1
    have hc : comN A x y = comI (letL A x) (letL A y) := by unfold comN; rw [if_pos h, f1.ru, f2.ru]
    rw [h, hc]
    have hlx := letL_len A x
    have hly := letL_len A y
    obtain ⟨l, hl⟩ : ∃ l, l = letL A x := ⟨_, rfl⟩
    obtain ⟨m, hm⟩ : ∃ l, l = letL A y := ⟨_, rfl⟩
    rw [← hl, ← hm] at k1 ⊢
    rw [← hl] at hlx
    rw [← hm] at hly
    obtain ⟨C, hC⟩ : ∃ C, C = comI l m := ⟨_, rfl⟩
    rw [← hC]
    obtain ⟨n, hn⟩ : ∃ n, n = l.length := ⟨_, rfl⟩
    obtain ⟨j, hj⟩ : ∃ n, n = m.length := ⟨_, rfl⟩
    rw [← hn, ← hj] at k1
    rw [← hn] at hlx
    rw [← hj] at hly
    obtain ⟨pf, pl, nf, cf, nl, cl, hv, hnf, hnl, hpl, hcl, hpf, hcf⟩ := A.parts
    rw [hv] at k1 ⊢
    have hs := Wx.start (F := .slice pf nf cf) (L := .slice pl nl cl) hA hT
    have HS := Lib.hid hs; have K1 := Lib.hid k1; have HN := Lib.hid hn; have HJ := Lib.hid hj; have HC := Lib.hid hC
    clear hs k1 hA hT hv hnf hnl hpl hcl hpf hcf hx hy h hl hm hC hn hj f1 f2 hc
    go_enter Tryz.func9, Tryz.ntmps9
    go_wp2_with fail
    refine (K1.out _ (HS.out).i (HS.out).t).mono ?_
    rintro _ w1 ⟨qr, ur, cs, tr, vr, ct, rfl, hr, hr2, hb⟩
    have hs := (HS.out).next hb
    obtain ⟨c0, c1, hlt⟩ : w1.cell? ⟨w.heap.size, 0, none⟩ = some (.slice pf nf cf) ∧ w1.cell? ⟨w.heap.size, 1, none⟩ = some (.slice pl nl cl) ∧ w.heap.size < w1.heap.size := ⟨hs.c0, hs.c1, hs.lt⟩
    clear HS
    have HS := Lib.hid hs; have HR := Lib.hid hr; have HR2 := Lib.hid hr2
    clear hs hr hr2 hb
    go_wp2_with fail
    go_loopw [11] (fun iv wr => ∃ k : Nat, iv = .int .i64 k ∧ k ≤ n ∧ k ≤ j ∧ Hid (C = k + comI (l.drop k) (m.drop k)) ∧ Hid (Below w1.heap.size w1 wr)) (fun iv _ => n - (intOf iv).toNat)
    case atStart => exact ⟨0, rfl, Nat.zero_le _, Nat.zero_le _, by show _ = _; rw [HC.out]; simp, Below.refl _ _⟩
    case round =>
      obtain ⟨k, rfl, hk1, hk2, HK, HB⟩ := hrel
      have HF := Lib.hid (HS.out.below.trans (HB.out.mono HS.out.below.size))
      by_cases hkn : k < n
      · have hkl : k < l.length := by rw [← HN.out]; exact hkn
        have hz1 : (k : Int) < (n : Int) := by omega
        obtain rfl := HR.out.at_ (by omega)
        have a0 := (HR.out.next HB.out).cells k hkl
        rw [Nat.zero_add] at a0
        by_cases hkj : k < j
        · have hkm : k < m.length := by rw [← HJ.out]; exact hkj
          have hz2 : (k : Int) < (j : Int) := by omega
          obtain rfl := HR2.out.at_ (by omega)
          have b0 := (HR2.out.next HB.out).cells k hkm
          rw [Nat.zero_add] at b0
          have hy := comI_yes hkl hkm
          have hno := comI_no hkl hkm
          obtain ⟨q, hq⟩ : ∃ q, q = l.getD k 0 := ⟨_, rfl⟩
          obtain ⟨u, hu⟩ : ∃ q, q = m.getD k 0 := ⟨_, rfl⟩
          rw [← hq] at a0 hy hno
          rw [← hu] at b0 hy hno
          by_cases hqu : q = u
          · have HY := Lib.hid (hy hqu)
            clear hy hno hq hkl hkm hu
            subst hqu
            go_wp2_with fail
            go_quiet (fail)
            go_wp2_with fail
            go_roundw
            case rel => exact ⟨k + 1, by go_num, by omega, by omega, by show _ = _; rw [HK.out]; exact HY.out, below_drewN HB.out _⟩
            case measure => simp [intOf]; omega
          · have HNo := Lib.hid (hno hqu)
            have e1 : (q == u) = false := by simp [hqu]
            clear hy hno hq hkl hkm hu
            go_wp2_with fail
            go_quiet (fail)
            go_wp2_with fail
            go_ret2
            exact ⟨by rw [HK.out, HNo.out] <;> rfl, below_drewN HF.out _⟩
        · have hz2 : decide ((k : Int) < (j : Int)) = false := by simp; omega
          have HE := Lib.hid (comI_end2 (l := l) (m := m) (k := k) (by rw [← HJ.out]; omega))
          go_wp2_with fail
          go_quiet (fail)
          go_wp2_with fail
          go_ret2
          exact ⟨by rw [HK.out, HE.out] <;> rfl, below_drewN HF.out _⟩
      · have hz2 : decide ((k : Int) < (n : Int)) = false := by simp; omega
        have HE := Lib.hid (comI_end1 (l := l) (m := m) (k := k) (by rw [← HN.out]; omega))
        go_wp2_with fail
        go_quiet (fail)
        go_wp2_with fail
        go_ret2
        exact ⟨by rw [HK.out, HE.out] <;> rfl, below_drewN HF.out _⟩
  · have k1 := fun W h1 h2 => two_no A x y W h1 h2 hsx hsy h
    unfold TwoNo at k1
    have hc : comN A x y = 0 := by unfold comN; rw [if_neg h]
    rw [hc]
    obtain ⟨E, hE⟩ : ∃ E, E = bothE A x y := ⟨_, rfl⟩
    rw [← hE] at k1 h ⊢
    have e1 : (E == 0) = false := by simp [h]
    have e2 : (E != 0) = true := by simp [h]
    obtain ⟨pf, pl, nf, cf, nl, cl, hv, hnf, hnl, hpl, hcl, hpf, hcf⟩ := A.parts
    rw [hv] at k1 ⊢
    have hs := Wx.start (F := .slice pf nf cf) (L := .slice pl nl cl) hA hT
    have HS := Lib.hid hs; have K1 := Lib.hid k1
    clear hs k1 hA hT hv hnf hnl hpl hcl hpf hcf h hE hc
    go_enter Tryz.func9, Tryz.ntmps9
    go_wp2_with fail
    refine (K1.out _ (HS.out).i (HS.out).t).mono ?_
    rintro _ w1 ⟨rfl, hb⟩
    have HB := Lib.hid ((HS.out).next hb).below
    clear HS hb
    go_wp2_with fail
    go_ret2
    exact ⟨rfl, HB.out⟩
end Go.Proofs.YtcibjgkifafohaaGreatDoor
namespace Go.Proofs.YtcibjgkifafohaaGreatDoor
open Go.RowKit Go.Lib
set_option linter.unusedVariables false

def SizesIn (l : List ByteArray) : Prop := ∀ j, j < l.length → (l.getD j ByteArray.empty).size ≤ 9223372036854775807

set_option maxHeartbeats 4000000 in
set_option maxRecDepth 100000 in
theorem rlist_any (A : Al) (sr : Option Addr) (ur s0 cs : Nat) (l : List ByteArray) (w : World) (hA : A.In w) (hT : Tabs w) (hS : SsIn sr ur s0 l w) (hz : SizesIn l) :
    Calls Tryz.prog 31 #[A.v, .slice sr l.length cs] w fun e w' => e = .returned (.int .i64 (srtE A l)) ∧ Below w.heap.size w w' := by
  have kc := fun W h => rcheck_any A W h
  unfold RchkPost at kc
  have hbig := hS.big
  cases hok : A.ok with
  | false =>
    have he : srtE A l = 7 := by unfold srtE; rw [hok]; rfl
    rw [he]
    rw [chk_no hok] at kc
    obtain ⟨n, hn⟩ : ∃ n, n = l.length := ⟨_, rfl⟩
    rw [← hn]
    obtain ⟨pf, pl, nf, cf, nl, cl, hv, hnf, hnl, hpl, hcl, hpf, hcf⟩ := A.parts
    rw [hv] at kc ⊢
    have KC := Lib.hid kc; have HA := Lib.hid hA
    clear kc hA hS hz hbig hn hv hnf hnl hpl hcl hpf hcf he hok hT
    go_enter Tryz.func31, Tryz.ntmps31
    go_wp2_with fail
    refine (KC.out _ (HA.out.alloc _)).mono ?_
    rintro e w1 ⟨rfl, hb1⟩
    have HB := Lib.hid (show Below w.heap.size w w1 from ((Below.refl _ _).alloc (Nat.le_refl _) _).trans (hb1.mono (by simp)))
    clear hb1
    go_wp2_with fail
    go_ret
    exact ⟨rfl, HB.out⟩
  | true =>
    rw [chk_ok hok] at kc
    have he : srtE A l = rdaE (rowL A) l := by unfold srtE; rw [hok, if_pos rfl]
    rw [he]
    by_cases h4 : 4096 < l.length
    · have he2 : rdaE (rowL A) l = 4 := by unfold rdaE; rw [if_pos h4]
      rw [he2]
      obtain ⟨n, hn⟩ : ∃ n, n = l.length := ⟨_, rfl⟩
      rw [← hn] at h4 ⊢
      obtain ⟨pf, pl, nf, cf, nl, cl, hv, hnf, hnl, hpl, hcl, hpf, hcf⟩ := A.parts
      rw [hv] at kc ⊢
      have KC := Lib.hid kc; have HA := Lib.hid hA
      clear kc hA hS hz hbig hn hv hnf hnl hpl hcl hpf hcf he he2 hok hT
      go_enter Tryz.func31, Tryz.ntmps31
      go_wp2_with fail
      refine (KC.out _ (HA.out.alloc _)).mono ?_
      rintro e w1 ⟨rfl, hb1⟩
      have HB := Lib.hid (show Below w.heap.size w w1 from ((Below.refl _ _).alloc (Nat.le_refl _) _).trans (hb1.mono (by simp)))
      clear hb1
      go_wp2_with fail
      go_ret
      exact ⟨rfl, HB.out⟩
    · have he2 : rdaE (rowL A) l = alE (rowL A) l := by unfold rdaE; rw [if_neg h4]
      rw [he2]
      have kr := fun s W h1 h2 h3 => rread_any A s W h1 h2 h3
      unfold ReadPost at kr
      have hyes := fun k => alE_yes (row := rowL A) (l := l) (k := k)
      have hno := fun k => alE_no (row := rowL A) (l := l) (k := k)
      obtain ⟨R, hR⟩ : ∃ R, R = alE (rowL A) l := ⟨_, rfl⟩
      have hR0 : R = alE (rowL A) (l.drop 0) := hR
      rw [← hR]
      obtain ⟨n, hn⟩ : ∃ n, n = l.length := ⟨_, rfl⟩
      rw [← hn] at h4 ⊢
      obtain ⟨pf, pl, nf, cf, nl, cl, hv, hnf, hnl, hpl, hcl, hpf, hcf⟩ := A.parts
      rw [hv] at kc kr ⊢
      have hs := Wx.start (F := .slice pf nf cf) (L := .slice pl nl cl) hA hT
      have HS := Lib.hid hs; have KC := Lib.hid kc; have KR := Lib.hid kr; have HY := Lib.hid hyes; have HNo := Lib.hid hno; have HR0 := Lib.hid hR0; have HL := Lib.hid hS; have HZ := Lib.hid hz; have HN := Lib.hid hn
      clear hs kc kr hyes hno hR0 hR hS hz hn hA hT hbig hv hnf hnl hpl hcl hpf hcf he he2 hok
      go_enter Tryz.func31, Tryz.ntmps31
      go_wp2_with fail
      refine (KC.out _ HS.out.i).mono ?_
      rintro e w1 ⟨rfl, hb1⟩
      have HX1 := Lib.hid (HS.out.next hb1)
      clear hb1 HS
      go_wp2_with fail
      go_loopw [6] (fun iv wr => ∃ k : Nat, iv = .int .i64 k ∧ k ≤ n ∧ Hid (R = alE (rowL A) (l.drop k)) ∧ Hid (Wx A (.slice pf nf cf) (.slice pl nl cl) w w.heap.size wr)) (fun iv _ => n - (intOf iv).toNat)
      case atStart => exact ⟨0, rfl, Nat.zero_le _, HR0, HX1⟩
      case round =>
        clear HX1
        obtain ⟨k, rfl, hk, HK, HX⟩ := hrel
        obtain ⟨c0, c1, hlt⟩ : wr.cell? ⟨w.heap.size, 0, none⟩ = some (.slice pf nf cf) ∧ wr.cell? ⟨w.heap.size, 1, none⟩ = some (.slice pl nl cl) ∧ w.heap.size < wr.heap.size := ⟨HX.out.c0, HX.out.c1, HX.out.lt⟩
        by_cases hkn : k < n
        · have hkl : k < l.length := by have := HN.out; omega
          have hLr := HL.out.next HX.out.below
          obtain rfl := hLr.at_ (by omega)
          have a0 := hLr.cells k hkl
          have hsz := HZ.out k hkl
          have hy := HY.out k hkl
          have hno := HNo.out k hkl
          obtain ⟨q, hq⟩ : ∃ q, q = l.getD k ByteArray.empty := ⟨_, rfl⟩
          rw [← hq] at a0 hsz hy hno
          have kr := fun W h1 h2 => KR.out q W h1 h2 hsz
          obtain ⟨E, hE⟩ : ∃ E, E = rdW (rowL A) q := ⟨_, rfl⟩
          rw [← hE] at hy hno
          have kr2 : ∀ W, Below wr.heap.size wr W → Calls Tryz.prog 47 #[.agg #[.slice pf nf cf, .slice pl nl cl], .string q, .int .i64 64] W fun e w' => ∃ v, e = .returned (.tuple #[v, .int .i64 E]) ∧ Below wr.heap.size wr w' := fun W hb => by
            refine (kr W (HX.out.next hb).i (HX.out.next hb).t).mono ?_
            rintro e w' ⟨v, he, _, hb'⟩
            rw [hE]
            exact ⟨v, he, hb.trans (hb'.mono hb.size)⟩
          have C := Lib.hid kr2; have HYk := Lib.hid hy; have HNk := Lib.hid hno
          have hur : ur < wr.heap.size := lt_of_cell a0
          have z1 : (k : Int) < (n : Int) := by omega
          clear hLr hsz hy hno kr kr2 hq hE
          go_upto_region 9 with fail
          go_cut [7, 8] from 17 to 34 (fun s7 s8 wc => s8 = .int .i64 E ∧ Hid (Below wr.heap.size wr wc))
          case first =>
            go_region_held3 (fun w' => Below wr.heap.size wr w' ∧ w'.cell? ⟨w.heap.size, 0, none⟩ = some (.slice pf nf cf) ∧ w'.cell? ⟨w.heap.size, 1, none⟩ = some (.slice pl nl cl) ∧ w'.cell? ⟨ur, s0 + k, none⟩ = some (.string q)) (first | exact ⟨(Below.refl _ _).drew, c0, c1, a0⟩ | exact ⟨hacc, (hacc.cell (p := ⟨w.heap.size, 0, none⟩) hlt).trans c0, (hacc.cell (p := ⟨w.heap.size, 1, none⟩) hlt).trans c1, (hacc.cell (p := ⟨ur, s0 + k, none⟩) hur).trans a0⟩) (first | (go_at_call 47; refine (C.out _ (by first | exact (Below.refl _ _).drew | exact hacc | exact hacc.drew)).mono ?_; rintro _ wq ⟨v, rfl, hacc⟩))
            all_goals
              (try go_wp2_with fail)
              go_meet
              exact ⟨rfl, hacc⟩
          case rest =>
          obtain ⟨rfl, HBc⟩ := hcut
          have HXc := Lib.hid (HX.out.next HBc.out)
          clear HX HBc C c0 c1 hlt a0
          by_cases hE0 : E = 0
          · have HE := Lib.hid (HYk.out hE0)
            clear HYk HNk
            subst hE0
            go_wp2_with fail
            go_roundw
            case rel => exact ⟨k + 1, by go_num, by omega, by show _ = _; rw [HK.out]; exact HE.out, HXc⟩
            case measure => simp [intOf]; omega
          · have HE := Lib.hid (HNk.out hE0)
            have e1 : (E == 0) = false := by simp [hE0]
            have e2 : (E != 0) = true := by simp [hE0]
            clear HYk HNk hE0
            go_wp2_with fail
            go_ret
            exact ⟨by rw [HK.out, HE.out] <;> rfl, HXc.out.below⟩
        · have hR0 : R = 0 := by rw [HK.out, List.drop_eq_nil_of_le (by have := HN.out; omega)]; rfl
          have HE := Lib.hid hR0
          clear hR0
          go_wp2_with fail
          go_ret
          exact ⟨by rw [HE.out] <;> rfl, HX.out.below⟩
end Go.Proofs.YtcibjgkifafohaaGreatDoor
