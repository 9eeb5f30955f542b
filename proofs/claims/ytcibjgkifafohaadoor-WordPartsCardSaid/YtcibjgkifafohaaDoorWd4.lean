/-
  WALKS: word.rowOf, read, Letters.
-/
import Derived.Test.YtcibjgkifafohaaDoorWd3
namespace Go.Proofs.YtcibjgkifafohaaDoor
open Go.RowKit Go.Lib
set_option linter.unusedVariables false

theorem clsB_zero (k : Nat) : clsB k 0 0 = true := by unfold clsB; simp
theorem aac_zero (A : Al) : aacR A 0 0 = if A.ok then 0 else 7 := by unfold aacR; rw [clsB_zero]; rfl
theorem cls_zero {A : Al} (h : A.ok = true) : clsR A 0 0 = rowL A := by unfold clsR; rw [aac_zero, h, if_pos rfl, if_pos rfl, clsL_zero]; rfl
theorem cls_none {A : Al} (h : A.ok = false) : clsR A 0 0 = [] := by unfold clsR; rw [aac_zero, h]; rfl
theorem rowL_len {A : Al} (h : A.ok = true) : 1 ≤ (rowL A).length ∧ (rowL A).length ≤ 128 := by unfold rowL; rw [List.length_map]; exact Al.ok_ltrs h

def RowYes (A : Al) (w : World) (e : Ending) (w' : World) : Prop :=
  ∃ pr br cr, e = .returned (.tuple #[.slice pr (rowL A).length cr, .int .i64 0]) ∧ RsIn pr br 0 (rowL A) w' ∧ br < w'.heap.size ∧ Below w.heap.size w w'
def RowNo (w : World) (e : Ending) (w' : World) : Prop :=
  ∃ o c, e = .returned (.tuple #[.slice o 0 c, .int .i64 7]) ∧ Below w.heap.size w w'

set_option maxHeartbeats 1000000 in
set_option maxRecDepth 100000 in
theorem rowOf_yes (A : Al) (w : World) (hA : A.In w) (hok : A.ok = true) : Calls Tryd.prog 46 #[A.v] w (RowYes A w) := by
  have hlen := rowL_len hok
  have hc : ∀ W, A.In W → Calls Tryd.prog 79 #[A.v, .int .u32 0, .int .u32 0] W (RowYes A W) := fun W h => by
    refine (class_any A 0 0 W h (by decide) (by decide)).mono ?_
    rintro e w' ⟨v, he, ho, hb⟩
    rw [cls_zero hok] at ho
    rw [aac_zero, hok, if_pos rfl] at he
    obtain ⟨pr, br, cr, rfl, hr⟩ := own_rs ho (by omega)
    exact ⟨pr, br, cr, he, hr, lt_of_cell (hr.cells 0 (by omega)), hb⟩
  obtain ⟨pf, pl, nf, cf, nl, cl, hv, hnf, hnl, hpl, hcl, hpf, hcf⟩ := A.parts
  rw [hv] at hc ⊢
  have HC := Lib.hid hc; have HA := Lib.hid hA
  clear hc hA hv hnf hnl hpl hcl hpf hcf hlen
  go_enter Tryd.func46, Tryd.ntmps46
  go_wp2_with fail
  refine (HC.out _ (HA.out.alloc _)).mono ?_
  rintro e w1 ⟨pr, br, cr, rfl, hr, hbr, hb⟩
  have HR := Lib.hid hr; have HB := Lib.hid hb
  clear hr hb
  go_wp2_with fail
  go_ret2
  exact ⟨pr, br, cr, rfl, HR.out, hbr, ((Below.refl _ _).alloc (Nat.le_refl _) _).trans (HB.out.mono (by simp))⟩
set_option maxHeartbeats 1000000 in
set_option maxRecDepth 100000 in
theorem rowOf_no (A : Al) (w : World) (hA : A.In w) (hok : A.ok = false) : Calls Tryd.prog 46 #[A.v] w (RowNo w) := by
  have hc : ∀ W, A.In W → Calls Tryd.prog 79 #[A.v, .int .u32 0, .int .u32 0] W (RowNo W) := fun W h => by
    refine (class_any A 0 0 W h (by decide) (by decide)).mono ?_
    rintro e w' ⟨v, he, ho, hb⟩
    rw [cls_none hok] at ho
    rw [aac_zero, hok] at he
    obtain ⟨o, c, rfl⟩ := own_shape ho
    exact ⟨o, c, he, hb⟩
  obtain ⟨pf, pl, nf, cf, nl, cl, hv, hnf, hnl, hpl, hcl, hpf, hcf⟩ := A.parts
  rw [hv] at hc ⊢
  have HC := Lib.hid hc; have HA := Lib.hid hA
  clear hc hA hv hnf hnl hpl hcl hpf hcf
  go_enter Tryd.func46, Tryd.ntmps46
  go_wp2_with fail
  refine (HC.out _ (HA.out.alloc _)).mono ?_
  rintro e w1 ⟨o, c, rfl, hb⟩
  have HB := Lib.hid hb
  clear hb
  go_wp2_with fail
  go_ret2
  exact ⟨o, c, rfl, ((Below.refl _ _).alloc (Nat.le_refl _) _).trans (HB.out.mono (by simp))⟩

/-! ### read -/
def rdL (row : List Int) (s : ByteArray) : List Int := if rdW row s = 0 then runesL (cutW s) else []
def ReadPost (row : List Int) (s : ByteArray) (w : World) (e : Ending) (w' : World) : Prop :=
  ∃ v : Value, e = .returned (.tuple #[v, .int .i64 (rdW row s)]) ∧ w'.ownsRow w.heap.size 21 1 v (rdL row s).length ((rdL row s).map E32) ∧ Below w.heap.size w w'
theorem RsIn.kept {pr : Option Addr} {br r0 : Nat} {l : List Int} {w : World} (h : RsIn pr br r0 l w) (hbr : br < w.heap.size) : ∀ W, Below w.heap.size w W → RsIn pr br r0 l W := fun W hb => h.next hb
set_option maxHeartbeats 1000000 in
theorem read_any (pr : Option Addr) (br r0 cr : Nat) (row : List Int) (s : ByteArray) (w : World) (hT : Tabs w) (hR : RsIn pr br r0 row w) :
    Calls Tryd.prog 47 #[.slice pr row.length cr, .string s] w (ReadPost row s w) := by
  have hp := putRead_any w.heap.size (.slice none 0 0) [] pr br r0 cr row s w hT (fun W hb => hR.next hb) (World.ownsRow_nil _ _ _ _) (by decide) (Nat.le_refl _)
  have hq : Calls Tryd.prog 80 #[.slice none 0 0, .slice pr row.length cr, .string s] w (ReadPost row s w) := by
    refine hp.mono ?_
    rintro e w' ⟨v, he, h0, h1, hb⟩
    refine ⟨v, he, ?_, grown_none (by simpa [Value.ownBlock] using hb)⟩
    unfold rdL
    by_cases h : rdW row s = 0
    · rw [if_pos h]; exact (h0 h).1
    · rw [if_neg h]; rw [h1 h]; exact World.ownsRow_nil _ _ _ _
  have HP := Lib.hid hq
  clear hp hq hR hT
  go_enter Tryd.func47, Tryd.ntmps47
  go_wp2_with fail
  refine HP.out.mono ?_
  rintro e w1 ⟨v, rfl, ho, hb⟩
  have HO := Lib.hid ho; have HB := Lib.hid hb
  obtain ⟨o, c, rfl⟩ := own_shape ho
  clear ho hb
  go_wp2_with fail
  go_ret2
  exact ⟨_, rfl, HO.out, HB.out⟩

/-! ### Letters -/
def letE (A : Al) (s : ByteArray) : Int := if A.ok then rdW (rowL A) s else 7
def letL (A : Al) (s : ByteArray) : List Int := if A.ok then rdL (rowL A) s else []
def LetPost (A : Al) (s : ByteArray) (w : World) (e : Ending) (w' : World) : Prop :=
  ∃ v : Value, e = .returned (.tuple #[v, .int .i64 (letE A s)]) ∧ w'.ownsRow w.heap.size 21 1 v (letL A s).length ((letL A s).map E32) ∧ Below w.heap.size w w'
set_option maxHeartbeats 2000000 in
set_option maxRecDepth 100000 in
theorem letters_any (A : Al) (s : ByteArray) (w : World) (hA : A.In w) (hT : Tabs w) : Calls Tryd.prog 17 #[A.v, .string s] w (LetPost A s w) := by
  cases hok : A.ok with
  | true =>
    have hr := fun W h => rowOf_yes A W h hok
    have he : letE A s = rdW (rowL A) s := by unfold letE; rw [hok]; rfl
    have hl : letL A s = rdL (rowL A) s := by unfold letL; rw [hok]; rfl
    have hpost : LetPost A s w = fun e w' => ∃ v : Value, e = .returned (.tuple #[v, .int .i64 (rdW (rowL A) s)]) ∧ w'.ownsRow w.heap.size 21 1 v (rdL (rowL A) s).length ((rdL (rowL A) s).map E32) ∧ Below w.heap.size w w' := by rw [← he, ← hl]; rfl
    rw [hpost]
    have hrd := fun pr br cr W hT hR => read_any pr br 0 cr (rowL A) s W hT hR
    obtain ⟨n, hn⟩ : ∃ n, n = (rowL A).length := ⟨_, rfl⟩
    obtain ⟨pf, pl, nf, cf, nl, cl, hv, hnf, hnl, hpl, hcl, hpf, hcf⟩ := A.parts
    rw [hv] at hr ⊢
    unfold RowYes at hr
    rw [← hn] at hrd hr
    have HR := Lib.hid hr; have HRD := Lib.hid hrd; have HA := Lib.hid hA; have HT := Lib.hid hT
    clear hr he hl hpost hrd hn hA hT hv hnf hnl hpl hcl hpf hcf
    go_enter Tryd.func17, Tryd.ntmps17
    go_wp2_with fail
    refine (HR.out _ (HA.out.alloc _)).mono ?_
    rintro e w1 ⟨pr, br, cr, rfl, hrs, hbr, hb1⟩
    have HRS := Lib.hid hrs
    have hbw : Below w.heap.size w w1 := ((Below.refl _ _).alloc (Nat.le_refl _) _).trans (hb1.mono (by simp))
    have HB := Lib.hid hbw
    clear hrs hb1 hbw
    go_wp2_with fail
    refine (HRD.out pr br cr _ (HT.out.next HB.out) HRS.out).mono ?_
    rintro e w2 ⟨v, rfl, ho, hb2⟩
    have HO := Lib.hid ho; have HB2 := Lib.hid hb2
    obtain ⟨o, c, rfl⟩ := own_shape ho
    clear ho hb2
    go_wp2_with fail
    go_ret2
    exact ⟨_, rfl, own_base HO.out HB.out.size, HB.out.trans (HB2.out.mono HB.out.size)⟩
  | false =>
    have hr := fun W h => rowOf_no A W h hok
    have he : letE A s = 7 := by unfold letE; rw [hok]; rfl
    have hl : letL A s = [] := by unfold letL; rw [hok]; rfl
    have HE := Lib.hid he; have HL := Lib.hid hl
    obtain ⟨pf, pl, nf, cf, nl, cl, hv, hnf, hnl, hpl, hcl, hpf, hcf⟩ := A.parts
    rw [hv] at hr ⊢
    have HR := Lib.hid hr; have HA := Lib.hid hA
    clear hr he hl hA hT hv hnf hnl hpl hcl hpf hcf
    go_enter Tryd.func17, Tryd.ntmps17
    go_wp2_with fail
    refine (HR.out _ (HA.out.alloc _)).mono ?_
    rintro e w1 ⟨o, c, rfl, hb1⟩
    have HB := Lib.hid hb1
    clear hb1
    go_wp2_with fail
    go_ret2
    exact ⟨.slice none 0 0, by rw [HE.out] <;> rfl, by rw [HL.out]; exact World.ownsRow_nil _ _ _ _, ((Below.refl _ _).alloc (Nat.le_refl _) _).trans (HB.out.mono (by simp))⟩
end Go.Proofs.YtcibjgkifafohaaDoor
