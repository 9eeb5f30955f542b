/-
  WALKS OF THE DOCUMENT's ANSWER: cognateref03.Letters, Check, Text, Part, Turned, SameRunes.
-/
import Derived.Test.YtcibjgkifafohaaGreatDoorRwA
import Derived.Deep.RegionHeld3
namespace Go.Proofs.YtcibjgkifafohaaGreatDoor
open Go.RowKit Go.Lib
set_option linter.unusedVariables false

set_option maxHeartbeats 2000000 in
set_option maxRecDepth 100000 in
theorem rletters_any (A : Al) (s : ByteArray) (w : World) (hA : A.In w) (hT : Tabs w) (hs : s.size ≤ 9223372036854775807) : Calls Tryz.prog 39 #[A.v, .string s] w (LetPost A s w) := by
  unfold LetPost
  have kc := fun W h => rcheck_any A W h
  unfold RchkPost at kc
  cases hok : A.ok with
  | false =>
    have he : letE A s = 7 := by unfold letE; rw [hok]; rfl
    have hl : letL A s = [] := by unfold letL; rw [hok]; rfl
    rw [he, hl]
    rw [chk_no hok] at kc
    obtain ⟨pf, pl, nf, cf, nl, cl, hv, hnf, hnl, hpl, hcl, hpf, hcf⟩ := A.parts
    rw [hv] at kc ⊢
    have KC := Lib.hid kc; have HA := Lib.hid hA
    clear kc hA hT hv hnf hnl hpl hcl hpf hcf he hl hok
    go_enter Tryz.func39, Tryz.ntmps39
    go_wp2_with fail
    refine (KC.out _ (HA.out.alloc _)).mono ?_
    rintro e w1 ⟨rfl, hb1⟩
    have HB := Lib.hid (show Below w.heap.size w w1 from ((Below.refl _ _).alloc (Nat.le_refl _) _).trans (hb1.mono (by simp)))
    clear hb1
    go_wp2_with fail
    go_ret2
    exact ⟨.slice none 0 0, rfl, World.ownsRow_nil _ _ _ _, HB.out⟩
  | true =>
    have he : letE A s = rdW (rowL A) s := by unfold letE; rw [hok]; rfl
    have hl : letL A s = rdL (rowL A) s := by unfold letL; rw [hok]; rfl
    rw [he, hl]
    rw [chk_ok hok] at kc
    have kr := fun W hA hT => rread_any A s W hA hT hs
    unfold ReadPost at kr
    obtain ⟨E, hE⟩ : ∃ x, x = rdW (rowL A) s := ⟨_, rfl⟩
    obtain ⟨L, hL⟩ : ∃ x, x = rdL (rowL A) s := ⟨_, rfl⟩
    rw [← hE, ← hL] at kr ⊢
    obtain ⟨n, hn⟩ : ∃ n, n = L.length := ⟨_, rfl⟩
    rw [← hn] at kr ⊢
    obtain ⟨pf, pl, nf, cf, nl, cl, hv, hnf, hnl, hpl, hcl, hpf, hcf⟩ := A.parts
    rw [hv] at kc kr ⊢
    have hsx := Wx.start (F := .slice pf nf cf) (L := .slice pl nl cl) hA hT
    have HS := Lib.hid hsx; have KC := Lib.hid kc; have KR := Lib.hid kr
    clear kc kr hsx hA hT hv hnf hnl hpl hcl hpf hcf he hl hok hE hL hn
    go_enter Tryz.func39, Tryz.ntmps39
    go_wp2_with fail
    refine (KC.out _ HS.out.i).mono ?_
    rintro e w1 ⟨rfl, hb1⟩
    have hx := HS.out.next hb1
    obtain ⟨c0, c1, hlt⟩ : w1.cell? ⟨w.heap.size, 0, none⟩ = some (.slice pf nf cf) ∧ w1.cell? ⟨w.heap.size, 1, none⟩ = some (.slice pl nl cl) ∧ w.heap.size < w1.heap.size := ⟨hx.c0, hx.c1, hx.lt⟩
    have HX := Lib.hid hx
    clear hx hb1
    go_wp2_with fail
    refine (KR.out _ HX.out.i HX.out.t).mono ?_
    rintro e w2 ⟨v, rfl, ho, hb2⟩
    have HO := Lib.hid (own_base ho HX.out.below.size)
    have HB := Lib.hid (HX.out.below.trans (hb2.mono HX.out.below.size))
    obtain ⟨o, c, rfl⟩ := own_shape ho
    clear ho hb2
    go_wp2_with fail
    go_ret2
    exact ⟨_, rfl, HO.out, HB.out⟩
/-! ### a row of runes as a text -/
theorem conv_row {pr : Option Addr} {br r0 cr : Nat} {l : List Int} {w : World} (hR : RsIn pr br r0 l w) : (convert 40 9 (.slice pr l.length cr)).run Tryz.prog w = .ok (.string (strOf (textL l))) w := by
  by_cases h0 : 0 < l.length
  · obtain rfl := hR.at_ h0
    refine conv_runes w ⟨br, r0, none⟩ l.length cr l rfl fun j v hj => ?_
    obtain ⟨hj1, hj2⟩ := List.getElem?_eq_some_iff.1 hj
    have hj' : j < l.length := by simpa using hj1
    have h1 := hR.cells j hj'
    rw [Addr.add_lit]
    rw [h1, ← hj2, getD_at hj']
    simp
  · obtain rfl : l = [] := List.eq_nil_of_length_eq_zero (by omega)
    cases pr with
    | none => exact conv_runes_nil w 0 cr
    | some a => exact conv_runes w a 0 cr [] rfl fun j v hj => by simp at hj
end Go.Proofs.YtcibjgkifafohaaGreatDoor
