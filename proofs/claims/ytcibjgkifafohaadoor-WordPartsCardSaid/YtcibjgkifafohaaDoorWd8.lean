/-
  WALKS: word.Join, part, Part.
-/
import Derived.Test.YtcibjgkifafohaaDoorWd7
namespace Go.Proofs.YtcibjgkifafohaaDoor
open Go.RowKit Go.Lib
set_option linter.unusedVariables false

def joinE (A : Al) (l : List ByteArray) : Int := if A.ok then (if rdaE (rowL A) l = 0 then (if 256 < (alL l).length then 9 else 0) else rdaE (rowL A) l) else 7
def joinR (A : Al) (l : List ByteArray) : ByteArray := if joinE A l = 0 then strOf (textL (alL l)) else ByteArray.empty
def JoinPost (A : Al) (l : List ByteArray) (w : World) (e : Ending) (w' : World) : Prop := e = .returned (.tuple #[.string (joinR A l), .int .i64 (joinE A l)]) ∧ Below w.heap.size w w'
theorem rdaE_len {row : List Int} {l : List ByteArray} (h : rdaE row l = 0) : l.length ≤ 4096 := by
  unfold rdaE at h
  by_cases h4 : 4096 < l.length
  · rw [if_pos h4] at h; exact absurd h (by decide)
  · omega
set_option maxHeartbeats 4000000 in
set_option maxRecDepth 100000 in
theorem join_any (A : Al) (sr : Option Addr) (ur s0 cs : Nat) (l : List ByteArray) (w : World) (hA : A.In w) (hT : Tabs w) (hS : SsIn sr ur s0 l w) :
    Calls Tryd.prog 38 #[A.v, .slice sr l.length cs] w (JoinPost A l w) := by
  unfold JoinPost
  cases hok : A.ok with
  | false =>
    have he : joinE A l = 7 := by unfold joinE; rw [hok]; rfl
    have ht : joinR A l = ByteArray.empty := by unfold joinR; rw [he]; rfl
    rw [he, ht]
    have hr := fun W h => rowOf_no A W h hok
    unfold RowNo at hr
    obtain ⟨n, hn⟩ : ∃ n, n = l.length := ⟨_, rfl⟩
    obtain ⟨pf, pl, nf, cf, nl, cl, hv, hnf, hnl, hpl, hcl, hpf, hcf⟩ := A.parts
    rw [hv] at hr ⊢
    rw [← hn]
    have HR := Lib.hid hr; have HA := Lib.hid hA
    clear hr hA hT hS hv hnf hnl hpl hcl hpf hcf he ht hn
    go_enter Tryd.func38, Tryd.ntmps38
    go_wp2_with fail
    refine (HR.out _ (HA.out.alloc _)).mono ?_
    rintro e w1 ⟨o, c, rfl, hb1⟩
    have HB := Lib.hid (show Below w.heap.size w w1 from ((Below.refl _ _).alloc (Nat.le_refl _) _).trans (hb1.mono (by simp)))
    clear hb1
    go_wp2_with fail
    go_ret2
    exact ⟨rfl, HB.out⟩
  | true =>
    have hr := fun W h => rowOf_yes A W h hok
    unfold RowYes at hr
    have kra := fun pr br cr W hT hR hS => readAll_any pr br cr (rowL A) sr ur s0 cs l W hT hR hS
    unfold RdaPost at kra
    by_cases h0 : rdaE (rowL A) l = 0
    · have hle := rdaE_len h0
      have hal := alL_le l
      have he : joinE A l = if 256 < (alL l).length then 9 else 0 := by unfold joinE; rw [hok, if_pos rfl, if_pos h0]
      have ht : joinR A l = if 256 < (alL l).length then ByteArray.empty else strOf (textL (alL l)) := by
        unfold joinR; rw [he]
        by_cases h : 256 < (alL l).length
        · rw [if_pos h, if_pos h]; rfl
        · rw [if_neg h, if_neg h]; rfl
      rw [he, ht]
      have ktx := fun pr br cr W h => text_row pr br 0 cr (alL l) W h
      rw [h0] at kra
      have hors := fun (W : World) (B : Nat) (v : Value) (h : W.ownsRow B 21 1 v (alL l).length ((alL l).map E32)) => own_rs h (by omega)
      obtain ⟨n, hn⟩ : ∃ n, n = l.length := ⟨_, rfl⟩
      obtain ⟨m, hm⟩ : ∃ m, m = (rowL A).length := ⟨_, rfl⟩
      obtain ⟨k, hk⟩ : ∃ k, k = (alL l).length := ⟨_, rfl⟩
      obtain ⟨T, hT'⟩ : ∃ T, T = strOf (textL (alL l)) := ⟨_, rfl⟩
      obtain ⟨pf, pl, nf, cf, nl, cl, hv, hnf, hnl, hpl, hcl, hpf, hcf⟩ := A.parts
      rw [hv] at hr ⊢
      rw [← hm] at hr kra
      rw [← hn] at kra hle hal ⊢
      rw [← hk] at kra ktx hal hors ⊢
      rw [← hT'] at ktx ⊢
      have HR := Lib.hid hr; have HA := Lib.hid hA; have HT := Lib.hid hT; have HS := Lib.hid hS; have KRA := Lib.hid kra; have KTX := Lib.hid ktx; have HORS := Lib.hid hors
      clear hr hA hT hS kra ktx hors hv hnf hnl hpl hcl hpf hcf he ht hn hm hk hT' h0
      by_cases h256 : 256 < k
      · rw [if_pos h256, if_pos h256]
        go_enter Tryd.func38, Tryd.ntmps38
        go_wp2_with fail
        refine (HR.out _ (HA.out.alloc _)).mono ?_
        rintro e w1 ⟨qr, vr, cq, rfl, hrs, hbr, hb1⟩
        have HRS := Lib.hid hrs
        have hbw : Below w.heap.size w w1 := ((Below.refl _ _).alloc (Nat.le_refl _) _).trans (hb1.mono (by simp))
        have HB := Lib.hid hbw
        clear hb1 hbw hrs
        go_wp2_with fail
        refine (KRA.out _ _ _ _ (HT.out.next HB.out) HRS.out (HS.out.next HB.out)).mono ?_
        rintro e w2 ⟨va, ve, rfl, h1, _, hb2⟩
        obtain ⟨ha, hv⟩ := h1 trivial
        obtain ⟨o, c, rfl⟩ := own_shape ha
        obtain ⟨o', c', rfl⟩ := own_shape hv
        have HB2 := Lib.hid (HB.out.trans (hb2.mono HB.out.size))
        clear ha hv h1 hb2
        go_wp2_with fail
        go_ret2
        exact ⟨rfl, HB2.out⟩
      · rw [if_neg h256, if_neg h256]
        go_enter Tryd.func38, Tryd.ntmps38
        go_wp2_with fail
        refine (HR.out _ (HA.out.alloc _)).mono ?_
        rintro e w1 ⟨qr, vr, cq, rfl, hrs, hbr, hb1⟩
        have HRS := Lib.hid hrs
        have hbw : Below w.heap.size w w1 := ((Below.refl _ _).alloc (Nat.le_refl _) _).trans (hb1.mono (by simp))
        have HB := Lib.hid hbw
        clear hb1 hbw hrs
        go_wp2_with fail
        refine (KRA.out _ _ _ _ (HT.out.next HB.out) HRS.out (HS.out.next HB.out)).mono ?_
        rintro e w2 ⟨va, ve, rfl, h1, _, hb2⟩
        obtain ⟨ha, hv⟩ := h1 trivial
        obtain ⟨o', c', rfl⟩ := own_shape hv
        obtain ⟨ar, ab, ac, rfl, hra⟩ := HORS.out _ _ _ ha
        have HRA := Lib.hid hra
        have HB2 := Lib.hid (HB.out.trans (hb2.mono HB.out.size))
        clear ha hv h1 hb2 hra
        have hk256 : ¬ (256 : Int) < (k : Int) := by omega
        go_wp2_with fail
        refine (KTX.out _ _ _ _ HRA.out).mono ?_
        rintro e w3 ⟨rfl, rfl⟩
        go_wp2_with fail
        go_ret2
        exact ⟨rfl, HB2.out⟩
    · have he : joinE A l = rdaE (rowL A) l := by unfold joinE; rw [hok, if_pos rfl, if_neg h0]
      have ht : joinR A l = ByteArray.empty := by unfold joinR; rw [he, if_neg h0]
      rw [he, ht]
      obtain ⟨n, hn⟩ : ∃ n, n = l.length := ⟨_, rfl⟩
      obtain ⟨m, hm⟩ : ∃ m, m = (rowL A).length := ⟨_, rfl⟩
      obtain ⟨E, hE⟩ : ∃ E, E = rdaE (rowL A) l := ⟨_, rfl⟩
      obtain ⟨pf, pl, nf, cf, nl, cl, hv, hnf, hnl, hpl, hcl, hpf, hcf⟩ := A.parts
      rw [hv] at hr ⊢
      rw [← hm] at hr kra
      rw [← hn] at kra ⊢
      rw [← hE] at kra h0 ⊢
      have e1 : (E == 0) = false := by simp [h0]
      have e2 : (E != 0) = true := by simp [h0]
      have HR := Lib.hid hr; have HA := Lib.hid hA; have HT := Lib.hid hT; have HS := Lib.hid hS; have KRA := Lib.hid kra; have H0 := Lib.hid h0
      clear hr hA hT hS kra hv hnf hnl hpl hcl hpf hcf he ht hn hm hE h0
      go_enter Tryd.func38, Tryd.ntmps38
      go_wp2_with fail
      refine (HR.out _ (HA.out.alloc _)).mono ?_
      rintro e w1 ⟨qr, vr, cq, rfl, hrs, hbr, hb1⟩
      have HRS := Lib.hid hrs
      have hbw : Below w.heap.size w w1 := ((Below.refl _ _).alloc (Nat.le_refl _) _).trans (hb1.mono (by simp))
      have HB := Lib.hid hbw
      clear hb1 hbw hrs
      go_wp2_with fail
      refine (KRA.out _ _ _ _ (HT.out.next HB.out) HRS.out (HS.out.next HB.out)).mono ?_
      rintro e w2 ⟨va, ve, rfl, _, h1, hb2⟩
      obtain ⟨rfl, rfl⟩ := h1 H0.out
      have HB2 := Lib.hid (HB.out.trans (hb2.mono HB.out.size))
      clear h1 hb2
      go_wp2_with fail
      go_ret2
      exact ⟨rfl, HB2.out⟩

/-! ### Part -/
set_option maxHeartbeats 1000000 in
theorem part_some (g n cap a b : Nat) (w : World) (hab : a < b) (hbn : b ≤ n) (hn : n ≤ cap) (hc : cap ≤ 9223372036854775807) :
    Calls Tryd.prog 52 #[.slice (some ⟨g, 0, none⟩) n cap, .int .i64 a, .int .i64 b] w fun e w' => e = .returned (.slice (some ⟨g, a, none⟩) (b - a) (b - a)) ∧ w' = w := by
  have h0 : ¬ b - a = 0 := by omega
  go_enter Tryd.func52, Tryd.ntmps52
  go_wp2_with fail
  go_ret
  exact ⟨rfl, rfl⟩
set_option maxHeartbeats 1000000 in
theorem part_none (g n cap a : Nat) (w : World) (hbn : a ≤ n) (hn : n ≤ cap) (hc : cap ≤ 9223372036854775807) :
    Calls Tryd.prog 52 #[.slice (some ⟨g, 0, none⟩) n cap, .int .i64 a, .int .i64 a] w fun e w' => e = .returned (.slice (some ⟨g, 0, none⟩) 0 0) ∧ w' = w := by
  go_enter Tryd.func52, Tryd.ntmps52
  go_wp2_with fail
  go_ret
  exact ⟨rfl, rfl⟩
set_option maxHeartbeats 1000000 in
theorem part_nil (w : World) :
    Calls Tryd.prog 52 #[.slice none 0 0, .int .i64 0, .int .i64 0] w fun e w' => e = .returned (.slice none 0 0) ∧ w' = w := by
  go_enter Tryd.func52, Tryd.ntmps52
  go_wp2_with fail
  go_ret
  exact ⟨rfl, rfl⟩
end Go.Proofs.YtcibjgkifafohaaDoor
