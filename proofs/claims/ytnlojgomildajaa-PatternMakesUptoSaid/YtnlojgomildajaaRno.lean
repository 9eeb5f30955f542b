/-
  WALKS: cognateref04.Norm, Turned.
-/
import Derived.Test.YtnlojgomildajaaRpT
import Derived.Test.YtnlojgomildajaaRtr
import Derived.Test.YtnlojgomildajaaPtn
namespace Go.Proofs.Ytnlojgomildajaa
open Go.RowKit Go.Lib
set_option linter.unusedVariables false
/-- put of a whole tree onto nothing. -/
theorem rput_nil (tb : Bool) (pn : Option Addr) (bn n0 c : Nat) (ms : List NdM) (W : World) (h : NsIn pn bn n0 ms W) (hT : IsTree (nds ms)) :
    Calls Try.prog 34 #[.slice none 0 0, .slice pn ms.length c, .int .i64 0, .bool tb] W fun e w' => ∃ o n cv q, e = .returned (.slice o n cv) ∧ q.v = .agg #[.slice o n cv] ∧ nds q.ms = ((tr0 (nds ms)).tn tb).flat 0 ∧ Mine W.heap.size q w' ∧ Below W.heap.size W w' := by
  have hsz : (tr0 (nds ms)).sz ≤ 256 := by rw [tr0_sz hT]; exact hT.most
  refine (rput_any tb W.heap.size pn bn n0 c ms W rfl h 256 (tr0 (nds ms)) hsz 0 W (.slice none 0 0) [] (Below.refl _ _) (OutN.nil _ _ _) (tr0_at hT) (by simp; omega)).mono ?_
  rintro e w' ⟨v', ms', rfl, hout, hnd, hfk, hbut, _⟩
  obtain ⟨o, n, cv, rfl⟩ : ∃ o n c, v' = .slice o n c := by obtain ⟨o, c, h⟩ := hout.len; exact ⟨o, _, c, h⟩
  have hl : ms'.length ≤ 100000 := by
    have := congrArg List.length hnd
    rw [nds_length, Tr.flat_length, Tr.tn_sz] at this
    omega
  obtain ⟨q, h1, h2, h3⟩ := mine_of (show OutN W.heap.size (fun _ => False) (.slice o n cv) ms' w' from hout) hfk hl
  exact ⟨o, n, cv, q, rfl, h1, by rw [h2]; exact hnd, h3, hbut.below (Nat.le_refl _) (fun k hk e => by cases e)⟩
set_option maxHeartbeats 4000000 in
set_option maxRecDepth 100000 in
theorem rnorm_any (pn : Option Addr) (bn n0 c : Nat) (ms : List NdM) (w : World) (h : NsIn pn bn n0 ms w) (hT : IsTree (nds ms)) :
    Calls Try.prog 39 #[.agg #[.slice pn ms.length c]] w (MkPost (normN (nds ms)) w) := by
  obtain ⟨n, hn⟩ : ∃ n, n = ms.length := ⟨_, rfl⟩
  have kp := fun (W : World) (hW : Below w.heap.size w W) => rput_nil false pn bn n0 c ms W (h.next hW) hT
  have hA : Below w.heap.size w ((w.alloc (.cells #[.slice pn n c] 25)).alloc (.cells #[.slice none 0 0] 25)) := ((Below.refl _ _).alloc (Nat.le_refl _) _).alloc (by simp) _
  rw [← hn] at kp ⊢
  have KP := Lib.hid kp; have HA := Lib.hid hA
  clear kp hA h hn hT
  go_enter Try.func39, Try.ntmps39
  go_wp2_with fail
  refine (KP.out _ HA.out).mono ?_
  rintro e w2 ⟨o, n2, cv, q, rfl, hq, hnd, hmine, hb2⟩
  have d0 : w2.cell? ⟨w.heap.size + 1, 0, none⟩ = some (.slice none 0 0) := (hb2.cell (p := ⟨w.heap.size + 1, 0, none⟩) (by simp)).trans (by simp)
  have f0 : w2.frozen? ⟨w.heap.size + 1, 0, none⟩ = false := (hb2.frozen (p := ⟨w.heap.size + 1, 0, none⟩) (by simp)).trans (by simp)
  have hfin : ∀ u, MkPost (normN (nds ms)) w (.returned (.agg #[.slice o n2 cv])) (w2.setCell ⟨w.heap.size + 1, 0, none⟩ u) := fun u => by
    refine ⟨q, by rw [hq], hnd, ?_, (HA.out.trans (hb2.mono HA.out.size)).setCell (p := ⟨w.heap.size + 1, 0, none⟩) (Nat.le_succ _) _⟩
    have hb3 : But (fun k => k = w.heap.size + 1) w2 (w2.setCell ⟨w.heap.size + 1, 0, none⟩ u) := (But.refl (fun k => k = w.heap.size + 1) w2).setCell (p := ⟨w.heap.size + 1, 0, none⟩) (fun _ => rfl) _
    exact (hmine.keep hb3 (fun k h1 h2 e => by simp at h1; omega)).lower HA.out.size
  have HF := Lib.hid hfin
  clear hfin hq hnd hmine hb2 KP
  go_wp2_with fail
  refine bodyPost_ret (v := .agg #[.slice o n2 cv]) (by simp [results, Try.results39, go_sem, *]) rfl ?_
  exact HF.out _
set_option maxHeartbeats 4000000 in
set_option maxRecDepth 100000 in
theorem rturned_any (pn : Option Addr) (bn n0 c : Nat) (ms : List NdM) (w : World) (h : NsIn pn bn n0 ms w) :
    Calls Try.prog 15 #[.agg #[.slice pn ms.length c]] w (fun e w' => (treeB (nds ms) = true → MkPost2 0 (turnN (nds ms)) w e w') ∧ (treeB (nds ms) = false → MkPost2 40 [] w e w')) := by
  obtain ⟨n, hn⟩ : ∃ n, n = ms.length := ⟨_, rfl⟩
  obtain ⟨B, hB⟩ : ∃ B, B = treeB (nds ms) := ⟨_, rfl⟩
  have kt := fun (W : World) (hW : Below w.heap.size w W) => rtree_any pn bn n0 c ms W (h.next hW) B (by rw [hB]; exact treeB_iff _)
  have kp := fun (W : World) (hW : Below w.heap.size w W) (hT : IsTree (nds ms)) => rput_nil true pn bn n0 c ms W (h.next hW) hT
  rw [← hn] at kt kp ⊢
  rw [← hB]
  have KT := Lib.hid kt; have KP := Lib.hid kp; have HBE := Lib.hid hB
  have hA : Below w.heap.size w ((w.alloc (.cells #[.slice pn n c] 25)).alloc (.cells #[.slice none 0 0] 25)) := ((Below.refl _ _).alloc (Nat.le_refl _) _).alloc (by simp) _
  have HA := Lib.hid hA
  clear kt kp h hn hB hA
  go_enter Try.func15, Try.ntmps15
  go_wp2_with fail
  refine (KT.out _ HA.out).mono ?_
  rintro e w2 ⟨rfl, hb2⟩
  have c0 : w2.cell? ⟨w.heap.size, 0, none⟩ = some (.slice pn n c) := (hb2.cell (p := ⟨w.heap.size, 0, none⟩) (by simp; omega)).trans (by simp)
  have d0 : w2.cell? ⟨w.heap.size + 1, 0, none⟩ = some (.slice none 0 0) := (hb2.cell (p := ⟨w.heap.size + 1, 0, none⟩) (by simp)).trans (by simp)
  have f0 : w2.frozen? ⟨w.heap.size + 1, 0, none⟩ = false := (hb2.frozen (p := ⟨w.heap.size + 1, 0, none⟩) (by simp)).trans (by simp)
  have hz2 : w.heap.size + 2 ≤ w2.heap.size := by have := hb2.size; simp at this; omega
  have HB2 := Lib.hid (HA.out.trans (hb2.mono HA.out.size))
  have HD0 := Lib.hid d0; have HF0 := Lib.hid f0
  clear hb2 KT
  cases B with
  | false =>
    have HR := Lib.hid (fun u => mk2_none 40 w (w2.setCell ⟨w.heap.size + 1, 0, none⟩ u) (HB2.out.setCell (p := ⟨w.heap.size + 1, 0, none⟩) (Nat.le_succ _) u))
    go_wp2_with fail
    refine bodyPost_ret (v := .tuple #[.agg #[.slice none 0 0], .int .i64 40]) (by simp [results, Try.results15, go_sem, *]) rfl ?_
    exact HR.out _
  | true =>
    have hT : IsTree (nds ms) := (treeB_iff _).1 HBE.out.symm
    have HT := Lib.hid hT
    clear hT
    go_wp2_with fail
    refine (KP.out _ HB2.out HT.out).mono ?_
    rintro e w3 ⟨o, n2, cv, q, rfl, hq, hnd, hmine, hb3⟩
    have d3 := (hb3.cell (p := ⟨w.heap.size + 1, 0, none⟩) (by show w.heap.size + 1 < _; omega)).trans HD0.out
    have f3 := (hb3.frozen (p := ⟨w.heap.size + 1, 0, none⟩) (by show w.heap.size + 1 < _; omega)).trans HF0.out
    have hfin : ∀ u, MkPost2 0 (turnN (nds ms)) w (.returned (.tuple #[.agg #[.slice o n2 cv], .int .i64 0])) (w3.setCell ⟨w.heap.size + 1, 0, none⟩ u) := fun u => by
      refine ⟨q, by rw [hq]; rfl, hnd, ?_, (HB2.out.trans (hb3.mono HB2.out.size)).setCell (p := ⟨w.heap.size + 1, 0, none⟩) (Nat.le_succ _) _⟩
      have hb4 : But (fun k => k = w.heap.size + 1) w3 (w3.setCell ⟨w.heap.size + 1, 0, none⟩ u) := (But.refl (fun k => k = w.heap.size + 1) w3).setCell (p := ⟨w.heap.size + 1, 0, none⟩) (fun _ => rfl) _
      exact (hmine.keep hb4 (fun k h1 h2 e => by omega)).lower HB2.out.size
    have HF := Lib.hid hfin
    clear hfin hq hnd hmine hb3 KP c0 d0 f0
    go_wp2_with fail
    refine bodyPost_ret (v := .tuple #[.agg #[.slice o n2 cv], .int .i64 0]) (by simp [results, Try.results15, go_sem, *]) rfl ?_
    exact HF.out _
end Go.Proofs.Ytnlojgomildajaa
