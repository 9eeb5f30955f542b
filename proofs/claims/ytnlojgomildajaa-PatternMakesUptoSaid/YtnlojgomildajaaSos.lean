/-
  WALKS: Seq, Or, Star, Opt, both sides (made by program).
-/
import Derived.Test.YtnlojgomildajaaMde
namespace Go.Proofs.Ytnlojgomildajaa
open Go.RowKit Go.Lib
set_option linter.unusedVariables false
theorem one_ps (q : PtM) (w W : World) (h : NsIn q.pn q.bn q.n0 q.ms w) (hW : Below w.heap.size w W) (b : Nat) (hc : W.cell? ⟨b, 0, none⟩ = some (.slice q.pn q.ms.length q.c)) : PsIn (some ⟨b, 0, none⟩) b 0 [q] W :=
  ⟨fun _ => rfl, fun j hj => by
    obtain rfl : j = 0 := by simp at hj; exact hj
    exact hc, fun j hj => by
    obtain rfl : j = 0 := by simp at hj; exact hj
    exact ⟨h.next hW⟩, Nat.le_of_ble_eq_true rfl⟩

set_option maxHeartbeats 4000000 in
set_option maxRecDepth 100000 in
theorem pseq_any (pp : Option Addr) (bp p0 cp : Nat) (ps : List PtM) (w : World) (h : PsIn pp bp p0 ps w) :
    Calls Try.prog 6 #[.slice pp ps.length cp] w (MkPost2 (madeE (pN ps)) (madeR 6 (pN ps)) w) := by
  obtain ⟨n, hn⟩ : ∃ n, n = ps.length := ⟨_, rfl⟩
  obtain ⟨E, hE⟩ : ∃ E, E = madeE (pN ps) := ⟨_, rfl⟩
  obtain ⟨R, hR⟩ : ∃ R, R = madeR 6 (pN ps) := ⟨_, rfl⟩
  have k1 := fun (W : World) (hW : Below w.heap.size w W) => above_any 6 (by decide) pp bp p0 cp ps W (h.next hW)
  rw [← hn, ← hE, ← hR] at k1 ⊢
  have HK := Lib.hid k1
  have HUP := Lib.hid (fun (w1 : World) (hb : Below w.heap.size w w1) (hz : w.heap.size < w1.heap.size) e w' (h : MkPost2 E R w1 e w') => h.up hb hz)
  clear k1 hn hE hR h
  go_enter Try.func6, Try.ntmps6
  go_wp2_with fail
  refine (HK.out _ ((Below.refl _ _).alloc (Nat.le_refl _) _)).mono ?_
  intro e w' hpost
  obtain ⟨o, n2, c, rfl, hb, hRR⟩ := HUP.out _ ((Below.refl _ _).alloc (Nat.le_refl _) _) (by simp) e w' hpost
  have c0 := (hb.cell (p := ⟨w.heap.size, 0, none⟩) (by simp)).trans (show _ = some (Value.slice none 0 0) by simp)
  have f0 := (hb.frozen (p := ⟨w.heap.size, 0, none⟩) (by simp)).trans (show _ = false by simp)
  have HR := Lib.hid hRR
  clear hRR hb hpost HK HUP
  go_wp2_with fail
  refine bodyPost_ret (v := .tuple #[.agg #[.slice o n2 c], .int .i64 E]) (by simp [results, Try.results6, go_sem, *]) rfl ?_
  exact HR.out _

set_option maxHeartbeats 4000000 in
set_option maxRecDepth 100000 in
theorem por_any (pp : Option Addr) (bp p0 cp : Nat) (ps : List PtM) (w : World) (h : PsIn pp bp p0 ps w) :
    Calls Try.prog 8 #[.slice pp ps.length cp] w (MkPost2 (madeE (pN ps)) (madeR 7 (pN ps)) w) := by
  obtain ⟨n, hn⟩ : ∃ n, n = ps.length := ⟨_, rfl⟩
  obtain ⟨E, hE⟩ : ∃ E, E = madeE (pN ps) := ⟨_, rfl⟩
  obtain ⟨R, hR⟩ : ∃ R, R = madeR 7 (pN ps) := ⟨_, rfl⟩
  have k1 := fun (W : World) (hW : Below w.heap.size w W) => above_any 7 (by decide) pp bp p0 cp ps W (h.next hW)
  rw [← hn, ← hE, ← hR] at k1 ⊢
  have HK := Lib.hid k1
  have HUP := Lib.hid (fun (w1 : World) (hb : Below w.heap.size w w1) (hz : w.heap.size < w1.heap.size) e w' (h : MkPost2 E R w1 e w') => h.up hb hz)
  clear k1 hn hE hR h
  go_enter Try.func8, Try.ntmps8
  go_wp2_with fail
  refine (HK.out _ ((Below.refl _ _).alloc (Nat.le_refl _) _)).mono ?_
  intro e w' hpost
  obtain ⟨o, n2, c, rfl, hb, hRR⟩ := HUP.out _ ((Below.refl _ _).alloc (Nat.le_refl _) _) (by simp) e w' hpost
  have c0 := (hb.cell (p := ⟨w.heap.size, 0, none⟩) (by simp)).trans (show _ = some (Value.slice none 0 0) by simp)
  have f0 := (hb.frozen (p := ⟨w.heap.size, 0, none⟩) (by simp)).trans (show _ = false by simp)
  have HR := Lib.hid hRR
  clear hRR hb hpost HK HUP
  go_wp2_with fail
  refine bodyPost_ret (v := .tuple #[.agg #[.slice o n2 c], .int .i64 E]) (by simp [results, Try.results8, go_sem, *]) rfl ?_
  exact HR.out _

set_option maxHeartbeats 4000000 in
set_option maxRecDepth 100000 in
theorem pstar_any (q : PtM) (w : World) (h : NsIn q.pn q.bn q.n0 q.ms w) :
    Calls Try.prog 10 #[q.v] w (MkPost2 (madeE [nds q.ms]) (madeR 8 [nds q.ms]) w) := by
  obtain ⟨n, hn⟩ : ∃ n, n = q.ms.length := ⟨_, rfl⟩
  obtain ⟨pn, hpn⟩ : ∃ n, n = q.pn := ⟨_, rfl⟩
  obtain ⟨cq, hcq⟩ : ∃ n, n = q.c := ⟨_, rfl⟩
  obtain ⟨E, hE⟩ : ∃ E, E = madeE [nds q.ms] := ⟨_, rfl⟩
  obtain ⟨R, hR⟩ : ∃ R, R = madeR 8 [nds q.ms] := ⟨_, rfl⟩
  have k1 := fun (W : World) (hW : Below w.heap.size w W) (b : Nat) (hc : W.cell? ⟨b, 0, none⟩ = some (.slice q.pn q.ms.length q.c)) => above_any 8 (by decide) (some ⟨b, 0, none⟩) b 0 1 [q] W (one_ps q w W h hW b hc)
  unfold PtM.v
  simp only [show pN [q] = [nds q.ms] from rfl] at k1
  rw [← hn, ← hpn, ← hcq, ← hE, ← hR] at k1
  rw [← hn, ← hpn, ← hcq, ← hE, ← hR]
  have HK := Lib.hid k1
  have hA : Below w.heap.size w (w.alloc (.cells #[.slice pn n cq] 25)) := (Below.refl _ _).alloc (Nat.le_refl _) _
  have HA := Lib.hid hA
  have HUP := Lib.hid (fun (w1 : World) (hb : Below (w.alloc (.cells #[.slice pn n cq] 25)).heap.size (w.alloc (.cells #[.slice pn n cq] 25)) w1) (hz : (w.alloc (.cells #[.slice pn n cq] 25)).heap.size < w1.heap.size) e w' (h : MkPost2 E R w1 e w') => h.up hb hz)
  have hlit := (three_boxes w (.slice pn n cq) (.slice none 0 0) (.slice pn n cq) 25 25 25)
  have HL := Lib.hid hlit
  clear k1 hn hpn hcq hE hR h hA hlit
  go_enter Try.func10, Try.ntmps10
  go_wp2_with fail
  refine (HK.out _ ?_ _ ?_).mono ?_
  case refine_1 => exact ((HA.out.alloc (by simp) _).alloc (by simp; omega) _)
  case refine_2 => exact HL.out.2.2.1
  intro e w' hpost
  obtain ⟨o, n2, c, rfl, hb, hRR⟩ := HUP.out _ (((Below.refl _ _).alloc (Nat.le_refl _) _).alloc (by simp) _) (by simp) e w' hpost
  have c0 := (hb.cell (p := ⟨w.heap.size + 1, 0, none⟩) (by simp)).trans HL.out.2.1
  have f0 : w'.frozen? ⟨w.heap.size + 1, 0, none⟩ = false := (hb.frozen (p := ⟨w.heap.size + 1, 0, none⟩) (by simp)).trans (by
    have hb3 : Below ((w.alloc (.cells #[.slice pn n cq] 25)).alloc (.cells #[.slice none 0 0] 25)).heap.size ((w.alloc (.cells #[.slice pn n cq] 25)).alloc (.cells #[.slice none 0 0] 25)) (((w.alloc (.cells #[.slice pn n cq] 25)).alloc (.cells #[.slice none 0 0] 25)).alloc (.cells #[.slice pn n cq] 25)) := (Below.refl _ _).alloc (Nat.le_refl _) _
    exact (hb3.frozen (p := ⟨w.heap.size + 1, 0, none⟩) (by simp)).trans (by simp))
  have HR := Lib.hid (fun u => (hRR u).down (w := w) HA.out)
  clear hRR hb hpost HK HUP
  go_wp2_with fail
  refine bodyPost_ret (v := .tuple #[.agg #[.slice o n2 c], .int .i64 E]) (by simp [results, Try.results10, go_sem, *]) rfl ?_
  have h := HR.out (.slice o n2 c)
  simp only [World.size_alloc] at h
  exact h

set_option maxHeartbeats 4000000 in
set_option maxRecDepth 100000 in
theorem popt_any (q : PtM) (w : World) (h : NsIn q.pn q.bn q.n0 q.ms w) :
    Calls Try.prog 12 #[q.v] w (MkPost2 (madeE [nds q.ms]) (madeR 9 [nds q.ms]) w) := by
  obtain ⟨n, hn⟩ : ∃ n, n = q.ms.length := ⟨_, rfl⟩
  obtain ⟨pn, hpn⟩ : ∃ n, n = q.pn := ⟨_, rfl⟩
  obtain ⟨cq, hcq⟩ : ∃ n, n = q.c := ⟨_, rfl⟩
  obtain ⟨E, hE⟩ : ∃ E, E = madeE [nds q.ms] := ⟨_, rfl⟩
  obtain ⟨R, hR⟩ : ∃ R, R = madeR 9 [nds q.ms] := ⟨_, rfl⟩
  have k1 := fun (W : World) (hW : Below w.heap.size w W) (b : Nat) (hc : W.cell? ⟨b, 0, none⟩ = some (.slice q.pn q.ms.length q.c)) => above_any 9 (by decide) (some ⟨b, 0, none⟩) b 0 1 [q] W (one_ps q w W h hW b hc)
  unfold PtM.v
  simp only [show pN [q] = [nds q.ms] from rfl] at k1
  rw [← hn, ← hpn, ← hcq, ← hE, ← hR] at k1
  rw [← hn, ← hpn, ← hcq, ← hE, ← hR]
  have HK := Lib.hid k1
  have hA : Below w.heap.size w (w.alloc (.cells #[.slice pn n cq] 25)) := (Below.refl _ _).alloc (Nat.le_refl _) _
  have HA := Lib.hid hA
  have HUP := Lib.hid (fun (w1 : World) (hb : Below (w.alloc (.cells #[.slice pn n cq] 25)).heap.size (w.alloc (.cells #[.slice pn n cq] 25)) w1) (hz : (w.alloc (.cells #[.slice pn n cq] 25)).heap.size < w1.heap.size) e w' (h : MkPost2 E R w1 e w') => h.up hb hz)
  have hlit := (three_boxes w (.slice pn n cq) (.slice none 0 0) (.slice pn n cq) 25 25 25)
  have HL := Lib.hid hlit
  clear k1 hn hpn hcq hE hR h hA hlit
  go_enter Try.func12, Try.ntmps12
  go_wp2_with fail
  refine (HK.out _ ?_ _ ?_).mono ?_
  case refine_1 => exact ((HA.out.alloc (by simp) _).alloc (by simp; omega) _)
  case refine_2 => exact HL.out.2.2.1
  intro e w' hpost
  obtain ⟨o, n2, c, rfl, hb, hRR⟩ := HUP.out _ (((Below.refl _ _).alloc (Nat.le_refl _) _).alloc (by simp) _) (by simp) e w' hpost
  have c0 := (hb.cell (p := ⟨w.heap.size + 1, 0, none⟩) (by simp)).trans HL.out.2.1
  have f0 : w'.frozen? ⟨w.heap.size + 1, 0, none⟩ = false := (hb.frozen (p := ⟨w.heap.size + 1, 0, none⟩) (by simp)).trans (by
    have hb3 : Below ((w.alloc (.cells #[.slice pn n cq] 25)).alloc (.cells #[.slice none 0 0] 25)).heap.size ((w.alloc (.cells #[.slice pn n cq] 25)).alloc (.cells #[.slice none 0 0] 25)) (((w.alloc (.cells #[.slice pn n cq] 25)).alloc (.cells #[.slice none 0 0] 25)).alloc (.cells #[.slice pn n cq] 25)) := (Below.refl _ _).alloc (Nat.le_refl _) _
    exact (hb3.frozen (p := ⟨w.heap.size + 1, 0, none⟩) (by simp)).trans (by simp))
  have HR := Lib.hid (fun u => (hRR u).down (w := w) HA.out)
  clear hRR hb hpost HK HUP
  go_wp2_with fail
  refine bodyPost_ret (v := .tuple #[.agg #[.slice o n2 c], .int .i64 E]) (by simp [results, Try.results12, go_sem, *]) rfl ?_
  have h := HR.out (.slice o n2 c)
  simp only [World.size_alloc] at h
  exact h

set_option maxHeartbeats 4000000 in
set_option maxRecDepth 100000 in
theorem rseq_any (pp : Option Addr) (bp p0 cp : Nat) (ps : List PtM) (w : World) (h : PsIn pp bp p0 ps w) :
    Calls Try.prog 7 #[.slice pp ps.length cp] w (MkPost2 (madeE (pN ps)) (madeR 6 (pN ps)) w) := by
  obtain ⟨n, hn⟩ : ∃ n, n = ps.length := ⟨_, rfl⟩
  obtain ⟨E, hE⟩ : ∃ E, E = madeE (pN ps) := ⟨_, rfl⟩
  obtain ⟨R, hR⟩ : ∃ R, R = madeR 6 (pN ps) := ⟨_, rfl⟩
  have k1 := fun (W : World) (hW : Below w.heap.size w W) => made_any 6 (by decide) pp bp p0 cp ps W (h.next hW)
  rw [← hn, ← hE, ← hR] at k1 ⊢
  have HK := Lib.hid k1
  have HUP := Lib.hid (fun (w1 : World) (hb : Below w.heap.size w w1) (hz : w.heap.size < w1.heap.size) e w' (h : MkPost2 E R w1 e w') => h.up hb hz)
  clear k1 hn hE hR h
  go_enter Try.func7, Try.ntmps7
  go_wp2_with fail
  refine (HK.out _ ((Below.refl _ _).alloc (Nat.le_refl _) _)).mono ?_
  intro e w' hpost
  obtain ⟨o, n2, c, rfl, hb, hRR⟩ := HUP.out _ ((Below.refl _ _).alloc (Nat.le_refl _) _) (by simp) e w' hpost
  have c0 := (hb.cell (p := ⟨w.heap.size, 0, none⟩) (by simp)).trans (show _ = some (Value.slice none 0 0) by simp)
  have f0 := (hb.frozen (p := ⟨w.heap.size, 0, none⟩) (by simp)).trans (show _ = false by simp)
  have HR := Lib.hid hRR
  clear hRR hb hpost HK HUP
  go_wp2_with fail
  refine bodyPost_ret (v := .tuple #[.agg #[.slice o n2 c], .int .i64 E]) (by simp [results, Try.results7, go_sem, *]) rfl ?_
  exact HR.out _

set_option maxHeartbeats 4000000 in
set_option maxRecDepth 100000 in
theorem ror_any (pp : Option Addr) (bp p0 cp : Nat) (ps : List PtM) (w : World) (h : PsIn pp bp p0 ps w) :
    Calls Try.prog 9 #[.slice pp ps.length cp] w (MkPost2 (madeE (pN ps)) (madeR 7 (pN ps)) w) := by
  obtain ⟨n, hn⟩ : ∃ n, n = ps.length := ⟨_, rfl⟩
  obtain ⟨E, hE⟩ : ∃ E, E = madeE (pN ps) := ⟨_, rfl⟩
  obtain ⟨R, hR⟩ : ∃ R, R = madeR 7 (pN ps) := ⟨_, rfl⟩
  have k1 := fun (W : World) (hW : Below w.heap.size w W) => made_any 7 (by decide) pp bp p0 cp ps W (h.next hW)
  rw [← hn, ← hE, ← hR] at k1 ⊢
  have HK := Lib.hid k1
  have HUP := Lib.hid (fun (w1 : World) (hb : Below w.heap.size w w1) (hz : w.heap.size < w1.heap.size) e w' (h : MkPost2 E R w1 e w') => h.up hb hz)
  clear k1 hn hE hR h
  go_enter Try.func9, Try.ntmps9
  go_wp2_with fail
  refine (HK.out _ ((Below.refl _ _).alloc (Nat.le_refl _) _)).mono ?_
  intro e w' hpost
  obtain ⟨o, n2, c, rfl, hb, hRR⟩ := HUP.out _ ((Below.refl _ _).alloc (Nat.le_refl _) _) (by simp) e w' hpost
  have c0 := (hb.cell (p := ⟨w.heap.size, 0, none⟩) (by simp)).trans (show _ = some (Value.slice none 0 0) by simp)
  have f0 := (hb.frozen (p := ⟨w.heap.size, 0, none⟩) (by simp)).trans (show _ = false by simp)
  have HR := Lib.hid hRR
  clear hRR hb hpost HK HUP
  go_wp2_with fail
  refine bodyPost_ret (v := .tuple #[.agg #[.slice o n2 c], .int .i64 E]) (by simp [results, Try.results9, go_sem, *]) rfl ?_
  exact HR.out _

set_option maxHeartbeats 4000000 in
set_option maxRecDepth 100000 in
theorem rstar_any (q : PtM) (w : World) (h : NsIn q.pn q.bn q.n0 q.ms w) :
    Calls Try.prog 11 #[q.v] w (MkPost2 (madeE [nds q.ms]) (madeR 8 [nds q.ms]) w) := by
  obtain ⟨n, hn⟩ : ∃ n, n = q.ms.length := ⟨_, rfl⟩
  obtain ⟨pn, hpn⟩ : ∃ n, n = q.pn := ⟨_, rfl⟩
  obtain ⟨cq, hcq⟩ : ∃ n, n = q.c := ⟨_, rfl⟩
  obtain ⟨E, hE⟩ : ∃ E, E = madeE [nds q.ms] := ⟨_, rfl⟩
  obtain ⟨R, hR⟩ : ∃ R, R = madeR 8 [nds q.ms] := ⟨_, rfl⟩
  have k1 := fun (W : World) (hW : Below w.heap.size w W) (b : Nat) (hc : W.cell? ⟨b, 0, none⟩ = some (.slice q.pn q.ms.length q.c)) => made_any 8 (by decide) (some ⟨b, 0, none⟩) b 0 1 [q] W (one_ps q w W h hW b hc)
  unfold PtM.v
  simp only [show pN [q] = [nds q.ms] from rfl] at k1
  rw [← hn, ← hpn, ← hcq, ← hE, ← hR] at k1
  rw [← hn, ← hpn, ← hcq, ← hE, ← hR]
  have HK := Lib.hid k1
  have hA : Below w.heap.size w (w.alloc (.cells #[.slice pn n cq] 25)) := (Below.refl _ _).alloc (Nat.le_refl _) _
  have HA := Lib.hid hA
  have HUP := Lib.hid (fun (w1 : World) (hb : Below (w.alloc (.cells #[.slice pn n cq] 25)).heap.size (w.alloc (.cells #[.slice pn n cq] 25)) w1) (hz : (w.alloc (.cells #[.slice pn n cq] 25)).heap.size < w1.heap.size) e w' (h : MkPost2 E R w1 e w') => h.up hb hz)
  have hlit := (three_boxes w (.slice pn n cq) (.slice none 0 0) (.slice pn n cq) 25 25 25)
  have HL := Lib.hid hlit
  clear k1 hn hpn hcq hE hR h hA hlit
  go_enter Try.func11, Try.ntmps11
  go_wp2_with fail
  refine (HK.out _ ?_ _ ?_).mono ?_
  case refine_1 => exact ((HA.out.alloc (by simp) _).alloc (by simp; omega) _)
  case refine_2 => exact HL.out.2.2.1
  intro e w' hpost
  obtain ⟨o, n2, c, rfl, hb, hRR⟩ := HUP.out _ (((Below.refl _ _).alloc (Nat.le_refl _) _).alloc (by simp) _) (by simp) e w' hpost
  have c0 := (hb.cell (p := ⟨w.heap.size + 1, 0, none⟩) (by simp)).trans HL.out.2.1
  have f0 : w'.frozen? ⟨w.heap.size + 1, 0, none⟩ = false := (hb.frozen (p := ⟨w.heap.size + 1, 0, none⟩) (by simp)).trans (by
    have hb3 : Below ((w.alloc (.cells #[.slice pn n cq] 25)).alloc (.cells #[.slice none 0 0] 25)).heap.size ((w.alloc (.cells #[.slice pn n cq] 25)).alloc (.cells #[.slice none 0 0] 25)) (((w.alloc (.cells #[.slice pn n cq] 25)).alloc (.cells #[.slice none 0 0] 25)).alloc (.cells #[.slice pn n cq] 25)) := (Below.refl _ _).alloc (Nat.le_refl _) _
    exact (hb3.frozen (p := ⟨w.heap.size + 1, 0, none⟩) (by simp)).trans (by simp))
  have HR := Lib.hid (fun u => (hRR u).down (w := w) HA.out)
  clear hRR hb hpost HK HUP
  go_wp2_with fail
  refine bodyPost_ret (v := .tuple #[.agg #[.slice o n2 c], .int .i64 E]) (by simp [results, Try.results11, go_sem, *]) rfl ?_
  have h := HR.out (.slice o n2 c)
  simp only [World.size_alloc] at h
  exact h

set_option maxHeartbeats 4000000 in
set_option maxRecDepth 100000 in
theorem ropt_any (q : PtM) (w : World) (h : NsIn q.pn q.bn q.n0 q.ms w) :
    Calls Try.prog 13 #[q.v] w (MkPost2 (madeE [nds q.ms]) (madeR 9 [nds q.ms]) w) := by
  obtain ⟨n, hn⟩ : ∃ n, n = q.ms.length := ⟨_, rfl⟩
  obtain ⟨pn, hpn⟩ : ∃ n, n = q.pn := ⟨_, rfl⟩
  obtain ⟨cq, hcq⟩ : ∃ n, n = q.c := ⟨_, rfl⟩
  obtain ⟨E, hE⟩ : ∃ E, E = madeE [nds q.ms] := ⟨_, rfl⟩
  obtain ⟨R, hR⟩ : ∃ R, R = madeR 9 [nds q.ms] := ⟨_, rfl⟩
  have k1 := fun (W : World) (hW : Below w.heap.size w W) (b : Nat) (hc : W.cell? ⟨b, 0, none⟩ = some (.slice q.pn q.ms.length q.c)) => made_any 9 (by decide) (some ⟨b, 0, none⟩) b 0 1 [q] W (one_ps q w W h hW b hc)
  unfold PtM.v
  simp only [show pN [q] = [nds q.ms] from rfl] at k1
  rw [← hn, ← hpn, ← hcq, ← hE, ← hR] at k1
  rw [← hn, ← hpn, ← hcq, ← hE, ← hR]
  have HK := Lib.hid k1
  have hA : Below w.heap.size w (w.alloc (.cells #[.slice pn n cq] 25)) := (Below.refl _ _).alloc (Nat.le_refl _) _
  have HA := Lib.hid hA
  have HUP := Lib.hid (fun (w1 : World) (hb : Below (w.alloc (.cells #[.slice pn n cq] 25)).heap.size (w.alloc (.cells #[.slice pn n cq] 25)) w1) (hz : (w.alloc (.cells #[.slice pn n cq] 25)).heap.size < w1.heap.size) e w' (h : MkPost2 E R w1 e w') => h.up hb hz)
  have hlit := (three_boxes w (.slice pn n cq) (.slice none 0 0) (.slice pn n cq) 25 25 25)
  have HL := Lib.hid hlit
  clear k1 hn hpn hcq hE hR h hA hlit
  go_enter Try.func13, Try.ntmps13
  go_wp2_with fail
  refine (HK.out _ ?_ _ ?_).mono ?_
  case refine_1 => exact ((HA.out.alloc (by simp) _).alloc (by simp; omega) _)
  case refine_2 => exact HL.out.2.2.1
  intro e w' hpost
  obtain ⟨o, n2, c, rfl, hb, hRR⟩ := HUP.out _ (((Below.refl _ _).alloc (Nat.le_refl _) _).alloc (by simp) _) (by simp) e w' hpost
  have c0 := (hb.cell (p := ⟨w.heap.size + 1, 0, none⟩) (by simp)).trans HL.out.2.1
  have f0 : w'.frozen? ⟨w.heap.size + 1, 0, none⟩ = false := (hb.frozen (p := ⟨w.heap.size + 1, 0, none⟩) (by simp)).trans (by
    have hb3 : Below ((w.alloc (.cells #[.slice pn n cq] 25)).alloc (.cells #[.slice none 0 0] 25)).heap.size ((w.alloc (.cells #[.slice pn n cq] 25)).alloc (.cells #[.slice none 0 0] 25)) (((w.alloc (.cells #[.slice pn n cq] 25)).alloc (.cells #[.slice none 0 0] 25)).alloc (.cells #[.slice pn n cq] 25)) := (Below.refl _ _).alloc (Nat.le_refl _) _
    exact (hb3.frozen (p := ⟨w.heap.size + 1, 0, none⟩) (by simp)).trans (by simp))
  have HR := Lib.hid (fun u => (hRR u).down (w := w) HA.out)
  clear hRR hb hpost HK HUP
  go_wp2_with fail
  refine bodyPost_ret (v := .tuple #[.agg #[.slice o n2 c], .int .i64 E]) (by simp [results, Try.results13, go_sem, *]) rfl ?_
  have h := HR.out (.slice o n2 c)
  simp only [World.size_alloc] at h
  exact h

end Go.Proofs.Ytnlojgomildajaa
