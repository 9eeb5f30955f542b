/-
  WALKS: feature.letterOf, Of.
-/
import Derived.Test.YtcibjgkifafohaaDoorFeat4
import Derived.Deep.LoopGhost
namespace Go.Proofs.YtcibjgkifafohaaDoor
open Go.RowKit Go.Lib
set_option linter.unusedVariables false

def zeroL : Ltr := ⟨0, 0, 0⟩
def Ltr.v (l : Ltr) : Value := .agg #[.int .i32 l.r, .int .u32 l.p, .int .u32 l.m]
def findL (ls : List Ltr) (r : Int) : Option Ltr := ls.find? fun l => decide (l.r = r)
def lofR (ls : List Ltr) (r : Int) : Ltr × Int := match findL ls r with | some l => (l, 0) | none => (zeroL, 5)
def ofR (A : Al) (r : Int) : Ltr × Int := if A.ok then lofR A.ls r else (zeroL, 7)
theorem findL_drop_yes (ls : List Ltr) (r : Int) (k : Nat) (hk : k < ls.length) (h : (ls.getD k default).r = r) : findL (ls.drop k) r = some (ls.getD k default) := by
  rw [List.getD_eq_getElem?_getD, List.getElem?_eq_getElem hk] at h ⊢
  unfold findL
  rw [List.drop_eq_getElem_cons hk, List.find?_cons]
  simp only [Option.getD_some] at h ⊢
  simp [h]
theorem findL_drop_no (ls : List Ltr) (r : Int) (k : Nat) (hk : k < ls.length) (h : ¬ (ls.getD k default).r = r) : findL (ls.drop k) r = findL (ls.drop (k + 1)) r := by
  rw [List.getD_eq_getElem?_getD, List.getElem?_eq_getElem hk] at h
  unfold findL
  rw [List.drop_eq_getElem_cons hk, List.find?_cons]
  simp only [Option.getD_some] at h
  simp [h]
theorem findL_end (ls : List Ltr) (r : Int) (k : Nat) (hk : ls.length ≤ k) : findL (ls.drop k) r = none := by
  rw [List.drop_eq_nil_of_le hk]
  rfl
theorem lofR_some {ls : List Ltr} {r : Int} {l : Ltr} (h : findL ls r = some l) : lofR ls r = (l, 0) := by unfold lofR; rw [h]
theorem lofR_none {ls : List Ltr} {r : Int} (h : findL ls r = none) : lofR ls r = (zeroL, 5) := by unfold lofR; rw [h]

def LofPost (x : Ltr × Int) (w : World) (e : Ending) (w' : World) : Prop := e = .returned (.tuple #[x.1.v, .int .i64 x.2]) ∧ Below w.heap.size w w'

set_option maxHeartbeats 1000000 in
theorem letterOf_any (pl : Option Addr) (bl l0 cl : Nat) (ls : List Ltr) (r : Int) (w : World) (hL : LsIn pl bl l0 ls w) :
    Calls Tryd.prog 117 #[.slice pl ls.length cl, .int .i32 r] w (LofPost (lofR ls r) w) := by
  rcases Nat.eq_zero_or_pos ls.length with h0 | h0
  · obtain rfl : ls = [] := List.length_eq_zero_iff.1 h0
    have hn : lofR [] r = (zeroL, 5) := rfl
    rw [hn]
    clear hL h0 hn
    go_enter Tryd.func117, Tryd.ntmps117
    go_wp2
    go_loop [10] (fun v => v = .int .i64 0) (fun _ => 0)
    case atStart => rfl
    case round =>
      obtain rfl := hrel
      go_wp2
      refine bodyPost_ret (v := .tuple #[.agg #[.int .i32 0, .int .u32 0, .int .u32 0], .int .i64 5]) (by simp [results, Tryd.results117, go_sem]) rfl ⟨rfl, ?_⟩
      exact (Below.refl _ _).alloc (Nat.le_refl _) _
  · obtain rfl := hL.at_ h0
    obtain ⟨n, hn⟩ : ∃ n, n = ls.length := ⟨_, rfl⟩
    have HL := Lib.hid hL; have HN := Lib.hid hn
    have hbig := hL.big
    rw [← hn] at h0 hbig ⊢
    clear hL hn
    go_enter Tryd.func117, Tryd.ntmps117
    go_wp2
    go_loopw [10] (fun i wr => ∃ k : Nat, i = .int .i64 k ∧ k ≤ n ∧ Hid (findL (ls.drop k) r = findL ls r) ∧ Hid (Below (w.heap.size + 1) (w.alloc (.cells #[.int .i32 0, .int .u32 0, .int .u32 0] 99)) wr)) (fun i _ => n - (intOf i).toNat)
    case atStart => exact ⟨0, rfl, Nat.zero_le _, rfl, Below.refl _ _⟩
    case round =>
      obtain ⟨k, rfl, hk, HF, HB⟩ := hrel
      have hsz := HB.out.size
      simp only [World.size_alloc] at hsz
      have hlt0 : w.heap.size < wr.heap.size := by omega
      have hne0 : ¬ w.heap.size = wr.heap.size := by omega
      have hcb : ∀ j, wr.cell? ⟨w.heap.size, j, none⟩ = (w.alloc (.cells #[.int .i32 0, .int .u32 0, .int .u32 0] 99)).cell? ⟨w.heap.size, j, none⟩ := fun j => HB.out.cell (p := ⟨w.heap.size, j, none⟩) (by simp)
      have hfb : ∀ j, wr.frozen? ⟨w.heap.size, j, none⟩ = (w.alloc (.cells #[.int .i32 0, .int .u32 0, .int .u32 0] 99)).frozen? ⟨w.heap.size, j, none⟩ := fun j => HB.out.frozen (p := ⟨w.heap.size, j, none⟩) (by simp)
      have cb0 : wr.cell? ⟨w.heap.size, 0, none⟩ = some (.int .i32 0) := by rw [hcb]; simp
      have cb1 : wr.cell? ⟨w.heap.size, 1, none⟩ = some (.int .u32 0) := by rw [hcb]; simp
      have cb2 : wr.cell? ⟨w.heap.size, 2, none⟩ = some (.int .u32 0) := by rw [hcb]; simp
      have fb0 : wr.frozen? ⟨w.heap.size, 0, none⟩ = false := by rw [hfb]; simp
      have fb1 : wr.frozen? ⟨w.heap.size, 1, none⟩ = false := by rw [hfb]; simp
      have fb2 : wr.frozen? ⟨w.heap.size, 2, none⟩ = false := by rw [hfb]; simp
      have hbw : Below w.heap.size w wr := ((Below.refl w.heap.size w).alloc (Nat.le_refl _) _).trans (HB.out.mono (Nat.le_succ _))
      have HBW := Lib.hid hbw
      clear hcb hfb hbw
      by_cases hkn : k < n
      · have hL2 := HL.out.next HBW.out
        have c0 := hL2.cr k (by rw [← HN.out]; exact hkn)
        have c1 := hL2.cp k (by rw [← HN.out]; exact hkn)
        have c2 := hL2.cm k (by rw [← HN.out]; exact hkn)
        have hyes := findL_drop_yes ls r k (by rw [← HN.out]; exact hkn)
        have hno := findL_drop_no ls r k (by rw [← HN.out]; exact hkn)
        have hv : (ls.getD k default).v = .agg #[.int .i32 (ls.getD k default).r, .int .u32 (ls.getD k default).p, .int .u32 (ls.getD k default).m] := rfl
        obtain ⟨l, hl⟩ : ∃ l, l = ls.getD k default := ⟨_, rfl⟩
        rw [← hl] at c0 c1 c2 hyes hno hv
        obtain ⟨q, hq⟩ : ∃ r, r = l.r := ⟨_, rfl⟩
        obtain ⟨p, hp⟩ : ∃ r, r = l.p := ⟨_, rfl⟩
        obtain ⟨m, hm⟩ : ∃ r, r = l.m := ⟨_, rfl⟩
        rw [← hq] at c0 hyes hno hv
        rw [← hp] at c1 hv
        rw [← hm] at c2 hv
        have HY := Lib.hid hyes; have HNo := Lib.hid hno; have HV := Lib.hid hv
        clear hL2 hl hq hp hm hyes hno hv
        by_cases he : q = r
        · subst he
          have hx := lofR_some (HF.out.symm.trans (HY.out rfl))
          have HX := Lib.hid hx
          clear hx
          go_wp2
          refine bodyPost_ret (v := .tuple #[.agg #[.int .i32 q, .int .u32 p, .int .u32 m], .int .i64 0]) (by simp [results, Tryd.results117, go_sem, *]) rfl ⟨?_, ?_⟩
          · rw [HX.out]
            show _ = Ending.returned (.tuple #[l.v, _])
            rw [HV.out]
          · exact (((HBW.out.setCell (p := ⟨w.heap.size, 0, none⟩) (Nat.le_refl _) _).setCell (p := ⟨w.heap.size, 1, none⟩) (Nat.le_refl _) _).setCell (p := ⟨w.heap.size, 2, none⟩) (Nat.le_refl _) _).alloc (by simp; omega) _
        · have he1 : (q == r) = false := by simp [he]
          go_wp2
          go_roundw
          case rel => exact ⟨k + 1, by go_num, by omega, (show _ = _ from by rw [← HF.out, HNo.out he]), HB.out.alloc (by omega) _⟩
          case measure => simp [intOf]; omega
      · obtain rfl : k = n := by omega
        have hx := lofR_none (HF.out.symm.trans (findL_end ls r k (by rw [← HN.out]; omega)))
        have HX := Lib.hid hx
        clear hx
        go_wp2
        refine bodyPost_ret (v := .tuple #[.agg #[.int .i32 0, .int .u32 0, .int .u32 0], .int .i64 5]) (by simp [results, Tryd.results117, go_sem, *]) rfl ⟨by rw [HX.out] <;> rfl, ?_⟩
        exact ((HBW.out.setCell (p := ⟨w.heap.size, 0, none⟩) (Nat.le_refl _) _).setCell (p := ⟨w.heap.size, 1, none⟩) (Nat.le_refl _) _).setCell (p := ⟨w.heap.size, 2, none⟩) (Nat.le_refl _) _

end Go.Proofs.YtcibjgkifafohaaDoor
