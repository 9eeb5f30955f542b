/-
  WALKS: feature.Near.
-/
import Derived.Test.YtmbekgfbnapelaaFeat10
namespace Go.Proofs.Ytmbekgfbnapelaa
open Go.RowKit Go.Lib
set_option linter.unusedVariables false

def nearSt (want : Ltr) : List Ltr → Int → Nat → Int × Nat
  | [], b, n => (b, n)
  | y :: l, b, n => if unl want y < n then nearSt want l y.r (unl want y) else nearSt want l b n
def nearR (A : Al) (r : Int) (p m : Nat) : Int × Int := if (lacR A r p m).2 = 0 then ((nearSt (trn (lacR A r p m).1 p m) A.ls 0 25).1, 0) else (0, (lacR A r p m).2)
theorem nearSt_yes (want : Ltr) (ls : List Ltr) (k : Nat) (b : Int) (n : Nat) (hk : k < ls.length) (h : unl want (ls.getD k default) < n) :
    nearSt want (ls.drop k) b n = nearSt want (ls.drop (k + 1)) (ls.getD k default).r (unl want (ls.getD k default)) := by
  rw [List.getD_eq_getElem?_getD, List.getElem?_eq_getElem hk] at h ⊢
  simp only [Option.getD_some] at h ⊢
  rw [List.drop_eq_getElem_cons hk, nearSt, if_pos h]
theorem nearSt_no (want : Ltr) (ls : List Ltr) (k : Nat) (b : Int) (n : Nat) (hk : k < ls.length) (h : ¬ unl want (ls.getD k default) < n) :
    nearSt want (ls.drop k) b n = nearSt want (ls.drop (k + 1)) b n := by
  rw [List.getD_eq_getElem?_getD, List.getElem?_eq_getElem hk] at h
  simp only [Option.getD_some] at h
  rw [List.drop_eq_getElem_cons hk, nearSt, if_neg h]
theorem lacR_okk {A : Al} {r : Int} {p m : Nat} (h : (lacR A r p m).2 = 0) : A.ok = true := by
  by_cases h0 : (ofR A r).2 = 0
  · exact ofR_24 h0
  · rw [lacR_err h0] at h; exact absurd h h0

set_option maxHeartbeats 2000000 in
set_option maxRecDepth 100000 in
theorem near_any (A : Al) (r : Int) (p m : Nat) (w : World) (hA : A.In w) (hp : p < 4294967296) (hm : m < 4294967296) :
    Calls Try.prog 16 #[A.v, .int .i32 r, .int .u32 p, .int .u32 m] w fun e w' => e = .returned (.tuple #[.int .i32 (nearR A r p m).1, .int .i64 (nearR A r p m).2]) ∧ Below w.heap.size w w' := by
  obtain ⟨pf, pl, nf, cf, nl, cl, hv, hnf, hnl, hpl, hcl, hpf, hcf⟩ := A.parts
  have hlac := lac_any A r p m
  have hx := lacR_ltr r p m hA
  rw [hv] at hlac ⊢
  have HA := Lib.hid hA; have HL := Lib.hid hlac
  clear hlac hv hnf hcl hpf hcf
  by_cases h0 : (lacR A r p m).2 = 0
  · have hr : nearR A r p m = ((nearSt (trn (lacR A r p m).1 p m) A.ls 0 25).1, 0) := by unfold nearR; rw [if_pos h0]
    have hlen := Al.ok_ltrs (lacR_okk h0)
    rw [← hnl] at hlen
    obtain ⟨hl1, hl128⟩ := hlen
    have hat := hA.L.at_ (by omega)
    rw [← hpl] at hat
    subst hat
    rw [hr]
    obtain ⟨ls, hls⟩ : ∃ l, l = A.ls := ⟨_, rfl⟩
    obtain ⟨bl, hbl⟩ : ∃ l, l = A.bl := ⟨_, rfl⟩
    obtain ⟨l0, hl0⟩ : ∃ l, l = A.l0 := ⟨_, rfl⟩
    have hL0 := fun (w : World) (h : A.In w) => h.L
    rw [← hls, ← hbl, ← hl0] at hL0
    rw [← hls] at hnl ⊢
    rw [← hbl, ← hl0] at HL ⊢
    obtain ⟨x, hx'⟩ : ∃ a, a = lacR A r p m := ⟨_, rfl⟩
    rw [← hx'] at HL h0 hx ⊢
    obtain ⟨x, k0⟩ := x
    simp only [] at h0 hx ⊢
    subst h0
    have hto := trn_ok x p m hx hp hm
    have HT := Lib.hid (fun w => turned_any x p m w hx hp hm)
    obtain ⟨t, ht⟩ : ∃ t, t = trn x p m := ⟨_, rfl⟩
    rw [← ht] at hto HT ⊢
    have HU := Lib.hid (fun (y : Ltr) (hy : LtrOk y) w => unlike_any t y w hto hy)
    obtain ⟨q1, q2, q3⟩ := x
    obtain ⟨tr, tp, tm⟩ := t
    obtain ⟨T, hT⟩ : ∃ T : Ltr, T = ⟨tr, tp, tm⟩ := ⟨_, rfl⟩
    have hTv : T.v = .agg #[.int .i32 tr, .int .u32 tp, .int .u32 tm] := by rw [hT]; rfl
    rw [← hT] at HT HU ⊢
    rw [hTv] at HT HU
    have HNL := Lib.hid hnl; have HL0 := Lib.hid hL0
    have hv1 : (Ltr.mk q1 q2 q3).v = .agg #[.int .i32 q1, .int .u32 q2, .int .u32 q3] := rfl
    rw [hv1] at HT
    clear hA hpl hnl hr hls hbl hl0 hL0 hx' ht hT hTv hx hto hv1
    go_enter Try.func16, Try.ntmps16
    go_wp2_with fail
    refine (HL.out _ (HA.out.alloc _) hp hm).mono ?_
    rintro e w1 ⟨rfl, hb1⟩
    unfold Ltr.v
    obtain ⟨hcc, hff⟩ := bcell hb1
    have hz1 := hb1.size
    simp only [World.size_alloc] at hz1
    have hlt0 : w.heap.size < w1.heap.size := by omega
    have HB1 := Lib.hid hb1
    clear hb1
    go_wp2_with fail
    refine (HT.out _).mono ?_
    rintro e w2 ⟨rfl, hb2⟩
    obtain ⟨hcc2, hff2⟩ := bcell hb2
    have hz2 := hb2.size
    simp only [World.size_alloc] at hz2
    have hlt2 : w.heap.size < w2.heap.size := by omega
    have hlt1 : w.heap.size < w1.heap.size + 1 := by omega
    have hbw2 : Below w.heap.size w w2 := ((((Below.refl _ _).alloc (Nat.le_refl _) _).trans (HB1.out.mono (by simp))).alloc (by omega) _).trans (hb2.mono (by simp; omega))
    have HBW2 := Lib.hid hbw2
    clear hb2 hbw2
    go_wp2_with fail
    clear hcc hcc2 hff hff2
    go_loopw [13, 14, 36] (fun s13 s14 i wr => ∃ (k n : Nat) (b : Int), s13 = .int .i32 b ∧ s14 = .int .i64 n ∧ i = .int .i64 k ∧ k ≤ nl ∧ Hid (nearSt T (ls.drop k) b n = nearSt T ls 0 25) ∧ Hid (Below (w2.heap.size + 1) (w2.alloc (.cells #[.int .i32 tr, .int .u32 tp, .int .u32 tm] 35)) wr)) (fun _ _ i _ => nl - (intOf i).toNat)
    case atStart => exact ⟨0, 25, 0, rfl, rfl, rfl, Nat.zero_le _, rfl, Below.refl _ _⟩
    case round =>
      obtain ⟨k, n, b, rfl, rfl, rfl, hk, HN, HB⟩ := hrel
      have hszr := HB.out.size
      simp only [World.size_alloc] at hszr
      have hcb : ∀ j, wr.cell? ⟨w2.heap.size, j, none⟩ = (w2.alloc (.cells #[.int .i32 tr, .int .u32 tp, .int .u32 tm] 35)).cell? ⟨w2.heap.size, j, none⟩ := fun j => HB.out.cell (p := ⟨w2.heap.size, j, none⟩) (by simp)
      have d0 : wr.cell? ⟨w2.heap.size, 0, none⟩ = some (.int .i32 tr) := by rw [hcb]; simp
      have d1 : wr.cell? ⟨w2.heap.size, 1, none⟩ = some (.int .u32 tp) := by rw [hcb]; simp
      have d2 : wr.cell? ⟨w2.heap.size, 2, none⟩ = some (.int .u32 tm) := by rw [hcb]; simp
      have hltr : w2.heap.size < wr.heap.size := by omega
      have hner : ¬ w2.heap.size = wr.heap.size := by omega
      have hbw : Below w.heap.size w wr := (HBW2.out.alloc (by omega) _).trans (HB.out.mono (by omega))
      have HBW := Lib.hid hbw
      clear hcb hbw
      by_cases hkn : k < nl
      · have hL2 := HL0.out wr (HA.out.next HBW.out)
        have c0 := hL2.cr k (by rw [← HNL.out]; exact hkn)
        have c1 := hL2.cp k (by rw [← HNL.out]; exact hkn)
        have c2 := hL2.cm k (by rw [← HNL.out]; exact hkn)
        obtain ⟨b1, b2, b3, b4⟩ := hL2.get k (by rw [← HNL.out]; exact hkn)
        have hyes := nearSt_yes T ls k b n (by rw [← HNL.out]; exact hkn)
        have hno := nearSt_no T ls k b n (by rw [← HNL.out]; exact hkn)
        have hu := HU.out (ls.getD k default) ⟨b1, b2⟩
        have hv : (ls.getD k default).v = .agg #[.int .i32 (ls.getD k default).r, .int .u32 (ls.getD k default).p, .int .u32 (ls.getD k default).m] := rfl
        obtain ⟨l, hl⟩ : ∃ l, l = ls.getD k default := ⟨_, rfl⟩
        rw [← hl] at c0 c1 c2 hyes hno hu hv
        rw [hv] at hu
        obtain ⟨q, hq⟩ : ∃ r, r = l.r := ⟨_, rfl⟩
        obtain ⟨u, huu⟩ : ∃ r, r = l.p := ⟨_, rfl⟩
        obtain ⟨v, hvv⟩ : ∃ r, r = l.m := ⟨_, rfl⟩
        obtain ⟨N, hN⟩ : ∃ N, N = unl T l := ⟨_, rfl⟩
        rw [← hq] at c0 hu hyes
        rw [← huu] at c1 hu
        rw [← hvv] at c2 hu
        rw [← hN] at hu hyes hno
        have HUU := Lib.hid hu; have HY := Lib.hid hyes; have HNo := Lib.hid hno
        clear hL2 hu hv hl hq huu hvv hN hyes hno b1 b2 b3 b4
        by_cases hlt : N < n
        · have hltz : (N : Int) < (n : Int) := by omega
          go_wp2_with fail
          refine (HUU.out _).mono ?_
          rintro e w3 ⟨rfl, hb3⟩
          obtain ⟨hcc3, hff3⟩ := bcell hb3
          have hz3 := hb3.size
          simp only [World.size_alloc] at hz3
          have hB3 : Below (w2.heap.size + 1) (w2.alloc (.cells #[.int .i32 tr, .int .u32 tp, .int .u32 tm] 35)) w3 := (HB.out.alloc (by omega) _).trans (hb3.mono (by simp; omega))
          have HB3 := Lib.hid hB3
          clear hb3 hB3
          go_wp2_with fail
          go_roundw
          case rel => exact ⟨k + 1, N, q, rfl, rfl, by go_num, by omega, (show _ = _ from by rw [← HN.out, HY.out hlt]), HB3⟩
          case measure => simp [intOf]; omega
        · have hltz : ¬ (N : Int) < (n : Int) := by omega
          go_wp2_with fail
          refine (HUU.out _).mono ?_
          rintro e w3 ⟨rfl, hb3⟩
          have hB3 : Below (w2.heap.size + 1) (w2.alloc (.cells #[.int .i32 tr, .int .u32 tp, .int .u32 tm] 35)) w3 := (HB.out.alloc (by omega) _).trans (hb3.mono (by simp; omega))
          have HB3 := Lib.hid hB3
          clear hb3 hB3
          go_wp2_with fail
          go_roundw
          case rel => exact ⟨k + 1, n, b, rfl, rfl, by go_num, by omega, (show _ = _ from by rw [← HN.out, HNo.out hlt]), HB3⟩
          case measure => simp [intOf]; omega
      · obtain rfl : k = nl := by omega
        go_wp2_with fail
        go_ret2
        refine ⟨?_, HBW.out⟩
        rw [← HN.out, HNL.out, List.drop_length, nearSt] <;> rfl
  · have hr : nearR A r p m = (0, (lacR A r p m).2) := by unfold nearR; rw [if_neg h0]
    rw [hr]
    obtain ⟨x, hx'⟩ : ∃ a, a = lacR A r p m := ⟨_, rfl⟩
    rw [← hx'] at HL h0 ⊢
    obtain ⟨⟨r1, p1, m1⟩, k⟩ := x
    simp only [] at h0 ⊢
    have hk1 : (k == 0) = false := by simp [h0]
    have hk2 : (k != 0) = true := by simp [h0]
    clear hr hx' hx h0 hA hnl hpl
    go_enter Try.func16, Try.ntmps16
    go_wp2_with fail
    refine (HL.out _ (HA.out.alloc _) hp hm).mono ?_
    rintro e w1 ⟨rfl, hb1⟩
    unfold Ltr.v
    have hz1 := hb1.size
    simp only [World.size_alloc] at hz1
    have HB1 := Lib.hid hb1
    clear hb1
    go_wp2_with fail
    go_ret2
    exact ⟨rfl, (((Below.refl _ _).alloc (Nat.le_refl _) _).trans (HB1.out.mono (by simp))).alloc (by omega) _⟩

end Go.Proofs.Ytmbekgfbnapelaa
