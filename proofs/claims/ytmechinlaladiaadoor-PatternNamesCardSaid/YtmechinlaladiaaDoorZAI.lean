/-
  WALKS: feature.Parse.
  WALKS: cognatelaw02.sample; what the program answers of it, closed.
  WALKS: cognatelaw02.sample.
-/
import Derived.Deep.CutRange
import Derived.Test.YtmechinlaladiaaDoorZAH
namespace Go.Proofs.YtmechinlaladiaaDoor
open Go.RowKit Go.Lib Go.MapKept
set_option linter.unusedVariables false

/-- A class read from a text, thing by thing: what the features add, where the first thing stands that is none, the error. -/
def parF (fs : List ByteArray) (s : ByteArray) : Nat → Nat → Nat → Nat → Nat × Nat × Nat × Int
  | 0, _, p, m => (p, m, 0, 0)
  | n + 1, t, p, m => if h : t < s.size then
      (if isSg (s[t]'h).toNat = true ∧ bitF fs (s.extract (t + 1) (endOf s (t + 1))) 0 ≠ 0 ∧ (p ||| m) &&& bitF fs (s.extract (t + 1) (endOf s (t + 1))) 0 = 0 then
        (if (s[t]'h).toNat = 45 then parF fs s n (endOf s (t + 1)) p (m ||| bitF fs (s.extract (t + 1) (endOf s (t + 1))) 0) else parF fs s n (endOf s (t + 1)) (p ||| bitF fs (s.extract (t + 1) (endOf s (t + 1))) 0) m)
      else (0, 0, t, 20)) else (p, m, 0, 0)
def parR (A : Al) (s : ByteArray) : Nat × Nat × Nat × Int := if A.ok then (if 65536 < s.size then (0, 0, 0, 3) else parF A.fs s (s.size + 1) 0 0 0) else (0, 0, 0, 7)
theorem parF_end (fs : List ByteArray) (s : ByteArray) (n t p m : Nat) (h : ¬ t < s.size) : parF fs s n t p m = (p, m, 0, 0) := by
  cases n with
  | zero => rfl
  | succ n => unfold parF; rw [dif_neg h]
theorem parF_bad (fs : List ByteArray) (s : ByteArray) (n t p m : Nat) (h : t < s.size) (hb : ¬ (isSg (s[t]'h).toNat = true ∧ bitF fs (s.extract (t + 1) (endOf s (t + 1))) 0 ≠ 0 ∧ (p ||| m) &&& bitF fs (s.extract (t + 1) (endOf s (t + 1))) 0 = 0)) : parF fs s (n + 1) t p m = (0, 0, t, 20) := by
  unfold parF; rw [dif_pos h, if_neg hb]
theorem parF_go (fs : List ByteArray) (s : ByteArray) (n t p m : Nat) (h : t < s.size) (hb : isSg (s[t]'h).toNat = true ∧ bitF fs (s.extract (t + 1) (endOf s (t + 1))) 0 ≠ 0 ∧ (p ||| m) &&& bitF fs (s.extract (t + 1) (endOf s (t + 1))) 0 = 0) :
    parF fs s (n + 1) t p m = (if (s[t]'h).toNat = 45 then parF fs s n (endOf s (t + 1)) p (m ||| bitF fs (s.extract (t + 1) (endOf s (t + 1))) 0) else parF fs s n (endOf s (t + 1)) (p ||| bitF fs (s.extract (t + 1) (endOf s (t + 1))) 0) m) := by
  rw [parF, dif_pos h, if_pos hb]

def ParPost (x : Nat × Nat × Nat × Int) (w : World) (e : Ending) (w' : World) : Prop := e = .returned (.tuple #[.int .u32 x.1, .int .u32 x.2.1, .int .i64 x.2.2.1, .int .i64 x.2.2.2]) ∧ Below w.heap.size w w'

set_option maxHeartbeats 2000000 in
set_option maxRecDepth 100000 in
theorem parse_ok (A : Al) (s : ByteArray) (w : World) (hA : A.In w) (hok : A.ok = true) (hs : s.size ≤ 65536) :
    Calls Tryd.prog 63 #[A.v, .string s] w (ParPost (parF A.fs s (s.size + 1) 0 0 0) w) := by
  obtain ⟨pf, pl, nf, cf, nl, cl, hv, hnf, hnl, hpl, hcl, hpf, hcf⟩ := A.parts
  have hch := check_any A
  have hbo := fun g w h => bitOf_any A.pf A.bf A.f0 A.cf A.fs pl nl cl g w h
  have h24 : nf ≤ 24 := by rw [hnf]; exact Al.ok24 hok
  have hlt := fun g => bitF_lt A.fs g 0 (by rw [← hnf]; omega)
  rw [← hnf, ← hpf, ← hcf] at hbo
  rw [hv] at hch ⊢
  have hF0 := fun (w : World) (h : A.In w) => h.F
  rw [← hpf, ← hcf] at hF0
  obtain ⟨fs, hfs⟩ : ∃ fs, fs = A.fs := ⟨_, rfl⟩
  rw [← hfs] at hbo hlt hF0 ⊢
  have HBO := Lib.hid (fun g w h => hbo g w h24 (hF0 w h))
  have HA := Lib.hid hA; have HCH := Lib.hid hch; have HC := Lib.hid (chk_ok hok); have HLT := Lib.hid hlt
  have hc1 : ¬ (65536 : Int) < (s.size : Int) := by omega
  obtain ⟨R, hR⟩ : ∃ R, R = parF fs s (s.size + 1) 0 0 0 := ⟨_, rfl⟩
  rw [← hR]
  have HR := Lib.hid hR
  have HS := Lib.hid hs
  clear hA hch hv hnf hnl hpl hcl hpf hcf hok hs hbo hlt hfs hF0 h24 hR
  have hmm := @run_makeMap Tryd.prog
  have hm1 := sg_up1
  have hm2 := sg_up2
  go_enter Tryd.func63, Tryd.ntmps63
  go_wp2_with fail
  refine (HCH.out _ (HA.out.alloc _)).mono ?_
  rintro e w1 ⟨rfl, hb1⟩
  rw [HC.out]
  obtain ⟨hcc, hff⟩ := bcell hb1
  have hz1 := hb1.size
  simp only [World.size_alloc] at hz1
  have hlt0 : w.heap.size < w1.heap.size := by omega
  have cb0 : w1.cell? ⟨w.heap.size, 0, none⟩ = some (.slice pf nf cf) := by rw [hcc _ _ (by simp)]; simp
  have cb1 : w1.cell? ⟨w.heap.size, 1, none⟩ = some (.slice pl nl cl) := by rw [hcc _ _ (by simp)]; simp
  have hbw1 : Below w.heap.size w w1 := ((Below.refl _ _).alloc (Nat.le_refl _) _).trans (hb1.mono (by simp))
  have HBW1 := Lib.hid hbw1
  clear hb1 hcc hff hbw1
  go_wp2_with fail
  go_loopw [6] (fun s6 wr => ∃ t n p m : Nat, s6 = .int .i64 t ∧ t ≤ s.size ∧ s.size < n + t ∧ p < 16777216 ∧ m < 16777216 ∧ Hid (parF fs s n t p m = R) ∧ Hid (Below w1.heap.size w1 wr) ∧ Hid (wr.heap[w1.heap.size]? = some (.map sgM2 2)) ∧ wr.cell? ⟨w1.heap.size + 1, 0, none⟩ = some (.int .u32 p) ∧ wr.cell? ⟨w1.heap.size + 1, 1, none⟩ = some (.int .u32 m) ∧ wr.frozen? ⟨w1.heap.size + 1, 0, none⟩ = false ∧ wr.frozen? ⟨w1.heap.size + 1, 1, none⟩ = false ∧ w1.heap.size + 1 < wr.heap.size) (fun i _ => s.size - (intOf i).toNat)
  case atStart =>
    refine ⟨0, s.size + 1, 0, 0, rfl, Nat.zero_le _, by omega, by omega, by omega, HR.out.symm, ((Below.refl _ _).alloc (Nat.le_refl _) _).alloc (by simp) _, ?_, ?_, ?_, ?_, ?_, by simp⟩
    · show ((w1.alloc _).heap.push _)[w1.heap.size]? = _
      rw [Array.getElem?_push, if_neg (by simp)]
      exact sg_new w1 _
    all_goals simp [World.cell?_alloc_at, World.frozen?_alloc_at]
  case round =>
    obtain ⟨t, n, p, m, rfl, ht, hn, hp, hm, HP, HB, HM, c0, c1, f0, f1, hszr⟩ := hrel
    have hbw : Below w.heap.size w wr := HBW1.out.trans (HB.out.mono (by omega))
    have HBW := Lib.hid hbw
    by_cases htn : t < s.size
    · obtain ⟨n, rfl⟩ : ∃ q, n = q + 1 := ⟨n - 1, by omega⟩
      obtain ⟨E, hE⟩ : ∃ E, E = endOf s (t + 1) := ⟨_, rfl⟩
      have hE1 := endOf_ge s (t + 1)
      have hE2 := endOf_le s (t + 1) (by omega)
      have hnm := fun w => nameEnd_any s (t + 1) w (by omega) (by omega)
      have hbad := parF_bad fs s n t p m htn
      have hgo := parF_go fs s n t p m htn
      rw [← hE] at hE1 hE2 hnm hbad hgo
      obtain ⟨B, hB⟩ : ∃ B, B = bitF fs (s.extract (t + 1) E) 0 := ⟨_, rfl⟩
      have hBlt := HLT.out (s.extract (t + 1) E)
      have hbo := HBO.out (s.extract (t + 1) E)
      rw [← hB] at hbad hgo hBlt hbo
      have HBB := Lib.hid hbo
      obtain ⟨C, hC⟩ : ∃ C, C = (s[t]'htn).toNat := ⟨_, rfl⟩
      have hC2 : C < 256 := by rw [hC]; exact (s[t]'htn).toNat_lt
      have hlk := sg_look wr w1.heap.size C HM.out
      rw [← show wrap32 (C : Int) = C from by unfold wrap32; omega] at hlk
      rw [hC] at hlk
      rw [← hC] at hbad hgo
      rw [show (sideI (s[t]'htn).toNat) = sideI C from by rw [hC], show (isSg (s[t]'htn).toNat) = isSg C from by rw [hC]] at hlk
      rw [HP.out] at hbad hgo
      obtain ⟨sd, hsd⟩ : ∃ sd, sd = sideI C := ⟨_, rfl⟩
      obtain ⟨sg, hsg⟩ : ∃ sg, sg = isSg C := ⟨_, rfl⟩
      rw [← hsd, ← hsg] at hlk
      rw [← hsg] at hbad hgo
      have HNM := Lib.hid hnm
      have HBAD := Lib.hid hbad; have HGO := Lib.hid hgo; have HSD := Lib.hid hsd; have HSG := Lib.hid hsg
      clear hnm hE hmm hm1 hm2 hB hC hbo hbad hgo hC2 hsd hsg hbw
      go_wp2_with fail
      refine (HNM.out _).mono ?_
      rintro e w3 ⟨rfl, rfl⟩
      go_upto_region 11 with fail
      clear hlk
      have cr0 : wr.cell? ⟨w.heap.size, 0, none⟩ = some (.slice pf nf cf) := (HB.out.cell (p := ⟨w.heap.size, 0, none⟩) hlt0).trans cb0
      have cr1 : wr.cell? ⟨w.heap.size, 1, none⟩ = some (.slice pl nl cl) := (HB.out.cell (p := ⟨w.heap.size, 1, none⟩) hlt0).trans cb1
      have hltr : w.heap.size < wr.heap.size := by omega
      have hsl : ∀ wx, (Instr.slice 9 (.string s) (some (.int .i64 (IntKind.i64.wrap ((t : Int) + 1)))) (some (.int .i64 (E : Int))) none).run Tryd.prog wx = .ok (.string (s.extract (t + 1) E)) wx := fun wx => by
        have e := run_slice_string (P := Tryd.prog) wx 9 s .i64 .i64 ((t : Int) + 1) (E : Int) Tryd.underlying9 (by omega) (by omega) (by omega)
        rw [show IntKind.i64.wrap ((t : Int) + 1) = (t : Int) + 1 from by simp [IntKind.wrap, IntKind.signed, IntKind.bits]; omega, e]
        rfl
      go_cut [14] from 25 to 72 (fun s14 wc => s14 = .int .u32 B ∧ Hid (Below wr.heap.size wr wc))
      case first =>
        go_region_with (go_at_call 71; refine (HBB.out _ (HA.out.next (by first | exact HBW.out | exact HBW.out.drew))).mono ?_; rintro e w' ⟨rfl, rfl⟩)
        all_goals
          go_wp2_with fail
          go_meet
          exact ⟨rfl, ((Below.refl _ _).alloc (Nat.le_refl _) _).drew⟩
      case rest =>
        obtain ⟨rfl, HBc⟩ := hcut
        have hzc := HBc.out.size
        have c0' : wc.cell? ⟨w1.heap.size + 1, 0, none⟩ = some (.int .u32 p) := (HBc.out.cell (p := ⟨w1.heap.size + 1, 0, none⟩) hszr).trans c0
        have c1' : wc.cell? ⟨w1.heap.size + 1, 1, none⟩ = some (.int .u32 m) := (HBc.out.cell (p := ⟨w1.heap.size + 1, 1, none⟩) hszr).trans c1
        have f0' : wc.frozen? ⟨w1.heap.size + 1, 0, none⟩ = false := (HBc.out.frozen (p := ⟨w1.heap.size + 1, 0, none⟩) hszr).trans f0
        have f1' : wc.frozen? ⟨w1.heap.size + 1, 1, none⟩ = false := (HBc.out.frozen (p := ⟨w1.heap.size + 1, 1, none⟩) hszr).trans f1
        have hM : wc.heap[w1.heap.size]? = some (.map sgM2 2) := (HBc.out.block _ (by omega)).trans HM.out
        have hbc : Below w1.heap.size w1 wc := HB.out.trans (HBc.out.mono (by omega))
        have hbcw : Below w.heap.size w wc := HBW.out.trans (HBc.out.mono (by omega))
        have hszc : w1.heap.size + 1 < wc.heap.size := by omega
        have HM' := Lib.hid hM; have HBC := Lib.hid hbc; have HBCW := Lib.hid hbcw
        clear hM hbc hbcw c0 c1 f0 f1 cr0 cr1 hsl hltr HBB HNM
        have hor := u32_or_nat p m (by omega) (by omega)
        have hX2 : (p ||| m) < 2 ^ 24 := Nat.or_lt_two_pow hp hm
        obtain ⟨X, hX⟩ : ∃ X, X = p ||| m := ⟨_, rfl⟩
        rw [← hX] at hor hX2 HBAD HGO
        have hand := u32_and_nat X B (by omega) (by omega)
        obtain ⟨Y, hY⟩ : ∃ Y, Y = X &&& B := ⟨_, rfl⟩
        rw [← hY] at hand HBAD HGO
        have HBB2 := HBAD
        cases hsgc : sg with
        | false =>
          subst hsgc
          have hr := HBAD.out (by simp)
          have HR2 := Lib.hid hr
          clear hr hX hY HR HP HBAD HGO
          go_wp2_with fail
          refine bodyPost_ret (v := .tuple #[.int .u32 0, .int .u32 0, .int .i64 t, .int .i64 20]) (by simp [results, Tryd.results63, go_sem, *]) rfl ⟨by rw [HR2.out] <;> rfl, HBCW.out⟩
        | true =>
          subst hsgc
          by_cases hb0 : B = 0
          · have hb1 : ((B : Int) == 0) = true := by simp [hb0]
            have hr := HBAD.out (by simp [hb0])
            have HR2 := Lib.hid hr
            clear hr hX hY HR HP HBAD HGO
            go_wp2_with fail
            refine bodyPost_ret (v := .tuple #[.int .u32 0, .int .u32 0, .int .i64 t, .int .i64 20]) (by simp [results, Tryd.results63, go_sem, *]) rfl ⟨by rw [HR2.out] <;> rfl, HBCW.out⟩
          · have hb1 : ((B : Int) == 0) = false := by simp; omega
            by_cases hy0 : Y = 0
            · have hy1 : ((Y : Int) == 0) = true := by simp [hy0]
              have hy2 : ((Y : Int) != 0) = false := by simp [hy0]
              have hgo := HGO.out ⟨rfl, hb0, hy0⟩
              by_cases hC45 : C = 45
              · rw [if_pos hC45] at hgo
                have hsd := HSD.out
                rw [hC45] at hsd
                obtain rfl : sd = 1 := hsd
                have HG := Lib.hid hgo
                have hor2 := u32_or_nat m B (by omega) (by omega)
                have hm2 : (m ||| B) < 2 ^ 24 := Nat.or_lt_two_pow hm hBlt
                obtain ⟨M2, hM2⟩ : ∃ M2, M2 = m ||| B := ⟨_, rfl⟩
                rw [← hM2] at hor2 hm2 HG
                clear hgo hX hY HR HP HBAD HGO hb0 hy0 hC45 hM2 HSD HSG
                go_wp2_with fail
                go_roundw
                case rel =>
                  refine ⟨E, n, p, M2, by go_num, hE2, by omega, hp, hm2, HG.out.symm, HBC.out.setCell (p := ⟨w1.heap.size + 1, 1, none⟩) (by simp) _, (heap_setCell_other _ _ _ _ (by simp)).trans HM'.out, ?_, ?_, ?_, ?_, by simp; omega⟩
                  · exact (World.cell?_setCell_other _ _ _ _ (by simp)).trans c0'
                  · exact World.cell?_setCell_same _ _ _ c1'
                  · rw [World.frozen?_setCell]; exact f0'
                  · rw [World.frozen?_setCell]; exact f1'
                case measure => simp [intOf]; omega
              · rw [if_neg hC45] at hgo
                have hsd := HSD.out
                obtain rfl : sd = 0 := by rw [hsd]; unfold sideI; rw [if_neg hC45]
                have HG := Lib.hid hgo
                have hor2 := u32_or_nat p B (by omega) (by omega)
                have hm2 : (p ||| B) < 2 ^ 24 := Nat.or_lt_two_pow hp hBlt
                obtain ⟨M2, hM2⟩ : ∃ M2, M2 = p ||| B := ⟨_, rfl⟩
                rw [← hM2] at hor2 hm2 HG
                clear hgo hX hY HR HP HBAD HGO hb0 hy0 hC45 hsd hM2 HSD HSG
                go_wp2_with fail
                go_roundw
                case rel =>
                  refine ⟨E, n, M2, m, by go_num, hE2, by omega, hm2, hm, HG.out.symm, HBC.out.setCell (p := ⟨w1.heap.size + 1, 0, none⟩) (by simp) _, (heap_setCell_other _ _ _ _ (by simp)).trans HM'.out, ?_, ?_, ?_, ?_, by simp; omega⟩
                  · exact World.cell?_setCell_same _ _ _ c0'
                  · exact (World.cell?_setCell_other _ _ _ _ (by simp)).trans c1'
                  · rw [World.frozen?_setCell]; exact f0'
                  · rw [World.frozen?_setCell]; exact f1'
                case measure => simp [intOf]; omega
            · have hy1 : ((Y : Int) == 0) = false := by simp; omega
              have hy2 : ((Y : Int) != 0) = true := by simp; omega
              have hr := HBAD.out (by simp [hy0])
              have HR2 := Lib.hid hr
              clear hr hX hY HR HP HBAD HGO
              go_wp2_with fail
              refine bodyPost_ret (v := .tuple #[.int .u32 0, .int .u32 0, .int .i64 t, .int .i64 20]) (by simp [results, Tryd.results63, go_sem, *]) rfl ⟨by rw [HR2.out] <;> rfl, HBCW.out⟩
    · obtain rfl : t = s.size := by omega
      have hr : R = (p, m, 0, 0) := by rw [← HP.out, parF_end _ _ _ _ _ _ htn]
      have HR2 := Lib.hid hr
      clear hr hmm hm1 hm2 HBO HCH HR HP
      go_wp2_with fail
      go_region
      all_goals
        go_wp2_with fail
        refine bodyPost_ret (v := .tuple #[.int .u32 p, .int .u32 m, .int .i64 0, .int .i64 0]) (by simp [results, Tryd.results63, go_sem, *]) rfl ⟨by rw [HR2.out] <;> rfl, HBW.out.drew⟩

set_option maxHeartbeats 800000 in
set_option maxRecDepth 100000 in
theorem parse_any (A : Al) (s : ByteArray) (w : World) (hA : A.In w) :
    Calls Tryd.prog 63 #[A.v, .string s] w (ParPost (parR A s) w) := by
  cases hok : A.ok with
  | false =>
    have hx : parR A s = (0, 0, 0, 7) := by unfold parR; rw [hok]; rfl
    rw [hx]
    obtain ⟨pf, pl, nf, cf, nl, cl, hv, hnf, hnl, hpl, hcl, hpf, hcf⟩ := A.parts
    have hch := check_any A
    rw [hv] at hch ⊢
    have HA := Lib.hid hA; have HCH := Lib.hid hch; have HC := Lib.hid (chk_no hok)
    clear hA hch hv hnf hnl hpl hcl hpf hcf hok hx
    go_enter Tryd.func63, Tryd.ntmps63
    go_wp2_with fail
    refine (HCH.out _ (HA.out.alloc _)).mono ?_
    rintro e w1 ⟨rfl, hb1⟩
    rw [HC.out]
    have hbw1 : Below w.heap.size w w1 := ((Below.refl _ _).alloc (Nat.le_refl _) _).trans (hb1.mono (by simp))
    have HBW1 := Lib.hid hbw1
    clear hb1 hbw1
    go_wp2_with fail
    refine bodyPost_ret (v := .tuple #[.int .u32 0, .int .u32 0, .int .i64 0, .int .i64 7]) (by simp [results, Tryd.results63, go_sem, *]) rfl ⟨rfl, HBW1.out⟩
  | true =>
    by_cases hs : 65536 < s.size
    · have hx : parR A s = (0, 0, 0, 3) := by unfold parR; rw [hok, if_pos rfl, if_pos hs]
      rw [hx]
      obtain ⟨pf, pl, nf, cf, nl, cl, hv, hnf, hnl, hpl, hcl, hpf, hcf⟩ := A.parts
      have hch := check_any A
      rw [hv] at hch ⊢
      have HA := Lib.hid hA; have HCH := Lib.hid hch; have HC := Lib.hid (chk_ok hok)
      have hc1 : (65536 : Int) < (s.size : Int) := by omega
      clear hA hch hv hnf hnl hpl hcl hpf hcf hok hx hs
      go_enter Tryd.func63, Tryd.ntmps63
      go_wp2_with fail
      refine (HCH.out _ (HA.out.alloc _)).mono ?_
      rintro e w1 ⟨rfl, hb1⟩
      rw [HC.out]
      have hbw1 : Below w.heap.size w w1 := ((Below.refl _ _).alloc (Nat.le_refl _) _).trans (hb1.mono (by simp))
      have HBW1 := Lib.hid hbw1
      clear hb1 hbw1
      go_wp2_with fail
      refine bodyPost_ret (v := .tuple #[.int .u32 0, .int .u32 0, .int .i64 0, .int .i64 3]) (by simp [results, Tryd.results63, go_sem, *]) rfl ⟨rfl, HBW1.out⟩
    · have hx : parR A s = parF A.fs s (s.size + 1) 0 0 0 := by unfold parR; rw [hok, if_pos rfl, if_neg hs]
      rw [hx]
      exact parse_ok A s w hA hok (by omega)
end Go.Proofs.YtmechinlaladiaaDoor
namespace Go.Proofs.YtmechinlaladiaaDoor
open Go.RowKit Go.Lib
set_option linter.unusedVariables false

def smpFs : List ByteArray := [⟨#[118, 111, 105, 99, 101, 100]⟩, ⟨#[110, 97, 115, 97, 108]⟩, ⟨#[118, 111, 119, 101, 108]⟩]
def smpLs : List Ltr := [⟨112, 0, 7⟩, ⟨98, 1, 6⟩, ⟨109, 3, 4⟩, ⟨97, 5, 2⟩, ⟨104, 0, 0⟩]
def smp (b1 b2 : Nat) : Al := ⟨some ⟨b1, 0, none⟩, b1, 0, 3, smpFs, some ⟨b2, 0, none⟩, b2, 0, 5, smpLs⟩
def nilAl : Al := ⟨none, 0, 0, 0, [], none, 0, 0, 0, []⟩
theorem nilAl_in (w : World) : nilAl.In w :=
  ⟨⟨fun h => absurd h (by decide), fun j hj => absurd hj (by simp [nilAl]), by decide, by decide, fun j hj => absurd hj (by simp [nilAl])⟩,
   ⟨fun h => absurd h (by decide), fun j hj => absurd hj (by simp [nilAl]), fun j hj => absurd hj (by simp [nilAl]), fun j hj => absurd hj (by simp [nilAl]), by decide, fun l hl => absurd hl (by simp [nilAl])⟩⟩
theorem smp_v (b1 b2 : Nat) : (smp b1 b2).v = .agg #[.slice (some ⟨b1, 0, none⟩) 3 3, .slice (some ⟨b2, 0, none⟩) 5 5] := rfl
theorem smp_ok : alB smpFs smpLs = true := by kernel_rfl
theorem smp_ok' (b1 b2 : Nat) : (smp b1 b2).ok = true := smp_ok
theorem smp_chk (b1 b2 : Nat) : chk (smp b1 b2) = 0 := by unfold chk; rw [smp_ok']; rfl
theorem nil_chk : chk nilAl = 7 := by kernel_rfl
theorem smp_aac (b1 b2 : Nat) (p m : Nat) (h : clsB 3 p m = true) : aacR (smp b1 b2) p m = 0 := by rw [aacR_ok (smp_ok' b1 b2), show (smp b1 b2).fs.length = 3 from rfl, h]; rfl
theorem smp_of (b1 b2 : Nat) (r : Int) : ofR (smp b1 b2) r = lofR smpLs r := by unfold ofR; rw [smp_ok']; rfl
theorem smp_lac (b1 b2 : Nat) (r : Int) (p m : Nat) (l : Ltr) (h : lofR smpLs r = (l, 0)) (hc : clsB 3 p m = true) : lacR (smp b1 b2) r p m = (l, 0) := by
  rw [lacR_ok (by rw [smp_of, h]) (show clsB (smp b1 b2).fs.length p m = true from hc), smp_of, h]
theorem smp_class (b1 b2 : Nat) : clsR (smp b1 b2) 1 4 = [98, 109] := by unfold clsR; rw [smp_aac b1 b2 1 4 (by decide), if_pos rfl]; kernel_rfl
theorem smp_near (b1 b2 : Nat) : nearR (smp b1 b2) 98 2 1 = (112, 0) := by
  unfold nearR
  rw [smp_lac b1 b2 98 2 1 ⟨98, 1, 6⟩ (by decide) (by decide), if_pos rfl, show (smp b1 b2).ls = smpLs from rfl]
  kernel_rfl
theorem smp_far (b1 b2 : Nat) : farR (smp b1 b2) 112 104 = (3, 0) := by
  unfold farR
  rw [smp_of, show (smp b1 b2).ls = smpLs from rfl]
  kernel_rfl
theorem smp_least (b1 b2 : Nat) : leastR (smp b1 b2) [98, 109] = (1, 4, 0) := by
  unfold leastR
  rw [smp_ok', if_pos rfl, show (smp b1 b2).ls = smpLs from rfl, show (smp b1 b2).fs = smpFs from rfl]
  kernel_rfl
theorem smp_text (b1 b2 : Nat) : textR (smp b1 b2) 1 6 = ([43, 118, 111, 105, 99, 101, 100, 45, 110, 97, 115, 97, 108, 45, 118, 111, 119, 101, 108], 0) := by
  unfold textR
  rw [smp_aac b1 b2 1 6 (by decide), if_pos rfl, show (smp b1 b2).fs = smpFs from rfl]
  kernel_rfl
theorem smp_has (b1 b2 : Nat) : hasR (smp b1 b2) 98 1 2 = (true, 0) := by
  unfold hasR
  rw [smp_lac b1 b2 98 1 2 ⟨98, 1, 6⟩ (by decide) (by decide), if_pos rfl]
  kernel_rfl
theorem smp_par1 (b1 b2 : Nat) : parR (smp b1 b2) ⟨#[45, 118, 111, 119, 101, 108, 43, 118, 111, 105, 99, 101, 100]⟩ = (1, 4, 0, 0) := by
  unfold parR
  rw [smp_ok', if_pos rfl, show (smp b1 b2).fs = smpFs from rfl]
  kernel_rfl
theorem smp_par2 (b1 b2 : Nat) : parR (smp b1 b2) ⟨#[43, 118, 111, 105, 99, 101, 100, 45, 118, 111, 105, 99, 101, 100]⟩ = (0, 0, 7, 20) := by
  unfold parR
  rw [smp_ok', if_pos rfl, show (smp b1 b2).fs = smpFs from rfl]
  kernel_rfl
end Go.Proofs.YtmechinlaladiaaDoor
namespace Go.Proofs.YtmechinlaladiaaDoor
open Go.RowKit Go.Lib
set_option linter.unusedVariables false

def smpF : Array Value := #[.string ⟨#[118, 111, 105, 99, 101, 100]⟩, .string ⟨#[110, 97, 115, 97, 108]⟩, .string ⟨#[118, 111, 119, 101, 108]⟩]
def smpL : Array Value := #[.int .i32 112, .int .u32 0, .int .u32 7, .int .i32 98, .int .u32 1, .int .u32 6, .int .i32 109, .int .u32 3, .int .u32 4, .int .i32 97, .int .u32 5, .int .u32 2, .int .i32 104, .int .u32 0, .int .u32 0]
theorem smp_in (w : World) (b1 b2 : Nat) (h1 : ∀ j, j < 3 → w.cell? ⟨b1, j, none⟩ = smpF[j]?) (h2 : ∀ j, j < 15 → w.cell? ⟨b2, j, none⟩ = smpL[j]?) : (smp b1 b2).In w := by
  refine ⟨⟨fun _ => rfl, ?_, (show 3 ≤ 3 by omega), (show 3 ≤ 140737488355328 by omega), ?_⟩, ⟨fun _ => rfl, ?_, ?_, ?_, (show 5 ≤ 140737488355328 by omega), ?_⟩⟩
  · intro j hj
    have hj : j < 3 := hj
    show w.cell? ⟨b1, 0 + j, none⟩ = _
    rw [Nat.zero_add, h1 j hj]
    match j, hj with
    | 0, _ => rfl
    | 1, _ => rfl
    | 2, _ => rfl
  · intro j hj
    have hj : j < 3 := hj
    match j, hj with
    | 0, _ => show 6 ≤ 140737488355328; omega
    | 1, _ => show 5 ≤ 140737488355328; omega
    | 2, _ => show 5 ≤ 140737488355328; omega
  · intro j hj
    have hj : j < 5 := hj
    show w.cell? ⟨b2, 0 + j * 3, none⟩ = _
    rw [Nat.zero_add, h2 _ (by omega)]
    match j, hj with
    | 0, _ => rfl
    | 1, _ => rfl
    | 2, _ => rfl
    | 3, _ => rfl
    | 4, _ => rfl
  · intro j hj
    have hj : j < 5 := hj
    show w.cell? ⟨b2, 0 + j * 3 + 1, none⟩ = _
    rw [Nat.zero_add, h2 _ (by omega)]
    match j, hj with
    | 0, _ => rfl
    | 1, _ => rfl
    | 2, _ => rfl
    | 3, _ => rfl
    | 4, _ => rfl
  · intro j hj
    have hj : j < 5 := hj
    show w.cell? ⟨b2, 0 + j * 3 + 2, none⟩ = _
    rw [Nat.zero_add, h2 _ (by omega)]
    match j, hj with
    | 0, _ => rfl
    | 1, _ => rfl
    | 2, _ => rfl
    | 3, _ => rfl
    | 4, _ => rfl
  · intro l hl
    have hl : l ∈ smpLs := hl
    simp only [smpLs, List.mem_cons, List.not_mem_nil, or_false] at hl
    rcases hl with rfl | rfl | rfl | rfl | rfl <;> decide

/-- The witness's world: the sample lies in box b, at blocks b1, b2. -/
structure Smp (w : World) (b1 b2 b : Nat) (wk : World) : Prop where
  i : (smp b1 b2).In wk
  c0 : wk.cell? ⟨b, 0, none⟩ = some (.slice (some ⟨b1, 0, none⟩) 3 3)
  c1 : wk.cell? ⟨b, 1, none⟩ = some (.slice (some ⟨b2, 0, none⟩) 5 5)
  below : Below w.heap.size w wk
  lt : b < wk.heap.size
theorem Smp.next {w : World} {b1 b2 b : Nat} {wk w' : World} (h : Smp w b1 b2 b wk) (hb : Below wk.heap.size wk w') : Smp w b1 b2 b w' :=
  ⟨h.i.next hb, (hb.cell (p := ⟨b, 0, none⟩) h.lt).trans h.c0, (hb.cell (p := ⟨b, 1, none⟩) h.lt).trans h.c1, h.below.trans (hb.mono h.below.size), Nat.lt_of_lt_of_le h.lt hb.size⟩
end Go.Proofs.YtmechinlaladiaaDoor
