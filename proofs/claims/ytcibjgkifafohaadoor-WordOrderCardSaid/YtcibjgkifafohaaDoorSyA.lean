/-
  WALKS: word.lettersAndPeaks, Peaks.
  WALKS: word.begin, Syllables.
-/
import Derived.Test.YtcibjgkifafohaaDoorWdW
namespace Go.Proofs.YtcibjgkifafohaaDoor
open Go.RowKit Go.Lib
set_option linter.unusedVariables false

/-- The numbers ahead of k of the letters that are in C. -/
def pkT (l C : List Int) (k : Nat) : List Nat := (List.range k).filter fun j => decide (l.getD j 0 ∈ C)
theorem pkT_yes {l C : List Int} {k : Nat} (h : l.getD k 0 ∈ C) : pkT l C (k + 1) = pkT l C k ++ [k] := by
  unfold pkT
  rw [List.range_succ, List.filter_append]
  simp only [List.filter_cons, List.filter_nil, decide_eq_true h, if_true]
theorem pkT_no {l C : List Int} {k : Nat} (h : ¬ l.getD k 0 ∈ C) : pkT l C (k + 1) = pkT l C k := by
  unfold pkT
  rw [List.range_succ, List.filter_append]
  simp only [List.filter_cons, List.filter_nil, decide_eq_false h, if_false, List.append_nil, Bool.false_eq_true]
theorem pkT_le (l C : List Int) (k : Nat) : (pkT l C k).length ≤ k := by
  unfold pkT
  have := List.length_filter_le (fun j => decide (l.getD j 0 ∈ C)) (List.range k)
  rw [List.length_range] at this
  exact this
def pkE (A : Al) (s : ByteArray) (p m : Nat) : Int := if letE A s = 0 then aacR A p m else letE A s
def pkL (A : Al) (s : ByteArray) (p m : Nat) : List Nat := if pkE A s p m = 0 then pkT (letL A s) (clsR A p m) (letL A s).length else []
def pkN (A : Al) (s : ByteArray) (p m : Nat) : Nat := if pkE A s p m = 0 then (letL A s).length else 0
def LapPost (n : Nat) (P : List Nat) (E : Int) (w : World) (e : Ending) (w' : World) : Prop :=
  ∃ v : Value, e = .returned (.tuple #[.int .i64 (n : Nat), v, .int .i64 E]) ∧ w'.ownsRow w.heap.size 3 1 v P.length (P.map E64) ∧ Below w.heap.size w w'
theorem c_cls {A : Al} {p m : Nat} {W : World} (hp : p < 4294967296) (hm : m < 4294967296) (h : aacR A p m = 0) (hlen : (clsR A p m).length ≤ 140737488355328) (hA : A.In W) :
    Calls Tryd.prog 79 #[A.v, .int .u32 p, .int .u32 m] W fun e w' => ∃ pr br cr, e = .returned (.tuple #[.slice pr (clsR A p m).length cr, .int .i64 0]) ∧ RsIn pr br 0 (clsR A p m) w' ∧ Below W.heap.size W w' := by
  refine (class_any A p m W hA hp hm).mono ?_
  rintro e w' ⟨v, he, ho, hb⟩
  obtain ⟨pr, br, cr, rfl, hr⟩ := own_rs ho hlen
  rw [h] at he
  exact ⟨pr, br, cr, he, hr, hb⟩
theorem cls_len (A : Al) (p m : Nat) : (clsR A p m).length ≤ A.ls.length := by
  unfold clsR
  split
  · unfold clsL
    rw [List.length_map]
    exact List.length_filter_le _ _
  · exact Nat.zero_le _
theorem c_clsno {A : Al} {p m : Nat} {W : World} (hp : p < 4294967296) (hm : m < 4294967296) (h : ¬ aacR A p m = 0) (hA : A.In W) :
    Calls Tryd.prog 79 #[A.v, .int .u32 p, .int .u32 m] W fun e w' => ∃ o c, e = .returned (.tuple #[.slice o 0 c, .int .i64 (aacR A p m)]) ∧ Below W.heap.size W w' := by
  refine (class_any A p m W hA hp hm).mono ?_
  rintro e w' ⟨v, he, ho, hb⟩
  have h0 : clsR A p m = [] := by unfold clsR; rw [if_neg h]
  rw [h0] at ho
  obtain ⟨o, c, rfl⟩ := own_shape ho
  exact ⟨o, c, he, hb⟩

set_option maxHeartbeats 4000000 in
set_option maxRecDepth 100000 in
theorem lap_any (A : Al) (s : ByteArray) (p m : Nat) (w : World) (hA : A.In w) (hT : Tabs w) (hp : p < 4294967296) (hm : m < 4294967296) :
    Calls Tryd.prog 54 #[A.v, .string s, .int .u32 p, .int .u32 m] w (LapPost (pkN A s p m) (pkL A s p m) (pkE A s p m) w) := by
  by_cases h : letE A s = 0
  · have k1 := fun W hA hT => let_yes (A := A) (s := s) (w := W) hA hT h
    unfold LetYes at k1
    by_cases hc : aacR A p m = 0
    · have he : pkE A s p m = 0 := by unfold pkE; rw [if_pos h, hc]
      have hl : pkL A s p m = pkT (letL A s) (clsR A p m) (letL A s).length := by unfold pkL; rw [if_pos he]
      have hn : pkN A s p m = (letL A s).length := by unfold pkN; rw [if_pos he]
      rw [he, hl, hn]
      have h260 := letL_len A s
      have k2 := fun W hA => c_cls (W := W) hp hm hc (Nat.le_trans (cls_len A p m) hA.L.big) hA
      have k3 := fun pr br cr x W hR => has_rune pr br 0 cr (clsR A p m) x W hR
      have hors := fun (W : World) (B : Nat) (v : Value) (h : W.ownsRow B 21 1 v (letL A s).length ((letL A s).map E32)) => own_rs h (by omega)
      obtain ⟨l, hl'⟩ : ∃ l, l = letL A s := ⟨_, rfl⟩
      obtain ⟨C, hC⟩ : ∃ C, C = clsR A p m := ⟨_, rfl⟩
      rw [← hl'] at k1 hors h260 ⊢
      rw [← hC] at k2 k3 ⊢
      obtain ⟨n, hn'⟩ : ∃ n, n = l.length := ⟨_, rfl⟩
      obtain ⟨nc, hnc⟩ : ∃ n, n = C.length := ⟨_, rfl⟩
      rw [← hn'] at k1 hors h260 ⊢
      rw [← hnc] at k2 k3
      obtain ⟨pf, pl, nf, cf, nl, cl, hv, hnf, hnl, hpl, hcl, hpf, hcf⟩ := A.parts
      rw [hv] at k1 k2 ⊢
      obtain ⟨i0, hi, hz0, hz1, hz2⟩ := info_parts int_info
      have HI0 := Lib.hid hi; have HZ0 := Lib.hid hz0; have HZ1 := Lib.hid hz1; have HZ2 := Lib.hid hz2
      have K1 := Lib.hid k1; have K2 := Lib.hid k2; have K3 := Lib.hid k3; have HORS := Lib.hid hors; have HN := Lib.hid hn'
      have hs : A.In (w.alloc (.cells #[.slice pf nf cf, .slice pl nl cl] 34)) ∧ Tabs (w.alloc (.cells #[.slice pf nf cf, .slice pl nl cl] 34)) := ⟨hA.alloc _, hT.next ((Below.refl _ _).alloc (Nat.le_refl _) _)⟩
      have HS := Lib.hid hs
      clear k1 k2 k3 hors hn' hnc hl' hC he hl hn hA hT hv hnf hnl hpl hcl hpf hcf h hc hs hi hz0 hz1 hz2 hp hm
      go_enter Tryd.func54, Tryd.ntmps54
      go_wp2_with fail
      refine (K1.out _ HS.out.1 HS.out.2).mono ?_
      rintro e w1 ⟨v, rfl, ho, hb1⟩
      obtain ⟨lp, lb, lc, rfl, hrl⟩ := HORS.out _ _ _ ho
      have HRL := Lib.hid hrl
      obtain ⟨hcc, hff⟩ := bcell hb1
      have hz1 := hb1.size
      simp only [World.size_alloc] at hz1
      have hlt : w.heap.size < w1.heap.size := by omega
      have c0 : w1.cell? ⟨w.heap.size, 0, none⟩ = some (.slice pf nf cf) := by rw [hcc _ _ (by simp)]; simp
      have c1 : w1.cell? ⟨w.heap.size, 1, none⟩ = some (.slice pl nl cl) := by rw [hcc _ _ (by simp)]; simp
      have HA1 := Lib.hid (HS.out.1.next hb1)
      have HB := Lib.hid (show Below w.heap.size w w1 from ((Below.refl _ _).alloc (Nat.le_refl _) _).trans (hb1.mono (by simp)))
      clear ho hb1 hcc hff hrl hz1 HS HORS
      go_wp2_with fail
      refine (K2.out _ HA1.out).mono ?_
      rintro e w2 ⟨cp, cb, cc, rfl, hrc, hb2⟩
      have HRC := Lib.hid hrc
      have HRL2 := Lib.hid (HRL.out.next hb2)
      have HB2 := Lib.hid (HB.out.trans (hb2.mono HB.out.size))
      have hlt2 := HB2.out.size
      clear hrc hb2 HRL HA1 c0 c1
      go_wp2_with fail
      go_loopw [9, 36] (fun v iv wr => ∃ k : Nat, iv = .int .i64 k ∧ k ≤ n ∧ Hid (wr.ownsRow w2.heap.size 3 1 v (pkT l C k).length ((pkT l C k).map E64)) ∧ Hid (Below w2.heap.size w2 wr)) (fun _ iv _ => n - (intOf iv).toNat)
      case atStart => exact ⟨0, rfl, Nat.zero_le _, World.ownsRow_nil _ _ _ _, Below.refl _ _⟩
      case round =>
        obtain ⟨k, rfl, hk, HO, HBr⟩ := hrel
        have hszr := HBr.out.size
        obtain ⟨oo, co, rfl⟩ := own_shape HO.out
        by_cases hkn : k < n
        · have hkl : k < l.length := by rw [← HN.out]; exact hkn
          obtain rfl := HRL2.out.at_ (by omega)
          have a0 := (HRL2.out.next HBr.out).cells k hkl
          rw [Nat.zero_add] at a0
          have hle := pkT_le l C k
          have hy := pkT_yes (l := l) (C := C) (k := k)
          have hno := pkT_no (l := l) (C := C) (k := k)
          obtain ⟨q, hq⟩ : ∃ q, q = l.getD k 0 := ⟨_, rfl⟩
          rw [← hq] at a0 hy hno
          have hC := K3.out cp cb cc q wr (HRC.out.next HBr.out)
          by_cases hmem : q ∈ C
          · rw [decide_eq_true hmem] at hC
            have HC := Lib.hid hC
            have HY := Lib.hid (hy hmem)
            obtain ⟨len, hlen⟩ : ∃ x, x = (pkT l C k).length := ⟨_, rfl⟩
            rw [← hlen] at HO hle ⊢
            have HLEN := Lib.hid hlen
            clear hC hy hno hq hmem hkl hlen
            go_wp2_with fail
            refine HC.out.mono ?_
            rintro e w3 ⟨rfl, rfl⟩
            go_wp2_with (at_builtin; refine wpList_append_own _ rfl (.tmp 44) (.tmp 46) 45 rfl w2.heap.size 3 i0 (.int .i64 0) 1 8 Tryd.underlying45 HI0.out HZ0.out HZ1.out HZ2.out rfl (by decide) _ _ _ rfl (HO.out.alloc _) ⟨w3.heap.size, 0, none⟩ 1 1 [.int .i64 k] rfl rfl ?c1 ?c2 ?c3 ?c4 ?c5 ?_)
            case c1 =>
              intro j u hj
              match j, hj with
              | 0, hj => simp at hj; subst hj; simp [Addr.add]
              | j + 1, hj => simp at hj
            case c2 => intro u hu; simp at hu; subst hu; rfl
            case c3 => unfold maxLen; omega
            case c4 => omega
            case c5 => simp; omega
            intro v3 w4 hown3 hgrow3 hnil3
            have hob : ∀ q, (Value.slice oo len co).ownBlock = some q → w2.heap.size ≤ q := fun q hq => (HO.out.lt q hq).1
            have hB3 : Below w2.heap.size w2 w4 := (HBr.out.alloc (by omega) _).grown hgrow3 (by simp; omega) hob
            have hO3 : w4.ownsRow w2.heap.size 3 1 v3 (pkT l C (k + 1)).length ((pkT l C (k + 1)).map E64) := by
              rw [HY.out, List.length_append, ← HLEN.out, List.map_append]
              exact hown3
            have HB3 := Lib.hid hB3; have HO3 := Lib.hid hO3
            clear hob hB3 hown3 hgrow3 hnil3 hO3
            go_wp2_with fail
            go_roundw
            case rel => exact ⟨k + 1, by go_num, by omega, HO3, HB3⟩
            case measure => simp [intOf]; omega
          · rw [decide_eq_false hmem] at hC
            have HC := Lib.hid hC
            have HNo := Lib.hid (hno hmem)
            clear hC hy hno hq hmem hkl
            go_wp2_with fail
            refine HC.out.mono ?_
            rintro e w3 ⟨rfl, rfl⟩
            go_wp2_with fail
            go_roundw
            case rel => exact ⟨k + 1, by go_num, by omega, (show World.ownsRow _ _ _ _ _ _ _ by rw [HNo.out]; exact HO.out), HBr⟩
            case measure => simp [intOf]; omega
        · obtain rfl : k = n := by omega
          go_wp2_with fail
          go_ret3
          exact ⟨_, rfl, own_base HO.out HB2.out.size, HB2.out.trans (HBr.out.mono HB2.out.size)⟩
    · have he : pkE A s p m = aacR A p m := by unfold pkE; rw [if_pos h]
      have hl : pkL A s p m = [] := by unfold pkL; rw [he, if_neg hc]
      have hn : pkN A s p m = 0 := by unfold pkN; rw [he, if_neg hc]
      rw [he, hl, hn]
      have k2 := fun W hA => c_clsno (W := W) hp hm hc hA
      obtain ⟨n, hn'⟩ : ∃ n, n = (letL A s).length := ⟨_, rfl⟩
      obtain ⟨E, hE⟩ : ∃ E, E = aacR A p m := ⟨_, rfl⟩
      rw [← hn'] at k1
      rw [← hE] at k2 hc ⊢
      have e1 : (E == 0) = false := by simp [hc]
      have e2 : (E != 0) = true := by simp [hc]
      obtain ⟨pf, pl, nf, cf, nl, cl, hv, hnf, hnl, hpl, hcl, hpf, hcf⟩ := A.parts
      rw [hv] at k1 k2 ⊢
      have K1 := Lib.hid k1; have K2 := Lib.hid k2
      have hs : A.In (w.alloc (.cells #[.slice pf nf cf, .slice pl nl cl] 34)) ∧ Tabs (w.alloc (.cells #[.slice pf nf cf, .slice pl nl cl] 34)) := ⟨hA.alloc _, hT.next ((Below.refl _ _).alloc (Nat.le_refl _) _)⟩
      have HS := Lib.hid hs
      clear k1 k2 hn' hE he hl hn hA hT hv hnf hnl hpl hcl hpf hcf h hc hs hp hm
      go_enter Tryd.func54, Tryd.ntmps54
      go_wp2_with fail
      refine (K1.out _ HS.out.1 HS.out.2).mono ?_
      rintro e w1 ⟨v, rfl, ho, hb1⟩
      obtain ⟨o, c, rfl⟩ := own_shape ho
      obtain ⟨hcc, hff⟩ := bcell hb1
      have hz1 := hb1.size
      simp only [World.size_alloc] at hz1
      have hlt : w.heap.size < w1.heap.size := by omega
      have c0 : w1.cell? ⟨w.heap.size, 0, none⟩ = some (.slice pf nf cf) := by rw [hcc _ _ (by simp)]; simp
      have c1 : w1.cell? ⟨w.heap.size, 1, none⟩ = some (.slice pl nl cl) := by rw [hcc _ _ (by simp)]; simp
      have HA1 := Lib.hid (HS.out.1.next hb1)
      have HB := Lib.hid (show Below w.heap.size w w1 from ((Below.refl _ _).alloc (Nat.le_refl _) _).trans (hb1.mono (by simp)))
      clear ho hb1 hcc hff hz1 HS
      go_wp2_with fail
      refine (K2.out _ HA1.out).mono ?_
      rintro e w2 ⟨o2, c2, rfl, hb2⟩
      have HB2 := Lib.hid (HB.out.trans (hb2.mono HB.out.size))
      clear hb2
      go_wp2_with fail
      go_ret3
      exact ⟨.slice none 0 0, rfl, World.ownsRow_nil _ _ _ _, HB2.out⟩
  · have k1 := fun W hA hT => let_no (A := A) (s := s) (w := W) hA hT h
    have he : pkE A s p m = letE A s := by unfold pkE; rw [if_neg h]
    have hl : pkL A s p m = [] := by unfold pkL; rw [he, if_neg h]
    have hn : pkN A s p m = 0 := by unfold pkN; rw [he, if_neg h]
    rw [he, hl, hn]
    unfold LetNo at k1
    obtain ⟨E, hE⟩ : ∃ E, E = letE A s := ⟨_, rfl⟩
    obtain ⟨pf, pl, nf, cf, nl, cl, hv, hnf, hnl, hpl, hcl, hpf, hcf⟩ := A.parts
    rw [hv] at k1 ⊢
    rw [← hE] at k1 h ⊢
    have e1 : (E == 0) = false := by simp [h]
    have e2 : (E != 0) = true := by simp [h]
    have K1 := Lib.hid k1; have HA := Lib.hid hA; have HT := Lib.hid hT
    clear k1 hA hT hv hnf hnl hpl hcl hpf hcf hE h he hl hn
    go_enter Tryd.func54, Tryd.ntmps54
    go_wp2_with fail
    refine (K1.out _ (HA.out.alloc _) (HT.out.next ((Below.refl _ _).alloc (Nat.le_refl _) _))).mono ?_
    rintro e w1 ⟨o, c, rfl, hb1⟩
    have HB := Lib.hid (show Below w.heap.size w w1 from ((Below.refl _ _).alloc (Nat.le_refl _) _).trans (hb1.mono (by simp)))
    clear hb1
    go_wp2_with fail
    go_ret3
    exact ⟨.slice none 0 0, rfl, World.ownsRow_nil _ _ _ _, HB.out⟩

/-! ### Peaks -/
def PksPost (P : List Nat) (E : Int) (w : World) (e : Ending) (w' : World) : Prop :=
  ∃ v : Value, e = .returned (.tuple #[v, .int .i64 E]) ∧ w'.ownsRow w.heap.size 3 1 v P.length (P.map E64) ∧ Below w.heap.size w w'
set_option maxHeartbeats 2000000 in
set_option maxRecDepth 100000 in
theorem peaks_any (A : Al) (s : ByteArray) (p m : Nat) (w : World) (hA : A.In w) (hT : Tabs w) (hp : p < 4294967296) (hm : m < 4294967296) :
    Calls Tryd.prog 28 #[A.v, .string s, .int .u32 p, .int .u32 m] w (PksPost (pkL A s p m) (pkE A s p m) w) := by
  have k1 := fun W hA hT => lap_any A s p m W hA hT hp hm
  unfold LapPost at k1
  unfold PksPost
  obtain ⟨P, hP⟩ : ∃ P, P = pkL A s p m := ⟨_, rfl⟩
  obtain ⟨N, hN⟩ : ∃ P, P = pkN A s p m := ⟨_, rfl⟩
  obtain ⟨E, hE⟩ : ∃ P, P = pkE A s p m := ⟨_, rfl⟩
  rw [← hP, ← hE] at k1 ⊢
  rw [← hN] at k1
  obtain ⟨n, hn⟩ : ∃ n, n = P.length := ⟨_, rfl⟩
  rw [← hn] at k1 ⊢
  obtain ⟨pf, pl, nf, cf, nl, cl, hv, hnf, hnl, hpl, hcl, hpf, hcf⟩ := A.parts
  rw [hv] at k1 ⊢
  have K1 := Lib.hid k1; have HA := Lib.hid hA; have HT := Lib.hid hT
  clear k1 hA hT hv hnf hnl hpl hcl hpf hcf hE hP hN hn
  go_enter Tryd.func28, Tryd.ntmps28
  go_wp2_with fail
  refine (K1.out _ (HA.out.alloc _) (HT.out.next ((Below.refl _ _).alloc (Nat.le_refl _) _))).mono ?_
  rintro e w1 ⟨v, rfl, ho, hb1⟩
  have HO := Lib.hid ho
  obtain ⟨o, c, rfl⟩ := own_shape ho
  have HB := Lib.hid (show Below w.heap.size w w1 from ((Below.refl _ _).alloc (Nat.le_refl _) _).trans (hb1.mono (by simp)))
  clear hb1 ho
  go_wp2_with fail
  go_ret2
  exact ⟨_, rfl, own_base HO.out (by simp), HB.out⟩
end Go.Proofs.YtcibjgkifafohaaDoor
namespace Go.Proofs.YtcibjgkifafohaaDoor
open Go.RowKit Go.Lib
set_option linter.unusedVariables false

/-- Where a peak's syllable begins behind an earlier peak. -/
def begN (e p : Nat) : Nat := max (p - 1) (e + 1)
def sylT (P : List Nat) (n i : Nat) : Nat := if i + 1 < P.length then begN (P.getD i 0) (P.getD (i + 1) 0) else n
def sylF (P : List Nat) (n i : Nat) : Nat := if i = 0 then 0 else sylT P n (i - 1)
def spanC (P : List Nat) (n i : Nat) : List Value := [.int .i64 (sylF P n i : Nat), .int .i64 (sylT P n i : Nat)]
def spanCs (P : List Nat) (n k : Nat) : List Value := (List.range k).flatMap (spanC P n)
theorem spanCs_snoc (P : List Nat) (n k : Nat) : spanCs P n k ++ spanC P n k = spanCs P n (k + 1) := by
  unfold spanCs
  rw [List.range_succ, List.flatMap_append]
  simp
theorem spanCs_len (P : List Nat) (n k : Nat) : (spanCs P n k).length = k * 2 := by
  induction k with
  | zero => rfl
  | succ k ih => rw [← spanCs_snoc, List.length_append, ih]; simp [spanC]; omega
theorem sylF_next (P : List Nat) (n i : Nat) : sylF P n (i + 1) = sylT P n i := by unfold sylF; rw [if_neg (by omega), Nat.add_sub_cancel]
/-- Rising numbers. -/
def Rising (P : List Nat) : Prop := ∀ i, i + 1 < P.length → P.getD i 0 < P.getD (i + 1) 0
theorem pkT_sorted (l C : List Int) (k : Nat) : (pkT l C k).Pairwise (· < ·) := by
  unfold pkT
  exact List.pairwise_lt_range.filter _
theorem getN_at {l : List Nat} {k : Nat} (hk : k < l.length) : l.getD k 0 = l[k] := by rw [List.getD_eq_getElem?_getD, List.getElem?_eq_getElem hk]; rfl
theorem pkT_rising (l C : List Int) (k : Nat) : Rising (pkT l C k) := by
  intro i hi
  have := List.pairwise_iff_getElem.1 (pkT_sorted l C k) i (i + 1) (by omega) hi (by omega)
  rw [getN_at (by omega), getN_at hi]
  exact this
theorem pkT_lt (l C : List Int) (k i : Nat) (hi : i < (pkT l C k).length) : (pkT l C k).getD i 0 < k := by
  rw [getN_at hi]
  have := List.getElem_mem hi
  unfold pkT at this
  exact List.mem_range.1 (List.mem_filter.1 this).1
theorem pkL_rising (A : Al) (s : ByteArray) (p m : Nat) : Rising (pkL A s p m) := by
  unfold pkL
  split
  · exact pkT_rising _ _ _
  · intro i hi; simp at hi
theorem pkL_lt (A : Al) (s : ByteArray) (p m : Nat) : ∀ i, i < (pkL A s p m).length → (pkL A s p m).getD i 0 < pkN A s p m := by
  unfold pkL pkN
  intro i hi
  by_cases h : pkE A s p m = 0
  · rw [if_pos h] at hi ⊢
    rw [if_pos h]
    exact pkT_lt _ _ _ _ hi
  · rw [if_neg h] at hi; simp at hi
theorem pkN_le (A : Al) (s : ByteArray) (p m : Nat) : pkN A s p m ≤ 260 := by
  unfold pkN
  split
  · exact letL_len A s
  · omega
theorem pkL_le (A : Al) (s : ByteArray) (p m : Nat) : (pkL A s p m).length ≤ 260 := by
  unfold pkL
  split
  · exact Nat.le_trans (pkT_le _ _ _) (letL_len A s)
  · simp

set_option maxHeartbeats 1000000 in
theorem begin_any (e p : Nat) (w : World) (h : e < p) (hp : p ≤ 260) :
    Calls Tryd.prog 57 #[.int .i64 e, .int .i64 p] w fun x w' => x = .returned (.int .i64 (begN e p : Nat)) ∧ w' = w := by
  have hm : max ((p : Int) - 1) ((e : Int) + 1) = (begN e p : Nat) := by unfold begN; omega
  have HM := Lib.hid hm
  clear hm
  go_enter Tryd.func57, Tryd.ntmps57
  go_wp2_with fail
  go_ret
  exact ⟨by rw [← HM.out] <;> rfl, rfl⟩
theorem span_info : (Tryd.prog.info? 54).map (fun i => (i.zero, i.size, i.bytes)) = some (some (.agg #[.int .i64 0, .int .i64 0]), 2, 16) := by kernel_rfl
/-- A row of numbers in memory. -/
structure NsIn (pr : Option Addr) (br r0 : Nat) (l : List Nat) (w : World) : Prop where
  at_ : 0 < l.length → pr = some ⟨br, r0, none⟩
  cells : ∀ j, j < l.length → w.cell? ⟨br, r0 + j, none⟩ = some (.int .i64 (l.getD j 0 : Nat))
  big : l.length ≤ 140737488355328
theorem NsIn.next {pr : Option Addr} {br r0 : Nat} {l : List Nat} {w w' : World} (h : NsIn pr br r0 l w) (hb : RowKit.Below w.heap.size w w') : NsIn pr br r0 l w' :=
  ⟨h.at_, fun j hj => by have h1 := h.cells j hj; rw [hb.cell (p := ⟨br, r0 + j, none⟩) (lt_of_cell h1)]; exact h1, h.big⟩
theorem own_ns {w : World} {B : Nat} {v : Value} {l : List Nat} (h : w.ownsRow B 3 1 v l.length (l.map E64)) (hb : l.length ≤ 140737488355328) : ∃ pr br cr, v = .slice pr l.length cr ∧ NsIn pr br 0 l w := by
  rcases h.2 with ⟨rfl, hn⟩ | ⟨g, cap, cur, rfl, _⟩
  · exact ⟨none, 0, 0, by rw [hn], ⟨fun h => absurd h (by omega), fun j hj => absurd hj (by omega), hb⟩⟩
  · refine ⟨_, g, cap, rfl, ⟨fun _ => rfl, fun j hj => ?_, hb⟩⟩
    rw [Nat.zero_add, h.cellAt j (by omega), List.getElem?_map, getN_at hj, List.getElem?_eq_getElem hj]
    rfl
def SylPost (P : List Nat) (n : Nat) (E : Int) (w : World) (e : Ending) (w' : World) : Prop :=
  ∃ v : Value, e = .returned (.tuple #[v, .int .i64 E]) ∧ w'.ownsRow w.heap.size 54 2 v P.length (spanCs P n P.length) ∧ Below w.heap.size w w'
theorem pkL_no {A : Al} {s : ByteArray} {p m : Nat} (h : ¬ pkE A s p m = 0) : pkL A s p m = [] := by unfold pkL; rw [if_neg h]
set_option maxHeartbeats 4000000 in
set_option maxRecDepth 100000 in
theorem syl_any (A : Al) (s : ByteArray) (p m : Nat) (w : World) (hA : A.In w) (hT : Tabs w) (hp : p < 4294967296) (hm : m < 4294967296) :
    Calls Tryd.prog 30 #[A.v, .string s, .int .u32 p, .int .u32 m] w (SylPost (pkL A s p m) (pkN A s p m) (pkE A s p m) w) := by
  have k1 := fun W hA hT => lap_any A s p m W hA hT hp hm
  unfold LapPost at k1
  unfold SylPost
  have hris := pkL_rising A s p m
  have hltP := pkL_lt A s p m
  have hN260 := pkN_le A s p m
  have hP260 := pkL_le A s p m
  have hno := pkL_no (A := A) (s := s) (p := p) (m := m)
  obtain ⟨P, hP⟩ : ∃ P, P = pkL A s p m := ⟨_, rfl⟩
  obtain ⟨N, hN⟩ : ∃ P, P = pkN A s p m := ⟨_, rfl⟩
  obtain ⟨E, hE⟩ : ∃ P, P = pkE A s p m := ⟨_, rfl⟩
  rw [← hP] at k1 hris hltP hP260 hno ⊢
  rw [← hN] at k1 hltP hN260 ⊢
  rw [← hE] at k1 hno ⊢
  have hors := fun (W : World) (B : Nat) (v : Value) (h : W.ownsRow B 3 1 v P.length (P.map E64)) => own_ns h (by omega)
  have hg0 : 0 < P.length → P.getD 0 0 = P.getD 0 0 := fun _ => rfl
  obtain ⟨n, hn⟩ : ∃ n, n = P.length := ⟨_, rfl⟩
  rw [← hn] at k1 hors hP260 ⊢
  obtain ⟨pf, pl, nf, cf, nl, cl, hv, hnf, hnl, hpl, hcl, hpf, hcf⟩ := A.parts
  rw [hv] at k1 ⊢
  have K1 := Lib.hid k1; have HA := Lib.hid hA; have HT := Lib.hid hT; have HORS := Lib.hid hors; have HN := Lib.hid hn; have HRIS := Lib.hid hris; have HLT := Lib.hid hltP; have HNO := Lib.hid hno
  clear k1 hA hT hv hnf hnl hpl hcl hpf hcf hE hP hN hn hors hris hltP hno hg0
  by_cases h0 : E = 0
  · subst h0
    obtain ⟨i0, hi, hz0, hz1, hz2⟩ := info_parts span_info
    have HI0 := Lib.hid hi; have HZ0 := Lib.hid hz0; have HZ1 := Lib.hid hz1; have HZ2 := Lib.hid hz2
    clear hi hz0 hz1 hz2
    go_enter Tryd.func30, Tryd.ntmps30
    go_wp2_with fail
    refine (K1.out _ (HA.out.alloc _) (HT.out.next ((Below.refl _ _).alloc (Nat.le_refl _) _))).mono ?_
    rintro e w1 ⟨v, rfl, ho, hb1⟩
    obtain ⟨np, nb, nc, rfl, hns⟩ := HORS.out _ _ _ ho
    have HNS := Lib.hid hns
    have HB := Lib.hid (show Below w.heap.size w w1 from ((Below.refl _ _).alloc (Nat.le_refl _) _).trans (hb1.mono (by simp)))
    clear hb1 ho hns HORS K1 HA HT
    go_wp2_with fail
    go_loopw [13, 14, 32] (fun v fr iv wr => ∃ k : Nat, iv = .int .i64 k ∧ k ≤ n ∧ fr = .int .i64 (sylF P N k : Nat) ∧ Hid (wr.ownsRow w1.heap.size 54 2 v k (spanCs P N k)) ∧ Hid (Below w1.heap.size w1 wr)) (fun _ _ iv _ => n - (intOf iv).toNat)
    case atStart => exact ⟨0, rfl, Nat.zero_le _, rfl, World.ownsRow_nil _ _ _ _, Below.refl _ _⟩
    case round =>
      obtain ⟨k, rfl, hk, rfl, HO, HBr⟩ := hrel
      have hszr := HBr.out.size
      obtain ⟨oo, co, rfl⟩ := own_shape HO.out
      by_cases hkn : k < n
      · have hkl : k < P.length := by rw [← HN.out]; exact hkn
        obtain rfl := HNS.out.at_ (by omega)
        have a0 := (HNS.out.next HBr.out).cells k hkl
        rw [Nat.zero_add] at a0
        have hsn := spanCs_snoc P N k
        unfold spanC at hsn
        have hnx := sylF_next P N k
        have hlt := HLT.out k hkl
        obtain ⟨q, hq⟩ : ∃ q, q = P.getD k 0 := ⟨_, rfl⟩
        rw [← hq] at a0 hlt
        obtain ⟨F, hF⟩ : ∃ q, q = sylF P N k := ⟨_, rfl⟩
        rw [← hF] at hsn ⊢
        by_cases hk1 : k + 1 < n
        · have hkl1 : k + 1 < P.length := by rw [← HN.out]; exact hk1
          have a1 := (HNS.out.next HBr.out).cells (k + 1) hkl1
          rw [Nat.zero_add] at a1
          have hr := HRIS.out k hkl1
          have hlt1 := HLT.out (k + 1) hkl1
          rw [← hq] at hr
          have hT : sylT P N k = begN q (P.getD (k + 1) 0) := by unfold sylT; rw [if_pos hkl1, hq]
          obtain ⟨r, hrr⟩ : ∃ q, q = P.getD (k + 1) 0 := ⟨_, rfl⟩
          rw [← hrr] at a1 hr hlt1 hT
          have kb := fun w => begin_any q r w hr (by omega)
          rw [hT] at hsn hnx
          obtain ⟨Tt, hTt⟩ : ∃ t, t = begN q r := ⟨_, rfl⟩
          rw [← hTt] at hsn hnx kb
          have KB := Lib.hid kb; have HSN := Lib.hid hsn; have HNX := Lib.hid hnx
          clear kb hsn hnx hT hq hF hrr hTt hkl hkl1
          go_wp2_with fail
          refine (KB.out _).mono ?_
          rintro e w3 ⟨rfl, rfl⟩
          go_wp2_with (at_builtin; refine wpList_append_own _ rfl (.tmp 50) (.tmp 54) 48 rfl w1.heap.size 54 i0 (.agg #[.int .i64 0, .int .i64 0]) 2 16 Tryd.underlying48 HI0.out HZ0.out HZ1.out HZ2.out rfl (by decide) _ _ _ rfl (HO.out.alloc _) ⟨w3.heap.size, 0, none⟩ 1 1 [.int .i64 F, .int .i64 Tt] rfl rfl ?c1 ?c2 ?c3 ?c4 ?c5 ?_)
          case c1 =>
            intro j u hj
            match j, hj with
            | 0, hj => simp at hj; subst hj; simp [Addr.add]
            | 1, hj => simp at hj; subst hj; simp [Addr.add]
            | j + 2, hj => simp at hj
          case c2 => intro u hu; simp at hu; rcases hu with rfl | rfl <;> rfl
          case c3 => unfold maxLen; omega
          case c4 => omega
          case c5 => simp; omega
          intro v3 w4 hown3 hgrow3 hnil3
          have hob : ∀ q, (Value.slice oo k co).ownBlock = some q → w1.heap.size ≤ q := fun q hq => (HO.out.lt q hq).1
          have hB3 : Below w1.heap.size w1 w4 := (HBr.out.alloc (by omega) _).grown hgrow3 (by simp; omega) hob
          have hO3 : w4.ownsRow w1.heap.size 54 2 v3 (k + 1) (spanCs P N (k + 1)) := by
            rw [← HSN.out]
            exact hown3
          have HB3 := Lib.hid hB3; have HO3 := Lib.hid hO3
          clear hob hB3 hown3 hgrow3 hnil3 hO3
          go_wp2_with fail
          go_roundw
          case rel => exact ⟨k + 1, by go_num, by omega, by rw [HNX.out], HO3, HB3⟩
          case measure => simp [intOf]; omega
        · have hT : sylT P N k = N := by unfold sylT; rw [if_neg (by rw [← HN.out]; exact hk1)]
          rw [hT] at hsn hnx
          have hk1z : ¬ (k : Int) + 1 < (n : Int) := by omega
          have HSN := Lib.hid hsn; have HNX := Lib.hid hnx
          clear hsn hnx hT hq hF hkl
          go_wp2_with (at_builtin; refine wpList_append_own _ rfl (.tmp 50) (.tmp 54) 48 rfl w1.heap.size 54 i0 (.agg #[.int .i64 0, .int .i64 0]) 2 16 Tryd.underlying48 HI0.out HZ0.out HZ1.out HZ2.out rfl (by decide) _ _ _ rfl (HO.out.alloc _) ⟨wr.heap.size, 0, none⟩ 1 1 [.int .i64 F, .int .i64 N] rfl rfl ?c1 ?c2 ?c3 ?c4 ?c5 ?_)
          case c2 => exact ⟨rfl, rfl⟩
          case c3 => unfold maxLen; omega
          case c4 => omega
          case c5 => omega
          intro v3 w4 hown3 hgrow3 hnil3
          have hob : ∀ q, (Value.slice oo k co).ownBlock = some q → w1.heap.size ≤ q := fun q hq => (HO.out.lt q hq).1
          have hB3 : Below w1.heap.size w1 w4 := (HBr.out.alloc (by omega) _).grown hgrow3 (by simp; omega) hob
          have hO3 : w4.ownsRow w1.heap.size 54 2 v3 (k + 1) (spanCs P N (k + 1)) := by
            rw [← HSN.out]
            exact hown3
          have HB3 := Lib.hid hB3; have HO3 := Lib.hid hO3
          clear hob hB3 hown3 hgrow3 hnil3 hO3
          go_wp2_with fail
          go_roundw
          case rel => exact ⟨k + 1, by go_num, by omega, by rw [HNX.out], HO3, HB3⟩
          case measure => simp [intOf]; omega
      · obtain rfl : k = n := by omega
        go_wp2_with fail
        go_ret2
        exact ⟨_, rfl, own_base HO.out HB.out.size, HB.out.trans (HBr.out.mono HB.out.size)⟩
  · have hP0 := HNO.out h0
    subst hP0
    have e1 : (E == 0) = false := by simp [h0]
    have e2 : (E != 0) = true := by simp [h0]
    obtain rfl : n = 0 := HN.out
    clear h0 HORS HRIS HLT HNO HN
    go_enter Tryd.func30, Tryd.ntmps30
    go_wp2_with fail
    refine (K1.out _ (HA.out.alloc _) (HT.out.next ((Below.refl _ _).alloc (Nat.le_refl _) _))).mono ?_
    rintro e w1 ⟨v, rfl, ho, hb1⟩
    obtain ⟨o, c, rfl⟩ := own_shape ho
    have HB := Lib.hid (show Below w.heap.size w w1 from ((Below.refl _ _).alloc (Nat.le_refl _) _).trans (hb1.mono (by simp)))
    clear hb1 ho
    go_wp2_with fail
    go_ret2
    exact ⟨.slice none 0 0, rfl, World.ownsRow_nil _ _ _ _, HB.out⟩
end Go.Proofs.YtcibjgkifafohaaDoor
