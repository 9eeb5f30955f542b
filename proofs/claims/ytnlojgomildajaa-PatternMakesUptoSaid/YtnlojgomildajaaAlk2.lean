/-
  WALKS: pattern.alike; slices.EqualFunc at []api.Node.
-/
import Derived.Test.YtnlojgomildajaaEqf
namespace Go.Proofs.Ytnlojgomildajaa
open Go.RowKit Go.Lib
set_option linter.unusedVariables false
set_option maxHeartbeats 4000000 in
set_option maxRecDepth 100000 in
theorem alike_any (k1 : Nat) (r1 : Int) (p1 q1 : Nat) (k2 : Nat) (r2 : Int) (p2 q2 : Nat) (pa pb : Option Addr) (ba a0 ca bb b0 cb : Nat) (a b : List Int) (w : World) (hA : KsIn pa ba a0 ca a w) (hB : KsIn pb bb b0 cb b w) (B : Bool) (hBT : B = true ↔ k1 = k2 ∧ r1 = r2 ∧ p1 = p2 ∧ q1 = q2 ∧ a = b) :
    Calls Try.prog 38 #[.agg #[.int .u8 k1, .int .i32 r1, .int .u32 p1, .int .u32 q1, .slice pa a.length ca], .agg #[.int .u8 k2, .int .i32 r2, .int .u32 p2, .int .u32 q2, .slice pb b.length cb]] w fun e w' => e = .returned (.bool B) ∧ Below w.heap.size w w' := by
  obtain ⟨n1, hn1⟩ : ∃ n, n = a.length := ⟨_, rfl⟩
  obtain ⟨n2, hn2⟩ : ∃ n, n = b.length := ⟨_, rfl⟩
  have hF : ¬ (k1 = k2 ∧ r1 = r2 ∧ p1 = p2 ∧ q1 = q2) → B = false := fun h => by
    cases hBB : B with
    | false => rfl
    | true => have := hBT.1 hBB; exact absurd ⟨this.1, this.2.1, this.2.2.1, this.2.2.2.1⟩ h
  have HBB := Lib.hid (show Below w.heap.size w ((w.alloc (.cells #[.int .u8 k1, .int .i32 r1, .int .u32 p1, .int .u32 q1, .slice pa n1 ca] 42)).alloc (.cells #[.int .u8 k2, .int .i32 r2, .int .u32 p2, .int .u32 q2, .slice pb n2 cb] 42)) from ((Below.refl _ _).alloc (Nat.le_refl _) _).alloc (by simp) _)
  by_cases h1 : k1 = k2
  · subst h1
    by_cases h2 : r1 = r2
    · subst h2
      by_cases h3 : p1 = p2
      · subst h3
        by_cases h4 : q1 = q2
        · subst h4
          have hBT2 : B = true ↔ a = b := hBT.trans ⟨fun h => h.2.2.2.2, fun h => ⟨rfl, rfl, rfl, rfl, h⟩⟩
          have key := fun (W : World) (hW : Below w.heap.size w W) => equal_any pa pb ba a0 ca bb b0 cb a b W (hA.next hW) (hB.next hW) B hBT2
          rw [← hn1, ← hn2] at key ⊢
          have HK := Lib.hid key
          clear key hBT hBT2 hA hB hn1 hn2 hF
          go_enter Try.func38, Try.ntmps38
          go_wp2_with fail
          refine (HK.out _ HBB.out).mono ?_
          rintro e w2 ⟨rfl, hb⟩
          have HB2 := Lib.hid (HBB.out.trans (hb.mono HBB.out.size))
          clear hb HBB HK
          go_wp2_with fail
          go_ret
          exact ⟨rfl, HB2.out⟩
        · obtain rfl : B = false := hF (fun h => h4 h.2.2.2)
          have h5 : ¬ (q1 : Int) = (q2 : Int) := by omega
          have h6 : ((q1 : Int) == (q2 : Int)) = false := beq_eq_false_iff_ne.2 h5
          rw [← hn1, ← hn2]
          clear hBT hA hB hn1 hn2 hF
          go_enter Try.func38, Try.ntmps38
          go_wp2_with fail
          go_ret
          exact ⟨rfl, HBB.out⟩
      · obtain rfl : B = false := hF (fun h => h3 h.2.2.1)
        have h5 : ¬ (p1 : Int) = (p2 : Int) := by omega
        have h6 : ((p1 : Int) == (p2 : Int)) = false := beq_eq_false_iff_ne.2 h5
        rw [← hn1, ← hn2]
        clear hBT hA hB hn1 hn2 hF
        go_enter Try.func38, Try.ntmps38
        go_wp2_with fail
        go_ret
        exact ⟨rfl, HBB.out⟩
    · obtain rfl : B = false := hF (fun h => h2 h.2.1)
      have h6 : (r1 == r2) = false := beq_eq_false_iff_ne.2 h2
      rw [← hn1, ← hn2]
      clear hBT hA hB hn1 hn2 hF
      go_enter Try.func38, Try.ntmps38
      go_wp2_with fail
      go_ret
      exact ⟨rfl, HBB.out⟩
  · obtain rfl : B = false := hF (fun h => h1 h.1)
    have h5 : ¬ (k1 : Int) = (k2 : Int) := by omega
    have h6 : ((k1 : Int) == (k2 : Int)) = false := beq_eq_false_iff_ne.2 h5
    rw [← hn1, ← hn2]
    clear hBT hA hB hn1 hn2 hF
    go_enter Try.func38, Try.ntmps38
    go_wp2_with fail
    go_ret
    exact ⟨rfl, HBB.out⟩
theorem nd_eq (a b : Nd) : a = b ↔ a.k = b.k ∧ a.r = b.r ∧ a.p = b.p ∧ a.m = b.m ∧ a.ks = b.ks := by
  cases a; cases b; simp
noncomputable def ndE (a b : Nd) : Bool := @decide (a = b) (Classical.propDecidable _)
theorem ndE_iff (a b : Nd) : ndE a b = true ↔ a = b := @decide_eq_true_iff _ (Classical.propDecidable _)
theorem alike_m (m1 m2 : NdM) (w : World) (hA : KsIn m1.pk m1.bk m1.k0 m1.c m1.nd.ks w) (hB : KsIn m2.pk m2.bk m2.k0 m2.c m2.nd.ks w) :
    Calls Try.prog 38 #[m1.v, m2.v] w fun e w' => e = .returned (.bool (ndE m1.nd m2.nd)) ∧ Below w.heap.size w w' :=
  alike_any _ _ _ _ _ _ _ _ _ _ _ _ _ _ _ _ _ _ w hA hB _ ((ndE_iff _ _).trans (nd_eq _ _))
/-- Up to j two rows of nodes are one. -/
def EqNd (a b : List NdM) (j : Nat) : Prop := ∀ i, i < j → (a.getD i default).nd = (b.getD i default).nd
theorem eqNd_all {a b : List NdM} (hl : a.length = b.length) (h : EqNd a b a.length) : nds a = nds b := by
  apply List.ext_getElem (by rw [nds_length, nds_length, hl])
  intro i h1 h2
  rw [nds_length] at h1 h2
  rw [nds_at a i h1, nds_at b i h2]
  exact h i h1
theorem nds_getD {a b : List NdM} (h : nds a = nds b) (j : Nat) (ha : j < a.length) (hb : j < b.length) : (a.getD j default).nd = (b.getD j default).nd := by
  have h1 := nds_at a j ha
  have h2 := nds_at b j hb
  rw [← h1, ← h2]
  congr 1
set_option maxHeartbeats 8000000 in
set_option maxRecDepth 100000 in
theorem equalF_any (pa pb : Option Addr) (ba a0 ca bb b0 cb : Nat) (a b : List NdM) (w : World) (hA : NsIn pa ba a0 a w) (hB : NsIn pb bb b0 b w) (B : Bool) (hBT : B = true ↔ nds a = nds b) :
    Calls Try.prog 37 #[.slice pa a.length ca, .slice pb b.length cb, .func (.func 38) #[] #[]] w fun e w' => e = .returned (.bool B) ∧ Below w.heap.size w w' := by
  by_cases hl : a.length = b.length
  · obtain ⟨n, hn⟩ : ∃ n, n = a.length := ⟨_, rfl⟩
    have hbig := hA.big
    rw [← hl, ← hn]
    rw [← hn] at hbig
    have HA := Lib.hid hA; have HB := Lib.hid hB; have HN := Lib.hid hn; have HL := Lib.hid hl
    clear hA hB hn hl
    go_enter Try.func37, Try.ntmps37
    go_wp2_with fail
    go_loopw [17] (fun iv wr => ∃ j : Nat, iv = .int .i64 j ∧ j ≤ n ∧ Hid (EqNd a b j) ∧ Hid (Below w.heap.size w wr)) (fun iv _ => n - (intOf iv).toNat)
    case atStart => exact ⟨0, rfl, by omega, Lib.hid (fun i hi => by omega), Lib.hid (Below.refl _ _)⟩
    case round =>
      obtain ⟨j, rfl, hj, HE, HBW⟩ := hrel
      by_cases hjn : j < n
      · have hja : j < a.length := by have := HN.out; omega
        have hjb : j < b.length := by have := HN.out; have := HL.out; omega
        obtain rfl := HA.out.at_ (by omega)
        obtain rfl := HB.out.at_ (by omega)
        obtain ⟨a1, a2, a3, a4, a5⟩ := (HA.out.next HBW.out).node j hja
        obtain ⟨b1, b2, b3, b4, b5⟩ := (HB.out.next HBW.out).node j hjb
        have ka := (HA.out.next HBW.out).kids j hja
        have kb := (HB.out.next HBW.out).kids j hjb
        obtain ⟨x, hx⟩ : ∃ x, x = a.getD j default := ⟨_, rfl⟩
        obtain ⟨y, hy⟩ : ∃ y, y = b.getD j default := ⟨_, rfl⟩
        rw [← hx] at a1 a2 a3 a4 a5 ka
        rw [← hy] at b1 b2 b3 b4 b5 kb
        have hzb := blk_of_cell b1
        have hza := blk_of_cell a1
        have key := fun (W : World) (hW : Below wr.heap.size wr W) => alike_m x y W (ka.next hW) (kb.next hW)
        unfold NdM.v at key
        have HK := Lib.hid key
        have HX := Lib.hid hx; have HY := Lib.hid hy
        have HJ := Lib.hid (show j + 1 ≤ n from hjn)
        have HB2 := Lib.hid (show Below wr.heap.size wr ((wr.alloc (.cells #[.int .u8 x.nd.k, .int .i32 x.nd.r, .int .u32 x.nd.p, .int .u32 x.nd.m, .slice x.pk x.nd.ks.length x.c] 42)).alloc (.cells #[.int .u8 y.nd.k, .int .i32 y.nd.r, .int .u32 y.nd.p, .int .u32 y.nd.m, .slice y.pk y.nd.ks.length y.c] 42)) from ((Below.refl _ _).alloc (Nat.le_refl _) _).alloc (by simp) _)
        clear hx hy ka kb key hja hjb
        go_wp2_with fail
        refine (HK.out _ HB2.out).mono ?_
        rintro e w2 ⟨rfl, hb⟩
        have hb2 := HB2.out.trans (hb.mono HB2.out.size)
        replace HBW := Lib.hid (HBW.out.trans (hb2.mono HBW.out.size))
        clear hb hb2 HB2 HK a1 a2 a3 a4 a5 b1 b2 b3 b4 b5
        cases hq : ndE x.nd y.nd with
        | true =>
          have HQ := Lib.hid ((ndE_iff _ _).1 hq)
          clear hq
          go_wp2_with fail
          go_roundw
          case rel => exact ⟨j + 1, by go_num, HJ.out, Lib.hid (fun i hi => by
            by_cases e : i = j
            · rw [e, ← HX.out, ← HY.out]; exact HQ.out
            · exact HE.out i (by omega)), HBW⟩
          case measure => have := HJ.out; simp [intOf]; omega
        | false =>
          obtain rfl : B = false := by
            cases hBB : B with
            | false => rfl
            | true =>
              have h := nds_getD (hBT.1 hBB) j (by have := HN.out; omega) (by have := HN.out; have := HL.out; omega)
              rw [← HX.out, ← HY.out] at h
              rw [(ndE_iff _ _).2 h] at hq
              cases hq
          clear hBT hq
          go_wp2_with fail
          go_ret
          exact ⟨rfl, HBW.out⟩
      · obtain rfl : j = n := by omega
        obtain rfl : B = true := hBT.2 (eqNd_all HL.out (by rw [← HN.out]; exact HE.out))
        clear hBT
        go_wp2_with fail
        go_ret
        exact ⟨rfl, HBW.out⟩
  · obtain rfl : B = false := by
      cases hBB : B with
      | false => rfl
      | true => exact absurd (congrArg List.length (hBT.1 hBB)) (by rw [nds_length, nds_length]; exact hl)
    have h1 : ¬ (a.length : Int) = (b.length : Int) := by omega
    clear hA hB hBT
    go_enter Try.func37, Try.ntmps37
    go_wp2_with fail
    go_ret
    exact ⟨rfl, Below.refl _ _⟩
end Go.Proofs.Ytnlojgomildajaa
