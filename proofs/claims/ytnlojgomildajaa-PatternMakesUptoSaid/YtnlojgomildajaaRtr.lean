/-
  WALKS: cognateref04.Tree.
-/
import Derived.Test.YtnlojgomildajaaMkp
import Derived.Test.YtnlojgomildajaaRnd
namespace Go.Proofs.Ytnlojgomildajaa
open Go.RowKit Go.Lib
set_option linter.unusedVariables false

/-- How often each number was a kid's. -/
def KcIn (M n : Nat) (l : List Nat) (w : World) : Prop := M < w.heap.size ∧ (∀ x, x < n → w.cell? ⟨M, x, none⟩ = some (.int .i64 (l.count x))) ∧ ∀ x, x < n → w.frozen? ⟨M, x, none⟩ = false
theorem KcIn.next {M n : Nat} {l : List Nat} {w w' : World} (h : KcIn M n l w) (hb : Below w.heap.size w w') : KcIn M n l w' :=
  ⟨Nat.lt_of_lt_of_le h.1 hb.size, fun j hj => (hb.cell (p := ⟨M, j, none⟩) h.1).trans (h.2.1 j hj), fun j hj => (hb.frozen (p := ⟨M, j, none⟩) h.1).trans (h.2.2 j hj)⟩
theorem KcIn.made {w : World} {N M n : Nat} (h : w.ownsRow N 3 1 (.slice (some ⟨M, 0, none⟩) n n) n (List.replicate n (.int .i64 0))) : KcIn M n [] w := by
  rcases h.2 with ⟨e, _⟩ | ⟨g, cap, cur, e, _, hh, hc, _⟩
  · cases e
  · cases e
    refine ⟨(Array.getElem?_eq_some_iff.1 hh).1, fun x hx => ?_, fun x hx => by simp [World.frozen?, hh]⟩
    rw [h.cellAt x (by omega), List.getElem?_replicate, if_pos hx]
    rfl
theorem KcIn.set {M n k : Nat} {l : List Nat} {w : World} (h : KcIn M n l w) (hk : k < n) : KcIn M n (l ++ [k]) (w.setCell ⟨M, k, none⟩ (.int .i64 ((l.count k : Int) + 1))) := by
  refine ⟨by simpa using h.1, fun j hj => ?_, fun j hj => by rw [World.frozen?_setCell]; exact h.2.2 j hj⟩
  by_cases e : j = k
  · subst e
    rw [World.cell?_setCell_same _ _ _ (h.2.1 j hj)]
    simp
  · rw [World.cell?_setCell_other _ _ _ _ (fun h => e (by injection h with _ h2; exact h2.symm)), h.2.1 j hj]
    rw [List.count_append, List.count_singleton]
    have : (k == j) = false := by simpa using fun h => e h.symm
    simp [this]
set_option maxHeartbeats 8000000 in
set_option maxRecDepth 100000 in
theorem rtree_any (pn : Option Addr) (bn n0 c : Nat) (ms : List NdM) (w : World) (h : NsIn pn bn n0 ms w) (B : Bool) (hBT : B = true ↔ IsTree (nds ms)) : Calls Try.prog 25 #[.agg #[.slice pn ms.length c]] w fun e w' => e = .returned (.bool B) ∧ Below w.heap.size w w' := by
  have hl := nds_length ms
  obtain ⟨n, hn⟩ : ∃ n, n = ms.length := ⟨_, rfl⟩
  obtain ⟨ns, hns⟩ : ∃ ns, ns = nds ms := ⟨_, rfl⟩
  have hnd : ∀ j, j < ms.length → ns[j]? = some (ms.getD j default).nd := fun j hj => by
    rw [hns, ← nds_at ms j hj]; exact List.getElem?_eq_getElem _
  have hbig := h.big
  rw [← hns] at hl hBT
  rw [← hn] at hl hnd hbig ⊢
  have HN := Lib.hid h; have HND := Lib.hid hnd; have HL := Lib.hid hl; have HLN := Lib.hid hn
  have HB := Lib.hid (show Below w.heap.size w (w.alloc (.cells #[.slice pn n c] 25)) from (Below.refl _ _).alloc (Nat.le_refl _) _)
  have hBf : ¬ IsTree ns → B = false := fun h => by
    cases hB : B with
    | false => rfl
    | true => exact absurd (hBT.1 hB) h
  clear h hnd hns hn
  by_cases h1 : n < 1
  · obtain rfl : B = false := hBf (fun t => by have := t.one; omega)
    clear hl
    obtain rfl : n = 0 := by omega
    clear hBT hBf
    go_enter Try.func25, Try.ntmps25
    go_wp2_with fail
    go_ret
    exact ⟨rfl, HB.out⟩
  by_cases h2 : 256 < n
  · obtain rfl : B = false := hBf (fun t => by have := t.most; omega)
    clear hl
    have a1 : ¬ (n : Int) < 1 := by omega
    have a2 : (256 : Int) < (n : Int) := by omega
    clear hBT hBf
    go_enter Try.func25, Try.ntmps25
    go_wp2_with fail
    go_ret
    exact ⟨rfl, HB.out⟩
  clear hl
  have a1 : ¬ (n : Int) < 1 := by omega
  have a2 : ¬ (256 : Int) < (n : Int) := by omega
  obtain ⟨i0, hi, hz0, hz1, hz2⟩ := info_parts int_info
  have HI0 := Lib.hid hi; have HZ0 := Lib.hid hz0; have HZ1 := Lib.hid hz1; have HZ2 := Lib.hid hz2
  have HBT := Lib.hid hBT; have HBF := Lib.hid hBf
  clear hi hz0 hz1 hz2 hBT hBf
  go_enter Try.func25, Try.ntmps25
  go_wp2_with (at_make; refine wpList_make_full _ rfl _ _ 40 rfl 0 3 i0 _ 1 Try.underlying40 HI0.out HZ0.out HZ1.out .i64 .i64 n n n rfl rfl rfl rfl ?m1 ?m2 (Nat.zero_le _) ?_)
  case m1 => rw [HZ2.out]; omega
  case m2 => unfold maxLen; omega
  intro w3 hown hgrow
  have hb3 : Below (w.alloc (.cells #[.slice pn n c] 25)).heap.size (w.alloc (.cells #[.slice pn n c] 25)) w3 := ⟨hgrow.os, hgrow.tape, hgrow.output, hgrow.size, fun k hk => hgrow.block k hk (fun e => by cases e)⟩
  have hown2 : w3.ownsRow 0 3 1 (.slice (some ⟨w.heap.size + 1, 0, none⟩) n n) n (List.replicate n (.int .i64 0)) := by
    rw [← toList_madeCells_one]
    exact hown
  have HK := Lib.hid (KcIn.made hown2)
  have HB2 := Lib.hid (HB.out.trans (hb3.mono HB.out.size))
  have HP := Lib.hid (PreC.start ns)
  have hc0 : w3.cell? ⟨w.heap.size, 0, none⟩ = some (.slice pn n c) := (hb3.cell (p := ⟨w.heap.size, 0, none⟩) (by simp)).trans (by simp)
  have HC := Lib.hid hc0
  have hn256 : n ≤ 256 := by omega
  clear hc0 h1 h2 hown hgrow hb3 hown2
  go_wp2_with fail
  go_loopw [5] (fun iv wr => ∃ i : Nat, iv = .int .i64 i ∧ i ≤ n ∧ Hid ((pK ns i 0).length ≤ i * 256) ∧ Hid (PreC ns i 0) ∧ Hid (KcIn (w.heap.size + 1) n (pK ns i 0) wr) ∧ Hid (Below w.heap.size w wr) ∧ Hid (wr.cell? ⟨w.heap.size, 0, none⟩ = some (.slice pn n c))) (fun iv _ => n - (intOf iv).toNat)
  case atStart => exact ⟨0, rfl, by omega, Lib.hid (Nat.zero_le _), HP, HK, HB2, HC⟩
  case round =>
    clear HP HK HB2 HC HB
    obtain ⟨i, rfl, hi, HLE, HP, HK, HB, HC⟩ := hrel
    have c0 := HC.out
    have hi0 : w.heap.size < wr.heap.size := blk_of_cell c0
    by_cases hin : i < n
    · have hpn : pn = some ⟨bn, n0, none⟩ := HN.out.at_ (by have := HLN.out; omega)
      subst hpn
      have hil : i < ms.length := by have := HLN.out; omega
      obtain ⟨m, hm⟩ : ∃ m, m = ms.getD i default := ⟨_, rfl⟩
      have hni := HND.out i hin
      have hN5 := (HN.out.next HB.out).node i hil
      obtain ⟨b0, b1, b2, b3, b4⟩ := hN5
      rw [← hm] at hni b0 b1 b2 b3 b4
      have HNI := Lib.hid hni
      have HM := Lib.hid hm
      clear hm hni
      have ci := fun W => rnode_m m W
      unfold NdM.v at ci
      obtain ⟨pk, hpk⟩ : ∃ x, x = m.pk := ⟨_, rfl⟩
      obtain ⟨ck, hck⟩ : ∃ x, x = m.c := ⟨_, rfl⟩
      obtain ⟨ks, hks⟩ : ∃ x, x = m.nd.ks := ⟨_, rfl⟩
      obtain ⟨L, hL⟩ : ∃ x, x = ks.length := ⟨_, rfl⟩
      rw [← hpk, ← hck, ← hks, ← hL] at b4 ci
      have CI := Lib.hid ci
      have HKS := Lib.hid hks; have HLL := Lib.hid hL; have HPK := Lib.hid hpk
      have hLbig : L ≤ 140737488355328 := by
        have h1 := (HN.out.kids i hil).big
        rw [← HM.out, ← HKS.out, ← HLL.out] at h1
        exact h1
      clear ci hpk hck hks hL
      have hin2 : i < ns.length := by have := HL.out; omega
      have hnsi : ns[i] = m.nd := by
        have := HNI.out
        rw [List.getElem?_eq_getElem hin2] at this
        exact Option.some.inj this
      have HNS := Lib.hid hnsi
      have hzb := blk_of_cell b0
      have HB5 := Lib.hid (show ∀ W, Below wr.heap.size wr W → W.cell? ⟨bn, n0 + i * 5 + 4, none⟩ = some (.slice pk L ck) from fun W hb => (hb.cell (p := ⟨bn, n0 + i * 5 + 4, none⟩) hzb).trans b4)
      clear hnsi
      go_wp2_with fail
      refine (CI.out _).mono ?_
      rintro e w2 ⟨rfl, hb2⟩
      have d4 := HB5.out _ hb2
      replace HB := Lib.hid (HB.out.trans (hb2.mono HB.out.size))
      replace HK := Lib.hid (HK.out.next hb2)
      have c2 := (hb2.cell (p := ⟨w.heap.size, 0, none⟩) hi0).trans HC.out
      replace HC := Lib.hid c2
      clear c0 b0 b1 b2 b3 b4 hb2 CI HB5
      cases hnb : nodeB m.nd with
      | false =>
        obtain rfl : B = false := HBF.out (no_node hin2 (by rw [HNS.out]; exact hnb))
        clear hnb
        go_wp2_with fail
        go_ret
        exact ⟨rfl, HB.out⟩
      | true =>
        have HNB := Lib.hid hnb
        clear hnb
        by_cases hLn : n ≤ L
        · obtain rfl : B = false := HBF.out (no_many hin2 (by rw [HNS.out, HL.out, ← HKS.out, ← HLL.out]; exact hLn))
          go_wp2_with fail
          go_ret
          exact ⟨rfl, HB.out⟩
        go_wp2_with fail
        go_loopw [6] (fun tv wr => ∃ t : Nat, tv = .int .i64 t ∧ t ≤ L ∧ Hid ((pK ns i t).length ≤ i * 256 + t) ∧ Hid (PreC ns i t) ∧ Hid (KcIn (w.heap.size + 1) n (pK ns i t) wr) ∧ Hid (Below w.heap.size w wr) ∧ Hid (wr.cell? ⟨w.heap.size, 0, none⟩ = some (.slice (some ⟨bn, n0, none⟩) n c))) (fun tv _ => L - (intOf tv).toNat)
        case atStart => exact ⟨0, rfl, by omega, HLE, HP, HK, HB, HC⟩
        case round =>
          clear HP HK HB HC d4 c2 HLE hi0
          obtain ⟨t, rfl, ht, HLE, HP, HK, HB, HC⟩ := hrel
          have c0 := HC.out
          have hkk := (HN.out.next HB.out).kids i hil
          have d4 := ((HN.out.next HB.out).node i hil).c4
          rw [← HM.out] at hkk d4
          rw [← HPK.out, ← HKS.out, ← HLL.out] at d4
          obtain ⟨ck2, hck2⟩ : ∃ x, x = m.c := ⟨_, rfl⟩
          rw [← hck2] at d4
          by_cases htL : t < L
          · have hLm : t < m.nd.ks.length := by have := HLL.out; rw [HKS.out] at this; omega
            obtain rfl : pk = some ⟨m.bk, m.k0, none⟩ := HPK.out.trans (hkk.at_ (by omega))
            have a0 := hkk.cells t hLm
            obtain ⟨x, hx⟩ : ∃ x, x = m.nd.ks.getD t 0 := ⟨_, rfl⟩
            rw [← hx] at a0
            have htn : t < ns[i].ks.length := by rw [HNS.out]; exact hLm
            have hkt : ns[i].ks[t] = x := by
              have e : ∀ (l : List Int) (h : t < l.length), l = m.nd.ks → l[t] = x := fun l h e => by
                subst e
                rw [hx, List.getD_eq_getElem?_getD, List.getElem?_eq_getElem h]; rfl
              exact e _ htn (by rw [HNS.out])
            have hLnn := HL.out
            have HT1 := Lib.hid (show t + 1 ≤ L from htL)
            clear hkk hx hck2
            by_cases hx1 : x ≤ (i : Int)
            · obtain rfl : B = false := HBF.out (no_kid hin2 htn (Or.inl (by rw [hkt]; exact hx1)))
              clear hkt
              go_wp2_with fail
              go_ret
              exact ⟨rfl, HB.out⟩
            by_cases hx2 : (n : Int) ≤ x
            · obtain rfl : B = false := HBF.out (no_kid hin2 htn (Or.inr (by rw [hkt, hLnn]; exact hx2)))
              clear hkt
              go_wp2_with fail
              go_ret
              exact ⟨rfl, HB.out⟩
            obtain ⟨y, rfl⟩ : ∃ y : Nat, x = (y : Int) := ⟨x.toNat, by omega⟩
            have hyn : y < n := by omega
            have e0 := HK.out.2.1 y hyn
            have f0 := HK.out.2.2 y hyn
            have HNX := Lib.hid (HP.out.kid hin2 htn (by rw [hkt]; omega) (by rw [hkt]; omega))
            have hsn : pK ns i (t + 1) = pK ns i t ++ [y] := by
              have hks : kidsN ns i = (ns[i].ks).map Int.toNat := kidsN_at hin2
              have htk : t < (kidsN ns i).length := by rw [hks, List.length_map]; exact htn
              rw [pK_snoc htk]
              have : (kidsN ns i)[t] = y := by
                have e : ∀ (l : List Nat) (h : t < l.length), l = (ns[i].ks).map Int.toNat → l[t] = y := fun l h e => by
                  subst e
                  rw [List.getElem_map, hkt]; rfl
                exact e _ htk hks
              rw [this]
            have HSN := Lib.hid hsn
            obtain ⟨q, hq⟩ : ∃ q, q = (pK ns i t).count y := ⟨_, rfl⟩
            have hqb : q ≤ 100000 := by
              have h1 := List.count_le_length (a := y) (l := pK ns i t)
              have h2 := HLE.out
              have h3 : i * 256 ≤ 256 * 256 := Nat.mul_le_mul_right _ (by omega)
              omega
            rw [← hq] at e0
            have HQ := Lib.hid hq
            clear hkt hsn hq
            go_wp2_with fail
            go_roundw
            case rel =>
              refine ⟨t + 1, by go_num, HT1.out, Lib.hid ?_, HNX, Lib.hid ?_, HB.out.setCell (p := ⟨w.heap.size + 1, y, none⟩) (Nat.le_succ _) _, Lib.hid ?_⟩
              · rw [HSN.out, List.length_append]
                have := HLE.out
                simp only [List.length_singleton]
                omega
              · rw [HSN.out]
                have h := HK.out.set hyn
                rw [← HQ.out] at h
                exact h
              · exact (World.cell?_setCell_other _ _ _ _ (by simp)).trans HC.out
            case measure =>
              have := HT1.out
              simp [intOf]; omega
          · obtain rfl : t = L := by omega
            clear hkk hck2
            go_wp2_with fail
            have hpn : pK ns i t = pK ns (i + 1) 0 := pK_next t (by rw [kidsN_at hin2, List.length_map, HNS.out, ← HKS.out, ← HLL.out]; exact Nat.le_refl _)
            have hnx := HP.out.next hin2 (by rw [HNS.out]; exact HNB.out) (by rw [HNS.out, ← HKS.out, ← HLL.out]; exact Nat.le_refl _)
            exact ⟨⟨i + 1, by go_num, by omega, Lib.hid (by rw [← hpn]; have := HLE.out; omega), Lib.hid hnx, Lib.hid (by rw [← hpn]; exact HK.out), HB, HC⟩, by simp [intOf]; omega⟩
    · obtain rfl : i = n := by omega
      have hall := count_all (ns := ns) (by rw [HL.out]; exact HP.out) (by rw [HL.out]; omega) (by rw [HL.out]; omega)
      rw [HL.out] at hall
      have HALL := Lib.hid hall
      clear hall
      go_wp2_with fail
      go_loopw [8] (fun tv wr => ∃ t : Nat, tv = .int .i64 t ∧ 1 ≤ t ∧ t ≤ i ∧ Hid (∀ x, 1 ≤ x → x < t → (pK ns i 0).count x = 1) ∧ Hid (KcIn (w.heap.size + 1) i (pK ns i 0) wr) ∧ Hid (Below w.heap.size w wr)) (fun tv _ => i - (intOf tv).toNat)
      case atStart => exact ⟨1, rfl, by omega, by omega, Lib.hid (fun x h1 h2 => by omega), HK, HB⟩
      case round =>
        clear HK HB HC c0 hi0
        obtain ⟨t, rfl, ht1, ht, HX, HK, HB⟩ := hrel
        by_cases hti : t < i
        · have e0 := HK.out.2.1 t hti
          obtain ⟨q, hq⟩ : ∃ q, q = (pK ns i 0).count t := ⟨_, rfl⟩
          rw [← hq] at e0
          have HT1 := Lib.hid (show t + 1 ≤ i from hti)
          by_cases hq1 : q = 1
          · subst hq1
            have HQ := Lib.hid hq
            clear hq
            go_wp2_with fail
            go_roundw
            case rel => exact ⟨t + 1, by go_num, by omega, HT1.out, Lib.hid (fun x h1 h2 => by
              by_cases e : x = t
              · rw [e]; exact HQ.out.symm
              · exact HX.out x h1 (by omega)), HK, HB⟩
            case measure => have := HT1.out; simp [intOf]; omega
          · obtain rfl : B = false := HBF.out (fun hT => hq1 (by rw [hq]; exact HALL.out.1 hT t ht1 hti))
            have hq2 : ¬ (q : Int) = 1 := by omega
            clear hq
            go_wp2_with fail
            go_ret
            exact ⟨rfl, HB.out⟩
        · obtain rfl : t = i := by omega
          obtain rfl : B = true := HBT.out.2 (HALL.out.2 HX.out)
          go_wp2_with fail
          go_ret
          exact ⟨rfl, HB.out⟩
end Go.Proofs.Ytnlojgomildajaa
