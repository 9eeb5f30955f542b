/-
  WALKS: pattern.isTree.
-/
import Derived.Test.YtnlojgomildajaaZb
namespace Go.Proofs.Ytnlojgomildajaa
open Go.RowKit Go.Lib
set_option linter.unusedVariables false

theorem zb_at (x : Nat) (hx : x < 256) : zbC[x]? = some (.bool false) := by
  rw [← Array.getElem?_toList, zb_list, List.getElem?_replicate, if_pos hx]
/-- What the program has seen of kids. -/
def KdIn (M : Nat) (l : List Nat) (w : World) : Prop := M < w.heap.size ∧ (∀ x, x < 256 → w.cell? ⟨M, x, none⟩ = some (.bool (decide (x ∈ l)))) ∧ ∀ x, x < 256 → w.frozen? ⟨M, x, none⟩ = false
theorem KdIn.next {M : Nat} {l : List Nat} {w w' : World} (h : KdIn M l w) (hb : Below w.heap.size w w') : KdIn M l w' :=
  ⟨Nat.lt_of_lt_of_le h.1 hb.size, fun j hj => (hb.cell (p := ⟨M, j, none⟩) h.1).trans (h.2.1 j hj), fun j hj => (hb.frozen (p := ⟨M, j, none⟩) h.1).trans (h.2.2 j hj)⟩
theorem KdIn.made (w : World) : KdIn w.heap.size [] (w.alloc (.cells zbC 54)) := by
  refine ⟨by simp, fun j hj => ?_, fun j hj => by simp⟩
  have := zb_at j hj
  simp [this]
theorem KdIn.set {M k : Nat} {l : List Nat} {w : World} (h : KdIn M l w) (hk : k < 256) : KdIn M (l ++ [k]) (w.setCell ⟨M, k, none⟩ (.bool true)) := by
  refine ⟨by simpa using h.1, fun j hj => ?_, fun j hj => by rw [World.frozen?_setCell]; exact h.2.2 j hj⟩
  by_cases e : j = k
  · subst e
    rw [World.cell?_setCell_same _ _ _ (h.2.1 j hj)]
    simp
  · rw [World.cell?_setCell_other _ _ _ _ (fun h => e (by injection h with _ h2; exact h2.symm)), h.2.1 j hj]
    simp [e]
theorem pK_len {ns : List Nd} {i t : Nat} (h : PreT ns i t) : (pK ns i t).length ≤ ns.length := nodup_le _ _ h.once (fun x hx => (h.lt x hx).2)
set_option maxHeartbeats 4000000 in
set_option maxRecDepth 100000 in
theorem isTree_any (pn : Option Addr) (bn n0 c : Nat) (ms : List NdM) (w : World) (h : NsIn pn bn n0 ms w) (B : Bool) (hBT : B = true ↔ IsTree (nds ms)) : Calls Try.prog 29 #[.agg #[.slice pn ms.length c]] w fun e w' => e = .returned (.bool B) ∧ Below w.heap.size w w' := by
  have hl := nds_length ms
  obtain ⟨n, hn⟩ : ∃ n, n = ms.length := ⟨_, rfl⟩
  obtain ⟨ns, hns⟩ : ∃ ns, ns = nds ms := ⟨_, rfl⟩
  have hnd : ∀ j, j < ms.length → ns[j]? = some (ms.getD j default).nd := fun j hj => by
    rw [hns, ← nds_at ms j hj]; exact List.getElem?_eq_getElem _
  have hbig := h.big
  rw [← hns] at hl hBT
  rw [← hn] at hl hnd hbig ⊢
  have HN := Lib.hid h; have HND := Lib.hid hnd; have HL := Lib.hid hl; have HLN := Lib.hid hn
  have HB := Lib.hid (show Below w.heap.size w (w.alloc (.cells #[.slice pn n c] 25)) from (Below.refl _ _).alloc (Nat.le_refl _) _)
  clear h hnd hns hn
  by_cases h1 : n < 1
  · have hno : ¬ IsTree ns := fun t => by have := t.one; omega
    clear hl
    obtain rfl : n = 0 := by omega
    obtain rfl : B = false := by cases B with | false => rfl | true => exact absurd (hBT.1 rfl) hno
    clear hno hBT
    go_enter Try.func29, Try.ntmps29
    go_wp2_with fail
    go_ret
    exact ⟨rfl, HB.out⟩
  by_cases h2 : 256 < n
  · have hno : ¬ IsTree ns := fun t => by have := t.most; omega
    clear hl
    obtain rfl : B = false := by cases B with | false => rfl | true => exact absurd (hBT.1 rfl) hno
    have a1 : ¬ (n : Int) < 1 := by omega
    have a2 : (256 : Int) < (n : Int) := by omega
    clear hno hBT
    go_enter Try.func29, Try.ntmps29
    go_wp2_with fail
    go_ret
    exact ⟨rfl, HB.out⟩
  clear hl
  have a1 : ¬ (n : Int) < 1 := by omega
  have a2 : ¬ (256 : Int) < (n : Int) := by omega
  have zne := zb_ne
  have zva := zb_value
  go_enter Try.func29, Try.ntmps29
  go_wp2_with fail
  clear zne zva
  have HK := Lib.hid (KdIn.made (w.alloc (.cells #[.slice pn n c] 25)))
  have HB2 := Lib.hid (HB.out.alloc (by simp) (.cells zbC 54))
  have HP := Lib.hid (PreT.start ns)
  have hc0 : ((w.alloc (.cells #[.slice pn n c] 25)).alloc (.cells zbC 54)).cell? ⟨w.heap.size, 0, none⟩ = some (.slice pn n c) := by simp
  have HC := Lib.hid hc0
  have hn256 : n ≤ 256 := by omega
  clear hc0 h1 h2
  go_loopw [4, 22] (fun kv iv wr => ∃ i K : Nat, kv = .int .i64 K ∧ iv = .int .i64 i ∧ i ≤ n ∧ K ≤ n ∧ Hid (K = (pK ns i 0).length) ∧ Hid (PreT ns i 0) ∧ Hid (KdIn (w.heap.size + 1) (pK ns i 0) wr) ∧ Hid (Below w.heap.size w wr) ∧ Hid (wr.cell? ⟨w.heap.size, 0, none⟩ = some (.slice pn n c))) (fun _ iv _ => n - (intOf iv).toNat)
  case atStart => exact ⟨0, 0, rfl, rfl, by omega, by omega, Lib.hid rfl, HP, by have := HK.out; simp only [World.size_alloc] at this; exact Lib.hid this, HB2, HC⟩
  case round =>
    clear HP HK HB2 HC HB
    obtain ⟨i, K, rfl, rfl, hi, hKn, HKL, HP, HK, HB, HC⟩ := hrel
    have c0 := HC.out
    have hi0 : w.heap.size < wr.heap.size := blk_of_cell c0
    by_cases hin : i < n
    · have hpn : pn = some ⟨bn, n0, none⟩ := HN.out.at_ (by have := HLN.out; omega)
      subst hpn
      have hil : i < ms.length := by have := HLN.out; omega
      obtain ⟨m, hm⟩ : ∃ m, m = ms.getD i default := ⟨_, rfl⟩
      have hni := HND.out i hin
      have hok := HN.out.ok i hil
      obtain ⟨b0, b1, b2, b3, b4⟩ := (HN.out.next HB.out).node i hil
      have hkm := (HN.out.next HB.out).kids i hil
      rw [← hm] at hni b0 b1 b2 b3 b4 hkm hok
      have HNI := Lib.hid hni; have HOK := Lib.hid hok; have HKM := Lib.hid hkm
      have HM := Lib.hid hm
      clear hm hni hok hkm
      have ci := fun W => isNode_m m W HOK.out
      unfold NdM.v at ci
      obtain ⟨pk, hpk⟩ : ∃ x, x = m.pk := ⟨_, rfl⟩
      obtain ⟨ck, hck⟩ : ∃ x, x = m.c := ⟨_, rfl⟩
      obtain ⟨ks, hks⟩ : ∃ x, x = m.nd.ks := ⟨_, rfl⟩
      obtain ⟨L, hL⟩ : ∃ x, x = ks.length := ⟨_, rfl⟩
      rw [← hpk, ← hck, ← hks, ← hL] at b4 ci
      have CI := Lib.hid ci
      have HKS := Lib.hid hks; have HLL := Lib.hid hL; have HPK := Lib.hid hpk
      clear ci hpk hck hks hL
      have hA : Below wr.heap.size wr (wr.alloc (.cells #[.int .u8 m.nd.k, .int .i32 m.nd.r, .int .u32 m.nd.p, .int .u32 m.nd.m, .slice pk L ck] 42)) := (Below.refl _ _).alloc (Nat.le_refl _) _
      have hd4 : (wr.alloc (.cells #[.int .u8 m.nd.k, .int .i32 m.nd.r, .int .u32 m.nd.p, .int .u32 m.nd.m, .slice pk L ck] 42)).cell? ⟨wr.heap.size, 4, none⟩ = some (.slice pk L ck) := by simp
      have HA := Lib.hid hA; have HD := Lib.hid hd4
      clear hA hd4
      go_wp2_with fail
      refine (CI.out _).mono ?_
      rintro e w2 ⟨rfl, hb⟩
      have d4 := (hb.cell (p := ⟨wr.heap.size, 4, none⟩) (by simp)).trans HD.out
      have hb2 := HA.out.trans (hb.mono HA.out.size)
      replace HB := Lib.hid (HB.out.trans (hb2.mono HB.out.size))
      replace HK := Lib.hid (HK.out.next hb2)
      replace HC := Lib.hid ((hb2.cell (p := ⟨w.heap.size, 0, none⟩) hi0).trans HC.out)
      clear c0 b0 b1 b2 b3 b4 hb hb2 CI HA HD
      have hin2 : i < ns.length := by have := HL.out; omega
      have hnsi : ns[i] = m.nd := by
        have := HNI.out
        rw [List.getElem?_eq_getElem hin2] at this
        exact Option.some.inj this
      cases hnb : nodeB m.nd with
      | false =>
        obtain rfl : B = false := by
          cases B with
          | false => rfl
          | true => exact absurd (hBT.1 rfl) (no_node hin2 (by rw [hnsi]; exact hnb))
        clear hBT hnsi hnb
        go_wp2_with fail
        go_ret
        exact ⟨rfl, HB.out⟩
      | true =>
        have HNB := Lib.hid hnb; have HNS := Lib.hid hnsi; have HBT := Lib.hid hBT
        have hD := Lib.hid d4
        clear hnb hnsi hBT
        go_wp2_with fail
        go_loopw [4, 33] (fun kv tv wr => ∃ t K : Nat, kv = .int .i64 K ∧ tv = .int .i64 t ∧ t ≤ L ∧ K ≤ n ∧ Hid (K = (pK ns i t).length) ∧ Hid (PreT ns i t) ∧ Hid (KdIn (w.heap.size + 1) (pK ns i t) wr) ∧ Hid (Below w.heap.size w wr) ∧ Hid (wr.cell? ⟨w.heap.size, 0, none⟩ = some (.slice (some ⟨bn, n0, none⟩) n c))) (fun _ tv _ => L - (intOf tv).toNat)
        case atStart => exact ⟨0, K, rfl, rfl, by omega, hKn, HKL, HP, HK, HB, HC⟩
        case round =>
          clear HP HK HB HC d4 hD HKL hKn hi0
          obtain ⟨t, K2, rfl, rfl, ht, hK2, HKL, HP, HK, HB, HC⟩ := hrel
          by_cases htL : t < L
          · have hkk := (HN.out.next HB.out).kids i hil
            rw [← HM.out] at hkk
            have hLm : t < m.nd.ks.length := by have := HLL.out; rw [HKS.out] at this; omega
            obtain rfl : pk = some ⟨m.bk, m.k0, none⟩ := HPK.out.trans (hkk.at_ (by omega))
            have a0 := hkk.cells t hLm
            obtain ⟨x, hx⟩ : ∃ x, x = m.nd.ks.getD t 0 := ⟨_, rfl⟩
            rw [← hx] at a0
            have htn : t < ns[i].ks.length := by rw [HNS.out]; exact hLm
            have hkt : ns[i].ks[t] = x := by
              have e : ∀ (l : List Int) (h : t < l.length), l = m.nd.ks → l[t] = x := fun l h e => by
                subst e
                rw [hx, List.getD_eq_getElem?_getD, List.getElem?_eq_getElem h]; rfl
              exact e _ htn (by rw [HNS.out])
            have hbx := hkk.bits x (by rw [hx, List.getD_eq_getElem?_getD, List.getElem?_eq_getElem hLm]; exact List.getElem_mem hLm)
            have hBf : ¬ IsTree ns → B = false := fun h => by
              cases hB : B with
              | false => rfl
              | true => exact absurd (HBT.out.1 hB) h
            have HKK := Lib.hid hkk
            have c0 := HC.out
            have hLn := HL.out
            have HT1 := Lib.hid (show t + 1 ≤ L from htL)
            have hLbig : L ≤ 140737488355328 := by
              have h1 := hkk.big
              have h2 := HLL.out
              rw [HKS.out] at h2
              omega
            clear hkk hx
            by_cases hx1 : x ≤ (i : Int)
            · obtain rfl : B = false := hBf (no_kid hin2 htn (Or.inl (by rw [hkt]; exact hx1)))
              clear hBf hkt
              go_wp2_with fail
              go_ret
              exact ⟨rfl, HB.out⟩
            by_cases hx2 : (n : Int) ≤ x
            · obtain rfl : B = false := hBf (no_kid hin2 htn (Or.inr (by rw [hkt, hLn]; exact hx2)))
              clear hBf hkt
              go_wp2_with fail
              go_ret
              exact ⟨rfl, HB.out⟩
            obtain ⟨y, rfl⟩ : ∃ y : Nat, x = (y : Int) := ⟨x.toNat, by omega⟩
            have hy256 : y < 256 := by omega
            have e0 := HK.out.2.1 y hy256
            have f0 := HK.out.2.2 y hy256
            by_cases hy : y ∈ pK ns i t
            · rw [decide_eq_true hy] at e0
              obtain rfl : B = false := hBf (no_twice hin2 htn (by rw [hkt]; exact hy))
              clear hBf hkt hy
              go_wp2_with fail
              go_ret
              exact ⟨rfl, HB.out⟩
            · rw [decide_eq_false hy] at e0
              have HNX := Lib.hid (HP.out.kid hin2 htn (by rw [hkt]; omega) (by rw [hkt]; omega) (by rw [hkt]; exact hy))
              have hsn : pK ns i (t + 1) = pK ns i t ++ [y] := by
                have hks : kidsN ns i = (ns[i].ks).map Int.toNat := kidsN_at hin2
                have htk : t < (kidsN ns i).length := by rw [hks, List.length_map]; exact htn
                rw [pK_snoc htk]
                have : (kidsN ns i)[t] = y := by
                  have e : ∀ (l : List Nat) (h : t < l.length), l = (ns[i].ks).map Int.toNat → l[t] = y := fun l h e => by
                    subst e
                    rw [List.getElem_map, hkt]; rfl
                  exact e _ htk hks
                rw [this]
              have HSN := Lib.hid hsn
              have hlen : (pK ns i (t + 1)).length ≤ n := by have := pK_len HNX.out; omega
              rw [hsn, List.length_append, ← HKL.out] at hlen
              have hlen2 : K2 + 1 ≤ n := hlen
              clear hBf hkt hy hsn hlen
              go_wp2_with fail
              go_roundw
              case rel =>
                refine ⟨t + 1, K2 + 1, by go_num, by go_num, HT1.out, hlen2, Lib.hid ?_, HNX, Lib.hid ?_, HB.out.setCell (p := ⟨w.heap.size + 1, y, none⟩) (Nat.le_succ _) _, Lib.hid ?_⟩
                · rw [HSN.out, List.length_append, ← HKL.out]; rfl
                · rw [HSN.out]; exact HK.out.set hy256
                · exact (World.cell?_setCell_other _ _ _ _ (by simp)).trans HC.out
              case measure =>
                have := HT1.out
                simp [intOf]; omega
          · obtain rfl : t = L := by omega
            go_wp2_with fail
            have hpn : pK ns i t = pK ns (i + 1) 0 := pK_next t (by rw [kidsN_at hin2, List.length_map, HNS.out, ← HKS.out, ← HLL.out]; exact Nat.le_refl _)
            have hnx := HP.out.next hin2 (by rw [HNS.out]; exact HNB.out) (by rw [HNS.out, ← HKS.out, ← HLL.out]; exact Nat.le_refl _)
            exact ⟨⟨i + 1, K2, rfl, by go_num, by omega, hK2, Lib.hid (by rw [← hpn]; exact HKL.out), Lib.hid hnx, Lib.hid (by rw [← hpn]; exact HK.out), HB, HC⟩, by simp [intOf]; omega⟩
    · obtain rfl : i = n := by omega
      have hall := pre_all (ns := ns) (by rw [HL.out]; exact HP.out) (by rw [HL.out]; omega) (by rw [HL.out]; omega)
      rw [HL.out, ← HKL.out] at hall
      obtain ⟨b, hb⟩ : ∃ b, b = decide (K = i - 1) := ⟨_, rfl⟩
      have hBb : B = b := by
        rw [hb, Bool.eq_iff_iff, decide_eq_true_iff]
        exact hBT.trans hall
      subst hBb
      have HBV := Lib.hid hb
      clear hb hall hBT
      have hfin : ((K : Int) == (i : Int) - 1) = B := by
        rw [HBV.out, Bool.eq_iff_iff, beq_iff_eq, decide_eq_true_iff]
        omega
      have HF := Lib.hid hfin
      clear hfin
      go_wp2_with fail
      go_ret
      exact ⟨by rw [← HF.out]; rfl, HB.out⟩
end Go.Proofs.Ytnlojgomildajaa
