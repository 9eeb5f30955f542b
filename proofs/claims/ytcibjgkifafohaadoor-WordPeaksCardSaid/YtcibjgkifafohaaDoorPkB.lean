/-
  WALKS OF THE DOCUMENT's ANSWER: cognateref03.Syllables, SameInts, SameSpans.
-/
import Derived.Test.YtcibjgkifafohaaDoorPkA
namespace Go.Proofs.YtcibjgkifafohaaDoor
open Go.RowKit Go.Lib
set_option linter.unusedVariables false

/-- The first k spans, the last one up to the word's end. -/
def lastCs (P : List Nat) (N : Nat) : Nat → List Value
  | 0 => []
  | k + 1 => spanCs P N k ++ [.int .i64 (sylF P N k : Nat), .int .i64 (N : Nat)]
theorem lastCs_len (P : List Nat) (N k : Nat) : (lastCs P N k).length = k * 2 := by
  cases k with
  | zero => rfl
  | succ k => unfold lastCs; rw [List.length_append, spanCs_len]; simp; omega
theorem lastCs_set (P : List Nat) (N k : Nat) : (lastCs P N (k + 1)).set (k * 2 + 1) (.int .i64 (sylT P N k : Nat)) = spanCs P N (k + 1) := by
  show (spanCs P N k ++ [Value.int .i64 (sylF P N k : Nat), Value.int .i64 (N : Nat)]).set (k * 2 + 1) (.int .i64 (sylT P N k : Nat)) = spanCs P N (k + 1)
  rw [List.set_append, if_neg (by rw [spanCs_len]; omega), spanCs_len, show k * 2 + 1 - k * 2 = 1 by omega, ← spanCs_snoc]
  rfl
theorem lastCs_end (P : List Nat) (N : Nat) : lastCs P N P.length = spanCs P N P.length := by
  cases h : P.length with
  | zero => rfl
  | succ k =>
    have ht : sylT P N k = N := by unfold sylT; rw [if_neg (by omega)]
    unfold lastCs
    rw [← spanCs_snoc]
    unfold spanC
    rw [ht]

set_option maxHeartbeats 4000000 in
set_option maxRecDepth 100000 in
theorem rsyl_any (A : Al) (s : ByteArray) (p m : Nat) (w : World) (hA : A.In w) (hT : Tabs w) (hp : p < 4294967296) (hm : m < 4294967296) (hs : s.size ≤ 9223372036854775807) :
    Calls Tryd.prog 31 #[A.v, .string s, .int .u32 p, .int .u32 m] w (SylPost (pkL A s p m) (pkN A s p m) (pkE A s p m) w) := by
  have k1 := fun W hA hT => rpeaks_any A s p m W hA hT hp hm (by omega)
  unfold PksPost at k1
  unfold SylPost
  have hris := pkL_rising A s p m
  have hltP := pkL_lt A s p m
  have hN260 := pkN_le A s p m
  have hP260 := pkL_le A s p m
  have hno := pkL_no (A := A) (s := s) (p := p) (m := m)
  have krc : pkE A s p m = 0 → ∀ W, Calls Tryd.prog 58 #[.string s] W fun e w' => e = .returned (.int .i64 (pkN A s p m : Nat)) ∧ Below W.heap.size W w' := fun h W => by
    have hle : letE A s = 0 := by
      unfold pkE at h
      by_cases h1 : letE A s = 0
      · exact h1
      · rw [if_neg h1] at h; exact absurd h h1
    have f1 := let_word hle
    have h260 := cutW_size s
    rw [rd_same f1.rd] at h260
    refine (Tryd.utf8_RuneCountInString s W (by omega)).mono ?_
    rintro e w' ⟨rfl, pos, rfl⟩
    refine ⟨?_, (Below.refl _ _).alloc (Nat.le_refl _) _⟩
    have : pkN A s p m = (letL A s).length := by unfold pkN; rw [if_pos h]
    rw [this, runeCount_starts, ← runesL_length, ← f1.ru, rd_same f1.rd]
  obtain ⟨P, hP⟩ : ∃ P, P = pkL A s p m := ⟨_, rfl⟩
  obtain ⟨N, hN⟩ : ∃ P, P = pkN A s p m := ⟨_, rfl⟩
  obtain ⟨E, hE⟩ : ∃ P, P = pkE A s p m := ⟨_, rfl⟩
  rw [← hP, ← hE] at k1
  rw [← hP] at hris hltP hP260 hno ⊢
  rw [← hN] at hltP hN260 krc ⊢
  rw [← hE] at hno krc ⊢
  have hors := fun (W : World) (B : Nat) (v : Value) (h : W.ownsRow B 3 1 v P.length (P.map E64)) => own_ns h (by omega)
  obtain ⟨n, hn⟩ : ∃ n, n = P.length := ⟨_, rfl⟩
  rw [← hn] at k1 hors hP260 ⊢
  obtain ⟨pf, pl, nf, cf, nl, cl, hv, hnf, hnl, hpl, hcl, hpf, hcf⟩ := A.parts
  rw [hv] at k1 ⊢
  have K1 := Lib.hid k1; have HA := Lib.hid hA; have HT := Lib.hid hT; have HORS := Lib.hid hors; have HN := Lib.hid hn; have HRIS := Lib.hid hris; have HLT := Lib.hid hltP; have HNO := Lib.hid hno; have KRC := Lib.hid krc
  clear k1 hA hT hv hnf hnl hpl hcl hpf hcf hE hP hN hn hors hris hltP hno krc
  by_cases h0 : E = 0
  · subst h0
    obtain ⟨i0, hi, hz0, hz1, hz2⟩ := info_parts span_info
    have HI0 := Lib.hid hi; have HZ0 := Lib.hid hz0; have HZ1 := Lib.hid hz1; have HZ2 := Lib.hid hz2
    have krc := KRC.out rfl
    have KR := Lib.hid krc
    clear hi hz0 hz1 hz2 krc KRC
    go_enter Tryd.func31, Tryd.ntmps31
    go_wp2_with fail
    refine (K1.out _ (HA.out.alloc _) (HT.out.next ((Below.refl _ _).alloc (Nat.le_refl _) _))).mono ?_
    rintro e w1 ⟨v, rfl, ho, hb1⟩
    obtain ⟨np, nb, nc, rfl, hns⟩ := HORS.out _ _ _ ho
    have HNS := Lib.hid hns
    have HB := Lib.hid (show Below w.heap.size w w1 from ((Below.refl _ _).alloc (Nat.le_refl _) _).trans (hb1.mono (by simp)))
    clear hb1 ho hns HORS K1 HA HT
    go_wp2_with fail
    go_loopw [12, 13] (fun v iv wr => ∃ k : Nat, iv = .int .i64 k ∧ k ≤ n ∧ Hid (wr.ownsRow w1.heap.size 54 2 v k (lastCs P N k)) ∧ Hid (Below w1.heap.size w1 wr)) (fun _ iv _ => n - (intOf iv).toNat)
    case atStart => exact ⟨0, rfl, Nat.zero_le _, World.ownsRow_nil _ _ _ _, Below.refl _ _⟩
    case round =>
      obtain ⟨k, rfl, hk, HO, HBr⟩ := hrel
      have hszr := HBr.out.size
      by_cases hkn : k < n
      · have hkl : k < P.length := by rw [← HN.out]; exact hkn
        obtain rfl := HNS.out.at_ (by omega)
        have a0 := (HNS.out.next HBr.out).cells k hkl
        rw [Nat.zero_add] at a0
        have hlt := HLT.out k hkl
        cases k with
        | zero =>
          obtain ⟨oo, co, rfl⟩ := own_shape HO.out
          have hF : sylF P N 0 = 0 := rfl
          have hl1 : lastCs P N 0 ++ [.int .i64 0, .int .i64 (N : Nat)] = lastCs P N 1 := rfl
          have HL1 := Lib.hid hl1
          clear hF hl1
          go_wp2_with fail
          refine (KR.out _).mono ?_
          rintro e w2 ⟨rfl, hb2⟩
          have HO2 := Lib.hid (own_below HO.out hb2)
          have HB2 := Lib.hid (HBr.out.trans (hb2.mono hszr))
          have hsz2 := HB2.out.size
          clear hb2 a0
          go_wp2_with (at_builtin; refine wpList_append_own _ rfl (.tmp 60) (.tmp 65) 48 rfl w1.heap.size 54 i0 (.agg #[.int .i64 0, .int .i64 0]) 2 16 Tryd.underlying48 HI0.out HZ0.out HZ1.out HZ2.out rfl (by decide) _ _ _ rfl (HO2.out.alloc _) ⟨w2.heap.size, 0, none⟩ 1 1 [.int .i64 0, .int .i64 N] rfl rfl ?c1 ?c2 ?c3 ?c4 ?c5 ?_)
          any_goals (first | (unfold maxLen; omega) | omega | (simp; omega) | exact ⟨rfl, rfl⟩ | (intro u hu; simp at hu; rcases hu with rfl | rfl <;> rfl) | (intro j u hj; match j, hj with | 0, hj => (simp at hj; subst hj; simp [Addr.add]) | 1, hj => (simp at hj; subst hj; simp [Addr.add]) | j + 2, hj => simp at hj))
          intro v3 w4 hown3 hgrow3 hnil3
          have hob : ∀ q, (Value.slice oo 0 co).ownBlock = some q → w1.heap.size ≤ q := fun q hq => (HO2.out.lt q hq).1
          have hB3 : Below w1.heap.size w1 w4 := (HB2.out.alloc (by omega) _).grown hgrow3 (by simp; omega) hob
          have hO3 : w4.ownsRow w1.heap.size 54 2 v3 1 (lastCs P N 1) := by
            rw [← HL1.out]
            exact hown3
          have HB3 := Lib.hid hB3; have HO3 := Lib.hid hO3
          clear hob hB3 hown3 hgrow3 hnil3 hO3
          go_wp2_with fail
          go_roundw
          case rel => exact ⟨1, by first | rfl | go_num, by omega, HO3, HB3⟩
          case measure => simp [intOf]; omega
        | succ k =>
          have hkl0 : k < P.length := by omega
          have b0 := (HNS.out.next HBr.out).cells k hkl0
          rw [Nat.zero_add] at b0
          have hr := HRIS.out k hkl
          have hT : sylT P N k = begN (P.getD k 0) (P.getD (k + 1) 0) := by unfold sylT; rw [if_pos hkl]
          have hset := lastCs_set P N k
          have hnx := sylF_next P N k
          have hl1 : lastCs P N (k + 2) = spanCs P N (k + 1) ++ [.int .i64 (sylF P N (k + 1) : Nat), .int .i64 (N : Nat)] := rfl
          rw [hnx] at hl1
          obtain ⟨q, hq⟩ : ∃ q, q = P.getD (k + 1) 0 := ⟨_, rfl⟩
          obtain ⟨e, he⟩ : ∃ q, q = P.getD k 0 := ⟨_, rfl⟩
          rw [← hq] at a0 hlt hr hT
          rw [← he] at b0 hr hT
          obtain ⟨T, hTT⟩ : ∃ t, t = sylT P N k := ⟨_, rfl⟩
          rw [← hTT] at hset hl1 hT
          have HSET := Lib.hid hset; have HL1 := Lib.hid hl1
          have hlen2 := lastCs_len P N (k + 1)
          rcases HO.out.2 with ⟨_, h0⟩ | ⟨g, co, cur, rfl, hBg, hg, _⟩
          · omega
          have hc : ∃ y, wr.cell? ⟨g, k * 2 + 1, none⟩ = some y := ⟨(lastCs P N (k + 1))[k * 2 + 1]'(by omega), by rw [HO.out.cellAt (k * 2 + 1) (by omega), List.getElem?_eq_getElem (by omega)]⟩
          obtain ⟨y, hy⟩ := hc
          have hfz := HO.out.frozenAt (k * 2 + 1)
          have hst := fun nq => (own_below HO.out (below_drewN (Below.refl wr.heap.size wr) nq)).stored (k * 2 + 1) (.int .i64 (T : Nat))
          have HST := Lib.hid hst
          have q1 : IntKind.i64.wrap ((q : Int) - 1) = (q : Int) - 1 := by rw [IntKind.wrap_i64]; omega
          have q0 : IntKind.i64.wrap ((k : Int) + 1 - 1) = (k : Int) := by rw [IntKind.wrap_i64]; omega
          have y1 : (k : Int) + 1 < (n : Int) := by omega
          have y2 : (k : Int) < (n : Int) := by omega
          have HG := Lib.hid hg
          clear hset hl1 hnx hq he hTT hkl hkl0 hst hlen2 hg
          have hcase : (e + 1 < q ∧ T + 1 = q) ∨ (¬ e + 1 < q ∧ T = q) := by unfold begN at hT; omega
          clear hT
          rcases hcase with ⟨hc1, hc2⟩ | ⟨hc1, hc2⟩
          · have hTz : (q : Int) - 1 = (T : Int) := by omega
            have z1 : decide ((e : Int) < (q : Int) - 1) = true := by simp; omega
            have z2 : (e : Int) < (q : Int) - 1 := by omega
            go_wp2_with fail
            go_quiet (fail)
            obtain ⟨hs1, hs2⟩ := HST.out nq
            have hyd : (wr.drewN nq).cell? ⟨g, k * 2 + 1, none⟩ = some y := hy
            have hfd : (wr.drewN nq).frozen? ⟨g, k * 2 + 1, none⟩ = false := hfz
            have HS1 := Lib.hid hs1; have HS2 := Lib.hid hs2
            have HBd := Lib.hid (below_drewN HBr.out nq)
            clear hs1 hs2
            go_wp2_with fail
            refine (KR.out _).mono ?_
            rintro e2 w2 ⟨rfl, hb2⟩
            have hBs := HBd.out.grown HS2.out (show w1.heap.size ≤ (wr.drewN nq).heap.size from hszr) (fun q hq => by cases hq; exact hBg)
            have hrow := HS1.out
            rw [HSET.out] at hrow
            have HO2 := Lib.hid (own_below hrow hb2)
            have HB2 := Lib.hid (hBs.trans (hb2.mono hBs.size))
            have hsz2 := HB2.out.size
            clear hb2 hrow hBs HS1 HS2 HBd HST HO
            go_wp2_with (at_builtin; refine wpList_append_own _ rfl (.tmp 60) (.tmp 65) 48 rfl w1.heap.size 54 i0 (.agg #[.int .i64 0, .int .i64 0]) 2 16 Tryd.underlying48 HI0.out HZ0.out HZ1.out HZ2.out rfl (by decide) _ _ _ rfl (HO2.out.alloc _) ⟨w2.heap.size, 0, none⟩ 1 1 [.int .i64 T, .int .i64 N] rfl rfl ?d1 ?d2 ?d3 ?d4 ?d5 ?_)
            any_goals (first | (unfold maxLen; omega) | omega | (simp; omega) | exact ⟨rfl, rfl⟩ | (intro u hu; simp at hu; rcases hu with rfl | rfl <;> rfl) | (intro j u hj; match j, hj with | 0, hj => (simp at hj; subst hj; simp [Addr.add]) | 1, hj => (simp at hj; subst hj; simp [Addr.add]) | j + 2, hj => simp at hj))
            intro v3 w4 hown3 hgrow3 hnil3
            have hob : ∀ q, (Value.slice (some ⟨g, 0, none⟩) (k + 1) co).ownBlock = some q → w1.heap.size ≤ q := fun q hq => (HO2.out.lt q hq).1
            have hB3 : Below w1.heap.size w1 w4 := (HB2.out.alloc (by omega) _).grown hgrow3 (by simp; omega) hob
            have hO3 : w4.ownsRow w1.heap.size 54 2 v3 (k + 2) (lastCs P N (k + 2)) := by
              rw [HL1.out]
              exact hown3
            have HB3 := Lib.hid hB3; have HO3 := Lib.hid hO3
            clear hob hB3 hown3 hgrow3 hnil3 hO3
            go_wp2_with fail
            go_roundw
            case rel => exact ⟨k + 2, by first | go_num | (congr 1; omega), by omega, HO3, HB3⟩
            case measure => simp [intOf]; omega
          · obtain rfl := hc2
            have hTz : (T : Int) - 1 = (e : Int) := by omega
            have z2 : decide ((e : Int) < (T : Int) - 1) = false := by simp; omega
            have z3 : ¬ (e : Int) < (T : Int) - 1 := by omega
            go_wp2_with fail
            go_quiet (fail)
            obtain ⟨hs1, hs2⟩ := HST.out nq
            have hyd : (wr.drewN nq).cell? ⟨g, k * 2 + 1, none⟩ = some y := hy
            have hfd : (wr.drewN nq).frozen? ⟨g, k * 2 + 1, none⟩ = false := hfz
            have HS1 := Lib.hid hs1; have HS2 := Lib.hid hs2
            have HBd := Lib.hid (below_drewN HBr.out nq)
            clear hs1 hs2
            go_wp2_with fail
            refine (KR.out _).mono ?_
            rintro e2 w2 ⟨rfl, hb2⟩
            have hBs := HBd.out.grown HS2.out (show w1.heap.size ≤ (wr.drewN nq).heap.size from hszr) (fun q hq => by cases hq; exact hBg)
            have hrow := HS1.out
            rw [HSET.out] at hrow
            have HO2 := Lib.hid (own_below hrow hb2)
            have HB2 := Lib.hid (hBs.trans (hb2.mono hBs.size))
            have hsz2 := HB2.out.size
            clear hb2 hrow hBs HS1 HS2 HBd HST HO
            go_wp2_with (at_builtin; refine wpList_append_own _ rfl (.tmp 60) (.tmp 65) 48 rfl w1.heap.size 54 i0 (.agg #[.int .i64 0, .int .i64 0]) 2 16 Tryd.underlying48 HI0.out HZ0.out HZ1.out HZ2.out rfl (by decide) _ _ _ rfl (HO2.out.alloc _) ⟨w2.heap.size, 0, none⟩ 1 1 [.int .i64 T, .int .i64 N] rfl rfl ?e1 ?e2 ?e3 ?e4 ?e5 ?_)
            any_goals (first | (unfold maxLen; omega) | omega | (simp; omega) | exact ⟨rfl, rfl⟩ | (intro u hu; simp at hu; rcases hu with rfl | rfl <;> rfl) | (intro j u hj; match j, hj with | 0, hj => (simp at hj; subst hj; simp [Addr.add]) | 1, hj => (simp at hj; subst hj; simp [Addr.add]) | j + 2, hj => simp at hj))
            intro v3 w4 hown3 hgrow3 hnil3
            have hob : ∀ q, (Value.slice (some ⟨g, 0, none⟩) (k + 1) co).ownBlock = some q → w1.heap.size ≤ q := fun q hq => (HO2.out.lt q hq).1
            have hB3 : Below w1.heap.size w1 w4 := (HB2.out.alloc (by omega) _).grown hgrow3 (by simp; omega) hob
            have hO3 : w4.ownsRow w1.heap.size 54 2 v3 (k + 2) (lastCs P N (k + 2)) := by
              rw [HL1.out]
              exact hown3
            have HB3 := Lib.hid hB3; have HO3 := Lib.hid hO3
            clear hob hB3 hown3 hgrow3 hnil3 hO3
            go_wp2_with fail
            go_roundw
            case rel => exact ⟨k + 2, by first | go_num | (congr 1; omega), by omega, HO3, HB3⟩
            case measure => simp [intOf]; omega
      · obtain ⟨oo, co, rfl⟩ := own_shape HO.out
        have hk' : k = n := by omega
        have hrow : wr.ownsRow w1.heap.size 54 2 (.slice oo k co) n (spanCs P N n) := by
          have h1 := HO.out
          rw [hk', HN.out, lastCs_end, ← HN.out] at h1
          rw [hk']
          exact h1
        have HRW := Lib.hid hrow
        clear hrow
        go_wp2_with fail
        go_ret2
        exact ⟨_, rfl, own_base HRW.out HB.out.size, HB.out.trans (HBr.out.mono HB.out.size)⟩
  · have hP0 := HNO.out h0
    subst hP0
    have e1 : (E == 0) = false := by simp [h0]
    have e2 : (E != 0) = true := by simp [h0]
    obtain rfl : n = 0 := HN.out
    clear h0 HORS HRIS HLT HNO HN KRC
    go_enter Tryd.func31, Tryd.ntmps31
    go_wp2_with fail
    refine (K1.out _ (HA.out.alloc _) (HT.out.next ((Below.refl _ _).alloc (Nat.le_refl _) _))).mono ?_
    rintro e w1 ⟨v, rfl, ho, hb1⟩
    obtain ⟨o, c, rfl⟩ := own_shape ho
    have HB := Lib.hid (show Below w.heap.size w w1 from ((Below.refl _ _).alloc (Nat.le_refl _) _).trans (hb1.mono (by simp)))
    clear hb1 ho
    go_wp2_with fail
    go_ret2
    exact ⟨.slice none 0 0, rfl, World.ownsRow_nil _ _ _ _, HB.out⟩
end Go.Proofs.YtcibjgkifafohaaDoor
