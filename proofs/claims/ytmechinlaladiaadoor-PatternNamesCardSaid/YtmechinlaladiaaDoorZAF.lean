/-
  WALKS: feature.areLetters, Check.
  WALKS: feature.areLetters at every list, Check.
  WALKS: feature.letterOf, Of.
  WALKS: feature.Of, letterAndClass, alphabetAndClass, has, Has.
-/
import Derived.OwnWalk
import Derived.Laws.MakeOwn
import Derived.Laws.AppendOwn
import Derived.RegionTactic
import Derived.Deep.LoopGhost
import Derived.Test.YtmechinlaladiaaDoorZAE
namespace Go.Proofs.YtmechinlaladiaaDoor
open Go.RowKit Go.Lib
set_option linter.unusedVariables false

theorem rune_info : (Tryd.prog.info? 21).map (fun i => (i.zero, i.size, i.bytes)) = some (some (.int .i32 0), 1, 4) := by kernel_rfl

theorem run_make128 : ∃ MC : Array Value, MC.size = 128 ∧ ∀ w : World, (Instr.makeSlice 46 (.int .i64 0) (.int .i64 128)).run Tryd.prog w = .ok (.slice (some ⟨w.heap.size, 0, none⟩) 0 128) (w.alloc (.cells MC 21)) := by
  obtain ⟨i, hi, hz, h1, h2⟩ := info_parts rune_info
  refine ⟨madeCells (Value.int .i32 0).cells ((128 : Int).toNat * i.size), by rw [h1, size_madeCells]; rfl, fun w => ?_⟩
  have h := run_make (P := Tryd.prog) w 46 21 i (.int .i32 0) Tryd.underlying46 hi hz .i64 .i64 0 128 (by decide) (by decide) (by rw [h2]; decide) (by decide)
  exact h

def runesOf (ls : List Ltr) : List Int := ls.map Ltr.r
theorem ltrsB_eq (nf : Nat) (ls : List Ltr) (h1 : 1 ≤ ls.length) (h2 : ls.length ≤ 128) : ltrsB nf ls = (ls.all (ltrB nf) && decide (runesOf ls).Nodup) := by
  unfold ltrsB runesOf
  simp [h1, h2]
theorem ltrsB_bad (nf : Nat) (ls : List Ltr) (k : Nat) (hk : k < ls.length) (h : ltrB nf (ls.getD k default) = false) : ltrsB nf ls = false := by
  cases hb : ltrsB nf ls with
  | false => rfl
  | true =>
    unfold ltrsB at hb
    simp only [Bool.and_eq_true, List.all_eq_true] at hb
    have := hb.1.2 (ls.getD k default) (by rw [List.getD_eq_getElem?_getD, List.getElem?_eq_getElem hk]; exact List.getElem_mem hk)
    rw [h] at this
    exact absurd this (by simp)
theorem ltrsB_all (nf : Nat) (ls : List Ltr) (h : ∀ j, j < ls.length → ltrB nf (ls.getD j default) = true) : ls.all (ltrB nf) = true := by
  rw [List.all_eq_true]
  intro l hl
  obtain ⟨j, hj, rfl⟩ := List.getElem_of_mem hl
  have := h j hj
  rw [List.getD_eq_getElem?_getD, List.getElem?_eq_getElem hj] at this
  exact this

/-- The row that the loop has laid. -/
def RowIs (B : Nat) (ls : List Ltr) (v : Value) (k : Nat) (W : World) : Prop := W.ownsRow B 21 1 v k (((ls.take k).map fun l => Value.int .i32 l.r))
theorem RowIs.start {B n : Nat} {ls : List Ltr} {v : Value} {W : World} (h : RowIs B ls v n W) (hn : n = ls.length) (h0 : 0 < n) :
    ∃ g cap, v = .slice (some ⟨g, 0, none⟩) n cap ∧ B ≤ g ∧ n ≤ cap ∧ RowR W g 0 (runesOf ls).toArray ∧ SR W g 0 (runesOf ls).toArray W := by
  rcases h.2 with ⟨_, h1⟩ | ⟨g, cap, cur, rfl, hB, hg, hc, hm, hsz, ht⟩
  · omega
  · have hH : Sort.Holds E32 W g 0 (runesOf ls).toArray := fun j hj => by
      have hj' : j < ls.length := by simpa [runesOf] using hj
      have e : cur[j]? = some (.int .i32 (ls.getD j default).r) := by
        have h2 : (cur.toList.take (n * 1))[j]? = (((ls.take n).map fun l => Value.int .i32 l.r))[j]? := by rw [ht]
        rw [List.getElem?_take_of_lt (by omega), hn, List.take_length, List.getElem?_map, List.getElem?_eq_getElem hj'] at h2
        simp only [Array.getElem?_toList] at h2
        rw [h2, List.getD_eq_getElem?_getD, List.getElem?_eq_getElem hj']
        rfl
      have e2 : (runesOf ls).toArray[j]! = (ls.getD j default).r := by
        rw [getElem!_pos _ j hj, List.getD_eq_getElem?_getD, List.getElem?_eq_getElem hj']
        simp [runesOf]
      constructor
      · simp only [World.cell?, hg]
        rw [show 0 + j = j by omega, e, e2]
        rfl
      · simp only [World.frozen?, hg]
        simp
    exact ⟨g, cap, rfl, hB, hc, ⟨oneE32, hH, (Array.getElem?_eq_some_iff.1 hg).1⟩, SW.start hH⟩

set_option maxHeartbeats 2000000 in
set_option maxRecDepth 100000 in
theorem areLetters_yes (pf : Option Addr) (cf nf : Nat) (bl l0 cl : Nat) (ls : List Ltr) (w : World) (hnf : nf ≤ 24) (h1 : 1 ≤ ls.length) (h128 : ls.length ≤ 128) (hL : LsIn (some ⟨bl, l0, none⟩) bl l0 ls w) :
    Calls Tryd.prog 68 #[.agg #[.slice pf nf cf, .slice (some ⟨bl, l0, none⟩) ls.length cl]] w fun e w' => e = .returned (.bool (ltrsB nf ls)) ∧ Below w.heap.size w w' := by
  obtain ⟨n, hn⟩ : ∃ n, n = ls.length := ⟨_, rfl⟩
  obtain ⟨MC, hMC, hmk⟩ := run_make128
  obtain ⟨i0, hi, hz0, hz1, hz2⟩ := info_parts rune_info
  have HI0 := Lib.hid hi; have HZ0 := Lib.hid hz0; have HZ1 := Lib.hid hz1; have HZ2 := Lib.hid hz2
  have HL := Lib.hid hL; have HN := Lib.hid hn; have HMC := Lib.hid hMC
  rw [← hn] at h1 h128 ⊢
  clear hL hn hi hz0 hz1 hz2 hMC
  go_enter Tryd.func68, Tryd.ntmps68
  go_wp2
  clear hmk
  go_loopw [3, 20] (fun v i wr => ∃ k : Nat, i = .int .i64 k ∧ k ≤ n ∧ Hid (∀ j, j < k → ltrB nf (ls.getD j default) = true) ∧ Hid (RowIs (w.heap.size + 1) ls v k wr) ∧
    Hid (Below (w.heap.size + 1) (w.alloc (.cells #[.slice pf nf cf, .slice (some ⟨bl, l0, none⟩) n cl] 31)) wr)) (fun _ i _ => n - (intOf i).toNat)
  case atStart =>
    refine ⟨0, rfl, Nat.zero_le _, (show ∀ j, j < 0 → _ from fun j hj => absurd hj (Nat.not_lt_zero _)), (show RowIs _ _ _ _ _ from ?_), (show Below _ _ _ from ?_)⟩
    · have h := World.ownsRow_made (e := 21) (size := 1) (base := w.heap.size + 1) (w.alloc (.cells #[.slice pf nf cf, .slice (some ⟨bl, l0, none⟩) n cl] 31)) MC 128 (by simp) (by unfold maxLen; omega) (by rw [HMC.out])
      simpa [RowIs] using h
    · exact (Below.refl _ _).alloc (by simp) _
  case round =>
    obtain ⟨k, rfl, hk, HP, HR, HB⟩ := hrel
    have hcb := HB.out.cell (p := ⟨w.heap.size, 0, none⟩) (by simp)
    have hcb1 := HB.out.cell (p := ⟨w.heap.size, 1, none⟩) (by simp)
    have cb0 : wr.cell? ⟨w.heap.size, 0, none⟩ = some (.slice pf nf cf) := by rw [hcb]; simp
    have cb1 : wr.cell? ⟨w.heap.size, 1, none⟩ = some (.slice (some ⟨bl, l0, none⟩) n cl) := by rw [hcb1]; simp
    have hsz := HB.out.size
    simp only [World.size_alloc] at hsz
    have hlt0 : w.heap.size < wr.heap.size := by omega
    have hne0 : ¬ w.heap.size = wr.heap.size := by omega
    have hbw : Below w.heap.size w wr := ((Below.refl w.heap.size w).alloc (Nat.le_refl _) _).trans (HB.out.mono (Nat.le_succ _))
    have HBW := Lib.hid hbw
    clear hcb hcb1 hbw
    by_cases hkn : k < n
    · obtain ⟨o, c, rfl⟩ := ownF_shape HR.out
      have hL2 := HL.out.next HBW.out
      have c0 := hL2.cr k (by rw [← HN.out]; exact hkn)
      have c1 := hL2.cp k (by rw [← HN.out]; exact hkn)
      have c2 := hL2.cm k (by rw [← HN.out]; exact hkn)
      obtain ⟨b1, b2, b3, b4⟩ := hL2.get k (by rw [← HN.out]; exact hkn)
      have hlt : ltrB nf (ls.getD k default) = (letB (ls.getD k default).r && clsB nf (ls.getD k default).p (ls.getD k default).m) := rfl
      obtain ⟨r, hr⟩ : ∃ r, r = (ls.getD k default).r := ⟨_, rfl⟩
      obtain ⟨p, hp⟩ : ∃ r, r = (ls.getD k default).p := ⟨_, rfl⟩
      obtain ⟨m, hm⟩ : ∃ r, r = (ls.getD k default).m := ⟨_, rfl⟩
      rw [← hr] at c0 hlt
      rw [← hp] at c1 b1 hlt
      rw [← hm] at c2 b2 hlt
      have HLT := Lib.hid hlt; have Hr := Lib.hid hr
      clear hL2 hlt hr hp hm
      cases hb : letB r with
      | false =>
        have HRB := Lib.hid hb
        clear hb
        go_wp2_with fail
        refine (isRune_any r _).mono ?_
        rintro e w1 ⟨rfl, rfl⟩
        rw [HRB.out]
        go_wp2_with fail
        go_ret
        refine ⟨by rw [ltrsB_bad nf ls k (by rw [← HN.out]; exact hkn) (by rw [HLT.out, HRB.out]; rfl)] <;> rfl, ?_⟩
        exact HBW.out.alloc (by omega) _
      | true =>
        have HRB := Lib.hid hb
        clear hb
        go_wp2_with fail
        refine (isRune_any r _).mono ?_
        rintro e w1 ⟨rfl, rfl⟩
        rw [HRB.out]
        go_wp2_with fail
        refine (isClass_any pf (some ⟨bl, l0, none⟩) cf nf n cl p m _ hnf b1 b2).mono ?_
        rintro e w2 ⟨rfl, hb2⟩
        cases hc : clsB nf p m with
        | false =>
          have HC := Lib.hid hc; have HB2 := Lib.hid hb2
          clear hc hb2
          go_wp2_with fail
          go_ret
          refine ⟨by rw [ltrsB_bad nf ls k (by rw [← HN.out]; exact hkn) (by rw [HLT.out, HRB.out, HC.out]; rfl)] <;> rfl, ?_⟩
          exact (HBW.out.alloc (by omega) _).trans (HB2.out.mono (by simp; omega))
        | true =>
          have hcx := hb2.cell (p := ⟨wr.heap.size, 0, none⟩) (by simp)
          have cx : w2.cell? ⟨wr.heap.size, 0, none⟩ = some (.int .i32 r) := by rw [hcx]; simp
          have hz2 := hb2.size
          simp only [World.size_alloc] at hz2
          have hown2 : RowIs (w.heap.size + 1) ls (.slice o k c) k w2 := ownF_below (ownF_below HR.out ((Below.refl _ _).alloc (Nat.le_refl _) _)) hb2
          have hB2 : Below (w.heap.size + 1) (w.alloc (.cells #[.slice pf nf cf, .slice (some ⟨bl, l0, none⟩) n cl] 31)) w2 := (HB.out.alloc (by omega) _).trans (hb2.mono (by simp; omega))
          have HC := Lib.hid hc; have HO := Lib.hid hown2; have HB2 := Lib.hid hB2
          clear hc hb2 hcx hown2 hB2
          go_wp2_with (at_builtin; refine wpList_append_own _ rfl (.tmp 37) (.tmp 40) 46 rfl (w.heap.size + 1) 21 i0 (.int .i32 0) 1 4 Tryd.underlying46 HI0.out HZ0.out HZ1.out HZ2.out rfl (by decide) _ _ _ rfl (HO.out.alloc _) ⟨w2.heap.size, 0, none⟩ 1 1 [.int .i32 r] rfl rfl ?c1 ?c2 ?c3 ?c4 ?c5 ?_)
          case c1 =>
            intro j u hj
            match j, hj with
            | 0, hj => simp at hj; subst hj; simp [Addr.add]
            | j + 1, hj => simp at hj
          case c2 => intro u hu; simp at hu; subst hu; rfl
          case c3 => unfold maxLen; omega
          case c4 => omega
          case c5 => simp; omega
          intro v3 w3 hown3 hgrow3 hnil3
          have hob : ∀ q, (Value.slice o k c).ownBlock = some q → w.heap.size + 1 ≤ q := fun q hq => (HO.out.lt q hq).1
          have hB3 : Below (w.heap.size + 1) (w.alloc (.cells #[.slice pf nf cf, .slice (some ⟨bl, l0, none⟩) n cl] 31)) w3 :=
            (HB2.out.alloc (by omega) _).grown hgrow3 (by simp; omega) hob
          have hR3 : RowIs (w.heap.size + 1) ls v3 (k + 1) w3 := by
            unfold RowIs
            have e : (ls.take (k + 1)).map (fun l => Value.int .i32 l.r) = (ls.take k).map (fun l => Value.int .i32 l.r) ++ [.int .i32 r] := by
              rw [List.take_succ_eq_append_getElem (by rw [← HN.out]; exact hkn), List.map_append, Hr.out, List.getD_eq_getElem?_getD, List.getElem?_eq_getElem (by rw [← HN.out]; exact hkn)]
              rfl
            rw [e, List.map_take]
            exact hown3
          have HB3 := Lib.hid hB3; have HR3 := Lib.hid hR3
          clear hob hB3 hR3 hown3 hgrow3 hnil3
          go_wp2_with fail
          go_roundw
          case rel => exact ⟨k + 1, by go_num, by omega, (show ∀ j, j < k + 1 → _ from fun j hj => by
            by_cases hjk : j < k
            · exact HP.out j hjk
            · obtain rfl : j = k := by omega
              rw [HLT.out, HRB.out, HC.out]; rfl), HR3, HB3⟩
          case measure => simp [intOf]; omega
    · obtain rfl : k = n := by omega
      obtain ⟨g, cap, rfl, hgB, hgc, R, S⟩ := HR.out.start HN.out h1
      have hd : (runesOf ls).toArray.size = k := by rw [HN.out]; simp [runesOf]
      have HS := Lib.hid S; have HD := Lib.hid hd
      clear S hd
      go_wp2_with fail
      refine (sort_any g 0 cap k (runesOf ls).toArray (runesOf ls).toArray wr _ R HS.out HD.out HD.out (by omega)).mono ?_
      rintro e w2 ⟨d', rfl, hs', hp', hso', S'⟩
      have hbl2 := sw_below R.hblk S'
      have hc2 := hbl2.cell (p := ⟨w.heap.size, 1, none⟩) (by simp; omega)
      rw [cb1] at hc2
      have hnd := nodup_perm HD.out hp'
      have hlB := ltrsB_eq nf ls (by rw [← HN.out]; exact h1) (by rw [← HN.out]; exact h128)
      rw [ltrsB_all nf ls (fun j hj => HP.out j (by rw [HN.out]; exact hj))] at hlB
      have HS' := Lib.hid S'; have HSs := Lib.hid hs'; have HSo := Lib.hid hso'; have HBL := Lib.hid hbl2; have HND := Lib.hid hnd; have HLB := Lib.hid hlB
      clear S' hs' hso' hbl2 hnd hlB hp' cb0 cb1 HS
      go_wp2_with fail
      have HCM := Lib.hid (compact_any g 0 cap k (runesOf ls).toArray d' wr w2.drew R (SW.drew HS'.out) HD.out HSs.out (by omega) hgc HSo.out)
      have HC2 := Lib.hid hc2
      go_region_with (go_at_call 78; refine HCM.out.mono ?_; rintro e w3 ⟨q, rfl, hq, hqk, hb3⟩; have hc3 : w3.cell? ⟨w.heap.size, 1, none⟩ = some (.slice (some ⟨bl, l0, none⟩) k cl) := (hb3.cell (p := ⟨w.heap.size, 1, none⟩) (by simp; omega)).trans HC2.out; have HQ := Lib.hid hq; have HB3 := Lib.hid hb3; clear hq hb3)
      all_goals
        go_wp2
        go_ret
        refine ⟨?_, ?_⟩
        · have e1 : ((q : Int) == (k : Int)) = decide (runesOf ls).Nodup := by
            rw [Bool.eq_iff_iff]
            simp only [beq_iff_eq, decide_eq_true_eq]
            have h1 := HQ.out
            have h2 := HND.out
            rw [h2] at h1
            change q = k ↔ (runesOf ls).Nodup at h1
            rw [← h1]
            omega
          rw [HLB.out, ← e1] <;> rfl
        · exact (HBW.out.trans (HBL.out.mono (by omega))).drew.trans (HB3.out.mono (by omega))
end Go.Proofs.YtmechinlaladiaaDoor
namespace Go.Proofs.YtmechinlaladiaaDoor
open Go.RowKit Go.Lib
set_option linter.unusedVariables false

theorem ltrsB_none (nf : Nat) (ls : List Ltr) (h : ls.length < 1 ∨ 128 < ls.length) : ltrsB nf ls = false := by
  unfold ltrsB
  have : decide (1 ≤ ls.length ∧ ls.length ≤ 128) = false := decide_eq_false (by omega)
  rw [this]
  rfl

set_option maxHeartbeats 400000 in
theorem areLetters_any (pf : Option Addr) (cf nf : Nat) (pl : Option Addr) (bl l0 cl : Nat) (ls : List Ltr) (w : World) (hnf : nf ≤ 24) (hL : LsIn pl bl l0 ls w) :
    Calls Tryd.prog 68 #[.agg #[.slice pf nf cf, .slice pl ls.length cl]] w fun e w' => e = .returned (.bool (ltrsB nf ls)) ∧ Below w.heap.size w w' := by
  by_cases h1 : 1 ≤ ls.length
  · by_cases h2 : ls.length ≤ 128
    · obtain rfl := hL.at_ h1
      exact areLetters_yes pf cf nf bl l0 cl ls w hnf h1 h2 hL
    · rw [ltrsB_none nf ls (Or.inr (by omega))]
      have hbig := hL.big
      go_enter Tryd.func68, Tryd.ntmps68
      go_wp2
      go_ret
      exact ⟨rfl, (Below.refl _ _).alloc (Nat.le_refl _) _⟩
  · rw [ltrsB_none nf ls (Or.inl (by omega))]
    have h0 : ls.length = 0 := by omega
    rw [h0]
    clear hL h1 h0
    go_enter Tryd.func68, Tryd.ntmps68
    go_wp2
    go_ret
    exact ⟨rfl, (Below.refl _ _).alloc (Nat.le_refl _) _⟩

/-- Check's answer. -/
def chk (A : Al) : Int := if A.ok then 0 else 7
theorem Al.ok_eq (A : Al) : A.ok = (featsB A.fs && ltrsB A.fs.length A.ls) := rfl
theorem Al.ok24 {A : Al} (h : A.ok = true) : A.fs.length ≤ 24 := by
  rw [Al.ok_eq, Bool.and_eq_true] at h
  exact ((featsB_iff _).1 h.1).1

set_option maxHeartbeats 400000 in
theorem check_any (A : Al) (w : World) (hA : A.In w) :
    Calls Tryd.prog 58 #[A.v] w fun e w' => e = .returned (.int .i64 (chk A)) ∧ Below w.heap.size w w' := by
  unfold Al.v
  have hok := Al.ok_eq A
  obtain ⟨HF, HL⟩ := hA
  have hck : chk A = if A.ok then 0 else 7 := rfl
  rw [hok] at hck
  obtain ⟨c, hc⟩ : ∃ c, c = chk A := ⟨_, rfl⟩
  rw [← hc] at hck ⊢
  clear hok hc
  obtain ⟨pf, bf, f0, cf, fs, pl, bl, l0, cl, ls⟩ := A
  simp only [] at HF HL hck ⊢
  have hL1 := HL.next ((Below.refl w.heap.size w).alloc (Nat.le_refl _) (.cells #[.slice pf fs.length cf, .slice pl ls.length cl] 31))
  have hF1 := HF.next ((Below.refl w.heap.size w).alloc (Nat.le_refl _) (.cells #[.slice pf fs.length cf, .slice pl ls.length cl] 31))
  have HF1 := Lib.hid hF1; have HL1 := Lib.hid hL1
  clear HF HL hL1 hF1
  obtain ⟨nf, hnf⟩ : ∃ n, n = fs.length := ⟨_, rfl⟩
  obtain ⟨nl, hnl⟩ : ∃ n, n = ls.length := ⟨_, rfl⟩
  have c1 := areFeatures_any pf bf f0 cf fs
  have c2 := areLetters_any pf cf fs.length pl bl l0 cl ls
  rw [← hnf] at HF1 HL1 c1 c2 ⊢
  rw [← hnl] at HF1 HL1 c2 ⊢
  have C1 := Lib.hid c1; have C2 := Lib.hid c2; have HNF := Lib.hid hnf
  clear c1 c2 hnf hnl
  cases hb : featsB fs with
  | false =>
    obtain rfl : c = 7 := by rw [hck, hb]; rfl
    have HB := Lib.hid hb
    clear hb hck
    go_enter Tryd.func58, Tryd.ntmps58
    go_wp2_with fail
    refine (C1.out _ HF1.out).mono ?_
    rintro e w1 ⟨rfl, rfl⟩
    rw [HB.out]
    go_wp2_with fail
    go_ret
    exact ⟨rfl, (Below.refl _ _).alloc (Nat.le_refl _) _⟩
  | true =>
    have h24 : nf ≤ 24 := by rw [HNF.out]; exact ((featsB_iff fs).1 hb).1
    cases hc : ltrsB fs.length ls with
    | false =>
      obtain rfl : c = 7 := by rw [hck, hb, hc]; rfl
      have HB := Lib.hid hb; have HC := Lib.hid hc
      rw [← HNF.out] at HC
      clear hb hck hc
      go_enter Tryd.func58, Tryd.ntmps58
      go_wp2_with fail
      refine (C1.out _ HF1.out).mono ?_
      rintro e w1 ⟨rfl, rfl⟩
      rw [HB.out]
      go_wp2_with fail
      refine (C2.out _ h24 HL1.out).mono ?_
      rintro e w2 ⟨rfl, hb2⟩
      have HB2 := Lib.hid hb2
      clear hb2
      rw [HC.out]
      go_wp2_with fail
      go_ret
      exact ⟨rfl, ((Below.refl _ _).alloc (Nat.le_refl _) _).trans (HB2.out.mono (by simp))⟩
    | true =>
      obtain rfl : c = 0 := by rw [hck, hb, hc]; rfl
      have HB := Lib.hid hb; have HC := Lib.hid hc
      rw [← HNF.out] at HC
      clear hb hck hc
      go_enter Tryd.func58, Tryd.ntmps58
      go_wp2_with fail
      refine (C1.out _ HF1.out).mono ?_
      rintro e w1 ⟨rfl, rfl⟩
      rw [HB.out]
      go_wp2_with fail
      refine (C2.out _ h24 HL1.out).mono ?_
      rintro e w2 ⟨rfl, hb2⟩
      have HB2 := Lib.hid hb2
      clear hb2
      rw [HC.out]
      go_wp2_with fail
      go_ret
      exact ⟨rfl, ((Below.refl _ _).alloc (Nat.le_refl _) _).trans (HB2.out.mono (by simp))⟩

end Go.Proofs.YtmechinlaladiaaDoor
namespace Go.Proofs.YtmechinlaladiaaDoor
open Go.RowKit Go.Lib
set_option linter.unusedVariables false

def zeroL : Ltr := ⟨0, 0, 0⟩
def Ltr.v (l : Ltr) : Value := .agg #[.int .i32 l.r, .int .u32 l.p, .int .u32 l.m]
def findL (ls : List Ltr) (r : Int) : Option Ltr := ls.find? fun l => decide (l.r = r)
def lofR (ls : List Ltr) (r : Int) : Ltr × Int := match findL ls r with | some l => (l, 0) | none => (zeroL, 5)
def ofR (A : Al) (r : Int) : Ltr × Int := if A.ok then lofR A.ls r else (zeroL, 7)
theorem findL_drop_yes (ls : List Ltr) (r : Int) (k : Nat) (hk : k < ls.length) (h : (ls.getD k default).r = r) : findL (ls.drop k) r = some (ls.getD k default) := by
  rw [List.getD_eq_getElem?_getD, List.getElem?_eq_getElem hk] at h ⊢
  unfold findL
  rw [List.drop_eq_getElem_cons hk, List.find?_cons]
  simp only [Option.getD_some] at h ⊢
  simp [h]
theorem findL_drop_no (ls : List Ltr) (r : Int) (k : Nat) (hk : k < ls.length) (h : ¬ (ls.getD k default).r = r) : findL (ls.drop k) r = findL (ls.drop (k + 1)) r := by
  rw [List.getD_eq_getElem?_getD, List.getElem?_eq_getElem hk] at h
  unfold findL
  rw [List.drop_eq_getElem_cons hk, List.find?_cons]
  simp only [Option.getD_some] at h
  simp [h]
theorem findL_end (ls : List Ltr) (r : Int) (k : Nat) (hk : ls.length ≤ k) : findL (ls.drop k) r = none := by
  rw [List.drop_eq_nil_of_le hk]
  rfl
theorem lofR_some {ls : List Ltr} {r : Int} {l : Ltr} (h : findL ls r = some l) : lofR ls r = (l, 0) := by unfold lofR; rw [h]
theorem lofR_none {ls : List Ltr} {r : Int} (h : findL ls r = none) : lofR ls r = (zeroL, 5) := by unfold lofR; rw [h]

def LofPost (x : Ltr × Int) (w : World) (e : Ending) (w' : World) : Prop := e = .returned (.tuple #[x.1.v, .int .i64 x.2]) ∧ Below w.heap.size w w'

set_option maxHeartbeats 1000000 in
theorem letterOf_any (pl : Option Addr) (bl l0 cl : Nat) (ls : List Ltr) (r : Int) (w : World) (hL : LsIn pl bl l0 ls w) :
    Calls Tryd.prog 73 #[.slice pl ls.length cl, .int .i32 r] w (LofPost (lofR ls r) w) := by
  rcases Nat.eq_zero_or_pos ls.length with h0 | h0
  · obtain rfl : ls = [] := List.length_eq_zero_iff.1 h0
    have hn : lofR [] r = (zeroL, 5) := rfl
    rw [hn]
    clear hL h0 hn
    go_enter Tryd.func73, Tryd.ntmps73
    go_wp2
    go_loop [10] (fun v => v = .int .i64 0) (fun _ => 0)
    case atStart => rfl
    case round =>
      obtain rfl := hrel
      go_wp2
      refine bodyPost_ret (v := .tuple #[.agg #[.int .i32 0, .int .u32 0, .int .u32 0], .int .i64 5]) (by simp [results, Tryd.results73, go_sem]) rfl ⟨rfl, ?_⟩
      exact (Below.refl _ _).alloc (Nat.le_refl _) _
  · obtain rfl := hL.at_ h0
    obtain ⟨n, hn⟩ : ∃ n, n = ls.length := ⟨_, rfl⟩
    have HL := Lib.hid hL; have HN := Lib.hid hn
    have hbig := hL.big
    rw [← hn] at h0 hbig ⊢
    clear hL hn
    go_enter Tryd.func73, Tryd.ntmps73
    go_wp2
    go_loopw [10] (fun i wr => ∃ k : Nat, i = .int .i64 k ∧ k ≤ n ∧ Hid (findL (ls.drop k) r = findL ls r) ∧ Hid (Below (w.heap.size + 1) (w.alloc (.cells #[.int .i32 0, .int .u32 0, .int .u32 0] 59)) wr)) (fun i _ => n - (intOf i).toNat)
    case atStart => exact ⟨0, rfl, Nat.zero_le _, rfl, Below.refl _ _⟩
    case round =>
      obtain ⟨k, rfl, hk, HF, HB⟩ := hrel
      have hsz := HB.out.size
      simp only [World.size_alloc] at hsz
      have hlt0 : w.heap.size < wr.heap.size := by omega
      have hne0 : ¬ w.heap.size = wr.heap.size := by omega
      have hcb : ∀ j, wr.cell? ⟨w.heap.size, j, none⟩ = (w.alloc (.cells #[.int .i32 0, .int .u32 0, .int .u32 0] 59)).cell? ⟨w.heap.size, j, none⟩ := fun j => HB.out.cell (p := ⟨w.heap.size, j, none⟩) (by simp)
      have hfb : ∀ j, wr.frozen? ⟨w.heap.size, j, none⟩ = (w.alloc (.cells #[.int .i32 0, .int .u32 0, .int .u32 0] 59)).frozen? ⟨w.heap.size, j, none⟩ := fun j => HB.out.frozen (p := ⟨w.heap.size, j, none⟩) (by simp)
      have cb0 : wr.cell? ⟨w.heap.size, 0, none⟩ = some (.int .i32 0) := by rw [hcb]; simp
      have cb1 : wr.cell? ⟨w.heap.size, 1, none⟩ = some (.int .u32 0) := by rw [hcb]; simp
      have cb2 : wr.cell? ⟨w.heap.size, 2, none⟩ = some (.int .u32 0) := by rw [hcb]; simp
      have fb0 : wr.frozen? ⟨w.heap.size, 0, none⟩ = false := by rw [hfb]; simp
      have fb1 : wr.frozen? ⟨w.heap.size, 1, none⟩ = false := by rw [hfb]; simp
      have fb2 : wr.frozen? ⟨w.heap.size, 2, none⟩ = false := by rw [hfb]; simp
      have hbw : Below w.heap.size w wr := ((Below.refl w.heap.size w).alloc (Nat.le_refl _) _).trans (HB.out.mono (Nat.le_succ _))
      have HBW := Lib.hid hbw
      clear hcb hfb hbw
      by_cases hkn : k < n
      · have hL2 := HL.out.next HBW.out
        have c0 := hL2.cr k (by rw [← HN.out]; exact hkn)
        have c1 := hL2.cp k (by rw [← HN.out]; exact hkn)
        have c2 := hL2.cm k (by rw [← HN.out]; exact hkn)
        have hyes := findL_drop_yes ls r k (by rw [← HN.out]; exact hkn)
        have hno := findL_drop_no ls r k (by rw [← HN.out]; exact hkn)
        have hv : (ls.getD k default).v = .agg #[.int .i32 (ls.getD k default).r, .int .u32 (ls.getD k default).p, .int .u32 (ls.getD k default).m] := rfl
        obtain ⟨l, hl⟩ : ∃ l, l = ls.getD k default := ⟨_, rfl⟩
        rw [← hl] at c0 c1 c2 hyes hno hv
        obtain ⟨q, hq⟩ : ∃ r, r = l.r := ⟨_, rfl⟩
        obtain ⟨p, hp⟩ : ∃ r, r = l.p := ⟨_, rfl⟩
        obtain ⟨m, hm⟩ : ∃ r, r = l.m := ⟨_, rfl⟩
        rw [← hq] at c0 hyes hno hv
        rw [← hp] at c1 hv
        rw [← hm] at c2 hv
        have HY := Lib.hid hyes; have HNo := Lib.hid hno; have HV := Lib.hid hv
        clear hL2 hl hq hp hm hyes hno hv
        by_cases he : q = r
        · subst he
          have hx := lofR_some (HF.out.symm.trans (HY.out rfl))
          have HX := Lib.hid hx
          clear hx
          go_wp2
          refine bodyPost_ret (v := .tuple #[.agg #[.int .i32 q, .int .u32 p, .int .u32 m], .int .i64 0]) (by simp [results, Tryd.results73, go_sem, *]) rfl ⟨?_, ?_⟩
          · rw [HX.out]
            show _ = Ending.returned (.tuple #[l.v, _])
            rw [HV.out]
          · exact (((HBW.out.setCell (p := ⟨w.heap.size, 0, none⟩) (Nat.le_refl _) _).setCell (p := ⟨w.heap.size, 1, none⟩) (Nat.le_refl _) _).setCell (p := ⟨w.heap.size, 2, none⟩) (Nat.le_refl _) _).alloc (by simp; omega) _
        · have he1 : (q == r) = false := by simp [he]
          go_wp2
          go_roundw
          case rel => exact ⟨k + 1, by go_num, by omega, (show _ = _ from by rw [← HF.out, HNo.out he]), HB.out.alloc (by omega) _⟩
          case measure => simp [intOf]; omega
      · obtain rfl : k = n := by omega
        have hx := lofR_none (HF.out.symm.trans (findL_end ls r k (by rw [← HN.out]; omega)))
        have HX := Lib.hid hx
        clear hx
        go_wp2
        refine bodyPost_ret (v := .tuple #[.agg #[.int .i32 0, .int .u32 0, .int .u32 0], .int .i64 5]) (by simp [results, Tryd.results73, go_sem, *]) rfl ⟨by rw [HX.out] <;> rfl, ?_⟩
        exact ((HBW.out.setCell (p := ⟨w.heap.size, 0, none⟩) (Nat.le_refl _) _).setCell (p := ⟨w.heap.size, 1, none⟩) (Nat.le_refl _) _).setCell (p := ⟨w.heap.size, 2, none⟩) (Nat.le_refl _) _

end Go.Proofs.YtmechinlaladiaaDoor
namespace Go.Proofs.YtmechinlaladiaaDoor
open Go.RowKit Go.Lib
set_option linter.unusedVariables false

theorem ofR_ok {A : Al} {r : Int} (h : A.ok = true) : ofR A r = lofR A.ls r := by unfold ofR; rw [h]; rfl
theorem ofR_no {A : Al} {r : Int} (h : A.ok = false) : ofR A r = (zeroL, 7) := by unfold ofR; rw [h]; rfl
theorem chk_ok {A : Al} (h : A.ok = true) : chk A = 0 := by unfold chk; rw [h]; rfl
theorem chk_no {A : Al} (h : A.ok = false) : chk A = 7 := by unfold chk; rw [h]; rfl

set_option maxHeartbeats 1000000 in
theorem of_any (A : Al) (r : Int) (w : World) (hA : A.In w) :
    Calls Tryd.prog 66 #[A.v, .int .i32 r] w (LofPost (ofR A r) w) := by
  have hv : A.v = .agg #[.slice A.pf A.fs.length A.cf, .slice A.pl A.ls.length A.cl] := rfl
  obtain ⟨F, hF⟩ : ∃ F, F = Value.slice A.pf A.fs.length A.cf := ⟨_, rfl⟩
  obtain ⟨nl, hnl⟩ : ∃ n, n = A.ls.length := ⟨_, rfl⟩
  obtain ⟨pl, hpl⟩ : ∃ n, n = A.pl := ⟨_, rfl⟩
  obtain ⟨cl, hcl⟩ : ∃ n, n = A.cl := ⟨_, rfl⟩
  rw [← hF, ← hnl, ← hpl, ← hcl] at hv
  have hch := check_any A
  have hlo := letterOf_any A.pl A.bl A.l0 A.cl A.ls r
  rw [← hnl, ← hpl, ← hcl] at hlo
  rw [hv] at hch ⊢
  have HA := Lib.hid hA; have HCH := Lib.hid hch; have HLO := Lib.hid hlo; have HPL := Lib.hid hpl
  have hFs : ∃ a b c, F = .slice a b c := ⟨_, _, _, hF⟩
  obtain ⟨fa, fb, fc, rfl⟩ := hFs
  clear hA hch hlo hv hF hnl hpl hcl
  cases hok : A.ok with
  | false =>
    have hx := ofR_no (r := r) hok
    have hc := chk_no hok
    rw [hx]
    have HC := Lib.hid hc
    clear hx hc hok
    go_enter Tryd.func66, Tryd.ntmps66
    go_wp2_with fail
    refine (HCH.out _ ((HA.out.alloc _).alloc _)).mono ?_
    rintro e w1 ⟨rfl, hb1⟩
    rw [HC.out]
    obtain ⟨hcc, hff⟩ := bcell hb1
    have HB1 := Lib.hid hb1
    clear hb1
    go_wp2_with fail
    refine bodyPost_ret (v := .tuple #[.agg #[.int .i32 0, .int .u32 0, .int .u32 0], .int .i64 7]) (by simp [results, Tryd.results66, go_sem, *]) rfl ⟨rfl, ?_⟩
    exact (((((((Below.refl _ _).alloc (Nat.le_refl _) _).alloc (by simp) _).trans (HB1.out.mono (by simp; omega))).setCell (by simp) _).setCell (by simp) _).setCell (by simp) _)
  | true =>
    have hx := ofR_ok (r := r) hok
    have hc := chk_ok hok
    rw [hx]
    obtain ⟨y, hy⟩ : ∃ y, y = lofR A.ls r := ⟨_, rfl⟩
    rw [← hy] at HLO ⊢
    obtain ⟨⟨q, p, m⟩, k⟩ := y
    have HC := Lib.hid hc
    clear hx hc hok hy
    go_enter Tryd.func66, Tryd.ntmps66
    go_wp2_with fail
    refine (HCH.out _ ((HA.out.alloc _).alloc _)).mono ?_
    rintro e w1 ⟨rfl, hb1⟩
    rw [HC.out]
    obtain ⟨hcc, hff⟩ := bcell hb1
    have hz1 := hb1.size
    simp only [World.size_alloc] at hz1
    have hA1 := (((HA.out.alloc _).alloc _).next hb1).L
    have HB1 := Lib.hid hb1; have HA1 := Lib.hid hA1
    clear hb1 hA1
    go_wp2_with fail
    refine (HLO.out _ (by rw [HPL.out]; exact HA1.out)).mono ?_
    rintro e w2 ⟨rfl, hb2⟩
    obtain ⟨hcc2, hff2⟩ := bcell hb2
    have hz2 := hb2.size
    have HB2 := Lib.hid hb2
    clear hb2
    unfold Ltr.v
    have hlt1 : w.heap.size + 1 < w1.heap.size := by omega
    go_wp2_with fail
    refine bodyPost_ret (v := .tuple #[.agg #[.int .i32 q, .int .u32 p, .int .u32 m], .int .i64 k]) (by simp [results, Tryd.results66, go_sem, *]) rfl ⟨rfl, ?_⟩
    exact ((((((((Below.refl _ _).alloc (Nat.le_refl _) _).alloc (by simp) _).trans (HB1.out.mono (by simp; omega))).trans (HB2.out.mono (by omega))).setCell (by simp) _).setCell (by simp) _).setCell (by simp) _)

end Go.Proofs.YtmechinlaladiaaDoor
