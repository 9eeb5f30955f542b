/-
  WALKS: word.readAll, Join.
  WALKS: word.Join, part, Part.
  WALKS: word.Part.
-/
import Derived.Test.YtcibjgkifafohaaGreatDoorWdZ
namespace Go.Proofs.YtcibjgkifafohaaGreatDoor
open Go.RowKit Go.Lib
set_option linter.unusedVariables false

/-- A row of texts in memory. -/
structure SsIn (pr : Option Addr) (br r0 : Nat) (l : List ByteArray) (w : World) : Prop where
  at_ : 0 < l.length → pr = some ⟨br, r0, none⟩
  cells : ∀ j, j < l.length → w.cell? ⟨br, r0 + j, none⟩ = some (.string (l.getD j ByteArray.empty))
  big : l.length ≤ 140737488355328
theorem SsIn.next {pr : Option Addr} {br r0 : Nat} {l : List ByteArray} {w w' : World} (h : SsIn pr br r0 l w) (hb : RowKit.Below w.heap.size w w') : SsIn pr br r0 l w' :=
  ⟨h.at_, fun j hj => by have h1 := h.cells j hj; rw [hb.cell (p := ⟨br, r0 + j, none⟩) (lt_of_cell h1)]; exact h1, h.big⟩

def alE (row : List Int) : List ByteArray → Int
  | [] => 0
  | s :: l => if rdW row s = 0 then alE row l else rdW row s
def alL (l : List ByteArray) : List Int := l.flatMap fun s => runesL (cutW s)
def enL (l : List ByteArray) (k : Nat) : List Nat := (List.range k).map fun i => (alL (l.take (i + 1))).length
def rdaE (row : List Int) (l : List ByteArray) : Int := if 4096 < l.length then 4 else alE row l
theorem getS_at {l : List ByteArray} {k : Nat} (hk : k < l.length) : l.getD k ByteArray.empty = l[k] := by rw [List.getD_eq_getElem?_getD, List.getElem?_eq_getElem hk]; rfl
theorem alE_yes {row : List Int} {l : List ByteArray} {k : Nat} (hk : k < l.length) (h : rdW row (l.getD k ByteArray.empty) = 0) : alE row (l.drop k) = alE row (l.drop (k + 1)) := by
  rw [getS_at hk] at h
  rw [List.drop_eq_getElem_cons hk, alE, if_pos h]
theorem alE_no {row : List Int} {l : List ByteArray} {k : Nat} (hk : k < l.length) (h : ¬ rdW row (l.getD k ByteArray.empty) = 0) : alE row (l.drop k) = rdW row (l.getD k ByteArray.empty) := by
  rw [getS_at hk] at h ⊢
  rw [List.drop_eq_getElem_cons hk, alE, if_neg h]
theorem alL_snoc {l : List ByteArray} {k : Nat} (hk : k < l.length) : alL (l.take (k + 1)) = alL (l.take k) ++ runesL (cutW (l.getD k ByteArray.empty)) := by
  rw [getS_at hk, List.take_succ_eq_append_getElem hk]
  unfold alL
  rw [List.flatMap_append]
  simp
theorem enL_snoc (l : List ByteArray) (k : Nat) : enL l (k + 1) = enL l k ++ [(alL (l.take (k + 1))).length] := by simp [enL, List.range_succ]
theorem alL_le : ∀ (l : List ByteArray), (alL l).length ≤ 260 * l.length
  | [] => by simp [alL]
  | s :: l => by
    have ih := alL_le l
    have h1 := starts_le (cutW s)
    have h2 := cutW_size s
    simp only [alL, List.flatMap_cons, List.length_append, List.length_cons, runesL_length] at ih ⊢
    omega
abbrev E64 (x : Nat) : Value := Value.int .i64 (x : Int)
theorem int_info : (Tryz.prog.info? 3).map (fun i => (i.zero, i.size, i.bytes)) = some (some (.int .i64 0), 1, 8) := by kernel_rfl
def RdaPost (row : List Int) (l : List ByteArray) (w : World) (e : Ending) (w' : World) : Prop :=
  ∃ va ve : Value, e = .returned (.tuple #[va, ve, .int .i64 (rdaE row l)]) ∧ (rdaE row l = 0 → w'.ownsRow w.heap.size 21 1 va (alL l).length ((alL l).map E32) ∧ w'.ownsRow w.heap.size 3 1 ve l.length ((enL l l.length).map E64)) ∧ (¬ rdaE row l = 0 → va = .slice none 0 0 ∧ ve = .slice none 0 0) ∧ Below w.heap.size w w'

set_option maxHeartbeats 4000000 in
set_option maxRecDepth 100000 in
theorem readAll_any (pr : Option Addr) (br cr : Nat) (row : List Int) (sr : Option Addr) (ur s0 cs : Nat) (l : List ByteArray) (w : World) (hT : Tabs w) (hR : RsIn pr br 0 row w) (hS : SsIn sr ur s0 l w) :
    Calls Tryz.prog 24 #[.slice pr row.length cr, .slice sr l.length cs] w (RdaPost row l w) := by
  have hbig := hS.big
  by_cases h4 : 4096 < l.length
  · have he : rdaE row l = 4 := by unfold rdaE; rw [if_pos h4]
    have HE := Lib.hid he
    obtain ⟨n, hn⟩ : ∃ n, n = l.length := ⟨_, rfl⟩
    have hP : RdaPost row l w (.returned (.tuple #[.slice none 0 0, .slice none 0 0, .int .i64 4])) w := ⟨.slice none 0 0, .slice none 0 0, by rw [he], fun h => absurd h (by rw [he]; decide), fun _ => ⟨rfl, rfl⟩, Below.refl _ _⟩
    have HP := Lib.hid hP
    rw [← hn] at h4 hbig ⊢
    have h4z : (4096 : Int) < (n : Int) := by omega
    clear he hn hP hR hS hT
    go_enter Tryz.func24, Tryz.ntmps24
    go_wp2_with fail
    go_ret3
    exact HP.out
  · have he : rdaE row l = alE row l := by unfold rdaE; rw [if_neg h4]
    have hP : RdaPost row l w = fun e w' => ∃ va ve : Value, e = .returned (.tuple #[va, ve, .int .i64 (alE row l)]) ∧ (alE row l = 0 → w'.ownsRow w.heap.size 21 1 va (alL l).length ((alL l).map E32) ∧ w'.ownsRow w.heap.size 3 1 ve l.length ((enL l l.length).map E64)) ∧ (¬ alE row l = 0 → va = .slice none 0 0 ∧ ve = .slice none 0 0) ∧ Below w.heap.size w w' := by rw [← he]; rfl
    rw [hP]
    have kpr := fun vo L s W hT ho hL hb => putRead_any w.heap.size vo L pr br 0 cr row s W hT (fun W' hb' => hR.next (Below.trans hb hb')) ho hL hb.size
    obtain ⟨n, hn⟩ : ∃ n, n = l.length := ⟨_, rfl⟩
    obtain ⟨m, hm⟩ : ∃ m, m = row.length := ⟨_, rfl⟩
    obtain ⟨EE, hEE⟩ : ∃ E, E = alE row l := ⟨_, rfl⟩
    rw [← hn] at h4 hbig ⊢
    rw [← hm] at kpr ⊢
    rw [← hEE]
    obtain ⟨i0, hi, hz0, hz1, hz2⟩ := info_parts int_info
    have HI0 := Lib.hid hi; have HZ0 := Lib.hid hz0; have HZ1 := Lib.hid hz1; have HZ2 := Lib.hid hz2
    have HS := Lib.hid hS; have HT := Lib.hid hT; have KPR := Lib.hid kpr; have HN := Lib.hid hn; have HE := Lib.hid hEE
    have h4z : ¬ (4096 : Int) < (n : Int) := by omega
    clear he hP kpr hn hm hEE hi hz0 hz1 hz2 hS hT hR
    go_enter Tryz.func24, Tryz.ntmps24
    go_wp2_with fail
    go_loopw [4, 5, 6, 14] (fun va ve ee iv wr => ∃ k : Nat, iv = .int .i64 k ∧ k ≤ n ∧ ee = .int .i64 0 ∧ Hid (EE = alE row (l.drop k)) ∧ Hid (wr.ownsRow w.heap.size 21 1 va (alL (l.take k)).length ((alL (l.take k)).map E32)) ∧ Hid (wr.ownsRow w.heap.size 3 1 ve k ((enL l k).map E64)) ∧ Hid (Below w.heap.size w wr)) (fun _ _ _ iv _ => n - (intOf iv).toNat)
    case atStart => exact ⟨0, rfl, Nat.zero_le _, rfl, HE, World.ownsRow_nil _ _ _ _, World.ownsRow_nil _ _ _ _, Below.refl _ _⟩
    case round =>
      obtain ⟨k, rfl, hk, rfl, HK, HA, HV, HB⟩ := hrel
      have hszr := HB.out.size
      obtain ⟨oa, ca, rfl⟩ := own_shape HA.out
      obtain ⟨oe, ce, rfl⟩ := own_shape HV.out
      by_cases hkn : k < n
      · have hkl : k < l.length := by rw [← HN.out]; exact hkn
        obtain rfl := HS.out.at_ (by omega)
        have a0 := (HS.out.next HB.out).cells k hkl
        have hy := alE_yes (row := row) hkl
        have hno := alE_no (row := row) hkl
        have hsn := alL_snoc hkl
        have hlek : (alL (l.take k)).length ≤ 260 * k := Nat.le_trans (alL_le _) (Nat.mul_le_mul_left _ (List.length_take_le _ _))
        obtain ⟨q, hq⟩ : ∃ q, q = l.getD k ByteArray.empty := ⟨_, rfl⟩
        rw [← hq] at a0 hy hno hsn
        have hle2 : (alL (l.take (k + 1))).length ≤ 260 * (k + 1) := Nat.le_trans (alL_le _) (Nat.mul_le_mul_left _ (List.length_take_le _ _))
        have kp := KPR.out _ (alL (l.take k)) q wr (HT.out.next HB.out) HA.out (by omega) HB.out
        by_cases h0 : rdW row q = 0
        · have hK2 : EE = alE row (l.drop (k + 1)) := by rw [HK.out]; exact hy h0
          unfold PutPost at kp
          rw [h0, ← hsn] at kp
          have KP := Lib.hid kp; have HK2 := Lib.hid hK2
          obtain ⟨la, hla⟩ : ∃ x, x = (alL (l.take k)).length := ⟨_, rfl⟩
          rw [← hla] at HA KP ⊢
          clear hy hno hsn hq hkl kp hK2 h0 hla
          go_wp2_with fail
          refine KP.out.mono ?_
          rintro e w2 ⟨v2, rfl, h2, _, hg2⟩
          obtain ⟨ho2, hob2⟩ := h2 trivial
          have hV2 := HV.out.kept hg2 (own_apart HA.out HV.out (by decide))
          have hB2 := HB.out.grown hg2 hszr (fun q hq => (HA.out.lt q hq).1)
          have HO2 := Lib.hid ho2; have HV2 := Lib.hid hV2; have HB2 := Lib.hid hB2
          have hsz2 := hB2.size
          obtain ⟨o2, c2, rfl⟩ := own_shape ho2
          obtain ⟨lb, hlb⟩ : ∃ x, x = (alL (l.take (k + 1))).length := ⟨_, rfl⟩
          rw [← hlb] at HO2 hle2 ⊢
          have HLB := Lib.hid hlb
          clear ho2 h2 hob2 hg2 hV2 hB2 hlb KP
          go_wp2_with (at_builtin; refine wpList_append_own _ rfl (.tmp 28) (.tmp 31) 50 rfl w.heap.size 3 i0 (.int .i64 0) 1 8 Tryz.underlying50 HI0.out HZ0.out HZ1.out HZ2.out rfl (by decide) _ _ _ rfl (HV2.out.alloc _) ⟨w2.heap.size, 0, none⟩ 1 1 [.int .i64 lb] rfl rfl ?c1 ?c2 ?c3 ?c4 ?c5 ?_)
          case c1 =>
            intro j u hj
            match j, hj with
            | 0, hj => simp at hj; subst hj; simp [Addr.add]
            | j + 1, hj => simp at hj
          case c2 => intro u hu; simp at hu; subst hu; rfl
          case c3 => unfold maxLen; omega
          case c4 => omega
          case c5 => simp; omega
          intro v3 w3 hown3 hgrow3 hnil3
          have hob : ∀ q, (Value.slice oe k ce).ownBlock = some q → w.heap.size ≤ q := fun q hq => (HV2.out.lt q hq).1
          have hB3 : Below w.heap.size w w3 := (HB2.out.alloc (by omega) _).grown hgrow3 (by simp; omega) hob
          have hA3 := (HO2.out.alloc (.cells #[.int .i64 lb] 3)).kept hgrow3 (own_apart (HV2.out.alloc (.cells #[.int .i64 lb] 3)) (HO2.out.alloc (.cells #[.int .i64 lb] 3)) (by decide))
          have hV3 : w3.ownsRow w.heap.size 3 1 v3 (k + 1) ((enL l (k + 1)).map E64) := by
            rw [enL_snoc, List.map_append, ← HLB.out]
            exact hown3
          have HB3 := Lib.hid hB3; have HA3 := Lib.hid hA3; have HV3 := Lib.hid hV3
          rw [HLB.out] at HA3 ⊢
          clear hob hB3 hA3 hV3 hown3 hgrow3 hnil3
          go_wp2_with fail
          go_roundw
          case rel => exact ⟨k + 1, by go_num, by omega, rfl, HK2, HA3, HV3, HB3⟩
          case measure => simp [intOf]; omega
        · have hE2 : EE = rdW row q := by rw [HK.out]; exact hno h0
          unfold PutPost at kp
          rw [← hE2] at kp h0
          have e1 : (EE == 0) = false := by simp [h0]
          have e2 : (EE != 0) = true := by simp [h0]
          have KP := Lib.hid kp; have HH := Lib.hid h0
          obtain ⟨la, hla⟩ : ∃ x, x = (alL (l.take k)).length := ⟨_, rfl⟩
          rw [← hla] at HA KP ⊢
          clear hy hno hsn hq hkl kp hE2 h0 hla
          go_wp2_with fail
          refine KP.out.mono ?_
          rintro e w2 ⟨v2, rfl, _, h2, hg2⟩
          obtain rfl := h2 HH.out
          have hB2 := HB.out.grown hg2 hszr (fun q hq => (HA.out.lt q hq).1)
          have HB2 := Lib.hid hB2
          clear h2 hg2 hB2 KP
          go_wp2_with fail
          go_ret3
          exact ⟨.slice none 0 0, .slice none 0 0, rfl, fun h => absurd h HH.out, fun _ => ⟨rfl, rfl⟩, HB2.out⟩
      · have h0 : EE = 0 := by rw [HK.out, List.drop_eq_nil_of_le (by rw [← HN.out]; omega)]; rfl
        obtain rfl : k = n := by omega
        have hall : l.take k = l := List.take_of_length_le (by rw [← HN.out]; omega)
        rw [hall] at HA
        have H0 := Lib.hid h0
        rw [hall]
        clear h0
        go_wp2_with fail
        go_ret3
        exact ⟨.slice oa (alL l).length ca, .slice oe k ce, by rw [H0.out] <;> rfl, fun _ => ⟨HA.out, HV.out⟩, fun h => absurd H0.out h, HB.out⟩
end Go.Proofs.YtcibjgkifafohaaGreatDoor
namespace Go.Proofs.YtcibjgkifafohaaGreatDoor
open Go.RowKit Go.Lib
set_option linter.unusedVariables false

def joinE (A : Al) (l : List ByteArray) : Int := if A.ok then (if rdaE (rowL A) l = 0 then (if 256 < (alL l).length then 9 else 0) else rdaE (rowL A) l) else 7
def joinR (A : Al) (l : List ByteArray) : ByteArray := if joinE A l = 0 then strOf (textL (alL l)) else ByteArray.empty
def JoinPost (A : Al) (l : List ByteArray) (w : World) (e : Ending) (w' : World) : Prop := e = .returned (.tuple #[.string (joinR A l), .int .i64 (joinE A l)]) ∧ Below w.heap.size w w'
theorem rdaE_len {row : List Int} {l : List ByteArray} (h : rdaE row l = 0) : l.length ≤ 4096 := by
  unfold rdaE at h
  by_cases h4 : 4096 < l.length
  · rw [if_pos h4] at h; exact absurd h (by decide)
  · omega
set_option maxHeartbeats 4000000 in
set_option maxRecDepth 100000 in
theorem join_any (A : Al) (sr : Option Addr) (ur s0 cs : Nat) (l : List ByteArray) (w : World) (hA : A.In w) (hT : Tabs w) (hS : SsIn sr ur s0 l w) :
    Calls Tryz.prog 12 #[A.v, .slice sr l.length cs] w (JoinPost A l w) := by
  unfold JoinPost
  cases hok : A.ok with
  | false =>
    have he : joinE A l = 7 := by unfold joinE; rw [hok]; rfl
    have ht : joinR A l = ByteArray.empty := by unfold joinR; rw [he]; rfl
    rw [he, ht]
    have hr := fun W h => rowOf_no A W h hok
    unfold RowNo at hr
    obtain ⟨n, hn⟩ : ∃ n, n = l.length := ⟨_, rfl⟩
    obtain ⟨pf, pl, nf, cf, nl, cl, hv, hnf, hnl, hpl, hcl, hpf, hcf⟩ := A.parts
    rw [hv] at hr ⊢
    rw [← hn]
    have HR := Lib.hid hr; have HA := Lib.hid hA
    clear hr hA hT hS hv hnf hnl hpl hcl hpf hcf he ht hn
    go_enter Tryz.func12, Tryz.ntmps12
    go_wp2_with fail
    refine (HR.out _ (HA.out.alloc _)).mono ?_
    rintro e w1 ⟨o, c, rfl, hb1⟩
    have HB := Lib.hid (show Below w.heap.size w w1 from ((Below.refl _ _).alloc (Nat.le_refl _) _).trans (hb1.mono (by simp)))
    clear hb1
    go_wp2_with fail
    go_ret2
    exact ⟨rfl, HB.out⟩
  | true =>
    have hr := fun W h => rowOf_yes A W h hok
    unfold RowYes at hr
    have kra := fun pr br cr W hT hR hS => readAll_any pr br cr (rowL A) sr ur s0 cs l W hT hR hS
    unfold RdaPost at kra
    by_cases h0 : rdaE (rowL A) l = 0
    · have hle := rdaE_len h0
      have hal := alL_le l
      have he : joinE A l = if 256 < (alL l).length then 9 else 0 := by unfold joinE; rw [hok, if_pos rfl, if_pos h0]
      have ht : joinR A l = if 256 < (alL l).length then ByteArray.empty else strOf (textL (alL l)) := by
        unfold joinR; rw [he]
        by_cases h : 256 < (alL l).length
        · rw [if_pos h, if_pos h]; rfl
        · rw [if_neg h, if_neg h]; rfl
      rw [he, ht]
      have ktx := fun pr br cr W h => text_row pr br 0 cr (alL l) W h
      rw [h0] at kra
      have hors := fun (W : World) (B : Nat) (v : Value) (h : W.ownsRow B 21 1 v (alL l).length ((alL l).map E32)) => own_rs h (by omega)
      obtain ⟨n, hn⟩ : ∃ n, n = l.length := ⟨_, rfl⟩
      obtain ⟨m, hm⟩ : ∃ m, m = (rowL A).length := ⟨_, rfl⟩
      obtain ⟨k, hk⟩ : ∃ k, k = (alL l).length := ⟨_, rfl⟩
      obtain ⟨T, hT'⟩ : ∃ T, T = strOf (textL (alL l)) := ⟨_, rfl⟩
      obtain ⟨pf, pl, nf, cf, nl, cl, hv, hnf, hnl, hpl, hcl, hpf, hcf⟩ := A.parts
      rw [hv] at hr ⊢
      rw [← hm] at hr kra
      rw [← hn] at kra hle hal ⊢
      rw [← hk] at kra ktx hal hors ⊢
      rw [← hT'] at ktx ⊢
      have HR := Lib.hid hr; have HA := Lib.hid hA; have HT := Lib.hid hT; have HS := Lib.hid hS; have KRA := Lib.hid kra; have KTX := Lib.hid ktx; have HORS := Lib.hid hors
      clear hr hA hT hS kra ktx hors hv hnf hnl hpl hcl hpf hcf he ht hn hm hk hT' h0
      by_cases h256 : 256 < k
      · rw [if_pos h256, if_pos h256]
        go_enter Tryz.func12, Tryz.ntmps12
        go_wp2_with fail
        refine (HR.out _ (HA.out.alloc _)).mono ?_
        rintro e w1 ⟨qr, vr, cq, rfl, hrs, hbr, hb1⟩
        have HRS := Lib.hid hrs
        have hbw : Below w.heap.size w w1 := ((Below.refl _ _).alloc (Nat.le_refl _) _).trans (hb1.mono (by simp))
        have HB := Lib.hid hbw
        clear hb1 hbw hrs
        go_wp2_with fail
        refine (KRA.out _ _ _ _ (HT.out.next HB.out) HRS.out (HS.out.next HB.out)).mono ?_
        rintro e w2 ⟨va, ve, rfl, h1, _, hb2⟩
        obtain ⟨ha, hv⟩ := h1 trivial
        obtain ⟨o, c, rfl⟩ := own_shape ha
        obtain ⟨o', c', rfl⟩ := own_shape hv
        have HB2 := Lib.hid (HB.out.trans (hb2.mono HB.out.size))
        clear ha hv h1 hb2
        go_wp2_with fail
        go_ret2
        exact ⟨rfl, HB2.out⟩
      · rw [if_neg h256, if_neg h256]
        go_enter Tryz.func12, Tryz.ntmps12
        go_wp2_with fail
        refine (HR.out _ (HA.out.alloc _)).mono ?_
        rintro e w1 ⟨qr, vr, cq, rfl, hrs, hbr, hb1⟩
        have HRS := Lib.hid hrs
        have hbw : Below w.heap.size w w1 := ((Below.refl _ _).alloc (Nat.le_refl _) _).trans (hb1.mono (by simp))
        have HB := Lib.hid hbw
        clear hb1 hbw hrs
        go_wp2_with fail
        refine (KRA.out _ _ _ _ (HT.out.next HB.out) HRS.out (HS.out.next HB.out)).mono ?_
        rintro e w2 ⟨va, ve, rfl, h1, _, hb2⟩
        obtain ⟨ha, hv⟩ := h1 trivial
        obtain ⟨o', c', rfl⟩ := own_shape hv
        obtain ⟨ar, ab, ac, rfl, hra⟩ := HORS.out _ _ _ ha
        have HRA := Lib.hid hra
        have HB2 := Lib.hid (HB.out.trans (hb2.mono HB.out.size))
        clear ha hv h1 hb2 hra
        have hk256 : ¬ (256 : Int) < (k : Int) := by omega
        go_wp2_with fail
        refine (KTX.out _ _ _ _ HRA.out).mono ?_
        rintro e w3 ⟨rfl, rfl⟩
        go_wp2_with fail
        go_ret2
        exact ⟨rfl, HB2.out⟩
    · have he : joinE A l = rdaE (rowL A) l := by unfold joinE; rw [hok, if_pos rfl, if_neg h0]
      have ht : joinR A l = ByteArray.empty := by unfold joinR; rw [he, if_neg h0]
      rw [he, ht]
      obtain ⟨n, hn⟩ : ∃ n, n = l.length := ⟨_, rfl⟩
      obtain ⟨m, hm⟩ : ∃ m, m = (rowL A).length := ⟨_, rfl⟩
      obtain ⟨E, hE⟩ : ∃ E, E = rdaE (rowL A) l := ⟨_, rfl⟩
      obtain ⟨pf, pl, nf, cf, nl, cl, hv, hnf, hnl, hpl, hcl, hpf, hcf⟩ := A.parts
      rw [hv] at hr ⊢
      rw [← hm] at hr kra
      rw [← hn] at kra ⊢
      rw [← hE] at kra h0 ⊢
      have e1 : (E == 0) = false := by simp [h0]
      have e2 : (E != 0) = true := by simp [h0]
      have HR := Lib.hid hr; have HA := Lib.hid hA; have HT := Lib.hid hT; have HS := Lib.hid hS; have KRA := Lib.hid kra; have H0 := Lib.hid h0
      clear hr hA hT hS kra hv hnf hnl hpl hcl hpf hcf he ht hn hm hE h0
      go_enter Tryz.func12, Tryz.ntmps12
      go_wp2_with fail
      refine (HR.out _ (HA.out.alloc _)).mono ?_
      rintro e w1 ⟨qr, vr, cq, rfl, hrs, hbr, hb1⟩
      have HRS := Lib.hid hrs
      have hbw : Below w.heap.size w w1 := ((Below.refl _ _).alloc (Nat.le_refl _) _).trans (hb1.mono (by simp))
      have HB := Lib.hid hbw
      clear hb1 hbw hrs
      go_wp2_with fail
      refine (KRA.out _ _ _ _ (HT.out.next HB.out) HRS.out (HS.out.next HB.out)).mono ?_
      rintro e w2 ⟨va, ve, rfl, _, h1, hb2⟩
      obtain ⟨rfl, rfl⟩ := h1 H0.out
      have HB2 := Lib.hid (HB.out.trans (hb2.mono HB.out.size))
      clear h1 hb2
      go_wp2_with fail
      go_ret2
      exact ⟨rfl, HB2.out⟩

/-! ### Part -/
set_option maxHeartbeats 1000000 in
theorem part_some (g n cap a b : Nat) (w : World) (hab : a < b) (hbn : b ≤ n) (hn : n ≤ cap) (hc : cap ≤ 9223372036854775807) :
    Calls Tryz.prog 43 #[.slice (some ⟨g, 0, none⟩) n cap, .int .i64 a, .int .i64 b] w fun e w' => e = .returned (.slice (some ⟨g, a, none⟩) (b - a) (b - a)) ∧ w' = w := by
  have h0 : ¬ b - a = 0 := by omega
  go_enter Tryz.func43, Tryz.ntmps43
  go_wp2_with fail
  go_ret
  exact ⟨rfl, rfl⟩
set_option maxHeartbeats 1000000 in
theorem part_none (g n cap a : Nat) (w : World) (hbn : a ≤ n) (hn : n ≤ cap) (hc : cap ≤ 9223372036854775807) :
    Calls Tryz.prog 43 #[.slice (some ⟨g, 0, none⟩) n cap, .int .i64 a, .int .i64 a] w fun e w' => e = .returned (.slice (some ⟨g, 0, none⟩) 0 0) ∧ w' = w := by
  go_enter Tryz.func43, Tryz.ntmps43
  go_wp2_with fail
  go_ret
  exact ⟨rfl, rfl⟩
set_option maxHeartbeats 1000000 in
theorem part_nil (w : World) :
    Calls Tryz.prog 43 #[.slice none 0 0, .int .i64 0, .int .i64 0] w fun e w' => e = .returned (.slice none 0 0) ∧ w' = w := by
  go_enter Tryz.func43, Tryz.ntmps43
  go_wp2_with fail
  go_ret
  exact ⟨rfl, rfl⟩
end Go.Proofs.YtcibjgkifafohaaGreatDoor
namespace Go.Proofs.YtcibjgkifafohaaGreatDoor
open Go.RowKit Go.Lib
set_option linter.unusedVariables false

def subL (l : List Int) (a b : Nat) : List Int := (l.drop a).take (b - a)
theorem subL_len (l : List Int) (a b : Nat) (h : b ≤ l.length) : (subL l a b).length = b - a := by
  unfold subL
  rw [List.length_take, List.length_drop]
  omega
theorem subL_at (l : List Int) (a b j : Nat) (h : b ≤ l.length) (hj : j < b - a) : (subL l a b).getD j 0 = l.getD (a + j) 0 := by
  unfold subL
  rw [List.getD_eq_getElem?_getD, List.getD_eq_getElem?_getD, List.getElem?_take_of_lt hj, List.getElem?_drop]
theorem subL_same (l : List Int) (a : Nat) : subL l a a = [] := by unfold subL; simp
def SubPost (l : List Int) (a b : Nat) (w : World) (e : Ending) (w' : World) : Prop :=
  ∃ pr br r0 cr, e = .returned (.slice pr (subL l a b).length cr) ∧ RsIn pr br r0 (subL l a b) w ∧ w' = w
theorem part_any (B : Nat) (v : Value) (l : List Int) (a b : Nat) (w : World) (ho : w.ownsRow B 21 1 v l.length (l.map E32)) (hl : l.length ≤ 260) (hab : a ≤ b) (hb : b ≤ l.length) :
    Calls Tryz.prog 43 #[v, .int .i64 a, .int .i64 b] w (SubPost l a b w) := by
  rcases ho.2 with ⟨rfl, h0⟩ | ⟨g, cap, cur, rfl, hB, hg, hc, hm, hsz, ht⟩
  · obtain rfl : b = 0 := by omega
    obtain rfl : a = 0 := by omega
    refine (part_nil w).mono ?_
    rintro e w' ⟨rfl, rfl⟩
    rw [SubPost, subL_same]
    exact ⟨none, 0, 0, 0, rfl, ⟨fun h => absurd h (by decide), fun j hj => absurd hj (by simp), by decide⟩, rfl⟩
  · have hcap : cap ≤ 9223372036854775807 := by unfold maxLen at hm; omega
    by_cases hlt : a < b
    · refine (part_some g l.length cap a b w hlt hb hc hcap).mono ?_
      rintro e w' ⟨rfl, rfl⟩
      refine ⟨some ⟨g, a, none⟩, g, a, b - a, by rw [subL_len l a b hb], ⟨fun _ => rfl, fun j hj => ?_, by rw [subL_len l a b hb]; omega⟩, rfl⟩
      rw [subL_len l a b hb] at hj
      rw [subL_at l a b j hb hj, ho.cellAt (a + j) (by omega), List.getElem?_map, List.getElem?_eq_getElem (by omega), getD_at (by omega)]
      rfl
    · obtain rfl : a = b := by omega
      refine (part_none g l.length cap a w hb hc hcap).mono ?_
      rintro e w' ⟨rfl, rfl⟩
      rw [SubPost, subL_same]
      exact ⟨some ⟨g, 0, none⟩, g, 0, 0, rfl, ⟨fun h => absurd h (by decide), fun j hj => absurd hj (by simp), by decide⟩, rfl⟩

def prtE (A : Al) (s : ByteArray) (a b : Int) : Int := if letE A s = 0 then (if 0 ≤ a ∧ a ≤ b ∧ b ≤ (letL A s).length then 0 else 2) else letE A s
def prtR (A : Al) (s : ByteArray) (a b : Int) : ByteArray := if prtE A s a b = 0 then strOf (textL (subL (letL A s) a.toNat b.toNat)) else ByteArray.empty
def PrtPost (A : Al) (s : ByteArray) (a b : Int) (w : World) (e : Ending) (w' : World) : Prop := e = .returned (.tuple #[.string (prtR A s a b), .int .i64 (prtE A s a b)]) ∧ Below w.heap.size w w'

end Go.Proofs.YtcibjgkifafohaaGreatDoor
