/-
  WALKS: the document's quote, Quote.
-/
import Derived.Test.YtmbekgfbnapelaaDoorRefShow
namespace Go.Proofs.YtmbekgfbnapelaaDoor
open Go.RowKit Go.Lib
set_option linter.unusedVariables false

theorem own_one (w : World) (x : UInt8) : (w.alloc (.cells #[.int .u8 (x.toNat : Int)] 5)).ownsRow w.heap.size 5 1 (.slice (some ⟨w.heap.size, 0, none⟩) 1 1) 1 (byteCells [x]) := by
  refine ⟨rfl, .inr ⟨w.heap.size, 1, #[.int .u8 (x.toNat : Int)], rfl, Nat.le_refl _, ?_, Nat.le_refl _, by unfold maxLen; decide, rfl, rfl⟩⟩
  show (w.heap.push _)[w.heap.size]? = _
  simp

set_option maxHeartbeats 4000000 in
set_option maxRecDepth 100000 in
theorem rquote_any (s : ByteArray) (w : World) (hs : s.size ≤ 1048576) :
    Calls Tryd.prog 25 #[.string s] w fun e w' => e = .returned (.string (strOf (quoteL s))) ∧ Below w.heap.size w w' := by
  obtain ⟨i0, hi, hz0, hz1, hz2⟩ := info_parts byte_info
  have HI0 := Lib.hid hi; have HZ0 := Lib.hid hz0; have HZ1 := Lib.hid hz1; have HZ2 := Lib.hid hz2
  have ka := fun W => all_any s W (by omega)
  unfold AllPost at ka
  have hlen : (starts s).length ≤ s.size := by simpa [starts] using startsF_le s s.size 0
  have ksh := fun (p : Nat) (hp : p < s.size) (W : World) => rshown_any s p hp (by omega) W
  unfold pieceV at ksh
  have hO := own_one w 34
  have hsl : ∀ l, (strOf l).data.toList = l := fun l => by simp [strOf]
  have hss : ∀ l, (strOf l).size = l.length := fun l => by show (strOf l).data.size = _; simp [strOf]
  have hol := fun k => outL_length s ((starts s).take k)
  obtain ⟨n, hn⟩ : ∃ n, n = (starts s).length := ⟨_, rfl⟩
  rw [← hn] at hlen
  have KA := Lib.hid ka; have KSH := Lib.hid ksh; have HO0 := Lib.hid hO; have HN := Lib.hid hn; have HOL := Lib.hid hol
  have HB0 := Lib.hid (show Below w.heap.size w (w.alloc (.cells #[.int .u8 ((34 : UInt8).toNat : Int)] 5)) from (Below.refl _ _).alloc (Nat.le_refl _) _)
  clear hi hz0 hz1 hz2 ka ksh hO hn hol
  go_enter Tryd.func25, Tryd.ntmps25
  go_wp2_with fail
  refine (KA.out _).mono ?_
  rintro e w1 ⟨v, rfl, hp, hb⟩
  obtain ⟨ox, cx, rfl⟩ := own_shape hp
  rw [← HN.out] at hp ⊢
  have hO1 := own_below HO0.out (hb.mono (by simp) |> fun (h : Below w.heap.size _ w1) => hb)
  have HO1 := Lib.hid (show OutAt w.heap.size (outL s ((starts s).take 0)) w1 (.slice (some ⟨w.heap.size, 0, none⟩) 1 1) from hO1)
  have HP1 := Lib.hid (show PiecesAt s w.heap.size w1 (.slice ox n cx) from own_base hp (by simp))
  have HB1 := Lib.hid (HB0.out.trans (hb.mono (by simp)))
  have hsz := HB1.out.size
  clear hp hb hO1 HB0 HO0
  go_wp2_with fail
  go_loopw [3, 5] (fun ov iv wr => ∃ k : Nat, iv = .int .i64 k ∧ k ≤ n ∧ Hid (OutAt w.heap.size (outL s ((starts s).take k)) wr ov) ∧ Hid (PiecesAt s w.heap.size wr (.slice ox n cx)) ∧ Hid (Below w.heap.size w wr)) (fun _ iv _ => n - (RowKit.intOf iv).toNat)
  case atStart => exact ⟨0, rfl, Nat.zero_le _, HO1, HP1, HB1⟩
  case round =>
    obtain ⟨k, rfl, hk, HO, HP, HB⟩ := hrel
    obtain ⟨oo, co, rfl⟩ := own_shape HO.out
    have hszr := HB.out.size
    by_cases hkn : k < n
    · have hkl : k < (starts s).length := by have := HN.out; omega
      obtain ⟨p, hpe⟩ : ∃ p, (starts s)[k]? = some p := ⟨_, List.getElem?_eq_getElem hkl⟩
      obtain ⟨g, c', hg, hgb, hgl, hlie, hcap⟩ := pieces_lie HP.out (by omega)
      simp only [Value.slice.injEq] at hg
      obtain ⟨rfl, hnn, rfl⟩ := hg
      clear hnn
      obtain ⟨a0, a1, a2, a3⟩ := hlie.cell k p hpe
      have hps : p < s.size := startsF_mem s _ _ _ (List.mem_of_getElem? (show (startsF s s.size 0)[k]? = some p from hpe))
      have hstep : outL s ((starts s).take (k + 1)) = outL s ((starts s).take k) ++ shownL s p := by
        rw [← outL_snoc]
        obtain ⟨h1, rfl⟩ := List.getElem?_eq_some_iff.1 hpe
        rw [List.take_succ_eq_append_getElem h1]
      have hsl2 := shownL_length s p
      have hout := HOL.out k
      have hks := KSH.out p hps
      obtain ⟨m, hm⟩ : ∃ m, m = (outL s ((starts s).take k)).length := ⟨_, rfl⟩
      have hm2 : m ≤ 12000000 := by rw [hm]; rw [List.length_take] at hout; omega
      rw [← hm] at ⊢
      have HST := Lib.hid hstep; have HKS := Lib.hid hks; have HM := Lib.hid hm
      clear hlie hpe hstep hout hks hm
      go_wp2_with fail
      refine (HKS.out _).mono ?_
      rintro _ w2 ⟨rfl, hb2⟩
      have HO2 := Lib.hid (own_below HO.out hb2)
      have HP2 := Lib.hid (own_below HP.out hb2)
      have HB2 := Lib.hid (HB.out.trans (hb2.mono HB.out.size))
      have hz2 := HB2.out.size
      clear hb2 a0 a1 a2 a3
      have hsz3 : (strOf (shownL s p)).size = (shownL s p).length := by show (strOf (shownL s p)).data.size = _; simp [strOf]
      have hda3 : (strOf (shownL s p)).data.toList = shownL s p := by simp [strOf]
      have HSZ := Lib.hid hsz3; have HDA := Lib.hid hda3
      clear hsz3 hda3
      go_wp2_with (at_builtin; refine wpList_append_own_string _ rfl (.tmp 15) (.tmp 21) 60 9 rfl w.heap.size 5 i0 Tryd.underlying60 Tryd.underlying9 HI0.out HZ0.out HZ1.out HZ2.out (.slice oo m co) m (byteCells (outL s ((starts s).take k))) rfl (by rw [HM.out]; exact HO2.out) (strOf (shownL s p)) rfl ?c3 ?c4 ?c5 ?_)
      any_goals (first | omega | (unfold maxLen; rw [HSZ.out]; omega) | (rw [HSZ.out]; omega))
      intro v3 w3 hown3 hgrow3 hnil3
      have hO3 : OutAt w.heap.size (outL s ((starts s).take (k + 1))) w3 v3 := by
        unfold OutAt
        rw [HST.out, List.length_append, ← HM.out, byteCells_append]
        have e : strCells (strOf (shownL s p)) = byteCells (shownL s p) := by simp [strCells, strOf, byteCells]
        rw [e] at hown3
        exact hown3
      have hP3 : PiecesAt s w.heap.size w3 (.slice (some ⟨g, 0, none⟩) n cx) :=
        HP2.out.kept hgrow3 (by rw [HM.out]; exact own_apart HO2.out HP2.out (by decide))
      have hB3 : Below w.heap.size w w3 := HB2.out.grown hgrow3 hz2 (fun q hq => by rw [HM.out] at hq; exact (HO2.out.lt q hq).1)
      have HO3 := Lib.hid hO3; have HP3 := Lib.hid hP3; have HB3 := Lib.hid hB3
      clear hown3 hgrow3 hnil3 hO3 hP3 hB3
      go_wp2_with fail
      go_roundw
      case rel => first | exact ⟨k + 1, by go_num, by omega, HO3, HP3, HB3⟩ | ((repeat apply Exists.intro); exact ⟨⟨k + 1, by go_num, by omega, HO3, HP3, HB3⟩, rfl⟩)
      case measure => simp [RowKit.intOf]; omega
    · have hall : (starts s).take k = starts s := List.take_of_length_le (by have := HN.out; omega)
      have hOf := HO.out
      have hol := HOL.out k
      rw [hall] at hOf hol
      have hsz9 : (outL s (starts s)).length ≤ 12000000 := by have := HN.out; omega
      obtain ⟨m, hm⟩ : ∃ m, m = (outL s ((starts s).take k)).length := ⟨_, rfl⟩
      have hm2 : m = (outL s (starts s)).length := by rw [hm, hall]
      have hm3 : m ≤ 12000000 := by omega
      have hOw : wr.ownsRow w.heap.size 5 1 (.slice oo m co) m (byteCells (outL s (starts s))) := by rw [hm2]; rw [hall] at *; exact hOf
      rw [← hm]
      have HOw := Lib.hid hOw; have HM2 := Lib.hid hm2
      clear hall hOf hol hm hm2 hOw hsz9
      go_wp2_with (at_builtin; refine wpList_append_own _ rfl (.tmp 23) (.tmp 24) 60 rfl w.heap.size 5 i0 (.int .u8 0) 1 1 Tryd.underlying60 HI0.out HZ0.out HZ1.out HZ2.out rfl (by decide) (.slice oo m co) m (byteCells (outL s (starts s))) rfl (HOw.out.alloc _) ⟨wr.heap.size, 0, none⟩ 1 1 (byteCells [34]) rfl rfl ?d1 ?d2 ?d3 ?d4 ?d5 ?_)
      any_goals (first | omega | (unfold maxLen; omega) | (simp; omega) | exact cells_lit wr (byteCells [34]) _ | (intro u hu; simp [byteCells] at hu; subst hu; rfl))
      intro v3 w3 hown3 hgrow3 hnil3
      have hO3 : OutAt w.heap.size (quoteL s) w3 v3 := by
        unfold OutAt quoteL
        rw [List.length_append, ← HM2.out, byteCells_append]
        exact hown3
      have hB3 : Below w.heap.size w w3 := (HB.out.alloc hszr _).grown hgrow3 (by simp; omega) (fun q hq => (HOw.out.lt q hq).1)
      have hcv := hO3.conv
      have HB3 := Lib.hid hB3
      clear hown3 hgrow3 hnil3 hO3 hB3
      go_wp2_with fail
      go_ret
      exact ⟨rfl, HB3.out⟩
set_option maxHeartbeats 1000000 in
set_option maxRecDepth 100000 in
theorem rQuote_any (s : ByteArray) (w : World) (hs : s.size ≤ 65536) : Calls Tryd.prog 8 #[.string s] w (QuotePost s w) := by
  have k := fun W => rquote_any s W (by omega)
  obtain ⟨R, hR⟩ : ∃ R, R = strOf (quoteL s) := ⟨_, rfl⟩
  unfold QuotePost
  rw [← hR] at k ⊢
  have K := Lib.hid k
  have z1 : ¬ (65536 : Int) < (s.size : Int) := by omega
  clear k hR
  go_enter Tryd.func8, Tryd.ntmps8
  go_wp2_with fail
  refine (K.out _).mono ?_
  rintro _ w1 ⟨rfl, hb⟩
  have HB := Lib.hid hb
  clear hb
  go_wp2_with fail
  go_ret2
  exact ⟨rfl, HB.out⟩
set_option maxHeartbeats 1000000 in
set_option maxRecDepth 100000 in
theorem rQuote_long (s : ByteArray) (w : World) (hs : ¬ s.size ≤ 65536) : Calls Tryd.prog 8 #[.string s] w fun e w' => e = .returned (.tuple #[.string ByteArray.empty, .int .i64 3]) ∧ w' = w := by
  have z1 : (65536 : Int) < (s.size : Int) := by omega
  go_enter Tryd.func8, Tryd.ntmps8
  go_wp2_with fail
  go_ret2
  exact ⟨rfl, rfl⟩
end Go.Proofs.YtmbekgfbnapelaaDoor
