/-
  WALKS: the document's Text of layer 1.
-/
import Derived.Test.YtmbekgfbnapelaaDoorRefQuote
import Derived.Test.YtmbekgfbnapelaaDoorRsP
import Derived.Test.YtmbekgfbnapelaaDoorBytes
namespace Go.Proofs.YtmbekgfbnapelaaDoor
open Go.RowKit Go.Lib
set_option linter.unusedVariables false

theorem textL_step {l : List Int} {k : Nat} (h : k < l.length) : textL (l.take (k + 1)) = textL (l.take k) ++ encL (l.getD k 0) := by
  rw [List.take_succ_eq_append_getElem h, ← textL_snoc, List.getD_eq_getElem?_getD, List.getElem?_eq_getElem h]
  rfl
set_option maxHeartbeats 4000000 in
set_option maxRecDepth 100000 in
theorem r1text_any (pr : Option Addr) (br r0 cr : Nat) (l : List Int) (w : World) (hR : RsIn pr br r0 l w) (hl : l.length ≤ 100000) :
    Calls Tryd.prog 12 #[.slice pr l.length cr] w fun e w' => e = .returned (.string (strOf (textL l))) ∧ Below w.heap.size w w' := by
  obtain ⟨i0, hi, hz0, hz1, hz2⟩ := info_parts byte_info
  have HI0 := Lib.hid hi; have HZ0 := Lib.hid hz0; have HZ1 := Lib.hid hz1; have HZ2 := Lib.hid hz2
  have hstep := fun k => textL_step (l := l) (k := k)
  have hlen := fun k => textL_length (l.take k)
  obtain ⟨n, hn⟩ : ∃ n, n = l.length := ⟨_, rfl⟩
  rw [← hn] at hl ⊢
  have HN := Lib.hid hn; have HST := Lib.hid hstep; have HLE := Lib.hid hlen; have HR := Lib.hid hR
  clear hi hz0 hz1 hz2 hstep hlen hn hR
  go_enter Tryd.func12, Tryd.ntmps12
  go_wp2_with fail
  go_loopw [3, 4] (fun ov iv wr => ∃ k : Nat, iv = .int .i64 k ∧ k ≤ n ∧ Hid (OutAt w.heap.size (textL (l.take k)) wr ov) ∧ Hid (Below w.heap.size w wr)) (fun _ iv _ => n - (RowKit.intOf iv).toNat)
  case atStart => exact ⟨0, rfl, Nat.zero_le _, World.ownsRow_nil _ _ _ _, Below.refl _ _⟩
  case round =>
    obtain ⟨k, rfl, hk, HO, HB⟩ := hrel
    obtain ⟨oo, co, rfl⟩ := own_shape HO.out
    have hszr := HB.out.size
    have hm2 : (textL (l.take k)).length ≤ 400000 := by have := HLE.out k; rw [List.length_take] at this; omega
    by_cases hkn : k < n
    · have hkl : k < l.length := by have := HN.out; omega
      obtain rfl := HR.out.at_ (by omega)
      have a0 := (HR.out.next HB.out).cells k hkl
      have hst := HST.out k hkl
      obtain ⟨q, hq⟩ : ∃ q, q = l.getD k 0 := ⟨_, rfl⟩
      rw [← hq] at a0 hst
      have k1 := fun W => one_any q W
      unfold OnePost at k1
      have he := encL_length q
      obtain ⟨m, hm⟩ : ∃ m, m = (textL (l.take k)).length := ⟨_, rfl⟩
      rw [← hm] at hm2 ⊢
      have K1 := Lib.hid k1; have HS1 := Lib.hid hst; have HM := Lib.hid hm
      clear k1 hst hq hm hkl
      go_wp2_with fail
      refine (K1.out _).mono ?_
      rintro _ w2 ⟨v2, g2, rfl, ⟨rfl, hc2⟩, hg2, hb2⟩
      have HO2 := Lib.hid (own_below HO.out hb2)
      have HB2 := Lib.hid (HB.out.trans (hb2.mono HB.out.size))
      have HC2 := Lib.hid hc2
      have hz2 := HB2.out.size
      obtain ⟨ne, hne⟩ : ∃ n, n = (encL q).length := ⟨_, rfl⟩
      rw [← hne] at he ⊢
      have HNE := Lib.hid hne
      clear hb2 hc2 a0 hne
      go_wp2_with (at_builtin; refine wpList_append_own _ rfl (.tmp 17) (.tmp 18) 60 rfl w.heap.size 5 i0 (.int .u8 0) 1 1 Tryd.underlying60 HI0.out HZ0.out HZ1.out HZ2.out rfl (by decide) (.slice oo m co) m (byteCells (textL (l.take k))) rfl (by rw [HM.out]; exact HO2.out) ⟨g2, 0, none⟩ ne ne (byteCells (encL q)) rfl (by rw [byteCells_length, HNE.out]; simp) HC2.out ?d2 ?d3 ?d4 ?d5 ?_)
      any_goals (first | omega | (unfold maxLen; omega) | (intro u hu; obtain ⟨x, _, rfl⟩ := List.mem_map.1 (show u ∈ (encL q).map _ from hu); rfl))
      intro v3 w3 hown3 hgrow3 hnil3
      have hO3 : OutAt w.heap.size (textL (l.take (k + 1))) w3 v3 := by
        unfold OutAt
        rw [HS1.out, List.length_append, ← HM.out, ← HNE.out, byteCells_append]
        exact hown3
      have hB3 : Below w.heap.size w w3 := HB2.out.grown hgrow3 hz2 (fun q hq => by rw [HM.out] at hq; exact (HO2.out.lt q hq).1)
      have HO3 := Lib.hid hO3; have HB3 := Lib.hid hB3
      clear hown3 hgrow3 hnil3 hO3 hB3
      go_wp2_with fail
      go_roundw
      case rel => first | exact ⟨k + 1, by go_num, by omega, HO3, HB3⟩ | ((repeat apply Exists.intro); exact ⟨⟨k + 1, by go_num, by omega, HO3, HB3⟩, rfl⟩)
      case measure => simp [RowKit.intOf]; omega
    · have hall : l.take k = l := List.take_of_length_le (by have := HN.out; omega)
      have hcv := HO.out.conv
      obtain ⟨R, hR⟩ : ∃ R, R = strOf (textL (l.take k)) := ⟨_, rfl⟩
      have hR2 : R = strOf (textL l) := by rw [hR, hall]
      rw [← hR] at hcv
      have HR2 := Lib.hid hR2
      obtain ⟨m, hm⟩ : ∃ m, m = (textL (l.take k)).length := ⟨_, rfl⟩
      rw [← hm] at hcv ⊢
      clear hall hR hR2 hm hm2
      go_wp2_with fail
      go_ret
      exact ⟨by rw [HR2.out] <;> rfl, HB.out⟩
end Go.Proofs.YtmbekgfbnapelaaDoor
