/-
  WALKS: the document's Plain.
-/
import Derived.Test.YtmbekgfbnapelaaDoorRefThingV
import Derived.Test.YtmbekgfbnapelaaDoorPlain
namespace Go.Proofs.YtmbekgfbnapelaaDoor
open Go.RowKit Go.Lib
set_option linter.unusedVariables false

theorem thing_any (s : ByteArray) (a : Nat) (w : World) (ha : a < s.size) (hs : s.size ≤ 1073741824) (h : ¬ (s.get! a).toNat = 34) :
    Calls Tryd.prog 27 #[.string s, .int .i64 a] w (ThPost (thing (s.extract a s.size)) w) := by
  by_cases h0 : (s.get! a).toNat = 92
  · by_cases h1 : a + 1 < s.size
    · by_cases h2 : (s.get! (a + 1)).toNat = 120
      · exact thing_x s a w hs h0 h1 h2
      · by_cases h3 : (s.get! (a + 1)).toNat = 117
        · exact thing_u s a w hs h0 h1 h3
        · exact thing_two s a w hs h0 h1 h2 h3
    · exact thing_short s a w ha hs h0 (by omega)
  · exact thing_plain s a w ha hs h0 h

def RPlPost (s : ByteArray) (w : World) (e : Ending) (w' : World) : Prop := e = .returned (plainT s) ∧ Below w.heap.size w w'
theorem rpl_at {s : ByteArray} {w w' : World} {i : Int} {b : ByteArray} (h : unq s = ([], i)) (h0 : 0 ≤ i) (hb : b = ByteArray.empty) (hw : Below w.heap.size w w') : RPlPost s w (.returned (.tuple #[.string b, .int .i64 i, .int .i64 10])) w' := by
  subst hb
  refine ⟨?_, hw⟩
  unfold plainT
  rw [h, if_pos h0]
theorem rpl_long {s : ByteArray} {w w' : World} {acc : List UInt8} {b : ByteArray} (h : unq s = (acc, -1)) (h0 : 65536 < acc.length) (hb : b = ByteArray.empty) (hw : Below w.heap.size w w') : RPlPost s w (.returned (.tuple #[.string b, .int .i64 0, .int .i64 3])) w' := by
  subst hb
  refine ⟨?_, hw⟩
  have hss : (strOf acc).size = acc.length := by show (strOf acc).data.size = _; simp [strOf]
  unfold plainT
  rw [h, if_neg (by show ¬ (0 : Int) ≤ -1; decide), if_pos (by show 65536 < (strOf acc).size; omega)]
theorem rpl_not {s : ByteArray} {w w' : World} {acc : List UInt8} {b : ByteArray} (h : unq s = (acc, -1)) (h0 : ¬ 65536 < acc.length) (hq : ¬ (strOf (quoteL (strOf acc))).toList = s.toList) (hb : b = ByteArray.empty) (hw : Below w.heap.size w w') : RPlPost s w (.returned (.tuple #[.string b, .int .i64 0, .int .i64 10])) w' := by
  subst hb
  refine ⟨?_, hw⟩
  have hss : (strOf acc).size = acc.length := by show (strOf acc).data.size = _; simp [strOf]
  unfold plainT
  rw [h, if_neg (by show ¬ (0 : Int) ≤ -1; decide), if_neg (by show ¬ 65536 < (strOf acc).size; omega), if_neg hq]
theorem rpl_yes {s : ByteArray} {w w' : World} {acc : List UInt8} (h : unq s = (acc, -1)) (h0 : ¬ 65536 < acc.length) (hq : (strOf (quoteL (strOf acc))).toList = s.toList) (hw : Below w.heap.size w w') : RPlPost s w (.returned (.tuple #[.string (strOf acc), .int .i64 0, .int .i64 0])) w' := by
  refine ⟨?_, hw⟩
  have hss : (strOf acc).size = acc.length := by show (strOf acc).data.size = _; simp [strOf]
  unfold plainT
  rw [h, if_neg (by show ¬ (0 : Int) ≤ -1; decide), if_neg (by show ¬ 65536 < (strOf acc).size; omega), if_pos hq]

set_option maxRecDepth 100000 in
set_option maxHeartbeats 400000 in
theorem rplain_long (s : ByteArray) (w : World) (hs : ¬ s.size ≤ 1048576) : Calls Tryd.prog 10 #[.string s] w fun e w' => e = .returned (.tuple #[.string ByteArray.empty, .int .i64 0, .int .i64 3]) ∧ Below w.heap.size w w' := by
  have hc : (1048576 : Int) < (s.size : Int) := by omega
  clear hs
  go_enter Tryd.func10, Tryd.ntmps10
  go_wp2_with fail
  go_ret3
  exact ⟨rfl, Below.refl _ _⟩

set_option maxRecDepth 100000 in
set_option maxHeartbeats 8000000 in
theorem rplain_any (s : ByteArray) (w : World) (hs : s.size ≤ 1048576) : Calls Tryd.prog 10 #[.string s] w (RPlPost s w) := by
  have hc : ¬ (1048576 : Int) < (s.size : Int) := by omega
  by_cases h0 : s.size = 0
  · have he : s = ByteArray.empty := by
      apply ByteArray.ext; apply Array.eq_empty_of_size_eq_zero; exact h0
    have HR : Hid (unq s = ([], 0)) := by show unq s = _; unfold unq; rw [if_pos h0]
    subst he
    clear hc hs h0
    go_enter Tryd.func10, Tryd.ntmps10
    go_wp2_with fail
    go_ret3
    exact rpl_at HR.out (Int.le_refl _) rfl (Below.refl _ _)
  have hne : s.toList.isEmpty = false := by
    rw [ByteArray.toList_eq, List.isEmpty_eq_false_iff]
    intro h
    apply h0
    have := congrArg List.length h
    simpa using this
  have hx := get_run' s 0 (by omega) 0 rfl
  have hxl := get_u8 s 0
  obtain ⟨x, hxe⟩ : ∃ x, x = (s.get! 0).toNat := ⟨_, rfl⟩
  rw [← hxe] at hx hxl
  by_cases h1 : x = 34
  · have h1' : ((x : Int) == 34) = true := by rw [beq_iff_eq]; omega
    have HR : Hid (unq s = unqF s s.size 1 []) := by show unq s = _; unfold unq; rw [if_neg h0, if_neg (fun hh => hh (by omega))]
    obtain ⟨i0, hi, hz0, hz1, hz2⟩ := info_parts byte_info
    have HI0 := Lib.hid hi; have HZ0 := Lib.hid hz0; have HZ1 := Lib.hid hz1; have HZ2 := Lib.hid hz2
    clear hxe h1 hi hz0 hz1 hz2
    go_enter Tryd.func10, Tryd.ntmps10
    go_wp2_with fail
    go_loopw [5, 6] (fun v av wr => ∃ (a : Nat) (acc : List UInt8), av = .int .i64 (a : Nat) ∧ 1 ≤ a ∧ a ≤ s.size ∧ acc.length ≤ 4 * a ∧ unqF s s.size a acc = unq s ∧ wr.ownsRow w.heap.size 5 1 v acc.length (byteCells acc) ∧ Below w.heap.size w wr) (fun _ av _ => s.size - (RowKit.intOf av).toNat)
    case atStart => exact ⟨1, [], rfl, Nat.le_refl _, by omega, by simp, HR.out.symm, World.ownsRow_nil _ _ _ _, Below.refl _ _⟩
    case round =>
      obtain ⟨a, acc, rfl, ha1, has, hacc, hrel, hown, hbw⟩ := hrel
      obtain ⟨N, hN1, hN2⟩ : ∃ N : Int, (s.size : Int) ≤ N ∧ N ≤ 1048576 := ⟨s.size, by omega, by omega⟩
      have HSz := Lib.hid hs
      have HO := Lib.hid hown; have HBw := Lib.hid hbw
      have hsz := hbw.size
      obtain ⟨o, c, rfl⟩ := own_shape hown
      by_cases h2 : a < s.size
      · have hst := unq_step s a acc h2 ha1
        have hya := get_run' s a h2 a rfl
        have hyl := get_u8 s a
        have htl := thing_le (s.extract a s.size) (by simp; omega)
        have hes : (s.extract a s.size).size = s.size - a := by simp
        rw [hes] at htl
        have kth := fun (W : World) (h : ¬ (s.get! a).toNat = 34) => thing_any s a W h2 (by omega) h
        obtain ⟨y, hye⟩ : ∃ y, y = (s.get! a).toNat := ⟨_, rfl⟩
        obtain ⟨t, ht⟩ : ∃ t, t = thing (s.extract a s.size) := ⟨_, rfl⟩
        rw [← hye, ← ht, hrel] at hst
        rw [← hye] at hya hyl
        rw [← ht] at htl
        have kth : ∀ (W : World), ¬ y = 34 → Calls Tryd.prog 27 #[.string s, .int .i64 a] W (ThPost t W) := by rw [hye, ht]; exact kth
        by_cases h3 : y = 34
        · rw [if_pos h3] at hst
          have h3' : ((y : Int) == 34) = true := by rw [beq_iff_eq]; omega
          have h5' : ¬ (s.size : Int) ≤ (a : Int) := by omega
          by_cases h4 : a + 1 < s.size
          · rw [if_pos h4] at hst
            have HS := Lib.hid hst
            clear hst hrel hown hbw hye h3 htl hes hs hacc kth ht
            go_wp2_with fail
            go_ret3
            exact rpl_at (i := (a : Int) + 1) HS.out (by omega) rfl HBw.out
          · rw [if_neg h4] at hst
            have HS := Lib.hid hst
            have hcv := conv_own hown rfl
            have hss : (strOf acc).size = acc.length := by show (strOf acc).data.size = _; simp [strOf]
            by_cases h6 : 65536 < acc.length
            · have h6' : (65536 : Int) < (acc.length : Int) := by omega
              clear hst hrel hown hbw hye h3 htl hes hs kth ht hss
              go_wp2_with fail
              go_ret3
              exact rpl_long HS.out h6 rfl HBw.out
            · have h6' : ¬ (65536 : Int) < (acc.length : Int) := by omega
              have kq := fun W => rquote_any (strOf acc) W (by omega)
              obtain ⟨Z, hZ⟩ : ∃ Z, Z = strOf (quoteL (strOf acc)) := ⟨_, rfl⟩
              obtain ⟨V, hV⟩ : ∃ Z, Z = strOf acc := ⟨_, rfl⟩
              rw [← hZ] at kq
              rw [← hV] at kq hcv
              have KQ := Lib.hid kq; have HZ := Lib.hid hZ; have HV := Lib.hid hV
              have H6 := Lib.hid h6
              by_cases hq : Z.toList = s.toList
              · have HQ := Lib.hid hq
                have hq' : (Z.toList == s.toList) = true := by rw [beq_iff_eq]; exact hq
                clear hst hrel hown hbw hye h3 htl hes hs kth ht hss hacc kq hZ hV hq h6
                go_wp2_with fail
                refine (KQ.out _).mono ?_
                rintro e w3 ⟨rfl, hb3⟩
                have hcv3 := conv_own (own_below HO.out hb3) rfl
                rw [← HV.out] at hcv3
                have HB3 := Lib.hid (HBw.out.trans (hb3.mono hsz))
                clear hb3
                go_wp2_with fail
                go_ret3
                have hfin := rpl_yes (w := w) (w' := w3) HS.out H6.out (by rw [← HV.out, HV.out, ← HZ.out]; exact HQ.out) HB3.out
                rw [← HV.out] at hfin
                exact hfin
              · have HQ := Lib.hid hq
                have hq' : (Z.toList == s.toList) = false := by rw [beq_eq_false_iff_ne]; exact hq
                clear hst hrel hown hbw hye h3 htl hes hs kth ht hss hacc kq hZ hV hq h6
                go_wp2_with fail
                refine (KQ.out _).mono ?_
                rintro e w3 ⟨rfl, hb3⟩
                have HB3 := Lib.hid (HBw.out.trans (hb3.mono hsz))
                clear hb3
                go_wp2_with fail
                go_ret3
                exact rpl_not HS.out H6.out (by rw [← HZ.out]; exact HQ.out) rfl HB3.out
        · rw [if_neg h3] at hst
          have h3' : ((y : Int) == 34) = false := by rw [beq_eq_false_iff_ne]; omega
          have KT := Lib.hid (fun W => kth W h3)
          by_cases h4 : t.2 = 0
          · rw [if_pos h4] at hst
            have HS := Lib.hid hst
            have H4 := Lib.hid h4
            clear hst hrel hown hbw hye h3 ht htl hes hs hacc kth
            go_wp2_with fail
            refine (KT.out _).mono ?_
            rintro e w3 ⟨v3, rfl, _, hb3⟩
            rw [H4.out]
            have HB3 := Lib.hid (HBw.out.trans (hb3.mono hsz))
            clear hb3 h4
            go_wp2_with fail
            go_ret3
            exact rpl_at (i := (a : Int)) HS.out (by omega) rfl HB3.out
          · rw [if_neg h4] at hst
            have HS := Lib.hid hst
            have h4' : ((t.2 : Int) == 0) = false := by rw [beq_eq_false_iff_ne]; omega
            obtain ⟨K, hK⟩ : ∃ K, K = t.2 := ⟨_, rfl⟩
            have HTl := Lib.hid htl
            have HAc := Lib.hid hacc
            have H4 := Lib.hid h4; have HES := Lib.hid hes
            obtain ⟨m, hm⟩ : ∃ m, m = acc.length := ⟨_, rfl⟩
            rw [← hm] at hacc ⊢
            have hm4 : m ≤ 4194304 := by omega
            have HM := Lib.hid hm
            clear hst hrel hown hbw hye h3 ht htl hes hs hacc kth h4 hm
            go_wp2_with fail
            refine (KT.out _).mono ?_
            rintro e w3 ⟨v3, rfl, hv3, hb3⟩
            obtain ⟨g3, rfl, hc3⟩ := hv3 H4.out
            have hO3 := own_below HO.out hb3
            have HB3 := Lib.hid (HBw.out.trans (hb3.mono hsz))
            have hz3 := HB3.out.size
            rw [← hK] at h4' HTl HS ⊢
            obtain ⟨ne, hne⟩ : ∃ n, n = t.1.length := ⟨_, rfl⟩
            have htl := HTl.out
            rw [← hne] at htl ⊢
            have hO3' : w3.ownsRow w.heap.size 5 1 (.slice o m c) m (byteCells acc) := by rw [HM.out]; exact hO3
            have HO3 := Lib.hid hO3'; have HC3 := Lib.hid hc3; have HNE := Lib.hid hne
            have ht4 := htl.2
            clear hb3 hc3 hv3 hO3 hO3' hne htl hK
            go_wp2_with (at_builtin; refine wpList_append_own _ rfl (.tmp 38) (.tmp 39) 60 rfl w.heap.size 5 i0 (.int .u8 0) 1 1 Tryd.underlying60 HI0.out HZ0.out HZ1.out HZ2.out rfl (by decide) (.slice o m c) m (byteCells acc) rfl HO3.out ⟨g3, 0, none⟩ ne ne (byteCells t.1) rfl (by rw [byteCells_length, HNE.out]; simp) HC3.out ?d2 ?d3 ?d4 ?d5 ?_)
            any_goals (first | omega | (unfold maxLen; omega) | (intro u hu; obtain ⟨x, _, rfl⟩ := List.mem_map.1 (show u ∈ (t.1).map _ from hu); rfl))
            intro v4 w4 hown4 hgrow4 hnil4
            have hrow : w4.ownsRow w.heap.size 5 1 v4 (acc ++ t.1).length (byteCells (acc ++ t.1)) := by
              rw [byteCells_append, List.length_append, ← HM.out, ← HNE.out]; exact hown4
            have hlen : (acc ++ t.1).length ≤ 4 * (a + K) := by
              have := HTl.out; have := HAc.out
              have hK0 : K ≠ 0 := fun e => by rw [e] at h4'; cases h4'
              rw [List.length_append]; omega
            have hB4 : Below w.heap.size w w4 := HB3.out.grown hgrow4 hz3 (fun q hq => (HO3.out.lt q hq).1)
            have HR4 := Lib.hid hrow; have HL4 := Lib.hid hlen; have HB4 := Lib.hid hB4
            have hK4 : a + K ≤ s.size := by have := HTl.out; have := HES.out; omega
            clear hown4 hgrow4 hnil4 hrow hlen hB4
            go_wp2_with fail
            first
              | exact ⟨⟨a + K, acc ++ t.1, by go_num, by omega, hK4, HL4.out, HS.out.symm, HR4.out, HB4.out⟩, by simp [RowKit.intOf]; omega⟩
              | (go_roundw
                 case rel => first | exact ⟨a + K, acc ++ t.1, by go_num, by omega, hK4, HL4.out, HS.out.symm, HR4.out, HB4.out⟩ | ((repeat apply Exists.intro); exact ⟨⟨a + K, acc ++ t.1, by go_num, by omega, hK4, HL4.out, HS.out.symm, HR4.out, HB4.out⟩, rfl⟩)
                 case measure => simp [RowKit.intOf]; have : K ≠ 0 := (fun e => by rw [e] at h4'; cases h4'); omega)
      · obtain rfl : a = s.size := by omega
        have hst := unqF_out s s.size s.size acc h2
        rw [hrel] at hst
        have HS := Lib.hid hst
        clear hst hrel hown hbw
        go_wp2_with fail
        go_ret3
        exact rpl_at (i := (s.size : Int)) HS.out (by omega) rfl HBw.out
  · have h1' : ((x : Int) == 34) = false := by rw [beq_eq_false_iff_ne]; omega
    have HR : Hid (unq s = ([], 0)) := by show unq s = _; unfold unq; rw [if_neg h0, if_pos (by omega)]
    clear hxe h1
    go_enter Tryd.func10, Tryd.ntmps10
    go_wp2_with fail
    go_ret3
    exact rpl_at HR.out (Int.le_refl _) rfl (Below.refl _ _)
end Go.Proofs.YtmbekgfbnapelaaDoor
