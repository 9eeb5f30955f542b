/-
  RunesNames: the limits and the errors have their numbers; examples of the chapter. CONDITIONS: none but the tables that the card ties to the program's text.
-/
import Derived.Test.YthkdfffankpekaaDoorLaid2
import Derived.Test.YthkdfffankpekaaDoorNames1
namespace Go.Proofs.YthkdfffankpekaaDoor.lawNames
set_option linter.unusedVariables false
set_option linter.unusedSimpArgs false
open Go.ChangeShapes Go.WideShapes Go.ChangeAt Go.RowKit

set_option maxHeartbeats 4000000 in
set_option maxRecDepth 100000 in
theorem walk0 (w : World) (hT : Tabs2 w) :
    Calls Tryd.prog 3 #[] w fun e w' => e = .returned (.bool true) ∧ Below w.heap.size w w' := by
  have HT0 := Lib.hid hT
  have HB0 := Lib.hid (Below.refl w.heap.size w)
  have s0 : w.heap.size ≤ w.heap.size := Nat.le_refl _
  clear hT
  go_enter Tryd.func3, Tryd.ntmps3
  go_wp2_with fail
  refine (pieces_any nmB _ (by decide) HT0.out.1).mono ?_
  rintro e w1 ⟨v, rfl, hv, hb⟩
  unfold PiecesAt at hv
  rw [nm_p, nm_l] at hv
  obtain ⟨g, c, rfl⟩ : ∃ g c, v = .slice (some ⟨g, 0, none⟩) 4 c := by
    rcases hv.2 with ⟨_, h0⟩ | ⟨g, cap, cur, hvv, _⟩
    · cases h0
    · exact ⟨g, cap, hvv⟩
  have s1 : w.heap.size ≤ w1.heap.size := hb.size
  have HT1 := Lib.hid (HT0.out.next hb)
  have HB1 := Lib.hid hb
  have HV1 := Lib.hid hv
  clear hb hv HT0 HB0
  go_wp2_with fail
  refine (len_any nmB _ (by decide)).mono ?_
  rw [nm_l]
  rintro e w2 ⟨rfl, hb⟩
  have s2 : w.heap.size ≤ w2.heap.size := Nat.le_trans s1 hb.size
  have HT2 := Lib.hid (HT1.out.next hb)
  have HB2 := Lib.hid (HB1.out.trans (hb.mono (B' := w.heap.size) s1))
  have HV2 := Lib.hid (own_below HV1.out hb)
  clear hb HT1 HB1 HV1
  go_wp2_with fail
  refine (broken_any nmB _ (by decide) HT2.out.1).mono ?_
  rw [nm_f]
  rintro e w3 ⟨rfl, hb⟩
  have s3 : w.heap.size ≤ w3.heap.size := Nat.le_trans s2 hb.size
  have HT3 := Lib.hid (HT2.out.next hb)
  have HB3 := Lib.hid (HB2.out.trans (hb.mono (B' := w.heap.size) s2))
  have HV3 := Lib.hid (own_below HV2.out hb)
  clear hb HT2 HB2 HV2
  go_wp2_with fail
  refine (broken_any ⟨#[97]⟩ _ (by decide) HT3.out.1).mono ?_
  rw [nm_f2]
  rintro e w4 ⟨rfl, hb⟩
  have s4 : w.heap.size ≤ w4.heap.size := Nat.le_trans s3 hb.size
  have HT4 := Lib.hid (HT3.out.next hb)
  have HB4 := Lib.hid (HB3.out.trans (hb.mono (B' := w.heap.size) s3))
  have HV4 := Lib.hid (own_below HV3.out hb)
  clear hb HT3 HB3 HV3
  have c0 : w4.cell? ⟨g, 0, none⟩ = some (.int .i32 97) := HV4.out.cellAt 0 (by decide)
  have c1 : w4.cell? ⟨g, 1, none⟩ = some (.int .i64 0) := HV4.out.cellAt 1 (by decide)
  have c2 : w4.cell? ⟨g, 2, none⟩ = some (.int .i64 1) := HV4.out.cellAt 2 (by decide)
  have c3 : w4.cell? ⟨g, 3, none⟩ = some (.bool false) := HV4.out.cellAt 3 (by decide)
  have c4 : w4.cell? ⟨g, 4, none⟩ = some (.int .i32 233) := HV4.out.cellAt 4 (by decide)
  have c5 : w4.cell? ⟨g, 5, none⟩ = some (.int .i64 1) := HV4.out.cellAt 5 (by decide)
  have c6 : w4.cell? ⟨g, 6, none⟩ = some (.int .i64 2) := HV4.out.cellAt 6 (by decide)
  have c7 : w4.cell? ⟨g, 7, none⟩ = some (.bool false) := HV4.out.cellAt 7 (by decide)
  have c8 : w4.cell? ⟨g, 8, none⟩ = some (.int .i32 65533) := HV4.out.cellAt 8 (by decide)
  have c9 : w4.cell? ⟨g, 9, none⟩ = some (.int .i64 3) := HV4.out.cellAt 9 (by decide)
  have c10 : w4.cell? ⟨g, 10, none⟩ = some (.int .i64 1) := HV4.out.cellAt 10 (by decide)
  have c11 : w4.cell? ⟨g, 11, none⟩ = some (.bool true) := HV4.out.cellAt 11 (by decide)
  have c12 : w4.cell? ⟨g, 12, none⟩ = some (.int .i32 98) := HV4.out.cellAt 12 (by decide)
  have c13 : w4.cell? ⟨g, 13, none⟩ = some (.int .i64 4) := HV4.out.cellAt 13 (by decide)
  have c14 : w4.cell? ⟨g, 14, none⟩ = some (.int .i64 1) := HV4.out.cellAt 14 (by decide)
  have c15 : w4.cell? ⟨g, 15, none⟩ = some (.bool false) := HV4.out.cellAt 15 (by decide)
  clear HV4
  go_wp2_with fail
  clear c0 c1 c2 c3 c4 c5 c6 c7 c8 c9 c10 c11 c12 c13 c14 c15
  refine (part_any nmB 1 3 _ (by decide) (by decide) (by rw [nm_l]; decide)).mono ?_
  rw [nm_cut]
  rintro e w5 ⟨rfl, hb⟩
  have s5 : w.heap.size ≤ w5.heap.size := Nat.le_trans s4 hb.size
  have HT5 := Lib.hid (HT4.out.next hb)
  have HB5 := Lib.hid (HB4.out.trans (hb.mono (B' := w.heap.size) s4))
  clear hb HT4 HB4
  go_wp2_with fail
  refine (part_bad nmB 3 2 _ (by decide) (.inr (.inl (by decide)))).mono ?_
  rintro e w6 ⟨rfl, hb⟩
  have s6 : w.heap.size ≤ w6.heap.size := Nat.le_trans s5 hb.size
  have HT6 := Lib.hid (HT5.out.next hb)
  have HB6 := Lib.hid (HB5.out.trans (hb.mono (B' := w.heap.size) s5))
  clear hb HT5 HB5
  go_wp2_with fail
  refine (part_bad nmB 0 5 _ (by decide) (.inr (.inr (by rw [nm_l]; decide)))).mono ?_
  rintro e w7 ⟨rfl, hb⟩
  have s7 : w.heap.size ≤ w7.heap.size := Nat.le_trans s6 hb.size
  have HT7 := Lib.hid (HT6.out.next hb)
  have HB7 := Lib.hid (HB6.out.trans (hb.mono (B' := w.heap.size) s6))
  clear hb HT6 HB6
  go_wp2_with fail
  refine (quote_any nmB _ (by decide) HT7.out).mono ?_
  unfold QuotePost
  rw [nm_q1]
  rintro e w8 ⟨rfl, hb⟩
  have s8 : w.heap.size ≤ w8.heap.size := Nat.le_trans s7 hb.size
  have HT8 := Lib.hid (HT7.out.next hb)
  have HB8 := Lib.hid (HB7.out.trans (hb.mono (B' := w.heap.size) s7))
  clear hb HT7 HB7
  go_wp2_with fail
  refine (quote_any ⟨#[97, 34, 98, 10]⟩ _ (by decide) HT8.out).mono ?_
  unfold QuotePost
  rw [nm_q2]
  rintro e w9 ⟨rfl, hb⟩
  have s9 : w.heap.size ≤ w9.heap.size := Nat.le_trans s8 hb.size
  have HT9 := Lib.hid (HT8.out.next hb)
  have HB9 := Lib.hid (HB8.out.trans (hb.mono (B' := w.heap.size) s8))
  clear hb HT8 HB8
  go_wp2_with fail
  refine (text_any ⟨w9.heap.size, 0, none⟩ 2 2 [55296, 98] _ rfl (cells_lit w9 [.int .i32 55296, .int .i32 98] _)).mono ?_
  rw [nm_t1]
  rintro e wa ⟨rfl, rfl⟩
  go_wp2_with fail
  refine (text_any ⟨w9.heap.size + 1, 0, none⟩ 1 1 [-1] _ rfl (cells_lit1 w9 _ [.int .i32 (-1)] _)).mono ?_
  rw [nm_t2]
  rintro e wa ⟨rfl, rfl⟩
  go_wp2_with fail
  obtain ⟨w10, hw10⟩ : ∃ w10, w10 = (w9.alloc (.cells #[.int .i32 55296, .int .i32 98] 21)).alloc (.cells #[.int .i32 (-1)] 21) := ⟨_, rfl⟩
  have hb : Below w9.heap.size w9 w10 := by rw [hw10]; exact ((Below.refl _ _).alloc (Nat.le_refl _) _).alloc (by simp) _
  rw [← hw10]
  clear hw10
  have s10 : w.heap.size ≤ w10.heap.size := Nat.le_trans s9 hb.size
  have HT10 := Lib.hid (HT9.out.next hb)
  have HB10 := Lib.hid (HB9.out.trans (hb.mono (B' := w.heap.size) s9))
  clear hb HT9 HB9
  refine (wrong_any ⟨#[34, 97, 92, 120, 52, 49, 34]⟩ 2 _ (by decide) HT10.out (by rw [plainT_eq]; exact nm_w1)).mono ?_
  rintro e w11 ⟨rfl, hb⟩
  have s11 : w.heap.size ≤ w11.heap.size := Nat.le_trans s10 hb.size
  have HT11 := Lib.hid (HT10.out.next hb)
  have HB11 := Lib.hid (HB10.out.trans (hb.mono (B' := w.heap.size) s10))
  clear hb HT10 HB10
  go_wp2_with fail
  refine (wrong_any ⟨#[34, 97]⟩ 2 _ (by decide) HT11.out (by rw [plainT_eq]; exact nm_w2)).mono ?_
  rintro e w12 ⟨rfl, hb⟩
  have s12 : w.heap.size ≤ w12.heap.size := Nat.le_trans s11 hb.size
  have HT12 := Lib.hid (HT11.out.next hb)
  have HB12 := Lib.hid (HB11.out.trans (hb.mono (B' := w.heap.size) s11))
  clear hb HT11 HB11
  go_wp2_with fail
  refine (wrong_any ⟨#[97]⟩ 0 _ (by decide) HT12.out (by rw [plainT_eq]; exact nm_w3)).mono ?_
  rintro e w13 ⟨rfl, hb⟩
  have s13 : w.heap.size ≤ w13.heap.size := Nat.le_trans s12 hb.size
  have HT13 := Lib.hid (HT12.out.next hb)
  have HB13 := Lib.hid (HB12.out.trans (hb.mono (B' := w.heap.size) s12))
  clear hb HT12 HB12
  go_wp2_with fail
  refine (wrong_any ⟨#[34, 92, 120, 99, 51, 92, 120, 97, 57, 34]⟩ 0 _ (by decide) HT13.out (by rw [plainT_eq]; exact nm_w4)).mono ?_
  rintro e w14 ⟨rfl, hb⟩
  have s14 : w.heap.size ≤ w14.heap.size := Nat.le_trans s13 hb.size
  have HT14 := Lib.hid (HT13.out.next hb)
  have HB14 := Lib.hid (HB13.out.trans (hb.mono (B' := w.heap.size) s13))
  clear hb HT13 HB13
  go_wp2_with fail
  refine (wrong_any ⟨#[34, 92, 117, 48, 101, 57, 59, 34]⟩ 1 _ (by decide) HT14.out (by rw [plainT_eq]; exact nm_w5)).mono ?_
  rintro e w15 ⟨rfl, hb⟩
  have s15 : w.heap.size ≤ w15.heap.size := Nat.le_trans s14 hb.size
  have HT15 := Lib.hid (HT14.out.next hb)
  have HB15 := Lib.hid (HB14.out.trans (hb.mono (B' := w.heap.size) s14))
  clear hb HT14 HB14
  go_wp2_with fail
  refine (less_any ⟨#[97]⟩ ⟨#[98]⟩ _ HT15.out.1).mono ?_
  rw [nm_less1]
  rintro e w16 ⟨rfl, hb⟩
  have s16 : w.heap.size ≤ w16.heap.size := Nat.le_trans s15 hb.size
  have HT16 := Lib.hid (HT15.out.next hb)
  have HB16 := Lib.hid (HB15.out.trans (hb.mono (B' := w.heap.size) s15))
  clear hb HT15 HB15
  go_wp2_with fail
  refine (less_any ⟨#[97]⟩ ⟨#[97, 98]⟩ _ HT16.out.1).mono ?_
  rw [nm_less2]
  rintro e w17 ⟨rfl, hb⟩
  have s17 : w.heap.size ≤ w17.heap.size := Nat.le_trans s16 hb.size
  have HT17 := Lib.hid (HT16.out.next hb)
  have HB17 := Lib.hid (HB16.out.trans (hb.mono (B' := w.heap.size) s16))
  clear hb HT16 HB16
  go_wp2_with fail
  refine (less_any ⟨#[244, 143, 191, 191]⟩ ⟨#[128]⟩ _ HT17.out.1).mono ?_
  rw [nm_less3]
  rintro e w18 ⟨rfl, hb⟩
  have s18 : w.heap.size ≤ w18.heap.size := Nat.le_trans s17 hb.size
  have HT18 := Lib.hid (HT17.out.next hb)
  have HB18 := Lib.hid (HB17.out.trans (hb.mono (B' := w.heap.size) s17))
  clear hb HT17 HB17
  go_wp2_with fail
  refine (less_any ⟨#[98]⟩ ⟨#[97]⟩ _ HT18.out.1).mono ?_
  rw [nm_less4]
  rintro e w19 ⟨rfl, hb⟩
  have s19 : w.heap.size ≤ w19.heap.size := Nat.le_trans s18 hb.size
  have HT19 := Lib.hid (HT18.out.next hb)
  have HB19 := Lib.hid (HB18.out.trans (hb.mono (B' := w.heap.size) s18))
  clear hb HT18 HB18
  go_wp2_with fail
  refine (alive_any _ HT19.out).mono ?_
  rintro e w20 ⟨rfl, hb⟩
  have s20 : w.heap.size ≤ w20.heap.size := Nat.le_trans s19 hb.size
  have HT20 := Lib.hid (HT19.out.next hb)
  have HB20 := Lib.hid (HB19.out.trans (hb.mono (B' := w.heap.size) s19))
  clear hb HT19 HB19
  go_wp2_with fail
  go_ret
  exact ⟨rfl, HB20.out⟩

theorem walk (w : World) (hL : laidMetH Tryd.prog Rows.runesNamesRow.laid w) :
    Calls Tryd.prog 3 #[] w fun e w' => e = .returned (.bool true) ∧ Below w.heap.size w w' :=
  walk0 w (tabs2_of hL (by simp [Rows.runesNamesRow]) (by simp [Rows.runesNamesRow]) (by simp [Rows.runesNamesRow]))

/-- WHAT THE WALK GIVES, FOR EVERY ARGUMENT AND EVERY WORLD THAT HOLDS THE LISTED TABLES. -/
theorem contract (H : Type) (enc : TypeId × Value → H) (W : World) (base : Nat) (args : Array Value) (ds gs : List (DataW H)) (before : List MemPlace)
    (hval : ∀ (j : Nat) t v, Tryd.f3.params[j]? = some t → args[j]? = some v → Value.okWide Tryd.prog W .any base t v)
    (hW : DataW.Whole enc Tryd.prog Tryd.f3.params.toList Rows.runesNamesSpec.vars false W args.toList ds gs before) (hL : laidMetH Tryd.prog Rows.runesNamesRow.laid W) :
    Calls Tryd.prog 3 args W fun e W' => ∃ v, e = .returned v ∧ Rows.runesNamesSpec.post enc Tryd.prog Tryd.f3 false true false false W args v W' := by
  have hW' := hW
  obtain ⟨p, q, hA0, hV, rfl, hfz, hnd⟩ := hW
  have hA : DataW.TrodAll enc Tryd.prog W 0 (fun _ => true) true Tryd.f3.params.toList args.toList ds p := hA0
  rw [Tryd.params3] at hA hval
  obtain ⟨hargs, rfl, rfl⟩ := trodAll_nil hA
  obtain rfl : args = #[] := by cases args; simp_all
  obtain ⟨rfl, rfl⟩ := trodVars_none hV
  clear hA0
  simp only [List.append_nil] at hW'
  refine (walk  W hL ).mono fun e W' ⟨he, hg⟩ => ?_
  subst he
  exact ⟨_, rfl, ⟨_, _, _, [], _, [], hW', (trodAll_cons_mk (shut_bool Tryd.underlying4 _) trodAll_mk0), trodAll_mk0, rfl, hg.frame _, fun h => by cases h⟩⟩

theorem laid_met (os : Os) : laidMet Tryd.prog Rows.runesNamesRow.laid ((laidWorld os).forCall (fun _ _ => 0) ⟨#[], #[], []⟩).memory :=
  laidMet_of_run' 8 (by kernel_rfl) (by kernel_rfl)
theorem reads (os : Os) {H : Type} (enc : TypeId × Value → H) : ∃ places, DataW.whole enc Tryd.prog ((laidWorld os).forCall (fun _ _ => 0) ⟨#[], #[], []⟩).memory Tryd.f3.params.toList Rows.runesNamesSpec.vars false (#[] : Array Value).toList 8 = some ([], [], places) :=
  ⟨[], by kernel_rfl⟩

set_option maxRecDepth 100000 in
/-- THE ROW's STEP. -/
theorem lifted (os : Os) (started : os.Started) (H : Type) (enc : TypeId × Value → H) (F : Stop.Interp) :
    ReturnsInHanded {} Tryd.checked os 3 .any ((OpenSpec.ofChange Rows.runesNamesSpec).preRow enc Tryd.prog Tryd.f3 Rows.runesNamesRow.domain false Rows.runesNamesRow.laid) (((OpenSpec.ofChange Rows.runesNamesSpec).at F).post enc Tryd.prog Tryd.f3 false true false false) := by
  obtain ⟨places, hx⟩ := reads os enc
  refine returnsInHanded_of_row (C := Tryd.checked) (s := OpenSpec.ofChange Rows.runesNamesSpec) own started (by kernel_rfl) Tryd.func3
    (witness_row_at (enc := enc) (C := Tryd.checked) false (laidWorld os) #[] rfl (by kernel_rfl) (by kernel_rfl) (by kernel_rfl)
      (OpenSpec.preRow_of_cond 8 hx (by kernel_rfl) (fun k hk => by cases hk) (by kernel_rfl) (laid_met os))) ?_
  intro W base args ds gs before hval hW _ _ _ hL _ _
  exact contract H enc W base args ds gs before hval hW hL

theorem said : Rows.RunesNamesSaid :=
  OpenClaim.holds_of_cond 3 Tryd.f3 rfl rfl rfl rfl rfl rfl rfl ⟨rfl, rfl, rfl, rfl, rfl⟩ rfl rfl rfl rfl rfl (by kernel_rfl) Tryd.func3 (by kernel_rfl)
    (of_decide_eq_true (by kernel_rfl)) (by unfold Func.isWrapper; first | (rw [if_pos (by decide +kernel)]; kernel_rfl) | (rw [if_neg (by decide +kernel)]; exact ⟨rfl, rfl⟩))
    (fun os started H enc _ F => by rw [OpenClaim.pre_eq_preRow]; exact lifted os started H enc F)

/-- No parameter wants a stand-in; the program's own looks are off: what the card asks. -/
theorem plain (f : FuncId) (fn : Func) (hf : Tryd.pinned.checked.prog.funcNamed "cognate/cognatelaw01.RunesNames" = some f) (hfn : Tryd.pinned.checked.prog.funcs[f]? = some fn) :
    false = Tryd.pinned.checked.prog.looks [] ∧ ∀ (j : Nat) t, fn.params[j]? = some t → Tryd.pinned.checked.prog.wantsStandIn t = false := by
  obtain rfl : f = 3 := Option.some.inj ((show Tryd.prog.funcNamed "cognate/cognatelaw01.RunesNames" = some 3 by kernel_rfl).symm.trans hf) |>.symm
  obtain rfl : fn = Tryd.f3 := (Option.some.inj (Tryd.func3.symm.trans hfn)).symm
  refine ⟨by kernel_rfl, fun j t ht => ?_⟩
  rw [Tryd.params3] at ht
  simp at ht

/-- ████ THE CARD ████ -/
theorem card : Rows.RunesNamesCardSaid :=
  Claim7.holds_tied_plain_at .later [] _ _ _ _ said (fun _ h => by cases h) (by kernel_rfl) (fun _ h => by cases h) runesNames_row_tie rfl ⟨rfl, rfl⟩ (by kernel_rfl) rfl plain (by kernel_rfl)

end Go.Proofs.YthkdfffankpekaaDoor.lawNames
