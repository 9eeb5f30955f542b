/-
  RunesRows: of three texts: 'Less' is a strict order. CONDITIONS: none but the tables that the card ties to the program's text.
-/
import Derived.Test.YthkdfffankpekaaDoorLaid2
import Derived.Laws.StructEq
namespace Go.Proofs.YthkdfffankpekaaDoor.lawRows
set_option linter.unusedVariables false
set_option linter.unusedSimpArgs false
open Go.ChangeShapes Go.WideShapes Go.ChangeAt Go.RowKit

set_option maxHeartbeats 4000000 in
theorem walk0 (a b c : ByteArray) (w : World) (hT : Tabs2 w) :
    Calls Tryd.prog 9 #[.string a, .string b, .string c] w fun e w' => e = .returned (.bool true) ∧ Below w.heap.size w w' := by
  have HT := Lib.hid hT
  clear hT
  by_cases h1 : (5000 : Int) < a.size
  · go_enter Tryd.func9, Tryd.ntmps9
    go_wp2_with fail
    refine (alive_any _ HT.out).mono ?_
    rintro e w1 ⟨rfl, hb1⟩
    go_wp2_with fail
    go_ret
    exact ⟨rfl, hb1⟩
  by_cases h2 : (5000 : Int) < b.size
  · go_enter Tryd.func9, Tryd.ntmps9
    go_wp2_with fail
    refine (alive_any _ HT.out).mono ?_
    rintro e w1 ⟨rfl, hb1⟩
    go_wp2_with fail
    go_ret
    exact ⟨rfl, hb1⟩
  by_cases h3 : (5000 : Int) < c.size
  · go_enter Tryd.func9, Tryd.ntmps9
    go_wp2_with fail
    refine (alive_any _ HT.out).mono ?_
    rintro e w1 ⟨rfl, hb1⟩
    go_wp2_with fail
    go_ret
    exact ⟨rfl, hb1⟩
  have hirr := Lib.hid (less_irr a)
  obtain ⟨x, hx⟩ : ∃ x, less a b = x := ⟨_, rfl⟩
  obtain ⟨y, hy⟩ : ∃ y, less b c = y := ⟨_, rfl⟩
  obtain ⟨z, hz⟩ : ∃ z, less a c = z := ⟨_, rfl⟩
  obtain ⟨k, hk⟩ : ∃ k, less b a = k := ⟨_, rfl⟩
  have t1 : x = true → k = true → False := fun h h' => by rw [← hx] at h; rw [← hk, less_asym a b h] at h'; cases h'
  have t2 : (a.toList == b.toList) = !(x || k) := by
    by_cases hab : a = b
    · subst hab
      rw [less_irr a] at hx hk
      subst hx; subst hk; simp
    · have hl : (a.toList == b.toList) = false := by
        rw [beq_eq_false_iff_ne]
        intro h
        apply hab
        rw [ByteArray.toList_eq, ByteArray.toList_eq] at h
        exact ByteArray.ext (Array.toList_inj.1 h)
      rw [hl]
      cases hx' : x with
      | true => simp
      | false => cases hk' : k with
        | true => simp
        | false => exact absurd (less_tri a b (by rw [hx]; exact hx') (by rw [hk]; exact hk')) hab
  have t3 : x = true → y = true → z = false → False := fun h h' h'' => by rw [← hx] at h; rw [← hy] at h'; rw [← hz, less_trans a b c h h'] at h''; cases h''
  have HX := Lib.hid hx; have HY := Lib.hid hy; have HZ := Lib.hid hz; have HK := Lib.hid hk
  clear hx hy hz hk
  cases x <;> cases y <;> cases z <;> cases k <;> first | exact (t1 rfl rfl).elim | exact (t3 rfl rfl rfl).elim | skip
  all_goals
    clear t1 t3
    simp only [Bool.or_self, Bool.or_true, Bool.or_false, Bool.true_or, Bool.false_or, Bool.not_true, Bool.not_false] at t2
    go_enter Tryd.func9, Tryd.ntmps9
    go_wp2_with fail
    refine (less_any a b _ HT.out.1).mono ?_
    rw [HX.out]
    rintro e w1 ⟨rfl, hb1⟩
    have n1 := HT.out.next hb1
    have s1 := hb1.size
    have HB1 := Lib.hid hb1; have HT1 := Lib.hid n1
    clear hb1 n1
    go_wp2_with fail
    refine (less_any b c _ HT1.out.1).mono ?_
    rw [HY.out]
    rintro e w2 ⟨rfl, hb2⟩
    have n2 := HT1.out.next hb2
    have s2 := hb2.size
    have HB2 := Lib.hid (HB1.out.trans (hb2.mono (B' := w.heap.size) s1)); have HT2 := Lib.hid n2
    clear hb2 n2 HB1 HT1
    go_wp2_with fail
    refine (less_any a c _ HT2.out.1).mono ?_
    rw [HZ.out]
    rintro e w3 ⟨rfl, hb3⟩
    have n3 := HT2.out.next hb3
    have s3 := hb3.size
    have HB3 := Lib.hid (HB2.out.trans (hb3.mono (B' := w.heap.size) (by omega))); have HT3 := Lib.hid n3
    clear hb3 n3 HB2 HT2
    go_wp2_with fail
    refine (less_any b a _ HT3.out.1).mono ?_
    rw [HK.out]
    rintro e w4 ⟨rfl, hb4⟩
    have n4 := HT3.out.next hb4
    have s4 := hb4.size
    have HB4 := Lib.hid (HB3.out.trans (hb4.mono (B' := w.heap.size) (by omega))); have HT4 := Lib.hid n4
    clear hb4 n4 HB3 HT3
    go_wp2_with fail
    refine (alive_any _ HT4.out).mono ?_
    rintro e w5 ⟨rfl, hb5⟩
    have n5 := HT4.out.next hb5
    have s5 := hb5.size
    have HB5 := Lib.hid (HB4.out.trans (hb5.mono (B' := w.heap.size) (by omega))); have HT5 := Lib.hid n5
    clear hb5 n5 HB4 HT4
    go_wp2_with fail
    refine (less_any a a _ HT5.out.1).mono ?_
    rw [hirr.out]
    rintro e w6 ⟨rfl, hb6⟩
    have HB6 := Lib.hid (HB5.out.trans (hb6.mono (B' := w.heap.size) (by omega)))
    clear hb6 HB5 HT5
    go_wp2_with fail
    go_ret
    exact ⟨rfl, HB6.out⟩

theorem walk (a b c : ByteArray) (w : World) (hL : laidMetH Tryd.prog Rows.runesRowsRow.laid w) (ha : a.size ≤ maxLen) (hb : b.size ≤ maxLen) (hc : c.size ≤ maxLen) :
    Calls Tryd.prog 9 #[.string a, .string b, .string c] w fun e w' => e = .returned (.bool true) ∧ Below w.heap.size w w' :=
  walk0 a b c w (tabs2_of hL (by simp [Rows.runesRowsRow]) (by simp [Rows.runesRowsRow]) (by simp [Rows.runesRowsRow]))

/-- WHAT THE WALK GIVES, FOR EVERY ARGUMENT AND EVERY WORLD THAT HOLDS THE LISTED TABLES. -/
theorem contract (H : Type) (enc : TypeId × Value → H) (W : World) (base : Nat) (args : Array Value) (ds gs : List (DataW H)) (before : List MemPlace)
    (hval : ∀ (j : Nat) t v, Tryd.f9.params[j]? = some t → args[j]? = some v → Value.okWide Tryd.prog W .any base t v)
    (hW : DataW.Whole enc Tryd.prog Tryd.f9.params.toList Rows.runesRowsSpec.vars false W args.toList ds gs before) (hL : laidMetH Tryd.prog Rows.runesRowsRow.laid W) :
    Calls Tryd.prog 9 args W fun e W' => ∃ v, e = .returned v ∧ Rows.runesRowsSpec.post enc Tryd.prog Tryd.f9 false true false false W args v W' := by
  have hW' := hW
  obtain ⟨p, q, hA0, hV, rfl, hfz, hnd⟩ := hW
  have hA : DataW.TrodAll enc Tryd.prog W 0 (fun _ => true) true Tryd.f9.params.toList args.toList ds p := hA0
  rw [Tryd.params9] at hA hval
  obtain ⟨v0, vs0, d0, ds0, p0, q0, hargs, rfl, rfl, h0, r0⟩ := trodAll_cons hA
  obtain ⟨v1, vs1, d1, ds1, p1, q1, rfl, rfl, rfl, h1, r1⟩ := trodAll_cons r0
  obtain ⟨v2, vs2, d2, ds2, p2, q2, rfl, rfl, rfl, h2, r2⟩ := trodAll_cons r1
  obtain ⟨rfl, rfl, rfl⟩ := trodAll_nil r2
  obtain rfl : args = #[v0, v1, v2] := by cases args; simp_all
  obtain ⟨rfl, rfl⟩ := trodVars_none hV
  obtain ⟨a0, rfl, rfl, rfl, w0⟩ := Go.ChangeMaps.open_string Tryd.underlying9 (hval 0 9 v0 rfl rfl) h0
  obtain ⟨a1, rfl, rfl, rfl, w1⟩ := Go.ChangeMaps.open_string Tryd.underlying9 (hval 1 9 v1 rfl rfl) h1
  obtain ⟨a2, rfl, rfl, rfl, w2⟩ := Go.ChangeMaps.open_string Tryd.underlying9 (hval 2 9 v2 rfl rfl) h2
  clear hA0
  simp only [List.append_nil] at hW'
  refine (walk a0 a1 a2 W hL w0 w1 w2).mono fun e W' ⟨he, hg⟩ => ?_
  subst he
  exact ⟨_, rfl, ⟨_, _, _, [], _, [], hW', (trodAll_cons_mk (shut_bool Tryd.underlying4 _) trodAll_mk0), (trodAll_cons_mk (Go.ChangeMaps.shut_string Tryd.underlying9 w0) (trodAll_cons_mk (Go.ChangeMaps.shut_string Tryd.underlying9 w1) (trodAll_cons_mk (Go.ChangeMaps.shut_string Tryd.underlying9 w2) trodAll_mk0))), rfl, hg.frame _, fun h => by cases h⟩⟩

theorem laid_met (os : Os) : laidMet Tryd.prog Rows.runesRowsRow.laid ((laidWorld os).forCall (fun _ _ => 0) ⟨#[], #[.string ByteArray.empty, .string ByteArray.empty, .string ByteArray.empty], []⟩).memory :=
  laidMet_of_run' 8 (by kernel_rfl) (by kernel_rfl)
theorem reads (os : Os) {H : Type} (enc : TypeId × Value → H) : ∃ places, DataW.whole enc Tryd.prog ((laidWorld os).forCall (fun _ _ => 0) ⟨#[], #[.string ByteArray.empty, .string ByteArray.empty, .string ByteArray.empty], []⟩).memory Tryd.f9.params.toList Rows.runesRowsSpec.vars false (#[.string ByteArray.empty, .string ByteArray.empty, .string ByteArray.empty] : Array Value).toList 8 = some ([.lit (.string []), .lit (.string []), .lit (.string [])], [], places) :=
  ⟨[], by kernel_rfl⟩

set_option maxRecDepth 100000 in
/-- THE ROW's STEP. -/
theorem lifted (os : Os) (started : os.Started) (H : Type) (enc : TypeId × Value → H) (F : Stop.Interp) :
    ReturnsInHanded {} Tryd.checked os 9 .any ((OpenSpec.ofChange Rows.runesRowsSpec).preRow enc Tryd.prog Tryd.f9 Rows.runesRowsRow.domain false Rows.runesRowsRow.laid) (((OpenSpec.ofChange Rows.runesRowsSpec).at F).post enc Tryd.prog Tryd.f9 false true false false) := by
  obtain ⟨places, hx⟩ := reads os enc
  refine returnsInHanded_of_row (C := Tryd.checked) (s := OpenSpec.ofChange Rows.runesRowsSpec) own started (by kernel_rfl) Tryd.func9
    (witness_row_at (enc := enc) (C := Tryd.checked) false (laidWorld os) #[.string ByteArray.empty, .string ByteArray.empty, .string ByteArray.empty] rfl (by kernel_rfl) (by kernel_rfl) (by kernel_rfl)
      (OpenSpec.preRow_of_cond 8 hx (by kernel_rfl) (fun k hk => by cases hk) (by kernel_rfl) (laid_met os))) ?_
  intro W base args ds gs before hval hW _ _ _ hL _ _
  exact contract H enc W base args ds gs before hval hW hL

theorem said : Rows.RunesRowsSaid :=
  OpenClaim.holds_of_cond 9 Tryd.f9 rfl rfl rfl rfl rfl rfl rfl ⟨rfl, rfl, rfl, rfl, rfl⟩ rfl rfl rfl rfl rfl (by kernel_rfl) Tryd.func9 (by kernel_rfl)
    (of_decide_eq_true (by kernel_rfl)) (by unfold Func.isWrapper; first | (rw [if_pos (by decide +kernel)]; kernel_rfl) | (rw [if_neg (by decide +kernel)]; exact ⟨rfl, rfl⟩))
    (fun os started H enc _ F => by rw [OpenClaim.pre_eq_preRow]; exact lifted os started H enc F)

/-- No parameter wants a stand-in; the program's own looks are off: what the card asks. -/
theorem plain (f : FuncId) (fn : Func) (hf : Tryd.pinned.checked.prog.funcNamed "cognate/cognatelaw01.RunesRows" = some f) (hfn : Tryd.pinned.checked.prog.funcs[f]? = some fn) :
    false = Tryd.pinned.checked.prog.looks [] ∧ ∀ (j : Nat) t, fn.params[j]? = some t → Tryd.pinned.checked.prog.wantsStandIn t = false := by
  obtain rfl : f = 9 := Option.some.inj ((show Tryd.prog.funcNamed "cognate/cognatelaw01.RunesRows" = some 9 by kernel_rfl).symm.trans hf) |>.symm
  obtain rfl : fn = Tryd.f9 := (Option.some.inj (Tryd.func9.symm.trans hfn)).symm
  refine ⟨by kernel_rfl, fun j t ht => ?_⟩
  rw [Tryd.params9] at ht
  have hm := Array.mem_of_getElem? ht
  have e : t = 9 := by simpa using hm
  obtain rfl : t = 9 := e
  exact (show Tryd.prog.wantsStandIn 9 = false by kernel_rfl)

/-- ████ THE CARD ████ -/
theorem card : Rows.RunesRowsCardSaid :=
  Claim7.holds_tied_plain_at .later [] _ _ _ _ said (fun _ h => by cases h) (by kernel_rfl) (fun _ h => by cases h) runesRows_row_tie rfl ⟨rfl, rfl⟩ (by kernel_rfl) rfl plain (by kernel_rfl)

end Go.Proofs.YthkdfffankpekaaDoor.lawRows
