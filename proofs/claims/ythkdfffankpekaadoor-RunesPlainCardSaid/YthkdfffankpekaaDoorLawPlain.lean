/-
  RunesPlain: any text quoted is read as itself; a text that is read is just what is written. CONDITIONS: none but the tables that the card ties to the program's text.
-/
import Derived.Test.YthkdfffankpekaaDoorLaid2
import Derived.Test.YthkdfffankpekaaDoorPlainM
import Derived.Laws.StructEq
namespace Go.Proofs.YthkdfffankpekaaDoor.lawPlain
set_option linter.unusedVariables false
set_option linter.unusedSimpArgs false
open Go.ChangeShapes Go.WideShapes Go.ChangeAt Go.RowKit

theorem plain_is (s : ByteArray) (w : World) (v : Value) (hs : s.size ≤ 1048576) (hT : Tabs2 w) (hv : plainT s = v) : Calls Tryd.prog 28 #[.string s] w fun e w' => e = .returned v ∧ Below w.heap.size w w' := by
  rw [← hv]; exact plain_any s w hs hT
theorem quoteQ (s b : ByteArray) (w : World) (hs : s.size ≤ 65536) (hT : Tabs2 w) (hb : strOf (quoteL s) = b) : Calls Tryd.prog 14 #[.string s] w fun e w' => e = .returned (.tuple #[.string b, .int .i64 0]) ∧ Below w.heap.size w w' := by
  rw [← hb]; exact quote_any s w hs hT

set_option maxHeartbeats 4000000 in
set_option maxRecDepth 100000 in
theorem walk0 (s q : ByteArray) (w : World) (hT : Tabs2 w) :
    Calls Tryd.prog 8 #[.string s, .string q] w fun e w' => e = .returned (.bool true) ∧ Below w.heap.size w w' := by
  have HT := Lib.hid hT
  clear hT
  by_cases h1 : (5000 : Int) < s.size
  · go_enter Tryd.func8, Tryd.ntmps8
    go_wp2_with fail
    refine (alive_any _ HT.out).mono ?_
    rintro e w1 ⟨rfl, hb1⟩
    go_wp2_with fail
    go_ret
    exact ⟨rfl, hb1⟩
  by_cases h2 : (5000 : Int) < q.size
  · go_enter Tryd.func8, Tryd.ntmps8
    go_wp2_with fail
    refine (alive_any _ HT.out).mono ?_
    rintro e w1 ⟨rfl, hb1⟩
    go_wp2_with fail
    go_ret
    exact ⟨rfl, hb1⟩
  have hqs := quote_size s
  have hpq := plain_quote s (by omega)
  have hget := quote_get s
  obtain ⟨T, hTd⟩ : ∃ T, T = strOf (quoteL s) := ⟨_, rfl⟩
  rw [← hTd] at hqs hpq hget
  have HQ := Lib.hid (fun wx (h : Tabs2 wx) => quoteQ s T wx (by omega) h hTd.symm)
  have HP := Lib.hid (fun wx (h : Tabs2 wx) => plain_is T wx _ (by omega) h hpq)
  have HG := Lib.hid hget
  obtain ⟨N, hN1, hN2⟩ : ∃ N : Int, (T.size : Int) ≤ N ∧ N ≤ 60000 := ⟨T.size, by omega, by omega⟩
  have g1 : (s.size : Int) + 2 ≤ (T.size : Int) := by omega
  clear hqs hpq hget hTd
  go_enter Tryd.func8, Tryd.ntmps8
  go_wp2_with fail
  refine (alive_any _ HT.out).mono ?_
  rintro e w1 ⟨rfl, hb⟩
  have s1 := hb.size
  have HT1 := Lib.hid (HT.out.next hb); have HB1 := Lib.hid hb
  clear hb
  go_wp2_with fail
  refine (HQ.out _ HT1.out).mono ?_
  rintro e w2 ⟨rfl, hb⟩
  have s2 : w.heap.size ≤ w2.heap.size := Nat.le_trans s1 hb.size
  have HT2 := Lib.hid (HT1.out.next hb); have HB2 := Lib.hid (HB1.out.trans (hb.mono (B' := w.heap.size) s1))
  clear hb HT1 HB1
  go_wp2_with fail
  refine (HP.out _ HT2.out).mono ?_
  rintro e w3 ⟨rfl, hb⟩
  have s3 : w.heap.size ≤ w3.heap.size := Nat.le_trans s2 hb.size
  have HT3 := Lib.hid (HT2.out.next hb); have HB3 := Lib.hid (HB2.out.trans (hb.mono (B' := w.heap.size) s2))
  clear hb HT2 HB2
  go_wp2_with fail
  go_loopw [11] (fun iv wr => ∃ i : Nat, iv = .int .i64 (i : Nat) ∧ i ≤ T.size ∧ Below w.heap.size w wr) (fun iv _ => T.size - (RowKit.intOf iv).toNat)
  case atStart => exact ⟨0, rfl, by omega, HB3.out⟩
  case round =>
    obtain ⟨i, rfl, hiT, hb⟩ := hrel
    have sr := hb.size
    have HBr := Lib.hid hb; have HTr := Lib.hid (HT.out.next hb)
    clear hb
    by_cases h5 : i < T.size
    · have hx := get_run' T i h5 i rfl
      have hge := HG.out i h5
      obtain ⟨x, hxe⟩ : ∃ x, x = (T.get! i).toNat := ⟨_, rfl⟩
      rw [← hxe] at hx hge
      obtain ⟨hx1, hx2⟩ := hge
      clear hxe
      go_wp2_with fail
      first
        | exact ⟨⟨i + 1, by go_num, by omega, HBr.out⟩, by simp [RowKit.intOf]; omega⟩
        | (go_roundw
           case rel => exact ⟨i + 1, by go_num, by omega, HBr.out⟩
           case measure => simp [RowKit.intOf]; omega)
    · rcases plain_two q with ⟨v, hv, hvs, hvq⟩ | ⟨p, e, hv, hp1, hp2, he⟩
      · have HV := Lib.hid (fun wx (h : Tabs2 wx) => plain_is q wx _ (by omega) h hv)
        have HW := Lib.hid (fun wx (h : Tabs2 wx) => quoteQ v q wx hvs h hvq)
        clear hv hvs hvq
        go_wp2_with fail
        refine (HV.out _ HTr.out).mono ?_
        rintro e w4 ⟨rfl, hb⟩
        have s4 : w.heap.size ≤ w4.heap.size := Nat.le_trans sr hb.size
        have HT4 := Lib.hid (HTr.out.next hb); have HB4 := Lib.hid (HBr.out.trans (hb.mono (B' := w.heap.size) sr))
        clear hb HTr HBr
        go_wp2_with fail
        refine (HW.out _ HT4.out).mono ?_
        rintro e w5 ⟨rfl, hb⟩
        have HB5 := Lib.hid (HB4.out.trans (hb.mono (B' := w.heap.size) s4))
        clear hb HT4 HB4
        go_wp2_with fail
        go_ret
        exact ⟨rfl, HB5.out⟩
      · have HV := Lib.hid (fun wx (h : Tabs2 wx) => plain_is q wx _ (by omega) h hv)
        clear hv
        rcases he with rfl | rfl
        all_goals
          go_wp2_with fail
          refine (HV.out _ HTr.out).mono ?_
          rintro e w4 ⟨rfl, hb⟩
          have HB4 := Lib.hid (HBr.out.trans (hb.mono (B' := w.heap.size) sr))
          clear hb HTr HBr
          go_wp2_with fail
          go_ret
          exact ⟨rfl, HB4.out⟩

theorem walk (s q : ByteArray) (w : World) (hL : laidMetH Tryd.prog Rows.runesPlainRow.laid w) (_ : s.size ≤ maxLen) (_ : q.size ≤ maxLen) :
    Calls Tryd.prog 8 #[.string s, .string q] w fun e w' => e = .returned (.bool true) ∧ Below w.heap.size w w' :=
  walk0 s q w (tabs2_of hL (by simp [Rows.runesPlainRow]) (by simp [Rows.runesPlainRow]) (by simp [Rows.runesPlainRow]))

/-- WHAT THE WALK GIVES, FOR EVERY ARGUMENT AND EVERY WORLD THAT HOLDS THE LISTED TABLES. -/
theorem contract (H : Type) (enc : TypeId × Value → H) (W : World) (base : Nat) (args : Array Value) (ds gs : List (DataW H)) (before : List MemPlace)
    (hval : ∀ (j : Nat) t v, Tryd.f8.params[j]? = some t → args[j]? = some v → Value.okWide Tryd.prog W .any base t v)
    (hW : DataW.Whole enc Tryd.prog Tryd.f8.params.toList Rows.runesPlainSpec.vars false W args.toList ds gs before) (hL : laidMetH Tryd.prog Rows.runesPlainRow.laid W) :
    Calls Tryd.prog 8 args W fun e W' => ∃ v, e = .returned v ∧ Rows.runesPlainSpec.post enc Tryd.prog Tryd.f8 false true false false W args v W' := by
  have hW' := hW
  obtain ⟨p, q, hA0, hV, rfl, hfz, hnd⟩ := hW
  have hA : DataW.TrodAll enc Tryd.prog W 0 (fun _ => true) true Tryd.f8.params.toList args.toList ds p := hA0
  rw [Tryd.params8] at hA hval
  obtain ⟨v0, vs0, d0, ds0, p0, q0, hargs, rfl, rfl, h0, r0⟩ := trodAll_cons hA
  obtain ⟨v1, vs1, d1, ds1, p1, q1, rfl, rfl, rfl, h1, r1⟩ := trodAll_cons r0
  obtain ⟨rfl, rfl, rfl⟩ := trodAll_nil r1
  obtain rfl : args = #[v0, v1] := by cases args; simp_all
  obtain ⟨rfl, rfl⟩ := trodVars_none hV
  obtain ⟨a0, rfl, rfl, rfl, w0⟩ := Go.ChangeMaps.open_string Tryd.underlying9 (hval 0 9 v0 rfl rfl) h0
  obtain ⟨a1, rfl, rfl, rfl, w1⟩ := Go.ChangeMaps.open_string Tryd.underlying9 (hval 1 9 v1 rfl rfl) h1
  clear hA0
  simp only [List.append_nil] at hW'
  refine (walk a0 a1 W hL w0 w1).mono fun e W' ⟨he, hg⟩ => ?_
  subst he
  exact ⟨_, rfl, ⟨_, _, _, [], _, [], hW', (trodAll_cons_mk (shut_bool Tryd.underlying4 _) trodAll_mk0), (trodAll_cons_mk (Go.ChangeMaps.shut_string Tryd.underlying9 w0) (trodAll_cons_mk (Go.ChangeMaps.shut_string Tryd.underlying9 w1) trodAll_mk0)), rfl, hg.frame _, fun h => by cases h⟩⟩

theorem laid_met (os : Os) : laidMet Tryd.prog Rows.runesPlainRow.laid ((laidWorld os).forCall (fun _ _ => 0) ⟨#[], #[.string ByteArray.empty, .string ByteArray.empty], []⟩).memory :=
  laidMet_of_run' 8 (by kernel_rfl) (by kernel_rfl)
theorem reads (os : Os) {H : Type} (enc : TypeId × Value → H) : ∃ places, DataW.whole enc Tryd.prog ((laidWorld os).forCall (fun _ _ => 0) ⟨#[], #[.string ByteArray.empty, .string ByteArray.empty], []⟩).memory Tryd.f8.params.toList Rows.runesPlainSpec.vars false (#[.string ByteArray.empty, .string ByteArray.empty] : Array Value).toList 8 = some ([.lit (.string []), .lit (.string [])], [], places) :=
  ⟨[], by kernel_rfl⟩

set_option maxRecDepth 100000 in
/-- THE ROW's STEP. -/
theorem lifted (os : Os) (started : os.Started) (H : Type) (enc : TypeId × Value → H) (F : Stop.Interp) :
    ReturnsInHanded {} Tryd.checked os 8 .any ((OpenSpec.ofChange Rows.runesPlainSpec).preRow enc Tryd.prog Tryd.f8 Rows.runesPlainRow.domain false Rows.runesPlainRow.laid) (((OpenSpec.ofChange Rows.runesPlainSpec).at F).post enc Tryd.prog Tryd.f8 false true false false) := by
  obtain ⟨places, hx⟩ := reads os enc
  refine returnsInHanded_of_row (C := Tryd.checked) (s := OpenSpec.ofChange Rows.runesPlainSpec) own started (by kernel_rfl) Tryd.func8
    (witness_row_at (enc := enc) (C := Tryd.checked) false (laidWorld os) #[.string ByteArray.empty, .string ByteArray.empty] rfl (by kernel_rfl) (by kernel_rfl) (by kernel_rfl)
      (OpenSpec.preRow_of_cond 8 hx (by kernel_rfl) (fun k hk => by cases hk) (by kernel_rfl) (laid_met os))) ?_
  intro W base args ds gs before hval hW _ _ _ hL _ _
  exact contract H enc W base args ds gs before hval hW hL

theorem said : Rows.RunesPlainSaid :=
  OpenClaim.holds_of_cond 8 Tryd.f8 rfl rfl rfl rfl rfl rfl rfl ⟨rfl, rfl, rfl, rfl, rfl⟩ rfl rfl rfl rfl rfl (by kernel_rfl) Tryd.func8 (by kernel_rfl)
    (of_decide_eq_true (by kernel_rfl)) (by unfold Func.isWrapper; first | (rw [if_pos (by decide +kernel)]; kernel_rfl) | (rw [if_neg (by decide +kernel)]; exact ⟨rfl, rfl⟩))
    (fun os started H enc _ F => by rw [OpenClaim.pre_eq_preRow]; exact lifted os started H enc F)

/-- No parameter wants a stand-in; the program's own looks are off: what the card asks. -/
theorem plain (f : FuncId) (fn : Func) (hf : Tryd.pinned.checked.prog.funcNamed "cognate/cognatelaw01.RunesPlain" = some f) (hfn : Tryd.pinned.checked.prog.funcs[f]? = some fn) :
    false = Tryd.pinned.checked.prog.looks [] ∧ ∀ (j : Nat) t, fn.params[j]? = some t → Tryd.pinned.checked.prog.wantsStandIn t = false := by
  obtain rfl : f = 8 := Option.some.inj ((show Tryd.prog.funcNamed "cognate/cognatelaw01.RunesPlain" = some 8 by kernel_rfl).symm.trans hf) |>.symm
  obtain rfl : fn = Tryd.f8 := (Option.some.inj (Tryd.func8.symm.trans hfn)).symm
  refine ⟨by kernel_rfl, fun j t ht => ?_⟩
  rw [Tryd.params8] at ht
  have hm := Array.mem_of_getElem? ht
  have e : t = 9 := by simpa using hm
  obtain rfl : t = 9 := e
  exact (show Tryd.prog.wantsStandIn 9 = false by kernel_rfl)

/-- ████ THE CARD ████ -/
theorem card : Rows.RunesPlainCardSaid :=
  Claim7.holds_tied_plain_at .later [] _ _ _ _ said (fun _ h => by cases h) (by kernel_rfl) (fun _ h => by cases h) runesPlain_row_tie rfl ⟨rfl, rfl⟩ (by kernel_rfl) rfl plain (by kernel_rfl)

end Go.Proofs.YthkdfffankpekaaDoor.lawPlain
