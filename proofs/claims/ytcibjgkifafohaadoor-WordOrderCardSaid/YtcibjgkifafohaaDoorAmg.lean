/-
  WALKS: cognatelaw03.among.
-/
import Derived.Test.YtcibjgkifafohaaDoorCmQ
namespace Go.Proofs.YtcibjgkifafohaaDoor
open Go.RowKit Go.Lib
set_option linter.unusedVariables false

theorem toL_inj {a b : ByteArray} (h : a.toList = b.toList) : a = b := by
  rw [Lib.toList_data, Lib.toList_data] at h
  cases a; cases b
  congr 1
  exact Array.toList_inj.1 h
/-- Whether a text is among texts. -/
noncomputable def amg (s : ByteArray) (l : List ByteArray) : Bool := @decide (s ∈ l) (Classical.propDecidable _)
theorem amg_iff (s : ByteArray) (l : List ByteArray) : amg s l = true ↔ s ∈ l := by unfold amg; exact @decide_eq_true_iff _ (Classical.propDecidable _)
theorem mem_yes {l : List ByteArray} {s : ByteArray} {k : Nat} (h1 : k < l.length) (h : l.getD k ByteArray.empty = s) : amg s (l.drop k) = true := by
  rw [getS_at h1] at h
  have e1 : l.drop k = l[k] :: l.drop (k + 1) := List.drop_eq_getElem_cons h1
  rw [e1, h, amg_iff]
  exact List.mem_cons_self
theorem mem_no {l : List ByteArray} {s : ByteArray} {k : Nat} (h1 : k < l.length) (h : ¬ l.getD k ByteArray.empty = s) : amg s (l.drop k) = amg s (l.drop (k + 1)) := by
  rw [getS_at h1] at h
  have e1 : l.drop k = l[k] :: l.drop (k + 1) := List.drop_eq_getElem_cons h1
  rw [e1]
  apply Bool.eq_iff_iff.2
  rw [amg_iff, amg_iff, List.mem_cons]
  exact ⟨fun x => x.resolve_left fun e => h e.symm, Or.inr⟩

set_option maxHeartbeats 2000000 in
set_option maxRecDepth 100000 in
theorem among_any (pr : Option Addr) (br r0 cr : Nat) (l : List ByteArray) (s : ByteArray) (w : World) (hR : SsIn pr br r0 l w) :
    Calls Tryd.prog 36 #[.slice pr l.length cr, .string s] w fun e w' => e = .returned (.bool (amg s l)) ∧ QB w w' := by
  have hb1 := hR.big
  obtain ⟨X, hX⟩ : ∃ X, X = amg s l := ⟨_, rfl⟩
  have hX0 : X = amg s (l.drop 0) := hX
  rw [← hX]
  obtain ⟨n, hn⟩ : ∃ n, n = l.length := ⟨_, rfl⟩
  rw [← hn] at hb1 ⊢
  have HR := Lib.hid hR; have HN := Lib.hid hn; have HX := Lib.hid hX0
  clear hR hn hX hX0
  go_enter Tryd.func36, Tryd.ntmps36
  go_wp2_with fail
  go_loopw [5] (fun iv wr => ∃ k : Nat, iv = .int .i64 k ∧ k ≤ n ∧ Hid (X = amg s (l.drop k)) ∧ Hid (QB w wr)) (fun iv _ => n - (intOf iv).toNat)
  case atStart => exact ⟨0, rfl, Nat.zero_le _, HX, QB.refl _⟩
  case round =>
    obtain ⟨k, rfl, hk, HK, HB⟩ := hrel
    by_cases hkn : k < n
    · have hkl : k < l.length := by rw [← HN.out]; exact hkn
      obtain rfl := HR.out.at_ (by omega)
      have a0 := (HR.out.next HB.out.below).cells k hkl
      have hy := mem_yes (s := s) hkl
      have hno := mem_no (s := s) hkl
      obtain ⟨q, hq⟩ : ∃ q, q = l.getD k ByteArray.empty := ⟨_, rfl⟩
      rw [← hq] at a0 hy hno
      by_cases hqs : q = s
      · have hxt : X = true := by rw [HK.out]; exact hy hqs
        subst hqs
        clear hy hno hq hkl HK HX
        subst hxt
        go_wp2_with fail
        go_ret
        exact ⟨rfl, HB.out⟩
      · have HNo := Lib.hid (hno hqs)
        have e1 : (q.toList == s.toList) = false := by rw [beq_eq_false_iff_ne]; exact fun e => hqs (toL_inj e)
        clear hy hno hq hkl
        go_wp2_with fail
        go_roundw
        case rel => exact ⟨k + 1, by go_num, by omega, by show _ = _; rw [HK.out]; exact HNo.out, HB⟩
        case measure => simp [intOf]; omega
    · have hxf : X = false := by rw [HK.out, List.drop_eq_nil_of_le (by rw [← HN.out]; omega)]; apply Bool.eq_false_iff.2; rw [Ne, amg_iff]; exact List.not_mem_nil
      clear HK HX
      subst hxf
      go_wp2_with fail
      go_ret
      exact ⟨rfl, HB.out⟩
end Go.Proofs.YtcibjgkifafohaaDoor
