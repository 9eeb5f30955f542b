/-
  WALK: runes.Text.
-/
import Derived.Test.YtmbekgfbnapelaaDoorStartsP
import Derived.Test.YtmbekgfbnapelaaDoorBytes
import Derived.Laws.IdiomStrings
import Derived.Laws.BytesArg
namespace Go.Proofs.YtmbekgfbnapelaaDoor
open Go.RowKit Go.Lib
set_option linter.unusedVariables false

/-! ### plain -/
def runesL (s : ByteArray) : List Int := (starts s).map fun p => (dR s p : Int)
def backL (s : ByteArray) : List UInt8 := textL (runesL s)
theorem runesFrom_starts (s : ByteArray) : ∀ f p (acc : Array Value), Conv.runesFrom s f p acc = acc ++ ((startsF s f p).map fun p => Value.int .i32 (dR s p)).toArray
  | 0, _, acc => by simp [Conv.runesFrom, startsF]
  | f + 1, p, acc => by
    unfold Conv.runesFrom startsF
    split
    · have ih := runesFrom_starts s f (p + dW s p) (acc.push (.int .i32 (dR s p)))
      show Conv.runesFrom s f (p + (Utf8.decode s p).2) (acc.push (.int .i32 (Int.ofNat (Utf8.decode s p).1))) = _
      refine Eq.trans ih ?_
      apply Array.ext'
      simp
    · simp
theorem runesFrom_all (s : ByteArray) : Conv.runesFrom s s.size 0 #[] = ((runesL s).map (Value.int .i32)).toArray := by
  rw [runesFrom_starts]
  unfold runesL starts
  simp
theorem runesL_length (s : ByteArray) : (runesL s).length = (starts s).length := by simp [runesL]
theorem foldl_runes : ∀ (ns : List Int) (b : ByteArray), ns.foldl (fun r n => r ++ Utf8.encode n) b = ⟨b.data ++ (textL ns).toArray⟩
  | [], b => by simp [textL]
  | n :: ns, b => by
    rw [List.foldl_cons, foldl_runes ns]
    congr 1
    apply Array.ext'
    simp [textL, encL]
theorem runesBytes_text (ns : List Int) : runesBytes ns = strOf (textL ns) := by
  unfold runesBytes strOf
  rw [foldl_runes]
  congr 1
  apply Array.ext'
  simp [ByteArray.empty, ByteArray.emptyWithCapacity]
  rfl
theorem textL_length (ns : List Int) : (textL ns).length ≤ 4 * ns.length := by
  induction ns with
  | nil => simp [textL]
  | cons n ns ih =>
    have := (encL_length n).2
    simp only [textL, List.flatMap_cons, List.length_append, List.length_cons] at ih ⊢
    omega
theorem textL_snoc (ns : List Int) (n : Int) : textL ns ++ encL n = textL (ns ++ [n]) := by simp [textL]
theorem byteCells_at (l : List UInt8) (j : Nat) (hj : j < l.length) : (byteCells l)[j]? = some (.int .u8 (l[j].toNat : Int)) := by simp [byteCells, hj]

section
variable {w : World}
/-- 'string(b)' of a slice of bytes that the call owns. -/
theorem conv_own {B n : Nat} {v : Value} {l : List UInt8} (h : w.ownsRow B 5 1 v n (byteCells l)) (hn : n = l.length) : (convert 60 9 v).run Tryd.prog w = .ok (.string (strOf l)) w := by
  subst hn
  rcases h.2 with ⟨rfl, h0⟩ | ⟨g, cap, cur, rfl, hb, hg, hnc, hm, hsz, htk⟩
  · have : l = [] := List.eq_nil_of_length_eq_zero h0
    subst this
    exact run_convert_bytes_nil w 60 5 Tryd.underlying60 Tryd.underlying5 0 0 9 Tryd.underlying9
  · refine run_convert_bytes_back w 60 9 5 ⟨g, 0, none⟩ cap l Tryd.underlying60 Tryd.underlying5 Tryd.underlying9 ?_
    intro j hj
    rw [Addr.add_lit, Nat.zero_add, h.cellAt j (by omega), byteCells_at l j hj]
end

/-! ### the program's Text, Back -/
theorem conv_runes (w : World) (a : Addr) (n c : Nat) (ns : List Int) (hn : ns.length = n) (hc : ∀ j v, (ns.map (Value.int .i32))[j]? = some v → w.cell? (a.add j) = some v) :
    (convert 22 9 (.slice (some a) n c)).run Tryd.prog w = .ok (.string (strOf (textL ns))) w := by
  rw [run_convert_runes_string w 22 9 21 (some a) n c Tryd.underlying22 Tryd.underlying21 Tryd.underlying9, ← runesBytes_text]
  have hl := run_loadCells_list (P := Tryd.prog) w a (ns.map (Value.int .i32)) hc
  rw [List.length_map, hn] at hl
  exact run_runesToString w a n c ns hl
theorem conv_runes_nil (w : World) (n c : Nat) : (convert 22 9 (.slice none n c)).run Tryd.prog w = .ok (.string (strOf (textL []))) w := by
  rw [run_convert_runes_string w 22 9 21 none n c Tryd.underlying22 Tryd.underlying21 Tryd.underlying9]
  simp [Conv.runesToString, Sem.run_pure]
  rfl

set_option maxHeartbeats 400000 in
theorem text_any (a : Addr) (n c : Nat) (ns : List Int) (w : World) (hn : ns.length = n) (hc : ∀ j v, (ns.map (Value.int .i32))[j]? = some v → w.cell? (a.add j) = some v) :
    Calls Tryd.prog 11 #[.slice (some a) n c] w fun e w' => e = .returned (.string (strOf (textL ns))) ∧ w = w' := by
  have hcv := conv_runes w a n c ns hn hc
  clear hc hn
  go_enter Tryd.func11, Tryd.ntmps11
  go_wp2
  go_ret
  exact ⟨rfl, rfl⟩
set_option maxHeartbeats 400000 in
theorem text_nil (n c : Nat) (w : World) :
    Calls Tryd.prog 11 #[.slice none n c] w fun e w' => e = .returned (.string (strOf (textL []))) ∧ w = w' := by
  have hcv := conv_runes_nil w n c
  go_enter Tryd.func11, Tryd.ntmps11
  go_wp2
  go_ret
  exact ⟨rfl, rfl⟩

end Go.Proofs.YtmbekgfbnapelaaDoor
