/-
  WALKS OF THE DOCUMENT's ANSWER: cognateref01.All: the pieces of any text, in new memory.
-/
import Derived.Test.YtmbekgfbnapelaaDoorAt2
import Derived.Laws.OwnMore
namespace Go.Proofs.YtmbekgfbnapelaaDoor
open Go.RowKit Go.Lib
set_option linter.unusedVariables false

/-- A piece's four cells. -/
def pieceC (s : ByteArray) (p : Nat) : List Value := [.int .i32 (dR s p), .int .i64 p, .int .i64 (dW s p), .bool (brk s p)]
def pieceCs (s : ByteArray) (l : List Nat) : List Value := l.flatMap (pieceC s)
theorem pieceCs_snoc (s : ByteArray) (l : List Nat) (p : Nat) : pieceCs s l ++ pieceC s p = pieceCs s (l ++ [p]) := by simp [pieceCs]
theorem pieceCs_length (s : ByteArray) (l : List Nat) : (pieceCs s l).length = 4 * l.length := by
  induction l with
  | nil => rfl
  | cons a l ih => simp only [pieceCs, List.flatMap_cons, List.length_append] at ih ⊢; rw [ih]; simp [pieceC]; omega

theorem own_below {w w' : World} {B e size n : Nat} {v : Value} {xs : List Value} (h : w.ownsRow B e size v n xs) (hb : Below w.heap.size w w') : w'.ownsRow B e size v n xs :=
  h.kept (row := none) ⟨hb.os, hb.tape, hb.output, hb.size, fun k hk _ => hb.block k hk⟩ (by cases h : v.ownBlock <;> simp)
theorem own_base {w : World} {B B' e size n : Nat} {v : Value} {xs : List Value} (h : w.ownsRow B' e size v n xs) (hB : B ≤ B') : w.ownsRow B e size v n xs :=
  ⟨h.1, h.2.imp id (fun ⟨g, cap, cur, a, b, c⟩ => ⟨g, cap, cur, a, Nat.le_trans hB b, c⟩)⟩
theorem own_shape {w : World} {B e size n : Nat} {v : Value} {xs : List Value} (h : w.ownsRow B e size v n xs) : ∃ o c, v = .slice o n c := by
  rcases h.2 with ⟨a, b⟩ | ⟨g, cap, cur, a, b⟩
  · exact ⟨none, 0, by rw [a, b]⟩
  · exact ⟨_, _, a⟩

/-- What All leaves. -/
def PiecesAt (s : ByteArray) (B : Nat) (w' : World) (v : Value) : Prop := w'.ownsRow B 85 4 v (starts s).length (pieceCs s (starts s))
def AllPost (s : ByteArray) (w : World) (e : Ending) (w' : World) : Prop := ∃ v, e = .returned v ∧ PiecesAt s w.heap.size w' v ∧ Below w.heap.size w w'

def AllRel (s : ByteArray) (w : World) (v : Value) (pos : Nat) (wr : World) (l : List Nat) (f : Nat) : Prop :=
  wr.ownsRow w.heap.size 85 4 v l.length (pieceCs s l) ∧ Below w.heap.size w wr ∧ s.size ≤ pos + f ∧ starts s = l ++ startsF s f pos

theorem piece_info : (Tryd.prog.info? 85).map (fun i => (i.zero, i.size, i.bytes)) = some (some (.agg #[.int .i32 0, .int .i64 0, .int .i64 0, .bool false]), 4, 32) := by kernel_rfl

theorem startsF_cons (s : ByteArray) (f p : Nat) (h : p < s.size) (hf : s.size ≤ p + f) : startsF s f p = p :: startsF s (f - 1) (p + dW s p) := by
  cases f with
  | zero => omega
  | succ f => simp [startsF, h]

theorem cells_new (w : World) (s : ByteArray) (p : Nat) (t : TypeId) (b : Nat) (hb : b = w.heap.size) : ∀ j u, (pieceC s p)[j]? = some u → (w.alloc (.cells #[.int .i32 (dR s p), .int .i64 p, .int .i64 (dW s p), .bool (brk s p)] t)).cell? ((⟨b, 0, none⟩ : Addr).add j) = some u := by
  subst hb
  intro j u hj
  match j, hj with
  | 0, hj => simp [pieceC] at hj; subst hj; simp [Addr.add]
  | 1, hj => simp [pieceC] at hj; subst hj; simp [Addr.add]
  | 2, hj => simp [pieceC] at hj; subst hj; simp [Addr.add]
  | 3, hj => simp [pieceC] at hj; subst hj; simp [Addr.add]
  | (j + 4), hj => simp [pieceC] at hj
theorem cells_one (s : ByteArray) (p : Nat) : ∀ u ∈ pieceC s p, u.oneCell' = true := by
  intro u hu
  simp [pieceC] at hu
  rcases hu with rfl | rfl | rfl | rfl <;> rfl

set_option maxHeartbeats 1000000 in
theorem all_any (s : ByteArray) (w : World) (hs : s.size ≤ 1073741824) :
    Calls Tryd.prog 45 #[.string s] w (AllPost s w) := by
  obtain ⟨i0, hi, hz0, hz1, hz2⟩ := info_parts piece_info
  go_enter Tryd.func45, Tryd.ntmps45
  go_wp2
  go_loopw [3, 4] (fun v a wr => ∃ pos l f, a = .int .i64 (pos : Nat) ∧ pos ≤ s.size ∧ AllRel s w v pos wr l f) (fun _ a _ => s.size - (intOf a).toNat)
  case atStart => exact ⟨0, [], s.size, rfl, by omega, World.ownsRow_nil _ _ _ _, Below.refl _ _, by omega, rfl⟩
  case round =>
    obtain ⟨pos, l, f, rfl, hpl, hrel⟩ := hrel
    have HRel := Lib.hid hrel
    obtain ⟨hown, hbw, hf, hst⟩ := hrel
    have hll : l.length + (startsF s f pos).length ≤ s.size := by
      have := startsF_le s s.size 0
      have e : (starts s).length ≤ s.size := by simpa [starts] using this
      rw [hst, List.length_append] at e
      exact e
    have hsz := hbw.size
    obtain ⟨o, c, rfl⟩ := own_shape hown
    clear hown hbw hst
    by_cases hp : pos < s.size
    · have hw1 := dW_pos s pos
      have hw2 := dW_fits s pos hp
      go_wp2_with fail
      refine (ref_at_any s pos _ hp hs).mono ?_
      rintro e w1 ⟨rfl, hb1⟩
      unfold pieceV
      have hown1 := own_below HRel.out.1 hb1
      have hsz1 := hb1.size
      have HB1 := Lib.hid hb1
      have HO1 := Lib.hid hown1
      clear hb1 hown1
      have hs13 : (l.length + 1) * 32 ≤ 140737488355328 := by omega
      go_wp2_with (at_builtin; refine wpList_append_own _ rfl (.tmp 13) (.tmp 15) 66 rfl w.heap.size 85 i0 (.agg #[.int .i32 0, .int .i64 0, .int .i64 0, .bool false]) 4 32 Tryd.underlying66 hi hz0 hz1 hz2 rfl (by decide) _ _ _ rfl ((HO1.out.alloc _).alloc _) ⟨w1.heap.size + 1, 0, none⟩ 1 1 (pieceC s pos) rfl rfl ?c1 (cells_one s pos) ?c3 hs13 ?c5 ?_)
      case c1 => exact cells_new (w1.alloc _) s pos _ _ (by simp)
      case c3 => unfold maxLen; omega
      case c5 => simp; omega
      intro v3 w3 hown3 hgrow3 hnil3
      have hob : ∀ k, (Value.slice o l.length c).ownBlock = some k → k < wr.heap.size := fun k hk => (HRel.out.1.lt k hk).2
      have hLen : w3.cell? ⟨w1.heap.size, 2, none⟩ = some (.int .i64 (dW s pos)) := by
        refine hgrow3.cell (by simp) ?_
        intro e
        have h9 : w1.heap.size < wr.heap.size := hob _ e.symm
        omega
      have hbw3 : Below w.heap.size w w3 := by
        have h1 : Below w.heap.size w w1 := HRel.out.2.1.trans (HB1.out.mono hsz)
        exact ((h1.alloc (by omega) _).alloc (by simp; omega) _).grown hgrow3 (by simp; omega) (fun k hk => (HRel.out.1.lt k hk).1)
      have hrel3 : AllRel s w v3 (pos + dW s pos) w3 (l ++ [pos]) (f - 1) := by
        refine ⟨?_, hbw3, by omega, ?_⟩
        · rw [← pieceCs_snoc]
          simpa using hown3
        · rw [HRel.out.2.2.2, startsF_cons s f pos hp hf]
          simp
      have HR3 := Lib.hid hrel3
      clear hob hbw3 hrel3 hown3 hgrow3 hnil3
      go_wp2_with fail
      go_roundw
      case rel => exact ⟨pos + dW s pos, l ++ [pos], f - 1, by go_num, hw2, HR3.out⟩
      case measure => simp [intOf]; omega
    · go_wp2_with fail
      go_ret
      have hst := HRel.out.2.2.2
      rw [startsF_end s f pos hp, List.append_nil] at hst
      exact ⟨_, rfl, by unfold PiecesAt; rw [hst]; exact HRel.out.1, HRel.out.2.1⟩
end Go.Proofs.YtmbekgfbnapelaaDoor
