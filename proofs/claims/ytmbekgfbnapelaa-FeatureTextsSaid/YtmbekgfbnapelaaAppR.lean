/-
  append of a row of runes that came in onto a row of the call's own.
-/
import Derived.Test.YtmbekgfbnapelaaRsP
import Derived.Laws.AppendOwnNone
import Derived.Maps.AppendAt
namespace Go.Proofs.Ytmbekgfbnapelaa
open Go.RowKit Go.Lib
set_option linter.unusedVariables false

theorem i32_info : (Try.prog.info? 21).map (fun i => (i.zero, i.size, i.bytes)) = some (some (.int .i32 0), 1, 4) := by kernel_rfl
/-- append onto a row of runes of the call's own. -/
theorem app_rs {w : World} {ops : Array Oper} {rest : List Oper} {o : Oper} {a : Act} {Q : Exit → Act → World → Prop} (hgd : o.guard = none) (s x : Operand)
    (ho : o.op = .call { callee := .builtin .append, args := #[s, x], argTypes := #[33, 33] }) (base : Nat) (v : Value) (n : Nat) (xs : List Value) (hs : a.eval s = v) (hown : w.ownsRow base 21 1 v n xs)
    (px : Option Addr) (m c : Nat) (l : List Int) (hx : a.eval x = .slice px m c) (hm : m = l.length) (h0 : px = none → m = 0 ∧ c = 0) (hS : ∀ ad, px = some ad → ∀ j, j < m → w.cell? (ad.add j) = some (.int .i32 (l.getD j 0)))
    (hbytes : (n + m) * 4 ≤ 140737488355328) (hbase : base ≤ w.heap.size)
    (h : ∀ v' w', w'.ownsRow base 21 1 v' (n + m) (xs ++ l.map (Value.int .i32)) → w.grownBy w' v.ownBlock → (v'.ownBlock = v.ownBlock ∨ v'.ownBlock = some w.heap.size) → wpList Try.prog ops Q rest (a.put o.dst v') w') :
    wpList Try.prog ops Q (o :: rest) a w := by
  obtain ⟨i0, hi, hz0, hz1, hz2⟩ := info_parts i32_info
  cases px with
  | none =>
    obtain ⟨rfl, rfl⟩ := h0 rfl
    obtain rfl : l = [] := List.eq_nil_of_length_eq_zero hm.symm
    refine wpList_append_own_none hgd s x 33 ho base 21 i0 1 Try.underlying33 hi v n xs hs hown hx ?_
    exact h v w (by simpa using hown) ⟨rfl, rfl, rfl, Nat.le_refl _, fun _ _ _ => rfl⟩ (Or.inl rfl)
  | some ad =>
    refine wpList_append_own_at w hgd s x 33 ho base 21 i0 (.int .i32 0) 1 4 Try.underlying33 hi hz0 hz1 hz2 rfl (by decide) v n xs hs hown ad m c (l.map (Value.int .i32)) hx (by simp [hm]) (fun j u hj => ?_) (fun u hu => ?_) (by unfold maxLen; omega) hbytes hbase ?_
    · have hj' : j < l.length := by simpa using (List.getElem?_eq_some_iff.1 hj).1
      rw [hS ad rfl j (by omega), getD_at hj']
      rw [List.getElem?_map, List.getElem?_eq_getElem hj'] at hj
      exact hj
    · obtain ⟨t, _, rfl⟩ := List.mem_map.1 hu
      rfl
    · intro v' w' h1 h2 _ h4
      exact h v' w' h1 h2 h4

/-- What a []rune that came in is, with what an append of it wants. -/
structure RsX (pr : Option Addr) (br r0 cr : Nat) (l : List Int) (w : World) : Prop where
  rs : RsIn pr br r0 l w
  nil : pr = none → l.length = 0 ∧ cr = 0

end Go.Proofs.Ytmbekgfbnapelaa
