/-
  A ROW OF PATTERNS OF THE CALL's OWN.
-/
import Derived.Test.YtnlojgomildajaaLsp
import Derived.Test.YtnlojgomildajaaRsm
namespace Go.Proofs.Ytnlojgomildajaa
open Go.RowKit Go.Lib
set_option linter.unusedVariables false
def PtM.c1 (q : PtM) : Value := .slice q.pn q.ms.length q.c
theorem pat_info : (Try.prog.info? 25).map (fun i => (i.zero, i.size, i.bytes)) = some (some (.agg #[.slice none 0 0]), 1, 24) := by kernel_rfl
structure OwP (N : Nat) (v : Value) (qs : List PtM) (w : World) : Prop where
  own : w.ownsRow N 25 1 v qs.length (qs.map PtM.c1)
  pats : ∀ q ∈ qs, Mine N q w
  apart : ∀ q ∈ qs, ∀ k, Bk q k → ¬ v.ownBlock = some k
theorem OwP.nil (N : Nat) (w : World) : OwP N (.slice none 0 0) [] w := ⟨World.ownsRow_nil _ _ _ _, by simp, by simp⟩
theorem OwP.keep {N : Nat} {X : Nat → Prop} {v : Value} {qs : List PtM} {w w' : World} (h : OwP N v qs w) (hb : But X w w') (hx : ∀ k, N ≤ k → k < w.heap.size → ¬ X k) : OwP N v qs w' :=
  ⟨own_keep h.own hb (fun k e => hx k (h.own.lt k e).1 (h.own.lt k e).2), fun q hq => (h.pats q hq).keep hb hx, h.apart⟩
theorem OwP.next {N : Nat} {v : Value} {qs : List PtM} {w w' : World} (h : OwP N v qs w) (hb : Below w.heap.size w w') : OwP N v qs w' := h.keep (But.of_below (X := fun _ => False) hb) (fun _ _ _ e => e)
theorem OwP.shape {N : Nat} {v : Value} {qs : List PtM} {w : World} (h : OwP N v qs w) : ∃ o c, v = .slice o qs.length c := ownN_shape h.own
theorem OwP.psin {N : Nat} {o : Option Addr} {n c : Nat} {qs : List PtM} {w : World} (h : OwP N (.slice o n c) qs w) (hl : qs.length ≤ 1000) : n = qs.length ∧ ∃ b, PsIn o b 0 qs w := by
  have hmem : ∀ j, j < qs.length → qs.getD j default ∈ qs := fun j hj => by
    rw [List.getD_eq_getElem?_getD, List.getElem?_eq_getElem hj]; exact List.getElem_mem hj
  rcases h.own.2 with ⟨e, hn⟩ | ⟨g, cap, cur, e, hgN, _, hc, _⟩
  · injection e with e1 e2 e3
    subst e1
    exact ⟨by omega, 0, ⟨fun h => absurd h (by omega), fun j hj => absurd hj (by omega), fun j hj => absurd hj (by omega), by omega⟩⟩
  · injection e with e1 e2 e3
    subst e1; subst e2; subst e3
    refine ⟨rfl, g, ⟨fun _ => rfl, fun j hj => ?_, fun j hj => ⟨(h.pats _ (hmem j hj)).i⟩, by omega⟩⟩
    rw [Nat.zero_add, h.own.cellAt j (by omega), List.getElem?_map, List.getD_eq_getElem?_getD, List.getElem?_eq_getElem hj]
    rfl
theorem OwP.push {N : Nat} {v v' : Value} {qs : List PtM} {q : PtM} {w w' : World} (h : OwP N v qs w) (ho : w'.ownsRow N 25 1 v' (qs ++ [q]).length ((qs ++ [q]).map PtM.c1)) (hg : w.grownBy w' v.ownBlock)
    (hat : v'.ownBlock = v.ownBlock ∨ v'.ownBlock = some w.heap.size) (hq : Mine N q w) (hap : ∀ k, Bk q k → ¬ v.ownBlock = some k) : OwP N v' (qs ++ [q]) w' := by
  have hall : ∀ x ∈ qs ++ [q], Mine N x w ∧ ∀ k, Bk x k → ¬ v.ownBlock = some k := fun x hx => by
    rcases List.mem_append.1 hx with hx | hx
    · exact ⟨h.pats x hx, h.apart x hx⟩
    · rw [List.mem_singleton.1 hx]; exact ⟨hq, hap⟩
  have hB : But (fun k => v.ownBlock = some k) w w' := But.of_grown hg (fun k e => e)
  refine ⟨ho, fun x hx => ?_, fun x hx k hk e => ?_⟩
  · obtain ⟨hm, hp⟩ := hall x hx
    have hkk : ∀ m ∈ x.ms, 0 < m.nd.ks.length → ¬ v.ownBlock = some m.bk := fun m hm' h0 => hp _ (Or.inr ⟨m, hm', h0, rfl⟩)
    exact ⟨hm.i.keep hB (fun h0 => hp _ (Or.inl ⟨h0, rfl⟩)) hkk, hm.own.keep hB (fun k e => by
      by_cases h0 : 0 < x.ms.length
      · have := (hm.blk h0).2.2
        rw [e] at this
        injection this with this
        subst this
        exact hp _ (Or.inl ⟨h0, rfl⟩)
      · rcases hm.own.own.2 with ⟨e2, _⟩ | ⟨g, cap, cur, e2, h3, h4, h5⟩
        · rw [e2] at e; cases e
        · intro e3
          rw [e2] at e
          cases e
          exact absurd (hm.own.own.lt g (by rw [e2]; rfl)) (fun _ => by
            rcases h.own.2 with ⟨e4, _⟩ | ⟨g2, cap2, cur2, e4, _, h6, _⟩
            · rw [e4] at e3; cases e3
            · rw [e4] at e3; cases e3
              rw [h4] at h6
              cases h6)) hkk, fun m hm' => (hm.frk m hm').keep hB (hkk m hm'), hm.len⟩
  · obtain ⟨hm, hp⟩ := hall x hx
    rcases hat with e2 | e2
    · exact hp k hk (e2 ▸ e)
    · rw [e2] at e
      cases e
      have := (hm.bk _ hk).2
      omega
theorem app_pt {w : World} {ops : Array Oper} {rest : List Oper} {o : Oper} {a : Act} {Q : Exit → Act → World → Prop} (hgd : o.guard = none) (s x : Operand)
    (ho : o.op = .call { callee := .builtin .append, args := #[s, x], argTypes := #[22, 22] }) (N : Nat) (v : Value) (qs : List PtM) (hs : a.eval s = v) (hown : OwP N v qs w)
    (ad : Addr) (q : PtM) (hx : a.eval x = .slice (some ad) 1 1) (hnews : w.cell? (ad.add 0) = some q.c1) (hq : Mine N q w) (hap : ∀ k, Bk q k → ¬ v.ownBlock = some k) (hlen : qs.length < 1000000) (hN : N ≤ w.heap.size)
    (h : ∀ v' w', OwP N v' (qs ++ [q]) w' → w.grownBy w' v.ownBlock → (v'.ownBlock = v.ownBlock ∨ v'.ownBlock = some w.heap.size) → wpList Try.prog ops Q rest (a.put o.dst v') w') :
    wpList Try.prog ops Q (o :: rest) a w := by
  obtain ⟨i0, hi, hz0, hz1, hz2⟩ := info_parts pat_info
  refine wpList_append_own_at w hgd s x 22 ho N 25 i0 (.agg #[.slice none 0 0]) 1 24 Try.underlying22 hi hz0 hz1 hz2 rfl (by decide) v qs.length (qs.map PtM.c1) hs hown.own ad 1 1 [q.c1] hx rfl (fun j u hj => ?_) (fun u hu => by rw [List.mem_singleton.1 hu]; rfl) (by unfold maxLen; omega) (by omega) hN ?_
  · match j, hj with
    | 0, hj => simp at hj; subst hj; exact hnews
  · intro v' w' h1 h2 _ h4
    exact h v' w' (hown.push (by rw [List.length_append, List.map_append]; exact h1) h2 h4 hq hap) h2 h4
/-- What Turned comes to, in one. -/
noncomputable def turnE (ns : List Nd) : Nat := if treeB ns = true then 0 else 40
noncomputable def turnR (ns : List Nd) : List Nd := if treeB ns = true then turnN ns else []
theorem turn_one {ns : List Nd} {w : World} {e : Ending} {w' : World} (h : (treeB ns = true → MkPost2 0 (turnN ns) w e w') ∧ (treeB ns = false → MkPost2 40 [] w e w')) : MkPost2 (turnE ns) (turnR ns) w e w' := by
  unfold turnE turnR
  cases hb : treeB ns with
  | true => exact h.1 hb
  | false => exact h.2 hb
end Go.Proofs.Ytnlojgomildajaa
