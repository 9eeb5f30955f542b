/-
  PLAIN: patterns as trees: their one numbering, turned ones; how the program and the document find out whether some nodes are a tree.
-/
import Derived.RowKit3
namespace Go.Proofs.Ytnlojgomildajaa
set_option linter.unusedVariables false

/-- A pattern's node, plain. -/
structure Nd where
  k : Nat
  r : Int
  p : Nat
  m : Nat
  ks : List Int
instance : Inhabited Nd := ⟨⟨0, 0, 0, 0, []⟩⟩
mutual
inductive Tr where
  | nd : Nat → Int → Nat → Nat → Ts → Tr
inductive Ts where
  | nil : Ts
  | cons : Tr → Ts → Ts
end
mutual
def Tr.sz : Tr → Nat
  | .nd _ _ _ _ ts => 1 + ts.sz
def Ts.sz : Ts → Nat
  | .nil => 0
  | .cons t ts => t.sz + ts.sz
end
def Ts.len : Ts → Nat
  | .nil => 0
  | .cons _ ts => 1 + ts.len
/-- The numbers of some trees that stand one behind the other, the first one's at b. -/
def Ts.starts : Nat → Ts → List Int
  | _, .nil => []
  | b, .cons t ts => (b : Int) :: ts.starts (b + t.sz)
mutual
/-- A tree's nodes in their one numbering, from b on. -/
def Tr.flat : Nat → Tr → List Nd
  | b, .nd k r p m ts => ⟨k, r, p, m, ts.starts (b + 1)⟩ :: ts.flats (b + 1)
def Ts.flats : Nat → Ts → List Nd
  | _, .nil => []
  | b, .cons t ts => t.flat b ++ ts.flats (b + t.sz)
end
mutual
theorem Tr.flat_length : ∀ (t : Tr) (b : Nat), (t.flat b).length = t.sz
  | .nd k r p m ts, b => by simp [Tr.flat, Tr.sz, Ts.flats_length ts (b + 1)]; omega
theorem Ts.flats_length : ∀ (ts : Ts) (b : Nat), (ts.flats b).length = ts.sz
  | .nil, _ => rfl
  | .cons t ts, b => by simp [Ts.flats, Ts.sz, Tr.flat_length t b, Ts.flats_length ts (b + t.sz)]
end
theorem Ts.starts_length : ∀ (ts : Ts) (b : Nat), (ts.starts b).length = ts.len
  | .nil, _ => rfl
  | .cons t ts, b => by simp [Ts.starts, Ts.len, Ts.starts_length ts]; omega
mutual
/-- Node i of some nodes, with all below it, is the tree. -/
def Tr.At (ns : List Nd) : Int → Tr → Prop
  | i, .nd k r p m ts => 0 ≤ i ∧ ∃ n, ns[i.toNat]? = some n ∧ n.k = k ∧ n.r = r ∧ n.p = p ∧ n.m = m ∧ ts.Ats ns n.ks
def Ts.Ats (ns : List Nd) : List Int → Ts → Prop
  | is, .nil => is = []
  | is, .cons t ts => ∃ i is', is = i :: is' ∧ t.At ns i ∧ ts.Ats ns is'
end
theorem Ts.Ats_length {ns : List Nd} : ∀ {ts : Ts} {is : List Int}, ts.Ats ns is → is.length = ts.len
  | .nil, _, h => by have h' : _ = [] := h; subst h'; rfl
  | .cons t ts, _, h => by
    obtain ⟨i, is', rfl, _, h2⟩ := h
    simp [Ts.len, Ts.Ats_length h2]; omega
/-- Is a node one of a tree, by its kind? -/
def nodeB (n : Nd) : Bool :=
  (n.r == 0 || n.k == 2) && ((n.p == 0 && n.m == 0) || n.k == 3) &&
  (if n.k = 6 ∨ n.k = 7 then true else if n.k = 8 ∨ n.k = 9 then n.ks.length == 1 else if 1 ≤ n.k ∧ n.k ≤ 5 then n.ks.length == 0 else false)

theorem nodup_le : ∀ (n : Nat) (l : List Nat), l.Nodup → (∀ x, x ∈ l → x < n) → l.length ≤ n
  | 0, l, _, h => by
    cases l with
    | nil => exact Nat.le_refl _
    | cons a l => exact absurd (h a (List.mem_cons_self ..)) (Nat.not_lt_zero _)
  | n + 1, l, hd, h => by
    by_cases hn : n ∈ l
    · have ih := nodup_le n (l.erase n) (hd.erase n) (fun x hx => by
        have h1 := h x (List.mem_of_mem_erase hx)
        have h2 := (hd.mem_erase_iff.1 hx).1
        omega)
      rw [List.length_erase_of_mem hn] at ih
      omega
    · have := nodup_le n l hd (fun x hx => by
        have h1 := h x hx
        have h2 : x ≠ n := fun e => hn (e ▸ hx)
        omega)
      omega
theorem nodup_range : ∀ (n : Nat) (l : List Nat), l.Nodup → (∀ x, x ∈ l → x < n) → l.length = n → l.Perm (List.range n)
  | 0, l, _, _, h => by rw [List.length_eq_zero_iff.1 h]; exact List.Perm.refl _
  | n + 1, l, hd, h, hl => by
    by_cases hn : n ∈ l
    · have ih := nodup_range n (l.erase n) (hd.erase n) (fun x hx => by
        have h1 := h x (List.mem_of_mem_erase hx)
        have h2 := (hd.mem_erase_iff.1 hx).1
        omega) (by rw [List.length_erase_of_mem hn]; omega)
      rw [List.range_succ]
      exact (List.perm_cons_erase hn).trans ((List.Perm.cons n ih).trans (List.perm_append_singleton n _).symm)
    · have := nodup_le n l hd (fun x hx => by
        have h1 := h x hx
        have h2 : x ≠ n := fun e => hn (e ▸ hx)
        omega)
      omega
/-- The kids' numbers of node i. -/
def kidsN (ns : List Nd) (i : Nat) : List Nat := ((ns[i]?.getD default).ks).map Int.toNat
def allK (ns : List Nd) : List Nat := (List.range ns.length).flatMap (kidsN ns)
/-- Are some nodes a tree? -/
structure IsTree (ns : List Nd) : Prop where
  one : 1 ≤ ns.length
  most : ns.length ≤ 256
  node : ∀ (i : Nat) (n : Nd), ns[i]? = some n → nodeB n = true
  more : ∀ (i : Nat) (n : Nd), ns[i]? = some n → ∀ k, k ∈ n.ks → (i : Int) < k ∧ k < ns.length
  once : (allK ns).Nodup
  each : (allK ns).length = ns.length - 1
def ofL : List Tr → Ts
  | [] => .nil
  | t :: l => .cons t (ofL l)
def mk (ns : List Nd) : Nat → Nat → Tr
  | 0, _ => .nd 0 0 0 0 .nil
  | f + 1, i => .nd (ns[i]?.getD default).k (ns[i]?.getD default).r (ns[i]?.getD default).p (ns[i]?.getD default).m (ofL ((kidsN ns i).map (mk ns f)))
theorem ofL_sz : ∀ l : List Tr, (ofL l).sz = (l.map Tr.sz).sum
  | [] => rfl
  | t :: l => by simp [ofL, Ts.sz, ofL_sz l]
theorem ofL_len : ∀ l : List Tr, (ofL l).len = l.length
  | [] => rfl
  | t :: l => by simp [ofL, Ts.len, ofL_len l]; omega
theorem mk_fuel {ns : List Nd} (h : IsTree ns) : ∀ f g i, i < ns.length → ns.length ≤ f + i → ns.length ≤ g + i → mk ns f i = mk ns g i
  | 0, _, i, hi, hf, _ => by omega
  | f + 1, 0, i, hi, _, hg => by omega
  | f + 1, g + 1, i, hi, hf, hg => by
    have hn : ns[i]? = some ns[i] := List.getElem?_eq_getElem hi
    have e : (kidsN ns i).map (mk ns f) = (kidsN ns i).map (mk ns g) := by
      apply List.map_congr_left
      intro k hk
      obtain ⟨q, hq, rfl⟩ := List.mem_map.1 hk
      rw [hn] at hq
      have hm := h.more i _ hn q hq
      exact mk_fuel h f g q.toNat (by omega) (by omega) (by omega)
    show Tr.nd _ _ _ _ _ = Tr.nd _ _ _ _ _
    rw [e]
def tre (ns : List Nd) (i : Nat) : Tr := mk ns ns.length i
theorem tre_at {ns : List Nd} (h : IsTree ns) (i : Nat) (hi : i < ns.length) : tre ns i = .nd (ns[i]?.getD default).k (ns[i]?.getD default).r (ns[i]?.getD default).p (ns[i]?.getD default).m (ofL ((kidsN ns i).map (tre ns))) := by
  unfold tre
  obtain ⟨f, hf⟩ : ∃ f, ns.length = f + 1 := ⟨ns.length - 1, by omega⟩
  have e : (kidsN ns i).map (mk ns f) = (kidsN ns i).map (mk ns ns.length) := by
    have hn : ns[i]? = some ns[i] := List.getElem?_eq_getElem hi
    apply List.map_congr_left
    intro k hk
    obtain ⟨q, hq, rfl⟩ := List.mem_map.1 hk
    rw [hn] at hq
    have hm := h.more i _ hn q hq
    exact mk_fuel h f ns.length q.toNat (by omega) (by omega) (by omega)
  rw [← e]
  rw [show mk ns ns.length i = mk ns (f + 1) i by rw [hf]]
  rfl
theorem sum_flat (s : Nat → Nat) (g : Nat → List Nat) : ∀ l : List Nat, ((l.flatMap g).map s).sum = (l.map fun i => ((g i).map s).sum).sum
  | [] => rfl
  | a :: l => by simp [List.flatMap_cons, List.map_append, List.sum_append, sum_flat s g l]
theorem sum_add (f g : Nat → Nat) : ∀ l : List Nat, (l.map fun i => f i + g i).sum = (l.map f).sum + (l.map g).sum
  | [] => rfl
  | a :: l => by simp [sum_add f g l]; omega
theorem sum_one : ∀ l : List Nat, (l.map fun _ => 1).sum = l.length
  | [] => rfl
  | a :: l => by simp [sum_one l]; omega
theorem tre_sz {ns : List Nd} (h : IsTree ns) : (tre ns 0).sz = ns.length := by
  have h1 := h.one
  have hs : ∀ i, i < ns.length → (tre ns i).sz = 1 + ((kidsN ns i).map fun k => (tre ns k).sz).sum := by
    intro i hi
    rw [tre_at h i hi]
    show 1 + (ofL _).sz = _
    rw [ofL_sz, List.map_map]
    rfl
  have hin : ∀ x, x ∈ allK ns → 1 ≤ x ∧ x < ns.length := by
    intro x hx
    obtain ⟨i, hi, hx⟩ := List.mem_flatMap.1 hx
    rw [List.mem_range] at hi
    obtain ⟨q, hq, rfl⟩ := List.mem_map.1 hx
    have hn : ns[i]? = some ns[i] := List.getElem?_eq_getElem hi
    rw [hn] at hq
    have hm := h.more i _ hn q hq
    omega
  have hp : (0 :: allK ns).Perm (List.range ns.length) := by
    apply nodup_range
    · rw [List.nodup_cons]
      exact ⟨fun h0 => by have := (hin 0 h0).1; omega, h.once⟩
    · intro x hx
      rcases List.mem_cons.1 hx with rfl | hx
      · omega
      · exact (hin x hx).2
    · rw [List.length_cons, h.each]; omega
  have e1 : ((List.range ns.length).map fun i => (tre ns i).sz).sum = ((List.range ns.length).map fun i => 1 + ((kidsN ns i).map fun k => (tre ns k).sz).sum).sum := by
    congr 1
    apply List.map_congr_left
    intro i hi
    exact hs i (List.mem_range.1 hi)
  rw [sum_add (fun _ => 1), sum_one, List.length_range, ← sum_flat (fun k => (tre ns k).sz)] at e1
  have e2 := (hp.map fun i => (tre ns i).sz).sum_nat
  rw [List.map_cons, List.sum_cons] at e2
  have e3 : ((List.flatMap (kidsN ns) (List.range ns.length)).map fun k => (tre ns k).sz).sum = ((allK ns).map fun k => (tre ns k).sz).sum := rfl
  omega
theorem ats_of {ns : List Nd} (g : Nat → Tr) : ∀ ks : List Int, (∀ k, k ∈ ks → (g k.toNat).At ns k) → (ofL ((ks.map Int.toNat).map g)).Ats ns ks
  | [], _ => rfl
  | k :: ks, h => ⟨k, ks, rfl, h k (List.mem_cons_self ..), ats_of g ks (fun q hq => h q (List.mem_cons_of_mem _ hq))⟩
theorem tre_is {ns : List Nd} (h : IsTree ns) : ∀ f i, ns.length ≤ f + i → i < ns.length → (tre ns i).At ns (i : Int)
  | 0, i, hf, hi => by omega
  | f + 1, i, hf, hi => by
    rw [tre_at h i hi]
    have hn : ns[i]? = some ns[i] := List.getElem?_eq_getElem hi
    refine ⟨by omega, ns[i], by simp [hn], ?_, ?_, ?_, ?_, ?_⟩
    · rw [hn]; rfl
    · rw [hn]; rfl
    · rw [hn]; rfl
    · rw [hn]; rfl
    · have e : kidsN ns i = ns[i].ks.map Int.toNat := by unfold kidsN; rw [hn]; rfl
      rw [e]
      apply ats_of
      intro k hk
      have hm := h.more i _ hn k hk
      have := tre_is h f k.toNat (by omega) (by omega)
      rwa [show ((k.toNat : Nat) : Int) = k by omega] at this
theorem tree_of {ns : List Nd} (h : IsTree ns) : ∃ t : Tr, t.At ns 0 ∧ t.sz = ns.length :=
  ⟨tre ns 0, tre_is h ns.length 0 (by omega) h.one, tre_sz h⟩

/-! ### a tree is found out, node by node, kid by kid -/
def pK (ns : List Nd) (i t : Nat) : List Nat := (List.range i).flatMap (kidsN ns) ++ (kidsN ns i).take t
theorem pK_zero (ns : List Nd) : pK ns 0 0 = [] := rfl
theorem kidsN_at {ns : List Nd} {i : Nat} (hi : i < ns.length) : kidsN ns i = (ns[i].ks).map Int.toNat := by
  unfold kidsN; rw [List.getElem?_eq_getElem hi]; rfl
theorem kidsN_out {ns : List Nd} {i : Nat} (hi : ¬ i < ns.length) : kidsN ns i = [] := by
  unfold kidsN; rw [List.getElem?_eq_none (by omega)]; rfl
theorem pK_next {ns : List Nd} {i : Nat} (t : Nat) (h : (kidsN ns i).length ≤ t) : pK ns i t = pK ns (i + 1) 0 := by
  unfold pK
  rw [List.take_of_length_le h, List.range_succ, List.flatMap_append]
  simp
theorem pK_snoc {ns : List Nd} {i t : Nat} (h : t < (kidsN ns i).length) : pK ns i (t + 1) = pK ns i t ++ [(kidsN ns i)[t]] := by
  unfold pK
  rw [List.take_succ_eq_append_getElem h, List.append_assoc]
theorem pK_all (ns : List Nd) : pK ns ns.length 0 = allK ns := by simp [pK, allK]
theorem pK_pre {ns : List Nd} {i t : Nat} (hi : i < ns.length) : ∃ r, allK ns = pK ns i t ++ r := by
  obtain ⟨d, hd⟩ : ∃ d, ns.length = i + 1 + d := ⟨ns.length - (i + 1), by omega⟩
  have e : List.range ns.length = List.range i ++ (i :: (List.range d).map (i + 1 + ·)) := by
    rw [hd, List.range_add, List.range_succ, List.append_assoc]; rfl
  unfold allK pK
  rw [e, List.flatMap_append, List.flatMap_cons]
  refine ⟨(kidsN ns i).drop t ++ ((List.range d).map (i + 1 + ·)).flatMap (kidsN ns), ?_⟩
  rw [List.append_assoc, ← List.append_assoc ((kidsN ns i).take t), List.take_append_drop]
structure PreT (ns : List Nd) (i t : Nat) : Prop where
  node : ∀ (j : Nat) (n : Nd), j < i → ns[j]? = some n → nodeB n = true
  more : ∀ (j : Nat) (n : Nd), j < i → ns[j]? = some n → ∀ k, k ∈ n.ks → (j : Int) < k ∧ k < ns.length
  here : ∀ (n : Nd), ns[i]? = some n → ∀ k, k ∈ n.ks.take t → (i : Int) < k ∧ k < ns.length
  once : (pK ns i t).Nodup
theorem PreT.start (ns : List Nd) : PreT ns 0 0 := ⟨fun _ _ h => by omega, fun _ _ h => by omega, fun _ _ _ hk => by simp at hk, List.Pairwise.nil⟩
theorem PreT.next {ns : List Nd} {i t : Nat} (h : PreT ns i t) (hi : i < ns.length) (hn : nodeB ns[i] = true) (ht : ns[i].ks.length ≤ t) : PreT ns (i + 1) 0 := by
  have hg : ns[i]? = some ns[i] := List.getElem?_eq_getElem hi
  refine ⟨?_, ?_, fun _ _ _ hk => by simp at hk, ?_⟩
  · intro j n hj he
    by_cases hji : j = i
    · subst hji; rw [hg] at he; cases he; exact hn
    · exact h.node j n (by omega) he
  · intro j n hj he k hk
    by_cases hji : j = i
    · subst hji; rw [hg] at he; cases he
      exact h.here _ hg k (by rwa [List.take_of_length_le ht])
    · exact h.more j n (by omega) he k hk
  · rw [← pK_next t (by rw [kidsN_at hi, List.length_map]; exact ht)]
    exact h.once
theorem PreT.kid {ns : List Nd} {i t : Nat} (h : PreT ns i t) (hi : i < ns.length) (ht : t < ns[i].ks.length) (h1 : (i : Int) < ns[i].ks[t]) (h2 : ns[i].ks[t] < ns.length) (h3 : ¬ (ns[i].ks[t]).toNat ∈ pK ns i t) : PreT ns i (t + 1) := by
  have hg : ns[i]? = some ns[i] := List.getElem?_eq_getElem hi
  refine ⟨h.node, h.more, ?_, ?_⟩
  · intro n he k hk
    rw [hg] at he
    cases he
    rw [List.take_succ_eq_append_getElem ht] at hk
    rcases List.mem_append.1 hk with hk | hk
    · exact h.here _ hg k hk
    · rw [List.mem_singleton.1 hk]; exact ⟨h1, h2⟩
  · have hl : t < (kidsN ns i).length := by rw [kidsN_at hi, List.length_map]; exact ht
    have e : (kidsN ns i)[t] = (ns[i].ks[t]).toNat := by simp [kidsN_at hi]
    rw [pK_snoc hl, e]
    rw [List.nodup_append]
    refine ⟨h.once, by simp, ?_⟩
    intro a ha b hb
    rw [List.mem_singleton.1 hb]
    exact fun e => h3 (e ▸ ha)
theorem PreT.lt {ns : List Nd} {i t : Nat} (h : PreT ns i t) : ∀ x, x ∈ pK ns i t → 1 ≤ x ∧ x < ns.length := by
  intro x hx
  rcases List.mem_append.1 hx with hx | hx
  · obtain ⟨j, hj, hx⟩ := List.mem_flatMap.1 hx
    rw [List.mem_range] at hj
    obtain ⟨q, hq, rfl⟩ := List.mem_map.1 hx
    by_cases hl : j < ns.length
    · rw [List.getElem?_eq_getElem hl] at hq
      have := h.more j _ hj (List.getElem?_eq_getElem hl) q hq
      omega
    · rw [List.getElem?_eq_none (by omega)] at hq
      exact absurd hq (by simp [default])
  · by_cases hl : i < ns.length
    · rw [kidsN_at hl, ← List.map_take] at hx
      obtain ⟨q, hq, rfl⟩ := List.mem_map.1 hx
      have := h.here _ (List.getElem?_eq_getElem hl) q hq
      omega
    · rw [kidsN_out hl] at hx
      simp at hx
theorem no_node {ns : List Nd} {i : Nat} (hi : i < ns.length) (h : nodeB ns[i] = false) : ¬ IsTree ns := fun t => by
  have := t.node i _ (List.getElem?_eq_getElem hi); rw [h] at this; cases this
theorem no_kid {ns : List Nd} {i t : Nat} (hi : i < ns.length) (ht : t < ns[i].ks.length) (h : ns[i].ks[t] ≤ (i : Int) ∨ (ns.length : Int) ≤ ns[i].ks[t]) : ¬ IsTree ns := fun hT => by
  have := hT.more i _ (List.getElem?_eq_getElem hi) _ (List.getElem_mem ht)
  omega
theorem no_twice {ns : List Nd} {i t : Nat} (hi : i < ns.length) (ht : t < ns[i].ks.length) (h : (ns[i].ks[t]).toNat ∈ pK ns i t) : ¬ IsTree ns := fun hT => by
  obtain ⟨r, hr⟩ := pK_pre (ns := ns) (t := t + 1) hi
  have hl : t < (kidsN ns i).length := by rw [kidsN_at hi, List.length_map]; exact ht
  have e : (kidsN ns i)[t] = (ns[i].ks[t]).toNat := by simp [kidsN_at hi]
  have ho := hT.once
  rw [hr, pK_snoc hl, e, List.nodup_append] at ho
  have h2 := (List.nodup_append.1 ho.1).2.2
  exact h2 _ h _ (List.mem_singleton_self _) rfl
theorem pre_all {ns : List Nd} (h : PreT ns ns.length 0) (h1 : 1 ≤ ns.length) (h2 : ns.length ≤ 256) : IsTree ns ↔ (pK ns ns.length 0).length = ns.length - 1 := by
  constructor
  · intro hT; rw [pK_all]; exact hT.each
  · intro he
    rw [pK_all] at he
    have ho := h.once
    rw [pK_all] at ho
    exact ⟨h1, h2, fun i n hn => h.node i n (List.getElem?_eq_some_iff.1 hn).1 hn, fun i n hn => h.more i n (List.getElem?_eq_some_iff.1 hn).1 hn, ho, he⟩
/-! the document's way: each number is counted -/
structure PreC (ns : List Nd) (i t : Nat) : Prop where
  node : ∀ (j : Nat) (n : Nd), j < i → ns[j]? = some n → nodeB n = true
  more : ∀ (j : Nat) (n : Nd), j < i → ns[j]? = some n → ∀ k, k ∈ n.ks → (j : Int) < k ∧ k < ns.length
  here : ∀ (n : Nd), ns[i]? = some n → ∀ k, k ∈ n.ks.take t → (i : Int) < k ∧ k < ns.length
theorem PreC.start (ns : List Nd) : PreC ns 0 0 := ⟨fun _ _ h => by omega, fun _ _ h => by omega, fun _ _ _ hk => by simp at hk⟩
theorem PreC.next {ns : List Nd} {i t : Nat} (h : PreC ns i t) (hi : i < ns.length) (hn : nodeB ns[i] = true) (ht : ns[i].ks.length ≤ t) : PreC ns (i + 1) 0 := by
  have hg : ns[i]? = some ns[i] := List.getElem?_eq_getElem hi
  refine ⟨?_, ?_, fun _ _ _ hk => by simp at hk⟩
  · intro j n hj he
    by_cases hji : j = i
    · subst hji; rw [hg] at he; cases he; exact hn
    · exact h.node j n (by omega) he
  · intro j n hj he k hk
    by_cases hji : j = i
    · subst hji; rw [hg] at he; cases he
      exact h.here _ hg k (by rwa [List.take_of_length_le ht])
    · exact h.more j n (by omega) he k hk
theorem PreC.kid {ns : List Nd} {i t : Nat} (h : PreC ns i t) (hi : i < ns.length) (ht : t < ns[i].ks.length) (h1 : (i : Int) < ns[i].ks[t]) (h2 : ns[i].ks[t] < ns.length) : PreC ns i (t + 1) := by
  have hg : ns[i]? = some ns[i] := List.getElem?_eq_getElem hi
  refine ⟨h.node, h.more, ?_⟩
  intro n he k hk
  rw [hg] at he
  cases he
  rw [List.take_succ_eq_append_getElem ht] at hk
  rcases List.mem_append.1 hk with hk | hk
  · exact h.here _ hg k hk
  · rw [List.mem_singleton.1 hk]; exact ⟨h1, h2⟩
theorem no_many {ns : List Nd} {i : Nat} (hi : i < ns.length) (h : ns.length ≤ ns[i].ks.length) : ¬ IsTree ns := fun hT => by
  obtain ⟨r, hr⟩ := pK_pre (ns := ns) (t := ns[i].ks.length) hi
  have e := hT.each
  rw [hr] at e
  have hk : (kidsN ns i).length = ns[i].ks.length := by rw [kidsN_at hi, List.length_map]
  unfold pK at e
  rw [List.take_of_length_le (by omega), List.length_append, List.length_append] at e
  have := hT.one
  omega
theorem IsTree.perm {ns : List Nd} (h : IsTree ns) : (0 :: allK ns).Perm (List.range ns.length) := by
  have h1 := h.one
  have hin : ∀ x, x ∈ allK ns → 1 ≤ x ∧ x < ns.length := by
    intro x hx
    obtain ⟨i, hi, hx⟩ := List.mem_flatMap.1 hx
    rw [List.mem_range] at hi
    obtain ⟨q, hq, rfl⟩ := List.mem_map.1 hx
    have hn : ns[i]? = some ns[i] := List.getElem?_eq_getElem hi
    rw [hn] at hq
    have hm := h.more i _ hn q hq
    omega
  apply nodup_range
  · rw [List.nodup_cons]
    exact ⟨fun h0 => by have := (hin 0 h0).1; omega, h.once⟩
  · intro x hx
    rcases List.mem_cons.1 hx with rfl | hx
    · omega
    · exact (hin x hx).2
  · rw [List.length_cons, h.each]; omega
theorem count_all {ns : List Nd} (h : PreC ns ns.length 0) (h1 : 1 ≤ ns.length) (h2 : ns.length ≤ 256) : IsTree ns ↔ ∀ i, 1 ≤ i → i < ns.length → (pK ns ns.length 0).count i = 1 := by
  rw [pK_all]
  constructor
  · intro hT i hi hn
    have e := hT.perm.count_eq i
    rw [List.count_cons_of_ne (by omega)] at e
    rw [e]
    exact List.Nodup.count List.nodup_range |>.trans (if_pos (List.mem_range.2 hn))
  · intro hc
    have hin : ∀ x, x ∈ allK ns → 1 ≤ x ∧ x < ns.length := by
      intro x hx
      obtain ⟨i, hi, hx⟩ := List.mem_flatMap.1 hx
      rw [List.mem_range] at hi
      obtain ⟨q, hq, rfl⟩ := List.mem_map.1 hx
      have hn : ns[i]? = some ns[i] := List.getElem?_eq_getElem hi
      rw [hn] at hq
      have hm := h.more i _ hi hn q hq
      omega
    have hp : (0 :: allK ns).Perm (List.range ns.length) := by
      rw [List.perm_iff_count]
      intro x
      rw [List.Nodup.count List.nodup_range]
      by_cases hx0 : x = 0
      · subst hx0
        rw [List.count_cons_self, List.count_eq_zero_of_not_mem (fun hm => by have := (hin 0 hm).1; omega), if_pos (List.mem_range.2 h1)]
      · rw [List.count_cons_of_ne (by omega)]
        by_cases hxn : x < ns.length
        · rw [hc x (by omega) hxn, if_pos (List.mem_range.2 hxn)]
        · rw [List.count_eq_zero_of_not_mem (fun hm => by have := (hin x hm).2; omega), if_neg (fun hm => hxn (List.mem_range.1 hm))]
    have hd := hp.symm.nodup List.nodup_range
    have hl := hp.length_eq
    rw [List.length_cons, List.length_range] at hl
    exact ⟨h1, h2, fun i n hn => h.node i n (List.getElem?_eq_some_iff.1 hn).1 hn, fun i n hn => h.more i n (List.getElem?_eq_some_iff.1 hn).1 hn, (List.nodup_cons.1 hd).2, by omega⟩

/-! ### turned -/
def Ts.app : Ts → Ts → Ts
  | .nil, b => b
  | .cons t ts, b => .cons t (ts.app b)
def Ts.rev : Ts → Ts
  | .nil => .nil
  | .cons t ts => ts.rev.app (.cons t .nil)
mutual
def Tr.turn : Tr → Tr
  | .nd k r p m ts => .nd k r p m (if k = 6 then ts.turns.rev else ts.turns)
def Ts.turns : Ts → Ts
  | .nil => .nil
  | .cons t ts => .cons t.turn ts.turns
end
theorem Ts.app_sz : ∀ (a b : Ts), (a.app b).sz = a.sz + b.sz
  | .nil, b => by simp [Ts.app, Ts.sz]
  | .cons t ts, b => by simp [Ts.app, Ts.sz, Ts.app_sz ts b]; omega
theorem Ts.rev_sz : ∀ a : Ts, a.rev.sz = a.sz
  | .nil => rfl
  | .cons t ts => by simp [Ts.rev, Ts.app_sz, Ts.rev_sz ts, Ts.sz]; omega
mutual
theorem Tr.turn_sz : ∀ t : Tr, t.turn.sz = t.sz
  | .nd k r p m ts => by
    have := Ts.turns_sz ts
    unfold Tr.turn
    split <;> simp [Tr.sz, Ts.rev_sz, this]
theorem Ts.turns_sz : ∀ t : Ts, t.turns.sz = t.sz
  | .nil => rfl
  | .cons t ts => by simp [Ts.turns, Ts.sz, Tr.turn_sz t, Ts.turns_sz ts]
end
theorem Ts.Ats_app {ns : List Nd} : ∀ {a b : Ts} {x y : List Int}, a.Ats ns x → b.Ats ns y → (a.app b).Ats ns (x ++ y)
  | .nil, _, _, _, h, k => by have h' : _ = [] := h; subst h'; exact k
  | .cons t ts, _, _, _, h, k => by
    obtain ⟨i, is', rfl, h1, h2⟩ := h
    exact ⟨i, _, rfl, h1, Ts.Ats_app h2 k⟩
theorem Ts.Ats_rev {ns : List Nd} : ∀ {a : Ts} {x : List Int}, a.Ats ns x → a.rev.Ats ns x.reverse
  | .nil, _, h => by have h' : _ = [] := h; subst h'; exact rfl
  | .cons t ts, _, h => by
    obtain ⟨i, is', rfl, h1, h2⟩ := h
    rw [List.reverse_cons]
    exact Ts.Ats_app (Ts.Ats_rev h2) ⟨i, [], rfl, h1, rfl⟩
def Nd.turn (n : Nd) : Nd := if n.k = 6 then { n with ks := n.ks.reverse } else n
theorem Nd.turn_k (n : Nd) : n.turn.k = n.k ∧ n.turn.r = n.r ∧ n.turn.p = n.p ∧ n.turn.m = n.m := by unfold Nd.turn; split <;> simp
mutual
theorem Tr.At_turn {ns : List Nd} : ∀ {t : Tr} {i : Int}, t.At ns i → t.turn.At (ns.map Nd.turn) i
  | .nd k r p m ts, i, h => by
    obtain ⟨h0, n, hn, rfl, rfl, rfl, rfl, hk⟩ := h
    have ht := n.turn_k
    refine ⟨h0, n.turn, by rw [List.getElem?_map, hn]; rfl, ht.1, ht.2.1, ht.2.2.1, ht.2.2.2, ?_⟩
    have h2 := Ts.Ats_turn hk
    unfold Nd.turn
    split
    · exact Ts.Ats_rev h2
    · exact h2
theorem Ts.Ats_turn {ns : List Nd} : ∀ {t : Ts} {x : List Int}, t.Ats ns x → t.turns.Ats (ns.map Nd.turn) x
  | .nil, _, h => h
  | .cons t ts, _, h => by
    obtain ⟨i, is', rfl, h1, h2⟩ := h
    exact ⟨i, is', rfl, Tr.At_turn h1, Ts.Ats_turn h2⟩
end
end Go.Proofs.Ytnlojgomildajaa
