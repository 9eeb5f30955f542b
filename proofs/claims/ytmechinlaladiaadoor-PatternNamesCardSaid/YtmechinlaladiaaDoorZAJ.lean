/-
  PLAIN: patterns as trees: their one numbering, turned ones; how the program and the document find out whether some nodes are a tree.
  PLAIN LEAN ABOUT THE MODEL's OWN DECODING OF A STRING, PIECE BY PIECE: no Go function in it. 'dR', 'dW': a piece's rune and width; 'brk': is it broken; 'rk': its place in the row of pieces (broken ones behind all that are not); 'lessF': two texts held against each other piece by piece.
-/
import Derived.RowKit3
import Derived.Lib.RuneCount
import Derived.Lib.DecodeN
namespace Go.Proofs.YtmechinlaladiaaDoor
set_option linter.unusedVariables false

/-- A pattern's node, plain. -/
structure Nd where
  k : Nat
  r : Int
  p : Nat
  m : Nat
  ks : List Int
instance : Inhabited Nd := ⟨⟨0, 0, 0, 0, []⟩⟩
mutual
inductive Tr where
  | nd : Nat → Int → Nat → Nat → Ts → Tr
inductive Ts where
  | nil : Ts
  | cons : Tr → Ts → Ts
end
mutual
def Tr.sz : Tr → Nat
  | .nd _ _ _ _ ts => 1 + ts.sz
def Ts.sz : Ts → Nat
  | .nil => 0
  | .cons t ts => t.sz + ts.sz
end
def Ts.len : Ts → Nat
  | .nil => 0
  | .cons _ ts => 1 + ts.len
/-- The numbers of some trees that stand one behind the other, the first one's at b. -/
def Ts.starts : Nat → Ts → List Int
  | _, .nil => []
  | b, .cons t ts => (b : Int) :: ts.starts (b + t.sz)
mutual
/-- A tree's nodes in their one numbering, from b on. -/
def Tr.flat : Nat → Tr → List Nd
  | b, .nd k r p m ts => ⟨k, r, p, m, ts.starts (b + 1)⟩ :: ts.flats (b + 1)
def Ts.flats : Nat → Ts → List Nd
  | _, .nil => []
  | b, .cons t ts => t.flat b ++ ts.flats (b + t.sz)
end
mutual
theorem Tr.flat_length : ∀ (t : Tr) (b : Nat), (t.flat b).length = t.sz
  | .nd k r p m ts, b => by simp [Tr.flat, Tr.sz, Ts.flats_length ts (b + 1)]; omega
theorem Ts.flats_length : ∀ (ts : Ts) (b : Nat), (ts.flats b).length = ts.sz
  | .nil, _ => rfl
  | .cons t ts, b => by simp [Ts.flats, Ts.sz, Tr.flat_length t b, Ts.flats_length ts (b + t.sz)]
end
theorem Ts.starts_length : ∀ (ts : Ts) (b : Nat), (ts.starts b).length = ts.len
  | .nil, _ => rfl
  | .cons t ts, b => by simp [Ts.starts, Ts.len, Ts.starts_length ts]; omega
mutual
/-- Node i of some nodes, with all below it, is the tree. -/
def Tr.At (ns : List Nd) : Int → Tr → Prop
  | i, .nd k r p m ts => 0 ≤ i ∧ ∃ n, ns[i.toNat]? = some n ∧ n.k = k ∧ n.r = r ∧ n.p = p ∧ n.m = m ∧ ts.Ats ns n.ks
def Ts.Ats (ns : List Nd) : List Int → Ts → Prop
  | is, .nil => is = []
  | is, .cons t ts => ∃ i is', is = i :: is' ∧ t.At ns i ∧ ts.Ats ns is'
end
theorem Ts.Ats_length {ns : List Nd} : ∀ {ts : Ts} {is : List Int}, ts.Ats ns is → is.length = ts.len
  | .nil, _, h => by have h' : _ = [] := h; subst h'; rfl
  | .cons t ts, _, h => by
    obtain ⟨i, is', rfl, _, h2⟩ := h
    simp [Ts.len, Ts.Ats_length h2]; omega
/-- Is a node one of a tree, by its kind? -/
def nodeB (n : Nd) : Bool :=
  (n.r == 0 || n.k == 2) && ((n.p == 0 && n.m == 0) || n.k == 3) &&
  (if n.k = 6 ∨ n.k = 7 then true else if n.k = 8 ∨ n.k = 9 then n.ks.length == 1 else if 1 ≤ n.k ∧ n.k ≤ 5 then n.ks.length == 0 else false)

theorem nodup_le : ∀ (n : Nat) (l : List Nat), l.Nodup → (∀ x, x ∈ l → x < n) → l.length ≤ n
  | 0, l, _, h => by
    cases l with
    | nil => exact Nat.le_refl _
    | cons a l => exact absurd (h a (List.mem_cons_self ..)) (Nat.not_lt_zero _)
  | n + 1, l, hd, h => by
    by_cases hn : n ∈ l
    · have ih := nodup_le n (l.erase n) (hd.erase n) (fun x hx => by
        have h1 := h x (List.mem_of_mem_erase hx)
        have h2 := (hd.mem_erase_iff.1 hx).1
        omega)
      rw [List.length_erase_of_mem hn] at ih
      omega
    · have := nodup_le n l hd (fun x hx => by
        have h1 := h x hx
        have h2 : x ≠ n := fun e => hn (e ▸ hx)
        omega)
      omega
theorem nodup_range : ∀ (n : Nat) (l : List Nat), l.Nodup → (∀ x, x ∈ l → x < n) → l.length = n → l.Perm (List.range n)
  | 0, l, _, _, h => by rw [List.length_eq_zero_iff.1 h]; exact List.Perm.refl _
  | n + 1, l, hd, h, hl => by
    by_cases hn : n ∈ l
    · have ih := nodup_range n (l.erase n) (hd.erase n) (fun x hx => by
        have h1 := h x (List.mem_of_mem_erase hx)
        have h2 := (hd.mem_erase_iff.1 hx).1
        omega) (by rw [List.length_erase_of_mem hn]; omega)
      rw [List.range_succ]
      exact (List.perm_cons_erase hn).trans ((List.Perm.cons n ih).trans (List.perm_append_singleton n _).symm)
    · have := nodup_le n l hd (fun x hx => by
        have h1 := h x hx
        have h2 : x ≠ n := fun e => hn (e ▸ hx)
        omega)
      omega
/-- The kids' numbers of node i. -/
def kidsN (ns : List Nd) (i : Nat) : List Nat := ((ns[i]?.getD default).ks).map Int.toNat
def allK (ns : List Nd) : List Nat := (List.range ns.length).flatMap (kidsN ns)
/-- Are some nodes a tree? -/
structure IsTree (ns : List Nd) : Prop where
  one : 1 ≤ ns.length
  most : ns.length ≤ 256
  node : ∀ (i : Nat) (n : Nd), ns[i]? = some n → nodeB n = true
  more : ∀ (i : Nat) (n : Nd), ns[i]? = some n → ∀ k, k ∈ n.ks → (i : Int) < k ∧ k < ns.length
  once : (allK ns).Nodup
  each : (allK ns).length = ns.length - 1
def ofL : List Tr → Ts
  | [] => .nil
  | t :: l => .cons t (ofL l)
def mk (ns : List Nd) : Nat → Nat → Tr
  | 0, _ => .nd 0 0 0 0 .nil
  | f + 1, i => .nd (ns[i]?.getD default).k (ns[i]?.getD default).r (ns[i]?.getD default).p (ns[i]?.getD default).m (ofL ((kidsN ns i).map (mk ns f)))
theorem ofL_sz : ∀ l : List Tr, (ofL l).sz = (l.map Tr.sz).sum
  | [] => rfl
  | t :: l => by simp [ofL, Ts.sz, ofL_sz l]
theorem ofL_len : ∀ l : List Tr, (ofL l).len = l.length
  | [] => rfl
  | t :: l => by simp [ofL, Ts.len, ofL_len l]; omega
theorem mk_fuel {ns : List Nd} (h : IsTree ns) : ∀ f g i, i < ns.length → ns.length ≤ f + i → ns.length ≤ g + i → mk ns f i = mk ns g i
  | 0, _, i, hi, hf, _ => by omega
  | f + 1, 0, i, hi, _, hg => by omega
  | f + 1, g + 1, i, hi, hf, hg => by
    have hn : ns[i]? = some ns[i] := List.getElem?_eq_getElem hi
    have e : (kidsN ns i).map (mk ns f) = (kidsN ns i).map (mk ns g) := by
      apply List.map_congr_left
      intro k hk
      obtain ⟨q, hq, rfl⟩ := List.mem_map.1 hk
      rw [hn] at hq
      have hm := h.more i _ hn q hq
      exact mk_fuel h f g q.toNat (by omega) (by omega) (by omega)
    show Tr.nd _ _ _ _ _ = Tr.nd _ _ _ _ _
    rw [e]
def tre (ns : List Nd) (i : Nat) : Tr := mk ns ns.length i
theorem tre_at {ns : List Nd} (h : IsTree ns) (i : Nat) (hi : i < ns.length) : tre ns i = .nd (ns[i]?.getD default).k (ns[i]?.getD default).r (ns[i]?.getD default).p (ns[i]?.getD default).m (ofL ((kidsN ns i).map (tre ns))) := by
  unfold tre
  obtain ⟨f, hf⟩ : ∃ f, ns.length = f + 1 := ⟨ns.length - 1, by omega⟩
  have e : (kidsN ns i).map (mk ns f) = (kidsN ns i).map (mk ns ns.length) := by
    have hn : ns[i]? = some ns[i] := List.getElem?_eq_getElem hi
    apply List.map_congr_left
    intro k hk
    obtain ⟨q, hq, rfl⟩ := List.mem_map.1 hk
    rw [hn] at hq
    have hm := h.more i _ hn q hq
    exact mk_fuel h f ns.length q.toNat (by omega) (by omega) (by omega)
  rw [← e]
  rw [show mk ns ns.length i = mk ns (f + 1) i by rw [hf]]
  rfl
theorem sum_flat (s : Nat → Nat) (g : Nat → List Nat) : ∀ l : List Nat, ((l.flatMap g).map s).sum = (l.map fun i => ((g i).map s).sum).sum
  | [] => rfl
  | a :: l => by simp [List.flatMap_cons, List.map_append, List.sum_append, sum_flat s g l]
theorem sum_add (f g : Nat → Nat) : ∀ l : List Nat, (l.map fun i => f i + g i).sum = (l.map f).sum + (l.map g).sum
  | [] => rfl
  | a :: l => by simp [sum_add f g l]; omega
theorem sum_one : ∀ l : List Nat, (l.map fun _ => 1).sum = l.length
  | [] => rfl
  | a :: l => by simp [sum_one l]; omega
theorem tre_sz {ns : List Nd} (h : IsTree ns) : (tre ns 0).sz = ns.length := by
  have h1 := h.one
  have hs : ∀ i, i < ns.length → (tre ns i).sz = 1 + ((kidsN ns i).map fun k => (tre ns k).sz).sum := by
    intro i hi
    rw [tre_at h i hi]
    show 1 + (ofL _).sz = _
    rw [ofL_sz, List.map_map]
    rfl
  have hin : ∀ x, x ∈ allK ns → 1 ≤ x ∧ x < ns.length := by
    intro x hx
    obtain ⟨i, hi, hx⟩ := List.mem_flatMap.1 hx
    rw [List.mem_range] at hi
    obtain ⟨q, hq, rfl⟩ := List.mem_map.1 hx
    have hn : ns[i]? = some ns[i] := List.getElem?_eq_getElem hi
    rw [hn] at hq
    have hm := h.more i _ hn q hq
    omega
  have hp : (0 :: allK ns).Perm (List.range ns.length) := by
    apply nodup_range
    · rw [List.nodup_cons]
      exact ⟨fun h0 => by have := (hin 0 h0).1; omega, h.once⟩
    · intro x hx
      rcases List.mem_cons.1 hx with rfl | hx
      · omega
      · exact (hin x hx).2
    · rw [List.length_cons, h.each]; omega
  have e1 : ((List.range ns.length).map fun i => (tre ns i).sz).sum = ((List.range ns.length).map fun i => 1 + ((kidsN ns i).map fun k => (tre ns k).sz).sum).sum := by
    congr 1
    apply List.map_congr_left
    intro i hi
    exact hs i (List.mem_range.1 hi)
  rw [sum_add (fun _ => 1), sum_one, List.length_range, ← sum_flat (fun k => (tre ns k).sz)] at e1
  have e2 := (hp.map fun i => (tre ns i).sz).sum_nat
  rw [List.map_cons, List.sum_cons] at e2
  have e3 : ((List.flatMap (kidsN ns) (List.range ns.length)).map fun k => (tre ns k).sz).sum = ((allK ns).map fun k => (tre ns k).sz).sum := rfl
  omega
theorem ats_of {ns : List Nd} (g : Nat → Tr) : ∀ ks : List Int, (∀ k, k ∈ ks → (g k.toNat).At ns k) → (ofL ((ks.map Int.toNat).map g)).Ats ns ks
  | [], _ => rfl
  | k :: ks, h => ⟨k, ks, rfl, h k (List.mem_cons_self ..), ats_of g ks (fun q hq => h q (List.mem_cons_of_mem _ hq))⟩
theorem tre_is {ns : List Nd} (h : IsTree ns) : ∀ f i, ns.length ≤ f + i → i < ns.length → (tre ns i).At ns (i : Int)
  | 0, i, hf, hi => by omega
  | f + 1, i, hf, hi => by
    rw [tre_at h i hi]
    have hn : ns[i]? = some ns[i] := List.getElem?_eq_getElem hi
    refine ⟨by omega, ns[i], by simp [hn], ?_, ?_, ?_, ?_, ?_⟩
    · rw [hn]; rfl
    · rw [hn]; rfl
    · rw [hn]; rfl
    · rw [hn]; rfl
    · have e : kidsN ns i = ns[i].ks.map Int.toNat := by unfold kidsN; rw [hn]; rfl
      rw [e]
      apply ats_of
      intro k hk
      have hm := h.more i _ hn k hk
      have := tre_is h f k.toNat (by omega) (by omega)
      rwa [show ((k.toNat : Nat) : Int) = k by omega] at this
theorem tree_of {ns : List Nd} (h : IsTree ns) : ∃ t : Tr, t.At ns 0 ∧ t.sz = ns.length :=
  ⟨tre ns 0, tre_is h ns.length 0 (by omega) h.one, tre_sz h⟩

/-! ### a tree is found out, node by node, kid by kid -/
def pK (ns : List Nd) (i t : Nat) : List Nat := (List.range i).flatMap (kidsN ns) ++ (kidsN ns i).take t
theorem pK_zero (ns : List Nd) : pK ns 0 0 = [] := rfl
theorem kidsN_at {ns : List Nd} {i : Nat} (hi : i < ns.length) : kidsN ns i = (ns[i].ks).map Int.toNat := by
  unfold kidsN; rw [List.getElem?_eq_getElem hi]; rfl
theorem kidsN_out {ns : List Nd} {i : Nat} (hi : ¬ i < ns.length) : kidsN ns i = [] := by
  unfold kidsN; rw [List.getElem?_eq_none (by omega)]; rfl
theorem pK_next {ns : List Nd} {i : Nat} (t : Nat) (h : (kidsN ns i).length ≤ t) : pK ns i t = pK ns (i + 1) 0 := by
  unfold pK
  rw [List.take_of_length_le h, List.range_succ, List.flatMap_append]
  simp
theorem pK_snoc {ns : List Nd} {i t : Nat} (h : t < (kidsN ns i).length) : pK ns i (t + 1) = pK ns i t ++ [(kidsN ns i)[t]] := by
  unfold pK
  rw [List.take_succ_eq_append_getElem h, List.append_assoc]
theorem pK_all (ns : List Nd) : pK ns ns.length 0 = allK ns := by simp [pK, allK]
theorem pK_pre {ns : List Nd} {i t : Nat} (hi : i < ns.length) : ∃ r, allK ns = pK ns i t ++ r := by
  obtain ⟨d, hd⟩ : ∃ d, ns.length = i + 1 + d := ⟨ns.length - (i + 1), by omega⟩
  have e : List.range ns.length = List.range i ++ (i :: (List.range d).map (i + 1 + ·)) := by
    rw [hd, List.range_add, List.range_succ, List.append_assoc]; rfl
  unfold allK pK
  rw [e, List.flatMap_append, List.flatMap_cons]
  refine ⟨(kidsN ns i).drop t ++ ((List.range d).map (i + 1 + ·)).flatMap (kidsN ns), ?_⟩
  rw [List.append_assoc, ← List.append_assoc ((kidsN ns i).take t), List.take_append_drop]
structure PreT (ns : List Nd) (i t : Nat) : Prop where
  node : ∀ (j : Nat) (n : Nd), j < i → ns[j]? = some n → nodeB n = true
  more : ∀ (j : Nat) (n : Nd), j < i → ns[j]? = some n → ∀ k, k ∈ n.ks → (j : Int) < k ∧ k < ns.length
  here : ∀ (n : Nd), ns[i]? = some n → ∀ k, k ∈ n.ks.take t → (i : Int) < k ∧ k < ns.length
  once : (pK ns i t).Nodup
theorem PreT.start (ns : List Nd) : PreT ns 0 0 := ⟨fun _ _ h => by omega, fun _ _ h => by omega, fun _ _ _ hk => by simp at hk, List.Pairwise.nil⟩
theorem PreT.next {ns : List Nd} {i t : Nat} (h : PreT ns i t) (hi : i < ns.length) (hn : nodeB ns[i] = true) (ht : ns[i].ks.length ≤ t) : PreT ns (i + 1) 0 := by
  have hg : ns[i]? = some ns[i] := List.getElem?_eq_getElem hi
  refine ⟨?_, ?_, fun _ _ _ hk => by simp at hk, ?_⟩
  · intro j n hj he
    by_cases hji : j = i
    · subst hji; rw [hg] at he; cases he; exact hn
    · exact h.node j n (by omega) he
  · intro j n hj he k hk
    by_cases hji : j = i
    · subst hji; rw [hg] at he; cases he
      exact h.here _ hg k (by rwa [List.take_of_length_le ht])
    · exact h.more j n (by omega) he k hk
  · rw [← pK_next t (by rw [kidsN_at hi, List.length_map]; exact ht)]
    exact h.once
theorem PreT.kid {ns : List Nd} {i t : Nat} (h : PreT ns i t) (hi : i < ns.length) (ht : t < ns[i].ks.length) (h1 : (i : Int) < ns[i].ks[t]) (h2 : ns[i].ks[t] < ns.length) (h3 : ¬ (ns[i].ks[t]).toNat ∈ pK ns i t) : PreT ns i (t + 1) := by
  have hg : ns[i]? = some ns[i] := List.getElem?_eq_getElem hi
  refine ⟨h.node, h.more, ?_, ?_⟩
  · intro n he k hk
    rw [hg] at he
    cases he
    rw [List.take_succ_eq_append_getElem ht] at hk
    rcases List.mem_append.1 hk with hk | hk
    · exact h.here _ hg k hk
    · rw [List.mem_singleton.1 hk]; exact ⟨h1, h2⟩
  · have hl : t < (kidsN ns i).length := by rw [kidsN_at hi, List.length_map]; exact ht
    have e : (kidsN ns i)[t] = (ns[i].ks[t]).toNat := by simp [kidsN_at hi]
    rw [pK_snoc hl, e]
    rw [List.nodup_append]
    refine ⟨h.once, by simp, ?_⟩
    intro a ha b hb
    rw [List.mem_singleton.1 hb]
    exact fun e => h3 (e ▸ ha)
theorem PreT.lt {ns : List Nd} {i t : Nat} (h : PreT ns i t) : ∀ x, x ∈ pK ns i t → 1 ≤ x ∧ x < ns.length := by
  intro x hx
  rcases List.mem_append.1 hx with hx | hx
  · obtain ⟨j, hj, hx⟩ := List.mem_flatMap.1 hx
    rw [List.mem_range] at hj
    obtain ⟨q, hq, rfl⟩ := List.mem_map.1 hx
    by_cases hl : j < ns.length
    · rw [List.getElem?_eq_getElem hl] at hq
      have := h.more j _ hj (List.getElem?_eq_getElem hl) q hq
      omega
    · rw [List.getElem?_eq_none (by omega)] at hq
      exact absurd hq (by simp [default])
  · by_cases hl : i < ns.length
    · rw [kidsN_at hl, ← List.map_take] at hx
      obtain ⟨q, hq, rfl⟩ := List.mem_map.1 hx
      have := h.here _ (List.getElem?_eq_getElem hl) q hq
      omega
    · rw [kidsN_out hl] at hx
      simp at hx
theorem no_node {ns : List Nd} {i : Nat} (hi : i < ns.length) (h : nodeB ns[i] = false) : ¬ IsTree ns := fun t => by
  have := t.node i _ (List.getElem?_eq_getElem hi); rw [h] at this; cases this
theorem no_kid {ns : List Nd} {i t : Nat} (hi : i < ns.length) (ht : t < ns[i].ks.length) (h : ns[i].ks[t] ≤ (i : Int) ∨ (ns.length : Int) ≤ ns[i].ks[t]) : ¬ IsTree ns := fun hT => by
  have := hT.more i _ (List.getElem?_eq_getElem hi) _ (List.getElem_mem ht)
  omega
theorem no_twice {ns : List Nd} {i t : Nat} (hi : i < ns.length) (ht : t < ns[i].ks.length) (h : (ns[i].ks[t]).toNat ∈ pK ns i t) : ¬ IsTree ns := fun hT => by
  obtain ⟨r, hr⟩ := pK_pre (ns := ns) (t := t + 1) hi
  have hl : t < (kidsN ns i).length := by rw [kidsN_at hi, List.length_map]; exact ht
  have e : (kidsN ns i)[t] = (ns[i].ks[t]).toNat := by simp [kidsN_at hi]
  have ho := hT.once
  rw [hr, pK_snoc hl, e, List.nodup_append] at ho
  have h2 := (List.nodup_append.1 ho.1).2.2
  exact h2 _ h _ (List.mem_singleton_self _) rfl
theorem pre_all {ns : List Nd} (h : PreT ns ns.length 0) (h1 : 1 ≤ ns.length) (h2 : ns.length ≤ 256) : IsTree ns ↔ (pK ns ns.length 0).length = ns.length - 1 := by
  constructor
  · intro hT; rw [pK_all]; exact hT.each
  · intro he
    rw [pK_all] at he
    have ho := h.once
    rw [pK_all] at ho
    exact ⟨h1, h2, fun i n hn => h.node i n (List.getElem?_eq_some_iff.1 hn).1 hn, fun i n hn => h.more i n (List.getElem?_eq_some_iff.1 hn).1 hn, ho, he⟩
/-! the document's way: each number is counted -/
structure PreC (ns : List Nd) (i t : Nat) : Prop where
  node : ∀ (j : Nat) (n : Nd), j < i → ns[j]? = some n → nodeB n = true
  more : ∀ (j : Nat) (n : Nd), j < i → ns[j]? = some n → ∀ k, k ∈ n.ks → (j : Int) < k ∧ k < ns.length
  here : ∀ (n : Nd), ns[i]? = some n → ∀ k, k ∈ n.ks.take t → (i : Int) < k ∧ k < ns.length
theorem PreC.start (ns : List Nd) : PreC ns 0 0 := ⟨fun _ _ h => by omega, fun _ _ h => by omega, fun _ _ _ hk => by simp at hk⟩
theorem PreC.next {ns : List Nd} {i t : Nat} (h : PreC ns i t) (hi : i < ns.length) (hn : nodeB ns[i] = true) (ht : ns[i].ks.length ≤ t) : PreC ns (i + 1) 0 := by
  have hg : ns[i]? = some ns[i] := List.getElem?_eq_getElem hi
  refine ⟨?_, ?_, fun _ _ _ hk => by simp at hk⟩
  · intro j n hj he
    by_cases hji : j = i
    · subst hji; rw [hg] at he; cases he; exact hn
    · exact h.node j n (by omega) he
  · intro j n hj he k hk
    by_cases hji : j = i
    · subst hji; rw [hg] at he; cases he
      exact h.here _ hg k (by rwa [List.take_of_length_le ht])
    · exact h.more j n (by omega) he k hk
theorem PreC.kid {ns : List Nd} {i t : Nat} (h : PreC ns i t) (hi : i < ns.length) (ht : t < ns[i].ks.length) (h1 : (i : Int) < ns[i].ks[t]) (h2 : ns[i].ks[t] < ns.length) : PreC ns i (t + 1) := by
  have hg : ns[i]? = some ns[i] := List.getElem?_eq_getElem hi
  refine ⟨h.node, h.more, ?_⟩
  intro n he k hk
  rw [hg] at he
  cases he
  rw [List.take_succ_eq_append_getElem ht] at hk
  rcases List.mem_append.1 hk with hk | hk
  · exact h.here _ hg k hk
  · rw [List.mem_singleton.1 hk]; exact ⟨h1, h2⟩
theorem no_many {ns : List Nd} {i : Nat} (hi : i < ns.length) (h : ns.length ≤ ns[i].ks.length) : ¬ IsTree ns := fun hT => by
  obtain ⟨r, hr⟩ := pK_pre (ns := ns) (t := ns[i].ks.length) hi
  have e := hT.each
  rw [hr] at e
  have hk : (kidsN ns i).length = ns[i].ks.length := by rw [kidsN_at hi, List.length_map]
  unfold pK at e
  rw [List.take_of_length_le (by omega), List.length_append, List.length_append] at e
  have := hT.one
  omega
theorem IsTree.perm {ns : List Nd} (h : IsTree ns) : (0 :: allK ns).Perm (List.range ns.length) := by
  have h1 := h.one
  have hin : ∀ x, x ∈ allK ns → 1 ≤ x ∧ x < ns.length := by
    intro x hx
    obtain ⟨i, hi, hx⟩ := List.mem_flatMap.1 hx
    rw [List.mem_range] at hi
    obtain ⟨q, hq, rfl⟩ := List.mem_map.1 hx
    have hn : ns[i]? = some ns[i] := List.getElem?_eq_getElem hi
    rw [hn] at hq
    have hm := h.more i _ hn q hq
    omega
  apply nodup_range
  · rw [List.nodup_cons]
    exact ⟨fun h0 => by have := (hin 0 h0).1; omega, h.once⟩
  · intro x hx
    rcases List.mem_cons.1 hx with rfl | hx
    · omega
    · exact (hin x hx).2
  · rw [List.length_cons, h.each]; omega
theorem count_all {ns : List Nd} (h : PreC ns ns.length 0) (h1 : 1 ≤ ns.length) (h2 : ns.length ≤ 256) : IsTree ns ↔ ∀ i, 1 ≤ i → i < ns.length → (pK ns ns.length 0).count i = 1 := by
  rw [pK_all]
  constructor
  · intro hT i hi hn
    have e := hT.perm.count_eq i
    rw [List.count_cons_of_ne (by omega)] at e
    rw [e]
    exact List.Nodup.count List.nodup_range |>.trans (if_pos (List.mem_range.2 hn))
  · intro hc
    have hin : ∀ x, x ∈ allK ns → 1 ≤ x ∧ x < ns.length := by
      intro x hx
      obtain ⟨i, hi, hx⟩ := List.mem_flatMap.1 hx
      rw [List.mem_range] at hi
      obtain ⟨q, hq, rfl⟩ := List.mem_map.1 hx
      have hn : ns[i]? = some ns[i] := List.getElem?_eq_getElem hi
      rw [hn] at hq
      have hm := h.more i _ hi hn q hq
      omega
    have hp : (0 :: allK ns).Perm (List.range ns.length) := by
      rw [List.perm_iff_count]
      intro x
      rw [List.Nodup.count List.nodup_range]
      by_cases hx0 : x = 0
      · subst hx0
        rw [List.count_cons_self, List.count_eq_zero_of_not_mem (fun hm => by have := (hin 0 hm).1; omega), if_pos (List.mem_range.2 h1)]
      · rw [List.count_cons_of_ne (by omega)]
        by_cases hxn : x < ns.length
        · rw [hc x (by omega) hxn, if_pos (List.mem_range.2 hxn)]
        · rw [List.count_eq_zero_of_not_mem (fun hm => by have := (hin x hm).2; omega), if_neg (fun hm => hxn (List.mem_range.1 hm))]
    have hd := hp.symm.nodup List.nodup_range
    have hl := hp.length_eq
    rw [List.length_cons, List.length_range] at hl
    exact ⟨h1, h2, fun i n hn => h.node i n (List.getElem?_eq_some_iff.1 hn).1 hn, fun i n hn => h.more i n (List.getElem?_eq_some_iff.1 hn).1 hn, (List.nodup_cons.1 hd).2, by omega⟩

/-! ### turned -/
def Ts.app : Ts → Ts → Ts
  | .nil, b => b
  | .cons t ts, b => .cons t (ts.app b)
def Ts.rev : Ts → Ts
  | .nil => .nil
  | .cons t ts => ts.rev.app (.cons t .nil)
mutual
def Tr.turn : Tr → Tr
  | .nd k r p m ts => .nd k r p m (if k = 6 then ts.turns.rev else ts.turns)
def Ts.turns : Ts → Ts
  | .nil => .nil
  | .cons t ts => .cons t.turn ts.turns
end
theorem Ts.app_sz : ∀ (a b : Ts), (a.app b).sz = a.sz + b.sz
  | .nil, b => by simp [Ts.app, Ts.sz]
  | .cons t ts, b => by simp [Ts.app, Ts.sz, Ts.app_sz ts b]; omega
theorem Ts.rev_sz : ∀ a : Ts, a.rev.sz = a.sz
  | .nil => rfl
  | .cons t ts => by simp [Ts.rev, Ts.app_sz, Ts.rev_sz ts, Ts.sz]; omega
mutual
theorem Tr.turn_sz : ∀ t : Tr, t.turn.sz = t.sz
  | .nd k r p m ts => by
    have := Ts.turns_sz ts
    unfold Tr.turn
    split <;> simp [Tr.sz, Ts.rev_sz, this]
theorem Ts.turns_sz : ∀ t : Ts, t.turns.sz = t.sz
  | .nil => rfl
  | .cons t ts => by simp [Ts.turns, Ts.sz, Tr.turn_sz t, Ts.turns_sz ts]
end
theorem Ts.Ats_app {ns : List Nd} : ∀ {a b : Ts} {x y : List Int}, a.Ats ns x → b.Ats ns y → (a.app b).Ats ns (x ++ y)
  | .nil, _, _, _, h, k => by have h' : _ = [] := h; subst h'; exact k
  | .cons t ts, _, _, _, h, k => by
    obtain ⟨i, is', rfl, h1, h2⟩ := h
    exact ⟨i, _, rfl, h1, Ts.Ats_app h2 k⟩
theorem Ts.Ats_rev {ns : List Nd} : ∀ {a : Ts} {x : List Int}, a.Ats ns x → a.rev.Ats ns x.reverse
  | .nil, _, h => by have h' : _ = [] := h; subst h'; exact rfl
  | .cons t ts, _, h => by
    obtain ⟨i, is', rfl, h1, h2⟩ := h
    rw [List.reverse_cons]
    exact Ts.Ats_app (Ts.Ats_rev h2) ⟨i, [], rfl, h1, rfl⟩
def Nd.turn (n : Nd) : Nd := if n.k = 6 then { n with ks := n.ks.reverse } else n
theorem Nd.turn_k (n : Nd) : n.turn.k = n.k ∧ n.turn.r = n.r ∧ n.turn.p = n.p ∧ n.turn.m = n.m := by unfold Nd.turn; split <;> simp
mutual
theorem Tr.At_turn {ns : List Nd} : ∀ {t : Tr} {i : Int}, t.At ns i → t.turn.At (ns.map Nd.turn) i
  | .nd k r p m ts, i, h => by
    obtain ⟨h0, n, hn, rfl, rfl, rfl, rfl, hk⟩ := h
    have ht := n.turn_k
    refine ⟨h0, n.turn, by rw [List.getElem?_map, hn]; rfl, ht.1, ht.2.1, ht.2.2.1, ht.2.2.2, ?_⟩
    have h2 := Ts.Ats_turn hk
    unfold Nd.turn
    split
    · exact Ts.Ats_rev h2
    · exact h2
theorem Ts.Ats_turn {ns : List Nd} : ∀ {t : Ts} {x : List Int}, t.Ats ns x → t.turns.Ats (ns.map Nd.turn) x
  | .nil, _, h => h
  | .cons t ts, _, h => by
    obtain ⟨i, is', rfl, h1, h2⟩ := h
    exact ⟨i, is', rfl, Tr.At_turn h1, Ts.Ats_turn h2⟩
end
end Go.Proofs.YtmechinlaladiaaDoor
namespace Go.Proofs.YtmechinlaladiaaDoor
open Go.Lib

def dR (s : ByteArray) (p : Nat) : Nat := (Utf8.decode s p).1
def dW (s : ByteArray) (p : Nat) : Nat := (Utf8.decode s p).2
def brk (s : ByteArray) (p : Nat) : Bool := decide (dR s p = 65533 ∧ dW s p = 1)

theorem get_lt (s : ByteArray) (i : Nat) (h : i < s.size) : s.get! i = s[i]'h := by
  simp [ByteArray.get!, getElem!_pos, h]
  rfl

/-- What a decode that is not broken says of the bytes. -/
theorem shapeN (n b0 b1 b2 b3 c k : Nat) (h0 : b0 < 256) (h1 : b1 < 256) (h : decodeN n b0 b1 b2 b3 = (c, k)) (hb : ¬ (c = 65533 ∧ k = 1)) :
    (k = 1 ∧ c < 128 ∧ b0 = c) ∨ (k = 2 ∧ 1 < n ∧ 128 ≤ c ∧ c < 2048 ∧ b0 = 192 + c / 64 ∧ b1 = 128 + c % 64) ∨
    (k = 3 ∧ 2 < n ∧ 2048 ≤ c ∧ c < 65536 ∧ (c < 55296 ∨ 57344 ≤ c) ∧ b0 = 224 + c / 4096 ∧ b1 = 128 + c / 64 % 64 ∧ b2 = 128 + c % 64) ∨
    (k = 4 ∧ 3 < n ∧ 65536 ≤ c ∧ c ≤ 1114111 ∧ b0 = 240 + c / 262144 ∧ b1 = 128 + c / 4096 % 64 ∧ b2 = 128 + c / 64 % 64 ∧ b3 = 128 + c % 64) := by
  unfold decodeN at h
  by_cases a0 : b0 < 128
  · rw [if_pos a0] at h
    simp only [Prod.mk.injEq] at h
    exact .inl (by omega)
  rw [if_neg a0] at h
  by_cases a1 : b0 / 32 = 6 ∧ (1 < n ∧ b1 / 64 = 2)
  · rw [if_pos a1] at h
    split at h
    · simp only [Prod.mk.injEq] at h
      exact .inr (.inl (by omega))
    · simp only [Prod.mk.injEq] at h
      exact absurd ⟨h.1.symm, h.2.symm⟩ hb
  rw [if_neg a1] at h
  by_cases a2 : b0 / 16 = 14 ∧ (1 < n ∧ b1 / 64 = 2) ∧ (2 < n ∧ b2 / 64 = 2)
  · rw [if_pos a2] at h
    split at h
    · simp only [Prod.mk.injEq] at h
      exact .inr (.inr (.inl (by omega)))
    · simp only [Prod.mk.injEq] at h
      exact absurd ⟨h.1.symm, h.2.symm⟩ hb
  rw [if_neg a2] at h
  by_cases a3 : b0 / 8 = 30 ∧ (1 < n ∧ b1 / 64 = 2) ∧ (2 < n ∧ b2 / 64 = 2) ∧ (3 < n ∧ b3 / 64 = 2)
  · rw [if_pos a3] at h
    split at h
    · simp only [Prod.mk.injEq] at h
      exact .inr (.inr (.inr (by omega)))
    · simp only [Prod.mk.injEq] at h
      exact absurd ⟨h.1.symm, h.2.symm⟩ hb
  rw [if_neg a3] at h
  simp only [Prod.mk.injEq] at h
  exact absurd ⟨h.1.symm, h.2.symm⟩ hb

/-- .. and the way back: bytes of that form decode to that rune. -/
theorem unshape2 (n b0 b1 b2 b3 c : Nat) (hn : 1 < n) (h1 : 128 ≤ c) (h2 : c < 2048) (e0 : b0 = 192 + c / 64) (e1 : b1 = 128 + c % 64) : decodeN n b0 b1 b2 b3 = (c, 2) := by
  have a0 : ¬ b0 < 128 := by omega
  have a1 : b0 / 32 = 6 ∧ (1 < n ∧ b1 / 64 = 2) := by omega
  have a2 : b0 % 32 * 64 + b1 % 64 ≥ 128 := by omega
  unfold decodeN
  rw [if_neg a0, if_pos a1, if_pos a2]
  simp only [Prod.mk.injEq, and_true]
  omega
theorem unshape3 (n b0 b1 b2 b3 c : Nat) (hn : 2 < n) (h1 : 2048 ≤ c) (h2 : c < 65536) (hs : c < 55296 ∨ 57344 ≤ c) (e0 : b0 = 224 + c / 4096) (e1 : b1 = 128 + c / 64 % 64) (e2 : b2 = 128 + c % 64) : decodeN n b0 b1 b2 b3 = (c, 3) := by
  have a0 : ¬ b0 < 128 := by omega
  have a1 : ¬ (b0 / 32 = 6 ∧ (1 < n ∧ b1 / 64 = 2)) := by omega
  have a2 : b0 / 16 = 14 ∧ (1 < n ∧ b1 / 64 = 2) ∧ (2 < n ∧ b2 / 64 = 2) := by omega
  have hc : b0 % 16 * 4096 + b1 % 64 * 64 + b2 % 64 = c := by omega
  unfold decodeN
  rw [if_neg a0, if_neg a1, if_pos a2, hc, if_pos (by omega)]
theorem unshape4 (n b0 b1 b2 b3 c : Nat) (hn : 3 < n) (h1 : 65536 ≤ c) (h2 : c ≤ 1114111) (e0 : b0 = 240 + c / 262144) (e1 : b1 = 128 + c / 4096 % 64) (e2 : b2 = 128 + c / 64 % 64) (e3 : b3 = 128 + c % 64) : decodeN n b0 b1 b2 b3 = (c, 4) := by
  have a0 : ¬ b0 < 128 := by omega
  have a1 : ¬ (b0 / 32 = 6 ∧ (1 < n ∧ b1 / 64 = 2)) := by omega
  have a2 : ¬ (b0 / 16 = 14 ∧ (1 < n ∧ b1 / 64 = 2) ∧ (2 < n ∧ b2 / 64 = 2)) := by omega
  have a3 : b0 / 8 = 30 ∧ (1 < n ∧ b1 / 64 = 2) ∧ (2 < n ∧ b2 / 64 = 2) ∧ (3 < n ∧ b3 / 64 = 2) := by omega
  have hc : b0 % 8 * 262144 + b1 % 64 * 4096 + b2 % 64 * 64 + b3 % 64 = c := by omega
  unfold decodeN
  rw [if_neg a0, if_neg a1, if_neg a2, if_pos a3, hc, if_pos (by omega)]

theorem get_u8 (s : ByteArray) (i : Nat) : (s.get! i).toNat < 256 := (s.get! i).toNat_lt

theorem shape (s : ByteArray) (p : Nat) (hb : brk s p = false) :
    (dW s p = 1 ∧ dR s p < 128 ∧ (s.get! p).toNat = dR s p) ∨
    (dW s p = 2 ∧ p + 1 < s.size ∧ 128 ≤ dR s p ∧ dR s p < 2048 ∧ (s.get! p).toNat = 192 + dR s p / 64 ∧ (s.get! (p + 1)).toNat = 128 + dR s p % 64) ∨
    (dW s p = 3 ∧ p + 2 < s.size ∧ 2048 ≤ dR s p ∧ dR s p < 65536 ∧ (dR s p < 55296 ∨ 57344 ≤ dR s p) ∧ (s.get! p).toNat = 224 + dR s p / 4096 ∧ (s.get! (p + 1)).toNat = 128 + dR s p / 64 % 64 ∧ (s.get! (p + 2)).toNat = 128 + dR s p % 64) ∨
    (dW s p = 4 ∧ p + 3 < s.size ∧ 65536 ≤ dR s p ∧ dR s p ≤ 1114111 ∧ (s.get! p).toNat = 240 + dR s p / 262144 ∧ (s.get! (p + 1)).toNat = 128 + dR s p / 4096 % 64 ∧ (s.get! (p + 2)).toNat = 128 + dR s p / 64 % 64 ∧ (s.get! (p + 3)).toNat = 128 + dR s p % 64) := by
  have h := decode_at s p
  have hb' : ¬ (dR s p = 65533 ∧ dW s p = 1) := by simpa [brk] using hb
  rcases shapeN _ _ _ _ _ (dR s p) (dW s p) (get_u8 s p) (get_u8 s (p + 1)) h.symm hb' with c | c | c | c
  · exact .inl c
  · exact .inr (.inl ⟨c.1, by omega, c.2.2⟩)
  · exact .inr (.inr (.inl ⟨c.1, by omega, c.2.2⟩))
  · exact .inr (.inr (.inr ⟨c.1, by omega, c.2.2⟩))

theorem brk_eq (s : ByteArray) (p : Nat) (hb : brk s p = true) : dR s p = 65533 ∧ dW s p = 1 := by simpa [brk] using hb

theorem dW_pos (s : ByteArray) (p : Nat) : 1 ≤ dW s p := by
  cases hb : brk s p with
  | true => have := brk_eq s p hb; omega
  | false => have := shape s p hb; omega
theorem dW_le4 (s : ByteArray) (p : Nat) : dW s p ≤ 4 := by
  cases hb : brk s p with
  | true => have := brk_eq s p hb; omega
  | false => have := shape s p hb; omega
theorem dW_fits (s : ByteArray) (p : Nat) (h : p < s.size) : p + dW s p ≤ s.size := by
  cases hb : brk s p with
  | true => have := brk_eq s p hb; omega
  | false => have := shape s p hb; omega
theorem dR_le (s : ByteArray) (p : Nat) : dR s p ≤ 1114111 := by
  cases hb : brk s p with
  | true => have := brk_eq s p hb; omega
  | false => have := shape s p hb; omega
theorem dR_rune (s : ByteArray) (p : Nat) : dR s p < 55296 ∨ 57344 ≤ dR s p := by
  cases hb : brk s p with
  | true => have := brk_eq s p hb; omega
  | false => have := shape s p hb; omega
/-- A broken piece's byte is from 128 on. -/
theorem brk_high (s : ByteArray) (p : Nat) (hb : brk s p = true) : 128 ≤ (s.get! p).toNat := by
  have h := decode_at s p
  have := brk_eq s p hb
  unfold decodeN at h
  by_cases h0 : (s.get! p).toNat < 128
  · rw [if_pos h0] at h
    have e1 : dR s p = (s.get! p).toNat := congrArg Prod.fst h
    omega
  · omega
theorem dec_low (s : ByteArray) (p : Nat) (h : (s.get! p).toNat < 128) : dR s p = (s.get! p).toNat ∧ dW s p = 1 := by
  have e := decode_at s p
  unfold decodeN at e
  rw [if_pos h] at e
  exact ⟨congrArg Prod.fst e, congrArg Prod.snd e⟩

/-! ### the row of pieces, and of texts -/

/-- A piece's place in the row; a: what a broken byte lies behind. -/
def rkA (a : Nat) (s : ByteArray) (p : Nat) : Nat := if brk s p then a + (s.get! p).toNat else dR s p
def rk (s : ByteArray) (p : Nat) : Nat := rkA 1114112 s p
def wt (s : ByteArray) (p : Nat) : Nat := rkA 2097152 s p

theorem rkA_lt (a : Nat) (ha : 1114112 ≤ a) (s t : ByteArray) (p q : Nat) : decide (rkA a s p < rkA a t q) = decide (rkA 1114112 s p < rkA 1114112 t q) := by
  have := dR_le s p; have := dR_le t q; have := get_u8 s p; have := get_u8 t q
  unfold rkA
  rw [decide_eq_decide]
  split <;> split <;> omega
theorem rkA_eq (a : Nat) (ha : 1114112 ≤ a) (s t : ByteArray) (p q : Nat) : (rkA a s p = rkA a t q) ↔ (rkA 1114112 s p = rkA 1114112 t q) := by
  have := dR_le s p; have := dR_le t q; have := get_u8 s p; have := get_u8 t q
  unfold rkA
  split <;> split <;> omega
theorem rk_le (s : ByteArray) (p : Nat) : rk s p < 1114368 := by
  have := dR_le s p; have := get_u8 s p
  unfold rk rkA
  split <;> omega
theorem wt_le (s : ByteArray) (p : Nat) : wt s p < 2097408 := by
  have := dR_le s p; have := get_u8 s p
  unfold wt rkA
  split <;> omega

/-- Pieces of one place in the row are the same bytes. -/
theorem rk_same (s t : ByteArray) (p q : Nat) (h : rk s p = rk t q) : dW s p = dW t q ∧ ∀ i, i < dW s p → s.get! (p + i) = t.get! (q + i) := by
  have := dR_le s p; have := dR_le t q; have := get_u8 s p; have := get_u8 t q
  unfold rk rkA at h
  cases hs : brk s p <;> cases ht : brk t q <;> simp only [hs, ht, if_true, if_false, Bool.false_eq_true] at h
  · have a := shape s p hs
    have b := shape t q ht
    have hw : dW s p = dW t q := by omega
    refine ⟨hw, fun i hi => ?_⟩
    have h4 := dW_le4 s p
    apply UInt8.toNat_inj.1
    match i, hi with
    | 0, _ => rw [Nat.add_zero, Nat.add_zero]; omega
    | 1, _ => omega
    | 2, _ => omega
    | 3, _ => omega
    | i + 4, _ => omega
  · omega
  · omega
  · have a := brk_eq s p hs
    have b := brk_eq t q ht
    refine ⟨by omega, fun i hi => ?_⟩
    obtain rfl : i = 0 := by omega
    apply UInt8.toNat_inj.1
    rw [Nat.add_zero, Nat.add_zero]
    omega

/-- Two texts against each other, from place p on, where they are alike ahead of it. -/
def lessF (a b : ByteArray) : Nat → Nat → Bool
  | 0, _ => decide (a.size < b.size)
  | f + 1, p => if p < a.size then (if p < b.size then (if rk a p = rk b p then lessF a b f (p + dW a p) else decide (rk a p < rk b p)) else false) else decide (a.size < b.size)

/-- Alike ahead of p. -/
def Alike (a b : ByteArray) (p : Nat) : Prop := p ≤ a.size ∧ p ≤ b.size ∧ ∀ i, i < p → a.get! i = b.get! i
theorem Alike.zero (a b : ByteArray) : Alike a b 0 := ⟨Nat.zero_le _, Nat.zero_le _, fun i hi => by omega⟩
theorem Alike.step {a b : ByteArray} {p : Nat} (h : Alike a b p) (ha : p < a.size) (hb : p < b.size) (hr : rk a p = rk b p) : Alike a b (p + dW a p) := by
  obtain ⟨hw, hi⟩ := rk_same a b p p hr
  have := dW_fits a p ha
  have := dW_fits b p hb
  refine ⟨by omega, by omega, fun i h1 => ?_⟩
  by_cases h2 : i < p
  · exact h.2.2 i h2
  · have := hi (i - p) (by omega)
    rwa [show p + (i - p) = i by omega] at this

theorem lessF_end (a b : ByteArray) (f p : Nat) (h : ¬ p < a.size) : lessF a b f p = decide (a.size < b.size) := by
  cases f <;> simp [lessF, h]
theorem lessF_out (a b : ByteArray) (f p : Nat) (hf : a.size ≤ p + f) (h : p < a.size) (hb : ¬ p < b.size) : lessF a b f p = false := by
  cases f with
  | zero => omega
  | succ f => simp [lessF, h, hb]
theorem lessF_step (a b : ByteArray) (f p : Nat) (hf : a.size ≤ p + f) (h : p < a.size) (hb : p < b.size) (hr : rk a p = rk b p) : lessF a b f p = lessF a b (f - 1) (p + dW a p) := by
  cases f with
  | zero => omega
  | succ f => simp [lessF, h, hb, hr]
theorem lessF_ne (a b : ByteArray) (f p : Nat) (hf : a.size ≤ p + f) (h : p < a.size) (hb : p < b.size) (hr : rk a p ≠ rk b p) : lessF a b f p = decide (rk a p < rk b p) := by
  cases f with
  | zero => omega
  | succ f => simp [lessF, h, hb, hr]

/-- THE ROW OF TEXTS. -/
def less (a b : ByteArray) : Bool := lessF a b a.size 0

/-! ### where pieces begin -/
def startsF (s : ByteArray) : Nat → Nat → List Nat
  | 0, _ => []
  | f + 1, p => if p < s.size then p :: startsF s f (p + dW s p) else []
def starts (s : ByteArray) : List Nat := startsF s s.size 0
theorem startsF_end (s : ByteArray) (f p : Nat) (h : ¬ p < s.size) : startsF s f p = [] := by cases f <;> simp [startsF, h]
theorem startsF_le (s : ByteArray) : ∀ f p, (startsF s f p).length ≤ s.size - p
  | 0, _ => by simp [startsF]
  | f + 1, p => by
    have ih := startsF_le s f (p + dW s p)
    have := dW_pos s p
    unfold startsF
    split
    · simp; omega
    · simp
theorem startsF_mem (s : ByteArray) : ∀ f p q, q ∈ startsF s f p → q < s.size
  | 0, _, _, h => by simp [startsF] at h
  | f + 1, p, q, h => by
    unfold startsF at h
    split at h
    · rcases List.mem_cons.1 h with rfl | h
      · assumption
      · exact startsF_mem s f _ q h
    · simp at h
/-- More fuel than there are bytes left changes nothing. -/
theorem startsF_fuel (s : ByteArray) : ∀ f g p, s.size ≤ p + f → s.size ≤ p + g → startsF s f p = startsF s g p
  | 0, g, p, h, _ => by rw [startsF_end s g p (by omega)]; rfl
  | f + 1, 0, p, _, h => by rw [startsF_end s (f + 1) p (by omega)]; rfl
  | f + 1, g + 1, p, h, k => by
    have := dW_pos s p
    unfold startsF
    split
    · rw [startsF_fuel s f g (p + dW s p) (by omega) (by omega)]
    · rfl

/-- The two lists of pieces, walked side by side, say the same as 'lessF'. -/
def lessL (s t : ByteArray) : List Nat → List Nat → Bool
  | [], [] => false
  | [], _ :: _ => true
  | _ :: _, [] => false
  | p :: l, q :: m => if wt s p = wt t q then lessL s t l m else decide (wt s p < wt t q)

theorem lessL_eq (a b : ByteArray) : ∀ f p, a.size ≤ p + f → b.size ≤ p + f → Alike a b p → lessL a b (startsF a f p) (startsF b f p) = lessF a b f p
  | 0, p, ha, hb, hA => by
    have := hA.1; have := hA.2.1
    simp [startsF, lessL, lessF]
    omega
  | f + 1, p, ha, hb, hA => by
    have hp1 := hA.1; have hp2 := hA.2.1
    unfold startsF lessF
    by_cases h1 : p < a.size
    · by_cases h2 : p < b.size
      · rw [if_pos h1, if_pos h2, if_pos h1, if_pos h2]
        unfold lessL
        by_cases hr : rk a p = rk b p
        · have hw : wt a p = wt b p := (rkA_eq 2097152 (by omega) a b p p).2 hr
          have := dW_pos a p
          rw [if_pos hw, if_pos hr, ← (rk_same a b p p hr).1]
          exact lessL_eq a b f _ (by omega) (by omega) (hA.step h1 h2 hr)
        · have hw : ¬ wt a p = wt b p := fun h => hr ((rkA_eq 2097152 (by omega) a b p p).1 h)
          rw [if_neg hw, if_neg hr]
          exact rkA_lt 2097152 (by omega) a b p p
      · rw [if_pos h1, if_neg h2, if_pos h1, if_neg h2]
        rfl
    · by_cases h2 : p < b.size
      · rw [if_neg h1, if_pos h2, if_neg h1]
        simp [lessL]
        omega
      · rw [if_neg h1, if_neg h2, if_neg h1]
        simp [lessL]
        omega
theorem lessL_less (a b : ByteArray) : lessL a b (starts a) (starts b) = less a b := by
  have h := lessL_eq a b (a.size + b.size) 0 (by omega) (by omega) (Alike.zero a b)
  have e1 : startsF a (a.size + b.size) 0 = starts a := startsF_fuel a _ _ 0 (by omega) (by omega)
  have e2 : startsF b (a.size + b.size) 0 = starts b := startsF_fuel b _ _ 0 (by omega) (by omega)
  rw [e1, e2] at h
  rw [h]
  have key : ∀ f g p, a.size ≤ p + f → a.size ≤ p + g → lessF a b f p = lessF a b g p := by
    intro f
    induction f with
    | zero => intro g p h1 _; rw [lessF_end a b g p (by omega), lessF_end a b 0 p (by omega)]
    | succ f ih =>
      intro g p h1 h2
      by_cases ha : p < a.size
      · have := dW_pos a p
        by_cases hb : p < b.size
        · by_cases hr : rk a p = rk b p
          · rw [lessF_step a b (f + 1) p h1 ha hb hr, lessF_step a b g p h2 ha hb hr]
            exact ih _ _ (by omega) (by omega)
          · rw [lessF_ne a b (f + 1) p h1 ha hb hr, lessF_ne a b g p h2 ha hb hr]
        · rw [lessF_out a b (f + 1) p h1 ha hb, lessF_out a b g p h2 ha hb]
      · rw [lessF_end a b (f + 1) p ha, lessF_end a b g p ha]
  exact key _ _ _ (by omega) (by omega)
end Go.Proofs.YtmechinlaladiaaDoor
