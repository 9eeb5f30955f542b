/-
  slices.Sort AND slices.Compact AT []rune: behind both the length tells whether no rune stood twice; nothing below the row's own block has turned.
-/
import Derived.Test.YtcibjgkifafohaaDoorSort7
import Derived.Test.YtcibjgkifafohaaDoorShelf
namespace Go.Proofs.YtcibjgkifafohaaDoor
open Go.RowKit Go.Lib Go.Sort
set_option linter.unusedVariables false

set_option maxHeartbeats 400000 in
theorem sort_any (blk off cap n : Nat) (d0 d : Array Int) (w0 w : World) (R : RowR w0 blk off d0) (S : SR w0 blk off d w) (hd0 : d0.size = n) (hd : d.size = n) (hsz : n < 4611686018427387904) :
    Calls Tryd.prog 137 #[.slice (some ⟨blk, off, none⟩) n cap] w (PdqPost w0 blk off n 0 n d) := by
  have hk : (Lib.bitLen n : Int) ≤ 100 ∧ 0 ≤ (Lib.bitLen n : Int) := by
    have h2 := (bitsLen_le_iff n 62).2 (by omega)
    rw [bitLen_eq n (by omega)]
    omega
  have HD := Lib.hid hd; have HD0 := Lib.hid hd0; have S0 := Lib.hid S
  obtain ⟨L, hL⟩ : ∃ L : Nat, L = Lib.bitLen n := ⟨_, rfl⟩
  have hLen : ∀ w, Calls Tryd.prog 90 #[.int .u64 (n : Int)] w fun e w' => e = .returned (.int .i64 (L : Int)) ∧ w' = w := fun w => by
    have h := Tryd.bits_Len (n : Int) w (by omega) (by omega)
    rw [Int.toNat_natCast, ← hL] at h
    exact h
  rw [← hL] at hk
  have HLen := Lib.hid hLen
  clear hd hd0 S hL hLen
  go_enter Tryd.func137, Tryd.ntmps137
  go_wp2_with fail
  refine (HLen.out _).mono ?_
  rintro e w1 ⟨rfl, rfl⟩
  go_wp2_with fail
  refine (pdq_any (n - 0 + 1) blk off cap 0 n L n d0 d w0 _ (by omega) R S0.out HD0.out HD.out (Nat.zero_le _) (Nat.le_refl _) hsz (by omega) (Or.inl rfl)).mono ?_
  rintro e w2 ⟨d', rfl, hs', hp', hso', S'⟩
  have AS := Lib.hid S'
  clear S'
  go_wp2_with fail
  go_end0
  exact ⟨d', rfl, hs', hp', hso', AS.out⟩

theorem comp_len (d : Array Int) (n : Nat) (hd : d.size = n) (hs : SortedIn ltInt 0 n d) : (compactUpTo d n).length = n ↔ d.toList.Nodup := by
  have e : (compactUpTo d n).length = ((List.range n).filter (keeps d)).length := by simp [compactUpTo]
  have h1 : ((List.range n).filter (keeps d)).length = n ↔ ∀ j, j < n → keeps d j = true := by
    have h := List.length_filter_eq_length_iff (p := keeps d) (l := List.range n)
    rw [List.length_range] at h
    rw [h]
    simp [List.mem_range]
  rw [e, h1]
  unfold List.Nodup
  rw [List.pairwise_iff_getElem]
  have eg : ∀ i (h : i < d.toList.length), d.toList[i] = d[i]! := fun i h => by
    rw [Array.getElem_toList, getElem!_pos d i (by simpa using h)]
  constructor
  · intro h i j hi hj hij
    rw [eg i hi, eg j hj]
    have hj' : j < n := by rw [← hd]; simpa using hj
    have k := h j hj'
    unfold keeps at k
    have k2 : d[j]! ≠ d[j - 1]! := by
      rcases (of_decide_eq_true k) with h0 | h0
      · omega
      · exact h0
    have s1 := lt_f.1 (hs (j - 1) j (by omega) (by omega) hj')
    by_cases hij' : i = j - 1
    · subst hij'; exact fun he => k2 he.symm
    · have s2 := lt_f.1 (hs i (j - 1) (by omega) (by omega) (by omega))
      omega
  · intro h j hj
    unfold keeps
    apply decide_eq_true
    by_cases h0 : j = 0
    · exact Or.inl h0
    · refine Or.inr ?_
      have := h (j - 1) j (by simp; omega) (by simp; omega) (by omega)
      rw [eg, eg] at this
      exact fun he => this he.symm

theorem sw_below {w0 W : World} {blk off : Nat} {d : Array Int} (hblk : blk < w0.heap.size) (S : SR w0 blk off d W) : RowKit.Below blk w0 W := by
  obtain ⟨n, os, rfl⟩ := S
  refine ⟨rfl, rfl, rfl, ?_, fun k hk => ?_⟩
  · unfold sortWorld
    rw [size_grow]
    simp [putRow, mapBlock]
  · unfold sortWorld
    rw [heap_grow_old _ _ (by simp [putRow, mapBlock]; omega)]
    show ((Sort.ahead w0 n).heap.modify blk _)[k]? = _
    rw [Array.getElem?_modify, if_neg (by omega)]
    rfl
theorem putRow_below (w : World) (q blk off : Nat) (d : Array Int) : RowKit.Below blk w (putRow E32 (Sort.ahead w q) blk off d) := by
  refine ⟨rfl, rfl, rfl, by simp [putRow, mapBlock], fun k hk => ?_⟩
  show ((Sort.ahead w q).heap.modify blk _)[k]? = _
  rw [Array.getElem?_modify, if_neg (by omega)]
  rfl

def CompPost (blk off n cap : Nat) (d : Array Int) (w : World) (e : Ending) (w' : World) : Prop :=
  ∃ k : Nat, e = .returned (.slice (some ⟨blk, off, none⟩) k cap) ∧ (k = n ↔ d.toList.Nodup) ∧ k ≤ n ∧ RowKit.Below blk w w'

theorem compact_any (blk off cap n : Nat) (d0 d : Array Int) (w0 w : World) (R : RowR w0 blk off d0) (S : SR w0 blk off d w) (hd0 : d0.size = n) (hd : d.size = n) (hsz : n < 4611686018427387904) (hcap : n ≤ cap) (hs : SortedIn ltInt 0 n d) :
    Calls Tryd.prog 138 #[.slice (some ⟨blk, off, none⟩) n cap] w (CompPost blk off n cap d w) := by
  have hH := SW.holds S R.hblk R.hH (by rw [hd, hd0])
  have h := AnyE.slices_Compact Tryd.compactR_l E32 oneE32 (EqlAt.intD _ _ .i32) (NeqAt.intD _ _ .i32) 0 Tryd.zeroValue21 blk off cap d w hH (by omega) (by omega)
  change Calls Tryd.prog 138 _ _ _ at h
  rw [hd] at h
  refine h.mono ?_
  rintro e w' ⟨rfl, q, rfl⟩
  refine ⟨_, rfl, comp_len d n hd hs, ?_, putRow_below _ _ _ _ _⟩
  simp only [compactUpTo, List.length_map]
  have := List.length_filter_le (keeps d) (List.range n)
  simpa using this

/-- BOTH, ONE BEHIND THE OTHER: whether no rune stood twice. -/
theorem nodup_perm {n : Nat} {d d' : Array Int} (hd : d.size = n) (h : PermIn 0 n d d') : d'.toList.Nodup ↔ d.toList.Nodup := by
  have h2 := h.2.2
  have e1 : d'.extract 0 n = d' := by rw [← hd, ← h.1]; exact Array.extract_size
  have e2 : d.extract 0 n = d := by rw [← hd]; exact Array.extract_size
  rw [e1, e2] at h2
  exact h2.nodup_iff

end Go.Proofs.YtcibjgkifafohaaDoor
