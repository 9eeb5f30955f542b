/-
  WALKS OF THE PROGRAM's runes.walk, once for each closure that is handed to it (made by program: one text): what the closure keeps, piece by piece, is kept through the whole text.
-/
import Derived.Test.YtmbekgfbnapelaaDoorTabs
import Derived.Test.YtmbekgfbnapelaaDoorAll
namespace Go.Proofs.YtmbekgfbnapelaaDoor
open Go.RowKit Go.Lib
set_option linter.unusedVariables false

def IterKept (w w' : World) : Prop := ∀ (j : Nat) (s : ByteArray) (q : Nat), w.heap[j]? = some (.stringIter s q) → w'.heap[j]? = some (.stringIter s q)
def StepPost (s : ByteArray) (B : Nat) (Inv : List Nat → World → Prop) (l : List Nat) (p : Nat) (w : World) (e : Ending) (w' : World) : Prop :=
  e = .returned (.tuple #[]) ∧ Inv (l ++ [p]) w' ∧ Below B w w' ∧ IterKept w w'
def WalkRel (s : ByteArray) (B K : Nat) (Inv : List Nat → World → Prop) (w wr : World) (pos f : Nat) (l : List Nat) : Prop :=
  wr.heap[K]? = some (.stringIter s pos) ∧ Inv l wr ∧ Below B w wr ∧ pos ≤ s.size ∧ s.size ≤ pos + f ∧ starts s = l ++ startsF s f pos
theorem below_iter_any {B : Nat} {w : World} {k : Nat} {s : ByteArray} (pos : Nat) (hk : B ≤ k) : Below B w (w.iterAt k s pos) := Lib.below_iterAt (Below.refl B w) hk s pos
theorem starts_split {s : ByteArray} {l : List Nat} {f pos : Nat} (h : starts s = l ++ startsF s f pos) (hp : pos < s.size) (hf : s.size ≤ pos + f) : l.length < s.size := by
  have e : (starts s).length ≤ s.size := by simpa [starts] using startsF_le s s.size 0
  rw [h, startsF_cons s f pos hp hf] at e
  simp at e
  omega

set_option maxHeartbeats 1000000 in
theorem walk_pieces (s : ByteArray) (c0 : Value) (B : Nat) (Inv : List Nat → World → Prop) (w : World) (hT : Tabs w) (hB : 0 < B ∧ 1 < B) (hBw : B ≤ w.heap.size) (hs : s.size ≤ 1073741824)
    (hnew : ∀ l w w', Inv l w → Below w.heap.size w w' → Inv l w')
    (hit : ∀ l w k q r, Inv l w → w.heap[k]? = some (.stringIter s q) → Inv l (w.iterAt k s r))
    (hstep : ∀ l p w, Inv l w → p < s.size → l.length < s.size → Calls Tryd.prog 53 #[pieceV s p, c0] w (StepPost s B Inv l p w))
    (h0 : Inv [] w) :
    Calls Tryd.prog 44 #[.string s, .func (Fn.func 53) #[] #[c0]] w fun e w' => e = .returned (.tuple #[]) ∧ Inv (starts s) w' ∧ Below B w w' := by
  have HN := Lib.hid hnew; have HIt := Lib.hid hit; have HS := Lib.hid hstep; have H0 := Lib.hid h0; have HT := Lib.hid hT; have HBB := Lib.hid hB
  clear hnew hit hstep h0 hT hB
  go_enter Tryd.func44, Tryd.ntmps44
  go_wp2
  go_loopw [4] (fun _ wr => ∃ pos f l, WalkRel s B w.heap.size Inv w wr pos f l) (fun _ wr => s.size - wr.iterPos w.heap.size)
  case atStart => exact ⟨0, s.size, [], World.iter_heap _ _ _, HN.out _ _ _ H0.out ((Below.refl _ _).alloc (Nat.le_refl _) _), ((Below.refl _ _).alloc hBw _), by omega, by omega, rfl⟩
  case round =>
    obtain ⟨pos, f, l, hrel⟩ := hrel
    have HR := Lib.hid hrel
    have hit := hrel.1
    have hip : wr.iterPos w.heap.size = pos := by simp [World.iterPos, hit]
    have HP := Lib.hid hip
    have hpl := hrel.2.2.2.1
    have hf := hrel.2.2.2.2.1
    have hsz := hrel.2.2.1.size
    have hszl : w.heap.size < wr.heap.size := (Array.getElem?_eq_some_iff.1 hit).1
    clear hrel hip
    by_cases hp : pos < s.size
    · have hnx := fun ty => Lib.run_next_any_at (P := Tryd.prog) wr w.heap.size s pos ty hit hp
      have hTi := (HT.out.below HBB.out HR.out.2.2.1).iterAt hit (pos + (Utf8.decode s pos).2)
      have hbi := below_iter_any (w := wr) (s := s) (pos + (Utf8.decode s pos).2) (show B ≤ w.heap.size from hBw)
      have hii := Lib.iterAt_heap wr w.heap.size s pos (pos + (Utf8.decode s pos).2) hit
      have his := Lib.iterAt_size wr w.heap.size s (pos + (Utf8.decode s pos).2)
      have hinv := HIt.out l wr w.heap.size pos (pos + (Utf8.decode s pos).2) HR.out.2.1 hit
      have hlen := starts_split HR.out.2.2.2.2.2 hp hf
      obtain ⟨W1, hW1⟩ : ∃ W1, W1 = wr.iterAt w.heap.size s (pos + (Utf8.decode s pos).2) := ⟨_, rfl⟩
      rw [← hW1] at hTi hbi hii his hinv hnx
      have HTI := Lib.hid hTi; have HBI := Lib.hid hbi; have HII := Lib.hid hii; have HIS := Lib.hid his; have HIN := Lib.hid hinv
      have hpc := dW_pos s pos
      have hfit := dW_fits s pos hp
      clear hit hTi hbi hii his hinv hW1
      go_wp2_with fail
      refine (decode_cut s pos _ hp HTI.out).mono ?_
      rintro e w2 ⟨rfl, hb2⟩
      have hin2 := HN.out l _ _ HIN.out hb2
      have hs2 := hb2.size
      have hit2 : w2.heap[w.heap.size]? = some (.stringIter s (pos + (Utf8.decode s pos).2)) := (hb2.block w.heap.size (by have := HIS.out; omega)).trans HII.out
      have hbb2 : Below B wr w2 := HBI.out.trans (hb2.mono (B' := B) (by have := HIS.out; omega))
      have HI2 := Lib.hid hin2; have HIT2 := Lib.hid hit2; have HBB2 := Lib.hid hbb2
      have hstp := HS.out l pos w2 hin2 hp hlen
      unfold pieceV at hstp
      have HST := Lib.hid hstp
      clear hin2 hit2 hbb2 hb2 hnx hstp
      have fin : ∀ w3, StepPost s B Inv l pos w2 (.returned (.tuple #[])) w3 → WalkRel s B w.heap.size Inv w w3 (pos + dW s pos) (f - 1) (l ++ [pos]) := by
        intro w3 h3
        obtain ⟨_, hin3, hb3, hk3⟩ := h3
        refine ⟨hk3 _ _ _ HIT2.out, hin3, HR.out.2.2.1.trans (HBB2.out.trans hb3), hfit, by omega, ?_⟩
        rw [HR.out.2.2.2.2.2, startsF_cons s f pos hp hf]
        simp
      have HF := Lib.hid fin
      clear fin
      have hdR : dR s pos = (Utf8.decode s pos).1 := rfl
      cases hb : brk s pos with
      | true =>
        obtain ⟨e1, e2⟩ := brk_eq s pos hb
        rw [hdR] at e1
        rw [hdR, e1, e2, hb] at HST
        rw [e1, e2]
        clear hb hdR
        have E1 := Lib.hid e1; have E2 := Lib.hid e2
        clear e1 e2
        go_wp2_with fail
        refine HST.out.mono ?_
        rintro e w3 ⟨rfl, h3⟩
        have HR3 := Lib.hid (HF.out w3 ⟨rfl, h3⟩)
        clear h3
        go_wp2_with fail
        go_roundw
        case rel => exact ⟨pos + dW s pos, f - 1, l ++ [pos], HR3.out⟩
        case measure =>
          have e1 : w3.iterPos w.heap.size = pos + dW s pos := by simp [World.iterPos, HR3.out.1]
          rw [e1, HP.out]
          omega
      | false =>
        have hn : ¬ (dR s pos = 65533 ∧ dW s pos = 1) := by simpa [brk] using hb
        rw [hdR] at hn
        rw [hdR, hb] at HST
        rw [hdR]
        clear hb hdR
        obtain ⟨R, hR⟩ : ∃ R, R = (Utf8.decode s pos).1 := ⟨_, rfl⟩
        obtain ⟨K, hK⟩ : ∃ K, K = dW s pos := ⟨_, rfl⟩
        rw [← hR] at HST hn ⊢
        rw [← hK] at HST hn hpc hfit HF ⊢
        have HRk := Lib.hid hR; have HKk := Lib.hid hK
        clear hR hK
        by_cases c1 : R = 65533
        · have c2 : ((K : Int) == 1) = false := by rw [beq_eq_false_iff_ne]; omega
          have c3 : ((R : Int) == 65533) = true := by rw [beq_iff_eq]; omega
          clear hn c1
          go_wp2_with fail
          refine HST.out.mono ?_
          rintro e w3 ⟨rfl, h3⟩
          have HR3 := Lib.hid (HF.out w3 ⟨rfl, h3⟩)
          clear h3
          go_wp2_with fail
          go_roundw
          case rel => exact ⟨pos + K, f - 1, l ++ [pos], HR3.out⟩
          case measure =>
            have e1 : w3.iterPos w.heap.size = pos + K := by simp [World.iterPos, HR3.out.1]
            rw [e1, HP.out]
            omega
        · have c3 : ((R : Int) == 65533) = false := by rw [beq_eq_false_iff_ne]; omega
          clear hn c1
          go_wp2_with fail
          refine HST.out.mono ?_
          rintro e w3 ⟨rfl, h3⟩
          have HR3 := Lib.hid (HF.out w3 ⟨rfl, h3⟩)
          clear h3
          go_wp2_with fail
          go_roundw
          case rel => exact ⟨pos + K, f - 1, l ++ [pos], HR3.out⟩
          case measure =>
            have e1 : w3.iterPos w.heap.size = pos + K := by simp [World.iterPos, HR3.out.1]
            rw [e1, HP.out]
            omega
    · have hnx := fun ty => Lib.run_next_end_at (P := Tryd.prog) wr w.heap.size s pos ty hit hp
      have hst := HR.out.2.2.2.2.2
      rw [startsF_end s f pos hp, List.append_nil] at hst
      have HST := Lib.hid hst
      clear hst hit
      go_wp2_with fail
      go_end0
      exact ⟨rfl, by rw [HST.out]; exact HR.out.2.1, HR.out.2.2.1⟩

set_option maxHeartbeats 1000000 in
theorem walk_quoted (s : ByteArray) (c0 c1 : Value) (B : Nat) (Inv : List Nat → World → Prop) (w : World) (hT : Tabs w) (hB : 0 < B ∧ 1 < B) (hBw : B ≤ w.heap.size) (hs : s.size ≤ 1073741824)
    (hnew : ∀ l w w', Inv l w → Below w.heap.size w w' → Inv l w')
    (hit : ∀ l w k q r, Inv l w → w.heap[k]? = some (.stringIter s q) → Inv l (w.iterAt k s r))
    (hstep : ∀ l p w, Inv l w → p < s.size → l.length < s.size → Calls Tryd.prog 42 #[pieceV s p, c0, c1] w (StepPost s B Inv l p w))
    (h0 : Inv [] w) :
    Calls Tryd.prog 44 #[.string s, .func (Fn.func 42) #[] #[c0, c1]] w fun e w' => e = .returned (.tuple #[]) ∧ Inv (starts s) w' ∧ Below B w w' := by
  have HN := Lib.hid hnew; have HIt := Lib.hid hit; have HS := Lib.hid hstep; have H0 := Lib.hid h0; have HT := Lib.hid hT; have HBB := Lib.hid hB
  clear hnew hit hstep h0 hT hB
  go_enter Tryd.func44, Tryd.ntmps44
  go_wp2
  go_loopw [4] (fun _ wr => ∃ pos f l, WalkRel s B w.heap.size Inv w wr pos f l) (fun _ wr => s.size - wr.iterPos w.heap.size)
  case atStart => exact ⟨0, s.size, [], World.iter_heap _ _ _, HN.out _ _ _ H0.out ((Below.refl _ _).alloc (Nat.le_refl _) _), ((Below.refl _ _).alloc hBw _), by omega, by omega, rfl⟩
  case round =>
    obtain ⟨pos, f, l, hrel⟩ := hrel
    have HR := Lib.hid hrel
    have hit := hrel.1
    have hip : wr.iterPos w.heap.size = pos := by simp [World.iterPos, hit]
    have HP := Lib.hid hip
    have hpl := hrel.2.2.2.1
    have hf := hrel.2.2.2.2.1
    have hsz := hrel.2.2.1.size
    have hszl : w.heap.size < wr.heap.size := (Array.getElem?_eq_some_iff.1 hit).1
    clear hrel hip
    by_cases hp : pos < s.size
    · have hnx := fun ty => Lib.run_next_any_at (P := Tryd.prog) wr w.heap.size s pos ty hit hp
      have hTi := (HT.out.below HBB.out HR.out.2.2.1).iterAt hit (pos + (Utf8.decode s pos).2)
      have hbi := below_iter_any (w := wr) (s := s) (pos + (Utf8.decode s pos).2) (show B ≤ w.heap.size from hBw)
      have hii := Lib.iterAt_heap wr w.heap.size s pos (pos + (Utf8.decode s pos).2) hit
      have his := Lib.iterAt_size wr w.heap.size s (pos + (Utf8.decode s pos).2)
      have hinv := HIt.out l wr w.heap.size pos (pos + (Utf8.decode s pos).2) HR.out.2.1 hit
      have hlen := starts_split HR.out.2.2.2.2.2 hp hf
      obtain ⟨W1, hW1⟩ : ∃ W1, W1 = wr.iterAt w.heap.size s (pos + (Utf8.decode s pos).2) := ⟨_, rfl⟩
      rw [← hW1] at hTi hbi hii his hinv hnx
      have HTI := Lib.hid hTi; have HBI := Lib.hid hbi; have HII := Lib.hid hii; have HIS := Lib.hid his; have HIN := Lib.hid hinv
      have hpc := dW_pos s pos
      have hfit := dW_fits s pos hp
      clear hit hTi hbi hii his hinv hW1
      go_wp2_with fail
      refine (decode_cut s pos _ hp HTI.out).mono ?_
      rintro e w2 ⟨rfl, hb2⟩
      have hin2 := HN.out l _ _ HIN.out hb2
      have hs2 := hb2.size
      have hit2 : w2.heap[w.heap.size]? = some (.stringIter s (pos + (Utf8.decode s pos).2)) := (hb2.block w.heap.size (by have := HIS.out; omega)).trans HII.out
      have hbb2 : Below B wr w2 := HBI.out.trans (hb2.mono (B' := B) (by have := HIS.out; omega))
      have HI2 := Lib.hid hin2; have HIT2 := Lib.hid hit2; have HBB2 := Lib.hid hbb2
      have hstp := HS.out l pos w2 hin2 hp hlen
      unfold pieceV at hstp
      have HST := Lib.hid hstp
      clear hin2 hit2 hbb2 hb2 hnx hstp
      have fin : ∀ w3, StepPost s B Inv l pos w2 (.returned (.tuple #[])) w3 → WalkRel s B w.heap.size Inv w w3 (pos + dW s pos) (f - 1) (l ++ [pos]) := by
        intro w3 h3
        obtain ⟨_, hin3, hb3, hk3⟩ := h3
        refine ⟨hk3 _ _ _ HIT2.out, hin3, HR.out.2.2.1.trans (HBB2.out.trans hb3), hfit, by omega, ?_⟩
        rw [HR.out.2.2.2.2.2, startsF_cons s f pos hp hf]
        simp
      have HF := Lib.hid fin
      clear fin
      have hdR : dR s pos = (Utf8.decode s pos).1 := rfl
      cases hb : brk s pos with
      | true =>
        obtain ⟨e1, e2⟩ := brk_eq s pos hb
        rw [hdR] at e1
        rw [hdR, e1, e2, hb] at HST
        rw [e1, e2]
        clear hb hdR
        have E1 := Lib.hid e1; have E2 := Lib.hid e2
        clear e1 e2
        go_wp2_with fail
        refine HST.out.mono ?_
        rintro e w3 ⟨rfl, h3⟩
        have HR3 := Lib.hid (HF.out w3 ⟨rfl, h3⟩)
        clear h3
        go_wp2_with fail
        go_roundw
        case rel => exact ⟨pos + dW s pos, f - 1, l ++ [pos], HR3.out⟩
        case measure =>
          have e1 : w3.iterPos w.heap.size = pos + dW s pos := by simp [World.iterPos, HR3.out.1]
          rw [e1, HP.out]
          omega
      | false =>
        have hn : ¬ (dR s pos = 65533 ∧ dW s pos = 1) := by simpa [brk] using hb
        rw [hdR] at hn
        rw [hdR, hb] at HST
        rw [hdR]
        clear hb hdR
        obtain ⟨R, hR⟩ : ∃ R, R = (Utf8.decode s pos).1 := ⟨_, rfl⟩
        obtain ⟨K, hK⟩ : ∃ K, K = dW s pos := ⟨_, rfl⟩
        rw [← hR] at HST hn ⊢
        rw [← hK] at HST hn hpc hfit HF ⊢
        have HRk := Lib.hid hR; have HKk := Lib.hid hK
        clear hR hK
        by_cases c1 : R = 65533
        · have c2 : ((K : Int) == 1) = false := by rw [beq_eq_false_iff_ne]; omega
          have c3 : ((R : Int) == 65533) = true := by rw [beq_iff_eq]; omega
          clear hn c1
          go_wp2_with fail
          refine HST.out.mono ?_
          rintro e w3 ⟨rfl, h3⟩
          have HR3 := Lib.hid (HF.out w3 ⟨rfl, h3⟩)
          clear h3
          go_wp2_with fail
          go_roundw
          case rel => exact ⟨pos + K, f - 1, l ++ [pos], HR3.out⟩
          case measure =>
            have e1 : w3.iterPos w.heap.size = pos + K := by simp [World.iterPos, HR3.out.1]
            rw [e1, HP.out]
            omega
        · have c3 : ((R : Int) == 65533) = false := by rw [beq_eq_false_iff_ne]; omega
          clear hn c1
          go_wp2_with fail
          refine HST.out.mono ?_
          rintro e w3 ⟨rfl, h3⟩
          have HR3 := Lib.hid (HF.out w3 ⟨rfl, h3⟩)
          clear h3
          go_wp2_with fail
          go_roundw
          case rel => exact ⟨pos + K, f - 1, l ++ [pos], HR3.out⟩
          case measure =>
            have e1 : w3.iterPos w.heap.size = pos + K := by simp [World.iterPos, HR3.out.1]
            rw [e1, HP.out]
            omega
    · have hnx := fun ty => Lib.run_next_end_at (P := Tryd.prog) wr w.heap.size s pos ty hit hp
      have hst := HR.out.2.2.2.2.2
      rw [startsF_end s f pos hp, List.append_nil] at hst
      have HST := Lib.hid hst
      clear hst hit
      go_wp2_with fail
      go_end0
      exact ⟨rfl, by rw [HST.out]; exact HR.out.2.1, HR.out.2.2.1⟩
end Go.Proofs.YtmbekgfbnapelaaDoor
