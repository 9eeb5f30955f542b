/-
  PLAIN LEAN: a list of runes as a text is read back rune by rune.
-/
import Derived.Test.YtcibjgkifafohaaGreatDoorTextT
namespace Go.Proofs.YtcibjgkifafohaaGreatDoor
open Go.RowKit Go.Lib
set_option linter.unusedVariables false

theorem get_strOf (l : List UInt8) (i : Nat) (h : i < l.length) : (strOf l).get! i = l[i] := by
  rw [get_lt (strOf l) i (by show i < (strOf l).data.size; simpa [strOf] using h)]
  rfl
theorem u8n (n : Nat) (h : n < 256) : (UInt8.ofNat n).toNat = n := UInt8.toNat_ofNat_of_lt' h

theorem dec_enc (t : ByteArray) (p r : Nat) (hr : r ≤ 1114111) (hs : r < 55296 ∨ 57344 ≤ r) (hn : p + (encL r).length ≤ t.size) (hg : ∀ i (h : i < (encL r).length), t.get! (p + i) = (encL r)[i]) :
    dR t p = r ∧ dW t p = (encL r).length ∧ brk t p = false := by
  have fin : ∀ k, dR t p = r → dW t p = k → (encL r).length = k → (k = 1 → r < 128) → dR t p = r ∧ dW t p = (encL r).length ∧ brk t p = false := by
    intro k h1 h2 h3 h4
    refine ⟨h1, by omega, ?_⟩
    unfold brk
    exact decide_eq_false (by omega)
  have hd := decode_at t p
  by_cases a1 : r < 128
  · have e := encode_1 r a1
    have h0 := congrArg UInt8.toNat (hg 0 (by rw [e]; simp))
    simp only [e, List.getElem_cons_zero, Nat.add_zero, u8n r (by omega)] at h0
    have := dec_low t p (by omega)
    exact fin 1 (by omega) (by omega) (by rw [e]; rfl) (fun _ => a1)
  by_cases a2 : r < 2048
  · have e := encode_2 r (by omega) a2
    have h0 := congrArg UInt8.toNat (hg 0 (by rw [e]; simp))
    have h1 := congrArg UInt8.toNat (hg 1 (by rw [e]; simp))
    simp only [e, List.getElem_cons_zero, List.getElem_cons_succ, Nat.add_zero] at h0 h1
    rw [u8n _ (by omega)] at h0 h1
    rw [e] at hn; simp at hn
    rw [unshape2 _ _ _ _ _ r (by omega) (by omega) a2 h0 h1] at hd
    exact fin 2 (congrArg Prod.fst hd) (congrArg Prod.snd hd) (by rw [e]; rfl) (fun h => by omega)
  by_cases a3 : r < 65536
  · have e := encode_3 r (by omega) a3 hs
    have h0 := congrArg UInt8.toNat (hg 0 (by rw [e]; simp))
    have h1 := congrArg UInt8.toNat (hg 1 (by rw [e]; simp))
    have h2 := congrArg UInt8.toNat (hg 2 (by rw [e]; simp))
    simp only [e, List.getElem_cons_zero, List.getElem_cons_succ, Nat.add_zero] at h0 h1 h2
    rw [u8n _ (by omega)] at h0 h1 h2
    rw [e] at hn; simp at hn
    rw [unshape3 _ _ _ _ _ r (by omega) (by omega) a3 hs h0 h1 h2] at hd
    exact fin 3 (congrArg Prod.fst hd) (congrArg Prod.snd hd) (by rw [e]; rfl) (fun h => by omega)
  · have e := encode_4 r (by omega) hr
    have h0 := congrArg UInt8.toNat (hg 0 (by rw [e]; simp))
    have h1 := congrArg UInt8.toNat (hg 1 (by rw [e]; simp))
    have h2 := congrArg UInt8.toNat (hg 2 (by rw [e]; simp))
    have h3 := congrArg UInt8.toNat (hg 3 (by rw [e]; simp))
    simp only [e, List.getElem_cons_zero, List.getElem_cons_succ, Nat.add_zero] at h0 h1 h2 h3
    rw [u8n _ (by omega)] at h0 h1 h2 h3
    rw [e] at hn; simp at hn
    rw [unshape4 _ _ _ _ _ r (by omega) (by omega) hr h0 h1 h2 h3] at hd
    exact fin 4 (congrArg Prod.fst hd) (congrArg Prod.snd hd) (by rw [e]; rfl) (fun h => by omega)

def IsRune (n : Int) : Prop := ∃ r : Nat, n = r ∧ r ≤ 1114111 ∧ (r < 55296 ∨ 57344 ≤ r)
theorem get_list (t : ByteArray) (i : Nat) (h : i < t.data.toList.length) : t.get! i = t.data.toList[i] := by
  rw [get_lt t i (by simpa using h)]
  rfl
theorem dec_all (t : ByteArray) : ∀ (ns : List Int), (∀ n ∈ ns, IsRune n) → ∀ f p, t.size ≤ p + f → t.data.toList.drop p = textL ns →
    (startsF t f p).map (fun q => (dR t q : Int)) = ns ∧ ∀ q ∈ startsF t f p, brk t q = false
  | [], _, f, p, hf, hd => by
    have hl := congrArg List.length hd
    have hz : t.data.toList.length = t.size := by simp
    simp only [List.length_drop, textL, List.flatMap_nil, List.length_nil, hz] at hl
    rw [startsF_end t f p (by omega)]
    simp
  | n :: ns, hv, f, p, hf, hd => by
    obtain ⟨r, rfl, hr, hs⟩ := hv n (by simp)
    have hz : t.data.toList.length = t.size := by simp
    have htx : textL ((r : Int) :: ns) = encL r ++ textL ns := by simp [textL]
    rw [htx] at hd
    have hl := congrArg List.length hd
    rw [List.length_drop, List.length_append, hz] at hl
    have h1 := (encL_length (r : Int)).1
    have hg : ∀ i (h : i < (encL r).length), t.get! (p + i) = (encL r)[i] := by
      intro i h
      rw [get_list t (p + i) (by omega)]
      have e1 : t.data.toList[p + i]? = (encL r)[i]? := by
        have : (t.data.toList.drop p)[i]? = (encL r ++ textL ns)[i]? := by rw [hd]
        rw [List.getElem?_drop, List.getElem?_append_left h] at this
        exact this
      rw [List.getElem?_eq_getElem (by omega), List.getElem?_eq_getElem h] at e1
      exact Option.some.inj e1
    obtain ⟨d1, d2, d3⟩ := dec_enc t p r hr hs (by omega) hg
    rw [startsF_cons t f p (by omega) hf, d2]
    have hd2 : t.data.toList.drop (p + (encL (r : Int)).length) = textL ns := by
      rw [← List.drop_drop, hd, List.drop_left]
    obtain ⟨i1, i2⟩ := dec_all t ns (fun m hm => hv m (by simp [hm])) (f - 1) (p + (encL (r : Int)).length) (by omega) hd2
    refine ⟨by rw [List.map_cons, i1, d1], fun q hq => ?_⟩
    rcases List.mem_cons.1 hq with rfl | hq
    · exact d3
    · exact i2 q hq

theorem runesL_runes (s : ByteArray) : ∀ n ∈ runesL s, IsRune n := by
  intro n hn
  unfold runesL at hn
  obtain ⟨p, _, rfl⟩ := List.mem_map.1 hn
  exact ⟨dR s p, rfl, dR_le s p, dR_rune s p⟩
theorem strOf_list (l : List UInt8) : (strOf l).data.toList = l := by simp [strOf]
theorem mend_both (s : ByteArray) : runesL (strOf (backL s)) = runesL s ∧ ∀ q ∈ starts (strOf (backL s)), brk (strOf (backL s)) q = false :=
  dec_all (strOf (backL s)) (runesL s) (runesL_runes s) _ 0 (by omega) (by rw [strOf_list]; rfl)
theorem mend_len (s : ByteArray) : (starts (strOf (backL s))).length = (starts s).length := by
  rw [← runesL_length, (mend_both s).1, runesL_length]
theorem mend_back (s : ByteArray) : backL (strOf (backL s)) = backL s := by
  show textL (runesL _) = textL (runesL s)
  rw [(mend_both s).1]
end Go.Proofs.YtcibjgkifafohaaGreatDoor
