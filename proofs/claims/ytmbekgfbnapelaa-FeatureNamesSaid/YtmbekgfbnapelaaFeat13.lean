/-
  WALKS: feature.bitOf, Bit, Text.
-/
import Derived.Test.YtmbekgfbnapelaaFeat12
import Derived.Test.YtmbekgfbnapelaaBld
namespace Go.Proofs.Ytmbekgfbnapelaa
open Go.RowKit Go.Lib
set_option linter.unusedVariables false

theorem toList_eq (s : ByteArray) : s.toList = s.data.toList := Lib.toList_data s
theorem bytes_eq {a b : ByteArray} : (a.toList == b.toList) = decide (a = b) := by
  rw [Bool.eq_iff_iff]
  simp only [beq_iff_eq, decide_eq_true_eq, toList_eq]
  constructor
  · intro h; cases a; cases b; simp at h; rw [h]
  · rintro rfl; rfl
theorem pow_int (k : Nat) (hk : k < 24) : ((2 : Int) ^ k % 4294967296) = ((2 ^ k : Nat) : Int) ∧ (2 ^ k : Nat) < 16777216 ∧ 0 < (2 ^ k : Nat) := by
  have h1 : 2 ^ k < 2 ^ 24 := Nat.pow_lt_pow_right (by decide) hk
  have h0 : 0 < 2 ^ k := Nat.two_pow_pos k
  have e : (2 : Int) ^ k = ((2 ^ k : Nat) : Int) := by push_cast; rfl
  rw [e]
  generalize (2 : Nat) ^ k = p at h0 h1
  omega

/-! ### bitOf, Bit -/
def bitF : List ByteArray → ByteArray → Nat → Nat
  | [], _, _ => 0
  | f :: l, s, i => if f = s then 2 ^ i else bitF l s (i + 1)
def bitI (A : Al) (s : ByteArray) : Nat := bitF A.fs s 0
def bitR (A : Al) (s : ByteArray) : Nat × Int := if A.ok then (if bitI A s = 0 then (0, 8) else (bitI A s, 0)) else (0, 7)
theorem bitF_yes (fs : List ByteArray) (s : ByteArray) (k : Nat) (hk : k < fs.length) (h : fs.getD k ByteArray.empty = s) : bitF (fs.drop k) s k = 2 ^ k := by
  rw [List.getD_eq_getElem?_getD, List.getElem?_eq_getElem hk] at h
  simp only [Option.getD_some] at h
  rw [List.drop_eq_getElem_cons hk, bitF, if_pos h]
theorem bitF_no (fs : List ByteArray) (s : ByteArray) (k : Nat) (hk : k < fs.length) (h : ¬ fs.getD k ByteArray.empty = s) : bitF (fs.drop k) s k = bitF (fs.drop (k + 1)) s (k + 1) := by
  rw [List.getD_eq_getElem?_getD, List.getElem?_eq_getElem hk] at h
  simp only [Option.getD_some] at h
  rw [List.drop_eq_getElem_cons hk, bitF, if_neg h]
theorem bitF_lt : ∀ (l : List ByteArray) (s : ByteArray) (i : Nat), i + l.length ≤ 24 → bitF l s i < 16777216
  | [], _, _, _ => by simp [bitF]
  | f :: l, s, i, h => by
    simp only [List.length_cons] at h
    unfold bitF
    split
    · exact Nat.lt_of_lt_of_le (Nat.pow_lt_pow_right (by decide) (show i < 24 by omega)) (Nat.le_refl _)
    · exact bitF_lt l s (i + 1) (by omega)

set_option maxHeartbeats 800000 in
theorem bitOf_any (pf : Option Addr) (bf f0 cf : Nat) (fs : List ByteArray) (pl : Option Addr) (nl cl : Nat) (s : ByteArray) (w : World) (h24 : fs.length ≤ 24) (hF : FsIn pf bf f0 cf fs w) :
    Calls Try.prog 76 #[.agg #[.slice pf fs.length cf, .slice pl nl cl], .string s] w fun e w' => e = .returned (.int .u32 (bitF fs s 0)) ∧ w' = w.alloc (.cells #[.slice pf fs.length cf, .slice pl nl cl] 26) := by
  rcases Nat.eq_zero_or_pos fs.length with h0 | h0
  · obtain rfl : fs = [] := List.length_eq_zero_iff.1 h0
    have hb : bitF [] s 0 = 0 := rfl
    rw [hb]
    clear hF h0 hb h24
    go_enter Try.func76, Try.ntmps76
    go_wp2
    go_loop [10] (fun v => v = .int .i64 0) (fun _ => 0)
    case atStart => rfl
    case round =>
      obtain rfl := hrel
      go_wp2
      go_ret
      exact ⟨rfl, rfl⟩
  · obtain rfl := hF.at_ h0
    obtain ⟨n, hn⟩ : ∃ n, n = fs.length := ⟨_, rfl⟩
    have hcells := hF.cells
    rw [← hn] at h24 h0 hcells ⊢
    obtain ⟨G, hG⟩ : ∃ G : Nat → ByteArray, ∀ t, G t = fs.getD t ByteArray.empty := ⟨fun t => fs.getD t ByteArray.empty, fun _ => rfl⟩
    have cw : ∀ j, j < n → (w.alloc (.cells #[.slice (some ⟨bf, f0, none⟩) n cf, .slice pl nl cl] 26)).cell? ⟨bf, f0 + j, none⟩ = some (.string (G j)) := fun j hj => by
      rw [World.cell?_alloc_lt _ _ _ (lt_of_cell (hcells j hj)), hG]; exact hcells j hj
    have HG := Lib.hid hG; have HN := Lib.hid hn; have HW := Lib.hid cw
    clear hF hcells hG hn cw
    go_enter Try.func76, Try.ntmps76
    go_wp2
    have cw := HW.out
    generalize hW1 : w.alloc (.cells #[.slice (some ⟨bf, f0, none⟩) n cf, .slice pl nl cl] 26) = W1 at cw ⊢
    have HW1 := Lib.hid hW1
    clear hW1 HW
    go_loop [10] (fun v => ∃ k : Nat, v = .int .i64 k ∧ k ≤ n ∧ Hid (bitF (fs.drop k) s k = bitF fs s 0)) (fun v => n - (intOf v).toNat)
    case atStart => exact ⟨0, rfl, Nat.zero_le _, rfl⟩
    case round =>
      obtain ⟨k, rfl, hk, HB⟩ := hrel
      by_cases hkn : k < n
      · have hy := bitF_yes fs s k (by rw [← HN.out]; exact hkn)
        have hno := bitF_no fs s k (by rw [← HN.out]; exact hkn)
        rw [← HG.out] at hy hno
        have hbe := bytes_eq (a := G k) (b := s)
        have HY := Lib.hid hy; have HNo := Lib.hid hno
        clear hy hno
        by_cases he : G k = s
        · have hp := pow_int k (by omega)
          obtain ⟨P2, hP2⟩ : ∃ P2, P2 = (2 : Nat) ^ k := ⟨_, rfl⟩
          rw [← hP2] at hp
          obtain ⟨e1, e2, e3⟩ := hp
          have hx : bitF fs s 0 = P2 := by rw [← HB.out, HY.out he, hP2]
          have HX := Lib.hid hx
          have hbt : ((G k).toList == s.toList) = true := by rw [hbe]; simp [he]
          clear hbe hx he hP2
          go_wp2
          go_ret
          exact ⟨by rw [HX.out] <;> rfl, HW1.out.symm⟩
        · have hbt : ((G k).toList == s.toList) = false := by rw [hbe]; simp [he]
          have HE := Lib.hid he
          clear hbe he
          go_wp2
          go_round
          case rel => exact ⟨k + 1, by go_num, by omega, (show _ = _ from by rw [← HB.out, HNo.out HE.out])⟩
          case measure => simp [intOf]; omega
      · obtain rfl : k = n := by omega
        have hx : bitF fs s 0 = 0 := by rw [← HB.out, HN.out, List.drop_length]; rfl
        have HX := Lib.hid hx
        clear hx
        go_wp2
        go_ret
        exact ⟨by rw [HX.out] <;> rfl, HW1.out.symm⟩

set_option maxHeartbeats 800000 in
theorem bit_any (A : Al) (s : ByteArray) (w : World) (hA : A.In w) :
    Calls Try.prog 27 #[A.v, .string s] w fun e w' => e = .returned (.tuple #[.int .u32 (bitR A s).1, .int .i64 (bitR A s).2]) ∧ Below w.heap.size w w' := by
  obtain ⟨pf, pl, nf, cf, nl, cl, hv, hnf, hnl, hpl, hcl, hpf, hcf⟩ := A.parts
  have hch := check_any A
  have hbo := fun w h => bitOf_any A.pf A.bf A.f0 A.cf A.fs pl nl cl s w h
  rw [← hnf, ← hpf, ← hcf] at hbo
  rw [hv] at hch ⊢
  have HA := Lib.hid hA; have HCH := Lib.hid hch; have HBO := Lib.hid hbo; have HPF := Lib.hid hpf; have HCF := Lib.hid hcf
  cases hok : A.ok with
  | false =>
    have hx : bitR A s = (0, 7) := by unfold bitR; rw [hok]; rfl
    rw [hx]
    have HC := Lib.hid (chk_no hok)
    clear hx hok hA hch hbo hv hnf hnl hpl hcl hpf hcf
    go_enter Try.func27, Try.ntmps27
    go_wp2_with fail
    refine (HCH.out _ (HA.out.alloc _)).mono ?_
    rintro e w1 ⟨rfl, hb1⟩
    rw [HC.out]
    have HB1 := Lib.hid hb1
    clear hb1
    go_wp2_with fail
    go_ret2
    exact ⟨rfl, ((Below.refl _ _).alloc (Nat.le_refl _) _).trans (HB1.out.mono (by simp))⟩
  | true =>
    have h24 : nf ≤ 24 := by rw [hnf]; exact Al.ok24 hok
    have hx : bitR A s = (if bitI A s = 0 then (0, 8) else (bitI A s, 0)) := by unfold bitR; rw [hok]; rfl
    obtain ⟨B, hB⟩ : ∃ B, B = bitI A s := ⟨_, rfl⟩
    have hBF : bitF A.fs s 0 = B := by rw [hB]; rfl
    rw [hBF] at HBO
    rw [hx, ← hB]
    have HC := Lib.hid (chk_ok hok)
    clear hx hok hA hch hbo hv hnf hnl hpl hcl hpf hcf hB hBF
    by_cases hb0 : B = 0
    · rw [if_pos hb0]
      subst hb0
      go_enter Try.func27, Try.ntmps27
      go_wp2_with fail
      refine (HCH.out _ (HA.out.alloc _)).mono ?_
      rintro e w1 ⟨rfl, hb1⟩
      rw [HC.out]
      obtain ⟨hcc, hff⟩ := bcell hb1
      have hz1 := hb1.size
      simp only [World.size_alloc] at hz1
      have HB1 := Lib.hid hb1
      clear hb1
      go_wp2_with fail
      refine (HBO.out _ h24 (by rw [HPF.out, HCF.out]; exact ((HA.out.alloc _).next HB1.out).F)).mono ?_
      rintro e w2 ⟨rfl, rfl⟩
      go_wp2_with fail
      go_ret2
      exact ⟨rfl, (((Below.refl _ _).alloc (Nat.le_refl _) _).trans (HB1.out.mono (by simp))).alloc (by omega) _⟩
    · rw [if_neg hb0]
      have hb1' : ((B : Int) == 0) = false := by simp; omega
      clear hb0
      go_enter Try.func27, Try.ntmps27
      go_wp2_with fail
      refine (HCH.out _ (HA.out.alloc _)).mono ?_
      rintro e w1 ⟨rfl, hb1⟩
      rw [HC.out]
      obtain ⟨hcc, hff⟩ := bcell hb1
      have hz1 := hb1.size
      simp only [World.size_alloc] at hz1
      have HB1 := Lib.hid hb1
      clear hb1
      go_wp2_with fail
      refine (HBO.out _ h24 (by rw [HPF.out, HCF.out]; exact ((HA.out.alloc _).next HB1.out).F)).mono ?_
      rintro e w2 ⟨rfl, rfl⟩
      go_wp2_with fail
      go_ret2
      exact ⟨rfl, (((Below.refl _ _).alloc (Nat.le_refl _) _).trans (HB1.out.mono (by simp))).alloc (by omega) _⟩

end Go.Proofs.Ytmbekgfbnapelaa
