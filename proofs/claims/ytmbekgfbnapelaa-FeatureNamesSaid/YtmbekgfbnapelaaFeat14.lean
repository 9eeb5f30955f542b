/-
  WALKS: feature.Text.
-/
import Derived.Test.YtmbekgfbnapelaaFeat13
import Derived.Laws.Concat
namespace Go.Proofs.Ytmbekgfbnapelaa
open Go.RowKit Go.Lib
set_option linter.unusedVariables false

/-- A class's text: the features from number i on. -/
def txtF : List ByteArray → Nat → Nat → Nat → List UInt8
  | [], _, _, _ => []
  | f :: l, i, p, m => (if p &&& 2 ^ i = 0 then (if m &&& 2 ^ i = 0 then [] else 45 :: f.data.toList) else 43 :: f.data.toList) ++ txtF l (i + 1) p m
def textR (A : Al) (p m : Nat) : List UInt8 × Int := if aacR A p m = 0 then (txtF A.fs 0 p m, 0) else ([], aacR A p m)
theorem txtF_at (fs : List ByteArray) (k p m : Nat) (hk : k < fs.length) :
    txtF (fs.drop k) k p m = (if p &&& 2 ^ k = 0 then (if m &&& 2 ^ k = 0 then [] else 45 :: (fs.getD k ByteArray.empty).data.toList) else 43 :: (fs.getD k ByteArray.empty).data.toList) ++ txtF (fs.drop (k + 1)) (k + 1) p m := by
  rw [List.getD_eq_getElem?_getD, List.getElem?_eq_getElem hk, List.drop_eq_getElem_cons hk, txtF]
  rfl
theorem nameB_size {s : ByteArray} (h : nameB s = true) : s.size ≤ 32 := by
  unfold nameB at h
  simp only [Bool.and_eq_true, decide_eq_true_eq] at h
  exact h.1.2
theorem Al.ok_name {A : Al} (h : A.ok = true) (k : Nat) (hk : k < A.fs.length) : nameB (A.fs.getD k ByteArray.empty) = true := by
  rw [Al.ok_eq, Bool.and_eq_true] at h
  exact (((featsB_iff _).1 h.1).2 k hk).1

theorem cat_bytes (c : UInt8) (G : ByteArray) : Lib.strCells (⟨#[c]⟩ ++ G) = byteCells (c :: G.data.toList) := by
  rw [strCells_eq]
  congr 1

theorem cat_size (c : UInt8) (g : ByteArray) : (⟨#[c]⟩ ++ g : ByteArray).size = g.size + 1 := by
  rw [ByteArray.size_append]
  show 1 + g.size = _
  omega

def TextPost (x : List UInt8 × Int) (w : World) (e : Ending) (w' : World) : Prop := e = .returned (.tuple #[.string ⟨x.1.toArray⟩, .int .i64 x.2]) ∧ Below w.heap.size w w'

set_option maxHeartbeats 2000000 in
set_option maxRecDepth 100000 in
theorem textF_any (A : Al) (p m : Nat) (w : World) (hA : A.In w) (hp : p < 4294967296) (hm : m < 4294967296) :
    Calls Try.prog 25 #[A.v, .int .u32 p, .int .u32 m] w (TextPost (textR A p m) w) := by
  obtain ⟨pf, pl, nf, cf, nl, cl, hv, hnf, hnl, hpl, hcl, hpf, hcf⟩ := A.parts
  have haac := aac_any A p m
  rw [hv] at haac ⊢
  have HA := Lib.hid hA; have HAAC := Lib.hid haac
  by_cases h0 : aacR A p m = 0
  · have hx : textR A p m = (txtF A.fs 0 p m, 0) := by unfold textR; rw [if_pos h0]
    have hok := aacR_ok0 h0
    have h24 : nf ≤ 24 := by rw [hnf]; exact Al.ok24 hok
    rw [hx]
    have hnm := fun k hk => Al.ok_name hok k hk
    obtain ⟨fs, hfs⟩ : ∃ fs, fs = A.fs := ⟨_, rfl⟩
    have hF0 := fun (w : World) (h : A.In w) => h.F
    rw [← hpf, ← hcf, ← hfs] at hF0
    rw [← hfs] at hnf hnm ⊢
    have H0 := Lib.hid h0; have HNM := Lib.hid hnm; have HF0 := Lib.hid hF0; have HNF := Lib.hid hnf
    obtain ⟨G, hG⟩ : ∃ G : Nat → ByteArray, ∀ t, G t = fs.getD t ByteArray.empty := ⟨fun t => fs.getD t ByteArray.empty, fun _ => rfl⟩
    have HG := Lib.hid hG
    have hat : 0 < nf → pf = some ⟨A.bf, A.f0, none⟩ := fun h => by rw [hpf]; exact hA.F.at_ (by rw [← hfs, ← hnf]; exact h)
    have HAT := Lib.hid hat
    obtain ⟨bf, hbf⟩ : ∃ b, b = A.bf := ⟨_, rfl⟩
    obtain ⟨f0, hf0⟩ : ∃ b, b = A.f0 := ⟨_, rfl⟩
    rw [← hbf, ← hf0] at HF0 HAT
    clear hA haac hv hnf hnl hpl hcl hpf hcf hx hok hnm hF0 hfs hG hat h0 hbf hf0
    go_enter Try.func25, Try.ntmps25
    go_wp2_with fail
    refine (HAAC.out _ (HA.out.alloc _) hp hm).mono ?_
    rintro e w1 ⟨rfl, hb1⟩
    rw [H0.out]
    obtain ⟨hcc, hff⟩ := bcell hb1
    have hz1 := hb1.size
    simp only [World.size_alloc] at hz1
    have hlt0 : w.heap.size < w1.heap.size := by omega
    have hne0 : ¬ w.heap.size = w1.heap.size := by omega
    have cb0 : w1.cell? ⟨w.heap.size, 0, none⟩ = some (.slice pf nf cf) := by rw [hcc _ _ (by simp)]; simp
    have hbw1 : Below w.heap.size w w1 := ((Below.refl _ _).alloc (Nat.le_refl _) _).trans (hb1.mono (by simp))
    have HBW1 := Lib.hid hbw1
    clear hb1 hcc hff hbw1
    go_wp2_with fail
    go_loopw [23] (fun i wr => ∃ (k : Nat) (pre : List UInt8), i = .int .i64 k ∧ k ≤ nf ∧ pre.length ≤ 33 * k ∧ Hid (pre ++ txtF (fs.drop k) k p m = txtF fs 0 p m) ∧ Hid (IsB w1.heap.size w1.heap.size (byteCells pre) wr) ∧ Hid (Below w1.heap.size w1 wr) ∧ w1.heap.size < wr.heap.size) (fun i _ => nf - (intOf i).toNat)
    case atStart => exact ⟨0, [], rfl, Nat.zero_le _, Nat.le_refl _, rfl, Lib.fresh_isBuilder _ _ _, (Below.refl _ _).alloc (Nat.le_refl _) _, by simp⟩
    case round =>
      obtain ⟨k, pre, rfl, hk, hpre, HT, HI, HB, hszr⟩ := hrel
      have hbw : Below w.heap.size w wr := HBW1.out.trans (HB.out.mono (by omega))
      have HBW := Lib.hid hbw
      clear hbw
      by_cases hkn : k < nf
      · obtain rfl := HAT.out (by omega)
        have c0 := (HF0.out wr (HA.out.next HBW.out)).cells k (by rw [← HNF.out]; exact hkn)
        have hsz := nameB_size (HNM.out k (by rw [← HNF.out]; exact hkn))
        have htx := txtF_at fs k p m (by rw [← HNF.out]; exact hkn)
        rw [← HG.out] at c0 hsz htx
        obtain ⟨g, hg⟩ : ∃ g, g = G k := ⟨_, rfl⟩
        rw [← hg] at c0 hsz htx
        obtain ⟨e1, e2, e3⟩ := pow_int k (by omega)
        have ex := u32_and_nat p (2 ^ k) hp (by omega)
        have ey := u32_and_nat m (2 ^ k) hm (by omega)
        obtain ⟨P2, hP2⟩ : ∃ P2, P2 = (2 : Nat) ^ k := ⟨_, rfl⟩
        rw [← hP2] at e1 e2 e3 ex ey htx
        obtain ⟨X, hX⟩ : ∃ X, X = p &&& P2 := ⟨_, rfl⟩
        obtain ⟨Y, hY⟩ : ∃ X, X = m &&& P2 := ⟨_, rfl⟩
        rw [← hX] at ex htx
        rw [← hY] at ey htx
        have HTX := Lib.hid htx
        clear htx hg hP2 hX hY
        by_cases hx0 : X = 0
        · have hx1 : ((X : Int) == 0) = true := by simp [hx0]
          have hx2 : ((X : Int) != 0) = false := by simp [hx0]
          by_cases hy0 : Y = 0
          · have hy1 : ((Y : Int) == 0) = true := by simp [hy0]
            have hy2 : ((Y : Int) != 0) = false := by simp [hy0]
            have hst := HTX.out
            rw [if_pos hx0, if_pos hy0, List.nil_append] at hst
            have HST := Lib.hid hst
            clear hst hx0 hy0
            go_wp2_with fail
            go_roundw
            case rel => exact ⟨k + 1, pre, by go_num, by omega, by omega, (show _ = _ from by rw [← HT.out, HST.out]), HI, HB, hszr⟩
            case measure => simp [intOf]; omega
          · have hy1 : ((Y : Int) == 0) = false := by simp; omega
            have hy2 : ((Y : Int) != 0) = true := by simp; omega
            have hst := HTX.out
            rw [if_pos hx0, if_neg hy0] at hst
            have HST := Lib.hid hst
            have hcat := run_string_add_sum (P := Try.prog) wr ⟨#[45]⟩ g (by show 1 + g.size ≤ _; omega)
            clear hst hx0 hy0
            have hwr := writeS_any w1.heap.size w1.heap.size (byteCells pre) ((⟨#[45]⟩ : ByteArray) ++ g) wr HI.out (by rw [byteCells_length, cat_size]; omega) (by omega)
            have HWR := Lib.hid hwr
            clear hwr
            go_wp2_with fail
            (with_reducible refine HWR.out.mono ?_)
            rintro e w3 ⟨rfl, hI3, hB3⟩
            rw [cat_bytes, ← byteCells_append] at hI3
            have hz3 := hB3.size
            have HI3 := Lib.hid hI3; have HB3 := Lib.hid hB3
            clear hI3 hB3 hcat
            go_wp2_with fail
            go_roundw
            case rel => exact ⟨k + 1, pre ++ 45 :: g.data.toList, by go_num, by omega, (by have : g.data.size = g.size := rfl; simp only [List.length_append, List.length_cons, Array.length_toList]; omega), (show _ = _ from by rw [← HT.out, HST.out, List.append_assoc]), Or.inr HI3.out, HB.out.trans HB3.out, by omega⟩
            case measure => simp [intOf]; omega
        · have hx1 : ((X : Int) == 0) = false := by simp; omega
          have hx2 : ((X : Int) != 0) = true := by simp; omega
          have hst := HTX.out
          rw [if_neg hx0] at hst
          have HST := Lib.hid hst
          have hcat := run_string_add_sum (P := Try.prog) wr ⟨#[43]⟩ g (by show 1 + g.size ≤ _; omega)
          clear hst hx0
          have hwr := writeS_any w1.heap.size w1.heap.size (byteCells pre) ((⟨#[43]⟩ : ByteArray) ++ g) wr HI.out (by rw [byteCells_length, cat_size]; omega) (by omega)
          have HWR := Lib.hid hwr
          clear hwr
          go_wp2_with fail
          (with_reducible refine HWR.out.mono ?_)
          rintro e w3 ⟨rfl, hI3, hB3⟩
          rw [cat_bytes, ← byteCells_append] at hI3
          have hz3 := hB3.size
          have HI3 := Lib.hid hI3; have HB3 := Lib.hid hB3
          clear hI3 hB3 hcat
          go_wp2_with fail
          go_roundw
          case rel => exact ⟨k + 1, pre ++ 43 :: g.data.toList, by go_num, by omega, (by have : g.data.size = g.size := rfl; simp only [List.length_append, List.length_cons, Array.length_toList]; omega), (show _ = _ from by rw [← HT.out, HST.out, List.append_assoc]), Or.inr HI3.out, HB.out.trans HB3.out, by omega⟩
          case measure => simp [intOf]; omega
      · obtain rfl : k = nf := by omega
        have hx : pre = txtF fs 0 p m := by rw [← HT.out, HNF.out, List.drop_length, txtF, List.append_nil]
        have HX := Lib.hid hx
        clear hx
        go_wp2_with fail
        refine (Try.Builder_String_any w1.heap.size w1.heap.size pre _ HI.out (by omega)).mono ?_
        rintro e w3 ⟨rfl, hB3⟩
        have HB3 := Lib.hid hB3
        clear hB3
        go_wp2_with fail
        go_ret2
        exact ⟨by rw [← HX.out] <;> rfl, HBW1.out.trans ((HB.out.trans HB3.out).mono (by omega))⟩
  · have hx : textR A p m = ([], aacR A p m) := by unfold textR; rw [if_neg h0]
    rw [hx]
    obtain ⟨c, hc⟩ : ∃ c, c = aacR A p m := ⟨_, rfl⟩
    rw [← hc] at HAAC h0 ⊢
    have hk1 : (c == 0) = false := by simp [h0]
    have hk2 : (c != 0) = true := by simp [h0]
    clear hA haac hv hnf hnl hpl hcl hpf hcf hx hc h0
    go_enter Try.func25, Try.ntmps25
    go_wp2_with fail
    refine (HAAC.out _ (HA.out.alloc _) hp hm).mono ?_
    rintro e w1 ⟨rfl, hb1⟩
    have HB1 := Lib.hid hb1
    clear hb1
    go_wp2_with fail
    go_ret2
    exact ⟨rfl, ((Below.refl _ _).alloc (Nat.le_refl _) _).trans (HB1.out.mono (by simp))⟩

end Go.Proofs.Ytmbekgfbnapelaa
