/-
  PLAIN: FeatureNames's alphabets, and what becomes of them.
-/
import Derived.Test.YtmbekgfbnapelaaFsm
namespace Go.Proofs.Ytmbekgfbnapelaa
open Go.RowKit Go.Lib
set_option linter.unusedVariables false

def fN (i : Nat) : ByteArray := ⟨#[UInt8.ofNat (97 + i % 26), UInt8.ofNat (97 + i / 26)]⟩
def lN (i : Nat) : Ltr := ⟨1024 + i, i &&& 255, 65280⟩
def fsN (k : Nat) : List ByteArray := (List.range k).map fN
def lsN (k : Nat) : List Ltr := (List.range k).map lN
theorem fsN_snoc (k : Nat) : fsN (k + 1) = fsN k ++ [fN k] := by simp [fsN, List.range_succ]
theorem lsN_snoc (k : Nat) : lsN (k + 1) = lsN k ++ [lN k] := by simp [lsN, List.range_succ]
theorem fsN_length (k : Nat) : (fsN k).length = k := by simp [fsN]
theorem lsN_length (k : Nat) : (lsN k).length = k := by simp [lsN]
theorem ok_a : alB (fsN 24) (lsN 128) = true := by decide +kernel
theorem no_b : alB (fsN 25) (lsN 128) = false := by decide +kernel
theorem no_c : alB (fsN 24) (lsN 129) = false := by decide +kernel
theorem no_d : alB (fsN 24) (lsN 0) = false := by decide +kernel
theorem no_e : alB (fsN 0) (lsN 1) = false := by decide +kernel
def mayN : List Int := [97, 122, 65, 90, 161, 55295, 57344, 65532, 65534, 1114111]
def notN : List Int := [0, 32, 48, 95, 64, 91, 96, 123, 160, 127, 55296, 57343, 65533, 1114112, -1]
theorem may_ok : ∀ r ∈ mayN, alB [] [⟨r, 0, 0⟩] = true := by decide +kernel
theorem not_ok : ∀ r ∈ notN, alB [] [⟨r, 0, 0⟩] = false := by decide +kernel
def xN (k : Nat) : ByteArray := ⟨(List.replicate k (120 : UInt8)).toArray⟩
theorem good_n : alB [xN 32, ⟨#[121]⟩] [⟨97, 0, 0⟩] = true := by decide +kernel
theorem long_n : alB [xN 33] [⟨97, 0, 0⟩] = false := by decide +kernel
theorem twice_n : alB [⟨#[120]⟩, ⟨#[120]⟩] [⟨97, 0, 0⟩] = false := by decide +kernel
theorem both_n : alB [] [⟨97, 0, 0⟩, ⟨97, 0, 0⟩] = false := by decide +kernel
theorem one_n : alB [⟨#[120]⟩] [⟨97, 1, 1⟩] = false := by decide +kernel
theorem two_n : alB [⟨#[120]⟩] [⟨97, 2, 0⟩] = false := by decide +kernel
theorem and_lo (i : Nat) (h : i < 256) : (4294967295 - i) &&& 65280 = 65280 := by
  have : ∀ i : Fin 256, (4294967295 - i.val) &&& 65280 = 65280 := by decide +kernel
  exact this ⟨i, h⟩
end Go.Proofs.Ytmbekgfbnapelaa
