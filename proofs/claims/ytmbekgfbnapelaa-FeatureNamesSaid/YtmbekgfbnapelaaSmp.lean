/-
  WALKS: cognatelaw02.sample; what the program answers of it, closed.
-/
import Derived.Test.YtmbekgfbnapelaaFeat16
namespace Go.Proofs.Ytmbekgfbnapelaa
open Go.RowKit Go.Lib
set_option linter.unusedVariables false

def smpFs : List ByteArray := [⟨#[118, 111, 105, 99, 101, 100]⟩, ⟨#[110, 97, 115, 97, 108]⟩, ⟨#[118, 111, 119, 101, 108]⟩]
def smpLs : List Ltr := [⟨112, 0, 7⟩, ⟨98, 1, 6⟩, ⟨109, 3, 4⟩, ⟨97, 5, 2⟩, ⟨104, 0, 0⟩]
def smp (b1 b2 : Nat) : Al := ⟨some ⟨b1, 0, none⟩, b1, 0, 3, smpFs, some ⟨b2, 0, none⟩, b2, 0, 5, smpLs⟩
def nilAl : Al := ⟨none, 0, 0, 0, [], none, 0, 0, 0, []⟩
theorem nilAl_in (w : World) : nilAl.In w :=
  ⟨⟨fun h => absurd h (by decide), fun j hj => absurd hj (by simp [nilAl]), by decide, by decide, fun j hj => absurd hj (by simp [nilAl])⟩,
   ⟨fun h => absurd h (by decide), fun j hj => absurd hj (by simp [nilAl]), fun j hj => absurd hj (by simp [nilAl]), fun j hj => absurd hj (by simp [nilAl]), by decide, fun l hl => absurd hl (by simp [nilAl])⟩⟩
theorem smp_v (b1 b2 : Nat) : (smp b1 b2).v = .agg #[.slice (some ⟨b1, 0, none⟩) 3 3, .slice (some ⟨b2, 0, none⟩) 5 5] := rfl
theorem smp_ok : alB smpFs smpLs = true := by kernel_rfl
theorem smp_ok' (b1 b2 : Nat) : (smp b1 b2).ok = true := smp_ok
theorem smp_chk (b1 b2 : Nat) : chk (smp b1 b2) = 0 := by unfold chk; rw [smp_ok']; rfl
theorem nil_chk : chk nilAl = 7 := by kernel_rfl
theorem smp_aac (b1 b2 : Nat) (p m : Nat) (h : clsB 3 p m = true) : aacR (smp b1 b2) p m = 0 := by rw [aacR_ok (smp_ok' b1 b2), show (smp b1 b2).fs.length = 3 from rfl, h]; rfl
theorem smp_of (b1 b2 : Nat) (r : Int) : ofR (smp b1 b2) r = lofR smpLs r := by unfold ofR; rw [smp_ok']; rfl
theorem smp_lac (b1 b2 : Nat) (r : Int) (p m : Nat) (l : Ltr) (h : lofR smpLs r = (l, 0)) (hc : clsB 3 p m = true) : lacR (smp b1 b2) r p m = (l, 0) := by
  rw [lacR_ok (by rw [smp_of, h]) (show clsB (smp b1 b2).fs.length p m = true from hc), smp_of, h]
theorem smp_class (b1 b2 : Nat) : clsR (smp b1 b2) 1 4 = [98, 109] := by unfold clsR; rw [smp_aac b1 b2 1 4 (by decide), if_pos rfl]; kernel_rfl
theorem smp_near (b1 b2 : Nat) : nearR (smp b1 b2) 98 2 1 = (112, 0) := by
  unfold nearR
  rw [smp_lac b1 b2 98 2 1 ⟨98, 1, 6⟩ (by decide) (by decide), if_pos rfl, show (smp b1 b2).ls = smpLs from rfl]
  kernel_rfl
theorem smp_far (b1 b2 : Nat) : farR (smp b1 b2) 112 104 = (3, 0) := by
  unfold farR
  rw [smp_of, show (smp b1 b2).ls = smpLs from rfl]
  kernel_rfl
theorem smp_least (b1 b2 : Nat) : leastR (smp b1 b2) [98, 109] = (1, 4, 0) := by
  unfold leastR
  rw [smp_ok', if_pos rfl, show (smp b1 b2).ls = smpLs from rfl, show (smp b1 b2).fs = smpFs from rfl]
  kernel_rfl
theorem smp_text (b1 b2 : Nat) : textR (smp b1 b2) 1 6 = ([43, 118, 111, 105, 99, 101, 100, 45, 110, 97, 115, 97, 108, 45, 118, 111, 119, 101, 108], 0) := by
  unfold textR
  rw [smp_aac b1 b2 1 6 (by decide), if_pos rfl, show (smp b1 b2).fs = smpFs from rfl]
  kernel_rfl
theorem smp_has (b1 b2 : Nat) : hasR (smp b1 b2) 98 1 2 = (true, 0) := by
  unfold hasR
  rw [smp_lac b1 b2 98 1 2 ⟨98, 1, 6⟩ (by decide) (by decide), if_pos rfl]
  kernel_rfl
theorem smp_par1 (b1 b2 : Nat) : parR (smp b1 b2) ⟨#[45, 118, 111, 119, 101, 108, 43, 118, 111, 105, 99, 101, 100]⟩ = (1, 4, 0, 0) := by
  unfold parR
  rw [smp_ok', if_pos rfl, show (smp b1 b2).fs = smpFs from rfl]
  kernel_rfl
theorem smp_par2 (b1 b2 : Nat) : parR (smp b1 b2) ⟨#[43, 118, 111, 105, 99, 101, 100, 45, 118, 111, 105, 99, 101, 100]⟩ = (0, 0, 7, 20) := by
  unfold parR
  rw [smp_ok', if_pos rfl, show (smp b1 b2).fs = smpFs from rfl]
  kernel_rfl
end Go.Proofs.Ytmbekgfbnapelaa
