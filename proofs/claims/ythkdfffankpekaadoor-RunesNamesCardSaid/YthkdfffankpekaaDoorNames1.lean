/-
  CLOSED FACTS: the chapter's examples.
-/
import Derived.Test.YthkdfffankpekaaDoorPlain
import Derived.Test.YthkdfffankpekaaDoorPart
import Derived.Test.YthkdfffankpekaaDoorAlive
namespace Go.Proofs.YthkdfffankpekaaDoor
open Go.RowKit Go.Lib

def plainT' (s : ByteArray) : Value :=
  if 0 ≤ (unq s).2 then .tuple #[.string ByteArray.empty, .int .i64 (unq s).2, .int .i64 10]
  else if 65536 < (strOf (unq s).1).size then .tuple #[.string ByteArray.empty, .int .i64 0, .int .i64 3]
  else if (quoteL (strOf (unq s).1)) = s.data.toList then .tuple #[.string (strOf (unq s).1), .int .i64 0, .int .i64 0]
  else .tuple #[.string ByteArray.empty, .int .i64 0, .int .i64 10]
theorem plainT_eq (s : ByteArray) : plainT s = plainT' s := by
  unfold plainT plainT'
  rw [ByteArray.toList_eq, ByteArray.toList_eq]
  rfl

theorem nm_w1 : plainT' ⟨#[34, 97, 92, 120, 52, 49, 34]⟩ = .tuple #[.string ByteArray.empty, .int .i64 2, .int .i64 10] := by kernel_rfl
theorem nm_w2 : plainT' ⟨#[34, 97]⟩ = .tuple #[.string ByteArray.empty, .int .i64 2, .int .i64 10] := by kernel_rfl
theorem nm_w3 : plainT' ⟨#[97]⟩ = .tuple #[.string ByteArray.empty, .int .i64 0, .int .i64 10] := by kernel_rfl
theorem nm_w4 : plainT' ⟨#[34, 92, 120, 99, 51, 92, 120, 97, 57, 34]⟩ = .tuple #[.string ByteArray.empty, .int .i64 0, .int .i64 10] := by kernel_rfl
theorem nm_w5 : plainT' ⟨#[34, 92, 117, 48, 101, 57, 59, 34]⟩ = .tuple #[.string ByteArray.empty, .int .i64 1, .int .i64 10] := by kernel_rfl

def nmB : ByteArray := ⟨#[97, 195, 169, 255, 98]⟩
theorem nm_p : pieceCs nmB (starts nmB) = [.int .i32 97, .int .i64 0, .int .i64 1, .bool false, .int .i32 233, .int .i64 1, .int .i64 2, .bool false, .int .i32 65533, .int .i64 3, .int .i64 1, .bool true, .int .i32 98, .int .i64 4, .int .i64 1, .bool false] := by kernel_rfl
theorem nm_l : (starts nmB).length = 4 := by kernel_rfl
theorem nm_f : firstB nmB (starts nmB) = 3 := by kernel_rfl
theorem nm_f2 : firstB ⟨#[97]⟩ (starts ⟨#[97]⟩) = -1 := by kernel_rfl
theorem nm_cut : nmB.extract (place nmB 1) (place nmB 3) = ⟨#[195, 169, 255]⟩ := by kernel_rfl
theorem nm_q1 : strOf (quoteL nmB) = ⟨#[34, 97, 92, 117, 101, 57, 59, 92, 120, 102, 102, 98, 34]⟩ := by kernel_rfl
theorem nm_q2 : strOf (quoteL ⟨#[97, 34, 98, 10]⟩) = ⟨#[34, 97, 92, 34, 98, 92, 117, 97, 59, 34]⟩ := by kernel_rfl
theorem nm_t1 : strOf (textL [55296, 98]) = ⟨#[239, 191, 189, 98]⟩ := by kernel_rfl
theorem nm_t2 : strOf (textL [-1]) = ⟨#[239, 191, 189]⟩ := by kernel_rfl
theorem nm_less1 : less ⟨#[97]⟩ ⟨#[98]⟩ = true := by kernel_rfl
theorem nm_less2 : less ⟨#[97]⟩ ⟨#[97, 98]⟩ = true := by kernel_rfl
theorem nm_less3 : less ⟨#[244, 143, 191, 191]⟩ ⟨#[128]⟩ = true := by kernel_rfl
theorem nm_less4 : less ⟨#[98]⟩ ⟨#[97]⟩ = false := by kernel_rfl
end Go.Proofs.YthkdfffankpekaaDoor
