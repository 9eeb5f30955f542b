/-
  WALKS: word.cut.
-/
import Derived.Test.YtcibjgkifafohaaDoorCmP
import Derived.Test.YtcibjgkifafohaaDoorSyB
namespace Go.Proofs.YtcibjgkifafohaaDoor
open Go.RowKit Go.Lib
set_option linter.unusedVariables false

/-- What 'part' gives of a row. -/
def prtV : Option Addr → Nat → Nat → Value
  | none, _, _ => .slice none 0 0
  | some ad, a, b => if a < b then .slice (some ⟨ad.block, a, none⟩) (b - a) (b - a) else .slice (some ⟨ad.block, 0, none⟩) 0 0
theorem prtV_shape (o : Option Addr) (a b : Nat) : ∃ p n c, prtV o a b = .slice p n c := by
  cases o with
  | none => exact ⟨none, 0, 0, rfl⟩
  | some ad =>
    unfold prtV
    by_cases h : a < b
    · exact ⟨_, _, _, if_pos h⟩
    · exact ⟨_, _, _, if_neg h⟩
theorem partV_any {B : Nat} {oa : Option Addr} {na ca : Nat} {L : List Int} {W : World} (ho : W.ownsRow B 21 1 (.slice oa na ca) na (L.map E32)) (a b : Nat) (hab : a ≤ b) (hb : b ≤ na) (W' : World) :
    Calls Tryd.prog 52 #[.slice oa na ca, .int .i64 a, .int .i64 b] W' fun e w' => e = .returned (prtV oa a b) ∧ w' = W' := by
  rcases ho.2 with ⟨he, h0⟩ | ⟨g, cap, cur, he, hB, hg, hc, hm, hsz, ht⟩
  · simp only [Value.slice.injEq] at he
    obtain ⟨rfl, rfl, rfl⟩ := he
    obtain rfl : b = 0 := by omega
    obtain rfl : a = 0 := by omega
    exact part_nil W'
  · simp only [Value.slice.injEq] at he
    obtain ⟨rfl, _, rfl⟩ := he
    have hcap : ca ≤ 9223372036854775807 := by unfold maxLen at hm; omega
    by_cases hlt : a < b
    · have h1 : prtV (some ⟨g, 0, none⟩) a b = .slice (some ⟨g, a, none⟩) (b - a) (b - a) := if_pos hlt
      rw [h1]
      exact part_some g na ca a b W' hlt hb (by omega) hcap
    · obtain rfl : a = b := by omega
      have h1 : prtV (some ⟨g, 0, none⟩) a a = .slice (some ⟨g, 0, none⟩) 0 0 := if_neg hlt
      rw [h1]
      exact part_none g na ca a W' hb (by omega) hcap
/-- Where a word begins. -/
def enF (EN : List Nat) (k : Nat) : Nat := if k = 0 then 0 else EN.getD (k - 1) 0
theorem enF_next (EN : List Nat) (k : Nat) : enF EN (k + 1) = EN.getD k 0 := by unfold enF; rw [if_neg (by omega), Nat.add_sub_cancel]
def cutCs (o : Option Addr) (EN : List Nat) (k : Nat) : List Value := (List.range k).map fun i => prtV o (enF EN i) (EN.getD i 0)
theorem cutCs_snoc (o : Option Addr) (EN : List Nat) (k : Nat) : cutCs o EN k ++ [prtV o (enF EN k) (EN.getD k 0)] = cutCs o EN (k + 1) := by
  unfold cutCs
  rw [List.range_succ, List.map_append]
  rfl
theorem seg_info : (Tryd.prog.info? 22).map (fun i => (i.zero, i.size, i.bytes)) = some (some (.slice none 0 0), 1, 24) := by kernel_rfl

set_option maxHeartbeats 4000000 in
set_option maxRecDepth 100000 in
theorem cut_any {B : Nat} {oa : Option Addr} {na ca : Nat} {L : List Int} {np : Option Addr} {nb nc : Nat} {EN : List Nat} (w : World) (ho : w.ownsRow B 21 1 (.slice oa na ca) na (L.map E32)) (hN : NsIn np nb 0 EN w) (hle : ∀ k, k < EN.length → enF EN k ≤ EN.getD k 0 ∧ EN.getD k 0 ≤ na) (hn : EN.length ≤ 4096) (hna : na ≤ 1100000) :
    Calls Tryd.prog 62 #[.slice oa na ca, .slice np EN.length nc] w fun e w' => ∃ v : Value, e = .returned v ∧ w'.ownsRow w.heap.size 22 1 v EN.length (cutCs oa EN EN.length) ∧ Below w.heap.size w w' ∧ v ≠ .slice none 0 0 := by
  have kp := fun a b hab hb W' => partV_any ho a b hab hb W'
  have hsn := cutCs_snoc oa EN
  obtain ⟨n, hn'⟩ : ∃ n, n = EN.length := ⟨_, rfl⟩
  rw [← hn'] at hle hn ⊢
  obtain ⟨i0, hi, hz0, hz1, hz2⟩ := info_parts seg_info
  have HI0 := Lib.hid hi; have HZ0 := Lib.hid hz0; have HZ1 := Lib.hid hz1; have HZ2 := Lib.hid hz2
  have KP := Lib.hid kp; have HSN := Lib.hid hsn; have HNS := Lib.hid hN; have HLE := Lib.hid hle; have HN := Lib.hid hn'
  clear hi hz0 hz1 hz2 kp hsn hN hle hn' ho
  go_enter Tryd.func62, Tryd.ntmps62
  go_wp2_with (at_make; refine wpList_make_own _ rfl _ _ 93 rfl w.heap.size 22 i0 _ 1 Tryd.underlying93 HI0.out HZ0.out HZ1.out .i64 .i64 _ n rfl rfl (by simp) ?m1 ?m2 ?m3 ?_)
  case m1 => rw [HZ2.out]; omega
  case m2 => unfold maxLen; omega
  case m3 => simp
  intro w2 hown2 hgrow2
  have HO := Lib.hid hown2
  have HB := Lib.hid ((Below.refl w.heap.size w).grown hgrow2 (Nat.le_refl _) (fun k hk => by cases hk))
  clear hown2 hgrow2
  go_wp2_with fail
  go_loopw [5, 6, 14] (fun v fr iv wr => ∃ k : Nat, iv = .int .i64 k ∧ k ≤ n ∧ fr = .int .i64 (enF EN k : Nat) ∧ Hid (wr.ownsRow w.heap.size 22 1 v k (cutCs oa EN k)) ∧ Hid (Below w.heap.size w wr) ∧ Hid (v ≠ .slice none 0 0)) (fun _ _ iv _ => n - (intOf iv).toNat)
  case atStart => exact ⟨0, rfl, Nat.zero_le _, rfl, HO, HB, by intro e; simp at e⟩
  case round =>
    clear HO HB
    obtain ⟨k, rfl, hk, rfl, HO, HBr, HNil⟩ := hrel
    have hszr := HBr.out.size
    by_cases hkn : k < n
    · have hkl : k < EN.length := by have := HN.out; omega
      obtain rfl := HNS.out.at_ (by omega)
      have a0 := (HNS.out.next HBr.out).cells k hkl
      rw [Nat.zero_add] at a0
      obtain ⟨hl1, hl2⟩ := HLE.out k hkn
      have hs1 := HSN.out k
      have hnx := enF_next EN k
      obtain ⟨q, hq⟩ : ∃ q, q = EN.getD k 0 := ⟨_, rfl⟩
      rw [← hq] at a0 hl1 hl2 hs1 hnx
      obtain ⟨f, hf⟩ : ∃ q, q = enF EN k := ⟨_, rfl⟩
      rw [← hf] at hl1 hs1 ⊢
      obtain ⟨p2, n2, c2, hV⟩ := prtV_shape oa f q
      have hkp := fun W' => KP.out f q hl1 hl2 W'
      rw [hV] at hkp hs1
      have KPP := Lib.hid hkp; have HS1 := Lib.hid hs1; have HNX := Lib.hid hnx
      obtain ⟨ov, cv, rfl⟩ := own_shape HO.out
      clear hkp hs1 hnx hq hf hV hkl
      go_wp2_with fail
      refine (KPP.out _).mono ?_
      rintro _ w' ⟨rfl, hw⟩
      rw [hw]
      clear hw
      go_wp2_with (at_builtin; refine wpList_append_own _ rfl (.tmp 18) (.tmp 23) 93 rfl w.heap.size 22 i0 (.slice none 0 0) 1 24 Tryd.underlying93 HI0.out HZ0.out HZ1.out HZ2.out rfl (by decide) _ _ _ rfl (HO.out.alloc _) ⟨wr.heap.size, 0, none⟩ 1 1 [.slice p2 n2 c2] rfl rfl ?c1 ?c2 ?c3 ?c4 ?c5 ?_)
      any_goals (first | (unfold maxLen; omega) | omega | (simp; omega) | exact ⟨rfl, rfl⟩ | (intro u hu; simp at hu; rcases hu with rfl; rfl) | (intro j u hj; match j, hj with | 0, hj => (simp at hj; subst hj; simp [Addr.add]) | j + 1, hj => simp at hj))
      intro v3 w4 hown3 hgrow3 hnil3
      have hob : ∀ q, (Value.slice ov k cv).ownBlock = some q → w.heap.size ≤ q := fun q hq => (HO.out.lt q hq).1
      have hB3 : Below w.heap.size w w4 := (HBr.out.alloc (by omega) _).grown hgrow3 (by simp; omega) hob
      have hO3 : w4.ownsRow w.heap.size 22 1 v3 (k + 1) (cutCs oa EN (k + 1)) := by
        rw [← HS1.out]
        exact hown3
      have HB3 := Lib.hid hB3; have HO3 := Lib.hid hO3
      have HNil3 := Lib.hid (show v3 ≠ .slice none 0 0 from by first | exact hnil3 | exact fun e => absurd (hnil3.1 e).2 (by decide))
      clear hob hB3 hown3 hgrow3 hnil3 hO3
      go_wp2_with fail
      go_roundw
      case rel => exact ⟨k + 1, by go_num, by omega, by rw [HNX.out], HO3, HB3, HNil3⟩
      case measure => simp [intOf]; omega
    · obtain ⟨ov, cv, rfl⟩ := own_shape HO.out
      have hk' : k = n := by omega
      have hrow : wr.ownsRow w.heap.size 22 1 (.slice ov k cv) n (cutCs oa EN n) := by
        have h1 := HO.out
        rw [hk'] at h1 ⊢
        exact h1
      have HRW := Lib.hid hrow
      clear hrow
      go_wp2_with fail
      go_ret
      exact ⟨_, rfl, HRW.out, HBr.out, HNil.out⟩
end Go.Proofs.YtcibjgkifafohaaDoor
