/- What the document's digits and Segment come to at one. No condition. -/
import Derived.Test.YtkmcnhjfnjikaaaGreatDoorSgm
namespace Go.Proofs.YtkmcnhjfnjikaaaGreatDoor
open Go.RowKit Go.Maps
set_option maxRecDepth 100000 in
set_option maxHeartbeats 1000000 in
theorem digits_one (w : World) : Calls Tryz.prog 70 #[.int .i64 1] w fun e w' => e = .returned (.string ⟨#[49]⟩) ∧ Below w.heap.size w w' := by
  have hcv : ∀ (w : World), (convert 31 9 (.slice (some ⟨w.heap.size, 0, none⟩) 1 1)).run Tryz.prog (w.alloc (.cells #[.int .u8 49] 5)) = .ok (.string ⟨#[49]⟩) (w.alloc (.cells #[.int .u8 49] 5)) := fun w => conv_any (zs := [49]) rfl (lies_lit w [49] 5 (0, 0))
  have hb0 := hide (Below.refl w.heap.size w)
  go_enter Tryz.func70, Tryz.ntmps70
  go_wp2
  go_loopw [0, 3] (fun a s wr => ((a = .int .i64 1 ∧ s = .string ⟨#[]⟩) ∨ (a = .int .i64 0 ∧ s = .string ⟨#[49]⟩)) ∧ Hid (Below w.heap.size w wr)) (fun a _ _ => (intOf a).toNat)
  case atStart => exact ⟨.inl ⟨rfl, rfl⟩, hb0⟩
  case round =>
    obtain ⟨⟨rfl, rfl⟩ | ⟨rfl, rfl⟩, hb⟩ := hrel
    · have hb2 := hide (hb.out.alloc hb.out.size (.cells #[.int .u8 49] 5))
      go_wp2
      go_roundw
      case rel => exact ⟨.inr ⟨rfl, rfl⟩, hb2⟩
      case measure => simp [intOf]
    · go_wp2
      go_ret
      exact ⟨rfl, hb.out⟩
theorem seg_one : ((((⟨#[108, 111, 103, 46]⟩ : ByteArray) ++ (⟨#[49]⟩ : ByteArray)) ++ (⟨#[46]⟩ : ByteArray)) ++ (⟨#[49]⟩ : ByteArray)) = segN 1 1 := by
  have h := seg_text 1 1
  rw [← h]
  rfl
set_option maxRecDepth 100000 in
set_option maxHeartbeats 1000000 in
theorem segment_one (w : World) : Calls Tryz.prog 36 #[.int .i64 1, .int .i64 1] w fun e w' => e = .returned (.string (segN 1 1)) ∧ Below w.heap.size w w' := by
  have hs := hide seg_one
  have hb0 := hide (Below.refl w.heap.size w)
  go_enter Tryz.func36, Tryz.ntmps36
  go_wp2_with (go_at_call 70; (with_reducible refine (digits_one _).mono ?_); rintro e w1 ⟨rfl, hb1⟩; (have hb2 := hide (kept_trans hb0.out hb1)); clear hb0 hb1; (have hb0 := hb2); clear hb2)
  go_ret
  rw [← hs.out]
  exact ⟨rfl, hb0.out⟩
end Go.Proofs.YtkmcnhjfnjikaaaGreatDoor
