/- What package sum's functions and the document's own answer come to. Conditions: the bounds of the arguments' kinds; the bytes lie in memory. -/
import Derived.Test.YtdmfblobmahfbaaRows
import Derived.Test.YtdmfblobmahfbaaCrc
import Derived.Test.YtdmfblobmahfbaaMem
import Derived.LoopTactic
import Derived.Deep.DeepCutAuto
namespace Go.Proofs.Ytdmfblobmahfbaa
open Go.RowKit
def nats (zs : List Int) : List Nat := zs.map Int.toNat
theorem stp_walk (x : Nat) (h : x < 4294967296) (h1 : x % 2 = 1) : bits .xor .u32 ((x / 2 : Nat) : Int) 3988292384 = (stp x : Nat) := by
  have e := u32_xor_nat (x / 2) 3988292384 (by omega) (by omega)
  unfold stp; rw [if_pos h1]; exact e
theorem stp_even (x : Nat) (h1 : ¬ x % 2 = 1) : x / 2 = stp x := by
  unfold stp; rw [if_neg h1, Nat.xor_zero]
theorem u32_and_one (x : Nat) (h : x < 4294967296) : bits .and .u32 (x : Int) 1 = (x % 2 : Nat) := by
  have e := u32_and_nat x 1 h (by omega)
  refine e.trans ?_
  rw [Nat.and_one_is_mod]
set_option maxHeartbeats 400000 in
theorem down_any (x : Nat) (w : World) (h0 : x < 4294967296) :
    Calls Try.prog 28 #[.int .u32 x] w fun e w' => e = .returned (.int .u32 (stpN 8 x : Nat)) ∧ w = w' := by
  go_enter Try.func28, Try.ntmps28
  go_wp2
  go_loop [0, 4] (fun c i => ∃ k : Nat, k ≤ 8 ∧ i = .int .i64 k ∧ c = .int .u32 (stpN k x : Nat)) (fun _ i => 8 - (intOf i).toNat)
  case atStart => exact ⟨0, by omega, rfl, rfl⟩
  case round =>
    obtain ⟨k, hk, rfl, rfl⟩ := hrel
    by_cases hlt : k < 8
    · have hl := stpN_lt h0 k
      have ha := u32_and_one _ hl
      have hs := hide (stpN_succ k x)
      generalize stpN k x = y at *
      by_cases c : y % 2 = 1
      · have hb : ((bits .and .u32 (y : Int) 1 : Int) == 1) = true := by rw [ha, c]; rfl
        have hw := hide (stp_walk y hl c)
        clear ha c
        go_wp2
        go_round
        case rel => exact ⟨k + 1, by omega, by go_num, by rw [hs.out, ← hw.out]; congr 1⟩
        case measure => simp [intOf]; omega
      · have hb : ((bits .and .u32 (y : Int) 1 : Int) == 1) = false := by rw [ha]; simp; omega
        have hw := hide (stp_even y c)
        clear ha c
        go_wp2
        go_round
        case rel => exact ⟨k + 1, by omega, by go_num, by rw [hs.out, ← hw.out]; congr 1⟩
        case measure => simp [intOf]; omega
    · obtain rfl : k = 8 := by omega
      go_wp2
      go_ret
      exact ⟨rfl, rfl⟩
theorem ix_nats {zs : List Int} {k : Nat} (h : k < zs.length) : (nats zs)[k]'(by unfold nats; simpa using h) = (ix zs k).toNat := by
  unfold nats; rw [List.getElem_map, ix_lt zs h]
theorem length_nats (zs : List Int) : (nats zs).length = zs.length := List.length_map _
theorem bytes_nats {zs : List Int} (h : Octets zs) : Bytes (nats zs) := by
  intro b hb
  unfold nats at hb
  obtain ⟨z, hz, rfl⟩ := List.mem_map.1 hb
  have := h z hz
  omega
theorem bytes_take {bs : List Nat} (h : Bytes bs) (k : Nat) : Bytes (bs.take k) := fun b hb => h b (List.mem_of_mem_take hb)
theorem crcS_step (c : Nat) {zs : List Int} {k : Nat} (h : k < zs.length) : crcS c ((nats zs).take (k + 1)) = stpN 8 (crcS c ((nats zs).take k) ^^^ (ix zs k).toNat) := by
  have h2 : k < (nats zs).length := by rw [length_nats]; exact h
  rw [List.take_succ_eq_append_getElem h2, crcS_append, ix_nats h]; rfl
theorem xor_byte (x : Nat) (z : Int) (hx : x < 4294967296) (h0 : 0 ≤ z) (h1 : z ≤ 255) : bits .xor .u32 (x : Int) z = ((x ^^^ z.toNat : Nat) : Int) := by
  obtain ⟨Z, rfl⟩ := Int.eq_ofNat_of_zero_le h0
  exact u32_xor_nat x Z hx (by omega)
theorem not_u32 (x : Nat) (h : x < 4294967296) : bits .xor .u32 IntKind.u32.max (x : Int) = ((x ^^^ 4294967295 : Nat) : Int) := by
  have e := u32_xor_nat 4294967295 x (by omega) h
  rw [Nat.xor_comm]; exact e
set_option maxHeartbeats 400000 in
theorem on_any (A : Option Addr) (n c : Nat) (zs : List Int) (x : Nat) (w : World) (hx : x < 4294967296) (hn : zs.length = n) (hz : Lies w A zs) (ho : Octets zs) (ln : n ≤ 4611686018427387904) :
    Calls Try.prog 27 #[.int .u32 x, .slice A n c] w fun e w' => e = .returned (.int .u32 (crc x (nats zs) : Nat)) ∧ w = w' := by
  subst hn
  have hb := hide (bytes_nats ho)
  have hx' := xor_lt hx (show 4294967295 < 4294967296 by omega)
  have hnot := hide (not_u32 x hx)
  go_enter Try.func27, Try.ntmps27
  go_wp2
  go_loop [0, 11] (fun c i => ∃ k : Nat, k ≤ zs.length ∧ i = .int .i64 k ∧ c = .int .u32 (crcS (x ^^^ 4294967295) ((nats zs).take k) : Nat)) (fun _ i => zs.length - (intOf i).toNat)
  case atStart => exact ⟨0, by omega, rfl, by rw [hnot.out]; rfl⟩
  case round =>
    obtain ⟨k, hk, rfl, rfl⟩ := hrel
    have hl := crcS_lt hx' (bytes_take hb.out k)
    by_cases hlt : k < zs.length
    · obtain ⟨b1, o1, rfl, _, hc1⟩ := hz.at_ (k := k) hlt
      have o := ho.ix k
      have hs := hide (crcS_step (x ^^^ 4294967295) hlt)
      have HZ := hide hz; have HO := hide ho; clear hz ho
      have hxb := hide (xor_byte _ (ix zs k) hl o.1 o.2)
      have hl2 := xor_lt hl (show (ix zs k).toNat < 4294967296 by omega)
      obtain ⟨o1, o2⟩ := o
      generalize crcS (x ^^^ 4294967295) ((nats zs).take k) = y at *
      go_wp2_with (go_at_call 28; rw [hxb.out]; (with_reducible refine (down_any _ _ hl2).mono ?_); rintro e w1 ⟨rfl, rfl⟩)
      go_round
      case rel => exact ⟨k + 1, by omega, by go_num, by rw [hs.out]⟩
      case measure => simp [intOf]; omega
    · obtain rfl : k = zs.length := by omega
      have hf := hide (not_u32 _ hl)
      go_wp2
      go_ret
      exact ⟨ret_int (by rw [hf.out]; unfold crc; rw [List.take_of_length_le (by rw [length_nats]; omega)]), rfl⟩
theorem on_zero (A : Option Addr) (n c : Nat) (zs : List Int) (w : World) (hn : zs.length = n) (hz : Lies w A zs) (ho : Octets zs) (ln : n ≤ 4611686018427387904) :
    Calls Try.prog 27 #[.int .u32 0, .slice A n c] w fun e w' => e = .returned (.int .u32 (crc 0 (nats zs) : Nat)) ∧ w = w' := on_any A n c zs 0 w (by omega) hn hz ho ln
set_option maxHeartbeats 400000 in
theorem of_any (A : Option Addr) (n c : Nat) (zs : List Int) (w : World) (hn : zs.length = n) (hz : Lies w A zs) (ho : Octets zs) (ln : n ≤ 4611686018427387904) :
    Calls Try.prog 22 #[.slice A n c] w fun e w' => e = .returned (.int .u32 (crc 0 (nats zs) : Nat)) ∧ w = w' := by
  go_enter Try.func22, Try.ntmps22
  go_wp2_with (go_at_call 27; (with_reducible refine (on_zero A n c zs w hn hz ho ln).mono ?_); rintro e w1 ⟨rfl, rfl⟩)
  go_ret
  exact ⟨rfl, rfl⟩
set_option maxHeartbeats 400000 in
theorem ron_any (A : Option Addr) (n c : Nat) (zs : List Int) (x : Nat) (w : World) (hx : x < 4294967296) (hn : zs.length = n) (hz : Lies w A zs) (ho : Octets zs) (ln : n ≤ 4611686018427387904) :
    Calls Try.prog 25 #[.int .u32 x, .slice A n c] w fun e w' => e = .returned (.int .u32 (crc x (nats zs) : Nat)) ∧ w = w' := by
  subst hn
  have hb := hide (bytes_nats ho)
  have hx' := xor_lt hx (show 4294967295 < 4294967296 by omega)
  have hnot := hide (not_u32 x hx)
  go_enter Try.func25, Try.ntmps25
  go_wp2
  go_loop [0, 5] (fun c i => ∃ k : Nat, k ≤ zs.length ∧ i = .int .i64 k ∧ c = .int .u32 (crcS (x ^^^ 4294967295) ((nats zs).take k) : Nat)) (fun _ i => zs.length - (intOf i).toNat)
  case atStart => exact ⟨0, by omega, rfl, by rw [hnot.out]; rfl⟩
  case round =>
    obtain ⟨k, hk, rfl, rfl⟩ := hrel
    have hl := crcS_lt hx' (bytes_take hb.out k)
    by_cases hlt : k < zs.length
    · obtain ⟨b1, o1, rfl, _, hc1⟩ := hz.at_ (k := k) hlt
      have o := ho.ix k
      have hs := hide (crcS_step (x ^^^ 4294967295) hlt)
      have HZ := hide hz; have HO := hide ho; clear hz ho
      have hxb := hide (xor_byte _ (ix zs k) hl o.1 o.2)
      have hl2 := xor_lt hl (show (ix zs k).toNat < 4294967296 by omega)
      obtain ⟨o1, o2⟩ := o
      generalize crcS (x ^^^ 4294967295) ((nats zs).take k) = y at *
      go_wp2
      go_loop [0, 6] (fun c i => ∃ j : Nat, j ≤ 8 ∧ i = .int .i64 j ∧ c = .int .u32 (stpN j (y ^^^ (ix zs k).toNat) : Nat)) (fun _ i => 8 - (intOf i).toNat)
      case atStart => exact ⟨0, by omega, rfl, by rw [hxb.out]; rfl⟩
      case round =>
        obtain ⟨j, hj, rfl, rfl⟩ := hrel
        by_cases hlt2 : j < 8
        · have hl3 := stpN_lt hl2 j
          have ha := u32_and_one _ hl3
          have hs2 := hide (stpN_succ j (y ^^^ (ix zs k).toNat))
          generalize stpN j (y ^^^ (ix zs k).toNat) = v at *
          by_cases c : v % 2 = 1
          · have hb : ((bits .and .u32 (v : Int) 1 : Int) == 1) = true := by rw [ha, c]; rfl
            have hw := hide (stp_walk v hl3 c)
            clear ha c
            go_wp2
            go_round
            case rel => exact ⟨j + 1, by omega, by go_num, by rw [hs2.out, ← hw.out]; congr 1⟩
            case measure => simp [intOf]; omega
          · have hb : ((bits .and .u32 (v : Int) 1 : Int) == 1) = false := by rw [ha]; simp; omega
            have hw := hide (stp_even v c)
            clear ha c
            go_wp2
            go_round
            case rel => exact ⟨j + 1, by omega, by go_num, by rw [hs2.out, ← hw.out]; congr 1⟩
            case measure => simp [intOf]; omega
        · obtain rfl : j = 8 := by omega
          go_wp2
          go_round
          case rel => exact ⟨k + 1, by omega, by go_num, by rw [hs.out]⟩
          case measure => simp [intOf]; omega
    · obtain rfl : k = zs.length := by omega
      have hf := hide (not_u32 _ hl)
      go_wp2
      go_ret
      exact ⟨ret_int (by rw [hf.out]; unfold crc; rw [List.take_of_length_le (by rw [length_nats]; omega)]), rfl⟩
theorem ron_zero (A : Option Addr) (n c : Nat) (zs : List Int) (w : World) (hn : zs.length = n) (hz : Lies w A zs) (ho : Octets zs) (ln : n ≤ 4611686018427387904) :
    Calls Try.prog 25 #[.int .u32 0, .slice A n c] w fun e w' => e = .returned (.int .u32 (crc 0 (nats zs) : Nat)) ∧ w = w' := ron_any A n c zs 0 w (by omega) hn hz ho ln
end Go.Proofs.Ytdmfblobmahfbaa
