/- Total, Room of the program's disk. No condition. -/
import Derived.Test.YtllgjbkmemheoaaSpend
import Derived.Maps.RangeWalk
import Derived.LoopTactic
import Derived.BigQuiet
import Derived.Deep.QuietTactic
import Derived.RegionTactic
import Derived.StillTailTactics
namespace Go.Proofs.Ytllgjbkmemheoaa
open Go.RowKit Go.Maps
/-- The bytes of the files that are no longer to come. -/
def sumLeft (left : Lit → Bool) (l : List Fl) : Nat := (l.map fun f => if left (kl f.nm) = true then 0 else f.dt.length).sum
theorem sum_cons (left : Lit → Bool) (x : Fl) (l : List Fl) : sumLeft left (x :: l) = (if left (kl x.nm) = true then 0 else x.dt.length) + sumLeft left l := by simp [sumLeft]
theorem sum_start {left : Lit → Bool} : ∀ {l : List Fl}, (∀ f, f ∈ l → left (kl f.nm) = true) → sumLeft left l = 0
  | [], _ => rfl
  | x :: l, h => by rw [sum_cons, sum_start (fun f hf => h f (List.mem_cons_of_mem _ hf)), if_pos (h x (List.mem_cons_self ..))]
theorem sum_end {left : Lit → Bool} (h : ∀ k, left k = false) : ∀ l : List Fl, sumLeft left l = total l
  | [] => rfl
  | x :: l => by rw [sum_cons, sum_end h l, total_cons, h]; simp
theorem sum_same {left : Lit → Bool} {nm : ByteArray} : ∀ {l : List Fl}, (∀ f, f ∈ l → f.nm ≠ nm) → sumLeft (fun z => left z && !z.sameKey (kl nm)) l = sumLeft left l
  | [], _ => rfl
  | x :: l, h => by
    rw [sum_cons, sum_cons, sum_same (fun f hf => h f (List.mem_cons_of_mem _ hf))]
    rw [sameKey_ne (fun k => h x (List.mem_cons_self ..) (kl_inj k))]
    simp
theorem sum_step {left : Lit → Bool} {f : Fl} (hl : left (kl f.nm) = true) : ∀ {l : List Fl}, Up l → f ∈ l → sumLeft (fun z => left z && !z.sameKey (kl f.nm)) l = sumLeft left l + f.dt.length
  | x :: l, hu, hm => by
    have hall : ∀ z, z ∈ l → ltB x.nm z.nm = true := fun z hz => List.rel_of_pairwise_cons hu hz
    rw [sum_cons, sum_cons]
    rcases List.mem_cons.1 hm with rfl | hm
    · rw [sum_same fun z hz k => by have := hall z hz; rw [k, lt_self] at this; cases this]
      rw [WideAt.sameKey_self (kl_key _), hl]
      simp; omega
    · have hne : x.nm ≠ f.nm := fun k => by have := hall f hm; rw [k, lt_self] at this; cases this
      rw [sum_step hl (List.Pairwise.of_cons hu) hm, sameKey_ne (fun k => hne (kl_inj k))]
      simp; omega
theorem sum_le (left : Lit → Bool) : ∀ l : List Fl, sumLeft left l ≤ total l
  | [] => Nat.le_refl _
  | x :: l => by
    have := sum_le left l
    rw [sum_cons, total_cons]; split <;> omega
set_option maxRecDepth 100000 in
theorem inv_key {key : Value} {k : Lit} (h : keyOf Try.prog 9 key = some k) : ∃ x : ByteArray, key = .string x := by
  obtain ⟨x, e, _⟩ := keyOf_str Try.underlying9 h
  exact ⟨⟨x.toArray⟩, e⟩
theorem inv_val {v : Value} {y : DataW Unit × List MemPlace} (h : ptrElem v = some y) : ∃ c : Option Addr, v = .pointer c := by
  rcases ptrElem_inv h with ⟨e, _⟩ | ⟨p, e, _⟩
  · exact ⟨_, e⟩
  · exact ⟨_, e⟩
set_option maxRecDepth 100000 in
theorem key_is {x : ByteArray} {k : Lit} (h : keyOf Try.prog 9 (.string x) = some k) : k = kl x := by
  obtain ⟨y, e, e2, _⟩ := keyOf_str Try.underlying9 h
  unfold encStr at e
  injection e with e
  rw [e2, e]; rfl
/-- What the map's next entry is. -/
theorem entry_is {S : Nat → Prop} {w : World} {g b : Nat} {lf : Int} {loc : ByteArray → Loc} {d : DS} (h : Dp S w g b lf loc d) {D : DataW Unit}
    (hm : ∀ s : ByteArray, has D (kl s) = (find s d.l).isSome ∧ D.atKey (kl s) (.lit (.int .i64 (-1))) = .lit (.int .i64 (numO loc d.l s))) {x : ByteArray} {c : Option Addr} {y : DataW Unit × List MemPlace}
    (hv : ptrElem (.pointer c) = some y) (hat : ∀ zd, D.atKey (kl x) zd = y.1) : ∃ f, f ∈ d.l ∧ f.nm = x ∧ c = some ⟨(loc x).p, 0, none⟩ ∧ w.cell? ⟨(loc x).p, 0, none⟩ = some (.slice (loc x).A f.dt.length (loc x).c) := by
  have h1 := has_true_of_atKey hat
  rw [(hm x).1] at h1
  obtain ⟨f, hf⟩ := Option.isSome_iff_exists.1 h1
  obtain ⟨hfm, hfn⟩ := find_mem hf
  have h2 := (hm x).2
  unfold numO at h2
  rw [hat, hf] at h2
  refine ⟨f, hfm, hfn, ?_, ?_⟩
  · rcases ptrElem_inv hv with ⟨_, e⟩ | ⟨p, e1, e⟩
    · rw [e] at h2; simp at h2
    · rw [e] at h2; simp at h2; injection e1 with e1; rw [e1, show p = (loc x).p by omega]
  · have := (h.files.one f hfm).head.cell 0
    rw [hfn] at this
    exact this
set_option maxHeartbeats 1000000 in
theorem total_any {S : Nat → Prop} (g : Nat) (d : DS) (w : World) (h : Dk S w g d) :
    Calls Try.prog 24 #[.pointer (some ⟨g, 0, none⟩)] w fun e w' => e = .returned (.int .i64 (total d.l)) ∧ Below w.heap.size w w' := by
  obtain ⟨b, lf, loc, h⟩ := h
  obtain ⟨D, hD, hz, hm⟩ := h.map
  have hle := h.ok.tot
  have hq := h.ok.q.2
  have hsl := hide (fun left => sum_le left d.l)
  have c1 : w.cell? ⟨g, 1, none⟩ = some (.map (some b)) := h.row.cell 1
  have HO := hide hD
  have HM := hide hm
  have H := hide h
  clear hm hz hD h
  go_enter Try.func24, Try.ntmps24
  go_wp2_with (first
    | (at_range; refine wpList_range_own _ rfl _ 57 rfl 9 60 law Try.underlying57 _ b d.l.length _ rfl HO.out ?_; intro w0 hrg0 hg0 hs0)
    | go_in)
  have hb0 := hide (below_grown hg0)
  clear hg0 hs0
  go_frame
  go_loopw [3] (fun v wr => ∃ (left : Lit → Bool) (cnt : Nat), wr.ranges Try.prog 9 ptrElem b w.heap.size d.l.length D left cnt ∧ v = .int .i64 (sumLeft left d.l : Nat) ∧ Hid (Below w.heap.size w wr))
    (fun _ wr => wr.rangeLeft b w.heap.size)
  case atStart =>
    exact ⟨_, _, hrg0, by rw [sum_start (l := d.l) (fun f hf => by rw [(HM.out f.nm).1, find_of_mem H.out.ok.up hf]; rfl)]; rfl, hb0⟩
  case round =>
    obtain ⟨left, cnt, hrg, rfl, hb⟩ := hrel
    clear hrg0 hb0
    go_wp2_with (first
      | (at_next; refine wpList_next_ranges _ rfl _ rfl 9 law ptrElem Value.string Value.pointer (fun key k hk => inv_key hk) (fun v y hv => inv_val hv) b w.heap.size d.l.length _ _ _ rfl hrg ?_ ?_)
      | go_in)
    · intro hc0 hl0
      have he := hide (sum_end hl0 d.l)
      clear hl0 hc0
      go_wp2
      go_ret
      exact ⟨ret_int (by rw [he.out]), hb.out⟩
    · intro x c k yd yp w2 cnt2 hkey hlk hv hat hrg2 hlt hg2 hs2 hen
      obtain rfl := key_is hkey
      have hb2 := hide (hb.out.grown hg2 hb.out.size (fun k e => by injection e; omega))
      obtain ⟨f, hfm, rfl, rfl, hcell⟩ := entry_is (H.out.below hb2.out) HM.out hv hat
      have hst := hide (sum_step hlk H.out.ok.up hfm)
      have hs1 := hsl.out left
      have hs3 := hsl.out (fun z => left z && !z.sameKey (kl f.nm))
      have hadd : sumLeft left d.l + f.dt.length ≤ 1048576 := by rw [← hst.out]; omega
      have HR := hide hrg
      have HL := hide hlt
      clear hkey hlk hv hat hg2 hs2 hrg hlt hb hs3
      go_wp2
      go_roundw
      case rel => exact ⟨_, cnt2, hrg2, by rw [hst.out]; go_num, hb2⟩
      case measure => rw [hrg2.left_eq, HR.out.left_eq]; exact HL.out
end Go.Proofs.Ytllgjbkmemheoaa
