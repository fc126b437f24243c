/- Room, Names of the program's disk. Condition of Names: the files have room in a slice. -/
import Derived.Test.YtllgjbkmemheoaaTotal
import Derived.Test.YtllgjbkmemheoaaItlay
import Derived.Test.YtllgjbkmemheoaaSp
namespace Go.Proofs.Ytllgjbkmemheoaa
open Go.RowKit Go.Maps Go.Sort Go.Shelf
set_option maxHeartbeats 1000000 in
theorem room_any {S : Nat → Prop} (g : Nat) (d : DS) (w : World) (h : Dk S w g d) :
    Calls Try.prog 25 #[.pointer (some ⟨g, 0, none⟩)] w fun e w' => e = .returned (.int .i64 (d.q - total d.l)) ∧ Below w.heap.size w w' := by
  have ht := h.ok.tot
  have hq := h.ok.q
  obtain ⟨S0, hS⟩ : ∃ S0 : World → Prop, (fun w' => Below w.heap.size w w') = S0 := ⟨_, rfl⟩
  have TT := hide (show ∀ k : Sp S0, Calls Try.prog 24 #[.pointer (some ⟨g, 0, none⟩)] k.w fun e w' => e = .returned (.int .i64 (total d.l)) ∧ Below k.w.heap.size k.w w' by subst hS; exact fun k => total_any g d k.w (h.below k.ok))
  have STEP := hide (show ∀ w w', S0 w → Below w.heap.size w w' → S0 w' by subst hS; exact fun _ _ h1 hb => kept_trans h1 hb)
  have OLD := hide (show ∀ k : Sp S0, Below w.heap.size w k.w by subst hS; exact fun k => k.ok)
  have c0 : ∀ k : Sp S0, k.w.cell? ⟨g, 0, none⟩ = some (.int .i64 d.q) := by
    subst hS
    intro k
    obtain ⟨b, lf, loc, h⟩ := h
    exact ((h.below k.ok).row).cell 0
  have hst : S0 w.drew := by subst hS; exact kept_drewN (kept_refl w) 1
  have ne : Nonempty (Sp S0) := ⟨⟨_, hst⟩⟩
  clear h hS
  go_enter Try.func25, Try.ntmps25
  go_wp2
  refine wp_region_sp S0 (by kernel_rfl) (by kernel_rfl) hst ?_
  clear hst
  have hsub : IntKind.i64.wrap (d.q - (total d.l : Int)) = d.q - (total d.l : Int) := IntWalk.i64_in _ (by omega)
  repeat (quiet_step ((go_at_call 24; with_reducible exact sp_call STEP.out _ (TT.out _))))
  refine wpQuiet_nil ?_
  intro kk
  have OK := hide (OLD.out kk)
  generalize kk.w = wk at OK ⊢
  clear c0 ne OLD STEP TT
  go_wp2
  go_ret
  exact ⟨rfl, OK.out⟩
theorem names_up {l : List Fl} (h : Up l) : (l.map fun x => x.nm.data.toList).Pairwise fun a b => a < b := by
  rw [List.pairwise_map]
  refine List.Pairwise.imp (fun {a b} hab => ?_) h
  unfold ltB at hab
  rw [bytesLess_eq, ByteArray.toList_eq, ByteArray.toList_eq, decide_eq_true_iff] at hab
  exact hab
theorem sorted_names {l : List Fl} (h : Up l) {ss : List (List UInt8)} (hp : ss.Perm (l.map fun x => x.nm.data.toList)) : ss.mergeSort (fun x y => decide (x ≤ y)) = l.map fun x => x.nm.data.toList := by
  rw [mergeSort_of_perm hp]
  refine List.mergeSort_of_pairwise ((names_up h).imp fun {a b} hab => ?_)
  rw [decide_eq_true_iff]
  exact List.le_of_lt hab
/-- From address A on there lie the texts xs, below the heap's end. -/
def Strs (w : World) (A : Option Addr) (xs : List ByteArray) : Prop :=
  0 < xs.length → ∃ b off, A = some ⟨b, off, none⟩ ∧ b < w.heap.size ∧ ∀ k x, xs[k]? = some x → w.cell? ⟨b, off + k, none⟩ = some (.string x)
theorem Strs.below {w w' : World} {A : Option Addr} {xs : List ByteArray} (h : Strs w A xs) (hb : Below w.heap.size w w') : Strs w' A xs := fun hn => by
  obtain ⟨b, off, e, hlt, hc⟩ := h hn
  exact ⟨b, off, e, Nat.lt_of_lt_of_le hlt hb.size, fun k x hk => (hb.cell (p := ⟨b, off + k, none⟩) hlt).trans (hc k x hk)⟩
theorem Strs.at_ {w : World} {A : Option Addr} {xs : List ByteArray} (h : Strs w A xs) {k : Nat} {x : ByteArray} (hk : xs[k]? = some x) : ∃ b off, A = some ⟨b, off, none⟩ ∧ b < w.heap.size ∧ w.cell? ⟨b, off + k, none⟩ = some (.string x) := by
  have hl : 0 < xs.length := by
    rcases Nat.eq_zero_or_pos xs.length with h0 | h0
    · rw [List.eq_nil_of_length_eq_zero h0] at hk; simp at hk
    · exact h0
  obtain ⟨b, off, e, hlt, hc⟩ := h hl
  exact ⟨b, off, e, hlt, hc k x hk⟩
theorem Strs.of_own {w : World} {base : Nat} {e : TypeId} {A : Option Addr} {n c : Nat} {xs : List ByteArray} (h : w.ownsRow base e 1 (.slice A n c) n (xs.map Value.string)) : Strs w A xs := by
  intro hn
  have hl : xs.length = n := by have := h.1; rw [List.length_map] at this; omega
  rcases h.2 with ⟨_, h0⟩ | ⟨g, cap, cur, hv, _, hh, _⟩
  · omega
  · injection hv with hA _ hc
    subst hA hc
    refine ⟨g, 0, rfl, ?_, fun k x hk => ?_⟩
    · rcases Nat.lt_or_ge g w.heap.size with h1 | h1
      · exact h1
      · rw [Array.getElem?_eq_none h1] at hh; cases hh
    · have hkn : k < n := by
        rcases Nat.lt_or_ge k n with h1 | h1
        · exact h1
        · rw [List.getElem?_eq_none (by omega)] at hk; cases hk
      have := h.cellAt k (by omega)
      rw [Nat.zero_add, this, List.getElem?_map, hk]; rfl
/-- The names of the files. -/
def nms (l : List Fl) : List ByteArray := l.map (·.nm)
/-- What Names answers. -/
def NamesP (w : World) (l : List Fl) (e : Ending) (w' : World) : Prop := ∃ A c, e = .returned (.slice A l.length c) ∧ l.length ≤ c ∧ Strs w' A (nms l) ∧ Below w.heap.size w w' ∧ (0 < l.length → ∀ b off, A = some ⟨b, off, none⟩ → w.heap.size ≤ b)
theorem keys_call (mb : Option Nat) (W : World) : Calls Try.prog 45 #[.map mb] W fun e w' => e = .returned (.func (.func 53) #[] #[.pointer (some ⟨W.heap.size, 0, none⟩)]) ∧ w' = W.alloc (.cells #[.map mb] 57) :=
  callsIn_wide.1 (AnyZ.keys_in Try.keys45 Fence.wide 5 trivial rfl mb W)
theorem sorts_call (m : Nat) : AnyZ.SortsIn Try.prog Try.sorted44_ren Fence.wide m :=
  ⟨fun blk off cap ss W hH hblk hsz => callsIn_wide.2 (AnyM.slices_Sort_string Try.sort52 blk off cap ss W hH hblk hsz),
   fun p cap W => callsIn_wide.2 (AnyM.slices_Sort_string_none Try.sort52 p cap W)⟩
theorem length_nms (l : List Fl) : (nms l).length = l.length := List.length_map _
set_option maxHeartbeats 1000000 in
theorem sorted_call (b nn : Nat) (D0 : DataW Unit) (w : World) (hown : w.ownsMap Try.prog 9 ptrElem b nn D0) (hmax : Maps.size D0 ≤ 1000000) :
    Calls Try.prog 44 #[.func (.func 53) #[] #[.pointer (some ⟨w.heap.size, 0, none⟩)]] (w.alloc (.cells #[.map (some b)] 57)) fun e w' => ∃ (v : Value) (ss : List (List UInt8)), e = .returned v ∧ ss.Perm (strKeys D0) ∧
      w'.ownsRow (w.alloc (.cells #[.map (some b)] 57)).heap.size 9 1 v ss.length ((ss.mergeSort (fun x y => decide (x ≤ y))).map encStr) ∧ (v = .slice none 0 0 ↔ ss = []) ∧ Below (w.alloc (.cells #[.map (some b)] 57)).heap.size (w.alloc (.cells #[.map (some b)] 57)) w' := by
  have hbl := hown.lt
  have hseq : SeqGives Fence.wide 2 Try.prog 53 #[.pointer (some ⟨w.heap.size, 0, none⟩)] encStr (fun ss => ss.Perm (strKeys D0)) (Maps.size D0) (w.alloc (.cells #[.map (some b)] 57)) :=
    AnyZ.keys_gives (ρ := Try.keys45_ren) { Try.keys45 with } Fence.wide _ trivial rfl (by omega) w.heap.size b nn D0 _ (by simp) (by simp) (by
      obtain ⟨es, clock, hb, Ft, hs, hD⟩ := hown
      exact ⟨es, clock, (Below.heap_alloc _ _ b hbl).trans hb, Ft, hs, hD⟩)
  exact callsIn_wide.1 (AnyZ.sorted_in Try.sorted44 Fence.wide 5 trivial trivial trivial trivial rfl (by omega) (sorts_call _) (enters_of Try.func52 (by kernel_rfl) rfl) 53 #[.pointer (some ⟨w.heap.size, 0, none⟩)] trivial (enters_of Try.func53 (by kernel_rfl) rfl) _ _ (by unfold maxLen; omega) (by omega) _ hseq)
set_option maxRecDepth 100000 in
theorem keys_names {w : World} {b : Nat} {l : List Fl} {D : DataW Unit} (hu : Up l) (hD : w.ownsMap Try.prog 9 ptrElem b l.length D) (hm : ∀ s : ByteArray, has D (kl s) = (find s l).isSome) : (l.map fun x => x.nm.data.toList).Perm (strKeys D) := by
  obtain ⟨es, rfl, hk⟩ := hD.keysOf
  obtain ⟨es', e, hp⟩ := hD.tidy law
  injection e with e
  subst e
  refine perm_strKeys hp (fun p hp' => ?_) ?_ (fun x => ?_)
  · obtain ⟨key, hkey⟩ := hk p hp'
    obtain ⟨x, _, hx, _⟩ := keyOf_str Try.underlying9 hkey
    exact ⟨x, hx⟩
  · exact (names_up hu).imp fun {a b} hab e => by subst e; exact absurd hab (List.lt_irrefl _)
  · have := hm ⟨x.toArray⟩
    unfold kl at this
    rw [this, Option.isSome_iff_exists, List.mem_map]
    constructor
    · rintro ⟨f, hf, rfl⟩
      exact ⟨f, find_of_mem hu hf⟩
    · rintro ⟨f, hf⟩
      obtain ⟨h1, h2⟩ := find_mem hf
      exact ⟨f, h1, by rw [h2]⟩
theorem enc_names (l : List Fl) : (l.map fun x => x.nm.data.toList).map encStr = (nms l).map Value.string := by
  unfold nms
  rw [List.map_map, List.map_map]
  exact List.map_congr_left fun x _ => rfl
set_option maxHeartbeats 1000000 in
theorem names_any {S : Nat → Prop} (g : Nat) (d : DS) (w : World) (h : Dk S w g d) (hn : d.l.length ≤ 1000000) :
    Calls Try.prog 26 #[.pointer (some ⟨g, 0, none⟩)] w (NamesP w d.l) := by
  obtain ⟨b, lf, loc, h⟩ := h
  have c1 : w.cell? ⟨g, 1, none⟩ = some (.map (some b)) := h.row.cell 1
  obtain ⟨D, hD, hz, hm⟩ := h.map
  have hp := keys_names h.ok.up hD (fun s => (hm s).1)
  have FIN := hide (show ∀ ss : List (List UInt8), ss.Perm (strKeys D) → ss.length = d.l.length ∧ (ss.mergeSort (fun x y => decide (x ≤ y))).map encStr = (nms d.l).map Value.string from fun ss hs => by
    have h1 := hs.trans hp.symm
    refine ⟨by rw [h1.length_eq, List.length_map], ?_⟩
    rw [sorted_names h.ok.up h1, enc_names])
  have HS := hide (sorted_call b d.l.length D w hD (by rw [hz]; exact hn))
  have HK := hide (keys_call (some b) w)
  clear hp hm hz hD h
  go_enter Try.func26, Try.ntmps26
  go_wp2_with (first
    | (go_at_call 45; refine HK.out.mono ?_; rintro e w' ⟨rfl, rfl⟩)
    | (go_at_call 44; refine HS.out.mono ?_; rintro e w2 ⟨v, ss, rfl, hS, hrow, hnil, hb⟩))
  obtain ⟨hl, hs⟩ := FIN.out ss hS
  have hb2 : Below w.heap.size w w2 := kept_trans (kept_alloc (kept_refl w) _) hb
  rw [hs, hl] at hrow
  obtain ⟨A, c, rfl, _⟩ := own_shape hrow
  go_ret
  refine ⟨A, c, rfl, ?_, Strs.of_own hrow, hb2, fun _ b2 off e => ?_⟩
  · rcases hrow.2 with ⟨hv, h0⟩ | ⟨q, cap, cur, hv, _, _, hc, _⟩
    · omega
    · injection hv with _ _ h3; rw [h3]; exact hc
  · have := (hrow.lt b2 (by rw [e]; rfl)).1
    simp at this
    omega
end Go.Proofs.Ytllgjbkmemheoaa
