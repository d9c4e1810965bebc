/- slices.Sorted at numbers; whether numbers are all issues once, in the program and in the model. -/
import Derived.Test.YtccemllgglfgkaaSeqI
import Derived.Test.YtccemllgglfgkaaSrt
import Derived.Test.YtccemllgglfgkaaShelf
import Derived.Test.YtccemllgglfgkaaHas
import Derived.Test.YtccemllgglfgkaaLaws
namespace Go.Proofs.Ytccemllgglfgkaa
open Go.RowKit Go.Joins Go.Sort

theorem sorted_any (B : Nat) (a : Option Addr) (cap : Nat) (zs : List Int) (w : World) (hB : B < w.heap.size) (hc : w.cell? ⟨B, 0, none⟩ = some (.slice a zs.length cap)) (hi : Ints w a zs) (hn : zs.length ≤ 1048576) (hpos : 0 < zs.length) :
    Calls Try.prog 117 #[.func (.func 143) #[] #[.pointer (some ⟨B, 0, none⟩)]] w (Gives (srt zs) w) := by
  have H := hide (collect_any B a cap zs w hB hc hi hn)
  clear hB hc hi
  go_enter Try.func117, Try.ntmps117
  go_wp2_with fail
  refine H.out.mono ?_
  rintro e w1 ⟨v, rfl, ov, hb⟩
  have ov' : w1.ownsRow w.heap.size 3 1 v zs.length (zs.map (Value.int .i64)) := ov
  rcases ov'.2 with ⟨_, h0⟩ | ⟨g, cv, cur, rfl, hg, hblk, h1, h2, h3, h4⟩
  · omega
  have HH := hide (holds_of_blockI (ss := zs) hblk (by rw [Nat.mul_one] at h4; exact h4))
  have hlt := lt_of_block hblk
  have HL := hide hblk
  clear ov ov' hblk
  go_wp2_with fail
  refine (Try.slices_Sort_int g 0 cv zs w1 HH.out hlt (by omega)).mono ?_
  rintro e w2 ⟨rfl, n, os, hw2⟩
  have HO : Hid (w2.ownsRow w.heap.size 3 1 (.slice (some ⟨g, 0, none⟩) zs.length cv) zs.length ((srt zs).map (Value.int .i64))) := by
    rw [hw2]; exact ownsRow_sortedI (base := w.heap.size) (n := n) (os := os) (srt_len zs) hg HL.out h1 h2 h3
  have HG : Hid (w1.grownBy w2 (some g)) := by rw [hw2]; exact grownBy_sortedI _
  clear hw2
  go_wp2
  go_ret
  refine ⟨_, rfl, ?_, hb.grown HG.out hb.size (fun k hk => by cases hk; exact hg)⟩
  unfold Owns
  rw [srt_len]
  exact HO.out

/-- all issues once -/
def OrdOk (n : Int) (ls : List Int) : Prop := (ls.length : Int) = n ∧ (∀ i, i < ls.length → 0 ≤ ls.getD i 0 ∧ ls.getD i 0 ≤ n - 1) ∧ ∀ i, i < ls.length → ∀ k, k < i → ls.getD k 0 ≠ ls.getD i 0
instance (n : Int) (ls : List Int) : Decidable (OrdOk n ls) := by unfold OrdOk; infer_instance
def ordB (n : Int) (ls : List Int) : Bool := decide (OrdOk n ls)
theorem ordB_true {n : Int} {ls : List Int} (h : OrdOk n ls) : ordB n ls = true := decide_eq_true h
theorem ordB_false {n : Int} {ls : List Int} (h : ¬ OrdOk n ls) : ordB n ls = false := decide_eq_false h
theorem ord_of {n : Int} {ls : List Int} (h : ordB n ls = true) : OrdOk n ls := of_decide_eq_true h
/-- strictly ascending numbers from 0 to one less than their number -/
theorem asc_full {d : List Int} (hp : d.Pairwise (· < ·)) (h0 : ∀ x ∈ d, 0 ≤ x ∧ x ≤ (d.length : Int) - 1) : ∀ j, (h : j < d.length) → d[j] = (j : Int) := by
  have lo : ∀ j, (h : j < d.length) → (j : Int) ≤ d[j] := by
    intro j
    induction j with
    | zero => exact fun h => (h0 _ (List.getElem_mem h)).1
    | succ j ih =>
      intro h
      have h1 := ih (by omega)
      have h2 := (List.pairwise_iff_getElem.1 hp) j (j + 1) (by omega) h (by omega)
      omega
  have hi : ∀ t, t < d.length → ∀ (h : d.length - 1 - t < d.length), d[d.length - 1 - t] ≤ ((d.length - 1 - t : Nat) : Int) := by
    intro t
    induction t with
    | zero =>
      intro h1 h
      have := (h0 _ (List.getElem_mem h)).2
      omega
    | succ t ih =>
      intro h1 h
      have h2 := ih (by omega) (by omega)
      have h3 := (List.pairwise_iff_getElem.1 hp) (d.length - 1 - (t + 1)) (d.length - 1 - t) h (by omega) (by omega)
      omega
  intro j h
  have h1 := lo j h
  have h2 := hi (d.length - 1 - j) (by omega) (by omega)
  have e : d.length - 1 - (d.length - 1 - j) = j := by omega
  simp only [e] at h2
  omega
theorem ord_nodup {ls : List Int} (h : ∀ i, i < ls.length → ∀ k, k < i → ls.getD k 0 ≠ ls.getD i 0) : ls.Nodup := by
  rw [List.nodup_iff_pairwise_ne, List.pairwise_iff_getElem]
  intro i j hi hj hij
  have := h j hj i hij
  rwa [getD_lt hi, getD_lt hj] at this
theorem ord_sorted {n : Int} {ls : List Int} (hl : (ls.length : Int) = n) : OrdOk n ls ↔ ∀ j, j < (srt ls).length → (srt ls).getD j 0 = (j : Int) := by
  constructor
  · rintro ⟨_, h1, h2⟩ j hj
    have hnd : (srt ls).Nodup := (srt_perm ls).nodup_iff.2 (ord_nodup h2)
    have hp : (srt ls).Pairwise (· < ·) := by
      rw [List.pairwise_iff_getElem]
      intro a b ha hb hab
      have e1 := (List.pairwise_iff_getElem.1 (srt_sorted ls)) a b ha hb hab
      have e2 := (List.pairwise_iff_getElem.1 (List.nodup_iff_pairwise_ne.1 hnd)) a b ha hb hab
      omega
    rw [getD_lt hj]
    refine asc_full hp (fun x hx => ?_) j hj
    have hx' := (srt_perm ls).mem_iff.1 hx
    obtain ⟨i, hi, rfl⟩ := List.getElem_of_mem hx'
    have := h1 i hi
    rw [getD_lt hi] at this
    rw [srt_len]
    omega
  · intro h
    have hmem : ∀ x ∈ srt ls, ∃ j : Nat, j < ls.length ∧ x = (j : Int) := fun x hx => by
      obtain ⟨j, hj, rfl⟩ := List.getElem_of_mem hx
      have := h j hj
      rw [getD_lt hj] at this
      exact ⟨j, by rw [srt_len] at hj; exact hj, this⟩
    have hnd : ls.Nodup := by
      rw [← (srt_perm ls).nodup_iff, List.nodup_iff_pairwise_ne, List.pairwise_iff_getElem]
      intro i j hi hj hij
      have e1 := h i hi
      have e2 := h j hj
      rw [getD_lt hi] at e1
      rw [getD_lt hj] at e2
      omega
    refine ⟨hl, fun i hi => ?_, fun i hi k hk => ?_⟩
    · rw [getD_lt hi]
      obtain ⟨j, hj, e⟩ := hmem _ ((srt_perm ls).mem_iff.2 (List.getElem_mem hi))
      omega
    · have := (List.pairwise_iff_getElem.1 (List.nodup_iff_pairwise_ne.1 hnd)) k i (by omega) hi hk
      rwa [getD_lt (show k < ls.length by omega), getD_lt hi]

set_option maxHeartbeats 2000000 in
theorem isOrder_any (n : Int) (a : Option Addr) (cap : Nat) (ls : List Int) (w : World) (hi : Ints w a ls) (h1 : 1 ≤ n) (h4 : n ≤ 4) (hm : ls.length ≤ 1048576) :
    Calls Try.prog 78 #[.int .i64 n, .slice a ls.length cap] w fun e w' => e = .returned (.bool (ordB n ls)) ∧ Below w.heap.size w w' := by
  by_cases hl : (ls.length : Int) = n
  · have hpos : 0 < ls.length := by omega
    have hne : ((ls.length : Int) != n) = false := by rw [bne_eq_false_iff_eq]; exact hl
    have HS := hide (ord_sorted hl)
    have hb1 := bel1 w (.cells #[.slice a ls.length cap] 22)
    have HSO := hide (sorted_any w.heap.size a cap ls (w.alloc (.cells #[.slice a ls.length cap] 22)) (by simp) (by simp [go_sem]) (hi.below hb1) hm hpos)
    have hsl : (srt ls).length ≤ 1048576 := by rw [srt_len]; exact hm
    clear hl hi
    go_enter Try.func78, Try.ntmps78
    go_wp2_with ((go_at_call 118; refine (values_any _ _ _ _).mono ?_; rintro e w' ⟨rfl, rfl⟩))
    refine HSO.out.mono ?_
    rintro e w2 ⟨v, rfl, ov, hb2⟩
    have hB := bnext hb1 hb2
    obtain ⟨av, cv, rfl, iv, _⟩ := ov.form
    clear hb1 hb2 ov hne
    go_wp2
    go_loop [15] (fun i => ∃ k : Nat, k ≤ (srt ls).length ∧ i = .int .i64 k ∧ ∀ j, j < k → (srt ls).getD j 0 = (j : Int)) (fun i => (srt ls).length - (intOf i).toNat)
    case atStart => exact ⟨0, Nat.zero_le _, rfl, fun j hj => by omega⟩
    case round =>
      obtain ⟨k, hk, rfl, hall⟩ := hrel
      have HA := hide hall
      clear hall
      by_cases hlt : k < (srt ls).length
      · obtain ⟨b, off, rfl, hbl, hc⟩ := iv (by omega)
        have hck := hc k hlt
        by_cases he : (srt ls).getD k 0 = (k : Int)
        · have HE := hide he
          rw [he] at hck
          clear hc iv he
          go_wp2
          go_round
          case rel => exact ⟨k + 1, by omega, by go_num, fun j hj => by
            rcases Nat.lt_or_ge j k with h | h
            · exact HA.out j h
            · obtain rfl : j = k := by omega
              exact HE.out⟩
          case measure => simp only [intOf]; omega
        · have hE : ((srt ls).getD k 0 != (k : Int)) = true := by rw [bne_iff_ne]; exact he
          have HN : Hid (ordB n ls = false) := ordB_false (fun h => he (HS.out.1 h k hlt))
          obtain ⟨x, hx⟩ : ∃ x, (srt ls).getD k 0 = x := ⟨_, rfl⟩
          rw [hx] at hck hE
          clear hc iv he hx
          go_wp2
          go_ret
          exact ⟨ret_bool HN.out.symm, hB⟩
      · obtain rfl : k = (srt ls).length := by omega
        have HN : Hid (ordB n ls = true) := ordB_true (HS.out.2 HA.out)
        go_wp2
        go_ret
        exact ⟨ret_bool HN.out.symm, hB⟩
  · have hne : ((ls.length : Int) != n) = true := by rw [bne_iff_ne]; exact hl
    have HN := hide (ordB_false (fun h : OrdOk n ls => hl h.1))
    clear hl
    go_enter Try.func78, Try.ntmps78
    go_wp2
    go_ret
    exact ⟨ret_bool HN.out.symm, Below.refl _ _⟩
end Go.Proofs.Ytccemllgglfgkaa
