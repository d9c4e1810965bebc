/- The program's order of the issues, the clearest first. -/
import Derived.Test.YtccemllgglfgkaaRankI
import Derived.Deep.RegionHeld3
namespace Go.Proofs.Ytccemllgglfgkaa
open Go.RowKit Go.Joins

theorem own_whole {w : World} {base g n : Nat} {zs : List Int} (h : w.ownsRow base 3 1 (.slice (some ⟨g, 0, none⟩) n n) n (zs.map (Value.int .i64))) : w.heap[g]? = some (.cells (zs.map (Value.int .i64)).toArray 3 (0, 0)) := by
  rcases h.2 with ⟨h0, _⟩ | ⟨g', cap', cur, hv, _, hb, _, _, hs, ht⟩
  · cases h0
  · cases hv
    rw [hb]
    have e : cur = (zs.map (Value.int .i64)).toArray := by
      apply Array.ext'
      rw [List.toList_toArray, ← ht]
      rw [List.take_of_length_le]
      simp [hs]
    rw [e]
theorem own_back {w : World} {base g n : Nat} {zs : List Int} (hg : w.heap[g]? = some (.cells (zs.map (Value.int .i64)).toArray 3 (0, 0))) (hl : zs.length = n) (hb : base ≤ g) (hm : n ≤ maxLen) : Owns w base (.slice (some ⟨g, 0, none⟩) n n) zs := by
  refine ⟨by simp, .inr ⟨g, n, _, by rw [hl], hb, hg, by omega, hm, by simp [hl], by rw [List.take_of_length_le (by simp)]⟩⟩
/-- the numbers below m, and of them the first k laid, zeros behind -/
def upto (m : Nat) : List Int := (List.range m).map fun t : Nat => (t : Int)
def uptoK (m k : Nat) : List Int := (List.range m).map fun t : Nat => if t < k then (t : Int) else 0
theorem upto_len (m : Nat) : (upto m).length = m := by simp [upto]
theorem uptoK_len (m k : Nat) : (uptoK m k).length = m := by simp [uptoK]
theorem uptoK_zero (m : Nat) : uptoK m 0 = List.replicate m 0 := by
  unfold uptoK
  rw [List.eq_replicate_iff]
  refine ⟨by simp, fun b hb => ?_⟩
  simp at hb
  exact hb.2.symm
theorem uptoK_all (m : Nat) : uptoK m m = upto m := by
  unfold uptoK upto
  exact List.map_congr_left fun t ht => if_pos (by simpa using ht)
theorem uptoK_set (m k : Nat) (h : k < m) : (uptoK m k).set k (k : Int) = uptoK m (k + 1) := by
  refine ints_ext (by simp [uptoK]) fun t ht => ?_
  have ht' : t < m := by simpa [uptoK] using ht
  rw [List.getD_eq_getElem?_getD, List.getD_eq_getElem?_getD]
  by_cases e : k = t
  · subst e
    rw [List.getElem?_set_self (by rw [uptoK_len]; exact h)]
    simp [uptoK, ht']
  · rw [List.getElem?_set_ne e]
    simp only [uptoK, List.getElem?_map, List.getElem?_range ht', Option.map_some, Option.getD_some]
    by_cases h1 : t < k
    · rw [if_pos h1, if_pos (by omega)]
    · rw [if_neg h1, if_neg (by omega)]
theorem upto_mem {m : Nat} {x : Int} (h : x ∈ upto m) : ∃ i : Nat, x = (i : Int) ∧ i < m := by
  simp [upto] at h
  obtain ⟨i, hi, rfl⟩ := h
  exact ⟨i, rfl, hi⟩
/-- the issues, the clearest first -/
def clearL (n : Int) (ss : List Int) : List Int := insK (leadV n ss) (upto ss.length) (ss.length - 1)
theorem clearL_len (n : Int) (ss : List Int) : (clearL n ss).length = ss.length := by unfold clearL; rw [insK_len, upto_len]

set_option maxHeartbeats 4000000 in
set_option maxRecDepth 100000 in
theorem clearestFirst_any (n : Int) (a : Option Addr) (cap : Nat) (ss : List Int) (w : World) (hi : Ints w a ss) (h1 : 0 < ss.length) (h4 : ss.length ≤ 4) (hn : 0 ≤ n ∧ n ≤ 5) (hs : ∀ x ∈ ss, 0 ≤ x ∧ x ≤ n) :
    Calls Try.prog 84 #[.slice a ss.length cap, .int .i64 n] w (Gives (clearL n ss) w) := by
  obtain ⟨i0, hi0, hz0, hz1, hz2⟩ := info_parts info_int
  obtain ⟨m, hm⟩ : ∃ m, ss.length = m := ⟨_, rfl⟩
  have HI : Hid (∀ (wr : World) (B7 i j : Nat), Below (w.heap.size + 2) ((w.alloc (.cells #[.slice a ss.length cap] 22)).alloc (.cells #[.int .i64 n] 3)) wr → i < ss.length → j < ss.length → wr.cell? ⟨B7, 0, none⟩ = some (.func (.func 125) #[] #[.pointer (some ⟨w.heap.size, 0, none⟩), .pointer (some ⟨w.heap.size + 1, 0, none⟩)]) → Calls Try.prog 127 #[.int .i64 (i : Int), .int .i64 (j : Int), .pointer (some ⟨B7, 0, none⟩)] wr fun e w' => e = .returned (.int .i64 (leadV n ss (j : Int) - leadV n ss (i : Int))) ∧ ∃ m, w' = wr.drewN m) := by
    intro wr B7 i j hb hi' hj h7
    have k0 : ((w.alloc (.cells #[.slice a ss.length cap] 22)).alloc (.cells #[.int .i64 n] 3)).heap[w.heap.size]? = some (.cells #[.slice a ss.length cap] 22 (0, 0)) := by
      rw [(bel1 (w.alloc (.cells #[.slice a ss.length cap] 22)) (.cells #[.int .i64 n] 3)).block _ (lt_of_block (heap_alloc_new _ _))]
      exact heap_alloc_new _ _
    have k1 : ((w.alloc (.cells #[.slice a ss.length cap] 22)).alloc (.cells #[.int .i64 n] 3)).heap[w.heap.size + 1]? = some (.cells #[.int .i64 n] 3 (0, 0)) := by
      have := heap_alloc_new (w.alloc (.cells #[.slice a ss.length cap] 22)) (.cells #[.int .i64 n] 3)
      rwa [show (w.alloc (.cells #[.slice a ss.length cap] 22)).heap.size = w.heap.size + 1 from by simp] at this
    have e0 := (hb.block _ (by omega)).trans k0
    have e1 := (hb.block _ (by omega)).trans k1
    have ii : Ints wr a ss := by
      have b2 := bnext (bel1 w (.cells #[.slice a ss.length cap] 22)) (bel1 _ (.cells #[.int .i64 n] 3))
      exact (hi.below b2).below ⟨hb.os, hb.tape, hb.output, hb.size, fun k hk => hb.block k (by rw [show ((w.alloc (.cells #[.slice a ss.length cap] 22)).alloc (.cells #[.int .i64 n] 3)).heap.size = w.heap.size + 2 from by simp] at hk; exact hk)⟩
    exact cmp_any n ss a cap _ _ B7 i j wr hi' hj hn hs ii (cell_of_block e0 0) (cell_of_block e1 0) h7
  have HB : Hid (∀ x ∈ upto ss.length, 0 ≤ leadV n ss x ∧ leadV n ss x ≤ 16) := by
    intro x hx
    obtain ⟨i, rfl, hi'⟩ := upto_mem hx
    have := leadV_le hs (i : Int) (by rw [Int.toNat_natCast]; exact hi')
    omega
  have HW := hide (bnext (bel1 w (.cells #[.slice a ss.length cap] 22)) (bel1 _ (.cells #[.int .i64 n] 3)))
  have HC : Hid ((w.alloc (.cells #[.slice a ss.length cap] 22)).cell? ⟨w.heap.size, 0, none⟩ = some (.slice a ss.length cap)) := cell_of_block (heap_alloc_new _ _) 0
  have HL : Hid (clearL n ss = insK (leadV n ss) (upto ss.length) (ss.length - 1)) := rfl
  obtain ⟨L, hL⟩ : ∃ L, clearL n ss = L := ⟨_, rfl⟩
  obtain ⟨f, hf⟩ : ∃ f, leadV n ss = f := ⟨_, rfl⟩
  rw [hL, hf] at HL
  rw [hL]
  rw [hf] at HI HB
  rw [hm] at HI HB HW HC HL ⊢
  clear hL hf hi hs
  obtain ⟨c1, hc1⟩ : ∃ c1, w.alloc (.cells #[.slice a m cap] 22) = c1 := ⟨_, rfl⟩
  obtain ⟨wo, hwo⟩ : ∃ wo, c1.alloc (.cells #[.int .i64 n] 3) = wo := ⟨_, rfl⟩
  have hsz : wo.heap.size = w.heap.size + 2 := by rw [← hwo, ← hc1]; simp
  have hsz1 : c1.heap.size = w.heap.size + 1 := by rw [← hc1]; simp
  have hx : wo.cell? ⟨w.heap.size, 0, none⟩ = some (.slice a m cap) := by
    rw [← hwo, ← hc1]
    exact cell_of_block ((bel1 (w.alloc (.cells #[.slice a m cap] 22)) (.cells #[.int .i64 n] 3)).block _ (lt_of_block (heap_alloc_new _ _)) |>.trans (heap_alloc_new _ _)) 0
  rw [hc1, hwo] at HI HW
  obtain ⟨g, hg⟩ : ∃ g, wo.heap.size = g := ⟨_, rfl⟩
  have HSZ : Hid (g = w.heap.size + 2) := hg.symm.trans hsz
  clear HC hsz
  go_enter Try.func84, Try.ntmps84
  go_wp2_with (at_make; refine wpList_make_full _ rfl _ _ 22 rfl g 3 i0 (.int .i64 0) 1 Try.underlying22 hi0 hz0 hz1 _ _ _ _ m rfl rfl (by omega) (by omega) ?b2 ?b3 (Nat.le_of_eq hg.symm) ?_)
  case b2 => rw [hz2]; omega
  case b3 => unfold maxLen; omega
  intro w0 hown0 hgrow0
  rw [madeInts] at hown0
  have hb0 : Below wo.heap.size wo w0 := (Below.refl _ _).grown hgrow0 (Nat.le_refl _) (fun k h => by cases h)
  clear hgrow0
  try rw [hg] at hown0
  rw [hg] at hb0
  go_wp2
  clear hc1 hwo hx
  go_loopw [13] (fun i wr => ∃ k : Nat, k ≤ m ∧ i = .int .i64 k ∧ wr.ownsRow g 3 1 (.slice (some ⟨g, 0, none⟩) m m) m ((uptoK m k).map (Value.int .i64)) ∧ Below g wo wr) (fun i _ => m - (intOf i).toNat)
  case atStart => exact ⟨0, Nat.zero_le _, rfl, by rw [uptoK_zero]; exact hown0, hb0⟩
  case round =>
    clear hown0 hb0
    obtain ⟨k, hk, rfl, hown, BR⟩ := hrel
    by_cases hlt : k < m
    · have hfz := hown.frozenAt k
      have hst := hown.cellAt k (by omega)
      rw [List.getElem?_map, List.getElem?_eq_getElem (by rw [uptoK_len]; exact hlt), Option.map_some] at hst
      have HM := hide (uptoK_set m k hlt)
      go_wp2
      go_roundw
      case rel => exact ⟨k + 1, by omega, by go_num, by rw [← HM.out, List.map_set]; exact (hown.stored k _).1, BR.setCell (p := ⟨g, k, none⟩) (Nat.le_refl _) _⟩
      case measure => simp [intOf]; omega
    · obtain rfl : k = m := by omega
      rw [uptoK_all] at hown
      have hgl := lt_of_block (own_whole hown)
      have hK := ((bel1 wr (.cells #[.func (.func 125) #[] #[.pointer (some ⟨w.heap.size, 0, none⟩), .pointer (some ⟨w.heap.size + 1, 0, none⟩)]] 94)).block _ hgl).trans (own_whole hown)
      have hB7 := heap_alloc_new wr (.cells #[.func (.func 125) #[] #[.pointer (some ⟨w.heap.size, 0, none⟩), .pointer (some ⟨w.heap.size + 1, 0, none⟩)]] 94)
      have hBB := BR.alloc (Nat.le_of_lt hgl) (.cells #[.func (.func 125) #[] #[.pointer (some ⟨w.heap.size, 0, none⟩), .pointer (some ⟨w.heap.size + 1, 0, none⟩)]] 94)
      obtain ⟨wB, hwB⟩ : ∃ wB, wr.alloc (.cells #[.func (.func 125) #[] #[.pointer (some ⟨w.heap.size, 0, none⟩), .pointer (some ⟨w.heap.size + 1, 0, none⟩)]] 94) = wB := ⟨_, rfl⟩
      obtain ⟨B7, hB7e⟩ : ∃ B7, wr.heap.size = B7 := ⟨_, rfl⟩
      rw [hwB] at hK hB7 hBB
      rw [hB7e] at hB7 hgl
      have HK := hide hK
      have HBB := hide hBB
      have HB7 := hide hB7
      have HGL := hide hgl
      obtain ⟨l, hl⟩ : ∃ l, upto k = l := ⟨_, rfl⟩
      have hll : l.length = k := by rw [← hl, upto_len]
      have HM : Hid (∀ x ∈ l, ∃ i : Nat, x = (i : Int) ∧ i < k) := by intro x hx; rw [← hl] at hx; exact upto_mem hx
      rw [hl] at HK HB HL
      have HX : Hid (Calls Try.prog 126 #[.slice (some ⟨g, 0, none⟩) k k, .func (.func 127) #[] #[.pointer (some ⟨B7, 0, none⟩)]] wB
          fun e w' => e = .returned (.tuple #[]) ∧ w'.heap[g]? = some (.cells (L.map (Value.int .i64)).toArray 3 (0, 0)) ∧ wB.grownBy w' (some g)) := by
        have h := stable_any f g k B7 l wB HK.out (by omega) (by omega) (by
          intro x y w' hx hy hg'
          obtain ⟨i, rfl, hi⟩ := HM.out x hx
          obtain ⟨j, rfl, hj⟩ := HM.out y hy
          refine HI.out w' B7 i j ?_ hi hj (cell_of_block ((hg'.block B7 (lt_of_block HB7.out) (fun e => by have := Option.some.inj e; have := HGL.out; omega)).trans HB7.out) 0)
          rw [← HSZ.out]
          exact HBB.out.grown hg' (Nat.le_of_lt (lt_of_block HK.out)) (fun q hq => by cases hq; exact Nat.le_refl _)) HB.out
        rw [hll, ← HL.out] at h
        exact h
      have HLL : Hid (L.length = k) := by rw [HL.out]; exact (insK_len _ _ _).trans hll
      clear hl hown BR hll hK hBB hB7 hgl
      go_wp2_with fail
      refine HX.out.mono ?_
      rintro e w1 ⟨rfl, hb1, hg1⟩
      have HB1 := hide hb1
      have HG1 := hide hg1
      clear hb1 hg1
      go_wp2
      go_ret
      have hgw : w.heap.size ≤ g := by have := HSZ.out; omega
      refine ⟨_, rfl, own_back HB1.out HLL.out hgw (by unfold maxLen; omega), ?_⟩
      exact (HW.out.trans (HBB.out.mono hgw)).grown HG1.out (Nat.le_trans hgw (Nat.le_of_lt (lt_of_block HK.out))) (fun q hq => by cases hq; exact hgw)
end Go.Proofs.Ytccemllgglfgkaa
